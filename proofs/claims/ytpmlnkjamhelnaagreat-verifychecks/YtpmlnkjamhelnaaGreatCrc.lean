/- Plain facts: the sum bit by bit is the sum by the table of sixteen. -/
import Derived.Test.YtpmlnkjamhelnaaGreatPlain
namespace Go.Proofs.YtpmlnkjamhelnaaGreat
open Go.RowKit
def s1 (c:Nat):Nat:=if c % 2=1 then c / 2 ^^^ 3988292384 else c / 2
def s4 (c:Nat):Nat:=s1 (s1 (s1 (s1 c)))
end Go.Proofs.YtpmlnkjamhelnaaGreat
