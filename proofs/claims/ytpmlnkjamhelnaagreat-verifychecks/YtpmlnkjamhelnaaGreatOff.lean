/- Plain facts: append onto a slice that begins within an owned row. -/
import Derived.Test.YtpmlnkjamhelnaaGreatPlain
namespace Go.Proofs.YtpmlnkjamhelnaaGreat
open Go.RowKit
section
variable {P:Program} (w:World)
end
end Go.Proofs.YtpmlnkjamhelnaaGreat
