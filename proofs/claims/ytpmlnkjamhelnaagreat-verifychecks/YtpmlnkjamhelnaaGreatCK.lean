/- The law's knows: Put, Right and Same of the script of one empty function. -/
import Derived.Test.YtpmlnkjamhelnaaGreatWI
import Derived.Test.YtpmlnkjamhelnaaGreatCEg
namespace Go.Proofs.YtpmlnkjamhelnaaGreat
open Go.RowKit
end Go.Proofs.YtpmlnkjamhelnaaGreat
