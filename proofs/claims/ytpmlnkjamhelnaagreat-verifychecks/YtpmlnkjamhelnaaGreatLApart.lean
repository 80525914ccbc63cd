/- The law CodeApart. -/
import Derived.Test.YtpmlnkjamhelnaaGreatCK
import Derived.Test.YtpmlnkjamhelnaaGreatRF
import Derived.Test.YtpmlnkjamhelnaaGreatCB
namespace Go.Proofs.YtpmlnkjamhelnaaGreat
open Go.RowKit
end Go.Proofs.YtpmlnkjamhelnaaGreat
