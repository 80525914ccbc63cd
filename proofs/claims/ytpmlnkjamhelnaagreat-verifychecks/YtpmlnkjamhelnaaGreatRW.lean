/- What ref's Writer does. -/
import Derived.Test.YtpmlnkjamhelnaaGreatWW
import Derived.Test.YtpmlnkjamhelnaaGreatWR
import Derived.Test.YtpmlnkjamhelnaaGreatRF
import Derived.Deep.RegionLaw
namespace Go.Proofs.YtpmlnkjamhelnaaGreat
open Go.RowKit
end Go.Proofs.YtpmlnkjamhelnaaGreat
