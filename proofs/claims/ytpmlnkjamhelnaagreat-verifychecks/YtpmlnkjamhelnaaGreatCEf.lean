/- code.sameFunc, slices.EqualFunc, code.Same of any two scripts. -/
import Derived.Test.YtpmlnkjamhelnaaGreatTE
namespace Go.Proofs.YtpmlnkjamhelnaaGreat
open Go.RowKit
end Go.Proofs.YtpmlnkjamhelnaaGreat
