/- What the document writes: lists of types. -/
import Derived.Test.YtpmlnkjamhelnaaGreatWI
import Derived.Test.YtpmlnkjamhelnaaGreatRW
import Derived.Test.YtpmlnkjamhelnaaGreatORn
namespace Go.Proofs.YtpmlnkjamhelnaaGreat
open Go.RowKit
end Go.Proofs.YtpmlnkjamhelnaaGreat
