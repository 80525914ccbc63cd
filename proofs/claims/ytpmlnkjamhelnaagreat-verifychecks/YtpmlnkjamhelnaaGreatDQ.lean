/- A row of bytes that grows while other rows are made. -/
import Derived.Test.YtpmlnkjamhelnaaGreatDP
namespace Go.Proofs.YtpmlnkjamhelnaaGreat
open Go.RowKit
end Go.Proofs.YtpmlnkjamhelnaaGreat
