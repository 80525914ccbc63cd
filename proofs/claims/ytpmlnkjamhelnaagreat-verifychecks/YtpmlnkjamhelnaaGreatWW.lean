/- A Writer's three calls, each in one sentence: what is told, and what is written then. -/
import Derived.Test.YtpmlnkjamhelnaaGreatWI
namespace Go.Proofs.YtpmlnkjamhelnaaGreat
open Go.RowKit
end Go.Proofs.YtpmlnkjamhelnaaGreat
