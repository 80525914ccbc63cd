/- The document's BytesOf of a script that may be. -/
import Derived.Test.YtpmlnkjamhelnaaGreatDQ
import Derived.Test.YtpmlnkjamhelnaaGreatRF
import Derived.Test.YtpmlnkjamhelnaaGreatCTg
import Derived.Test.YtpmlnkjamhelnaaGreatLApart
namespace Go.Proofs.YtpmlnkjamhelnaaGreat
open Go.RowKit
theorem rtakes_s (x:Int)(w:World):Calls Tryz.prog 74 #[.int .i64 x] w fun e w'=>e=.returned (.int .i64 (takesN x))∧Below w.heap.size w w':=by
 rw [← takes_same]
 exact rtakes4 x w
end Go.Proofs.YtpmlnkjamhelnaaGreat
