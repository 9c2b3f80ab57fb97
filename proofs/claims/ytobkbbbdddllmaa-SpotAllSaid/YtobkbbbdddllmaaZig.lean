/- Package zig: what each call answers. -/
import Derived.Test.YtobkbbbdddllmaaRows
import Derived.Test.YtobkbbbdddllmaaZigM
import Derived.WalkKit
import Derived.WalkSpells
import Derived.WalkLawsBesides
import Derived.Handy
import Derived.Lib.Hide
namespace Go.Proofs.Ytobkbbbdddllmaa
open Go.RowKit

/-- An array of eight bytes. -/
def agg8 (b0 b1 b2 b3 b4 b5 b6 b7 : Int) : Value := .agg #[.int .u8 b0, .int .u8 b1, .int .u8 b2, .int .u8 b3, .int .u8 b4, .int .u8 b5, .int .u8 b6, .int .u8 b7]
/-- Eight bytes of n. -/
def bytes8S (n : Int) : Value := agg8 (M.byteS n 0) (M.byteS n 1) (M.byteS n 2) (M.byteS n 3) (M.byteS n 4) (M.byteS n 5) (M.byteS n 6) (M.byteS n 7)

section
variable (b0 b1 b2 b3 b4 b5 b6 b7 : Int)
end

end Go.Proofs.Ytobkbbbdddllmaa
