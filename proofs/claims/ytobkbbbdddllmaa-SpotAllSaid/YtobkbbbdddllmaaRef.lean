/- The reference's functions on numbers: what each call answers. -/
import Derived.Test.YtobkbbbdddllmaaRows
import Derived.Test.YtobkbbbdddllmaaZigM
import Derived.WalkKit
import Derived.WalkSpells
import Derived.WalkLawsBesides
import Derived.Handy
import Derived.Lib.Hide
namespace Go.Proofs.Ytobkbbbdddllmaa
open Go.RowKit

theorem ret_int {k : IntKind} {a b : Int} (h : a = b) : Ending.returned (.int k a) = .returned (.int k b) := by rw [h]
end Go.Proofs.Ytobkbbbdddllmaa
