/- What the guard asks of koop and lane: single calls. -/
import Derived.Test.YticpjkbcchghjaaBitsG
import Derived.Test.YticpjkbcchghjaaZig
import Derived.Test.YticpjkbcchghjaaKoop
import Derived.Test.YticpjkbcchghjaaLane
namespace Go.Proofs.Yticpjkbcchghjaa
open Go.RowKit

theorem g_kof (w : World) : Calls Try.prog 88 #[.slice none 0 0] w fun e w' => e = .returned (.int .u32 4294967295) ∧ w = w' := by
  have h := kof_any [] 0 none 0 w rfl (by omega) (fun x hx => by simp at hx) (fun i x hx => by simp [u8s] at hx)
  rwa [show (((M.sumV 0xffffffff#32 []).toNat : Nat) : Int) = 4294967295 from by decide] at h
theorem g_kstep (w : World) : Calls Try.prog 89 #[.int .u32 0, .int .u8 128] w fun e w' => e = .returned (.int .u32 1394846057) ∧ w = w' := by
  have h := kstep_any 0#32 128 w (by omega)
  rwa [show (((M.stepV 0#32 128).toNat : Nat) : Int) = 1394846057 from by decide +kernel] at h
theorem g_all (w : World) : Calls Try.prog 69 #[.int .i64 3] w fun e w' => e = .returned (.int .i64 7) ∧ w = w' := all_yes 3 w (by omega)
theorem g_at (w : World) : Calls Try.prog 48 #[.int .i64 6, .int .i64 0] w fun e w' => e = .returned (.int .i64 1) ∧ w = w' := by
  have h := at_yes 6 0 w (by omega) (by decide +kernel)
  rwa [show M.atN 6 0 = 1 from by decide +kernel] at h
theorem g_spot (w : World) : Calls Try.prog 51 #[.int .i64 6, .int .i64 2] w fun e w' => e = .returned (.int .i64 1) ∧ w = w' := by
  have h := spot_any 6 2 w
  rwa [show spotS 6 2 = 1 from by decide +kernel] at h
theorem g_count (w : World) : Calls Try.prog 47 #[.int .i64 6] w fun e w' => e = .returned (.int .i64 2) ∧ w = w' := by
  have h := count_yes 6 w (by omega)
  rwa [show M.popN 6 = 2 from by decide +kernel] at h
end Go.Proofs.Yticpjkbcchghjaa
