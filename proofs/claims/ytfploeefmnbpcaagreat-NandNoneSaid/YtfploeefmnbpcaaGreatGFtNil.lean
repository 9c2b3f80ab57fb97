import Derived.Test.YtfploeefmnbpcaaGreatG14
import Derived.Test.YtfploeefmnbpcaaGreatGFlNil
/- No plan. -/
namespace Go.Proofs.YtfploeefmnbpcaaGreat
open Go.RowKit Mp
theorem run_nil (w : World) : Calls Tryz.prog 39 #[.pointer none, .pointer none] w fun e w' => e = .returned (.int .i64 0) ∧ Below w.heap.size w w' := by
  go_enter Tryz.func39, Tryz.ntmps39
  go_wp2_with (first
    | (go_at_call 24; (with_reducible refine (nandN.ops _).mono ?_); rintro e w1 ⟨rfl, hb1⟩)
    | (go_at_call 35; (with_reducible refine (FT.due_nil _ _).mono ?_); rintro e w2 ⟨rfl, hb2⟩))
  refine wp_loop_rounds 1 ?_
  rw [rounds_succ]
  go_wp2
  go_ret
  exact ⟨rfl, hb1.trans (hb2.mono hb1.size)⟩
theorem planN : PlanN where
  due := FT.due_nil
  run := run_nil
  left := FT.left_nil
end Go.Proofs.YtfploeefmnbpcaaGreat
