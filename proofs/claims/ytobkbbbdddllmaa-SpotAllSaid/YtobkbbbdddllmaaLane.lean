/- Package lane: what each call answers. -/
import Derived.Test.YtobkbbbdddllmaaLaneM
namespace Go.Proofs.Ytobkbbbdddllmaa
open Go.RowKit

theorem wrap_pow {d : Nat} (h : d ≤ 8) : wrap64 ((2 : Int) ^ d) = ((2 ^ d : Nat) : Int) := by
  have : ∀ d : Fin 9, wrap64 ((2 : Int) ^ d.val) = ((2 ^ d.val : Nat) : Int) := by decide +kernel
  exact this ⟨d, by omega⟩
theorem wrap_all {d : Nat} (h : d ≤ 8) : wrap64 (wrap64 ((2 : Int) ^ d) - 1) = ((2 ^ d - 1 : Nat) : Int) := by
  have : ∀ d : Fin 9, wrap64 (wrap64 ((2 : Int) ^ d.val) - 1) = ((2 ^ d.val - 1 : Nat) : Int) := by decide +kernel
  exact this ⟨d, by omega⟩
theorem spotFrom_none (l : List Nat) (d : Int) (k : Nat) (h : ∀ x ∈ l, (x : Int) ≠ d) : spotFrom l d k = -1 := by
  induction l generalizing k with
  | nil => rfl
  | cons x l ih =>
    rw [spotFrom, if_neg (h x (by simp))]
    exact ih _ fun y hy => h y (by simp [hy])
theorem diesK_lt (m k : Nat) : ∀ x ∈ diesK m k, x < k := fun _ hx => List.mem_range.1 (List.mem_filter.1 hx).1
end Go.Proofs.Ytobkbbbdddllmaa
