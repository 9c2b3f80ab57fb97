/- The reference's Sum. -/
import Derived.Test.YticpjkbcchghjaaRefS
namespace Go.Proofs.Yticpjkbcchghjaa
open Go.RowKit

attribute [local irreducible] M.stepL

def sumL (bs : List Nat) : Nat := bs.foldl M.stepL 4294967295
theorem stepL_lt (s x : Nat) : M.stepL s x < 4294967296 := by
  rw [M.stepL_def]
  have h := M.num_lt (M.roundsL 8 (M.mixK (M.bitsOf s 32) (M.bitsOf x 8) 8))
  rw [M.roundsL_length _ _ (by rw [M.mixK_length, M.bitsOf_length])] at h
  exact h
theorem foldl_bound (f : Nat → Nat → Nat) (N : Nat) (hf : ∀ s x, f s x < N) (bs : List Nat) (s : Nat) (hs : s < N) : bs.foldl f s < N := by
  induction bs generalizing s with
  | nil => exact hs
  | cons b bs ih => rw [List.foldl_cons]; exact ih _ (hf s b)
theorem sumL_lt (bs : List Nat) : sumL bs < 4294967296 := foldl_bound M.stepL 4294967296 stepL_lt bs 4294967295 (by omega)
theorem sumL_snoc (bs : List Nat) (x : Nat) : sumL (bs ++ [x]) = M.stepL (sumL bs) x := by unfold sumL; rw [List.foldl_append]; rfl

end Go.Proofs.Yticpjkbcchghjaa
