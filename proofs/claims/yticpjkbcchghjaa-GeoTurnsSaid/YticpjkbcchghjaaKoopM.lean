/- Plain words of the reference's Step: lists of bits. No Go text here. -/
import Derived.Test.YticpjkbcchghjaaZigM
namespace Go.Proofs.Yticpjkbcchghjaa
namespace M

/-- The first k bits of r are laid over with those of b. -/
def mixK (r b : List Bool) (k : Nat) : List Bool := (List.range r.length).map fun i => if i < k then (r.getD i false != b.getD i false) else r.getD i false
theorem mixK_length (r b : List Bool) (k : Nat) : (mixK r b k).length = r.length := by simp [mixK]
theorem mixK_zero (r b : List Bool) : mixK r b 0 = r := by
  apply List.ext_getElem
  · simp [mixK]
  · intro i h1 h2
    simp [mixK, List.getD, List.getElem?_eq_getElem h2]
theorem mixK_getD (r b : List Bool) (k i : Nat) (h : i < r.length) : (mixK r b k).getD i false = if i < k then (r.getD i false != b.getD i false) else r.getD i false := by
  rw [List.getD, List.getElem?_eq_getElem (by rw [mixK_length]; exact h)]
  simp [mixK]
theorem mixK_set (r b : List Bool) (k : Nat) (_ : k < r.length) : (mixK r b k).set k (r.getD k false != b.getD k false) = mixK r b (k + 1) := by
  apply List.ext_getElem
  · simp [mixK]
  · intro i h1 h2
    rw [List.getElem_set]
    simp only [mixK, List.getElem_map, List.getElem_range]
    by_cases hik : k = i
    · subst hik; simp
    · rw [if_neg hik]
      by_cases hlt : i < k
      · rw [if_pos hlt, if_pos (by omega)]
      · rw [if_neg hlt, if_neg (by omega)]

def polyL : List Bool := bitsOf 1947962583 32
/-- One bit further. -/
def turnL (r : List Bool) : List Bool := r.drop 1 ++ [false]
def roundL (r : List Bool) : List Bool := if r.getD 0 false = true then mixK (turnL r) polyL 32 else turnL r
def roundsL : Nat → List Bool → List Bool
  | 0, r => r
  | k + 1, r => roundL (roundsL k r)
/-- The reference's Step. -/
def stepL (s x : Nat) : Nat := num (roundsL 8 (mixK (bitsOf s 32) (bitsOf x 8) 8))

theorem stepL_def (s x : Nat) : stepL s x = num (roundsL 8 (mixK (bitsOf s 32) (bitsOf x 8) 8)) := rfl
theorem roundsL_zero (r : List Bool) : roundsL 0 r = r := rfl
theorem roundsL_succ (k : Nat) (r : List Bool) : roundsL (k + 1) r = roundL (roundsL k r) := rfl
theorem turnL_length (r : List Bool) (h : r.length = 32) : (turnL r).length = 32 := by simp [turnL, h]
theorem roundL_length (r : List Bool) (h : r.length = 32) : (roundL r).length = 32 := by
  unfold roundL; split
  · rw [mixK_length]; exact turnL_length r h
  · exact turnL_length r h
theorem roundsL_length (k : Nat) (r : List Bool) (h : r.length = 32) : (roundsL k r).length = 32 := by
  induction k with
  | zero => exact h
  | succ k ih => exact roundL_length _ ih

end M
end Go.Proofs.Yticpjkbcchghjaa
