/- The reference's Step. -/
import Derived.Test.YticpjkbcchghjaaRefO
import Derived.Test.YticpjkbcchghjaaKoopM
import Derived.Deep.LoopGhost
namespace Go.Proofs.Yticpjkbcchghjaa
open Go.RowKit

def bools (l : List Bool) : List Value := l.map Value.bool
theorem bools_at {l : List Bool} {i : Nat} (h : i < l.length) : (bools l)[i]? = some (.bool (l.getD i false)) := by
  unfold bools
  rw [List.getElem?_map, List.getElem?_eq_getElem h]
  simp [List.getD, List.getElem?_eq_getElem h]
theorem bools_set (l : List Bool) (i : Nat) (b : Bool) : (bools l).set i (.bool b) = bools (l.set i b) := by
  unfold bools; rw [List.map_set]
theorem own_cell {w : World} {B n g cap : Nat} {l : List Bool} {i : Nat} (h : w.ownsRow B 4 1 (.slice (some ⟨g, 0, none⟩) n cap) n (bools l)) (hi : i < l.length) :
    w.cell? ⟨g, i, none⟩ = some (.bool (l.getD i false)) := by
  have := h.cells rfl i _ (bools_at hi)
  by_cases h0 : i = 0
  · subst h0; simpa [Addr.add] using this
  · simpa [Addr.add, h0] using this
theorem own_length {w : World} {B n : Nat} {v : Value} {l : List Bool} (h : w.ownsRow B 4 1 v n (bools l)) : l.length = n := by
  have := h.1; simpa [bools] using this
theorem own_free {w : World} {B n g cap i : Nat} {l : List Value} (h : w.ownsRow B 4 1 (.slice (some ⟨g, 0, none⟩) n cap) n l) :
    w.frozen? ⟨g, i, none⟩ = false := by
  rcases h.2 with ⟨h', _⟩ | ⟨g', cap', cur, h', _, hh, r⟩
  · cases h'
  · injection h' with h1; injection h1 with h1; injection h1 with h1 h2; subst h1
    simp [World.frozen?, hh]
theorem own_kept {w : World} {B n g2 j : Nat} {v : Value} {l : List Value} {u : Value} (h : w.ownsRow B 4 1 v n l) (hg : v.ownBlock ≠ some g2) :
    (w.setCell ⟨g2, j, none⟩ u).ownsRow B 4 1 v n l := by
  obtain ⟨h1, h2⟩ := h
  refine ⟨h1, ?_⟩
  rcases h2 with h2 | ⟨g, cap, cur, hv, hg', hh, r⟩
  · exact .inl h2
  · exact .inr ⟨g, cap, cur, hv, hg', by rw [Below.heap_setCell _ _ _ _ (by intro e; apply hg; rw [hv]; exact congrArg some e)]; exact hh, r⟩
theorem own_base {w : World} {B B' n : Nat} {v : Value} {l : List Value} (h : w.ownsRow B' 4 1 v n l) (hB : B ≤ B') : w.ownsRow B 4 1 v n l := by
  obtain ⟨h1, h2⟩ := h
  rcases h2 with h2 | ⟨g, cap, cur, hv, hg', r⟩
  · exact ⟨h1, .inl h2⟩
  · exact ⟨h1, .inr ⟨g, cap, cur, hv, Nat.le_trans hB hg', r⟩⟩
theorem own_drew {w : World} {B n : Nat} {v : Value} {l : List Value} (h : w.ownsRow B 4 1 v n l) : w.drew.ownsRow B 4 1 v n l := h

attribute [local irreducible] M.stepL M.roundsL M.mixK M.turnL

inductive StepRel (B g3 cap3 : Nat) (R0 : List Bool) (w : World) (v j : Value) (wq : World) : Prop
  | mk (k g cap : Nat) (hk : k ≤ 8) (hj : j = .int .i64 k) (hv : v = .slice (some ⟨g, 0, none⟩) 32 cap) (hB : B ≤ g) (hg : g ≠ g3) (hc : 32 ≤ cap) (hm : cap ≤ 9223372036854775807)
    (row : Hid (wq.ownsRow B 4 1 (.slice (some ⟨g, 0, none⟩) 32 cap) 32 (bools (M.roundsL k R0)))) (pol : Hid (wq.ownsRow B 4 1 (.slice (some ⟨g3, 0, none⟩) 32 cap3) 32 (bools M.polyL))) (bel : Hid (Below B w wq))

end Go.Proofs.Yticpjkbcchghjaa
