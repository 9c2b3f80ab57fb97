/- The statements' guard. -/
import Derived.Test.YtobkbbbdddllmaaGuardK
namespace Go.Proofs.Ytobkbbbdddllmaa
open Go.RowKit

theorem rep_in (n j : Nat) (a b : Value) (h : j < n) : ((List.replicate n a ++ [b]).toArray)[j]? = some a := by
  rw [List.getElem?_toArray, List.getElem?_append_left (by rw [List.length_replicate]; exact h), List.getElem?_replicate, if_pos h]
theorem rep_end (n : Nat) (a b : Value) : ((List.replicate n a ++ [b]).toArray)[n]? = some b := by
  rw [List.getElem?_toArray, List.getElem?_append_right (by rw [List.length_replicate]; exact Nat.le_refl _), List.length_replicate, Nat.sub_self]; rfl

theorem out_cells {w w' : World} {g : Nat} {l : List Bool} (h : OutIs w g l) (hb : w'.heap[g]? = w.heap[g]?) : OutIs w' g l := by
  have hc : ∀ j, w'.cell? ⟨g, j, none⟩ = w.cell? ⟨g, j, none⟩ := fun j => World.cell?_of_block hb
  have hf : ∀ j, w'.frozen? ⟨g, j, none⟩ = w.frozen? ⟨g, j, none⟩ := fun j => World.frozen?_of_block hb
  exact ⟨h.fits, fun j hj => by rw [hc]; exact h.bytes j hj, by rw [hc]; exact h.count, fun j hj => by rw [hf]; exact h.free j hj⟩
theorem out_lt {w : World} {g : Nat} {l : List Bool} (h : OutIs w g l) : g < w.heap.size := World.block_lt_of_cell? w _ h.count
theorem out_below {w w' : World} {g B : Nat} {l : List Bool} (h : OutIs w g l) (hb : Below B w w') (hB : g < B) : OutIs w' g l := out_cells h (hb.block g hB)
theorem out_only {w w' : World} {g g2 : Nat} {l : List Bool} (h : OutIs w g l) (hb : Only g2 w w') (hB : g ≠ g2) : OutIs w' g l := out_cells h (hb.block g hB)
theorem in_cells {w w' : World} {g : Nat} {bs : List Nat} {pos : Nat} (h : InIs w g bs pos) (hb : ∀ k, k < w.heap.size → w'.heap[k]? = w.heap[k]?) : InIs w' g bs pos := by
  have hg : w'.heap[g]? = w.heap[g]? := hb g (World.block_lt_of_cell? w _ h.place)
  obtain ⟨a, cap, h1, h2, h3⟩ := h.row
  exact ⟨⟨a, cap, (World.cell?_of_block hg).trans h1, h2.mono fun b off x _ i hc => (World.cell?_of_block (hb b (World.block_lt_of_cell? w _ hc))).trans hc, h3⟩, h.small, h.size,
    (World.cell?_of_block hg).trans h.place, (World.frozen?_of_block hg).trans h.free, h.fits⟩

end Go.Proofs.Ytobkbbbdddllmaa
