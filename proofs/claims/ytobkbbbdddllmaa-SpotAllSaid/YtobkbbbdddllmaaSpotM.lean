/- A spot.Map in memory; what may have changed. -/
import Derived.Test.YtobkbbbdddllmaaKeys
import Derived.Deep.QuietTactic
import Derived.RangeFuncFrom
namespace Go.Proofs.Ytobkbbbdddllmaa
open Go.RowKit Mp Go.ChangeMaps

/-- Nothing has changed but block g and, where there is one, block mb. -/
structure But2 (g : Nat) (mb : Option Nat) (w w' : World) : Prop where
  os : w'.os = w.os
  tape : w'.tape = w.tape
  output : w'.output = w.output
  size : w.heap.size ≤ w'.heap.size
  block : ∀ k, k < w.heap.size → k ≠ g → some k ≠ mb → w'.heap[k]? = w.heap[k]?
theorem But2.refl (g : Nat) (mb : Option Nat) (w : World) : But2 g mb w w := ⟨rfl, rfl, rfl, Nat.le_refl _, fun _ _ _ _ => rfl⟩
theorem But2.trans {g : Nat} {mb : Option Nat} {a b c : World} (h : But2 g mb a b) (k : But2 g mb b c) : But2 g mb a c :=
  ⟨k.os.trans h.os, k.tape.trans h.tape, k.output.trans h.output, Nat.le_trans h.size k.size, fun i hi h1 h2 => (k.block i (Nat.lt_of_lt_of_le hi h.size) h1 h2).trans (h.block i hi h1 h2)⟩
theorem But2.of_below {g : Nat} {mb : Option Nat} {w w' : World} (h : Below w.heap.size w w') : But2 g mb w w' := ⟨h.os, h.tape, h.output, h.size, fun k hk _ _ => h.block k hk⟩
theorem But2.below {g B : Nat} {mb : Option Nat} {w w' : World} (h : But2 g mb w w') (hB : B ≤ w.heap.size) (hg : B ≤ g) (hm : ∀ b, mb = some b → B ≤ b) : Below B w w' :=
  ⟨h.os, h.tape, h.output, h.size, fun k hk => h.block k (Nat.lt_of_lt_of_le hk hB) (by omega) (fun e => by have := hm k e.symm; omega)⟩
theorem But2.alloc {g : Nat} {mb : Option Nat} {a w : World} (h : But2 g mb a w) (o : Obj) : But2 g mb a (w.alloc o) := h.trans (But2.of_below ((Below.refl _ _).alloc (Nat.le_refl _) _))
theorem But2.drew {g : Nat} {mb : Option Nat} {a w : World} (h : But2 g mb a w) (n : Nat) : But2 g mb a (w.drewN n) := ⟨h.os, h.tape, h.output, h.size, h.block⟩
theorem But2.setCell {g : Nat} {mb : Option Nat} {a w : World} (h : But2 g mb a w) (o : Nat) (s : Option Nat) (u : Value) : But2 g mb a (w.setCell ⟨g, o, s⟩ u) :=
  ⟨h.os, h.tape, h.output, by simp only [World.size_setCell]; exact h.size, fun k hk h1 h2 => (Below.heap_setCell _ _ _ k h1).trans (h.block k hk h1 h2)⟩
theorem But2.setBlock {g b : Nat} {mb : Option Nat} {a w : World} (h : But2 g mb a w) (hb : some b = mb ∨ a.heap.size ≤ b) (o : Obj) : But2 g mb a (setBlock w b o) :=
  ⟨h.os, h.tape, h.output, by simp only [Go.ChangeMaps.setBlock, Array.size_setIfInBounds]; exact h.size, fun k hk h1 h2 => by
    have : k ≠ b := fun e => by
      rcases hb with hb | hb
      · exact h2 (by rw [e, hb])
      · omega
    simp only [Go.ChangeMaps.setBlock, Array.getElem?_setIfInBounds]
    rw [if_neg (fun e => this e.symm)]
    exact h.block k hk h1 h2⟩

/-- Block g is a spot.Map whose map lies in mb (none: not made yet); it has l. -/
structure SpotIs (w : World) (g : Nat) (mb : Option Nat) (l : List (A3 × Value)) : Prop where
  cell : w.cell? ⟨g, 0, none⟩ = some (.map mb)
  free : w.frozen? ⟨g, 0, none⟩ = false
  none : mb = none → l = []
  some : ∀ b, mb = some b → MapIs EA w b l

theorem SpotIs.lt {w : World} {g : Nat} {mb : Option Nat} {l : List (A3 × Value)} (h : SpotIs w g mb l) : g < w.heap.size := World.block_lt_of_cell? w _ h.cell
theorem SpotIs.ne {w : World} {g b : Nat} {mb : Option Nat} {l : List (A3 × Value)} (h : SpotIs w g mb l) (hb : mb = .some b) : b ≠ g := fun e => by
  obtain ⟨o, ho, es, clock, rfl, _⟩ := h.some b hb
  have := h.cell
  rw [e] at ho
  simp [World.cell?, ho] at this
theorem SpotIs.keep {w w' : World} {g : Nat} {mb : Option Nat} {l : List (A3 × Value)} (h : SpotIs w g mb l) (hg : w'.heap[g]? = w.heap[g]?) (hb : ∀ b, mb = .some b → w'.heap[b]? = w.heap[b]?) : SpotIs w' g mb l :=
  ⟨(World.cell?_of_block (a := ⟨g, 0, Option.none⟩) hg).trans h.cell, (World.frozen?_of_block (a := ⟨g, 0, Option.none⟩) hg).trans h.free, h.none, fun b hb' => (h.some b hb').of_block (hb b hb')⟩
theorem SpotIs.mblt {w : World} {g b : Nat} {mb : Option Nat} {l : List (A3 × Value)} (h : SpotIs w g mb l) (hb : mb = .some b) : b < w.heap.size := (h.some b hb).lt
theorem SpotIs.below {w w' : World} {g B : Nat} {mb : Option Nat} {l : List (A3 × Value)} (h : SpotIs w g mb l) (hw : Below B w w') (hB : w.heap.size ≤ B) : SpotIs w' g mb l :=
  h.keep (hw.block g (Nat.lt_of_lt_of_le h.lt hB)) fun b hb => hw.block b (Nat.lt_of_lt_of_le (h.mblt hb) hB)
theorem SpotIs.of_perm {w : World} {g : Nat} {mb : Option Nat} {l l' : List (A3 × Value)} (h : SpotIs w g mb l) (hp : l.Perm l') : SpotIs w g mb l' :=
  ⟨h.cell, h.free, fun e => by have := h.none e; rw [this] at hp; exact hp.symm.eq_nil, fun b hb => (h.some b hb).of_perm hp⟩
theorem SpotIs.nodup {w : World} {g : Nat} {mb : Option Nat} {l : List (A3 × Value)} (h : SpotIs w g mb l) : (l.map (·.1)).Nodup := by
  cases mb with
  | none => rw [h.none rfl]; exact List.nodup_nil
  | some b => exact (h.some b rfl).nodup
theorem SpotIs.ok {w : World} {g : Nat} {mb : Option Nat} {l : List (A3 × Value)} (h : SpotIs w g mb l) : ∀ p ∈ l, okA p.1 := by
  cases mb with
  | none => rw [h.none rfl]; intro p hp; simp at hp
  | some b => exact (h.some b rfl).ok

theorem heap_setBlock_at {W : World} {b : Nat} (o : Obj) (hb : b < W.heap.size) : (setBlock W b o).heap[b]? = some o := by
  simp [Go.ChangeMaps.setBlock, hb]
theorem heap_setBlock_off {W : World} {b k : Nat} (o : Obj) (hk : k ≠ b) : (setBlock W b o).heap[k]? = W.heap[k]? := by
  simp only [Go.ChangeMaps.setBlock, Array.getElem?_setIfInBounds]
  rw [if_neg (fun e => hk e.symm)]

theorem below_drewN {B : Nat} {a w : World} (h : Below B a w) (n : Nat) : Below B a (w.drewN n) := ⟨h.os, h.tape, h.output, h.size, h.block⟩

/-- The map's block is written. -/
theorem SpotIs.after {w W : World} {g b : Nat} {l l' : List (A3 × Value)} {o' : Obj} (h : SpotIs w g (.some b) l) (hw : Below w.heap.size w W) (ho : IsObj EA o' l') :
    SpotIs (setBlock W b o') g (.some b) l' ∧ But2 g (.some b) w (setBlock W b o') := by
  have hbg := h.ne rfl
  have hb := h.mblt rfl
  have hg : (setBlock W b o').heap[g]? = w.heap[g]? := (heap_setBlock_off o' (fun e => hbg e.symm)).trans (hw.block g h.lt)
  refine ⟨⟨(World.cell?_of_block (a := ⟨g, 0, Option.none⟩) hg).trans h.cell, (World.frozen?_of_block (a := ⟨g, 0, Option.none⟩) hg).trans h.free, fun e => (by cases e), fun b' e => ?_⟩, (But2.of_below hw).setBlock (.inl rfl) o'⟩
  cases e
  exact ⟨o', heap_setBlock_at o' (Nat.lt_of_lt_of_le hb hw.size), ho⟩
end Go.Proofs.Ytobkbbbdddllmaa
