import Derived.Test.YtfploeefmnbpcaaGreatG09
import Derived.Test.YtfploeefmnbpcaaGreatG03
/- A flash in memory, as the landed code lays it: one block and two maps beside it. No walk here. -/
namespace Go.Proofs.YtfploeefmnbpcaaGreat
open Go.RowKit Mp Go.ChangeMaps

/-- Block g is a flash: its cells below the maps', its maps. -/
structure Fl (w : World) (g : Nat) (c : Nat → Value) (lp lf : List (A3 × Value)) (mp mf : Option Nat) : Prop where
  cell : ∀ i, i < 399 → w.cell? ⟨g, i, none⟩ = some (c i)
  free : ∀ i, i < 399 → w.frozen? ⟨g, i, none⟩ = false
  pages : SpotAt w g 399 mp lp
  fails : SpotAt w g 400 mf lf
  apart : ∀ b, mp = some b → mf ≠ some b

/-- Its blocks. -/
abbrev ff (g : Nat) (mp mf : Option Nat) : Nat → Prop := fun k => k = g ∨ some k = mp ∨ some k = mf

section
variable {w w' w0 : World} {g : Nat} {c : Nat → Value} {lp lf : List (A3 × Value)} {mp mf : Option Nat}
theorem Fl.lt (h : Fl w g c lp lf mp mf) : ∀ k, ff g mp mf k → k < w.heap.size := by
  intro k hk
  rcases hk with rfl | hk | hk
  · exact h.pages.lt
  · exact h.pages.mblt hk.symm
  · exact h.fails.mblt hk.symm
theorem Fl.keep (h : Fl w g c lp lf mp mf) (hk : ∀ k, ff g mp mf k → w'.heap[k]? = w.heap[k]?) : Fl w' g c lp lf mp mf :=
  have hg := hk g (.inl rfl)
  ⟨fun i hi => (World.cell?_of_block (a := ⟨g, i, none⟩) hg).trans (h.cell i hi), fun i hi => (World.frozen?_of_block (a := ⟨g, i, none⟩) hg).trans (h.free i hi),
   h.pages.keep hg fun b hb => hk b (.inr (.inl hb.symm)), h.fails.keep hg fun b hb => hk b (.inr (.inr hb.symm)), h.apart⟩

/-- Since w0 nothing has changed but blocks of F0; now the flash is this; the blocks of L are another's. -/
structure FlS (F0 : Nat → Prop) (w0 w : World) (g : Nat) (c : Nat → Value) (lp lf : List (A3 × Value)) (L : List Nat) : Prop where
  ex : ∃ mp mf, Fl w g c lp lf mp mf ∧ (∀ k ∈ L, ¬ ff g mp mf k) ∧ (∀ k, ff g mp mf k → F0 k ∨ w0.heap.size ≤ k)
  lt : ∀ k ∈ L, k < w.heap.size
  keeps : Keeps F0 w0 w
  size : g < w.heap.size

variable {F0 : Nat → Prop} {L : List Nat}
theorem FlS.start (h : Fl w g c lp lf mp mf) : FlS (ff g mp mf) w w g c lp lf [] :=
  ⟨⟨mp, mf, h, fun _ h => (by cases h), fun _ h => .inl h⟩, fun _ h => (by cases h), ⟨rfl, rfl, rfl, Nat.le_refl _, fun _ _ _ => rfl⟩, h.pages.lt⟩
theorem FlS.cell (h : FlS F0 w0 w g c lp lf L) {i : Nat} (hi : i < 399) : w.cell? ⟨g, i, none⟩ = some (c i) := by
  obtain ⟨mp, mf, h1, _⟩ := h.ex; exact h1.cell i hi
theorem FlS.free (h : FlS F0 w0 w g c lp lf L) {i : Nat} (hi : i < 399) : w.frozen? ⟨g, i, none⟩ = false := by
  obtain ⟨mp, mf, h1, _⟩ := h.ex; exact h1.free i hi
theorem FlS.below (h : FlS F0 w0 w g c lp lf L) (hb : Below w.heap.size w w') : FlS F0 w0 w' g c lp lf L ∧ Same L w w' := by
  obtain ⟨⟨mp, mf, h1, h2, h3⟩, h4, h5, h6⟩ := h
  refine ⟨⟨⟨mp, mf, h1.keep fun k hk => hb.block k (h1.lt k hk), h2, h3⟩, fun k hk => Nat.lt_of_lt_of_le (h4 k hk) hb.size, ?_, Nat.lt_of_lt_of_le h6 hb.size⟩, ⟨hb.size, fun k hk => hb.block k (h4 k hk)⟩⟩
  exact ⟨hb.os.trans h5.os, hb.tape.trans h5.tape, hb.output.trans h5.output, Nat.le_trans h5.size hb.size, fun k hk hF => (hb.block k (Nat.lt_of_lt_of_le hk h5.size)).trans (h5.block k hk hF)⟩
theorem FlS.drew (h : FlS F0 w0 w g c lp lf L) : FlS F0 w0 w.drew g c lp lf L := (h.below (Below.refl _ _).drew).1
theorem FlS.alloc (h : FlS F0 w0 w g c lp lf L) (o : Obj) : FlS F0 w0 (w.alloc o) g c lp lf L := (h.below ((Below.refl _ _).alloc (Nat.le_refl _) o)).1
/-- A block that was just made is another's. -/
theorem FlS.add (h : FlS F0 w0 w g c lp lf L) (o : Obj) : FlS F0 w0 (w.alloc o) g c lp lf (w.heap.size :: L) := by
  obtain ⟨h1, h2, h3, h4⟩ := (h.below ((Below.refl _ _).alloc (Nat.le_refl _) o)).1
  obtain ⟨mp, mf, k1, _, _⟩ := h.ex
  refine ⟨?_, ?_, h3, h4⟩
  · obtain ⟨mp', mf', j1, j2, j3⟩ := h.ex
    refine ⟨mp', mf', j1.keep fun k hk => Below.heap_alloc _ _ _ (j1.lt k hk), fun k hk hf => ?_, j3⟩
    rcases List.mem_cons.1 hk with e | hk
    · have := j1.lt k hf; omega
    · exact j2 k hk hf
  · intro k hk
    simp only [World.size_alloc]
    rcases List.mem_cons.1 hk with e | hk
    · omega
    · have := h.lt k hk; omega
theorem FlS.sub (h : FlS F0 w0 w g c lp lf L) {L' : List Nat} (hs : ∀ k ∈ L', k ∈ L) : FlS F0 w0 w g c lp lf L' := by
  obtain ⟨⟨mp, mf, h1, h2, h3⟩, h4, h5, h6⟩ := h
  exact ⟨⟨mp, mf, h1, fun k hk => h2 k (hs k hk), h3⟩, fun k hk => h4 k (hs k hk), h5, h6⟩
/-- Another's block has changed. -/
theorem FlS.off (h : FlS F0 w0 w g c lp lf L) {b : Nat} (hb : b ∈ L) (hb0 : w0.heap.size ≤ b) (hs : w'.heap.size = w.heap.size) (ho : w'.os = w.os) (ht : w'.tape = w.tape) (hp : w'.output = w.output) (hk : ∀ k, k ≠ b → w'.heap[k]? = w.heap[k]?) : FlS F0 w0 w' g c lp lf L := by
  obtain ⟨⟨mp, mf, h1, h2, h3⟩, h4, h5, h6⟩ := h
  refine ⟨⟨mp, mf, h1.keep fun k hF => hk k (fun e => h2 b hb (e ▸ hF)), h2, h3⟩, fun k hL => by rw [hs]; exact h4 k hL, ?_, by rw [hs]; exact h6⟩
  exact ⟨ho.trans h5.os, ht.trans h5.tape, hp.trans h5.output, by rw [hs]; exact h5.size, fun k hlt hF => (hk k (by omega)).trans (h5.block k hlt hF)⟩
theorem FlS.offCell (h : FlS F0 w0 w g c lp lf L) {b o : Nat} {s : Option Nat} (hb : b ∈ L) (hb0 : w0.heap.size ≤ b) (u : Value) : FlS F0 w0 (w.setCell ⟨b, o, s⟩ u) g c lp lf L :=
  h.off hb hb0 (by simp [World.setCell]) rfl rfl rfl fun _ hk => Below.heap_setCell _ _ _ _ hk
theorem FlS.offRow (h : FlS F0 w0 w g c lp lf L) {b : Nat} (hb : b ∈ L) (hb0 : w0.heap.size ≤ b) (ds : Array Value) : FlS F0 w0 (w.setRow b ds) g c lp lf L :=
  h.off hb hb0 (setRow_size _ _ _) rfl rfl rfl fun _ hk => setRow_other _ _ _ _ hk
/-- A cell of the flash is written. -/
theorem FlS.set (h : FlS F0 w0 w g c lp lf L) {i : Nat} (hi : i < 399) (v : Value) : FlS F0 w0 (w.setCell ⟨g, i, none⟩ v) g (upd c i v) lp lf L ∧ Same L w (w.setCell ⟨g, i, none⟩ v) := by
  obtain ⟨⟨mp, mf, h1, h2, h3⟩, h4, h5, h6⟩ := h
  have hk : ∀ k, k ≠ g → (w.setCell ⟨g, i, none⟩ v).heap[k]? = w.heap[k]? := fun _ hk => Below.heap_setCell _ _ _ _ hk
  have hs : (w.setCell ⟨g, i, none⟩ v).heap.size = w.heap.size := World.size_setCell _ _ _
  have hoc : ∀ j, j ≠ i → (w.setCell ⟨g, i, none⟩ v).cell? ⟨g, j, none⟩ = w.cell? ⟨g, j, none⟩ := fun j hj => World.cell?_setCell_other _ _ _ _ (fun e => hj (congrArg Addr.off e).symm)
  have hfz : ∀ j, (w.setCell ⟨g, i, none⟩ v).frozen? ⟨g, j, none⟩ = w.frozen? ⟨g, j, none⟩ := fun j => World.frozen?_setCell _ _ _ _
  have hgg : ¬ g ∈ L := fun hg => h2 g hg (.inl rfl)
  refine ⟨⟨⟨mp, mf, ⟨fun j hj => ?_, fun j hj => (hfz j).trans (h1.free j hj), ?_, ?_, h1.apart⟩, h2, h3⟩, fun k hL => by rw [hs]; exact h4 k hL, ?_, by rw [hs]; exact h6⟩, ⟨by rw [hs]; exact Nat.le_refl _, fun k hL => hk k (fun e => hgg (e ▸ hL))⟩⟩
  · by_cases hji : j = i
    · subst hji
      rw [World.cell?_setCell_same _ _ _ (h1.cell j hj), upd_same]
    · rw [hoc j hji, upd_off _ _ hji]; exact h1.cell j hj
  · exact ⟨(hoc 399 (by omega)).trans h1.pages.cell, (hfz 399).trans h1.pages.free, h1.pages.none, fun b hb => (h1.pages.some b hb).of_block (hk b (h1.pages.ne hb))⟩
  · exact ⟨(hoc 400 (by omega)).trans h1.fails.cell, (hfz 400).trans h1.fails.free, h1.fails.none, fun b hb => (h1.fails.some b hb).of_block (hk b (h1.fails.ne hb))⟩
  · refine ⟨h5.os, h5.tape, h5.output, by rw [hs]; exact h5.size, fun k hlt hF => (hk k (fun e => ?_)).trans (h5.block k hlt hF)⟩
    rcases h3 g (.inl rfl) with hg | hg
    · exact hF (e ▸ hg)
    · omega
/-- The pages' map has turned. -/
theorem FlS.mapP {lp' : List (A3 × Value)} (h1 : Fl w g c lp lf mp mf) (h2 : ∀ k ∈ L, ¬ ff g mp mf k) (h3 : ∀ k, ff g mp mf k → F0 k ∨ w0.heap.size ≤ k) (h4 : ∀ k ∈ L, k < w.heap.size) (h5 : Keeps F0 w0 w)
    {mp' : Option Nat} (hs : SpotAt w' g 399 mp' lp') (hb : But3 g 399 mp w w') (hm : mp' = mp ∨ ∃ b, mp' = some b ∧ w.heap.size ≤ b) : FlS F0 w0 w' g c lp' lf L ∧ Same L w w' := by
  have hff : ∀ k, ff g mp' mf k → ff g mp mf k ∨ w.heap.size ≤ k := by
    intro k hk
    rcases hk with hk | hk | hk
    · exact .inl (.inl hk)
    · rcases hm with e | ⟨b, e, hb⟩
      · exact .inl (.inr (.inl (hk.trans e)))
      · rw [e] at hk; cases hk; exact .inr hb
    · exact .inl (.inr (.inr hk))
  refine ⟨⟨⟨mp', mf, ⟨fun i hi => (hb.cells i (by omega)).trans (h1.cell i hi), fun i hi => (hb.froz i).trans (h1.free i hi), hs, h1.fails.other hb (by omega) (fun b hb' e => h1.apart b e hb'), fun b e hb' => ?_⟩, fun k hL hf => ?_, fun k hk => ?_⟩, fun k hL => Nat.lt_of_lt_of_le (h4 k hL) hb.size, ?_, Nat.lt_of_lt_of_le h1.pages.lt hb.size⟩, ⟨hb.size, fun k hL => ?_⟩⟩
  · rcases hm with e2 | ⟨b2, e2, hb2⟩
    · exact h1.apart b (e2 ▸ e) hb'
    · rw [e2] at e; cases e; have := h1.fails.mblt hb'; omega
  · rcases hff k hf with hf | hf
    · exact h2 k hL hf
    · have := h4 k hL; omega
  · rcases hff k hk with hk | hk
    · exact h3 k hk
    · have := h5.size; exact .inr (by omega)
  · refine ⟨hb.os.trans h5.os, hb.tape.trans h5.tape, hb.output.trans h5.output, Nat.le_trans h5.size hb.size, fun k hlt hF => (hb.block k (Nat.lt_of_lt_of_le hlt h5.size) (fun e => ?_) (fun e => ?_)).trans (h5.block k hlt hF)⟩
    · rcases h3 k (.inl e) with h | h
      · exact hF h
      · omega
    · rcases h3 k (.inr (.inl e)) with h | h
      · exact hF h
      · omega
  · exact hb.block k (h4 k hL) (fun e => h2 k hL (.inl e)) (fun e => h2 k hL (.inr (.inl e)))
/-- The fails' map has turned. -/
theorem FlS.mapF {lf' : List (A3 × Value)} (h1 : Fl w g c lp lf mp mf) (h2 : ∀ k ∈ L, ¬ ff g mp mf k) (h3 : ∀ k, ff g mp mf k → F0 k ∨ w0.heap.size ≤ k) (h4 : ∀ k ∈ L, k < w.heap.size) (h5 : Keeps F0 w0 w)
    {mf' : Option Nat} (hs : SpotAt w' g 400 mf' lf') (hb : But3 g 400 mf w w') (hm : mf' = mf ∨ ∃ b, mf' = some b ∧ w.heap.size ≤ b) : FlS F0 w0 w' g c lp lf' L ∧ Same L w w' := by
  have hff : ∀ k, ff g mp mf' k → ff g mp mf k ∨ w.heap.size ≤ k := by
    intro k hk
    rcases hk with hk | hk | hk
    · exact .inl (.inl hk)
    · exact .inl (.inr (.inl hk))
    · rcases hm with e | ⟨b, e, hb⟩
      · exact .inl (.inr (.inr (hk.trans e)))
      · rw [e] at hk; cases hk; exact .inr hb
  refine ⟨⟨⟨mp, mf', ⟨fun i hi => (hb.cells i (by omega)).trans (h1.cell i hi), fun i hi => (hb.froz i).trans (h1.free i hi), h1.pages.other hb (by omega) (fun b hb' e => h1.apart b hb' e), hs, fun b e hb' => ?_⟩, fun k hL hf => ?_, fun k hk => ?_⟩, fun k hL => Nat.lt_of_lt_of_le (h4 k hL) hb.size, ?_, Nat.lt_of_lt_of_le h1.pages.lt hb.size⟩, ⟨hb.size, fun k hL => ?_⟩⟩
  · rcases hm with e2 | ⟨b2, e2, hb2⟩
    · exact h1.apart b e (e2 ▸ hb')
    · rw [e2] at hb'; cases hb'; have := h1.pages.mblt e; omega
  · rcases hff k hf with hf | hf
    · exact h2 k hL hf
    · have := h4 k hL; omega
  · rcases hff k hk with hk | hk
    · exact h3 k hk
    · have := h5.size; exact .inr (by omega)
  · refine ⟨hb.os.trans h5.os, hb.tape.trans h5.tape, hb.output.trans h5.output, Nat.le_trans h5.size hb.size, fun k hlt hF => (hb.block k (Nat.lt_of_lt_of_le hlt h5.size) (fun e => ?_) (fun e => ?_)).trans (h5.block k hlt hF)⟩
    · rcases h3 k (.inl e) with h | h
      · exact hF h
      · omega
    · rcases h3 k (.inr (.inr e)) with h | h
      · exact hF h
      · omega
  · exact hb.block k (h4 k hL) (fun e => h2 k hL (.inl e)) (fun e => h2 k hL (.inr (.inr e)))
theorem Same.row {b : Nat} {t : TypeId} {cs : List Value} (h : Same L w w') (hb : b ∈ L) (hr : Row w b t cs) : Row w' b t cs := hr.of_block (h.block b hb)
theorem Same.trans {w'' : World} (h : Same L w w') (k : Same L w' w'') : Same L w w'' := ⟨Nat.le_trans h.size k.size, fun b hb => (k.block b hb).trans (h.block b hb)⟩
end
end Go.Proofs.YtfploeefmnbpcaaGreat
