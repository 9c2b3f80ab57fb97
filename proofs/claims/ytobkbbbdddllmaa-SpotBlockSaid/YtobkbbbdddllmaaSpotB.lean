/- Package spot at bool: New, Set, Get, Drop, Len. -/
import Derived.Test.YtobkbbbdddllmaaSpotM
import Derived.Deep.QuietTactic
import Derived.Carry
import Derived.Deep.DeepCutAuto
namespace Go.Proofs.Ytobkbbbdddllmaa
open Go.RowKit Mp Go.ChangeMaps

theorem zeroB : ∀ W : World, (zeroValue 4).run Try.prog W = .ok (.bool false) W := fun W => by kernel_rfl

theorem isNilB_some (b : Nat) : ∀ W : World, Sem.run Try.prog (binOp BinOp.eql 65 (.map (some b)) (.map none)) W = .ok (.bool false) W := fun W => by kernel_rfl
theorem isNilB_none : ∀ W : World, Sem.run Try.prog (binOp BinOp.eql 65 (.map none) (.map none)) W = .ok (.bool true) W := fun W => by kernel_rfl

/-- New. -/
theorem newB (w : World) : Calls Try.prog 15 #[] w fun e w' => e = .returned (.pointer (some ⟨w.heap.size, 0, none⟩)) ∧ SpotIs w' w.heap.size none [] ∧ Below w.heap.size w w' ∧ w'.heap.size = w.heap.size + 1 := by
  go_enter Try.func15, Try.ntmps15
  go_wp2
  go_ret
  refine ⟨rfl, ⟨?_, ?_, fun _ => rfl, fun b hb => by cases hb⟩, (Below.refl _ _).alloc (Nat.le_refl _) _, by simp⟩
  · rw [World.cell?_alloc_at _ _ _ _ rfl]; rfl
  · exact World.frozen?_alloc_at _ _ _ _ rfl

set_option maxHeartbeats 1000000 in
/-- Set of a nil Map. -/
theorem setB_nil (a : A3) (v : Value) (w : World) : Calls Try.prog 16 #[.pointer none, encA a, v] w fun e w' => e = .returned (.tuple #[]) ∧ Below w.heap.size w w' := by
  unfold encA
  go_enter Try.func16, Try.ntmps16
  go_wp2
  (try simp only [Exit.inBlock, Exit.then])
  refine bodyPost_ret (results_none rfl _ _ _) rfl ?_
  exact ⟨rfl, (Below.refl _ _).alloc (Nat.le_refl _) _⟩

set_option maxRecDepth 100000 in
set_option maxHeartbeats 1000000 in
/-- Set, where there is a map. -/
theorem setB_some (g b : Nat) (l : List (A3 × Value)) (a : A3) (v : Value) (w : World) (h : SpotIs w g (some b) l) (ha : okA a) :
    Calls Try.prog 16 #[.pointer (some ⟨g, 0, none⟩), encA a, v] w fun e w' => e = .returned (.tuple #[]) ∧ SpotIs w' g (some b) ((a, v) :: delA l a) ∧ But2 g (some b) w w' := by
  have hbg := h.ne rfl
  have hblt := h.mblt rfl
  have hglt := h.lt
  have hc := h.cell
  have hm := h.some b rfl
  have hm2 : MapIs EA (w.alloc (.cells #[.int .i64 a.1, .int .i64 a.2.1, .int .i64 a.2.2] 29)) b l := hm.of_block (Below.heap_alloc _ _ _ hblt)
  obtain ⟨o', ho', hput⟩ := hm2.put Try.underlying65 ha v
  have hnil := isNilB_some b
  have hp : (Instr.mapUpdate 65 (.map (some b)) (.agg #[.int .i64 a.1, .int .i64 a.2.1, .int .i64 a.2.2]) v).run Try.prog (w.alloc (.cells #[.int .i64 a.1, .int .i64 a.2.1, .int .i64 a.2.2] 29)).drew = .ok () (setBlock (w.alloc (.cells #[.int .i64 a.1, .int .i64 a.2.1, .int .i64 a.2.2] 29)).drew b o') := hput _ rfl
  have H := Lib.hid h
  have HO := Lib.hid ho'
  clear h hm hm2 hput ho'
  unfold encA
  go_enter Try.func16, Try.ntmps16
  go_wp2
  go_region
  go_end0
  obtain ⟨s1, s2⟩ := H.out.after (W := (w.alloc (.cells #[.int .i64 a.1, .int .i64 a.2.1, .int .i64 a.2.2] 29)).drew) ((Below.refl _ _).alloc (Nat.le_refl _) _).drew HO.out
  exact ⟨rfl, s1, s2⟩

set_option maxRecDepth 100000 in
set_option maxHeartbeats 1000000 in
/-- Set, where no map has been made yet. -/
theorem setB_none (g : Nat) (l : List (A3 × Value)) (a : A3) (v : Value) (w : World) (h : SpotIs w g none l) (ha : okA a) :
    Calls Try.prog 16 #[.pointer (some ⟨g, 0, none⟩), encA a, v] w fun e w' => e = .returned (.tuple #[]) ∧ ∃ b, w.heap.size ≤ b ∧ SpotIs w' g (some b) ((a, v) :: delA l a) ∧ But2 g none w w' := by
  have hglt := h.lt
  have hc := h.cell
  have hf := h.free
  have hl := h.none rfl
  subst hl
  obtain ⟨W2, hW2⟩ : ∃ W2, (((w.setCell ⟨g, 0, none⟩ (.map (some (w.heap.size + 1)))).alloc (.cells #[.int .i64 a.1, .int .i64 a.2.1, .int .i64 a.2.2] 29)).alloc (.map #[] 0)) = W2 := ⟨_, rfl⟩
  have hsz : W2.heap.size = w.heap.size + 2 := by rw [← hW2]; simp
  have hm2 : MapIs EA W2 (w.heap.size + 1) [] := by
    rw [← hW2]
    have := made EA ((w.setCell ⟨g, 0, none⟩ (.map (some (w.heap.size + 1)))).alloc (.cells #[.int .i64 a.1, .int .i64 a.2.1, .int .i64 a.2.2] 29))
    rwa [World.size_alloc, World.size_setCell] at this
  obtain ⟨o', ho', hput⟩ := hm2.put Try.underlying65 ha v
  have hnil := isNilB_none
  have hp : (Instr.mapUpdate 65 (.map (some (w.heap.size + 1))) (.agg #[.int .i64 a.1, .int .i64 a.2.1, .int .i64 a.2.2]) v).run Try.prog (((w.setCell ⟨g, 0, none⟩ (.map (some (w.heap.size + 1)))).alloc (.cells #[.int .i64 a.1, .int .i64 a.2.1, .int .i64 a.2.2] 29)).alloc (.map #[] 0)).drew = .ok () (setBlock (((w.setCell ⟨g, 0, none⟩ (.map (some (w.heap.size + 1)))).alloc (.cells #[.int .i64 a.1, .int .i64 a.2.1, .int .i64 a.2.2] 29)).alloc (.map #[] 0)).drew (w.heap.size + 1) o') := hput _ (by rw [← hW2]; rfl)
  have hb2 : But2 g none w W2 := by rw [← hW2]; exact (((But2.refl g none w).setCell 0 none _).alloc _).alloc _
  have hc2 : W2.cell? ⟨g, 0, none⟩ = some (.map (some (w.heap.size + 1))) := by
    rw [← hW2, World.cell?_alloc_old _ _ _ (by simp; omega), World.cell?_alloc_old _ _ _ (by simp; omega)]
    refine World.cell?_setCell_same' _ _ _ ?_
    rw [hc]; rfl
  have hf2 : W2.frozen? ⟨g, 0, none⟩ = false := by
    rw [← hW2, World.frozen?_alloc_old _ _ _ (by simp; omega), World.frozen?_alloc_old _ _ _ (by simp; omega), World.frozen?_setCell, hf]
  have HS := Lib.hid (show SpotIs W2 g (some (w.heap.size + 1)) [] from ⟨hc2, hf2, fun e => (by cases e), fun b e => by cases e; exact hm2⟩)
  have HO := Lib.hid ho'
  have HB2 := Lib.hid hb2
  have HW2 := Lib.hid hW2
  have HSZ := Lib.hid hsz
  have hmm := @run_makeMap Try.prog
  clear h hm2 hput ho' hb2 hc2 hf2 hsz hW2
  unfold encA
  go_enter Try.func16, Try.ntmps16
  go_wp2
  go_region
  go_end0
  have hW := HW2.out
  obtain ⟨s1, s2⟩ := HS.out.after (W := W2.drew) (Below.refl _ _).drew HO.out
  rw [← hW] at s1 s2
  refine ⟨rfl, w.heap.size + 1, by omega, s1, ?_⟩
  have h3 := HB2.out.trans (⟨rfl, rfl, rfl, Nat.le_refl _, fun _ _ _ _ => rfl⟩ : But2 g none W2 W2.drew)
  rw [← hW] at h3
  exact h3.setBlock (.inr (by omega)) _

end Go.Proofs.Ytobkbbbdddllmaa
