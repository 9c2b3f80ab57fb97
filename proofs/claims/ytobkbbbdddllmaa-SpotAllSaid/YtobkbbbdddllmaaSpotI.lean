/- Package spot at int: New, Set, Get, Drop, Len. -/
import Derived.Test.YtobkbbbdddllmaaSpotM
import Derived.Deep.QuietTactic
import Derived.Carry
import Derived.Deep.DeepCutAuto
namespace Go.Proofs.Ytobkbbbdddllmaa
open Go.RowKit Mp Go.ChangeMaps

theorem zeroI : ∀ W : World, (zeroValue 3).run Try.prog W = .ok (.int .i64 0) W := fun W => by kernel_rfl

theorem isNilI_some (b : Nat) : ∀ W : World, Sem.run Try.prog (binOp BinOp.eql 56 (.map (some b)) (.map none)) W = .ok (.bool false) W := fun W => by kernel_rfl
theorem isNilI_none : ∀ W : World, Sem.run Try.prog (binOp BinOp.eql 56 (.map none) (.map none)) W = .ok (.bool true) W := fun W => by kernel_rfl

/-- New. -/
theorem newI (w : World) : Calls Try.prog 8 #[] w fun e w' => e = .returned (.pointer (some ⟨w.heap.size, 0, none⟩)) ∧ SpotIs w' w.heap.size none [] ∧ Below w.heap.size w w' ∧ w'.heap.size = w.heap.size + 1 := by
  go_enter Try.func8, Try.ntmps8
  go_wp2
  go_ret
  refine ⟨rfl, ⟨?_, ?_, fun _ => rfl, fun b hb => by cases hb⟩, (Below.refl _ _).alloc (Nat.le_refl _) _, by simp⟩
  · rw [World.cell?_alloc_at _ _ _ _ rfl]; rfl
  · exact World.frozen?_alloc_at _ _ _ _ rfl

set_option maxHeartbeats 1000000 in
/-- Set of a nil Map. -/
theorem setI_nil (a : A3) (v : Value) (w : World) : Calls Try.prog 10 #[.pointer none, encA a, v] w fun e w' => e = .returned (.tuple #[]) ∧ Below w.heap.size w w' := by
  unfold encA
  go_enter Try.func10, Try.ntmps10
  go_wp2
  (try simp only [Exit.inBlock, Exit.then])
  refine bodyPost_ret (results_none rfl _ _ _) rfl ?_
  exact ⟨rfl, (Below.refl _ _).alloc (Nat.le_refl _) _⟩

set_option maxRecDepth 100000 in
set_option maxHeartbeats 1000000 in
/-- Set, where there is a map. -/
theorem setI_some (g b : Nat) (l : List (A3 × Value)) (a : A3) (v : Value) (w : World) (h : SpotIs w g (some b) l) (ha : okA a) :
    Calls Try.prog 10 #[.pointer (some ⟨g, 0, none⟩), encA a, v] w fun e w' => e = .returned (.tuple #[]) ∧ SpotIs w' g (some b) ((a, v) :: delA l a) ∧ But2 g (some b) w w' := by
  have hbg := h.ne rfl
  have hblt := h.mblt rfl
  have hglt := h.lt
  have hc := h.cell
  have hm := h.some b rfl
  have hm2 : MapIs EA (w.alloc (.cells #[.int .i64 a.1, .int .i64 a.2.1, .int .i64 a.2.2] 29)) b l := hm.of_block (Below.heap_alloc _ _ _ hblt)
  obtain ⟨o', ho', hput⟩ := hm2.put Try.underlying56 ha v
  have hnil := isNilI_some b
  have hp : (Instr.mapUpdate 56 (.map (some b)) (.agg #[.int .i64 a.1, .int .i64 a.2.1, .int .i64 a.2.2]) v).run Try.prog (w.alloc (.cells #[.int .i64 a.1, .int .i64 a.2.1, .int .i64 a.2.2] 29)).drew = .ok () (setBlock (w.alloc (.cells #[.int .i64 a.1, .int .i64 a.2.1, .int .i64 a.2.2] 29)).drew b o') := hput _ rfl
  have H := Lib.hid h
  have HO := Lib.hid ho'
  clear h hm hm2 hput ho'
  unfold encA
  go_enter Try.func10, Try.ntmps10
  go_wp2
  go_region
  go_end0
  obtain ⟨s1, s2⟩ := H.out.after (W := (w.alloc (.cells #[.int .i64 a.1, .int .i64 a.2.1, .int .i64 a.2.2] 29)).drew) ((Below.refl _ _).alloc (Nat.le_refl _) _).drew HO.out
  exact ⟨rfl, s1, s2⟩

set_option maxRecDepth 100000 in
set_option maxHeartbeats 1000000 in
/-- Set, where no map has been made yet. -/
theorem setI_none (g : Nat) (l : List (A3 × Value)) (a : A3) (v : Value) (w : World) (h : SpotIs w g none l) (ha : okA a) :
    Calls Try.prog 10 #[.pointer (some ⟨g, 0, none⟩), encA a, v] w fun e w' => e = .returned (.tuple #[]) ∧ ∃ b, w.heap.size ≤ b ∧ SpotIs w' g (some b) ((a, v) :: delA l a) ∧ But2 g none w w' := by
  have hglt := h.lt
  have hc := h.cell
  have hf := h.free
  have hl := h.none rfl
  subst hl
  obtain ⟨W2, hW2⟩ : ∃ W2, (((w.setCell ⟨g, 0, none⟩ (.map (some (w.heap.size + 1)))).alloc (.cells #[.int .i64 a.1, .int .i64 a.2.1, .int .i64 a.2.2] 29)).alloc (.map #[] 0)) = W2 := ⟨_, rfl⟩
  have hsz : W2.heap.size = w.heap.size + 2 := by rw [← hW2]; simp
  have hm2 : MapIs EA W2 (w.heap.size + 1) [] := by
    rw [← hW2]
    have := made EA ((w.setCell ⟨g, 0, none⟩ (.map (some (w.heap.size + 1)))).alloc (.cells #[.int .i64 a.1, .int .i64 a.2.1, .int .i64 a.2.2] 29))
    rwa [World.size_alloc, World.size_setCell] at this
  obtain ⟨o', ho', hput⟩ := hm2.put Try.underlying56 ha v
  have hnil := isNilI_none
  have hp : (Instr.mapUpdate 56 (.map (some (w.heap.size + 1))) (.agg #[.int .i64 a.1, .int .i64 a.2.1, .int .i64 a.2.2]) v).run Try.prog (((w.setCell ⟨g, 0, none⟩ (.map (some (w.heap.size + 1)))).alloc (.cells #[.int .i64 a.1, .int .i64 a.2.1, .int .i64 a.2.2] 29)).alloc (.map #[] 0)).drew = .ok () (setBlock (((w.setCell ⟨g, 0, none⟩ (.map (some (w.heap.size + 1)))).alloc (.cells #[.int .i64 a.1, .int .i64 a.2.1, .int .i64 a.2.2] 29)).alloc (.map #[] 0)).drew (w.heap.size + 1) o') := hput _ (by rw [← hW2]; rfl)
  have hb2 : But2 g none w W2 := by rw [← hW2]; exact (((But2.refl g none w).setCell 0 none _).alloc _).alloc _
  have hc2 : W2.cell? ⟨g, 0, none⟩ = some (.map (some (w.heap.size + 1))) := by
    rw [← hW2, World.cell?_alloc_old _ _ _ (by simp; omega), World.cell?_alloc_old _ _ _ (by simp; omega)]
    refine World.cell?_setCell_same' _ _ _ ?_
    rw [hc]; rfl
  have hf2 : W2.frozen? ⟨g, 0, none⟩ = false := by
    rw [← hW2, World.frozen?_alloc_old _ _ _ (by simp; omega), World.frozen?_alloc_old _ _ _ (by simp; omega), World.frozen?_setCell, hf]
  have HS := Lib.hid (show SpotIs W2 g (some (w.heap.size + 1)) [] from ⟨hc2, hf2, fun e => (by cases e), fun b e => by cases e; exact hm2⟩)
  have HO := Lib.hid ho'
  have HB2 := Lib.hid hb2
  have HW2 := Lib.hid hW2
  have HSZ := Lib.hid hsz
  have hmm := @run_makeMap Try.prog
  clear h hm2 hput ho' hb2 hc2 hf2 hsz hW2
  unfold encA
  go_enter Try.func10, Try.ntmps10
  go_wp2
  go_region
  go_end0
  have hW := HW2.out
  obtain ⟨s1, s2⟩ := HS.out.after (W := W2.drew) (Below.refl _ _).drew HO.out
  rw [← hW] at s1 s2
  refine ⟨rfl, w.heap.size + 1, by omega, s1, ?_⟩
  have h3 := HB2.out.trans (⟨rfl, rfl, rfl, Nat.le_refl _, fun _ _ _ _ => rfl⟩ : But2 g none W2 W2.drew)
  rw [← hW] at h3
  exact h3.setBlock (.inr (by omega)) _

set_option maxHeartbeats 1000000 in
/-- Get of a nil Map. -/
theorem getI_nil (a : A3) (w : World) : Calls Try.prog 12 #[.pointer none, encA a] w fun e w' => e = .returned (.tuple #[(.int .i64 0), .bool false]) ∧ Below w.heap.size w w' := by
  unfold encA
  go_enter Try.func12, Try.ntmps12
  go_wp2
  (try simp only [Exit.inBlock, Exit.then])
  exact bodyPost_ret (v := .tuple #[(.int .i64 0), .bool false]) (by simp [results, Try.results12, go_sem]) rfl ⟨rfl, ((Below.refl _ _).alloc (Nat.le_refl _) _).alloc (by simp) _⟩

set_option maxRecDepth 100000 in
set_option maxHeartbeats 1000000 in
/-- Get. -/
theorem getI_any (g : Nat) (mb : Option Nat) (l : List (A3 × Value)) (a : A3) (w : World) (h : SpotIs w g mb l) (ha : okA a) :
    Calls Try.prog 12 #[.pointer (some ⟨g, 0, none⟩), encA a] w fun e w' => e = .returned (.tuple #[(getA l a).getD (.int .i64 0), .bool (getA l a).isSome]) ∧ Below w.heap.size w w' := by
  have hglt := h.lt
  have hc := h.cell
  have hlook : ∀ n, (Instr.lookup 56 (.map mb) (.agg #[.int .i64 a.1, .int .i64 a.2.1, .int .i64 a.2.2]) true).run Try.prog ((w.alloc (.cells #[.int .i64 a.1, .int .i64 a.2.1, .int .i64 a.2.2] 29)).drewN n) = .ok (.tuple #[(getA l a).getD (.int .i64 0), .bool (getA l a).isSome]) ((w.alloc (.cells #[.int .i64 a.1, .int .i64 a.2.1, .int .i64 a.2.2] 29)).drewN n) := by
    intro n
    cases mb with
    | none =>
      have hl := h.none rfl
      subst hl
      obtain ⟨lit, hlit⟩ := EA.has a ha
      exact Maps.look_nil true EA.law Try.underlying56 (zeroI _) hlit
    | some b =>
      exact (h.some b rfl).look Try.underlying56 ha zeroI true _ (Below.heap_alloc _ _ _ (h.mblt rfl))
  clear h
  generalize (getA l a).getD (.int .i64 0) = r, (getA l a).isSome = s at hlook ⊢
  unfold encA
  go_enter Try.func12, Try.ntmps12
  go_wp2
  go_quiet (fail)
  go_wp2
  (try simp only [Exit.inBlock, Exit.then])
  exact bodyPost_ret (v := .tuple #[r, .bool s]) (by simp [results, Try.results12, go_sem]) rfl ⟨rfl, below_drewN ((Below.refl _ _).alloc (Nat.le_refl _) _) _⟩

/-- Len of a nil Map. -/
theorem lenI_nil (w : World) : Calls Try.prog 13 #[.pointer none] w fun e w' => e = .returned (.int .i64 0) ∧ w = w' := by
  go_enter Try.func13, Try.ntmps13
  go_wp2
  go_ret
  exact ⟨rfl, rfl⟩

set_option maxRecDepth 100000 in
/-- Len. -/
theorem lenI_any (g : Nat) (mb : Option Nat) (l : List (A3 × Value)) (w : World) (h : SpotIs w g mb l) :
    Calls Try.prog 13 #[.pointer (some ⟨g, 0, none⟩)] w fun e w' => e = .returned (.int .i64 (l.length : Nat)) ∧ w = w' := by
  have hc := h.cell
  have hlen : ∀ ty, (Builtin.len_ #[56] ty #[.map mb]).run Try.prog w = .ok (.int .i64 (l.length : Nat)) w := by
    intro ty
    cases mb with
    | none =>
      have hl := h.none rfl
      subst hl
      exact Maps.len_nil Try.underlying56 ty
    | some b => exact (h.some b rfl).len Try.underlying56 ty w rfl
  clear h
  generalize l.length = r at hlen ⊢
  go_enter Try.func13, Try.ntmps13
  go_wp2
  go_ret
  exact ⟨rfl, rfl⟩

set_option maxHeartbeats 1000000 in
/-- Drop of a nil Map. -/
theorem dropI_nil (a : A3) (w : World) : Calls Try.prog 11 #[.pointer none, encA a] w fun e w' => e = .returned (.bool false) ∧ Below w.heap.size w w' := by
  have hg := fun w => getI_nil a w
  unfold encA at hg ⊢
  go_enter Try.func11, Try.ntmps11
  go_wp2_with (go_at_call 12; (with_reducible refine (hg _).mono ?_); rintro e w1 ⟨rfl, hb⟩)
  go_ret
  exact ⟨rfl, ((Below.refl _ _).alloc (Nat.le_refl _) _).trans (hb.mono (by simp))⟩

set_option maxRecDepth 100000 in
set_option maxHeartbeats 1000000 in
/-- Drop of what is not there. -/
theorem dropI_no (g : Nat) (mb : Option Nat) (l : List (A3 × Value)) (a : A3) (w : World) (h : SpotIs w g mb l) (ha : okA a) (hn : getA l a = none) :
    Calls Try.prog 11 #[.pointer (some ⟨g, 0, none⟩), encA a] w fun e w' => e = .returned (.bool false) ∧ Below w.heap.size w w' := by
  have hg := fun w h => getI_any g mb l a w h ha
  have h1 : SpotIs (w.alloc (.cells #[.int .i64 a.1, .int .i64 a.2.1, .int .i64 a.2.2] 29)) g mb l := h.below ((Below.refl _ _).alloc (Nat.le_refl _) _) (Nat.le_refl _)
  have hg1 := hg _ h1
  rw [hn] at hg1
  simp only [Option.getD_none, Option.isSome_none] at hg1
  have HG := Lib.hid hg1
  clear hg h h1 hn hg1
  unfold encA at HG ⊢
  go_enter Try.func11, Try.ntmps11
  go_wp2_with (go_at_call 12; (with_reducible refine HG.out.mono ?_); rintro e w1 ⟨rfl, hb⟩)
  go_ret
  exact ⟨rfl, ((Below.refl _ _).alloc (Nat.le_refl _) _).trans (hb.mono (by simp))⟩

set_option maxRecDepth 100000 in
set_option maxHeartbeats 1000000 in
/-- Drop of what is there. -/
theorem dropI_yes (g b : Nat) (l : List (A3 × Value)) (a : A3) (v : Value) (w : World) (h : SpotIs w g (some b) l) (ha : okA a) (hn : getA l a = some v) :
    Calls Try.prog 11 #[.pointer (some ⟨g, 0, none⟩), encA a] w fun e w' => e = .returned (.bool true) ∧ SpotIs w' g (some b) (delA l a) ∧ But2 g (some b) w w' := by
  have hg := fun w h => getI_any g (some b) l a w h ha
  have hglt := h.lt
  have hb0 : Below w.heap.size w (w.alloc (.cells #[.int .i64 a.1, .int .i64 a.2.1, .int .i64 a.2.2] 29)) := (Below.refl _ _).alloc (Nat.le_refl _) _
  have h1 : SpotIs (w.alloc (.cells #[.int .i64 a.1, .int .i64 a.2.1, .int .i64 a.2.2] 29)) g (some b) l := h.below hb0 (Nat.le_refl _)
  have hg1 := hg _ h1
  rw [hn] at hg1
  simp only [Option.getD_some, Option.isSome_some] at hg1
  have hcA : ∀ j, j < 3 → (w.alloc (.cells #[.int .i64 a.1, .int .i64 a.2.1, .int .i64 a.2.2] 29)).cell? ⟨w.heap.size, j, none⟩ = (cellsA a)[j]? := fun j _ => (World.cell?_alloc_at _ _ _ _ rfl).trans (by simp [cellsA])
  have hcB : (w.alloc (.cells #[.int .i64 a.1, .int .i64 a.2.1, .int .i64 a.2.2] 29)).heap.size = w.heap.size + 1 := by simp
  have HG := Lib.hid hg1
  have H := Lib.hid h
  have H1 := Lib.hid h1
  have HCA := Lib.hid hcA
  have HCB := Lib.hid hcB
  have HB0 := Lib.hid hb0
  clear hg h h1 hn hg1 hcA hcB hb0
  unfold encA at HG ⊢
  go_enter Try.func11, Try.ntmps11
  go_upto_region 4 with (go_at_call 12; (with_reducible refine HG.out.mono ?_); rintro e w1 ⟨rfl, hb⟩; have HB := Lib.hid hb; clear hb)
  have hs2 : SpotIs w1 g (some b) l := H1.out.below HB.out (Nat.le_refl _)
  have hx0 : w1.cell? ⟨w.heap.size, 0, none⟩ = some (.int .i64 a.1) := (HB.out.cell (p := ⟨w.heap.size, 0, none⟩) (by rw [HCB.out]; exact Nat.lt_succ_self _)).trans (HCA.out 0 (by omega))
  have hx1 : w1.cell? ⟨w.heap.size, 1, none⟩ = some (.int .i64 a.2.1) := (HB.out.cell (p := ⟨w.heap.size, 1, none⟩) (by rw [HCB.out]; exact Nat.lt_succ_self _)).trans (HCA.out 1 (by omega))
  have hx2 : w1.cell? ⟨w.heap.size, 2, none⟩ = some (.int .i64 a.2.2) := (HB.out.cell (p := ⟨w.heap.size, 2, none⟩) (by rw [HCB.out]; exact Nat.lt_succ_self _)).trans (HCA.out 2 (by omega))
  have hc := hs2.cell
  obtain ⟨o', ho', hdel⟩ := (hs2.some b rfl).del Try.underlying56 ha 0
  have hp : ∀ ty, (Builtin.delete_ #[56, 29] ty #[.map (some b), .agg #[.int .i64 a.1, .int .i64 a.2.1, .int .i64 a.2.2]]).run Try.prog w1.drew = .ok (.tuple #[]) (setBlock w1.drew b o') := fun ty => hdel _ rfl
  have HS2 := Lib.hid hs2
  have HO := Lib.hid ho'
  have hwb : Below w.heap.size w w1 := HB0.out.trans (HB.out.mono (by rw [HCB.out]; omega))
  have HWB := Lib.hid hwb
  clear hs2 hdel ho' hwb
  go_wp2
  go_region
  go_wp2
  go_ret
  obtain ⟨s1, s2⟩ := H.out.after (W := w1.drew) HWB.out.drew HO.out
  exact ⟨rfl, s1, s2⟩
end Go.Proofs.Ytobkbbbdddllmaa
