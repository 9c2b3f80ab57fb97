import Derived.Test.YtfploeefmnbpcaaGreatG08
import Derived.Deep.QuietTactic
import Derived.Carry
import Derived.Deep.DeepCutAuto
import Derived.Test.YtfploeefmnbpcaaGreatG11
import Derived.RangeFuncBound
import Derived.RangeFuncNested
import Derived.RangeFuncLeaves
import Derived.Shelf.Abstract
import Derived.Shelf.AbstractIn
import Derived.OwnWalkIn
import Derived.TacticsInMore
import Derived.RegionIn
import Derived.LoopNIn
import Derived.LoopIn
import Derived.Sort.MapsRangeIn
/- Package spot at string: New, Set, Get, Drop, Len. -/
namespace Go.Proofs.YtfploeefmnbpcaaGreat
open Go.RowKit Mp Go.ChangeMaps

theorem zeroS : ∀ W : World, (zeroValue 9).run Tryz.prog W = .ok (.string { data := #[] }) W := fun W => by kernel_rfl

theorem isNilS_some (b : Nat) : ∀ W : World, Sem.run Tryz.prog (binOp BinOp.eql 124 (.map (some b)) (.map none)) W = .ok (.bool false) W := fun W => by kernel_rfl
theorem isNilS_none : ∀ W : World, Sem.run Tryz.prog (binOp BinOp.eql 124 (.map none) (.map none)) W = .ok (.bool true) W := fun W => by kernel_rfl

/-- New. -/
theorem newS (w : World) : Calls Tryz.prog 74 #[] w fun e w' => e = .returned (.pointer (some ⟨w.heap.size, 0, none⟩)) ∧ SpotIs w' w.heap.size none [] ∧ Below w.heap.size w w' ∧ w'.heap.size = w.heap.size + 1 := by
  go_enter Tryz.func74, Tryz.ntmps74
  go_wp2
  go_ret
  refine ⟨rfl, ⟨?_, ?_, fun _ => rfl, fun b hb => by cases hb⟩, (Below.refl _ _).alloc (Nat.le_refl _) _, by simp⟩
  · rw [World.cell?_alloc_at _ _ _ _ rfl]; rfl
  · exact World.frozen?_alloc_at _ _ _ _ rfl

set_option maxHeartbeats 1000000 in
/-- Set of a nil Map. -/
theorem setS_nil (a : A3) (v : Value) (w : World) : Calls Tryz.prog 75 #[.pointer none, encA a, v] w fun e w' => e = .returned (.tuple #[]) ∧ Below w.heap.size w w' := by
  unfold encA
  go_enter Tryz.func75, Tryz.ntmps75
  go_wp2
  (try simp only [Exit.inBlock, Exit.then])
  refine bodyPost_ret (results_none rfl _ _ _) rfl ?_
  exact ⟨rfl, (Below.refl _ _).alloc (Nat.le_refl _) _⟩

set_option maxRecDepth 100000 in
set_option maxHeartbeats 1000000 in
/-- Set, where there is a map. -/
theorem setS_some (g b : Nat) (l : List (A3 × Value)) (a : A3) (v : Value) (w : World) (h : SpotIs w g (some b) l) (ha : okA a) :
    Calls Tryz.prog 75 #[.pointer (some ⟨g, 0, none⟩), encA a, v] w fun e w' => e = .returned (.tuple #[]) ∧ SpotIs w' g (some b) ((a, v) :: delA l a) ∧ But2 g (some b) w w' := by
  have hbg := h.ne rfl
  have hblt := h.mblt rfl
  have hglt := h.lt
  have hc := h.cell
  have hm := h.some b rfl
  have hm2 : MapIs EA (w.alloc (.cells #[.int .i64 a.1, .int .i64 a.2.1, .int .i64 a.2.2] 32)) b l := hm.of_block (Below.heap_alloc _ _ _ hblt)
  obtain ⟨o', ho', hput⟩ := hm2.put Tryz.underlying124 ha v
  have hnil := isNilS_some b
  have hp : (Instr.mapUpdate 124 (.map (some b)) (.agg #[.int .i64 a.1, .int .i64 a.2.1, .int .i64 a.2.2]) v).run Tryz.prog (w.alloc (.cells #[.int .i64 a.1, .int .i64 a.2.1, .int .i64 a.2.2] 32)).drew = .ok () (setBlock (w.alloc (.cells #[.int .i64 a.1, .int .i64 a.2.1, .int .i64 a.2.2] 32)).drew b o') := hput _ rfl
  have H := Lib.hid h
  have HO := Lib.hid ho'
  clear h hm hm2 hput ho'
  unfold encA
  go_enter Tryz.func75, Tryz.ntmps75
  go_wp2
  go_region
  go_end0
  obtain ⟨s1, s2⟩ := H.out.after (W := (w.alloc (.cells #[.int .i64 a.1, .int .i64 a.2.1, .int .i64 a.2.2] 32)).drew) ((Below.refl _ _).alloc (Nat.le_refl _) _).drew HO.out
  exact ⟨rfl, s1, s2⟩

set_option maxRecDepth 100000 in
set_option maxHeartbeats 1000000 in
/-- Set, where no map has been made yet. -/
theorem setS_none (g : Nat) (l : List (A3 × Value)) (a : A3) (v : Value) (w : World) (h : SpotIs w g none l) (ha : okA a) :
    Calls Tryz.prog 75 #[.pointer (some ⟨g, 0, none⟩), encA a, v] w fun e w' => e = .returned (.tuple #[]) ∧ ∃ b, w.heap.size ≤ b ∧ SpotIs w' g (some b) ((a, v) :: delA l a) ∧ But2 g none w w' := by
  have hglt := h.lt
  have hc := h.cell
  have hf := h.free
  have hl := h.none rfl
  subst hl
  obtain ⟨W2, hW2⟩ : ∃ W2, (((w.setCell ⟨g, 0, none⟩ (.map (some (w.heap.size + 1)))).alloc (.cells #[.int .i64 a.1, .int .i64 a.2.1, .int .i64 a.2.2] 32)).alloc (.map #[] 0)) = W2 := ⟨_, rfl⟩
  have hsz : W2.heap.size = w.heap.size + 2 := by rw [← hW2]; simp
  have hm2 : MapIs EA W2 (w.heap.size + 1) [] := by
    rw [← hW2]
    have := made EA ((w.setCell ⟨g, 0, none⟩ (.map (some (w.heap.size + 1)))).alloc (.cells #[.int .i64 a.1, .int .i64 a.2.1, .int .i64 a.2.2] 32))
    rwa [World.size_alloc, World.size_setCell] at this
  obtain ⟨o', ho', hput⟩ := hm2.put Tryz.underlying124 ha v
  have hnil := isNilS_none
  have hp : (Instr.mapUpdate 124 (.map (some (w.heap.size + 1))) (.agg #[.int .i64 a.1, .int .i64 a.2.1, .int .i64 a.2.2]) v).run Tryz.prog (((w.setCell ⟨g, 0, none⟩ (.map (some (w.heap.size + 1)))).alloc (.cells #[.int .i64 a.1, .int .i64 a.2.1, .int .i64 a.2.2] 32)).alloc (.map #[] 0)).drew = .ok () (setBlock (((w.setCell ⟨g, 0, none⟩ (.map (some (w.heap.size + 1)))).alloc (.cells #[.int .i64 a.1, .int .i64 a.2.1, .int .i64 a.2.2] 32)).alloc (.map #[] 0)).drew (w.heap.size + 1) o') := hput _ (by rw [← hW2]; rfl)
  have hb2 : But2 g none w W2 := by rw [← hW2]; exact (((But2.refl g none w).setCell 0 none _).alloc _).alloc _
  have hc2 : W2.cell? ⟨g, 0, none⟩ = some (.map (some (w.heap.size + 1))) := by
    rw [← hW2, World.cell?_alloc_old _ _ _ (by simp; omega), World.cell?_alloc_old _ _ _ (by simp; omega)]
    refine World.cell?_setCell_same' _ _ _ ?_
    rw [hc]; rfl
  have hf2 : W2.frozen? ⟨g, 0, none⟩ = false := by
    rw [← hW2, World.frozen?_alloc_old _ _ _ (by simp; omega), World.frozen?_alloc_old _ _ _ (by simp; omega), World.frozen?_setCell, hf]
  have HS := Lib.hid (show SpotIs W2 g (some (w.heap.size + 1)) [] from ⟨hc2, hf2, fun e => (by cases e), fun b e => by cases e; exact hm2⟩)
  have HO := Lib.hid ho'
  have HB2 := Lib.hid hb2
  have HW2 := Lib.hid hW2
  have HSZ := Lib.hid hsz
  have hmm := @run_makeMap Tryz.prog
  clear h hm2 hput ho' hb2 hc2 hf2 hsz hW2
  unfold encA
  go_enter Tryz.func75, Tryz.ntmps75
  go_wp2
  go_region
  go_end0
  have hW := HW2.out
  obtain ⟨s1, s2⟩ := HS.out.after (W := W2.drew) (Below.refl _ _).drew HO.out
  rw [← hW] at s1 s2
  refine ⟨rfl, w.heap.size + 1, by omega, s1, ?_⟩
  have h3 := HB2.out.trans (⟨rfl, rfl, rfl, Nat.le_refl _, fun _ _ _ _ => rfl⟩ : But2 g none W2 W2.drew)
  rw [← hW] at h3
  exact h3.setBlock (.inr (by omega)) _

set_option maxHeartbeats 1000000 in
/-- Get of a nil Map. -/
theorem getS_nil (a : A3) (w : World) : Calls Tryz.prog 76 #[.pointer none, encA a] w fun e w' => e = .returned (.tuple #[(.string { data := #[] }), .bool false]) ∧ Below w.heap.size w w' := by
  unfold encA
  go_enter Tryz.func76, Tryz.ntmps76
  go_wp2
  (try simp only [Exit.inBlock, Exit.then])
  exact bodyPost_ret (v := .tuple #[(.string { data := #[] }), .bool false]) (by simp [results, Tryz.results76, go_sem]) rfl ⟨rfl, ((Below.refl _ _).alloc (Nat.le_refl _) _).alloc (by simp) _⟩

set_option maxRecDepth 100000 in
set_option maxHeartbeats 1000000 in
/-- Get. -/
theorem getS_any (g : Nat) (mb : Option Nat) (l : List (A3 × Value)) (a : A3) (w : World) (h : SpotIs w g mb l) (ha : okA a) :
    Calls Tryz.prog 76 #[.pointer (some ⟨g, 0, none⟩), encA a] w fun e w' => e = .returned (.tuple #[(getA l a).getD (.string { data := #[] }), .bool (getA l a).isSome]) ∧ Below w.heap.size w w' := by
  have hglt := h.lt
  have hc := h.cell
  have hlook : ∀ n, (Instr.lookup 124 (.map mb) (.agg #[.int .i64 a.1, .int .i64 a.2.1, .int .i64 a.2.2]) true).run Tryz.prog ((w.alloc (.cells #[.int .i64 a.1, .int .i64 a.2.1, .int .i64 a.2.2] 32)).drewN n) = .ok (.tuple #[(getA l a).getD (.string { data := #[] }), .bool (getA l a).isSome]) ((w.alloc (.cells #[.int .i64 a.1, .int .i64 a.2.1, .int .i64 a.2.2] 32)).drewN n) := by
    intro n
    cases mb with
    | none =>
      have hl := h.none rfl
      subst hl
      obtain ⟨lit, hlit⟩ := EA.has a ha
      exact Maps.look_nil true EA.law Tryz.underlying124 (zeroS _) hlit
    | some b =>
      exact (h.some b rfl).look Tryz.underlying124 ha zeroS true _ (Below.heap_alloc _ _ _ (h.mblt rfl))
  clear h
  generalize (getA l a).getD (.string { data := #[] }) = r, (getA l a).isSome = s at hlook ⊢
  unfold encA
  go_enter Tryz.func76, Tryz.ntmps76
  go_wp2
  go_quiet (fail)
  go_wp2
  (try simp only [Exit.inBlock, Exit.then])
  exact bodyPost_ret (v := .tuple #[r, .bool s]) (by simp [results, Tryz.results76, go_sem]) rfl ⟨rfl, below_drewN ((Below.refl _ _).alloc (Nat.le_refl _) _) _⟩

/-- Len of a nil Map. -/
theorem lenS_nil (w : World) : Calls Tryz.prog 79 #[.pointer none] w fun e w' => e = .returned (.int .i64 0) ∧ w = w' := by
  go_enter Tryz.func79, Tryz.ntmps79
  go_wp2
  go_ret
  exact ⟨rfl, rfl⟩

set_option maxRecDepth 100000 in
/-- Len. -/
theorem lenS_any (g : Nat) (mb : Option Nat) (l : List (A3 × Value)) (w : World) (h : SpotIs w g mb l) :
    Calls Tryz.prog 79 #[.pointer (some ⟨g, 0, none⟩)] w fun e w' => e = .returned (.int .i64 (l.length : Nat)) ∧ w = w' := by
  have hc := h.cell
  have hlen : ∀ ty, (Builtin.len_ #[124] ty #[.map mb]).run Tryz.prog w = .ok (.int .i64 (l.length : Nat)) w := by
    intro ty
    cases mb with
    | none =>
      have hl := h.none rfl
      subst hl
      exact Maps.len_nil Tryz.underlying124 ty
    | some b => exact (h.some b rfl).len Tryz.underlying124 ty w rfl
  clear h
  generalize l.length = r at hlen ⊢
  go_enter Tryz.func79, Tryz.ntmps79
  go_wp2
  go_ret
  exact ⟨rfl, rfl⟩

set_option maxHeartbeats 1000000 in
/-- Drop of a nil Map. -/
theorem dropS_nil (a : A3) (w : World) : Calls Tryz.prog 81 #[.pointer none, encA a] w fun e w' => e = .returned (.bool false) ∧ Below w.heap.size w w' := by
  have hg := fun w => getS_nil a w
  unfold encA at hg ⊢
  go_enter Tryz.func81, Tryz.ntmps81
  go_wp2_with (go_at_call 76; (with_reducible refine (hg _).mono ?_); rintro e w1 ⟨rfl, hb⟩)
  go_ret
  exact ⟨rfl, ((Below.refl _ _).alloc (Nat.le_refl _) _).trans (hb.mono (by simp))⟩

set_option maxRecDepth 100000 in
set_option maxHeartbeats 1000000 in
/-- Drop of what is not there. -/
theorem dropS_no (g : Nat) (mb : Option Nat) (l : List (A3 × Value)) (a : A3) (w : World) (h : SpotIs w g mb l) (ha : okA a) (hn : getA l a = none) :
    Calls Tryz.prog 81 #[.pointer (some ⟨g, 0, none⟩), encA a] w fun e w' => e = .returned (.bool false) ∧ Below w.heap.size w w' := by
  have hg := fun w h => getS_any g mb l a w h ha
  have h1 : SpotIs (w.alloc (.cells #[.int .i64 a.1, .int .i64 a.2.1, .int .i64 a.2.2] 32)) g mb l := h.below ((Below.refl _ _).alloc (Nat.le_refl _) _) (Nat.le_refl _)
  have hg1 := hg _ h1
  rw [hn] at hg1
  simp only [Option.getD_none, Option.isSome_none] at hg1
  have HG := Lib.hid hg1
  clear hg h h1 hn hg1
  unfold encA at HG ⊢
  go_enter Tryz.func81, Tryz.ntmps81
  go_wp2_with (go_at_call 76; (with_reducible refine HG.out.mono ?_); rintro e w1 ⟨rfl, hb⟩)
  go_ret
  exact ⟨rfl, ((Below.refl _ _).alloc (Nat.le_refl _) _).trans (hb.mono (by simp))⟩

set_option maxRecDepth 100000 in
set_option maxHeartbeats 1000000 in
/-- Drop of what is there. -/
theorem dropS_yes (g b : Nat) (l : List (A3 × Value)) (a : A3) (v : Value) (w : World) (h : SpotIs w g (some b) l) (ha : okA a) (hn : getA l a = some v) :
    Calls Tryz.prog 81 #[.pointer (some ⟨g, 0, none⟩), encA a] w fun e w' => e = .returned (.bool true) ∧ SpotIs w' g (some b) (delA l a) ∧ But2 g (some b) w w' := by
  have hg := fun w h => getS_any g (some b) l a w h ha
  have hglt := h.lt
  have hb0 : Below w.heap.size w (w.alloc (.cells #[.int .i64 a.1, .int .i64 a.2.1, .int .i64 a.2.2] 32)) := (Below.refl _ _).alloc (Nat.le_refl _) _
  have h1 : SpotIs (w.alloc (.cells #[.int .i64 a.1, .int .i64 a.2.1, .int .i64 a.2.2] 32)) g (some b) l := h.below hb0 (Nat.le_refl _)
  have hg1 := hg _ h1
  rw [hn] at hg1
  simp only [Option.getD_some, Option.isSome_some] at hg1
  have hcA : ∀ j, j < 3 → (w.alloc (.cells #[.int .i64 a.1, .int .i64 a.2.1, .int .i64 a.2.2] 32)).cell? ⟨w.heap.size, j, none⟩ = (cellsA a)[j]? := fun j _ => (World.cell?_alloc_at _ _ _ _ rfl).trans (by simp [cellsA])
  have hcB : (w.alloc (.cells #[.int .i64 a.1, .int .i64 a.2.1, .int .i64 a.2.2] 32)).heap.size = w.heap.size + 1 := by simp
  have HG := Lib.hid hg1
  have H := Lib.hid h
  have H1 := Lib.hid h1
  have HCA := Lib.hid hcA
  have HCB := Lib.hid hcB
  have HB0 := Lib.hid hb0
  clear hg h h1 hn hg1 hcA hcB hb0
  unfold encA at HG ⊢
  go_enter Tryz.func81, Tryz.ntmps81
  go_upto_region 4 with (go_at_call 76; (with_reducible refine HG.out.mono ?_); rintro e w1 ⟨rfl, hb⟩; have HB := Lib.hid hb; clear hb)
  have hs2 : SpotIs w1 g (some b) l := H1.out.below HB.out (Nat.le_refl _)
  have hx0 : w1.cell? ⟨w.heap.size, 0, none⟩ = some (.int .i64 a.1) := (HB.out.cell (p := ⟨w.heap.size, 0, none⟩) (by rw [HCB.out]; exact Nat.lt_succ_self _)).trans (HCA.out 0 (by omega))
  have hx1 : w1.cell? ⟨w.heap.size, 1, none⟩ = some (.int .i64 a.2.1) := (HB.out.cell (p := ⟨w.heap.size, 1, none⟩) (by rw [HCB.out]; exact Nat.lt_succ_self _)).trans (HCA.out 1 (by omega))
  have hx2 : w1.cell? ⟨w.heap.size, 2, none⟩ = some (.int .i64 a.2.2) := (HB.out.cell (p := ⟨w.heap.size, 2, none⟩) (by rw [HCB.out]; exact Nat.lt_succ_self _)).trans (HCA.out 2 (by omega))
  have hc := hs2.cell
  obtain ⟨o', ho', hdel⟩ := (hs2.some b rfl).del Tryz.underlying124 ha 0
  have hp : ∀ ty, (Builtin.delete_ #[124, 32] ty #[.map (some b), .agg #[.int .i64 a.1, .int .i64 a.2.1, .int .i64 a.2.2]]).run Tryz.prog w1.drew = .ok (.tuple #[]) (setBlock w1.drew b o') := fun ty => hdel _ rfl
  have HS2 := Lib.hid hs2
  have HO := Lib.hid ho'
  have hwb : Below w.heap.size w w1 := HB0.out.trans (HB.out.mono (by rw [HCB.out]; omega))
  have HWB := Lib.hid hwb
  clear hs2 hdel ho' hwb
  go_wp2
  go_region
  go_wp2
  go_ret
  obtain ⟨s1, s2⟩ := H.out.after (W := w1.drew) HWB.out.drew HO.out
  exact ⟨rfl, s1, s2⟩
end Go.Proofs.YtfploeefmnbpcaaGreat

/- Package spot at string: Block. -/
namespace Go.Proofs.YtfploeefmnbpcaaGreat
open Go.RowKit Mp Go.ChangeMaps

/-- Block of a nil Map. -/
theorem blockS_nil (die blk : Int) (w : World) : Calls Tryz.prog 80 #[.pointer none, .int .i64 die, .int .i64 blk] w fun e w' => e = .returned (.slice none 0 0) ∧ w = w' := by
  go_enter Tryz.func80, Tryz.ntmps80
  go_wp2
  go_ret
  exact ⟨rfl, rfl⟩

set_option maxRecDepth 100000 in
set_option maxHeartbeats 4000000 in
/-- Block. -/
theorem blockS_some (g b : Nat) (l : List (A3 × Value)) (die blk : Int) (w : World) (h : SpotIs w g (some b) l) (hn : l.length < 100000) :
    Calls Tryz.prog 80 #[.pointer (some ⟨g, 0, none⟩), .int .i64 die, .int .i64 blk] w fun e w' => ∃ v, e = .returned v ∧ SliceA w.heap.size w' v (sortL (pick die blk l)) ∧ Below w.heap.size w w' := by
  have hc := h.cell
  have hm := h.some b rfl
  have hblt := h.mblt rfl
  have HM := Lib.hid hm
  clear h
  obtain ⟨i0, hi, hz0, hz1, hz2⟩ := info_parts infoA
  go_enter Tryz.func80, Tryz.ntmps80
  go_wp2_with (first
    | (at_range; refine wpList_range _ rfl _ 124 rfl 9 Tryz.underlying124 b rfl hm ?_; intro w0 hrg0 hg0 hs0)
    | go_in)
  go_frame
  go_loopw [7] (fun v wr => ∃ (left : List (A3 × Value)) (xs : List A3), RangeIs EA wr b w.heap.size l left ∧ wr.ownsRow (w.heap.size + 1) 32 3 v xs.length (xs.flatMap cellsA) ∧ Hid ((xs ++ pick die blk left).Perm (pick die blk l)) ∧ xs.length + left.length ≤ l.length ∧ Below w.heap.size w wr ∧ w.heap.size + 1 ≤ wr.heap.size)
    (fun _ wr => wr.rangeLeft b w.heap.size)
  case atStart =>
    refine ⟨l, [], hrg0, World.ownsRow_nil _ _ _ _, Lib.hid (by simp), by simp, ⟨hg0.os, hg0.tape, hg0.output, hg0.size, fun k hk => hg0.block k hk (by simp)⟩, by omega⟩
  case round =>
    obtain ⟨left, xs, hrg, how, hpm, hcnt, hbel, hsz⟩ := hrel
    go_wp2_with (first
      | (at_next; refine wpList_nextA _ rfl _ rfl b w.heap.size left rfl hrg ?_ ?_)
      | go_in)
    · intro hl0
      subst hl0
      have hS : SliceA (w.heap.size + 1) wr u7 xs := SliceA.of_owns how
      have hxs : xs.Perm (pick die blk l) := by simpa [pick] using hpm.out
      have hsort := sort_any (w.heap.size + 1) wr u7 xs hS (by omega)
      have hown : ∀ k, u7.ownBlock = some k → w.heap.size + 1 ≤ k := fun k hk => (how.lt k hk).1
      have HS := Lib.hid hsort
      have HX := Lib.hid hxs
      have HB := Lib.hid hbel
      have HO := Lib.hid hown
      clear hS hxs hsort hbel hown how
      go_wp2_with (go_at_call 93; (with_reducible refine HS.out.mono ?_); rintro e w3 ⟨rfl, hs3, hg3⟩; have HS3 := Lib.hid hs3; have HG3 := Lib.hid hg3; clear hs3 hg3)
      go_ret
      have e2 : sortL xs = sortL (pick die blk l) := sortL_of_perm HX.out
      refine ⟨_, rfl, by rw [← e2]; exact HS3.out.base (by omega), HB.out.grown HG3.out HB.out.size (fun k hk => by have := HO.out k hk; omega)⟩
    · intro x y z v left' w1 hp1 hrg1 hg1 hs1 hen
      have hlen : left.length = left'.length + 1 := by have := hp1.length_eq; simpa using this
      have how1 := how.kept hg1 (ownsRow_ne how (Nat.lt_succ_self _))
      have hbel1 : Below w.heap.size w w1 := hbel.grown hg1 hbel.size (fun k e => by cases e; exact Nat.le_refl _)
      have HRG1 := Lib.hid hrg1
      have HBEL1 := Lib.hid hbel1
      have HOW1 := Lib.hid how1
      have HP1 := Lib.hid hp1
      have HLEN := Lib.hid hlen
      have HRG := Lib.hid hrg
      clear how hrg hrg1 hg1 how1 hbel hbel1 hp1 hlen
      have keep : ∀ W, Below w1.heap.size w1 W → RangeIs EA W b w.heap.size l left' ∧ W.rangeLeft b w.heap.size < wr.rangeLeft b w.heap.size := fun W hW => by
        have h1 : RangeIs EA W b w.heap.size l left' := HRG1.out.of_blocks (hW.block b HRG1.out.map.lt) (hW.block _ HRG1.out.lt)
        exact ⟨h1, by rw [h1.left, HRG.out.left, HLEN.out]; omega⟩
      have KEEP := Lib.hid keep
      clear keep
      by_cases hx : x = die
      · subst hx
        by_cases hy : y = blk
        · subst hy
          have how2 : ((w1.alloc (.cells #[.int .i64 x, .int .i64 y, .int .i64 z] 32)).alloc (.cells #[.int .i64 x, .int .i64 y, .int .i64 z] 32)).ownsRow (w.heap.size + 1) 32 3 u7 xs.length (xs.flatMap cellsA) := (HOW1.out.alloc _).alloc _
          have hnews : ∀ j u, (cellsA (x, y, z))[j]? = some u → ((w1.alloc (.cells #[.int .i64 x, .int .i64 y, .int .i64 z] 32)).alloc (.cells #[.int .i64 x, .int .i64 y, .int .i64 z] 32)).cell? ((⟨wr.heap.size + 1, 0, none⟩ : Addr).add j) = some u := fun j u hu => by
            have e : (⟨wr.heap.size + 1, 0, none⟩ : Addr).add j = ⟨(w1.alloc (.cells #[.int .i64 x, .int .i64 y, .int .i64 z] 32)).heap.size, j, none⟩ := by
              simp only [Addr.add, World.size_alloc, hs1, Nat.zero_add]
              split <;> simp_all
            rw [e, World.cell?_alloc_at _ _ _ _ rfl]
            simpa [cellsA] using hu
          have hcap : xs.length + 1 ≤ 100000 := by have := HLEN.out; omega
          go_wp2_with (first
            | (at_builtin; refine wpList_append_own _ rfl _ _ 110 rfl (w.heap.size + 1) 32 i0 _ 3 24 Tryz.underlying110 hi hz0 hz1 hz2 rfl (by decide) _ _ _ rfl how2 ⟨wr.heap.size + 1, 0, none⟩ 1 1 (cellsA (x, y, z)) rfl rfl hnews (by simp [cellsA, Value.oneCell']) (by unfold maxLen; omega) (by omega) (by simp; omega) ?_; intro v' w2 how' hgrow hnil)
            | go_in)
          have hB2 : Below (w.heap.size + 1) w1 w2 := (((Below.refl _ w1).alloc (by omega) _).alloc (by simp; omega) _).grown hgrow (by simp; omega) (fun k hk => (HOW1.out.lt k hk).1)
          have hR2 : RangeIs EA w2 b w.heap.size l left' := HRG1.out.of_blocks (hB2.block b (by omega)) (hB2.block _ (by omega))
          go_roundw
          case rel => exact ⟨left', xs ++ [(x, y, z)], hR2, by simpa using how', Lib.hid (pick_yes hpm.out HP1.out), by have := HLEN.out; simp; omega, HBEL1.out.trans (hB2.mono (by omega)), by have := hB2.size; omega⟩
          case measure => rw [hR2.left, HRG.out.left, HLEN.out]; omega
        · have hb : (y == blk) = false := by simpa using hy
          go_wp2
          go_roundw
          case rel => exact ⟨left', xs, (KEEP.out _ ((Below.refl _ _).alloc (Nat.le_refl _) _)).1, HOW1.out.alloc _, Lib.hid (pick_no hpm.out HP1.out (.inr hy)), by have := HLEN.out; omega, HBEL1.out.alloc HBEL1.out.size _, by simp; omega⟩
          case measure => exact (KEEP.out _ ((Below.refl _ _).alloc (Nat.le_refl _) _)).2
      · have hb : (x == die) = false := by simpa using hx
        go_wp2
        go_roundw
        case rel => exact ⟨left', xs, (KEEP.out _ ((Below.refl _ _).alloc (Nat.le_refl _) _)).1, HOW1.out.alloc _, Lib.hid (pick_no hpm.out HP1.out (.inl hx)), by have := HLEN.out; omega, HBEL1.out.alloc HBEL1.out.size _, by simp; omega⟩
        case measure => exact (KEEP.out _ ((Below.refl _ _).alloc (Nat.le_refl _) _)).2

set_option maxRecDepth 100000 in
set_option maxHeartbeats 1000000 in
/-- Block, where no map has been made yet. -/
theorem blockS_none (g : Nat) (l : List (A3 × Value)) (die blk : Int) (w : World) (h : SpotIs w g none l) :
    Calls Tryz.prog 80 #[.pointer (some ⟨g, 0, none⟩), .int .i64 die, .int .i64 blk] w fun e w' => ∃ v, e = .returned v ∧ SliceA w.heap.size w' v (sortL (pick die blk l)) ∧ Below w.heap.size w w' := by
  have hc := h.cell
  have hl := h.none rfl
  subst hl
  clear h
  have hr := run_range_nilMap (P := Tryz.prog) w 124 32 9 Tryz.underlying124
  have hnx := fun ty => run_next_nilMap (P := Tryz.prog) w ty 0 0 #[]
  have hsort := sort_any w.heap.size (w.alloc (.mapIter none 0 #[] 0)) (.slice none 0 0) [] (.inl ⟨rfl, rfl⟩) (by simp)
  have HS := Lib.hid hsort
  clear hsort
  go_enter Tryz.func80, Tryz.ntmps80
  go_wp2
  refine wp_loop_rounds 1 ?_
  rw [rounds_succ]
  go_wp2_with (go_at_call 93; (with_reducible refine HS.out.mono ?_); rintro e w3 ⟨rfl, hs3, hg3⟩; have HS3 := Lib.hid hs3; have HG3 := Lib.hid hg3; clear hs3 hg3)
  go_ret
  exact ⟨_, rfl, by simpa [pick] using HS3.out, ((Below.refl _ _).alloc (Nat.le_refl _) _).grown HG3.out (by simp) (fun k hk => by cases hk)⟩

/-- Block. -/
theorem blockS_any (g : Nat) (mb : Option Nat) (l : List (A3 × Value)) (die blk : Int) (w : World) (h : SpotIs w g mb l) (hn : l.length < 100000) :
    Calls Tryz.prog 80 #[.pointer (some ⟨g, 0, none⟩), .int .i64 die, .int .i64 blk] w fun e w' => ∃ v, e = .returned v ∧ SliceA w.heap.size w' v (sortL (pick die blk l)) ∧ Below w.heap.size w w' := by
  cases mb with
  | none => exact blockS_none g l die blk w h
  | some b => exact blockS_some g b l die blk w h hn
end Go.Proofs.YtfploeefmnbpcaaGreat

/- slices.AppendSeq, Collect and SortedFunc of places, against whatever iterator. -/
namespace Go.Proofs.YtfploeefmnbpcaaGreat
open Go.RowKit Mp Go.Shelf
set_option linter.unusedVariables false

/-- What AppendSeq's loop assigns in each round, and what it does there: read off the code. -/
noncomputable def apParts : Code × Code :=
  match Tryz.f122.body with
  | some (.seq _ (.seq (.seq _ (.block _ (.rangeFunc _ _ a b))) _)) => (a, b)
  | _ => (.ret, .ret)
noncomputable def apAssign : Code := apParts.1
noncomputable def apBody : Code := apParts.2
/-- The loop's record. -/
noncomputable def apRec (fn : FuncId) (sv : Value) (Bs D : Nat) (st : LoopState) (pend : Option Code) : Loop :=
  { state := st, pending := pend, fn, tmps := #[.slice none 0 0, sv, .pointer (some ⟨Bs, 0, none⟩), undef, .slice none 0 0, undef, sv, undef, undef, undef, undef, undef, undef], params := #[7], assign := apAssign, body := apBody, defers := D }

/-- Between two rounds. -/
structure ApAt (w0 : World) (fn : FuncId) (sv : Value) (Bs l D : Nat) (ss : List A3) (W : World) : Prop where
  box : ∃ v, W.heap[Bs]? = some (.cells #[v] 110 (0, 0)) ∧ W.ownsRow w0.heap.size 32 3 v ss.length (ss.flatMap cellsA) ∧ (v = .slice none 0 0 ↔ ss = [])
  L : W.heap[l]? = some (.loop (apRec fn sv Bs D .ready none))
  K : W.heap[D]? = some (.deferred (some []))
  below : Below w0.heap.size w0 W

theorem ownsRow_abides_p {W W' : World} {row : Option Nat} {base : Nat} {e : TypeId} {size : Nat} {v : Value} {k : Nat} {xs : List Value} (h : W.ownsRow base e size v k xs) (hg : W.grownBy W' row)
    (hrow : ∀ r, row = some r → ∃ o : Obj, W.heap[r]? = some o ∧ o.isWalk = true) : W'.ownsRow base e size v k xs := by
  refine h.kept hg ?_
  rcases h.2 with ⟨rfl, _⟩ | ⟨g, cap, cur, rfl, _, hgb, _⟩
  · exact .inl rfl
  · refine .inr fun e' => ?_
    obtain ⟨o, ho, hw⟩ := hrow g (by simpa [Value.ownBlock] using e'.symm)
    rw [hgb] at ho; cases ho; cases hw

theorem ap_abides (w0 : World) (fn : FuncId) (sv : Value) (Bs l D B : Nat) (hB : w0.heap.size ≤ B) : AbidesFrom B (ApAt w0 fn sv Bs l D) := fun s W W' row h hg hrow => by
  have hrow' : ∀ r, row = some r → ∃ o : Obj, W.heap[r]? = some o ∧ o.isWalk = true := fun r e => (hrow r e).2
  obtain ⟨v, hv, hr, hn⟩ := h.box
  exact ⟨⟨v, (grownBy_keeps hg hrow' hv rfl).trans hv, ownsRow_abides_p hr hg hrow', hn⟩, (grownBy_keeps hg hrow' h.L rfl).trans h.L, (grownBy_keeps hg hrow' h.K rfl).trans h.K,
    h.below.grown hg h.below.size (fun k e => Nat.le_trans hB (hrow k e).1)⟩

theorem grownBy_putObj_p (W : World) (l : Nat) (o : Obj) : W.grownBy (W.putObj l o) (some l) :=
  ⟨rfl, rfl, rfl, by simp, fun k _ hk => World.putObj_heap_other (fun e => hk (by rw [e]))⟩
theorem grownBy_setCell0_p (W : World) (b : Nat) (v : Value) : W.grownBy (W.setCell ⟨b, 0, none⟩ v) (some b) :=
  ⟨rfl, rfl, rfl, (KeepsWalks.setCell W _ v).size, fun k _ hk => Below.heap_setCell _ _ _ k (fun e => hk (by rw [e]))⟩
theorem ownsRow_ne_p {W : World} {base : Nat} {e : TypeId} {size : Nat} {v : Value} {k : Nat} {xs : List Value} (h : W.ownsRow base e size v k xs) {j : Nat} {o : Obj} (hj : W.heap[j]? = some o) (hno : ∀ cur, o ≠ .cells cur e (0, 0)) :
    v.ownBlock = none ∨ v.ownBlock ≠ some j := by
  rcases h.2 with ⟨rfl, _⟩ | ⟨g, cap, cur, rfl, _, hgb, _⟩
  · exact .inl rfl
  · refine .inr fun e' => ?_
    have : g = j := by simpa [Value.ownBlock] using e'
    subst this; rw [hgb] at hj; cases hj; exact hno cur rfl
theorem cell_of_box_p {W : World} {B : Nat} {v : Value} {t : TypeId} (h : W.heap[B]? = some (.cells #[v] t (0, 0))) : W.cell? ⟨B, 0, none⟩ = some v ∧ W.frozen? ⟨B, 0, none⟩ = false := by
  constructor <;> simp [World.cell?, World.frozen?, h]
theorem heap_setCell_box_p {W : World} {B : Nat} {v : Value} {t : TypeId} (v' : Value) (h : W.heap[B]? = some (.cells #[v] t (0, 0))) : (W.setCell ⟨B, 0, none⟩ v').heap[B]? = some (.cells #[v'] t (0, 0)) := by
  obtain ⟨hlt, hk⟩ := Array.getElem?_eq_some_iff.1 h
  show (W.heap.modify B _)[B]? = _
  rw [Array.getElem?_eq_getElem (by rw [Array.size_modify]; exact hlt), Array.getElem_modify_self, hk]
  rfl
theorem ownsRow_not_walk_p {W : World} {base : Nat} {e : TypeId} {size : Nat} {v : Value} {k : Nat} {xs : List Value} (h : W.ownsRow base e size v k xs) : ∀ (j : Nat) (o : Obj), v.ownBlock = some j → W.heap[j]? = some o → o.isWalk = false := by
  intro j o hj ho
  rcases h.2 with ⟨rfl, _⟩ | ⟨g, cap, cur, rfl, _, hgb, _⟩
  · simp [Value.ownBlock] at hj
  · have : g = j := by simpa [Value.ownBlock] using hj
    subst this; rw [hgb] at ho; cases ho; rfl

set_option maxRecDepth 100000 in
set_option maxHeartbeats 2000000 in
theorem apYield (F : Fence) (m : Nat) (w0 : World) (fn : FuncId) (hfn : F.fn fn) (sv : Value) (Bs l D : Nat) (hBl : Bs ≠ l) (hDl : D ≠ l) (hDB : D ≠ Bs) (h0B : w0.heap.size ≤ Bs) (h0l : w0.heap.size ≤ l)
    (N : Nat) (hN : N ≤ 100000) (ss : List A3) (a : A3) (W : World) (h : ApAt w0 fn sv Bs l D ss W) (hlen : ss.length < N) :
    YieldAt F m Tryz.prog l #[encA a] W fun e W' => e = .returned (.bool true) ∧ ApAt w0 fn sv Bs l D (ss ++ [a]) W' ∧ KeepsWalks W W' := by
  have hne : (110 : TypeId) ≠ 32 := by decide
  obtain ⟨i0, hi, hz0, hz1, hz2⟩ := info_parts infoA
  obtain ⟨v, hv, hrow, _⟩ := h.box
  obtain ⟨x, y, z⟩ := a
  refine ⟨fn, #[.slice none 0 0, sv, .pointer (some ⟨Bs, 0, none⟩), undef, .slice none 0 0, undef, sv, .agg #[.int .i64 x, .int .i64 y, .int .i64 z], undef, undef, undef, undef, undef], apAssign, apBody, by simpa [apRec, encA] using run_yield (P := Tryz.prog) (args := #[encA (x, y, z)]) h.L rfl, roundIn_of_wpIn hfn ?_⟩
  have hl0 : l < W.heap.size := (Array.getElem?_eq_some_iff.1 h.L).1
  obtain ⟨Wb, hWb⟩ : ∃ Wb, W.alloc (.cells #[.int .i64 x, .int .i64 y, .int .i64 z] 32) = Wb := ⟨_, rfl⟩
  have hWb' := hWb
  have hgb : W.grownBy Wb none := by rw [← hWb]; exact World.grownBy_alloc _ _ _
  have hkb : KeepsWalks W Wb := by rw [← hWb]; exact KeepsWalks.alloc _ _
  have hsb : Wb.heap.size = W.heap.size + 1 := by rw [← hWb]; simp
  have hxb : ∀ j, Wb.cell? ⟨W.heap.size, j, none⟩ = (cellsA (x, y, z))[j]? := fun j => by rw [← hWb, World.cell?_alloc_at _ _ _ _ rfl]; simp [cellsA]
  have hLb : Wb.heap[l]? = some (.loop (apRec fn sv Bs D .ready none)) := (hgb.block l hl0 (by simp)).trans h.L
  have hvb : Wb.heap[Bs]? = some (.cells #[v] 110 (0, 0)) := (hgb.block Bs (Array.getElem?_eq_some_iff.1 hv).1 (by simp)).trans hv
  have hKb : Wb.heap[D]? = some (.deferred (some [])) := (hgb.block D (Array.getElem?_eq_some_iff.1 h.K).1 (by simp)).trans h.K
  have hrowb : Wb.ownsRow w0.heap.size 32 3 v ss.length (ss.flatMap cellsA) := by rw [← hWb]; exact hrow.alloc _
  have hbb : Below w0.heap.size w0 Wb := h.below.grown hgb h.below.size (fun k e => by cases e)
  have hl : l < Wb.heap.size := by omega
  have hbr := run_beginRound (P := Tryz.prog) hLb rfl
  obtain ⟨W2, hW2⟩ : ∃ W2, Wb.putObj l (.loop { apRec fn sv Bs D .ready none with state := .busy }) = W2 := ⟨_, rfl⟩
  rw [hW2] at hbr
  have hg2 : Wb.grownBy W2 (some l) := by rw [← hW2]; exact grownBy_putObj_p _ _ _
  have hk2 : KeepsWalks W W2 := hkb.trans (by rw [← hW2]; exact KeepsWalks.putObj _ hLb rfl)
  have hs2 : W2.heap.size = W.heap.size + 1 := by rw [← hW2]; simpa using hsb
  have hx2 : ∀ j, W2.cell? ⟨W.heap.size, j, none⟩ = (cellsA (x, y, z))[j]? := fun j => by
    rw [← hxb j]
    exact World.cell?_of_block (a := ⟨W.heap.size, j, none⟩) (hg2.block _ (show W.heap.size < Wb.heap.size by omega) (by simp; omega))
  have hx20 : W2.cell? ⟨W.heap.size, 0, none⟩ = some (.int .i64 x) := hx2 0
  have hx21 : W2.cell? ⟨W.heap.size, 1, none⟩ = some (.int .i64 y) := hx2 1
  have hx22 : W2.cell? ⟨W.heap.size, 2, none⟩ = some (.int .i64 z) := hx2 2
  have hv2 : W2.heap[Bs]? = some (.cells #[v] 110 (0, 0)) := by rw [← hW2]; exact (World.putObj_heap_other hBl).trans hvb
  have hK2 : W2.heap[D]? = some (.deferred (some [])) := by rw [← hW2]; exact (World.putObj_heap_other hDl).trans hKb
  have hL2 : W2.heap[l]? = some (.loop { apRec fn sv Bs D .ready none with state := .busy }) := by rw [← hW2]; exact World.putObj_heap_same hl
  have hrow2 : W2.ownsRow w0.heap.size 32 3 v ss.length (ss.flatMap cellsA) := hrowb.kept hg2 (ownsRow_ne_p hrowb hLb (fun cur e => by cases e))
  have hb2 : Below w0.heap.size w0 W2 := hbb.grown hg2 hbb.size (fun k e => by cases e; exact h0l)
  obtain ⟨hc2, hf2⟩ := cell_of_box_p hv2
  have hBlt : Bs < W2.heap.size := (Array.getElem?_eq_some_iff.1 hv2).1
  have hl2 : l < W2.heap.size := (Array.getElem?_eq_some_iff.1 hL2).1
  have hDlt : D < W2.heap.size := (Array.getElem?_eq_some_iff.1 hK2).1
  have ne_of : ∀ {j : Nat} {o : Obj}, W2.heap[j]? = some o → (∀ cur, o ≠ .cells cur 32 (0, 0)) → some j ≠ v.ownBlock := fun hj hno => by
    rcases ownsRow_ne_p hrow2 hj hno with e | e
    · rw [e]; simp
    · exact fun e' => e e'.symm
  have how2 : (W2.alloc (.cells #[.int .i64 x, .int .i64 y, .int .i64 z] 32)).ownsRow w0.heap.size 32 3 v ss.length (ss.flatMap cellsA) := hrow2.alloc _
  have hnews : ∀ j u, (cellsA (x, y, z))[j]? = some u → (W2.alloc (.cells #[.int .i64 x, .int .i64 y, .int .i64 z] 32)).cell? ((⟨W.heap.size + 1, 0, none⟩ : Addr).add j) = some u := fun j u hu => by
    have e : (⟨W.heap.size + 1, 0, none⟩ : Addr).add j = ⟨W2.heap.size, j, none⟩ := by
      simp only [Addr.add, hs2, Nat.zero_add]
      split <;> simp_all
    rw [e, World.cell?_alloc_at _ _ _ _ rfl]
    simpa [cellsA] using hu
  have HX2 := Lib.hid hx2
  have HXB := Lib.hid hxb
  clear hx2 hxb hsb
  have HWB := Lib.hid hWb'
  clear hW2 hWb hWb'
  dsimp only [apAssign, apParts, Tryz.f122]
  gi_wp2_with (rw [Oper.semAt_eq _ _ _ (fun c h => by cases h)]; go_simp; try go_bits)
  rw [HWB.out]
  refine ⟨W2, hbr, ?_⟩
  dsimp only [apBody, apParts, Tryz.f122]
  gi_wp2_with (first
    | (gi_at_builtin; refine wpListIn_append_own _ rfl _ _ 110 rfl w0.heap.size 32 i0 _ 3 24 Tryz.underlying110 hi hz0 hz1 hz2 rfl (by decide) _ _ _ rfl how2 ⟨W.heap.size + 1, 0, none⟩ 1 1 (cellsA (x, y, z)) rfl rfl hnews (by simp [Value.oneCell', cellsA]) (by unfold maxLen; omega) (by omega) (by have := hb2.size; simp; omega) ?_; intro v' w3 hown' hg3 hnil3
       have hv3 : w3.heap[Bs]? = some (.cells #[v] 110 (0, 0)) := (hg3.block Bs (by simp; omega) (ne_of hv2 (fun cur e => by cases e))).trans ((Below.heap_alloc _ _ Bs hBlt).trans hv2)
       obtain ⟨hc3, hf3⟩ := cell_of_box_p hv3
       obtain ⟨g', cap', cur', rfl, hbase', hgb', hr1, hr2, hr3, hr4⟩ : ∃ g' cap' cur', v' = .slice (some ⟨g', 0, none⟩) (ss.length + 1) cap' ∧ w0.heap.size ≤ g' ∧ w3.heap[g']? = some (.cells cur' 32 (0, 0)) ∧ ss.length + 1 ≤ cap' ∧ cap' ≤ maxLen ∧ cur'.size = cap' * 3 ∧ cur'.toList.take ((ss.length + 1) * 3) = ss.flatMap cellsA ++ cellsA (x, y, z) := by
         rcases hown'.2 with ⟨_, h0⟩ | h'
         · exact absurd h0 (by omega)
         · exact h'
       go_frame)
    | (rw [Oper.semAt_eq _ _ _ (fun c h => by cases h)]; go_simp; try go_bits))
  have hg3' : (W2.alloc (.cells #[.int .i64 x, .int .i64 y, .int .i64 z] 32)).grownBy w3 v.ownBlock := hg3
  have hL3 : w3.heap[l]? = some (.loop { apRec fn sv Bs D .ready none with state := .busy }) := (hg3'.block l (by simp; omega) (ne_of hL2 (fun cur e => by cases e))).trans ((Below.heap_alloc _ _ l hl2).trans hL2)
  have hK3 : w3.heap[D]? = some (.deferred (some [])) := (hg3'.block D (by simp; omega) (ne_of hK2 (fun cur e => by cases e))).trans ((Below.heap_alloc _ _ D hDlt).trans hK2)
  obtain ⟨w4, hw4⟩ : ∃ w4, w3.setCell ⟨Bs, 0, none⟩ (.slice (some ⟨g', 0, none⟩) (ss.length + 1) cap') = w4 := ⟨_, rfl⟩
  rw [hw4]
  have hg4 : w3.grownBy w4 (some Bs) := by rw [← hw4]; exact grownBy_setCell0_p _ _ _
  have hv4 : w4.heap[Bs]? = some (.cells #[.slice (some ⟨g', 0, none⟩) (ss.length + 1) cap'] 110 (0, 0)) := by rw [← hw4]; exact heap_setCell_box_p _ hv3
  have hL4 : w4.heap[l]? = some (.loop { apRec fn sv Bs D .ready none with state := .busy }) := (hg4.block l (Array.getElem?_eq_some_iff.1 hL3).1 (fun e => hBl (by cases e; rfl))).trans hL3
  have hK4 : w4.heap[D]? = some (.deferred (some [])) := (hg4.block D (Array.getElem?_eq_some_iff.1 hK3).1 (fun e => hDB (by cases e; rfl))).trans hK3
  have hrow4 := hown'.kept hg4 (ownsRow_ne_p hown' hv3 (fun cur e => by cases e))
  have hl4 : l < w4.heap.size := (Array.getElem?_eq_some_iff.1 hL4).1
  have hb3 : Below w0.heap.size w0 w3 := (hb2.alloc hb2.size _).grown hg3' (by have := hb2.size; simp; omega) (fun k e => (hrow2.lt k e).1)
  have hb4 : Below w0.heap.size w0 w4 := hb3.grown hg4 hb3.size (fun k e => by cases e; exact h0B)
  have hk4 : KeepsWalks W w4 := ((hk2.trans (KeepsWalks.alloc _ _)).trans (KeepsWalks.of_grownBy hg3' (ownsRow_not_walk_p (hrow2.alloc _)))).trans (by rw [← hw4]; exact KeepsWalks.setCell _ _ _)
  clear hw4
  refine ⟨_, _, run_endRound none hL4, rfl, ⟨⟨_, (World.putObj_heap_other hBl).trans hv4, ?_, by simp⟩, World.putObj_heap_same hl4, (World.putObj_heap_other hDl).trans hK4, hb4.grown (grownBy_putObj_p _ _ _) hb4.size (fun k e => by cases e; exact h0l)⟩, hk4.trans (KeepsWalks.putObj _ hL4 rfl)⟩
  have := hrow4.kept (grownBy_putObj_p w4 l (.loop { { apRec fn sv Bs D .ready none with state := .busy } with state := if (none : Option Code).isNone then .ready else .done, pending := none })) (ownsRow_ne_p hrow4 hL4 (fun cur e => by cases e))
  simpa using this

set_option maxRecDepth 100000 in
set_option maxHeartbeats 2000000 in
/-- slices.AppendSeq(nil, seq). -/
theorem appendSeq_in (F : Fence) (n : Nat) (h11 : F.fn 122) (hro : F.round = none) (hn : 2 ≤ n) (g : Nat) (lb : Array Value) (hFg : F.fn g) (eg : ∀ args w, (callFunc g args).run Tryz.prog w = .ok (.enter g args) w)
    (S : List A3 → Prop) (N : Nat) (hN : N ≤ 100000) (w : World) (hseq : SeqGives F (n - 1) Tryz.prog g lb encA S N w) :
    CallsIn F n Tryz.prog 122 #[.slice none 0 0, .func (.func g) #[] lb] w fun e w' => ∃ (v : Value) (ss : List A3), e = .returned v ∧ S ss ∧ w'.ownsRow w.heap.size 32 3 v ss.length (ss.flatMap cellsA) ∧ Below w.heap.size w w' := by
  have h1 : 1 ≤ n := by omega
  refine callsIn_of_wp_marks Tryz.func122 rfl h11 ?_ hro
  simp only [Tryz.ntmps122, List.size_toArray, List.length_cons, List.length_nil, Nat.reduceAdd, Nat.reduceSub, Array.replicate_succ, Array.replicate_zero, List.push_toArray, List.append_toArray, List.nil_append, List.cons_append]
  gi_wp2
  refine wpIn_rangeFunc ?_
  intro fn hfn
  rw [hro]
  obtain ⟨W0, hW0⟩ : ∃ W0, w.alloc (.cells #[.slice none 0 0] 110) = W0 := ⟨_, rfl⟩
  have hs0 : W0.heap.size = w.heap.size + 1 := by rw [← hW0]; simp
  have hv0 : W0.heap[w.heap.size]? = some (.cells #[.slice none 0 0] 110 (0, 0)) := by rw [← hW0]; exact World.alloc_heap_new w _
  have hb0 : Below w.heap.size w W0 := by rw [← hW0]; exact (Below.refl _ w).alloc (Nat.le_refl _) _
  rw [hW0]
  obtain ⟨W1, hW1⟩ : ∃ W1, (W0.alloc (.deferred (some []))).alloc (.loop (apRec fn (.func (.func g) #[] lb) w.heap.size W0.heap.size .ready none)) = W1 := ⟨_, rfl⟩
  have hold : ∀ k, k < W0.heap.size → W1.heap[k]? = W0.heap[k]? := fun k hk => by
    rw [← hW1]; exact (Below.heap_alloc _ _ k (by simp; omega)).trans (Below.heap_alloc _ _ k hk)
  have hb1 : Below w.heap.size w W1 := by rw [← hW1]; exact (hb0.alloc hb0.size _).alloc (by have := hb0.size; simp; omega) _
  have hs1 : W1.heap.size = W0.heap.size + 2 := by rw [← hW1]; simp
  have hM : ApAt w fn (.func (.func g) #[] lb) w.heap.size (W0.heap.size + 1) W0.heap.size [] W1 :=
    ⟨⟨_, (hold w.heap.size (by omega)).trans hv0, ⟨rfl, .inl ⟨rfl, rfl⟩⟩, by simp⟩,
     by rw [← hW1]; have := World.alloc_heap_new (W0.alloc (.deferred (some []))) (.loop (apRec fn (.func (.func g) #[] lb) w.heap.size W0.heap.size .ready none)); rwa [World.size_alloc] at this,
     by rw [← hW1]; exact (Below.heap_alloc _ _ _ (by simp)).trans (World.alloc_heap_new W0 _), hb1⟩
  refine ⟨W0.heap.size + 1, [{ target := .collected W0.heap.size, args := #[] }], W1, { target := .fn (.func g) lb, args := #[.func (.yield (W0.heap.size + 1)) #[] #[]] }, W1, g,
    #[.func (.yield (W0.heap.size + 1)) #[] #[]] ++ lb, W1, ?_, ?_, ?_, ?_, fun _ => h1, ?_⟩
  · rw [← hW1]; exact run_enterLoop_outer _ _ _ _ _
  · simp [resolve, go_sem]
  · intro f' hf'; simp [Target.leads] at hf'; subst hf'; exact hFg
  · simp [invoke, go_sem, eg]
  · refine (hseq (W0.heap.size + 1) (ApAt w fn (.func (.func g) #[] lb) w.heap.size (W0.heap.size + 1) W0.heap.size) W1 hb1 (ap_abides _ _ _ _ _ _ _ hb1.size)
      (fun pre x W hJ hl => apYield F (n - 1 - 1) w fn hfn _ w.heap.size (W0.heap.size + 1) W0.heap.size (by omega) (by omega) (by omega) (Nat.le_refl _) (by omega) N hN pre x W hJ hl) hM).mono ?_
    rintro e W2 ⟨⟨v0, rfl⟩, ss, hS, h2⟩
    obtain ⟨v, hv, hrow, _⟩ := h2.box
    have hend := run_endLoop (P := Tryz.prog) h2.L (by simp [apRec])
    obtain ⟨W3, hW3⟩ : ∃ W3, W2.putObj (W0.heap.size + 1) (.loop { apRec fn (.func (.func g) #[] lb) w.heap.size W0.heap.size .ready none with state := .exhausted }) = W3 := ⟨_, rfl⟩
    rw [hW3] at hend
    have hg3 : W2.grownBy W3 (some (W0.heap.size + 1)) := by rw [← hW3]; exact grownBy_putObj_p _ _ _
    have hv3 : W3.heap[w.heap.size]? = some (.cells #[v] 110 (0, 0)) := by rw [← hW3]; exact (World.putObj_heap_other (by omega)).trans hv
    have hK3 : W3.heap[W0.heap.size]? = some (.deferred (some [])) := by rw [← hW3]; exact (World.putObj_heap_other (by omega)).trans h2.K
    have hrow3 := hrow.kept hg3 (ownsRow_ne_p hrow h2.L (fun cur e => by cases e))
    have hb3 : Below w.heap.size w W3 := h2.below.grown hg3 h2.below.size (fun k e => by cases e; omega)
    obtain ⟨hc3, hf3⟩ := cell_of_box_p hv3
    clear hW3
    refine ⟨none, W3, hend, ?_⟩
    gi_wp2
    rw [← hs0]
    refine ⟨by simp, .inl ⟨_, _, rfl, run_takeDeferred hK3, ?_⟩⟩
    exact ⟨_, results_tmp rfl _ _ _, v, ss, rfl, hS, hrow3.kept (grownBy_putObj_p _ _ _) (ownsRow_ne_p hrow3 hK3 (fun cur e => by cases e)), hb3.grown (grownBy_putObj_p _ _ _) hb3.size (fun k e => by cases e; omega)⟩

set_option maxHeartbeats 1000000 in
/-- slices.Collect(seq). -/
theorem collect_in (F : Fence) (n : Nat) (h8 : F.fn 101) (h11 : F.fn 122) (hro : F.round = none) (hn : 3 ≤ n) (g : Nat) (lb : Array Value) (hFg : F.fn g) (eg : ∀ args w, (callFunc g args).run Tryz.prog w = .ok (.enter g args) w)
    (S : List A3 → Prop) (N : Nat) (hN : N ≤ 100000) (w : World) (hseq : SeqGives F (n - 1 - 1) Tryz.prog g lb encA S N w) :
    CallsIn F n Tryz.prog 101 #[.func (.func g) #[] lb] w fun e w' => ∃ (v : Value) (ss : List A3), e = .returned v ∧ S ss ∧ w'.ownsRow w.heap.size 32 3 v ss.length (ss.flatMap cellsA) ∧ Below w.heap.size w w' := by
  have h1 : 1 ≤ n := by omega
  refine callsIn_of_wp Tryz.func101 rfl h8 ?_ hro
  simp only [Tryz.ntmps101, List.size_toArray, List.length_cons, List.length_nil, Nat.reduceAdd, Nat.reduceSub, Array.replicate_succ, Array.replicate_zero, List.push_toArray, List.append_toArray, List.nil_append, List.cons_append]
  gi_wp2_with (gi_at_call 122; refine (appendSeq_in F (n - 1) h11 hro (by omega) g lb hFg eg S N hN _ hseq).mono ?_; rintro e w' ⟨v, ss, rfl, hS, hrow, hb⟩)
  go_ret
  exact ⟨v, ss, rfl, hS, hrow, hb⟩

set_option maxHeartbeats 1000000 in
/-- slices.SortedFunc(seq, compare). -/
theorem sortedFunc_any (g : Nat) (lb : Array Value) (eg : ∀ args w, (callFunc g args).run Tryz.prog w = .ok (.enter g args) w)
    (S : List A3 → Prop) (N : Nat) (hN : N ≤ 100000) (w : World) (hseq : SeqGives Fence.wide 1 Tryz.prog g lb encA S N w) :
    Calls Tryz.prog 90 #[.func (.func g) #[] lb, .func (.func 92) #[] #[]] w fun e w' => ∃ (v : Value) (ss : List A3), e = .returned v ∧ S ss ∧ SliceA w.heap.size w' v (sortL ss) ∧ Below w.heap.size w w' := by
  have hcol : ∀ W, W = w → Calls Tryz.prog 101 #[.func (.func g) #[] lb] W fun e w' => ∃ (v : Value) (ss : List A3), e = .returned v ∧ (S ss ∧ ss.length ≤ N) ∧ w'.ownsRow w.heap.size 32 3 v ss.length (ss.flatMap cellsA) ∧ Below w.heap.size w w' := by
    rintro W rfl
    exact callsIn_wide.1 (collect_in Fence.wide 3 trivial trivial rfl (by omega) g lb trivial eg _ N hN W hseq.bounded)
  have HC := Lib.hid (hcol w rfl)
  clear hcol hseq
  go_enter Tryz.func90, Tryz.ntmps90
  go_wp2_with (first
    | (go_at_call 101; (with_reducible refine HC.out.mono ?_); rintro e w1 ⟨v, ss, rfl, hS, hrow, hb⟩; have HS := Lib.hid hS; have HR := Lib.hid hrow; have HB := Lib.hid hb; have HQ := Lib.hid (sort_any w.heap.size w1 v ss (SliceA.of_owns hrow) (by have := hS.2; omega)); clear hS hrow hb)
    | (go_at_call 93; (with_reducible refine HQ.out.mono ?_); rintro e w3 ⟨rfl, hs3, hg3⟩; have HS3 := Lib.hid hs3; have HG3 := Lib.hid hg3; clear hs3 hg3))
  go_ret
  exact ⟨_, ss, rfl, HS.out.1, HS3.out, HB.out.grown HG3.out HB.out.size (fun k hk => (HR.out.lt k hk).1)⟩

/-- A range over a map abides a round that keeps its word. -/
theorem range_of_walks {w w' : World} {b r : Nat} {l left : List (A3 × Value)} (h : RangeIs EA w b r l left) (hk : KeepsWalks w w') : RangeIs EA w' b r l left := by
  obtain ⟨es, clock, since, seen, c0, h1, h2, h3, h4⟩ := h
  exact ⟨es, clock, since, seen, c0, hk.same b _ h1 rfl, h2, hk.same r _ h3 rfl, h4⟩
theorem range_walk {w : World} {b r : Nat} {l left : List (A3 × Value)} (h : RangeIs EA w b r l left) : ∃ o : Obj, w.heap[r]? = some o ∧ o.isWalk = true := by
  obtain ⟨es, clock, since, seen, c0, h1, h2, h3, h4⟩ := h
  exact ⟨_, h3, rfl⟩
theorem fst_perm {l l' : List (A3 × Value)} {ss : List A3} {a : A3} {v : Value} {left : List (A3 × Value)} (h : (ss ++ left.map (·.1)).Perm (l.map (·.1))) (hp : left.Perm ((a, v) :: l')) : ((ss ++ [a]) ++ l'.map (·.1)).Perm (l.map (·.1)) := by
  have h1 : (left.map (·.1)).Perm (a :: l'.map (·.1)) := hp.map _
  have h2 := (List.Perm.append_left ss h1).symm.trans h
  simpa using h2
end Go.Proofs.YtfploeefmnbpcaaGreat

/- Package spot at string: All. -/
namespace Go.Proofs.YtfploeefmnbpcaaGreat
open Go.RowKit Mp Go.Shelf
set_option linter.unusedVariables false

set_option maxRecDepth 100000 in
set_option maxHeartbeats 1000000 in
theorem keys1S_in (F : Fence) (n : Nat) (h10 : F.fn 102) (hro : F.round = none) (hn : 1 ≤ n) (l Bm b : Nat) (lst : List (A3 × Value)) (J : List A3 → World → Prop)
    (hY : ∀ pre x W, J pre W → pre.length < lst.length → YieldAt F (n - 1) Tryz.prog l #[encA x] W fun e W' => e = .returned (.bool true) ∧ J (pre ++ [x]) W' ∧ KeepsWalks W W')
    (W : World) (hJ : AbidesFrom W.heap.size J) (hm : W.cell? ⟨Bm, 0, none⟩ = some (.map (some b))) (hown : MapIs EA W b lst) (h0 : J [] W) :
    CallsIn F n Tryz.prog 102 #[.func (.yield l) #[] #[], .pointer (some ⟨Bm, 0, none⟩)] W fun e W' => (∃ v, e = .returned v) ∧ ∃ ss : List A3, ss.Perm (lst.map (·.1)) ∧ J ss W' := by
  refine callsIn_of_wp Tryz.func102 rfl h10 ?_ hro
  simp only [Tryz.ntmps102, List.size_toArray, List.length_cons, List.length_nil, Nat.reduceAdd, Nat.reduceSub, Array.replicate_succ, Array.replicate_zero, List.push_toArray, List.append_toArray, List.nil_append, List.cons_append]
  gi_wp2_with (first
    | (gi_at_range; refine wpListIn_range _ rfl _ 124 rfl 9 Tryz.underlying124 b rfl hown ?_; intro w0 hrg0 hg0 hs0)
    | gi_in)
  go_frame
  gi_loopw [3] (fun _ wr => ∃ (left : List (A3 × Value)) (ss : List A3), RangeIs EA wr b W.heap.size lst left ∧ Hid ((ss ++ left.map (·.1)).Perm (lst.map (·.1))) ∧ J ss wr)
    (fun _ wr => wr.rangeLeft b W.heap.size)
  case atStart =>
    exact ⟨lst, [], hrg0, Lib.hid (by simp), hJ [] W w0 none h0 hg0 (fun r e => by cases e)⟩
  case round =>
    obtain ⟨left, ss, hrg, hpm, hJs⟩ := hrel
    gi_wp2_with (first
      | (gi_at_next; refine wpListIn_nextA _ rfl _ rfl b W.heap.size left rfl hrg ?_ ?_)
      | gi_in)
    · intro hl0
      subst hl0
      gi_wp2
      go_end0
      exact ⟨⟨_, rfl⟩, ss, by simpa using hpm.out, hJs⟩
    · intro x y z v left' w2 hp hrg2 hg2 hs2 hen
      have hpm2 := fst_perm hpm.out hp
      have hlen : ss.length < lst.length := by have := hpm2.length_eq; simp at this; omega
      have hJ2 : J ss w2 := hJ ss wr w2 (some W.heap.size) hJs hg2 (fun r e => by cases e; exact ⟨Nat.le_refl _, range_walk hrg⟩)
      have hJ3 : J ss (w2.alloc (.cells #[.int .i64 x, .int .i64 y, .int .i64 z] 32)) := hJ ss w2 _ none hJ2 (World.grownBy_alloc _ _ _) (fun r e => by cases e)
      obtain ⟨fn, tmps, assign, body, hy, hR⟩ := hY ss (x, y, z) _ hJ3 hlen
      unfold encA at hy
      dsimp only at hy
      have HRG := Lib.hid hrg
      have HRG2 := Lib.hid hrg2
      have HP := Lib.hid hp
      have HPM2 := Lib.hid hpm2
      clear hrg hrg2 hp hpm2 hg2 hJ2 hJ3 hJs
      gi_wp2
      refine hR.mono ?_
      rintro e W3 ⟨rfl, hJ4, hk3⟩
      have hrg3 : RangeIs EA W3 b W.heap.size lst left' := range_of_walks (range_of_walks HRG2.out (KeepsWalks.alloc _ _)) hk3
      have HRG3 := Lib.hid hrg3
      clear hrg3
      gi_wp2
      go_roundw
      case rel => exact ⟨left', ss ++ [(x, y, z)], HRG3.out, HPM2, hJ4⟩
      case measure => rw [HRG3.out.left, HRG.out.left]; have := HP.out.length_eq; simp at this; omega

set_option maxRecDepth 100000 in
set_option maxHeartbeats 1000000 in
theorem keys1S_nil (F : Fence) (n : Nat) (h10 : F.fn 102) (hro : F.round = none) (l Bm : Nat) (J : List A3 → World → Prop)
    (W : World) (hJ : AbidesFrom W.heap.size J) (hm : W.cell? ⟨Bm, 0, none⟩ = some (.map none)) (h0 : J [] W) :
    CallsIn F n Tryz.prog 102 #[.func (.yield l) #[] #[], .pointer (some ⟨Bm, 0, none⟩)] W fun e W' => (∃ v, e = .returned v) ∧ J [] W' := by
  have hr := run_range_nilMap (P := Tryz.prog) W 124 32 9 Tryz.underlying124
  have hnx := fun ty => run_next_nilMap (P := Tryz.prog) W ty 0 0 #[]
  refine callsIn_of_wp Tryz.func102 rfl h10 ?_ hro
  simp only [Tryz.ntmps102, List.size_toArray, List.length_cons, List.length_nil, Nat.reduceAdd, Nat.reduceSub, Array.replicate_succ, Array.replicate_zero, List.push_toArray, List.append_toArray, List.nil_append, List.cons_append]
  gi_wp2
  refine wpIn_loop_rounds 1 ?_
  rw [roundsIn_succ]
  gi_wp2
  go_end0
  exact ⟨⟨_, rfl⟩, hJ [] W _ none h0 (World.grownBy_alloc _ _ _) (fun r e => by cases e)⟩

/-- maps.Keys(m). -/
theorem keysS_any (mb : Option Nat) (w : World) :
    Calls Tryz.prog 91 #[.map mb] w fun e w' => e = .returned (.func (.func 102) #[] #[.pointer (some ⟨w.heap.size, 0, none⟩)]) ∧ w' = w.alloc (.cells #[.map mb] 124) := by
  go_enter Tryz.func91, Tryz.ntmps91
  go_wp2
  go_ret
  exact ⟨rfl, rfl⟩

theorem keysS_gives (mb : Option Nat) (g : Nat) (l : List (A3 × Value)) (w : World) (h : SpotIs w g mb l) (Bm : Nat) (w1 : World) (hw1 : Below w.heap.size w w1) (hBm : Bm < w1.heap.size) (hm : w1.cell? ⟨Bm, 0, none⟩ = some (.map mb)) :
    SeqGives Fence.wide 1 Tryz.prog 102 #[.pointer (some ⟨Bm, 0, none⟩)] encA (fun ss => ss.Perm (l.map (·.1))) l.length w1 := fun lp J W hW hJ hY h0 => by
  have h1 := h.below hw1 (Nat.le_refl _)
  have h2 := h1.below hW (Nat.le_refl _)
  have hm2 : W.cell? ⟨Bm, 0, none⟩ = some (.map mb) := (hW.cell (p := ⟨Bm, 0, none⟩) hBm).trans hm
  cases mb with
  | none =>
    have hl := h.none rfl
    subst hl
    refine (keys1S_nil Fence.wide 1 trivial rfl lp Bm J W hJ hm2 h0).mono ?_
    rintro e W' ⟨hv, hj⟩
    exact ⟨hv, [], by simp, hj⟩
  | some b => exact keys1S_in Fence.wide 1 trivial rfl (Nat.le_refl _) lp Bm b l J hY W hJ hm2 (h2.some b rfl) h0

/-- All of a nil Map. -/
theorem allS_nil (w : World) : Calls Tryz.prog 77 #[.pointer none] w fun e w' => e = .returned (.slice none 0 0) ∧ w = w' := by
  go_enter Tryz.func77, Tryz.ntmps77
  go_wp2
  go_ret
  exact ⟨rfl, rfl⟩

set_option maxRecDepth 100000 in
set_option maxHeartbeats 1000000 in
/-- All. -/
theorem allS_any (g : Nat) (mb : Option Nat) (l : List (A3 × Value)) (w : World) (h : SpotIs w g mb l) (hn : l.length ≤ 100000) :
    Calls Tryz.prog 77 #[.pointer (some ⟨g, 0, none⟩)] w fun e w' => ∃ v, e = .returned v ∧ SliceA w.heap.size w' v (sortL (l.map (·.1))) ∧ Below w.heap.size w w' := by
  have hc := h.cell
  have hk := fun W => keysS_any mb W
  have hb1 : Below w.heap.size w (w.alloc (.cells #[.map mb] 124)) := (Below.refl _ _).alloc (Nat.le_refl _) _
  have hs := sortedFunc_any 102 #[.pointer (some ⟨w.heap.size, 0, none⟩)] (enters_of Tryz.func102 (by kernel_rfl) rfl) _ l.length hn _
    (keysS_gives mb g l w h w.heap.size _ hb1 (by simp) (by rw [World.cell?_alloc_at _ _ _ _ rfl]; rfl))
  have HS := Lib.hid hs
  have HK := Lib.hid hk
  have HB := Lib.hid hb1
  clear h hk hs hb1
  go_enter Tryz.func77, Tryz.ntmps77
  go_wp2_with (first
    | (go_at_call 91; (with_reducible refine (HK.out _).mono ?_); rintro e w1 ⟨rfl, rfl⟩)
    | (go_at_call 90; (with_reducible refine HS.out.mono ?_); rintro e w2 ⟨v, ss, rfl, hp, hsl, hb⟩; have HP := Lib.hid hp; have HSL := Lib.hid hsl; have HB2 := Lib.hid hb; clear hp hsl hb))
  go_ret
  have e2 := sortL_of_perm HP.out
  refine ⟨_, rfl, ?_, HB.out.trans (HB2.out.mono (by simp))⟩
  rw [← e2]
  exact HSL.out.base (by simp)
end Go.Proofs.YtfploeefmnbpcaaGreat
