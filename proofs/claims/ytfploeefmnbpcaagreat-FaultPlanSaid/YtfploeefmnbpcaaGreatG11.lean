import Derived.Test.YtfploeefmnbpcaaGreatG08
import Derived.Sort.Grow
import Derived.BigRegion
import Derived.Test.YtfploeefmnbpcaaGreatG04
import Derived.RegionTactic
import Derived.StillTailTactics
import Derived.Deep.DeepCutAuto
import Derived.Test.YtfploeefmnbpcaaGreatG09
import Derived.Shelf.SlSortCmp.InsertionK
import Derived.Shelf.SlSortCmp.NoneTotal
import Derived.Maps.AppendAt
import Derived.WalkKit
import Derived.OwnWalk
/- How places are held against one another: cmp.Compare, cmp.Or, compare. -/
namespace Go.Proofs.YtfploeefmnbpcaaGreat
open Go.RowKit Go.Sort

/-- -1, 0, 1. -/
def cmpI (x y : Int) : Int := if x < y then -1 else if y < x then 1 else 0
/-- The first that is no nought. -/
def cmpA (a b : A3) : Int := if cmpI a.1 b.1 ≠ 0 then cmpI a.1 b.1 else if cmpI a.2.1 b.2.1 ≠ 0 then cmpI a.2.1 b.2.1 else cmpI a.2.2 b.2.2

theorem nan_any (x : Int) (w : World) : Calls Tryz.prog 73 #[.int .i64 x] w fun e w' => e = .returned (.bool false) ∧ w = w' := by
  go_enter Tryz.func73, Tryz.ntmps73
  go_wp2
  go_ret
  exact ⟨by simp, rfl⟩

theorem compare_any (x y : Int) (w : World) : Calls Tryz.prog 63 #[.int .i64 x, .int .i64 y] w fun e w' => e = .returned (.int .i64 (cmpI x y)) ∧ w = w' := by
  rcases Int.lt_trichotomy x y with h | h | h
  · rw [show cmpI x y = -1 by unfold cmpI; rw [if_pos h]]
    go_enter Tryz.func63, Tryz.ntmps63
    go_wp2_with (go_at_call 73; (with_reducible refine (nan_any _ _).mono ?_); rintro e w1 ⟨rfl, rfl⟩)
    go_ret
    exact ⟨rfl, rfl⟩
  · subst h
    rw [show cmpI x x = 0 by unfold cmpI; simp]
    go_enter Tryz.func63, Tryz.ntmps63
    go_wp2_with (go_at_call 73; (with_reducible refine (nan_any _ _).mono ?_); rintro e w1 ⟨rfl, rfl⟩)
    go_ret
    exact ⟨rfl, rfl⟩
  · rw [show cmpI x y = 1 by unfold cmpI; rw [if_neg (by omega), if_pos h]]
    have h2 : y ≤ x := by omega
    go_enter Tryz.func63, Tryz.ntmps63
    go_wp2_with (go_at_call 73; (with_reducible refine (nan_any _ _).mono ?_); rintro e w1 ⟨rfl, rfl⟩)
    go_ret
    exact ⟨rfl, rfl⟩

set_option maxHeartbeats 1000000 in
theorem or_any (x y z : Int) (q : Nat) (w : World) (h0 : w.cell? ⟨q, 0, none⟩ = some (.int .i64 x)) (h1 : w.cell? ⟨q, 1, none⟩ = some (.int .i64 y)) (h2 : w.cell? ⟨q, 2, none⟩ = some (.int .i64 z)) :
    Calls Tryz.prog 103 #[.slice (some ⟨q, 0, none⟩) 3 3] w fun e w' => e = .returned (.int .i64 (if x ≠ 0 then x else if y ≠ 0 then y else z)) ∧ w = w' := by
  by_cases hx : x = 0
  · subst hx
    rw [if_neg (by simp)]
    by_cases hy : y = 0
    · subst hy
      rw [if_neg (by simp)]
      by_cases hz : z = 0
      · subst hz
        go_enter Tryz.func103, Tryz.ntmps103
        go_wp2
        refine wp_loop_rounds 4 ?_
        iterate 4 (rw [rounds_succ]; go_wp2)
        go_ret
        exact ⟨rfl, rfl⟩
      · have hb : (z != 0) = true := by simpa using hz
        go_enter Tryz.func103, Tryz.ntmps103
        go_wp2
        refine wp_loop_rounds 3 ?_
        iterate 3 (rw [rounds_succ]; go_wp2)
        go_ret
        exact ⟨rfl, rfl⟩
    · rw [if_pos hy]
      have hb : (y != 0) = true := by simpa using hy
      go_enter Tryz.func103, Tryz.ntmps103
      go_wp2
      refine wp_loop_rounds 2 ?_
      iterate 2 (rw [rounds_succ]; go_wp2)
      go_ret
      exact ⟨rfl, rfl⟩
  · rw [if_pos hx]
    have hb : (x != 0) = true := by simpa using hx
    go_enter Tryz.func103, Tryz.ntmps103
    go_wp2
    refine wp_loop_rounds 1 ?_
    rw [rounds_succ]
    go_wp2
    go_ret
    exact ⟨rfl, rfl⟩

/-- Both boxes. -/
def TwoA (w : World) (q : Nat) (a b : A3) : Prop :=
  w.cell? ⟨q, 0, none⟩ = some (.int .i64 a.1) ∧ w.cell? ⟨q, 1, none⟩ = some (.int .i64 a.2.1) ∧ w.cell? ⟨q, 2, none⟩ = some (.int .i64 a.2.2) ∧
  w.cell? ⟨q + 1, 0, none⟩ = some (.int .i64 b.1) ∧ w.cell? ⟨q + 1, 1, none⟩ = some (.int .i64 b.2.1) ∧ w.cell? ⟨q + 1, 2, none⟩ = some (.int .i64 b.2.2)

theorem TwoA.below {w W' : World} {q B : Nat} {a b : A3} (h : TwoA w q a b) (hb : Below B w W') (hB : q + 2 ≤ B) : TwoA W' q a b := by
  obtain ⟨h0, h1, h2, h3, h4, h5⟩ := h
  exact ⟨(hb.cell (p := ⟨q, 0, none⟩) (show q < B by omega)).trans h0, (hb.cell (p := ⟨q, 1, none⟩) (show q < B by omega)).trans h1, (hb.cell (p := ⟨q, 2, none⟩) (show q < B by omega)).trans h2,
    (hb.cell (p := ⟨q + 1, 0, none⟩) (show q + 1 < B by omega)).trans h3, (hb.cell (p := ⟨q + 1, 1, none⟩) (show q + 1 < B by omega)).trans h4, (hb.cell (p := ⟨q + 1, 2, none⟩) (show q + 1 < B by omega)).trans h5⟩

set_option maxRecDepth 100000 in
set_option maxHeartbeats 4000000 in
theorem cmp_any (a b : A3) (w : World) : Calls Tryz.prog 92 #[encA a, encA b] w fun e w' => e = .returned (.int .i64 (cmpA a b)) ∧ ∃ q os, w' = grow (w.drewN q) os := by
  obtain ⟨r, hr⟩ : ∃ r, cmpA a b = r := ⟨_, rfl⟩
  have HR := Lib.hid hr
  rw [hr]
  clear hr
  have hc1 := fun W => compare_any a.1 b.1 W
  have hc2 := fun W => compare_any a.2.1 b.2.1 W
  have hc3 := fun W => compare_any a.2.2 b.2.2 W
  obtain ⟨x1, hx1⟩ : ∃ x1, cmpI a.1 b.1 = x1 := ⟨_, rfl⟩
  obtain ⟨x2, hx2⟩ : ∃ x2, cmpI a.2.1 b.2.1 = x2 := ⟨_, rfl⟩
  obtain ⟨x3, hx3⟩ : ∃ x3, cmpI a.2.2 b.2.2 = x3 := ⟨_, rfl⟩
  rw [hx1] at hc1
  rw [hx2] at hc2
  rw [hx3] at hc3
  have HRX : Hid ((if x1 ≠ 0 then x1 else if x2 ≠ 0 then x2 else x3) = r) := Lib.hid (by rw [← HR.out, ← hx1, ← hx2, ← hx3]; rfl)
  obtain ⟨W1, hW1⟩ : ∃ W1, (w.alloc (.cells #[.int .i64 a.1, .int .i64 a.2.1, .int .i64 a.2.2] 32)).alloc (.cells #[.int .i64 b.1, .int .i64 b.2.1, .int .i64 b.2.2] 32) = W1 := ⟨_, rfl⟩
  obtain ⟨q, hq⟩ : ∃ q, w.heap.size = q := ⟨_, rfl⟩
  have hsz : W1.heap.size = q + 2 := by rw [← hW1, ← hq]; simp
  have htw : TwoA W1 q a b := by
    have e0 : ∀ j, W1.cell? ⟨q, j, none⟩ = (cellsA a)[j]? := fun j => by
      rw [← hW1, World.cell?_alloc_old _ _ _ (by simp; omega), World.cell?_alloc_at _ _ _ _ hq.symm]; simp [cellsA]
    have e1 : ∀ j, W1.cell? ⟨q + 1, j, none⟩ = (cellsA b)[j]? := fun j => by
      rw [← hW1, World.cell?_alloc_at _ _ _ _ (by simp; omega)]; simp [cellsA]
    exact ⟨e0 0, e0 1, e0 2, e1 0, e1 1, e1 2⟩
  have HW1 := Lib.hid hW1
  have HTW := Lib.hid htw
  have HSZ := Lib.hid hsz
  have HQ := Lib.hid hq
  clear hx1 hx2 hx3 HR htw hsz
  unfold encA
  go_enter Tryz.func92, Tryz.ntmps92
  clear hW1 hq
  go_wp2
  rw [HQ.out, HW1.out]
  refine wp_region_plan (S := fun w' => TwoA w' q a b) [(0, true), (1, true), (2, true), (3, true), (5, true), (6, true), (7, true), (8, true), (10, true), (11, true), (12, true), (13, true), (4, false), (9, false), (14, false), (15, false), (16, false), (17, true)] (by kernel_rfl) (by kernel_rfl) (by kernel_rfl) (by decide) (fun _ _ d _ _ h => by cases d <;> exact h) HTW.out ?_
  simp only [stepsOf, nth, slotOf]
  iterate 12 (refine wpPlan_plain ?_ (by rfl) ?_ ?_; rotate_left; (focus (intro w' hw'; obtain ⟨x0, x1, x2, x3, x4, x5⟩ := hw'; go_simp; try with_reducible rfl)); go_simp)
  refine wpPlan_loud (by rfl) (fun K hK => ?_)
  go_simp
  refine (hc1 _).mono ?_
  rintro e w' ⟨rfl, rfl⟩
  go_simp
  refine hK _ _ _ (fun _ h => h) HTW.out ?_
  clear hK
  refine wpPlan_loud (by rfl) (fun K hK => ?_)
  go_simp
  refine (hc2 _).mono ?_
  rintro e w' ⟨rfl, rfl⟩
  go_simp
  refine hK _ _ _ (fun _ h => h) HTW.out ?_
  clear hK
  refine wpPlan_loud (by rfl) (fun K hK => ?_)
  go_simp
  refine (hc3 _).mono ?_
  rintro e w' ⟨rfl, rfl⟩
  go_simp
  refine hK _ _ _ (fun _ h => h) HTW.out ?_
  clear hK
  refine wpPlan_loud (by rfl) (fun K hK => ?_)
  go_simp
  refine hK _ _ _ (fun _ h => h) (HTW.out.below (W' := (W1.alloc (.cells #[.int .i64 x1, .int .i64 x2, .int .i64 x3] 3)).drew) ((Below.refl _ _).alloc (Nat.le_refl _) _).drew (Nat.le_of_eq HSZ.out.symm)) ?_
  clear hK
  refine wpPlan_loud (by rfl) (fun K hK => ?_)
  go_simp
  refine (or_any x1 x2 x3 _ _ (World.cell?_alloc_at _ _ _ _ rfl) (World.cell?_alloc_at _ _ _ _ rfl) (World.cell?_alloc_at _ _ _ _ rfl)).mono ?_
  rintro e w' ⟨rfl, rfl⟩
  rw [HRX.out]
  go_simp
  refine hK _ _ _ (fun _ h => h) (HTW.out.below (W' := (W1.alloc (.cells #[.int .i64 x1, .int .i64 x2, .int .i64 x3] 3)).drew) ((Below.refl _ _).alloc (Nat.le_refl _) _).drew (Nat.le_of_eq HSZ.out.symm)) ?_
  clear hK
  refine wpPlan_plain (.int .i64 r) (by rfl) ?_ ?_
  · intro w' _; go_simp
  go_simp
  refine wpPlan_nil ?_
  go_wp2
  go_ret
  refine ⟨rfl, 1, #[.cells #[.int .i64 a.1, .int .i64 a.2.1, .int .i64 a.2.2] 32, .cells #[.int .i64 b.1, .int .i64 b.2.1, .int .i64 b.2.2] 32, .cells #[.int .i64 x1, .int .i64 x2, .int .i64 x3] 3], ?_⟩
  rw [← HW1.out]
  simp only [alloc_eq_grow, grow_grow]
  rfl
end Go.Proofs.YtfploeefmnbpcaaGreat

/- Faults by their time, put one behind the other: the law's way is the model's. No Go text here. -/
namespace Go.Proofs.YtfploeefmnbpcaaGreat
open Go.RowKit Mp

namespace FP
abbrev Srt (l : List FtM) : Prop := l.Pairwise fun a b => a.at' ≤ b.at'
/-- Where the law puts a fault: seen from the end. -/
structure Spot (l : List FtM) (f : FtM) (j : Nat) : Prop where
  le : j ≤ l.length
  low : ∀ g, 0 < j → l[j - 1]? = some g → g.at' ≤ f.at'
  high : ∀ i g, j ≤ i → l[i]? = some g → f.at' < g.at'
theorem insF_spot : ∀ {l : List FtM} {f : FtM} {j : Nat}, Srt l → Spot l f j → insF l f = l.take j ++ f :: l.drop j
  | [], f, j, _, h => by
    obtain rfl : j = 0 := by have := h.le; simpa using this
    rfl
  | a :: l, f, 0, _, h => by
    have ha := h.high 0 a (Nat.le_refl _) rfl
    have hd : decide (a.at' ≤ f.at') = false := by simp; omega
    unfold insF
    rw [List.takeWhile_cons, List.dropWhile_cons, hd]
    simp
  | a :: l, f, j + 1, hs, h => by
    have hp := List.pairwise_cons.1 hs
    have hl := h.le
    have hjl : j ≤ l.length := by simpa using hl
    have ha : a.at' ≤ f.at' := by
      cases j with
      | zero => exact h.low a (by omega) rfl
      | succ j =>
        obtain ⟨g, hg⟩ : ∃ g, l[j]? = some g := ⟨_, List.getElem?_eq_getElem (by omega)⟩
        have h1 := h.low g (by omega) (by simpa using hg)
        have h2 := hp.1 g (List.mem_of_getElem? hg)
        omega
    have hd : decide (a.at' ≤ f.at') = true := by simpa using ha
    have ih := insF_spot (l := l) (f := f) (j := j) hp.2 ⟨hjl, fun g h0 hg => h.low g (by omega) (by
      obtain ⟨i, rfl⟩ : ∃ i, j = i + 1 := ⟨j - 1, by omega⟩
      simpa using hg), fun i g hi hg => h.high (i + 1) g (by omega) (by simpa using hg)⟩
    unfold insF at ih ⊢
    rw [List.takeWhile_cons, List.dropWhile_cons, hd]
    simp only [if_true, List.cons_append, List.take_succ_cons, List.drop_succ_cons]
    rw [ih]
theorem insF_len (l : List FtM) (f : FtM) : (insF l f).length = l.length + 1 := by
  have h := congrArg List.length (List.takeWhile_append_dropWhile (p := fun g => decide (g.at' ≤ f.at')) (l := l))
  unfold insF
  simp only [List.length_append, List.length_cons] at h ⊢
  omega
theorem insF_sorted : ∀ {l : List FtM} (f : FtM), Srt l → Srt (insF l f)
  | [], f, _ => by simp [insF, Srt]
  | a :: l, f, hs => by
    have hp := List.pairwise_cons.1 hs
    unfold insF
    rw [List.takeWhile_cons, List.dropWhile_cons]
    by_cases ha : a.at' ≤ f.at'
    · have hd : decide (a.at' ≤ f.at') = true := by simpa using ha
      rw [hd]
      simp only [if_true, List.cons_append]
      refine List.pairwise_cons.2 ⟨fun b hb => ?_, insF_sorted f hp.2⟩
      rcases List.mem_append.1 hb with hb | hb
      · exact hp.1 b ((List.takeWhile_sublist _).subset hb)
      · rcases List.mem_cons.1 hb with rfl | hb
        · exact ha
        · exact hp.1 b ((List.dropWhile_sublist _).subset hb)
    · have hd : decide (a.at' ≤ f.at') = false := by simpa using ha
      rw [hd]
      simp only [Bool.false_eq_true, if_false, List.nil_append]
      refine List.pairwise_cons.2 ⟨fun b hb => ?_, hs⟩
      rcases List.mem_cons.1 hb with rfl | hb
      · omega
      · have := hp.1 b hb; omega
/-- What is due of the first k; what stays. -/
def dueK (l : List FtM) (ops : Int) (k : Nat) : List FtM := dueL (l.take k) ops
def restK (l : List FtM) (ops : Int) (k : Nat) : List FtM := restL (l.take k) ops
theorem take_snoc {l : List FtM} {k : Nat} {f : FtM} (h : l[k]? = some f) : l.take (k + 1) = l.take k ++ [f] := by
  rw [List.take_add_one, h]; rfl
theorem dueK_yes {l : List FtM} {ops : Int} {k : Nat} {f : FtM} (h : l[k]? = some f) (ho : f.at' ≤ ops) : dueK l ops (k + 1) = insF (dueK l ops k) f := by
  unfold dueK dueL
  rw [take_snoc h, List.filter_append, List.filter_cons_of_pos (by simpa using ho), List.filter_nil, List.foldl_append]
  rfl
theorem dueK_no {l : List FtM} {ops : Int} {k : Nat} {f : FtM} (h : l[k]? = some f) (ho : ops < f.at') : dueK l ops (k + 1) = dueK l ops k := by
  unfold dueK dueL
  rw [take_snoc h, List.filter_append, List.filter_cons_of_neg (by simpa using ho), List.filter_nil, List.append_nil]
theorem restK_yes {l : List FtM} {ops : Int} {k : Nat} {f : FtM} (h : l[k]? = some f) (ho : ops < f.at') : restK l ops (k + 1) = restK l ops k ++ [f] := by
  unfold restK restL
  rw [take_snoc h, List.filter_append, List.filter_cons_of_pos (by simpa using ho), List.filter_nil]
theorem restK_no {l : List FtM} {ops : Int} {k : Nat} {f : FtM} (h : l[k]? = some f) (ho : f.at' ≤ ops) : restK l ops (k + 1) = restK l ops k := by
  unfold restK restL
  rw [take_snoc h, List.filter_append, List.filter_cons_of_neg (by simpa using ho), List.filter_nil, List.append_nil]
theorem dueK_zero (l : List FtM) (ops : Int) : dueK l ops 0 = [] := by simp [dueK, dueL]
theorem restK_zero (l : List FtM) (ops : Int) : restK l ops 0 = [] := by simp [restK, restL]
theorem dueK_all (l : List FtM) (ops : Int) : dueK l ops l.length = dueL l ops := by unfold dueK; rw [List.take_length]
theorem restK_all (l : List FtM) (ops : Int) : restK l ops l.length = restL l ops := by unfold restK; rw [List.take_length]
theorem foldl_ins_len : ∀ (q l : List FtM), (q.foldl insF l).length = l.length + q.length
  | [], l => rfl
  | f :: q, l => by rw [List.foldl_cons, foldl_ins_len q, insF_len, List.length_cons]; omega
theorem dueK_len (l : List FtM) (ops : Int) (k : Nat) : (dueK l ops k).length ≤ k := by
  unfold dueK dueL
  rw [foldl_ins_len]
  have h1 := List.length_filter_le (fun f : FtM => decide (f.at' ≤ ops)) (l.take k)
  have h2 : (l.take k).length ≤ k := by rw [List.length_take]; omega
  simp only [List.length_nil]
  omega
theorem restK_len (l : List FtM) (ops : Int) (k : Nat) : (restK l ops k).length ≤ k := by
  unfold restK restL
  have h1 := List.length_filter_le (fun f : FtM => decide (ops < f.at')) (l.take k)
  have h2 : (l.take k).length ≤ k := by rw [List.length_take]; omega
  omega
theorem foldl_ins_sorted : ∀ (q l : List FtM), Srt l → Srt (q.foldl insF l)
  | [], _, h => h
  | f :: q, _, h => foldl_ins_sorted q _ (insF_sorted f h)
theorem dueK_sorted (l : List FtM) (ops : Int) (k : Nat) : Srt (dueK l ops k) := by
  unfold dueK dueL; exact foldl_ins_sorted _ _ List.Pairwise.nil
theorem spot_start (l : List FtM) (f : FtM) (j : Nat) (hj : j = l.length) : ∀ i g, j ≤ i → l[i]? = some g → f.at' < g.at' := by
  intro i g hi hg
  have := (List.getElem?_eq_some_iff.1 hg).1
  omega
theorem spot_down {l : List FtM} {f g : FtM} {j : Nat} (hg : l[j]? = some g) (hlt : f.at' < g.at') (h : ∀ i g, j + 1 ≤ i → l[i]? = some g → f.at' < g.at') : ∀ i g, j ≤ i → l[i]? = some g → f.at' < g.at' := by
  intro i g' hi hg'
  rcases Nat.eq_or_lt_of_le hi with e | hi
  · subst e; rw [hg] at hg'; cases hg'; exact hlt
  · exact h i g' hi hg'
/-- Cut and put together, in cells. -/
theorem flat_len (l : List FtM) : (l.flatMap cellsFau).length = l.length * 7 := by
  induction l with
  | nil => rfl
  | cons a l ih => rw [List.flatMap_cons, List.length_append, ih, List.length_cons]; simp [cellsFau]; omega
theorem flat_take (l : List FtM) (j : Nat) : (l.take j).flatMap cellsFau = (l.flatMap cellsFau).take (j * 7) := by
  induction l generalizing j with
  | nil => simp
  | cons a l ih =>
    cases j with
    | zero => simp
    | succ j =>
      rw [List.take_succ_cons, List.flatMap_cons, List.flatMap_cons, ih, show (j + 1) * 7 = (cellsFau a).length + j * 7 by simp [cellsFau]; omega, List.take_length_add_append]
theorem flat_drop (l : List FtM) (j : Nat) : (l.drop j).flatMap cellsFau = (l.flatMap cellsFau).drop (j * 7) := by
  induction l generalizing j with
  | nil => simp
  | cons a l ih =>
    cases j with
    | zero => simp
    | succ j =>
      rw [List.drop_succ_cons, List.flatMap_cons, ih, show (j + 1) * 7 = (cellsFau a).length + j * 7 by simp [cellsFau]; omega, List.drop_length_add_append]
end FP
end Go.Proofs.YtfploeefmnbpcaaGreat

/- Package fault: the stable sort of a plan's faults, twenty at most. -/
namespace Go.Proofs.YtfploeefmnbpcaaGreat
open Go.Shelf Go.RowKit Go.Lib Go.Sort Mp
set_option linter.unusedSimpArgs false

instance : Inhabited FtM := ⟨⟨0, 0, 0, 0, 0, 0, 0⟩⟩
namespace FT
theorem info : (Tryz.prog.info? 44).map (fun i => (i.zero, i.size, i.bytes)) = some (some (.agg #[.int .i64 0, .int .i64 0, .int .i64 0, .int .i64 0, .int .i64 0, .int .i64 0, .int .i64 0]), 7, 56) := by kernel_rfl
theorem size_F : ∀ W : World, (Go.sizeOf 44).run Tryz.prog W = .ok 7 W := fun W => by kernel_rfl
theorem agg_F : ∀ W : World, (isAgg 44).run Tryz.prog W = .ok true W := fun W => by kernel_rfl
theorem flat_F (f : FtM) : ∀ u ∈ cellsFau f, u.oneCell' = true := by
  intro u hu
  simp only [cellsFau, List.mem_cons, List.not_mem_nil, or_false] at hu
  rcases hu with rfl | rfl | rfl | rfl | rfl | rfl | rfl <;> rfl

/-- By their time. -/
def cf (x y : FtM) : Int := cmpI x.at' y.at'
theorem lt_cf (x y : FtM) : ltOf cf x y = decide (x.at' < y.at') := by
  unfold ltOf cf cmpI
  congr 1
  rw [eq_iff_iff]
  (repeat' split) <;> omega

set_option maxHeartbeats 1000000 in
theorem cmp_one (x y : FtM) (w : World) : Calls Tryz.prog 62 #[encF x, encF y] w fun e w' => e = .returned (.int .i64 (cf x y)) ∧ ∃ q os, w' = grow (w.drewN q) os := by
  have H := Lib.hid (fun W => compare_any x.at' y.at' W)
  unfold cf
  generalize cmpI x.at' y.at' = r at H ⊢
  go_enter Tryz.func62, Tryz.ntmps62
  go_wp2_with (go_at_call 63; (with_reducible refine (H.out _).mono ?_); rintro e x ⟨rfl, rfl⟩)
  go_ret
  refine ⟨rfl, 0, #[.cells (cellsFau x).toArray 44, .cells (cellsFau y).toArray 44], ?_⟩
  rw [World.drewN_zero]
  simp only [alloc_eq_grow, grow_grow]
  rfl

/-! The insertion sort is stable. -/
theorem set_two : ∀ (p : List FtM) (f g : FtM) (q : List FtM), ((p ++ g :: f :: q).set (p.length + 1) g).set p.length f = p ++ f :: g :: q
  | [], _, _, _ => rfl
  | a :: p, f, g, q => by
    simp only [List.cons_append, List.length_cons, List.set_cons_succ]
    rw [set_two p f g q]
theorem get_two (p : List FtM) (f g : FtM) (q : List FtM) : (p ++ g :: f :: q).toArray[p.length]! = g ∧ (p ++ g :: f :: q).toArray[p.length + 1]! = f := by
  constructor
  · simp
  · simp [List.getElem?_append_right]
theorem swp_two (p : List FtM) (f g : FtM) (q : List FtM) : swp (p ++ g :: f :: q).toArray (p.length + 1) p.length = (p ++ f :: g :: q).toArray := by
  unfold swp
  rw [(get_two p f g q).1, (get_two p f g q).2]
  apply Array.ext'
  simp only [Array.toList_setIfInBounds]
  exact set_two p f g q
theorem insF_lo {p : List FtM} {f g : FtM} (h : f.at' < g.at') : insF (p ++ [g]) f = insF p f ++ [g] := by
  have hg : decide (g.at' ≤ f.at') = false := by simp; omega
  unfold insF
  induction p with
  | nil => simp [hg]
  | cons a p ih =>
    by_cases ha : a.at' ≤ f.at'
    · have : decide (a.at' ≤ f.at') = true := by simpa using ha
      simp only [List.cons_append, List.takeWhile_cons, List.dropWhile_cons, this, if_true]
      rw [ih]
    · have : decide (a.at' ≤ f.at') = false := by simpa using ha
      simp [this]
theorem insF_hi : ∀ {p : List FtM} {f : FtM}, (∀ x ∈ p, x.at' ≤ f.at') → insF p f = p ++ [f]
  | [], _, _ => rfl
  | a :: p, f, h => by
    have ha : decide (a.at' ≤ f.at') = true := by simpa using h a (by simp)
    have ih := insF_hi (p := p) (f := f) fun x hx => h x (by simp [hx])
    unfold insF at ih ⊢
    simp only [List.takeWhile_cons, List.dropWhile_cons, ha, if_true, List.cons_append]
    rw [ih]
theorem insInner_list : ∀ (j : Nat) (p : List FtM) (f : FtM) (q : List FtM), p.length = j → FP.Srt p → insInner (ltOf cf) 0 j (p ++ f :: q).toArray = (insF p f ++ q).toArray
  | 0, p, f, q, hp, _ => by
    obtain rfl := List.length_eq_zero_iff.1 hp
    rfl
  | j + 1, p, f, q, hp, hs => by
    obtain ⟨p', g, rfl⟩ : ∃ p' g, p = p' ++ [g] := ⟨p.dropLast, p.getLast (by intro h; simp [h] at hp), (List.dropLast_concat_getLast _).symm⟩
    have hj : p'.length = j := by simpa using hp
    subst hj
    have e : p' ++ [g] ++ f :: q = p' ++ g :: f :: q := by simp
    have hs' := List.pairwise_append.1 hs
    rw [e]
    unfold insInner
    rw [(get_two p' f g q).1, (get_two p' f g q).2, lt_cf]
    by_cases h : f.at' < g.at'
    · rw [if_pos (by simp [h]), swp_two, insInner_list p'.length p' f (g :: q) rfl hs'.1, insF_lo h]
      simp
    · rw [if_neg (by simp [h]), insF_hi]
      · simp
      · intro x hx
        rcases List.mem_append.1 hx with hx | hx
        · have := hs'.2.2 x hx g (by simp); omega
        · rw [List.mem_singleton] at hx; subst hx; omega
theorem insOuter_list : ∀ (r s : List FtM), FP.Srt s → insOuter (ltOf cf) 0 (s.length + r.length) s.length (s ++ r).toArray = (r.foldl insF s).toArray
  | [], s, _ => by rw [insOuter_stop _ _ _ _ _ (by simp)]; simp
  | f :: r, s, hs => by
    rw [insOuter_go _ _ _ _ _ (by simp), insInner_list s.length s f r rfl hs]
    have hl := FP.insF_len s f
    have := insOuter_list r (insF s f) (FP.insF_sorted f hs)
    rw [hl] at this
    rw [List.foldl_cons, ← this]
    congr 1
    simp only [List.length_cons]; omega
theorem sort_list (l : List FtM) : insertionSort (ltOf cf) l.toArray 0 l.length = (l.foldl insF []).toArray := by
  have h := insOuter_list l [] List.Pairwise.nil
  simp only [List.length_nil, Nat.zero_add, List.nil_append] at h
  rw [← h]
  unfold insertionSort
  cases l with
  | nil => rw [insOuter_stop _ _ _ _ _ (by simp), insOuter_stop _ _ _ _ _ (by simp)]
  | cons a l =>
    conv => rhs; rw [insOuter_go _ _ _ _ _ (by simp)]
    rw [insInner_stop _ _ _ _ (Or.inl (Nat.le_refl _))]
theorem sort_none (d : Array FtM) : insertionSort (ltOf cf) d d.size d.size = d := by
  unfold insertionSort
  rw [insOuter_stop _ _ _ _ _ (by omega)]

theorem size_inner {lt : FtM → FtM → Bool} {a : Nat} : ∀ (j : Nat) (d : Array FtM), (insInner lt a j d).size = d.size
  | 0, _ => rfl
  | j + 1, d => by
    unfold insInner
    split
    · rw [size_inner j, size_swp]
    · rfl
theorem size_outer {lt : FtM → FtM → Bool} {a b : Nat} : ∀ (n i : Nat) (d : Array FtM), b - i ≤ n → (insOuter lt a b i d).size = d.size
  | 0, i, d, h => by rw [insOuter_stop _ _ _ _ _ (by omega)]
  | n + 1, i, d, h => by
    by_cases hi : i < b
    · rw [insOuter_go _ _ _ _ _ hi, size_outer n _ _ (by omega), size_inner]
    · rw [insOuter_stop _ _ _ _ _ hi]
theorem size_sort {lt : FtM → FtM → Bool} (d : Array FtM) (a b : Nat) : (insertionSort lt d a b).size = d.size := size_outer b _ _ (by omega)

/-! In memory. -/
def ren : Go.Shelf.Ren := ⟨fun | 20 => 88 | n => n, fun | 22 => 47 | 24 => 44 | 25 => 97 | 3 => 3 | 0 => 0 | 4 => 4 | n => n, fun | n => n⟩
set_option maxRecDepth 100000 in
theorem lays : Go.Proofs.SlLaysF0.n20 Tryz.prog ren := {
  mixed := by kernel_rfl,
  f20 := ⟨Tryz.f88.name, by decide, Tryz.func88.trans (congrArg some (by kernel_rfl))⟩,
  t0 := Tryz.underlying0,
  a0 := Tryz.isAgg0,
  z0 := Tryz.sizeOf0,
  v0 := Tryz.zeroValue0,
  t3 := Tryz.underlying3,
  a3 := Tryz.isAgg3,
  z3 := Tryz.sizeOf3,
  v3 := Tryz.zeroValue3,
  t4 := Tryz.underlying4,
  a4 := Tryz.isAgg4,
  z4 := Tryz.sizeOf4,
  v4 := Tryz.zeroValue4,
  t22 := Tryz.underlying47,
  a22 := Tryz.isAgg47,
  z22 := Tryz.sizeOf47,
  v22 := Tryz.zeroValue47,
  t25 := Tryz.underlying97,
  a25 := Tryz.isAgg97,
  z25 := Tryz.sizeOf97,
  v25 := Tryz.zeroValue97 }
theorem enters : ∀ args w, (callFunc 62 args).run Tryz.prog w = .ok (.enter 62 args) w := enters_of Tryz.func62 (by kernel_rfl) rfl
theorem lays_cmp (blk off size : Nat) (w : World) : CmpLays Tryz.prog 62 #[] cellsFau 7 cf blk off size w := fun _ _ _ _ x y => cmp_one x y _
abbrev fnV : Value := .func (.func 62) #[] #[]

/-- One piece of a row, sorted. -/
theorem ins_any (g cap a b : Nat) (d : Array FtM) (w : World) (hH : HoldsK cellsFau 7 w g 0 d) (hg : g < w.heap.size) (hab : a ≤ b) (hb : b ≤ d.size) (hn : d.size < 4611686018427387904) :
    Calls Tryz.prog 88 #[.slice (some ⟨g, 0, none⟩) d.size cap, .int .i64 a, .int .i64 b, fnV] w fun e w' => e = .returned (.tuple #[]) ∧ HoldsK cellsFau 7 w' g 0 (insertionSort (ltOf cf) d a b) ∧ w.grownBy w' (some g) := by
  have hcon := AnyQ.insertionSortCmpFunc lays 7 agg_F size_F cellsFau (fun _ => rfl) flat_F cf 62 #[] g 0 cap a b d w enters (lays_cmp g 0 d.size w) hH hg hab hb hn
  change Calls Tryz.prog 88 _ _ _ at hcon
  refine hcon.mono ?_
  rintro e w' ⟨rfl, n, os, hw⟩
  have hl : (insertionSort (ltOf cf) d a b).size = d.size := size_sort _ _ _
  have hH' : HoldsK cellsFau 7 (putRowK cellsFau 7 (Sort.ahead w n) g 0 (insertionSort (ltOf cf) d a b)) g 0 (insertionSort (ltOf cf) d a b) := holdsK_putRowK cellsFau 7 _ g 0 _ _ (holdsK_ahead cellsFau 7 w n g 0 _ hH) hl
  have hsz : (putRowK cellsFau 7 (Sort.ahead w n) g 0 (insertionSort (ltOf cf) d a b)).heap.size = w.heap.size := by simp [putRowK, putRow, mapBlock, Sort.ahead]
  refine ⟨rfl, ?_, ?_⟩
  · rw [hw]; exact holdsK_grow cellsFau 7 _ os g 0 _ (by rw [hsz]; exact hg) hH'
  · rw [hw]
    refine ⟨rfl, rfl, rfl, ?_, fun k hk hne => ?_⟩
    · unfold sortWorldK grow; simp only [Array.size_append, hsz]; omega
    · have hkg : g ≠ k := fun e => hne (by rw [← e])
      unfold sortWorldK
      rw [heap_grow_old _ _ (by rw [hsz]; exact hk)]
      simp [putRowK, putRow, mapBlock, Sort.ahead, Array.getElem?_modify, hkg]
theorem ins_nil (cap : Nat) (w : World) : Calls Tryz.prog 88 #[.slice none 0 cap, .int .i64 0, .int .i64 0, fnV] w fun e w' => e = .returned (.tuple #[]) ∧ w = w' := by
  go_enter Tryz.func88, Tryz.ntmps88
  go_wp2
  refine wp_loop_rounds 1 ?_
  rw [rounds_succ]
  go_wp2
  go_end0
  exact ⟨rfl, rfl⟩
/-- v is a slice of the faults l, in memory from block base on. -/
def SliceF (base : Nat) (w : World) (v : Value) (l : List FtM) : Prop :=
  (v = .slice none 0 0 ∧ l = []) ∨ ∃ g cap, v = .slice (some ⟨g, 0, none⟩) l.length cap ∧ l.length ≤ cap ∧ cap ≤ maxLen ∧ base ≤ g ∧ g < w.heap.size ∧ HoldsK cellsFau 7 w g 0 l.toArray
theorem flat_get : ∀ (xs : List FtM) (t : Nat), t < xs.length * 7 → (xs.flatMap cellsFau)[t]? = some (cellsFau (xs[t / 7]!))[t % 7]!
  | [], t, h => by simp at h
  | x :: r, t, h => by
    rw [List.flatMap_cons]
    by_cases ht : t < 7
    · rw [List.getElem?_append_left (by simpa [cellsFau] using ht)]
      have h0 : t / 7 = 0 := by omega
      have h1 : t % 7 = t := by omega
      rw [h0, h1]
      match t, ht with
      | 0, _ => rfl
      | 1, _ => rfl
      | 2, _ => rfl
      | 3, _ => rfl
      | 4, _ => rfl
      | 5, _ => rfl
      | 6, _ => rfl
    · rw [List.getElem?_append_right (by simp [cellsFau]; omega)]
      have e1 : t / 7 = (t - 7) / 7 + 1 := by omega
      have e2 : t % 7 = (t - 7) % 7 := by omega
      rw [show (cellsFau x).length = 7 from rfl, flat_get r (t - 7) (by simp at h; omega), e1, e2]
      rfl
theorem holds_of_block {w : World} {g : Nat} {cur : Array Value} {e : TypeId} {xs : List FtM} (hb : w.heap[g]? = some (.cells cur e (0, 0))) (ht : cur.toList.take (xs.length * 7) = xs.flatMap cellsFau) :
    HoldsK cellsFau 7 w g 0 xs.toArray := by
  intro t hlt
  rw [size_flatK] at hlt
  have hlt' : t < xs.length * 7 := by simpa using hlt
  refine ⟨?_, by simp [World.frozen?, hb]⟩
  have h1 : (cur.toList.take (xs.length * 7))[t]? = (xs.flatMap cellsFau)[t]? := by rw [ht]
  rw [List.getElem?_take_of_lt hlt', flat_get xs t hlt'] at h1
  rw [get_flatK _ _ _ _ hlt]
  simp only [World.cell?, hb, Nat.zero_add, Option.isSome_none, Bool.false_eq_true, if_false, id]
  rw [← Array.getElem?_toList, h1]
  simp
theorem SliceF.of_owns {base : Nat} {w : World} {v : Value} {xs : List FtM} (h : w.ownsRow base 44 7 v xs.length (xs.flatMap cellsFau)) : SliceF base w v xs := by
  rcases h.2 with ⟨rfl, hz⟩ | ⟨g, cap, cur, rfl, hbase, hg, r1, r2, r3, r4⟩
  · exact .inl ⟨rfl, List.eq_nil_of_length_eq_zero hz⟩
  · exact .inr ⟨g, cap, rfl, r1, r2, hbase, (Array.getElem?_eq_some_iff.1 hg).1, holds_of_block hg r4⟩
theorem SliceF.is {base : Nat} {w : World} {v : Value} {xs : List FtM} (h : SliceF base w v xs) : ∃ a cap, v = .slice a xs.length cap ∧ xs.length ≤ cap ∧ cap ≤ maxLen ∧ FaultsIs w a xs ∧ (a = none → cap = 0) ∧ (∀ ad, a = some ad → ∃ g, ad = ⟨g, 0, none⟩ ∧ base ≤ g ∧ g < w.heap.size) := by
  rcases h with ⟨rfl, rfl⟩ | ⟨g, cap, rfl, h1, h2, h3, h4, h5⟩
  · exact ⟨none, 0, rfl, by simp, by unfold maxLen; omega, fun i f hi => by simp at hi, fun _ => rfl, fun _ h => by cases h⟩
  · refine ⟨some ⟨g, 0, none⟩, cap, rfl, h1, h2, fun i f hi => ⟨g, 0, rfl, fun j u hj => ?_⟩, (fun h => by cases h), (fun ad h => by cases h; exact ⟨g, rfl, h3, h4⟩)⟩
    have h7 : j < 7 := by have := (List.getElem?_eq_some_iff.1 hj).1; simpa [cellsFau] using this
    have hi' := (List.getElem?_eq_some_iff.1 hi).1
    have hc := (h5.cell (i := i) (c := j) (by simpa using hi') h7).1
    rw [hc]
    have e : xs.toArray[i]! = f := by
      rw [List.getElem!_toArray, List.getElem!_eq_getElem?_getD, hi]; rfl
    rw [e, List.getElem!_eq_getElem?_getD, hj]; rfl
theorem foldl_len (l : List FtM) : (l.foldl insF []).length = l.length := by rw [FP.foldl_ins_len]; simp

set_option maxHeartbeats 2000000 in
/-- slices.SortStableFunc, of twenty at most. -/
theorem stable_any (base : Nat) (w : World) (v : Value) (l : List FtM) (h : SliceF base w v l) (hn : l.length ≤ 20) :
    Calls Tryz.prog 72 #[v, .int .i64 (l.length : Nat), fnV] w fun e w' => e = .returned (.tuple #[]) ∧ SliceF base w' v (l.foldl insF []) ∧ w.grownBy w' v.ownBlock := by
  rcases h with ⟨rfl, rfl⟩ | ⟨g, cap, rfl, h1, h2, h3, h4, h5⟩
  · simp only [List.length_nil]
    go_enter Tryz.func72, Tryz.ntmps72
    go_wp2
    refine wp_loop_rounds 1 ?_
    rw [rounds_succ]
    go_wp2_with (go_at_call 88; (with_reducible refine (ins_nil _ _).mono ?_); rintro e x ⟨rfl, rfl⟩)
    refine wp_loop_rounds 1 ?_
    rw [rounds_succ]
    go_wp2
    go_end0
    exact ⟨rfl, .inl ⟨rfl, rfl⟩, ⟨rfl, rfl, rfl, Nat.le_refl _, fun _ _ _ => rfl⟩⟩
  · have e0 : l.toArray.size = l.length := by simp
    have HI := Lib.hid (ins_any g cap 0 l.length l.toArray w h5 h4 (Nat.zero_le _) (by simp) (by simp; omega))
    rw [sort_list, e0, show ((0 : Nat) : Int) = 0 from rfl] at HI
    by_cases h20 : l.length = 20
    · have H2 := Lib.hid (fun (x : World) (hh : HoldsK cellsFau 7 x g 0 (l.foldl insF []).toArray) (hg : g < x.heap.size) => by
        have hz : (l.foldl insF []).toArray.size = 20 := by rw [List.size_toArray, foldl_len, h20]
        have := ins_any g cap 20 20 (l.foldl insF []).toArray x hh hg (Nat.le_refl _) (by omega) (by omega)
        have e := sort_none (l.foldl insF []).toArray
        rw [hz] at e
        rw [hz, e] at this
        rw [show ((20 : Nat) : Int) = 20 from rfl] at this
        exact this)
      have HL := Lib.hid (⟨h1, h2, h3, h4⟩ : l.length ≤ cap ∧ cap ≤ maxLen ∧ base ≤ g ∧ g < w.heap.size)
      clear h1 h2 h3 h4 h5 hn
      rw [h20] at HI ⊢
      rw [show ((20 : Nat) : Int) = 20 from rfl] at HI ⊢
      go_enter Tryz.func72, Tryz.ntmps72
      go_wp2
      refine wp_loop_rounds 2 ?_
      rw [rounds_succ]
      go_wp2_with (go_at_call 88; (with_reducible refine HI.out.mono ?_); rintro e x ⟨rfl, hh, hgr⟩; have hgx := Nat.lt_of_lt_of_le HL.out.2.2.2 hgr.size)
      rw [rounds_succ]
      go_wp2_with (go_at_call 88; (with_reducible refine (H2.out _ hh hgx).mono ?_); rintro e y ⟨rfl, hh2, hgr2⟩)
      refine wp_loop_rounds 1 ?_
      rw [rounds_succ]
      go_wp2
      go_end0
      have hgg : w.grownBy y (some g) := hgr.trans hgr2
      exact ⟨rfl, .inr ⟨g, cap, by rw [foldl_len, h20], by rw [foldl_len]; exact HL.out.1, HL.out.2.1, HL.out.2.2.1, Nat.lt_of_lt_of_le HL.out.2.2.2 hgg.size, hh2⟩, hgg⟩
    · have hlt : (l.length : Int) < 20 := by omega
      have hng : ¬ (20 : Int) ≤ (l.length : Int) := by omega
      have HL := Lib.hid (⟨h1, h2, h3, h4⟩ : l.length ≤ cap ∧ cap ≤ maxLen ∧ base ≤ g ∧ g < w.heap.size)
      clear h1 h2 h3 h4 h5 hn
      go_enter Tryz.func72, Tryz.ntmps72
      go_wp2
      refine wp_loop_rounds 1 ?_
      rw [rounds_succ]
      go_wp2_with (go_at_call 88; (with_reducible refine HI.out.mono ?_); rintro e x ⟨rfl, hh, hgr⟩)
      refine wp_loop_rounds 1 ?_
      rw [rounds_succ]
      go_wp2
      go_end0
      exact ⟨rfl, .inr ⟨g, cap, by rw [foldl_len], by rw [foldl_len]; exact HL.out.1, HL.out.2.1, HL.out.2.2.1, Nat.lt_of_lt_of_le HL.out.2.2.2 hgr.size, hh⟩, hgr⟩
theorem stableFunc_any (base : Nat) (w : World) (v : Value) (l : List FtM) (h : SliceF base w v l) (hn : l.length ≤ 20) :
    Calls Tryz.prog 61 #[v, fnV] w fun e w' => e = .returned (.tuple #[]) ∧ SliceF base w' v (l.foldl insF []) ∧ w.grownBy w' v.ownBlock := by
  have HS := Lib.hid (stable_any base w v l h hn)
  obtain ⟨a, cap, hv, _⟩ := h.is
  rw [hv] at HS ⊢
  clear hv h
  go_enter Tryz.func61, Tryz.ntmps61
  go_wp2_with (go_at_call 72; (with_reducible refine HS.out.mono ?_); rintro e x ⟨rfl, hh, hgr⟩)
  go_end0
  exact ⟨rfl, hh, hgr⟩
end FT
end Go.Proofs.YtfploeefmnbpcaaGreat

/- slices.SortFunc of places. -/
namespace Go.Proofs.YtfploeefmnbpcaaGreat
open Go.Shelf Go.RowKit Go.Lib Go.Sort

def sortA_ren : Go.Shelf.Ren := ⟨fun | 6 => 93 | 15 => 105 | 14 => 104 | 28 => 131 | 29 => 132 | 20 => 123 | 21 => 124 | 22 => 125 | 23 => 126 | 24 => 127 | 25 => 128 | 26 => 129 | 27 => 130 | 46 => 136 | 47 => 137 | 48 => 138 | 49 => 139 | 50 => 140 | 57 => 141 | n => n, fun | 22 => 110 | 24 => 32 | 25 => 132 | 3 => 3 | 39 => 121 | 0 => 0 | 53 => 153 | 55 => 92 | 4 => 4 | 46 => 160 | 45 => 159 | 50 => 164 | 5 => 5 | 9 => 9 | 66 => 172 | 70 => 176 | 76 => 178 | 77 => 179 | n => n, fun | n => n⟩
set_option maxRecDepth 100000 in
theorem sortA : Go.Proofs.SlLaysF0.n6 Tryz.prog sortA_ren := {
  mixed := by kernel_rfl,
  f6 := ⟨Tryz.f93.name, by decide, Tryz.func93.trans (congrArg some (by kernel_rfl))⟩,
  f14 := ⟨Tryz.f104.name, by decide, Tryz.func104.trans (congrArg some (by kernel_rfl))⟩,
  f15 := Tryz.func105.trans (congrArg some (by kernel_rfl)),
  f20 := ⟨Tryz.f123.name, by decide, Tryz.func123.trans (congrArg some (by kernel_rfl))⟩,
  f21 := ⟨Tryz.f124.name, by decide, Tryz.func124.trans (congrArg some (by kernel_rfl))⟩,
  f22 := ⟨Tryz.f125.name, by decide, Tryz.func125.trans (congrArg some (by kernel_rfl))⟩,
  f23 := ⟨Tryz.f126.name, by decide, Tryz.func126.trans (congrArg some (by kernel_rfl))⟩,
  f24 := ⟨Tryz.f127.name, by decide, Tryz.func127.trans (congrArg some (by kernel_rfl))⟩,
  f25 := ⟨Tryz.f128.name, by decide, Tryz.func128.trans (congrArg some (by kernel_rfl))⟩,
  f26 := ⟨Tryz.f129.name, by decide, Tryz.func129.trans (congrArg some (by kernel_rfl))⟩,
  f27 := ⟨Tryz.f130.name, by decide, Tryz.func130.trans (congrArg some (by kernel_rfl))⟩,
  f28 := Tryz.func131.trans (congrArg some (by kernel_rfl)),
  f29 := Tryz.func132.trans (congrArg some (by kernel_rfl)),
  f46 := ⟨Tryz.f136.name, by decide, Tryz.func136.trans (congrArg some (by kernel_rfl))⟩,
  f47 := Tryz.func137.trans (congrArg some (by kernel_rfl)),
  f48 := Tryz.func138.trans (congrArg some (by kernel_rfl)),
  f49 := ⟨Tryz.f139.name, by decide, Tryz.func139.trans (congrArg some (by kernel_rfl))⟩,
  f50 := ⟨Tryz.f140.name, by decide, Tryz.func140.trans (congrArg some (by kernel_rfl))⟩,
  f57 := ⟨Tryz.f141.name, by decide, Tryz.func141.trans (congrArg some (by kernel_rfl))⟩,
  t0 := Tryz.underlying0,
  a0 := Tryz.isAgg0,
  z0 := Tryz.sizeOf0,
  v0 := Tryz.zeroValue0,
  t3 := Tryz.underlying3,
  a3 := Tryz.isAgg3,
  z3 := Tryz.sizeOf3,
  v3 := Tryz.zeroValue3,
  t4 := Tryz.underlying4,
  a4 := Tryz.isAgg4,
  z4 := Tryz.sizeOf4,
  v4 := Tryz.zeroValue4,
  t5 := Tryz.underlying5,
  a5 := Tryz.isAgg5,
  z5 := Tryz.sizeOf5,
  v5 := Tryz.zeroValue5,
  t9 := Tryz.underlying9,
  a9 := Tryz.isAgg9,
  z9 := Tryz.sizeOf9,
  v9 := Tryz.zeroValue9,
  t22 := Tryz.underlying110,
  a22 := Tryz.isAgg110,
  z22 := Tryz.sizeOf110,
  v22 := Tryz.zeroValue110,
  t25 := Tryz.underlying132,
  a25 := Tryz.isAgg132,
  z25 := Tryz.sizeOf132,
  v25 := Tryz.zeroValue132,
  t39 := Tryz.underlying121,
  a39 := Tryz.isAgg121,
  z39 := Tryz.sizeOf121,
  v39 := Tryz.zeroValue121,
  t45 := Tryz.underlying159,
  a45 := Tryz.isAgg159,
  z45 := Tryz.sizeOf159,
  v45 := Tryz.zeroValue159,
  t46 := Tryz.underlying160,
  a46 := Tryz.isAgg160,
  z46 := Tryz.sizeOf160,
  v46 := Tryz.zeroValue160,
  t50 := Tryz.underlying164,
  a50 := Tryz.isAgg164,
  z50 := Tryz.sizeOf164,
  v50 := Tryz.zeroValue164,
  t53 := Tryz.underlying153,
  a53 := Tryz.isAgg153,
  z53 := Tryz.sizeOf153,
  v53 := Tryz.zeroValue153,
  t55 := Tryz.underlying92,
  a55 := Tryz.isAgg92,
  z55 := Tryz.sizeOf92,
  v55 := Tryz.zeroValue92,
  t66 := Tryz.underlying172,
  a66 := Tryz.isAgg172,
  z66 := Tryz.sizeOf172,
  v66 := Tryz.zeroValue172,
  t70 := Tryz.underlying176,
  a70 := Tryz.isAgg176,
  z70 := Tryz.sizeOf176,
  v70 := Tryz.zeroValue176,
  t76 := Tryz.underlying178,
  a76 := Tryz.isAgg178,
  z76 := Tryz.sizeOf178,
  v76 := Tryz.zeroValue178,
  t77 := Tryz.underlying179,
  a77 := Tryz.isAgg179,
  z77 := Tryz.sizeOf179,
  v77 := Tryz.zeroValue179 }
end Go.Proofs.YtfploeefmnbpcaaGreat

/- Places in order: what slices.SortFunc(l, compare) leaves. -/
namespace Go.Proofs.YtfploeefmnbpcaaGreat
open Go.Shelf Go.RowKit Go.Lib Go.Sort

/-- One place comes ahead of the other. -/
def ltA (a b : A3) : Prop := a.1 < b.1 ∨ a.1 = b.1 ∧ (a.2.1 < b.2.1 ∨ a.2.1 = b.2.1 ∧ a.2.2 < b.2.2)
instance (a b : A3) : Decidable (ltA a b) := by unfold ltA; exact inferInstance

theorem ltOf_cmp (a b : A3) : ltOf cmpA a b = decide (ltA a b) := by
  unfold ltOf
  congr 1
  rw [eq_iff_iff]
  unfold cmpA cmpI ltA
  (repeat' split) <;> omega
theorem ltA_irrefl (a : A3) : ¬ ltA a a := by unfold ltA; omega
theorem ltA_trans {a b c : A3} (h : ltA a b) (k : ltA b c) : ltA a c := by unfold ltA at *; omega
theorem ltA_total {a b : A3} (h : ¬ ltA a b) (k : ¬ ltA b a) : a = b := by
  obtain ⟨x, y, z⟩ := a; obtain ⟨x', y', z'⟩ := b
  simp only [ltA] at h k
  simp only [Prod.mk.injEq]
  omega
theorem swoA : SWO (ltOf cmpA) where
  irrefl x := by rw [ltOf_cmp]; simpa using ltA_irrefl x
  trans x y z h1 h2 := by rw [ltOf_cmp] at *; simp only [decide_eq_true_eq] at *; exact ltA_trans h1 h2
  ntrans x y z h1 h2 := by
    rw [ltOf_cmp] at *
    simp only [decide_eq_false_iff_not] at *
    intro h3
    unfold ltA at *
    omega
theorem cmpLays (blk off size : Nat) (w : World) : CmpLays Tryz.prog 92 #[] cellsA 3 cmpA blk off size w :=
  fun _ _ _ _ x y => cmp_any x y _

/-- The places in order. -/
def sortL (xs : List A3) : List A3 := xs.mergeSort fun x y => !(ltOf cmpA) y x
theorem sortL_perm (xs : List A3) : (sortL xs).Perm xs := List.mergeSort_perm _ _
theorem sortL_length (xs : List A3) : (sortL xs).length = xs.length := (sortL_perm xs).length_eq
theorem sortL_sorted (xs : List A3) (h : xs.Nodup) : (sortL xs).Pairwise ltA := by
  have h1 : (sortL xs).Pairwise fun x y => (!(ltOf cmpA) y x) = true := by
    refine List.pairwise_mergeSort (fun a b c h1 h2 => ?_) (fun a b => ?_) xs
    · rw [ltOf_cmp] at *
      simp only [Bool.not_eq_true', decide_eq_false_iff_not] at *
      unfold ltA at *; omega
    · rw [ltOf_cmp, ltOf_cmp]
      by_cases h : ltA b a
      · have : ¬ ltA a b := fun k => ltA_irrefl a (ltA_trans k h)
        simp [this]
      · simp [h]
  have h2 : (sortL xs).Nodup := (sortL_perm xs).nodup_iff.2 h
  refine (h1.and h2).imp fun {x y} ⟨h3, h4⟩ => ?_
  rw [ltOf_cmp] at h3
  simp only [Bool.not_eq_true', decide_eq_false_iff_not] at h3
  by_cases h5 : ltA x y
  · exact h5
  · exact absurd (ltA_total h5 h3) h4
theorem sorted_eq {l l' : List A3} (hp : l.Perm l') (h : l.Pairwise ltA) (h' : l'.Pairwise ltA) : l = l' :=
  List.Perm.eq_of_pairwise (le := ltA) (fun a _ _ _ h1 h2 => absurd (ltA_trans h1 h2) (ltA_irrefl a)) h h' hp
theorem sorted_nodup {l : List A3} (h : l.Pairwise ltA) : l.Nodup := by
  refine h.imp ?_
  intro a b h1 h2
  subst h2
  exact ltA_irrefl _ h1

theorem sortL_of_perm {l l' : List A3} (h : l.Perm l') : sortL l = sortL l' := by
  have tr : ∀ a b c : A3, (!(ltOf cmpA) b a) = true → (!(ltOf cmpA) c b) = true → (!(ltOf cmpA) c a) = true := fun a b c h1 h2 => by
    rw [ltOf_cmp] at *
    simp only [Bool.not_eq_true', decide_eq_false_iff_not] at *
    unfold ltA at *; omega
  have tot : ∀ a b : A3, ((!(ltOf cmpA) b a) || (!(ltOf cmpA) a b)) = true := fun a b => by
    rw [ltOf_cmp, ltOf_cmp]
    by_cases h : ltA b a
    · have : ¬ ltA a b := fun k => ltA_irrefl a (ltA_trans k h)
      simp [this]
    · simp [h]
  refine List.Perm.eq_of_pairwise (le := fun x y => (!(ltOf cmpA) y x) = true) (fun a b _ _ h1 h2 => ?_) (List.pairwise_mergeSort tr tot l) (List.pairwise_mergeSort tr tot l') (((sortL_perm l).trans h).trans (sortL_perm l').symm)
  rw [ltOf_cmp] at h1 h2
  simp only [Bool.not_eq_true', decide_eq_false_iff_not] at h1 h2
  exact ltA_total h2 h1

/-- The cells of places that lie behind one another. -/
theorem flatS_get : ∀ (xs : List A3) (t : Nat), t < xs.length * 3 → (xs.flatMap cellsA)[t]? = some (cellsA (xs[t / 3]!))[t % 3]!
  | [], t, h => by simp at h
  | x :: r, t, h => by
    rw [List.flatMap_cons]
    by_cases ht : t < 3
    · rw [List.getElem?_append_left (by simpa [cellsA] using ht)]
      have h0 : t / 3 = 0 := by omega
      have h1 : t % 3 = t := by omega
      rw [h0, h1]
      match t, ht with
      | 0, _ => rfl
      | 1, _ => rfl
      | 2, _ => rfl
    · rw [List.getElem?_append_right (by simp [cellsA]; omega)]
      have e1 : t / 3 = (t - 3) / 3 + 1 := by omega
      have e2 : t % 3 = (t - 3) % 3 := by omega
      rw [show (cellsA x).length = 3 from rfl, flatS_get r (t - 3) (by simp at h; omega), e1, e2]
      rfl

theorem holdsA_of_block {w : World} {g : Nat} {cur : Array Value} {e : TypeId} {xs : List A3} (hb : w.heap[g]? = some (.cells cur e (0, 0))) (ht : cur.toList.take (xs.length * 3) = xs.flatMap cellsA) :
    HoldsK cellsA 3 w g 0 xs.toArray := by
  intro t hlt
  rw [size_flatK] at hlt
  have hlt' : t < xs.length * 3 := by simpa using hlt
  refine ⟨?_, by simp [World.frozen?, hb]⟩
  have h1 : (cur.toList.take (xs.length * 3))[t]? = (xs.flatMap cellsA)[t]? := by rw [ht]
  rw [List.getElem?_take_of_lt hlt', flatS_get xs t hlt'] at h1
  rw [get_flatK _ _ _ _ hlt]
  simp only [World.cell?, hb, Nat.zero_add, Option.isSome_none, Bool.false_eq_true, if_false, id]
  rw [← Array.getElem?_toList, h1]
  simp

/-- v is a slice of the places xs, in memory from block base on. -/
def SliceA (base : Nat) (w : World) (v : Value) (xs : List A3) : Prop :=
  (v = .slice none 0 0 ∧ xs = []) ∨ ∃ g cap, v = .slice (some ⟨g, 0, none⟩) xs.length cap ∧ xs.length ≤ cap ∧ cap ≤ maxLen ∧ base ≤ g ∧ g < w.heap.size ∧ HoldsK cellsA 3 w g 0 xs.toArray

theorem SliceA.of_owns {base : Nat} {w : World} {v : Value} {xs : List A3} (h : w.ownsRow base 32 3 v xs.length (xs.flatMap cellsA)) : SliceA base w v xs := by
  rcases h.2 with ⟨rfl, hz⟩ | ⟨g, cap, cur, rfl, hbase, hg, r1, r2, r3, r4⟩
  · exact .inl ⟨rfl, List.eq_nil_of_length_eq_zero hz⟩
  · exact .inr ⟨g, cap, rfl, r1, r2, hbase, (Array.getElem?_eq_some_iff.1 hg).1, holdsA_of_block hg r4⟩

/-- Another block's turn leaves a slice. -/
theorem SliceA.keep {base : Nat} {w w' : World} {v : Value} {xs : List A3} (h : SliceA base w v xs) (hs : w.heap.size ≤ w'.heap.size) (hb : ∀ g, v.ownBlock = some g → w'.heap[g]? = w.heap[g]?) : SliceA base w' v xs := by
  rcases h with h | ⟨g, cap, rfl, h1, h2, h3, h4, h5⟩
  · exact .inl h
  · refine .inr ⟨g, cap, rfl, h1, h2, h3, by omega, fun t ht => ?_⟩
    have hg := hb g rfl
    exact ⟨(World.cell?_of_block (a := ⟨g, 0 + t, none⟩) hg).trans (h5 t ht).1, (World.frozen?_of_block (a := ⟨g, 0 + t, none⟩) hg).trans (h5 t ht).2⟩
theorem SliceA.below {base B : Nat} {w w' : World} {v : Value} {xs : List A3} (h : SliceA base w v xs) (hw : Below B w w') (hB : w.heap.size ≤ B) : SliceA base w' v xs := by
  rcases h with h | ⟨g, cap, rfl, h1, h2, h3, h4, h5⟩
  · exact .inl h
  · exact SliceA.keep (.inr ⟨g, cap, rfl, h1, h2, h3, h4, h5⟩) hw.size (fun g' e => by cases e; exact hw.block g (Nat.lt_of_lt_of_le h4 hB))
theorem SliceA.base {base base' : Nat} {w : World} {v : Value} {xs : List A3} (h : SliceA base w v xs) (hb : base' ≤ base) : SliceA base' w v xs := by
  rcases h with h | ⟨g, cap, rfl, h1, h2, h3, h4, h5⟩
  · exact .inl h
  · exact .inr ⟨g, cap, rfl, h1, h2, by omega, h4, h5⟩

theorem enters_compare : ∀ args w, (callFunc 92 args).run Tryz.prog w = .ok (.enter 92 args) w := enters_of Tryz.func92 (by kernel_rfl) rfl

/-- slices.SortFunc(l, compare). -/
theorem sort_any (base : Nat) (w : World) (v : Value) (xs : List A3) (h : SliceA base w v xs) (hn : xs.length < 4611686018427387904) :
    Calls Tryz.prog 93 #[v, .func (.func 92) #[] #[]] w fun e w' => e = .returned (.tuple #[]) ∧ SliceA base w' v (sortL xs) ∧ w.grownBy w' v.ownBlock := by
  rcases h with ⟨rfl, rfl⟩ | ⟨g, cap, rfl, h1, h2, h3, h4, h5⟩
  · refine (AnyF.slices_SortFunc_none sortA none 0 _ w).mono ?_
    rintro e w' ⟨rfl, rfl⟩
    exact ⟨rfl, .inl ⟨rfl, by simp [sortL]⟩, ⟨rfl, rfl, rfl, Nat.le_refl _, fun _ _ _ => rfl⟩⟩
  · have hcon := AnyQ.slices_SortFunc_total sortA 3 Tryz.isAgg32 Tryz.sizeOf32 cellsA (fun _ => rfl) (fun x v hv => by simp [cellsA] at hv; rcases hv with rfl | rfl | rfl <;> rfl) cmpA swoA 92 #[] g 0 cap xs.toArray w enters_compare (cmpLays g 0 xs.toArray.size w) h5 h4 (by simpa using hn)
      (fun x y e1 e2 => by rw [ltOf_cmp] at e1 e2; simp only [decide_eq_false_iff_not] at e1 e2; exact ltA_total e1 e2)
    change Calls Tryz.prog 93 _ _ _ at hcon
    have e0 : xs.toArray.size = xs.length := by simp
    rw [e0] at hcon
    refine hcon.mono ?_
    rintro e w' ⟨rfl, n, os, hw⟩
    have hs : (xs.toArray.toList.mergeSort fun x y => !(ltOf cmpA) y x) = sortL xs := rfl
    rw [hs] at hw
    have hl := sortL_length xs
    have hgl : (Sort.ahead w n).heap.size = w.heap.size := rfl
    have hH : HoldsK cellsA 3 (putRowK cellsA 3 (Sort.ahead w n) g 0 (sortL xs).toArray) g 0 (sortL xs).toArray := holdsK_putRowK cellsA 3 _ g 0 _ _ (holdsK_ahead cellsA 3 w n g 0 _ h5) (by simp [hl])
    have hsz : (putRowK cellsA 3 (Sort.ahead w n) g 0 (sortL xs).toArray).heap.size = w.heap.size := by simp [putRowK, putRow, mapBlock, Sort.ahead]
    refine ⟨rfl, .inr ⟨g, cap, by rw [hl], by omega, h2, h3, ?_, ?_⟩, ?_⟩
    · rw [hw]; unfold sortWorldK grow; simp only [Array.size_append, hsz]; omega
    · rw [hw]; exact holdsK_grow cellsA 3 _ os g 0 _ (by rw [hsz]; exact h4) hH
    · rw [hw]
      refine ⟨rfl, rfl, rfl, ?_, fun k hk hne => ?_⟩
      · unfold sortWorldK grow; simp only [Array.size_append, hsz]; omega
      · have hkg : g ≠ k := fun e => hne (by rw [← e]; rfl)
        unfold sortWorldK
        rw [heap_grow_old _ _ (by rw [hsz]; exact hk)]
        simp [putRowK, putRow, mapBlock, Sort.ahead, Array.getElem?_modify, hkg]
end Go.Proofs.YtfploeefmnbpcaaGreat

/- A range over a map by places; what has been collected. -/
namespace Go.Proofs.YtfploeefmnbpcaaGreat
open Go.RowKit Mp Go.ChangeMaps

theorem wpList_nextA (w : World) {ops : Array Oper} {rest : List Oper} {o : Oper} {a : Act} {Q : Exit → Act → World → Prop} {l : List (A3 × Value)} (hg : o.guard = none) (it : Operand) (hop : o.op = Op.next it false) (b r : Nat) (left : List (A3 × Value))
    (hit : a.eval it = .pointer (some ⟨r, 0, none⟩)) (h : RangeIs EA w b r l left)
    (hDone : left = [] → wpList Tryz.prog ops Q rest (a.put o.dst (.tuple #[.bool false])) w)
    (hMore : ∀ (x y z : Int) (v : Value) (left' : List (A3 × Value)) (w' : World), left.Perm (((x, y, z), v) :: left') → RangeIs EA w' b r l left' → w.grownBy w' (some r) → w'.heap.size = w.heap.size →
      (Instr.entry (.pointer (some ⟨r, 0, none⟩))).run Tryz.prog w' = .ok (.tuple #[.agg #[.int .i64 x, .int .i64 y, .int .i64 z], v]) w' → wpList Tryz.prog ops Q rest (a.put o.dst (.tuple #[.bool true, .agg #[.int .i64 x, .int .i64 y, .int .i64 z], v])) w') :
    wpList Tryz.prog ops Q (o :: rest) a w :=
  wpList_next w hg it hop b r left hit h hDone fun ⟨x, y, z⟩ v left' w' => hMore x y z v left' w'

theorem wpListIn_nextA {F : Fence} {n : Nat} (w : World) {ops : Array Oper} {rest : List Oper} {o : Oper} {a : Act} {Q : Exit → Act → World → Prop} {l : List (A3 × Value)} (hg : o.guard = none) (it : Operand) (hop : o.op = Op.next it false) (b r : Nat) (left : List (A3 × Value))
    (hit : a.eval it = .pointer (some ⟨r, 0, none⟩)) (h : RangeIs EA w b r l left)
    (hDone : left = [] → wpListIn F n Tryz.prog ops Q rest (a.put o.dst (.tuple #[.bool false])) w)
    (hMore : ∀ (x y z : Int) (v : Value) (left' : List (A3 × Value)) (w' : World), left.Perm (((x, y, z), v) :: left') → RangeIs EA w' b r l left' → w.grownBy w' (some r) → w'.heap.size = w.heap.size →
      (Instr.entry (.pointer (some ⟨r, 0, none⟩))).run Tryz.prog w' = .ok (.tuple #[.agg #[.int .i64 x, .int .i64 y, .int .i64 z], v]) w' → wpListIn F n Tryz.prog ops Q rest (a.put o.dst (.tuple #[.bool true, .agg #[.int .i64 x, .int .i64 y, .int .i64 z], v])) w') :
    wpListIn F n Tryz.prog ops Q (o :: rest) a w :=
  wpListIn_next w hg it hop b r left hit h hDone fun ⟨x, y, z⟩ v left' w' => hMore x y z v left' w'

/-- Of that block of that die? -/
def inBlk (die blk : Int) (p : A3 × Value) : Bool := decide (p.1.1 = die) && decide (p.1.2.1 = blk)
def pick (die blk : Int) (l : List (A3 × Value)) : List A3 := (l.filter (inBlk die blk)).map (·.1)

theorem infoA : (Tryz.prog.info? 32).map (fun i => (i.zero, i.size, i.bytes)) = some (some (.agg #[.int .i64 0, .int .i64 0, .int .i64 0]), 3, 24) := by kernel_rfl

theorem pick_perm {die blk : Int} {l l' : List (A3 × Value)} (h : l.Perm l') : (pick die blk l).Perm (pick die blk l') := (h.filter _).map _

theorem pick_yes {die blk z : Int} {v : Value} {left l : List (A3 × Value)} {xs : List A3} {left0 : List (A3 × Value)} (h : (xs ++ pick die blk left0).Perm (pick die blk l)) (hp : left0.Perm (((die, blk, z), v) :: left)) :
    ((xs ++ [(die, blk, z)]) ++ pick die blk left).Perm (pick die blk l) := by
  have h1 : (pick die blk left0).Perm ((die, blk, z) :: pick die blk left) := by
    have := pick_perm (die := die) (blk := blk) hp
    simpa [pick, inBlk] using this
  have h2 := (List.Perm.append_left xs h1).symm.trans h
  simpa using h2
theorem pick_no {die blk x y z : Int} {v : Value} {left l : List (A3 × Value)} {xs : List A3} {left0 : List (A3 × Value)} (h : (xs ++ pick die blk left0).Perm (pick die blk l)) (hp : left0.Perm (((x, y, z), v) :: left)) (hn : x ≠ die ∨ y ≠ blk) :
    (xs ++ pick die blk left).Perm (pick die blk l) := by
  have h1 : (pick die blk left0).Perm (pick die blk left) := by
    have := pick_perm (die := die) (blk := blk) hp
    have e : inBlk die blk ((x, y, z), v) = false := by rcases hn with h | h <;> simp [inBlk, h]
    unfold pick at this ⊢
    rw [List.filter_cons, e] at this
    simpa using this
  exact (List.Perm.append_left xs h1).symm.trans h

theorem ownsRow_ne {w : World} {base r : Nat} {e : TypeId} {size : Nat} {v : Value} {n : Nat} {xs : List Value} (h : w.ownsRow base e size v n xs) (hr : r < base) : v.ownBlock = none ∨ v.ownBlock ≠ some r := by
  cases hv : v.ownBlock with
  | none => exact .inl rfl
  | some k => exact .inr (fun e => by have e2 := Option.some.inj e; have := (h.lt k hv).1; omega)
end Go.Proofs.YtfploeefmnbpcaaGreat
