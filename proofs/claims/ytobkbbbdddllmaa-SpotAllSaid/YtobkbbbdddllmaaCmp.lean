/- How places are held against one another: cmp.Compare, cmp.Or, compare. -/
import Derived.Test.YtobkbbbdddllmaaSpotM
import Derived.Sort.Grow
import Derived.BigRegion
import Derived.Test.YtobkbbbdddllmaaPlan
import Derived.RegionTactic
import Derived.StillTailTactics
import Derived.Deep.DeepCutAuto
namespace Go.Proofs.Ytobkbbbdddllmaa
open Go.RowKit Go.Sort

/-- -1, 0, 1. -/
def cmpI (x y : Int) : Int := if x < y then -1 else if y < x then 1 else 0
/-- The first that is no nought. -/
def cmpA (a b : A3) : Int := if cmpI a.1 b.1 ≠ 0 then cmpI a.1 b.1 else if cmpI a.2.1 b.2.1 ≠ 0 then cmpI a.2.1 b.2.1 else cmpI a.2.2 b.2.2

theorem nan_any (x : Int) (w : World) : Calls Try.prog 43 #[.int .i64 x] w fun e w' => e = .returned (.bool false) ∧ w = w' := by
  go_enter Try.func43, Try.ntmps43
  go_wp2
  go_ret
  exact ⟨by simp, rfl⟩

theorem compare_any (x y : Int) (w : World) : Calls Try.prog 37 #[.int .i64 x, .int .i64 y] w fun e w' => e = .returned (.int .i64 (cmpI x y)) ∧ w = w' := by
  rcases Int.lt_trichotomy x y with h | h | h
  · rw [show cmpI x y = -1 by unfold cmpI; rw [if_pos h]]
    go_enter Try.func37, Try.ntmps37
    go_wp2_with (go_at_call 43; (with_reducible refine (nan_any _ _).mono ?_); rintro e w1 ⟨rfl, rfl⟩)
    go_ret
    exact ⟨rfl, rfl⟩
  · subst h
    rw [show cmpI x x = 0 by unfold cmpI; simp]
    go_enter Try.func37, Try.ntmps37
    go_wp2_with (go_at_call 43; (with_reducible refine (nan_any _ _).mono ?_); rintro e w1 ⟨rfl, rfl⟩)
    go_ret
    exact ⟨rfl, rfl⟩
  · rw [show cmpI x y = 1 by unfold cmpI; rw [if_neg (by omega), if_pos h]]
    have h2 : y ≤ x := by omega
    go_enter Try.func37, Try.ntmps37
    go_wp2_with (go_at_call 43; (with_reducible refine (nan_any _ _).mono ?_); rintro e w1 ⟨rfl, rfl⟩)
    go_ret
    exact ⟨rfl, rfl⟩

set_option maxHeartbeats 1000000 in
theorem or_any (x y z : Int) (q : Nat) (w : World) (h0 : w.cell? ⟨q, 0, none⟩ = some (.int .i64 x)) (h1 : w.cell? ⟨q, 1, none⟩ = some (.int .i64 y)) (h2 : w.cell? ⟨q, 2, none⟩ = some (.int .i64 z)) :
    Calls Try.prog 36 #[.slice (some ⟨q, 0, none⟩) 3 3] w fun e w' => e = .returned (.int .i64 (if x ≠ 0 then x else if y ≠ 0 then y else z)) ∧ w = w' := by
  by_cases hx : x = 0
  · subst hx
    rw [if_neg (by simp)]
    by_cases hy : y = 0
    · subst hy
      rw [if_neg (by simp)]
      by_cases hz : z = 0
      · subst hz
        go_enter Try.func36, Try.ntmps36
        go_wp2
        refine wp_loop_rounds 4 ?_
        iterate 4 (rw [rounds_succ]; go_wp2)
        go_ret
        exact ⟨rfl, rfl⟩
      · have hb : (z != 0) = true := by simpa using hz
        go_enter Try.func36, Try.ntmps36
        go_wp2
        refine wp_loop_rounds 3 ?_
        iterate 3 (rw [rounds_succ]; go_wp2)
        go_ret
        exact ⟨rfl, rfl⟩
    · rw [if_pos hy]
      have hb : (y != 0) = true := by simpa using hy
      go_enter Try.func36, Try.ntmps36
      go_wp2
      refine wp_loop_rounds 2 ?_
      iterate 2 (rw [rounds_succ]; go_wp2)
      go_ret
      exact ⟨rfl, rfl⟩
  · rw [if_pos hx]
    have hb : (x != 0) = true := by simpa using hx
    go_enter Try.func36, Try.ntmps36
    go_wp2
    refine wp_loop_rounds 1 ?_
    rw [rounds_succ]
    go_wp2
    go_ret
    exact ⟨rfl, rfl⟩

/-- Both boxes. -/
def TwoA (w : World) (q : Nat) (a b : A3) : Prop :=
  w.cell? ⟨q, 0, none⟩ = some (.int .i64 a.1) ∧ w.cell? ⟨q, 1, none⟩ = some (.int .i64 a.2.1) ∧ w.cell? ⟨q, 2, none⟩ = some (.int .i64 a.2.2) ∧
  w.cell? ⟨q + 1, 0, none⟩ = some (.int .i64 b.1) ∧ w.cell? ⟨q + 1, 1, none⟩ = some (.int .i64 b.2.1) ∧ w.cell? ⟨q + 1, 2, none⟩ = some (.int .i64 b.2.2)

theorem TwoA.below {w W' : World} {q B : Nat} {a b : A3} (h : TwoA w q a b) (hb : Below B w W') (hB : q + 2 ≤ B) : TwoA W' q a b := by
  obtain ⟨h0, h1, h2, h3, h4, h5⟩ := h
  exact ⟨(hb.cell (p := ⟨q, 0, none⟩) (show q < B by omega)).trans h0, (hb.cell (p := ⟨q, 1, none⟩) (show q < B by omega)).trans h1, (hb.cell (p := ⟨q, 2, none⟩) (show q < B by omega)).trans h2,
    (hb.cell (p := ⟨q + 1, 0, none⟩) (show q + 1 < B by omega)).trans h3, (hb.cell (p := ⟨q + 1, 1, none⟩) (show q + 1 < B by omega)).trans h4, (hb.cell (p := ⟨q + 1, 2, none⟩) (show q + 1 < B by omega)).trans h5⟩

set_option maxRecDepth 100000 in
set_option maxHeartbeats 4000000 in
theorem cmp_any (a b : A3) (w : World) : Calls Try.prog 30 #[encA a, encA b] w fun e w' => e = .returned (.int .i64 (cmpA a b)) ∧ ∃ q os, w' = grow (w.drewN q) os := by
  obtain ⟨r, hr⟩ : ∃ r, cmpA a b = r := ⟨_, rfl⟩
  have HR := Lib.hid hr
  rw [hr]
  clear hr
  have hc1 := fun W => compare_any a.1 b.1 W
  have hc2 := fun W => compare_any a.2.1 b.2.1 W
  have hc3 := fun W => compare_any a.2.2 b.2.2 W
  obtain ⟨x1, hx1⟩ : ∃ x1, cmpI a.1 b.1 = x1 := ⟨_, rfl⟩
  obtain ⟨x2, hx2⟩ : ∃ x2, cmpI a.2.1 b.2.1 = x2 := ⟨_, rfl⟩
  obtain ⟨x3, hx3⟩ : ∃ x3, cmpI a.2.2 b.2.2 = x3 := ⟨_, rfl⟩
  rw [hx1] at hc1
  rw [hx2] at hc2
  rw [hx3] at hc3
  have HRX : Hid ((if x1 ≠ 0 then x1 else if x2 ≠ 0 then x2 else x3) = r) := Lib.hid (by rw [← HR.out, ← hx1, ← hx2, ← hx3]; rfl)
  obtain ⟨W1, hW1⟩ : ∃ W1, (w.alloc (.cells #[.int .i64 a.1, .int .i64 a.2.1, .int .i64 a.2.2] 29)).alloc (.cells #[.int .i64 b.1, .int .i64 b.2.1, .int .i64 b.2.2] 29) = W1 := ⟨_, rfl⟩
  obtain ⟨q, hq⟩ : ∃ q, w.heap.size = q := ⟨_, rfl⟩
  have hsz : W1.heap.size = q + 2 := by rw [← hW1, ← hq]; simp
  have htw : TwoA W1 q a b := by
    have e0 : ∀ j, W1.cell? ⟨q, j, none⟩ = (cellsA a)[j]? := fun j => by
      rw [← hW1, World.cell?_alloc_old _ _ _ (by simp; omega), World.cell?_alloc_at _ _ _ _ hq.symm]; simp [cellsA]
    have e1 : ∀ j, W1.cell? ⟨q + 1, j, none⟩ = (cellsA b)[j]? := fun j => by
      rw [← hW1, World.cell?_alloc_at _ _ _ _ (by simp; omega)]; simp [cellsA]
    exact ⟨e0 0, e0 1, e0 2, e1 0, e1 1, e1 2⟩
  have HW1 := Lib.hid hW1
  have HTW := Lib.hid htw
  have HSZ := Lib.hid hsz
  have HQ := Lib.hid hq
  clear hx1 hx2 hx3 HR htw hsz
  unfold encA
  go_enter Try.func30, Try.ntmps30
  clear hW1 hq
  go_wp2
  rw [HQ.out, HW1.out]
  refine wp_region_plan (S := fun w' => TwoA w' q a b) [(0, true), (1, true), (2, true), (3, true), (5, true), (6, true), (7, true), (8, true), (10, true), (11, true), (12, true), (13, true), (4, false), (9, false), (14, false), (15, false), (16, false), (17, true)] (by kernel_rfl) (by kernel_rfl) (by kernel_rfl) (by decide) (fun _ _ d _ _ h => by cases d <;> exact h) HTW.out ?_
  simp only [stepsOf, nth, slotOf]
  iterate 12 (refine wpPlan_plain ?_ (by rfl) ?_ ?_; rotate_left; (focus (intro w' hw'; obtain ⟨x0, x1, x2, x3, x4, x5⟩ := hw'; go_simp; try with_reducible rfl)); go_simp)
  refine wpPlan_loud (by rfl) (fun K hK => ?_)
  go_simp
  refine (hc1 _).mono ?_
  rintro e w' ⟨rfl, rfl⟩
  go_simp
  refine hK _ _ _ (fun _ h => h) HTW.out ?_
  clear hK
  refine wpPlan_loud (by rfl) (fun K hK => ?_)
  go_simp
  refine (hc2 _).mono ?_
  rintro e w' ⟨rfl, rfl⟩
  go_simp
  refine hK _ _ _ (fun _ h => h) HTW.out ?_
  clear hK
  refine wpPlan_loud (by rfl) (fun K hK => ?_)
  go_simp
  refine (hc3 _).mono ?_
  rintro e w' ⟨rfl, rfl⟩
  go_simp
  refine hK _ _ _ (fun _ h => h) HTW.out ?_
  clear hK
  refine wpPlan_loud (by rfl) (fun K hK => ?_)
  go_simp
  refine hK _ _ _ (fun _ h => h) (HTW.out.below (W' := (W1.alloc (.cells #[.int .i64 x1, .int .i64 x2, .int .i64 x3] 3)).drew) ((Below.refl _ _).alloc (Nat.le_refl _) _).drew (Nat.le_of_eq HSZ.out.symm)) ?_
  clear hK
  refine wpPlan_loud (by rfl) (fun K hK => ?_)
  go_simp
  refine (or_any x1 x2 x3 _ _ (World.cell?_alloc_at _ _ _ _ rfl) (World.cell?_alloc_at _ _ _ _ rfl) (World.cell?_alloc_at _ _ _ _ rfl)).mono ?_
  rintro e w' ⟨rfl, rfl⟩
  rw [HRX.out]
  go_simp
  refine hK _ _ _ (fun _ h => h) (HTW.out.below (W' := (W1.alloc (.cells #[.int .i64 x1, .int .i64 x2, .int .i64 x3] 3)).drew) ((Below.refl _ _).alloc (Nat.le_refl _) _).drew (Nat.le_of_eq HSZ.out.symm)) ?_
  clear hK
  refine wpPlan_plain (.int .i64 r) (by rfl) ?_ ?_
  · intro w' _; go_simp
  go_simp
  refine wpPlan_nil ?_
  go_wp2
  go_ret
  refine ⟨rfl, 1, #[.cells #[.int .i64 a.1, .int .i64 a.2.1, .int .i64 a.2.2] 29, .cells #[.int .i64 b.1, .int .i64 b.2.1, .int .i64 b.2.2] 29, .cells #[.int .i64 x1, .int .i64 x2, .int .i64 x3] 3], ?_⟩
  rw [← HW1.out]
  simp only [alloc_eq_grow, grow_grow]
  rfl
end Go.Proofs.Ytobkbbbdddllmaa
