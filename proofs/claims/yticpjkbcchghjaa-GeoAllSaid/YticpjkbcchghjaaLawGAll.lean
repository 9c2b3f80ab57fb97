/- The law GeoAll: the walk. -/
import Derived.Test.YticpjkbcchghjaaBegunG
import Derived.Test.YticpjkbcchghjaaPlan
namespace Go.Proofs.Yticpjkbcchghjaa
open Go.RowKit

attribute [local irreducible] mayB inGB logS

/-- Blocks g and g + 1 have three numbers each. -/
structure TwoAt (g : Nat) (d b p x y z : Int) (v : World) : Prop where
  c0 : v.cell? ⟨g, 0, none⟩ = some (.int .i64 d)
  c1 : v.cell? ⟨g, 1, none⟩ = some (.int .i64 b)
  c2 : v.cell? ⟨g, 2, none⟩ = some (.int .i64 p)
  c3 : v.cell? ⟨g + 1, 0, none⟩ = some (.int .i64 x)
  c4 : v.cell? ⟨g + 1, 1, none⟩ = some (.int .i64 y)
  c5 : v.cell? ⟨g + 1, 2, none⟩ = some (.int .i64 z)
  size : g + 2 ≤ v.heap.size
theorem TwoAt.below {g : Nat} {d b p x y z : Int} {v v' : World} (h : TwoAt g d b p x y z v) (hb : Below v.heap.size v v') : TwoAt g d b p x y z v' := by
  have h0 : g < v.heap.size := by have := h.size; omega
  have h1 : g + 1 < v.heap.size := by have := h.size; omega
  exact ⟨(hb.cell (p := ⟨g, 0, none⟩) h0).trans h.c0, (hb.cell (p := ⟨g, 1, none⟩) h0).trans h.c1, (hb.cell (p := ⟨g, 2, none⟩) h0).trans h.c2,
    (hb.cell (p := ⟨g + 1, 0, none⟩) h1).trans h.c3, (hb.cell (p := ⟨g + 1, 1, none⟩) h1).trans h.c4, (hb.cell (p := ⟨g + 1, 2, none⟩) h1).trans h.c5, Nat.le_trans h.size hb.size⟩
theorem TwoAt.drew {g : Nat} {d b p x y z : Int} {v : World} (h : TwoAt g d b p x y z v) : TwoAt g d b p x y z v.drew := ⟨h.c0, h.c1, h.c2, h.c3, h.c4, h.c5, h.size⟩
theorem two_new (w : World) (g : Nat) (hg : w.heap.size = g) (d b p x y z : Int) (t t' : TypeId) : TwoAt g d b p x y z ((w.alloc (.cells #[.int .i64 d, .int .i64 b, .int .i64 p] t)).alloc (.cells #[.int .i64 x, .int .i64 y, .int .i64 z] t')) := by
  have hs : (w.alloc (.cells #[.int .i64 d, .int .i64 b, .int .i64 p] t)).heap.size = g + 1 := by simp; omega
  have hb := (Below.refl _ (w.alloc (.cells #[.int .i64 d, .int .i64 b, .int .i64 p] t))).alloc (Nat.le_refl _) (.cells #[.int .i64 x, .int .i64 y, .int .i64 z] t')
  have h0 : g < (w.alloc (.cells #[.int .i64 d, .int .i64 b, .int .i64 p] t)).heap.size := by omega
  have c : ∀ (o : Nat) (v : Value), (#[Value.int .i64 d, .int .i64 b, .int .i64 p] : Array Value)[o]? = some v → (w.alloc (.cells #[.int .i64 d, .int .i64 b, .int .i64 p] t)).cell? ⟨g, o, none⟩ = some v := fun o v h => by
    rw [World.cell?_alloc_at _ _ _ _ hg.symm]; exact h
  have c' : ∀ (o : Nat) (v : Value), (#[Value.int .i64 x, .int .i64 y, .int .i64 z] : Array Value)[o]? = some v → ((w.alloc (.cells #[.int .i64 d, .int .i64 b, .int .i64 p] t)).alloc (.cells #[.int .i64 x, .int .i64 y, .int .i64 z] t')).cell? ⟨g + 1, o, none⟩ = some v := fun o v h => by
    rw [World.cell?_alloc_at _ _ _ _ hs.symm]; exact h
  exact ⟨(hb.cell (p := ⟨g, 0, none⟩) h0).trans (c 0 _ rfl), (hb.cell (p := ⟨g, 1, none⟩) h0).trans (c 1 _ rfl), (hb.cell (p := ⟨g, 2, none⟩) h0).trans (c 2 _ rfl), c' 0 _ rfl, c' 1 _ rfl, c' 2 _ rfl, by have := hb.size; simp; omega⟩

set_option maxRecDepth 100000 in
set_option maxHeartbeats 2000000 in
theorem geoAll_walk (d b p x y z : Int) (w : World) :
    Calls Try.prog 3 #[geoV d b p, geoV x y z] w fun e w' => e = .returned (.bool true) ∧ Below w.heap.size w w' := by
  have hb := ((Below.refl w.heap.size w).alloc (Nat.le_refl _) (.cells #[.int .i64 d, .int .i64 b, .int .i64 p] 23)).alloc (by simp) (.cells #[.int .i64 x, .int .i64 y, .int .i64 z] 25)
  obtain ⟨g, hg⟩ : ∃ g, w.heap.size = g := ⟨_, rfl⟩
  have ht := two_new w g hg d b p x y z 23 25
  rw [hg] at hb ⊢
  have HT := Lib.hid ht
  have HB := Lib.hid hb
  clear ht hb
  go_enter Try.func3, Try.ntmps3
  go_wp2_with fail
  clear hg
  generalize ((w.alloc (.cells #[.int .i64 d, .int .i64 b, .int .i64 p] 23)).alloc (.cells #[.int .i64 x, .int .i64 y, .int .i64 z] 25)) = x0 at HT HB ⊢
  refine (begun6_any _).mono ?_
  rintro e x1 ⟨rfl, hb1⟩
  have HB := Lib.hid (HB.out.trans (hb1.mono (by have := HT.out.size; omega)))
  have HT := Lib.hid (HT.out.below hb1)
  clear hb1
  go_wp2_with fail
  have HB := Lib.hid HB.out.drew
  have HT := Lib.hid HT.out.drew
  refine wp_region_plan (S := fun w' => TwoAt g d b p x y z w') [(0, true), (2, true), (1, false), (3, false), (4, true), (5, true), (6, true), (7, true), (9, true), (10, true), (8, false), (11, false), (12, true), (13, true), (14, true), (15, true), (17, true), (16, false), (18, false), (19, true), (20, true), (21, true)] (by kernel_rfl) (by kernel_rfl) (by kernel_rfl) (by decide) (fun _ _ d _ _ h => by cases d <;> exact h) HT.out ?_
  simp only [stepsOf, nth, slotOf]
  iterate 2 (refine wpPlan_plain ?_ (by rfl) ?_ ?_; rotate_left; (focus (intro w' hw'; obtain ⟨h0, h1, h2, h3, h4, h5, h6⟩ := hw'; go_simp; try with_reducible rfl)); go_simp)
  refine wpPlan_loud (by rfl) (fun K hK => ?_)
  go_simp
  go_wp2_with ((with_reducible refine (gmay_any d b p _).mono ?_); rintro e x2 ⟨rfl, hbx⟩; have HB := Lib.hid (HB.out.trans (hbx.mono (by have := HT.out.size; show _ ≤ _; exact Nat.le_trans (Nat.le_add_right _ 2) HT.out.size))); have HT := Lib.hid (HT.out.below hbx); clear hbx)
  refine hK _ _ _ (fun _ h => h) HT.out ?_
  clear hK
  refine wpPlan_loud (by rfl) (fun K hK => ?_)
  go_simp
  go_wp2_with ((with_reducible refine (rmay_any d b p _).mono ?_); rintro e x2 ⟨rfl, hbx⟩; have HB := Lib.hid (HB.out.trans (hbx.mono (by have := HT.out.size; show _ ≤ _; exact Nat.le_trans (Nat.le_add_right _ 2) HT.out.size))); have HT := Lib.hid (HT.out.below hbx); clear hbx)
  refine hK _ _ _ (fun _ h => h) HT.out ?_
  clear hK
  iterate 6 (refine wpPlan_plain ?_ (by rfl) ?_ ?_; rotate_left; (focus (intro w' hw'; obtain ⟨h0, h1, h2, h3, h4, h5, h6⟩ := hw'; go_simp; try with_reducible rfl)); go_simp)
  refine wpPlan_loud (by rfl) (fun K hK => ?_)
  go_simp
  go_wp2_with ((with_reducible refine (gin_any d b p x y z _).mono ?_); rintro e x2 ⟨rfl, hbx⟩; have HB := Lib.hid (HB.out.trans (hbx.mono (by have := HT.out.size; show _ ≤ _; exact Nat.le_trans (Nat.le_add_right _ 2) HT.out.size))); have HT := Lib.hid (HT.out.below hbx); clear hbx)
  refine hK _ _ _ (fun _ h => h) HT.out ?_
  clear hK
  refine wpPlan_loud (by rfl) (fun K hK => ?_)
  go_simp
  go_wp2_with ((with_reducible refine (rin_any d b p x y z _).mono ?_); rintro e x2 ⟨rfl, hbx⟩; have HB := Lib.hid (HB.out.trans (hbx.mono (by have := HT.out.size; show _ ≤ _; exact Nat.le_trans (Nat.le_add_right _ 2) HT.out.size))); have HT := Lib.hid (HT.out.below hbx); clear hbx)
  refine hK _ _ _ (fun _ h => h) HT.out ?_
  clear hK
  iterate 5 (refine wpPlan_plain ?_ (by rfl) ?_ ?_; rotate_left; (focus (intro w' hw'; obtain ⟨h0, h1, h2, h3, h4, h5, h6⟩ := hw'; go_simp; try with_reducible rfl)); go_simp)
  refine wpPlan_loud (by rfl) (fun K hK => ?_)
  go_simp
  go_wp2_with ((with_reducible refine (glogical_any d b p _).mono ?_); rintro e x2 ⟨rfl, hbx⟩; have HB := Lib.hid (HB.out.trans (hbx.mono (by have := HT.out.size; show _ ≤ _; exact Nat.le_trans (Nat.le_add_right _ 2) HT.out.size))); have HT := Lib.hid (HT.out.below hbx); clear hbx)
  refine hK _ _ _ (fun _ h => h) HT.out ?_
  clear hK
  refine wpPlan_loud (by rfl) (fun K hK => ?_)
  go_simp
  go_wp2_with ((with_reducible refine (rlogical_any d b p _).mono ?_); rintro e x2 ⟨rfl, hbx⟩; have HB := Lib.hid (HB.out.trans (hbx.mono (by have := HT.out.size; show _ ≤ _; exact Nat.le_trans (Nat.le_add_right _ 2) HT.out.size))); have HT := Lib.hid (HT.out.below hbx); clear hbx)
  refine hK _ _ _ (fun _ h => h) HT.out ?_
  clear hK
  iterate 3 (refine wpPlan_plain ?_ (by rfl) ?_ ?_; rotate_left; (focus (intro w' hw'; obtain ⟨h0, h1, h2, h3, h4, h5, h6⟩ := hw'; go_simp; try with_reducible rfl)); go_simp)
  refine wpPlan_nil ?_
  go_wp2
  go_ret
  exact ⟨rfl, HB.out⟩
end Go.Proofs.Yticpjkbcchghjaa
