/- The law ZigAll: the walk. -/
import Derived.Test.YtojhhcfpnbdobaaConv
import Derived.Test.YtojhhcfpnbdobaaWays
import Derived.Test.YtojhhcfpnbdobaaPlan
namespace Go.Proofs.Ytojhhcfpnbdobaa
open Go.RowKit

/-- The eight cells of an array that the call made. -/
structure Box8 (w : World) (g : Nat) (n : Int) : Prop where
  c0 : w.cell? ⟨g, 0, none⟩ = some (.int .u8 (M.byteS n 0))
  c1 : w.cell? ⟨g, 1, none⟩ = some (.int .u8 (M.byteS n 1))
  c2 : w.cell? ⟨g, 2, none⟩ = some (.int .u8 (M.byteS n 2))
  c3 : w.cell? ⟨g, 3, none⟩ = some (.int .u8 (M.byteS n 3))
  c4 : w.cell? ⟨g, 4, none⟩ = some (.int .u8 (M.byteS n 4))
  c5 : w.cell? ⟨g, 5, none⟩ = some (.int .u8 (M.byteS n 5))
  c6 : w.cell? ⟨g, 6, none⟩ = some (.int .u8 (M.byteS n 6))
  c7 : w.cell? ⟨g, 7, none⟩ = some (.int .u8 (M.byteS n 7))
theorem Box8.lt {w : World} {g : Nat} {n : Int} (h : Box8 w g n) : g < w.heap.size := World.block_lt_of_cell? w _ h.c0
theorem Box8.below {w w' : World} {g B : Nat} {n : Int} (h : Box8 w g n) (hb : Below B w w') (hg : g < B) : Box8 w' g n :=
  ⟨(hb.cell hg).trans h.c0, (hb.cell hg).trans h.c1, (hb.cell hg).trans h.c2, (hb.cell hg).trans h.c3, (hb.cell hg).trans h.c4, (hb.cell hg).trans h.c5, (hb.cell hg).trans h.c6, (hb.cell hg).trans h.c7⟩
theorem Box8.same {w w' : World} {g : Nat} {n : Int} (h : Box8 w g n) (hb : Below w.heap.size w w') : Box8 w' g n := h.below hb h.lt

theorem Box8.drew {w : World} {g : Nat} {n : Int} (h : Box8 w g n) : Box8 w.drew g n := ⟨h.c0, h.c1, h.c2, h.c3, h.c4, h.c5, h.c6, h.c7⟩

theorem Box8.conv {w : World} {g : Nat} {n : Int} {U : Nat} (h : Box8 w g n) (hU : (n % 18446744073709551616).toNat = U) :
    (convert 34 9 (.slice (some ⟨g, 0, none⟩) 8 8)).run Try.prog w = .ok (.string (strN (M.bytesN (M.bitsOf U 64) 8))) w := by
  have hw := M.bytes_word n
  rw [hU] at hw
  refine (run_convert_bytes_arg w 34 5 Try.underlying34 Try.underlying5 g 0 8 8 [M.byteS n 0, M.byteS n 1, M.byteS n 2, M.byteS n 3, M.byteS n 4, M.byteS n 5, M.byteS n 6, M.byteS n 7] rfl ?_ 9 Try.underlying9).trans ?_
  · intro i hi
    match i, hi with
    | 0, _ => exact h.c0
    | 1, _ => exact h.c1
    | 2, _ => exact h.c2
    | 3, _ => exact h.c3
    | 4, _ => exact h.c4
    | 5, _ => exact h.c5
    | 6, _ => exact h.c6
    | 7, _ => exact h.c7
  · rw [hw]; rfl

set_option maxRecDepth 100000 in
set_option maxHeartbeats 40000000 in
theorem zigAll_walk (n u t width b : Int) (w : World) (hn : (Lit.int .i64 n).wf = true) (hu : (Lit.int .u64 u).wf = true) (ht : (Lit.int .u32 t).wf = true) (_ : (Lit.int .i64 width).wf = true) (_ : (Lit.int .i64 b).wf = true) :
    Calls Try.prog 3 #[.int .i64 n, .int .u64 u, .int .u32 t, .int .i64 width, .int .i64 b] w fun e w' => e = .returned (.bool true) ∧ Below w.heap.size w w' := by
  obtain ⟨n1, n2⟩ : -9223372036854775808 ≤ n ∧ n ≤ 9223372036854775807 := by simpa [Lit.wf, IntKind.min, IntKind.max, IntKind.signed, IntKind.bits] using hn
  obtain ⟨u1, u2⟩ : 0 ≤ u ∧ u ≤ 18446744073709551615 := by simpa [Lit.wf, IntKind.min, IntKind.max, IntKind.signed, IntKind.bits] using hu
  obtain ⟨t1, t2⟩ : 0 ≤ t ∧ t ≤ 4294967295 := by simpa [Lit.wf, IntKind.min, IntKind.max, IntKind.signed, IntKind.bits] using ht
  clear hn hu ht
  obtain ⟨T, rfl⟩ := Int.eq_ofNat_of_zero_le t1
  obtain ⟨U, hU⟩ : ∃ U : Nat, (n % 18446744073709551616).toNat = U := ⟨_, rfl⟩
  have hUl : U < 18446744073709551616 := by omega
  have eU : IntKind.u64.wrap n = (U : Int) := by rw [IntKind.wrap_u64]; omega
  have HU := Lib.hid hU
  have EU := Lib.hid eU
  clear hU eU
  go_enter Try.func3, Try.ntmps3
  go_wp2_with fail
  refine (begun_any _).mono ?_
  rintro e wA ⟨rfl, hbA⟩
  have HA := Lib.hid hbA
  clear hbA
  go_wp2_with fail
  refine (rnarrow_any n width _).mono ?_
  rintro e wB ⟨rfl, hbB⟩
  have HB := Lib.hid (HA.out.trans (hbB.mono HA.out.size))
  clear hbB HA
  go_wp2_with fail
  refine (bytes8_any n _).mono ?_
  rintro e wC ⟨rfl, hbC⟩
  have HC := Lib.hid (HB.out.trans (hbC.mono HB.out.size))
  clear hbC HB
  unfold bytes8S agg8
  go_wp2_with fail
  obtain ⟨g, hg⟩ : ∃ g, wC.heap.size = g := ⟨_, rfl⟩
  have hbox : Box8 (wC.alloc (.cells #[.int .u8 (M.byteS n 0), .int .u8 (M.byteS n 1), .int .u8 (M.byteS n 2), .int .u8 (M.byteS n 3), .int .u8 (M.byteS n 4), .int .u8 (M.byteS n 5), .int .u8 (M.byteS n 6), .int .u8 (M.byteS n 7)] 26)) g n := by
    subst hg
    exact ⟨by rw [World.cell?_alloc_at _ _ _ _ rfl]; rfl, by rw [World.cell?_alloc_at _ _ _ _ rfl]; rfl, by rw [World.cell?_alloc_at _ _ _ _ rfl]; rfl, by rw [World.cell?_alloc_at _ _ _ _ rfl]; rfl,
      by rw [World.cell?_alloc_at _ _ _ _ rfl]; rfl, by rw [World.cell?_alloc_at _ _ _ _ rfl]; rfl, by rw [World.cell?_alloc_at _ _ _ _ rfl]; rfl, by rw [World.cell?_alloc_at _ _ _ _ rfl]; rfl⟩
  have HBOX := Lib.hid hbox
  have HD := Lib.hid (HC.out.alloc HC.out.size (.cells #[.int .u8 (M.byteS n 0), .int .u8 (M.byteS n 1), .int .u8 (M.byteS n 2), .int .u8 (M.byteS n 3), .int .u8 (M.byteS n 4), .int .u8 (M.byteS n 5), .int .u8 (M.byteS n 6), .int .u8 (M.byteS n 7)] 26))
  clear hbox
  rw [hg]
  clear hg HC
  generalize wC.alloc _ = wD at HBOX HD ⊢
  obtain ⟨z11, z12⟩ := M.zigS_range n n1 n2
  obtain ⟨z21, z22⟩ := M.zagS_range u u1 u2
  have e0 : IntKind.i64.wrap u = wrap64 u := IntWalk.i64_left u
  have e1 := M.zag_zig n
  have e2 := M.zig_zag u u1
  have e3 := M.of8_bytes n n1 n2
  have e4 := EU.out
  obtain ⟨S, hST⟩ : ∃ S, strN (M.bytesN (M.bitsOf U 64) 8) = S := ⟨_, rfl⟩
  have HST := Lib.hid hST
  clear hST
  have HS0 : Hid (Box8 wD.drew g n ∧ Below w.heap.size w wD.drew) := ⟨HBOX.out.drew, HD.out.drew⟩
  clear HBOX HD
  refine wp_region_plan (S := fun w' => Box8 w' g n ∧ Below w.heap.size w w') [(0, true), (2, true), (1, false), (3, false), (4, true), (5, true), (6, true), (8, true), (7, false), (9, false), (10, true), (11, true), (12, true), (13, true), (16, true), (14, false), (15, false), (17, true), (18, true), (19, true), (20, true), (23, true), (21, false), (22, false), (24, true), (25, true), (26, true), (27, true), (28, true), (30, true), (29, false), (31, true), (32, true), (33, true), (34, true), (35, true), (37, true), (38, true), (39, true), (36, false), (40, false), (41, true), (42, true), (43, true), (44, true), (45, true), (47, true), (48, true), (49, true), (46, false), (50, true), (51, true), (52, true), (53, true), (54, true), (56, true), (57, true), (55, false), (58, false), (59, true), (60, true), (61, true), (62, true), (64, true), (63, false), (65, true), (66, true), (67, true), (68, true), (69, true), (70, true), (71, true), (72, false), (73, false), (74, true), (75, true), (76, true), (77, true)] (by kernel_rfl) (by kernel_rfl) (by kernel_rfl) (by decide) (fun _ _ d _ _ h => by cases d <;> exact h) HS0.out ?_
  simp only [stepsOf, nth, slotOf, List.append_eq, List.cons_append, List.nil_append]
  iterate 2 (refine wpPlan_plain ?_ (by rfl) ?_ ?_; rotate_left; (focus (intro w' _; go_simp; try with_reducible rfl)); go_simp)
  refine wpPlan_loud (by rfl) (fun K hK => ?_)
  go_simp
  go_wp2_with ((refine (zig_any _ _ (by omega) (by omega)).mono ?_); rintro e w' ⟨rfl, rfl⟩)
  refine hK _ _ _ (fun _ h => h) HS0.out ?_
  clear hK
  refine wpPlan_loud (by rfl) (fun K hK => ?_)
  go_simp
  go_wp2_with ((refine (rzig_any _ _ (by omega) (by omega)).mono ?_); rintro e w' ⟨rfl, rfl⟩)
  refine hK _ _ _ (fun _ h => h) HS0.out ?_
  clear hK
  iterate 4 (refine wpPlan_plain ?_ (by rfl) ?_ ?_; rotate_left; (focus (intro w' _; go_simp; try with_reducible rfl)); go_simp)
  refine wpPlan_loud (by rfl) (fun K hK => ?_)
  go_simp
  go_wp2_with ((refine (zag_any _ _ (by omega) (by omega)).mono ?_); rintro e w' ⟨rfl, rfl⟩)
  refine hK _ _ _ (fun _ h => h) HS0.out ?_
  clear hK
  refine wpPlan_loud (by rfl) (fun K hK => ?_)
  go_simp
  go_wp2_with ((refine (rzag_any _ _ (by omega) (by omega)).mono ?_); rintro e w' ⟨rfl, rfl⟩)
  refine hK _ _ _ (fun _ h => h) HS0.out ?_
  clear hK
  iterate 5 (refine wpPlan_plain ?_ (by rfl) ?_ ?_; rotate_left; (focus (intro w' _; go_simp; try with_reducible rfl)); go_simp)
  refine wpPlan_loud (by rfl) (fun K hK => ?_)
  go_simp
  go_wp2_with ((refine (zig_any _ _ (by omega) (by omega)).mono ?_); rintro e w' ⟨rfl, rfl⟩)
  refine hK _ _ _ (fun _ h => h) HS0.out ?_
  clear hK
  refine wpPlan_loud (by rfl) (fun K hK => ?_)
  go_simp
  go_wp2_with ((refine (zag_any _ _ (by omega) (by omega)).mono ?_); rintro e w' ⟨rfl, rfl⟩)
  refine hK _ _ _ (fun _ h => h) HS0.out ?_
  clear hK
  iterate 5 (refine wpPlan_plain ?_ (by rfl) ?_ ?_; rotate_left; (focus (intro w' _; go_simp; try with_reducible rfl)); go_simp)
  refine wpPlan_loud (by rfl) (fun K hK => ?_)
  go_simp
  go_wp2_with ((refine (zag_any _ _ (by omega) (by omega)).mono ?_); rintro e w' ⟨rfl, rfl⟩)
  refine hK _ _ _ (fun _ h => h) HS0.out ?_
  clear hK
  refine wpPlan_loud (by rfl) (fun K hK => ?_)
  go_simp
  go_wp2_with ((refine (zig_any _ _ (by omega) (by omega)).mono ?_); rintro e w' ⟨rfl, rfl⟩)
  refine hK _ _ _ (fun _ h => h) HS0.out ?_
  clear hK
  iterate 6 (refine wpPlan_plain ?_ (by rfl) ?_ ?_; rotate_left; (focus (intro w' _; go_simp; try with_reducible rfl)); go_simp)
  refine wpPlan_loud (by rfl) (fun K hK => ?_)
  go_simp
  go_wp2_with ((refine (narrow_any _ _ _).mono ?_); rintro e w' ⟨rfl, rfl⟩)
  refine hK _ _ _ (fun _ h => h) HS0.out ?_
  clear hK
  iterate 8 (refine wpPlan_plain ?_ (by rfl) ?_ ?_; rotate_left; (focus (intro w' _; go_simp; try with_reducible rfl)); go_simp)
  refine wpPlan_loud (by rfl) (fun K hK => ?_)
  go_simp
  go_wp2_with ((refine (wide_any _ _ _).mono ?_); rintro e w' ⟨rfl, rfl⟩)
  refine hK _ _ _ (fun _ h => h) HS0.out ?_
  clear hK
  refine wpPlan_loud (by rfl) (fun K hK => ?_)
  go_simp
  go_wp2_with ((refine (rnarrow_any _ _ _).mono ?_); rintro e x1 ⟨rfl, hb⟩)
  have HS1 : Hid (Box8 x1 g n ∧ Below w.heap.size w x1) := ⟨HS0.out.1.same hb, HS0.out.2.trans (hb.mono HS0.out.2.size)⟩
  clear hb
  refine hK _ _ _ (fun _ h => h) HS1.out ?_
  clear hK HS0
  iterate 8 (refine wpPlan_plain ?_ (by rfl) ?_ ?_; rotate_left; (focus (intro w' _; go_simp; try with_reducible rfl)); go_simp)
  refine wpPlan_loud (by rfl) (fun K hK => ?_)
  go_simp
  go_wp2_with ((refine (fit_any _ _ _).mono ?_); rintro e w' ⟨rfl, rfl⟩)
  refine hK _ _ _ (fun _ h => h) HS1.out ?_
  clear hK
  iterate 7 (refine wpPlan_plain ?_ (by rfl) ?_ ?_; rotate_left; (focus (intro w' _; go_simp; try with_reducible rfl)); go_simp)
  refine wpPlan_loud (by rfl) (fun K hK => ?_)
  go_simp
  go_wp2_with ((refine (turn_any _ _ _ (by omega) (by omega)).mono ?_); rintro e w' ⟨rfl, rfl⟩)
  refine hK _ _ _ (fun _ h => h) HS1.out ?_
  clear hK
  refine wpPlan_loud (by rfl) (fun K hK => ?_)
  go_simp
  go_wp2_with ((refine (rturn_any T _ _ (by omega)).mono ?_); rintro e x2 ⟨rfl, hb⟩)
  have HS2 : Hid (Box8 x2 g n ∧ Below w.heap.size w x2) := ⟨HS1.out.1.same hb, HS1.out.2.trans (hb.mono HS1.out.2.size)⟩
  clear hb
  refine hK _ _ _ (fun _ h => h) HS2.out ?_
  clear hK HS1
  iterate 3 (refine wpPlan_plain ?_ (by rfl) ?_ ?_; rotate_left; (focus (intro w' _; go_simp; try with_reducible rfl)); go_simp)
  (refine wpPlan_plain (.agg #[.int .u8 (M.byteS n 0), .int .u8 (M.byteS n 1), .int .u8 (M.byteS n 2), .int .u8 (M.byteS n 3), .int .u8 (M.byteS n 4), .int .u8 (M.byteS n 5), .int .u8 (M.byteS n 6), .int .u8 (M.byteS n 7)]) (by rfl) ?_ ?_; (focus (intro w' hw'; obtain ⟨⟨y0, y1, y2, y3, y4, y5, y6, y7⟩, _⟩ := hw'; go_simp)); go_simp)
  iterate 1 (refine wpPlan_plain ?_ (by rfl) ?_ ?_; rotate_left; (focus (intro w' _; go_simp; try with_reducible rfl)); go_simp)
  refine wpPlan_loud (by rfl) (fun K hK => ?_)
  go_simp
  go_wp2_with ((refine (of8_any _ _ _ _ _ _ _ _ _ (M.byteS_range n 0) (M.byteS_range n 1) (M.byteS_range n 2) (M.byteS_range n 3) (M.byteS_range n 4) (M.byteS_range n 5) (M.byteS_range n 6) (M.byteS_range n 7)).mono ?_); rintro e x3 ⟨rfl, hb⟩; rw [e3])
  have HS3 : Hid (Box8 x3 g n ∧ Below w.heap.size w x3) := ⟨HS2.out.1.same hb, HS2.out.2.trans (hb.mono HS2.out.2.size)⟩
  clear hb
  refine hK _ _ _ (fun _ h => h) HS3.out ?_
  clear hK HS2
  iterate 4 (refine wpPlan_plain ?_ (by rfl) ?_ ?_; rotate_left; (focus (intro w' _; go_simp; try with_reducible rfl)); go_simp)
  (refine wpPlan_plain (.string S) (by rfl) ?_ ?_; (focus (intro w' hw'; have hc := hw'.1.conv HU.out; rw [HST.out] at hc; go_simp)); go_simp)
  iterate 2 (refine wpPlan_plain ?_ (by rfl) ?_ ?_; rotate_left; (focus (intro w' _; go_simp; try with_reducible rfl)); go_simp)
  refine wpPlan_loud (by rfl) (fun K hK => ?_)
  go_simp
  go_wp2_with ((refine (bits_any U 64 _ hUl (by omega)).mono ?_); rintro e x4 ⟨v, rfl, hown, hb⟩)
  rw [bitVals_all] at hown
  obtain ⟨a4, cap4, rfl, _, _, hh4, _⟩ := own_read hown
  have HH4 := Lib.hid hh4
  have HS4 : Hid (Box8 x4 g n ∧ Below w.heap.size w x4) := ⟨HS3.out.1.same hb, HS3.out.2.trans (hb.mono HS3.out.2.size)⟩
  clear hb hown hh4
  refine hK _ _ _ (fun _ h => h) HS4.out ?_
  clear hK HS3
  refine wpPlan_loud (by rfl) (fun K hK => ?_)
  go_simp
  go_wp2_with ((refine (rbytes_any (M.bitsOf U 64) 64 _ _ _ (M.bitsOf_length U 64) (by omega) HH4.out).mono ?_); rintro e x5 ⟨v2, rfl, hown2, hb⟩)
  have HS5 : Hid (Box8 x5 g n ∧ Below w.heap.size w x5) := ⟨HS4.out.1.same hb, HS4.out.2.trans (hb.mono HS4.out.2.size)⟩
  refine hK (fun w' => (Box8 w' g n ∧ Below w.heap.size w w') ∧ w'.ownsRow x4.heap.size 5 1 v2 8 (u8s (M.bytesN (M.bitsOf U 64) 8))) _ _ (fun _ h => h.1) ⟨HS5.out, hown2⟩ ?_
  clear hK HS4 hb hown2
  (refine wpPlan_plain (.string S) (by rfl) ?_ ?_; (focus (intro w' hw'; have hc := conv_own hw'.2; rw [HST.out] at hc; go_simp)); go_simp)
  iterate 3 (refine wpPlan_plain ?_ (by rfl) ?_ ?_; rotate_left; (focus (intro w' _; go_simp; try with_reducible rfl)); go_simp)
  refine wpPlan_nil ?_
  go_wp2
  go_ret
  exact ⟨rfl, HS5.out.2⟩
end Go.Proofs.Ytojhhcfpnbdobaa
