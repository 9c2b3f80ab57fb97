/- The law BitsJoin: the walk. -/
import Derived.Test.YtojhhcfpnbdobaaWays
import Derived.Test.YtojhhcfpnbdobaaBack
import Derived.Test.YtojhhcfpnbdobaaConv
import Derived.Test.YtojhhcfpnbdobaaPlan
namespace Go.Proofs.Ytojhhcfpnbdobaa
open Go.RowKit

theorem mask_val (u W : Nat) (hu : u < 18446744073709551616) (hW : W < 64) : bits BinOp.and IntKind.u64 (u : Int) (IntKind.u64.wrap (IntKind.u64.wrap (2 ^ W) - 1)) = ((u % 2 ^ W : Nat) : Int) := by
  have hp : (2 : Nat) ^ W < 18446744073709551616 := by
    have := Nat.pow_lt_pow_right (a := 2) (by omega) hW
    exact this
  have hp0 : 0 < (2 : Nat) ^ W := Nat.pow_pos (by omega)
  have e : IntKind.u64.wrap (IntKind.u64.wrap (2 ^ W) - 1) = ((2 ^ W - 1 : Nat) : Int) := by
    rw [IntKind.wrap_u64, IntKind.wrap_u64]
    have : ((2 : Int) ^ W) = ((2 ^ W : Nat) : Int) := by simp
    rw [this]; omega
  rw [e, u64_and_nat _ _ hu (by omega), Nat.and_two_pow_sub_one_eq_mod]

set_option maxRecDepth 100000 in
set_option maxHeartbeats 4000000 in
theorem bitsJoin_walk (u width cut : Int) (w : World) (hu : (Lit.int .u64 u).wf = true) (_ : (Lit.int .i64 width).wf = true) (_ : (Lit.int .i64 cut).wf = true) :
    Calls Try.prog 16 #[.int .u64 u, .int .i64 width, .int .i64 cut] w fun e w' => e = .returned (.bool true) ∧ Below w.heap.size w w' := by
  obtain ⟨u1, u2⟩ : 0 ≤ u ∧ u ≤ 18446744073709551615 := by simpa [Lit.wf, IntKind.min, IntKind.max, IntKind.signed, IntKind.bits] using hu
  clear hu
  by_cases hout : width < 2 ∨ 64 < width ∨ cut < 1 ∨ width ≤ cut
  · rcases hout with c | c | c | c
    all_goals go_enter Try.func16, Try.ntmps16
    all_goals go_wp2_with (go_at_call 21; refine (begun_any _).mono ?_; rintro e w1 ⟨rfl, hb1⟩; have HB1 := Lib.hid hb1; clear hb1)
    all_goals go_ret
    all_goals exact ⟨rfl, HB1.out⟩
  obtain ⟨W, rfl⟩ : ∃ n : Nat, width = n := ⟨width.toNat, by omega⟩
  obtain ⟨C, rfl⟩ : ∃ n : Nat, cut = n := ⟨cut.toNat, by omega⟩
  obtain ⟨U0, rfl⟩ := Int.eq_ofNat_of_zero_le u1
  have hW2 : 2 ≤ W := by omega
  have hW64 : W ≤ 64 := by omega
  have hC1 : 1 ≤ C := by omega
  have hCW : C < W := by omega
  clear hout
  obtain ⟨D, hD⟩ : ∃ D, D + C = W := ⟨W - C, by omega⟩
  have hDI : (W : Int) - (C : Int) = (D : Int) := by omega
  have k1 : ¬ (W : Int) < 2 := by omega
  have k2 : ¬ 64 < (W : Int) := by omega
  have k3 : ¬ (C : Int) < 1 := by omega
  have k4 : ¬ W ≤ C := by omega
  have hU0 : U0 < 18446744073709551616 := by omega
  obtain ⟨U, hU⟩ : ∃ U, U0 % 2 ^ W = U := ⟨_, rfl⟩
  have hUW : U < 2 ^ W := by rw [← hU]; exact Nat.mod_lt _ (Nat.pow_pos (by omega))
  have hUl : U < 18446744073709551616 := Nat.lt_of_le_of_lt (by rw [← hU]; exact Nat.mod_le _ _) hU0
  have hUW2 : U < 2 ^ (D + C) := by rw [hD]; exact hUW
  have hx : U / 2 ^ C < 2 ^ D := Nat.div_lt_of_lt_mul (by rw [Nat.mul_comm, ← Nat.pow_add]; exact hUW2)
  have hy : U % 2 ^ C < 2 ^ C := Nat.mod_lt _ (Nat.pow_pos (by omega))
  have ey := mask_val U C hUl (by omega)
  have ex : (U : Int) / 2 ^ C = ((U / 2 ^ C : Nat) : Int) := by simp
  have hcut := M.bitsOf_cut U D C
  have hf1 := M.cut_first U D C hUW2
  have hf2 := M.cut_last U D C
  rw [hD] at hcut hf1 hf2
  obtain ⟨X, hX⟩ : ∃ X, U / 2 ^ C = X := ⟨_, rfl⟩
  obtain ⟨Y, hY⟩ : ∃ Y, U % 2 ^ C = Y := ⟨_, rfl⟩
  rw [hX] at hx ex hcut hf1
  rw [hY] at hy ey hcut hf2
  have hll : (M.bitsOf U W).length = W := M.bitsOf_length U W
  obtain ⟨n, hn⟩ : ∃ n, (W + 7) / 8 = n := ⟨_, rfl⟩
  have hn8 : W ≤ 8 * n := by omega
  have hn9 : n ≤ 8 := by omega
  have b1 := M.back_next (M.bitsOf U W) n 0 D (by omega) (by omega)
  have b2 := M.back_next (M.bitsOf U W) n D C (by omega) (by omega)
  rw [hf1] at b1
  rw [hf2] at b2
  have hlx : (M.bitsOf X D).length = D := M.bitsOf_length X D
  have HUW := Lib.hid hUW
  have HX := Lib.hid hx
  have HY := Lib.hid hy
  have HCUT := Lib.hid hcut
  have HLL := Lib.hid hll
  have HLX := Lib.hid hlx
  have B1 := Lib.hid b1
  have B2 := Lib.hid b2
  have HN := Lib.hid hn
  have HC1 := Lib.hid hC1
  have HD := Lib.hid hD
  clear hx hy hcut hf1 hf2 hll hlx b1 b2 hX hY hUW2 hn
  go_enter Try.func16, Try.ntmps16
  by_cases hWl : W < 64
  · have e1 := mask_val U0 W hU0 hWl
    rw [hU] at e1
    go_wp2_with (go_at_call 21; refine (begun_any _).mono ?_; rintro e w1 ⟨rfl, hb1⟩; have HB1 := Lib.hid hb1; clear hb1)
    obtain ⟨g, hg⟩ : ∃ g, w1.heap.size = g := ⟨_, rfl⟩
    have hoa : OutIs ((w1.alloc (.cells Try.zeroCells45 45)).alloc (.cells Try.zeroCells45 45)) g [] := by
      rw [← hg]; exact out_below (new_out w1) ((Below.refl _ _).alloc (Nat.le_refl _) _) (by simp)
    have hob : OutIs ((w1.alloc (.cells Try.zeroCells45 45)).alloc (.cells Try.zeroCells45 45)) (g + 1) [] := by
      have := new_out (w1.alloc (.cells Try.zeroCells45 45))
      rwa [show (w1.alloc (.cells Try.zeroCells45 45)).heap.size = g + 1 by rw [← hg]; simp] at this
    have hb2 : Below w.heap.size w ((w1.alloc (.cells Try.zeroCells45 45)).alloc (.cells Try.zeroCells45 45)) :=
      (HB1.out.alloc HB1.out.size _).alloc (by have := HB1.out.size; simp; omega) _
    have hgw : w.heap.size ≤ g := by rw [← hg]; exact HB1.out.size
    have HOA := Lib.hid hoa
    have HOB := Lib.hid hob
    have HB2 := Lib.hid hb2
    rw [hg]
    clear hoa hob hb2 hg HB1
    generalize (w1.alloc (.cells Try.zeroCells45 45)).alloc (.cells Try.zeroCells45 45) = w2 at HOA HOB HB2 ⊢
    refine (put_good g U W [] _ (by omega) (by omega) HUW.out HOA.out (by simp; omega)).mono ?_
    rintro e w3 ⟨rfl, hoa3, hon3⟩
    rw [List.nil_append] at hoa3
    have HOA3 := Lib.hid hoa3
    have HOB3 := Lib.hid (out_only HOB.out hon3 (by omega))
    have HB3 := Lib.hid (HB2.out.trans (hon3.below hgw))
    clear hoa3 hon3 HOA HOB HB2
    go_wp2_with fail
    refine (put_good (g + 1) X D [] _ (by omega) (by omega) HX.out HOB3.out (by simp; omega)).mono ?_
    rintro e w4 ⟨rfl, hob4, hon4⟩
    rw [List.nil_append] at hob4
    have HOB4 := Lib.hid hob4
    have HOA4 := Lib.hid (out_only HOA3.out hon4 (by omega))
    have HB4 := Lib.hid (HB3.out.trans (hon4.below (by omega)))
    clear hob4 hon4 HOA3 HOB3 HB3
    go_wp2_with fail
    refine (put_good (g + 1) Y C (M.bitsOf X D) _ HC1.out (by omega) HY.out HOB4.out (by rw [HLX.out]; omega)).mono ?_
    rintro e w5 ⟨rfl, hob5, hon5⟩
    rw [← HCUT.out] at hob5
    have HOB5 := Lib.hid hob5
    have HOA5 := Lib.hid (out_only HOA4.out hon5 (by omega))
    have HB5 := Lib.hid (HB4.out.trans (hon5.below (by omega)))
    clear hob5 hon5 HOA4 HOB4 HB4
    go_wp2_with fail
    refine (bytes_any g (M.bitsOf U W) n _ HOA5.out (by rw [HLL.out]; exact HN.out)).mono ?_
    rintro e w6 ⟨v, rfl, hown6, hb6⟩
    obtain ⟨a6, cap6, rfl, hcp6, hcm6, hh6, hor6⟩ := own_read hown6
    have hsz5 := HB5.out.size
    have HOA6 := Lib.hid (out_below HOA5.out hb6 (out_lt HOA5.out))
    have HOB6 := Lib.hid (out_below HOB5.out hb6 (out_lt HOB5.out))
    have HB6 := Lib.hid (HB5.out.trans (hb6.mono hsz5))
    have HH6 := Lib.hid hh6
    have HOR6 := Lib.hid hor6
    clear hown6 hb6 hh6 hor6 HOA5 HOB5 hsz5
    go_wp2_with fail
    refine (read_any (M.bytesN (M.bitsOf U W) n) n a6 cap6 _ (M.bytesN_length _ _) (by omega) (M.bytesN_byte _ _) (by
      rcases HOR6.out with h | ⟨g, h, _⟩
      · exact .inl h
      · exact .inr ⟨g, 0, h, HH6.out⟩)).mono ?_
    rintro e w7 ⟨g7, rfl, hg7, hin7, hb7⟩
    have hsz6 := HB6.out.size
    have hga := out_lt HOA6.out
    have hgb := out_lt HOB6.out
    have HOA7 := Lib.hid (out_below HOA6.out hb7 hga)
    have HOB7 := Lib.hid (out_below HOB6.out hb7 hgb)
    have HB7 := Lib.hid (HB6.out.trans (hb7.mono hsz6))
    have HIN7 := Lib.hid hin7
    clear hin7 hb7 HOA6 HOB6 HH6 HOR6
    go_wp2_with fail
    refine (get_good g7 (M.bytesN (M.bitsOf U W) n) 0 D _ (by omega) (by omega) HIN7.out (by rw [M.bytesN_length]; omega)).mono ?_
    rintro e w8 ⟨rfl, hin8, hon8⟩
    rw [B1.out]
    have HIN8 := Lib.hid hin8
    have HOA8 := Lib.hid (out_only HOA7.out hon8 (by omega))
    have HOB8 := Lib.hid (out_only HOB7.out hon8 (by omega))
    have HB8 := Lib.hid (HB7.out.trans (hon8.below (by omega)))
    clear hin8 hon8 HOA7 HOB7 HIN7
    go_wp2_with fail
    refine (get_good g7 (M.bytesN (M.bitsOf U W) n) (0 + D) C _ HC1.out (by omega) HIN8.out (by rw [M.bytesN_length]; omega)).mono ?_
    rintro e w9 ⟨rfl, hin9, hon9⟩
    rw [Nat.zero_add, B2.out]
    have HOA9 := Lib.hid (out_only HOA8.out hon9 (by omega))
    have HOB9 := Lib.hid (out_only HOB8.out hon9 (by omega))
    have HB9 := Lib.hid (HB8.out.trans (hon9.below (by omega)))
    clear hin9 hon9 HOA8 HOB8 HIN8
    have hsz9 := HB9.out.size
    obtain ⟨S, hS⟩ : ∃ S, strN (M.bytesN (M.bitsOf U W) n) = S := ⟨_, rfl⟩
    obtain ⟨xs, hxs⟩ : ∃ xs, u8s (M.bytesN (M.bitsOf U W) n) = xs := ⟨_, rfl⟩
    have cv : Hid (∀ (w' : World) (B : Nat) (v : Value), w'.ownsRow B 5 1 v n xs → (convert 34 9 v).run Try.prog w' = .ok (.string S) w') := by
      intro w' B v h; rw [← hxs] at h; rw [← hS]; exact conv_own h
    have cb : Hid (∀ (k : Nat) (w' : World), OutIs w' k (M.bitsOf U W) → Calls Try.prog 38 #[.pointer (some ⟨k, 0, none⟩)] w' fun e w'' => ∃ a cap, e = .returned (.slice a n cap) ∧ w''.ownsRow w'.heap.size 5 1 (.slice a n cap) n xs ∧ Below w'.heap.size w' w'') := by
      intro k w' h
      refine (bytes_any k (M.bitsOf U W) n w' h (by rw [HLL.out]; exact HN.out)).mono ?_
      rintro e w'' ⟨v, rfl, ho, hb⟩
      rw [hxs] at ho
      obtain ⟨a, cap, rfl, _⟩ := own_read ho
      exact ⟨a, cap, rfl, ho, hb⟩
    have cl : Hid (∀ w' : World, OutIs w' g (M.bitsOf U W) → Calls Try.prog 39 #[.pointer (some ⟨g, 0, none⟩)] w' fun e w'' => e = .returned (.int .i64 W) ∧ w' = w'') := by
      intro w' h
      have := len_any g (M.bitsOf U W) w' h
      rwa [HLL.out] at this
    generalize M.bitsOf U W = l at HOA9 HOB9 cb cl
    have hoa10 : OutIs w9.drew g l := out_cells HOA9.out rfl
    have hob10 : OutIs w9.drew (g + 1) l := out_cells HOB9.out rfl
    have HOA10 := Lib.hid hoa10
    have HOB10 := Lib.hid hob10
    have hbd := HB9.out.drew
    have HBD := Lib.hid hbd
    clear hoa10 hob10 hbd hsz9 HOA9 HOB9
    clear k1 k2 k3 k4 hS hxs HLL HN HCUT HLX B1 B2 HX HY HUW HD HC1 hcp6 hcm6 hsz6 hga hgb hg7 hn8 hn9 hUW hUl hU0
    go_wp2
    have eC : IntKind.u64.wrap (C : Int) = (C : Int) := by rw [IntKind.wrap_u64]; omega
    have eM : min C 64 = C := by omega
    refine wp_region_plan (S := fun _ => True) ([(0, true), (3, true), (1, false), (2, true), (4, false), (5, true), (6, true), (7, true), (8, true), (10, true), (9, false)] ++ (List.range 27).map fun i => (11 + i, true)) (by kernel_rfl) (by kernel_rfl) (by kernel_rfl) (by decide) (fun _ _ d _ _ h => by cases d <;> exact h) trivial ?_
    simp only [stepsOf, nth, slotOf, List.range, List.range.loop, List.map_cons, List.map_nil, List.cons_append, List.nil_append, Nat.reduceAdd]
    iterate 2 (refine wpPlan_plain ?_ (by rfl) ?_ ?_; rotate_left; (focus (intro w' _; go_simp; try with_reducible rfl)); go_simp)
    refine wpPlan_loud (by rfl) (fun K hK => ?_)
    go_simp
    go_wp2_with ((with_reducible refine (cb.out g _ ?_).mono ?_); (exact HOA10.out); rintro e wA ⟨aA, capA, rfl, hownA, hbA⟩; have HWA := Lib.hid hownA; have HBL := Lib.hid hbA; clear hownA hbA)
    refine hK (fun w' => w'.ownsRow w9.drew.heap.size 5 1 (.slice aA n capA) n xs ∧ OutIs w' g l ∧ OutIs w' (g + 1) l ∧ Below w.heap.size w w') _ _ (fun _ _ => trivial)
      ⟨HWA.out, out_below HOA10.out HBL.out (out_lt HOA10.out), out_below HOB10.out HBL.out (out_lt HOB10.out), HBD.out.trans (HBL.out.mono HBD.out.size)⟩ ?_
    have HSA : Hid (OutIs wA g l ∧ OutIs wA (g + 1) l ∧ Below w.heap.size w wA) := ⟨out_below HOA10.out HBL.out (out_lt HOA10.out), out_below HOB10.out HBL.out (out_lt HOB10.out), HBD.out.trans (HBL.out.mono HBD.out.size)⟩
    clear hK HBL HOA10 HOB10 HBD
    refine wpPlan_plain (.string S) (by rfl) (fun w' hw' => ?_) ?_
    · have hc := cv.out _ _ _ hw'.1
      clear hw'
      go_simp
    go_simp
    refine wpPlan_loud (by rfl) (fun K hK => ?_)
    go_simp
    go_wp2_with ((with_reducible refine (cb.out (g + 1) _ ?_).mono ?_); (exact HSA.out.2.1); rintro e wB ⟨aB, capB, rfl, hownB, hbB⟩; have HWB := Lib.hid hownB; have HBL := Lib.hid hbB; clear hownB hbB)
    have HSB : Hid (wB.ownsRow w9.drew.heap.size 5 1 (.slice aA n capA) n xs ∧ OutIs wB g l ∧ OutIs wB (g + 1) l ∧ Below w.heap.size w wB) :=
      ⟨own_below HWA.out HBL.out (Nat.le_refl _), out_below HSA.out.1 HBL.out (out_lt HSA.out.1), out_below HSA.out.2.1 HBL.out (out_lt HSA.out.2.1), HSA.out.2.2.trans (HBL.out.mono HSA.out.2.2.size)⟩
    refine hK (fun w' => (w'.ownsRow w9.drew.heap.size 5 1 (.slice aA n capA) n xs ∧ OutIs w' g l ∧ OutIs w' (g + 1) l ∧ Below w.heap.size w w') ∧ w'.ownsRow wA.heap.size 5 1 (.slice aB n capB) n xs) _ _ (fun _ h => h.1)
      ⟨HSB.out, HWB.out⟩ ?_
    clear hK HBL HSA HWA
    refine wpPlan_plain (.string S) (by rfl) (fun w' hw' => ?_) ?_
    · have hc := cv.out _ _ _ hw'.2
      clear hw'
      go_simp
    go_simp
    iterate 4 (refine wpPlan_plain ?_ (by rfl) ?_ ?_; rotate_left; (focus (intro w' _; go_simp; try with_reducible rfl)); go_simp)
    refine wpPlan_loud (by rfl) (fun K hK => ?_)
    go_simp
    go_wp2_with ((with_reducible refine (cl.out _ ?_).mono ?_); (exact HSB.out.2.1); rintro e w' ⟨rfl, rfl⟩)
    refine hK _ _ _ (fun _ h => h) ⟨HSB.out, HWB.out⟩ ?_
    clear hK
    iterate 27 (refine wpPlan_plain ?_ (by rfl) ?_ ?_; rotate_left; (focus (intro w' _; go_simp; try with_reducible rfl)); go_simp)
    refine wpPlan_nil ?_
    go_wp2
    go_ret
    exact ⟨rfl, HSB.out.2.2.2⟩
  · have hW := show W = 64 by omega
    obtain rfl : U = U0 := by rw [← hU, hW]; exact Nat.mod_eq_of_lt hU0
    clear hU hW
    go_wp2_with (go_at_call 21; refine (begun_any _).mono ?_; rintro e w1 ⟨rfl, hb1⟩; have HB1 := Lib.hid hb1; clear hb1)
    obtain ⟨g, hg⟩ : ∃ g, w1.heap.size = g := ⟨_, rfl⟩
    have hoa : OutIs ((w1.alloc (.cells Try.zeroCells45 45)).alloc (.cells Try.zeroCells45 45)) g [] := by
      rw [← hg]; exact out_below (new_out w1) ((Below.refl _ _).alloc (Nat.le_refl _) _) (by simp)
    have hob : OutIs ((w1.alloc (.cells Try.zeroCells45 45)).alloc (.cells Try.zeroCells45 45)) (g + 1) [] := by
      have := new_out (w1.alloc (.cells Try.zeroCells45 45))
      rwa [show (w1.alloc (.cells Try.zeroCells45 45)).heap.size = g + 1 by rw [← hg]; simp] at this
    have hb2 : Below w.heap.size w ((w1.alloc (.cells Try.zeroCells45 45)).alloc (.cells Try.zeroCells45 45)) :=
      (HB1.out.alloc HB1.out.size _).alloc (by have := HB1.out.size; simp; omega) _
    have hgw : w.heap.size ≤ g := by rw [← hg]; exact HB1.out.size
    have HOA := Lib.hid hoa
    have HOB := Lib.hid hob
    have HB2 := Lib.hid hb2
    rw [hg]
    clear hoa hob hb2 hg HB1
    generalize (w1.alloc (.cells Try.zeroCells45 45)).alloc (.cells Try.zeroCells45 45) = w2 at HOA HOB HB2 ⊢
    refine (put_good g U W [] _ (by omega) (by omega) HUW.out HOA.out (by simp; omega)).mono ?_
    rintro e w3 ⟨rfl, hoa3, hon3⟩
    rw [List.nil_append] at hoa3
    have HOA3 := Lib.hid hoa3
    have HOB3 := Lib.hid (out_only HOB.out hon3 (by omega))
    have HB3 := Lib.hid (HB2.out.trans (hon3.below hgw))
    clear hoa3 hon3 HOA HOB HB2
    go_wp2_with fail
    refine (put_good (g + 1) X D [] _ (by omega) (by omega) HX.out HOB3.out (by simp; omega)).mono ?_
    rintro e w4 ⟨rfl, hob4, hon4⟩
    rw [List.nil_append] at hob4
    have HOB4 := Lib.hid hob4
    have HOA4 := Lib.hid (out_only HOA3.out hon4 (by omega))
    have HB4 := Lib.hid (HB3.out.trans (hon4.below (by omega)))
    clear hob4 hon4 HOA3 HOB3 HB3
    go_wp2_with fail
    refine (put_good (g + 1) Y C (M.bitsOf X D) _ HC1.out (by omega) HY.out HOB4.out (by rw [HLX.out]; omega)).mono ?_
    rintro e w5 ⟨rfl, hob5, hon5⟩
    rw [← HCUT.out] at hob5
    have HOB5 := Lib.hid hob5
    have HOA5 := Lib.hid (out_only HOA4.out hon5 (by omega))
    have HB5 := Lib.hid (HB4.out.trans (hon5.below (by omega)))
    clear hob5 hon5 HOA4 HOB4 HB4
    go_wp2_with fail
    refine (bytes_any g (M.bitsOf U W) n _ HOA5.out (by rw [HLL.out]; exact HN.out)).mono ?_
    rintro e w6 ⟨v, rfl, hown6, hb6⟩
    obtain ⟨a6, cap6, rfl, hcp6, hcm6, hh6, hor6⟩ := own_read hown6
    have hsz5 := HB5.out.size
    have HOA6 := Lib.hid (out_below HOA5.out hb6 (out_lt HOA5.out))
    have HOB6 := Lib.hid (out_below HOB5.out hb6 (out_lt HOB5.out))
    have HB6 := Lib.hid (HB5.out.trans (hb6.mono hsz5))
    have HH6 := Lib.hid hh6
    have HOR6 := Lib.hid hor6
    clear hown6 hb6 hh6 hor6 HOA5 HOB5 hsz5
    go_wp2_with fail
    refine (read_any (M.bytesN (M.bitsOf U W) n) n a6 cap6 _ (M.bytesN_length _ _) (by omega) (M.bytesN_byte _ _) (by
      rcases HOR6.out with h | ⟨g, h, _⟩
      · exact .inl h
      · exact .inr ⟨g, 0, h, HH6.out⟩)).mono ?_
    rintro e w7 ⟨g7, rfl, hg7, hin7, hb7⟩
    have hsz6 := HB6.out.size
    have hga := out_lt HOA6.out
    have hgb := out_lt HOB6.out
    have HOA7 := Lib.hid (out_below HOA6.out hb7 hga)
    have HOB7 := Lib.hid (out_below HOB6.out hb7 hgb)
    have HB7 := Lib.hid (HB6.out.trans (hb7.mono hsz6))
    have HIN7 := Lib.hid hin7
    clear hin7 hb7 HOA6 HOB6 HH6 HOR6
    go_wp2_with fail
    refine (get_good g7 (M.bytesN (M.bitsOf U W) n) 0 D _ (by omega) (by omega) HIN7.out (by rw [M.bytesN_length]; omega)).mono ?_
    rintro e w8 ⟨rfl, hin8, hon8⟩
    rw [B1.out]
    have HIN8 := Lib.hid hin8
    have HOA8 := Lib.hid (out_only HOA7.out hon8 (by omega))
    have HOB8 := Lib.hid (out_only HOB7.out hon8 (by omega))
    have HB8 := Lib.hid (HB7.out.trans (hon8.below (by omega)))
    clear hin8 hon8 HOA7 HOB7 HIN7
    go_wp2_with fail
    refine (get_good g7 (M.bytesN (M.bitsOf U W) n) (0 + D) C _ HC1.out (by omega) HIN8.out (by rw [M.bytesN_length]; omega)).mono ?_
    rintro e w9 ⟨rfl, hin9, hon9⟩
    rw [Nat.zero_add, B2.out]
    have HOA9 := Lib.hid (out_only HOA8.out hon9 (by omega))
    have HOB9 := Lib.hid (out_only HOB8.out hon9 (by omega))
    have HB9 := Lib.hid (HB8.out.trans (hon9.below (by omega)))
    clear hin9 hon9 HOA8 HOB8 HIN8
    have hsz9 := HB9.out.size
    obtain ⟨S, hS⟩ : ∃ S, strN (M.bytesN (M.bitsOf U W) n) = S := ⟨_, rfl⟩
    obtain ⟨xs, hxs⟩ : ∃ xs, u8s (M.bytesN (M.bitsOf U W) n) = xs := ⟨_, rfl⟩
    have cv : Hid (∀ (w' : World) (B : Nat) (v : Value), w'.ownsRow B 5 1 v n xs → (convert 34 9 v).run Try.prog w' = .ok (.string S) w') := by
      intro w' B v h; rw [← hxs] at h; rw [← hS]; exact conv_own h
    have cb : Hid (∀ (k : Nat) (w' : World), OutIs w' k (M.bitsOf U W) → Calls Try.prog 38 #[.pointer (some ⟨k, 0, none⟩)] w' fun e w'' => ∃ a cap, e = .returned (.slice a n cap) ∧ w''.ownsRow w'.heap.size 5 1 (.slice a n cap) n xs ∧ Below w'.heap.size w' w'') := by
      intro k w' h
      refine (bytes_any k (M.bitsOf U W) n w' h (by rw [HLL.out]; exact HN.out)).mono ?_
      rintro e w'' ⟨v, rfl, ho, hb⟩
      rw [hxs] at ho
      obtain ⟨a, cap, rfl, _⟩ := own_read ho
      exact ⟨a, cap, rfl, ho, hb⟩
    have cl : Hid (∀ w' : World, OutIs w' g (M.bitsOf U W) → Calls Try.prog 39 #[.pointer (some ⟨g, 0, none⟩)] w' fun e w'' => e = .returned (.int .i64 W) ∧ w' = w'') := by
      intro w' h
      have := len_any g (M.bitsOf U W) w' h
      rwa [HLL.out] at this
    generalize M.bitsOf U W = l at HOA9 HOB9 cb cl
    have hoa10 : OutIs w9.drew g l := out_cells HOA9.out rfl
    have hob10 : OutIs w9.drew (g + 1) l := out_cells HOB9.out rfl
    have HOA10 := Lib.hid hoa10
    have HOB10 := Lib.hid hob10
    have hbd := HB9.out.drew
    have HBD := Lib.hid hbd
    clear hoa10 hob10 hbd hsz9 HOA9 HOB9
    clear k1 k2 k3 k4 hS hxs HLL HN HCUT HLX B1 B2 HX HY HUW HD HC1 hcp6 hcm6 hsz6 hga hgb hg7 hn8 hn9 hUW hUl hU0
    go_wp2
    have eC : IntKind.u64.wrap (C : Int) = (C : Int) := by rw [IntKind.wrap_u64]; omega
    have eM : min C 64 = C := by omega
    refine wp_region_plan (S := fun _ => True) ([(0, true), (3, true), (1, false), (2, true), (4, false), (5, true), (6, true), (7, true), (8, true), (10, true), (9, false)] ++ (List.range 27).map fun i => (11 + i, true)) (by kernel_rfl) (by kernel_rfl) (by kernel_rfl) (by decide) (fun _ _ d _ _ h => by cases d <;> exact h) trivial ?_
    simp only [stepsOf, nth, slotOf, List.range, List.range.loop, List.map_cons, List.map_nil, List.cons_append, List.nil_append, Nat.reduceAdd]
    iterate 2 (refine wpPlan_plain ?_ (by rfl) ?_ ?_; rotate_left; (focus (intro w' _; go_simp; try with_reducible rfl)); go_simp)
    refine wpPlan_loud (by rfl) (fun K hK => ?_)
    go_simp
    go_wp2_with ((with_reducible refine (cb.out g _ ?_).mono ?_); (exact HOA10.out); rintro e wA ⟨aA, capA, rfl, hownA, hbA⟩; have HWA := Lib.hid hownA; have HBL := Lib.hid hbA; clear hownA hbA)
    refine hK (fun w' => w'.ownsRow w9.drew.heap.size 5 1 (.slice aA n capA) n xs ∧ OutIs w' g l ∧ OutIs w' (g + 1) l ∧ Below w.heap.size w w') _ _ (fun _ _ => trivial)
      ⟨HWA.out, out_below HOA10.out HBL.out (out_lt HOA10.out), out_below HOB10.out HBL.out (out_lt HOB10.out), HBD.out.trans (HBL.out.mono HBD.out.size)⟩ ?_
    have HSA : Hid (OutIs wA g l ∧ OutIs wA (g + 1) l ∧ Below w.heap.size w wA) := ⟨out_below HOA10.out HBL.out (out_lt HOA10.out), out_below HOB10.out HBL.out (out_lt HOB10.out), HBD.out.trans (HBL.out.mono HBD.out.size)⟩
    clear hK HBL HOA10 HOB10 HBD
    refine wpPlan_plain (.string S) (by rfl) (fun w' hw' => ?_) ?_
    · have hc := cv.out _ _ _ hw'.1
      clear hw'
      go_simp
    go_simp
    refine wpPlan_loud (by rfl) (fun K hK => ?_)
    go_simp
    go_wp2_with ((with_reducible refine (cb.out (g + 1) _ ?_).mono ?_); (exact HSA.out.2.1); rintro e wB ⟨aB, capB, rfl, hownB, hbB⟩; have HWB := Lib.hid hownB; have HBL := Lib.hid hbB; clear hownB hbB)
    have HSB : Hid (wB.ownsRow w9.drew.heap.size 5 1 (.slice aA n capA) n xs ∧ OutIs wB g l ∧ OutIs wB (g + 1) l ∧ Below w.heap.size w wB) :=
      ⟨own_below HWA.out HBL.out (Nat.le_refl _), out_below HSA.out.1 HBL.out (out_lt HSA.out.1), out_below HSA.out.2.1 HBL.out (out_lt HSA.out.2.1), HSA.out.2.2.trans (HBL.out.mono HSA.out.2.2.size)⟩
    refine hK (fun w' => (w'.ownsRow w9.drew.heap.size 5 1 (.slice aA n capA) n xs ∧ OutIs w' g l ∧ OutIs w' (g + 1) l ∧ Below w.heap.size w w') ∧ w'.ownsRow wA.heap.size 5 1 (.slice aB n capB) n xs) _ _ (fun _ h => h.1)
      ⟨HSB.out, HWB.out⟩ ?_
    clear hK HBL HSA HWA
    refine wpPlan_plain (.string S) (by rfl) (fun w' hw' => ?_) ?_
    · have hc := cv.out _ _ _ hw'.2
      clear hw'
      go_simp
    go_simp
    iterate 4 (refine wpPlan_plain ?_ (by rfl) ?_ ?_; rotate_left; (focus (intro w' _; go_simp; try with_reducible rfl)); go_simp)
    refine wpPlan_loud (by rfl) (fun K hK => ?_)
    go_simp
    go_wp2_with ((with_reducible refine (cl.out _ ?_).mono ?_); (exact HSB.out.2.1); rintro e w' ⟨rfl, rfl⟩)
    refine hK _ _ _ (fun _ h => h) ⟨HSB.out, HWB.out⟩ ?_
    clear hK
    iterate 27 (refine wpPlan_plain ?_ (by rfl) ?_ ?_; rotate_left; (focus (intro w' _; go_simp; try with_reducible rfl)); go_simp)
    refine wpPlan_nil ?_
    go_wp2
    go_ret
    exact ⟨rfl, HSB.out.2.2.2⟩
end Go.Proofs.Ytojhhcfpnbdobaa
