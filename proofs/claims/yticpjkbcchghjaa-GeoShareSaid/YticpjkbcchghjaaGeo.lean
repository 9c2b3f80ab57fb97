/- Package geo: what each call answers. -/
import Derived.Test.YticpjkbcchghjaaGeoM
namespace Go.Proofs.Yticpjkbcchghjaa
open Go.RowKit
set_option linter.unusedSimpArgs false

set_option maxHeartbeats 1000000 in
theorem within_any (n l h : Int) (w : World) :
    Calls Try.prog 44 #[.int .i64 n, .int .i64 l, .int .i64 h] w fun e w' => e = .returned (.bool (decide (l ≤ n ∧ n ≤ h))) ∧ w = w' := by
  rw [Bool.decide_and]
  cases k1 : decide (l ≤ n) <;> cases k2 : decide (n ≤ h) <;>
  · go_enter Try.func44, Try.ntmps44
    go_wp2
    go_ret
    first | exact ⟨rfl, rfl⟩ | exact ⟨ret_bool k2, rfl⟩
set_option maxHeartbeats 1000000 in
theorem gbelow_any (n l : Int) (w : World) :
    Calls Try.prog 45 #[.int .i64 n, .int .i64 l] w fun e w' => e = .returned (.bool (decide (0 ≤ n ∧ n < l))) ∧ w = w' := by
  rw [Bool.decide_and]
  cases k1 : decide (0 ≤ n) <;> cases k2 : decide (n < l) <;>
  · go_enter Try.func45, Try.ntmps45
    go_wp2
    go_ret
    first | exact ⟨rfl, rfl⟩ | exact ⟨ret_bool k2, rfl⟩
theorem may_and (d b p : Int) : mayB d b p = (decide (3 ≤ d ∧ d ≤ 6) && decide (8 ≤ b ∧ b ≤ 16) && decide (2 ≤ p ∧ p ≤ 8)) := by
  rw [Bool.eq_iff_iff]; simp only [mayB, decide_eq_true_eq, Bool.and_eq_true]; omega
theorem in_and (d b p x y z : Int) : inGB d b p x y z = (decide (0 ≤ x ∧ x < d) && decide (0 ≤ y ∧ y < b) && decide (0 ≤ z ∧ z < p)) := by
  rw [Bool.eq_iff_iff]; simp only [inGB, decide_eq_true_eq, Bool.and_eq_true]; omega
set_option maxHeartbeats 1000000 in
theorem gmay_any (d b p : Int) (w : World) :
    Calls Try.prog 13 #[geoV d b p] w fun e w' => e = .returned (.bool (mayB d b p)) ∧ Below w.heap.size w w' := by
  have hm := may_and d b p
  cases h1 : decide (3 ≤ d ∧ d ≤ 6) <;> cases h2 : decide (8 ≤ b ∧ b ≤ 16) <;> cases h3 : decide (2 ≤ p ∧ p ≤ 8) <;>
  · rw [h1, h2, h3] at hm
    simp only [Bool.and_true, Bool.and_false, Bool.false_and, Bool.true_and] at hm
    rw [hm]
    have H1 := Lib.hid (fun w => by have := within_any d 3 6 w; rw [h1] at this; exact this)
    have H2 := Lib.hid (fun w => by have := within_any b 8 16 w; rw [h2] at this; exact this)
    have H3 := Lib.hid (fun w => by have := within_any p 2 8 w; rw [h3] at this; exact this)
    clear h1 h2 h3 hm
    go_enter Try.func13, Try.ntmps13
    go_wp2_with (go_at_call 44; (first | (with_reducible refine (H1.out _).mono ?_) | (with_reducible refine (H2.out _).mono ?_) | (with_reducible refine (H3.out _).mono ?_)); rintro e w' ⟨rfl, rfl⟩)
    go_ret
    exact ⟨rfl, (Below.refl _ _).alloc (Nat.le_refl _) _⟩
set_option maxHeartbeats 1000000 in
theorem gin_any (d b p x y z : Int) (w : World) :
    Calls Try.prog 15 #[geoV d b p, geoV x y z] w fun e w' => e = .returned (.bool (inGB d b p x y z)) ∧ Below w.heap.size w w' := by
  have hm := in_and d b p x y z
  cases h1 : decide (0 ≤ x ∧ x < d) <;> cases h2 : decide (0 ≤ y ∧ y < b) <;> cases h3 : decide (0 ≤ z ∧ z < p) <;>
  · rw [h1, h2, h3] at hm
    simp only [Bool.and_true, Bool.and_false, Bool.false_and, Bool.true_and] at hm
    rw [hm]
    have H1 := Lib.hid (fun w => by have := gbelow_any x d w; rw [h1] at this; exact this)
    have H2 := Lib.hid (fun w => by have := gbelow_any y b w; rw [h2] at this; exact this)
    have H3 := Lib.hid (fun w => by have := gbelow_any z p w; rw [h3] at this; exact this)
    clear h1 h2 h3 hm
    go_enter Try.func15, Try.ntmps15
    go_wp2_with (go_at_call 45; (first | (with_reducible refine (H1.out _).mono ?_) | (with_reducible refine (H2.out _).mono ?_) | (with_reducible refine (H3.out _).mono ?_)); rintro e w' ⟨rfl, rfl⟩)
    go_ret
    exact ⟨rfl, ((Below.refl _ _).alloc (Nat.le_refl _) _).alloc (by simp) _⟩

theorem log_bounds {d b p : Int} (h : mayB d b p = true) : 3 ≤ d ∧ d ≤ 6 ∧ 8 ≤ b ∧ b ≤ 16 ∧ 2 ≤ p ∧ p ≤ 8 ∧ 0 ≤ (b - 5) * p ∧ (b - 5) * p ≤ 88 ∧ 0 ≤ (b - 5) * p * (d - 2) ∧ (b - 5) * p * (d - 2) ≤ 352 ∧
    logS d b p = ((b - 5) * p * (d - 2) + 1) / 2 := by
  obtain ⟨a1, a2, a3, a4, a5, a6⟩ := mayB_yes h
  have h1 := Int.mul_nonneg (show 0 ≤ b - 5 by omega) (show 0 ≤ p by omega)
  have h2 := Int.mul_le_mul (show b - 5 ≤ 11 by omega) a6 (by omega) (by omega)
  have h3 := Int.mul_nonneg h1 (show 0 ≤ d - 2 by omega)
  have h4 := Int.mul_le_mul h2 (show d - 2 ≤ 4 by omega) (by omega) (by omega)
  exact ⟨a1, a2, a3, a4, a5, a6, h1, h2, h3, h4, by unfold logS; rw [h]; rfl⟩

set_option maxHeartbeats 1000000 in
theorem glogical_any (d b p : Int) (w : World) :
    Calls Try.prog 17 #[geoV d b p] w fun e w' => e = .returned (.int .i64 (logS d b p)) ∧ Below w.heap.size w w' := by
  cases h : mayB d b p with
  | false =>
    have hl : logS d b p = 0 := by unfold logS; rw [h]; rfl
    rw [hl]
    have hm := fun w => gmay_any d b p w
    rw [h] at hm
    have HM := Lib.hid hm
    clear h hl hm
    go_enter Try.func17, Try.ntmps17
    go_wp2_with (go_at_call 13; (with_reducible refine (HM.out _).mono ?_); rintro e w1 ⟨rfl, hb⟩)
    go_ret
    exact ⟨rfl, ((Below.refl _ _).alloc (Nat.le_refl _) _).trans (hb.mono (by simp))⟩
  | true =>
    obtain ⟨a1, a2, a3, a4, a5, a6, q1, q3, q2, q4, hl⟩ := log_bounds h
    have hm := fun w => gmay_any d b p w
    rw [h] at hm
    have HM := Lib.hid hm
    have HL := Lib.hid hl
    clear h hl hm
    go_enter Try.func17, Try.ntmps17
    go_wp2_with (go_at_call 13; (with_reducible refine (HM.out _).mono ?_); rintro e w1 ⟨rfl, hb⟩; have hc0 := (hb.cell (p := ⟨w.heap.size, 0, none⟩) (by simp)); have hc1 := (hb.cell (p := ⟨w.heap.size, 1, none⟩) (by simp)); have hc2 := (hb.cell (p := ⟨w.heap.size, 2, none⟩) (by simp)))
    go_ret
    exact ⟨ret_int HL.out.symm, ((Below.refl _ _).alloc (Nat.le_refl _) _).trans (hb.mono (by simp))⟩


theorem par_at (m b r : Int) (h2 : 2 ≤ countS m) (hb : 0 ≤ b) (hr : 0 ≤ r) : parS m b r = atS m ((b % countS m + r % countS m) % countS m) := by
  have g5 := Int.emod_nonneg (b % countS m + r % countS m) (show (countS m : Int) ≠ 0 by omega)
  have g6 := Int.emod_lt_of_pos (b % countS m + r % countS m) (show (0 : Int) < countS m by omega)
  unfold parS atS
  rw [if_pos ⟨h2, hb, hr⟩, if_pos ⟨g5, g6⟩]
theorem par_none (m b r : Int) (h : countS m < 2 ∨ b < 0 ∨ r < 0) : parS m b r = -1 := if_neg (by omega)


theorem count_zero : countS 0 = 0 := by decide +kernel
theorem dies_zero : diesS 0 = [] := by decide +kernel
theorem at_zero (s : Int) : atS 0 s = -1 := by unfold atS; exact if_neg (by rw [count_zero]; omega)
theorem spot_zero (d : Int) : spotS 0 d = -1 := by unfold spotS; rw [dies_zero]; rfl
theorem par_low (m b r : Int) : parS m b r = -1 ∨ 0 ≤ parS m b r := by
  rcases par_cases m b r with h | ⟨K, D, _, _, h, _⟩
  · exact .inl h
  · right; omega
/-- The set of a row's dies but for its parity's. -/
def otherM (m b r : Int) : Int := if parS m b r < 0 then 0 else withoutS m (parS m b r)
theorem die_other (m b r s : Int) : dieS m b r s = atS (otherM m b r) s := by
  unfold otherM
  split
  · rename_i h; rw [at_zero]; exact die_none m b r s h
  · rename_i h; exact die_without m b r s (by omega)
theorem slot_other (m b r d : Int) : slotS m b r d = spotS (otherM m b r) d := by
  unfold otherM
  split
  · rename_i h; rw [spot_zero]; exact slot_none m b r d h
  · rename_i h; exact slot_without m b r d (by omega)

attribute [local irreducible] diesS countS othersS parS atS spotS withoutS otherM

set_option maxHeartbeats 1000000 in
theorem isMask_any (m : Int) (w : World) :
    Calls Try.prog 46 #[.int .i64 m] w fun e w' => e = .returned (.bool (decide (2 ≤ countS m))) ∧ w = w' := by
  have hc := fun w => count_any m w
  obtain ⟨n, hn⟩ : ∃ n, countS m = n := ⟨_, rfl⟩
  rw [hn] at hc ⊢
  have HC := Lib.hid hc
  clear hn hc
  go_enter Try.func46, Try.ntmps46
  go_wp2_with (go_at_call 47; (with_reducible refine (HC.out _).mono ?_); rintro e w' ⟨rfl, rfl⟩)
  go_ret
  refine ⟨ret_bool ?_, rfl⟩
  rw [Bool.eq_iff_iff]; simp only [decide_eq_true_eq]; omega

set_option maxRecDepth 100000 in
set_option maxHeartbeats 1000000 in
theorem gparity_any (m b r : Int) (w : World) (hb : b ≤ 9223372036854775807) (hr : r ≤ 9223372036854775807) :
    Calls Try.prog 19 #[.int .i64 m, .int .i64 b, .int .i64 r] w fun e w' => e = .returned (.int .i64 (parS m b r)) ∧ Below w.heap.size w w' := by
  have hn8 := countS_le m
  have hc := fun w => count_any m w
  have hi := fun w => isMask_any m w
  have hpn := par_none m b r
  have hpa := par_at m b r
  obtain ⟨n, hn⟩ : ∃ n, countS m = n := ⟨_, rfl⟩
  rw [hn] at hn8 hc hpn hpa hi
  obtain ⟨R, hR⟩ : ∃ R, parS m b r = R := ⟨_, rfl⟩
  rw [hR] at hpn hpa ⊢
  have HC := Lib.hid hc
  clear hn hR hc
  by_cases h2 : n < 2
  · have HP := Lib.hid (hpn (.inl h2))
    rw [show decide (2 ≤ n) = false by simp; omega] at hi
    have HI := Lib.hid hi
    clear hpn hpa hi
    go_enter Try.func19, Try.ntmps19
    go_wp2_with (go_at_call 46; (with_reducible refine (HI.out _).mono ?_); rintro e w' ⟨rfl, rfl⟩)
    go_ret
    exact ⟨ret_int HP.out.symm, Below.refl _ _⟩
  rw [show decide (2 ≤ n) = true by simp; omega] at hi
  have HI := Lib.hid hi
  clear hi
  by_cases h3 : b < 0
  · have HP := Lib.hid (hpn (.inr (.inl h3)))
    clear hpn hpa
    go_enter Try.func19, Try.ntmps19
    go_wp2_with (go_at_call 46; (with_reducible refine (HI.out _).mono ?_); rintro e w' ⟨rfl, rfl⟩)
    go_ret
    exact ⟨ret_int HP.out.symm, Below.refl _ _⟩
  by_cases h4 : r < 0
  · have HP := Lib.hid (hpn (.inr (.inr h4)))
    have h5 : decide (b < 0) = false := by simp; omega
    clear hpn hpa
    go_enter Try.func19, Try.ntmps19
    go_wp2_with (go_at_call 46; (with_reducible refine (HI.out _).mono ?_); rintro e w' ⟨rfl, rfl⟩)
    go_ret
    exact ⟨ret_int HP.out.symm, Below.refl _ _⟩
  · have HP := Lib.hid (hpa (by omega) (by omega) (by omega))
    have hnI : (0 : Int) < n := by omega
    have g1 := Int.emod_nonneg b (show (n : Int) ≠ 0 by omega)
    have g2 := Int.emod_lt_of_pos b hnI
    have g3 := Int.emod_nonneg r (show (n : Int) ≠ 0 by omega)
    have g4 := Int.emod_lt_of_pos r hnI
    have g5 := Int.emod_nonneg (b % n + r % n) (show (n : Int) ≠ 0 by omega)
    have g6 := Int.emod_lt_of_pos (b % n + r % n) hnI
    have k1 : 0 ≤ b := by omega
    have k2 : 0 ≤ r := by omega
    have k3 : ¬ (n : Int) < 2 := by omega
    have k5 : ((n : Int) == 0) = false := by simp; omega
    have hw1 : IntKind.i64.wrap (b % n + r % n) = b % n + r % n := IntWalk.i64_in _ (by omega)
    have k4 : 0 ≤ b % n + r % n := by omega
    obtain ⟨K, hK⟩ : ∃ K : Int, (b % n + r % n) % n = K := ⟨_, rfl⟩
    have HAT := Lib.hid (fun w => (at_any m K w (by omega)).mono (fun _ _ h => (⟨h.1, h.2.symm⟩ : _ ∧ _)))
    rw [hK] at HP g5 g6
    clear hpn hpa h2
    go_enter Try.func19, Try.ntmps19
    go_wp2_with (first
      | (go_at_call 46; (with_reducible refine (HI.out _).mono ?_); rintro e w' ⟨rfl, rfl⟩)
      | (go_at_call 47; (with_reducible refine (HC.out _).mono ?_); rintro e w' ⟨rfl, rfl⟩))
    go_quiet ((go_at_call 48; with_reducible exact Calls.quiet_of_same (HAT.out _)))
    go_wp2
    go_ret
    exact ⟨ret_int HP.out.symm, ⟨rfl, rfl, rfl, Nat.le_refl _, fun _ _ => rfl⟩⟩

set_option maxHeartbeats 1000000 in
theorem gslots_any (m : Int) (w : World) :
    Calls Try.prog 21 #[.int .i64 m] w fun e w' => e = .returned (.int .i64 (slotsS m)) ∧ Below w.heap.size w w' := by
  have hn8 := countS_le m
  have hc := fun w => count_any m w
  have hi := fun w => isMask_any m w
  have hs : slotsS m = if 2 ≤ countS m then (countS m : Int) - 1 else 0 := rfl
  obtain ⟨n, hn⟩ : ∃ n, countS m = n := ⟨_, rfl⟩
  rw [hn] at hn8 hc hs hi
  obtain ⟨R, hR⟩ : ∃ R, slotsS m = R := ⟨_, rfl⟩
  rw [hR] at hs ⊢
  have HC := Lib.hid hc
  clear hn hc hR
  by_cases h2 : n < 2
  · rw [if_neg (by omega)] at hs
    rw [show decide (2 ≤ n) = false by simp; omega] at hi
    have HI := Lib.hid hi
    have HS := Lib.hid hs
    clear hs hi
    go_enter Try.func21, Try.ntmps21
    go_wp2_with (go_at_call 46; (with_reducible refine (HI.out _).mono ?_); rintro e w' ⟨rfl, rfl⟩)
    go_ret
    exact ⟨ret_int HS.out.symm, Below.refl _ _⟩
  · rw [if_pos (by omega)] at hs
    rw [show decide (2 ≤ n) = true by simp; omega] at hi
    have HI := Lib.hid hi
    have HS := Lib.hid hs
    clear hs hi
    go_enter Try.func21, Try.ntmps21
    go_wp2_with (first
      | (go_at_call 46; (with_reducible refine (HI.out _).mono ?_); rintro e w' ⟨rfl, rfl⟩)
      | (go_at_call 47; (with_reducible refine (HC.out _).mono ?_); rintro e w' ⟨rfl, rfl⟩))
    go_ret
    exact ⟨ret_int HS.out.symm, Below.refl _ _⟩
set_option maxHeartbeats 1000000 in
theorem gothers_any (m b r : Int) (w : World) (hb : b ≤ 9223372036854775807) (hr : r ≤ 9223372036854775807) :
    Calls Try.prog 49 #[.int .i64 m, .int .i64 b, .int .i64 r] w fun e w' => e = .returned (.int .i64 (otherM m b r)) ∧ Below w.heap.size w w' := by
  have hp := fun w => gparity_any m b r w hb hr
  have hlow := par_low m b r
  have ho : otherM m b r = if parS m b r < 0 then 0 else withoutS m (parS m b r) := by unfold otherM; rfl
  obtain ⟨p, hp0⟩ : ∃ p, parS m b r = p := ⟨_, rfl⟩
  obtain ⟨R, hR⟩ : ∃ R, otherM m b r = R := ⟨_, rfl⟩
  rw [hp0] at hp hlow ho
  rw [hR] at ho ⊢
  have HP := Lib.hid hp
  have HW := Lib.hid (fun w => without_any m p w)
  clear hp hp0 hR
  rcases hlow with rfl | h
  · rw [if_pos (by omega)] at ho
    have HD := Lib.hid ho
    clear ho
    go_enter Try.func49, Try.ntmps49
    go_wp2_with (go_at_call 19; (with_reducible refine (HP.out _).mono ?_); rintro e w1 ⟨rfl, hb1⟩; have HB1 := Lib.hid hb1; clear hb1)
    go_ret
    exact ⟨ret_int HD.out.symm, HB1.out⟩
  · rw [if_neg (by omega)] at ho
    have HD := Lib.hid ho
    have hq : (p == -1) = false := by simp; omega
    clear ho
    go_enter Try.func49, Try.ntmps49
    go_wp2_with (first
      | (go_at_call 19; (with_reducible refine (HP.out _).mono ?_); rintro e w1 ⟨rfl, hb1⟩; have HB1 := Lib.hid hb1; clear hb1)
      | (go_at_call 67; (with_reducible refine (HW.out _).mono ?_); rintro e w' ⟨rfl, rfl⟩))
    go_ret
    exact ⟨ret_int HD.out.symm, HB1.out⟩
set_option maxHeartbeats 1000000 in
theorem gdie_any (m b r s : Int) (w : World) (hb : b ≤ 9223372036854775807) (hr : r ≤ 9223372036854775807) (hs : s ≤ 9223372036854775807) :
    Calls Try.prog 23 #[.int .i64 m, .int .i64 b, .int .i64 r, .int .i64 s] w fun e w' => e = .returned (.int .i64 (dieS m b r s)) ∧ Below w.heap.size w w' := by
  have HP := Lib.hid (fun w => gothers_any m b r w hb hr)
  have HD := Lib.hid (die_other m b r s)
  have HA := Lib.hid (fun w => at_any (otherM m b r) s w hs)
  go_enter Try.func23, Try.ntmps23
  go_wp2_with (first
    | (go_at_call 49; (with_reducible refine (HP.out _).mono ?_); rintro e w1 ⟨rfl, hb1⟩; have HB1 := Lib.hid hb1; clear hb1)
    | (go_at_call 48; (with_reducible refine (HA.out _).mono ?_); rintro e w' ⟨rfl, rfl⟩))
  go_ret
  exact ⟨ret_int HD.out.symm, HB1.out⟩
set_option maxHeartbeats 1000000 in
theorem gslot_any (m b r d : Int) (w : World) (hb : b ≤ 9223372036854775807) (hr : r ≤ 9223372036854775807) :
    Calls Try.prog 25 #[.int .i64 m, .int .i64 b, .int .i64 r, .int .i64 d] w fun e w' => e = .returned (.int .i64 (slotS m b r d)) ∧ Below w.heap.size w w' := by
  have HP := Lib.hid (fun w => gothers_any m b r w hb hr)
  have HD := Lib.hid (slot_other m b r d)
  have HA := Lib.hid (fun w => spot_any (otherM m b r) d w)
  go_enter Try.func25, Try.ntmps25
  go_wp2_with (first
    | (go_at_call 49; (with_reducible refine (HP.out _).mono ?_); rintro e w1 ⟨rfl, hb1⟩; have HB1 := Lib.hid hb1; clear hb1)
    | (go_at_call 51; (with_reducible refine (HA.out _).mono ?_); rintro e w' ⟨rfl, rfl⟩))
  go_ret
  exact ⟨ret_int HD.out.symm, HB1.out⟩
end Go.Proofs.Yticpjkbcchghjaa
