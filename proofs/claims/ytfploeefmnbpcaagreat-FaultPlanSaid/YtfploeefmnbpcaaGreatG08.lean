import Derived.Test.YtfploeefmnbpcaaGreatG07
import Derived.Test.YtfploeefmnbpcaaGreatG03
import Derived.Deep.QuietTactic
import Derived.RangeFuncFrom
/- Package geo: what each call answers. -/
namespace Go.Proofs.YtfploeefmnbpcaaGreat
open Go.RowKit
set_option linter.unusedSimpArgs false

set_option maxHeartbeats 1000000 in
theorem within_any (n l h : Int) (w : World) :
    Calls Tryz.prog 67 #[.int .i64 n, .int .i64 l, .int .i64 h] w fun e w' => e = .returned (.bool (decide (l ≤ n ∧ n ≤ h))) ∧ w = w' := by
  rw [Bool.decide_and]
  cases k1 : decide (l ≤ n) <;> cases k2 : decide (n ≤ h) <;>
  · go_enter Tryz.func67, Tryz.ntmps67
    go_wp2
    go_ret
    first | exact ⟨rfl, rfl⟩ | exact ⟨ret_bool k2, rfl⟩
set_option maxHeartbeats 1000000 in
theorem gbelow_any (n l : Int) (w : World) :
    Calls Tryz.prog 69 #[.int .i64 n, .int .i64 l] w fun e w' => e = .returned (.bool (decide (0 ≤ n ∧ n < l))) ∧ w = w' := by
  rw [Bool.decide_and]
  cases k1 : decide (0 ≤ n) <;> cases k2 : decide (n < l) <;>
  · go_enter Tryz.func69, Tryz.ntmps69
    go_wp2
    go_ret
    first | exact ⟨rfl, rfl⟩ | exact ⟨ret_bool k2, rfl⟩
theorem may_and (d b p : Int) : mayB d b p = (decide (3 ≤ d ∧ d ≤ 6) && decide (8 ≤ b ∧ b ≤ 16) && decide (2 ≤ p ∧ p ≤ 8)) := by
  rw [Bool.eq_iff_iff]; simp only [mayB, decide_eq_true_eq, Bool.and_eq_true]; omega
theorem in_and (d b p x y z : Int) : inGB d b p x y z = (decide (0 ≤ x ∧ x < d) && decide (0 ≤ y ∧ y < b) && decide (0 ≤ z ∧ z < p)) := by
  rw [Bool.eq_iff_iff]; simp only [inGB, decide_eq_true_eq, Bool.and_eq_true]; omega
set_option maxHeartbeats 1000000 in
theorem gmay_any (d b p : Int) (w : World) :
    Calls Tryz.prog 43 #[geoV d b p] w fun e w' => e = .returned (.bool (mayB d b p)) ∧ Below w.heap.size w w' := by
  have hm := may_and d b p
  cases h1 : decide (3 ≤ d ∧ d ≤ 6) <;> cases h2 : decide (8 ≤ b ∧ b ≤ 16) <;> cases h3 : decide (2 ≤ p ∧ p ≤ 8) <;>
  · rw [h1, h2, h3] at hm
    simp only [Bool.and_true, Bool.and_false, Bool.false_and, Bool.true_and] at hm
    rw [hm]
    have H1 := Lib.hid (fun w => by have := within_any d 3 6 w; rw [h1] at this; exact this)
    have H2 := Lib.hid (fun w => by have := within_any b 8 16 w; rw [h2] at this; exact this)
    have H3 := Lib.hid (fun w => by have := within_any p 2 8 w; rw [h3] at this; exact this)
    clear h1 h2 h3 hm
    go_enter Tryz.func43, Tryz.ntmps43
    go_wp2_with (go_at_call 67; (first | (with_reducible refine (H1.out _).mono ?_) | (with_reducible refine (H2.out _).mono ?_) | (with_reducible refine (H3.out _).mono ?_)); rintro e w' ⟨rfl, rfl⟩)
    go_ret
    exact ⟨rfl, (Below.refl _ _).alloc (Nat.le_refl _) _⟩
set_option maxHeartbeats 1000000 in
theorem gin_any (d b p x y z : Int) (w : World) :
    Calls Tryz.prog 53 #[geoV d b p, geoV x y z] w fun e w' => e = .returned (.bool (inGB d b p x y z)) ∧ Below w.heap.size w w' := by
  have hm := in_and d b p x y z
  cases h1 : decide (0 ≤ x ∧ x < d) <;> cases h2 : decide (0 ≤ y ∧ y < b) <;> cases h3 : decide (0 ≤ z ∧ z < p) <;>
  · rw [h1, h2, h3] at hm
    simp only [Bool.and_true, Bool.and_false, Bool.false_and, Bool.true_and] at hm
    rw [hm]
    have H1 := Lib.hid (fun w => by have := gbelow_any x d w; rw [h1] at this; exact this)
    have H2 := Lib.hid (fun w => by have := gbelow_any y b w; rw [h2] at this; exact this)
    have H3 := Lib.hid (fun w => by have := gbelow_any z p w; rw [h3] at this; exact this)
    clear h1 h2 h3 hm
    go_enter Tryz.func53, Tryz.ntmps53
    go_wp2_with (go_at_call 69; (first | (with_reducible refine (H1.out _).mono ?_) | (with_reducible refine (H2.out _).mono ?_) | (with_reducible refine (H3.out _).mono ?_)); rintro e w' ⟨rfl, rfl⟩)
    go_ret
    exact ⟨rfl, ((Below.refl _ _).alloc (Nat.le_refl _) _).alloc (by simp) _⟩

theorem log_bounds {d b p : Int} (h : mayB d b p = true) : 3 ≤ d ∧ d ≤ 6 ∧ 8 ≤ b ∧ b ≤ 16 ∧ 2 ≤ p ∧ p ≤ 8 ∧ 0 ≤ (b - 5) * p ∧ (b - 5) * p ≤ 88 ∧ 0 ≤ (b - 5) * p * (d - 2) ∧ (b - 5) * p * (d - 2) ≤ 352 ∧
    logS d b p = ((b - 5) * p * (d - 2) + 1) / 2 := by
  obtain ⟨a1, a2, a3, a4, a5, a6⟩ := mayB_yes h
  have h1 := Int.mul_nonneg (show 0 ≤ b - 5 by omega) (show 0 ≤ p by omega)
  have h2 := Int.mul_le_mul (show b - 5 ≤ 11 by omega) a6 (by omega) (by omega)
  have h3 := Int.mul_nonneg h1 (show 0 ≤ d - 2 by omega)
  have h4 := Int.mul_le_mul h2 (show d - 2 ≤ 4 by omega) (by omega) (by omega)
  exact ⟨a1, a2, a3, a4, a5, a6, h1, h2, h3, h4, by unfold logS; rw [h]; rfl⟩

set_option maxHeartbeats 1000000 in
theorem glogical_any (d b p : Int) (w : World) :
    Calls Tryz.prog 87 #[geoV d b p] w fun e w' => e = .returned (.int .i64 (logS d b p)) ∧ Below w.heap.size w w' := by
  cases h : mayB d b p with
  | false =>
    have hl : logS d b p = 0 := by unfold logS; rw [h]; rfl
    rw [hl]
    have hm := fun w => gmay_any d b p w
    rw [h] at hm
    have HM := Lib.hid hm
    clear h hl hm
    go_enter Tryz.func87, Tryz.ntmps87
    go_wp2_with (go_at_call 43; (with_reducible refine (HM.out _).mono ?_); rintro e w1 ⟨rfl, hb⟩)
    go_ret
    exact ⟨rfl, ((Below.refl _ _).alloc (Nat.le_refl _) _).trans (hb.mono (by simp))⟩
  | true =>
    obtain ⟨a1, a2, a3, a4, a5, a6, q1, q3, q2, q4, hl⟩ := log_bounds h
    have hm := fun w => gmay_any d b p w
    rw [h] at hm
    have HM := Lib.hid hm
    have HL := Lib.hid hl
    clear h hl hm
    go_enter Tryz.func87, Tryz.ntmps87
    go_wp2_with (go_at_call 43; (with_reducible refine (HM.out _).mono ?_); rintro e w1 ⟨rfl, hb⟩; have hc0 := (hb.cell (p := ⟨w.heap.size, 0, none⟩) (by simp)); have hc1 := (hb.cell (p := ⟨w.heap.size, 1, none⟩) (by simp)); have hc2 := (hb.cell (p := ⟨w.heap.size, 2, none⟩) (by simp)))
    go_ret
    exact ⟨ret_int HL.out.symm, ((Below.refl _ _).alloc (Nat.le_refl _) _).trans (hb.mono (by simp))⟩


theorem par_at (m b r : Int) (h2 : 2 ≤ countS m) (hb : 0 ≤ b) (hr : 0 ≤ r) : parS m b r = atS m ((b % countS m + r % countS m) % countS m) := by
  have g5 := Int.emod_nonneg (b % countS m + r % countS m) (show (countS m : Int) ≠ 0 by omega)
  have g6 := Int.emod_lt_of_pos (b % countS m + r % countS m) (show (0 : Int) < countS m by omega)
  unfold parS atS
  rw [if_pos ⟨h2, hb, hr⟩, if_pos ⟨g5, g6⟩]
theorem par_none (m b r : Int) (h : countS m < 2 ∨ b < 0 ∨ r < 0) : parS m b r = -1 := if_neg (by omega)


theorem count_zero : countS 0 = 0 := by decide +kernel
theorem dies_zero : diesS 0 = [] := by decide +kernel
theorem at_zero (s : Int) : atS 0 s = -1 := by unfold atS; exact if_neg (by rw [count_zero]; omega)
theorem spot_zero (d : Int) : spotS 0 d = -1 := by unfold spotS; rw [dies_zero]; rfl
theorem par_low (m b r : Int) : parS m b r = -1 ∨ 0 ≤ parS m b r := by
  rcases par_cases m b r with h | ⟨K, D, _, _, h, _⟩
  · exact .inl h
  · right; omega
/-- The set of a row's dies but for its parity's. -/
def otherM (m b r : Int) : Int := if parS m b r < 0 then 0 else withoutS m (parS m b r)
theorem die_other (m b r s : Int) : dieS m b r s = atS (otherM m b r) s := by
  unfold otherM
  split
  · rename_i h; rw [at_zero]; exact die_none m b r s h
  · rename_i h; exact die_without m b r s (by omega)
theorem slot_other (m b r d : Int) : slotS m b r d = spotS (otherM m b r) d := by
  unfold otherM
  split
  · rename_i h; rw [spot_zero]; exact slot_none m b r d h
  · rename_i h; exact slot_without m b r d (by omega)

attribute [local irreducible] diesS countS othersS parS atS spotS withoutS otherM

set_option maxHeartbeats 1000000 in
theorem isMask_any (m : Int) (w : World) :
    Calls Tryz.prog 95 #[.int .i64 m] w fun e w' => e = .returned (.bool (decide (2 ≤ countS m))) ∧ w = w' := by
  have hc := fun w => count_any m w
  obtain ⟨n, hn⟩ : ∃ n, countS m = n := ⟨_, rfl⟩
  rw [hn] at hc ⊢
  have HC := Lib.hid hc
  clear hn hc
  go_enter Tryz.func95, Tryz.ntmps95
  go_wp2_with (go_at_call 96; (with_reducible refine (HC.out _).mono ?_); rintro e w' ⟨rfl, rfl⟩)
  go_ret
  refine ⟨ret_bool ?_, rfl⟩
  rw [Bool.eq_iff_iff]; simp only [decide_eq_true_eq]; omega

set_option maxRecDepth 100000 in
set_option maxHeartbeats 1000000 in
theorem gparity_any (m b r : Int) (w : World) (hb : b ≤ 9223372036854775807) (hr : r ≤ 9223372036854775807) :
    Calls Tryz.prog 83 #[.int .i64 m, .int .i64 b, .int .i64 r] w fun e w' => e = .returned (.int .i64 (parS m b r)) ∧ Below w.heap.size w w' := by
  have hn8 := countS_le m
  have hc := fun w => count_any m w
  have hi := fun w => isMask_any m w
  have hpn := par_none m b r
  have hpa := par_at m b r
  obtain ⟨n, hn⟩ : ∃ n, countS m = n := ⟨_, rfl⟩
  rw [hn] at hn8 hc hpn hpa hi
  obtain ⟨R, hR⟩ : ∃ R, parS m b r = R := ⟨_, rfl⟩
  rw [hR] at hpn hpa ⊢
  have HC := Lib.hid hc
  clear hn hR hc
  by_cases h2 : n < 2
  · have HP := Lib.hid (hpn (.inl h2))
    rw [show decide (2 ≤ n) = false by simp; omega] at hi
    have HI := Lib.hid hi
    clear hpn hpa hi
    go_enter Tryz.func83, Tryz.ntmps83
    go_wp2_with (go_at_call 95; (with_reducible refine (HI.out _).mono ?_); rintro e w' ⟨rfl, rfl⟩)
    go_ret
    exact ⟨ret_int HP.out.symm, Below.refl _ _⟩
  rw [show decide (2 ≤ n) = true by simp; omega] at hi
  have HI := Lib.hid hi
  clear hi
  by_cases h3 : b < 0
  · have HP := Lib.hid (hpn (.inr (.inl h3)))
    clear hpn hpa
    go_enter Tryz.func83, Tryz.ntmps83
    go_wp2_with (go_at_call 95; (with_reducible refine (HI.out _).mono ?_); rintro e w' ⟨rfl, rfl⟩)
    go_ret
    exact ⟨ret_int HP.out.symm, Below.refl _ _⟩
  by_cases h4 : r < 0
  · have HP := Lib.hid (hpn (.inr (.inr h4)))
    have h5 : decide (b < 0) = false := by simp; omega
    clear hpn hpa
    go_enter Tryz.func83, Tryz.ntmps83
    go_wp2_with (go_at_call 95; (with_reducible refine (HI.out _).mono ?_); rintro e w' ⟨rfl, rfl⟩)
    go_ret
    exact ⟨ret_int HP.out.symm, Below.refl _ _⟩
  · have HP := Lib.hid (hpa (by omega) (by omega) (by omega))
    have hnI : (0 : Int) < n := by omega
    have g1 := Int.emod_nonneg b (show (n : Int) ≠ 0 by omega)
    have g2 := Int.emod_lt_of_pos b hnI
    have g3 := Int.emod_nonneg r (show (n : Int) ≠ 0 by omega)
    have g4 := Int.emod_lt_of_pos r hnI
    have g5 := Int.emod_nonneg (b % n + r % n) (show (n : Int) ≠ 0 by omega)
    have g6 := Int.emod_lt_of_pos (b % n + r % n) hnI
    have k1 : 0 ≤ b := by omega
    have k2 : 0 ≤ r := by omega
    have k3 : ¬ (n : Int) < 2 := by omega
    have k5 : ((n : Int) == 0) = false := by simp; omega
    have hw1 : IntKind.i64.wrap (b % n + r % n) = b % n + r % n := IntWalk.i64_in _ (by omega)
    have k4 : 0 ≤ b % n + r % n := by omega
    obtain ⟨K, hK⟩ : ∃ K : Int, (b % n + r % n) % n = K := ⟨_, rfl⟩
    have HAT := Lib.hid (fun w => (at_any m K w (by omega)).mono (fun _ _ h => (⟨h.1, h.2.symm⟩ : _ ∧ _)))
    rw [hK] at HP g5 g6
    clear hpn hpa h2
    go_enter Tryz.func83, Tryz.ntmps83
    go_wp2_with (first
      | (go_at_call 95; (with_reducible refine (HI.out _).mono ?_); rintro e w' ⟨rfl, rfl⟩)
      | (go_at_call 96; (with_reducible refine (HC.out _).mono ?_); rintro e w' ⟨rfl, rfl⟩))
    go_quiet ((go_at_call 97; with_reducible exact Calls.quiet_of_same (HAT.out _)))
    go_wp2
    go_ret
    exact ⟨ret_int HP.out.symm, ⟨rfl, rfl, rfl, Nat.le_refl _, fun _ _ => rfl⟩⟩

set_option maxHeartbeats 1000000 in
theorem gslots_any (m : Int) (w : World) :
    Calls Tryz.prog 84 #[.int .i64 m] w fun e w' => e = .returned (.int .i64 (slotsS m)) ∧ Below w.heap.size w w' := by
  have hn8 := countS_le m
  have hc := fun w => count_any m w
  have hi := fun w => isMask_any m w
  have hs : slotsS m = if 2 ≤ countS m then (countS m : Int) - 1 else 0 := rfl
  obtain ⟨n, hn⟩ : ∃ n, countS m = n := ⟨_, rfl⟩
  rw [hn] at hn8 hc hs hi
  obtain ⟨R, hR⟩ : ∃ R, slotsS m = R := ⟨_, rfl⟩
  rw [hR] at hs ⊢
  have HC := Lib.hid hc
  clear hn hc hR
  by_cases h2 : n < 2
  · rw [if_neg (by omega)] at hs
    rw [show decide (2 ≤ n) = false by simp; omega] at hi
    have HI := Lib.hid hi
    have HS := Lib.hid hs
    clear hs hi
    go_enter Tryz.func84, Tryz.ntmps84
    go_wp2_with (go_at_call 95; (with_reducible refine (HI.out _).mono ?_); rintro e w' ⟨rfl, rfl⟩)
    go_ret
    exact ⟨ret_int HS.out.symm, Below.refl _ _⟩
  · rw [if_pos (by omega)] at hs
    rw [show decide (2 ≤ n) = true by simp; omega] at hi
    have HI := Lib.hid hi
    have HS := Lib.hid hs
    clear hs hi
    go_enter Tryz.func84, Tryz.ntmps84
    go_wp2_with (first
      | (go_at_call 95; (with_reducible refine (HI.out _).mono ?_); rintro e w' ⟨rfl, rfl⟩)
      | (go_at_call 96; (with_reducible refine (HC.out _).mono ?_); rintro e w' ⟨rfl, rfl⟩))
    go_ret
    exact ⟨ret_int HS.out.symm, Below.refl _ _⟩
set_option maxHeartbeats 1000000 in
theorem gothers_any (m b r : Int) (w : World) (hb : b ≤ 9223372036854775807) (hr : r ≤ 9223372036854775807) :
    Calls Tryz.prog 98 #[.int .i64 m, .int .i64 b, .int .i64 r] w fun e w' => e = .returned (.int .i64 (otherM m b r)) ∧ Below w.heap.size w w' := by
  have hp := fun w => gparity_any m b r w hb hr
  have hlow := par_low m b r
  have ho : otherM m b r = if parS m b r < 0 then 0 else withoutS m (parS m b r) := by unfold otherM; rfl
  obtain ⟨p, hp0⟩ : ∃ p, parS m b r = p := ⟨_, rfl⟩
  obtain ⟨R, hR⟩ : ∃ R, otherM m b r = R := ⟨_, rfl⟩
  rw [hp0] at hp hlow ho
  rw [hR] at ho ⊢
  have HP := Lib.hid hp
  have HW := Lib.hid (fun w => without_any m p w)
  clear hp hp0 hR
  rcases hlow with rfl | h
  · rw [if_pos (by omega)] at ho
    have HD := Lib.hid ho
    clear ho
    go_enter Tryz.func98, Tryz.ntmps98
    go_wp2_with (go_at_call 83; (with_reducible refine (HP.out _).mono ?_); rintro e w1 ⟨rfl, hb1⟩; have HB1 := Lib.hid hb1; clear hb1)
    go_ret
    exact ⟨ret_int HD.out.symm, HB1.out⟩
  · rw [if_neg (by omega)] at ho
    have HD := Lib.hid ho
    have hq : (p == -1) = false := by simp; omega
    clear ho
    go_enter Tryz.func98, Tryz.ntmps98
    go_wp2_with (first
      | (go_at_call 83; (with_reducible refine (HP.out _).mono ?_); rintro e w1 ⟨rfl, hb1⟩; have HB1 := Lib.hid hb1; clear hb1)
      | (go_at_call 119; (with_reducible refine (HW.out _).mono ?_); rintro e w' ⟨rfl, rfl⟩))
    go_ret
    exact ⟨ret_int HD.out.symm, HB1.out⟩
set_option maxHeartbeats 1000000 in
theorem gdie_any (m b r s : Int) (w : World) (hb : b ≤ 9223372036854775807) (hr : r ≤ 9223372036854775807) (hs : s ≤ 9223372036854775807) :
    Calls Tryz.prog 85 #[.int .i64 m, .int .i64 b, .int .i64 r, .int .i64 s] w fun e w' => e = .returned (.int .i64 (dieS m b r s)) ∧ Below w.heap.size w w' := by
  have HP := Lib.hid (fun w => gothers_any m b r w hb hr)
  have HD := Lib.hid (die_other m b r s)
  have HA := Lib.hid (fun w => at_any (otherM m b r) s w hs)
  go_enter Tryz.func85, Tryz.ntmps85
  go_wp2_with (first
    | (go_at_call 98; (with_reducible refine (HP.out _).mono ?_); rintro e w1 ⟨rfl, hb1⟩; have HB1 := Lib.hid hb1; clear hb1)
    | (go_at_call 97; (with_reducible refine (HA.out _).mono ?_); rintro e w' ⟨rfl, rfl⟩))
  go_ret
  exact ⟨ret_int HD.out.symm, HB1.out⟩
set_option maxHeartbeats 1000000 in
theorem gslot_any (m b r d : Int) (w : World) (hb : b ≤ 9223372036854775807) (hr : r ≤ 9223372036854775807) :
    Calls Tryz.prog 86 #[.int .i64 m, .int .i64 b, .int .i64 r, .int .i64 d] w fun e w' => e = .returned (.int .i64 (slotS m b r d)) ∧ Below w.heap.size w w' := by
  have HP := Lib.hid (fun w => gothers_any m b r w hb hr)
  have HD := Lib.hid (slot_other m b r d)
  have HA := Lib.hid (fun w => spot_any (otherM m b r) d w)
  go_enter Tryz.func86, Tryz.ntmps86
  go_wp2_with (first
    | (go_at_call 98; (with_reducible refine (HP.out _).mono ?_); rintro e w1 ⟨rfl, hb1⟩; have HB1 := Lib.hid hb1; clear hb1)
    | (go_at_call 99; (with_reducible refine (HA.out _).mono ?_); rintro e w' ⟨rfl, rfl⟩))
  go_ret
  exact ⟨ret_int HD.out.symm, HB1.out⟩
end Go.Proofs.YtfploeefmnbpcaaGreat

/- A spot.Map in memory; what may have changed. -/
namespace Go.Proofs.YtfploeefmnbpcaaGreat
open Go.RowKit Mp Go.ChangeMaps

/-- Nothing has changed but block g and, where there is one, block mb. -/
structure But2 (g : Nat) (mb : Option Nat) (w w' : World) : Prop where
  os : w'.os = w.os
  tape : w'.tape = w.tape
  output : w'.output = w.output
  size : w.heap.size ≤ w'.heap.size
  block : ∀ k, k < w.heap.size → k ≠ g → some k ≠ mb → w'.heap[k]? = w.heap[k]?
theorem But2.refl (g : Nat) (mb : Option Nat) (w : World) : But2 g mb w w := ⟨rfl, rfl, rfl, Nat.le_refl _, fun _ _ _ _ => rfl⟩
theorem But2.trans {g : Nat} {mb : Option Nat} {a b c : World} (h : But2 g mb a b) (k : But2 g mb b c) : But2 g mb a c :=
  ⟨k.os.trans h.os, k.tape.trans h.tape, k.output.trans h.output, Nat.le_trans h.size k.size, fun i hi h1 h2 => (k.block i (Nat.lt_of_lt_of_le hi h.size) h1 h2).trans (h.block i hi h1 h2)⟩
theorem But2.of_below {g : Nat} {mb : Option Nat} {w w' : World} (h : Below w.heap.size w w') : But2 g mb w w' := ⟨h.os, h.tape, h.output, h.size, fun k hk _ _ => h.block k hk⟩
theorem But2.below {g B : Nat} {mb : Option Nat} {w w' : World} (h : But2 g mb w w') (hB : B ≤ w.heap.size) (hg : B ≤ g) (hm : ∀ b, mb = some b → B ≤ b) : Below B w w' :=
  ⟨h.os, h.tape, h.output, h.size, fun k hk => h.block k (Nat.lt_of_lt_of_le hk hB) (by omega) (fun e => by have := hm k e.symm; omega)⟩
theorem But2.alloc {g : Nat} {mb : Option Nat} {a w : World} (h : But2 g mb a w) (o : Obj) : But2 g mb a (w.alloc o) := h.trans (But2.of_below ((Below.refl _ _).alloc (Nat.le_refl _) _))
theorem But2.drew {g : Nat} {mb : Option Nat} {a w : World} (h : But2 g mb a w) (n : Nat) : But2 g mb a (w.drewN n) := ⟨h.os, h.tape, h.output, h.size, h.block⟩
theorem But2.setCell {g : Nat} {mb : Option Nat} {a w : World} (h : But2 g mb a w) (o : Nat) (s : Option Nat) (u : Value) : But2 g mb a (w.setCell ⟨g, o, s⟩ u) :=
  ⟨h.os, h.tape, h.output, by simp only [World.size_setCell]; exact h.size, fun k hk h1 h2 => (Below.heap_setCell _ _ _ k h1).trans (h.block k hk h1 h2)⟩
theorem But2.setBlock {g b : Nat} {mb : Option Nat} {a w : World} (h : But2 g mb a w) (hb : some b = mb ∨ a.heap.size ≤ b) (o : Obj) : But2 g mb a (setBlock w b o) :=
  ⟨h.os, h.tape, h.output, by simp only [Go.ChangeMaps.setBlock, Array.size_setIfInBounds]; exact h.size, fun k hk h1 h2 => by
    have : k ≠ b := fun e => by
      rcases hb with hb | hb
      · exact h2 (by rw [e, hb])
      · omega
    simp only [Go.ChangeMaps.setBlock, Array.getElem?_setIfInBounds]
    rw [if_neg (fun e => this e.symm)]
    exact h.block k hk h1 h2⟩

/-- Block g is a spot.Map whose map lies in mb (none: not made yet); it has l. -/
structure SpotIs (w : World) (g : Nat) (mb : Option Nat) (l : List (A3 × Value)) : Prop where
  cell : w.cell? ⟨g, 0, none⟩ = some (.map mb)
  free : w.frozen? ⟨g, 0, none⟩ = false
  none : mb = none → l = []
  some : ∀ b, mb = some b → MapIs EA w b l

theorem SpotIs.lt {w : World} {g : Nat} {mb : Option Nat} {l : List (A3 × Value)} (h : SpotIs w g mb l) : g < w.heap.size := World.block_lt_of_cell? w _ h.cell
theorem SpotIs.ne {w : World} {g b : Nat} {mb : Option Nat} {l : List (A3 × Value)} (h : SpotIs w g mb l) (hb : mb = .some b) : b ≠ g := fun e => by
  obtain ⟨o, ho, es, clock, rfl, _⟩ := h.some b hb
  have := h.cell
  rw [e] at ho
  simp [World.cell?, ho] at this
theorem SpotIs.keep {w w' : World} {g : Nat} {mb : Option Nat} {l : List (A3 × Value)} (h : SpotIs w g mb l) (hg : w'.heap[g]? = w.heap[g]?) (hb : ∀ b, mb = .some b → w'.heap[b]? = w.heap[b]?) : SpotIs w' g mb l :=
  ⟨(World.cell?_of_block (a := ⟨g, 0, Option.none⟩) hg).trans h.cell, (World.frozen?_of_block (a := ⟨g, 0, Option.none⟩) hg).trans h.free, h.none, fun b hb' => (h.some b hb').of_block (hb b hb')⟩
theorem SpotIs.mblt {w : World} {g b : Nat} {mb : Option Nat} {l : List (A3 × Value)} (h : SpotIs w g mb l) (hb : mb = .some b) : b < w.heap.size := (h.some b hb).lt
theorem SpotIs.below {w w' : World} {g B : Nat} {mb : Option Nat} {l : List (A3 × Value)} (h : SpotIs w g mb l) (hw : Below B w w') (hB : w.heap.size ≤ B) : SpotIs w' g mb l :=
  h.keep (hw.block g (Nat.lt_of_lt_of_le h.lt hB)) fun b hb => hw.block b (Nat.lt_of_lt_of_le (h.mblt hb) hB)
theorem SpotIs.of_perm {w : World} {g : Nat} {mb : Option Nat} {l l' : List (A3 × Value)} (h : SpotIs w g mb l) (hp : l.Perm l') : SpotIs w g mb l' :=
  ⟨h.cell, h.free, fun e => by have := h.none e; rw [this] at hp; exact hp.symm.eq_nil, fun b hb => (h.some b hb).of_perm hp⟩
theorem SpotIs.nodup {w : World} {g : Nat} {mb : Option Nat} {l : List (A3 × Value)} (h : SpotIs w g mb l) : (l.map (·.1)).Nodup := by
  cases mb with
  | none => rw [h.none rfl]; exact List.nodup_nil
  | some b => exact (h.some b rfl).nodup
theorem SpotIs.ok {w : World} {g : Nat} {mb : Option Nat} {l : List (A3 × Value)} (h : SpotIs w g mb l) : ∀ p ∈ l, okA p.1 := by
  cases mb with
  | none => rw [h.none rfl]; intro p hp; simp at hp
  | some b => exact (h.some b rfl).ok

theorem heap_setBlock_at {W : World} {b : Nat} (o : Obj) (hb : b < W.heap.size) : (setBlock W b o).heap[b]? = some o := by
  simp [Go.ChangeMaps.setBlock, hb]
theorem heap_setBlock_off {W : World} {b k : Nat} (o : Obj) (hk : k ≠ b) : (setBlock W b o).heap[k]? = W.heap[k]? := by
  simp only [Go.ChangeMaps.setBlock, Array.getElem?_setIfInBounds]
  rw [if_neg (fun e => hk e.symm)]

theorem below_drewN {B : Nat} {a w : World} (h : Below B a w) (n : Nat) : Below B a (w.drewN n) := ⟨h.os, h.tape, h.output, h.size, h.block⟩

/-- The map's block is written. -/
theorem SpotIs.after {w W : World} {g b : Nat} {l l' : List (A3 × Value)} {o' : Obj} (h : SpotIs w g (.some b) l) (hw : Below w.heap.size w W) (ho : IsObj EA o' l') :
    SpotIs (setBlock W b o') g (.some b) l' ∧ But2 g (.some b) w (setBlock W b o') := by
  have hbg := h.ne rfl
  have hb := h.mblt rfl
  have hg : (setBlock W b o').heap[g]? = w.heap[g]? := (heap_setBlock_off o' (fun e => hbg e.symm)).trans (hw.block g h.lt)
  refine ⟨⟨(World.cell?_of_block (a := ⟨g, 0, Option.none⟩) hg).trans h.cell, (World.frozen?_of_block (a := ⟨g, 0, Option.none⟩) hg).trans h.free, fun e => (by cases e), fun b' e => ?_⟩, (But2.of_below hw).setBlock (.inl rfl) o'⟩
  cases e
  exact ⟨o', heap_setBlock_at o' (Nat.lt_of_lt_of_le hb hw.size), ho⟩
end Go.Proofs.YtfploeefmnbpcaaGreat

/- A spot.Map at a cell of a block, and what may have changed. -/
namespace Go.Proofs.YtfploeefmnbpcaaGreat
open Go.RowKit Mp Go.ChangeMaps

/-- Nothing has changed but cell o of block g and, where there is one, block mb. -/
structure But3 (g o : Nat) (mb : Option Nat) (w w' : World) : Prop where
  os : w'.os = w.os
  tape : w'.tape = w.tape
  output : w'.output = w.output
  size : w.heap.size ≤ w'.heap.size
  block : ∀ k, k < w.heap.size → k ≠ g → some k ≠ mb → w'.heap[k]? = w.heap[k]?
  cells : ∀ i, i ≠ o → w'.cell? ⟨g, i, none⟩ = w.cell? ⟨g, i, none⟩
  froz : ∀ i, w'.frozen? ⟨g, i, none⟩ = w.frozen? ⟨g, i, none⟩
theorem But3.refl (g o : Nat) (mb : Option Nat) (w : World) : But3 g o mb w w := ⟨rfl, rfl, rfl, Nat.le_refl _, fun _ _ _ _ => rfl, fun _ _ => rfl, fun _ => rfl⟩
theorem But3.trans {g o : Nat} {mb : Option Nat} {a b c : World} (h : But3 g o mb a b) (k : But3 g o mb b c) : But3 g o mb a c :=
  ⟨k.os.trans h.os, k.tape.trans h.tape, k.output.trans h.output, Nat.le_trans h.size k.size, fun i hi h1 h2 => (k.block i (Nat.lt_of_lt_of_le hi h.size) h1 h2).trans (h.block i hi h1 h2), fun i hi => (k.cells i hi).trans (h.cells i hi), fun i => (k.froz i).trans (h.froz i)⟩
theorem But3.of_below {g o : Nat} {mb : Option Nat} {w w' : World} (h : Below w.heap.size w w') (hg : g < w.heap.size) : But3 g o mb w w' :=
  ⟨h.os, h.tape, h.output, h.size, fun k hk _ _ => h.block k hk, fun i _ => h.cell (p := ⟨g, i, none⟩) hg, fun i => h.frozen (p := ⟨g, i, none⟩) hg⟩
theorem But3.alloc {g o : Nat} {mb : Option Nat} {a w : World} (h : But3 g o mb a w) (hg : g < a.heap.size) (x : Obj) : But3 g o mb a (w.alloc x) := h.trans (But3.of_below ((Below.refl _ _).alloc (Nat.le_refl _) _) (Nat.lt_of_lt_of_le hg h.size))
theorem But3.drew {g o : Nat} {mb : Option Nat} {a w : World} (h : But3 g o mb a w) (n : Nat) : But3 g o mb a (w.drewN n) := ⟨h.os, h.tape, h.output, h.size, h.block, h.cells, h.froz⟩
theorem But3.setCell {g o : Nat} {mb : Option Nat} {a w : World} (h : But3 g o mb a w) (u : Value) : But3 g o mb a (w.setCell ⟨g, o, none⟩ u) :=
  ⟨h.os, h.tape, h.output, by simp only [World.size_setCell]; exact h.size, fun k hk h1 h2 => (Below.heap_setCell _ _ _ k h1).trans (h.block k hk h1 h2),
    fun i hi => (World.cell?_setCell_other _ _ _ _ (fun e => hi (congrArg Addr.off e).symm)).trans (h.cells i hi), fun i => (World.frozen?_setCell _ _ _ _).trans (h.froz i)⟩
theorem But3.setBlock {g o b : Nat} {mb : Option Nat} {a w : World} (h : But3 g o mb a w) (hb : some b = mb ∨ a.heap.size ≤ b) (hne : b ≠ g) (x : Obj) : But3 g o mb a (setBlock w b x) :=
  have hk : (Go.ChangeMaps.setBlock w b x).heap[g]? = w.heap[g]? := heap_setBlock_off x (fun e => hne e.symm)
  ⟨h.os, h.tape, h.output, by simp only [Go.ChangeMaps.setBlock, Array.size_setIfInBounds]; exact h.size, fun k hk h1 h2 => by
    have : k ≠ b := fun e => by
      rcases hb with hb | hb
      · exact h2 (by rw [e, hb])
      · omega
    exact (heap_setBlock_off x this).trans (h.block k hk h1 h2),
   fun i hi => (World.cell?_of_block (a := ⟨g, i, none⟩) hk).trans (h.cells i hi), fun i => (World.frozen?_of_block (a := ⟨g, i, none⟩) hk).trans (h.froz i)⟩

/-- At cell o of block g lies a spot.Map whose map lies in mb (none: not made yet); it has l. -/
structure SpotAt (w : World) (g o : Nat) (mb : Option Nat) (l : List (A3 × Value)) : Prop where
  cell : w.cell? ⟨g, o, none⟩ = some (.map mb)
  free : w.frozen? ⟨g, o, none⟩ = false
  none : mb = none → l = []
  some : ∀ b, mb = some b → MapIs EA w b l

variable {w w' : World} {g o : Nat} {mb : Option Nat} {l : List (A3 × Value)}
theorem SpotAt.lt (h : SpotAt w g o mb l) : g < w.heap.size := World.block_lt_of_cell? w _ h.cell
theorem SpotAt.ne {b : Nat} (h : SpotAt w g o mb l) (hb : mb = .some b) : b ≠ g := fun e => by
  obtain ⟨x, ho, es, clock, rfl, _⟩ := h.some b hb
  have := h.cell
  rw [e] at ho
  simp [World.cell?, ho] at this
theorem SpotAt.keep (h : SpotAt w g o mb l) (hg : w'.heap[g]? = w.heap[g]?) (hb : ∀ b, mb = .some b → w'.heap[b]? = w.heap[b]?) : SpotAt w' g o mb l :=
  ⟨(World.cell?_of_block (a := ⟨g, o, Option.none⟩) hg).trans h.cell, (World.frozen?_of_block (a := ⟨g, o, Option.none⟩) hg).trans h.free, h.none, fun b hb' => (h.some b hb').of_block (hb b hb')⟩
theorem SpotAt.mblt {b : Nat} (h : SpotAt w g o mb l) (hb : mb = .some b) : b < w.heap.size := (h.some b hb).lt
theorem SpotAt.below {B : Nat} (h : SpotAt w g o mb l) (hw : Below B w w') (hB : w.heap.size ≤ B) : SpotAt w' g o mb l :=
  h.keep (hw.block g (Nat.lt_of_lt_of_le h.lt hB)) fun b hb => hw.block b (Nat.lt_of_lt_of_le (h.mblt hb) hB)
/-- What is written elsewhere. -/
theorem SpotAt.other {o' : Nat} {mb' : Option Nat} (h : SpotAt w g o mb l) (hb : But3 g o' mb' w w') (ho : o ≠ o') (hne : ∀ b, mb = .some b → mb' ≠ .some b) : SpotAt w' g o mb l :=
  ⟨(hb.cells o ho).trans h.cell, (hb.froz o).trans h.free, h.none, fun b hb' => (h.some b hb').of_block (hb.block b (h.mblt hb') (h.ne hb') (fun e => hne b hb' e.symm))⟩
/-- The map's block is written. -/
theorem SpotAt.after {W : World} {b : Nat} {l' : List (A3 × Value)} {o' : Obj} (h : SpotAt w g o (.some b) l) (hw : Below w.heap.size w W) (ho : IsObj EA o' l') :
    SpotAt (setBlock W b o') g o (.some b) l' ∧ But3 g o (.some b) w (setBlock W b o') := by
  have hbg := h.ne rfl
  have hb := h.mblt rfl
  have hg : (setBlock W b o').heap[g]? = w.heap[g]? := (heap_setBlock_off o' (fun e => hbg e.symm)).trans (hw.block g h.lt)
  refine ⟨⟨(World.cell?_of_block (a := ⟨g, o, Option.none⟩) hg).trans h.cell, (World.frozen?_of_block (a := ⟨g, o, Option.none⟩) hg).trans h.free, fun e => (by cases e), fun b' e => ?_⟩, (But3.of_below hw h.lt).setBlock (.inl rfl) hbg o'⟩
  cases e
  exact ⟨o', heap_setBlock_at o' (Nat.lt_of_lt_of_le hb hw.size), ho⟩
theorem delA_no {l : List (A3 × Value)} {a : A3} (h : getA l a = none) : delA l a = l := by
  refine List.filter_eq_self.2 fun p hp => ?_
  have : p.1 ≠ a := fun e => by
    unfold getA at h
    have := List.find?_eq_none.1 (Option.map_eq_none_iff.1 h) p hp
    simp [e] at this
  simpa using this
end Go.Proofs.YtfploeefmnbpcaaGreat
