/- The law LaneAll: the walk. -/
import Derived.Test.YtojhhcfpnbdobaaWays
import Derived.Test.YtojhhcfpnbdobaaLaneU
import Derived.Deep.DeepCutAuto
namespace Go.Proofs.Ytojhhcfpnbdobaa
open Go.RowKit

set_option linter.unusedVariables false
attribute [local irreducible] hasS countS atS withS withoutS allS spotS diesS

def inRow (i : Int) (n : Nat) : Bool := decide (0 ≤ i ∧ i < n)
theorem inRow_yes (i : Int) (n : Nat) (h0 : 0 ≤ i) (h1 : i < n) : inRow i n = true := decide_eq_true ⟨h0, h1⟩
theorem inRow_no (i : Int) (n : Nat) (h : i < 0 ∨ n ≤ i) : inRow i n = false := decide_eq_false (by omega)
theorem inRow_iff (i : Int) (n : Nat) (h : inRow i n = true) : 0 ≤ i ∧ i < n := of_decide_eq_true h
theorem inRow_not (i : Int) (n : Nat) (h : inRow i n = false) : i < 0 ∨ n ≤ i := by
  have := of_decide_eq_false h
  omega
attribute [local irreducible] inRow
set_option maxRecDepth 100000 in
set_option maxHeartbeats 4000000 in
theorem laneAll_walk (m die i dies : Int) (w : World) (hm : (Lit.int .i64 m).wf = true) (hd : (Lit.int .i64 die).wf = true) (hi : (Lit.int .i64 i).wf = true) (hs : (Lit.int .i64 dies).wf = true) :
    Calls Try.prog 10 #[.int .i64 m, .int .i64 die, .int .i64 i, .int .i64 dies] w fun e w' => e = .returned (.bool true) ∧ Below w.heap.size w w' := by
  obtain ⟨m1, m2⟩ : -9223372036854775808 ≤ m ∧ m ≤ 9223372036854775807 := by simpa [Lit.wf, IntKind.min, IntKind.max, IntKind.signed, IntKind.bits] using hm
  obtain ⟨d1, d2⟩ : -9223372036854775808 ≤ die ∧ die ≤ 9223372036854775807 := by simpa [Lit.wf, IntKind.min, IntKind.max, IntKind.signed, IntKind.bits] using hd
  obtain ⟨i1, i2⟩ : -9223372036854775808 ≤ i ∧ i ≤ 9223372036854775807 := by simpa [Lit.wf, IntKind.min, IntKind.max, IntKind.signed, IntKind.bits] using hi
  obtain ⟨s1, s2⟩ : -9223372036854775808 ≤ dies ∧ dies ≤ 9223372036854775807 := by simpa [Lit.wf, IntKind.min, IntKind.max, IntKind.signed, IntKind.bits] using hs
  clear hm hd hi hs
  have hn0 : (diesS m).length = countS m := by unfold countS; rfl
  obtain ⟨n, hn⟩ : ∃ n, countS m = n := ⟨_, rfl⟩
  have hn8 : n ≤ 8 := by rw [← hn]; exact countS_le m
  rw [hn] at hn0
  have HN0 := Lib.hid hn0
  have HN := Lib.hid hn
  clear hn hn0
  go_enter Try.func10, Try.ntmps10
  go_wp2_with (go_at_call 21; refine (begun_any _).mono ?_; rintro e w1 ⟨rfl, hb1⟩; have HB1 := Lib.hid hb1; clear hb1)
  refine (rdies_any m _).mono ?_
  rintro e w2 ⟨v, rfl, hown, hb2⟩
  obtain ⟨a, cap, rfl, hle, hcm, hh, hor⟩ := own_read hown
  have hw1 := HB1.out.size
  have HB2 := Lib.hid (HB1.out.trans (hb2.mono hw1))
  have HH2 := Lib.hid hh
  clear hown hh hor hb2 HB1
  rw [HN0.out] at hle ⊢
  go_wp2_with fail
  refine (rspot_any m die _).mono ?_
  rintro e w3 ⟨rfl, hb3⟩
  have hw2 := HB2.out.size
  have HB3 := Lib.hid (HB2.out.trans (hb3.mono hw2))
  have HH3 := Lib.hid (HH2.out.below hb3)
  clear hb3 HH2 HB2
  go_upto_region 7 with fail
  go_cut [33] (fun v wx => v = .bool (inRow i n) ∧ w3 = wx)
  case first =>
    by_cases c0 : i < 0
    · have E1 := Lib.hid (inRow_no i n (.inl c0))
      go_wp2_with fail
      go_meet
      case rel => exact ⟨by rw [E1.out], rfl⟩
    by_cases c1 : i < (n : Int)
    · have E1 := Lib.hid (inRow_yes i n (by omega) c1)
      have c2 : 0 ≤ i := by omega
      go_wp2_with fail
      go_meet
      case rel => exact ⟨by rw [E1.out], rfl⟩
    · have E1 := Lib.hid (inRow_no i n (.inr (by omega)))
      have c2 : 0 ≤ i := by omega
      go_wp2_with fail
      go_meet
      case rel => exact ⟨by rw [E1.out], rfl⟩
  case rest =>
  obtain ⟨rfl, rfl⟩ := hcut
  go_upto_if 33 with fail
  go_cut [12] (fun v wx => v = .int .i64 (atS m i) ∧ w3 = wx)
  case first =>
    by_cases cb : inRow i n = true
    · obtain ⟨c0, c1⟩ := inRow_iff i n cb
      obtain ⟨I, rfl⟩ : ∃ I : Nat, i = I := ⟨i.toNat, by omega⟩
      have hI : I < n := by omega
      have e1 := atS_in m I (by rw [HN.out]; exact hI)
      have E1 := Lib.hid e1
      have hIl : I < (diesS m).length := by rw [HN0.out]; exact hI
      obtain ⟨b, off, rfl, hc⟩ := HH3.out I (.int .i64 ((diesS m)[I] : Nat)) (by unfold i64s; rw [List.getElem?_map, List.getElem?_eq_getElem hIl]; rfl)
      have E2 := Lib.hid (show (diesS m).getD I 0 = (diesS m)[I] by simp [List.getD, List.getElem?_eq_getElem hIl])
      generalize (diesS m)[I] = X at hc E2
      clear e1 hIl
      rw [cb]
      go_wp2_with fail
      go_meet
      case rel => exact ⟨by rw [E1.out, E2.out], rfl⟩
    · have cb : inRow i n = false := by simpa using cb
      have e1 := atS_out m i (by rw [HN.out]; exact inRow_not i n cb)
      have E1 := Lib.hid e1
      clear e1
      rw [cb]
      go_wp2_with fail
      go_meet
      case rel => exact ⟨by rw [E1.out], rfl⟩
  case rest =>
    obtain ⟨rfl, rfl⟩ := hcut
    go_wp2_with fail
    go_loop [13, 14] (fun x y => ∃ k : Nat, k ≤ 8 ∧ ((k : Int) ≤ dies ∨ k = 0) ∧ (dies ≤ 8 ∨ k = 0) ∧ y = .int .i64 k ∧ x = .int .i64 (2 ^ k - 1 : Nat)) (fun _ y => (8 - intOf y).toNat)
    case atStart => exact ⟨0, by omega, by omega, by omega, rfl, rfl⟩
    case round =>
      obtain ⟨k, hk, hk1, hk2, rfl, rfl⟩ := hrel
      by_cases cgo : (k : Int) < dies ∧ dies ≤ 8
      · obtain ⟨cg1, cg2⟩ := cgo
        have hk8 : k < 8 := by omega
        have e1 : wrap64 (((2 ^ k - 1 : Nat) : Int) + wrap64 (2 ^ k)) = ((2 ^ (k + 1) - 1 : Nat) : Int) := by
          have : ∀ k : Fin 8, wrap64 (((2 ^ k.val - 1 : Nat) : Int) + wrap64 (2 ^ k.val)) = ((2 ^ (k.val + 1) - 1 : Nat) : Int) := by decide +kernel
          exact this ⟨k, hk8⟩
        have E1 := Lib.hid e1
        clear e1
        go_wp2
        go_round
        case rel => exact ⟨k + 1, by omega, by omega, by omega, by go_num, by rw [E1.out]⟩
        case measure => simp [intOf]; omega
      · have e1 : allS dies = ((2 ^ k - 1 : Nat) : Int) := by
          unfold allS
          by_cases hd : 0 ≤ dies ∧ dies ≤ 8
          · obtain rfl : dies = k := by omega
            have hp : 1 ≤ 2 ^ k := Nat.one_le_two_pow
            rw [if_pos hd, Int.toNat_natCast, Int.natCast_sub hp]; simp
          · obtain rfl : k = 0 := by omega
            rw [if_neg hd]; rfl
        have E1 := Lib.hid e1
        clear e1
        have HALL : Hid (∀ w, Calls Try.prog 59 #[.int .i64 dies] w fun e w' => e = .returned (.int .i64 ((2 ^ k - 1 : Nat) : Int)) ∧ w = w') := fun w => by rw [← E1.out]; exact all_any dies w
        have HCNT : Hid (∀ w, Calls Try.prog 54 #[.int .i64 m] w fun e w' => e = .returned (.int .i64 (n : Nat)) ∧ w = w') := fun w => by rw [← HN.out]; exact count_any m w
        have hex : (k : Int) < dies ∧ 8 < dies ∨ dies ≤ k := by omega
        clear cgo hk1 hk2 E1
        rcases hex with ⟨cg1, cg2⟩ | cg1
        all_goals
          by_cases cm : m < 0 ∨ 255 < m
          · have hS := spotS_none m die (by omega)
            have hA : atS m i = -1 := atS_out m i (by have := HN.out; rw [countS_none m cm] at this ⊢; omega)
            have hC : n = 0 := by rw [← HN.out]; exact countS_none m cm
            have HC := Lib.hid hC
            have HSP : Hid (∀ w, Calls Try.prog 56 #[.int .i64 m, .int .i64 die] w fun e w' => e = .returned (.int .i64 (-1)) ∧ w = w') := fun w => by rw [← hS]; exact spot_any m die w
            have HAT : Hid (∀ w, Calls Try.prog 55 #[.int .i64 m, .int .i64 i] w fun e w' => e = .returned (.int .i64 (-1)) ∧ w = w') := fun w => at_set m i w cm
            clear hS hA hC HCNT
            have hm4 : m < 0 ∨ 255 < m ∨ die < 0 ∨ 7 < die := by omega
            have HM4 := Lib.hid hm4
            have HM := Lib.hid cm
            clear hm4
            rcases cm with cm | cm
            all_goals go_wp2_with (first
              | (go_at_call 53; refine (has_no m die _ HM4.out).mono ?_; rintro e w' ⟨rfl, rfl⟩)
              | (go_at_call 54; refine (count_no m _ HM.out).mono ?_; rintro e w' ⟨rfl, rfl⟩)
              | (go_at_call 55; refine (HAT.out _).mono ?_; rintro e w' ⟨rfl, rfl⟩)
              | (go_at_call 56; refine (HSP.out _).mono ?_; rintro e w' ⟨rfl, rfl⟩)
              | (go_at_call 57; refine (with_set m die _ HM.out).mono ?_; rintro e w' ⟨rfl, rfl⟩)
              | (go_at_call 58; refine (without_set m die _ HM.out).mono ?_; rintro e w' ⟨rfl, rfl⟩))
            all_goals go_ret
            all_goals exact ⟨rfl, HB3.out⟩
          · have cm1 : 0 ≤ m := by omega
            have cm2 : m ≤ 255 := by omega
            clear cm
            by_cases cd : die < 0 ∨ 7 < die
            · have hS := spotS_none m die (by omega)
              have HHAS : Hid (∀ w, Calls Try.prog 53 #[.int .i64 m, .int .i64 die] w fun e w' => e = .returned (.bool false) ∧ w = w') := fun w => by have h := has_any m die w; rwa [hasS_none m die (by omega)] at h
              have hin : decide (0 ≤ spotS m die) = false := by rw [hS]; rfl
              have HD := Lib.hid cd
              clear hS
              rcases cd with cd | cd
              all_goals try have cd0 : 0 ≤ die := by omega
              all_goals go_wp2_with (first
                | (go_at_call 53; refine (HHAS.out _).mono ?_; rintro e w' ⟨rfl, rfl⟩)
                | (go_at_call 54; refine (HCNT.out _).mono ?_; rintro e w' ⟨rfl, rfl⟩)
                | (go_at_call 55; refine (at_any m i _ i2).mono ?_; rintro e w' ⟨rfl, rfl⟩)
                | (go_at_call 56; refine (spot_any m die _).mono ?_; rintro e w' ⟨rfl, rfl⟩)
                | (go_at_call 52; refine (rspot_any m die _).mono ?_; rintro e w4 ⟨rfl, hb4⟩; have HB4 := Lib.hid (HB3.out.trans (hb4.mono HB3.out.size)); clear hb4)
                | (go_at_call 57; refine (with_die m die _ cm1 cm2 HD.out).mono ?_; rintro e w' ⟨rfl, rfl⟩)
                | (go_at_call 58; refine (without_die m die _ cm1 cm2 HD.out).mono ?_; rintro e w' ⟨rfl, rfl⟩)
                | (go_at_call 59; refine (HALL.out _).mono ?_; rintro e w' ⟨rfl, rfl⟩))
              all_goals go_ret
              all_goals exact ⟨rfl, HB4.out⟩
            · obtain ⟨D, rfl⟩ : ∃ D : Nat, die = D := ⟨die.toNat, by omega⟩
              have hD : D < 8 := by omega
              have hW := with_any m D
              have hWO := without_any m D
              unfold withS at hW
              unfold withoutS at hWO
              rw [if_pos ⟨cm1, cm2⟩, if_pos ⟨by omega, by omega⟩, Int.toNat_natCast] at hW hWO
              have hp : wrap64 (2 ^ D) = 2 ^ D := by rw [wrap_pow (by omega)]; simp
              have hp2 : (2 ^ D : Int) ≤ 128 := by
                have : ∀ d : Fin 8, (2 ^ d.val : Int) ≤ 128 := by decide +kernel
                exact this ⟨D, hD⟩
              have hp1 : (1 : Int) ≤ 2 ^ D := by
                have : ∀ d : Fin 8, (1 : Int) ≤ (2 ^ d.val : Int) := by decide +kernel
                exact this ⟨D, hD⟩
              have aux1 : ∀ p : Int, 1 ≤ p → p ≤ 128 → m + p = wrap64 (m + p) := fun p q1 q2 => ((IntWalk.i64_left (m + p)).symm.trans (IntWalk.i64_in (m + p) (by omega))).symm
              have aux2 : ∀ p : Int, 1 ≤ p → p ≤ 128 → m - p = wrap64 (m - p) := fun p q1 q2 => ((IntWalk.i64_left (m - p)).symm.trans (IntWalk.i64_in (m - p) (by omega))).symm
              have eW : m + 2 ^ D = wrap64 (m + wrap64 (2 ^ D)) := by rw [hp]; exact aux1 _ hp1 hp2
              have eWO : m - 2 ^ D = wrap64 (m - wrap64 (2 ^ D)) := by rw [hp]; exact aux2 _ hp1 hp2
              rw [eW] at hW
              rw [eWO] at hWO
              clear hp hp1 hp2 eW eWO aux1 aux2
              have hd0 : (0 : Int) ≤ (D : Int) := by omega
              have hd7 : (D : Int) < 8 := by omega
              have hh := has_any m D
              have hin : hasS m D = decide (0 ≤ spotS m D) := by unfold hasS; rfl
              clear cd
              cases hx : hasS m D with
              | true =>
                rw [hx] at hW hWO hh hin
                have hin2 : decide (0 ≤ spotS m D) = true := hin.symm
                simp only [if_true] at hW hWO
                have HW := Lib.hid hW
                have HWO := Lib.hid hWO
                have HHAS := Lib.hid hh
                clear hW hWO hh hin hx
                go_wp2_with (first
                  | (go_at_call 53; refine (HHAS.out _).mono ?_; rintro e w' ⟨rfl, rfl⟩)
                  | (go_at_call 54; refine (HCNT.out _).mono ?_; rintro e w' ⟨rfl, rfl⟩)
                  | (go_at_call 55; refine (at_any m i _ i2).mono ?_; rintro e w' ⟨rfl, rfl⟩)
                  | (go_at_call 56; refine (spot_any m D _).mono ?_; rintro e w' ⟨rfl, rfl⟩)
                  | (go_at_call 52; refine (rspot_any m D _).mono ?_; rintro e w4 ⟨rfl, hb4⟩; have HB4 := Lib.hid (HB3.out.trans (hb4.mono HB3.out.size)); clear hb4)
                  | (go_at_call 57; refine (HW.out _).mono ?_; rintro e w' ⟨rfl, rfl⟩)
                  | (go_at_call 58; refine (HWO.out _).mono ?_; rintro e w' ⟨rfl, rfl⟩)
                  | (go_at_call 59; refine (HALL.out _).mono ?_; rintro e w' ⟨rfl, rfl⟩))
                go_ret
                exact ⟨rfl, HB4.out⟩
              | false =>
                rw [hx] at hW hWO hh hin
                have hin2 : decide (0 ≤ spotS m D) = false := hin.symm
                simp only [Bool.false_eq_true, if_false] at hW hWO
                have HW := Lib.hid hW
                have HWO := Lib.hid hWO
                have HHAS := Lib.hid hh
                clear hW hWO hh hin hx
                go_wp2_with (first
                  | (go_at_call 53; refine (HHAS.out _).mono ?_; rintro e w' ⟨rfl, rfl⟩)
                  | (go_at_call 54; refine (HCNT.out _).mono ?_; rintro e w' ⟨rfl, rfl⟩)
                  | (go_at_call 55; refine (at_any m i _ i2).mono ?_; rintro e w' ⟨rfl, rfl⟩)
                  | (go_at_call 56; refine (spot_any m D _).mono ?_; rintro e w' ⟨rfl, rfl⟩)
                  | (go_at_call 52; refine (rspot_any m D _).mono ?_; rintro e w4 ⟨rfl, hb4⟩; have HB4 := Lib.hid (HB3.out.trans (hb4.mono HB3.out.size)); clear hb4)
                  | (go_at_call 57; refine (HW.out _).mono ?_; rintro e w' ⟨rfl, rfl⟩)
                  | (go_at_call 58; refine (HWO.out _).mono ?_; rintro e w' ⟨rfl, rfl⟩)
                  | (go_at_call 59; refine (HALL.out _).mono ?_; rintro e w' ⟨rfl, rfl⟩))
                go_ret
                exact ⟨rfl, HB4.out⟩
end Go.Proofs.Ytojhhcfpnbdobaa
