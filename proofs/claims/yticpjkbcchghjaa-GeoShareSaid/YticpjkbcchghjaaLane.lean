/- Package lane: what each call answers. -/
import Derived.Test.YticpjkbcchghjaaLaneM
namespace Go.Proofs.Yticpjkbcchghjaa
open Go.RowKit

theorem isSet_yes (m : Int) (w : World) (h1 : 0 ≤ m) (h2 : m ≤ 255) : Calls Try.prog 66 #[.int .i64 m] w fun e w' => e = .returned (.bool true) ∧ w = w' := by
  have hd : (m / 256 == 0) = true := by simp; omega
  go_enter Try.func66, Try.ntmps66
  go_wp2
  go_ret
  exact ⟨rfl, rfl⟩
theorem isSet_no (m : Int) (w : World) (h : m < 0 ∨ 255 < m) : Calls Try.prog 66 #[.int .i64 m] w fun e w' => e = .returned (.bool false) ∧ w = w' := by
  have hd : (m / 256 == 0) = false := by simp; omega
  go_enter Try.func66, Try.ntmps66
  go_wp2
  go_ret
  exact ⟨rfl, rfl⟩
theorem isDie_yes (d : Int) (w : World) (h1 : 0 ≤ d) (h2 : d < 8) : Calls Try.prog 90 #[.int .i64 d] w fun e w' => e = .returned (.bool true) ∧ w = w' := by
  go_enter Try.func90, Try.ntmps90
  go_wp2
  go_ret
  exact ⟨rfl, rfl⟩
theorem isDie_low (d : Int) (w : World) (h : d < 0) : Calls Try.prog 90 #[.int .i64 d] w fun e w' => e = .returned (.bool false) ∧ w = w' := by
  have hb : decide (0 ≤ d) = false := by simp; omega
  go_enter Try.func90, Try.ntmps90
  go_wp2
  go_ret
  exact ⟨rfl, rfl⟩
theorem isDie_high (d : Int) (w : World) (h : 7 < d) : Calls Try.prog 90 #[.int .i64 d] w fun e w' => e = .returned (.bool false) ∧ w = w' := by
  have hb : decide (d < 8) = false := by simp; omega
  have h0 : 0 ≤ d := by omega
  go_enter Try.func90, Try.ntmps90
  go_wp2
  go_ret
  exact ⟨rfl, rfl⟩
theorem isDie_no (d : Int) (w : World) (h : d < 0 ∨ 7 < d) : Calls Try.prog 90 #[.int .i64 d] w fun e w' => e = .returned (.bool false) ∧ w = w' := by
  rcases h with h | h
  · exact isDie_low d w h
  · exact isDie_high d w h

theorem all_no (d : Int) (w : World) (h : d < 0 ∨ 8 < d) : Calls Try.prog 69 #[.int .i64 d] w fun e w' => e = .returned (.int .i64 0) ∧ w = w' := by
  by_cases h0 : d < 0
  · go_enter Try.func69, Try.ntmps69
    go_wp2
    go_ret
    exact ⟨rfl, rfl⟩
  · have h8 : 8 < d := by omega
    go_enter Try.func69, Try.ntmps69
    go_wp2
    go_ret
    exact ⟨rfl, rfl⟩
theorem wrap_pow {d : Nat} (h : d ≤ 8) : wrap64 ((2 : Int) ^ d) = ((2 ^ d : Nat) : Int) := by
  have : ∀ d : Fin 9, wrap64 ((2 : Int) ^ d.val) = ((2 ^ d.val : Nat) : Int) := by decide +kernel
  exact this ⟨d, by omega⟩
theorem wrap_all {d : Nat} (h : d ≤ 8) : wrap64 (wrap64 ((2 : Int) ^ d) - 1) = ((2 ^ d - 1 : Nat) : Int) := by
  have : ∀ d : Fin 9, wrap64 (wrap64 ((2 : Int) ^ d.val) - 1) = ((2 ^ d.val - 1 : Nat) : Int) := by decide +kernel
  exact this ⟨d, by omega⟩
theorem all_yes (d : Nat) (w : World) (h : d ≤ 8) : Calls Try.prog 69 #[.int .i64 d] w fun e w' => e = .returned (.int .i64 ((2 ^ d - 1 : Nat) : Int)) ∧ w = w' := by
  go_enter Try.func69, Try.ntmps69
  go_wp2
  go_ret
  exact ⟨ret_int (wrap_all h), rfl⟩
theorem has_yes (m d : Nat) (w : World) (hm : m < 256) (hd : d < 8) : Calls Try.prog 68 #[.int .i64 m, .int .i64 d] w fun e w' => e = .returned (.bool (inB m d)) ∧ w = w' := by
  go_enter Try.func68, Try.ntmps68
  go_wp2_with (first
    | (go_at_call 66; refine (isSet_yes _ _ (by omega) (by omega)).mono ?_; rintro e w' ⟨rfl, rfl⟩)
    | (go_at_call 90; refine (isDie_yes _ _ (by omega) (by omega)).mono ?_; rintro e w' ⟨rfl, rfl⟩))
  go_ret
  have h := M.has_tab ⟨m, hm⟩ ⟨d, hd⟩
  simp only [Int.natCast_ediv, Int.natCast_pow, Int.cast_ofNat_Int] at h
  refine ⟨?_, rfl⟩
  rw [h]
  cases inB m d <;> rfl
theorem has_no (m d : Int) (w : World) (h : m < 0 ∨ 255 < m ∨ d < 0 ∨ 7 < d) : Calls Try.prog 68 #[.int .i64 m, .int .i64 d] w fun e w' => e = .returned (.bool false) ∧ w = w' := by
  by_cases hm : m < 0 ∨ 255 < m
  · go_enter Try.func68, Try.ntmps68
    go_wp2_with (go_at_call 66; refine (isSet_no _ _ hm).mono ?_; rintro e w' ⟨rfl, rfl⟩)
    go_ret
    exact ⟨rfl, rfl⟩
  · have hd : d < 0 ∨ 7 < d := by omega
    have h1 : 0 ≤ m := by omega
    have h2 : m ≤ 255 := by omega
    clear hm h
    go_enter Try.func68, Try.ntmps68
    go_wp2_with (first
      | (go_at_call 66; refine (isSet_yes _ _ h1 h2).mono ?_; rintro e w' ⟨rfl, rfl⟩)
      | (go_at_call 90; refine (isDie_no _ _ hd).mono ?_; rintro e w' ⟨rfl, rfl⟩))
    go_ret
    exact ⟨rfl, rfl⟩
theorem without_yes (m d : Nat) (w : World) (hm : m < 256) (hd : d < 8) : Calls Try.prog 67 #[.int .i64 m, .int .i64 d] w fun e w' => e = .returned (.int .i64 (M.withoutN m d : Nat)) ∧ w = w' := by
  go_enter Try.func67, Try.ntmps67
  go_wp2_with (first
    | (go_at_call 66; refine (isSet_yes _ _ (by omega) (by omega)).mono ?_; rintro e w' ⟨rfl, rfl⟩)
    | (go_at_call 90; refine (isDie_yes _ _ (by omega) (by omega)).mono ?_; rintro e w' ⟨rfl, rfl⟩))
  go_ret
  exact ⟨ret_int (by rw [wrap_pow (by omega)]; exact M.andNot_tab ⟨m, hm⟩ ⟨d, hd⟩), rfl⟩
theorem without_set (m d : Int) (w : World) (hm : m < 0 ∨ 255 < m) : Calls Try.prog 67 #[.int .i64 m, .int .i64 d] w fun e w' => e = .returned (.int .i64 0) ∧ w = w' := by
  go_enter Try.func67, Try.ntmps67
  go_wp2_with (go_at_call 66; refine (isSet_no _ _ hm).mono ?_; rintro e w' ⟨rfl, rfl⟩)
  go_ret
  exact ⟨rfl, rfl⟩
theorem without_die (m d : Int) (w : World) (h1 : 0 ≤ m) (h2 : m ≤ 255) (hd : d < 0 ∨ 7 < d) : Calls Try.prog 67 #[.int .i64 m, .int .i64 d] w fun e w' => e = .returned (.int .i64 m) ∧ w = w' := by
  go_enter Try.func67, Try.ntmps67
  go_wp2_with (first
    | (go_at_call 66; refine (isSet_yes _ _ h1 h2).mono ?_; rintro e w' ⟨rfl, rfl⟩)
    | (go_at_call 90; refine (isDie_no _ _ hd).mono ?_; rintro e w' ⟨rfl, rfl⟩))
  go_ret
  exact ⟨rfl, rfl⟩
theorem count_no (m : Int) (w : World) (hm : m < 0 ∨ 255 < m) : Calls Try.prog 47 #[.int .i64 m] w fun e w' => e = .returned (.int .i64 0) ∧ w = w' := by
  go_enter Try.func47, Try.ntmps47
  go_wp2_with (go_at_call 66; refine (isSet_no _ _ hm).mono ?_; rintro e w' ⟨rfl, rfl⟩)
  go_ret
  exact ⟨rfl, rfl⟩
theorem count_yes (m : Nat) (w : World) (hm : m < 256) : Calls Try.prog 47 #[.int .i64 m] w fun e w' => e = .returned (.int .i64 (M.popN m : Nat)) ∧ w = w' := by
  go_enter Try.func47, Try.ntmps47
  go_wp2_with (go_at_call 66; refine (isSet_yes _ _ (by omega) (by omega)).mono ?_; rintro e w' ⟨rfl, rfl⟩)
  go_loop [0, 3] (fun x n => ∃ a s : Nat, a < 256 ∧ s ≤ 8 ∧ x = .int .i64 a ∧ n = .int .i64 s ∧ Hid (s + M.popN a = M.popN m)) (fun x _ => (intOf x).toNat)
  case atStart => exact ⟨m, 0, hm, by omega, rfl, rfl, by show _ = _; omega⟩
  case round =>
    obtain ⟨a, s, ha, hs, rfl, rfl, hsum⟩ := hrel
    by_cases h0 : a = 0
    · subst h0
      have h := hsum.out
      have hp : M.popN 0 = 0 := by decide
      rw [hp] at h
      have H := Lib.hid h
      clear h hp
      go_wp2
      go_ret
      exact ⟨ret_int (by have := H.out; omega), rfl⟩
    · have hne : ((a : Int) != 0) = true := by simp; omega
      have hand := M.and1_tab ⟨a, ha⟩
      simp only at hand
      have hpop := M.pop_tab ⟨a, ha⟩
      have hle : (M.popN m) ≤ 8 := diesK_length m 8
      have h := hsum.out
      have hb : a % 2 ≤ 1 := by omega
      have ha0 : 0 < a := by omega
      simp only at hpop
      have hs8 : s + a % 2 ≤ 8 := by omega
      have H := Lib.hid (show s + a % 2 + M.popN (a / 2) = M.popN m by omega)
      clear hpop hle h hsum h0
      go_wp2
      go_round
      case rel => exact ⟨a / 2, s + a % 2, by omega, hs8, by go_num, by go_num, H⟩
      case measure => simp [intOf]; omega
theorem at_yes (m k : Nat) (w : World) (hm : m < 256) (hk : k < M.popN m) : Calls Try.prog 48 #[.int .i64 m, .int .i64 k] w fun e w' => e = .returned (.int .i64 (M.atN m k : Nat)) ∧ w = w' := by
  have hk8 : k < 8 := Nat.lt_of_lt_of_le hk (diesK_length m 8)
  have HK := Lib.hid hk
  clear hk
  go_enter Try.func48, Try.ntmps48
  go_wp2_with (go_at_call 66; refine (isSet_yes _ _ (by omega) (by omega)).mono ?_; rintro e w' ⟨rfl, rfl⟩)
  go_loop [1, 5] (fun x n => ∃ d c : Nat, d < 8 ∧ c ≤ k ∧ Hid ((diesK m d).length = c) ∧ x = .int .i64 ((k : Int) - c) ∧ n = .int .i64 d) (fun _ n => (8 - intOf n).toNat)
  case atStart => exact ⟨0, 0, by omega, by omega, rfl, by rw [show (k : Int) - (0 : Nat) = k by omega], rfl⟩
  case round =>
    obtain ⟨d, c, hd, hck, hc, rfl, rfl⟩ := hrel
    have hne : ((m : Int) / 2 ^ d != 0) = true := by
      have h := M.end_tab ⟨m, hm⟩ ⟨d, hd⟩
      simp only at h
      have h0 : m / 2 ^ d ≠ 0 := fun h0 => by have := h h0; have := HK.out; have := hc.out; omega
      rw [show ((m : Int) / 2 ^ d) = ((m / 2 ^ d : Nat) : Int) by simp]
      simp only [bne_iff_ne]; omega
    have hand := M.has_tab ⟨m, hm⟩ ⟨d, hd⟩
    simp only [Int.natCast_ediv, Int.natCast_pow, Int.cast_ofNat_Int] at hand
    cases hx : inB m d with
    | false =>
      rw [hx] at hand
      simp only [Bool.toNat_false] at hand
      have hc2 : (diesK m (d + 1)).length = c := by rw [diesK_no m d hx]; exact hc.out
      have hd8 : d + 1 < 8 := by
        rcases Nat.lt_or_ge (d + 1) 8 with h | h
        · exact h
        · exfalso
          obtain rfl : d = 7 := by omega
          have : M.popN m = c := hc2
          have := HK.out; omega
      have HC2 := Lib.hid hc2
      clear hx hc2 hc
      go_wp2
      go_round
      case rel => exact ⟨d + 1, c, hd8, hck, HC2, rfl, by go_num⟩
      case measure => simp [intOf]; omega
    | true =>
      rw [hx] at hand
      simp only [Bool.toNat_true] at hand
      have hup := M.up_tab ⟨m, hm⟩ ⟨d, hd⟩ hx
      simp only [hc.out] at hup
      have hc2 : (diesK m (d + 1)).length = c + 1 := by rw [diesK_yes m d hx, List.length_append, hc.out]; rfl
      by_cases hkc : k = c
      · subst hkc
        have HUP := Lib.hid hup.1
        have hz : ((k : Int) - (k : Int) == 0) = true := by simp
        clear hup hc2 hx hc
        go_wp2
        go_ret
        exact ⟨ret_int (by rw [HUP.out]), rfl⟩
      · have hd8 : d + 1 < 8 := by
          rcases Nat.lt_or_ge (d + 1) 8 with h | h
          · exact h
          · exfalso
            obtain rfl : d = 7 := by omega
            have : M.popN m = c + 1 := hc2
            have := HK.out; omega
        have HC2 := Lib.hid hc2
        have hz : ((k : Int) - (c : Int) == 0) = false := by simp; omega
        clear hx hc2 hc hup
        go_wp2
        go_round
        case rel => exact ⟨d + 1, c + 1, hd8, by omega, HC2, congrArg (Value.int .i64) (by omega), by go_num⟩
        case measure => simp [intOf]; omega
theorem at_set (m k : Int) (w : World) (hm : m < 0 ∨ 255 < m) : Calls Try.prog 48 #[.int .i64 m, .int .i64 k] w fun e w' => e = .returned (.int .i64 (-1)) ∧ w = w' := by
  go_enter Try.func48, Try.ntmps48
  go_wp2_with (go_at_call 66; refine (isSet_no _ _ hm).mono ?_; rintro e w' ⟨rfl, rfl⟩)
  go_ret
  exact ⟨rfl, rfl⟩
theorem at_low (m k : Int) (w : World) (h1 : 0 ≤ m) (h2 : m ≤ 255) (hk : k < 0) : Calls Try.prog 48 #[.int .i64 m, .int .i64 k] w fun e w' => e = .returned (.int .i64 (-1)) ∧ w = w' := by
  go_enter Try.func48, Try.ntmps48
  go_wp2_with (go_at_call 66; refine (isSet_yes _ _ h1 h2).mono ?_; rintro e w' ⟨rfl, rfl⟩)
  go_ret
  exact ⟨rfl, rfl⟩
theorem at_high (m : Nat) (k : Int) (w : World) (hm : m < 256) (hk : (M.popN m : Int) ≤ k) (hk2 : k ≤ 9223372036854775807) : Calls Try.prog 48 #[.int .i64 m, .int .i64 k] w fun e w' => e = .returned (.int .i64 (-1)) ∧ w = w' := by
  have HK := Lib.hid hk
  have hk0 : 0 ≤ k := by omega
  clear hk
  go_enter Try.func48, Try.ntmps48
  go_wp2_with (go_at_call 66; refine (isSet_yes _ _ (by omega) (by omega)).mono ?_; rintro e w' ⟨rfl, rfl⟩)
  go_loop [1, 5] (fun x n => ∃ d c : Nat, d ≤ 8 ∧ (c : Int) ≤ k ∧ c ≤ 8 ∧ Hid ((diesK m d).length = c) ∧ x = .int .i64 (k - c) ∧ n = .int .i64 d) (fun _ n => (8 - intOf n).toNat)
  case atStart => exact ⟨0, 0, by omega, by omega, by omega, rfl, by rw [show k - ((0 : Nat) : Int) = k by omega], rfl⟩
  case round =>
    obtain ⟨d, c, hd, hck, hc8, hc, rfl, rfl⟩ := hrel
    have hcast : ((m : Int) / 2 ^ d) = ((m / 2 ^ d : Nat) : Int) := by simp
    by_cases h0 : m / 2 ^ d = 0
    · have hne : ((m : Int) / 2 ^ d != 0) = false := by rw [hcast, h0]; rfl
      clear h0 hcast
      go_wp2
      go_ret
      exact ⟨rfl, rfl⟩
    have hd8 : d < 8 := by
      rcases Nat.lt_or_ge d 8 with h | h
      · exact h
      · exfalso
        obtain rfl : d = 8 := by omega
        exact h0 (Nat.div_eq_of_lt (by omega))
    have hne : ((m : Int) / 2 ^ d != 0) = true := by
      rw [hcast]; simp only [bne_iff_ne]; omega
    have hand := M.has_tab ⟨m, hm⟩ ⟨d, hd8⟩
    simp only [Int.natCast_ediv, Int.natCast_pow, Int.cast_ofNat_Int] at hand
    clear h0 hcast
    cases hx : inB m d with
    | false =>
      rw [hx] at hand
      simp only [Bool.toNat_false] at hand
      have hc2 : (diesK m (d + 1)).length = c := by rw [diesK_no m d hx]; exact hc.out
      have HC2 := Lib.hid hc2
      clear hx hc2 hc
      go_wp2
      go_round
      case rel => exact ⟨d + 1, c, by omega, hck, hc8, HC2, rfl, by go_num⟩
      case measure => simp [intOf]; omega
    | true =>
      rw [hx] at hand
      simp only [Bool.toNat_true] at hand
      have hup := M.up_tab ⟨m, hm⟩ ⟨d, hd8⟩ hx
      simp only [hc.out] at hup
      have hc2 : (diesK m (d + 1)).length = c + 1 := by rw [diesK_yes m d hx, List.length_append, hc.out]; rfl
      have hlt : (c : Int) < k := by have := HK.out; have := hup.2; omega
      have hc9 : c + 1 ≤ 8 := by have := diesK_length m (d + 1); omega
      have HC2 := Lib.hid hc2
      have hz : (k - (c : Int) == 0) = false := by simp; omega
      clear hx hc2 hc hup
      go_wp2
      go_round
      case rel => exact ⟨d + 1, c + 1, by omega, by omega, hc9, HC2, congrArg (Value.int .i64) (by omega), by go_num⟩
      case measure => simp [intOf]; omega
theorem spot_in (m d : Nat) (w : World) (hm : m < 256) (hd : d < 8) (hx : inB m d = true) : Calls Try.prog 51 #[.int .i64 m, .int .i64 d] w fun e w' => e = .returned (.int .i64 (M.popN (m % 2 ^ d) : Nat)) ∧ w = w' := by
  have hh := has_yes m d
  rw [hx] at hh
  have HH := Lib.hid hh
  have HL := Lib.hid (M.low_tab ⟨m, hm⟩ ⟨d, hd⟩)
  clear hx hh
  go_enter Try.func51, Try.ntmps51
  go_wp2_with (first
    | (go_at_call 68; refine (HH.out _ hm hd).mono ?_; rintro e w' ⟨rfl, rfl⟩)
    | (go_at_call 69; refine (all_yes d _ (by omega)).mono ?_; rintro e w' ⟨rfl, rfl⟩)
    | (go_at_call 47; rw [HL.out]; refine (count_yes _ _ (Nat.lt_of_le_of_lt (Nat.mod_le _ _) hm)).mono ?_; rintro e w' ⟨rfl, rfl⟩))
  go_ret
  exact ⟨rfl, rfl⟩
theorem spot_not (m d : Int) (w : World) (h : ∀ w, Calls Try.prog 68 #[.int .i64 m, .int .i64 d] w fun e w' => e = .returned (.bool false) ∧ w = w') : Calls Try.prog 51 #[.int .i64 m, .int .i64 d] w fun e w' => e = .returned (.int .i64 (-1)) ∧ w = w' := by
  have HH := Lib.hid h
  clear h
  go_enter Try.func51, Try.ntmps51
  go_wp2_with (go_at_call 68; refine (HH.out _).mono ?_; rintro e w' ⟨rfl, rfl⟩)
  go_ret
  exact ⟨rfl, rfl⟩
theorem spotFrom_none (l : List Nat) (d : Int) (k : Nat) (h : ∀ x ∈ l, (x : Int) ≠ d) : spotFrom l d k = -1 := by
  induction l generalizing k with
  | nil => rfl
  | cons x l ih =>
    rw [spotFrom, if_neg (h x (by simp))]
    exact ih _ fun y hy => h y (by simp [hy])
theorem diesK_lt (m k : Nat) : ∀ x ∈ diesK m k, x < k := fun _ hx => List.mem_range.1 (List.mem_filter.1 hx).1
theorem spot_any (m d : Int) (w : World) : Calls Try.prog 51 #[.int .i64 m, .int .i64 d] w fun e w' => e = .returned (.int .i64 (spotS m d)) ∧ w = w' := by
  by_cases hm : 0 ≤ m ∧ m ≤ 255
  · obtain ⟨K, rfl⟩ : ∃ K : Nat, m = K := ⟨m.toNat, by omega⟩
    have hK : K < 256 := by omega
    have hs : diesS (K : Int) = diesK K 8 := by unfold diesS; rw [if_pos hm, Int.toNat_natCast]
    unfold spotS
    rw [hs]
    by_cases hd : 0 ≤ d ∧ d ≤ 7
    · obtain ⟨D, rfl⟩ : ∃ D : Nat, d = D := ⟨d.toNat, by omega⟩
      have hD : D < 8 := by omega
      rw [M.spot_tab ⟨K, hK⟩ ⟨D, hD⟩]
      cases hx : inB K D with
      | true => exact spot_in K D w hK hD hx
      | false =>
        refine spot_not _ _ _ fun w => ?_
        have h := has_yes K D w hK hD
        rwa [hx] at h
    · rw [spotFrom_none _ _ _ fun x hx => by have := diesK_lt K 8 x hx; omega]
      exact spot_not _ _ _ fun w => has_no _ _ _ (by omega)
  · have hs : diesS m = [] := if_neg hm
    unfold spotS
    rw [hs]
    exact spot_not _ _ _ fun w => has_no _ _ _ (by omega)
end Go.Proofs.Yticpjkbcchghjaa
