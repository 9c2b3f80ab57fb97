/- The reference's Slots, Die, Slot. -/
import Derived.Test.YticpjkbcchghjaaRefH
namespace Go.Proofs.Yticpjkbcchghjaa
open Go.RowKit

theorem othersS_le (m b r : Int) : (othersS m b r).length ≤ 8 := by
  unfold othersS
  split
  · have := List.length_filter_le (fun d : Nat => (d : Int) != parS m b r) (diesS m)
    have := diesS_length m
    omega
  · simp

attribute [local irreducible] diesS countS othersS

set_option maxRecDepth 100000 in
set_option maxHeartbeats 1000000 in
theorem rslots_any (m : Int) (w : World) :
    Calls Try.prog 22 #[.int .i64 m] w fun e w' => e = .returned (.int .i64 (slotsS m)) ∧ Below w.heap.size w w' := by
  obtain ⟨n, hn⟩ : ∃ n, countS m = n := ⟨_, rfl⟩
  have hn8 : n ≤ 8 := by rw [← hn]; exact countS_le m
  have hd := fun w => rdies_any m w
  rw [countS_len, hn] at hd
  have HD := Lib.hid hd
  have hs : slotsS m = if 2 ≤ n then (n : Int) - 1 else 0 := by unfold slotsS; rw [hn]
  by_cases h2 : 2 ≤ n
  · rw [if_pos h2] at hs
    rw [hs]
    have h2I : (2 : Int) ≤ n := by omega
    clear hn hd hs
    go_enter Try.func22, Try.ntmps22
    go_wp2_with fail
    refine (HD.out _).mono ?_
    rintro e w1 ⟨v, rfl, hown, hb1⟩
    obtain ⟨a, cap, rfl, hle, hcm, hh, hor⟩ := own_read hown
    have HB1 := Lib.hid hb1
    clear hown hh hor hb1
    go_wp2
    go_ret
    exact ⟨rfl, HB1.out⟩
  · rw [if_neg h2] at hs
    rw [hs]
    have h2I : ¬ (2 : Int) ≤ n := by omega
    clear hn hd hs
    go_enter Try.func22, Try.ntmps22
    go_wp2_with fail
    refine (HD.out _).mono ?_
    rintro e w1 ⟨v, rfl, hown, hb1⟩
    obtain ⟨a, cap, rfl, hle, hcm, hh, hor⟩ := own_read hown
    have HB1 := Lib.hid hb1
    clear hown hh hor hb1
    go_wp2
    go_ret
    exact ⟨rfl, HB1.out⟩

set_option maxRecDepth 100000 in
set_option maxHeartbeats 1000000 in
theorem rdie_any (m b r s : Int) (w : World) (hb : b ≤ 9223372036854775807) (hr : r ≤ 9223372036854775807) :
    Calls Try.prog 24 #[.int .i64 m, .int .i64 b, .int .i64 r, .int .i64 s] w fun e w' => e = .returned (.int .i64 (dieS m b r s)) ∧ Below w.heap.size w w' := by
  obtain ⟨l, hl⟩ : ∃ l, othersS m b r = l := ⟨_, rfl⟩
  obtain ⟨n, hn⟩ : ∃ n, l.length = n := ⟨_, rfl⟩
  have hs : dieS m b r s = if 0 ≤ s ∧ s < n then ((l.getD s.toNat 0 : Nat) : Int) else -1 := by unfold dieS; rw [hl, hn]
  have hd := fun w => rothers_any m b r w hb hr
  rw [hl, hn] at hd
  have HD := Lib.hid hd
  have HN := Lib.hid hn
  obtain ⟨R, hR⟩ : ∃ R, dieS m b r s = R := ⟨_, rfl⟩
  rw [hR] at hs ⊢
  have HS := Lib.hid hs
  clear hl hn hs hd hb hr hR
  go_enter Try.func24, Try.ntmps24
  go_wp2_with fail
  refine (HD.out _).mono ?_
  rintro e w1 ⟨v, rfl, hown, hb1⟩
  obtain ⟨a, cap, rfl, hle, hcm, hlen, hrd⟩ := own_ints hown
  have HB1 := Lib.hid hb1
  have HRD := Lib.hid hrd
  clear hown hrd hb1 hlen
  by_cases c0 : s < 0
  · have HR := Lib.hid (HS.out.trans (if_neg (by omega)))
    go_wp2
    go_ret
    exact ⟨ret_int HR.out.symm, HB1.out⟩
  by_cases c1 : s < (n : Int)
  · obtain ⟨I, rfl⟩ : ∃ I : Nat, s = I := ⟨s.toNat, by omega⟩
    have hI : I < n := by omega
    have hIl : I < l.length := by rw [HN.out]; exact hI
    obtain ⟨bb, off, rfl, hc⟩ := HRD.out I hIl
    have hR2 : R = (l[I] : Nat) := by rw [HS.out, if_pos ⟨by omega, c1⟩, Int.toNat_natCast]; simp [List.getD, List.getElem?_eq_getElem hIl]
    have HR := Lib.hid hR2
    generalize l[I] = x at hc HR
    clear hR2 c0
    go_wp2
    go_ret
    exact ⟨ret_int HR.out.symm, HB1.out⟩
  · have HR := Lib.hid (HS.out.trans (if_neg (by omega)))
    have c2 : (n : Int) ≤ s := by omega
    have c3 : 0 ≤ s := by omega
    clear c0 c1
    go_wp2
    go_ret
    exact ⟨ret_int HR.out.symm, HB1.out⟩

set_option maxRecDepth 100000 in
set_option maxHeartbeats 1000000 in
theorem rslot_any (m b r d : Int) (w : World) (hb : b ≤ 9223372036854775807) (hr : r ≤ 9223372036854775807) :
    Calls Try.prog 26 #[.int .i64 m, .int .i64 b, .int .i64 r, .int .i64 d] w fun e w' => e = .returned (.int .i64 (slotS m b r d)) ∧ Below w.heap.size w w' := by
  obtain ⟨l, hl⟩ : ∃ l, othersS m b r = l := ⟨_, rfl⟩
  obtain ⟨n, hn⟩ : ∃ n, l.length = n := ⟨_, rfl⟩
  have hn8 : n ≤ 8 := by rw [← hn, ← hl]; exact othersS_le m b r
  have hs : slotS m b r d = spotFrom l d 0 := by unfold slotS; rw [hl]
  have hd := fun w => rothers_any m b r w hb hr
  rw [hl, hn] at hd
  have HD := Lib.hid hd
  have HN := Lib.hid hn
  obtain ⟨R, hR⟩ : ∃ R, slotS m b r d = R := ⟨_, rfl⟩
  rw [hR] at hs ⊢
  have HS := Lib.hid hs
  clear hl hn hs hd hb hr hR
  go_enter Try.func26, Try.ntmps26
  go_wp2_with fail
  refine (HD.out _).mono ?_
  rintro e w1 ⟨v, rfl, hown, hb1⟩
  obtain ⟨a, cap, rfl, hle, hcm, hlen, hrd⟩ := own_ints hown
  have HB1 := Lib.hid hb1
  have HRD := Lib.hid hrd
  clear hown hrd hb1 hlen
  go_wp2_with fail
  go_loop [10] (fun i => ∃ k : Nat, k ≤ n ∧ i = .int .i64 k ∧ Hid (spotFrom (l.drop k) d k = spotFrom l d 0)) (fun i => (n - intOf i).toNat)
  case atStart => exact ⟨0, Nat.zero_le _, rfl, rfl⟩
  case round =>
    obtain ⟨k, hk, rfl, hsp⟩ := hrel
    by_cases hlt : k < n
    · have hkl : k < l.length := by rw [HN.out]; exact hlt
      obtain ⟨bb, off, rfl, hc⟩ := HRD.out k hkl
      have hdr : l.drop k = l[k] :: l.drop (k + 1) := List.drop_eq_getElem_cons hkl
      have h1 := hsp.out
      rw [hdr] at h1
      generalize l[k] = x at hc h1
      by_cases hx : (x : Int) = d
      · have hb : ((x : Int) == d) = true := by simpa using hx
        rw [spotFrom, if_pos hx] at h1
        have H1 := Lib.hid h1
        clear hx h1 hdr
        go_wp2
        go_ret
        exact ⟨ret_int (by rw [HS.out]; exact H1.out), HB1.out⟩
      · have hb : ((x : Int) == d) = false := by simpa using hx
        rw [spotFrom, if_neg hx] at h1
        have H1 := Lib.hid h1
        clear hx h1 hdr
        go_wp2
        go_round
        case rel => exact ⟨k + 1, by omega, by go_num, H1⟩
        case measure => simp [intOf]; omega
    · go_wp2
      go_ret
      refine ⟨ret_int ?_, HB1.out⟩
      have h1 := hsp.out
      rw [List.drop_eq_nil_of_le (by rw [HN.out]; omega)] at h1
      rw [HS.out]; exact h1
end Go.Proofs.Yticpjkbcchghjaa
