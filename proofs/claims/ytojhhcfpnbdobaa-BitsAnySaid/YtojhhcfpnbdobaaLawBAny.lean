/- The law BitsAny: the walk. -/
import Derived.Test.YtojhhcfpnbdobaaWays
namespace Go.Proofs.Ytojhhcfpnbdobaa
open Go.RowKit

set_option maxRecDepth 100000 in
set_option maxHeartbeats 1000000 in
theorem bitsAny_walk (a : Option Addr) (len cap : Nat) (bs : List Nat) (aw : Option Addr) (lw cw : Nat) (zs : List Int) (w : World) (hb : IsBytes w a len cap bs) (hz : IsInts w aw lw cw zs) :
    Calls Try.prog 6 #[.slice a len cap, .slice aw lw cw] w fun e w' => e = .returned (.bool true) ∧ Below w.heap.size w w' := by
  have HBY := Lib.hid hb
  have HZ := Lib.hid hz
  have hlen : len ≤ 9223372036854775807 := Nat.le_trans hb.fits hb.small
  have hlw : lw ≤ 9223372036854775807 := Nat.le_trans hz.fits hz.small
  have hsz := Lib.hid hb.size
  clear hb hz
  go_enter Try.func6, Try.ntmps6
  go_wp2_with (go_at_call 21; refine (begun_any _).mono ?_; rintro e w1 ⟨rfl, hb1⟩; have HB1 := Lib.hid hb1; clear hb1)
  refine (short_any bs len cap 60 a _ (HBY.out.below HB1.out) (by omega)).mono ?_
  rintro e w2 ⟨v, rfl, hown, hb2⟩
  have hw1 := HB1.out.size
  have HB2 := Lib.hid (HB1.out.trans (hb2.mono hw1))
  obtain ⟨c, hc⟩ : ∃ c, min len 60 = c := ⟨_, rfl⟩
  have hc60 : c ≤ 60 := by omega
  have hL : (bs.take 60).length = c := by rw [List.length_take, hsz.out]; omega
  have hL8 : ∀ x ∈ bs.take 60, x < 256 := fun x hx => HBY.out.byte x (List.mem_of_mem_take hx)
  rw [hc] at hown
  generalize bs.take 60 = L at hown hL hL8
  have HL := Lib.hid hL
  have HL8 := Lib.hid hL8
  obtain ⟨a2, cap2, rfl, hcp2, hcm2, hh2, hor2⟩ := own_read hown
  have HH2 := Lib.hid hh2
  have HOR2 := Lib.hid hor2
  clear hL hL8 hc hb2 hown hh2 hor2 HBY hsz
  go_wp2_with fail
  refine (rof_any L c a2 cap2 _ HL.out (by omega) HL8.out HH2.out).mono ?_
  rintro e w3 ⟨v, rfl, hown3, hb3⟩
  obtain ⟨al, capl, rfl, hcpl, hcml, hhl, horl⟩ := own_read hown3
  have hw2 := HB2.out.size
  have HB3 := Lib.hid (HB2.out.trans (hb3.mono hw2))
  have HH3 := Lib.hid (HH2.out.below hb3)
  have HHL := Lib.hid hhl
  have HORL := Lib.hid horl
  clear hown3 hhl horl hb3 HH2
  go_wp2_with fail
  refine (read_any L c a2 cap2 _ HL.out (by omega) HL8.out (by
    rcases HOR2.out with h | ⟨g, h, _⟩
    · exact .inl h
    · exact .inr ⟨g, 0, h, HH3.out⟩)).mono ?_
  rintro e w4 ⟨g, rfl, hg, hin, hb4⟩
  have hw3 := HB3.out.size
  have HB4 := Lib.hid (HB3.out.trans (hb4.mono hw3))
  have HL4 := Lib.hid (HHL.out.below hb4)
  have HIN := Lib.hid hin
  clear hin hb4 HHL HH3
  have hgw : w.heap.size ≤ g := by omega
  have hne : ∀ b off, al = some ⟨b, off, none⟩ → b ≠ g := by
    intro b off e
    rcases HORL.out with ⟨h, _⟩ | ⟨gl, h, _, h2⟩
    · rw [h] at e; cases e
    · rw [h] at e; injection e with e; injection e with e1; omega
  have HNE := Lib.hid hne
  have HOFL := Lib.hid (M.ofN_length L)
  clear hne
  go_wp2
  go_loopw [8, 9] (fun p i wr => ∃ k q : Nat, k ≤ 40 ∧ q ≤ 8 * c ∧ i = .int .i64 k ∧ p = .int .i64 q ∧ Hid (InIs wr g L q) ∧ Hid (Only g w4 wr)) (fun _ i _ => (40 - intOf i).toNat)
  case atStart => exact ⟨0, 0, Nat.zero_le _, Nat.zero_le _, rfl, rfl, HIN, Only.refl _ _⟩
  case round =>
    obtain ⟨k, q, hk, hq, rfl, rfl, hin, honly⟩ := hrel
    have hblw := HB4.out.trans (honly.out.below hgw)
    have HBLW := Lib.hid hblw
    clear hblw
    by_cases hlt : k < lw ∧ k < 40
    · obtain ⟨hkl, hk40⟩ := hlt
      obtain ⟨bw, ow, rfl, hcw, hz1, hz2⟩ := (HZ.out.below HBLW.out).at k hkl
      generalize zs.getD k 0 = n at hcw hz1 hz2
      have hLc := HL.out
      by_cases hA : n < 1
      · have hAA : n < 1 ∨ 64 < n := .inl hA
        go_wp2_with (first
          | (go_at_call 41; refine (get_width _ n _ hAA).mono ?_; rintro e w' ⟨rfl, rfl⟩)
          | (go_at_call 42; refine (left_any g L q _ hin.out).mono ?_; rintro e w' ⟨rfl, nd, rfl⟩))
        have hi2 : InIs (wr.drewN nd) g L q := in_cells hin.out fun _ _ => rfl
        have ho2 : Only g w4 (wr.drewN nd) := honly.out.trans ⟨rfl, rfl, rfl, rfl, fun _ _ => rfl⟩
        exact ⟨⟨k + 1, q, by omega, hq, by go_num, rfl, hi2, ho2⟩, by simp [intOf]; omega⟩
      by_cases hA2 : 64 < n
      · have hAA : n < 1 ∨ 64 < n := .inr hA2
        go_wp2_with (first
          | (go_at_call 41; refine (get_width _ n _ hAA).mono ?_; rintro e w' ⟨rfl, rfl⟩)
          | (go_at_call 42; refine (left_any g L q _ hin.out).mono ?_; rintro e w' ⟨rfl, nd, rfl⟩))
        have hi2 : InIs (wr.drewN nd) g L q := in_cells hin.out fun _ _ => rfl
        have ho2 : Only g w4 (wr.drewN nd) := honly.out.trans ⟨rfl, rfl, rfl, rfl, fun _ _ => rfl⟩
        exact ⟨⟨k + 1, q, by omega, hq, by go_num, rfl, hi2, ho2⟩, by simp [intOf]; omega⟩
      obtain ⟨N, rfl⟩ : ∃ N : Nat, n = N := ⟨n.toNat, by omega⟩
      have hN1 : 1 ≤ N := by omega
      have hN2 : N ≤ 64 := by omega
      have hN1I : (1 : Int) ≤ N := by omega
      have hN2I : (N : Int) ≤ 64 := by omega
      clear hz1 hz2 hA hA2
      by_cases hB : q + N ≤ 8 * c
      · have hBI : ¬ (8 * (c : Int) - q < N) := by omega
        have hBI2 : (N : Int) ≤ 8 * (c : Int) - q := by omega
        rcases HORL.out with ⟨rfl, h0, _⟩ | ⟨gl, rfl, _, hgl⟩
        · omega
        have hfrom := (HL4.out.only honly.out HNE.out).from q N
        have hlist : ((List.map Value.bool (M.ofN L)).drop q).take N = List.map Value.bool (((M.ofN L).drop q).take N) := by rw [List.map_take, List.map_drop]
        rw [hlist, Nat.zero_add] at hfrom
        have hll : (((M.ofN L).drop q).take N).length = N := by rw [List.length_take, List.length_drop, HOFL.out, hLc]; omega
        have HFR := Lib.hid hfrom
        have HLL := Lib.hid hll
        have HNX : Hid (M.num (((M.ofN L).drop q).take N) = M.nextN L q N) := rfl
        have HLC := Lib.hid hLc
        clear hfrom hlist hll
        go_wp2_with (first
          | (go_at_call 41; refine (get_good g L q N _ hN1 hN2 hin.out (by rw [HLC.out]; exact hB)).mono ?_; rintro e w' ⟨rfl, hi2, ho2⟩; have HI2 := Lib.hid hi2; have HO2 := Lib.hid (honly.out.trans ho2); have HFR2 := Lib.hid (HFR.out.only ho2 (by intro b off e; injection e with e; injection e with e1; omega)); clear hi2 ho2)
          | (go_at_call 45; refine (num_at (((M.ofN L).drop q).take N) N _ _ _ HLL.out hN2 HFR2.out).mono ?_; rintro e w' ⟨rfl, rfl⟩; rw [HNX.out])
          | (go_at_call 42; refine (left_any g L (q + N) _ HI2.out).mono ?_; rintro e w' ⟨rfl, nd, rfl⟩))
        exact ⟨⟨k + 1, q + N, by omega, hB, by go_num, by go_num, in_cells HI2.out fun _ _ => rfl, HO2.out.trans ⟨rfl, rfl, rfl, rfl, fun _ _ => rfl⟩⟩, by simp [intOf]; omega⟩
      · have hBI : 8 * (c : Int) - q < N := by omega
        have hBI2 : ¬ (N : Int) ≤ 8 * (c : Int) - q := by omega
        go_wp2_with (first
          | (go_at_call 41; refine (get_few g L q N _ hN1I hN2I hin.out (by rw [hLc]; exact hBI)).mono ?_; rintro e w' ⟨rfl, nm, rfl⟩)
          | (go_at_call 42; refine (left_any g L q _ (by exact in_cells hin.out fun _ _ => rfl)).mono ?_; rintro e w' ⟨rfl, nd, rfl⟩))
        have hi2 : InIs (wr.drewN (nm + nd)) g L q := in_cells hin.out fun _ _ => rfl
        have ho2 : Only g w4 (wr.drewN (nm + nd)) := honly.out.trans ⟨rfl, rfl, rfl, rfl, fun _ _ => rfl⟩
        exact ⟨⟨k + 1, q, by omega, hq, by go_num, rfl, hi2, ho2⟩, by simp [intOf]; omega⟩
    · rcases Nat.lt_or_ge k lw with hkl | hkl
      · obtain rfl : k = 40 := by omega
        have hklI : (40 : Int) < (lw : Int) := by omega
        go_wp2
        go_ret
        exact ⟨rfl, HBLW.out⟩
      · have hklI : ¬ (k : Int) < (lw : Int) := by omega
        go_wp2
        go_ret
        exact ⟨rfl, HBLW.out⟩
end Go.Proofs.Ytojhhcfpnbdobaa
