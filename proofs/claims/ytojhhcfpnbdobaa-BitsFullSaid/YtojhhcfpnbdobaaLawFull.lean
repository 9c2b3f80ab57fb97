/- The law BitsFull: the walk. -/
import Derived.Test.YtojhhcfpnbdobaaBegun
import Derived.Deep.RegionLaw
namespace Go.Proofs.Ytojhhcfpnbdobaa
open Go.RowKit

/-- What k fields of the number 1, each so wide, leave: as many as fit. -/
def ones (W : Nat) : Nat → List Bool
  | 0 => []
  | k + 1 => if (k + 1) * W ≤ 4096 then ones W k ++ M.bitsOf 1 W else ones W k
theorem ones_fit (W : Nat) : ∀ k, k * W ≤ 4096 → (ones W k).length = k * W
  | 0, _ => by simp [ones]
  | k + 1, h => by
    have h1 : k * W ≤ 4096 := by rw [Nat.add_mul] at h; omega
    rw [ones, if_pos h, List.length_append, M.bitsOf_length, ones_fit W k h1, Nat.add_mul]; omega
theorem ones_full (W : Nat) (h1 : 1 ≤ W) : ∀ k, 4096 / W ≤ k → (ones W k).length = 4096 / W * W
  | 0, h => by
    have : 4096 / W = 0 := Nat.le_zero.1 h
    rw [this]; simp [ones]
  | k + 1, h => by
    rw [ones]
    by_cases c : (k + 1) * W ≤ 4096
    · have hk : k + 1 ≤ 4096 / W := (Nat.le_div_iff_mul_le (by omega)).2 c
      have e : 4096 / W = k + 1 := by omega
      rw [if_pos c, List.length_append, M.bitsOf_length, ones_fit W k (by rw [Nat.add_mul] at c; omega), e, Nat.add_mul]; omega
    · rw [if_neg c]
      refine ones_full W h1 k ?_
      have : ¬ (k + 1 ≤ 4096 / W) := fun hh => c ((Nat.le_div_iff_mul_le (by omega)).1 hh)
      omega
theorem ones_length (W : Nat) (h1 : 1 ≤ W) (k : Nat) : (ones W k).length = min k (4096 / W) * W := by
  by_cases c : 4096 / W ≤ k
  · rw [ones_full W h1 k c, Nat.min_eq_right c]
  · have hk : k ≤ 4096 / W := by omega
    rw [Nat.min_eq_left hk, ones_fit W k ((Nat.le_div_iff_mul_le (by omega)).1 hk)]
theorem ones_next (W : Nat) (h1 : 1 ≤ W) (k : Nat) : ((ones W k).length + W ≤ 4096) ↔ ((k + 1) * W ≤ 4096) := by
  rw [ones_length W h1, ← Nat.le_div_iff_mul_le (show 0 < W by omega) (x := k + 1)]
  by_cases c : k + 1 ≤ 4096 / W
  · simp only [c, iff_true]
    rw [Nat.min_eq_left (by omega)]
    have := (Nat.le_div_iff_mul_le (show 0 < W by omega)).1 c
    rw [Nat.add_mul] at this; omega
  · simp only [c, iff_false]
    rw [Nat.min_eq_right (by omega)]
    have h3 : ¬ (4096 / W + 1 ≤ 4096 / W) := by omega
    rw [Nat.le_div_iff_mul_le (by omega), Nat.add_mul] at h3
    omega

theorem below_drew2 {B : Nat} {w w' : World} (h : Below B w w') : Below B w w'.drew := h.drew

set_option maxRecDepth 100000 in
set_option maxHeartbeats 2000000 in
theorem bitsFull_walk (width n : Int) (w : World) (_ : (Lit.int .i64 width).wf = true) (_ : (Lit.int .i64 n).wf = true) :
    Calls Try.prog 7 #[.int .i64 width, .int .i64 n] w fun e w' => e = .returned (.bool true) ∧ Below w.heap.size w w' := by
  by_cases c1 : width < 1
  · go_enter Try.func7, Try.ntmps7
    go_wp2_with (go_at_call 21; refine (begun_any _).mono ?_; rintro e w1 ⟨rfl, hb1⟩; have HB1 := Lib.hid hb1; clear hb1)
    go_ret
    exact ⟨rfl, HB1.out⟩
  by_cases c2 : 64 < width
  · go_enter Try.func7, Try.ntmps7
    go_wp2_with (go_at_call 21; refine (begun_any _).mono ?_; rintro e w1 ⟨rfl, hb1⟩; have HB1 := Lib.hid hb1; clear hb1)
    go_ret
    exact ⟨rfl, HB1.out⟩
  by_cases c3 : n < 0
  · go_enter Try.func7, Try.ntmps7
    go_wp2_with (go_at_call 21; refine (begun_any _).mono ?_; rintro e w1 ⟨rfl, hb1⟩; have HB1 := Lib.hid hb1; clear hb1)
    go_ret
    exact ⟨rfl, HB1.out⟩
  by_cases c4 : 4200 < n
  · go_enter Try.func7, Try.ntmps7
    go_wp2_with (go_at_call 21; refine (begun_any _).mono ?_; rintro e w1 ⟨rfl, hb1⟩; have HB1 := Lib.hid hb1; clear hb1)
    go_ret
    exact ⟨rfl, HB1.out⟩
  obtain ⟨W, rfl⟩ : ∃ W : Nat, width = W := ⟨width.toNat, by omega⟩
  obtain ⟨N, rfl⟩ : ∃ N : Nat, n = N := ⟨n.toNat, by omega⟩
  have hW1 : 1 ≤ W := by omega
  have hW2 : W ≤ 64 := by omega
  have hN : N ≤ 4200 := by omega
  go_enter Try.func7, Try.ntmps7
  clear c1 c2 c3 c4
  have hW1I : (1 : Int) ≤ W := by omega
  have hW2I : (W : Int) ≤ 64 := by omega
  have hNI : (N : Int) ≤ 4200 := by omega
  go_wp2_with (go_at_call 21; refine (begun_any _).mono ?_; rintro e w1 ⟨rfl, hb1⟩; have HB1 := Lib.hid hb1; clear hb1)
  obtain ⟨g, hg⟩ : ∃ g, w1.heap.size = g := ⟨_, rfl⟩
  have hnew := new_out w1
  rw [hg] at hnew
  have HNEW := Lib.hid hnew
  have hgw : w.heap.size ≤ g := by rw [← hg]; exact HB1.out.size
  have HG := Lib.hid hgw
  have HB2 := Lib.hid (HB1.out.trans ((Below.refl w.heap.size w1).alloc (by rw [hg]; exact hgw) (.cells Try.zeroCells45 45)))
  rw [hg]
  clear hnew hg hgw HB1
  generalize w1.alloc (.cells Try.zeroCells45 45) = w2 at HNEW HB2 ⊢
  go_loopw [7] (fun i wr => ∃ k : Nat, k ≤ N ∧ i = .int .i64 k ∧ Hid (OutIs wr g (ones W k)) ∧ Hid (Below w.heap.size w wr)) (fun i _ => (N - intOf i).toNat)
  case atStart => exact ⟨0, Nat.zero_le _, rfl, HNEW, HB2⟩
  case round =>
    obtain ⟨k, hk, rfl, hout, hbl⟩ := hrel
    by_cases hlt : k < N
    · have hm0 : 0 ≤ ((k : Int) + 1) * (W : Int) := Int.mul_nonneg (by omega) (by omega)
      have hm1 : ((k : Int) + 1) * (W : Int) ≤ 4200 * 64 := Int.mul_le_mul (by omega) hW2I (by omega) (by omega)
      have hcast : ((k : Int) + 1) * (W : Int) = (((k + 1) * W : Nat) : Int) := by simp
      have hnx := ones_next W hW1 k
      have HCAST := Lib.hid hcast
      have HNX := Lib.hid hnx
      clear hcast hnx
      by_cases hc : (k + 1) * W ≤ 4096
      · have hcI : ((k : Int) + 1) * (W : Int) ≤ 4096 := by rw [HCAST.out]; omega
        have hp : (1 : Nat) < 2 ^ W := Nat.one_lt_two_pow (by omega)
        have HC := Lib.hid hc
        have HP := Lib.hid hp
        clear hc hp
        go_wp2_with (go_at_call 37; refine (put_good g 1 W (ones W k) _ hW1 hW2 HP.out hout.out (HNX.out.2 HC.out)).mono ?_; rintro e w' ⟨rfl, ho2, hon2⟩; have HO2 := Lib.hid ho2; have HON2 := Lib.hid hon2; clear ho2 hon2)
        go_roundw
        case rel => exact ⟨k + 1, by omega, by go_num, by show OutIs _ g (ones W (k + 1)); rw [ones, if_pos HC.out]; exact HO2.out, hbl.out.trans (HON2.out.below HG.out)⟩
        case measure => simp [intOf]; omega
      · have hcI : ¬ ((k : Int) + 1) * (W : Int) ≤ 4096 := by rw [HCAST.out]; omega
        have hfu : (4096 : Int) < ((ones W k).length : Int) + W := by
          have := HNX.out
          omega
        have hub : ((1 : Int) / 2 ^ (W : Int).toNat != 0) = false := by
          have : (1 : Nat) / 2 ^ W = 0 := Nat.div_eq_of_lt (Nat.one_lt_two_pow (by omega))
          rw [Int.toNat_natCast, show ((1 : Int) / 2 ^ W) = ((1 / 2 ^ W : Nat) : Int) by simp, this]; rfl
        have HC := Lib.hid hc
        have HU := Lib.hid hub
        have HF := Lib.hid hfu
        clear hc hub hfu
        go_wp2_with (go_at_call 37; refine (put_full g 1 W (ones W k) _ hW1I hW2I HU.out hout.out HF.out).mono ?_; rintro e w' ⟨rfl, rfl⟩)
        go_roundw
        case rel => exact ⟨k + 1, by omega, by go_num, by show OutIs _ g (ones W (k + 1)); rw [ones, if_neg HC.out]; exact hout.out, hbl⟩
        case measure => simp [intOf]; omega
    · obtain rfl : k = N := by omega
      have hl := ones_length W hW1 k
      have hDw : 4096 / W ≤ 4096 := Nat.div_le_self _ _
      have hDm : 4096 / W * W ≤ 4096 := Nat.div_mul_le_self _ _
      obtain ⟨D, hDD⟩ : ∃ D, 4096 / W = D := ⟨_, rfl⟩
      have hD : (4096 : Int) / (W : Int) = (D : Int) := by rw [← hDD]; simp
      rw [hDD] at hl hDw hDm
      clear hDD
      have hmul : ((min k D : Nat) : Int) * (W : Int) = ((ones W k).length : Int) := by rw [hl]; simp
      have hlen : (ones W k).length ≤ 4096 := hout.out.fits
      have HMUL := Lib.hid hmul
      clear hl hmul
      by_cases hc : k ≤ D
      · have hmul2 : (k : Int) * (W : Int) = ((ones W k).length : Int) := by have := HMUL.out; rwa [Nat.min_eq_left hc] at this
        have hw1 : IntKind.i64.wrap ((4096 : Int) / W) = (D : Int) := by rw [hD]; exact IntWalk.i64_in _ (by omega)
        have hw2 : IntKind.i64.wrap ((k : Int) * W) = ((ones W k).length : Int) := by rw [hmul2]; exact IntWalk.i64_in _ (by omega)
        have hnd : ¬ D < k := by omega
        have hb := below_drew2 hbl.out
        have HBD := Lib.hid hb
        clear hmul2 hb
        go_wp2
        go_region_with (go_at_call 39; refine (len_any g _ _ (by exact out_cells hout.out rfl)).mono ?_; rintro e w' ⟨rfl, rfl⟩)
        all_goals go_wp2
        all_goals go_ret
        all_goals exact ⟨rfl, HBD.out⟩
      · have hmul2 : (D : Int) * (W : Int) = ((ones W k).length : Int) := by have := HMUL.out; rwa [Nat.min_eq_right (by omega)] at this
        have hw1 : IntKind.i64.wrap ((4096 : Int) / W) = (D : Int) := by rw [hD]; exact IntWalk.i64_in _ (by omega)
        have hw2 : IntKind.i64.wrap ((D : Int) * W) = ((ones W k).length : Int) := by rw [hmul2]; exact IntWalk.i64_in _ (by omega)
        have hnd : D < k := by omega
        have hb := below_drew2 hbl.out
        have HBD := Lib.hid hb
        clear hmul2 hb
        go_wp2
        go_region_with (go_at_call 39; refine (len_any g _ _ (by exact out_cells hout.out rfl)).mono ?_; rintro e w' ⟨rfl, rfl⟩)
        all_goals go_wp2
        all_goals go_ret
        all_goals exact ⟨rfl, HBD.out⟩
end Go.Proofs.Ytojhhcfpnbdobaa
