/- The law KoopAll: the walk. -/
import Derived.Test.YtojhhcfpnbdobaaBegun
import Derived.Test.YtojhhcfpnbdobaaKoop
import Derived.Test.YtojhhcfpnbdobaaShort
namespace Go.Proofs.Ytojhhcfpnbdobaa
open Go.RowKit


theorem sumL_V (bs : List Nat) (h : ∀ x ∈ bs, x < 256) : sumL bs = (M.sumV 0xffffffff#32 bs).toNat := by
  have : ∀ (bs : List Nat) (s : M.B32), (∀ x ∈ bs, x < 256) → bs.foldl M.stepL s.toNat = (bs.foldl M.stepV s).toNat := by
    intro bs
    induction bs with
    | nil => intro s _; rfl
    | cons b bs ih =>
      intro s h
      rw [List.foldl_cons, List.foldl_cons, M.stepL_stepV s b (h b (by simp)), ih _ (fun x hx => h x (by simp [hx]))]
  exact this bs 0xffffffff#32 h
theorem zeroV_succ (s : M.B32) (k : Nat) : M.zeroV s (k + 1) = M.stepV (M.zeroV s k) 0 := rfl
theorem zeroV_zero (s : M.B32) : M.zeroV s 0 = s := rfl
attribute [local irreducible] M.stepL M.stepV M.sumV M.zeroV sumL
set_option maxRecDepth 100000 in
set_option maxHeartbeats 4000000 in
theorem koopAll_walk (a : Option Addr) (len cap : Nat) (bs : List Nat) (s x n : Int) (w : World) (hb : IsBytes w a len cap bs) (hs : (Lit.int .u32 s).wf = true) (hx : (Lit.int .u8 x).wf = true) (_ : (Lit.int .i64 n).wf = true) :
    Calls Try.prog 8 #[.slice a len cap, .int .u32 s, .int .u8 x, .int .i64 n] w fun e w' => e = .returned (.bool true) ∧ Below w.heap.size w w' := by
  obtain ⟨S, rfl⟩ := u32_vec s hs
  obtain ⟨X, rfl, hX⟩ := u8_nat x hx
  clear hs hx
  have hS := S.isLt
  have HBY := Lib.hid hb
  have hlen : len ≤ 9223372036854775807 := Nat.le_trans hb.fits hb.small
  clear hb
  go_enter Try.func8, Try.ntmps8
  go_wp2_with (go_at_call 21; refine (begun_any _).mono ?_; rintro e w1 ⟨rfl, hb1⟩; have HB1 := Lib.hid hb1; clear hb1)
  refine (short_reads bs len cap 80 a _ (HBY.out.below HB1.out) (by omega)).mono ?_
  rintro e w2 ⟨a2, cap2, rfl, hby2, hb2⟩
  have HB2 := Lib.hid (HB1.out.trans (hb2.mono HB1.out.size))
  have hc : min len 80 ≤ 80 := by omega
  generalize min len 80 = c at hby2 hc ⊢
  generalize bs.take 80 = L at hby2
  have HL := Lib.hid hby2
  have hsum := sumL_V L hby2.byte
  have HOF : Hid (∀ w', Holds w' a2 (u8s L) → Calls Try.prog 46 #[.slice a2 c cap2] w' fun e w'' => e = .returned (.int .u32 (sumL L : Nat)) ∧ w' = w'') := fun w' hh => by
    rw [hsum]; exact kof_any L c a2 cap2 w' HL.out.size (by omega) HL.out.byte hh
  have HST : Hid (∀ w', Calls Try.prog 48 #[.int .u32 S.toNat, .int .u8 X] w' fun e w'' => e = .returned (.int .u32 (M.stepL S.toNat X : Nat)) ∧ w' = w'') := fun w' => by
    rw [M.stepL_stepV S X hX]; exact kstep_any S X w' hX
  have HX := Lib.hid hX
  have HBs := Lib.hid HB2.out.size
  clear hsum hby2 hb2 HBY hX
  by_cases cn : n < 0 ∨ 1048576 < n
  · have HZ : Hid (∀ w', Calls Try.prog 50 #[.int .u32 S.toNat, .int .i64 n] w' fun e w'' => e = .returned (.int .u32 0) ∧ w' = w'') := fun w' => kzero_none S n w' cn
    rcases cn with cn | cn
    all_goals go_wp2_with (first
    | (go_at_call 46; refine (HOF.out _ HL.out.row).mono ?_; rintro e w' ⟨rfl, rfl⟩)
    | (go_at_call 47; refine (rsum_any L c a2 cap2 _ HL.out.size (by omega) HL.out.byte HL.out.row).mono ?_; rintro e w3 ⟨rfl, hb3⟩; have HB3 := Lib.hid (HB2.out.trans (hb3.mono HBs.out)); clear hb3)
    | (go_at_call 48; refine (HST.out _).mono ?_; rintro e w' ⟨rfl, rfl⟩)
    | (go_at_call 49; refine (rstep_any S.toNat X _ (by omega) HX.out).mono ?_; rintro e w4 ⟨rfl, hb4⟩; have HB4 := Lib.hid (HB3.out.trans (hb4.mono HB3.out.size)); clear hb4)
    | (go_at_call 50; refine (HZ.out _).mono ?_; rintro e w' ⟨rfl, rfl⟩))
    all_goals go_ret
    all_goals exact ⟨rfl, HB4.out⟩
  obtain ⟨N, rfl⟩ : ∃ N : Nat, n = N := ⟨n.toNat, by omega⟩
  have hN : N ≤ 1048576 := by omega
  clear cn
  obtain ⟨R, hR⟩ : ∃ R : Nat, N % 60 = R := ⟨_, rfl⟩
  have hRI : (N : Int) % 60 = (R : Int) := by omega
  have hR60 : R < 60 := by omega
  clear hR
  go_wp2_with (first
    | (go_at_call 46; refine (HOF.out _ HL.out.row).mono ?_; rintro e w' ⟨rfl, rfl⟩)
    | (go_at_call 47; refine (rsum_any L c a2 cap2 _ HL.out.size (by omega) HL.out.byte HL.out.row).mono ?_; rintro e w3 ⟨rfl, hb3⟩; have HB3 := Lib.hid (HB2.out.trans (hb3.mono HBs.out)); clear hb3)
    | (go_at_call 48; refine (HST.out _).mono ?_; rintro e w' ⟨rfl, rfl⟩)
    | (go_at_call 49; refine (rstep_any S.toNat X _ (by omega) HX.out).mono ?_; rintro e w4 ⟨rfl, hb4⟩; have HB4 := Lib.hid (HB3.out.trans (hb4.mono HB3.out.size)); clear hb4))
  rw [hRI]
  go_loopw [10, 11] (fun t i wr => ∃ k : Nat, k ≤ R ∧ i = .int .i64 k ∧ t = .int .u32 (M.zeroV S k).toNat ∧ Hid (Below w.heap.size w wr)) (fun _ i _ => (R - intOf i).toNat)
  case atStart => exact ⟨0, Nat.zero_le _, rfl, by rw [zeroV_zero], HB4⟩
  case round =>
    obtain ⟨k, hk, rfl, rfl, hbl⟩ := hrel
    by_cases hlt : k < R
    · have hz := (M.zeroV S k).isLt
      have HZ : Hid (M.stepL (M.zeroV S k).toNat 0 = (M.zeroV S (k + 1)).toNat) := by show _ = _; rw [zeroV_succ]; exact M.stepL_stepV _ 0 (by omega)
      have HSZ := Lib.hid hbl.out.size
      go_wp2_with (go_at_call 49; refine (rstep_any (M.zeroV S k).toNat 0 _ (by omega) (by omega)).mono ?_; rintro e w5 ⟨rfl, hb5⟩; have HB5 := Lib.hid (hbl.out.trans (hb5.mono HSZ.out)); clear hb5)
      go_roundw
      case rel => exact ⟨k + 1, by omega, by go_num, by rw [HZ.out], HB5⟩
      case measure => simp [intOf]; omega
    · obtain rfl : k = R := by omega
      go_wp2_with (go_at_call 50; refine (kzero_any S k _ (by omega)).mono ?_; rintro e w' ⟨rfl, rfl⟩)
      go_ret
      exact ⟨rfl, hbl.out⟩
end Go.Proofs.Ytojhhcfpnbdobaa
