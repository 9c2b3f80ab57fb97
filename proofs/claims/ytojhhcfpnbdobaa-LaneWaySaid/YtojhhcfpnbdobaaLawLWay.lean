/- The law LaneWay: the walk. -/
import Derived.Test.YtojhhcfpnbdobaaWays
import Derived.Test.YtojhhcfpnbdobaaLaneU
namespace Go.Proofs.Ytojhhcfpnbdobaa
open Go.RowKit

namespace M
theorem and255 (n : Int) : bits BinOp.and IntKind.i64 n 255 = ((n % 256).toNat : Int) := by
  have e : bits .and .i64 n 255 = IntKind.i64.wrap (BitVec.ofInt 64 n &&& BitVec.ofInt 64 255).toNat := rfl
  have e2 : (BitVec.ofInt 64 255) = BitVec.ofNat 64 255 := rfl
  have e3 : ∀ x : Nat, x &&& 255 = x % 256 := fun x => Nat.and_two_pow_sub_one_eq_mod x 8
  rw [e, e2, BitVec.toNat_and, BitVec.toNat_ofInt, BitVec.toNat_ofNat, Nat.mod_eq_of_lt (a := 255) (by omega), e3, IntKind.wrap_i64]
  omega
end M

set_option maxRecDepth 100000 in
set_option maxHeartbeats 4000000 in
theorem laneWay_walk (m : Int) (w : World) (_ : (Lit.int .i64 m).wf = true) :
    Calls Try.prog 11 #[.int .i64 m] w fun e w' => e = .returned (.bool true) ∧ Below w.heap.size w w' := by
  have hand := M.and255 m
  obtain ⟨K, hK⟩ : ∃ K : Nat, (m % 256).toNat = K := ⟨_, rfl⟩
  have hK8 : K < 256 := by omega
  rw [hK] at hand
  have hp8 : M.popN K ≤ 8 := diesK_length K 8
  obtain ⟨n, hn⟩ : ∃ n, M.popN K = n := ⟨_, rfl⟩
  rw [hn] at hp8
  have HN := Lib.hid hn
  have HC : Hid (∀ w, Calls Try.prog 54 #[.int .i64 K] w fun e w' => e = .returned (.int .i64 (n : Nat)) ∧ w = w') := fun w => by rw [← hn]; exact count_yes K w hK8
  clear hK hn
  go_enter Try.func11, Try.ntmps11
  go_wp2_with (go_at_call 21; refine (begun_any _).mono ?_; rintro e w1 ⟨rfl, hb1⟩; have HB1 := Lib.hid hb1; clear hb1)
  have hlen : (diesK K 8).length = n := HN.out
  have HL := Lib.hid hlen
  clear hlen
  go_loop [4, 5] (fun x y => ∃ k f : Nat, k ≤ n ∧ f < 256 ∧ y = .int .i64 k ∧ x = .int .i64 f ∧ Hid (M.foldW ((diesK K 8).take k) = f)) (fun _ y => (n - intOf y).toNat)
  case atStart => exact ⟨0, 0, Nat.zero_le _, by omega, rfl, rfl, rfl⟩
  case round =>
    obtain ⟨k, f, hk, hf, rfl, rfl, hfold⟩ := hrel
    by_cases hlt : k < n
    · obtain ⟨a1, a2, a3⟩ := M.at_tab ⟨K, hK8⟩ ⟨k, by omega⟩ (by show k < M.popN K; rw [HN.out]; exact hlt)
      simp only at a1 a2 a3
      have hfold2 : M.foldW ((diesK K 8).take (k + 1)) = M.withN f (M.atN K k) := by
        have hkl : k < (diesK K 8).length := by rw [HL.out]; exact hlt
        rw [List.take_succ_eq_append_getElem hkl, M.foldW_snoc, hfold.out]
        unfold M.atN
        rw [show (diesK K 8).getD k 0 = (diesK K 8)[k] by simp [List.getD, List.getElem?_eq_getElem hkl]]
      have hat := at_yes K k
      obtain ⟨d, hd⟩ : ∃ d, M.atN K k = d := ⟨_, rfl⟩
      rw [hd] at a1 a2 a3 hfold2 hat
      obtain ⟨b1, b2, b3⟩ := M.without_tab ⟨K, hK8⟩ ⟨d, a2⟩
      simp only at b1 b2 b3
      obtain ⟨b3, b4⟩ := b3 a1
      have hf2 := (M.without_tab ⟨f, hf⟩ ⟨d, a2⟩).2.1
      simp only at hf2
      have hwo := without_yes K d
      obtain ⟨q, hq⟩ : ∃ q, M.withoutN K d = q := ⟨_, rfl⟩
      rw [hq] at b1 b3 b4 hwo
      have hsp : spotS K d = (k : Nat) := by
        unfold spotS; rw [diesS_nat K hK8]; exact a3
      have HAT := Lib.hid hat
      have HWO := Lib.hid hwo
      have HH1 : Hid (∀ w, Calls Try.prog 53 #[.int .i64 K, .int .i64 d] w fun e w' => e = .returned (.bool true) ∧ w = w') := fun w => by rw [← a1]; exact has_yes K d w hK8 a2
      have HH2 : Hid (∀ w, Calls Try.prog 53 #[.int .i64 q, .int .i64 d] w fun e w' => e = .returned (.bool false) ∧ w = w') := fun w => by rw [← b3]; exact has_yes q d w b1 a2
      have HSP : Hid (∀ w, Calls Try.prog 56 #[.int .i64 K, .int .i64 d] w fun e w' => e = .returned (.int .i64 k) ∧ w = w') := fun w => by rw [← hsp]; exact spot_any K d w
      have HW1 : Hid (∀ w, Calls Try.prog 57 #[.int .i64 q, .int .i64 d] w fun e w' => e = .returned (.int .i64 K) ∧ w = w') := fun w => by rw [← b4]; exact with_yes q d w b1 a2
      have HW2 := Lib.hid (with_yes f d)
      have HF2 := Lib.hid hfold2
      have HPK : Hid (k < M.popN K) := by show k < M.popN K; rw [HN.out]; exact hlt
      clear a1 a3 b2 b3 b4 hq hd hat hwo hsp hfold2 hfold
      go_wp2_with (first
        | (go_at_call 54; refine (HC.out _).mono ?_; rintro e w' ⟨rfl, rfl⟩)
        | (go_at_call 55; refine (HAT.out _ hK8 HPK.out).mono ?_; rintro e w' ⟨rfl, rfl⟩)
        | (go_at_call 56; refine (HSP.out _).mono ?_; rintro e w' ⟨rfl, rfl⟩)
        | (go_at_call 53; (with_reducible refine (HH1.out _).mono ?_); rintro e w' ⟨rfl, rfl⟩)
        | (go_at_call 53; (with_reducible refine (HH2.out _).mono ?_); rintro e w' ⟨rfl, rfl⟩)
        | (go_at_call 58; refine (HWO.out _ hK8 a2).mono ?_; rintro e w' ⟨rfl, rfl⟩)
        | (go_at_call 57; (with_reducible refine (HW1.out _).mono ?_); rintro e w' ⟨rfl, rfl⟩)
        | (go_at_call 57; (with_reducible refine (HW2.out _ hf a2).mono ?_); rintro e w' ⟨rfl, rfl⟩))
      go_round
      case rel => exact ⟨k + 1, _, by omega, hf2, by go_num, rfl, HF2.out⟩
      case measure => simp [intOf]; omega
    · obtain rfl : k = n := by omega
      have hfin : f = K := by
        have h := hfold.out
        rw [List.take_of_length_le (by rw [HL.out]; exact Nat.le_refl _)] at h
        rw [← h]; exact M.fold_tab ⟨K, hK8⟩
      clear hfold
      subst hfin
      go_wp2_with (go_at_call 54; refine (HC.out _).mono ?_; rintro e w' ⟨rfl, rfl⟩)
      go_ret
      exact ⟨rfl, HB1.out⟩
end Go.Proofs.Ytojhhcfpnbdobaa
