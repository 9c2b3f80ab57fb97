/- The law ZigTurn: the walk. -/
import Derived.Test.YtojhhcfpnbdobaaBegun
namespace Go.Proofs.Ytojhhcfpnbdobaa
open Go.RowKit

theorem tmod_small2 (a : Int) : -999 ≤ a.tmod 1000 ∧ a.tmod 1000 ≤ 999 := by rw [Int.tmod_eq_emod]; split <;> omega

set_option maxRecDepth 100000 in
set_option maxHeartbeats 4000000 in
theorem zigTurn_walk (t b : Int) (w : World) (ht : (Lit.int .u32 t).wf = true) (_ : (Lit.int .i64 b).wf = true) :
    Calls Try.prog 15 #[.int .u32 t, .int .i64 b] w fun e w' => e = .returned (.bool true) ∧ Below w.heap.size w w' := by
  obtain ⟨t1, t2⟩ : 0 ≤ t ∧ t ≤ 4294967295 := by simpa [Lit.wf, IntKind.min, IntKind.max, IntKind.signed, IntKind.bits] using ht
  clear ht
  obtain ⟨T, rfl⟩ := Int.eq_ofNat_of_zero_le t1
  have hT : T < 4294967296 := by omega
  obtain ⟨m, hm, hm2⟩ : ∃ m : Nat, b % 32 = m ∧ m ≤ 31 := ⟨(b % 32).toNat, by omega, by omega⟩
  obtain ⟨A, hA, hAl, hAb⟩ := M.turnS_nat T m hT hm2
  have hcnt := M.cnt_rot A T m hAb
  obtain ⟨b1, b2⟩ := tmod_small2 b
  obtain ⟨Bv, hB⟩ : ∃ Bv, b.tmod 1000 = Bv := ⟨_, rfl⟩
  rw [hB] at b1 b2
  have e1 := M.turn_turn T Bv (-Bv) hT
  rw [show (Bv + -Bv) % 32 = 0 by omega, M.turnS_zero T t1 t2] at e1
  have e2 := M.turnS_zero A (by omega) (by omega)
  obtain ⟨r1, r2⟩ := M.turnS_range T Bv t1 t2
  have HC := Lib.hid hcnt
  have HA := Lib.hid hA
  have HM := Lib.hid hm
  have HT := Lib.hid hT
  have HAL := Lib.hid hAl
  have ha2 : (A : Int) ≤ 4294967295 := by omega
  clear hcnt hAb hA hm hT hAl
  go_enter Try.func15, Try.ntmps15
  go_wp2_with (go_at_call 21; refine (begun_any _).mono ?_; rintro e w1 ⟨rfl, hb1⟩; have HB1 := Lib.hid hb1; clear hb1)
  refine (turn_any T b _ (by omega) (by omega)).mono ?_
  rintro e w2 ⟨rfl, rfl⟩
  rw [HM.out, HA.out]
  go_wp2_with fail
  go_loop [7, 8] (fun o i => ∃ (k : Nat) (s : Int), k ≤ 32 ∧ i = .int .i64 k ∧ o = .int .i64 s ∧ Hid (s = (M.cnt A k : Int) - M.cnt T k)) (fun _ i => (32 - intOf i).toNat)
  case atStart => exact ⟨0, 0, Nat.zero_le _, rfl, rfl, rfl⟩
  case round =>
    obtain ⟨k, s, hk, rfl, rfl, hs⟩ := hrel
    by_cases hlt : k < 32
    · have hs1 : -32 ≤ s := by have := M.cnt_le T k; rw [hs.out]; omega
      have hs2 : s ≤ 32 := by have := M.cnt_le A k; rw [hs.out]; omega
      obtain ⟨x, hx⟩ : ∃ x, A / 2 ^ k % 2 = x := ⟨_, rfl⟩
      obtain ⟨y, hy⟩ : ∃ y, T / 2 ^ k % 2 = y := ⟨_, rfl⟩
      have hba := M.bit_and A k HAL.out
      have hbt := M.bit_and T k HT.out
      rw [hx] at hba
      rw [hy] at hbt
      have hx1 : x ≤ 1 := by omega
      have hy1 : y ≤ 1 := by omega
      have HX := Lib.hid hx
      have HY := Lib.hid hy
      clear hx hy
      go_wp2
      go_round
      case rel => exact ⟨k + 1, s + ((x : Int) - y), by omega, by go_num, rfl, by
        show _ = _
        rw [hs.out, M.cnt, M.cnt, HX.out, HY.out]; omega⟩
      case measure => simp [intOf]; omega
    · obtain rfl : k = 32 := by omega
      have hs0 : s = 0 := by rw [hs.out, HC.out]; omega
      subst hs0
      go_wp2_with (go_at_call 31; refine (turn_any _ _ _ (by omega) (by omega)).mono ?_; rintro e w' ⟨rfl, rfl⟩)
      go_ret
      exact ⟨rfl, HB1.out⟩
end Go.Proofs.Ytojhhcfpnbdobaa
