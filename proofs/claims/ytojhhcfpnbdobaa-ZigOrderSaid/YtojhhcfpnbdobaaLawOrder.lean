/- The law ZigOrder: the walk. -/
import Derived.Test.YtojhhcfpnbdobaaBegun
namespace Go.Proofs.Ytojhhcfpnbdobaa
open Go.RowKit

theorem b2u_yes (w : World) : Calls Try.prog 36 #[.bool true] w fun e w' => e = .returned (.int .u64 1) ∧ w = w' := by
  go_enter Try.func36, Try.ntmps36
  go_wp2
  go_ret
  exact ⟨rfl, rfl⟩
theorem b2u_no (w : World) : Calls Try.prog 36 #[.bool false] w fun e w' => e = .returned (.int .u64 0) ∧ w = w' := by
  go_enter Try.func36, Try.ntmps36
  go_wp2
  go_ret
  exact ⟨rfl, rfl⟩

theorem tmod_small (a : Int) : -999 ≤ a.tmod 1000 ∧ a.tmod 1000 ≤ 999 := by rw [Int.tmod_eq_emod]; split <;> omega

/-- The last part of the law, at numbers below 0, 0, or above. -/
def Part (n : Int) : Prop := n < 0 ∨ n = 0 ∨ 0 < n

set_option maxRecDepth 100000 in
set_option maxHeartbeats 4000000 in
theorem zigOrder_walk (n t a b : Int) (w : World) (hn : (Lit.int .i64 n).wf = true) (ht : (Lit.int .u32 t).wf = true) (_ : (Lit.int .i64 a).wf = true) (_ : (Lit.int .i64 b).wf = true) :
    Calls Try.prog 4 #[.int .i64 n, .int .u32 t, .int .i64 a, .int .i64 b] w fun e w' => e = .returned (.bool true) ∧ Below w.heap.size w w' := by
  obtain ⟨n1, n2⟩ : -9223372036854775808 ≤ n ∧ n ≤ 9223372036854775807 := by simpa [Lit.wf, IntKind.min, IntKind.max, IntKind.signed, IntKind.bits] using hn
  obtain ⟨t1, t2⟩ : 0 ≤ t ∧ t ≤ 4294967295 := by simpa [Lit.wf, IntKind.min, IntKind.max, IntKind.signed, IntKind.bits] using ht
  clear hn ht
  by_cases c1 : 4611686018427387904 < n
  · go_enter Try.func4, Try.ntmps4
    go_wp2_with (go_at_call 21; refine (begun_any _).mono ?_; rintro e w1 ⟨rfl, hb1⟩; have HB1 := Lib.hid hb1; clear hb1)
    go_ret
    exact ⟨rfl, HB1.out⟩
  by_cases c2 : n < -4611686018427387904
  · go_enter Try.func4, Try.ntmps4
    go_wp2_with (go_at_call 21; refine (begun_any _).mono ?_; rintro e w1 ⟨rfl, hb1⟩; have HB1 := Lib.hid hb1; clear hb1)
    go_ret
    exact ⟨rfl, HB1.out⟩
  obtain ⟨T, rfl⟩ := Int.eq_ofNat_of_zero_le t1
  obtain ⟨a1, a2⟩ := tmod_small a
  obtain ⟨b1, b2⟩ := tmod_small b
  generalize hA : a.tmod 1000 = A at a1 a2
  generalize hBB : b.tmod 1000 = Bv at b1 b2
  have e1 := M.turn_turn T A Bv (by omega)
  have e2 : M.turnS T (-A % 32) = M.turnS T ((1280 - A) % 32) := by congr 1; omega
  obtain ⟨r1, r2⟩ := M.turnS_range T A t1 t2
  have hz : 0 ≤ M.zigS n ∧ M.zigS n ≤ 9223372036854775808 := by unfold M.zigS; split <;> omega
  obtain ⟨z1, z2⟩ := hz
  have hlt : M.zigS n < M.zigS n + 2 := by omega
  have n3 : -n ≤ 9223372036854775807 := by omega
  have n4 : -9223372036854775808 ≤ -n := by omega
  by_cases c3 : n < 0
  · go_enter Try.func4, Try.ntmps4
    go_wp2_with (first
      | (go_at_call 21; refine (begun_any _).mono ?_; rintro e w1 ⟨rfl, hb1⟩; have HB1 := Lib.hid hb1; clear hb1)
      | (go_at_call 24; refine (zig_any _ _ (by omega) (by omega)).mono ?_; rintro e w' ⟨rfl, rfl⟩)
      | (go_at_call 31; refine (turn_any _ _ _ (by omega) (by omega)).mono ?_; rintro e w' ⟨rfl, rfl⟩))
    go_ret
    exact ⟨rfl, HB1.out⟩
  by_cases c4 : n = 0
  · subst c4
    have e3 : M.zigS 0 = 0 := rfl
    go_enter Try.func4, Try.ntmps4
    go_wp2_with (first
      | (go_at_call 21; refine (begun_any _).mono ?_; rintro e w1 ⟨rfl, hb1⟩; have HB1 := Lib.hid hb1; clear hb1)
      | (go_at_call 24; refine (zig_any _ _ (by omega) (by omega)).mono ?_; rintro e w' ⟨rfl, rfl⟩)
      | (go_at_call 36; (with_reducible refine (b2u_no _).mono ?_); rintro e w' ⟨rfl, rfl⟩)
      | (go_at_call 31; refine (turn_any _ _ _ (by omega) (by omega)).mono ?_; rintro e w' ⟨rfl, rfl⟩))
    go_ret
    exact ⟨rfl, HB1.out⟩
  · have hp : 0 < n := by omega
    have e3 : M.zigS n = 2 * n := if_neg c3
    have e4 : M.zigS (-n) = 2 * n - 1 := by unfold M.zigS; rw [if_pos (by omega)]; omega
    have e5 : (2 * n == 2 * n - 1 + 1) = true := by simp
    have hpb : decide (0 < n) = true := by simpa using hp
    rw [e3] at z1 z2 hlt
    clear c4
    go_enter Try.func4, Try.ntmps4
    go_wp2_with (first
      | (go_at_call 21; refine (begun_any _).mono ?_; rintro e w1 ⟨rfl, hb1⟩; have HB1 := Lib.hid hb1; clear hb1)
      | (go_at_call 24; refine (zig_any _ _ (by omega) (by omega)).mono ?_; rintro e w' ⟨rfl, rfl⟩)
      | (go_at_call 36; (with_reducible refine (b2u_yes _).mono ?_); rintro e w' ⟨rfl, rfl⟩)
      | (go_at_call 31; refine (turn_any _ _ _ (by omega) (by omega)).mono ?_; rintro e w' ⟨rfl, rfl⟩))
    go_ret
    exact ⟨rfl, HB1.out⟩
end Go.Proofs.Ytojhhcfpnbdobaa
