/- The reference's functions on numbers: what each call answers. -/
import Derived.Test.YticpjkbcchghjaaRows
import Derived.Test.YticpjkbcchghjaaZigM
import Derived.WalkKit
import Derived.WalkSpells
import Derived.WalkLawsBesides
import Derived.Handy
import Derived.Lib.Hide
namespace Go.Proofs.Yticpjkbcchghjaa
open Go.RowKit

theorem ret_int {k : IntKind} {a b : Int} (h : a = b) : Ending.returned (.int k a) = .returned (.int k b) := by rw [h]
set_option maxHeartbeats 400000 in
theorem pow_any (n : Int) (w : World) (h1 : 0 ≤ n) (h2 : n ≤ 63) :
    Calls Try.prog 52 #[.int .i64 n] w fun e w' => e = .returned (.int .u64 (2 ^ n.toNat : Nat)) ∧ w = w' := by
  obtain ⟨m, rfl⟩ := Int.eq_ofNat_of_zero_le h1
  have hp : ∀ k : Nat, k < m → (2 : Nat) ^ k * 2 < 18446744073709551616 := by
    intro k hk
    have h := Nat.pow_le_pow_right (n := 2) (by omega) (show k + 1 ≤ 63 by omega)
    rw [Nat.pow_succ] at h
    omega
  go_enter Try.func52, Try.ntmps52
  go_wp2
  go_loop [3, 4] (fun p i => ∃ k q : Nat, k ≤ m ∧ i = .int .i64 k ∧ p = .int .u64 q ∧ Hid (q = 2 ^ k)) (fun _ i => m - (intOf i).toNat)
  case atStart => exact ⟨0, 1, Nat.zero_le _, rfl, rfl, rfl⟩
  case round =>
    obtain ⟨k, q, hk, rfl, rfl, hq⟩ := hrel
    by_cases hlt : k < m
    · have hb : (q : Int) * 2 < 18446744073709551616 := by have := hp k hlt; rw [← hq.out] at this; omega
      have hm : m ≤ 63 := by omega
      clear hp
      go_wp2
      go_round
      case rel => exact ⟨k + 1, q * 2, by omega, by go_num, by  rw [Int.natCast_mul]; rfl, by show q * 2 = 2 ^ (k + 1); rw [hq.out, Nat.pow_succ]⟩
      case measure => simp [intOf]; omega
    · clear hp
      go_wp2
      go_ret
      exact ⟨ret_int (by rw [hq.out]; have : k = m := by omega
                         subst this; rfl), rfl⟩
end Go.Proofs.Yticpjkbcchghjaa
