/- Package zig: what each call answers. -/
import Derived.Test.YticpjkbcchghjaaRows
import Derived.Test.YticpjkbcchghjaaZigM
import Derived.WalkKit
import Derived.WalkSpells
import Derived.WalkLawsBesides
import Derived.Handy
import Derived.Lib.Hide
namespace Go.Proofs.Yticpjkbcchghjaa
open Go.RowKit

set_option maxHeartbeats 400000 in
theorem zig_any (n : Int) (w : World) (h1 : -9223372036854775808 ≤ n) (h2 : n ≤ 9223372036854775807) :
    Calls Try.prog 82 #[.int .i64 n] w fun e w' => e = .returned (.int .u64 (M.zigS n)) ∧ w = w' := by
  have hv := Lib.hid (M.zig_val n h1 h2)
  go_enter Try.func82, Try.ntmps82
  go_wp2
  go_ret
  exact ⟨by rw [← hv.out]; rfl, rfl⟩

set_option maxHeartbeats 400000 in
theorem zag_any (n : Int) (w : World) (h1 : 0 ≤ n) (h2 : n ≤ 18446744073709551615) :
    Calls Try.prog 83 #[.int .u64 n] w fun e w' => e = .returned (.int .i64 (M.zagS n)) ∧ w = w' := by
  have hv := Lib.hid (M.zag_val n h1 h2)
  go_enter Try.func83, Try.ntmps83
  go_wp2
  go_ret
  exact ⟨by rw [← hv.out]; rfl, rfl⟩

set_option maxHeartbeats 400000 in
theorem narrow_any (n b : Int) (w : World) :
    Calls Try.prog 84 #[.int .i64 n, .int .i64 b] w fun e w' => e = .returned (.int .i64 (M.narrowS n b)) ∧ w = w' := by
  by_cases c1 : b < 1
  · have hv := Lib.hid (show M.narrowS n b = 0 from if_pos (.inl c1))
    go_enter Try.func84, Try.ntmps84
    go_wp2
    go_ret
    exact ⟨by rw [hv.out]; rfl, rfl⟩
  · by_cases c2 : 64 < b
    · have hv := Lib.hid (show M.narrowS n b = 0 from if_pos (.inr c2))
      go_enter Try.func84, Try.ntmps84
      go_wp2
      go_ret
      exact ⟨by rw [hv.out]; rfl, rfl⟩
    · have hv := Lib.hid (M.narrow_val n b (by omega) (by omega))
      go_enter Try.func84, Try.ntmps84
      go_wp2
      go_ret
      exact ⟨by rw [← hv.out]; rfl, rfl⟩

set_option maxHeartbeats 400000 in
theorem turn_any (u b : Int) (w : World) (h1 : 0 ≤ u) (h2 : u ≤ 4294967295) :
    Calls Try.prog 85 #[.int .u32 u, .int .i64 b] w fun e w' => e = .returned (.int .u32 (M.turnS u (b % 32))) ∧ w = w' := by
  have hk0 : 0 ≤ b % 32 := by omega
  have hk1 : b % 32 ≤ 31 := by omega
  have hk := M.and31 b
  have hv := Lib.hid (M.turn_val u (b % 32) h1 h2 hk0 hk1)
  generalize b % 32 = k at hk0 hk1 hk hv ⊢
  go_enter Try.func85, Try.ntmps85
  go_wp2
  go_ret
  exact ⟨by rw [← hv.out]; rfl, rfl⟩

/-- An array of eight bytes. -/
def agg8 (b0 b1 b2 b3 b4 b5 b6 b7 : Int) : Value := .agg #[.int .u8 b0, .int .u8 b1, .int .u8 b2, .int .u8 b3, .int .u8 b4, .int .u8 b5, .int .u8 b6, .int .u8 b7]
/-- Eight bytes of n. -/
def bytes8S (n : Int) : Value := agg8 (M.byteS n 0) (M.byteS n 1) (M.byteS n 2) (M.byteS n 3) (M.byteS n 4) (M.byteS n 5) (M.byteS n 6) (M.byteS n 7)

section
variable (b0 b1 b2 b3 b4 b5 b6 b7 : Int)
end

end Go.Proofs.Yticpjkbcchghjaa
