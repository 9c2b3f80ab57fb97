/- Package zig: what each call answers. -/
import Derived.Test.YtojhhcfpnbdobaaRows
import Derived.Test.YtojhhcfpnbdobaaZigM
import Derived.WalkKit
import Derived.WalkSpells
import Derived.WalkLawsBesides
import Derived.Handy
import Derived.Lib.Hide
namespace Go.Proofs.Ytojhhcfpnbdobaa
open Go.RowKit

set_option maxHeartbeats 400000 in
theorem zig_any (n : Int) (w : World) (h1 : -9223372036854775808 ≤ n) (h2 : n ≤ 9223372036854775807) :
    Calls Try.prog 24 #[.int .i64 n] w fun e w' => e = .returned (.int .u64 (M.zigS n)) ∧ w = w' := by
  have hv := Lib.hid (M.zig_val n h1 h2)
  go_enter Try.func24, Try.ntmps24
  go_wp2
  go_ret
  exact ⟨by rw [← hv.out]; rfl, rfl⟩

set_option maxHeartbeats 400000 in
theorem zag_any (n : Int) (w : World) (h1 : 0 ≤ n) (h2 : n ≤ 18446744073709551615) :
    Calls Try.prog 26 #[.int .u64 n] w fun e w' => e = .returned (.int .i64 (M.zagS n)) ∧ w = w' := by
  have hv := Lib.hid (M.zag_val n h1 h2)
  go_enter Try.func26, Try.ntmps26
  go_wp2
  go_ret
  exact ⟨by rw [← hv.out]; rfl, rfl⟩

set_option maxHeartbeats 400000 in
theorem narrow_any (n b : Int) (w : World) :
    Calls Try.prog 28 #[.int .i64 n, .int .i64 b] w fun e w' => e = .returned (.int .i64 (M.narrowS n b)) ∧ w = w' := by
  by_cases c1 : b < 1
  · have hv := Lib.hid (show M.narrowS n b = 0 from if_pos (.inl c1))
    go_enter Try.func28, Try.ntmps28
    go_wp2
    go_ret
    exact ⟨by rw [hv.out]; rfl, rfl⟩
  · by_cases c2 : 64 < b
    · have hv := Lib.hid (show M.narrowS n b = 0 from if_pos (.inr c2))
      go_enter Try.func28, Try.ntmps28
      go_wp2
      go_ret
      exact ⟨by rw [hv.out]; rfl, rfl⟩
    · have hv := Lib.hid (M.narrow_val n b (by omega) (by omega))
      go_enter Try.func28, Try.ntmps28
      go_wp2
      go_ret
      exact ⟨by rw [← hv.out]; rfl, rfl⟩

set_option maxHeartbeats 400000 in
theorem wide_any (n b : Int) (w : World) :
    Calls Try.prog 29 #[.int .u64 n, .int .i64 b] w fun e w' => e = .returned (.int .i64 (M.narrowS (wrap64 n) b)) ∧ w = w' := by
  go_enter Try.func29, Try.ntmps29
  go_wp2_with (go_at_call 28; refine (narrow_any _ _ _).mono ?_; rintro e w' ⟨rfl, rfl⟩)
  go_ret
  exact ⟨rfl, rfl⟩

set_option maxHeartbeats 400000 in
theorem fit_any (n b : Int) (w : World) :
    Calls Try.prog 30 #[.int .i64 n, .int .i64 b] w fun e w' => e = .returned (.bool (M.narrowS n b == n)) ∧ w = w' := by
  go_enter Try.func30, Try.ntmps30
  go_wp2_with (go_at_call 28; refine (narrow_any _ _ _).mono ?_; rintro e w' ⟨rfl, rfl⟩)
  go_ret
  exact ⟨rfl, rfl⟩

set_option maxHeartbeats 400000 in
theorem turn_any (u b : Int) (w : World) (h1 : 0 ≤ u) (h2 : u ≤ 4294967295) :
    Calls Try.prog 31 #[.int .u32 u, .int .i64 b] w fun e w' => e = .returned (.int .u32 (M.turnS u (b % 32))) ∧ w = w' := by
  have hk0 : 0 ≤ b % 32 := by omega
  have hk1 : b % 32 ≤ 31 := by omega
  have hk := M.and31 b
  have hv := Lib.hid (M.turn_val u (b % 32) h1 h2 hk0 hk1)
  generalize b % 32 = k at hk0 hk1 hk hv ⊢
  go_enter Try.func31, Try.ntmps31
  go_wp2
  go_ret
  exact ⟨by rw [← hv.out]; rfl, rfl⟩

/-- An array of eight bytes. -/
def agg8 (b0 b1 b2 b3 b4 b5 b6 b7 : Int) : Value := .agg #[.int .u8 b0, .int .u8 b1, .int .u8 b2, .int .u8 b3, .int .u8 b4, .int .u8 b5, .int .u8 b6, .int .u8 b7]
/-- Eight bytes of n. -/
def bytes8S (n : Int) : Value := agg8 (M.byteS n 0) (M.byteS n 1) (M.byteS n 2) (M.byteS n 3) (M.byteS n 4) (M.byteS n 5) (M.byteS n 6) (M.byteS n 7)

set_option maxHeartbeats 1000000 in
theorem bytes8_any (n : Int) (w : World) :
    Calls Try.prog 23 #[.int .i64 n] w fun e w' => e = .returned (bytes8S n) ∧ Below w.heap.size w w' := by
  have hv := Lib.hid (M.byte_vals n)
  go_enter Try.func23, Try.ntmps23
  go_wp2
  go_rounds 9
  obtain ⟨e0, e1, e2, e3, e4, e5, e6, e7⟩ := hv.out
  refine bodyPost_ret (v := bytes8S n) ?_ rfl ⟨rfl, ?_⟩
  · rw [bytes8S, agg8, ← e0, ← e1, ← e2, ← e3, ← e4, ← e5, ← e6, ← e7]
    simp [results, Try.results23, go_sem]
  · exact ((Below.refl _ _).alloc (Nat.le_refl _) _).alloc (by simp) _

section
variable (b0 b1 b2 b3 b4 b5 b6 b7 : Int)
theorem ix0 (w : World) : (Instr.index 26 (.agg #[.int .u8 b0, .int .u8 b1, .int .u8 b2, .int .u8 b3, .int .u8 b4, .int .u8 b5, .int .u8 b6, .int .u8 b7]) (.int .i64 0)).run Try.prog w = .ok (.int .u8 b0) w := by kernel_rfl
theorem ix1 (w : World) : (Instr.index 26 (.agg #[.int .u8 b0, .int .u8 b1, .int .u8 b2, .int .u8 b3, .int .u8 b4, .int .u8 b5, .int .u8 b6, .int .u8 b7]) (.int .i64 1)).run Try.prog w = .ok (.int .u8 b1) w := by kernel_rfl
theorem ix2 (w : World) : (Instr.index 26 (.agg #[.int .u8 b0, .int .u8 b1, .int .u8 b2, .int .u8 b3, .int .u8 b4, .int .u8 b5, .int .u8 b6, .int .u8 b7]) (.int .i64 2)).run Try.prog w = .ok (.int .u8 b2) w := by kernel_rfl
theorem ix3 (w : World) : (Instr.index 26 (.agg #[.int .u8 b0, .int .u8 b1, .int .u8 b2, .int .u8 b3, .int .u8 b4, .int .u8 b5, .int .u8 b6, .int .u8 b7]) (.int .i64 3)).run Try.prog w = .ok (.int .u8 b3) w := by kernel_rfl
theorem ix4 (w : World) : (Instr.index 26 (.agg #[.int .u8 b0, .int .u8 b1, .int .u8 b2, .int .u8 b3, .int .u8 b4, .int .u8 b5, .int .u8 b6, .int .u8 b7]) (.int .i64 4)).run Try.prog w = .ok (.int .u8 b4) w := by kernel_rfl
theorem ix5 (w : World) : (Instr.index 26 (.agg #[.int .u8 b0, .int .u8 b1, .int .u8 b2, .int .u8 b3, .int .u8 b4, .int .u8 b5, .int .u8 b6, .int .u8 b7]) (.int .i64 5)).run Try.prog w = .ok (.int .u8 b5) w := by kernel_rfl
theorem ix6 (w : World) : (Instr.index 26 (.agg #[.int .u8 b0, .int .u8 b1, .int .u8 b2, .int .u8 b3, .int .u8 b4, .int .u8 b5, .int .u8 b6, .int .u8 b7]) (.int .i64 6)).run Try.prog w = .ok (.int .u8 b6) w := by kernel_rfl
theorem ix7 (w : World) : (Instr.index 26 (.agg #[.int .u8 b0, .int .u8 b1, .int .u8 b2, .int .u8 b3, .int .u8 b4, .int .u8 b5, .int .u8 b6, .int .u8 b7]) (.int .i64 7)).run Try.prog w = .ok (.int .u8 b7) w := by kernel_rfl
end

set_option maxHeartbeats 1000000 in
theorem of8_any (b0 b1 b2 b3 b4 b5 b6 b7 : Int) (w : World) (h0 : 0 ≤ b0 ∧ b0 < 256) (h1 : 0 ≤ b1 ∧ b1 < 256) (h2 : 0 ≤ b2 ∧ b2 < 256) (h3 : 0 ≤ b3 ∧ b3 < 256)
    (h4 : 0 ≤ b4 ∧ b4 < 256) (h5 : 0 ≤ b5 ∧ b5 < 256) (h6 : 0 ≤ b6 ∧ b6 < 256) (h7 : 0 ≤ b7 ∧ b7 < 256) :
    Calls Try.prog 33 #[agg8 b0 b1 b2 b3 b4 b5 b6 b7] w fun e w' => e = .returned (.int .i64 (wrap64 (M.of8N b0 b1 b2 b3 b4 b5 b6 b7))) ∧ Below w.heap.size w w' := by
  have hv := Lib.hid (M.of8_val b0 b1 b2 b3 b4 b5 b6 b7 h0 h1 h2 h3 h4 h5 h6 h7)
  clear h0 h1 h2 h3 h4 h5 h6 h7
  have i0 := ix0 b0 b1 b2 b3 b4 b5 b6 b7
  have i1 := ix1 b0 b1 b2 b3 b4 b5 b6 b7
  have i2 := ix2 b0 b1 b2 b3 b4 b5 b6 b7
  have i3 := ix3 b0 b1 b2 b3 b4 b5 b6 b7
  have i4 := ix4 b0 b1 b2 b3 b4 b5 b6 b7
  have i5 := ix5 b0 b1 b2 b3 b4 b5 b6 b7
  have i6 := ix6 b0 b1 b2 b3 b4 b5 b6 b7
  have i7 := ix7 b0 b1 b2 b3 b4 b5 b6 b7
  unfold agg8
  go_enter Try.func33, Try.ntmps33
  go_wp2
  go_rounds 9
  clear i0 i1 i2 i3 i4 i5 i6 i7
  go_ret
  exact ⟨by rw [← hv.out]; rfl, (Below.refl _ _).alloc (Nat.le_refl _) _⟩
end Go.Proofs.Ytojhhcfpnbdobaa
