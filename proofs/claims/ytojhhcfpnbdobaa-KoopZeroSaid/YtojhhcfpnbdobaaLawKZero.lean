/- The law KoopZero: the walk. -/
import Derived.Test.YtojhhcfpnbdobaaBegun
import Derived.Test.YtojhhcfpnbdobaaKoop
namespace Go.Proofs.Ytojhhcfpnbdobaa
open Go.RowKit

theorem zeroV_nought (n : Nat) : M.zeroV 0#32 n = 0#32 := by
  induction n with
  | zero => rfl
  | succ n ih =>
    simp only [M.zeroV]; rw [ih]; unfold M.stepV
    rw [M.topV_bits 0 (by omega)]; exact M.tK_zero 8
set_option maxRecDepth 100000 in
set_option maxHeartbeats 4000000 in
theorem koopZero_walk (s m n : Int) (w : World) (hs : (Lit.int .u32 s).wf = true) (_ : (Lit.int .i64 m).wf = true) (_ : (Lit.int .i64 n).wf = true) :
    Calls Try.prog 19 #[.int .u32 s, .int .i64 m, .int .i64 n] w fun e w' => e = .returned (.bool true) ∧ Below w.heap.size w w' := by
  obtain ⟨S, rfl⟩ := u32_vec s hs
  clear hs
  have hS := S.isLt
  by_cases c : m < 0 ∨ 300 < m ∨ n < 0 ∨ 300 < n
  · rcases c with c | c | c | c
    all_goals go_enter Try.func19, Try.ntmps19
    all_goals go_wp2_with (go_at_call 21; refine (begun_any _).mono ?_; rintro e w1 ⟨rfl, hb1⟩; have HB1 := Lib.hid hb1; clear hb1)
    all_goals go_ret
    all_goals exact ⟨rfl, HB1.out⟩
  · obtain ⟨A, rfl⟩ : ∃ A : Nat, m = A := ⟨m.toNat, by omega⟩
    obtain ⟨B, rfl⟩ : ∃ B : Nat, n = B := ⟨n.toNat, by omega⟩
    have hA : A ≤ 300 := by omega
    have hB : B ≤ 300 := by omega
    clear c
    have c1 : Hid (∀ w : World, Calls Try.prog 50 #[.int .u32 S.toNat, .int .i64 A] w fun e w' => e = .returned (.int .u32 (M.zeroV S A).toNat) ∧ w = w') := fun w => kzero_any S A w (by omega)
    have c2 : Hid (∀ w : World, Calls Try.prog 50 #[.int .u32 (M.zeroV S A).toNat, .int .i64 B] w fun e w' => e = .returned (.int .u32 (M.zeroV S (A + B)).toNat) ∧ w = w') := fun w => by rw [← M.zeroV_add]; exact kzero_any (M.zeroV S A) B w (by omega)
    have c3 : Hid (∀ w : World, Calls Try.prog 50 #[.int .u32 S.toNat, .int .i64 ((A : Int) + B)] w fun e w' => e = .returned (.int .u32 (M.zeroV S (A + B)).toNat) ∧ w = w') := fun w => kzero_any S (A + B) w (by omega)
    have c4 : Hid (∀ w : World, Calls Try.prog 50 #[.int .u32 0, .int .i64 B] w fun e w' => e = .returned (.int .u32 0) ∧ w = w') := fun w => by have := kzero_any 0#32 B w (by omega); rw [zeroV_nought] at this; exact this
    have c5 : Hid (∀ w : World, Calls Try.prog 50 #[.int .u32 S.toNat, .int .i64 0] w fun e w' => e = .returned (.int .u32 S.toNat) ∧ w = w') := fun w => kzero_any S 0 w (by omega)
    have c6 : Hid (∀ w : World, Calls Try.prog 50 #[.int .u32 S.toNat, .int .i64 1] w fun e w' => e = .returned (.int .u32 (M.stepV S 0).toNat) ∧ w = w') := fun w => kzero_any S 1 w (by omega)
    have c7 : Hid (∀ w : World, Calls Try.prog 48 #[.int .u32 S.toNat, .int .u8 0] w fun e w' => e = .returned (.int .u32 (M.stepV S 0).toNat) ∧ w = w') := fun w => kstep_any S 0 w (by omega)
    go_enter Try.func19, Try.ntmps19
    go_wp2_with (first
      | (go_at_call 21; refine (begun_any _).mono ?_; rintro e w1 ⟨rfl, hb1⟩; have HB1 := Lib.hid hb1; clear hb1)
      | (go_at_call 50; (with_reducible refine (c1.out _).mono ?_); rintro e w' ⟨rfl, rfl⟩)
      | (go_at_call 50; (with_reducible refine (c2.out _).mono ?_); rintro e w' ⟨rfl, rfl⟩)
      | (go_at_call 50; (with_reducible refine (c3.out _).mono ?_); rintro e w' ⟨rfl, rfl⟩)
      | (go_at_call 50; (with_reducible refine (c4.out _).mono ?_); rintro e w' ⟨rfl, rfl⟩)
      | (go_at_call 50; (with_reducible refine (c5.out _).mono ?_); rintro e w' ⟨rfl, rfl⟩)
      | (go_at_call 50; (with_reducible refine (c6.out _).mono ?_); rintro e w' ⟨rfl, rfl⟩)
      | (go_at_call 48; (with_reducible refine (c7.out _).mono ?_); rintro e w' ⟨rfl, rfl⟩))
    go_ret
    exact ⟨rfl, HB1.out⟩
end Go.Proofs.Ytojhhcfpnbdobaa
