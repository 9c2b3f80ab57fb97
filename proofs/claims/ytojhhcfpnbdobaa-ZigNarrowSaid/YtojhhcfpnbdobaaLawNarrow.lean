/- The law ZigNarrow: the walk. -/
import Derived.Test.YtojhhcfpnbdobaaBegun
namespace Go.Proofs.Ytojhhcfpnbdobaa
open Go.RowKit

set_option maxRecDepth 100000 in
set_option maxHeartbeats 2000000 in
theorem zigNarrow_walk (n width : Int) (w : World) (_ : (Lit.int .i64 n).wf = true) (_ : (Lit.int .i64 width).wf = true) :
    Calls Try.prog 13 #[.int .i64 n, .int .i64 width] w fun e w' => e = .returned (.bool true) ∧ Below w.heap.size w w' := by
  by_cases c : width < 1 ∨ 64 < width
  · have hv : M.narrowS n width = 0 := if_pos c
    have hb : (((0 : Int) == n) == (n == 0)) = true := by
      by_cases h : n = 0
      · subst h; rfl
      · have h1 : (n == 0) = false := by simpa using h
        have h2 : ((0 : Int) == n) = false := by simpa using fun e : 0 = n => h e.symm
        rw [h1, h2]; rfl
    rcases c with c | c
    all_goals
      go_enter Try.func13, Try.ntmps13
      go_wp2_with (first
        | (go_at_call 21; refine (begun_any _).mono ?_; rintro e w1 ⟨rfl, hb1⟩; have HB1 := Lib.hid hb1; clear hb1)
        | (go_at_call 28; refine (narrow_any _ _ _).mono ?_; rintro e w' ⟨rfl, rfl⟩)
        | (go_at_call 30; refine (fit_any _ _ _).mono ?_; rintro e w' ⟨rfl, rfl⟩))
      go_ret
      exact ⟨rfl, HB1.out⟩
  · obtain ⟨c1, c2⟩ : 1 ≤ width ∧ width ≤ 64 := by omega
    have e1 := M.narrow_again n width c1 c2
    by_cases c3 : width = 64
    · subst c3
      go_enter Try.func13, Try.ntmps13
      go_wp2_with (first
        | (go_at_call 21; refine (begun_any _).mono ?_; rintro e w1 ⟨rfl, hb1⟩; have HB1 := Lib.hid hb1; clear hb1)
        | (go_at_call 28; refine (narrow_any _ _ _).mono ?_; rintro e w' ⟨rfl, rfl⟩)
        | (go_at_call 30; refine (fit_any _ _ _).mono ?_; rintro e w' ⟨rfl, rfl⟩))
      go_ret
      exact ⟨rfl, HB1.out⟩
    · have e2 := M.narrow_more n width c1 (by omega)
      obtain ⟨k, hk⟩ : ∃ k : Nat, (width - 1).toNat = k := ⟨_, rfl⟩
      have hk62 : k ≤ 62 := by omega
      have hwk : width.toNat - 1 = k := by omega
      have e3 := M.narrow_half width c1 c2
      rw [hwk] at e3
      have hp := M.two_pow_pos k
      have hp2 : (2 : Int) ^ k ≤ 2 ^ 62 := M.two_pow_mono hk62
      have hp3 : (2 : Int) ^ 62 = 4611686018427387904 := rfl
      obtain ⟨P, hP⟩ : ∃ P : Int, 2 ^ k = P := ⟨_, rfl⟩
      rw [hP] at e3 hp hp2
      have hp4 : P ≤ 4611686018427387904 := by omega
      have hb1 : (width == 64) = false := by simpa using c3
      have hb2 : (-P == P) = false := by simp; omega
      have hPk : (2 : Int) ^ (width.toNat - 1) = P := by rw [hwk, hP]
      have hw1 : wrap64 P = P := IntWalk.wrap64_in _ (by omega)
      have hw2 : wrap64 (-P) = -P := IntWalk.wrap64_in _ (by omega)
      clear hp2 hp3 hwk hP hk c3
      go_enter Try.func13, Try.ntmps13
      go_wp2_with (first
        | (go_at_call 21; refine (begun_any _).mono ?_; rintro e w1 ⟨rfl, hbe1⟩; have HB1 := Lib.hid hbe1; clear hbe1)
        | (go_at_call 28; refine (narrow_any _ _ _).mono ?_; rintro e w' ⟨rfl, rfl⟩)
        | (go_at_call 30; refine (fit_any _ _ _).mono ?_; rintro e w' ⟨rfl, rfl⟩))
      go_ret
      exact ⟨rfl, HB1.out⟩
end Go.Proofs.Ytojhhcfpnbdobaa
