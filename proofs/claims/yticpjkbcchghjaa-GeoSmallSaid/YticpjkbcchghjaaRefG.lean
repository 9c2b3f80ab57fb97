/- The reference's places. -/
import Derived.Test.YticpjkbcchghjaaLaneU
import Derived.Test.YticpjkbcchghjaaCame
import Derived.BigQuiet
import Derived.Deep.QuietTactic
namespace Go.Proofs.Yticpjkbcchghjaa
open Go.RowKit

/-- Which measures may be. -/
def mayB (d b p : Int) : Bool := decide (3 ≤ d ∧ d ≤ 6 ∧ 8 ≤ b ∧ b ≤ 16 ∧ 2 ≤ p ∧ p ≤ 8)
/-- Which places are in. -/
def inGB (d b p x y z : Int) : Bool := decide (0 ≤ x ∧ x < d ∧ 0 ≤ y ∧ y < b ∧ 0 ≤ z ∧ z < p)
def logS (d b p : Int) : Int := if mayB d b p then ((b - 5) * p * (d - 2) + 1) / 2 else 0
abbrev geoV (d b p : Int) : Value := .agg #[.int .i64 d, .int .i64 b, .int .i64 p]

theorem ret_bool {a b : Bool} (h : a = b) : Ending.returned (.bool a) = .returned (.bool b) := by rw [h]
theorem mayB_yes {d b p : Int} (h : mayB d b p = true) : 3 ≤ d ∧ d ≤ 6 ∧ 8 ≤ b ∧ b ≤ 16 ∧ 2 ≤ p ∧ p ≤ 8 := of_decide_eq_true h

set_option maxHeartbeats 1000000 in
theorem rmay_any (d b p : Int) (w : World) :
    Calls Try.prog 14 #[geoV d b p] w fun e w' => e = .returned (.bool (mayB d b p)) ∧ Below w.heap.size w w' := by
  go_enter Try.func14, Try.ntmps14
  go_wp2
  all_goals go_ret
  all_goals refine ⟨ret_bool ?_, (Below.refl _ _).alloc (Nat.le_refl _) _⟩
  all_goals (rw [Bool.eq_iff_iff]; simp only [mayB, decide_eq_true_eq, Bool.false_eq_true, false_iff]; omega)
set_option maxHeartbeats 1000000 in
theorem rin_any (d b p x y z : Int) (w : World) :
    Calls Try.prog 16 #[geoV d b p, geoV x y z] w fun e w' => e = .returned (.bool (inGB d b p x y z)) ∧ Below w.heap.size w w' := by
  go_enter Try.func16, Try.ntmps16
  go_wp2
  all_goals go_ret
  all_goals refine ⟨ret_bool ?_, ((Below.refl _ _).alloc (Nat.le_refl _) _).alloc (by simp) _⟩
  all_goals (rw [Bool.eq_iff_iff]; simp only [inGB, decide_eq_true_eq, Bool.false_eq_true, false_iff]; omega)

theorem log_table : ∀ b : Fin 12, ∀ p : Fin 8, ∀ d : Fin 5, (((b.val : Int) * (p.val + 1) * d.val + 1 : Int) / 2 ≤ 200) ∧ 0 ≤ (b.val : Int) * (p.val + 1) * d.val + 1 := by decide +kernel

set_option maxHeartbeats 1000000 in
theorem rlogical_any (d b p : Int) (w : World) :
    Calls Try.prog 18 #[geoV d b p] w fun e w' => e = .returned (.int .i64 (logS d b p)) ∧ Below w.heap.size w w' := by
  cases h : mayB d b p with
  | false =>
    have hl : logS d b p = 0 := by unfold logS; rw [h]; rfl
    rw [hl]
    have hm := fun w => rmay_any d b p w
    rw [h] at hm
    have HM := Lib.hid hm
    clear h hl hm
    go_enter Try.func18, Try.ntmps18
    go_wp2_with (go_at_call 14; (with_reducible refine (HM.out _).mono ?_); rintro e w1 ⟨rfl, hb⟩)
    go_ret
    exact ⟨rfl, ((Below.refl _ _).alloc (Nat.le_refl _) _).trans (hb.mono (by simp))⟩
  | true =>
    have hl : logS d b p = ((b - 5) * p * (d - 2) + 1) / 2 := by unfold logS; rw [h]; rfl
    obtain ⟨a1, a2, a3, a4, a5, a6⟩ := mayB_yes h
    have hm := fun w => rmay_any d b p w
    rw [h] at hm
    have HM := Lib.hid hm
    have q1 : 0 ≤ (b - 5) * p ∧ (b - 5) * p ≤ 88 := by
      have h1 := Int.mul_nonneg (show 0 ≤ b - 5 by omega) (show 0 ≤ p by omega)
      have h2 := Int.mul_le_mul (show b - 5 ≤ 11 by omega) a6 (by omega) (by omega)
      exact ⟨h1, h2⟩
    have q2 : 0 ≤ (b - 5) * p * (d - 2) ∧ (b - 5) * p * (d - 2) ≤ 352 := by
      have h1 := Int.mul_nonneg q1.1 (show 0 ≤ d - 2 by omega)
      have h2 := Int.mul_le_mul q1.2 (show d - 2 ≤ 4 by omega) (by omega) (by omega)
      exact ⟨h1, h2⟩
    obtain ⟨q1, q3⟩ := q1
    obtain ⟨q2, q4⟩ := q2
    have HL := Lib.hid hl
    clear h hl hm
    go_enter Try.func18, Try.ntmps18
    go_wp2_with (go_at_call 14; (with_reducible refine (HM.out _).mono ?_); rintro e w1 ⟨rfl, hb⟩; have hc0 := (hb.cell (p := ⟨w.heap.size, 0, none⟩) (by simp)); have hc1 := (hb.cell (p := ⟨w.heap.size, 1, none⟩) (by simp)); have hc2 := (hb.cell (p := ⟨w.heap.size, 2, none⟩) (by simp)))
    go_ret
    exact ⟨ret_int HL.out.symm, ((Below.refl _ _).alloc (Nat.le_refl _) _).trans (hb.mono (by simp))⟩
end Go.Proofs.Yticpjkbcchghjaa
