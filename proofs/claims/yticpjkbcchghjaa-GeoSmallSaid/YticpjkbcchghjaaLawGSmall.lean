/- The law GeoSmall: the walk. -/
import Derived.Test.YticpjkbcchghjaaBegunG
namespace Go.Proofs.Yticpjkbcchghjaa
open Go.RowKit

set_option maxHeartbeats 1000000 in
theorem geo_any (a b c : Int) (w : World) :
    Calls Try.prog 28 #[.int .i64 a, .int .i64 b, .int .i64 c] w fun e w' => e = .returned (geoV (3 + a % 4) (8 + b % 9) (2 + c % 7)) ∧ Below w.heap.size w w' := by
  have a1 : -4 < a.tmod 4 := by rw [Int.tmod_eq_emod]; split <;> omega
  have a2 : a.tmod 4 < 4 := by rw [Int.tmod_eq_emod]; split <;> omega
  have a3 : (a.tmod 4 + 4) % 4 = a % 4 := by rw [Int.tmod_eq_emod]; split <;> omega
  have b1 : -9 < b.tmod 9 := by rw [Int.tmod_eq_emod]; split <;> omega
  have b2 : b.tmod 9 < 9 := by rw [Int.tmod_eq_emod]; split <;> omega
  have b3 : (b.tmod 9 + 9) % 9 = b % 9 := by rw [Int.tmod_eq_emod]; split <;> omega
  have c1 : -7 < c.tmod 7 := by rw [Int.tmod_eq_emod]; split <;> omega
  have c2 : c.tmod 7 < 7 := by rw [Int.tmod_eq_emod]; split <;> omega
  have c3 : (c.tmod 7 + 7) % 7 = c % 7 := by rw [Int.tmod_eq_emod]; split <;> omega
  obtain ⟨A, hA⟩ : ∃ A, a.tmod 4 = A := ⟨_, rfl⟩
  obtain ⟨B, hB⟩ : ∃ B, b.tmod 9 = B := ⟨_, rfl⟩
  obtain ⟨C, hC⟩ : ∃ C, c.tmod 7 = C := ⟨_, rfl⟩
  rw [hA] at a1 a2 a3
  rw [hB] at b1 b2 b3
  rw [hC] at c1 c2 c3
  have a4 : 0 ≤ a % 4 ∧ a % 4 < 4 := by omega
  have b4 : 0 ≤ b % 9 ∧ b % 9 < 9 := by omega
  have c4 : 0 ≤ c % 7 ∧ c % 7 < 7 := by omega
  generalize a % 4 = A' at a3 a4 ⊢
  generalize b % 9 = B' at b3 b4 ⊢
  generalize c % 7 = C' at c3 c4 ⊢
  obtain ⟨a4, a5⟩ := a4
  obtain ⟨b4, b5⟩ := b4
  obtain ⟨c4, c5⟩ := c4
  go_enter Try.func28, Try.ntmps28
  go_wp2
  exact bodyPost_ret (v := geoV (3 + A') (8 + B') (2 + C')) (by simp [results, Try.results28, go_sem]) rfl ⟨rfl, (Below.refl _ _).alloc (Nat.le_refl _) _⟩

attribute [local irreducible] mayB logS

set_option maxRecDepth 100000 in
set_option maxHeartbeats 2000000 in
theorem geoSmall_walk (a b c : Int) (w : World) (_ : (Lit.int .i64 a).wf = true) (_ : (Lit.int .i64 b).wf = true) (_ : (Lit.int .i64 c).wf = true) :
    Calls Try.prog 6 #[.int .i64 a, .int .i64 b, .int .i64 c] w fun e w' => e = .returned (.bool true) ∧ Below w.heap.size w w' := by
  have hg := fun w => geo_any a b c w
  have hD : 3 ≤ 3 + a % 4 ∧ 3 + a % 4 ≤ 6 := by omega
  have hB : 8 ≤ 8 + b % 9 ∧ 8 + b % 9 ≤ 16 := by omega
  have hP : 2 ≤ 2 + c % 7 ∧ 2 + c % 7 ≤ 8 := by omega
  generalize 3 + a % 4 = D at hg hD
  generalize 8 + b % 9 = B at hg hB
  generalize 2 + c % 7 = P at hg hP
  have hm : mayB D B P = true := by unfold mayB; exact decide_eq_true ⟨hD.1, hD.2, hB.1, hB.2, hP.1, hP.2⟩
  obtain ⟨a1, a2, a3, a4, a5, a6, q1, q3, q2, q4, hl⟩ := log_bounds hm
  have q5 : 6 ≤ (B - 5) * P := by
    have := Int.mul_le_mul (show (3 : Int) ≤ B - 5 by omega) a5 (by omega) (by omega)
    omega
  have q6 : 6 ≤ (B - 5) * P * (D - 2) := by
    have := Int.mul_le_mul q5 (show (1 : Int) ≤ D - 2 by omega) (by omega) (by omega)
    omega
  have hlog := fun w => glogical_any D B P w
  have hrlog := fun w => rlogical_any D B P w
  obtain ⟨N, hN⟩ : ∃ N, logS D B P = N := ⟨_, rfl⟩
  rw [hN] at hl hlog hrlog
  have n1 : 1 ≤ N := by omega
  have n2 : 2 * N ≤ (B - 5) * P * (D - 2) + 1 := by omega
  have n3 : N ≤ 200 := by omega
  have HG := Lib.hid hg
  have HLOG := Lib.hid hlog
  have HRLOG := Lib.hid hrlog
  clear hg hD hB hP hm hlog hrlog hN hl q5 q6
  have HB : Hid (Below w.heap.size w w) := Below.refl _ _
  go_enter Try.func6, Try.ntmps6
  go_wp2_with (go_at_call 12; (with_reducible refine (begun6_any _).mono ?_); rintro e x ⟨rfl, hbx⟩; have HB := Lib.hid (HB.out.trans (hbx.mono HB.out.size)); clear hbx)
  refine (HG.out _).mono ?_
  rintro e x1 ⟨rfl, hbx⟩
  have HB := Lib.hid (HB.out.trans (hbx.mono HB.out.size))
  clear hbx
  obtain ⟨g, hg⟩ : ∃ g, x1.heap.size = g := ⟨_, rfl⟩
  have c0 : (x1.alloc (.cells #[.int .i64 D, .int .i64 B, .int .i64 P] 23)).cell? ⟨g, 0, none⟩ = some (.int .i64 D) := by rw [World.cell?_alloc_at _ _ _ _ hg.symm]; rfl
  have c1 : (x1.alloc (.cells #[.int .i64 D, .int .i64 B, .int .i64 P] 23)).cell? ⟨g, 1, none⟩ = some (.int .i64 B) := by rw [World.cell?_alloc_at _ _ _ _ hg.symm]; rfl
  have c2 : (x1.alloc (.cells #[.int .i64 D, .int .i64 B, .int .i64 P] 23)).cell? ⟨g, 2, none⟩ = some (.int .i64 P) := by rw [World.cell?_alloc_at _ _ _ _ hg.symm]; rfl
  have hlt : g < (x1.alloc (.cells #[.int .i64 D, .int .i64 B, .int .i64 P] 23)).heap.size := by simp; omega
  have HB := Lib.hid (HB.out.alloc HB.out.size (.cells #[.int .i64 D, .int .i64 B, .int .i64 P] 23))
  have HH := Lib.hid hg
  clear hg
  go_wp2_with fail
  rw [HH.out]
  generalize x1.alloc (.cells #[.int .i64 D, .int .i64 B, .int .i64 P] 23) = x2 at c0 c1 c2 hlt HB ⊢
  refine (HLOG.out _).mono ?_
  rintro e x ⟨rfl, hbx⟩
  have c0 := (hbx.cell (p := ⟨g, 0, none⟩) hlt).trans c0
  have c1 := (hbx.cell (p := ⟨g, 1, none⟩) hlt).trans c1
  have c2 := (hbx.cell (p := ⟨g, 2, none⟩) hlt).trans c2
  have HB := Lib.hid (HB.out.trans (hbx.mono HB.out.size))
  have hlt := Nat.lt_of_lt_of_le hlt hbx.size
  clear hbx
  go_wp2_with (go_at_call 18; (with_reducible refine (HRLOG.out _).mono ?_); rintro e x ⟨rfl, hbx⟩; have c0 := (hbx.cell (p := ⟨g, 0, none⟩) hlt).trans c0; have c1 := (hbx.cell (p := ⟨g, 1, none⟩) hlt).trans c1; have c2 := (hbx.cell (p := ⟨g, 2, none⟩) hlt).trans c2; have HB := Lib.hid (HB.out.trans (hbx.mono HB.out.size)); have hlt := Nat.lt_of_lt_of_le hlt hbx.size; clear hbx)
  go_ret
  exact ⟨rfl, HB.out⟩
end Go.Proofs.Yticpjkbcchghjaa
