import Derived.Test.YtfploeefmnbpcaaGreatG30
/- The law GeoSmall: the walk. -/
namespace Go.Proofs.YtfploeefmnbpcaaGreat
open Go.RowKit

set_option maxHeartbeats 1000000 in
theorem geo_any (a b c : Int) (w : World) :
    Calls Tryz.prog 27 #[.int .i64 a, .int .i64 b, .int .i64 c] w fun e w' => e = .returned (geoV (3 + a % 4) (8 + b % 9) (2 + c % 7)) ∧ Below w.heap.size w w' := by
  have a1 : -4 < a.tmod 4 := by rw [Int.tmod_eq_emod]; split <;> omega
  have a2 : a.tmod 4 < 4 := by rw [Int.tmod_eq_emod]; split <;> omega
  have a3 : (a.tmod 4 + 4) % 4 = a % 4 := by rw [Int.tmod_eq_emod]; split <;> omega
  have b1 : -9 < b.tmod 9 := by rw [Int.tmod_eq_emod]; split <;> omega
  have b2 : b.tmod 9 < 9 := by rw [Int.tmod_eq_emod]; split <;> omega
  have b3 : (b.tmod 9 + 9) % 9 = b % 9 := by rw [Int.tmod_eq_emod]; split <;> omega
  have c1 : -7 < c.tmod 7 := by rw [Int.tmod_eq_emod]; split <;> omega
  have c2 : c.tmod 7 < 7 := by rw [Int.tmod_eq_emod]; split <;> omega
  have c3 : (c.tmod 7 + 7) % 7 = c % 7 := by rw [Int.tmod_eq_emod]; split <;> omega
  obtain ⟨A, hA⟩ : ∃ A, a.tmod 4 = A := ⟨_, rfl⟩
  obtain ⟨B, hB⟩ : ∃ B, b.tmod 9 = B := ⟨_, rfl⟩
  obtain ⟨C, hC⟩ : ∃ C, c.tmod 7 = C := ⟨_, rfl⟩
  rw [hA] at a1 a2 a3
  rw [hB] at b1 b2 b3
  rw [hC] at c1 c2 c3
  have a4 : 0 ≤ a % 4 ∧ a % 4 < 4 := by omega
  have b4 : 0 ≤ b % 9 ∧ b % 9 < 9 := by omega
  have c4 : 0 ≤ c % 7 ∧ c % 7 < 7 := by omega
  generalize a % 4 = A' at a3 a4 ⊢
  generalize b % 9 = B' at b3 b4 ⊢
  generalize c % 7 = C' at c3 c4 ⊢
  obtain ⟨a4, a5⟩ := a4
  obtain ⟨b4, b5⟩ := b4
  obtain ⟨c4, c5⟩ := c4
  go_enter Tryz.func27, Tryz.ntmps27
  go_wp2
  exact bodyPost_ret (v := geoV (3 + A') (8 + B') (2 + C')) (by simp [results, Tryz.results27, go_sem]) rfl ⟨rfl, (Below.refl _ _).alloc (Nat.le_refl _) _⟩

attribute [local irreducible] mayB logS

end Go.Proofs.YtfploeefmnbpcaaGreat
