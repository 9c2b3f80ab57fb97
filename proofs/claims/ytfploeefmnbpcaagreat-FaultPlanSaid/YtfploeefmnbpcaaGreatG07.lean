import Derived.Test.YtfploeefmnbpcaaGreatG06
/- Rows of sets: numbers. No Go text here. -/
namespace Go.Proofs.YtfploeefmnbpcaaGreat
open Go.RowKit

namespace M
theorem filt_tab : ∀ m : Fin 256, ∀ d : Fin 8, inB m.val d.val = true → (diesK m.val 8).filter (fun x : Nat => (x : Int) != ((d.val : Nat) : Int)) = diesK (withoutN m.val d.val) 8 := by decide +kernel
theorem mem_tab : ∀ m : Fin 256, ∀ x ∈ diesK m.val 8, inB m.val x = true ∧ x < 8 := by decide +kernel
theorem pop_without_tab : ∀ m : Fin 256, ∀ d : Fin 8, inB m.val d.val = true → popN (withoutN m.val d.val) + 1 = popN m.val := by decide +kernel
end M

/-- What a parity is: none, or a die of the set. -/
theorem par_cases (m b r : Int) : parS m b r = -1 ∨ ∃ K D : Nat, m = K ∧ K < 256 ∧ parS m b r = D ∧ D < 8 ∧ inB K D = true ∧ 2 ≤ M.popN K ∧ 0 ≤ b ∧ 0 ≤ r := by
  by_cases h : 2 ≤ countS m ∧ 0 ≤ b ∧ 0 ≤ r
  · right
    obtain ⟨h2, hb, hr⟩ := h
    have hm : ¬ (m < 0 ∨ 255 < m) := fun h => by have := countS_none m h; omega
    obtain ⟨K, rfl⟩ : ∃ K : Nat, m = K := ⟨m.toNat, by omega⟩
    have hK : K < 256 := by omega
    have hc := countS_nat K hK
    have g5 := Int.emod_nonneg (b % countS K + r % countS K) (show (countS K : Int) ≠ 0 by omega)
    have g6 := Int.emod_lt_of_pos (b % countS K + r % countS K) (show (0 : Int) < countS K by omega)
    obtain ⟨i, hi⟩ : ∃ i : Nat, (b % countS K + r % countS K) % countS K = i := ⟨((b % countS K + r % countS K) % countS K).toNat, by omega⟩
    have hp : parS K b r = ((diesS K).getD i 0 : Nat) := by unfold parS; rw [if_pos ⟨h2, hb, hr⟩, hi, Int.toNat_natCast]
    have hil : i < (diesK K 8).length := by show i < M.popN K; omega
    rw [diesS_nat K hK] at hp
    have hmem : (diesK K 8).getD i 0 ∈ diesK K 8 := by
      simp only [List.getD, List.getElem?_eq_getElem hil, Option.getD_some]; exact List.getElem_mem hil
    obtain ⟨h3, h4⟩ := M.mem_tab ⟨K, hK⟩ _ hmem
    exact ⟨K, _, rfl, hK, hp, h4, h3, by omega, hb, hr⟩
  · left
    exact if_neg h
theorem without_nat (K D : Nat) (hK : K < 256) (hD : D < 8) : withoutS K D = (M.withoutN K D : Nat) := by
  have hle := in_le ⟨K, by omega⟩ ⟨D, by omega⟩
  simp only at hle
  unfold withoutS M.withoutN
  rw [if_pos ⟨by omega, by omega⟩, if_pos ⟨by omega, by omega⟩, hasS_nat K D (by omega) (by omega), Int.toNat_natCast]
  split
  · rename_i hx
    have := hle hx
    rw [Int.natCast_sub this]; simp
  · rfl
theorem others_without (m b r : Int) (h : 0 ≤ parS m b r) : othersS m b r = diesS (withoutS m (parS m b r)) := by
  rcases par_cases m b r with h0 | ⟨K, D, rfl, hK, hp, hD, hin, _⟩
  · omega
  · unfold othersS
    rw [if_pos h, hp, without_nat K D hK hD, diesS_nat K hK, diesS_nat _ (M.without_tab ⟨K, hK⟩ ⟨D, hD⟩).1]
    exact M.filt_tab ⟨K, hK⟩ ⟨D, hD⟩ hin
theorem others_none (m b r : Int) (h : parS m b r < 0) : othersS m b r = [] := if_neg (by omega)
theorem die_without (m b r s : Int) (h : 0 ≤ parS m b r) : dieS m b r s = atS (withoutS m (parS m b r)) s := by
  unfold dieS atS countS; rw [others_without m b r h]
theorem die_none (m b r s : Int) (h : parS m b r < 0) : dieS m b r s = -1 := by
  unfold dieS; rw [others_none m b r h]; exact if_neg (by simp)
theorem slot_without (m b r d : Int) (h : 0 ≤ parS m b r) : slotS m b r d = spotS (withoutS m (parS m b r)) d := by
  unfold slotS spotS; rw [others_without m b r h]
theorem slot_none (m b r d : Int) (h : parS m b r < 0) : slotS m b r d = -1 := by
  unfold slotS; rw [others_none m b r h]; rfl
end Go.Proofs.YtfploeefmnbpcaaGreat
