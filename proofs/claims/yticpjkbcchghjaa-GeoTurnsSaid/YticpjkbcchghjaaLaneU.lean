/- Package lane: what each call answers, whatever it is given. -/
import Derived.Test.YticpjkbcchghjaaLane
namespace Go.Proofs.Yticpjkbcchghjaa
open Go.RowKit

def hasS (m d : Int) : Bool := decide (0 ≤ spotS m d)
def countS (m : Int) : Nat := (diesS m).length
def atS (m i : Int) : Int := if 0 ≤ i ∧ i < countS m then ((diesS m).getD i.toNat 0 : Nat) else -1
def withS (m d : Int) : Int := if 0 ≤ m ∧ m ≤ 255 then (if 0 ≤ d ∧ d ≤ 7 then (if hasS m d then m else m + 2 ^ d.toNat) else m) else 0
def withoutS (m d : Int) : Int := if 0 ≤ m ∧ m ≤ 255 then (if 0 ≤ d ∧ d ≤ 7 then (if hasS m d then m - 2 ^ d.toNat else m) else m) else 0
def allS (d : Int) : Int := if 0 ≤ d ∧ d ≤ 8 then 2 ^ d.toNat - 1 else 0

theorem diesS_nat (m : Nat) (h : m < 256) : diesS (m : Int) = diesK m 8 := by unfold diesS; rw [if_pos ⟨by omega, by omega⟩, Int.toNat_natCast]
theorem diesS_none (m : Int) (h : m < 0 ∨ 255 < m) : diesS m = [] := if_neg (by omega)
theorem spotS_none (m d : Int) (h : m < 0 ∨ 255 < m ∨ d < 0 ∨ 7 < d) : spotS m d = -1 := by
  unfold spotS
  by_cases hm : m < 0 ∨ 255 < m
  · rw [diesS_none m hm]; rfl
  · obtain ⟨K, rfl⟩ : ∃ K : Nat, m = K := ⟨m.toNat, by omega⟩
    rw [diesS_nat K (by omega)]
    exact spotFrom_none _ _ _ fun x hx => by have := diesK_lt K 8 x hx; omega
theorem spotS_nat (m d : Nat) (hm : m < 256) (hd : d < 8) : spotS m d = if inB m d then ((M.popN (m % 2 ^ d) : Nat) : Int) else -1 := by
  unfold spotS; rw [diesS_nat m hm]; exact M.spot_tab ⟨m, hm⟩ ⟨d, hd⟩
theorem hasS_nat (m d : Nat) (hm : m < 256) (hd : d < 8) : hasS m d = inB m d := by
  unfold hasS; rw [spotS_nat m d hm hd]
  cases inB m d with
  | true => simp
  | false => simp
theorem hasS_none (m d : Int) (h : m < 0 ∨ 255 < m ∨ d < 0 ∨ 7 < d) : hasS m d = false := by
  unfold hasS; rw [spotS_none m d h]; rfl
theorem countS_nat (m : Nat) (h : m < 256) : countS m = M.popN m := by unfold countS; rw [diesS_nat m h]; rfl
theorem countS_none (m : Int) (h : m < 0 ∨ 255 < m) : countS m = 0 := by unfold countS; rw [diesS_none m h]; rfl

theorem has_any (m d : Int) (w : World) : Calls Try.prog 68 #[.int .i64 m, .int .i64 d] w fun e w' => e = .returned (.bool (hasS m d)) ∧ w = w' := by
  by_cases h : m < 0 ∨ 255 < m ∨ d < 0 ∨ 7 < d
  · rw [hasS_none m d h]; exact has_no m d w h
  · obtain ⟨K, rfl⟩ : ∃ K : Nat, m = K := ⟨m.toNat, by omega⟩
    obtain ⟨D, rfl⟩ : ∃ D : Nat, d = D := ⟨d.toNat, by omega⟩
    rw [hasS_nat K D (by omega) (by omega)]
    exact has_yes K D w (by omega) (by omega)
theorem count_any (m : Int) (w : World) : Calls Try.prog 47 #[.int .i64 m] w fun e w' => e = .returned (.int .i64 (countS m : Nat)) ∧ w = w' := by
  by_cases h : m < 0 ∨ 255 < m
  · rw [countS_none m h]; exact count_no m w h
  · obtain ⟨K, rfl⟩ : ∃ K : Nat, m = K := ⟨m.toNat, by omega⟩
    rw [countS_nat K (by omega)]
    exact count_yes K w (by omega)
theorem at_any (m i : Int) (w : World) (h2 : i ≤ 9223372036854775807) : Calls Try.prog 48 #[.int .i64 m, .int .i64 i] w fun e w' => e = .returned (.int .i64 (atS m i)) ∧ w = w' := by
  by_cases h : m < 0 ∨ 255 < m
  · have : atS m i = -1 := if_neg (by rw [countS_none m h]; omega)
    rw [this]; exact at_set m i w h
  · obtain ⟨K, rfl⟩ : ∃ K : Nat, m = K := ⟨m.toNat, by omega⟩
    have hc := countS_nat K (by omega)
    by_cases h0 : i < 0
    · have : atS K i = -1 := if_neg (by omega)
      rw [this]; exact at_low K i w (by omega) (by omega) h0
    by_cases h1 : i < M.popN K
    · obtain ⟨I, rfl⟩ : ∃ I : Nat, i = I := ⟨i.toNat, by omega⟩
      have : atS K I = (M.atN K I : Nat) := by
        unfold atS; rw [hc, if_pos ⟨by omega, h1⟩, diesS_nat K (by omega), Int.toNat_natCast]; rfl
      rw [this]; exact at_yes K I w (by omega) (by omega)
    · have : atS K i = -1 := if_neg (by rw [hc]; omega)
      rw [this]; exact at_high K i w (by omega) (by omega) h2
theorem in_le : ∀ m : Fin 256, ∀ d : Fin 8, inB m.val d.val = true → 2 ^ d.val ≤ m.val := by decide +kernel
theorem without_any (m d : Int) (w : World) : Calls Try.prog 67 #[.int .i64 m, .int .i64 d] w fun e w' => e = .returned (.int .i64 (withoutS m d)) ∧ w = w' := by
  by_cases h : m < 0 ∨ 255 < m
  · have : withoutS m d = 0 := if_neg (by omega)
    rw [this]; exact without_set m d w h
  · by_cases hd : d < 0 ∨ 7 < d
    · have : withoutS m d = m := by unfold withoutS; rw [if_pos ⟨by omega, by omega⟩, if_neg (by omega)]
      rw [this]; exact without_die m d w (by omega) (by omega) hd
    · obtain ⟨K, rfl⟩ : ∃ K : Nat, m = K := ⟨m.toNat, by omega⟩
      obtain ⟨D, rfl⟩ : ∃ D : Nat, d = D := ⟨d.toNat, by omega⟩
      have : withoutS K D = (M.withoutN K D : Nat) := by
        have hle := in_le ⟨K, by omega⟩ ⟨D, by omega⟩
        simp only at hle
        unfold withoutS M.withoutN
        rw [if_pos ⟨by omega, by omega⟩, if_pos ⟨by omega, by omega⟩, hasS_nat K D (by omega) (by omega), Int.toNat_natCast]
        split
        · rename_i hx
          have := hle hx
          rw [Int.natCast_sub this]; simp
        · rfl
      rw [this]; exact without_yes K D w (by omega) (by omega)
theorem all_any (d : Int) (w : World) : Calls Try.prog 69 #[.int .i64 d] w fun e w' => e = .returned (.int .i64 (allS d)) ∧ w = w' := by
  by_cases h : d < 0 ∨ 8 < d
  · have : allS d = 0 := if_neg (by omega)
    rw [this]; exact all_no d w h
  · obtain ⟨D, rfl⟩ : ∃ D : Nat, d = D := ⟨d.toNat, by omega⟩
    have : allS D = ((2 ^ D - 1 : Nat) : Int) := by
      unfold allS
      have hp : 1 ≤ 2 ^ D := Nat.one_le_two_pow
      rw [if_pos ⟨by omega, by omega⟩, Int.toNat_natCast, Int.natCast_sub hp]; simp
    rw [this]; exact all_yes D w (by omega)
theorem atS_in (m : Int) (i : Nat) (h : i < countS m) : atS m i = ((diesS m).getD i 0 : Nat) := by
  unfold atS; rw [if_pos ⟨by omega, by omega⟩, Int.toNat_natCast]
theorem atS_out (m i : Int) (h : i < 0 ∨ countS m ≤ i) : atS m i = -1 := if_neg (by omega)
theorem countS_le (m : Int) : countS m ≤ 8 := diesS_length m
end Go.Proofs.Yticpjkbcchghjaa
