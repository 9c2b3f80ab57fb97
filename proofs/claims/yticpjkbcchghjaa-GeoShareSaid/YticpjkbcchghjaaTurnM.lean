/- The parity goes round: numbers. No Go text here. -/
import Derived.Test.YticpjkbcchghjaaGeoM
namespace Go.Proofs.Yticpjkbcchghjaa
open Go.RowKit
namespace M

theorem diesK_nodup (m k : Nat) : (diesK m k).Nodup := List.Pairwise.filter _ List.nodup_range
theorem turn_idx (n c i k : Nat) (_ : c < n) (hi : i < n) (hk : k < n) (h : (i + c) % n = (k + c) % n) : i = k := by
  have h1 : (i + c) % n = if i + c < n then i + c else i + c - n := by
    split
    · exact Nat.mod_eq_of_lt ‹_›
    · rw [Nat.mod_eq_sub_mod (by omega)]; exact Nat.mod_eq_of_lt (by omega)
  have h2 : (k + c) % n = if k + c < n then k + c else k + c - n := by
    split
    · exact Nat.mod_eq_of_lt ‹_›
    · rw [Nat.mod_eq_sub_mod (by omega)]; exact Nat.mod_eq_of_lt (by omega)
  rw [h1, h2] at h
  split at h <;> split at h <;> omega
theorem nodup_getD {l : List Nat} (h : l.Nodup) {i j : Nat} (hi : i < l.length) (hj : j < l.length) (he : l.getD i 0 = l.getD j 0) : i = j := by
  simp only [List.getD, List.getElem?_eq_getElem hi, List.getElem?_eq_getElem hj, Option.getD_some] at he
  exact (List.getElem_inj h).1 he
theorem getD_mem {l : List Nat} {i : Nat} (hi : i < l.length) : l.getD i 0 ∈ l := by
  simp only [List.getD, List.getElem?_eq_getElem hi, Option.getD_some]; exact List.getElem_mem hi
theorem wheel_new (l : List Nat) (hl : l.Nodup) (c k : Nat) (hc : c < l.length) (hk : k < l.length) : (wheelL l c k).contains (l.getD ((k + c) % l.length) 0) = false := by
  rw [Bool.eq_false_iff]
  intro h
  rw [List.contains_iff_mem] at h
  obtain ⟨i, hi, he⟩ := List.mem_map.1 h
  have hi := List.mem_range.1 hi
  have := nodup_getD hl (Nat.mod_lt _ (by omega)) (Nat.mod_lt _ (by omega)) he
  have := turn_idx l.length c i k hc (by omega) hk this
  omega
theorem own_tab : ∀ m : Fin 256, ∀ d : Fin 8, inB m.val d.val = true → foldW (d.val :: diesK (withoutN m.val d.val) 8) = m.val ∧ inB (withoutN m.val d.val) d.val = false := by decide +kernel
theorem one_tab : ∀ d : Fin 8, foldW [d.val] = 2 ^ d.val := by decide +kernel
theorem take_new (l : List Nat) (hl : l.Nodup) (j : Nat) (hj : j < l.length) : l.getD j 0 ∉ l.take j := by
  intro h
  obtain ⟨i, hi, he⟩ := List.mem_iff_getElem.1 h
  rw [List.length_take] at hi
  rw [List.getElem_take] at he
  have hij : i < l.length := by omega
  have e2 : l.getD i 0 = l.getD j 0 := by rw [← he]; simp [List.getD, List.getElem?_eq_getElem hij]
  have := nodup_getD hl hij hj e2
  omega
theorem sum_mod (B R n i : Nat) : (B % n + (R + i) % n) % n = (i + (B % n + R % n) % n) % n := by
  rw [Nat.add_mod i, Nat.mod_mod, ← Nat.add_mod i, ← Nat.add_mod, Nat.add_comm i]
  rw [← Nat.add_assoc, Nat.add_mod (B + R) i, Nat.add_mod B R, ← Nat.add_mod (B % n + R % n) i]
end M
end Go.Proofs.Yticpjkbcchghjaa
