/- Sets of dies: numbers. No Go text here. -/
import Derived.Test.YticpjkbcchghjaaRefD
namespace Go.Proofs.Yticpjkbcchghjaa
open Go.RowKit
namespace M

def withN (m d : Nat) : Nat := if inB m d then m else m + 2 ^ d
def withoutN (m d : Nat) : Nat := if inB m d then m - 2 ^ d else m
/-- How many dies a set has. -/
def popN (m : Nat) : Nat := (diesK m 8).length
/-- Which die stands at a place. -/
def atN (m k : Nat) : Nat := (diesK m 8).getD k 0

theorem fin2 {P : Nat → Nat → Prop} (h : ∀ m : Fin 256, ∀ d : Fin 8, P m.val d.val) {m d : Nat} (hm : m < 256) (hd : d < 8) : P m d := h ⟨m, hm⟩ ⟨d, hd⟩
theorem fin1 {P : Nat → Prop} (h : ∀ m : Fin 256, P m.val) {m : Nat} (hm : m < 256) : P m := h ⟨m, hm⟩

theorem or_tab : ∀ m : Fin 256, ∀ d : Fin 8, bits BinOp.or IntKind.i64 ((m.val : Nat) : Int) ((2 ^ d.val : Nat) : Int) = ((withN m.val d.val : Nat) : Int) := by decide +kernel
theorem andNot_tab : ∀ m : Fin 256, ∀ d : Fin 8, bits BinOp.andNot IntKind.i64 ((m.val : Nat) : Int) ((2 ^ d.val : Nat) : Int) = ((withoutN m.val d.val : Nat) : Int) := by decide +kernel
theorem has_tab : ∀ m : Fin 256, ∀ d : Fin 8, bits BinOp.and IntKind.i64 ((m.val / 2 ^ d.val : Nat) : Int) 1 = (((inB m.val d.val).toNat : Nat) : Int) := by decide +kernel
theorem and1_tab : ∀ m : Fin 256, bits BinOp.and IntKind.i64 ((m.val : Nat) : Int) 1 = ((m.val % 2 : Nat) : Int) := by decide +kernel
theorem low_tab : ∀ m : Fin 256, ∀ d : Fin 8, bits BinOp.and IntKind.i64 ((m.val : Nat) : Int) ((2 ^ d.val - 1 : Nat) : Int) = ((m.val % 2 ^ d.val : Nat) : Int) := by decide +kernel
theorem spot_tab : ∀ m : Fin 256, ∀ d : Fin 8, spotFrom (diesK m.val 8) ((d.val : Nat) : Int) 0 = if inB m.val d.val then ((popN (m.val % 2 ^ d.val) : Nat) : Int) else -1 := by decide +kernel
theorem pop_tab : ∀ m : Fin 256, popN m.val = m.val % 2 + popN (m.val / 2) := by decide +kernel
theorem at_tab : ∀ m : Fin 256, ∀ k : Fin 8, k.val < popN m.val → inB m.val (atN m.val k.val) = true ∧ atN m.val k.val < 8 ∧ spotFrom (diesK m.val 8) ((atN m.val k.val : Nat) : Int) 0 = ((k.val : Nat) : Int) := by decide +kernel
theorem without_tab : ∀ m : Fin 256, ∀ d : Fin 8, withoutN m.val d.val < 256 ∧ withN m.val d.val < 256 ∧ (inB m.val d.val = true → inB (withoutN m.val d.val) d.val = false ∧ withN (withoutN m.val d.val) d.val = m.val) := by decide +kernel
theorem pop_with_tab : ∀ m : Fin 256, ∀ d : Fin 8, popN (withN m.val d.val) ≤ popN m.val + 1 := by decide +kernel
theorem in_with_tab : ∀ m : Fin 256, ∀ d : Fin 8, ∀ e : Fin 8, inB (withN m.val d.val) e.val = (inB m.val e.val || d.val == e.val) := by decide +kernel
theorem sum_tab : ∀ m : Fin 256, m.val = (inB m.val 0).toNat + 2 * (inB m.val 1).toNat + 4 * (inB m.val 2).toNat + 8 * (inB m.val 3).toNat + 16 * (inB m.val 4).toNat + 32 * (inB m.val 5).toNat + 64 * (inB m.val 6).toNat + 128 * (inB m.val 7).toNat := by decide +kernel
theorem fold_tab : ∀ m : Fin 256, (diesK m.val 8).foldl withN 0 = m.val := by decide +kernel
/-- The k-th die of a set, met by going up. -/
theorem up_tab : ∀ m : Fin 256, ∀ d : Fin 8, inB m.val d.val = true → atN m.val ((diesK m.val d.val).length) = d.val ∧ (diesK m.val d.val).length < popN m.val := by decide +kernel
theorem end_tab : ∀ m : Fin 256, ∀ d : Fin 8, m.val / 2 ^ d.val = 0 → (diesK m.val d.val).length = popN m.val := by decide +kernel

theorem same_set {a b : Nat} (ha : a < 256) (hb : b < 256) (h : ∀ e, e < 8 → inB a e = inB b e) : a = b := by
  have e1 := sum_tab ⟨a, ha⟩
  have e2 := sum_tab ⟨b, hb⟩
  simp only at e1 e2
  rw [h 0 (by omega), h 1 (by omega), h 2 (by omega), h 3 (by omega), h 4 (by omega), h 5 (by omega), h 6 (by omega), h 7 (by omega), ← e2] at e1
  exact e1

/-- Dies, one by one. -/
def foldW (l : List Nat) : Nat := l.foldl withN 0
theorem foldW_snoc (l : List Nat) (d : Nat) : foldW (l ++ [d]) = withN (foldW l) d := by unfold foldW; rw [List.foldl_append]; rfl
theorem foldW_all (l : List Nat) (h : ∀ x ∈ l, x < 8) : foldW l < 256 ∧ popN (foldW l) ≤ l.length ∧ ∀ e, e < 8 → inB (foldW l) e = l.contains e := by
  revert h
  refine snoc_ind (P := fun l => (∀ x ∈ l, x < 8) → foldW l < 256 ∧ popN (foldW l) ≤ l.length ∧ ∀ e, e < 8 → inB (foldW l) e = l.contains e) ?_ ?_ l
  · intro _
    refine ⟨by decide, by decide, fun e _ => ?_⟩
    show inB 0 e = false
    unfold inB; rw [Nat.zero_div]; rfl
  · intro l d ih h
    obtain ⟨h1, h2, h3⟩ := ih fun x hx => h x (by simp [hx])
    have hd : d < 8 := h d (by simp)
    rw [foldW_snoc]
    refine ⟨(without_tab ⟨_, h1⟩ ⟨d, hd⟩).2.1, ?_, fun e he => ?_⟩
    · have := pop_with_tab ⟨_, h1⟩ ⟨d, hd⟩
      simp only [List.length_append, List.length_singleton] at this ⊢; omega
    · have := in_with_tab ⟨_, h1⟩ ⟨d, hd⟩ ⟨e, he⟩
      simp only at this
      rw [this, h3 e he]
      simp only [List.contains_eq_any_beq, List.any_append, List.any_cons, List.any_nil, Bool.or_false]
      congr 1
      rw [Bool.eq_iff_iff]; simp; exact ⟨fun h => h.symm, fun h => h.symm⟩
theorem foldW_zero (l : List Nat) (h : ∀ x ∈ l, x < 8) : (foldW l = 0) ↔ l = [] := by
  constructor
  · intro h0
    cases l with
    | nil => rfl
    | cons d l =>
      have := (foldW_all (d :: l) h).2.2 d (h d (by simp))
      rw [h0] at this
      have e : inB 0 d = false := by unfold inB; rw [Nat.zero_div]; rfl
      rw [e] at this
      simp at this
  · rintro rfl; rfl
/-- Turned round, the same dies. -/
def wheelL (l : List Nat) (r k : Nat) : List Nat := (List.range k).map fun i => l.getD ((i + r) % l.length) 0
theorem wheelL_succ (l : List Nat) (r k : Nat) : wheelL l r (k + 1) = wheelL l r k ++ [l.getD ((k + r) % l.length) 0] := by
  unfold wheelL; rw [List.range_succ, List.map_append, List.map_singleton]
theorem getD_lt8 (l : List Nat) (h : ∀ x ∈ l, x < 8) (i : Nat) : l.getD i 0 < 8 := by
  by_cases hi : i < l.length
  · simp only [List.getD, List.getElem?_eq_getElem hi, Option.getD_some]; exact h _ (List.getElem_mem hi)
  · simp only [List.getD, List.getElem?_eq_none (Nat.le_of_not_lt hi)]; decide
theorem wheelL_lt (l : List Nat) (h : ∀ x ∈ l, x < 8) (r k : Nat) : ∀ x ∈ wheelL l r k, x < 8 := by
  intro x hx
  obtain ⟨i, _, rfl⟩ := List.mem_map.1 hx
  exact getD_lt8 l h _
theorem turn_same (l : List Nat) (h : ∀ x ∈ l, x < 8) (r : Nat) (hr : r < l.length ∨ l.length = 0) : foldW (wheelL l r l.length) = foldW l := by
  obtain ⟨a1, _, a3⟩ := foldW_all l h
  obtain ⟨b1, _, b3⟩ := foldW_all _ (wheelL_lt l h r l.length)
  refine same_set b1 a1 fun e he => ?_
  rw [a3 e he, b3 e he, Bool.eq_iff_iff, List.contains_iff_mem, List.contains_iff_mem]
  constructor
  · intro hm
    obtain ⟨i, hi, rfl⟩ := List.mem_map.1 hm
    have hi := List.mem_range.1 hi
    have hlt : (i + r) % l.length < l.length := Nat.mod_lt _ (by omega)
    simp only [List.getD, List.getElem?_eq_getElem hlt, Option.getD_some]
    exact List.getElem_mem hlt
  · intro hm
    obtain ⟨j, hj, rfl⟩ := List.mem_iff_getElem.1 hm
    have hr : r < l.length := by omega
    refine List.mem_map.2 ⟨(j + (l.length - r)) % l.length, List.mem_range.2 (Nat.mod_lt _ (by omega)), ?_⟩
    have e : ((j + (l.length - r)) % l.length + r) % l.length = j := by
      rw [Nat.mod_add_mod, show j + (l.length - r) + r = j + l.length by omega, Nat.add_mod_right, Nat.mod_eq_of_lt hj]
    rw [e]
    simp only [List.getD, List.getElem?_eq_getElem hj, Option.getD_some]
end M
end Go.Proofs.Yticpjkbcchghjaa
