/- Groups of pages that are alike, found one by one. No Go text here. -/
import Derived.Test.YtobkbbbdddllmaaPage
namespace Go.Proofs.Ytobkbbbdddllmaa

/-- The group that begins at i, as far as k. -/
def grpT (ps : List (List Nat)) (i k : Nat) : List Nat := i :: (List.range k).filter fun q => decide (i < q) && decide (ps[q]? = ps[i]?)
/-- Does none ahead of i, below k, have the same page? -/
def fstT (ps : List (List Nat)) (i k : Nat) : Bool := (List.range k).all fun q => !(decide (q < i) && decide (ps[q]? = ps[i]?))

theorem grpT_yes {ps : List (List Nat)} {i k : Nat} (h : i < k) (he : ps[k]? = ps[i]?) : grpT ps i (k + 1) = grpT ps i k ++ [k] := by
  unfold grpT; rw [List.range_succ, List.filter_append]; simp [h, he]
theorem grpT_no {ps : List (List Nat)} {i k : Nat} (h : ¬ (i < k ∧ ps[k]? = ps[i]?)) : grpT ps i (k + 1) = grpT ps i k := by
  unfold grpT; rw [List.range_succ, List.filter_append]
  have : (decide (i < k) && decide (ps[k]? = ps[i]?)) = false := by
    rw [Bool.and_eq_false_iff, decide_eq_false_iff_not, decide_eq_false_iff_not]
    by_cases h1 : i < k
    · exact .inr fun h2 => h ⟨h1, h2⟩
    · exact .inl h1
  simp [this]
theorem grpT_zero (ps : List (List Nat)) (i : Nat) : grpT ps i 0 = [i] := rfl
theorem grpT_len (ps : List (List Nat)) (i k : Nat) : (grpT ps i k).length ≤ k + 1 := by
  have := List.length_filter_le (fun q => decide (i < q) && decide (ps[q]? = ps[i]?)) (List.range k)
  simp [grpT] at this ⊢; omega
theorem fstT_no {ps : List (List Nat)} {i k : Nat} (h : k < i) (he : ps[k]? = ps[i]?) : fstT ps i (k + 1) = false := by
  unfold fstT; rw [List.range_succ, List.all_append]; simp [h, he]
theorem fstT_same {ps : List (List Nat)} {i k : Nat} (h : ¬ (k < i ∧ ps[k]? = ps[i]?)) : fstT ps i (k + 1) = fstT ps i k := by
  unfold fstT
  rw [List.range_succ, List.all_append, List.all_cons, List.all_nil, Bool.and_true]
  have : (decide (k < i) && decide (ps[k]? = ps[i]?)) = false := by
    rw [Bool.and_eq_false_iff, decide_eq_false_iff_not, decide_eq_false_iff_not]
    by_cases h1 : k < i
    · exact .inr fun h2 => h ⟨h1, h2⟩
    · exact .inl h1
  rw [this]; simp
theorem fstT_zero (ps : List (List Nat)) (i : Nat) : fstT ps i 0 = true := rfl
theorem fstT_iff {ps : List (List Nat)} {i k : Nat} : fstT ps i k = true ↔ ∀ q, q < k → q < i → ps[q]? ≠ ps[i]? := by
  unfold fstT
  rw [List.all_eq_true]
  constructor
  · intro h q hq hi he
    have := h q (List.mem_range.2 hq)
    simp [hi, he] at this
  · intro h q hq
    have := h q (List.mem_range.1 hq)
    by_cases hi : q < i
    · simp [hi, this hi]
    · simp [hi]

theorem idx_before {ps : List (List Nat)} {i : Nat} {p : List Nat} (hp : ps[i]? = some p) : ∀ m, m ≤ i → fstT ps i m = true → idxP ps m p = [] := by
  intro m hm hf
  rw [fstT_iff] at hf
  unfold idxP
  rw [List.filter_eq_nil_iff]
  intro q hq
  have hq' := List.mem_range.1 hq
  have := hf q hq' (by omega)
  rw [hp] at this
  simpa using this
theorem idx_grp {ps : List (List Nat)} {i : Nat} {p : List Nat} (hp : ps[i]? = some p) : ∀ m, i < m → fstT ps i m = true → idxP ps m p = grpT ps i m
  | 0, h, _ => by omega
  | m + 1, h, hf => by
    have hf' : fstT ps i m = true := by
      rw [fstT_iff] at hf ⊢
      exact fun q hq => hf q (by omega)
    by_cases him : i = m
    · subst him
      rw [idxP_yes hp, idx_before hp i (Nat.le_refl _) hf', grpT_no (by omega)]
      unfold grpT
      have : (List.range i).filter (fun q => decide (i < q) && decide (ps[q]? = ps[i]?)) = [] := by
        rw [List.filter_eq_nil_iff]
        intro q hq
        have := List.mem_range.1 hq
        simp; omega
      rw [this]; rfl
    · have ih := idx_grp hp m (by omega) hf'
      by_cases he : ps[m]? = ps[i]?
      · rw [grpT_yes (by omega) he, ← ih]
        exact idxP_yes (he.trans hp)
      · rw [grpT_no (fun h => he h.2), ← ih]
        cases hq : ps[m]? with
        | none =>
          unfold idxP
          rw [List.range_succ, List.filter_append]
          simp [hq]
        | some q => exact idxP_no hq (fun e => he (by rw [hq, hp, e]))

theorem leads_is {ps : List (List Nat)} {n i : Nat} {p : List Nat} (hp : ps[i]? = some p) (hi : i < n) : leads ps n i = (fstT ps i n && decide (1 < (grpT ps i n).length)) := by
  have hd : ps.getD i [] = p := by rw [List.getD_eq_getElem?_getD, hp]; rfl
  unfold leads
  rw [hd]
  cases hf : fstT ps i n with
  | true =>
    rw [idx_grp hp n hi hf]
    unfold grpT
    cases (List.range n).filter (fun q => decide (i < q) && decide (ps[q]? = ps[i]?)) with
    | nil => simp
    | cons a b => simp
  | false =>
    have hex : ∃ q, q < n ∧ q < i ∧ ps[q]? = ps[i]? := by
      by_cases h : ∃ q, q < n ∧ q < i ∧ ps[q]? = ps[i]?
      · exact h
      · have : fstT ps i n = true := fstT_iff.2 fun q h1 h2 h3 => h ⟨q, h1, h2, h3⟩
        rw [hf] at this; cases this
    obtain ⟨q, h1, h2, h3⟩ := hex
    have hq : q ∈ idxP ps n p := idxP_mem.2 ⟨h1, h3.trans hp⟩
    have hs : (idxP ps n p).Pairwise (· < ·) := List.pairwise_lt_range.filter _
    simp only [Bool.false_and]
    cases hl : idxP ps n p with
    | nil => rfl
    | cons a r =>
      rw [hl] at hs hq
      have ha : a ≤ q := by
        rcases List.mem_cons.1 hq with e | e
        · omega
        · have := (List.pairwise_cons.1 hs).1 q e; omega
      cases r with
      | nil => rfl
      | cons b c => simp; omega

/-- The groups that begin below k. -/
def twT (ps : List (List Nat)) (n k : Nat) : List (List Nat) := (firsts ps n k).map fun i => grpT ps i n
theorem twT_yes {ps : List (List Nat)} {n k : Nat} (h : leads ps n k = true) : twT ps n (k + 1) = twT ps n k ++ [grpT ps k n] := by
  unfold twT; rw [firsts_yes h]; simp
theorem twT_no {ps : List (List Nat)} {n k : Nat} (h : leads ps n k = false) : twT ps n (k + 1) = twT ps n k := by
  unfold twT; rw [firsts_no h]
theorem twT_len (ps : List (List Nat)) (n k : Nat) : (twT ps n k).length ≤ k := by
  have := List.length_filter_le (leads ps n) (List.range k)
  simp [twT, firsts] at this ⊢; omega
theorem mem_firsts {ps : List (List Nat)} {n k i : Nat} (h : i ∈ firsts ps n k) : i < k ∧ leads ps n i = true := by
  simpa [firsts] using h
theorem twT_all (ps : List (List Nat)) : twT ps ps.length ps.length = twinsS ps := by
  unfold twT twinsS
  refine List.map_congr_left fun i hi => ?_
  obtain ⟨h1, h2⟩ := mem_firsts hi
  have hp : ps[i]? = some ps[i] := List.getElem?_eq_getElem h1
  rw [leads_is hp h1, Bool.and_eq_true] at h2
  rw [List.getD_eq_getElem?_getD, hp, Option.getD_some, idx_grp hp _ h1 h2.1]
theorem twinsS_two {ps : List (List Nat)} {j : Nat} {g : List Nat} (h : (twinsS ps)[j]? = some g) : 2 ≤ g.length := by
  rw [← twT_all] at h
  unfold twT at h
  rw [List.getElem?_map] at h
  cases hf : (firsts ps ps.length ps.length)[j]? with
  | none => rw [hf] at h; simp at h
  | some i =>
    rw [hf] at h
    simp only [Option.map_some, Option.some.injEq] at h
    obtain ⟨h1, h2⟩ := mem_firsts (List.mem_of_getElem? hf)
    have hp : ps[i]? = some ps[i] := List.getElem?_eq_getElem h1
    rw [leads_is hp h1, Bool.and_eq_true, decide_eq_true_eq] at h2
    rw [← h]; omega
theorem twinsS_le {ps : List (List Nat)} {j : Nat} {g : List Nat} (h : (twinsS ps)[j]? = some g) : g.length ≤ ps.length + 1 := by
  rw [← twT_all] at h
  unfold twT at h
  rw [List.getElem?_map] at h
  cases hf : (firsts ps ps.length ps.length)[j]? with
  | none => rw [hf] at h; simp at h
  | some i =>
    rw [hf] at h
    simp only [Option.map_some, Option.some.injEq] at h
    rw [← h]; exact grpT_len _ _ _
end Go.Proofs.Ytobkbbbdddllmaa
