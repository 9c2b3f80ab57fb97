/- Things by places, in order, told by a list. No Go text here. -/
import Derived.Test.YtobkbbbdddllmaaEqA
namespace Go.Proofs.Ytobkbbbdddllmaa
open Mp

def fV (p : A3 × Int) : A3 × Value := (p.1, .int .i64 p.2)
def SortedT (T : List (A3 × Int)) : Prop := (T.map (·.1)).Pairwise ltA
/-- All ahead of k lie ahead of a. -/
def Upto (T : List (A3 × Int)) (a : A3) (k : Nat) : Prop := ∀ i p, T[i]? = some p → i < k → ltA p.1 a

theorem sorted_split {T : List (A3 × Int)} (hs : SortedT T) (k : Nat) : SortedT (T.take k) ∧ SortedT (T.drop k) ∧ ∀ p ∈ T.take k, ∀ q ∈ T.drop k, ltA p.1 q.1 := by
  unfold SortedT at *
  have e : T.map (·.1) = (T.take k).map (·.1) ++ (T.drop k).map (·.1) := by rw [← List.map_append, List.take_append_drop]
  rw [e, List.pairwise_append] at hs
  exact ⟨hs.1, hs.2.1, fun p hp q hq => hs.2.2 p.1 (List.mem_map.2 ⟨p, hp, rfl⟩) q.1 (List.mem_map.2 ⟨q, hq, rfl⟩)⟩
theorem upto_take {T : List (A3 × Int)} {a : A3} {k : Nat} (h : Upto T a k) : ∀ p ∈ T.take k, ltA p.1 a := fun p hp => by
  obtain ⟨i, hi⟩ := List.getElem?_of_mem hp
  rw [List.getElem?_take] at hi
  split at hi
  · rename_i h1; exact h i p hi h1
  · cases hi
theorem drop_cons {T : List (A3 × Int)} {k : Nat} {p : A3 × Int} (hp : T[k]? = some p) : T.drop k = p :: T.drop (k + 1) := by
  have hk := (List.getElem?_eq_some_iff.1 hp).1
  rw [List.drop_eq_getElem_cons hk]
  rw [List.getElem?_eq_getElem hk] at hp
  rw [Option.some.inj hp]
/-- All from k on lie behind a. -/
theorem drop_behind {T : List (A3 × Int)} {a : A3} {k : Nat} (hs : SortedT T) (hstop : ∀ p, T[k]? = some p → ¬ ltA p.1 a) (hno : ∀ n, T[k]? ≠ some (a, n)) : ∀ p ∈ T.drop k, ltA a p.1 := by
  cases hk : T[k]? with
  | none =>
    have : T.length ≤ k := by
      rcases Nat.lt_or_ge k T.length with h | h
      · rw [List.getElem?_eq_getElem h] at hk; cases hk
      · exact h
    rw [List.drop_eq_nil_of_le this]; intro p hp; simp at hp
  | some q =>
    have h1 := hstop q hk
    have hq : ltA a q.1 := by
      by_cases h2 : ltA a q.1
      · exact h2
      · have e := ltA_total h1 h2
        obtain ⟨x, n⟩ := q
        simp only at e
        subst e
        exact absurd hk (hno n)
    have hd := (sorted_split hs k).2.1
    rw [drop_cons hk] at hd ⊢
    unfold SortedT at hd
    rw [List.map_cons, List.pairwise_cons] at hd
    intro p hp
    rcases List.mem_cons.1 hp with rfl | hp
    · exact hq
    · exact ltA_trans hq (hd.1 p.1 (List.mem_map.2 ⟨p, hp, rfl⟩))

theorem not_there {T : List (A3 × Int)} {a : A3} {k : Nat} (hs : SortedT T) (hu : Upto T a k) (hstop : ∀ p, T[k]? = some p → ¬ ltA p.1 a) (hno : ∀ n, T[k]? ≠ some (a, n)) : ∀ p ∈ T, p.1 ≠ a := by
  intro p hp e
  rw [← List.take_append_drop k T] at hp
  rcases List.mem_append.1 hp with h | h
  · have := upto_take hu p h
    rw [e] at this; exact ltA_irrefl a this
  · have := drop_behind hs hstop hno p h
    rw [e] at this; exact ltA_irrefl a this
theorem fV_keys (T : List (A3 × Int)) : (T.map fV).map (·.1) = T.map (·.1) := by simp [fV]
theorem fV_nodup {T : List (A3 × Int)} (hs : SortedT T) : ((T.map fV).map (·.1)).Nodup := by rw [fV_keys]; exact sorted_nodup hs
theorem getA_there {T : List (A3 × Int)} {a : A3} {k : Nat} {n : Int} (hs : SortedT T) (h : T[k]? = some (a, n)) : getA (T.map fV) a = some (.int .i64 n) :=
  getA_of_mem (fV_nodup hs) (List.mem_map.2 ⟨(a, n), List.mem_of_getElem? h, rfl⟩)
theorem getA_not {T : List (A3 × Int)} {a : A3} (h : ∀ p ∈ T, p.1 ≠ a) : getA (T.map fV) a = none :=
  getA_none fun p hp => by
    obtain ⟨q, hq, rfl⟩ := List.mem_map.1 hp
    exact h q hq

def insT (T : List (A3 × Int)) (k : Nat) (a : A3) (n : Int) : List (A3 × Int) := T.take k ++ (a, n) :: T.drop k
def delT (T : List (A3 × Int)) (k : Nat) : List (A3 × Int) := T.take k ++ T.drop (k + 1)

theorem ins_sorted {T : List (A3 × Int)} {a : A3} {k : Nat} (n : Int) (hs : SortedT T) (hu : Upto T a k) (hstop : ∀ p, T[k]? = some p → ¬ ltA p.1 a) (hno : ∀ n, T[k]? ≠ some (a, n)) : SortedT (insT T k a n) := by
  obtain ⟨h1, h2, h3⟩ := sorted_split hs k
  unfold SortedT insT at *
  rw [List.map_append, List.map_cons, List.pairwise_append, List.pairwise_cons]
  refine ⟨h1, ⟨fun x hx => ?_, h2⟩, fun x hx y hy => ?_⟩
  · obtain ⟨q, hq, rfl⟩ := List.mem_map.1 hx
    exact drop_behind hs hstop hno q hq
  · obtain ⟨p, hp, rfl⟩ := List.mem_map.1 hx
    rcases List.mem_cons.1 hy with rfl | hy
    · exact upto_take hu p hp
    · obtain ⟨q, hq, rfl⟩ := List.mem_map.1 hy
      exact h3 p hp q hq
theorem delA_all {l : List (A3 × Value)} {a : A3} (h : ∀ p ∈ l, p.1 ≠ a) : delA l a = l := List.filter_eq_self.2 fun p hp => by simpa using h p hp
theorem ins_perm {T : List (A3 × Int)} {a : A3} (k : Nat) (n : Int) (h : ∀ p ∈ T, p.1 ≠ a) : ((a, .int .i64 n) :: delA (T.map fV) a).Perm ((insT T k a n).map fV) := by
  rw [delA_all (fun p hp => by obtain ⟨q, hq, rfl⟩ := List.mem_map.1 hp; exact h q hq)]
  unfold insT
  rw [List.map_append, List.map_cons]
  have := (List.perm_middle (a := fV (a, n)) (l₁ := (T.take k).map fV) (l₂ := (T.drop k).map fV)).symm
  rw [← List.map_append, List.take_append_drop] at this
  exact this
theorem del_filter {T : List (A3 × Int)} {a : A3} {k : Nat} {n : Int} (hs : SortedT T) (h : T[k]? = some (a, n)) : delA (T.map fV) a = (delT T k).map fV := by
  obtain ⟨h1, h2, h3⟩ := sorted_split hs k
  rw [drop_cons h] at h2 h3
  have e : T.map fV = (T.take k).map fV ++ fV (a, n) :: (T.drop (k + 1)).map fV := by
    rw [← List.map_cons, ← drop_cons h, ← List.map_append, List.take_append_drop]
  unfold delA delT
  rw [e, List.filter_append, List.filter_cons, List.map_append]
  have k1 : ((T.take k).map fV).filter (fun p => !decide (p.1 = a)) = (T.take k).map fV := List.filter_eq_self.2 fun p hp => by
    obtain ⟨q, hq, rfl⟩ := List.mem_map.1 hp
    have := h3 q hq (a, n) List.mem_cons_self
    have hne : q.1 ≠ a := fun e => by rw [e] at this; exact ltA_irrefl a this
    show (!decide (q.1 = a)) = true
    rw [decide_eq_false hne]; rfl
  have k2 : ((T.drop (k + 1)).map fV).filter (fun p => !decide (p.1 = a)) = (T.drop (k + 1)).map fV := List.filter_eq_self.2 fun p hp => by
    obtain ⟨q, hq, rfl⟩ := List.mem_map.1 hp
    unfold SortedT at h2
    rw [List.map_cons, List.pairwise_cons] at h2
    have := h2.1 q.1 (List.mem_map.2 ⟨q, hq, rfl⟩)
    have hne : q.1 ≠ a := fun e => by rw [e] at this; exact ltA_irrefl a this
    show (!decide (q.1 = a)) = true
    rw [decide_eq_false hne]; rfl
  rw [k1, k2]
  simp [fV]
theorem del_sorted {T : List (A3 × Int)} {k : Nat} (hs : SortedT T) : SortedT (delT T k) := by
  unfold SortedT delT at *
  refine hs.sublist (List.Sublist.map _ ?_)
  have := List.Sublist.append_left (List.drop_sublist_drop_left T (Nat.le_succ k)) (T.take k)
  rwa [List.take_append_drop] at this
def setT (T : List (A3 × Int)) (k : Nat) (a : A3) (n : Int) : List (A3 × Int) := T.take k ++ (a, n) :: T.drop (k + 1)
theorem set_keys {T : List (A3 × Int)} {a : A3} {k : Nat} {m : Int} (n : Int) (h : T[k]? = some (a, m)) : (setT T k a n).map (·.1) = T.map (·.1) := by
  have : T = T.take k ++ (a, m) :: T.drop (k + 1) := by rw [← drop_cons h, List.take_append_drop]
  unfold setT
  conv => rhs; rw [this]
  simp
theorem set_perm' {T : List (A3 × Int)} {a : A3} {k : Nat} {m : Int} (n : Int) (hs : SortedT T) (h : T[k]? = some (a, m)) : ((a, .int .i64 n) :: delA (T.map fV) a).Perm ((setT T k a n).map fV) := by
  rw [del_filter hs h]
  unfold delT setT
  rw [List.map_append, List.map_append, List.map_cons]
  exact List.perm_middle.symm

/-- The cells of the places; the numbers. -/
def cellsT (T : List (A3 × Int)) : List Value := T.flatMap fun p => cellsA p.1
def numsT (T : List (A3 × Int)) : List Value := T.map fun p => .int .i64 p.2
theorem cellsT_len (T : List (A3 × Int)) : (cellsT T).length = T.length * 3 := by
  induction T with
  | nil => rfl
  | cons p r ih => simp only [cellsT, List.flatMap_cons, List.length_append, List.length_cons] at ih ⊢; rw [ih]; simp [cellsA]; omega
theorem cellsT_append (A B : List (A3 × Int)) : cellsT (A ++ B) = cellsT A ++ cellsT B := by simp [cellsT]
theorem cellsT_take (T : List (A3 × Int)) (k : Nat) (hk : k ≤ T.length) : (cellsT T).take (k * 3) = cellsT (T.take k) := by
  have e : cellsT T = cellsT (T.take k) ++ cellsT (T.drop k) := by rw [← cellsT_append, List.take_append_drop]
  have hl : (cellsT (T.take k)).length = k * 3 := by rw [cellsT_len, List.length_take, Nat.min_eq_left hk]
  rw [e, List.take_left' hl]
theorem cellsT_drop (T : List (A3 × Int)) (k : Nat) (hk : k ≤ T.length) : (cellsT T).drop (k * 3) = cellsT (T.drop k) := by
  have e : cellsT T = cellsT (T.take k) ++ cellsT (T.drop k) := by rw [← cellsT_append, List.take_append_drop]
  have hl : (cellsT (T.take k)).length = k * 3 := by rw [cellsT_len, List.length_take, Nat.min_eq_left hk]
  rw [e, List.drop_left' hl]
theorem cellsT_fst (T : List (A3 × Int)) : cellsT T = (T.map (·.1)).flatMap cellsA := by simp [cellsT, List.flatMap_map]
end Go.Proofs.Ytobkbbbdddllmaa
