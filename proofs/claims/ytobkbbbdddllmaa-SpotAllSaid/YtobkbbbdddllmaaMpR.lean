/- A range over a map, told by the keys that are still to come. -/
import Derived.Test.YtobkbbbdddllmaaMp
namespace Go.Proofs.Ytobkbbbdddllmaa.Mp
open Go Go.MapKept Go.ChangeMaps Go.Maps Go.RowKit
set_option linter.unusedVariables false

section
variable {P : Program} {k : TypeId} {α : Type} {E : KeyEnc P k α} {l : List (α × Value)} {b r : Nat} {t e : TypeId} {w : World}

/-- Block r goes over the map in block b, which has l; rest: what is still to come. -/
def RangeIs (E : KeyEnc P k α) (w : World) (b r : Nat) (l rest : List (α × Value)) : Prop :=
  ∃ es clock since seen c0, w.heap[b]? = some (.map es clock) ∧ Ents E es clock l ∧ w.heap[r]? = some (.mapIter (some b) since seen c0) ∧ (∀ x ∈ es.toList, x.born < since) ∧ since ≤ c0 ∧ since ≤ clock ∧
    (((leftOf es seen).toList.map fun e => (e.key, e.val)).Perm (rest.map fun p => (E.enc p.1, p.2))) ∧ (∀ p ∈ rest, p ∈ l)

theorem RangeIs.map {rest : List (α × Value)} (h : RangeIs E w b r l rest) : MapIs E w b l := by
  obtain ⟨es, clock, _, _, _, hb, he, _⟩ := h; exact ⟨_, hb, _, _, rfl, he⟩
theorem RangeIs.lt {rest : List (α × Value)} (h : RangeIs E w b r l rest) : r < w.heap.size := by
  obtain ⟨es, clock, since, seen, c0, _, _, hr, _⟩ := h; exact (Array.getElem?_eq_some_iff.1 hr).1
theorem RangeIs.of_blocks {rest : List (α × Value)} {w' : World} (h : RangeIs E w b r l rest) (hb : w'.heap[b]? = w.heap[b]?) (hr : w'.heap[r]? = w.heap[r]?) : RangeIs E w' b r l rest := by
  obtain ⟨es, clock, since, seen, c0, h1, h2, h3, h4⟩ := h
  exact ⟨es, clock, since, seen, c0, hb.trans h1, h2, hr.trans h3, h4⟩
/-- The measure. -/
theorem RangeIs.left {rest : List (α × Value)} (h : RangeIs E w b r l rest) : w.rangeLeft b r = rest.length := by
  obtain ⟨es, clock, since, seen, c0, hb, _, hr, _, _, _, hp, _⟩ := h
  simp only [World.rangeLeft, hb, hr]
  have := hp.length_eq
  simpa using this

/-- 'range m'. -/
theorem MapIs.range (h : MapIs E w b l) (ht : P.underlying t = some (.map k e)) :
    ∃ w', (Instr.range t (.map (some b))).run P w = .ok (.pointer (some ⟨w.heap.size, 0, none⟩)) w' ∧ RangeIs E w' b w.heap.size l l ∧ w.grownBy w' none ∧ w'.heap.size = w.heap.size + 1 := by
  have hlt := h.lt
  obtain ⟨o, ho, es, clock, rfl, he⟩ := h
  refine ⟨_, run_range_map w t k e b es clock ht ho, ⟨es, clock, clock, #[], clock, ((MapKept.heap_alloc w _).2 b hlt).trans ho, he, (MapKept.heap_alloc w _).1, he.stamped.1, Nat.le_refl _, Nat.le_refl _, ?_, fun p hp => hp⟩, World.grownBy_alloc w _ none, by simp⟩
  have : leftOf es #[] = es := by unfold leftOf; simp
  rw [this]
  exact he.perm

/-- The step. -/
theorem RangeIs.next {rest : List (α × Value)} (h : RangeIs E w b r l rest) (ty : TypeId) :
    (rest = [] ∧ (Instr.next (.pointer (some ⟨r, 0, none⟩)) false ty).run P w = .ok (.tuple #[.bool false]) w) ∨
    ∃ a v rest' w', rest.Perm ((a, v) :: rest') ∧ (Instr.next (.pointer (some ⟨r, 0, none⟩)) false ty).run P w = .ok (.tuple #[.bool true, E.enc a, v]) w' ∧
      RangeIs E w' b r l rest' ∧ w.grownBy w' (some r) ∧ w'.heap.size = w.heap.size ∧ (Instr.entry (.pointer (some ⟨r, 0, none⟩))).run P w' = .ok (.tuple #[E.enc a, v]) w' := by
  obtain ⟨es, clock, since, seen, c0, hb, he, hr, hold, hsc, hsk, hp, hin⟩ := h
  have hne : r ≠ b := fun e1 => by rw [e1, hb] at hr; cases hr
  rcases run_next_at (P := P) w ty r b since c0 seen es clock hr hb hold hsc with ⟨h0, hrun⟩ | ⟨x, hx, w1, hal, hrun⟩
  · refine .inl ⟨?_, hrun⟩
    have := hp.length_eq
    simp only [List.length_map, Array.length_toList, h0] at this
    exact List.eq_nil_of_length_eq_zero this.symm
  · right
    obtain ⟨hxm, hxs⟩ := mem_left hx
    have hmem : (x.key, x.val) ∈ rest.map fun p => (E.enc p.1, p.2) := hp.mem_iff.1 (List.mem_map.2 ⟨x, hx, rfl⟩)
    obtain ⟨⟨a, v⟩, hav, e1⟩ := List.mem_map.1 hmem
    simp only [Prod.mk.injEq] at e1
    obtain ⟨e2, e3⟩ := e1
    obtain ⟨s1, s2, hrest⟩ := List.append_of_mem hav
    have hperm : rest.Perm ((a, v) :: (s1 ++ s2)) := by rw [hrest]; exact List.perm_middle
    have hr1 : w1.heap[r]? = some (.mapIter (some b) since seen c0) := by rcases hal with rfl | rfl <;> exact hr
    have hb1 : w1.heap[b]? = some (.map es clock) := by rcases hal with rfl | rfl <;> exact hb
    have hset := heap_set (o' := .mapIter (some b) since (seen.push x.born) clock) hr1
    have hb' : (setBlock w1 r (.mapIter (some b) since (seen.push x.born) clock)).heap[b]? = some (.map es clock) := (hset.2 b (fun e1 => hne e1.symm)).trans hb1
    have hrun2 : (Instr.next (.pointer (some ⟨r, 0, none⟩)) false ty).run P w = .ok (.tuple #[.bool true, E.enc a, v]) (setBlock w1 r (.mapIter (some b) since (seen.push x.born) clock)) := by rw [e2, e3]; exact hrun
    refine ⟨a, v, s1 ++ s2, _, hperm, hrun2, ⟨es, clock, since, seen.push x.born, clock, hb', he, hset.1, hold, hsk, hsk, ?_, fun p hp' => hin p (hperm.mem_iff.2 (List.mem_cons_of_mem _ hp'))⟩, ?_, ?_, ?_⟩
    · -- what is left
      have hborn : (es.toList.map (·.born)).Nodup := he.stamped.2.1
      have hl : (leftOf es (seen.push x.born)).toList = (leftOf es seen).toList.filter (fun y => !(y.born == x.born)) := by
        unfold leftOf
        rw [Array.toList_filter, Array.toList_filter, List.filter_filter]
        refine List.filter_congr fun y _ => ?_
        rw [contains_push]
        cases seen.contains y.born <;> cases (y.born == x.born) <;> rfl
      rw [hl]
      have hsub : ((leftOf es seen).toList.map (·.born)).Nodup := by
        refine List.Nodup.sublist (List.Sublist.map _ ?_) hborn
        unfold leftOf
        rw [Array.toList_filter]
        exact List.filter_sublist
      obtain ⟨u1, u2, hu⟩ := List.append_of_mem hx
      rw [hu] at hsub hp ⊢
      have hnb : ∀ y ∈ u1 ++ u2, y.born ≠ x.born := by
        have := ((List.perm_middle (a := x) (l₁ := u1) (l₂ := u2)).map (·.born)).nodup_iff.1 hsub
        simp only [List.map_cons, List.nodup_cons] at this
        intro y hy e1
        exact this.1 (List.mem_map.2 ⟨y, hy, e1⟩)
      have hf : (u1 ++ x :: u2).filter (fun y => !(y.born == x.born)) = u1 ++ u2 := by
        rw [List.filter_append, List.filter_cons]
        simp only [beq_self_eq_true, Bool.not_true, Bool.false_eq_true, if_false]
        rw [← List.filter_append]
        exact List.filter_eq_self.2 fun y hy => by simpa using hnb y hy
      rw [hf]
      have p1 : ((u1 ++ x :: u2).map fun e => (e.key, e.val)).Perm ((x.key, x.val) :: ((u1 ++ u2).map fun e => (e.key, e.val))) := (List.perm_middle (a := x) (l₁ := u1) (l₂ := u2)).map fun e => (e.key, e.val)
      have p2 := hperm.map fun p => (E.enc p.1, p.2)
      have p3 := (p1.symm.trans hp).trans p2
      rw [← e2, ← e3] at p3
      exact List.Perm.cons_inv p3
    · rcases hal with rfl | rfl <;> exact ⟨rfl, rfl, rfl, by simp [setBlock], fun i _ hi => hset.2 i (fun e1 => hi (by rw [e1]))⟩
    · rcases hal with rfl | rfl <;> simp [setBlock]
    · rw [e2, e3]
      exact run_entry_at _ r b since seen es clock x hset.1 hb' hxm he.stamped.2.1
end

section
variable {P : Program} {k : TypeId} {α : Type} {E : KeyEnc P k α} {l : List (α × Value)}

/-- 'range m', at the operation. -/
theorem wpList_range (w : World) {ops : Array Oper} {rest : List Oper} {o : Oper} {a : Act} {Q : Exit → Act → World → Prop} (hg : o.guard = none) (m : Operand) (t : TypeId) (hop : o.op = Op.range t m) (e : TypeId) (ht : P.underlying t = some (.map k e)) (b : Nat)
    (hm : a.eval m = .map (some b)) (h : MapIs E w b l)
    (hK : ∀ w', RangeIs E w' b w.heap.size l l → w.grownBy w' none → w'.heap.size = w.heap.size + 1 → wpList P ops Q rest (a.put o.dst (.pointer (some ⟨w.heap.size, 0, none⟩))) w') :
    wpList P ops Q (o :: rest) a w := by
  refine wpList_plain hg fun K' hK' => ?_
  obtain ⟨w', hrun, r1, r2, r3⟩ := h.range ht
  unfold Oper.wp
  simp [execOp, hop, hm, hrun, Result.andThen]
  exact hK' _ _ (hK w' r1 r2 r3)

/-- The step, at the operation. -/
theorem wpList_next (w : World) {ops : Array Oper} {rest : List Oper} {o : Oper} {a : Act} {Q : Exit → Act → World → Prop} (hg : o.guard = none) (it : Operand) (hop : o.op = Op.next it false) (b r : Nat) (left : List (α × Value))
    (hit : a.eval it = .pointer (some ⟨r, 0, none⟩)) (h : RangeIs E w b r l left)
    (hDone : left = [] → wpList P ops Q rest (a.put o.dst (.tuple #[.bool false])) w)
    (hMore : ∀ (x : α) (v : Value) (left' : List (α × Value)) (w' : World), left.Perm ((x, v) :: left') → RangeIs E w' b r l left' → w.grownBy w' (some r) → w'.heap.size = w.heap.size →
      (Instr.entry (.pointer (some ⟨r, 0, none⟩))).run P w' = .ok (.tuple #[E.enc x, v]) w' → wpList P ops Q rest (a.put o.dst (.tuple #[.bool true, E.enc x, v])) w') :
    wpList P ops Q (o :: rest) a w := by
  refine wpList_plain hg fun K' hK' => ?_
  unfold Oper.wp
  rcases h.next o.type with ⟨h0, hrun⟩ | ⟨x, v, left', w', hp, hrun, hrg, hgr, hsz, hen⟩
  · simp [execOp, hop, hit, hrun, Result.andThen]
    exact hK' _ _ (hDone h0)
  · simp [execOp, hop, hit, hrun, Result.andThen]
    exact hK' _ _ (hMore x v left' w' hp hrg hgr hsz hen)

theorem wpListIn_range {F : Fence} {n : Nat} (w : World) {ops : Array Oper} {rest : List Oper} {o : Oper} {a : Act} {Q : Exit → Act → World → Prop} (hg : o.guard = none) (m : Operand) (t : TypeId) (hop : o.op = Op.range t m) (e : TypeId) (ht : P.underlying t = some (.map k e)) (b : Nat)
    (hm : a.eval m = .map (some b)) (h : MapIs E w b l)
    (hK : ∀ w', RangeIs E w' b w.heap.size l l → w.grownBy w' none → w'.heap.size = w.heap.size + 1 → wpListIn F n P ops Q rest (a.put o.dst (.pointer (some ⟨w.heap.size, 0, none⟩))) w') :
    wpListIn F n P ops Q (o :: rest) a w := by
  refine wpListIn_plain hg fun K' hK' => ?_
  obtain ⟨w', hrun, r1, r2, r3⟩ := h.range ht
  unfold Oper.wpIn
  refine ⟨?_, ?_⟩
  · simp [Oper.about, hop]
  · rw [Oper.semAt_plain F _ _ (by rw [hop]; intro c hc'; cases hc')]
    simp [execOp, hop, hm, hrun, Result.andThen]
    exact hK' _ _ (hK w' r1 r2 r3)

theorem wpListIn_next {F : Fence} {n : Nat} (w : World) {ops : Array Oper} {rest : List Oper} {o : Oper} {a : Act} {Q : Exit → Act → World → Prop} (hg : o.guard = none) (it : Operand) (hop : o.op = Op.next it false) (b r : Nat) (left : List (α × Value))
    (hit : a.eval it = .pointer (some ⟨r, 0, none⟩)) (h : RangeIs E w b r l left)
    (hDone : left = [] → wpListIn F n P ops Q rest (a.put o.dst (.tuple #[.bool false])) w)
    (hMore : ∀ (x : α) (v : Value) (left' : List (α × Value)) (w' : World), left.Perm ((x, v) :: left') → RangeIs E w' b r l left' → w.grownBy w' (some r) → w'.heap.size = w.heap.size →
      (Instr.entry (.pointer (some ⟨r, 0, none⟩))).run P w' = .ok (.tuple #[E.enc x, v]) w' → wpListIn F n P ops Q rest (a.put o.dst (.tuple #[.bool true, E.enc x, v])) w') :
    wpListIn F n P ops Q (o :: rest) a w := by
  refine wpListIn_plain hg fun K' hK' => ?_
  unfold Oper.wpIn
  refine ⟨by simp [Oper.about, hop], ?_⟩
  rw [Oper.semAt_plain F _ _ (by rw [hop]; intro c hc'; cases hc')]
  rcases h.next o.type with ⟨h0, hrun⟩ | ⟨x, v, left', w', hp, hrun, hrg, hgr, hsz, hen⟩
  · simp [execOp, hop, hit, hrun, Result.andThen]
    exact hK' _ _ (hDone h0)
  · simp [execOp, hop, hit, hrun, Result.andThen]
    exact hK' _ _ (hMore x v left' w' hp hrg hgr hsz hen)
end
end Go.Proofs.Ytobkbbbdddllmaa.Mp
