import Derived.Test.YtfploeefmnbpcaaGreatG02
import Derived.Test.YtfploeefmnbpcaaGreatChecked
import Derived.DeepKeys4
import Derived.WalkKit
import Derived.Laws.Tables
import Derived.Laws.Cells
import Derived.Maps.AppendAt
import Derived.OwnWalk
import Derived.Deep.Slices
import Derived.OpenShut
/- A range over a map, told by the keys that are still to come. -/
namespace Go.Proofs.YtfploeefmnbpcaaGreat.Mp
open Go Go.MapKept Go.ChangeMaps Go.Maps Go.RowKit
set_option linter.unusedVariables false

section
variable {P : Program} {k : TypeId} {α : Type} {E : KeyEnc P k α} {l : List (α × Value)} {b r : Nat} {t e : TypeId} {w : World}

/-- Block r goes over the map in block b, which has l; rest: what is still to come. -/
def RangeIs (E : KeyEnc P k α) (w : World) (b r : Nat) (l rest : List (α × Value)) : Prop :=
  ∃ es clock since seen c0, w.heap[b]? = some (.map es clock) ∧ Ents E es clock l ∧ w.heap[r]? = some (.mapIter (some b) since seen c0) ∧ (∀ x ∈ es.toList, x.born < since) ∧ since ≤ c0 ∧ since ≤ clock ∧
    (((leftOf es seen).toList.map fun e => (e.key, e.val)).Perm (rest.map fun p => (E.enc p.1, p.2))) ∧ (∀ p ∈ rest, p ∈ l)

theorem RangeIs.map {rest : List (α × Value)} (h : RangeIs E w b r l rest) : MapIs E w b l := by
  obtain ⟨es, clock, _, _, _, hb, he, _⟩ := h; exact ⟨_, hb, _, _, rfl, he⟩
theorem RangeIs.lt {rest : List (α × Value)} (h : RangeIs E w b r l rest) : r < w.heap.size := by
  obtain ⟨es, clock, since, seen, c0, _, _, hr, _⟩ := h; exact (Array.getElem?_eq_some_iff.1 hr).1
theorem RangeIs.of_blocks {rest : List (α × Value)} {w' : World} (h : RangeIs E w b r l rest) (hb : w'.heap[b]? = w.heap[b]?) (hr : w'.heap[r]? = w.heap[r]?) : RangeIs E w' b r l rest := by
  obtain ⟨es, clock, since, seen, c0, h1, h2, h3, h4⟩ := h
  exact ⟨es, clock, since, seen, c0, hb.trans h1, h2, hr.trans h3, h4⟩
/-- The measure. -/
theorem RangeIs.left {rest : List (α × Value)} (h : RangeIs E w b r l rest) : w.rangeLeft b r = rest.length := by
  obtain ⟨es, clock, since, seen, c0, hb, _, hr, _, _, _, hp, _⟩ := h
  simp only [World.rangeLeft, hb, hr]
  have := hp.length_eq
  simpa using this

/-- 'range m'. -/
theorem MapIs.range (h : MapIs E w b l) (ht : P.underlying t = some (.map k e)) :
    ∃ w', (Instr.range t (.map (some b))).run P w = .ok (.pointer (some ⟨w.heap.size, 0, none⟩)) w' ∧ RangeIs E w' b w.heap.size l l ∧ w.grownBy w' none ∧ w'.heap.size = w.heap.size + 1 := by
  have hlt := h.lt
  obtain ⟨o, ho, es, clock, rfl, he⟩ := h
  refine ⟨_, run_range_map w t k e b es clock ht ho, ⟨es, clock, clock, #[], clock, ((MapKept.heap_alloc w _).2 b hlt).trans ho, he, (MapKept.heap_alloc w _).1, he.stamped.1, Nat.le_refl _, Nat.le_refl _, ?_, fun p hp => hp⟩, World.grownBy_alloc w _ none, by simp⟩
  have : leftOf es #[] = es := by unfold leftOf; simp
  rw [this]
  exact he.perm

/-- The step. -/
theorem RangeIs.next {rest : List (α × Value)} (h : RangeIs E w b r l rest) (ty : TypeId) :
    (rest = [] ∧ (Instr.next (.pointer (some ⟨r, 0, none⟩)) false ty).run P w = .ok (.tuple #[.bool false]) w) ∨
    ∃ a v rest' w', rest.Perm ((a, v) :: rest') ∧ (Instr.next (.pointer (some ⟨r, 0, none⟩)) false ty).run P w = .ok (.tuple #[.bool true, E.enc a, v]) w' ∧
      RangeIs E w' b r l rest' ∧ w.grownBy w' (some r) ∧ w'.heap.size = w.heap.size ∧ (Instr.entry (.pointer (some ⟨r, 0, none⟩))).run P w' = .ok (.tuple #[E.enc a, v]) w' := by
  obtain ⟨es, clock, since, seen, c0, hb, he, hr, hold, hsc, hsk, hp, hin⟩ := h
  have hne : r ≠ b := fun e1 => by rw [e1, hb] at hr; cases hr
  rcases run_next_at (P := P) w ty r b since c0 seen es clock hr hb hold hsc with ⟨h0, hrun⟩ | ⟨x, hx, w1, hal, hrun⟩
  · refine .inl ⟨?_, hrun⟩
    have := hp.length_eq
    simp only [List.length_map, Array.length_toList, h0] at this
    exact List.eq_nil_of_length_eq_zero this.symm
  · right
    obtain ⟨hxm, hxs⟩ := mem_left hx
    have hmem : (x.key, x.val) ∈ rest.map fun p => (E.enc p.1, p.2) := hp.mem_iff.1 (List.mem_map.2 ⟨x, hx, rfl⟩)
    obtain ⟨⟨a, v⟩, hav, e1⟩ := List.mem_map.1 hmem
    simp only [Prod.mk.injEq] at e1
    obtain ⟨e2, e3⟩ := e1
    obtain ⟨s1, s2, hrest⟩ := List.append_of_mem hav
    have hperm : rest.Perm ((a, v) :: (s1 ++ s2)) := by rw [hrest]; exact List.perm_middle
    have hr1 : w1.heap[r]? = some (.mapIter (some b) since seen c0) := by rcases hal with rfl | rfl <;> exact hr
    have hb1 : w1.heap[b]? = some (.map es clock) := by rcases hal with rfl | rfl <;> exact hb
    have hset := heap_set (o' := .mapIter (some b) since (seen.push x.born) clock) hr1
    have hb' : (setBlock w1 r (.mapIter (some b) since (seen.push x.born) clock)).heap[b]? = some (.map es clock) := (hset.2 b (fun e1 => hne e1.symm)).trans hb1
    have hrun2 : (Instr.next (.pointer (some ⟨r, 0, none⟩)) false ty).run P w = .ok (.tuple #[.bool true, E.enc a, v]) (setBlock w1 r (.mapIter (some b) since (seen.push x.born) clock)) := by rw [e2, e3]; exact hrun
    refine ⟨a, v, s1 ++ s2, _, hperm, hrun2, ⟨es, clock, since, seen.push x.born, clock, hb', he, hset.1, hold, hsk, hsk, ?_, fun p hp' => hin p (hperm.mem_iff.2 (List.mem_cons_of_mem _ hp'))⟩, ?_, ?_, ?_⟩
    · -- what is left
      have hborn : (es.toList.map (·.born)).Nodup := he.stamped.2.1
      have hl : (leftOf es (seen.push x.born)).toList = (leftOf es seen).toList.filter (fun y => !(y.born == x.born)) := by
        unfold leftOf
        rw [Array.toList_filter, Array.toList_filter, List.filter_filter]
        refine List.filter_congr fun y _ => ?_
        rw [contains_push]
        cases seen.contains y.born <;> cases (y.born == x.born) <;> rfl
      rw [hl]
      have hsub : ((leftOf es seen).toList.map (·.born)).Nodup := by
        refine List.Nodup.sublist (List.Sublist.map _ ?_) hborn
        unfold leftOf
        rw [Array.toList_filter]
        exact List.filter_sublist
      obtain ⟨u1, u2, hu⟩ := List.append_of_mem hx
      rw [hu] at hsub hp ⊢
      have hnb : ∀ y ∈ u1 ++ u2, y.born ≠ x.born := by
        have := ((List.perm_middle (a := x) (l₁ := u1) (l₂ := u2)).map (·.born)).nodup_iff.1 hsub
        simp only [List.map_cons, List.nodup_cons] at this
        intro y hy e1
        exact this.1 (List.mem_map.2 ⟨y, hy, e1⟩)
      have hf : (u1 ++ x :: u2).filter (fun y => !(y.born == x.born)) = u1 ++ u2 := by
        rw [List.filter_append, List.filter_cons]
        simp only [beq_self_eq_true, Bool.not_true, Bool.false_eq_true, if_false]
        rw [← List.filter_append]
        exact List.filter_eq_self.2 fun y hy => by simpa using hnb y hy
      rw [hf]
      have p1 : ((u1 ++ x :: u2).map fun e => (e.key, e.val)).Perm ((x.key, x.val) :: ((u1 ++ u2).map fun e => (e.key, e.val))) := (List.perm_middle (a := x) (l₁ := u1) (l₂ := u2)).map fun e => (e.key, e.val)
      have p2 := hperm.map fun p => (E.enc p.1, p.2)
      have p3 := (p1.symm.trans hp).trans p2
      rw [← e2, ← e3] at p3
      exact List.Perm.cons_inv p3
    · rcases hal with rfl | rfl <;> exact ⟨rfl, rfl, rfl, by simp [setBlock], fun i _ hi => hset.2 i (fun e1 => hi (by rw [e1]))⟩
    · rcases hal with rfl | rfl <;> simp [setBlock]
    · rw [e2, e3]
      exact run_entry_at _ r b since seen es clock x hset.1 hb' hxm he.stamped.2.1
end

section
variable {P : Program} {k : TypeId} {α : Type} {E : KeyEnc P k α} {l : List (α × Value)}

/-- 'range m', at the operation. -/
theorem wpList_range (w : World) {ops : Array Oper} {rest : List Oper} {o : Oper} {a : Act} {Q : Exit → Act → World → Prop} (hg : o.guard = none) (m : Operand) (t : TypeId) (hop : o.op = Op.range t m) (e : TypeId) (ht : P.underlying t = some (.map k e)) (b : Nat)
    (hm : a.eval m = .map (some b)) (h : MapIs E w b l)
    (hK : ∀ w', RangeIs E w' b w.heap.size l l → w.grownBy w' none → w'.heap.size = w.heap.size + 1 → wpList P ops Q rest (a.put o.dst (.pointer (some ⟨w.heap.size, 0, none⟩))) w') :
    wpList P ops Q (o :: rest) a w := by
  refine wpList_plain hg fun K' hK' => ?_
  obtain ⟨w', hrun, r1, r2, r3⟩ := h.range ht
  unfold Oper.wp
  simp [execOp, hop, hm, hrun, Result.andThen]
  exact hK' _ _ (hK w' r1 r2 r3)

/-- The step, at the operation. -/
theorem wpList_next (w : World) {ops : Array Oper} {rest : List Oper} {o : Oper} {a : Act} {Q : Exit → Act → World → Prop} (hg : o.guard = none) (it : Operand) (hop : o.op = Op.next it false) (b r : Nat) (left : List (α × Value))
    (hit : a.eval it = .pointer (some ⟨r, 0, none⟩)) (h : RangeIs E w b r l left)
    (hDone : left = [] → wpList P ops Q rest (a.put o.dst (.tuple #[.bool false])) w)
    (hMore : ∀ (x : α) (v : Value) (left' : List (α × Value)) (w' : World), left.Perm ((x, v) :: left') → RangeIs E w' b r l left' → w.grownBy w' (some r) → w'.heap.size = w.heap.size →
      (Instr.entry (.pointer (some ⟨r, 0, none⟩))).run P w' = .ok (.tuple #[E.enc x, v]) w' → wpList P ops Q rest (a.put o.dst (.tuple #[.bool true, E.enc x, v])) w') :
    wpList P ops Q (o :: rest) a w := by
  refine wpList_plain hg fun K' hK' => ?_
  unfold Oper.wp
  rcases h.next o.type with ⟨h0, hrun⟩ | ⟨x, v, left', w', hp, hrun, hrg, hgr, hsz, hen⟩
  · simp [execOp, hop, hit, hrun, Result.andThen]
    exact hK' _ _ (hDone h0)
  · simp [execOp, hop, hit, hrun, Result.andThen]
    exact hK' _ _ (hMore x v left' w' hp hrg hgr hsz hen)

theorem wpListIn_range {F : Fence} {n : Nat} (w : World) {ops : Array Oper} {rest : List Oper} {o : Oper} {a : Act} {Q : Exit → Act → World → Prop} (hg : o.guard = none) (m : Operand) (t : TypeId) (hop : o.op = Op.range t m) (e : TypeId) (ht : P.underlying t = some (.map k e)) (b : Nat)
    (hm : a.eval m = .map (some b)) (h : MapIs E w b l)
    (hK : ∀ w', RangeIs E w' b w.heap.size l l → w.grownBy w' none → w'.heap.size = w.heap.size + 1 → wpListIn F n P ops Q rest (a.put o.dst (.pointer (some ⟨w.heap.size, 0, none⟩))) w') :
    wpListIn F n P ops Q (o :: rest) a w := by
  refine wpListIn_plain hg fun K' hK' => ?_
  obtain ⟨w', hrun, r1, r2, r3⟩ := h.range ht
  unfold Oper.wpIn
  refine ⟨?_, ?_⟩
  · simp [Oper.about, hop]
  · rw [Oper.semAt_plain F _ _ (by rw [hop]; intro c hc'; cases hc')]
    simp [execOp, hop, hm, hrun, Result.andThen]
    exact hK' _ _ (hK w' r1 r2 r3)

theorem wpListIn_next {F : Fence} {n : Nat} (w : World) {ops : Array Oper} {rest : List Oper} {o : Oper} {a : Act} {Q : Exit → Act → World → Prop} (hg : o.guard = none) (it : Operand) (hop : o.op = Op.next it false) (b r : Nat) (left : List (α × Value))
    (hit : a.eval it = .pointer (some ⟨r, 0, none⟩)) (h : RangeIs E w b r l left)
    (hDone : left = [] → wpListIn F n P ops Q rest (a.put o.dst (.tuple #[.bool false])) w)
    (hMore : ∀ (x : α) (v : Value) (left' : List (α × Value)) (w' : World), left.Perm ((x, v) :: left') → RangeIs E w' b r l left' → w.grownBy w' (some r) → w'.heap.size = w.heap.size →
      (Instr.entry (.pointer (some ⟨r, 0, none⟩))).run P w' = .ok (.tuple #[E.enc x, v]) w' → wpListIn F n P ops Q rest (a.put o.dst (.tuple #[.bool true, E.enc x, v])) w') :
    wpListIn F n P ops Q (o :: rest) a w := by
  refine wpListIn_plain hg fun K' hK' => ?_
  unfold Oper.wpIn
  refine ⟨by simp [Oper.about, hop], ?_⟩
  rw [Oper.semAt_plain F _ _ (by rw [hop]; intro c hc'; cases hc')]
  rcases h.next o.type with ⟨h0, hrun⟩ | ⟨x, v, left', w', hp, hrun, hrg, hgr, hsz, hen⟩
  · simp [execOp, hop, hit, hrun, Result.andThen]
    exact hK' _ _ (hDone h0)
  · simp [execOp, hop, hit, hrun, Result.andThen]
    exact hK' _ _ (hMore x v left' w' hp hrg hgr hsz hen)
end
end Go.Proofs.YtfploeefmnbpcaaGreat.Mp

/- Places and pages as keys. -/
namespace Go.Proofs.YtfploeefmnbpcaaGreat
open Go.RowKit Mp

theorem laidOut : laidOutB Tryz.prog = true := by kernel_rfl

/-- A place: die, block, page. -/
abbrev A3 := Int × Int × Int
def cellsA (a : A3) : List Value := [.int .i64 a.1, .int .i64 a.2.1, .int .i64 a.2.2]
def encA (a : A3) : Value := .agg #[.int .i64 a.1, .int .i64 a.2.1, .int .i64 a.2.2]
def okI (x : Int) : Prop := (Lit.int .i64 x).wf = true
def okA (a : A3) : Prop := okI a.1 ∧ okI a.2.1 ∧ okI a.2.2
theorem encA_cells (a : A3) : encA a = .agg (cellsA a).toArray := rfl

theorem keyType_A : Tryz.prog.keyType 32 = true := by kernel_rfl
theorem cellsOf_A : Tryz.prog.cellsOf 32 = 3 := by kernel_rfl
theorem law_A : WideMaps.KeyLaw Tryz.prog 32 := deep_law_laid laidOut (m := 3) (by omega) (of_decide_eq_true (by kernel_rfl)) (by kernel_rfl) (by rw [Tryz.underlying32])
theorem encA_inj (a b : A3) (h : encA a = encA b) : a = b := by
  obtain ⟨x, y, z⟩ := a; obtain ⟨x', y', z'⟩ := b
  simp [encA] at h
  obtain ⟨rfl, rfl, rfl⟩ := h
  rfl

theorem lits_int (m : Nat) (x : Int) (h : okI x) : Tryz.prog.keyLits (m + 1) 3 [.int .i64 x] = some [.int .i64 x] := by
  have h' : (Lit.int .i64 x).wf = true := h
  unfold Program.keyLits
  rw [Tryz.underlying3]
  simp only [h', and_self, if_true]
theorem lits_byte (m : Nat) (x : Nat) (h : x < 256) : Tryz.prog.keyLits (m + 1) 5 [.int .u8 (x : Int)] = some [.int .u8 (x : Int)] := by
  have h' : (Lit.int .u8 (x : Int)).wf = true := by
    simp [Lit.wf, IntKind.min, IntKind.max, IntKind.signed, IntKind.bits]; omega
  unfold Program.keyLits
  rw [Tryz.underlying5]
  simp only [h', and_self, if_true]
theorem cellsOf_I : Tryz.prog.cellsOf 3 = 1 := by kernel_rfl
theorem cellsOf_B : Tryz.prog.cellsOf 5 = 1 := by kernel_rfl
theorem types_size : ∃ m, Tryz.prog.types.size + 1 = m + 2 := ⟨Tryz.prog.types.size - 1, by
  have : 1 ≤ Tryz.prog.types.size := of_decide_eq_true (by kernel_rfl)
  omega⟩

theorem lits_A (m : Nat) (a : A3) (h : okA a) : Tryz.prog.keyLits (m + 2) 32 (cellsA a) = some [.int .i64 a.1, .int .i64 a.2.1, .int .i64 a.2.2] := by
  obtain ⟨x, y, z⟩ := a
  obtain ⟨h1, h2, h3⟩ := h
  have e1 := lits_int m x h1
  have e2 := lits_int m y h2
  have e3 := lits_int m z h3
  obtain ⟨n, hn⟩ : ∃ n, m + 1 = n := ⟨_, rfl⟩
  rw [hn] at e1 e2 e3
  show Tryz.prog.keyLits (m + 1 + 1) _ _ = _
  unfold Program.keyLits
  rw [Tryz.underlying32]
  dsimp only
  rw [if_pos ⟨by rw [cellsOf_A]; rfl, by decide +kernel⟩]
  simp only [List.mapM_cons, List.mapM_nil, cellsOf_I, cellsA, List.drop_zero, List.drop_succ_cons, List.take_succ_cons, List.take_zero, show m + 1 = n from hn, e1, e2, e3]
  rfl

theorem has_A (a : A3) (h : okA a) : ∃ l, keyOf Tryz.prog 32 (encA a) = some l := by
  obtain ⟨m, hm⟩ := types_size
  have hl := lits_A m a h
  have hf : (encA a).formed Tryz.prog 32 = true := by
    unfold Value.formed encA
    simp only [Tryz.underlying32, cellsOf_A]
    rfl
  unfold keyOf
  rw [Tryz.underlying32]
  dsimp only
  rw [keyType_A, hf, hm, show (encA a).cells.toList = cellsA a from rfl, hl]
  exact ⟨_, rfl⟩

/-- Places as keys. -/
def EA : KeyEnc Tryz.prog 32 A3 := ⟨encA, okA, Maps.Keyed.of_law law_A, has_A, encA_inj⟩

/-- A page: its bytes. -/
def encP (p : List Nat) : Value := .agg (p.map fun (n : Nat) => Value.int .u8 (n : Int)).toArray
def okP (p : List Nat) : Prop := p.length = 32 ∧ ∀ x ∈ p, x < 256
theorem keyType_P : Tryz.prog.keyType 34 = true := by kernel_rfl
theorem cellsOf_P : Tryz.prog.cellsOf 34 = 32 := by kernel_rfl
theorem law_P : WideMaps.KeyLaw Tryz.prog 34 := deep_law_laid laidOut (m := 3) (by omega) (of_decide_eq_true (by kernel_rfl)) (by kernel_rfl) (by rw [Tryz.underlying34])
theorem encP_inj (p q : List Nat) (h : encP p = encP q) : p = q := by
  simp only [encP, Value.agg.injEq] at h
  have h2 := congrArg Array.toList h
  simp only at h2
  exact List.map_inj_right (f := fun (n : Nat) => Value.int .u8 (n : Int)) (by intro x y e; simp only [Value.int.injEq, true_and] at e; exact Int.ofNat.inj e) |>.1 h2

theorem lits_P (m : Nat) (p : List Nat) (h : okP p) : ∃ ls, Tryz.prog.keyLits (m + 2) 34 (p.map fun (n : Nat) => Value.int .u8 (n : Int)) = some ls := by
  obtain ⟨h1, h2⟩ := h
  obtain ⟨n, hn⟩ : ∃ n, m + 1 = n := ⟨_, rfl⟩
  have hb : ∀ i, i < 32 → Tryz.prog.keyLits n 5 (((p.map fun (n : Nat) => Value.int .u8 (n : Int)).drop (i * 1)).take 1) = some [.int .u8 ((p.getD i 0 : Nat) : Int)] := by
    intro i hi
    have hil : i < p.length := by omega
    have hx : p.getD i 0 < 256 := by
      rw [List.getD_eq_getElem?_getD, List.getElem?_eq_getElem hil]; exact h2 _ (List.getElem_mem hil)
    have hd : (((p.map fun (n : Nat) => Value.int .u8 (n : Int)).drop (i * 1)).take 1) = [Value.int .u8 ((p.getD i 0 : Nat) : Int)] := by
      rw [Nat.mul_one, List.drop_eq_getElem_cons (by simpa using hil)]
      simp [List.getD_eq_getElem?_getD, List.getElem?_eq_getElem hil]
    rw [hd, ← hn]
    exact lits_byte m _ hx
  have hl : (p.map fun (n : Nat) => Value.int .u8 (n : Int)).length = Tryz.prog.cellsOf 34 := by rw [cellsOf_P]; simpa using h1
  have hm : ∀ L : List Nat, (∀ i ∈ L, i < 32) → ∃ rs, (L.mapM fun i => Tryz.prog.keyLits n 5 (((p.map fun (n : Nat) => Value.int .u8 (n : Int)).drop (i * Tryz.prog.cellsOf 5)).take (Tryz.prog.cellsOf 5))) = some rs := by
    rw [cellsOf_B]
    intro L
    induction L with
    | nil => intro _; exact ⟨[], rfl⟩
    | cons i r ih =>
      intro hL
      obtain ⟨rs, hr⟩ := ih (fun j hj => hL j (by simp [hj]))
      rw [List.mapM_cons, hb i (hL i (by simp)), hr]
      exact ⟨_, rfl⟩
  obtain ⟨rs, hr⟩ := hm (List.range 32) (fun i hi => List.mem_range.1 hi)
  rw [show m + 2 = n + 1 by omega]
  unfold Program.keyLits
  rw [Tryz.underlying34]
  dsimp only
  rw [if_pos hl, hr]
  exact ⟨_, rfl⟩

theorem has_P (p : List Nat) (h : okP p) : ∃ l, keyOf Tryz.prog 34 (encP p) = some l := by
  obtain ⟨m, hm⟩ := types_size
  obtain ⟨ls, hl⟩ := lits_P m p h
  have hf : (encP p).formed Tryz.prog 34 = true := by
    unfold Value.formed encP
    simp only [Tryz.underlying34, cellsOf_P]
    simp [h.1]
  unfold keyOf
  rw [Tryz.underlying34]
  dsimp only
  rw [keyType_P, hf, hm, show (encP p).cells.toList = (p.map fun (n : Nat) => Value.int .u8 (n : Int)) from rfl, hl]
  exact ⟨_, rfl⟩

/-- Pages as keys. -/
def EP : KeyEnc Tryz.prog 34 (List Nat) := ⟨encP, okP, Maps.Keyed.of_law law_P, has_P, encP_inj⟩
end Go.Proofs.YtfploeefmnbpcaaGreat

/- A flash, as it is told: numbers. No Go text here. -/
namespace Go.Proofs.YtfploeefmnbpcaaGreat
open Go.RowKit Mp

/-- A page that was programmed. -/
structure PgM where
  bytes : List Nat := []
  cant : Bool := false
  turned : Bool := false
structure BlkM where
  next : Nat := 0
  worn : Nat := 0
  told : Bool := false
  met : Bool := false
  fails : Nat → Bool := fun _ => false
  pages : Nat → PgM := fun _ => {}
structure FlM where
  d : Nat
  b : Nat
  p : Nat
  blk : Nat → Nat → BlkM := fun _ _ => {}
  dead : Nat → Bool := fun _ => false
  power : Bool := true
  ops : Nat := 0
  broken : Nat := 0
  cut : Option (Nat × Nat) := none

def upd {α : Type} (f : Nat → α) (i : Nat) (v : α) : Nat → α := fun j => if j = i then v else f j
theorem upd_same {α : Type} (f : Nat → α) (i : Nat) (v : α) : upd f i v i = v := if_pos rfl
theorem upd_off {α : Type} (f : Nat → α) {i j : Nat} (v : α) (h : j ≠ i) : upd f i v j = f j := if_neg h

namespace FlM
/-- Block y of die x is B. -/
def setB (M : FlM) (x y : Nat) (B : BlkM) : FlM := { M with blk := upd M.blk x (upd (M.blk x) y B) }
/-- One operation more. -/
def tick (M : FlM) : FlM :=
  match M.cut with
  | none => { M with ops := M.ops + 1 }
  | some (0, _) => { M with ops := M.ops + 1, power := false, cut := none }
  | some (n + 1, k) => { M with ops := M.ops + 1, cut := some (n, k) }
/-- Is the next operation cut: how many bytes stay. -/
def cutNow (M : FlM) : Option Nat :=
  match M.cut with
  | some (0, k) => some k
  | _ => none
def start (d b p : Nat) : FlM := { d := d, b := b, p := p }
/-- May the page's place be asked: none, or what is told. -/
def bars (M : FlM) (x y z : Int) : Option Int :=
  if M.power = false then some 9 else if inGB M.d M.b M.p x y z = false then some 3 else if M.dead x.toNat = true then some 8 else none
def program (M : FlM) (x y z : Int) (pg : List Nat) : Int × FlM :=
  match M.bars x y z with
  | some e => (e, M)
  | none =>
    let B := M.blk x.toNat y.toNat
    if z ≠ B.next then (4, { M with broken := M.broken + 1 })
    else match M.cutNow with
      | some k => (9, M.tick.setB x.toNat y.toNat { B with next := B.next + 1, pages := upd B.pages B.next { bytes := pg.take k ++ List.replicate (32 - k) 255, turned := true } })
      | none =>
        if (B.met || B.fails B.next) = true then (7, M.tick.setB x.toNat y.toNat { B with next := B.next + 1, pages := upd B.pages B.next { cant := true } })
        else (0, M.tick.setB x.toNat y.toNat { B with next := B.next + 1, pages := upd B.pages B.next { bytes := pg } })
def noPage : List Nat := List.replicate 32 0
def read (M : FlM) (x y z : Int) : List Nat × Int :=
  match M.bars x y z with
  | some e => (noPage, e)
  | none =>
    let B := M.blk x.toNat y.toNat
    if (B.next : Int) ≤ z then (noPage, 5)
    else if (B.pages z.toNat).cant = true then (noPage, 6)
    else ((B.pages z.toNat).bytes, 0)
def erase (M : FlM) (x y : Int) : Int × FlM :=
  match M.bars x y 0 with
  | some e => (e, M)
  | none =>
    let B := M.blk x.toNat y.toNat
    match M.cutNow with
    | some _ => (9, M.tick.setB x.toNat y.toNat { B with next := M.p, pages := fun k => { bytes := (B.pages k).bytes, cant := true, turned := decide (k < B.next) && (B.pages k).turned } })
    | none =>
      if B.told = true then (7, M.tick.setB x.toNat y.toNat { B with met := true })
      else (0, M.tick.setB x.toNat y.toNat { worn := B.worn + 1 })
def nextOf (M : FlM) (x y : Int) : Int := if inGB M.d M.b M.p x y 0 = true then ((M.blk x.toNat y.toNat).next : Int) else 0
def wornOf (M : FlM) (x y : Int) : Int := if inGB M.d M.b M.p x y 0 = true then ((M.blk x.toNat y.toNat).worn : Int) else 0
def turnAt (l : List Nat) (n : Nat) (x : Int) : List Nat := l.set n (l.getD n 0 ^^^ (x % 256).toNat)
def fault (M : FlM) (kind x y z n v : Int) : Bool × FlM :=
  if inGB M.d M.b M.p x y z = false ∨ kind < 1 ∨ 5 < kind then (false, M)
  else
    let B := M.blk x.toNat y.toNat
    if kind = 1 then (true, M.setB x.toNat y.toNat { B with fails := upd B.fails z.toNat true })
    else if kind = 2 then (true, M.setB x.toNat y.toNat { B with told := true })
    else if kind = 3 then (true, if z < B.next then M.setB x.toNat y.toNat { B with pages := upd B.pages z.toNat { B.pages z.toNat with cant := true } } else M)
    else if kind = 4 then (true, { M with dead := upd M.dead x.toNat true })
    else if n < 0 ∨ 31 < n then (false, M)
    else if (B.next : Int) ≤ z then (true, M)
    else if (B.pages z.toNat).turned = true then (false, M)
    else if (B.pages z.toNat).cant = true then (true, M)
    else (true, M.setB x.toNat y.toNat { B with pages := upd B.pages z.toNat { B.pages z.toNat with bytes := turnAt (B.pages z.toNat).bytes n.toNat v, turned := true } })
def cutAt (M : FlM) (ops keep : Int) : FlM :=
  if M.power = false then M
  else if ops < 0 then { M with power := false, cut := none }
  else { M with cut := some (ops.toNat, (max 0 (min keep 32)).toNat) }
def on (M : FlM) : FlM := { M with power := true, cut := none }
end FlM
end Go.Proofs.YtfploeefmnbpcaaGreat

/- What a flash's methods are asked to do, over whatever lies in memory. -/
namespace Go.Proofs.YtfploeefmnbpcaaGreat
open Go.RowKit Mp

/-- Nothing that was there has changed but the blocks of F. -/
structure Keeps (F : Nat → Prop) (w w' : World) : Prop where
  os : w'.os = w.os
  tape : w'.tape = w.tape
  output : w'.output = w.output
  size : w.heap.size ≤ w'.heap.size
  block : ∀ k, k < w.heap.size → ¬ F k → w'.heap[k]? = w.heap[k]?

abbrev IsT := World → Nat → FlM → (Nat → Prop) → Prop
abbrev nptr (g : Nat) : Value := .pointer (some ⟨g, 0, none⟩)
/-- The flash has turned to M'. -/
def Turned (Is : IsT) (g : Nat) (F : Nat → Prop) (w w' : World) (M' : FlM) : Prop :=
  ∃ F', Is w' g M' F' ∧ Keeps F w w' ∧ ∀ k, F' k → F k ∨ w.heap.size ≤ k

/-- The methods: what each tells, and what becomes of the flash. -/
structure NandC (Is : IsT) : Prop where
  lt : ∀ {w g M F}, Is w g M F → ∀ k, F k → k < w.heap.size
  keep : ∀ {w w' g M F}, Is w g M F → (∀ k, F k → w'.heap[k]? = w.heap[k]?) → Is w' g M F
  new : ∀ (d b p : Nat) (w : World), mayB d b p = true → Calls Tryz.prog 16 #[geoV d b p] w fun e w' => ∃ g F, e = .returned (nptr g) ∧ Is w' g (FlM.start d b p) F ∧ (∀ k, F k → w.heap.size ≤ k) ∧ Below w.heap.size w w'
  new_none : ∀ (d b p : Int) (w : World), mayB d b p = false → Calls Tryz.prog 16 #[geoV d b p] w fun e w' => e = .returned (.pointer none) ∧ Below w.heap.size w w'
  program : ∀ {w g M F} (x y z : Int) (pg : List Nat), Is w g M F → okP pg → M.ops < 4000000000000000000 → M.broken < 4000000000000000000 →
    Calls Tryz.prog 18 #[nptr g, geoV x y z, encP pg] w fun e w' => e = .returned (.int .i64 (M.program x y z pg).1) ∧ Turned Is g F w w' (M.program x y z pg).2
  read : ∀ {w g M F} (x y z : Int), Is w g M F →
    Calls Tryz.prog 23 #[nptr g, geoV x y z] w fun e w' => e = .returned (.tuple #[encP (M.read x y z).1, .int .i64 (M.read x y z).2]) ∧ okP (M.read x y z).1 ∧ Below w.heap.size w w'
  erase : ∀ {w g M F} (x y : Int), Is w g M F → M.ops < 4000000000000000000 → (M.blk x.toNat y.toNat).worn < 4000000000000000000 →
    Calls Tryz.prog 17 #[nptr g, .int .i64 x, .int .i64 y] w fun e w' => e = .returned (.int .i64 (M.erase x y).1) ∧ Turned Is g F w w' (M.erase x y).2
  next : ∀ {w g M F} (x y : Int), Is w g M F →
    Calls Tryz.prog 20 #[nptr g, .int .i64 x, .int .i64 y] w fun e w' => e = .returned (.int .i64 (M.nextOf x y)) ∧ Below w.heap.size w w'
  worn : ∀ {w g M F} (x y : Int), Is w g M F →
    Calls Tryz.prog 36 #[nptr g, .int .i64 x, .int .i64 y] w fun e w' => e = .returned (.int .i64 (M.wornOf x y)) ∧ Below w.heap.size w w'
  dead : ∀ {w g M F} (x : Nat), Is w g M F → x < M.d →
    Calls Tryz.prog 26 #[nptr g, .int .i64 x] w fun e w' => e = .returned (.bool (M.dead x)) ∧ Below w.heap.size w w'
  fault : ∀ {w g M F} (at' kind x y z n v : Int), Is w g M F →
    Calls Tryz.prog 25 #[nptr g, .agg #[.int .i64 at', .int .i64 kind, .int .i64 x, .int .i64 y, .int .i64 z, .int .i64 n, .int .i64 v]] w fun e w' => e = .returned (.bool (M.fault kind x y z n v).1) ∧ Turned Is g F w w' (M.fault kind x y z n v).2
  cut : ∀ {w g M F} (ops keep : Int), Is w g M F → ops ≤ 9223372036854775807 → keep ≤ 9223372036854775807 →
    Calls Tryz.prog 21 #[nptr g, .int .i64 ops, .int .i64 keep] w fun e w' => e = .returned (.tuple #[]) ∧ Turned Is g F w w' (M.cutAt ops keep)
  on : ∀ {w g M F}, Is w g M F →
    Calls Tryz.prog 22 #[nptr g] w fun e w' => e = .returned (.tuple #[]) ∧ Turned Is g F w w' M.on
  power : ∀ {w g M F}, Is w g M F →
    Calls Tryz.prog 37 #[nptr g] w fun e w' => e = .returned (.bool M.power) ∧ Below w.heap.size w w'
  ops : ∀ {w g M F}, Is w g M F →
    Calls Tryz.prog 24 #[nptr g] w fun e w' => e = .returned (.int .i64 M.ops) ∧ Below w.heap.size w w'
  broken : ∀ {w g M F}, Is w g M F →
    Calls Tryz.prog 19 #[nptr g] w fun e w' => e = .returned (.int .i64 M.broken) ∧ Below w.heap.size w w'
  geo : ∀ {w g M F}, Is w g M F →
    Calls Tryz.prog 38 #[nptr g] w fun e w' => e = .returned (geoV M.d M.b M.p) ∧ Below w.heap.size w w'

/-- Since w0 a flash was made, M now; the blocks of L are another's. -/
def Has (Is : IsT) (w0 w : World) (g : Nat) (M : FlM) (L : List Nat) : Prop :=
  ∃ F, Is w g M F ∧ (∀ k, F k → w0.heap.size ≤ k ∧ k ∉ L) ∧ (∀ k ∈ L, k < w.heap.size) ∧ Below w0.heap.size w0 w
/-- The blocks of L are as they were. -/
structure Same (L : List Nat) (w w' : World) : Prop where
  size : w.heap.size ≤ w'.heap.size
  block : ∀ k ∈ L, w'.heap[k]? = w.heap[k]?
theorem Same.cell {L : List Nat} {w w' : World} (h : Same L w w') {p : Addr} (hp : p.block ∈ L) : w'.cell? p = w.cell? p := World.cell?_of_block (w := w) (h.block p.block hp)
theorem Same.frozen {L : List Nat} {w w' : World} (h : Same L w w') {p : Addr} (hp : p.block ∈ L) : w'.frozen? p = w.frozen? p := World.frozen?_of_block (w := w) (h.block p.block hp)

variable {Is : IsT} {w0 w w' : World} {g : Nat} {M : FlM} {L : List Nat}
theorem Has.bel (h : Has Is w0 w g M L) : Below w0.heap.size w0 w := by obtain ⟨_, _, _, _, h⟩ := h; exact h
theorem Has.lt (h : Has Is w0 w g M L) : ∀ k ∈ L, k < w.heap.size := by obtain ⟨_, _, _, h, _⟩ := h; exact h
theorem Has.below (C : NandC Is) (h : Has Is w0 w g M L) (hb : Below w.heap.size w w') : Has Is w0 w' g M L ∧ Same L w w' := by
  obtain ⟨F, h1, h2, h3, h4⟩ := h
  exact ⟨⟨F, C.keep h1 fun k hk => hb.block k (C.lt h1 k hk), h2, fun k hk => Nat.lt_of_lt_of_le (h3 k hk) hb.size, h4.trans (hb.mono h4.size)⟩, ⟨hb.size, fun k hk => hb.block k (h3 k hk)⟩⟩
theorem Has.off (C : NandC Is) (h : Has Is w0 w g M L) {b : Nat} (hb : b ∈ L) (hb0 : w0.heap.size ≤ b) (hs : w'.heap.size = w.heap.size) (ho : w'.os = w.os) (ht : w'.tape = w.tape) (hp : w'.output = w.output) (hk : ∀ k, k ≠ b → w'.heap[k]? = w.heap[k]?) : Has Is w0 w' g M L := by
  obtain ⟨F, h1, h2, h3, h4⟩ := h
  refine ⟨F, C.keep h1 fun k hF => hk k (fun e => (h2 k hF).2 (e ▸ hb)), h2, fun k hL => by rw [hs]; exact h3 k hL, h4.trans ⟨ho, ht, hp, by rw [hs]; exact Nat.le_refl _, fun k hlt => hk k (by omega)⟩⟩
/-- A cell of a block of L is written. -/
theorem Has.setCell (C : NandC Is) (h : Has Is w0 w g M L) {b o : Nat} {s : Option Nat} (hb : b ∈ L) (hb0 : w0.heap.size ≤ b) (u : Value) : Has Is w0 (w.setCell ⟨b, o, s⟩ u) g M L :=
  h.off C hb hb0 (by simp [World.setCell]) rfl rfl rfl fun _ hk => Below.heap_setCell _ _ _ _ hk
/-- A block that was just made is another's. -/
theorem Has.add (C : NandC Is) (h : Has Is w0 w g M L) (o : Obj) : Has Is w0 (w.alloc o) g M (w.heap.size :: L) := by
  obtain ⟨F, h1, h2, h3, h4⟩ := h
  refine ⟨F, C.keep h1 fun k hk => Below.heap_alloc _ _ _ (C.lt h1 k hk), fun k hF => ⟨(h2 k hF).1, fun hm => ?_⟩, fun k hk => ?_, h4.alloc h4.size o⟩
  · rcases List.mem_cons.1 hm with e | hm
    · have := C.lt h1 k hF; omega
    · exact (h2 k hF).2 hm
  · simp only [World.size_alloc]
    rcases List.mem_cons.1 hk with e | hk
    · omega
    · have := h3 k hk; omega
theorem Has.alloc (C : NandC Is) (h : Has Is w0 w g M L) (o : Obj) : Has Is w0 (w.alloc o) g M L := (h.below C ((Below.refl _ _).alloc (Nat.le_refl _) o)).1
theorem Has.sub (h : Has Is w0 w g M L) {L' : List Nat} (hs : ∀ k ∈ L', k ∈ L) : Has Is w0 w g M L' := by
  obtain ⟨F, h1, h2, h3, h4⟩ := h
  exact ⟨F, h1, fun k hk => ⟨(h2 k hk).1, fun hm => (h2 k hk).2 (hs k hm)⟩, fun k hk => h3 k (hs k hk), h4⟩
theorem Has.drewN (C : NandC Is) (h : Has Is w0 w g M L) (n : Nat) : Has Is w0 (w.drewN n) g M L := by
  obtain ⟨F, h1, h2, h3, h4⟩ := h
  exact ⟨F, C.keep h1 fun k _ => rfl, h2, h3, h4.trans ⟨rfl, rfl, rfl, Nat.le_refl _, fun _ _ => rfl⟩⟩
theorem Has.drew (C : NandC Is) (h : Has Is w0 w g M L) : Has Is w0 w.drew g M L := by
  obtain ⟨F, h1, h2, h3, h4⟩ := h
  exact ⟨F, C.keep h1 fun k _ => rfl, h2, h3, h4.drew⟩
/-- The flash turns. -/
theorem Has.turn {F : Nat → Prop} {M' : FlM} (h2 : ∀ k, F k → w0.heap.size ≤ k ∧ k ∉ L) (h3 : ∀ k ∈ L, k < w.heap.size) (h4 : Below w0.heap.size w0 w) (ht : Turned Is g F w w' M') : Has Is w0 w' g M' L ∧ Same L w w' := by
  obtain ⟨F', i1, i2, i3⟩ := ht
  have hlt := h4.size
  refine ⟨⟨F', i1, fun k hk => ?_, fun k hk => Nat.lt_of_lt_of_le (h3 k hk) i2.size, h4.trans ⟨i2.os, i2.tape, i2.output, i2.size, fun k hk => i2.block k (by omega) (fun hF => by have := (h2 k hF).1; omega)⟩⟩,
    ⟨i2.size, fun k hk => i2.block k (h3 k hk) (fun hF => (h2 k hF).2 hk)⟩⟩
  rcases i3 k hk with hF | hF
  · exact h2 k hF
  · exact ⟨by omega, fun hm => by have := h3 k hm; omega⟩

theorem Has.new (C : NandC Is) (d b p : Nat) (w0 w : World) (L : List Nat) (hL : ∀ k ∈ L, k < w.heap.size) (hb : Below w0.heap.size w0 w) (hm : mayB d b p = true) :
    Calls Tryz.prog 16 #[geoV d b p] w fun e w' => ∃ g, e = .returned (nptr g) ∧ Has Is w0 w' g (FlM.start d b p) L ∧ Same L w w' :=
  (C.new d b p w hm).mono fun e w' ⟨g, F, he, h1, h2, h3⟩ => ⟨g, he, ⟨F, h1, fun k hk => ⟨Nat.le_trans hb.size (h2 k hk), fun hm => by have := hL k hm; have := h2 k hk; omega⟩, fun k hk => Nat.lt_of_lt_of_le (hL k hk) h3.size, hb.trans (h3.mono hb.size)⟩, ⟨h3.size, fun k hk => h3.block k (hL k hk)⟩⟩
theorem Has.program (C : NandC Is) (h : Has Is w0 w g M L) (x y z : Int) (pg : List Nat) (hp : okP pg) (h1 : M.ops < 4000000000000000000) (h2 : M.broken < 4000000000000000000) :
    Calls Tryz.prog 18 #[nptr g, geoV x y z, encP pg] w fun e w' => e = .returned (.int .i64 (M.program x y z pg).1) ∧ Has Is w0 w' g (M.program x y z pg).2 L ∧ Same L w w' := by
  obtain ⟨F, i1, i2, i3, i4⟩ := h
  exact (C.program x y z pg i1 hp h1 h2).mono fun e w' ⟨he, ht⟩ => ⟨he, Has.turn i2 i3 i4 ht⟩
theorem Has.read (C : NandC Is) (h : Has Is w0 w g M L) (x y z : Int) :
    Calls Tryz.prog 23 #[nptr g, geoV x y z] w fun e w' => e = .returned (.tuple #[encP (M.read x y z).1, .int .i64 (M.read x y z).2]) ∧ okP (M.read x y z).1 ∧ Has Is w0 w' g M L ∧ Same L w w' := by
  have h0 := h
  obtain ⟨F, i1, i2, i3, i4⟩ := h
  exact (C.read x y z i1).mono fun e w' ⟨he, hp, hb⟩ => ⟨he, hp, h0.below C hb⟩
theorem Has.erase (C : NandC Is) (h : Has Is w0 w g M L) (x y : Int) (h1 : M.ops < 4000000000000000000) (h2 : (M.blk x.toNat y.toNat).worn < 4000000000000000000) :
    Calls Tryz.prog 17 #[nptr g, .int .i64 x, .int .i64 y] w fun e w' => e = .returned (.int .i64 (M.erase x y).1) ∧ Has Is w0 w' g (M.erase x y).2 L ∧ Same L w w' := by
  obtain ⟨F, i1, i2, i3, i4⟩ := h
  exact (C.erase x y i1 h1 h2).mono fun e w' ⟨he, ht⟩ => ⟨he, Has.turn i2 i3 i4 ht⟩
theorem Has.next (C : NandC Is) (h : Has Is w0 w g M L) (x y : Int) :
    Calls Tryz.prog 20 #[nptr g, .int .i64 x, .int .i64 y] w fun e w' => e = .returned (.int .i64 (M.nextOf x y)) ∧ Has Is w0 w' g M L ∧ Same L w w' := by
  have h0 := h
  obtain ⟨F, i1, i2, i3, i4⟩ := h
  exact (C.next x y i1).mono fun e w' ⟨he, hb⟩ => ⟨he, h0.below C hb⟩
theorem Has.worn (C : NandC Is) (h : Has Is w0 w g M L) (x y : Int) :
    Calls Tryz.prog 36 #[nptr g, .int .i64 x, .int .i64 y] w fun e w' => e = .returned (.int .i64 (M.wornOf x y)) ∧ Has Is w0 w' g M L ∧ Same L w w' := by
  have h0 := h
  obtain ⟨F, i1, i2, i3, i4⟩ := h
  exact (C.worn x y i1).mono fun e w' ⟨he, hb⟩ => ⟨he, h0.below C hb⟩
theorem Has.dead (C : NandC Is) (h : Has Is w0 w g M L) (x : Nat) (hx : x < M.d) :
    Calls Tryz.prog 26 #[nptr g, .int .i64 x] w fun e w' => e = .returned (.bool (M.dead x)) ∧ Has Is w0 w' g M L ∧ Same L w w' := by
  have h0 := h
  obtain ⟨F, i1, i2, i3, i4⟩ := h
  exact (C.dead x i1 hx).mono fun e w' ⟨he, hb⟩ => ⟨he, h0.below C hb⟩
theorem Has.fault (C : NandC Is) (h : Has Is w0 w g M L) (at' kind x y z n v : Int) :
    Calls Tryz.prog 25 #[nptr g, .agg #[.int .i64 at', .int .i64 kind, .int .i64 x, .int .i64 y, .int .i64 z, .int .i64 n, .int .i64 v]] w fun e w' => e = .returned (.bool (M.fault kind x y z n v).1) ∧ Has Is w0 w' g (M.fault kind x y z n v).2 L ∧ Same L w w' := by
  obtain ⟨F, i1, i2, i3, i4⟩ := h
  exact (C.fault at' kind x y z n v i1).mono fun e w' ⟨he, ht⟩ => ⟨he, Has.turn i2 i3 i4 ht⟩
theorem Has.cut (C : NandC Is) (h : Has Is w0 w g M L) (ops keep : Int) (h1 : ops ≤ 9223372036854775807) (h2 : keep ≤ 9223372036854775807) :
    Calls Tryz.prog 21 #[nptr g, .int .i64 ops, .int .i64 keep] w fun e w' => e = .returned (.tuple #[]) ∧ Has Is w0 w' g (M.cutAt ops keep) L ∧ Same L w w' := by
  obtain ⟨F, i1, i2, i3, i4⟩ := h
  exact (C.cut ops keep i1 h1 h2).mono fun e w' ⟨he, ht⟩ => ⟨he, Has.turn i2 i3 i4 ht⟩
theorem Has.on (C : NandC Is) (h : Has Is w0 w g M L) :
    Calls Tryz.prog 22 #[nptr g] w fun e w' => e = .returned (.tuple #[]) ∧ Has Is w0 w' g M.on L ∧ Same L w w' := by
  obtain ⟨F, i1, i2, i3, i4⟩ := h
  exact (C.on i1).mono fun e w' ⟨he, ht⟩ => ⟨he, Has.turn i2 i3 i4 ht⟩
theorem Has.power (C : NandC Is) (h : Has Is w0 w g M L) :
    Calls Tryz.prog 37 #[nptr g] w fun e w' => e = .returned (.bool M.power) ∧ Has Is w0 w' g M L ∧ Same L w w' := by
  have h0 := h
  obtain ⟨F, i1, i2, i3, i4⟩ := h
  exact (C.power i1).mono fun e w' ⟨he, hb⟩ => ⟨he, h0.below C hb⟩
theorem Has.ops (C : NandC Is) (h : Has Is w0 w g M L) :
    Calls Tryz.prog 24 #[nptr g] w fun e w' => e = .returned (.int .i64 M.ops) ∧ Has Is w0 w' g M L ∧ Same L w w' := by
  have h0 := h
  obtain ⟨F, i1, i2, i3, i4⟩ := h
  exact (C.ops i1).mono fun e w' ⟨he, hb⟩ => ⟨he, h0.below C hb⟩
theorem Has.broken (C : NandC Is) (h : Has Is w0 w g M L) :
    Calls Tryz.prog 19 #[nptr g] w fun e w' => e = .returned (.int .i64 M.broken) ∧ Has Is w0 w' g M L ∧ Same L w w' := by
  have h0 := h
  obtain ⟨F, i1, i2, i3, i4⟩ := h
  exact (C.broken i1).mono fun e w' ⟨he, hb⟩ => ⟨he, h0.below C hb⟩
end Go.Proofs.YtfploeefmnbpcaaGreat

/- A flash, as it is told: what each call comes to. No Go text here. -/
namespace Go.Proofs.YtfploeefmnbpcaaGreat
open Go.RowKit Mp
namespace FlM

theorem bars_none {M : FlM} {x y z : Int} (hp : M.power = true) (hi : inGB M.d M.b M.p x y z = true) (hd : M.dead x.toNat = false) : M.bars x y z = none := by
  unfold bars; simp [hp, hi, hd]
theorem bars_power {M : FlM} (hp : M.power = false) (x y z : Int) : M.bars x y z = some 9 := by
  unfold bars; simp [hp]
theorem bars_range {M : FlM} {x y z : Int} (hp : M.power = true) (hi : inGB M.d M.b M.p x y z = false) : M.bars x y z = some 3 := by
  unfold bars; simp [hp, hi]
theorem bars_dead {M : FlM} {x y z : Int} (hp : M.power = true) (hi : inGB M.d M.b M.p x y z = true) (hd : M.dead x.toNat = true) : M.bars x y z = some 8 := by
  unfold bars; simp [hp, hi, hd]

theorem program_bar {M : FlM} {x y z e : Int} (pg : List Nat) (h : M.bars x y z = some e) : M.program x y z pg = (e, M) := by
  unfold program; rw [h]
theorem program_order {M : FlM} {x y z : Int} (pg : List Nat) (h : M.bars x y z = none) (hz : z ≠ (M.blk x.toNat y.toNat).next) : M.program x y z pg = (4, { M with broken := M.broken + 1 }) := by
  unfold program; rw [h]; simp only [ne_eq]; rw [if_pos hz]
theorem program_cut {M : FlM} {x y z : Int} {k : Nat} (pg : List Nat) (h : M.bars x y z = none) (hz : z = (M.blk x.toNat y.toNat).next) (hc : M.cut = some (0, k)) :
    M.program x y z pg = (9, ({ M with ops := M.ops + 1, power := false, cut := none } : FlM).setB x.toNat y.toNat { M.blk x.toNat y.toNat with next := (M.blk x.toNat y.toNat).next + 1, pages := upd (M.blk x.toNat y.toNat).pages (M.blk x.toNat y.toNat).next { bytes := pg.take k ++ List.replicate (32 - k) 255, turned := true } }) := by
  unfold program; rw [h]; simp only [ne_eq]; rw [if_neg (fun h => h hz)]
  simp only [cutNow, tick, hc]
theorem tick_none {M : FlM} (hc : M.cut = none) : M.tick = { M with ops := M.ops + 1 } := by unfold tick; rw [hc]
theorem tick_some {M : FlM} {n k : Nat} (hc : M.cut = some (n + 1, k)) : M.tick = { M with ops := M.ops + 1, cut := some (n, k) } := by unfold tick; rw [hc]
theorem tick_zero {M : FlM} {k : Nat} (hc : M.cut = some (0, k)) : M.tick = { M with ops := M.ops + 1, power := false, cut := none } := by unfold tick; rw [hc]
theorem cutNow_none {M : FlM} (hc : M.cut = none) : M.cutNow = none := by unfold cutNow; rw [hc]
theorem cutNow_some {M : FlM} {n k : Nat} (hc : M.cut = some (n + 1, k)) : M.cutNow = none := by unfold cutNow; rw [hc]; rfl
theorem program_ok {M : FlM} {x y z : Int} (pg : List Nat) (h : M.bars x y z = none) (hz : z = (M.blk x.toNat y.toNat).next) (hc : M.cutNow = none) (hm : (M.blk x.toNat y.toNat).met = false) (hf : (M.blk x.toNat y.toNat).fails (M.blk x.toNat y.toNat).next = false) :
    M.program x y z pg = (0, M.tick.setB x.toNat y.toNat { M.blk x.toNat y.toNat with next := (M.blk x.toNat y.toNat).next + 1, pages := upd (M.blk x.toNat y.toNat).pages (M.blk x.toNat y.toNat).next { bytes := pg } }) := by
  unfold program; rw [h]; simp only [ne_eq]; rw [if_neg (fun h => h hz)]
  rw [hc, hm, hf]
  simp
theorem program_fail {M : FlM} {x y z : Int} (pg : List Nat) (h : M.bars x y z = none) (hz : z = (M.blk x.toNat y.toNat).next) (hc : M.cutNow = none) (hm : ((M.blk x.toNat y.toNat).met || (M.blk x.toNat y.toNat).fails (M.blk x.toNat y.toNat).next) = true) :
    M.program x y z pg = (7, M.tick.setB x.toNat y.toNat { M.blk x.toNat y.toNat with next := (M.blk x.toNat y.toNat).next + 1, pages := upd (M.blk x.toNat y.toNat).pages (M.blk x.toNat y.toNat).next { cant := true } }) := by
  unfold program; rw [h]; simp only [ne_eq]; rw [if_neg (fun h => h hz)]
  rw [hc]; simp only [hm, if_true]
theorem read_bar {M : FlM} {x y z e : Int} (h : M.bars x y z = some e) : M.read x y z = (noPage, e) := by unfold read; rw [h]
theorem read_erased {M : FlM} {x y z : Int} (h : M.bars x y z = none) (hz : ((M.blk x.toNat y.toNat).next : Int) ≤ z) : M.read x y z = (noPage, 5) := by
  unfold read; rw [h]; simp only; rw [if_pos hz]
theorem read_cant {M : FlM} {x y z : Int} (h : M.bars x y z = none) (hz : z < ((M.blk x.toNat y.toNat).next : Int)) (hc : ((M.blk x.toNat y.toNat).pages z.toNat).cant = true) : M.read x y z = (noPage, 6) := by
  unfold read; rw [h]; simp only; rw [if_neg (by omega), if_pos hc]
theorem read_ok {M : FlM} {x y z : Int} (h : M.bars x y z = none) (hz : z < ((M.blk x.toNat y.toNat).next : Int)) (hc : ((M.blk x.toNat y.toNat).pages z.toNat).cant = false) : M.read x y z = (((M.blk x.toNat y.toNat).pages z.toNat).bytes, 0) := by
  unfold read; rw [h]; simp only; rw [if_neg (by omega), if_neg (by simp [hc])]
theorem erase_bar {M : FlM} {x y e : Int} (h : M.bars x y 0 = some e) : M.erase x y = (e, M) := by unfold erase; rw [h]
theorem erase_ok {M : FlM} {x y : Int} (h : M.bars x y 0 = none) (hc : M.cutNow = none) (ht : (M.blk x.toNat y.toNat).told = false) : M.erase x y = (0, M.tick.setB x.toNat y.toNat { worn := (M.blk x.toNat y.toNat).worn + 1 }) := by
  unfold erase; rw [h]; simp only [hc, ht]; simp
theorem erase_fail {M : FlM} {x y : Int} (h : M.bars x y 0 = none) (hc : M.cutNow = none) (ht : (M.blk x.toNat y.toNat).told = true) : M.erase x y = (7, M.tick.setB x.toNat y.toNat { M.blk x.toNat y.toNat with met := true }) := by
  unfold erase; rw [h]; simp only [hc, ht]; simp

theorem setB_same (M : FlM) (x y : Nat) (B : BlkM) : (M.setB x y B).blk x y = B := by simp [setB, upd]
theorem setB_die {M : FlM} {x y x' : Nat} (B : BlkM) (h : x' ≠ x) (y' : Nat) : (M.setB x y B).blk x' y' = M.blk x' y' := by simp [setB, upd, h]
theorem setB_block {M : FlM} {x y y' : Nat} (B : BlkM) (h : y' ≠ y) (x' : Nat) : (M.setB x y B).blk x' y' = M.blk x' y' := by
  simp only [setB, upd]; split
  · subst_vars; exact if_neg h
  · rfl
theorem setB_d (M : FlM) (x y : Nat) (B : BlkM) : (M.setB x y B).d = M.d := rfl
theorem setB_b (M : FlM) (x y : Nat) (B : BlkM) : (M.setB x y B).b = M.b := rfl
theorem setB_p (M : FlM) (x y : Nat) (B : BlkM) : (M.setB x y B).p = M.p := rfl
theorem setB_dead (M : FlM) (x y : Nat) (B : BlkM) : (M.setB x y B).dead = M.dead := rfl
theorem setB_power (M : FlM) (x y : Nat) (B : BlkM) : (M.setB x y B).power = M.power := rfl
theorem setB_ops (M : FlM) (x y : Nat) (B : BlkM) : (M.setB x y B).ops = M.ops := rfl
theorem setB_broken (M : FlM) (x y : Nat) (B : BlkM) : (M.setB x y B).broken = M.broken := rfl
theorem setB_cut (M : FlM) (x y : Nat) (B : BlkM) : (M.setB x y B).cut = M.cut := rfl
end FlM
end Go.Proofs.YtfploeefmnbpcaaGreat

/- Pages in memory; at which numbers a page stands. -/
namespace Go.Proofs.YtfploeefmnbpcaaGreat
open Go.RowKit Mp Go.ChangeMaps

def cellsP (p : List Nat) : List Value := p.map fun (n : Nat) => Value.int .u8 (n : Int)
theorem encP_eq (p : List Nat) : encP p = .agg (cellsP p).toArray := rfl

/-- At ad lies page p. -/
def PageAt (w : World) (b o : Nat) (p : List Nat) : Prop := ∀ j, j < 32 → w.cell? ⟨b, o + j, none⟩ = some (.int .u8 ((p.getD j 0 : Nat) : Int))

theorem load_page {w : World} {b o : Nat} {p : List Nat} (hp : p.length = 32) (h : PageAt w b o p) : (Instr.loadAt 34 (.pointer (some ⟨b, o, none⟩))).run Tryz.prog w = .ok (encP p) w := by
  have h1 := run_loadCells_list (P := Tryz.prog) (w := w) ⟨b, o, none⟩ (cellsP p) (fun j v hj => by
    have hj2 : j < 32 := by have := (List.getElem?_eq_some_iff.1 hj).1; simpa [cellsP, hp] using this
    have e : (⟨b, o, none⟩ : Addr).add j = ⟨b, o + j, none⟩ := by unfold Addr.add; split <;> simp_all
    rw [e, h j hj2]
    have hx : (cellsP p)[j]? = some (.int .u8 ((p.getD j 0 : Nat) : Int)) := by
      rw [cellsP, List.getElem?_map, List.getElem?_eq_getElem (by omega)]
      simp [List.getD_eq_getElem?_getD, List.getElem?_eq_getElem (show j < p.length by omega)]
    rw [← hx, hj])
  have h2 : (cellsP p).length = 32 := by simp [cellsP, hp]
  rw [h2] at h1
  simp [Instr.loadAt, loadVar, Instr.sureAddr, Tryz.isAgg34, Tryz.sizeOf34, h1, Result.andThen, encP_eq]

/-- A page is loaded, at the operation. -/
theorem wpList_loadP (w : World) {ops : Array Oper} {rest : List Oper} {o : Oper} {a : Act} {Q : Exit → Act → World → Prop} (hg : o.guard = none) (x : Operand) (hop : o.op = Op.load 34 x) (b of : Nat)
    (hx : a.eval x = .pointer (some ⟨b, of, none⟩)) (p : List Nat) (hp : p.length = 32) (h : PageAt w b of p) (hK : wpList Tryz.prog ops Q rest (a.put o.dst (encP p)) w) : wpList Tryz.prog ops Q (o :: rest) a w := by
  refine wpList_plain hg fun K' hK' => ?_
  unfold Oper.wp
  simp [execOp, hop, hx, load_page hp h, Result.andThen]
  exact hK' _ _ hK

theorem alloc_setRow (W : World) (zs cs : Array Value) (t : TypeId) : (W.alloc (.cells zs t)).setRow W.heap.size cs = W.alloc (.cells cs t) := by
  unfold World.setRow World.alloc
  simp only [World.mk.injEq, and_true]
  apply Array.ext_getElem?
  intro k
  rw [Array.getElem?_modify]
  by_cases h : W.heap.size = k
  · subst h; simp
  · rw [if_neg h]
    rcases Nat.lt_or_ge k W.heap.size with hk | hk
    · rw [Array.getElem?_push_lt hk, Array.getElem?_push_lt hk]
    · have h1 : W.heap.size < k := by omega
      rw [Array.getElem?_eq_none (by simp; omega), Array.getElem?_eq_none (by simp; omega)]

/-- A page is stored into a variable just made. -/
theorem wpList_storeP (w : World) {ops : Array Oper} {rest : List Oper} {o : Oper} {a : Act} {Q : Exit → Act → World → Prop} (hg : o.guard = none) (x y : Operand) (hop : o.op = Op.store 34 x y) (W : World) (zs : Array Value)
    (hw : w = W.alloc (.cells zs 34)) (hz : zs.size = 32) (hx : a.eval x = .pointer (some ⟨W.heap.size, 0, none⟩)) (p : List Nat) (hy : a.eval y = encP p) (hp : p.length = 32)
    (hK : wpList Tryz.prog ops Q rest (a.put o.dst undef) (W.alloc (.cells (cellsP p).toArray 34))) : wpList Tryz.prog ops Q (o :: rest) a w := by
  subst hw
  have h1 := run_storeCells_from (P := Tryz.prog) W.heap.size 34 (cellsP p) 0 zs (W.alloc (.cells zs 34)) (MapKept.heap_alloc W _).1 (by simp [cellsP, hp, hz]) (fun v hv => by
    simp only [cellsP, List.mem_map] at hv
    obtain ⟨n, _, rfl⟩ := hv
    rfl)
  simp only [List.take_zero, List.nil_append, alloc_setRow] at h1
  have h2 : (encP p).cells.size = 32 := by simp [encP, Value.cells, hp]
  have h3 : (encP p).cells.toList = cellsP p := rfl
  have hrun : (Instr.storeAt 34 (.pointer (some ⟨W.heap.size, 0, none⟩)) (encP p)).run Tryz.prog (W.alloc (.cells zs 34)) = .ok () (W.alloc (.cells (cellsP p).toArray 34)) := by
    simp [Instr.storeAt, storeVar, Instr.sureAddr, Tryz.sizeOf34, h2, h3, h1, Result.andThen]
  refine wpList_plain hg fun K' hK' => ?_
  unfold Oper.wp
  simp [execOp, hop, hx, hy, hrun, Result.andThen]
  exact hK' _ _ hK

/-- The page that was just stored. -/
theorem pageAt_new (W : World) (p : List Nat) (hp : p.length = 32) (t : TypeId) : PageAt (W.alloc (.cells (cellsP p).toArray t)) W.heap.size 0 p := fun j hj => by
  rw [World.cell?_alloc_at _ _ _ _ rfl, Nat.zero_add]
  simp [cellsP, List.getElem?_eq_getElem (show j < p.length by omega), List.getD_eq_getElem?_getD]
theorem PageAt.below {w w' : World} {b o B : Nat} {p : List Nat} (h : PageAt w b o p) (hb : Below B w w') (hB : b < B) : PageAt w' b o p := fun j hj => (hb.cell (p := ⟨b, o + j, none⟩) hB).trans (h j hj)

/-- a leads to the pages ps. -/
def PagesIs (w : World) (a : Option Addr) (ps : List (List Nat)) : Prop := ∀ i p, ps[i]? = some p → p.length = 32 ∧ ∃ b o, a = some ⟨b, o, none⟩ ∧ PageAt w b (o + i * 32) p
theorem PageAt.lt {w : World} {b o : Nat} {p : List Nat} (h : PageAt w b o p) : b < w.heap.size := World.block_lt_of_cell? w _ (h 0 (by omega))
theorem PagesIs.below {w w' : World} {a : Option Addr} {ps : List (List Nat)} (h : PagesIs w a ps) (hb : Below w.heap.size w w') : PagesIs w' a ps := fun i p hi => by
  obtain ⟨h1, b, o, h2, h3⟩ := h i p hi
  exact ⟨h1, b, o, h2, h3.below hb h3.lt⟩

/-- At which numbers below k page p stands. -/
def idxP (ps : List (List Nat)) (k : Nat) (p : List Nat) : List Nat := (List.range k).filter fun i => decide (ps[i]? = some p)
theorem idxP_yes {ps : List (List Nat)} {k : Nat} {p : List Nat} (h : ps[k]? = some p) : idxP ps (k + 1) p = idxP ps k p ++ [k] := by
  unfold idxP; rw [List.range_succ, List.filter_append]; simp [h]
theorem idxP_no {ps : List (List Nat)} {k : Nat} {p q : List Nat} (h : ps[k]? = some q) (hn : q ≠ p) : idxP ps (k + 1) p = idxP ps k p := by
  unfold idxP; rw [List.range_succ, List.filter_append]; simp [h, hn]
theorem idxP_len (ps : List (List Nat)) (k : Nat) (p : List Nat) : (idxP ps k p).length ≤ k := by
  have := List.length_filter_le (fun i => decide (ps[i]? = some p)) (List.range k)
  simpa [idxP] using this
theorem idxP_mem {ps : List (List Nat)} {k : Nat} {p : List Nat} {i : Nat} : i ∈ idxP ps k p ↔ i < k ∧ ps[i]? = some p := by
  simp [idxP]
/-- The numbers, as Go has them. -/
def ints (l : List Nat) : List Value := l.map fun (i : Nat) => Value.int .i64 (i : Int)

/-- Does a group of two or more begin at i? -/
def leads (ps : List (List Nat)) (n i : Nat) : Bool := match idxP ps n (ps.getD i []) with | j :: _ :: _ => j == i | _ => false
def firsts (ps : List (List Nat)) (n m : Nat) : List Nat := (List.range m).filter (leads ps n)
/-- Twins' answer. -/
def twinsS (ps : List (List Nat)) : List (List Nat) := (firsts ps ps.length ps.length).map fun i => idxP ps ps.length (ps.getD i [])
theorem firsts_yes {ps : List (List Nat)} {n m : Nat} (h : leads ps n m = true) : firsts ps n (m + 1) = firsts ps n m ++ [m] := by
  unfold firsts; rw [List.range_succ, List.filter_append]; simp [h]
theorem firsts_no {ps : List (List Nat)} {n m : Nat} (h : leads ps n m = false) : firsts ps n (m + 1) = firsts ps n m := by
  unfold firsts; rw [List.range_succ, List.filter_append]; simp [h]

/-- The map of Twins after k rounds. -/
structure Gr (w : World) (base b : Nat) (ps : List (List Nat)) (k : Nat) (l : List (List Nat × Value)) : Prop where
  map : MapIs EP w b l
  low : b < base
  own : ∀ p v, (p, v) ∈ l → w.ownsRow base 3 1 v (idxP ps k p).length (ints (idxP ps k p))
  full : ∀ p v, (p, v) ∈ l → idxP ps k p ≠ []
  apart : ∀ p v q u, (p, v) ∈ l → (q, u) ∈ l → p ≠ q → v.ownBlock ≠ u.ownBlock
  has : ∀ p, idxP ps k p ≠ [] → ∃ v, (p, v) ∈ l

theorem ownsRow_same {w w' : World} {base : Nat} {e : TypeId} {size : Nat} {v : Value} {n : Nat} {xs : List Value} (h : w.ownsRow base e size v n xs) (_hs : w.heap.size ≤ w'.heap.size) (hb : ∀ g, v.ownBlock = some g → w'.heap[g]? = w.heap[g]?) : w'.ownsRow base e size v n xs := by
  refine ⟨h.1, ?_⟩
  rcases h.2 with h1 | ⟨g, cap, cur, rfl, h2, h3, h4⟩
  · exact .inl h1
  · exact .inr ⟨g, cap, cur, rfl, h2, (hb g rfl).trans h3, h4⟩

theorem Gr.below {w w' : World} {base b B : Nat} {ps : List (List Nat)} {k : Nat} {l : List (List Nat × Value)} (h : Gr w base b ps k l) (hw : Below B w w') (hB : w.heap.size ≤ B) : Gr w' base b ps k l :=
  ⟨h.map.of_block (hw.block b (Nat.lt_of_lt_of_le h.map.lt hB)), h.low, fun p v hv => ownsRow_same (h.own p v hv) hw.size (fun g hg => hw.block g (Nat.lt_of_lt_of_le ((h.own p v hv).lt g hg).2 hB)), h.full, h.apart, h.has⟩

theorem gr_start (w : World) (ps : List (List Nat)) : Gr (w.alloc (.map #[] 0)) (w.heap.size + 1) w.heap.size ps 0 [] :=
  ⟨made EP w, Nat.lt_succ_self _, fun _ _ h => by simp at h, fun _ _ h => by simp at h, fun _ _ _ _ h => by simp at h, fun p h => by simp [idxP] at h⟩

theorem Gr.row {w : World} {base b : Nat} {ps : List (List Nat)} {k : Nat} {l : List (List Nat × Value)} (h : Gr w base b ps k l) (p : List Nat) : w.ownsRow base 3 1 ((getA l p).getD (.slice none 0 0)) (idxP ps k p).length (ints (idxP ps k p)) := by
  cases hg : getA l p with
  | some v => exact h.own p v (mem_of_getA hg)
  | none =>
    have : idxP ps k p = [] := by
      by_cases h2 : idxP ps k p = []
      · exact h2
      · obtain ⟨v, hv⟩ := h.has p h2
        rw [getA_of_mem h.map.nodup hv] at hg
        cases hg
    rw [this]
    exact World.ownsRow_nil _ _ _ _

theorem heap_setB {W : World} {b k : Nat} (o : Obj) (hk : k ≠ b) : (setBlock W b o).heap[k]? = W.heap[k]? := by
  simp only [setBlock, Array.getElem?_setIfInBounds]
  rw [if_neg (fun e => hk e.symm)]
theorem size_setB (W : World) (b : Nat) (o : Obj) : (setBlock W b o).heap.size = W.heap.size := by simp [setBlock]
theorem below_setB {B b : Nat} {a W : World} (h : Below B a W) (hb : B ≤ b) (o : Obj) : Below B a (setBlock W b o) :=
  ⟨h.os, h.tape, h.output, by rw [size_setB]; exact h.size, fun k hk => (heap_setB o (by omega)).trans (h.block k hk)⟩

theorem mem_delA {α : Type} [DecidableEq α] {l : List (α × Value)} {a b : α} {v : Value} (h : (b, v) ∈ delA l a) : (b, v) ∈ l ∧ b ≠ a := by
  have := List.mem_filter.1 h
  exact ⟨this.1, by simpa using this.2⟩

/-- A round of Twins: the value at the page has been told its number k. w1: the entry laid hold of; w2: behind the append; o2: what is stored. -/
theorem Gr.step {w wa w1 w2 w3 : World} {base b : Nat} {ps : List (List Nat)} {k : Nat} {l : List (List Nat × Value)} {p : List Nat} {v' : Value} {o1 o2 : Obj} (h : Gr w base b ps k l) (hk : ps[k]? = some p)
    (ha : Below w.heap.size w wa) (h1 : w1 = setBlock wa b o1) (hown : w2.ownsRow base 3 1 v' ((idxP ps k p).length + 1) (ints (idxP ps k p) ++ [.int .i64 (k : Int)]))
    (hg : w1.grownBy w2 ((getA l p).getD (.slice none 0 0)).ownBlock) (hloc : v'.ownBlock = ((getA l p).getD (.slice none 0 0)).ownBlock ∨ v'.ownBlock = some w1.heap.size) (ho : IsObj EP o2 ((p, v') :: delA l p)) (h3 : w3 = setBlock w2 b o2) :
    Gr w3 base b ps (k + 1) ((p, v') :: delA l p) := by
  have hbl := h.map.lt
  have s1 : w1.heap.size = wa.heap.size := by rw [h1]; simp [setBlock]
  have s3 : w3.heap.size = w2.heap.size := by rw [h3]; simp [setBlock]
  have hb2 : b < w2.heap.size := by have := ha.size; have := hg.size; omega
  -- the value that stood there
  have hv0 : ((getA l p).getD (.slice none 0 0) = .slice none 0 0) ∨ ∃ v, (p, v) ∈ l ∧ (getA l p).getD (.slice none 0 0) = v := by
    cases hgt : getA l p with
    | none => exact .inl rfl
    | some v => exact .inr ⟨v, mem_of_getA hgt, rfl⟩
  -- other rows lie as they lay
  have other : ∀ q u, (q, u) ∈ l → q ≠ p → w3.ownsRow base 3 1 u (idxP ps (k + 1) q).length (ints (idxP ps (k + 1) q)) := by
    intro q u hq hne
    rw [idxP_no hk (Ne.symm hne)]
    have r0 := h.own q u hq
    have r1 := ownsRow_same r0 ha.size (fun g hg' => ha.block g (r0.lt g hg').2)
    have r2 : w1.ownsRow base 3 1 u (idxP ps k q).length (ints (idxP ps k q)) := ownsRow_same r1 (by rw [s1]; exact Nat.le_refl _) (fun g hg' => by
      have := (r0.lt g hg').1
      have := h.low
      rw [h1]; simp only [setBlock, Array.getElem?_setIfInBounds]; rw [if_neg (by omega)])
    have r3 : w2.ownsRow base 3 1 u (idxP ps k q).length (ints (idxP ps k q)) := by
      refine r2.kept hg ?_
      rcases hv0 with e | ⟨v, hv, e⟩
      · rw [e]
        cases hub : u.ownBlock with
        | none => exact .inl rfl
        | some g => exact .inr (by simp [Value.ownBlock])
      · rw [e]; exact .inr (h.apart q u p v hq hv hne)
    exact ownsRow_same r3 (by rw [s3]; exact Nat.le_refl _) (fun g hg' => by
      have := (r0.lt g hg').1
      have := h.low
      rw [h3]; simp only [setBlock, Array.getElem?_setIfInBounds]; rw [if_neg (by omega)])
  -- a row that is there leads to a block that lay
  have blk : ∀ q u, (q, u) ∈ l → ∃ g, u.ownBlock = some g ∧ g < w.heap.size := by
    intro q u hq
    have r0 := h.own q u hq
    have hne := h.full q u hq
    rcases r0.2 with ⟨rfl, hz⟩ | ⟨g, cap, cur, rfl, _, hg', _⟩
    · exact absurd (List.eq_nil_of_length_eq_zero hz) hne
    · exact ⟨g, rfl, (Array.getElem?_eq_some_iff.1 hg').1⟩
  have apart' : ∀ q u, (q, u) ∈ l → q ≠ p → v'.ownBlock ≠ u.ownBlock := by
    intro q u hq hne
    obtain ⟨g, hg1, hg2⟩ := blk q u hq
    rcases hloc with e | e
    · rw [e]
      rcases hv0 with e2 | ⟨v, hv, e2⟩
      · rw [e2, hg1]; simp [Value.ownBlock]
      · rw [e2]; exact h.apart p v q u hv hq (Ne.symm hne)
    · rw [e, hg1, s1]
      have := ha.size
      simp
      omega
  refine ⟨⟨o2, ?_, ho⟩, h.low, ?_, ?_, ?_, ?_⟩
  · rw [h3]; simp [setBlock, hb2]
  · intro q u hq
    rcases List.mem_cons.1 hq with e | hq
    · cases e
      rw [idxP_yes hk]
      have r : w3.ownsRow base 3 1 v' ((idxP ps k p).length + 1) (ints (idxP ps k p) ++ [.int .i64 (k : Int)]) := ownsRow_same hown (by rw [s3]; exact Nat.le_refl _) (fun g hg' => by
        have := (hown.lt g hg').1
        have := h.low
        rw [h3]; simp only [setBlock, Array.getElem?_setIfInBounds]; rw [if_neg (by omega)])
      simpa [ints] using r
    · obtain ⟨m1, m2⟩ := mem_delA hq
      exact other q u m1 m2
  · intro q u hq
    rcases List.mem_cons.1 hq with e | hq
    · cases e; rw [idxP_yes hk]; simp
    · obtain ⟨m1, m2⟩ := mem_delA hq
      rw [idxP_no hk (Ne.symm m2)]; exact h.full q u m1
  · intro q u q' u' hq hq' hne
    rcases List.mem_cons.1 hq with e | hq
    · cases e
      rcases List.mem_cons.1 hq' with e | hq'
      · cases e; exact absurd rfl hne
      · obtain ⟨m1, m2⟩ := mem_delA hq'
        exact apart' q' u' m1 m2
    · obtain ⟨m1, m2⟩ := mem_delA hq
      rcases List.mem_cons.1 hq' with e | hq'
      · cases e; exact fun e => apart' q u m1 m2 e.symm
      · obtain ⟨m3, m4⟩ := mem_delA hq'
        exact h.apart q u q' u' m1 m3 hne
  · intro q hq
    by_cases hne : q = p
    · subst hne; exact ⟨v', List.mem_cons_self⟩
    · rw [idxP_no hk (fun e => hne e.symm)] at hq
      obtain ⟨u, hu⟩ := h.has q hq
      exact ⟨u, List.mem_cons_of_mem _ (List.mem_filter.2 ⟨hu, by simpa using hne⟩)⟩
end Go.Proofs.YtfploeefmnbpcaaGreat

/- Slices of places, of steps, of pages that came in. -/
namespace Go.Proofs.YtfploeefmnbpcaaGreat
open Go.RowKit Go.ChangeShapes Go.WideShapes

/-- a leads to the places xs. -/
def AddrsIs (w : World) (a : Option Addr) (xs : List A3) : Prop := ∀ i x, xs[i]? = some x → okA x ∧ ∃ b o, a = some ⟨b, o, none⟩ ∧
  w.cell? ⟨b, o + i * 3, none⟩ = some (.int .i64 x.1) ∧ w.cell? ⟨b, o + i * 3 + 1, none⟩ = some (.int .i64 x.2.1) ∧ w.cell? ⟨b, o + i * 3 + 2, none⟩ = some (.int .i64 x.2.2)
/-- a leads to the steps xs: kind, place, number. -/
def OpsIs (w : World) (a : Option Addr) (xs : List (Int × A3 × Int)) : Prop := ∀ i x, xs[i]? = some x → okA x.2.1 ∧ okI x.2.2 ∧ ∃ b o, a = some ⟨b, o, none⟩ ∧
  w.cell? ⟨b, o + i * 5, none⟩ = some (.int .i64 x.1) ∧ w.cell? ⟨b, o + i * 5 + 1, none⟩ = some (.int .i64 x.2.1.1) ∧ w.cell? ⟨b, o + i * 5 + 2, none⟩ = some (.int .i64 x.2.1.2.1) ∧
  w.cell? ⟨b, o + i * 5 + 3, none⟩ = some (.int .i64 x.2.1.2.2) ∧ w.cell? ⟨b, o + i * 5 + 4, none⟩ = some (.int .i64 x.2.2)

theorem AddrsIs.below {w w' : World} {a : Option Addr} {xs : List A3} (h : AddrsIs w a xs) (hb : Below w.heap.size w w') : AddrsIs w' a xs := fun i x hx => by
  obtain ⟨h0, b, o, e, c0, c1, c2⟩ := h i x hx
  exact ⟨h0, b, o, e, (hb.cell (World.block_lt_of_cell? w _ c0)).trans c0, (hb.cell (World.block_lt_of_cell? w _ c1)).trans c1, (hb.cell (World.block_lt_of_cell? w _ c2)).trans c2⟩
theorem OpsIs.below {w w' : World} {a : Option Addr} {xs : List (Int × A3 × Int)} (h : OpsIs w a xs) (hb : Below w.heap.size w w') : OpsIs w' a xs := fun i x hx => by
  obtain ⟨h0, h1, b, o, e, c0, c1, c2, c3, c4⟩ := h i x hx
  exact ⟨h0, h1, b, o, e, (hb.cell (World.block_lt_of_cell? w _ c0)).trans c0, (hb.cell (World.block_lt_of_cell? w _ c1)).trans c1, (hb.cell (World.block_lt_of_cell? w _ c2)).trans c2, (hb.cell (World.block_lt_of_cell? w _ c3)).trans c3, (hb.cell (World.block_lt_of_cell? w _ c4)).trans c4⟩

section
variable {H : Type} {enc : TypeId × Value → H} {w : World} {base : Nat} {spare : Nat → Bool} {held : Bool}

/-- Things that are read at each index, as a list. -/
theorem list_of {α : Type} [Inhabited α] {n : Nat} {R : Nat → α → Prop} (h : ∀ i, i < n → ∃ x, R i x) : ∃ xs : List α, xs.length = n ∧ ∀ i x, xs[i]? = some x → R i x := by
  induction n with
  | zero => exact ⟨[], rfl, fun i x hx => by simp at hx⟩
  | succ n ih =>
    obtain ⟨xs, h1, h2⟩ := ih (fun i hi => h i (by omega))
    obtain ⟨x, hx⟩ := h n (by omega)
    refine ⟨xs ++ [x], by simp [h1], fun i y hy => ?_⟩
    rcases Nat.lt_or_ge i xs.length with hi | hi
    · rw [List.getElem?_append_left hi] at hy; exact h2 i y hy
    · have : i = n := by have := (List.getElem?_eq_some_iff.1 hy).1; simp at this; omega
      subst this
      rw [List.getElem?_append_right hi, h1, Nat.sub_self] at hy
      simp at hy; subst hy; exact hx

theorem len3 {α : Type} {l : List α} (h : l.length = 3) : ∃ a b c, l = [a, b, c] := by
  match l, h with
  | [a, b, c], _ => exact ⟨a, b, c, rfl⟩

/-- A struct of three one-cell ints, read. -/
theorem struct3_read {t : TypeId} {f0 f1 f2 : Field} (he : Tryz.prog.underlying t = some (.struct #[f0, f1, f2])) (ce : Tryz.prog.cellsOf t = 3) (o0 : f0.offset = 0) (o1 : f1.offset = 1) (o2 : f2.offset = 2)
    (t0 : f0.type = 3) (t1 : f1.type = 3) (t2 : f2.type = 3) {n : Nat} {cs : List Value} {y : DataW H × List MemPlace} (h : DataW.trod enc Tryz.prog w base spare held n t cs = some y) : ∃ x : A3, okA x ∧ cs = cellsA x := by
  obtain ⟨xs, k, hk, hxy, hlen, hxl, hf⟩ := DataW.trod_struct he h
  rw [ce] at hlen
  obtain ⟨v0, v1, v2, rfl⟩ := len3 hlen
  obtain ⟨y0, y1, y2, rfl⟩ := len3 (show xs.length = 3 from hxl)
  have g0 := hf 0 f0 rfl
  have g1 := hf 1 f1 rfl
  have g2 := hf 2 f2 rfl
  rw [o0, t0, cellsOf_I] at g0
  rw [o1, t1, cellsOf_I] at g1
  rw [o2, t2, cellsOf_I] at g2
  simp only [List.drop_zero, List.drop_succ_cons, List.take_succ_cons, List.take_zero, List.getElem?_cons_zero, List.getElem?_cons_succ] at g0 g1 g2
  obtain ⟨q0, e0, _, w0⟩ := DataW.trod_int Tryz.underlying3 g0
  obtain ⟨q1, e1, _, w1⟩ := DataW.trod_int Tryz.underlying3 g1
  obtain ⟨q2, e2, _, w2⟩ := DataW.trod_int Tryz.underlying3 g2
  simp only [List.cons.injEq, and_true] at e0 e1 e2
  subst e0 e1 e2
  exact ⟨(q0, q1, q2), ⟨w0, w1, w2⟩, rfl⟩

theorem addr_read {n : Nat} {cs : List Value} {y : DataW H × List MemPlace} (h : DataW.trod enc Tryz.prog w base spare held n 32 cs = some y) : ∃ x : A3, okA x ∧ cs = cellsA x :=
  struct3_read Tryz.underlying32 cellsOf_A rfl rfl rfl rfl rfl rfl h

/-- An address at which something is read is a plain one. -/
theorem spot_of {b o k : Nat} {s : Option Nat} {v : Value} (h : w.cell? (((⟨b, o, s⟩ : Addr).add (0 * k)).add 0) = some v) : s = none := by
  have h0 := World.cell?_spot h
  rwa [Nat.zero_mul, show (((⟨b, o, s⟩ : Addr).add 0).add 0) = ⟨b, o, s⟩ from rfl] at h0

theorem addrs_come {fuel : Nat} {a : Option Addr} {len cap : Nat} {x : DataW H × List MemPlace} (h : DataW.trod enc Tryz.prog w base spare held fuel 110 [.slice a len cap] = some x) :
    ∃ xs : List A3, xs.length = len ∧ len ≤ cap ∧ cap ≤ maxLen ∧ AddrsIs w a xs := by
  rcases Go.Deep.open_slice Tryz.underlying110 h with ⟨hcs, _⟩ | ⟨ad, l, c, m, n, D, Pl, hcs, _, hl, hm, hmm, _, hx⟩
  · simp only [List.cons.injEq, Value.slice.injEq, and_true] at hcs
    obtain ⟨rfl, rfl, rfl⟩ := hcs
    exact ⟨[], rfl, Nat.le_refl _, by unfold maxLen; omega, fun i x hx => by simp at hx⟩
  · simp only [List.cons.injEq, Value.slice.injEq, and_true] at hcs
    obtain ⟨rfl, rfl, rfl⟩ := hcs
    rw [cellsOf_A] at hx
    have hlm : len ≤ m := by rw [hmm]; split <;> omega
    obtain ⟨xs, h1, h2⟩ := list_of (α := A3) (n := len) (R := fun i x => okA x ∧ ∃ b o, some ad = some ⟨b, o, none⟩ ∧
      w.cell? ⟨b, o + i * 3, none⟩ = some (.int .i64 x.1) ∧ w.cell? ⟨b, o + i * 3 + 1, none⟩ = some (.int .i64 x.2.1) ∧ w.cell? ⟨b, o + i * 3 + 2, none⟩ = some (.int .i64 x.2.2)) (fun i hi => by
        obtain ⟨cs', e1, e2⟩ := hx i (by omega)
        obtain ⟨p, hp, rfl⟩ := addr_read e2
        obtain ⟨_, hlen, hcell⟩ := World.cells?_some e1
        have c0 := hcell 0 (by omega)
        have c1 := hcell 1 (by omega)
        have c2 := hcell 2 (by omega)
        obtain ⟨cs0, f1, f2⟩ := hx 0 (by omega)
        obtain ⟨p0, _, rfl⟩ := addr_read f2
        have d0 := (World.cells?_some f1).2.2 0 (by omega)
        obtain ⟨b, o, s⟩ := ad
        obtain rfl : s = none := spot_of (v := .int .i64 p0.1) (by rw [d0]; rfl)
        refine ⟨p, hp, b, o, rfl, ?_, ?_, ?_⟩
        · rw [add_plain, add_plain] at c0; simpa [cellsA] using c0
        · rw [add_plain, add_plain] at c1; simpa [cellsA] using c1
        · rw [add_plain, add_plain] at c2; simpa [cellsA] using c2)
    exact ⟨xs, h1, hl, hm, h2⟩

theorem len5 {α : Type} {l : List α} (h : l.length = 5) : ∃ a b c d e, l = [a, b, c, d, e] := by
  match l, h with
  | [a, b, c, d, e], _ => exact ⟨a, b, c, d, e, rfl⟩
def cellsO (x : Int × A3 × Int) : List Value := [.int .i64 x.1, .int .i64 x.2.1.1, .int .i64 x.2.1.2.1, .int .i64 x.2.1.2.2, .int .i64 x.2.2]
theorem structO_read {t : TypeId} {f0 f1 f2 : Field} (he : Tryz.prog.underlying t = some (.struct #[f0, f1, f2])) (ce : Tryz.prog.cellsOf t = 5) (o0 : f0.offset = 0) (o1 : f1.offset = 1) (o2 : f2.offset = 4)
    (t0 : f0.type = 3) (t1 : f1.type = 32) (t2 : f2.type = 3) {n : Nat} {cs : List Value} {y : DataW H × List MemPlace} (h : DataW.trod enc Tryz.prog w base spare held n t cs = some y) : ∃ x : Int × A3 × Int, (okA x.2.1 ∧ okI x.2.2) ∧ cs = cellsO x := by
  obtain ⟨xs, k, hk, hxy, hlen, hxl, hf⟩ := DataW.trod_struct he h
  rw [ce] at hlen
  obtain ⟨v0, v1, v2, v3, v4, rfl⟩ := len5 hlen
  obtain ⟨y0, y1, y2, rfl⟩ := len3 (show xs.length = 3 from hxl)
  have g0 := hf 0 f0 rfl
  have g1 := hf 1 f1 rfl
  have g2 := hf 2 f2 rfl
  rw [o0, t0, cellsOf_I] at g0
  rw [o1, t1, cellsOf_A] at g1
  rw [o2, t2, cellsOf_I] at g2
  simp only [List.drop_zero, List.drop_succ_cons, List.take_succ_cons, List.take_zero, List.getElem?_cons_zero, List.getElem?_cons_succ] at g0 g1 g2
  obtain ⟨q0, e0, _, w0⟩ := DataW.trod_int Tryz.underlying3 g0
  obtain ⟨p, hp, e1⟩ := addr_read g1
  obtain ⟨q2, e2, _, w2⟩ := DataW.trod_int Tryz.underlying3 g2
  simp only [List.cons.injEq, and_true, cellsA] at e0 e1 e2
  obtain ⟨rfl, rfl, rfl⟩ := e1
  subst e0 e2
  exact ⟨(q0, p, q2), ⟨hp, w2⟩, rfl⟩
theorem page_read {n : Nat} {cs : List Value} {y : DataW H × List MemPlace} (h : DataW.trod enc Tryz.prog w base spare held n 34 cs = some y) : ∃ p : List Nat, okP p ∧ cs = cellsP p := by
  obtain ⟨xs, k, hk, hxy, hlen, hxl, hf⟩ := DataW.trod_array Tryz.underlying34 h
  rw [cellsOf_P] at hlen
  rw [cellsOf_B] at hf
  have each : ∀ i, i < 32 → ∃ b : Nat, b < 256 ∧ cs[i]? = some (.int .u8 (b : Int)) := fun i hi => by
    have g := hf i hi
    rw [Nat.mul_one] at g
    have hc : (cs.drop i).take 1 = [cs[i]'(by omega)] := by rw [List.drop_eq_getElem_cons (by omega)]; rfl
    rw [hc, List.getElem?_eq_getElem (by omega)] at g
    obtain ⟨q, e, _, hw⟩ := DataW.trod_int Tryz.underlying5 g
    simp only [List.cons.injEq, and_true] at e
    have hq : 0 ≤ q ∧ q ≤ 255 := by simpa [Lit.wf, IntKind.min, IntKind.max, IntKind.signed, IntKind.bits] using hw
    refine ⟨q.toNat, by omega, ?_⟩
    rw [List.getElem?_eq_getElem (by omega), e, Int.toNat_of_nonneg hq.1]
  obtain ⟨p, h1, h2⟩ := list_of (α := Nat) each
  refine ⟨p, ⟨h1, fun x hx => ?_⟩, ?_⟩
  · obtain ⟨i, hi⟩ := List.getElem?_of_mem hx
    exact (h2 i x hi).1
  · apply List.ext_getElem?
    intro i
    unfold cellsP
    rw [List.getElem?_map]
    rcases Nat.lt_or_ge i 32 with hi | hi
    · rw [List.getElem?_eq_getElem (show i < p.length by omega)]
      exact (h2 i _ (List.getElem?_eq_getElem (by omega))).2
    · rw [List.getElem?_eq_none (by omega), List.getElem?_eq_none (by omega)]; rfl

theorem pages_come {fuel : Nat} {a : Option Addr} {len cap : Nat} {x : DataW H × List MemPlace} (h : DataW.trod enc Tryz.prog w base spare held fuel 114 [.slice a len cap] = some x) :
    ∃ ps : List (List Nat), ps.length = len ∧ len ≤ cap ∧ cap ≤ maxLen ∧ (∀ p ∈ ps, okP p) ∧ PagesIs w a ps := by
  rcases Go.Deep.open_slice Tryz.underlying114 h with ⟨hcs, _⟩ | ⟨ad, l, c, m, n, D, Pl, hcs, _, hl, hm, hmm, _, hx⟩
  · simp only [List.cons.injEq, Value.slice.injEq, and_true] at hcs
    obtain ⟨rfl, rfl, rfl⟩ := hcs
    exact ⟨[], rfl, Nat.le_refl _, by unfold maxLen; omega, fun p hp => by simp at hp, fun i x hx => by simp at hx⟩
  · simp only [List.cons.injEq, Value.slice.injEq, and_true] at hcs
    obtain ⟨rfl, rfl, rfl⟩ := hcs
    rw [cellsOf_P] at hx
    have hlm : len ≤ m := by rw [hmm]; split <;> omega
    obtain ⟨ps, h1, h2⟩ := list_of (α := List Nat) (n := len) (R := fun i p => okP p ∧ ∃ b o, some ad = some ⟨b, o, none⟩ ∧ PageAt w b (o + i * 32) p) (fun i hi => by
        obtain ⟨cs', e1, e2⟩ := hx i (by omega)
        obtain ⟨p, hp, rfl⟩ := page_read e2
        obtain ⟨_, hlen, hcell⟩ := World.cells?_some e1
        obtain ⟨cs0, f1, f2⟩ := hx 0 (by omega)
        obtain ⟨p0, hp0, rfl⟩ := page_read f2
        have d0 := (World.cells?_some f1).2.2 0 (by omega)
        obtain ⟨b, o, s⟩ := ad
        obtain rfl : s = none := by
          have hc0 : (cellsP p0)[0]? = some (.int .u8 ((p0.getD 0 0 : Nat) : Int)) := by
            have := hp0.1
            simp [cellsP, List.getElem?_eq_getElem (show 0 < p0.length by omega), List.getD_eq_getElem?_getD]
          exact spot_of (d0.trans hc0)
        refine ⟨p, hp, b, o, rfl, fun j hj => ?_⟩
        have cj := hcell j hj
        rw [add_plain, add_plain] at cj
        rw [cj]
        have := hp.1
        simp [cellsP, List.getElem?_eq_getElem (show j < p.length by omega), List.getD_eq_getElem?_getD])
    refine ⟨ps, h1, hl, hm, fun p hp => ?_, fun i p hp => ?_⟩
    · obtain ⟨i, hi⟩ := List.getElem?_of_mem hp
      exact (h2 i p hi).1
    · obtain ⟨h3, h4⟩ := h2 i p hp
      exact ⟨h3.1, h4⟩
end
end Go.Proofs.YtfploeefmnbpcaaGreat
