/- Pages in memory; at which numbers a page stands. -/
import Derived.Test.YtobkbbbdddllmaaKeys
import Derived.Laws.Tables
import Derived.Laws.Cells
import Derived.Maps.AppendAt
import Derived.OwnWalk
namespace Go.Proofs.Ytobkbbbdddllmaa
open Go.RowKit Mp Go.ChangeMaps

def cellsP (p : List Nat) : List Value := p.map fun (n : Nat) => Value.int .u8 (n : Int)
theorem encP_eq (p : List Nat) : encP p = .agg (cellsP p).toArray := rfl

/-- At ad lies page p. -/
def PageAt (w : World) (b o : Nat) (p : List Nat) : Prop := ∀ j, j < 32 → w.cell? ⟨b, o + j, none⟩ = some (.int .u8 ((p.getD j 0 : Nat) : Int))

theorem load_page {w : World} {b o : Nat} {p : List Nat} (hp : p.length = 32) (h : PageAt w b o p) : (Instr.loadAt 48 (.pointer (some ⟨b, o, none⟩))).run Try.prog w = .ok (encP p) w := by
  have h1 := run_loadCells_list (P := Try.prog) (w := w) ⟨b, o, none⟩ (cellsP p) (fun j v hj => by
    have hj2 : j < 32 := by have := (List.getElem?_eq_some_iff.1 hj).1; simpa [cellsP, hp] using this
    have e : (⟨b, o, none⟩ : Addr).add j = ⟨b, o + j, none⟩ := by unfold Addr.add; split <;> simp_all
    rw [e, h j hj2]
    have hx : (cellsP p)[j]? = some (.int .u8 ((p.getD j 0 : Nat) : Int)) := by
      rw [cellsP, List.getElem?_map, List.getElem?_eq_getElem (by omega)]
      simp [List.getD_eq_getElem?_getD, List.getElem?_eq_getElem (show j < p.length by omega)]
    rw [← hx, hj])
  have h2 : (cellsP p).length = 32 := by simp [cellsP, hp]
  rw [h2] at h1
  simp [Instr.loadAt, loadVar, Instr.sureAddr, Try.isAgg48, Try.sizeOf48, h1, Result.andThen, encP_eq]

/-- A page is loaded, at the operation. -/
theorem wpList_loadP (w : World) {ops : Array Oper} {rest : List Oper} {o : Oper} {a : Act} {Q : Exit → Act → World → Prop} (hg : o.guard = none) (x : Operand) (hop : o.op = Op.load 48 x) (b of : Nat)
    (hx : a.eval x = .pointer (some ⟨b, of, none⟩)) (p : List Nat) (hp : p.length = 32) (h : PageAt w b of p) (hK : wpList Try.prog ops Q rest (a.put o.dst (encP p)) w) : wpList Try.prog ops Q (o :: rest) a w := by
  refine wpList_plain hg fun K' hK' => ?_
  unfold Oper.wp
  simp [execOp, hop, hx, load_page hp h, Result.andThen]
  exact hK' _ _ hK

theorem alloc_setRow (W : World) (zs cs : Array Value) (t : TypeId) : (W.alloc (.cells zs t)).setRow W.heap.size cs = W.alloc (.cells cs t) := by
  unfold World.setRow World.alloc
  simp only [World.mk.injEq, and_true]
  apply Array.ext_getElem?
  intro k
  rw [Array.getElem?_modify]
  by_cases h : W.heap.size = k
  · subst h; simp
  · rw [if_neg h]
    rcases Nat.lt_or_ge k W.heap.size with hk | hk
    · rw [Array.getElem?_push_lt hk, Array.getElem?_push_lt hk]
    · have h1 : W.heap.size < k := by omega
      rw [Array.getElem?_eq_none (by simp; omega), Array.getElem?_eq_none (by simp; omega)]

/-- A page is stored into a variable just made. -/
theorem wpList_storeP (w : World) {ops : Array Oper} {rest : List Oper} {o : Oper} {a : Act} {Q : Exit → Act → World → Prop} (hg : o.guard = none) (x y : Operand) (hop : o.op = Op.store 48 x y) (W : World) (zs : Array Value)
    (hw : w = W.alloc (.cells zs 48)) (hz : zs.size = 32) (hx : a.eval x = .pointer (some ⟨W.heap.size, 0, none⟩)) (p : List Nat) (hy : a.eval y = encP p) (hp : p.length = 32)
    (hK : wpList Try.prog ops Q rest (a.put o.dst undef) (W.alloc (.cells (cellsP p).toArray 48))) : wpList Try.prog ops Q (o :: rest) a w := by
  subst hw
  have h1 := run_storeCells_from (P := Try.prog) W.heap.size 48 (cellsP p) 0 zs (W.alloc (.cells zs 48)) (MapKept.heap_alloc W _).1 (by simp [cellsP, hp, hz]) (fun v hv => by
    simp only [cellsP, List.mem_map] at hv
    obtain ⟨n, _, rfl⟩ := hv
    rfl)
  simp only [List.take_zero, List.nil_append, alloc_setRow] at h1
  have h2 : (encP p).cells.size = 32 := by simp [encP, Value.cells, hp]
  have h3 : (encP p).cells.toList = cellsP p := rfl
  have hrun : (Instr.storeAt 48 (.pointer (some ⟨W.heap.size, 0, none⟩)) (encP p)).run Try.prog (W.alloc (.cells zs 48)) = .ok () (W.alloc (.cells (cellsP p).toArray 48)) := by
    simp [Instr.storeAt, storeVar, Instr.sureAddr, Try.sizeOf48, h2, h3, h1, Result.andThen]
  refine wpList_plain hg fun K' hK' => ?_
  unfold Oper.wp
  simp [execOp, hop, hx, hy, hrun, Result.andThen]
  exact hK' _ _ hK

/-- The page that was just stored. -/
theorem pageAt_new (W : World) (p : List Nat) (hp : p.length = 32) (t : TypeId) : PageAt (W.alloc (.cells (cellsP p).toArray t)) W.heap.size 0 p := fun j hj => by
  rw [World.cell?_alloc_at _ _ _ _ rfl, Nat.zero_add]
  simp [cellsP, List.getElem?_eq_getElem (show j < p.length by omega), List.getD_eq_getElem?_getD]
theorem PageAt.below {w w' : World} {b o B : Nat} {p : List Nat} (h : PageAt w b o p) (hb : Below B w w') (hB : b < B) : PageAt w' b o p := fun j hj => (hb.cell (p := ⟨b, o + j, none⟩) hB).trans (h j hj)

/-- a leads to the pages ps. -/
def PagesIs (w : World) (a : Option Addr) (ps : List (List Nat)) : Prop := ∀ i p, ps[i]? = some p → p.length = 32 ∧ ∃ b o, a = some ⟨b, o, none⟩ ∧ PageAt w b (o + i * 32) p
theorem PageAt.lt {w : World} {b o : Nat} {p : List Nat} (h : PageAt w b o p) : b < w.heap.size := World.block_lt_of_cell? w _ (h 0 (by omega))
theorem PagesIs.below {w w' : World} {a : Option Addr} {ps : List (List Nat)} (h : PagesIs w a ps) (hb : Below w.heap.size w w') : PagesIs w' a ps := fun i p hi => by
  obtain ⟨h1, b, o, h2, h3⟩ := h i p hi
  exact ⟨h1, b, o, h2, h3.below hb h3.lt⟩

/-- At which numbers below k page p stands. -/
def idxP (ps : List (List Nat)) (k : Nat) (p : List Nat) : List Nat := (List.range k).filter fun i => decide (ps[i]? = some p)
theorem idxP_yes {ps : List (List Nat)} {k : Nat} {p : List Nat} (h : ps[k]? = some p) : idxP ps (k + 1) p = idxP ps k p ++ [k] := by
  unfold idxP; rw [List.range_succ, List.filter_append]; simp [h]
theorem idxP_no {ps : List (List Nat)} {k : Nat} {p q : List Nat} (h : ps[k]? = some q) (hn : q ≠ p) : idxP ps (k + 1) p = idxP ps k p := by
  unfold idxP; rw [List.range_succ, List.filter_append]; simp [h, hn]
theorem idxP_len (ps : List (List Nat)) (k : Nat) (p : List Nat) : (idxP ps k p).length ≤ k := by
  have := List.length_filter_le (fun i => decide (ps[i]? = some p)) (List.range k)
  simpa [idxP] using this
theorem idxP_mem {ps : List (List Nat)} {k : Nat} {p : List Nat} {i : Nat} : i ∈ idxP ps k p ↔ i < k ∧ ps[i]? = some p := by
  simp [idxP]
/-- The numbers, as Go has them. -/
def ints (l : List Nat) : List Value := l.map fun (i : Nat) => Value.int .i64 (i : Int)

/-- Does a group of two or more begin at i? -/
def leads (ps : List (List Nat)) (n i : Nat) : Bool := match idxP ps n (ps.getD i []) with | j :: _ :: _ => j == i | _ => false
def firsts (ps : List (List Nat)) (n m : Nat) : List Nat := (List.range m).filter (leads ps n)
/-- Twins' answer. -/
def twinsS (ps : List (List Nat)) : List (List Nat) := (firsts ps ps.length ps.length).map fun i => idxP ps ps.length (ps.getD i [])
theorem firsts_yes {ps : List (List Nat)} {n m : Nat} (h : leads ps n m = true) : firsts ps n (m + 1) = firsts ps n m ++ [m] := by
  unfold firsts; rw [List.range_succ, List.filter_append]; simp [h]
theorem firsts_no {ps : List (List Nat)} {n m : Nat} (h : leads ps n m = false) : firsts ps n (m + 1) = firsts ps n m := by
  unfold firsts; rw [List.range_succ, List.filter_append]; simp [h]

/-- The map of Twins after k rounds. -/
structure Gr (w : World) (base b : Nat) (ps : List (List Nat)) (k : Nat) (l : List (List Nat × Value)) : Prop where
  map : MapIs EP w b l
  low : b < base
  own : ∀ p v, (p, v) ∈ l → w.ownsRow base 3 1 v (idxP ps k p).length (ints (idxP ps k p))
  full : ∀ p v, (p, v) ∈ l → idxP ps k p ≠ []
  apart : ∀ p v q u, (p, v) ∈ l → (q, u) ∈ l → p ≠ q → v.ownBlock ≠ u.ownBlock
  has : ∀ p, idxP ps k p ≠ [] → ∃ v, (p, v) ∈ l

theorem ownsRow_same {w w' : World} {base : Nat} {e : TypeId} {size : Nat} {v : Value} {n : Nat} {xs : List Value} (h : w.ownsRow base e size v n xs) (_hs : w.heap.size ≤ w'.heap.size) (hb : ∀ g, v.ownBlock = some g → w'.heap[g]? = w.heap[g]?) : w'.ownsRow base e size v n xs := by
  refine ⟨h.1, ?_⟩
  rcases h.2 with h1 | ⟨g, cap, cur, rfl, h2, h3, h4⟩
  · exact .inl h1
  · exact .inr ⟨g, cap, cur, rfl, h2, (hb g rfl).trans h3, h4⟩

theorem Gr.below {w w' : World} {base b B : Nat} {ps : List (List Nat)} {k : Nat} {l : List (List Nat × Value)} (h : Gr w base b ps k l) (hw : Below B w w') (hB : w.heap.size ≤ B) : Gr w' base b ps k l :=
  ⟨h.map.of_block (hw.block b (Nat.lt_of_lt_of_le h.map.lt hB)), h.low, fun p v hv => ownsRow_same (h.own p v hv) hw.size (fun g hg => hw.block g (Nat.lt_of_lt_of_le ((h.own p v hv).lt g hg).2 hB)), h.full, h.apart, h.has⟩

theorem gr_start (w : World) (ps : List (List Nat)) : Gr (w.alloc (.map #[] 0)) (w.heap.size + 1) w.heap.size ps 0 [] :=
  ⟨made EP w, Nat.lt_succ_self _, fun _ _ h => by simp at h, fun _ _ h => by simp at h, fun _ _ _ _ h => by simp at h, fun p h => by simp [idxP] at h⟩

theorem Gr.row {w : World} {base b : Nat} {ps : List (List Nat)} {k : Nat} {l : List (List Nat × Value)} (h : Gr w base b ps k l) (p : List Nat) : w.ownsRow base 3 1 ((getA l p).getD (.slice none 0 0)) (idxP ps k p).length (ints (idxP ps k p)) := by
  cases hg : getA l p with
  | some v => exact h.own p v (mem_of_getA hg)
  | none =>
    have : idxP ps k p = [] := by
      by_cases h2 : idxP ps k p = []
      · exact h2
      · obtain ⟨v, hv⟩ := h.has p h2
        rw [getA_of_mem h.map.nodup hv] at hg
        cases hg
    rw [this]
    exact World.ownsRow_nil _ _ _ _

theorem heap_setB {W : World} {b k : Nat} (o : Obj) (hk : k ≠ b) : (setBlock W b o).heap[k]? = W.heap[k]? := by
  simp only [setBlock, Array.getElem?_setIfInBounds]
  rw [if_neg (fun e => hk e.symm)]
theorem size_setB (W : World) (b : Nat) (o : Obj) : (setBlock W b o).heap.size = W.heap.size := by simp [setBlock]
theorem below_setB {B b : Nat} {a W : World} (h : Below B a W) (hb : B ≤ b) (o : Obj) : Below B a (setBlock W b o) :=
  ⟨h.os, h.tape, h.output, by rw [size_setB]; exact h.size, fun k hk => (heap_setB o (by omega)).trans (h.block k hk)⟩

theorem mem_delA {α : Type} [DecidableEq α] {l : List (α × Value)} {a b : α} {v : Value} (h : (b, v) ∈ delA l a) : (b, v) ∈ l ∧ b ≠ a := by
  have := List.mem_filter.1 h
  exact ⟨this.1, by simpa using this.2⟩

/-- A round of Twins: the value at the page has been told its number k. w1: the entry laid hold of; w2: behind the append; o2: what is stored. -/
theorem Gr.step {w wa w1 w2 w3 : World} {base b : Nat} {ps : List (List Nat)} {k : Nat} {l : List (List Nat × Value)} {p : List Nat} {v' : Value} {o1 o2 : Obj} (h : Gr w base b ps k l) (hk : ps[k]? = some p)
    (ha : Below w.heap.size w wa) (h1 : w1 = setBlock wa b o1) (hown : w2.ownsRow base 3 1 v' ((idxP ps k p).length + 1) (ints (idxP ps k p) ++ [.int .i64 (k : Int)]))
    (hg : w1.grownBy w2 ((getA l p).getD (.slice none 0 0)).ownBlock) (hloc : v'.ownBlock = ((getA l p).getD (.slice none 0 0)).ownBlock ∨ v'.ownBlock = some w1.heap.size) (ho : IsObj EP o2 ((p, v') :: delA l p)) (h3 : w3 = setBlock w2 b o2) :
    Gr w3 base b ps (k + 1) ((p, v') :: delA l p) := by
  have hbl := h.map.lt
  have s1 : w1.heap.size = wa.heap.size := by rw [h1]; simp [setBlock]
  have s3 : w3.heap.size = w2.heap.size := by rw [h3]; simp [setBlock]
  have hb2 : b < w2.heap.size := by have := ha.size; have := hg.size; omega
  -- the value that stood there
  have hv0 : ((getA l p).getD (.slice none 0 0) = .slice none 0 0) ∨ ∃ v, (p, v) ∈ l ∧ (getA l p).getD (.slice none 0 0) = v := by
    cases hgt : getA l p with
    | none => exact .inl rfl
    | some v => exact .inr ⟨v, mem_of_getA hgt, rfl⟩
  -- other rows lie as they lay
  have other : ∀ q u, (q, u) ∈ l → q ≠ p → w3.ownsRow base 3 1 u (idxP ps (k + 1) q).length (ints (idxP ps (k + 1) q)) := by
    intro q u hq hne
    rw [idxP_no hk (Ne.symm hne)]
    have r0 := h.own q u hq
    have r1 := ownsRow_same r0 ha.size (fun g hg' => ha.block g (r0.lt g hg').2)
    have r2 : w1.ownsRow base 3 1 u (idxP ps k q).length (ints (idxP ps k q)) := ownsRow_same r1 (by rw [s1]; exact Nat.le_refl _) (fun g hg' => by
      have := (r0.lt g hg').1
      have := h.low
      rw [h1]; simp only [setBlock, Array.getElem?_setIfInBounds]; rw [if_neg (by omega)])
    have r3 : w2.ownsRow base 3 1 u (idxP ps k q).length (ints (idxP ps k q)) := by
      refine r2.kept hg ?_
      rcases hv0 with e | ⟨v, hv, e⟩
      · rw [e]
        cases hub : u.ownBlock with
        | none => exact .inl rfl
        | some g => exact .inr (by simp [Value.ownBlock])
      · rw [e]; exact .inr (h.apart q u p v hq hv hne)
    exact ownsRow_same r3 (by rw [s3]; exact Nat.le_refl _) (fun g hg' => by
      have := (r0.lt g hg').1
      have := h.low
      rw [h3]; simp only [setBlock, Array.getElem?_setIfInBounds]; rw [if_neg (by omega)])
  -- a row that is there leads to a block that lay
  have blk : ∀ q u, (q, u) ∈ l → ∃ g, u.ownBlock = some g ∧ g < w.heap.size := by
    intro q u hq
    have r0 := h.own q u hq
    have hne := h.full q u hq
    rcases r0.2 with ⟨rfl, hz⟩ | ⟨g, cap, cur, rfl, _, hg', _⟩
    · exact absurd (List.eq_nil_of_length_eq_zero hz) hne
    · exact ⟨g, rfl, (Array.getElem?_eq_some_iff.1 hg').1⟩
  have apart' : ∀ q u, (q, u) ∈ l → q ≠ p → v'.ownBlock ≠ u.ownBlock := by
    intro q u hq hne
    obtain ⟨g, hg1, hg2⟩ := blk q u hq
    rcases hloc with e | e
    · rw [e]
      rcases hv0 with e2 | ⟨v, hv, e2⟩
      · rw [e2, hg1]; simp [Value.ownBlock]
      · rw [e2]; exact h.apart p v q u hv hq (Ne.symm hne)
    · rw [e, hg1, s1]
      have := ha.size
      simp
      omega
  refine ⟨⟨o2, ?_, ho⟩, h.low, ?_, ?_, ?_, ?_⟩
  · rw [h3]; simp [setBlock, hb2]
  · intro q u hq
    rcases List.mem_cons.1 hq with e | hq
    · cases e
      rw [idxP_yes hk]
      have r : w3.ownsRow base 3 1 v' ((idxP ps k p).length + 1) (ints (idxP ps k p) ++ [.int .i64 (k : Int)]) := ownsRow_same hown (by rw [s3]; exact Nat.le_refl _) (fun g hg' => by
        have := (hown.lt g hg').1
        have := h.low
        rw [h3]; simp only [setBlock, Array.getElem?_setIfInBounds]; rw [if_neg (by omega)])
      simpa [ints] using r
    · obtain ⟨m1, m2⟩ := mem_delA hq
      exact other q u m1 m2
  · intro q u hq
    rcases List.mem_cons.1 hq with e | hq
    · cases e; rw [idxP_yes hk]; simp
    · obtain ⟨m1, m2⟩ := mem_delA hq
      rw [idxP_no hk (Ne.symm m2)]; exact h.full q u m1
  · intro q u q' u' hq hq' hne
    rcases List.mem_cons.1 hq with e | hq
    · cases e
      rcases List.mem_cons.1 hq' with e | hq'
      · cases e; exact absurd rfl hne
      · obtain ⟨m1, m2⟩ := mem_delA hq'
        exact apart' q' u' m1 m2
    · obtain ⟨m1, m2⟩ := mem_delA hq
      rcases List.mem_cons.1 hq' with e | hq'
      · cases e; exact fun e => apart' q u m1 m2 e.symm
      · obtain ⟨m3, m4⟩ := mem_delA hq'
        exact h.apart q u q' u' m1 m3 hne
  · intro q hq
    by_cases hne : q = p
    · subst hne; exact ⟨v', List.mem_cons_self⟩
    · rw [idxP_no hk (fun e => hne e.symm)] at hq
      obtain ⟨u, hu⟩ := h.has q hq
      exact ⟨u, List.mem_cons_of_mem _ (List.mem_filter.2 ⟨hu, by simpa using hne⟩)⟩
end Go.Proofs.Ytobkbbbdddllmaa
