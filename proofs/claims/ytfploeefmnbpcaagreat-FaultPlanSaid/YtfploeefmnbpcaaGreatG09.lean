import Derived.Test.YtfploeefmnbpcaaGreatG04
import Derived.Test.YtfploeefmnbpcaaGreatG08
import Derived.Test.YtfploeefmnbpcaaGreatG03
import Derived.Laws.IdiomCopy
/- A region that draws its order, walked by a checked plan that parts where two loud operations are ready at a time. -/
namespace Go.Proofs.YtfploeefmnbpcaaGreat
open Go

inductive Tree where
  | nil
  | plain (i : Nat) (t : Tree)
  | one (i : Nat) (t : Tree)
  | fork (i : Nat) (s : Tree) (j : Nat) (t : Tree)
def Tree.depth : Tree → Nat
  | .nil => 0
  | .plain _ t => t.depth + 1
  | .one _ t => t.depth + 1
  | .fork _ s _ t => max s.depth t.depth + 1
inductive PT where
  | nil
  | node (s : PS) (t : PT)
  | fork (s : PS) (t : PT) (s' : PS) (t' : PT)
def psOf (l : List Oper) (b : Bool) (o : Oper) : PS := ⟨b, slotOf l o, o⟩
def treeOf (l : List Oper) : Tree → PT
  | .nil => .nil
  | .plain i t => match nth l i with | some o => .node (psOf l true o) (treeOf l t) | none => .nil
  | .one i t => match nth l i with | some o => .node (psOf l false o) (treeOf l t) | none => .nil
  | .fork i s j t => match nth l i, nth l j with | some o, some o' => .fork (psOf l false o) (treeOf l s) (psOf l false o') (treeOf l t) | _, _ => .nil
def okAt (l : List Oper) (i : Nat) : Bool := match nth l i with | some o => slotOk l o | none => false
def treeOk (l : List Oper) : Array Bool → Tree → Bool
  | listed, .nil => (Region.ready .any l.toArray listed).isEmpty
  | listed, .plain i t => okAt l i && (Region.ready .any l.toArray listed).contains i && Region.free .any l.toArray listed i && treeOk l (listed.setIfInBounds i true) t
  | listed, .one i t => okAt l i && (Region.ready .any l.toArray listed == [i]) && treeOk l (listed.setIfInBounds i true) t
  | listed, .fork i s j t => okAt l i && okAt l j && (Region.ready .any l.toArray listed == [i, j]) && treeOk l (listed.setIfInBounds i true) s && treeOk l (listed.setIfInBounds j true) t

/-- One loud operation. -/
def wpLoud (P : Program) (Q : Exit → Act → World → Prop) (S : World → Prop) (s : PS) (R : (World → Prop) → Act → World → Prop) (a : Act) (w : World) : Prop :=
  if s.on a.tmps = true then s.o.wp P a w (fun a' w' => ∃ S' : World → Prop, (∀ w, S' w → S w) ∧ S' w' ∧ R S' a' w') Q else R S (a.put s.o.dst undef) w
def wpT (P : Program) (Q : Exit → Act → World → Prop) : PT → (World → Prop) → Act → World → Prop
  | .nil, _, a, w => Q .normal a w
  | .node s t, S, a, w =>
    if s.plain = true then
      if s.on a.tmps = true then ∃ v, (∀ w', S w' → (execOp a.eval s.o).run P w' = .ok (.value v) w') ∧ wpT P Q t S (a.put s.o.dst v) w
      else wpT P Q t S (a.put s.o.dst undef) w
    else wpLoud P Q S s (fun S' a' w' => wpT P Q t S' a' w') a w
  | .fork s t s' t', S, a, w => wpLoud P Q S s (fun S' a' w' => wpT P Q t S' a' w') a w ∧ wpLoud P Q S s' (fun S' a' w' => wpT P Q t' S' a' w') a w

theorem okAt_some {l : List Oper} {i : Nat} (h : okAt l i = true) : ∃ o, nth l i = some o ∧ slotOk l o = true ∧ l.toArray[i]? = some o := by
  unfold okAt at h
  cases ho : nth l i with
  | none => simp [ho] at h
  | some o =>
    simp only [ho] at h
    exact ⟨o, rfl, h, by rw [List.getElem?_toArray, ← nth_eq]; exact ho⟩

theorem loud_any {P : Program} {Q : Exit → Act → World → Prop} {l : List Oper} {i : Nat} {o : Oper} {listed : Array Bool} {S : World → Prop} {a : Act} {w : World} {R : (World → Prop) → Act → World → Prop} {fuel : Nat}
    (hi : l.toArray[i]? = some o) (h1 : slotOk l o = true) (hS : S w) (h : wpLoud P Q S (psOf l false o) R a w)
    (ih : ∀ S a w, S w → R S a w → wpAnyH P .any l.toArray Q S fuel (listed.setIfInBounds i true) a w) :
    wpOp P l.toArray Q i (fun a' w' => S w' ∧ wpAnyH P .any l.toArray Q S fuel (listed.setIfInBounds i true) a' w') a w := by
  refine wpOp_step hi fun K' hK => ?_
  unfold wpLoud psOf at h
  rw [← wanted_on l o false a.tmps h1] at h
  by_cases hw : Region.wanted o (yielded l.toArray a.tmps) = true
  · rw [if_pos hw] at h ⊢
    exact Oper.wp_mono (fun a' w' ⟨S', hSS, hr1, hr2⟩ => hK a' w' ⟨hSS w' hr1, wpAnyH_weaker hSS _ _ _ _ (ih S' a' w' hr1 hr2)⟩) h
  · rw [if_neg hw] at h ⊢
    exact hK _ _ ⟨hS, ih S _ _ hS h⟩

theorem tree_any {P : Program} {Q : Exit → Act → World → Prop} (l : List Oper) (hs : Region.noSelect l.toArray = true)
    (hQ : ∀ c a d v w, Q (.panic c) (a.put d v) w → Q (.panic c) a w) : ∀ (t : Tree) (listed : Array Bool) (S : World → Prop) (a : Act) (w : World),
    treeOk l listed t = true → S w → wpT P Q (treeOf l t) S a w → ∀ fuel, t.depth ≤ fuel → wpAnyH P .any l.toArray Q S fuel listed a w
  | .nil, listed, S, a, w, hp, _, h, fuel, _ => wpAnyH_done (by simpa [treeOk] using hp) h fuel
  | .plain i t, listed, S, a, w, hp, hS, h, fuel, hf => by
    cases fuel with
    | zero => simp [Tree.depth] at hf
    | succ fuel =>
      have hf : t.depth ≤ fuel := by simpa [Tree.depth] using hf
      simp only [treeOk, Bool.and_eq_true] at hp
      obtain ⟨⟨⟨h1, h2⟩, h3⟩, h4⟩ := hp
      obtain ⟨o, ho, hk, hi⟩ := okAt_some h1
      simp only [treeOf, ho, wpT, psOf, if_true] at h
      rw [← wanted_on l o true a.tmps hk] at h
      have ih := tree_any (P := P) l hs hQ t (listed.setIfInBounds i true) S
      by_cases hw : Region.wanted o (yielded l.toArray a.tmps) = true
      · rw [if_pos hw] at h
        obtain ⟨v, hy, hr⟩ := h
        exact wpAnyH_take hi hs h3 h2 (fun c a w => hQ c a _ _ w) (.inl ⟨hw, hy⟩) hS (ih _ _ h4 hS hr fuel hf)
      · rw [if_neg hw] at h
        exact wpAnyH_take hi hs h3 h2 (fun c a w => hQ c a _ _ w) (.inr ⟨by simpa using hw, rfl⟩) hS (ih _ _ h4 hS h fuel hf)
  | .one i t, listed, S, a, w, hp, hS, h, fuel, hf => by
    cases fuel with
    | zero => simp [Tree.depth] at hf
    | succ fuel =>
      have hf2 : t.depth ≤ fuel := by simpa [Tree.depth] using hf
      simp only [treeOk, Bool.and_eq_true] at hp
      obtain ⟨⟨h1, h2⟩, h4⟩ := hp
      obtain ⟨o, ho, hk, hi⟩ := okAt_some h1
      simp only [treeOf, ho, wpT] at h
      rw [if_neg (by simp [psOf])] at h
      refine wpAnyH_all (rs := [i]) (by simpa using h2) (by simp) fun j hj => ?_
      rw [List.mem_singleton] at hj
      subst hj
      exact loud_any hi hk hS h fun S a w hS h => tree_any l hs hQ t _ S a w h4 hS h fuel hf2
  | .fork i s j t, listed, S, a, w, hp, hS, h, fuel, hf => by
    cases fuel with
    | zero => simp [Tree.depth] at hf
    | succ fuel =>
      have hf : max s.depth t.depth ≤ fuel := by simpa [Tree.depth] using hf
      simp only [treeOk, Bool.and_eq_true] at hp
      obtain ⟨⟨⟨⟨h1, h1'⟩, h2⟩, h4⟩, h4'⟩ := hp
      obtain ⟨o, ho, hk, hi⟩ := okAt_some h1
      obtain ⟨o', ho', hk', hi'⟩ := okAt_some h1'
      simp only [treeOf, ho, ho', wpT] at h
      refine wpAnyH_all (rs := [i, j]) (by simpa using h2) (by simp) fun k hk2 => ?_
      rcases List.mem_cons.1 hk2 with hk2 | hk2
      · subst hk2
        exact loud_any hi hk hS h.1 fun S a w hS h => tree_any l hs hQ s _ S a w h4 hS h fuel (by omega)
      · rw [List.mem_singleton] at hk2
        subst hk2
        exact loud_any hi' hk' hS h.2 fun S a w hS h => tree_any l hs hQ t _ S a w h4' hS h fuel (by omega)

/-- The region, by a tree. -/
theorem wp_region_tree {P : Program} (S : World → Prop) {Q : Exit → Act → World → Prop} {id : Nat} {l : List Oper} {a : Act} {w : World} (t : Tree) (hm : P.follows .mixedOrders = true)
    (hs : Region.noSelect l.toArray = true) (hp : treeOk l (Array.replicate l.length false) t = true) (hl : t.depth ≤ l.length)
    (hQ : ∀ c a d v w, Q (.panic c) (a.put d v) w → Q (.panic c) a w) (hS : S w.drew)
    (h : wpT P Q (treeOf l t) S a w.drew) : (Code.region id l.toArray true).wp P Q a w :=
  wp_region_held (S := S) hm (by
    have := tree_any (P := P) (Q := Q) l hs hQ t (Array.replicate l.length false) S a w.drew hp hS h l.length hl
    simpa using this)

theorem wpT_nil {P : Program} {S : World → Prop} {Q : Exit → Act → World → Prop} {a : Act} {w : World} (h : Q .normal a w) : wpT P Q .nil S a w := by unfold wpT; exact h
theorem wpT_plain {P : Program} {S : World → Prop} {Q : Exit → Act → World → Prop} {s : Option (Tmp × Bool)} {o : Oper} {rest : PT} {a : Act} {w : World} (v : Value) (hon : (PS.mk true s o).on a.tmps = true)
    (hy : ∀ w', S w' → (execOp a.eval o).run P w' = .ok (.value v) w') (h : wpT P Q rest S (a.put o.dst v) w) : wpT P Q (.node ⟨true, s, o⟩ rest) S a w := by
  unfold wpT; rw [if_pos rfl, if_pos hon]; exact ⟨v, hy, h⟩
theorem wpLoud_on {P : Program} {S : World → Prop} {Q : Exit → Act → World → Prop} {s : Option (Tmp × Bool)} {o : Oper} {R : (World → Prop) → Act → World → Prop} {a : Act} {w : World} (hon : (PS.mk false s o).on a.tmps = true)
    (h : ∀ K : Act → World → Prop, (∀ (S' : World → Prop) a w, (∀ w, S' w → S w) → S' w → R S' a w → K a w) → o.wp P a w K Q) : wpLoud P Q S ⟨false, s, o⟩ R a w := by
  unfold wpLoud; rw [if_pos hon]; exact h _ fun S' _ _ h0 h1 h2 => ⟨S', h0, h1, h2⟩
theorem wpT_loud {P : Program} {S : World → Prop} {Q : Exit → Act → World → Prop} {s : Option (Tmp × Bool)} {o : Oper} {rest : PT} {a : Act} {w : World} (hon : (PS.mk false s o).on a.tmps = true)
    (h : ∀ K : Act → World → Prop, (∀ (S' : World → Prop) a w, (∀ w, S' w → S w) → S' w → wpT P Q rest S' a w → K a w) → o.wp P a w K Q) : wpT P Q (.node ⟨false, s, o⟩ rest) S a w := by
  unfold wpT; rw [if_neg (by simp)]; exact wpLoud_on hon h
theorem wpT_fork {P : Program} {S : World → Prop} {Q : Exit → Act → World → Prop} {s s' : Option (Tmp × Bool)} {o o' : Oper} {rest rest' : PT} {a : Act} {w : World} (hon : (PS.mk false s o).on a.tmps = true) (hon' : (PS.mk false s' o').on a.tmps = true)
    (h : ∀ K : Act → World → Prop, (∀ (S' : World → Prop) a w, (∀ w, S' w → S w) → S' w → wpT P Q rest S' a w → K a w) → o.wp P a w K Q)
    (h' : ∀ K : Act → World → Prop, (∀ (S' : World → Prop) a w, (∀ w, S' w → S w) → S' w → wpT P Q rest' S' a w → K a w) → o'.wp P a w K Q) :
    wpT P Q (.fork ⟨false, s, o⟩ rest ⟨false, s', o'⟩ rest') S a w := by
  unfold wpT; exact ⟨wpLoud_on hon h, wpLoud_on hon' h'⟩
end Go.Proofs.YtfploeefmnbpcaaGreat

/- Values of many cells: made, laid in blocks of their own, loaded and stored; an operation whose run is known, walked. -/
namespace Go.Proofs.YtfploeefmnbpcaaGreat
open Go.RowKit Mp Go.ChangeMaps

/-- Block b is a variable of type t that has the cells cs. -/
def Row (w : World) (b : Nat) (t : TypeId) (cs : List Value) : Prop := w.heap[b]? = some (.cells cs.toArray t)
section
variable {w w' : World} {b k n : Nat} {t : TypeId} {cs : List Value}
theorem Row.cell (h : Row w b t cs) {j : Nat} {v : Value} (hv : cs[j]? = some v) : w.cell? ⟨b, j, none⟩ = some v := by
  unfold Row at h; simp [World.cell?, h, hv]
theorem Row.free (h : Row w b t cs) (j : Nat) : w.frozen? ⟨b, j, none⟩ = false := by
  unfold Row at h; simp [World.frozen?, h]
theorem Row.lt (h : Row w b t cs) : b < w.heap.size := (Array.getElem?_eq_some_iff.1 h).1
theorem Row.of_block (h : Row w b t cs) (hk : w'.heap[b]? = w.heap[b]?) : Row w' b t cs := hk.trans h
theorem Row.below {B : Nat} (h : Row w b t cs) (hw : Below B w w') (hB : w.heap.size ≤ B) : Row w' b t cs := h.of_block (hw.block b (Nat.lt_of_lt_of_le h.lt hB))
theorem Row.new (w : World) (t : TypeId) (cs : List Value) : Row (w.alloc (.cells cs.toArray t)) w.heap.size t cs := by
  unfold Row; exact (MapKept.heap_alloc w _).1
theorem Row.alloc (h : Row w b t cs) (o : Obj) : Row (w.alloc o) b t cs := h.below ((Below.refl _ _).alloc (Nat.le_refl _) o) (Nat.le_refl _)
theorem Row.drew (h : Row w b t cs) : Row w.drew b t cs := h
theorem Row.set (h : Row w b t cs) (ds : List Value) : Row (w.setRow b ds.toArray) b t ds := setRow_heap w b _ _ t _ h
theorem Row.other (h : Row w b t cs) {g : Nat} (hne : b ≠ g) (ds : Array Value) : Row (w.setRow g ds) b t cs := h.of_block (setRow_other w g b ds hne)
theorem Row.setCell (h : Row w b t cs) {j : Nat} (v : Value) : Row (w.setCell ⟨b, j, none⟩ v) b t (cs.set j v) := by
  unfold Row at h ⊢
  unfold World.setCell
  dsimp only
  rw [Array.getElem?_modify, if_pos rfl, h]
  simp
theorem below_setRow {B : Nat} {a W : World} (h : Below B a W) (hb : B ≤ b) (ds : Array Value) : Below B a (W.setRow b ds) :=
  ⟨h.os, h.tape, h.output, by rw [setRow_size]; exact h.size, fun k hk => (setRow_other W b k ds (by omega)).trans (h.block k hk)⟩

theorem run_box' (t : TypeId) (v : Value) (w : World) : (Instr.box t v).run Tryz.prog w = .ok (.pointer (some ⟨w.heap.size, 0, none⟩)) (w.alloc (.cells v.cells t)) := by
  simp [Instr.box, newVar, newRow, Result.andThen]
theorem run_alloc' {z : Value} (hz : ∀ W : World, (zeroValue t).run Tryz.prog W = .ok z W) (w : World) : (Instr.alloc t true (.tuple #[])).run Tryz.prog w = .ok (.pointer (some ⟨w.heap.size, 0, none⟩)) (w.alloc (.cells z.cells t)) := by
  simp [Instr.alloc, newVar, newRow, Result.andThen, hz]
theorem run_loadAgg {o : Nat} (ha : ∀ W : World, (isAgg t).run Tryz.prog W = .ok true W) (hs : ∀ W : World, (sizeOf t).run Tryz.prog W = .ok n W) (hn : cs.length = n) (h : ∀ j v, cs[j]? = some v → w.cell? ⟨b, o + j, none⟩ = some v) :
    (Instr.loadAt t (.pointer (some ⟨b, o, none⟩))).run Tryz.prog w = .ok (.agg cs.toArray) w := by
  have h1 := run_loadCells_list (P := Tryz.prog) (w := w) ⟨b, o, none⟩ cs (fun j v hj => by
    have e : (⟨b, o, none⟩ : Addr).add j = ⟨b, o + j, none⟩ := by unfold Addr.add; split <;> simp_all
    rw [e]; exact h j v hj)
  rw [hn] at h1
  simp [Instr.loadAt, loadVar, Instr.sureAddr, ha, hs, h1, Result.andThen]
theorem run_loadRow (ha : ∀ W : World, (isAgg t).run Tryz.prog W = .ok true W) (hs : ∀ W : World, (sizeOf t).run Tryz.prog W = .ok n W) (hn : cs.length = n) {t' : TypeId} (h : Row w b t' cs) :
    (Instr.loadAt t (.pointer (some ⟨b, 0, none⟩))).run Tryz.prog w = .ok (.agg cs.toArray) w := run_loadAgg ha hs hn fun j v hj => by rw [Nat.zero_add]; exact h.cell hj
theorem run_loadVarRow (ha : ∀ W : World, (isAgg t).run Tryz.prog W = .ok true W) (hs : ∀ W : World, (sizeOf t).run Tryz.prog W = .ok n W) (hn : cs.length = n) {t' : TypeId} (h : Row w b t' cs) :
    (loadVar t ⟨b, 0, none⟩).run Tryz.prog w = .ok (.agg cs.toArray) w := by
  have := run_loadRow ha hs hn h
  simpa [Instr.loadAt, Instr.sureAddr] using this
theorem run_storeOne {o : Nat} {u v : Value} (hs : ∀ W : World, (sizeOf t).run Tryz.prog W = .ok 1 W) (h : w.cell? ⟨b, o, none⟩ = some u) (hf : w.frozen? ⟨b, o, none⟩ = false) (hv : v.cells = #[v]) (h1 : v.oneCell' = true) :
    (Instr.storeAt t (.pointer (some ⟨b, o, none⟩)) v).run Tryz.prog w = .ok () (w.setCell ⟨b, o, none⟩ v) := by
  have h2 := run_storeCells_cells (P := Tryz.prog) b o [v] 0 w (fun j hj => by simp at hj; subst hj; simp [h]) (fun j hj => by simp at hj; subst hj; simpa using hf) (by simpa using h1)
  have h3 : v.cells.size = 1 := by rw [hv]; rfl
  have h4 : v.cells.toList = [v] := by rw [hv]
  simp [Instr.storeAt, storeVar, Instr.sureAddr, hs, h3, h4, h2, Result.andThen]
  rfl
/-- A function's results: a variable of its own, and another slot. -/
theorem results_cell2 {fn : Func} {p q : Tmp} (hr : fn.results = #[.cell p t, .tmp q]) {tmps : Array Value} {v : Value} (hp : tmps.getD p undef = .pointer (some ⟨b, 0, none⟩)) (hq : tmps.getD q undef = v) (hl : (loadVar t ⟨b, 0, none⟩).run Tryz.prog w = .ok (.agg cs.toArray) w) :
    (results fn tmps).run Tryz.prog w = .ok (.tuple #[.agg cs.toArray, v]) w := by
  have hp' : tmps[p]?.getD undef = .pointer (some ⟨b, 0, none⟩) := by rw [← hp]; simp
  have hq' : tmps[q]?.getD undef = v := by rw [← hq]; simp
  simp [results, hr, hp', hq', hl, asAddr, Result.andThen]
theorem results_cell1 {fn : Func} {p : Tmp} (hr : fn.results = #[.cell p t]) {tmps : Array Value} (hp : tmps.getD p undef = .pointer (some ⟨b, 0, none⟩)) (hl : (loadVar t ⟨b, 0, none⟩).run Tryz.prog w = .ok (.agg cs.toArray) w) :
    (results fn tmps).run Tryz.prog w = .ok (.agg cs.toArray) w := by
  have hp' : tmps[p]?.getD undef = .pointer (some ⟨b, 0, none⟩) := by rw [← hp]; simp
  simp [results, hr, hp', hl, asAddr]
theorem run_loadOne {v : Value} (ha : ∀ W : World, (isAgg t).run Tryz.prog W = .ok false W) {ad : Addr} (h : w.cell? ad = some v) : (Instr.loadAt t (.pointer (some ad))).run Tryz.prog w = .ok v w := by
  simp [Instr.loadAt, loadVar, Instr.sureAddr, ha, h, Result.andThen]
theorem run_storeRow {ds : List Value} (hs : ∀ W : World, (sizeOf t).run Tryz.prog W = .ok n W) {t' : TypeId} (h : Row w b t' cs) (hc : cs.length = n) (hd : ds.length = n) (h1 : ∀ v ∈ ds, v.oneCell' = true) :
    (Instr.storeAt t (.pointer (some ⟨b, 0, none⟩)) (.agg ds.toArray)).run Tryz.prog w = .ok () (w.setRow b ds.toArray) := by
  have h2 := run_storeCells_from (P := Tryz.prog) b t' ds 0 cs.toArray w h (by simp [hc, hd]) h1
  simp only [List.take_zero, List.nil_append] at h2
  have h3 : (Value.agg ds.toArray).cells.size = n := by simp [Value.cells, hd]
  have h4 : (Value.agg ds.toArray).cells.toList = ds := rfl
  simp [Instr.storeAt, storeVar, Instr.sureAddr, hs, h3, h4, h2, Result.andThen]
end

theorem new_two (w : World) (t t' : TypeId) (cs ds : List Value) : Row ((w.alloc (.cells cs.toArray t)).alloc (.cells ds.toArray t')) w.heap.size t cs ∧ Row ((w.alloc (.cells cs.toArray t)).alloc (.cells ds.toArray t')) (w.heap.size + 1) t' ds ∧
    Below w.heap.size w ((w.alloc (.cells cs.toArray t)).alloc (.cells ds.toArray t')) ∧ ((w.alloc (.cells cs.toArray t)).alloc (.cells ds.toArray t')).heap.size = w.heap.size + 2 :=
  ⟨(Row.new w t cs).alloc _, by have := Row.new (w.alloc (.cells cs.toArray t)) t' ds; rwa [World.size_alloc] at this, ((Below.refl _ _).alloc (Nat.le_refl _) _).alloc (by simp) _, by simp⟩
theorem new_one (w : World) (t : TypeId) (cs : List Value) : Row (w.alloc (.cells cs.toArray t)) w.heap.size t cs ∧ Below w.heap.size w (w.alloc (.cells cs.toArray t)) ∧ (w.alloc (.cells cs.toArray t)).heap.size = w.heap.size + 1 :=
  ⟨Row.new w t cs, (Below.refl _ _).alloc (Nat.le_refl _) _, by simp⟩
/-- Two variables are made, then a map, which is stored at a cell of g. -/
theorem set_made (w : World) (g o : Nat) (u : Value) (t t' : TypeId) (cs ds : List Value) (hg : g < w.heap.size) (hc : w.cell? ⟨g, o, none⟩ = some u) (hf : w.frozen? ⟨g, o, none⟩ = false) :
    Row ((((w.alloc (.cells cs.toArray t)).alloc (.cells ds.toArray t')).alloc (.map #[] 0)).setCell ⟨g, o, none⟩ (.map (some (w.heap.size + 1 + 1)))) w.heap.size t cs ∧
    Row ((((w.alloc (.cells cs.toArray t)).alloc (.cells ds.toArray t')).alloc (.map #[] 0)).setCell ⟨g, o, none⟩ (.map (some (w.heap.size + 1 + 1)))) (w.heap.size + 1) t' ds ∧
    But3 g o none w ((((w.alloc (.cells cs.toArray t)).alloc (.cells ds.toArray t')).alloc (.map #[] 0)).setCell ⟨g, o, none⟩ (.map (some (w.heap.size + 1 + 1)))) ∧
    ((((w.alloc (.cells cs.toArray t)).alloc (.cells ds.toArray t')).alloc (.map #[] 0)).setCell ⟨g, o, none⟩ (.map (some (w.heap.size + 1 + 1)))).heap.size = w.heap.size + 3 ∧
    SpotAt ((((w.alloc (.cells cs.toArray t)).alloc (.cells ds.toArray t')).alloc (.map #[] 0)).setCell ⟨g, o, none⟩ (.map (some (w.heap.size + 1 + 1)))) g o (some (w.heap.size + 2)) [] := by
  obtain ⟨T1, T2, T3, T4⟩ := new_two w t t' cs ds
  generalize (w.alloc (.cells cs.toArray t)).alloc (.cells ds.toArray t') = W at T1 T2 T3 T4 ⊢
  have hk : ∀ k, k ≠ g → ((W.alloc (.map #[] 0)).setCell ⟨g, o, none⟩ (.map (some (w.heap.size + 1 + 1)))).heap[k]? = (W.alloc (.map #[] 0)).heap[k]? := fun k h => Below.heap_setCell _ _ _ k h
  have b1 : Below W.heap.size W (W.alloc (.map #[] 0)) := (Below.refl _ _).alloc (Nat.le_refl _) _
  have c1 : (W.alloc (.map #[] 0)).cell? ⟨g, o, none⟩ = some u := ((b1.cell (p := ⟨g, o, none⟩) (by show g < _; omega)).trans (T3.cell (p := ⟨g, o, none⟩) hg)).trans hc
  have f1 : (W.alloc (.map #[] 0)).frozen? ⟨g, o, none⟩ = false := ((b1.frozen (p := ⟨g, o, none⟩) (by show g < _; omega)).trans (T3.frozen (p := ⟨g, o, none⟩) hg)).trans hf
  refine ⟨(T1.alloc _).of_block (hk _ (by omega)), (T2.alloc _).of_block (hk _ (by omega)), ?_, by simp [T4], ?_, ?_, fun e => (by cases e), fun b e => ?_⟩
  · exact ((But3.of_below T3 hg).alloc hg _).setCell _
  · rw [World.cell?_setCell_same _ _ _ c1]
  · rw [World.frozen?_setCell]; exact f1
  · cases e
    have := made EA W
    rw [T4] at this
    exact this.of_block (hk _ (by omega))
/-- The world is named by what holds of it. -/
theorem gen_world {C : World → Prop} (p : World → Prop) {w : World} (h : p w) (k : ∀ W, p W → C W) : C w := k w h
theorem gen_drewN {C : World → Prop} (p : World → Prop) {W : World} {n : Nat} (h : ∀ n, p (W.drewN n)) (k : ∀ W, p W → C W) : C (W.drewN n) := k _ (h n)
/-- A value of n cells. -/
def okV (n : Nat) (v : Value) : Prop := ∃ cs : List Value, v = .agg cs.toArray ∧ cs.length = n ∧ ∀ x ∈ cs, x.oneCell' = true
theorem isAgg_A : ∀ W : World, (isAgg 32).run Tryz.prog W = .ok true W := fun W => by kernel_rfl
theorem size_A : ∀ W : World, (sizeOf 32).run Tryz.prog W = .ok 3 W := fun W => by kernel_rfl
section
variable {ops : Array Oper} {rest : List Oper} {o : Oper} {a : Act} {w w' : World} {Q : Exit → Act → World → Prop}
theorem wp_value {K : Act → World → Prop} {v : Value} (h : (execOp a.eval o).run Tryz.prog w = .ok (.value v) w') (hK : K (a.put o.dst v) w') : o.wp Tryz.prog a w K Q := by
  unfold Oper.wp; simp [h]; exact hK
theorem wp_skip {K : Act → World → Prop} (h : (execOp a.eval o).run Tryz.prog w = .ok .skip w') (hK : K (a.put o.dst undef) w') : o.wp Tryz.prog a w K Q := by
  unfold Oper.wp; simp [h]; exact hK
theorem wpList_value {v : Value} (hg : o.guard = none) (h : (execOp a.eval o).run Tryz.prog w = .ok (.value v) w') (hK : wpList Tryz.prog ops Q rest (a.put o.dst v) w') : wpList Tryz.prog ops Q (o :: rest) a w :=
  wpList_plain hg fun _ hK' => wp_value h (hK' _ _ hK)
theorem wpList_skip (hg : o.guard = none) (h : (execOp a.eval o).run Tryz.prog w = .ok .skip w') (hK : wpList Tryz.prog ops Q rest (a.put o.dst undef) w') : wpList Tryz.prog ops Q (o :: rest) a w :=
  wpList_plain hg fun _ hK' => wp_skip h (hK' _ _ hK)
variable {ρ : Operand → Value} {t : TypeId} {x y : Operand} {v : Value}
theorem exec_box {cs : List Value} (hop : o.op = .box t x) (hx : ρ x = .agg cs.toArray) (w : World) : (execOp ρ o).run Tryz.prog w = .ok (.value (.pointer (some ⟨w.heap.size, 0, none⟩))) (w.alloc (.cells cs.toArray t)) := by
  simp [execOp, hop, hx, run_box', Result.andThen, Value.cells]
theorem exec_alloc {cs : List Value} (hop : o.op = .alloc t) (hz : ∀ W : World, (zeroValue t).run Tryz.prog W = .ok (.agg cs.toArray) W) (w : World) : (execOp ρ o).run Tryz.prog w = .ok (.value (.pointer (some ⟨w.heap.size, 0, none⟩))) (w.alloc (.cells cs.toArray t)) := by
  simp [execOp, hop, run_alloc' hz, Result.andThen, Value.cells]
theorem exec_load (hop : o.op = .load t x) {p : Value} (hx : ρ x = p) {w : World} (h : (Instr.loadAt t p).run Tryz.prog w = .ok v w) : (execOp ρ o).run Tryz.prog w = .ok (.value v) w := by
  simp [execOp, hop, hx, h, Result.andThen]
theorem exec_store (hop : o.op = .store t x y) {p : Value} (hx : ρ x = p) (hy : ρ y = v) {w w' : World} (h : (Instr.storeAt t p v).run Tryz.prog w = .ok () w') : (execOp ρ o).run Tryz.prog w = .ok .skip w' := by
  simp [execOp, hop, hx, hy, h, Result.andThen]
theorem exec_lookup (hop : o.op = .lookup t x y true) {p q : Value} (hx : ρ x = p) (hy : ρ y = q) {w : World} (h : (Instr.lookup t p q true).run Tryz.prog w = .ok v w) : (execOp ρ o).run Tryz.prog w = .ok (.value v) w := by
  simp [execOp, hop, hx, hy, h, Result.andThen]
theorem exec_mapUpdate (hop : ∃ z, o.op = .mapUpdate t x y z ∧ ρ z = v) {p q : Value} (hx : ρ x = p) (hy : ρ y = q) {w w' : World} (h : (Instr.mapUpdate t p q v).run Tryz.prog w = .ok () w') : (execOp ρ o).run Tryz.prog w = .ok .skip w' := by
  obtain ⟨z, hop, hz⟩ := hop
  simp [execOp, hop, hx, hy, hz, h, Result.andThen]
end
end Go.Proofs.YtfploeefmnbpcaaGreat
