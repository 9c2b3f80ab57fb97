/- A region that draws its order, walked by a checked plan that parts where two loud operations are ready at a time. -/
import Derived.Test.YtobkbbbdddllmaaPlan
namespace Go.Proofs.Ytobkbbbdddllmaa
open Go

inductive Tree where
  | nil
  | plain (i : Nat) (t : Tree)
  | one (i : Nat) (t : Tree)
  | fork (i : Nat) (s : Tree) (j : Nat) (t : Tree)
def Tree.depth : Tree → Nat
  | .nil => 0
  | .plain _ t => t.depth + 1
  | .one _ t => t.depth + 1
  | .fork _ s _ t => max s.depth t.depth + 1
inductive PT where
  | nil
  | node (s : PS) (t : PT)
  | fork (s : PS) (t : PT) (s' : PS) (t' : PT)
def psOf (l : List Oper) (b : Bool) (o : Oper) : PS := ⟨b, slotOf l o, o⟩
def treeOf (l : List Oper) : Tree → PT
  | .nil => .nil
  | .plain i t => match nth l i with | some o => .node (psOf l true o) (treeOf l t) | none => .nil
  | .one i t => match nth l i with | some o => .node (psOf l false o) (treeOf l t) | none => .nil
  | .fork i s j t => match nth l i, nth l j with | some o, some o' => .fork (psOf l false o) (treeOf l s) (psOf l false o') (treeOf l t) | _, _ => .nil
def okAt (l : List Oper) (i : Nat) : Bool := match nth l i with | some o => slotOk l o | none => false
def treeOk (l : List Oper) : Array Bool → Tree → Bool
  | listed, .nil => (Region.ready .any l.toArray listed).isEmpty
  | listed, .plain i t => okAt l i && (Region.ready .any l.toArray listed).contains i && Region.free .any l.toArray listed i && treeOk l (listed.setIfInBounds i true) t
  | listed, .one i t => okAt l i && (Region.ready .any l.toArray listed == [i]) && treeOk l (listed.setIfInBounds i true) t
  | listed, .fork i s j t => okAt l i && okAt l j && (Region.ready .any l.toArray listed == [i, j]) && treeOk l (listed.setIfInBounds i true) s && treeOk l (listed.setIfInBounds j true) t

/-- One loud operation. -/
def wpLoud (P : Program) (Q : Exit → Act → World → Prop) (S : World → Prop) (s : PS) (R : (World → Prop) → Act → World → Prop) (a : Act) (w : World) : Prop :=
  if s.on a.tmps = true then s.o.wp P a w (fun a' w' => ∃ S' : World → Prop, (∀ w, S' w → S w) ∧ S' w' ∧ R S' a' w') Q else R S (a.put s.o.dst undef) w
def wpT (P : Program) (Q : Exit → Act → World → Prop) : PT → (World → Prop) → Act → World → Prop
  | .nil, _, a, w => Q .normal a w
  | .node s t, S, a, w =>
    if s.plain = true then
      if s.on a.tmps = true then ∃ v, (∀ w', S w' → (execOp a.eval s.o).run P w' = .ok (.value v) w') ∧ wpT P Q t S (a.put s.o.dst v) w
      else wpT P Q t S (a.put s.o.dst undef) w
    else wpLoud P Q S s (fun S' a' w' => wpT P Q t S' a' w') a w
  | .fork s t s' t', S, a, w => wpLoud P Q S s (fun S' a' w' => wpT P Q t S' a' w') a w ∧ wpLoud P Q S s' (fun S' a' w' => wpT P Q t' S' a' w') a w

theorem okAt_some {l : List Oper} {i : Nat} (h : okAt l i = true) : ∃ o, nth l i = some o ∧ slotOk l o = true ∧ l.toArray[i]? = some o := by
  unfold okAt at h
  cases ho : nth l i with
  | none => simp [ho] at h
  | some o =>
    simp only [ho] at h
    exact ⟨o, rfl, h, by rw [List.getElem?_toArray, ← nth_eq]; exact ho⟩

theorem loud_any {P : Program} {Q : Exit → Act → World → Prop} {l : List Oper} {i : Nat} {o : Oper} {listed : Array Bool} {S : World → Prop} {a : Act} {w : World} {R : (World → Prop) → Act → World → Prop} {fuel : Nat}
    (hi : l.toArray[i]? = some o) (h1 : slotOk l o = true) (hS : S w) (h : wpLoud P Q S (psOf l false o) R a w)
    (ih : ∀ S a w, S w → R S a w → wpAnyH P .any l.toArray Q S fuel (listed.setIfInBounds i true) a w) :
    wpOp P l.toArray Q i (fun a' w' => S w' ∧ wpAnyH P .any l.toArray Q S fuel (listed.setIfInBounds i true) a' w') a w := by
  refine wpOp_step hi fun K' hK => ?_
  unfold wpLoud psOf at h
  rw [← wanted_on l o false a.tmps h1] at h
  by_cases hw : Region.wanted o (yielded l.toArray a.tmps) = true
  · rw [if_pos hw] at h ⊢
    exact Oper.wp_mono (fun a' w' ⟨S', hSS, hr1, hr2⟩ => hK a' w' ⟨hSS w' hr1, wpAnyH_weaker hSS _ _ _ _ (ih S' a' w' hr1 hr2)⟩) h
  · rw [if_neg hw] at h ⊢
    exact hK _ _ ⟨hS, ih S _ _ hS h⟩

theorem tree_any {P : Program} {Q : Exit → Act → World → Prop} (l : List Oper) (hs : Region.noSelect l.toArray = true)
    (hQ : ∀ c a d v w, Q (.panic c) (a.put d v) w → Q (.panic c) a w) : ∀ (t : Tree) (listed : Array Bool) (S : World → Prop) (a : Act) (w : World),
    treeOk l listed t = true → S w → wpT P Q (treeOf l t) S a w → ∀ fuel, t.depth ≤ fuel → wpAnyH P .any l.toArray Q S fuel listed a w
  | .nil, listed, S, a, w, hp, _, h, fuel, _ => wpAnyH_done (by simpa [treeOk] using hp) h fuel
  | .plain i t, listed, S, a, w, hp, hS, h, fuel, hf => by
    cases fuel with
    | zero => simp [Tree.depth] at hf
    | succ fuel =>
      have hf : t.depth ≤ fuel := by simpa [Tree.depth] using hf
      simp only [treeOk, Bool.and_eq_true] at hp
      obtain ⟨⟨⟨h1, h2⟩, h3⟩, h4⟩ := hp
      obtain ⟨o, ho, hk, hi⟩ := okAt_some h1
      simp only [treeOf, ho, wpT, psOf, if_true] at h
      rw [← wanted_on l o true a.tmps hk] at h
      have ih := tree_any (P := P) l hs hQ t (listed.setIfInBounds i true) S
      by_cases hw : Region.wanted o (yielded l.toArray a.tmps) = true
      · rw [if_pos hw] at h
        obtain ⟨v, hy, hr⟩ := h
        exact wpAnyH_take hi hs h3 h2 (fun c a w => hQ c a _ _ w) (.inl ⟨hw, hy⟩) hS (ih _ _ h4 hS hr fuel hf)
      · rw [if_neg hw] at h
        exact wpAnyH_take hi hs h3 h2 (fun c a w => hQ c a _ _ w) (.inr ⟨by simpa using hw, rfl⟩) hS (ih _ _ h4 hS h fuel hf)
  | .one i t, listed, S, a, w, hp, hS, h, fuel, hf => by
    cases fuel with
    | zero => simp [Tree.depth] at hf
    | succ fuel =>
      have hf2 : t.depth ≤ fuel := by simpa [Tree.depth] using hf
      simp only [treeOk, Bool.and_eq_true] at hp
      obtain ⟨⟨h1, h2⟩, h4⟩ := hp
      obtain ⟨o, ho, hk, hi⟩ := okAt_some h1
      simp only [treeOf, ho, wpT] at h
      rw [if_neg (by simp [psOf])] at h
      refine wpAnyH_all (rs := [i]) (by simpa using h2) (by simp) fun j hj => ?_
      rw [List.mem_singleton] at hj
      subst hj
      exact loud_any hi hk hS h fun S a w hS h => tree_any l hs hQ t _ S a w h4 hS h fuel hf2
  | .fork i s j t, listed, S, a, w, hp, hS, h, fuel, hf => by
    cases fuel with
    | zero => simp [Tree.depth] at hf
    | succ fuel =>
      have hf : max s.depth t.depth ≤ fuel := by simpa [Tree.depth] using hf
      simp only [treeOk, Bool.and_eq_true] at hp
      obtain ⟨⟨⟨⟨h1, h1'⟩, h2⟩, h4⟩, h4'⟩ := hp
      obtain ⟨o, ho, hk, hi⟩ := okAt_some h1
      obtain ⟨o', ho', hk', hi'⟩ := okAt_some h1'
      simp only [treeOf, ho, ho', wpT] at h
      refine wpAnyH_all (rs := [i, j]) (by simpa using h2) (by simp) fun k hk2 => ?_
      rcases List.mem_cons.1 hk2 with hk2 | hk2
      · subst hk2
        exact loud_any hi hk hS h.1 fun S a w hS h => tree_any l hs hQ s _ S a w h4 hS h fuel (by omega)
      · rw [List.mem_singleton] at hk2
        subst hk2
        exact loud_any hi' hk' hS h.2 fun S a w hS h => tree_any l hs hQ t _ S a w h4' hS h fuel (by omega)

/-- The region, by a tree. -/
theorem wp_region_tree {P : Program} (S : World → Prop) {Q : Exit → Act → World → Prop} {id : Nat} {l : List Oper} {a : Act} {w : World} (t : Tree) (hm : P.follows .mixedOrders = true)
    (hs : Region.noSelect l.toArray = true) (hp : treeOk l (Array.replicate l.length false) t = true) (hl : t.depth ≤ l.length)
    (hQ : ∀ c a d v w, Q (.panic c) (a.put d v) w → Q (.panic c) a w) (hS : S w.drew)
    (h : wpT P Q (treeOf l t) S a w.drew) : (Code.region id l.toArray true).wp P Q a w :=
  wp_region_held (S := S) hm (by
    have := tree_any (P := P) (Q := Q) l hs hQ t (Array.replicate l.length false) S a w.drew hp hS h l.length hl
    simpa using this)

theorem wpT_nil {P : Program} {S : World → Prop} {Q : Exit → Act → World → Prop} {a : Act} {w : World} (h : Q .normal a w) : wpT P Q .nil S a w := by unfold wpT; exact h
theorem wpT_plain {P : Program} {S : World → Prop} {Q : Exit → Act → World → Prop} {s : Option (Tmp × Bool)} {o : Oper} {rest : PT} {a : Act} {w : World} (v : Value) (hon : (PS.mk true s o).on a.tmps = true)
    (hy : ∀ w', S w' → (execOp a.eval o).run P w' = .ok (.value v) w') (h : wpT P Q rest S (a.put o.dst v) w) : wpT P Q (.node ⟨true, s, o⟩ rest) S a w := by
  unfold wpT; rw [if_pos rfl, if_pos hon]; exact ⟨v, hy, h⟩
theorem wpLoud_on {P : Program} {S : World → Prop} {Q : Exit → Act → World → Prop} {s : Option (Tmp × Bool)} {o : Oper} {R : (World → Prop) → Act → World → Prop} {a : Act} {w : World} (hon : (PS.mk false s o).on a.tmps = true)
    (h : ∀ K : Act → World → Prop, (∀ (S' : World → Prop) a w, (∀ w, S' w → S w) → S' w → R S' a w → K a w) → o.wp P a w K Q) : wpLoud P Q S ⟨false, s, o⟩ R a w := by
  unfold wpLoud; rw [if_pos hon]; exact h _ fun S' _ _ h0 h1 h2 => ⟨S', h0, h1, h2⟩
theorem wpT_loud {P : Program} {S : World → Prop} {Q : Exit → Act → World → Prop} {s : Option (Tmp × Bool)} {o : Oper} {rest : PT} {a : Act} {w : World} (hon : (PS.mk false s o).on a.tmps = true)
    (h : ∀ K : Act → World → Prop, (∀ (S' : World → Prop) a w, (∀ w, S' w → S w) → S' w → wpT P Q rest S' a w → K a w) → o.wp P a w K Q) : wpT P Q (.node ⟨false, s, o⟩ rest) S a w := by
  unfold wpT; rw [if_neg (by simp)]; exact wpLoud_on hon h
theorem wpT_fork {P : Program} {S : World → Prop} {Q : Exit → Act → World → Prop} {s s' : Option (Tmp × Bool)} {o o' : Oper} {rest rest' : PT} {a : Act} {w : World} (hon : (PS.mk false s o).on a.tmps = true) (hon' : (PS.mk false s' o').on a.tmps = true)
    (h : ∀ K : Act → World → Prop, (∀ (S' : World → Prop) a w, (∀ w, S' w → S w) → S' w → wpT P Q rest S' a w → K a w) → o.wp P a w K Q)
    (h' : ∀ K : Act → World → Prop, (∀ (S' : World → Prop) a w, (∀ w, S' w → S w) → S' w → wpT P Q rest' S' a w → K a w) → o'.wp P a w K Q) :
    wpT P Q (.fork ⟨false, s, o⟩ rest ⟨false, s', o'⟩ rest') S a w := by
  unfold wpT; exact ⟨wpLoud_on hon h, wpLoud_on hon' h'⟩
end Go.Proofs.Ytobkbbbdddllmaa
