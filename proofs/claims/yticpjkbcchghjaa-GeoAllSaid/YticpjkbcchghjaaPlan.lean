/- A region that draws its order, walked in one order that a check has found to serve: plain operations as soon as they are ready, the others where nothing else is ready. The region's text leaves the goal: what is left is a list of operations. -/
import Derived.Test.YticpjkbcchghjaaNums
import Derived.RegionTactic
import Derived.OrdersHeld
import Derived.WalkKit
namespace Go.Proofs.Yticpjkbcchghjaa
open Go

/-- One operation of the plan: is it plain (it yields in whatever world)? where its guard lies; itself. -/
structure PS where
  plain : Bool
  slot : Option (Tmp × Bool)
  o : Oper

def nth : List Oper → Nat → Option Oper
  | [], _ => none
  | x :: _, 0 => some x
  | _ :: xs, n + 1 => nth xs n
theorem nth_eq (l : List Oper) (i : Nat) : nth l i = l[i]? := by
  induction l generalizing i with
  | nil => rfl
  | cons x xs ih => cases i with
    | zero => rfl
    | succ i => simpa [nth] using ih i

def PS.on (s : PS) (t : Array Value) : Bool :=
  match s.slot with
  | none => true
  | some (d, b) => (match t[d]? with | some (.bool x) => x == b | _ => false)

def slotOf (l : List Oper) (o : Oper) : Option (Tmp × Bool) :=
  match o.guard with
  | none => none
  | some (j, b) => match nth l j with
    | some g => match g.dst with
      | some d => some (d, b)
      | none => none
    | none => none
/-- A guard is told by a slot. -/
def slotOk (l : List Oper) (o : Oper) : Bool :=
  match o.guard with
  | none => true
  | some _ => (slotOf l o).isSome

def stepsOf (l : List Oper) : List (Nat × Bool) → List PS
  | [] => []
  | (i, p) :: rest => match nth l i with
    | some o => ⟨p, slotOf l o, o⟩ :: stepsOf l rest
    | none => []

/-- The plan, walked: a plain operation yields in every world that meets S; behind any other one a stronger S is shown anew. -/
def wpPlan (P : Program) (Q : Exit → Act → World → Prop) : (World → Prop) → List PS → Act → World → Prop
  | _, [], a, w => Q .normal a w
  | S, s :: rest, a, w =>
    if s.on a.tmps = true then
      if s.plain = true then ∃ v, (∀ w', S w' → (execOp a.eval s.o).run P w' = .ok (.value v) w') ∧ wpPlan P Q S rest (a.put s.o.dst v) w
      else s.o.wp P a w (fun a' w' => ∃ S' : World → Prop, (∀ w, S' w → S w) ∧ S' w' ∧ wpPlan P Q S' rest a' w') Q
    else wpPlan P Q S rest (a.put s.o.dst undef) w

/-- What is shown with a stronger S is shown. -/
theorem wpAnyH_weaker {P : Program} {md : Region.Mode} {ops : Array Oper} {Q : Exit → Act → World → Prop} {S S' : World → Prop} (hw : ∀ w, S' w → S w) :
    ∀ (fuel : Nat) (listed : Array Bool) (a : Act) (w : World), wpAnyH P md ops Q S' fuel listed a w → wpAnyH P md ops Q S fuel listed a w
  | 0, _, _, _, h => h
  | fuel + 1, _, _, _, h => ⟨h.1, fun i hi => wpOp_mono (fun a' w' h' => ⟨hw w' h'.1, wpAnyH_weaker hw fuel _ a' w' h'.2⟩) (h.2 i hi)⟩

def planOk (l : List Oper) : Array Bool → List (Nat × Bool) → Bool
  | listed, [] => (Region.ready .any l.toArray listed).isEmpty
  | listed, (i, true) :: rest => (match nth l i with | some o => slotOk l o | none => false) && (Region.ready .any l.toArray listed).contains i && Region.free .any l.toArray listed i && planOk l (listed.setIfInBounds i true) rest
  | listed, (i, false) :: rest => (match nth l i with | some o => slotOk l o | none => false) && (Region.ready .any l.toArray listed == [i]) && planOk l (listed.setIfInBounds i true) rest

theorem wanted_on (l : List Oper) (o : Oper) (p : Bool) (t : Array Value) (h : slotOk l o = true) : Region.wanted o (yielded l.toArray t) = (PS.mk p (slotOf l o) o).on t := by
  unfold Region.wanted PS.on slotOf slotOk at *
  cases hg : o.guard with
  | none => rfl
  | some jb =>
    obtain ⟨j, b⟩ := jb
    simp only [hg] at h ⊢
    unfold slotOf at h
    simp only [hg] at h
    unfold yielded
    rw [nth_eq] at h ⊢
    rw [List.getElem?_toArray]
    cases hj : l[j]? with
    | none => simp [hj] at h
    | some g =>
      simp only [hj] at h ⊢
      cases hd : g.dst with
      | none => simp [hd] at h
      | some d =>
        simp only [hd, Option.bind_some]
        cases ht : t[d]? with
        | none => rfl
        | some v => cases v <;> simp

theorem plan_any {P : Program} {Q : Exit → Act → World → Prop} (l : List Oper) (hs : Region.noSelect l.toArray = true)
    (hQ : ∀ c a d v w, Q (.panic c) (a.put d v) w → Q (.panic c) a w) : ∀ (pl : List (Nat × Bool)) (listed : Array Bool) (S : World → Prop) (a : Act) (w : World),
    planOk l listed pl = true → S w → wpPlan P Q S (stepsOf l pl) a w → ∀ fuel, pl.length ≤ fuel → wpAnyH P .any l.toArray Q S fuel listed a w
  | [], listed, S, a, w, hp, _, h, fuel, _ => wpAnyH_done (by simpa [planOk] using hp) h fuel
  | (i, true) :: rest, listed, S, a, w, hp, hS, h, fuel, hf => by
    cases fuel with
    | zero => simp at hf
    | succ fuel =>
      simp only [planOk, Bool.and_eq_true] at hp
      obtain ⟨⟨⟨h1, h2⟩, h3⟩, h4⟩ := hp
      cases ho : nth l i with
      | none => simp [ho] at h1
      | some o =>
        simp only [ho] at h1
        have hi : l.toArray[i]? = some o := by rw [List.getElem?_toArray, ← nth_eq]; exact ho
        simp only [stepsOf, ho, wpPlan, if_true] at h
        rw [← wanted_on l o true a.tmps h1] at h
        have ih := plan_any (P := P) l hs hQ rest (listed.setIfInBounds i true) S
        by_cases hw : Region.wanted o (yielded l.toArray a.tmps) = true
        · rw [if_pos hw] at h
          obtain ⟨v, hy, hr⟩ := h
          exact wpAnyH_take hi hs h3 h2 (fun c a w => hQ c a _ _ w) (.inl ⟨hw, hy⟩) hS (ih _ _ h4 hS hr fuel (by simpa using hf))
        · rw [if_neg hw] at h
          exact wpAnyH_take hi hs h3 h2 (fun c a w => hQ c a _ _ w) (.inr ⟨by simpa using hw, rfl⟩) hS (ih _ _ h4 hS h fuel (by simpa using hf))
  | (i, false) :: rest, listed, S, a, w, hp, hS, h, fuel, hf => by
    cases fuel with
    | zero => simp at hf
    | succ fuel =>
      simp only [planOk, Bool.and_eq_true] at hp
      obtain ⟨⟨h1, h2⟩, h4⟩ := hp
      cases ho : nth l i with
      | none => simp [ho] at h1
      | some o =>
        simp only [ho] at h1
        have hi : l.toArray[i]? = some o := by rw [List.getElem?_toArray, ← nth_eq]; exact ho
        simp only [stepsOf, ho, wpPlan, Bool.false_eq_true, if_false] at h
        rw [← wanted_on l o false a.tmps h1] at h
        have ih := plan_any (P := P) l hs hQ rest (listed.setIfInBounds i true)
        refine wpAnyH_all (rs := [i]) (by simpa using h2) (by simp) fun j hj => ?_
        rw [List.mem_singleton] at hj
        subst hj
        refine wpOp_step hi fun K' hK => ?_
        by_cases hw : Region.wanted o (yielded l.toArray a.tmps) = true
        · rw [if_pos hw] at h ⊢
          exact Oper.wp_mono (fun a' w' ⟨S', hSS, hr1, hr2⟩ => hK a' w' ⟨hSS w' hr1, wpAnyH_weaker hSS _ _ _ _ (ih S' a' w' h4 hr1 hr2 fuel (by simpa using hf))⟩) h
        · rw [if_neg hw] at h ⊢
          exact hK _ _ ⟨hS, ih S _ _ h4 hS h fuel (by simpa using hf)⟩

/-- The region, by a plan. -/
theorem wp_region_plan {P : Program} (S : World → Prop) {Q : Exit → Act → World → Prop} {id : Nat} {l : List Oper} {a : Act} {w : World} (pl : List (Nat × Bool)) (hm : P.follows .mixedOrders = true)
    (hs : Region.noSelect l.toArray = true) (hp : planOk l (Array.replicate l.length false) pl = true) (hl : pl.length ≤ l.length)
    (hQ : ∀ c a d v w, Q (.panic c) (a.put d v) w → Q (.panic c) a w) (hS : S w.drew)
    (h : wpPlan P Q S (stepsOf l pl) a w.drew) : (Code.region id l.toArray true).wp P Q a w :=
  wp_region_held (S := S) hm (by
    have := plan_any (P := P) (Q := Q) l hs hQ pl (Array.replicate l.length false) S a w.drew hp hS h l.length hl
    simpa using this)

theorem wpPlan_nil {P : Program} {S : World → Prop} {Q : Exit → Act → World → Prop} {a : Act} {w : World} (h : Q .normal a w) : wpPlan P Q S [] a w := by unfold wpPlan; exact h
theorem wpPlan_plain {P : Program} {S : World → Prop} {Q : Exit → Act → World → Prop} {s : Option (Tmp × Bool)} {o : Oper} {rest : List PS} {a : Act} {w : World} (v : Value) (hon : (PS.mk true s o).on a.tmps = true)
    (hy : ∀ w', S w' → (execOp a.eval o).run P w' = .ok (.value v) w') (h : wpPlan P Q S rest (a.put o.dst v) w) : wpPlan P Q S (⟨true, s, o⟩ :: rest) a w := by
  unfold wpPlan; rw [if_pos hon, if_pos rfl]; exact ⟨v, hy, h⟩
theorem wpPlan_loud {P : Program} {S : World → Prop} {Q : Exit → Act → World → Prop} {s : Option (Tmp × Bool)} {o : Oper} {rest : List PS} {a : Act} {w : World} (hon : (PS.mk false s o).on a.tmps = true)
    (h : ∀ K : Act → World → Prop, (∀ (S' : World → Prop) a w, (∀ w, S' w → S w) → S' w → wpPlan P Q S' rest a w → K a w) → o.wp P a w K Q) : wpPlan P Q S (⟨false, s, o⟩ :: rest) a w := by
  unfold wpPlan; rw [if_pos hon, if_neg (by simp)]; exact h _ fun S' _ _ h0 h1 h2 => ⟨S', h0, h1, h2⟩
theorem wpPlan_off {P : Program} {S : World → Prop} {Q : Exit → Act → World → Prop} {b : Bool} {s : Option (Tmp × Bool)} {o : Oper} {rest : List PS} {a : Act} {w : World} (hon : (PS.mk b s o).on a.tmps = false)
    (h : wpPlan P Q S rest (a.put o.dst undef) w) : wpPlan P Q S (⟨b, s, o⟩ :: rest) a w := by
  unfold wpPlan; rw [if_neg (by rw [hon]; simp)]; exact h
end Go.Proofs.Yticpjkbcchghjaa
