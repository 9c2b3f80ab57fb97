import Derived.Test.YtfploeefmnbpcaaGreatG01
import Derived.RegionTactic
import Derived.OrdersHeld
import Derived.WalkKit
import Derived.Test.YtfploeefmnbpcaaGreatG03
import Derived.DeepKeys
import Derived.Laws.StructEq
import Derived.Deep.QuietTactic
import Derived.Test.YtfploeefmnbpcaaGreatG02
import Derived.BigRegion
import Derived.StillTailTactics
import Derived.BigQuiet
/- A region that draws its order, walked in one order that a check has found to serve: plain operations as soon as they are ready, the others where nothing else is ready. The region's text leaves the goal: what is left is a list of operations. -/
namespace Go.Proofs.YtfploeefmnbpcaaGreat
open Go

/-- One operation of the plan: is it plain (it yields in whatever world)? where its guard lies; itself. -/
structure PS where
  plain : Bool
  slot : Option (Tmp × Bool)
  o : Oper

def nth : List Oper → Nat → Option Oper
  | [], _ => none
  | x :: _, 0 => some x
  | _ :: xs, n + 1 => nth xs n
theorem nth_eq (l : List Oper) (i : Nat) : nth l i = l[i]? := by
  induction l generalizing i with
  | nil => rfl
  | cons x xs ih => cases i with
    | zero => rfl
    | succ i => simpa [nth] using ih i

def PS.on (s : PS) (t : Array Value) : Bool :=
  match s.slot with
  | none => true
  | some (d, b) => (match t[d]? with | some (.bool x) => x == b | _ => false)

def slotOf (l : List Oper) (o : Oper) : Option (Tmp × Bool) :=
  match o.guard with
  | none => none
  | some (j, b) => match nth l j with
    | some g => match g.dst with
      | some d => some (d, b)
      | none => none
    | none => none
/-- A guard is told by a slot. -/
def slotOk (l : List Oper) (o : Oper) : Bool :=
  match o.guard with
  | none => true
  | some _ => (slotOf l o).isSome

def stepsOf (l : List Oper) : List (Nat × Bool) → List PS
  | [] => []
  | (i, p) :: rest => match nth l i with
    | some o => ⟨p, slotOf l o, o⟩ :: stepsOf l rest
    | none => []

/-- The plan, walked: a plain operation yields in every world that meets S; behind any other one a stronger S is shown anew. -/
def wpPlan (P : Program) (Q : Exit → Act → World → Prop) : (World → Prop) → List PS → Act → World → Prop
  | _, [], a, w => Q .normal a w
  | S, s :: rest, a, w =>
    if s.on a.tmps = true then
      if s.plain = true then ∃ v, (∀ w', S w' → (execOp a.eval s.o).run P w' = .ok (.value v) w') ∧ wpPlan P Q S rest (a.put s.o.dst v) w
      else s.o.wp P a w (fun a' w' => ∃ S' : World → Prop, (∀ w, S' w → S w) ∧ S' w' ∧ wpPlan P Q S' rest a' w') Q
    else wpPlan P Q S rest (a.put s.o.dst undef) w

/-- What is shown with a stronger S is shown. -/
theorem wpAnyH_weaker {P : Program} {md : Region.Mode} {ops : Array Oper} {Q : Exit → Act → World → Prop} {S S' : World → Prop} (hw : ∀ w, S' w → S w) :
    ∀ (fuel : Nat) (listed : Array Bool) (a : Act) (w : World), wpAnyH P md ops Q S' fuel listed a w → wpAnyH P md ops Q S fuel listed a w
  | 0, _, _, _, h => h
  | fuel + 1, _, _, _, h => ⟨h.1, fun i hi => wpOp_mono (fun a' w' h' => ⟨hw w' h'.1, wpAnyH_weaker hw fuel _ a' w' h'.2⟩) (h.2 i hi)⟩

def planOk (l : List Oper) : Array Bool → List (Nat × Bool) → Bool
  | listed, [] => (Region.ready .any l.toArray listed).isEmpty
  | listed, (i, true) :: rest => (match nth l i with | some o => slotOk l o | none => false) && (Region.ready .any l.toArray listed).contains i && Region.free .any l.toArray listed i && planOk l (listed.setIfInBounds i true) rest
  | listed, (i, false) :: rest => (match nth l i with | some o => slotOk l o | none => false) && (Region.ready .any l.toArray listed == [i]) && planOk l (listed.setIfInBounds i true) rest

theorem wanted_on (l : List Oper) (o : Oper) (p : Bool) (t : Array Value) (h : slotOk l o = true) : Region.wanted o (yielded l.toArray t) = (PS.mk p (slotOf l o) o).on t := by
  unfold Region.wanted PS.on slotOf slotOk at *
  cases hg : o.guard with
  | none => rfl
  | some jb =>
    obtain ⟨j, b⟩ := jb
    simp only [hg] at h ⊢
    unfold slotOf at h
    simp only [hg] at h
    unfold yielded
    rw [nth_eq] at h ⊢
    rw [List.getElem?_toArray]
    cases hj : l[j]? with
    | none => simp [hj] at h
    | some g =>
      simp only [hj] at h ⊢
      cases hd : g.dst with
      | none => simp [hd] at h
      | some d =>
        simp only [hd, Option.bind_some]
        cases ht : t[d]? with
        | none => rfl
        | some v => cases v <;> simp

theorem plan_any {P : Program} {Q : Exit → Act → World → Prop} (l : List Oper) (hs : Region.noSelect l.toArray = true)
    (hQ : ∀ c a d v w, Q (.panic c) (a.put d v) w → Q (.panic c) a w) : ∀ (pl : List (Nat × Bool)) (listed : Array Bool) (S : World → Prop) (a : Act) (w : World),
    planOk l listed pl = true → S w → wpPlan P Q S (stepsOf l pl) a w → ∀ fuel, pl.length ≤ fuel → wpAnyH P .any l.toArray Q S fuel listed a w
  | [], listed, S, a, w, hp, _, h, fuel, _ => wpAnyH_done (by simpa [planOk] using hp) h fuel
  | (i, true) :: rest, listed, S, a, w, hp, hS, h, fuel, hf => by
    cases fuel with
    | zero => simp at hf
    | succ fuel =>
      simp only [planOk, Bool.and_eq_true] at hp
      obtain ⟨⟨⟨h1, h2⟩, h3⟩, h4⟩ := hp
      cases ho : nth l i with
      | none => simp [ho] at h1
      | some o =>
        simp only [ho] at h1
        have hi : l.toArray[i]? = some o := by rw [List.getElem?_toArray, ← nth_eq]; exact ho
        simp only [stepsOf, ho, wpPlan, if_true] at h
        rw [← wanted_on l o true a.tmps h1] at h
        have ih := plan_any (P := P) l hs hQ rest (listed.setIfInBounds i true) S
        by_cases hw : Region.wanted o (yielded l.toArray a.tmps) = true
        · rw [if_pos hw] at h
          obtain ⟨v, hy, hr⟩ := h
          exact wpAnyH_take hi hs h3 h2 (fun c a w => hQ c a _ _ w) (.inl ⟨hw, hy⟩) hS (ih _ _ h4 hS hr fuel (by simpa using hf))
        · rw [if_neg hw] at h
          exact wpAnyH_take hi hs h3 h2 (fun c a w => hQ c a _ _ w) (.inr ⟨by simpa using hw, rfl⟩) hS (ih _ _ h4 hS h fuel (by simpa using hf))
  | (i, false) :: rest, listed, S, a, w, hp, hS, h, fuel, hf => by
    cases fuel with
    | zero => simp at hf
    | succ fuel =>
      simp only [planOk, Bool.and_eq_true] at hp
      obtain ⟨⟨h1, h2⟩, h4⟩ := hp
      cases ho : nth l i with
      | none => simp [ho] at h1
      | some o =>
        simp only [ho] at h1
        have hi : l.toArray[i]? = some o := by rw [List.getElem?_toArray, ← nth_eq]; exact ho
        simp only [stepsOf, ho, wpPlan, Bool.false_eq_true, if_false] at h
        rw [← wanted_on l o false a.tmps h1] at h
        have ih := plan_any (P := P) l hs hQ rest (listed.setIfInBounds i true)
        refine wpAnyH_all (rs := [i]) (by simpa using h2) (by simp) fun j hj => ?_
        rw [List.mem_singleton] at hj
        subst hj
        refine wpOp_step hi fun K' hK => ?_
        by_cases hw : Region.wanted o (yielded l.toArray a.tmps) = true
        · rw [if_pos hw] at h ⊢
          exact Oper.wp_mono (fun a' w' ⟨S', hSS, hr1, hr2⟩ => hK a' w' ⟨hSS w' hr1, wpAnyH_weaker hSS _ _ _ _ (ih S' a' w' h4 hr1 hr2 fuel (by simpa using hf))⟩) h
        · rw [if_neg hw] at h ⊢
          exact hK _ _ ⟨hS, ih S _ _ h4 hS h fuel (by simpa using hf)⟩

/-- The region, by a plan. -/
theorem wp_region_plan {P : Program} (S : World → Prop) {Q : Exit → Act → World → Prop} {id : Nat} {l : List Oper} {a : Act} {w : World} (pl : List (Nat × Bool)) (hm : P.follows .mixedOrders = true)
    (hs : Region.noSelect l.toArray = true) (hp : planOk l (Array.replicate l.length false) pl = true) (hl : pl.length ≤ l.length)
    (hQ : ∀ c a d v w, Q (.panic c) (a.put d v) w → Q (.panic c) a w) (hS : S w.drew)
    (h : wpPlan P Q S (stepsOf l pl) a w.drew) : (Code.region id l.toArray true).wp P Q a w :=
  wp_region_held (S := S) hm (by
    have := plan_any (P := P) (Q := Q) l hs hQ pl (Array.replicate l.length false) S a w.drew hp hS h l.length hl
    simpa using this)

theorem wpPlan_nil {P : Program} {S : World → Prop} {Q : Exit → Act → World → Prop} {a : Act} {w : World} (h : Q .normal a w) : wpPlan P Q S [] a w := by unfold wpPlan; exact h
theorem wpPlan_plain {P : Program} {S : World → Prop} {Q : Exit → Act → World → Prop} {s : Option (Tmp × Bool)} {o : Oper} {rest : List PS} {a : Act} {w : World} (v : Value) (hon : (PS.mk true s o).on a.tmps = true)
    (hy : ∀ w', S w' → (execOp a.eval o).run P w' = .ok (.value v) w') (h : wpPlan P Q S rest (a.put o.dst v) w) : wpPlan P Q S (⟨true, s, o⟩ :: rest) a w := by
  unfold wpPlan; rw [if_pos hon, if_pos rfl]; exact ⟨v, hy, h⟩
theorem wpPlan_loud {P : Program} {S : World → Prop} {Q : Exit → Act → World → Prop} {s : Option (Tmp × Bool)} {o : Oper} {rest : List PS} {a : Act} {w : World} (hon : (PS.mk false s o).on a.tmps = true)
    (h : ∀ K : Act → World → Prop, (∀ (S' : World → Prop) a w, (∀ w, S' w → S w) → S' w → wpPlan P Q S' rest a w → K a w) → o.wp P a w K Q) : wpPlan P Q S (⟨false, s, o⟩ :: rest) a w := by
  unfold wpPlan; rw [if_pos hon, if_neg (by simp)]; exact h _ fun S' _ _ h0 h1 h2 => ⟨S', h0, h1, h2⟩
theorem wpPlan_off {P : Program} {S : World → Prop} {Q : Exit → Act → World → Prop} {b : Bool} {s : Option (Tmp × Bool)} {o : Oper} {rest : List PS} {a : Act} {w : World} (hon : (PS.mk b s o).on a.tmps = false)
    (h : wpPlan P Q S rest (a.put o.dst undef) w) : wpPlan P Q S (⟨b, s, o⟩ :: rest) a w := by
  unfold wpPlan; rw [if_neg (by rw [hon]; simp)]; exact h
end Go.Proofs.YtfploeefmnbpcaaGreat

/- Pages held against one another by ==. -/
namespace Go.Proofs.YtfploeefmnbpcaaGreat
open Go.RowKit Mp

theorem formed_P (p : List Nat) (hp : okP p) : (encP p).formed Tryz.prog 34 = true := by
  unfold Value.formed encP
  simp only [Tryz.underlying34, cellsOf_P]
  simp [hp.1]
theorem keyOf_P (p : List Nat) (hp : okP p) (m : Nat) (hm : Tryz.prog.types.size + 1 = m + 2) (lp : List Lit) (h : Tryz.prog.keyLits (m + 2) 34 (p.map fun (n : Nat) => Value.int .u8 (n : Int)) = some lp) :
    keyOf Tryz.prog 34 (encP p) = some (.string (keyBytes lp)) := by
  unfold keyOf
  rw [Tryz.underlying34]
  dsimp only
  rw [keyType_P, formed_P p hp, hm, show (encP p).cells.toList = (p.map fun (n : Nat) => Value.int .u8 (n : Int)) from rfl, h]
  rfl

theorem eqP (p q : List Nat) (hp : okP p) (hq : okP q) (w : World) : (Op.equalIn 10000 34 (encP p) (encP q)).run Tryz.prog w = .ok (decide (p = q)) w := by
  obtain ⟨m, hm⟩ := types_size
  obtain ⟨lp, h1⟩ := lits_P m p hp
  obtain ⟨lq, h2⟩ := lits_P m q hq
  obtain ⟨r, hr, hiff⟩ := run_equalIn_deep (P := Tryz.prog) 9998 2 34 (by kernel_rfl) w (m + 2) (m + 2) (encP p) (encP q) lp lq (formed_P p hp) (formed_P q hq) h1 h2
  have hinj : lp = lq → p = q := fun e => by
    have k1 := keyOf_P p hp m hm lp h1
    have k2 := keyOf_P q hq m hm lq h2
    rw [← e] at k2
    exact encP_inj _ _ (law_P.inj k1 k2)
  rw [show (9998 + 2 : Nat) = 10000 from rfl] at hr
  rw [hr]
  by_cases h : p = q
  · subst h
    have : lp = lq := by rw [h1] at h2; exact Option.some.inj h2
    rw [hiff.2 this]; simp
  · have : r = false := by
      cases r with
      | false => rfl
      | true => exact absurd (hinj (hiff.1 rfl)) h
    rw [this]; simp [h]

theorem guard_P : Tryz.prog.eqGuardType Tryz.prog.depth 34 = false := by kernel_rfl

/-- '==' on pages, at the operation. -/
theorem exec_eqlP (ρ : Operand → Value) (o : Oper) (x y : Operand) (g : TypeId) (hop : o.op = Op.binOp .eql 34 x y g) (p q : List Nat) (hx : ρ x = encP p) (hy : ρ y = encP q) (hp : okP p) (hq : okP q) (w : World) :
    (execOp ρ o).run Tryz.prog w = .ok (.value (.bool (decide (p = q)))) w := by
  have h := eqP p q hp hq w
  have e : ∀ r : List Nat, encP r = .agg (cellsP r).toArray := fun r => rfl
  rw [e p, e q] at h
  simp only [execOp, hop, hx, hy, e p, e q, Sem.run_bind, run_eqGuard_agg _ _ _ _ _ _ _ guard_P, run_eql_struct, h, Result.andThen_ok, Sem.run_pure]
/-- A page is loaded, at the operation. -/
theorem exec_loadP (ρ : Operand → Value) (o : Oper) (x : Operand) (hop : o.op = Op.load 34 x) (b of : Nat) (hx : ρ x = .pointer (some ⟨b, of, none⟩)) (p : List Nat) (hp : p.length = 32) (w : World) (h : PageAt w b of p) :
    (execOp ρ o).run Tryz.prog w = .ok (.value (encP p)) w := by
  simp only [execOp, hop, hx, Sem.run_bind, load_page hp h, Result.andThen_ok, Sem.run_pure]
end Go.Proofs.YtfploeefmnbpcaaGreat

/- What the walks over a flash share. -/
namespace Go.Proofs.YtfploeefmnbpcaaGreat
open Go.RowKit Mp

def pgN (n : Nat) : List Nat := n :: List.replicate 31 0
theorem okP_pgN (n : Nat) (h : n < 256) : okP (pgN n) := by
  refine ⟨by simp [pgN], fun x hx => ?_⟩
  rcases List.mem_cons.1 hx with rfl | hx
  · exact h
  · rw [List.eq_of_mem_replicate hx]; omega
theorem encP_noPage : encP FlM.noPage = .agg #[.int .u8 0, .int .u8 0, .int .u8 0, .int .u8 0, .int .u8 0, .int .u8 0, .int .u8 0, .int .u8 0, .int .u8 0, .int .u8 0, .int .u8 0, .int .u8 0, .int .u8 0, .int .u8 0, .int .u8 0, .int .u8 0, .int .u8 0, .int .u8 0, .int .u8 0, .int .u8 0, .int .u8 0, .int .u8 0, .int .u8 0, .int .u8 0, .int .u8 0, .int .u8 0, .int .u8 0, .int .u8 0, .int .u8 0, .int .u8 0, .int .u8 0, .int .u8 0] := rfl
theorem encP_pgN (n : Nat) : encP (pgN n) = .agg #[.int .u8 (n : Int), .int .u8 0, .int .u8 0, .int .u8 0, .int .u8 0, .int .u8 0, .int .u8 0, .int .u8 0, .int .u8 0, .int .u8 0, .int .u8 0, .int .u8 0, .int .u8 0, .int .u8 0, .int .u8 0, .int .u8 0, .int .u8 0, .int .u8 0, .int .u8 0, .int .u8 0, .int .u8 0, .int .u8 0, .int .u8 0, .int .u8 0, .int .u8 0, .int .u8 0, .int .u8 0, .int .u8 0, .int .u8 0, .int .u8 0, .int .u8 0, .int .u8 0] := rfl
theorem mod_pos (a : Int) (n : Nat) (hn : 0 < n) (hb : n < 100) :
    ∃ d : Nat, d < n ∧ wrap64 (a.tmod n + n) = a.tmod n + n ∧ (a.tmod n + n).tmod n = d ∧ (a.tmod n + n) % n = d ∧ 0 ≤ a.tmod n + n ∧ a % n = d := by
  have g1 := Int.emod_nonneg a (show (n : Int) ≠ 0 by omega)
  have g2 := Int.emod_lt_of_pos a (show (0 : Int) < n by omega)
  have e : a.tmod n = a % n ∨ a.tmod n = a % n - n := by
    rw [Int.tmod_eq_emod]; split
    · left; omega
    · right; simp
  have e2 : (a.tmod n + n) % n = a % n := by
    rcases e with e | e
    · rw [e, Int.add_emod_right, Int.emod_emod_of_dvd _ (Int.dvd_refl _)]
    · rw [e, show a % (n : Int) - n + n = a % n by omega, Int.emod_emod_of_dvd _ (Int.dvd_refl _)]
  have p : 0 ≤ a.tmod n + n := by rcases e with e | e <;> omega
  refine ⟨(a % n).toNat, by omega, IntWalk.wrap64_in _ (by rcases e with e | e <;> omega), ?_, ?_, p, ?_⟩
  · rw [Int.tmod_eq_emod_of_nonneg p, e2]; omega
  · rw [e2]; omega
  · omega

/-- '==' on pages, at the operation, guarded or not. -/
theorem wpList_eqlPg (w : World) {ops : Array Oper} {rest : List Oper} {o : Oper} {a : Act} {Q : Exit → Act → World → Prop} (hw : Region.wanted o (yielded ops a.tmps) = true) (x y : Operand) (g : TypeId) (hop : o.op = Op.binOp .eql 34 x y g) (p q : List Nat)
    (hx : a.eval x = encP p) (hy : a.eval y = encP q) (hp : okP p) (hq : okP q) (hK : wpList Tryz.prog ops Q rest (a.put o.dst (.bool (decide (p = q)))) w) : wpList Tryz.prog ops Q (o :: rest) a w := by
  refine wpList_step fun K hK' => ?_
  rw [if_pos hw]
  unfold Oper.wp
  rw [exec_eqlP a.eval o x y g hop p q hx hy hp hq w]
  exact hK' _ _ hK
theorem exec_neqP (ρ : Operand → Value) (o : Oper) (x y : Operand) (g : TypeId) (hop : o.op = Op.binOp .neq 34 x y g) (p q : List Nat) (hx : ρ x = encP p) (hy : ρ y = encP q) (hp : okP p) (hq : okP q) (w : World) :
    (execOp ρ o).run Tryz.prog w = .ok (.value (.bool (!decide (p = q)))) w := by
  have h := eqP p q hp hq w
  have e : ∀ r : List Nat, encP r = .agg (cellsP r).toArray := fun r => rfl
  rw [e p, e q] at h
  simp only [execOp, hop, hx, hy, e p, e q, Sem.run_bind, run_eqGuard_agg _ _ _ _ _ _ _ guard_P, binOp, Op.equal, Op.maxDepth, h, Result.andThen_ok, Sem.run_pure]
theorem wpList_neqPg (w : World) {ops : Array Oper} {rest : List Oper} {o : Oper} {a : Act} {Q : Exit → Act → World → Prop} (hw : Region.wanted o (yielded ops a.tmps) = true) (x y : Operand) (g : TypeId) (hop : o.op = Op.binOp .neq 34 x y g) (p q : List Nat)
    (hx : a.eval x = encP p) (hy : a.eval y = encP q) (hp : okP p) (hq : okP q) (hK : wpList Tryz.prog ops Q rest (a.put o.dst (.bool (!decide (p = q)))) w) : wpList Tryz.prog ops Q (o :: rest) a w := by
  refine wpList_step fun K hK' => ?_
  rw [if_pos hw]
  unfold Oper.wp
  rw [exec_neqP a.eval o x y g hop p q hx hy hp hq w]
  exact hK' _ _ hK
/-- A page is loaded, guarded or not. -/
theorem wpList_loadPg (w : World) {ops : Array Oper} {rest : List Oper} {o : Oper} {a : Act} {Q : Exit → Act → World → Prop} (hw : Region.wanted o (yielded ops a.tmps) = true) (x : Operand) (hop : o.op = Op.load 34 x) (b of : Nat)
    (hx : a.eval x = .pointer (some ⟨b, of, none⟩)) (p : List Nat) (hp : p.length = 32) (h : PageAt w b of p) (hK : wpList Tryz.prog ops Q rest (a.put o.dst (encP p)) w) : wpList Tryz.prog ops Q (o :: rest) a w := by
  refine wpList_step fun K hK' => ?_
  rw [if_pos hw]
  unfold Oper.wp
  rw [exec_loadP a.eval o x hop b of hx p hp w h]
  exact hK' _ _ hK
theorem PageAt.same {w w' : World} {b : Nat} {p : List Nat} {L : List Nat} (h : PageAt w b 0 p) (hs : Same L w w') (hb : b ∈ L) : PageAt w' b 0 p := fun j hj => (hs.cell (p := ⟨b, 0 + j, none⟩) hb).trans (h j hj)

/-- Three numbers lie in block b. -/
def At3 (w : World) (b : Nat) (x y z : Int) : Prop := w.cell? ⟨b, 0, none⟩ = some (.int .i64 x) ∧ w.cell? ⟨b, 1, none⟩ = some (.int .i64 y) ∧ w.cell? ⟨b, 2, none⟩ = some (.int .i64 z)
theorem At3.new (w : World) (t : TypeId) (x y z : Int) : At3 (w.alloc (.cells #[.int .i64 x, .int .i64 y, .int .i64 z] t)) w.heap.size x y z :=
  ⟨by rw [World.cell?_alloc_at _ _ _ _ rfl]; rfl, by rw [World.cell?_alloc_at _ _ _ _ rfl]; rfl, by rw [World.cell?_alloc_at _ _ _ _ rfl]; rfl⟩
theorem At3.same {w w' : World} {b : Nat} {x y z : Int} {L : List Nat} (h : At3 w b x y z) (hs : Same L w w') (hb : b ∈ L) : At3 w' b x y z :=
  ⟨(hs.cell (p := ⟨b, 0, none⟩) hb).trans h.1, (hs.cell (p := ⟨b, 1, none⟩) hb).trans h.2.1, (hs.cell (p := ⟨b, 2, none⟩) hb).trans h.2.2⟩
theorem At3.alloc {w : World} {b : Nat} {x y z : Int} (h : At3 w b x y z) (o : Obj) : At3 (w.alloc o) b x y z := by
  have hb : b < w.heap.size := World.block_lt_of_cell? w _ h.1
  have hk := Below.heap_alloc w o b hb
  exact ⟨(World.cell?_of_block (a := ⟨b, 0, none⟩) hk).trans h.1, (World.cell?_of_block (a := ⟨b, 1, none⟩) hk).trans h.2.1, (World.cell?_of_block (a := ⟨b, 2, none⟩) hk).trans h.2.2⟩

/-- Block b is a page of one's own. -/
structure PgBox (w : World) (b : Nat) (p : List Nat) : Prop where
  length : p.length = 32
  cell : ∀ j, j < 32 → w.cell? ⟨b, j, none⟩ = some (.int .u8 ((p.getD j 0 : Nat) : Int))
  free : ∀ j, j < 32 → w.frozen? ⟨b, j, none⟩ = false
theorem PgBox.at {w : World} {b : Nat} {p : List Nat} (h : PgBox w b p) : PageAt w b 0 p := fun j hj => by rw [Nat.zero_add]; exact h.cell j hj
theorem PgBox.lt {w : World} {b : Nat} {p : List Nat} (h : PgBox w b p) : b < w.heap.size := World.block_lt_of_cell? w _ (h.cell 0 (by omega))
theorem PgBox.new (w : World) (p : List Nat) (hp : p.length = 32) (t : TypeId) : PgBox (w.alloc (.cells (cellsP p).toArray t)) w.heap.size p :=
  ⟨hp, fun j hj => by have := pageAt_new w p hp t j hj; rwa [Nat.zero_add] at this, fun j _ => World.frozen?_alloc_at _ _ _ _ rfl⟩
theorem PgBox.same {w w' : World} {b : Nat} {p : List Nat} {L : List Nat} (h : PgBox w b p) (hs : Same L w w') (hb : b ∈ L) : PgBox w' b p :=
  ⟨h.length, fun j hj => (hs.cell (p := ⟨b, j, none⟩) hb).trans (h.cell j hj), fun j hj => (hs.frozen (p := ⟨b, j, none⟩) hb).trans (h.free j hj)⟩
theorem PgBox.below {w w' : World} {b : Nat} {p : List Nat} (h : PgBox w b p) (hb : Below w.heap.size w w') : PgBox w' b p :=
  ⟨h.length, fun j hj => (hb.cell (p := ⟨b, j, none⟩) h.lt).trans (h.cell j hj), fun j hj => (hb.frozen (p := ⟨b, j, none⟩) h.lt).trans (h.free j hj)⟩
theorem PgBox.alloc {w : World} {b : Nat} {p : List Nat} (h : PgBox w b p) (o : Obj) : PgBox (w.alloc o) b p := h.below ((Below.refl _ _).alloc (Nat.le_refl _) o)
theorem PgBox.drew {w : World} {b : Nat} {p : List Nat} (h : PgBox w b p) : PgBox w.drew b p := ⟨h.length, h.cell, h.free⟩
theorem PgBox.drewN {w : World} {b : Nat} {p : List Nat} (h : PgBox w b p) (n : Nat) : PgBox (w.drewN n) b p := ⟨h.length, h.cell, h.free⟩
theorem PgBox.off {w w' : World} {b : Nat} {p : List Nat} (h : PgBox w b p) (hk : w'.heap[b]? = w.heap[b]?) : PgBox w' b p :=
  ⟨h.length, fun j hj => (World.cell?_of_block (a := ⟨b, j, none⟩) hk).trans (h.cell j hj), fun j hj => (World.frozen?_of_block (a := ⟨b, j, none⟩) hk).trans (h.free j hj)⟩
theorem PgBox.set {w : World} {b : Nat} {p : List Nat} (h : PgBox w b p) (k : Nat) (hk : k < 32) (v : Nat) : PgBox (w.setCell ⟨b, k, none⟩ (.int .u8 (v : Int))) b (p.set k v) := by
  refine ⟨by rw [List.length_set]; exact h.length, fun d hd => ?_, fun d hd => by rw [World.frozen?_setCell]; exact h.free d hd⟩
  by_cases hdp : d = k
  · subst hdp
    rw [World.cell?_setCell_same _ _ _ (h.cell d hd)]
    simp [h.length, hd]
  · rw [World.cell?_setCell_other _ _ _ _ (fun e => by injection e; omega), h.cell d hd]
    simp only [List.getD_eq_getElem?_getD, List.getElem?_set_ne (fun e => hdp e.symm)]

/-- The guard answers true. -/
def Begun7 : Prop := ∀ w, Calls Tryz.prog 15 #[] w fun e w' => e = .returned (.bool true) ∧ Below w.heap.size w w'

set_option maxHeartbeats 1000000 in
theorem made_any {Is : IsT} (C : NandC Is) (w0 w : World) (hb : Below w0.heap.size w0 w) : Calls Tryz.prog 40 #[] w fun e w' => ∃ g, e = .returned (nptr g) ∧ Has Is w0 w' g (FlM.start 3 8 4) [] := by
  have HC := Lib.hid C
  have HB := Lib.hid hb
  clear C hb
  go_enter Tryz.func40, Tryz.ntmps40
  go_wp2_with fail
  refine (Has.new HC.out 3 8 4 w0 w [] (by simp) HB.out (by decide)).mono ?_
  rintro e w2 ⟨g, rfl, hh, -⟩
  go_wp2_with fail
  go_ret
  exact ⟨g, rfl, hh⟩
theorem FlM.cutAt_pos {M : FlM} {ops keep : Int} (hp : M.power = true) (h : 0 ≤ ops) : M.cutAt ops keep = { M with cut := some (ops.toNat, (max 0 (min keep 32)).toNat) } := by
  unfold FlM.cutAt; rw [if_neg (by simp [hp]), if_neg (by omega)]
end Go.Proofs.YtfploeefmnbpcaaGreat

/- What a plan of faults is asked to do, over whatever lies in memory. -/
namespace Go.Proofs.YtfploeefmnbpcaaGreat
open Go.RowKit Mp

/-- A fault, at its time. -/
structure FtM where
  at' : Int
  kind : Int
  x : Int
  y : Int
  z : Int
  n : Int
  v : Int
abbrev encF (f : FtM) : Value := .agg #[.int .i64 f.at', .int .i64 f.kind, .int .i64 f.x, .int .i64 f.y, .int .i64 f.z, .int .i64 f.n, .int .i64 f.v]
def cellsFau (f : FtM) : List Value := [.int .i64 f.at', .int .i64 f.kind, .int .i64 f.x, .int .i64 f.y, .int .i64 f.z, .int .i64 f.n, .int .i64 f.v]
/-- a leads to the faults l. -/
def FaultsIs (w : World) (a : Option Addr) (l : List FtM) : Prop := ∀ i f, l[i]? = some f → ∃ b o, a = some ⟨b, o, none⟩ ∧ ∀ j v, (cellsFau f)[j]? = some v → w.cell? ⟨b, o + i * 7 + j, none⟩ = some v
theorem FaultsIs.below {w w' : World} {a : Option Addr} {l : List FtM} (h : FaultsIs w a l) (hb : Below w.heap.size w w') : FaultsIs w' a l := fun i f hi => by
  obtain ⟨b, o, e, hc⟩ := h i f hi
  exact ⟨b, o, e, fun j v hj => (hb.cell (World.block_lt_of_cell? w _ (hc j v hj))).trans (hc j v hj)⟩
theorem flat_at : ∀ (l : List FtM) (i : Nat) (f : FtM) (j : Nat), l[i]? = some f → j < 7 → (l.flatMap cellsFau)[i * 7 + j]? = (cellsFau f)[j]?
  | [], i, f, j, h, _ => by simp at h
  | a :: l, 0, f, j, h, hj => by
    simp only [List.getElem?_cons_zero, Option.some.injEq] at h
    subst h
    rw [List.flatMap_cons, List.getElem?_append_left (by simp [cellsFau]; omega), Nat.zero_mul, Nat.zero_add]
  | a :: l, i + 1, f, j, h, hj => by
    simp only [List.getElem?_cons_succ] at h
    rw [List.flatMap_cons, List.getElem?_append_right (by simp [cellsFau]; omega), show (i + 1) * 7 + j - (cellsFau a).length = i * 7 + j by simp [cellsFau]; omega]
    exact flat_at l i f j h hj
theorem FaultsIs.new (w : World) (t : TypeId) (l : List FtM) : FaultsIs (w.alloc (.cells (l.flatMap cellsFau).toArray t)) (some ⟨w.heap.size, 0, none⟩) l := fun i f hi =>
  ⟨w.heap.size, 0, rfl, fun j v hj => by
    have h7 : j < 7 := by have := (List.getElem?_eq_some_iff.1 hj).1; simpa [cellsFau] using this
    rw [World.cell?_alloc_at _ _ _ _ rfl, Nat.zero_add, List.getElem?_toArray, flat_at l i f j hi h7, hj]⟩
def mayF (d b p : Int) (f : FtM) : Bool :=
  decide (0 ≤ f.at' ∧ 1 ≤ f.kind ∧ f.kind ≤ 5) && inGB d b p f.x f.y f.z && (if f.kind = 5 then decide (0 ≤ f.n ∧ f.n ≤ 31 ∧ 1 ≤ f.v ∧ f.v ≤ 255) else decide (f.n = 0 ∧ f.v = 0))
/-- f behind those that are no later. -/
def insF (l : List FtM) (f : FtM) : List FtM := l.takeWhile (fun g => decide (g.at' ≤ f.at')) ++ f :: l.dropWhile (fun g => decide (g.at' ≤ f.at'))
def dueL (l : List FtM) (ops : Int) : List FtM := (l.filter fun f => decide (f.at' ≤ ops)).foldl insF []
def restL (l : List FtM) (ops : Int) : List FtM := l.filter fun f => decide (ops < f.at')
def runL (M : FlM) (l : List FtM) : FlM := l.foldl (fun M f => (M.fault f.kind f.x f.y f.z f.n f.v).2) M
def diesF (l : List FtM) : Int := l.foldl (fun m f => withS m f.x) 0

abbrev PlanT := World → Nat → List FtM → (Nat → Prop) → Prop
structure PlanC (IsN : IsT) (Is : PlanT) : Prop where
  lt : ∀ {w g l F}, Is w g l F → ∀ k, F k → k < w.heap.size
  keep : ∀ {w w' g l F}, Is w g l F → (∀ k, F k → w'.heap[k]? = w.heap[k]?) → Is w' g l F
  may : ∀ (d b p : Int) (f : FtM) (w : World), Calls Tryz.prog 31 #[geoV d b p, encF f] w fun e w' => e = .returned (.bool (mayF d b p f)) ∧ Below w.heap.size w w'
  dies : ∀ (a : Option Addr) (cap : Nat) (l : List FtM) (w : World), FaultsIs w a l → l.length ≤ cap → cap ≤ maxLen → (∀ f ∈ l, 0 ≤ f.x ∧ f.x < 8) →
    Calls Tryz.prog 32 #[.slice a l.length cap] w fun e w' => e = .returned (.int .i64 (diesF l)) ∧ Below w.heap.size w w'
  new : ∀ (d b p : Int) (a : Option Addr) (cap : Nat) (l : List FtM) (w : World), FaultsIs w a l → l.length ≤ cap → cap ≤ maxLen → l.length ≤ 20 →
    Calls Tryz.prog 33 #[geoV d b p, .slice a l.length cap] w fun e w' => ∃ g F, e = .returned (nptr g) ∧ Is w' g (l.filter (mayF d b p)) F ∧ (∀ k, F k → w.heap.size ≤ k) ∧ Below w.heap.size w w'
  left : ∀ {w g l F}, Is w g l F → Calls Tryz.prog 34 #[nptr g] w fun e w' => e = .returned (.int .i64 (l.length : Nat)) ∧ Below w.heap.size w w'
  due : ∀ {w g l F} (ops : Int), Is w g l F → l.length ≤ 1000000 → Calls Tryz.prog 35 #[nptr g, .int .i64 ops] w fun e w' => ∃ a cap F', e = .returned (.slice a (dueL l ops).length cap) ∧ (dueL l ops).length ≤ cap ∧ cap ≤ maxLen ∧
    FaultsIs w' a (dueL l ops) ∧ (∀ b o, a = some ⟨b, o, none⟩ → w.heap.size ≤ b ∧ ¬ F' b) ∧ Is w' g (restL l ops) F' ∧ Keeps F w w' ∧ ∀ k, F' k → F k ∨ w.heap.size ≤ k
  run : ∀ {w g l F g' M FN}, Is w g l F → IsN w g' M FN → (∀ k, F k → ¬ FN k) → l.length ≤ 1000000 →
    Calls Tryz.prog 39 #[nptr g, nptr g'] w fun e w' => e = .returned (.int .i64 ((dueL l M.ops).length : Nat)) ∧ ∃ F' FN', Is w' g (restL l M.ops) F' ∧ IsN w' g' (runL M (dueL l M.ops)) FN' ∧
      Keeps (fun k => F k ∨ FN k) w w' ∧ (∀ k, F' k → F k ∨ w.heap.size ≤ k) ∧ (∀ k, FN' k → FN k ∨ w.heap.size ≤ k) ∧ ∀ k, F' k → ¬ FN' k
end Go.Proofs.YtfploeefmnbpcaaGreat

/- Plain arithmetic of package bits. No Go text here. -/
namespace Go.Proofs.YtfploeefmnbpcaaGreat
namespace M

theorem num_false (k : Nat) : num (List.replicate k false) = 0 := by
  induction k with
  | zero => rfl
  | succ k ih => rw [List.replicate_succ', num_snoc, ih]; rfl

theorem pow_split {a b c : Nat} (h : a + b = c) : (2 : Nat) ^ a * 2 ^ b = 2 ^ c := by rw [← Nat.pow_add, h]

/-- A byte of which the list has the first bits alone. -/
theorem byteN_tail (l : List Bool) (i : Nat) (h : (l.drop i).length ≤ 8) : byteN l i = num (l.drop i) * 2 ^ (8 - (l.drop i).length) := by
  unfold byteN partN
  have e : (List.range 8).map (fun t => l.getD (i + t) false) = l.drop i ++ List.replicate (8 - (l.drop i).length) false := by
    apply List.ext_getElem
    · simp at h ⊢; omega
    · intro j h1 h2
      simp only [List.getElem_map, List.getElem_range]
      simp only [List.length_map, List.length_range] at h1
      by_cases hj : j < (l.drop i).length
      · rw [List.getElem_append_left hj, List.getElem_drop]
        rw [List.length_drop] at hj
        simp [List.getD, List.getElem?_eq_getElem (show i + j < l.length by omega)]
      · rw [List.getElem_append_right (by omega), List.getElem_replicate]
        rw [List.length_drop] at hj
        rw [List.getD, List.getElem?_eq_none (by omega)]; rfl
  rw [e, num_append, num_false, List.length_replicate, Nat.add_zero]

theorem byteN_before (m t : List Bool) (j : Nat) (h : 8 * j + 8 ≤ m.length) : byteN (m ++ t) (8 * j) = byteN m (8 * j) := by
  unfold byteN partN
  congr 1
  apply List.map_congr_left
  intro k hk
  have hk8 := List.mem_range.1 hk
  rw [List.getD, List.getD, List.getElem?_append_left (by omega)]
theorem byteN_behind (m : List Bool) (j : Nat) (h : m.length ≤ 8 * j) : byteN m (8 * j) = 0 := by
  have e : m.drop (8 * j) = [] := List.drop_eq_nil_of_le h
  rw [byteN_tail m (8 * j) (by rw [e]; simp), e]; simp [num]

/-- One piece is put: the byte it goes to. -/
theorem put_byte (m t : List Bool) (ht : m.length % 8 + t.length ≤ 8) :
    byteN (m ++ t) (8 * (m.length / 8)) = byteN m (8 * (m.length / 8)) ||| num t * 2 ^ (8 - m.length % 8 - t.length) := by
  have hd : (m.drop (8 * (m.length / 8))).length = m.length % 8 := by rw [List.length_drop]; omega
  have ed : (m ++ t).drop (8 * (m.length / 8)) = m.drop (8 * (m.length / 8)) ++ t := by rw [List.drop_append_of_le_length (by omega)]
  have hl : (m.drop (8 * (m.length / 8)) ++ t).length = m.length % 8 + t.length := by rw [List.length_append, hd]
  rw [byteN_tail (m ++ t) _ (by rw [ed, hl]; exact ht), byteN_tail m _ (by rw [hd]; omega), ed, hl, hd, num_append, Nat.add_mul]
  generalize num (m.drop (8 * (m.length / 8))) = A
  have e1 : A * 2 ^ t.length * 2 ^ (8 - (m.length % 8 + t.length)) = A * 2 ^ (8 - m.length % 8) := by
    rw [Nat.mul_assoc, pow_split]; omega
  have e2 : 8 - (m.length % 8 + t.length) = 8 - m.length % 8 - t.length := by omega
  rw [e1, e2]
  symm
  refine nat_join (8 - m.length % 8) _ _ (Nat.mul_mod_left _ _) ?_
  have h1 := num_lt t
  have h2 : 2 ^ t.length * 2 ^ (8 - m.length % 8 - t.length) = 2 ^ (8 - m.length % 8) := pow_split (by omega)
  rw [← h2]
  exact Nat.mul_lt_mul_of_pos_right h1 (Nat.pow_pos (by omega))

/-- What is left to put stands at the top of the word. -/
def topN (r : List Bool) : Nat := num r * 2 ^ (64 - r.length)
theorem topN_lt (r : List Bool) (h : r.length ≤ 64) : topN r < 18446744073709551616 := by
  have h1 := num_lt r
  have h2 : 2 ^ r.length * 2 ^ (64 - r.length) = 2 ^ 64 := pow_split (by omega)
  unfold topN
  rw [show 18446744073709551616 = 2 ^ 64 from rfl, ← h2]
  exact Nat.mul_lt_mul_of_pos_right h1 (Nat.pow_pos (by omega))

theorem top_next (t r : List Bool) (h : t.length + r.length ≤ 64) : topN (t ++ r) * 2 ^ t.length % 18446744073709551616 = topN r := by
  unfold topN
  rw [num_append, List.length_append]
  have e1 : (num t * 2 ^ r.length + num r) * 2 ^ (64 - (t.length + r.length)) * 2 ^ t.length = num r * 2 ^ (64 - r.length) + 2 ^ 64 * num t := by
    rw [Nat.mul_assoc, pow_split (show 64 - (t.length + r.length) + t.length = 64 - r.length by omega), Nat.add_mul, Nat.mul_assoc, pow_split (show r.length + (64 - r.length) = 64 by omega), Nat.mul_comm (num t), Nat.add_comm]
  rw [e1, show 18446744073709551616 = 2 ^ 64 from rfl, Nat.add_mul_mod_self_left]
  exact Nat.mod_eq_of_lt (topN_lt r (by omega))

theorem top_byte (t r : List Bool) (p : Nat) (h : t.length + r.length ≤ 64) (hp : p + t.length ≤ 8) (hc : r = [] ∨ p + t.length = 8) :
    topN (t ++ r) / 72057594037927936 % 256 / 2 ^ p = num t * 2 ^ (8 - p - t.length) := by
  have hlt := topN_lt (t ++ r) (by rw [List.length_append]; omega)
  rw [Nat.mod_eq_of_lt (by omega), Nat.div_div_eq_div_mul, show 72057594037927936 = 2 ^ 56 from rfl, pow_split (show 56 + p = 56 + p from rfl)]
  unfold topN
  rcases hc with rfl | hc
  · rw [List.append_nil]
    have e : 2 ^ (64 - t.length) = 2 ^ (8 - p - t.length) * 2 ^ (56 + p) := (pow_split (by omega)).symm
    rw [e, ← Nat.mul_assoc, Nat.mul_div_cancel _ (Nat.pow_pos (by omega))]
  · rw [num_append, List.length_append, show 8 - p - t.length = 0 by omega, Nat.pow_zero, Nat.mul_one, Nat.add_mul, Nat.mul_assoc,
      pow_split (show r.length + (64 - (t.length + r.length)) = 56 + p by omega), Nat.mul_comm (num t), Nat.mul_add_div (Nat.pow_pos (by omega))]
    have h1 := num_lt r
    have h2 : 2 ^ r.length * 2 ^ (64 - (t.length + r.length)) = 2 ^ (56 + p) := pow_split (by omega)
    have h3 : num r * 2 ^ (64 - (t.length + r.length)) < 2 ^ (56 + p) := by
      rw [← h2]; exact Nat.mul_lt_mul_of_pos_right h1 (Nat.pow_pos (by omega))
    rw [Nat.div_eq_of_lt h3, Nat.add_zero]

theorem top_start (u W : Nat) (hW : W ≤ 64) (hu : u < 2 ^ W) : u * 2 ^ (64 - W) % 18446744073709551616 = topN (bitsOf u W) := by
  have h : topN (bitsOf u W) = u * 2 ^ (64 - W) := by
    unfold topN; rw [num_bitsOf, bitsOf_length, Nat.mod_eq_of_lt hu]
  rw [← h]
  exact Nat.mod_eq_of_lt (topN_lt _ (by rw [bitsOf_length]; exact hW))

theorem and7 (n : Nat) (h : n < 9223372036854775808) : bits BinOp.and IntKind.i64 (n : Int) 7 = ((n % 8 : Nat) : Int) := by
  have e : bits .and .i64 (n : Int) 7 = IntKind.i64.wrap (BitVec.ofInt 64 (n : Int) &&& BitVec.ofInt 64 7).toNat := rfl
  have e2 : (BitVec.ofInt 64 7) = BitVec.ofNat 64 7 := rfl
  rw [e, e2, BitVec.ofInt_natCast, BitVec.toNat_and, BitVec.toNat_ofNat, BitVec.toNat_ofNat, Nat.mod_eq_of_lt (by omega), Nat.mod_eq_of_lt (by omega), nat_mask3, IntKind.wrap_i64]
  omega

/-- Some bits out of the midst of a byte. -/
theorem get_part (x p k : Nat) (hp : p + k ≤ 8) : num (((bitsOf x 8).drop p).take k) = x * 2 ^ p % 256 / 2 ^ (8 - k) := by
  have e1 : (bitsOf x 8).drop p = bitsOf x (8 - p) := by
    have := bitsOf_drop x (8 - p) p
    rwa [show p + (8 - p) = 8 by omega] at this
  have e2 : (bitsOf x (8 - p)).take k = bitsOf (x / 2 ^ (8 - p - k)) k := by
    have := bitsOf_take x k (8 - p - k)
    rwa [show k + (8 - p - k) = 8 - p by omega] at this
  rw [e1, e2, num_bitsOf, show 256 = 2 ^ (8 - p) * 2 ^ p by rw [pow_split (show 8 - p + p = 8 by omega)], Nat.mul_mod_mul_right]
  have e3 : (2 : Nat) ^ (8 - k) = 2 ^ p * 2 ^ (8 - p - k) := (pow_split (by omega)).symm
  rw [e3, ← Nat.div_div_eq_div_mul, Nat.mul_div_cancel _ (Nat.pow_pos (by omega))]
  have e4 : (2 : Nat) ^ (8 - p) = 2 ^ (8 - p - k) * 2 ^ k := (pow_split (by omega)).symm
  rw [e4, Nat.mod_mul_right_div_self]

theorem ofN_cons (x : Nat) (l : List Nat) : ofN (x :: l) = bitsOf x 8 ++ ofN l := by simp [ofN]
theorem ofN_append (a b : List Nat) : ofN (a ++ b) = ofN a ++ ofN b := by simp [ofN]

theorem ofN_byte (bs : List Nat) (q p k : Nat) (hq : q < bs.length) (hp : p + k ≤ 8) :
    ((ofN bs).drop (8 * q + p)).take k = ((bitsOf (bs[q]) 8).drop p).take k := by
  have e : ofN bs = ofN (bs.take q) ++ (bitsOf (bs[q]) 8 ++ ofN (bs.drop (q + 1))) := by
    rw [← ofN_cons, ← ofN_append, ← List.drop_eq_getElem_cons hq, List.take_append_drop]
  have hl : (ofN (bs.take q)).length = 8 * q := by rw [ofN_length, List.length_take, Nat.min_eq_left (by omega)]
  rw [e, ← List.drop_drop, ← hl, List.drop_left, List.drop_append_of_le_length (by rw [bitsOf_length]; omega),
    List.take_append_of_le_length (by rw [List.length_drop, bitsOf_length]; omega)]

/-- The next bits. -/
def nextN (bs : List Nat) (pos c : Nat) : Nat := num (((ofN bs).drop pos).take c)

theorem nextN_zero (bs : List Nat) (pos : Nat) : nextN bs pos 0 = 0 := by unfold nextN; rw [List.take_zero]; rfl
theorem nextN_lt (bs : List Nat) (pos c : Nat) : nextN bs pos c < 2 ^ c := by
  have h := num_lt (((ofN bs).drop pos).take c)
  have h2 : (((ofN bs).drop pos).take c).length ≤ c := by rw [List.length_take]; omega
  exact Nat.lt_of_lt_of_le h (Nat.pow_le_pow_right (by omega) h2)

theorem nextN_step (bs : List Nat) (pos c k p x : Nat) (hq : (pos + c) / 8 < bs.length) (hp : (pos + c) % 8 = p) (hk : p + k ≤ 8) (hx : bs[(pos + c) / 8] = x) :
    nextN bs pos (c + k) = nextN bs pos c * 2 ^ k + x * 2 ^ p % 256 / 2 ^ (8 - k) := by
  unfold nextN
  have e : pos + c = 8 * ((pos + c) / 8) + p := by omega
  have e2 : ((ofN bs).drop (pos + c)).take k = ((bitsOf x 8).drop p).take k := by
    have := ofN_byte bs ((pos + c) / 8) p k hq hk
    rw [← e, hx] at this
    exact this
  have hl : (((bitsOf x 8).drop p).take k).length = k := by rw [List.length_take, List.length_drop, bitsOf_length]; omega
  rw [List.take_add, List.drop_drop, e2, num_append, get_part x p k hk, hl]

theorem get_val (bs : List Nat) (pos c k p x q : Nat) (hq : (pos + c) / 8 < bs.length) (hp : (pos + c) % 8 = p) (hk : p + k ≤ 8) (hx : bs[(pos + c) / 8] = x) (hn : q = nextN bs pos c) (hck : c + k ≤ 64) :
    bits BinOp.or IntKind.u64 (IntKind.u64.wrap ((q : Int) * 2 ^ k)) ((x * 2 ^ p % 256 / 2 ^ (8 - k) : Nat) : Int) = ((nextN bs pos (c + k) : Nat) : Int) := by
  have h1 := nextN_lt bs pos c
  rw [← hn] at h1
  have h2 := get_part x p k hk
  have h3 := num_lt (((bitsOf x 8).drop p).take k)
  have h4 : (((bitsOf x 8).drop p).take k).length = k := by rw [List.length_take, List.length_drop, bitsOf_length]; omega
  rw [h4, h2] at h3
  have h5 : q * 2 ^ k < 2 ^ c * 2 ^ k := Nat.mul_lt_mul_of_pos_right h1 (Nat.pow_pos (by omega))
  have h6 : 2 ^ c * 2 ^ k ≤ 2 ^ 64 := by rw [pow_split rfl]; exact Nat.pow_le_pow_right (by omega) hck
  have h7 : (2 : Nat) ^ k ≤ 2 ^ 8 := Nat.pow_le_pow_right (by omega) (by omega)
  have e : IntKind.u64.wrap ((q : Int) * 2 ^ k) = ((q * 2 ^ k : Nat) : Int) := by
    rw [IntKind.wrap_u64]
    have : ((q : Int) * 2 ^ k) = ((q * 2 ^ k : Nat) : Int) := by simp
    rw [this]; omega
  rw [e, u64_or_nat _ _ (by omega) (by omega), nat_join k _ _ (Nat.mul_mod_left _ _) h3, nextN_step bs pos c k p x hq hp hk hx, hn]

theorem part_val (x p s : Nat) : IntKind.u64.wrap ((x : Int) * 2 ^ p % 256 / 2 ^ s) = ((x * 2 ^ p % 256 / 2 ^ s : Nat) : Int) := by
  have e : ((x : Int) * 2 ^ p % 256 / 2 ^ s) = ((x * 2 ^ p % 256 / 2 ^ s : Nat) : Int) := by simp
  have h : x * 2 ^ p % 256 / 2 ^ s < 256 := Nat.lt_of_le_of_lt (Nat.div_le_self _ _) (by omega)
  rw [e, IntKind.wrap_u64]
  generalize x * 2 ^ p % 256 / 2 ^ s = y at h
  omega

theorem byteN_in (l : List Bool) (i : Nat) (h : i + 8 ≤ l.length) : byteN l i = num ((l.drop i).take 8) := by
  unfold byteN partN
  congr 1
  apply List.ext_getElem
  · simp; omega
  · intro j h1 h2
    simp only [List.length_map, List.length_range] at h1
    simp only [List.getElem_map, List.getElem_range, List.getElem_take, List.getElem_drop]
    simp [List.getD, List.getElem?_eq_getElem (show i + j < l.length by omega)]

theorem byteN_word (u i : Nat) (h : i < 8) : byteN (bitsOf u 64) (8 * i) = u / 2 ^ (56 - 8 * i) % 256 := by
  have e1 : (bitsOf u 64).drop (8 * i) = bitsOf u (64 - 8 * i) := by
    have := bitsOf_drop u (64 - 8 * i) (8 * i)
    rwa [show 8 * i + (64 - 8 * i) = 64 by omega] at this
  have e2 : (bitsOf u (64 - 8 * i)).take 8 = bitsOf (u / 2 ^ (56 - 8 * i)) 8 := by
    have := bitsOf_take u 8 (56 - 8 * i)
    rwa [show 8 + (56 - 8 * i) = 64 - 8 * i by omega] at this
  rw [byteN_in _ _ (by rw [bitsOf_length]; omega), e1, e2, num_bitsOf]

theorem byteN_byteS (n : Int) (i : Nat) (h : i < 8) : byteS n i = ((byteN (bitsOf (n % 18446744073709551616).toNat 64) (8 * i) : Nat) : Int) := by
  rw [byteN_word _ _ h]
  unfold byteS
  obtain ⟨u, hu⟩ : ∃ u : Nat, (n % 18446744073709551616).toNat = u := ⟨_, rfl⟩
  have hu2 : n % 18446744073709551616 = u := by omega
  rw [hu]
  match i, h with
  | 0, _ => simp; omega
  | 1, _ => simp; omega
  | 2, _ => simp; omega
  | 3, _ => simp; omega
  | 4, _ => simp; omega
  | 5, _ => simp; omega
  | 6, _ => simp; omega
  | 7, _ => simp; omega

theorem bytes_word (n : Int) : [byteS n 0, byteS n 1, byteS n 2, byteS n 3, byteS n 4, byteS n 5, byteS n 6, byteS n 7] = (bytesN (bitsOf (n % 18446744073709551616).toNat 64) 8).map fun (x : Nat) => (x : Int) := by
  have h0 := byteN_byteS n 0 (by omega)
  have h1 := byteN_byteS n 1 (by omega)
  have h2 := byteN_byteS n 2 (by omega)
  have h3 := byteN_byteS n 3 (by omega)
  have h4 := byteN_byteS n 4 (by omega)
  have h5 := byteN_byteS n 5 (by omega)
  have h6 := byteN_byteS n 6 (by omega)
  have h7 := byteN_byteS n 7 (by omega)
  unfold bytesN
  simp only [show List.range 8 = [0, 1, 2, 3, 4, 5, 6, 7] from rfl, List.map_cons, List.map_nil]
  rw [← h0, ← h1, ← h2, ← h3, ← h4, ← h5, ← h6, ← h7]
  rfl

end M
end Go.Proofs.YtfploeefmnbpcaaGreat

/- Package bits: what each call does. -/
namespace Go.Proofs.YtfploeefmnbpcaaGreat
open Go.RowKit

theorem isWidth_yes (n : Int) (w : World) (h1 : 1 ≤ n) (h2 : n ≤ 64) : Calls Tryz.prog 133 #[.int .i64 n] w fun e w' => e = .returned (.bool true) ∧ w = w' := by
  go_enter Tryz.func133, Tryz.ntmps133
  go_wp2
  go_ret
  exact ⟨rfl, rfl⟩
theorem isWidth_low (n : Int) (w : World) (h1 : n < 1) : Calls Tryz.prog 133 #[.int .i64 n] w fun e w' => e = .returned (.bool false) ∧ w = w' := by
  have hb : decide (1 ≤ n) = false := by simp; omega
  go_enter Tryz.func133, Tryz.ntmps133
  go_wp2
  go_ret
  exact ⟨rfl, rfl⟩
theorem isWidth_high (n : Int) (w : World) (h1 : 64 < n) : Calls Tryz.prog 133 #[.int .i64 n] w fun e w' => e = .returned (.bool false) ∧ w = w' := by
  have hb : decide (n ≤ 64) = false := by simp; omega
  have h2 : 1 ≤ n := by omega
  go_enter Tryz.func133, Tryz.ntmps133
  go_wp2
  go_ret
  exact ⟨rfl, rfl⟩
theorem isWidth_no (n : Int) (w : World) (h : n < 1 ∨ 64 < n) : Calls Tryz.prog 133 #[.int .i64 n] w fun e w' => e = .returned (.bool false) ∧ w = w' := by
  rcases h with h | h
  · exact isWidth_low n w h
  · exact isWidth_high n w h

/-- Block g is an Out that has the bits l. -/
structure OutIs (w : World) (g : Nat) (l : List Bool) : Prop where
  fits : l.length ≤ 4096
  bytes : ∀ j, j < 512 → w.cell? ⟨g, j, none⟩ = some (.int .u8 (M.byteN l (8 * j) : Nat))
  count : w.cell? ⟨g, 512, none⟩ = some (.int .i64 l.length)
  free : ∀ j, j ≤ 512 → w.frozen? ⟨g, j, none⟩ = false

/-- Block g may have changed, nothing else has. -/
structure Only (g : Nat) (w w' : World) : Prop where
  os : w'.os = w.os
  tape : w'.tape = w.tape
  output : w'.output = w.output
  size : w'.heap.size = w.heap.size
  block : ∀ k, k ≠ g → w'.heap[k]? = w.heap[k]?
theorem Only.refl (g : Nat) (w : World) : Only g w w := ⟨rfl, rfl, rfl, rfl, fun _ _ => rfl⟩
theorem Only.trans {g : Nat} {a b c : World} (h : Only g a b) (k : Only g b c) : Only g a c :=
  ⟨k.os.trans h.os, k.tape.trans h.tape, k.output.trans h.output, k.size.trans h.size, fun i hi => (k.block i hi).trans (h.block i hi)⟩
theorem Only.drew {g : Nat} {a w : World} (h : Only g a w) : Only g a w.drew := ⟨h.os, h.tape, h.output, h.size, h.block⟩
theorem Only.setCell {g : Nat} {a w : World} (h : Only g a w) (o : Nat) (s : Option Nat) (u : Value) : Only g a (w.setCell ⟨g, o, s⟩ u) :=
  h.trans ⟨rfl, rfl, rfl, by simp [World.setCell], fun k hk => Below.heap_setCell _ _ _ _ hk⟩
theorem Only.below {g B : Nat} {w w' : World} (h : Only g w w') (hg : B ≤ g) : Below B w w' := ⟨h.os, h.tape, h.output, by rw [h.size]; exact Nat.le_refl _, fun k hk => h.block k (by omega)⟩

theorem put_nil (u n : Int) (w : World) : Calls Tryz.prog 106 #[.pointer none, .int .u64 u, .int .i64 n] w fun e w' => e = .returned (.bool false) ∧ w = w' := by
  go_enter Tryz.func106, Tryz.ntmps106
  go_wp2
  go_ret
  exact ⟨rfl, rfl⟩
set_option maxHeartbeats 400000 in
theorem put_width (g : Nat) (u n : Int) (w : World) (h : n < 1 ∨ 64 < n) : Calls Tryz.prog 106 #[.pointer (some ⟨g, 0, none⟩), .int .u64 u, .int .i64 n] w fun e w' => e = .returned (.bool false) ∧ w = w' := by
  go_enter Tryz.func106, Tryz.ntmps106
  go_wp2_with (go_at_call 133; refine (isWidth_no _ _ h).mono ?_; rintro e w' ⟨rfl, rfl⟩)
  go_ret
  exact ⟨rfl, rfl⟩
set_option maxHeartbeats 400000 in
theorem put_high (g : Nat) (u n : Int) (w : World) (h1 : 1 ≤ n) (h2 : n ≤ 64) (hu : (u / 2 ^ n.toNat != 0) = true) : Calls Tryz.prog 106 #[.pointer (some ⟨g, 0, none⟩), .int .u64 u, .int .i64 n] w fun e w' => e = .returned (.bool false) ∧ w = w' := by
  go_enter Tryz.func106, Tryz.ntmps106
  go_wp2_with (go_at_call 133; refine (isWidth_yes _ _ h1 h2).mono ?_; rintro e w' ⟨rfl, rfl⟩)
  go_ret
  exact ⟨rfl, rfl⟩
set_option maxHeartbeats 400000 in
theorem put_full (g : Nat) (u n : Int) (l : List Bool) (w : World) (h1 : 1 ≤ n) (h2 : n ≤ 64) (hu : (u / 2 ^ n.toNat != 0) = false) (ho : OutIs w g l) (hf : 4096 < (l.length : Int) + n) : Calls Tryz.prog 106 #[.pointer (some ⟨g, 0, none⟩), .int .u64 u, .int .i64 n] w fun e w' => e = .returned (.bool false) ∧ w = w' := by
  have hc := ho.count
  have hl := ho.fits
  clear ho
  go_enter Tryz.func106, Tryz.ntmps106
  go_wp2_with (go_at_call 133; refine (isWidth_yes _ _ h1 h2).mono ?_; rintro e w' ⟨rfl, rfl⟩)
  go_ret
  exact ⟨rfl, rfl⟩

theorem addr_ne {g i j : Nat} (h : i ≠ j) : (⟨g, i, none⟩ : Addr) ≠ ⟨g, j, none⟩ := fun e => h (congrArg Addr.off e)

/-- One piece more. -/
theorem out_step {w : World} {g n : Nat} {m t : List Bool} {X N : Int} (ho : OutIs w g m) (hn : m.length = n) (hf : n + t.length ≤ 4096) (ht : n % 8 + t.length ≤ 8) (h0 : 0 < t.length)
    (hX : X = (M.byteN (m ++ t) (8 * (n / 8)) : Nat)) (hN : N = ((n + t.length : Nat) : Int)) :
    OutIs ((w.setCell ⟨g, n / 8, none⟩ (.int .u8 X)).setCell ⟨g, 512, none⟩ (.int .i64 N)).drew g (m ++ t) := by
  subst hn
  have hq : m.length / 8 < 512 := by omega
  refine ⟨by rw [List.length_append]; omega, fun j hj => ?_, ?_, fun j hj => ?_⟩
  · show ((w.setCell ⟨g, m.length / 8, none⟩ (.int .u8 X)).setCell ⟨g, 512, none⟩ (.int .i64 N)).cell? _ = _
    rw [World.cell?_setCell_other _ _ _ _ (addr_ne (by omega))]
    by_cases hj2 : j = m.length / 8
    · subst hj2
      rw [World.cell?_setCell_same _ _ _ (ho.bytes _ hj), hX]
    · rw [World.cell?_setCell_other _ _ _ _ (addr_ne (by omega)), ho.bytes j hj]
      by_cases hlt : j < m.length / 8
      · rw [M.byteN_before m t j (by omega)]
      · rw [M.byteN_behind m j (by omega), M.byteN_behind (m ++ t) j (by rw [List.length_append]; omega)]
  · show ((w.setCell ⟨g, m.length / 8, none⟩ (.int .u8 X)).setCell ⟨g, 512, none⟩ (.int .i64 N)).cell? _ = _
    have hc : (w.setCell ⟨g, m.length / 8, none⟩ (.int .u8 X)).cell? ⟨g, 512, none⟩ = some (.int .i64 m.length) := by
      rw [World.cell?_setCell_other _ _ _ _ (addr_ne (by omega))]; exact ho.count
    rw [World.cell?_setCell_same _ _ _ hc, hN, List.length_append]
  · show ((w.setCell ⟨g, m.length / 8, none⟩ (.int .u8 X)).setCell ⟨g, 512, none⟩ (.int .i64 N)).frozen? _ = _
    rw [World.frozen?_setCell, World.frozen?_setCell]; exact ho.free j hj

/-- The byte that is stored. -/
theorem put_val (m t r : List Bool) (n b x p : Nat) (hn : m.length = n) (hb : M.byteN m (8 * (n / 8)) = b) (hp : n % 8 = p) (hx : M.topN (t ++ r) = x) (h64 : t.length + r.length ≤ 64)
    (ht : p + t.length ≤ 8) (hc : r = [] ∨ p + t.length = 8) :
    bits BinOp.or IntKind.u8 (b : Int) ((x : Int) / 72057594037927936 % 256 / 2 ^ p) = ((M.byteN (m ++ t) (8 * (n / 8)) : Nat) : Int) := by
  subst hn hp
  have e : ((x : Int) / 72057594037927936 % 256 / 2 ^ (m.length % 8)) = ((x / 72057594037927936 % 256 / 2 ^ (m.length % 8) : Nat) : Int) := by simp
  have h1 : b < 256 := by rw [← hb]; exact M.byteN_lt _ _
  have h2 : x / 72057594037927936 % 256 / 2 ^ (m.length % 8) < 256 := Nat.lt_of_le_of_lt (Nat.div_le_self _ _) (by omega)
  rw [e, u8_or_nat _ _ h1 h2, M.put_byte m t ht, hb, ← hx, M.top_byte t r _ h64 ht hc]

set_option maxRecDepth 100000 in
set_option maxHeartbeats 1000000 in
theorem put_good (g : Nat) (u W : Nat) (l : List Bool) (w : World) (h1 : 1 ≤ W) (h2 : W ≤ 64) (hu : u < 2 ^ W) (ho : OutIs w g l) (hf : l.length + W ≤ 4096) :
    Calls Tryz.prog 106 #[.pointer (some ⟨g, 0, none⟩), .int .u64 u, .int .i64 W] w fun e w' => e = .returned (.bool true) ∧ OutIs w' g (l ++ M.bitsOf u W) ∧ Only g w w' := by
  have hc := ho.count
  have hl := ho.fits
  have hub : ((u : Int) / 2 ^ W != 0) = false := by
    rw [show ((u : Int) / 2 ^ W) = ((u / 2 ^ W : Nat) : Int) by simp, Nat.div_eq_of_lt hu]; rfl
  have HO := Lib.hid ho
  clear ho
  have h1I : (1 : Int) ≤ W := by omega
  have h2I : (W : Int) ≤ 64 := by omega
  go_enter Tryz.func106, Tryz.ntmps106
  go_wp2_with (go_at_call 133; refine (isWidth_yes _ _ h1I h2I).mono ?_; rintro e w' ⟨rfl, rfl⟩)
  have hts : IntKind.u64.wrap ((u : Int) * 2 ^ (64 - W)) = ((M.topN (M.bitsOf u W) : Nat) : Int) := by
    rw [IntKind.wrap_u64, ← M.top_start u W h2 hu]; simp
  rw [hts]
  clear hts hub hc hl
  go_loopw [1, 2] (fun a b wr => ∃ t r : List Bool, Hid (t ++ r = M.bitsOf u W) ∧ a = .int .u64 (M.topN r : Nat) ∧ b = .int .i64 r.length ∧ Hid (OutIs wr g (l ++ t)) ∧ Hid (Only g w wr)) (fun _ b _ => (intOf b).toNat)
  case atStart => exact ⟨[], M.bitsOf u W, rfl, rfl, by rw [M.bitsOf_length], by rw [List.append_nil]; exact HO, Only.refl _ _⟩
  case round =>
    obtain ⟨t, r, htr, rfl, rfl, hout, honly⟩ := hrel
    have hlen : t.length + r.length = W := by rw [← List.length_append, htr.out, M.bitsOf_length]
    obtain ⟨m, hm⟩ : ∃ m, l ++ t = m := ⟨_, rfl⟩
    have hml : m.length = l.length + t.length := by rw [← hm, List.length_append]
    rw [hm] at hout
    have HM := Lib.hid hm
    clear hm
    by_cases hr : 0 < r.length
    · obtain ⟨n, hn⟩ : ∃ n, m.length = n := ⟨_, rfl⟩
      have hn1 : n < 4096 := by omega
      have hcn := hout.out.count
      have hfn := hout.out.free 512 (by omega)
      have hcb := hout.out.bytes (n / 8) (by omega)
      have hfb := hout.out.free (n / 8) (by omega)
      rw [hn] at hcn
      obtain ⟨b, hb⟩ : ∃ b, M.byteN m (8 * (n / 8)) = b := ⟨_, rfl⟩
      rw [hb] at hcb
      have hb255 : b < 256 := by rw [← hb]; exact M.byteN_lt _ _
      obtain ⟨p, hp⟩ : ∃ p, n % 8 = p := ⟨_, rfl⟩
      have hand : bits BinOp.and IntKind.i64 (n : Int) 7 = (p : Int) := by rw [← hp]; exact M.and7 n (by omega)
      have hp8 : p < 8 := by omega
      obtain ⟨x, hx⟩ : ∃ x, M.topN r = x := ⟨_, rfl⟩
      rw [hx]
      obtain ⟨c, hc⟩ : ∃ c, r.length = c := ⟨_, rfl⟩
      rw [hc] at hr ⊢
      have HN := Lib.hid hn
      have HB := Lib.hid hb
      have HP := Lib.hid hp
      have HX := Lib.hid hx
      have HC := Lib.hid hc
      have HL := Lib.hid hlen
      have HML := Lib.hid hml
      have hc64 : c ≤ 64 := by omega
      clear hn hb hp hx hc hlen hml
      obtain ⟨k, hk⟩ : ∃ k, min (8 - p) c = k := ⟨_, rfl⟩
      obtain ⟨t2, r2, htr2, ht2, hr2⟩ : ∃ t2 r2 : List Bool, t2 ++ r2 = r ∧ t2.length = k ∧ r2.length + k = c :=
        ⟨r.take k, r.drop k, List.take_append_drop k r, by rw [List.length_take, HC.out]; omega, by rw [List.length_drop, HC.out]; omega⟩
      have hv := put_val m t2 r2 n b x p HN.out HB.out HP.out (by rw [htr2]; exact HX.out) (by omega) (by omega) (by
        by_cases hcc : 8 - p ≤ c
        · right; omega
        · left; exact List.length_eq_zero_iff.1 (by omega))
      have hout2 : ∀ N : Int, N = ((n + k : Nat) : Int) → OutIs ((wr.setCell ⟨g, n / 8, none⟩ (.int .u8 ((M.byteN (m ++ t2) (8 * (n / 8)) : Nat) : Int))).setCell ⟨g, 512, none⟩ (.int .i64 N)).drew g (m ++ t2) := by
        intro N hN
        have h1 := HML.out
        have h2 := HL.out
        have h3 := HN.out
        have h4 := HC.out
        exact out_step hout.out HN.out (by omega) (by have := HP.out; omega) (by omega) rfl (by rw [hN, ht2])
      have htop : IntKind.u64.wrap ((x : Int) * 2 ^ k) = ((M.topN r2 : Nat) : Int) := by
        rw [← M.top_next t2 r2 (by omega), htr2, HX.out, ht2, IntKind.wrap_u64]; simp
      have hfin : t ++ t2 ++ r2 = M.bitsOf u W := by rw [List.append_assoc, htr2]; exact htr.out
      have hmt : m ++ t2 = l ++ (t ++ t2) := by rw [← HM.out, List.append_assoc]
      have HV := Lib.hid hv
      have HO2 := Lib.hid hout2
      have HT := Lib.hid htop
      have HF := Lib.hid hfin
      have HMT := Lib.hid hmt
      have HK := Lib.hid hk
      have HR2 := Lib.hid hr2
      clear hv hout2 htop hfin hmt htr2 ht2 hk hr2
      by_cases hk : 8 - p ≤ c
      · have hkv : k = 8 - p := by have := HK.out; omega
        have HKV := Lib.hid hkv
        clear hkv
        go_wp2
        go_region
        go_wp2
        refine ⟨⟨t ++ t2, r2, HF.out, ?_, ?_, ?_, ?_⟩, ?_⟩
        · rw [← HT.out, HKV.out]
        · have := HR2.out; have := HKV.out; exact congrArg (Value.int .i64) (by omega)
        · show OutIs _ g (l ++ (t ++ t2))
          rw [← HMT.out, HV.out]
          exact HO2.out _ (by have := HKV.out; omega)
        · exact ((honly.out.setCell _ _ _).setCell _ _ _).drew
        · simp [intOf]; omega
      · have hkv : k = c := by have := HK.out; omega
        have HKV := Lib.hid hkv
        clear hkv
        go_wp2
        go_region
        go_wp2
        refine ⟨⟨t ++ t2, r2, HF.out, ?_, ?_, ?_, ?_⟩, ?_⟩
        · rw [← HT.out, HKV.out]
        · have := HR2.out; have := HKV.out; exact congrArg (Value.int .i64) (by omega)
        · show OutIs _ g (l ++ (t ++ t2))
          rw [← HMT.out, HV.out]
          exact HO2.out _ (by have := HKV.out; omega)
        · exact ((honly.out.setCell _ _ _).setCell _ _ _).drew
        · simp [intOf]; omega
    · have hr0 : r = [] := List.length_eq_zero_iff.1 (by omega)
      subst hr0
      rw [List.append_nil] at htr
      go_wp2
      go_ret
      refine ⟨rfl, ?_, honly.out⟩
      rw [← htr.out, HM.out]; exact hout.out
end Go.Proofs.YtfploeefmnbpcaaGreat

/- Package bits: Len, Bytes, Read, Left. -/
namespace Go.Proofs.YtfploeefmnbpcaaGreat
open Go.RowKit

theorem len_nil (w : World) : Calls Tryz.prog 114 #[.pointer none] w fun e w' => e = .returned (.int .i64 0) ∧ w = w' := by
  go_enter Tryz.func114, Tryz.ntmps114
  go_wp2
  go_ret
  exact ⟨rfl, rfl⟩
theorem len_any (g : Nat) (l : List Bool) (w : World) (ho : OutIs w g l) : Calls Tryz.prog 114 #[.pointer (some ⟨g, 0, none⟩)] w fun e w' => e = .returned (.int .i64 l.length) ∧ w = w' := by
  have hc := ho.count
  clear ho
  go_enter Tryz.func114, Tryz.ntmps114
  go_wp2
  go_ret
  exact ⟨rfl, rfl⟩

theorem u8s_one (l : List Nat) : ∀ x ∈ u8s l, Value.oneCell' x = true := by
  intro x hx
  obtain ⟨y, _, rfl⟩ := List.mem_map.1 hx
  rfl
theorem u8s_length (l : List Nat) : (u8s l).length = l.length := by simp [u8s]

/-- slices.Clone of bytes. -/
theorem clone_none (w : World) : Calls Tryz.prog 134 #[.slice none 0 0] w fun e w' => e = .returned (.slice none 0 0) ∧ w = w' := by
  have hn := fun w => Lib.run_eql_slice_nil (P := Tryz.prog) w 146 5 none 0 0 0 0 Tryz.underlying146
  go_enter Tryz.func134, Tryz.ntmps134
  go_wp2
  go_ret
  exact ⟨rfl, rfl⟩

set_option maxRecDepth 100000 in
set_option maxHeartbeats 400000 in
theorem clone_some (bs : List Nat) (n : Nat) (b off cap : Nat) (w : World) (hn : bs.length = n) (hl : n ≤ 1000000) (hh : Holds w (some ⟨b, off, none⟩) (u8s bs)) :
    Calls Tryz.prog 134 #[.slice (some ⟨b, off, none⟩) n cap] w fun e w' => ∃ v, e = .returned v ∧ w'.ownsRow w.heap.size 5 1 v n (u8s bs) ∧ Below w.heap.size w w' := by
  obtain ⟨i0, hi, hz0, hz1, hz2⟩ := info_parts Tryz.infoByte
  have hnil := fun w => Lib.run_eql_slice_nil (P := Tryz.prog) w 146 5 (some ⟨b, off, none⟩) n cap 0 0 Tryz.underlying146
  have hnews : ∀ j u, (u8s bs)[j]? = some u → w.cell? ((⟨b, off, none⟩ : Addr).add j) = some u := by
    intro j u hj
    obtain ⟨b', off', he, hc⟩ := hh j u hj
    injection he with he
    injection he with h1 h2
    subst h1 h2
    exact add_cell hc
  have hnews2 : ∀ j u, (u8s bs)[j]? = some u → (w.alloc (.cells #[] 5)).cell? ((⟨b, off, none⟩ : Addr).add j) = some u := fun j u hj =>
    (((Below.refl w.heap.size w).alloc (Nat.le_refl _) _).cell (World.block_lt_of_cell? w _ (hnews j u hj))).trans (hnews j u hj)
  have HN := Lib.hid hnews2
  have HL : Hid ((u8s bs).length = n * 1) := by show _ = _; rw [u8s_length, hn, Nat.mul_one]
  have HC3 : Hid (0 + n ≤ maxLen) := by unfold maxLen; show _ ≤ _; omega
  have hmade := World.ownsRow_made (e := 5) (size := 1) (base := w.heap.size) w #[] 0 (Nat.le_refl _) (Nat.zero_le _) rfl
  have hle : w.heap.size ≤ (w.alloc (.cells #[] 5)).heap.size := by simp
  have HLE := Lib.hid hle
  clear hnews hnews2 hh hn hle
  go_enter Tryz.func134, Tryz.ntmps134
  go_wp2_with (at_builtin; refine wpList_append_own _ rfl _ _ 146 rfl w.heap.size 5 i0 (.int .u8 0) 1 1 Tryz.underlying146 hi hz0 hz1 hz2 rfl (by decide) _ _ _ rfl hmade ⟨b, off, none⟩ n cap _ rfl HL.out HN.out (u8s_one _) HC3.out (by omega) HLE.out ?_)
  intro v' w' hown' hgrow _
  have hown2 : w'.ownsRow w.heap.size 5 1 v' n (u8s bs) := hown'
  have hbl : Below w.heap.size w w' := below_grown ((Below.refl _ _).alloc (Nat.le_refl _) _) HLE.out hmade hgrow
  clear hown' hgrow hmade
  go_wp2
  go_ret
  exact ⟨_, rfl, hown2, hbl⟩

/-- A slice that came in: nil, or it leads to bytes. -/
theorem clone_any (bs : List Nat) (n : Nat) (a : Option Addr) (cap : Nat) (w : World) (hn : bs.length = n) (hl : n ≤ 1000000) (hh : (a = none ∧ n = 0 ∧ cap = 0) ∨ ∃ b off, a = some ⟨b, off, none⟩ ∧ Holds w a (u8s bs)) :
    Calls Tryz.prog 134 #[.slice a n cap] w fun e w' => ∃ v, e = .returned v ∧ w'.ownsRow w.heap.size 5 1 v n (u8s bs) ∧ Below w.heap.size w w' := by
  rcases hh with ⟨rfl, rfl, rfl⟩ | ⟨b, off, rfl, hh⟩
  · refine (clone_none w).mono ?_
    rintro e w' ⟨rfl, rfl⟩
    have : bs = [] := List.length_eq_zero_iff.1 hn
    subst this
    exact ⟨_, rfl, World.ownsRow_nil _ _ _ _, Below.refl _ _⟩
  · exact clone_some bs n b off cap w hn hl hh

theorem bytes_nil (w : World) : Calls Tryz.prog 109 #[.pointer none] w fun e w' => e = .returned (.slice none 0 0) ∧ w = w' := by
  go_enter Tryz.func109, Tryz.ntmps109
  go_wp2
  go_ret
  exact ⟨rfl, rfl⟩

theorem holds_out {w : World} {g n : Nat} {l : List Bool} (ho : OutIs w g l) (hn : n ≤ 512) : Holds w (some ⟨g, 0, none⟩) (u8s (M.bytesN l n)) := by
  intro i x hx
  have hi : i < n := by
    rcases Nat.lt_or_ge i n with h | h
    · exact h
    · rw [List.getElem?_eq_none (by rw [u8s_length, M.bytesN_length]; exact h)] at hx; cases hx
  refine ⟨g, 0, rfl, ?_⟩
  rw [Nat.zero_add, ho.bytes i (by omega), ← hx]
  unfold u8s M.bytesN
  simp [List.getElem?_range hi]

set_option maxHeartbeats 400000 in
theorem bytes_any (g : Nat) (l : List Bool) (n : Nat) (w : World) (ho : OutIs w g l) (hn : (l.length + 7) / 8 = n) :
    Calls Tryz.prog 109 #[.pointer (some ⟨g, 0, none⟩)] w fun e w' => ∃ v, e = .returned v ∧ w'.ownsRow w.heap.size 5 1 v n (u8s (M.bytesN l n)) ∧ Below w.heap.size w w' := by
  have hc := ho.count
  have hl := ho.fits
  have HO := Lib.hid ho
  have hn2 : ((l.length : Int) + 7) / 8 = (n : Int) := by omega
  have hn5 : n ≤ 512 := by omega
  have hnI : (n : Int) ≤ 512 := by omega
  have hw : IntKind.i64.wrap ((l.length : Int) + 7) = (l.length : Int) + 7 := IntWalk.i64_in _ (by omega)
  clear ho hn
  go_enter Tryz.func109, Tryz.ntmps109
  go_wp2
  go_region_with (go_at_call 134; refine (clone_some (M.bytesN l n) n g 0 _ _ (M.bytesN_length _ _) (by omega) (by exact fun i x hx => holds_out HO.out hn5 i x hx)).mono ?_; rintro e w' ⟨v, rfl, hown, hbl⟩)
  go_wp2
  go_ret
  exact ⟨_, rfl, hown, (Below.refl _ _).drew.trans hbl⟩

/-- Block g is an In over the bytes bs, of which so many bits are read. -/
structure InIs (w : World) (g : Nat) (bs : List Nat) (pos : Nat) : Prop where
  row : ∃ a cap, w.cell? ⟨g, 0, none⟩ = some (.slice a bs.length cap) ∧ Holds w a (u8s bs) ∧ ∀ b off, a = some ⟨b, off, none⟩ → b ≠ g
  small : ∀ x ∈ bs, x < 256
  size : bs.length ≤ 1000000
  place : w.cell? ⟨g, 1, none⟩ = some (.int .i64 pos)
  free : w.frozen? ⟨g, 1, none⟩ = false
  fits : pos ≤ 8 * bs.length

theorem holds_alloc {w : World} {a : Option Addr} {l : List Value} (h : Holds w a l) (o : Obj) : Holds (w.alloc o) a l :=
  h.below ((Below.refl _ _).alloc (Nat.le_refl _) o)

set_option maxHeartbeats 400000 in
theorem read_any (bs : List Nat) (n : Nat) (a : Option Addr) (cap : Nat) (w : World) (hn : bs.length = n) (hl : n ≤ 1000000) (h8 : ∀ x ∈ bs, x < 256)
    (hh : (a = none ∧ n = 0 ∧ cap = 0) ∨ ∃ b off, a = some ⟨b, off, none⟩ ∧ Holds w a (u8s bs)) :
    Calls Tryz.prog 107 #[.slice a n cap] w fun e w' => ∃ g, e = .returned (.pointer (some ⟨g, 0, none⟩)) ∧ w.heap.size ≤ g ∧ InIs w' g bs 0 ∧ Below w.heap.size w w' := by
  have HH := Lib.hid hh
  have H8 := Lib.hid h8
  clear hh h8
  go_enter Tryz.func107, Tryz.ntmps107
  go_wp2_with fail
  refine (clone_any bs n a cap _ hn hl HH.out).mono ?_
  rintro e w1 ⟨v, rfl, hown, hbl⟩
  obtain ⟨a1, cap1, rfl, hle, hhold⟩ := reads_of_own hown
  rw [u8s_length, hn] at hle
  rw [u8s_length, hn]
  go_wp2
  go_ret
  refine ⟨w1.heap.size, rfl, hbl.size, ⟨⟨a1, cap1, ?_, holds_alloc hhold _, ?_⟩, H8.out, by omega, ?_, ?_, Nat.zero_le _⟩, hbl.alloc hbl.size _⟩
  · rw [World.cell?_alloc_at _ _ _ _ rfl, hn]; rfl
  · intro b off hb
    have := (hown.lt b (by rw [hb]; rfl)).2
    omega
  · rw [World.cell?_alloc_at _ _ _ _ rfl]; rfl
  · exact World.frozen?_alloc_at _ _ _ _ rfl

theorem left_nil (w : World) : Calls Tryz.prog 115 #[.pointer none] w fun e w' => e = .returned (.int .i64 0) ∧ w = w' := by
  go_enter Tryz.func115, Tryz.ntmps115
  go_wp2
  go_ret
  exact ⟨rfl, rfl⟩

set_option maxHeartbeats 400000 in
theorem left_any (g : Nat) (bs : List Nat) (pos : Nat) (w : World) (hi : InIs w g bs pos) :
    Calls Tryz.prog 115 #[.pointer (some ⟨g, 0, none⟩)] w fun e w' => e = .returned (.int .i64 (8 * (bs.length : Int) - pos)) ∧ ∃ n, w' = w.drewN n := by
  obtain ⟨⟨a, cap, hc0, _, _⟩, _, hsz, hc1, _, hf⟩ := hi
  have hw1 : IntKind.i64.wrap (8 * (bs.length : Int)) = 8 * (bs.length : Int) := IntWalk.i64_in _ (by omega)
  have hw2 : IntKind.i64.wrap (8 * (bs.length : Int) - pos) = 8 * (bs.length : Int) - pos := IntWalk.i64_in _ (by omega)
  go_enter Tryz.func115, Tryz.ntmps115
  go_wp2
  go_quiet (fail)
  go_wp2
  go_ret
  exact ⟨rfl, _, rfl⟩
end Go.Proofs.YtfploeefmnbpcaaGreat
