import Derived.Test.YtfploeefmnbpcaaGreatG11
import Derived.Test.YtfploeefmnbpcaaGreatGLawGSmall
import Derived.Test.YtfploeefmnbpcaaGreatG14
import Derived.Test.YtfploeefmnbpcaaGreatG06
import Derived.Test.YtfploeefmnbpcaaGreatG09
import Derived.Deep.QuietTactic
import Derived.Deep.DeepCutAuto
/- The law FaultPlan: what lies in memory. -/
namespace Go.Proofs.YtfploeefmnbpcaaGreat
open Go.RowKit Mp
set_option linter.unusedSimpArgs false
namespace FQ
theorem info : (Tryz.prog.info? 44).map (fun i => (i.zero, i.size, i.bytes)) = some (some (.agg #[.int .i64 0, .int .i64 0, .int .i64 0, .int .i64 0, .int .i64 0, .int .i64 0, .int .i64 0]), 7, 56) := by kernel_rfl
theorem size_F : ∀ W : World, (sizeOf 44).run Tryz.prog W = .ok 7 W := fun W => by kernel_rfl
theorem agg_F : ∀ W : World, (isAgg 44).run Tryz.prog W = .ok true W := fun W => by kernel_rfl
theorem flat_F (f : FtM) : ∀ u ∈ cellsFau f, u.oneCell' = true := by
  intro u hu
  simp only [cellsFau, List.mem_cons, List.not_mem_nil, or_false] at hu
  rcases hu with rfl | rfl | rfl | rfl | rfl | rfl | rfl <;> rfl
theorem flat_one (l : List FtM) : ∀ u ∈ l.flatMap cellsFau, Value.oneCell' u = true := fun u hu => by
  obtain ⟨f, _, hf⟩ := List.mem_flatMap.1 hu
  exact flat_F f u hf
theorem eqF (a : FtM) (w : World) : (Op.equalIn 10000 44 (encF a) (encF a)).run Tryz.prog w = .ok true w := by
  obtain ⟨x1, x2, x3, x4, x5, x6, x7⟩ := a
  have u3 := Tryz.underlying3
  have a3 := Tryz.isAgg3
  have z3 := Tryz.sizeOf3
  have u4 := Tryz.underlying32
  have a4 := Tryz.isAgg32
  have z4 := Tryz.sizeOf32
  have hS : Tryz.prog.underlying 44 = some (.struct (Tryz.prog.fieldsOf 44)) := by kernel_rfl
  have hp : Tryz.prog.stoodInHeld 44 = false := by kernel_rfl
  have hS4 : Tryz.prog.underlying 32 = some (.struct (Tryz.prog.fieldsOf 32)) := by kernel_rfl
  have hp4 : Tryz.prog.stoodInHeld 32 = false := by kernel_rfl
  rw [show (10000 : Nat) = 9999 + 1 from rfl, run_equalIn_struct w 9999 44 _ _ hS hp]
  simp only [Program.fieldsOf, Tryz.underlying44]
  go_simp
/-- What lies at the head of a row of one's own. -/
theorem own_head {w : World} {B n s q : Nat} {e : TypeId} {v : Value} {xs : List Value} (h : w.ownsRow B e s v n xs) (hq : v.ownBlock = some q) {x : Value} (hx : xs[0]? = some x) : w.cell? ⟨q, 0, none⟩ = some x := by
  rcases h.2 with ⟨rfl, _⟩ | ⟨g, cap, cur, rfl, _, hg, _, _, _, ht⟩
  · cases hq
  · cases hq
    rw [← ht, List.getElem?_take] at hx
    split at hx
    · simp [World.cell?, hg]
      simpa using hx
    · cases hx
theorem guard_F : Tryz.prog.eqGuardType Tryz.prog.depth 44 = false := by kernel_rfl
/-- A fault is the same as itself. -/
theorem exec_neqF (ρ : Operand → Value) (o : Oper) (x y : Operand) (g : TypeId) (hop : o.op = Op.binOp .neq 44 x y g) (f : FtM) (hx : ρ x = encF f) (hy : ρ y = encF f) (w : World) :
    (execOp ρ o).run Tryz.prog w = .ok (.value (.bool false)) w := by
  have h := eqF f w
  simp only [execOp, hop, hx, hy, Sem.run_bind, run_eqGuard_agg _ _ _ _ _ _ _ guard_F, binOp, Op.equal, Op.maxDepth, h, Result.andThen_ok, Sem.run_pure, Bool.not_true]
theorem own_is {W : World} {B : Nat} {v : Value} {es : List FtM} (h : W.ownsRow B 44 7 v es.length (es.flatMap cellsFau)) : ∃ a cap, v = .slice a es.length cap ∧ es.length ≤ cap ∧ cap ≤ 9223372036854775807 ∧ FaultsIs W a es := by
  rcases h.2 with ⟨rfl, hz⟩ | ⟨g, cap, cur, rfl, _, hg, hle, hmx, hcs, htk⟩
  · exact ⟨none, 0, by rw [hz], by omega, by omega, fun i f hi => by
      have : es = [] := List.length_eq_zero_iff.1 hz
      subst this; simp at hi⟩
  · refine ⟨some ⟨g, 0, none⟩, cap, rfl, hle, by unfold maxLen at hmx; omega, fun i f hi => ⟨g, 0, rfl, fun j u hj => ?_⟩⟩
    have h7 : j < 7 := by have := (List.getElem?_eq_some_iff.1 hj).1; simpa [cellsFau] using this
    have hil : i < es.length := (List.getElem?_eq_some_iff.1 hi).1
    have e := flat_at es i f j hi h7
    rw [hj, ← htk, List.getElem?_take] at e
    rw [if_pos (by omega)] at e
    rw [Nat.zero_add]
    simp [World.cell?, hg]
    simpa using e
/-- Rows whose first faults are of unlike times lie apart. -/
theorem apart {w : World} {B B' : Nat} {v v' : Value} {l l' : List FtM} (h : w.ownsRow B 44 7 v l.length (l.flatMap cellsFau)) (h' : w.ownsRow B' 44 7 v' l'.length (l'.flatMap cellsFau)) (ops : Int)
    (h1 : ∀ f ∈ l, f.at' ≤ ops) (h2 : ∀ f ∈ l', ops < f.at') (hv : l = [] → v = .slice none 0 0) (hv' : l' = [] → v' = .slice none 0 0) : v.ownBlock = none ∨ v.ownBlock ≠ v'.ownBlock := by
  cases l with
  | nil => rw [hv rfl]; exact .inl rfl
  | cons a l =>
    cases l' with
    | nil =>
      rw [hv' rfl]
      cases hq : v.ownBlock with
      | none => exact .inl rfl
      | some q => exact .inr (by simp [Value.ownBlock])
    | cons b l' =>
      cases hq : v.ownBlock with
      | none => exact .inl rfl
      | some q =>
        refine .inr fun e => ?_
        have c1 := own_head h hq (x := .int .i64 a.at') rfl
        have c2 := own_head h' e.symm (x := .int .i64 b.at') rfl
        rw [c1] at c2
        have h3 := h1 a (by simp)
        have h4 := h2 b (by simp)
        simp only [Option.some.injEq, Value.int.injEq, true_and] at c2
        omega
def upto (d b p : Int) (l : List FtM) (k : Nat) : List FtM := (l.take k).filter (mayF d b p)
theorem upto_yes {d b p : Int} {l : List FtM} {k : Nat} {f : FtM} (h : l[k]? = some f) (hm : mayF d b p f = true) : upto d b p l (k + 1) = upto d b p l k ++ [f] := by
  unfold upto; rw [FP.take_snoc h, List.filter_append, List.filter_cons_of_pos hm, List.filter_nil]
theorem upto_no {d b p : Int} {l : List FtM} {k : Nat} {f : FtM} (h : l[k]? = some f) (hm : mayF d b p f = false) : upto d b p l (k + 1) = upto d b p l k := by
  unfold upto; rw [FP.take_snoc h, List.filter_append, List.filter_cons_of_neg (by simp [hm]), List.filter_nil, List.append_nil]
theorem upto_len (d b p : Int) (l : List FtM) (k : Nat) : (upto d b p l k).length ≤ k := by
  unfold upto
  have h1 := List.length_filter_le (mayF d b p) (l.take k)
  have h2 : (l.take k).length ≤ k := by rw [List.length_take]; omega
  omega
theorem upto_all (d b p : Int) (l : List FtM) (k : Nat) (h : l.length = k) : upto d b p l k = l.filter (mayF d b p) := by unfold upto; rw [← h, List.take_length]
theorem new_cells (W : World) (f : FtM) (t : TypeId) : ∀ j u, (cellsFau f)[j]? = some u → (W.alloc (.cells (cellsFau f).toArray t)).cell? ((⟨W.heap.size, 0, none⟩ : Addr).add j) = some u := fun j u hu => by
  have e : (⟨W.heap.size, 0, none⟩ : Addr).add j = ⟨W.heap.size, j, none⟩ := by
    simp only [Addr.add, Nat.zero_add]
    split <;> simp_all
  rw [e]; exact (Row.new W t (cellsFau f)).cell hu
/-- Around: the plan, what is left; B: the measure's block. -/
structure Out (Is : PlanT) (w wr : World) (B gp : Nat) (d b p : Int) (v : Value) (L : List FtM) (F : Nat → Prop) : Prop where
  geo : Row wr B 25 [.int .i64 d, .int .i64 b, .int .i64 p]
  plan : Is wr gp L F
  own : wr.ownsRow (B + 1) 44 7 v L.length (L.flatMap cellsFau)
  off : ∀ q, v.ownBlock = some q → ¬ F q
  fB : ∀ k, F k → B < k
  bel : Below B w wr
  len : L.length ≤ 20
/-- The first loop: left is built, the plan stays. -/
structure One (Is : PlanT) (w wr : World) (B Bp gp : Nat) (d b p : Int) (v : Value) (L LP : List FtM) (F : Nat → Prop) : Prop where
  geo : Row wr B 25 [.int .i64 d, .int .i64 b, .int .i64 p]
  plan : Is wr gp LP F
  own : wr.ownsRow Bp 44 7 v L.length (L.flatMap cellsFau)
  fp : ∀ k, F k → B < k ∧ k < Bp
  bel : Below B w wr
  bp : B < Bp ∧ Bp ≤ wr.heap.size
section
variable {IsN : IsT} {Is : PlanT} {w wr wr' : World} {B Bp gp : Nat} {d b p : Int} {v v' : Value} {L LP : List FtM} {F : Nat → Prop}
theorem One.below (P : PlanC IsN Is) (h : One Is w wr B Bp gp d b p v L LP F) (hb : Below wr.heap.size wr wr') : One Is w wr' B Bp gp d b p v L LP F :=
  ⟨h.geo.below hb (Nat.le_refl _), P.keep h.plan fun k hk => hb.block k (P.lt h.plan k hk), ownsRow_same h.own hb.size fun g hg => hb.block g (h.own.lt g hg).2, h.fp, h.bel.trans (hb.mono (by have := h.bp; omega)), ⟨h.bp.1, Nat.le_trans h.bp.2 hb.size⟩⟩
theorem One.push (P : PlanC IsN Is) (h : One Is w wr B Bp gp d b p v L LP F) {f : FtM} (hg : wr.grownBy wr' v.ownBlock) (ho : wr'.ownsRow Bp 44 7 v' (L.length + 1) (L.flatMap cellsFau ++ cellsFau f)) : One Is w wr' B Bp gp d b p v' (L ++ [f]) LP F := by
  have hb : Below Bp wr wr' := (Below.refl _ _).grown hg h.bp.2 fun q hq => (h.own.lt q hq).1
  refine ⟨h.geo.of_block (hb.block B h.bp.1), P.keep h.plan fun k hk => hb.block k (h.fp k hk).2, ?_, h.fp, h.bel.trans ⟨hb.os, hb.tape, hb.output, hb.size, fun k hk => hb.block k (by have := h.bp.1; omega)⟩, ⟨h.bp.1, Nat.le_trans h.bp.2 hb.size⟩⟩
  rw [List.length_append, List.flatMap_append]
  simpa using ho
theorem One.out (h : One Is w wr B Bp gp d b p v L L F) (hl : L.length ≤ 20) : Out Is w wr B gp d b p v L F :=
  ⟨h.geo, h.plan, own_lower h.own (by have := h.bp.1; omega), fun q hq hF => by have := (h.own.lt q hq).1; have := (h.fp q hF).2; omega, fun k hk => (h.fp k hk).1, h.bel, hl⟩
theorem Out.below (P : PlanC IsN Is) (h : Out Is w wr B gp d b p v L F) (hb : Below wr.heap.size wr wr') : Out Is w wr' B gp d b p v L F :=
  ⟨h.geo.below hb (Nat.le_refl _), P.keep h.plan fun k hk => hb.block k (P.lt h.plan k hk), ownsRow_same h.own hb.size fun g hg => hb.block g (h.own.lt g hg).2, h.off, h.fB, h.bel.trans (hb.mono (by have := h.geo.lt; omega)), h.len⟩
/-- Due has been asked. -/
structure Mid (Is : PlanT) (w wr : World) (B gp : Nat) (d b p : Int) (v : Value) (L : List FtM) (ops : Int) (ag : Option Addr) (F : Nat → Prop) : Prop where
  geo : Row wr B 25 [.int .i64 d, .int .i64 b, .int .i64 p]
  plan : Is wr gp (restL L ops) F
  own : wr.ownsRow (B + 1) 44 7 v L.length (L.flatMap cellsFau)
  got : FaultsIs wr ag (dueL L ops)
  fB : ∀ k, F k → B < k
  bel : Below B w wr
  len : L.length ≤ 20
theorem Out.due (P : PlanC IsN Is) (h : Out Is w wr B gp d b p v L F) (ops : Int) : Calls Tryz.prog 35 #[nptr gp, .int .i64 ops] wr fun e w' => ∃ a cap F', e = .returned (.slice a (dueL L ops).length cap) ∧ (dueL L ops).length ≤ cap ∧ cap ≤ maxLen ∧ Mid Is w w' B gp d b p v L ops a F' := by
  refine (P.due ops h.plan (by have := h.len; omega)).mono ?_
  rintro e w' ⟨a, cap, F', he, h1, h2, h3, h4, h5, h6, h7⟩
  refine ⟨a, cap, F', he, h1, h2, ⟨h.geo.of_block (h6.block B h.geo.lt fun hF => by have := h.fB B hF; omega), h5, ownsRow_same h.own h6.size fun g hg => h6.block g (h.own.lt g hg).2 (h.off g hg), h3, fun k hk => ?_, ?_, h.len⟩⟩
  · rcases h7 k hk with h8 | h8
    · exact h.fB k h8
    · have := h.geo.lt; omega
  · exact h.bel.trans ⟨h6.os, h6.tape, h6.output, h6.size, fun k hk => h6.block k (by have := h.geo.lt; omega) fun hF => by have := h.fB k hF; omega⟩
/-- The inner loop: what is due of the first k, what stays of them: both behind all that was there. -/
structure In (w1 wr : World) (v13 v14 : Value) (L : List FtM) (ops : Int) (k : Nat) : Prop where
  want : wr.ownsRow w1.heap.size 44 7 v13 (FP.dueK L ops k).length ((FP.dueK L ops k).flatMap cellsFau)
  rest : wr.ownsRow w1.heap.size 44 7 v14 (FP.restK L ops k).length ((FP.restK L ops k).flatMap cellsFau)
  bel : Below w1.heap.size w1 wr
  w0 : FP.dueK L ops k = [] → v13 = .slice none 0 0
  r0 : FP.restK L ops k = [] → v14 = .slice none 0 0
end
theorem mem_ins {l : List FtM} {f x : FtM} (h : x ∈ insF l f) : x = f ∨ x ∈ l := by
  unfold insF at h
  rcases List.mem_append.1 h with h | h
  · exact .inr ((List.takeWhile_sublist _).subset h)
  · rcases List.mem_cons.1 h with h | h
    · exact .inl h
    · exact .inr ((List.dropWhile_sublist _).subset h)
theorem mem_fold {R : FtM → Prop} : ∀ (q s : List FtM), (∀ x ∈ s, R x) → (∀ x ∈ q, R x) → ∀ x ∈ q.foldl insF s, R x
  | [], _, h, _ => h
  | f :: q, s, h, hq => mem_fold q (insF s f) (fun x hx => by
    rcases mem_ins hx with rfl | hx
    · exact hq _ (by simp)
    · exact h x hx) fun x hx => hq x (by simp [hx])
theorem due_low (l : List FtM) (ops : Int) (k : Nat) : ∀ f ∈ FP.dueK l ops k, f.at' ≤ ops := by
  unfold FP.dueK dueL
  exact mem_fold _ _ (fun _ h => by cases h) fun x hx => by have := (List.mem_filter.1 hx).2; simpa using this
theorem rest_high (l : List FtM) (ops : Int) (k : Nat) : ∀ f ∈ FP.restK l ops k, ops < f.at' := by
  unfold FP.restK restL
  exact fun x hx => by have := (List.mem_filter.1 hx).2; simpa using this
theorem own_faults {W : World} {B cap n : Nat} {a : Option Addr} {es : List FtM} (h : W.ownsRow B 44 7 (.slice a n cap) es.length (es.flatMap cellsFau)) : FaultsIs W a es := by
  obtain ⟨a', cap', hv, _, _, h4⟩ := own_is h
  cases hv
  exact h4
section
variable {w1 wr wr' : World} {v13 v14 v' : Value} {L : List FtM} {ops : Int} {k : Nat}
theorem In.start (w1 : World) (L : List FtM) (ops : Int) : In w1 w1 (.slice none 0 0) (.slice none 0 0) L ops 0 := by
  refine ⟨?_, ?_, Below.refl _ _, fun _ => rfl, fun _ => rfl⟩
  · rw [FP.dueK_zero]; exact World.ownsRow_nil _ _ _ _
  · rw [FP.restK_zero]; exact World.ownsRow_nil _ _ _ _
theorem In.below (h : In w1 wr v13 v14 L ops k) (hb : Below wr.heap.size wr wr') : In w1 wr' v13 v14 L ops k :=
  ⟨ownsRow_same h.want hb.size fun g hg => hb.block g (h.want.lt g hg).2, ownsRow_same h.rest hb.size fun g hg => hb.block g (h.rest.lt g hg).2, h.bel.trans (hb.mono h.bel.size), h.w0, h.r0⟩
theorem In.pushRest (h : In w1 wr v13 v14 L ops k) {f : FtM} (hf : L[k]? = some f) (ho : ops < f.at') (hg : wr.grownBy wr' v14.ownBlock) (hr : wr'.ownsRow w1.heap.size 44 7 v' ((FP.restK L ops k).length + 1) ((FP.restK L ops k).flatMap cellsFau ++ cellsFau f)) : In w1 wr' v13 v' L ops (k + 1) := by
  have ha := apart h.want h.rest ops (due_low L ops k) (rest_high L ops k) h.w0 h.r0
  have hb : Below w1.heap.size wr wr' := (Below.refl _ _).grown hg h.bel.size fun q hq => (h.rest.lt q hq).1
  refine ⟨?_, ?_, h.bel.trans hb, ?_, ?_⟩
  · rw [FP.dueK_no hf ho]; exact h.want.kept hg ha
  · rw [FP.restK_yes hf ho, List.length_append, List.flatMap_append]
    simpa using hr
  · rw [FP.dueK_no hf ho]; exact h.w0
  · rw [FP.restK_yes hf ho]; intro e; simp at e
theorem In.pushWant (h : In w1 wr v13 v14 L ops k) {f : FtM} {r : Nat} (hf : L[k]? = some f) (ho : f.at' ≤ ops) (hs : FP.Spot (FP.dueK L ops k) f r) (hb : Below wr.heap.size wr wr')
    (hr : wr'.ownsRow wr.heap.size 44 7 v' ((FP.dueK L ops k).length + 1) (((FP.dueK L ops k).flatMap cellsFau).take (r * 7) ++ cellsFau f ++ ((FP.dueK L ops k).flatMap cellsFau).drop (r * 7))) : In w1 wr' v' v14 L ops (k + 1) := by
  have e := FP.insF_spot (FP.dueK_sorted L ops k) hs
  refine ⟨?_, ?_, h.bel.trans (hb.mono h.bel.size), ?_, ?_⟩
  · rw [FP.dueK_yes hf ho, FP.insF_len, e, List.flatMap_append, List.flatMap_cons, FP.flat_take, FP.flat_drop, ← List.append_assoc]
    exact own_lower hr h.bel.size
  · rw [FP.restK_no hf ho]
    exact ownsRow_same h.rest hb.size fun g hg => hb.block g (h.rest.lt g hg).2
  · rw [FP.dueK_yes hf ho]
    intro e2
    have := congrArg List.length e2
    rw [FP.insF_len] at this
    simp at this
  · rw [FP.restK_no hf ho]; exact h.r0
end
/-- The inner loop is done: the plan, what is left. -/
theorem Mid.done {IsN : IsT} {Is : PlanT} {w : World} {B gp : Nat} {d b p : Int} {v : Value} {L : List FtM} {ops : Int} {ag : Option Addr} {F : Nat → Prop} {w6 wr : World} {v13 v14 : Value} (P : PlanC IsN Is) (h : Mid Is w w6 B gp d b p v L ops ag F) (hi : In w6 wr v13 v14 L ops L.length) :
    Out Is w wr B gp d b p v14 (restL L ops) F ∧ FaultsIs wr ag (dueL L ops) ∧ wr.ownsRow (B + 1) 44 7 v13 (dueL L ops).length ((dueL L ops).flatMap cellsFau) := by
  have hg := h.geo.lt
  have hlen : (restL L ops).length ≤ 20 := by
    have := List.length_filter_le (fun f : FtM => decide (ops < f.at')) L
    have := h.len
    unfold restL
    omega
  have hr := hi.rest
  have hw := hi.want
  rw [FP.restK_all] at hr
  rw [FP.dueK_all] at hw
  exact ⟨⟨h.geo.below hi.bel (Nat.le_refl _), P.keep h.plan fun k hk => hi.bel.block k (P.lt h.plan k hk), own_lower hr (by omega), fun q hq hF => by have := (hr.lt q hq).1; have := P.lt h.plan q hF; omega, h.fB, h.bel.trans (hi.bel.mono (by omega)), hlen⟩, h.got.below hi.bel, own_lower hw (by omega)⟩
/-- A row, cut at k. -/
structure CutAt (x : World) (ty : TypeId) (s : Nat) (xs : List Value) (n k : Nat) (oa : Option Addr) (cap : Nat) (oc : Option Addr) (m c : Nat) : Prop where
  nk : k + m = n
  le : n ≤ cap
  max : cap ≤ 9223372036854775807
  lo : ∀ W : World, (Instr.slice ty (.slice oa n cap) none (some (.int .i64 (k : Int))) none).run Tryz.prog W = .ok (.slice oa k cap) W
  hi : ∀ W : World, (Instr.slice ty (.slice oa n cap) (some (.int .i64 (k : Int))) none none).run Tryz.prog W = .ok (.slice oc m c) W
  loN : oa = none → k = 0 ∧ cap = 0
  hiN : oc = none → m = 0 ∧ c = 0
  loC : ∀ ad, oa = some ad → ad.block < x.heap.size ∧ ∀ j u, (xs.take (k * s))[j]? = some u → x.cell? (ad.add j) = some u
  hiC : ∀ ad, oc = some ad → ad.block < x.heap.size ∧ ∀ j u, (xs.drop (k * s))[j]? = some u → x.cell? (ad.add j) = some u
theorem cut_at {x : World} {B n s : Nat} {e ty : TypeId} {oa : Option Addr} {cap : Nat} {xs : List Value} (h : x.ownsRow B e s (.slice oa n cap) n xs) (k : Nat) (hk : k ≤ n) (hu : Tryz.prog.underlying ty = some (.slice e)) (hz : ∀ W : World, (sizeOf e).run Tryz.prog W = .ok s W) :
    ∃ oc m c, CutAt x ty s xs n k oa cap oc m c := by
  have hlen := h.1
  have hel : Tryz.prog.underlying ty = some (.slice (Tryz.prog.elem ty)) := by
    have : Tryz.prog.elem ty = e := by simp [Program.elem, hu]
    rw [this]; exact hu
  have hz' : ∀ W : World, (sizeOf (Tryz.prog.elem ty)).run Tryz.prog W = .ok s W := by
    have : Tryz.prog.elem ty = e := by simp [Program.elem, hu]
    rw [this]; exact hz
  rcases h.2 with ⟨e1, h0⟩ | ⟨G, cap', cur, e1, _, hg, hn, hm, hcs, htk⟩
  · obtain ⟨rfl, h2, rfl⟩ := Value.slice.inj e1
    clear e1
    obtain rfl : n = 0 := h0
    obtain rfl : k = 0 := by omega
    refine ⟨none, 0, 0, by omega, by omega, by omega, fun W => ?_, fun W => ?_, fun _ => ⟨rfl, rfl⟩, fun _ => ⟨rfl, rfl⟩, fun _ e => (by cases e), fun _ e => (by cases e)⟩
    · rw [run_slice_h W ty none 0 0 hel .i64 ((0 : Nat) : Int) (by omega) (by omega), hz']; rfl
    · rw [run_slice_l W ty none 0 0 hel .i64 ((0 : Nat) : Int) (by omega) (by omega), hz']; rfl
  · obtain ⟨rfl, _, rfl⟩ := Value.slice.inj e1
    clear e1
    have hlt := (Array.getElem?_eq_some_iff.1 hg).1
    have hadd : ∀ j, (⟨G, 0, none⟩ : Addr).add j = ⟨G, j, none⟩ := fun j => by unfold Addr.add; split <;> simp_all
    have hat := h.cells (g := G) rfl
    refine ⟨some (if cap = k then ⟨G, 0, none⟩ else ⟨G, k * s, none⟩), n - k, cap - k, by omega, hn, by unfold maxLen at hm; omega, fun W => ?_, fun W => ?_, fun e => (by cases e), fun e => (by cases e), fun ad e => ?_, fun ad e => ?_⟩
    · rw [run_slice_h W ty _ n cap hel .i64 (k : Int) (by omega) (by omega), hz']
      simp [Result.andThen, sliced, hadd]
    · rw [run_slice_l W ty _ n cap hel .i64 (k : Int) (by omega) (by omega), hz']
      simp [Result.andThen, sliced, hadd]
      split <;> rfl
    · cases e
      refine ⟨hlt, fun j u hu => hat j u ?_⟩
      rw [List.getElem?_take] at hu
      split at hu
      · exact hu
      · cases hu
    · cases e
      by_cases hck : cap = k
      · obtain rfl : k = n := by omega
        rw [if_pos hck]
        refine ⟨hlt, fun j u hu => ?_⟩
        rw [List.drop_eq_nil_of_le (by omega)] at hu
        cases hu
      · rw [if_neg hck]
        refine ⟨hlt, fun j u hu => ?_⟩
        rw [List.getElem?_drop] at hu
        have h3 := hat _ u hu
        rw [hadd] at h3
        have e2 : (⟨G, k * s, none⟩ : Addr).add j = ⟨G, k * s + j, none⟩ := by
          have : (⟨G, k * s, none⟩ : Addr) = (⟨G, 0, none⟩ : Addr).add (k * s) := (hadd _).symm
          unfold Addr.add
          split
          · simp
          · simp
        rw [e2]
        exact h3
section
variable {x x' : World} {ty : TypeId} {s : Nat} {xs : List Value} {n k : Nat} {oa : Option Addr} {cap : Nat} {oc : Option Addr} {m c : Nat}
theorem CutAt.low (h : CutAt x ty s xs n k oa cap oc m c) (hb : Below x.heap.size x x') : ∀ ad, oa = some ad → ∀ j u, (xs.take (k * s))[j]? = some u → x'.cell? (ad.add j) = some u := fun ad e j u hu =>
  (hb.cell (p := ad.add j) (by rw [show (ad.add j).block = ad.block by unfold Addr.add; split <;> rfl]; exact (h.loC ad e).1)).trans ((h.loC ad e).2 j u hu)
theorem CutAt.high (h : CutAt x ty s xs n k oa cap oc m c) (hb : Below x.heap.size x x') : ∀ ad, oc = some ad → ∀ j u, (xs.drop (k * s))[j]? = some u → x'.cell? (ad.add j) = some u := fun ad e j u hu =>
  (hb.cell (p := ad.add j) (by rw [show (ad.add j).block = ad.block by unfold Addr.add; split <;> rfl]; exact (h.hiC ad e).1)).trans ((h.hiC ad e).2 j u hu)
end
end FQ
end Go.Proofs.YtfploeefmnbpcaaGreat
