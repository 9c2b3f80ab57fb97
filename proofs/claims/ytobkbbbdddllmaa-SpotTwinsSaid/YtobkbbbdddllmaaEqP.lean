/- Pages held against one another by ==. -/
import Derived.Test.YtobkbbbdddllmaaArgP
import Derived.Test.YtobkbbbdddllmaaPlan
import Derived.DeepKeys
import Derived.Laws.StructEq
namespace Go.Proofs.Ytobkbbbdddllmaa
open Go.RowKit Mp

theorem formed_P (p : List Nat) (hp : okP p) : (encP p).formed Try.prog 48 = true := by
  unfold Value.formed encP
  simp only [Try.underlying48, cellsOf_P]
  simp [hp.1]
theorem keyOf_P (p : List Nat) (hp : okP p) (m : Nat) (hm : Try.prog.types.size + 1 = m + 2) (lp : List Lit) (h : Try.prog.keyLits (m + 2) 48 (p.map fun (n : Nat) => Value.int .u8 (n : Int)) = some lp) :
    keyOf Try.prog 48 (encP p) = some (.string (keyBytes lp)) := by
  unfold keyOf
  rw [Try.underlying48]
  dsimp only
  rw [keyType_P, formed_P p hp, hm, show (encP p).cells.toList = (p.map fun (n : Nat) => Value.int .u8 (n : Int)) from rfl, h]
  rfl

theorem eqP (p q : List Nat) (hp : okP p) (hq : okP q) (w : World) : (Op.equalIn 10000 48 (encP p) (encP q)).run Try.prog w = .ok (decide (p = q)) w := by
  obtain ⟨m, hm⟩ := types_size
  obtain ⟨lp, h1⟩ := lits_P m p hp
  obtain ⟨lq, h2⟩ := lits_P m q hq
  obtain ⟨r, hr, hiff⟩ := run_equalIn_deep (P := Try.prog) 9998 2 48 (by kernel_rfl) w (m + 2) (m + 2) (encP p) (encP q) lp lq (formed_P p hp) (formed_P q hq) h1 h2
  have hinj : lp = lq → p = q := fun e => by
    have k1 := keyOf_P p hp m hm lp h1
    have k2 := keyOf_P q hq m hm lq h2
    rw [← e] at k2
    exact encP_inj _ _ (law_P.inj k1 k2)
  rw [show (9998 + 2 : Nat) = 10000 from rfl] at hr
  rw [hr]
  by_cases h : p = q
  · subst h
    have : lp = lq := by rw [h1] at h2; exact Option.some.inj h2
    rw [hiff.2 this]; simp
  · have : r = false := by
      cases r with
      | false => rfl
      | true => exact absurd (hinj (hiff.1 rfl)) h
    rw [this]; simp [h]

theorem guard_P : Try.prog.eqGuardType Try.prog.depth 48 = false := by kernel_rfl

/-- '==' on pages, at the operation. -/
theorem exec_eqlP (ρ : Operand → Value) (o : Oper) (x y : Operand) (g : TypeId) (hop : o.op = Op.binOp .eql 48 x y g) (p q : List Nat) (hx : ρ x = encP p) (hy : ρ y = encP q) (hp : okP p) (hq : okP q) (w : World) :
    (execOp ρ o).run Try.prog w = .ok (.value (.bool (decide (p = q)))) w := by
  have h := eqP p q hp hq w
  have e : ∀ r : List Nat, encP r = .agg (cellsP r).toArray := fun r => rfl
  rw [e p, e q] at h
  simp only [execOp, hop, hx, hy, e p, e q, Sem.run_bind, run_eqGuard_agg _ _ _ _ _ _ _ guard_P, run_eql_struct, h, Result.andThen_ok, Sem.run_pure]
/-- A page is loaded, at the operation. -/
theorem exec_loadP (ρ : Operand → Value) (o : Oper) (x : Operand) (hop : o.op = Op.load 48 x) (b of : Nat) (hx : ρ x = .pointer (some ⟨b, of, none⟩)) (p : List Nat) (hp : p.length = 32) (w : World) (h : PageAt w b of p) :
    (execOp ρ o).run Try.prog w = .ok (.value (encP p)) w := by
  simp only [execOp, hop, hx, Sem.run_bind, load_page hp h, Result.andThen_ok, Sem.run_pure]
end Go.Proofs.Ytobkbbbdddllmaa
