import Derived.Test.YtfploeefmnbpcaaGreatG03
import Derived.Test.YtfploeefmnbpcaaGreatG04
/- Faults that came in: one, a slice of some. -/
namespace Go.Proofs.YtfploeefmnbpcaaGreat
open Go.RowKit Mp Go.ChangeShapes Go.WideShapes
section
variable {H : Type} {enc : TypeId × Value → H} {w : World} {base : Nat} {spare : Nat → Bool} {held : Bool}

def okF (f : FtM) : Prop := okI f.at' ∧ okI f.kind ∧ okI f.x ∧ okI f.y ∧ okI f.z ∧ okI f.n ∧ okI f.v
theorem cellsOf_F : Tryz.prog.cellsOf 44 = 7 := by kernel_rfl
theorem lenF {α : Type} {l : List α} (h : l.length = 7) : ∃ a b c d e f g, l = [a, b, c, d, e, f, g] := by
  match l, h with
  | [a, b, c, d, e, f, g], _ => exact ⟨a, b, c, d, e, f, g, rfl⟩
theorem lenF5 {α : Type} {l : List α} (h : l.length = 5) : ∃ a b c d e, l = [a, b, c, d, e] := by
  match l, h with
  | [a, b, c, d, e], _ => exact ⟨a, b, c, d, e, rfl⟩
theorem structF_read {t : TypeId} {f0 f1 f2 f3 f4 : Field} (he : Tryz.prog.underlying t = some (.struct #[f0, f1, f2, f3, f4])) (ce : Tryz.prog.cellsOf t = 7)
    (o0 : f0.offset = 0) (o1 : f1.offset = 1) (o2 : f2.offset = 2) (o3 : f3.offset = 5) (o4 : f4.offset = 6)
    (t0 : f0.type = 3) (t1 : f1.type = 3) (t2 : f2.type = 32) (t3 : f3.type = 3) (t4 : f4.type = 3) {n : Nat} {cs : List Value} {y : DataW H × List MemPlace}
    (h : DataW.trod enc Tryz.prog w base spare held n t cs = some y) : ∃ f : FtM, okF f ∧ cs = cellsFau f := by
  obtain ⟨xs, k, hk, hxy, hlen, hxl, hf⟩ := DataW.trod_struct he h
  rw [ce] at hlen
  obtain ⟨v0, v1, v2, v3, v4, v5, v6, rfl⟩ := lenF hlen
  obtain ⟨y0, y1, y2, y3, y4, rfl⟩ := lenF5 (show xs.length = 5 from hxl)
  have g0 := hf 0 f0 rfl
  have g1 := hf 1 f1 rfl
  have g2 := hf 2 f2 rfl
  have g3 := hf 3 f3 rfl
  have g4 := hf 4 f4 rfl
  rw [o0, t0, cellsOf_I] at g0
  rw [o1, t1, cellsOf_I] at g1
  rw [o2, t2, cellsOf_A] at g2
  rw [o3, t3, cellsOf_I] at g3
  rw [o4, t4, cellsOf_I] at g4
  simp only [List.drop_zero, List.drop_succ_cons, List.take_succ_cons, List.take_zero, List.getElem?_cons_zero, List.getElem?_cons_succ] at g0 g1 g2 g3 g4
  obtain ⟨q0, e0, _, w0⟩ := DataW.trod_int Tryz.underlying3 g0
  obtain ⟨q1, e1, _, w1⟩ := DataW.trod_int Tryz.underlying3 g1
  obtain ⟨p, hp, e2⟩ := addr_read g2
  obtain ⟨q3, e3, _, w3⟩ := DataW.trod_int Tryz.underlying3 g3
  obtain ⟨q4, e4, _, w4⟩ := DataW.trod_int Tryz.underlying3 g4
  simp only [List.cons.injEq, and_true, cellsA] at e0 e1 e2 e3 e4
  obtain ⟨rfl, rfl, rfl⟩ := e2
  subst e0 e1 e3 e4
  exact ⟨⟨q0, q1, p.1, p.2.1, p.2.2, q3, q4⟩, ⟨w0, w1, hp.1, hp.2.1, hp.2.2, w3, w4⟩, rfl⟩
theorem fault_read {n : Nat} {cs : List Value} {y : DataW H × List MemPlace} (h : DataW.trod enc Tryz.prog w base spare held n 44 cs = some y) : ∃ f : FtM, okF f ∧ cs = cellsFau f :=
  structF_read Tryz.underlying44 cellsOf_F rfl rfl rfl rfl rfl rfl rfl rfl rfl rfl h

theorem faults_come {fuel : Nat} {a : Option Addr} {len cap : Nat} {x : DataW H × List MemPlace} (h : DataW.trod enc Tryz.prog w base spare held fuel 47 [.slice a len cap] = some x) :
    ∃ l : List FtM, l.length = len ∧ len ≤ cap ∧ cap ≤ maxLen ∧ (∀ f ∈ l, okF f) ∧ FaultsIs w a l := by
  rcases Go.Deep.open_slice Tryz.underlying47 h with ⟨hcs, _⟩ | ⟨ad, l, c, m, n, D, Pl, hcs, _, hl, hm, hmm, _, hx⟩
  · simp only [List.cons.injEq, Value.slice.injEq, and_true] at hcs
    obtain ⟨rfl, rfl, rfl⟩ := hcs
    exact ⟨[], rfl, Nat.le_refl _, by unfold maxLen; omega, fun f hf => by simp at hf, fun i x hx => by simp at hx⟩
  · simp only [List.cons.injEq, Value.slice.injEq, and_true] at hcs
    obtain ⟨rfl, rfl, rfl⟩ := hcs
    rw [cellsOf_F] at hx
    have hlm : len ≤ m := by rw [hmm]; split <;> omega
    haveI : Inhabited FtM := ⟨⟨0, 0, 0, 0, 0, 0, 0⟩⟩
    obtain ⟨xs, h1, h2⟩ := list_of (α := FtM) (n := len) (R := fun i f => okF f ∧ ∃ b o, some ad = some ⟨b, o, none⟩ ∧ ∀ j v, (cellsFau f)[j]? = some v → w.cell? ⟨b, o + i * 7 + j, none⟩ = some v) (fun i hi => by
        obtain ⟨cs', e1, e2⟩ := hx i (by omega)
        obtain ⟨p, hp, rfl⟩ := fault_read e2
        obtain ⟨_, hlen, hcell⟩ := World.cells?_some e1
        obtain ⟨cs0, f1, f2⟩ := hx 0 (by omega)
        obtain ⟨p0, _, rfl⟩ := fault_read f2
        have d0 := (World.cells?_some f1).2.2 0 (by omega)
        obtain ⟨b, o, s⟩ := ad
        obtain rfl : s = none := spot_of (v := .int .i64 p0.at') (by rw [d0]; rfl)
        refine ⟨p, hp, b, o, rfl, fun j v hj => ?_⟩
        have h7 : j < 7 := by have := (List.getElem?_eq_some_iff.1 hj).1; simpa [cellsFau] using this
        have c := hcell j h7
        rw [add_plain, add_plain] at c
        rw [c, hj])
    exact ⟨xs, h1, hl, hm, fun f hf => by obtain ⟨i, hi⟩ := List.getElem?_of_mem hf; exact (h2 i f hi).1, fun i f hi => (h2 i f hi).2⟩
theorem fault_back {cs : Array Value} {f : FtM} (h : cs.toList = cellsFau f) : Value.agg cs = encF f := by
  have : cs = (cellsFau f).toArray := by rw [← h]
  rw [this]; rfl
set_option maxRecDepth 100000 in
theorem fault_comes {r : Reach} {b0 : Nat} {v : Value} {d : DataW H} {p : List MemPlace} (hv : Value.okWide Tryz.prog w r b0 44 v) (h : DataW.Trod enc Tryz.prog w base spare held 44 v d p) : ∃ f : FtM, okF f ∧ v = encF f := by
  obtain ⟨cs, hcs, _⟩ := okWide_struct Tryz.underlying44 hv
  obtain ⟨fuel, hf⟩ := h
  rw [hcs] at hf
  obtain ⟨f, h1, h2⟩ := fault_read hf
  exact ⟨f, h1, hcs.trans (fault_back h2)⟩
end
end Go.Proofs.YtfploeefmnbpcaaGreat
