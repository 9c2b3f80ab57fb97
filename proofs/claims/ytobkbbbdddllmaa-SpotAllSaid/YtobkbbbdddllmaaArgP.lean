/- Slices of places, of steps, of pages that came in. -/
import Derived.Test.YtobkbbbdddllmaaPage
import Derived.Deep.Slices
import Derived.OpenShut
namespace Go.Proofs.Ytobkbbbdddllmaa
open Go.RowKit Go.ChangeShapes Go.WideShapes

/-- a leads to the places xs. -/
def AddrsIs (w : World) (a : Option Addr) (xs : List A3) : Prop := ∀ i x, xs[i]? = some x → okA x ∧ ∃ b o, a = some ⟨b, o, none⟩ ∧
  w.cell? ⟨b, o + i * 3, none⟩ = some (.int .i64 x.1) ∧ w.cell? ⟨b, o + i * 3 + 1, none⟩ = some (.int .i64 x.2.1) ∧ w.cell? ⟨b, o + i * 3 + 2, none⟩ = some (.int .i64 x.2.2)
/-- a leads to the steps xs: kind, place, number. -/
def OpsIs (w : World) (a : Option Addr) (xs : List (Int × A3 × Int)) : Prop := ∀ i x, xs[i]? = some x → okA x.2.1 ∧ okI x.2.2 ∧ ∃ b o, a = some ⟨b, o, none⟩ ∧
  w.cell? ⟨b, o + i * 5, none⟩ = some (.int .i64 x.1) ∧ w.cell? ⟨b, o + i * 5 + 1, none⟩ = some (.int .i64 x.2.1.1) ∧ w.cell? ⟨b, o + i * 5 + 2, none⟩ = some (.int .i64 x.2.1.2.1) ∧
  w.cell? ⟨b, o + i * 5 + 3, none⟩ = some (.int .i64 x.2.1.2.2) ∧ w.cell? ⟨b, o + i * 5 + 4, none⟩ = some (.int .i64 x.2.2)

theorem AddrsIs.below {w w' : World} {a : Option Addr} {xs : List A3} (h : AddrsIs w a xs) (hb : Below w.heap.size w w') : AddrsIs w' a xs := fun i x hx => by
  obtain ⟨h0, b, o, e, c0, c1, c2⟩ := h i x hx
  exact ⟨h0, b, o, e, (hb.cell (World.block_lt_of_cell? w _ c0)).trans c0, (hb.cell (World.block_lt_of_cell? w _ c1)).trans c1, (hb.cell (World.block_lt_of_cell? w _ c2)).trans c2⟩
theorem OpsIs.below {w w' : World} {a : Option Addr} {xs : List (Int × A3 × Int)} (h : OpsIs w a xs) (hb : Below w.heap.size w w') : OpsIs w' a xs := fun i x hx => by
  obtain ⟨h0, h1, b, o, e, c0, c1, c2, c3, c4⟩ := h i x hx
  exact ⟨h0, h1, b, o, e, (hb.cell (World.block_lt_of_cell? w _ c0)).trans c0, (hb.cell (World.block_lt_of_cell? w _ c1)).trans c1, (hb.cell (World.block_lt_of_cell? w _ c2)).trans c2, (hb.cell (World.block_lt_of_cell? w _ c3)).trans c3, (hb.cell (World.block_lt_of_cell? w _ c4)).trans c4⟩

section
variable {H : Type} {enc : TypeId × Value → H} {w : World} {base : Nat} {spare : Nat → Bool} {held : Bool}

/-- Things that are read at each index, as a list. -/
theorem list_of {α : Type} [Inhabited α] {n : Nat} {R : Nat → α → Prop} (h : ∀ i, i < n → ∃ x, R i x) : ∃ xs : List α, xs.length = n ∧ ∀ i x, xs[i]? = some x → R i x := by
  induction n with
  | zero => exact ⟨[], rfl, fun i x hx => by simp at hx⟩
  | succ n ih =>
    obtain ⟨xs, h1, h2⟩ := ih (fun i hi => h i (by omega))
    obtain ⟨x, hx⟩ := h n (by omega)
    refine ⟨xs ++ [x], by simp [h1], fun i y hy => ?_⟩
    rcases Nat.lt_or_ge i xs.length with hi | hi
    · rw [List.getElem?_append_left hi] at hy; exact h2 i y hy
    · have : i = n := by have := (List.getElem?_eq_some_iff.1 hy).1; simp at this; omega
      subst this
      rw [List.getElem?_append_right hi, h1, Nat.sub_self] at hy
      simp at hy; subst hy; exact hx

theorem len3 {α : Type} {l : List α} (h : l.length = 3) : ∃ a b c, l = [a, b, c] := by
  match l, h with
  | [a, b, c], _ => exact ⟨a, b, c, rfl⟩

/-- A struct of three one-cell ints, read. -/
theorem struct3_read {t : TypeId} {f0 f1 f2 : Field} (he : Try.prog.underlying t = some (.struct #[f0, f1, f2])) (ce : Try.prog.cellsOf t = 3) (o0 : f0.offset = 0) (o1 : f1.offset = 1) (o2 : f2.offset = 2)
    (t0 : f0.type = 3) (t1 : f1.type = 3) (t2 : f2.type = 3) {n : Nat} {cs : List Value} {y : DataW H × List MemPlace} (h : DataW.trod enc Try.prog w base spare held n t cs = some y) : ∃ x : A3, okA x ∧ cs = cellsA x := by
  obtain ⟨xs, k, hk, hxy, hlen, hxl, hf⟩ := DataW.trod_struct he h
  rw [ce] at hlen
  obtain ⟨v0, v1, v2, rfl⟩ := len3 hlen
  obtain ⟨y0, y1, y2, rfl⟩ := len3 (show xs.length = 3 from hxl)
  have g0 := hf 0 f0 rfl
  have g1 := hf 1 f1 rfl
  have g2 := hf 2 f2 rfl
  rw [o0, t0, cellsOf_I] at g0
  rw [o1, t1, cellsOf_I] at g1
  rw [o2, t2, cellsOf_I] at g2
  simp only [List.drop_zero, List.drop_succ_cons, List.take_succ_cons, List.take_zero, List.getElem?_cons_zero, List.getElem?_cons_succ] at g0 g1 g2
  obtain ⟨q0, e0, _, w0⟩ := DataW.trod_int Try.underlying3 g0
  obtain ⟨q1, e1, _, w1⟩ := DataW.trod_int Try.underlying3 g1
  obtain ⟨q2, e2, _, w2⟩ := DataW.trod_int Try.underlying3 g2
  simp only [List.cons.injEq, and_true] at e0 e1 e2
  subst e0 e1 e2
  exact ⟨(q0, q1, q2), ⟨w0, w1, w2⟩, rfl⟩

theorem addr_read {n : Nat} {cs : List Value} {y : DataW H × List MemPlace} (h : DataW.trod enc Try.prog w base spare held n 29 cs = some y) : ∃ x : A3, okA x ∧ cs = cellsA x :=
  struct3_read Try.underlying29 cellsOf_A rfl rfl rfl rfl rfl rfl h

/-- An address at which something is read is a plain one. -/
theorem spot_of {b o k : Nat} {s : Option Nat} {v : Value} (h : w.cell? (((⟨b, o, s⟩ : Addr).add (0 * k)).add 0) = some v) : s = none := by
  have h0 := World.cell?_spot h
  rwa [Nat.zero_mul, show (((⟨b, o, s⟩ : Addr).add 0).add 0) = ⟨b, o, s⟩ from rfl] at h0

theorem addrs_come {fuel : Nat} {a : Option Addr} {len cap : Nat} {x : DataW H × List MemPlace} (h : DataW.trod enc Try.prog w base spare held fuel 26 [.slice a len cap] = some x) :
    ∃ xs : List A3, xs.length = len ∧ len ≤ cap ∧ cap ≤ maxLen ∧ AddrsIs w a xs := by
  rcases Go.Deep.open_slice Try.underlying26 h with ⟨hcs, _⟩ | ⟨ad, l, c, m, n, D, Pl, hcs, _, hl, hm, hmm, _, hx⟩
  · simp only [List.cons.injEq, Value.slice.injEq, and_true] at hcs
    obtain ⟨rfl, rfl, rfl⟩ := hcs
    exact ⟨[], rfl, Nat.le_refl _, by unfold maxLen; omega, fun i x hx => by simp at hx⟩
  · simp only [List.cons.injEq, Value.slice.injEq, and_true] at hcs
    obtain ⟨rfl, rfl, rfl⟩ := hcs
    rw [cellsOf_A] at hx
    have hlm : len ≤ m := by rw [hmm]; split <;> omega
    obtain ⟨xs, h1, h2⟩ := list_of (α := A3) (n := len) (R := fun i x => okA x ∧ ∃ b o, some ad = some ⟨b, o, none⟩ ∧
      w.cell? ⟨b, o + i * 3, none⟩ = some (.int .i64 x.1) ∧ w.cell? ⟨b, o + i * 3 + 1, none⟩ = some (.int .i64 x.2.1) ∧ w.cell? ⟨b, o + i * 3 + 2, none⟩ = some (.int .i64 x.2.2)) (fun i hi => by
        obtain ⟨cs', e1, e2⟩ := hx i (by omega)
        obtain ⟨p, hp, rfl⟩ := addr_read e2
        obtain ⟨_, hlen, hcell⟩ := World.cells?_some e1
        have c0 := hcell 0 (by omega)
        have c1 := hcell 1 (by omega)
        have c2 := hcell 2 (by omega)
        obtain ⟨cs0, f1, f2⟩ := hx 0 (by omega)
        obtain ⟨p0, _, rfl⟩ := addr_read f2
        have d0 := (World.cells?_some f1).2.2 0 (by omega)
        obtain ⟨b, o, s⟩ := ad
        obtain rfl : s = none := spot_of (v := .int .i64 p0.1) (by rw [d0]; rfl)
        refine ⟨p, hp, b, o, rfl, ?_, ?_, ?_⟩
        · rw [add_plain, add_plain] at c0; simpa [cellsA] using c0
        · rw [add_plain, add_plain] at c1; simpa [cellsA] using c1
        · rw [add_plain, add_plain] at c2; simpa [cellsA] using c2)
    exact ⟨xs, h1, hl, hm, h2⟩

theorem cellsOf_O : Try.prog.cellsOf 31 = 5 := by kernel_rfl
theorem len5 {α : Type} {l : List α} (h : l.length = 5) : ∃ a b c d e, l = [a, b, c, d, e] := by
  match l, h with
  | [a, b, c, d, e], _ => exact ⟨a, b, c, d, e, rfl⟩
def cellsO (x : Int × A3 × Int) : List Value := [.int .i64 x.1, .int .i64 x.2.1.1, .int .i64 x.2.1.2.1, .int .i64 x.2.1.2.2, .int .i64 x.2.2]
theorem structO_read {t : TypeId} {f0 f1 f2 : Field} (he : Try.prog.underlying t = some (.struct #[f0, f1, f2])) (ce : Try.prog.cellsOf t = 5) (o0 : f0.offset = 0) (o1 : f1.offset = 1) (o2 : f2.offset = 4)
    (t0 : f0.type = 3) (t1 : f1.type = 29) (t2 : f2.type = 3) {n : Nat} {cs : List Value} {y : DataW H × List MemPlace} (h : DataW.trod enc Try.prog w base spare held n t cs = some y) : ∃ x : Int × A3 × Int, (okA x.2.1 ∧ okI x.2.2) ∧ cs = cellsO x := by
  obtain ⟨xs, k, hk, hxy, hlen, hxl, hf⟩ := DataW.trod_struct he h
  rw [ce] at hlen
  obtain ⟨v0, v1, v2, v3, v4, rfl⟩ := len5 hlen
  obtain ⟨y0, y1, y2, rfl⟩ := len3 (show xs.length = 3 from hxl)
  have g0 := hf 0 f0 rfl
  have g1 := hf 1 f1 rfl
  have g2 := hf 2 f2 rfl
  rw [o0, t0, cellsOf_I] at g0
  rw [o1, t1, cellsOf_A] at g1
  rw [o2, t2, cellsOf_I] at g2
  simp only [List.drop_zero, List.drop_succ_cons, List.take_succ_cons, List.take_zero, List.getElem?_cons_zero, List.getElem?_cons_succ] at g0 g1 g2
  obtain ⟨q0, e0, _, w0⟩ := DataW.trod_int Try.underlying3 g0
  obtain ⟨p, hp, e1⟩ := addr_read g1
  obtain ⟨q2, e2, _, w2⟩ := DataW.trod_int Try.underlying3 g2
  simp only [List.cons.injEq, and_true, cellsA] at e0 e1 e2
  obtain ⟨rfl, rfl, rfl⟩ := e1
  subst e0 e2
  exact ⟨(q0, p, q2), ⟨hp, w2⟩, rfl⟩
theorem op_read {n : Nat} {cs : List Value} {y : DataW H × List MemPlace} (h : DataW.trod enc Try.prog w base spare held n 31 cs = some y) : ∃ x : Int × A3 × Int, (okA x.2.1 ∧ okI x.2.2) ∧ cs = cellsO x :=
  structO_read Try.underlying31 cellsOf_O rfl rfl rfl rfl rfl rfl h

theorem ops_come {fuel : Nat} {a : Option Addr} {len cap : Nat} {x : DataW H × List MemPlace} (h : DataW.trod enc Try.prog w base spare held fuel 22 [.slice a len cap] = some x) :
    ∃ xs : List (Int × A3 × Int), xs.length = len ∧ len ≤ cap ∧ cap ≤ maxLen ∧ OpsIs w a xs := by
  rcases Go.Deep.open_slice Try.underlying22 h with ⟨hcs, _⟩ | ⟨ad, l, c, m, n, D, Pl, hcs, _, hl, hm, hmm, _, hx⟩
  · simp only [List.cons.injEq, Value.slice.injEq, and_true] at hcs
    obtain ⟨rfl, rfl, rfl⟩ := hcs
    exact ⟨[], rfl, Nat.le_refl _, by unfold maxLen; omega, fun i x hx => by simp at hx⟩
  · simp only [List.cons.injEq, Value.slice.injEq, and_true] at hcs
    obtain ⟨rfl, rfl, rfl⟩ := hcs
    rw [cellsOf_O] at hx
    have hlm : len ≤ m := by rw [hmm]; split <;> omega
    obtain ⟨xs, h1, h2⟩ := list_of (α := Int × A3 × Int) (n := len) (R := fun i x => okA x.2.1 ∧ okI x.2.2 ∧ ∃ b o, some ad = some ⟨b, o, none⟩ ∧
      w.cell? ⟨b, o + i * 5, none⟩ = some (.int .i64 x.1) ∧ w.cell? ⟨b, o + i * 5 + 1, none⟩ = some (.int .i64 x.2.1.1) ∧ w.cell? ⟨b, o + i * 5 + 2, none⟩ = some (.int .i64 x.2.1.2.1) ∧
      w.cell? ⟨b, o + i * 5 + 3, none⟩ = some (.int .i64 x.2.1.2.2) ∧ w.cell? ⟨b, o + i * 5 + 4, none⟩ = some (.int .i64 x.2.2)) (fun i hi => by
        obtain ⟨cs', e1, e2⟩ := hx i (by omega)
        obtain ⟨p, hp, rfl⟩ := op_read e2
        obtain ⟨_, hlen, hcell⟩ := World.cells?_some e1
        have c0 := hcell 0 (by omega)
        have c1 := hcell 1 (by omega)
        have c2 := hcell 2 (by omega)
        have c3 := hcell 3 (by omega)
        have c4 := hcell 4 (by omega)
        obtain ⟨cs0, f1, f2⟩ := hx 0 (by omega)
        obtain ⟨p0, _, rfl⟩ := op_read f2
        have d0 := (World.cells?_some f1).2.2 0 (by omega)
        obtain ⟨b, o, s⟩ := ad
        obtain rfl : s = none := spot_of (v := .int .i64 p0.1) (by rw [d0]; rfl)
        refine ⟨p, hp.1, hp.2, b, o, rfl, ?_, ?_, ?_, ?_, ?_⟩
        · rw [add_plain, add_plain] at c0; simpa [cellsO] using c0
        · rw [add_plain, add_plain] at c1; simpa [cellsO] using c1
        · rw [add_plain, add_plain] at c2; simpa [cellsO] using c2
        · rw [add_plain, add_plain] at c3; simpa [cellsO] using c3
        · rw [add_plain, add_plain] at c4; simpa [cellsO] using c4)
    refine ⟨xs, h1, hl, hm, fun i x hx => ?_⟩
    obtain ⟨a1, a2, a3⟩ := h2 i x hx
    exact ⟨a1, a2, a3⟩

theorem page_read {n : Nat} {cs : List Value} {y : DataW H × List MemPlace} (h : DataW.trod enc Try.prog w base spare held n 48 cs = some y) : ∃ p : List Nat, okP p ∧ cs = cellsP p := by
  obtain ⟨xs, k, hk, hxy, hlen, hxl, hf⟩ := DataW.trod_array Try.underlying48 h
  rw [cellsOf_P] at hlen
  rw [cellsOf_B] at hf
  have each : ∀ i, i < 32 → ∃ b : Nat, b < 256 ∧ cs[i]? = some (.int .u8 (b : Int)) := fun i hi => by
    have g := hf i hi
    rw [Nat.mul_one] at g
    have hc : (cs.drop i).take 1 = [cs[i]'(by omega)] := by rw [List.drop_eq_getElem_cons (by omega)]; rfl
    rw [hc, List.getElem?_eq_getElem (by omega)] at g
    obtain ⟨q, e, _, hw⟩ := DataW.trod_int Try.underlying5 g
    simp only [List.cons.injEq, and_true] at e
    have hq : 0 ≤ q ∧ q ≤ 255 := by simpa [Lit.wf, IntKind.min, IntKind.max, IntKind.signed, IntKind.bits] using hw
    refine ⟨q.toNat, by omega, ?_⟩
    rw [List.getElem?_eq_getElem (by omega), e, Int.toNat_of_nonneg hq.1]
  obtain ⟨p, h1, h2⟩ := list_of (α := Nat) each
  refine ⟨p, ⟨h1, fun x hx => ?_⟩, ?_⟩
  · obtain ⟨i, hi⟩ := List.getElem?_of_mem hx
    exact (h2 i x hi).1
  · apply List.ext_getElem?
    intro i
    unfold cellsP
    rw [List.getElem?_map]
    rcases Nat.lt_or_ge i 32 with hi | hi
    · rw [List.getElem?_eq_getElem (show i < p.length by omega)]
      exact (h2 i _ (List.getElem?_eq_getElem (by omega))).2
    · rw [List.getElem?_eq_none (by omega), List.getElem?_eq_none (by omega)]; rfl

theorem pages_come {fuel : Nat} {a : Option Addr} {len cap : Nat} {x : DataW H × List MemPlace} (h : DataW.trod enc Try.prog w base spare held fuel 45 [.slice a len cap] = some x) :
    ∃ ps : List (List Nat), ps.length = len ∧ len ≤ cap ∧ cap ≤ maxLen ∧ (∀ p ∈ ps, okP p) ∧ PagesIs w a ps := by
  rcases Go.Deep.open_slice Try.underlying45 h with ⟨hcs, _⟩ | ⟨ad, l, c, m, n, D, Pl, hcs, _, hl, hm, hmm, _, hx⟩
  · simp only [List.cons.injEq, Value.slice.injEq, and_true] at hcs
    obtain ⟨rfl, rfl, rfl⟩ := hcs
    exact ⟨[], rfl, Nat.le_refl _, by unfold maxLen; omega, fun p hp => by simp at hp, fun i x hx => by simp at hx⟩
  · simp only [List.cons.injEq, Value.slice.injEq, and_true] at hcs
    obtain ⟨rfl, rfl, rfl⟩ := hcs
    rw [cellsOf_P] at hx
    have hlm : len ≤ m := by rw [hmm]; split <;> omega
    obtain ⟨ps, h1, h2⟩ := list_of (α := List Nat) (n := len) (R := fun i p => okP p ∧ ∃ b o, some ad = some ⟨b, o, none⟩ ∧ PageAt w b (o + i * 32) p) (fun i hi => by
        obtain ⟨cs', e1, e2⟩ := hx i (by omega)
        obtain ⟨p, hp, rfl⟩ := page_read e2
        obtain ⟨_, hlen, hcell⟩ := World.cells?_some e1
        obtain ⟨cs0, f1, f2⟩ := hx 0 (by omega)
        obtain ⟨p0, hp0, rfl⟩ := page_read f2
        have d0 := (World.cells?_some f1).2.2 0 (by omega)
        obtain ⟨b, o, s⟩ := ad
        obtain rfl : s = none := by
          have hc0 : (cellsP p0)[0]? = some (.int .u8 ((p0.getD 0 0 : Nat) : Int)) := by
            have := hp0.1
            simp [cellsP, List.getElem?_eq_getElem (show 0 < p0.length by omega), List.getD_eq_getElem?_getD]
          exact spot_of (d0.trans hc0)
        refine ⟨p, hp, b, o, rfl, fun j hj => ?_⟩
        have cj := hcell j hj
        rw [add_plain, add_plain] at cj
        rw [cj]
        have := hp.1
        simp [cellsP, List.getElem?_eq_getElem (show j < p.length by omega), List.getD_eq_getElem?_getD])
    refine ⟨ps, h1, hl, hm, fun p hp => ?_, fun i p hp => ?_⟩
    · obtain ⟨i, hi⟩ := List.getElem?_of_mem hp
      exact (h2 i p hi).1
    · obtain ⟨h3, h4⟩ := h2 i p hp
      exact ⟨h3.1, h4⟩
end
end Go.Proofs.Ytobkbbbdddllmaa
