/- Places and pages as keys. -/
import Derived.Test.YtobkbbbdddllmaaMpR
import Derived.Test.YtobkbbbdddllmaaChecked
import Derived.DeepKeys4
import Derived.WalkKit
namespace Go.Proofs.Ytobkbbbdddllmaa
open Go.RowKit Mp

theorem laidOut : laidOutB Try.prog = true := by kernel_rfl

/-- A place: die, block, page. -/
abbrev A3 := Int × Int × Int
def cellsA (a : A3) : List Value := [.int .i64 a.1, .int .i64 a.2.1, .int .i64 a.2.2]
def encA (a : A3) : Value := .agg #[.int .i64 a.1, .int .i64 a.2.1, .int .i64 a.2.2]
def okI (x : Int) : Prop := (Lit.int .i64 x).wf = true
def okA (a : A3) : Prop := okI a.1 ∧ okI a.2.1 ∧ okI a.2.2
theorem encA_cells (a : A3) : encA a = .agg (cellsA a).toArray := rfl

theorem keyType_A : Try.prog.keyType 29 = true := by kernel_rfl
theorem cellsOf_A : Try.prog.cellsOf 29 = 3 := by kernel_rfl
theorem law_A : WideMaps.KeyLaw Try.prog 29 := deep_law_laid laidOut (m := 3) (by omega) (of_decide_eq_true (by kernel_rfl)) (by kernel_rfl) (by rw [Try.underlying29])
theorem encA_inj (a b : A3) (h : encA a = encA b) : a = b := by
  obtain ⟨x, y, z⟩ := a; obtain ⟨x', y', z'⟩ := b
  simp [encA] at h
  obtain ⟨rfl, rfl, rfl⟩ := h
  rfl

theorem lits_int (m : Nat) (x : Int) (h : okI x) : Try.prog.keyLits (m + 1) 3 [.int .i64 x] = some [.int .i64 x] := by
  have h' : (Lit.int .i64 x).wf = true := h
  unfold Program.keyLits
  rw [Try.underlying3]
  simp only [h', and_self, if_true]
theorem lits_byte (m : Nat) (x : Nat) (h : x < 256) : Try.prog.keyLits (m + 1) 5 [.int .u8 (x : Int)] = some [.int .u8 (x : Int)] := by
  have h' : (Lit.int .u8 (x : Int)).wf = true := by
    simp [Lit.wf, IntKind.min, IntKind.max, IntKind.signed, IntKind.bits]; omega
  unfold Program.keyLits
  rw [Try.underlying5]
  simp only [h', and_self, if_true]
theorem cellsOf_I : Try.prog.cellsOf 3 = 1 := by kernel_rfl
theorem cellsOf_B : Try.prog.cellsOf 5 = 1 := by kernel_rfl
theorem types_size : ∃ m, Try.prog.types.size + 1 = m + 2 := ⟨Try.prog.types.size - 1, by
  have : 1 ≤ Try.prog.types.size := of_decide_eq_true (by kernel_rfl)
  omega⟩

theorem lits_A (m : Nat) (a : A3) (h : okA a) : Try.prog.keyLits (m + 2) 29 (cellsA a) = some [.int .i64 a.1, .int .i64 a.2.1, .int .i64 a.2.2] := by
  obtain ⟨x, y, z⟩ := a
  obtain ⟨h1, h2, h3⟩ := h
  have e1 := lits_int m x h1
  have e2 := lits_int m y h2
  have e3 := lits_int m z h3
  obtain ⟨n, hn⟩ : ∃ n, m + 1 = n := ⟨_, rfl⟩
  rw [hn] at e1 e2 e3
  show Try.prog.keyLits (m + 1 + 1) _ _ = _
  unfold Program.keyLits
  rw [Try.underlying29]
  dsimp only
  rw [if_pos ⟨by rw [cellsOf_A]; rfl, by decide +kernel⟩]
  simp only [List.mapM_cons, List.mapM_nil, cellsOf_I, cellsA, List.drop_zero, List.drop_succ_cons, List.take_succ_cons, List.take_zero, show m + 1 = n from hn, e1, e2, e3]
  rfl

theorem has_A (a : A3) (h : okA a) : ∃ l, keyOf Try.prog 29 (encA a) = some l := by
  obtain ⟨m, hm⟩ := types_size
  have hl := lits_A m a h
  have hf : (encA a).formed Try.prog 29 = true := by
    unfold Value.formed encA
    simp only [Try.underlying29, cellsOf_A]
    rfl
  unfold keyOf
  rw [Try.underlying29]
  dsimp only
  rw [keyType_A, hf, hm, show (encA a).cells.toList = cellsA a from rfl, hl]
  exact ⟨_, rfl⟩

/-- Places as keys. -/
def EA : KeyEnc Try.prog 29 A3 := ⟨encA, okA, Maps.Keyed.of_law law_A, has_A, encA_inj⟩

/-- A page: its bytes. -/
def encP (p : List Nat) : Value := .agg (p.map fun (n : Nat) => Value.int .u8 (n : Int)).toArray
def okP (p : List Nat) : Prop := p.length = 32 ∧ ∀ x ∈ p, x < 256
theorem keyType_P : Try.prog.keyType 48 = true := by kernel_rfl
theorem cellsOf_P : Try.prog.cellsOf 48 = 32 := by kernel_rfl
theorem law_P : WideMaps.KeyLaw Try.prog 48 := deep_law_laid laidOut (m := 3) (by omega) (of_decide_eq_true (by kernel_rfl)) (by kernel_rfl) (by rw [Try.underlying48])
theorem encP_inj (p q : List Nat) (h : encP p = encP q) : p = q := by
  simp only [encP, Value.agg.injEq] at h
  have h2 := congrArg Array.toList h
  simp only at h2
  exact List.map_inj_right (f := fun (n : Nat) => Value.int .u8 (n : Int)) (by intro x y e; simp only [Value.int.injEq, true_and] at e; exact Int.ofNat.inj e) |>.1 h2

theorem lits_P (m : Nat) (p : List Nat) (h : okP p) : ∃ ls, Try.prog.keyLits (m + 2) 48 (p.map fun (n : Nat) => Value.int .u8 (n : Int)) = some ls := by
  obtain ⟨h1, h2⟩ := h
  obtain ⟨n, hn⟩ : ∃ n, m + 1 = n := ⟨_, rfl⟩
  have hb : ∀ i, i < 32 → Try.prog.keyLits n 5 (((p.map fun (n : Nat) => Value.int .u8 (n : Int)).drop (i * 1)).take 1) = some [.int .u8 ((p.getD i 0 : Nat) : Int)] := by
    intro i hi
    have hil : i < p.length := by omega
    have hx : p.getD i 0 < 256 := by
      rw [List.getD_eq_getElem?_getD, List.getElem?_eq_getElem hil]; exact h2 _ (List.getElem_mem hil)
    have hd : (((p.map fun (n : Nat) => Value.int .u8 (n : Int)).drop (i * 1)).take 1) = [Value.int .u8 ((p.getD i 0 : Nat) : Int)] := by
      rw [Nat.mul_one, List.drop_eq_getElem_cons (by simpa using hil)]
      simp [List.getD_eq_getElem?_getD, List.getElem?_eq_getElem hil]
    rw [hd, ← hn]
    exact lits_byte m _ hx
  have hl : (p.map fun (n : Nat) => Value.int .u8 (n : Int)).length = Try.prog.cellsOf 48 := by rw [cellsOf_P]; simpa using h1
  have hm : ∀ L : List Nat, (∀ i ∈ L, i < 32) → ∃ rs, (L.mapM fun i => Try.prog.keyLits n 5 (((p.map fun (n : Nat) => Value.int .u8 (n : Int)).drop (i * Try.prog.cellsOf 5)).take (Try.prog.cellsOf 5))) = some rs := by
    rw [cellsOf_B]
    intro L
    induction L with
    | nil => intro _; exact ⟨[], rfl⟩
    | cons i r ih =>
      intro hL
      obtain ⟨rs, hr⟩ := ih (fun j hj => hL j (by simp [hj]))
      rw [List.mapM_cons, hb i (hL i (by simp)), hr]
      exact ⟨_, rfl⟩
  obtain ⟨rs, hr⟩ := hm (List.range 32) (fun i hi => List.mem_range.1 hi)
  rw [show m + 2 = n + 1 by omega]
  unfold Program.keyLits
  rw [Try.underlying48]
  dsimp only
  rw [if_pos hl, hr]
  exact ⟨_, rfl⟩

theorem has_P (p : List Nat) (h : okP p) : ∃ l, keyOf Try.prog 48 (encP p) = some l := by
  obtain ⟨m, hm⟩ := types_size
  obtain ⟨ls, hl⟩ := lits_P m p h
  have hf : (encP p).formed Try.prog 48 = true := by
    unfold Value.formed encP
    simp only [Try.underlying48, cellsOf_P]
    simp [h.1]
  unfold keyOf
  rw [Try.underlying48]
  dsimp only
  rw [keyType_P, hf, hm, show (encP p).cells.toList = (p.map fun (n : Nat) => Value.int .u8 (n : Int)) from rfl, hl]
  exact ⟨_, rfl⟩

/-- Pages as keys. -/
def EP : KeyEnc Try.prog 48 (List Nat) := ⟨encP, okP, Maps.Keyed.of_law law_P, has_P, encP_inj⟩
end Go.Proofs.Ytobkbbbdddllmaa
