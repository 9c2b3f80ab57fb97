/- Fields, one behind the other; rows of the call's own that lie apart. -/
import Derived.Test.YticpjkbcchghjaaPairs
namespace Go.Proofs.Yticpjkbcchghjaa
open Go.RowKit

namespace M
/-- The bits of fields. -/
def bitsF (fs : List (Nat × Nat)) : List Bool := fs.flatMap fun f => bitsOf f.1 f.2
theorem bitsF_nil : bitsF [] = [] := rfl
theorem bitsF_snoc (fs : List (Nat × Nat)) (u n : Nat) : bitsF (fs ++ [(u, n)]) = bitsF fs ++ bitsOf u n := by simp [bitsF]
theorem bitsF_length (fs : List (Nat × Nat)) (h : ∀ f ∈ fs, f.2 ≤ 64) : (bitsF fs).length ≤ 64 * fs.length := by
  induction fs with
  | nil => simp [bitsF]
  | cons f fs ih =>
    have h1 := h f (by simp)
    have h2 := ih fun x hx => h x (by simp [hx])
    simp only [bitsF, List.flatMap_cons, List.length_append, bitsOf_length, List.length_cons] at h2 ⊢
    omega
theorem bitsF_append (a b : List (Nat × Nat)) : bitsF (a ++ b) = bitsF a ++ bitsF b := by simp [bitsF]
/-- Where the k-th field begins; what stands there. -/
theorem bitsF_at (fs : List (Nat × Nat)) (k : Nat) (h : k < fs.length) :
    (bitsF (fs.take (k + 1))).length = (bitsF (fs.take k)).length + (fs[k]).2 ∧ (bitsF (fs.take k)).length + (fs[k]).2 ≤ (bitsF fs).length ∧
    ((bitsF fs).drop (bitsF (fs.take k)).length).take (fs[k]).2 = bitsOf (fs[k]).1 (fs[k]).2 := by
  have e1 : fs.take (k + 1) = fs.take k ++ [((fs[k]).1, (fs[k]).2)] := List.take_succ_eq_append_getElem h
  have e2 : bitsF fs = bitsF (fs.take k) ++ (bitsOf (fs[k]).1 (fs[k]).2 ++ bitsF (fs.drop (k + 1))) := by
    have := List.take_append_drop (k + 1) fs
    rw [e1] at this
    rw [← List.append_assoc, ← bitsF_snoc, ← bitsF_append, this]
  refine ⟨by rw [e1, bitsF_snoc, List.length_append, bitsOf_length], ?_, ?_⟩
  · rw [e2, List.length_append, List.length_append, bitsOf_length]; omega
  · rw [e2, List.drop_left]
    exact List.take_left' (bitsOf_length _ _)
end M

/-- The cells of fields. -/
def cellsF (fs : List (Nat × Nat)) : List Value := fs.flatMap fun f => [Value.int .u64 (f.1 : Int), Value.int .i64 (f.2 : Int)]
theorem cellsF_snoc (fs : List (Nat × Nat)) (u n : Nat) : cellsF fs ++ [Value.int .u64 (u : Int), Value.int .i64 (n : Int)] = cellsF (fs ++ [(u, n)]) := by simp [cellsF]
theorem cellsF_length (fs : List (Nat × Nat)) : (cellsF fs).length = fs.length * 2 := by
  induction fs with
  | nil => rfl
  | cons f fs ih => simp only [cellsF, List.flatMap_cons, List.length_append, List.length_cons, List.length_nil] at ih ⊢; omega
theorem cellsF_at (fs : List (Nat × Nat)) (k : Nat) (h : k < fs.length) : (cellsF fs)[k * 2]? = some (.int .u64 ((fs[k]).1 : Int)) ∧ (cellsF fs)[k * 2 + 1]? = some (.int .i64 ((fs[k]).2 : Int)) := by
  induction fs generalizing k with
  | nil => simp at h
  | cons f fs ih =>
    cases k with
    | zero => simp [cellsF]
    | succ k =>
      have := ih k (by simpa using h)
      simp only [cellsF, List.flatMap_cons, List.getElem_cons_succ] at this ⊢
      rw [show (k + 1) * 2 = 2 + k * 2 by omega, List.getElem?_append_right (by simp), List.getElem?_append_right (by simp; omega)]
      simp only [List.length_cons, List.length_nil]
      rw [show 2 + k * 2 - (0 + 1 + 1) = k * 2 by omega, show 2 + k * 2 + 1 - (0 + 1 + 1) = k * 2 + 1 by omega]
      exact this
/-- Rows of unlike elements lie apart. -/
theorem own_apart {w : World} {B B' n n' s s' : Nat} {e e' : TypeId} {v v' : Value} {xs xs' : List Value} (h : w.ownsRow B e s v n xs) (h' : w.ownsRow B' e' s' v' n' xs') (he : e ≠ e') :
    v.ownBlock = none ∨ v.ownBlock ≠ v'.ownBlock := by
  rcases h.2 with ⟨rfl, _⟩ | ⟨g, cap, cur, rfl, _, hg, _⟩
  · exact .inl rfl
  · right
    rcases h'.2 with ⟨rfl, _⟩ | ⟨g', cap', cur', rfl, _, hg', _⟩
    · simp [Value.ownBlock]
    · intro hh
      simp only [Value.ownBlock, Option.some.injEq] at hh
      subst hh
      rw [hg] at hg'
      injection hg' with hg'
      injection hg' with _ h2 _
      exact he h2
/-- A row stays where nothing below a place beyond it has changed. -/
theorem own_only {w w' : World} {B n s g : Nat} {e : TypeId} {v : Value} {xs : List Value} (h : w.ownsRow B e s v n xs) (ho : Only g w w') (hg : g < B) : w'.ownsRow B e s v n xs := by
  refine ⟨h.1, ?_⟩
  rcases h.2 with hn | ⟨g', cap, cur, rfl, hb, hgg, rest⟩
  · exact .inl hn
  · exact .inr ⟨g', cap, cur, rfl, hb, (ho.block g' (by omega)).trans hgg, rest⟩
theorem own_lower {w : World} {B B' n s : Nat} {e : TypeId} {v : Value} {xs : List Value} (h : w.ownsRow B' e s v n xs) (hB : B ≤ B') : w.ownsRow B e s v n xs := by
  obtain ⟨h1, h2⟩ := h
  rcases h2 with h2 | ⟨g, cap, cur, hv, hg, r⟩
  · exact ⟨h1, .inl h2⟩
  · exact ⟨h1, .inr ⟨g, cap, cur, hv, Nat.le_trans hB hg, r⟩⟩
/-- A new row of one field. -/
theorem own_field (w : World) (B : Nat) (hB : B ≤ w.heap.size) (x y : Value) (t : TypeId) : (w.alloc (.cells #[x, y] t)).ownsRow B t 2 (.slice (some ⟨w.heap.size, 0, none⟩) 1 1) 1 [x, y] :=
  ⟨rfl, .inr ⟨w.heap.size, 1, #[x, y], rfl, hB, heap_alloc_new w _, Nat.le_refl _, by decide, rfl, rfl⟩⟩
theorem grown_out {w w' : World} {g B n s : Nat} {e : TypeId} {l : List Bool} {v : Value} {xs : List Value} (h : OutIs w g l) (hr : w.ownsRow B e s v n xs) (hg : w.grownBy w' v.ownBlock) (hB : g < B) : OutIs w' g l := by
  refine out_cells h (hg.block g (out_lt h) fun hh => ?_)
  have := (hr.lt g hh.symm).1
  omega
end Go.Proofs.Yticpjkbcchghjaa
