/- Places held against one another by ==; slices of places, read. -/
import Derived.Test.YtobkbbbdddllmaaBegunP
import Derived.Test.YtobkbbbdddllmaaArgP
import Derived.Laws.StructEq
namespace Go.Proofs.Ytobkbbbdddllmaa
open Go.RowKit Mp Go.ChangeMaps Go.Sort

theorem eqA (a b : A3) (w : World) : (Op.equalIn 10000 29 (.agg #[.int .i64 a.1, .int .i64 a.2.1, .int .i64 a.2.2]) (.agg #[.int .i64 b.1, .int .i64 b.2.1, .int .i64 b.2.2])).run Try.prog w = .ok (decide (a = b)) w := by
  obtain ⟨x, y, z⟩ := a
  obtain ⟨x', y', z'⟩ := b
  have u3 := Try.underlying3
  have a3 := Try.isAgg3
  have z3 := Try.sizeOf3
  have hS : Try.prog.underlying 29 = some (.struct (Try.prog.fieldsOf 29)) := by kernel_rfl
  have hp : Try.prog.stoodInHeld 29 = false := by kernel_rfl
  rw [show (10000 : Nat) = 9999 + 1 from rfl, run_equalIn_struct w 9999 29 _ _ hS hp]
  simp only [Program.fieldsOf, Try.underlying29]
  go_simp
  by_cases h1 : x = x' <;> by_cases h2 : y = y' <;> by_cases h3 : z = z' <;> simp [h1, h2, h3]

/-- A slice of places, as it is read. -/
theorem SliceA.form {base : Nat} {w : World} {v : Value} {xs : List A3} (h : SliceA base w v xs) :
    ∃ a cap, v = .slice a xs.length cap ∧ xs.length ≤ cap ∧ cap ≤ maxLen ∧ ∀ i x, xs[i]? = some x → ∃ g, a = some ⟨g, 0, none⟩ ∧ base ≤ g ∧ g < w.heap.size ∧
      w.cell? ⟨g, i * 3, none⟩ = some (.int .i64 x.1) ∧ w.cell? ⟨g, i * 3 + 1, none⟩ = some (.int .i64 x.2.1) ∧ w.cell? ⟨g, i * 3 + 2, none⟩ = some (.int .i64 x.2.2) := by
  cases xs with
  | nil =>
    rcases h with ⟨rfl, _⟩ | ⟨g, cap, rfl, h1, h2, _⟩
    · exact ⟨none, 0, rfl, Nat.le_refl _, by unfold maxLen; omega, fun i x hx => by simp at hx⟩
    · exact ⟨_, cap, rfl, h1, h2, fun i x hx => by simp at hx⟩
  | cons p r =>
    have hc := h
    rcases h with ⟨_, e⟩ | ⟨g, cap, rfl, h1, h2, h3, h4, h5⟩
    · cases e
    · obtain ⟨g', cap', e, _, _, _, hcell⟩ := hc.parts (by simp)
      simp only [Value.slice.injEq, Option.some.injEq, Addr.mk.injEq, and_true] at e
      obtain ⟨rfl, _, rfl⟩ := e
      exact ⟨_, cap, rfl, h1, h2, fun i x hx => ⟨g, rfl, h3, h4, hcell i x hx⟩⟩

/-- Of that block of that die? -/
def inP (die blk : Int) (x : A3) : Bool := decide (x.1 = die) && decide (x.2.1 = blk)
theorem pick_filter (die blk : Int) (l : List (A3 × Value)) : pick die blk l = (l.map (·.1)).filter (inP die blk) := by
  unfold pick
  rw [List.filter_map]
  rfl
theorem sortL_pick {l : List (A3 × Value)} (die blk : Int) (h : (l.map (·.1)).Nodup) : sortL (pick die blk l) = (sortL (l.map (·.1))).filter (inP die blk) := by
  have h1 : (sortL (pick die blk l)).Pairwise ltA := sortL_sorted _ (by rw [pick_filter]; exact h.filter _)
  have h2 : ((sortL (l.map (·.1))).filter (inP die blk)).Pairwise ltA := (sortL_sorted _ h).filter _
  refine sorted_eq ?_ h1 h2
  refine (sortL_perm _).trans ?_
  rw [pick_filter]
  exact ((sortL_perm (l.map (·.1))).filter _).symm

theorem take_yes {S : List A3} {j : Nat} {p : A3} {f : A3 → Bool} (hp : S[j]? = some p) (hf : f p = true) : (S.take (j + 1)).filter f = (S.take j).filter f ++ [p] := by
  rw [List.take_add_one, List.filter_append, hp]; simp [hf]
theorem take_no {S : List A3} {j : Nat} {p : A3} {f : A3 → Bool} (hp : S[j]? = some p) (hf : f p = false) : (S.take (j + 1)).filter f = (S.take j).filter f := by
  rw [List.take_add_one, List.filter_append, hp]; simp [hf]
theorem news_at (W : World) (x y z : Int) (t : TypeId) : ∀ j u, (cellsA (x, y, z))[j]? = some u → (W.alloc (.cells #[.int .i64 x, .int .i64 y, .int .i64 z] t)).cell? ((⟨W.heap.size, 0, none⟩ : Addr).add j) = some u := fun j u hu => by
  have e : (⟨W.heap.size, 0, none⟩ : Addr).add j = ⟨W.heap.size, j, none⟩ := by
    simp only [Addr.add, Nat.zero_add]
    split <;> simp_all
  rw [e, World.cell?_alloc_at _ _ _ _ rfl]
  simpa [cellsA] using hu
end Go.Proofs.Ytobkbbbdddllmaa
