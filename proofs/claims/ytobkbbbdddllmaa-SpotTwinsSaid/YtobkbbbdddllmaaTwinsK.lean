/- Groups in memory, for SpotTwins. -/
import Derived.Test.YtobkbbbdddllmaaBegunP
import Derived.Test.YtobkbbbdddllmaaEqP
import Derived.Test.YtobkbbbdddllmaaTwinsM
namespace Go.Proofs.Ytobkbbbdddllmaa
open Go.RowKit Mp Go.ChangeMaps

/-- A slice of one-cell things, as it is read. -/
theorem own_form {w : World} {base : Nat} {e : TypeId} {v : Value} {n : Nat} {xs : List Value} (h : w.ownsRow base e 1 v n xs) :
    ∃ a cap, v = .slice a n cap ∧ n ≤ cap ∧ cap ≤ maxLen ∧ ∀ i x, xs[i]? = some x → ∃ g, a = some ⟨g, 0, none⟩ ∧ w.cell? ⟨g, i, none⟩ = some x := by
  have hl : xs.length = n := by simpa using h.1
  rcases h.2 with ⟨rfl, hz⟩ | ⟨g, cap, cur, rfl, h1, h2, h3, h4, h5, h6⟩
  · subst hz
    exact ⟨none, 0, rfl, Nat.le_refl _, by unfold maxLen; omega, fun i x hx => by rw [List.eq_nil_of_length_eq_zero hl] at hx; simp at hx⟩
  · refine ⟨_, cap, rfl, h3, h4, fun i x hx => ⟨g, rfl, ?_⟩⟩
    have hi : i < n := by have := (List.getElem?_eq_some_iff.1 hx).1; omega
    have := congrArg (fun L => L[i]?) h6
    simp only [Nat.mul_one] at this
    rw [List.getElem?_take_of_lt hi, hx] at this
    simp [World.cell?, h2, ← Array.getElem?_toList, this]

/-- want, as it is built: v has vs; each of these has its group. -/
def Want (base : Nat) (w : World) (v : Value) (vs : List Value) (gs : List (List Nat)) : Prop :=
  w.ownsRow base 27 1 v gs.length vs ∧ ∀ (j : Nat) (u : Value) (g : List Nat), vs[j]? = some u → gs[j]? = some g → w.ownsRow base 3 1 u g.length (ints g)

theorem Want.below {base B : Nat} {w w' : World} {v : Value} {vs : List Value} {gs : List (List Nat)} (h : Want base w v vs gs) (hb : Below B w w') (hB : w.heap.size ≤ B) : Want base w' v vs gs :=
  ⟨ownsRow_same h.1 hb.size (fun g hg => hb.block g (Nat.lt_of_lt_of_le (h.1.lt g hg).2 hB)), fun j u g hu hg => ownsRow_same (h.2 j u g hu hg) hb.size (fun q hq => hb.block q (Nat.lt_of_lt_of_le ((h.2 j u g hu hg).lt q hq).2 hB))⟩

/-- Rows of unlike elements lie apart. -/
theorem rows_apart {w : World} {b b' : Nat} {e e' : TypeId} {s s' n n' : Nat} {v u : Value} {xs ys : List Value} (h : w.ownsRow b e s v n xs) (h' : w.ownsRow b' e' s' u n' ys) (hne : e ≠ e') : u.ownBlock = none ∨ u.ownBlock ≠ v.ownBlock := by
  rcases h'.2 with ⟨rfl, _⟩ | ⟨g', cap', cur', rfl, _, hg', _⟩
  · exact .inl rfl
  · rcases h.2 with ⟨rfl, _⟩ | ⟨g, cap, cur, rfl, _, hg, _⟩
    · exact .inr (by simp [Value.ownBlock])
    · refine .inr fun e1 => hne ?_
      have : g' = g := by simpa [Value.ownBlock] using e1
      subst this
      rw [hg] at hg'
      cases hg'
      rfl

/-- A group is put behind. -/
theorem Want.append {base : Nat} {w w2 : World} {v v' u : Value} {vs : List Value} {gs : List (List Nat)} {g : List Nat} (h : Want base w v vs gs) (hu : w.ownsRow base 3 1 u g.length (ints g))
    (hv : w2.ownsRow base 27 1 v' (gs.length + 1) (vs ++ [u])) (hg : w.grownBy w2 v.ownBlock) : Want base w2 v' (vs ++ [u]) (gs ++ [g]) := by
  refine ⟨by simpa using hv, fun j q r hq hr => ?_⟩
  have hl : vs.length = gs.length := by simpa using h.1.1
  rcases Nat.lt_or_ge j gs.length with hj | hj
  · rw [List.getElem?_append_left (by omega)] at hq hr
    have h0 := h.2 j q r hq hr
    exact h0.kept hg (rows_apart h.1 h0 (by decide))
  · have e1 : j = gs.length := by
      have := (List.getElem?_eq_some_iff.1 hr).1
      simp at this; omega
    subst e1
    rw [List.getElem?_append_right (by omega), hl, Nat.sub_self] at hq
    rw [List.getElem?_append_right (Nat.le_refl _), Nat.sub_self] at hr
    simp only [List.getElem?_cons_zero, Option.some.injEq] at hq hr
    subst hq hr
    exact hu.kept hg (rows_apart h.1 hu (by decide))

theorem own_one (w : World) (k : Nat) {base : Nat} (hb : base ≤ w.heap.size) : (w.alloc (.cells #[.int .i64 (k : Int)] 3)).ownsRow base 3 1 (.slice (some ⟨w.heap.size, 0, none⟩) 1 1) 1 [.int .i64 (k : Int)] :=
  ⟨rfl, .inr ⟨w.heap.size, 1, #[.int .i64 (k : Int)], rfl, hb, (MapKept.heap_alloc w _).1, Nat.le_refl _, by unfold maxLen; omega, rfl, rfl⟩⟩

theorem news_one (W : World) (v : Value) (t : TypeId) : ∀ j u, [v][j]? = some u → (W.alloc (.cells #[v] t)).cell? ((⟨W.heap.size, 0, none⟩ : Addr).add j) = some u := fun j u hu => by
  match j, hu with
  | 0, hu =>
    simp only [List.getElem?_cons_zero, Option.some.injEq] at hu
    subst hu
    exact (World.cell?_alloc_at _ _ _ _ rfl).trans rfl
theorem PagesIs.take {w : World} {a : Option Addr} {ps : List (List Nat)} (h : PagesIs w a ps) (n : Nat) : PagesIs w a (ps.take n) := fun i p hp => by
  refine h i p ?_
  rw [List.getElem?_take] at hp
  split at hp
  · exact hp
  · cases hp
end Go.Proofs.Ytobkbbbdddllmaa
