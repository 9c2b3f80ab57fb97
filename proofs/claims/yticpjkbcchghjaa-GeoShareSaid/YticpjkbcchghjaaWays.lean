/- Slices of the call's own and slices that came in, read. -/
import Derived.Test.YticpjkbcchghjaaBegun
import Derived.Test.YticpjkbcchghjaaShort
namespace Go.Proofs.Yticpjkbcchghjaa
open Go.RowKit

/-- A slice of the call's own, as it is read. -/
theorem own_read {w : World} {B n : Nat} {e : TypeId} {v : Value} {xs : List Value} (h : w.ownsRow B e 1 v n xs) :
    ∃ a cap, v = .slice a n cap ∧ n ≤ cap ∧ cap ≤ 9223372036854775807 ∧ Holds w a xs ∧ ((a = none ∧ n = 0 ∧ cap = 0) ∨ ∃ g, a = some ⟨g, 0, none⟩ ∧ B ≤ g ∧ g < w.heap.size) := by
  have hl : xs.length = n := by simpa using h.1
  rcases h.2 with ⟨hv, hn⟩ | ⟨g, cap2, cur, hv, _, _, hle, h5, _⟩
  · subst hv; subst hn
    have : xs = [] := List.length_eq_zero_iff.1 hl
    subst this
    exact ⟨none, 0, rfl, Nat.le_refl _, by omega, fun _ x hx => by simp at hx, .inl ⟨rfl, rfl, rfl⟩⟩
  · obtain ⟨a, cap, hv2, hle2, hh⟩ := reads_of_own h
    rw [hl] at hv2 hle2
    rw [hv] at hv2
    injection hv2 with e1 e2 e3
    subst e1; subst e3
    have := h.lt g (by rw [hv]; rfl)
    exact ⟨_, _, hv, hle2, by unfold maxLen at h5; omega, hh, .inr ⟨g, rfl, this.1, this.2⟩⟩

theorem IsInts.at {w : World} {a : Option Addr} {len cap : Nat} {zs : List Int} (h : IsInts w a len cap zs) (i : Nat) (hi : i < len) :
    ∃ b off, a = some ⟨b, off, Option.none⟩ ∧ w.cell? ⟨b, off + i, Option.none⟩ = some (.int .i64 (zs.getD i 0)) ∧ -9223372036854775808 ≤ zs.getD i 0 ∧ zs.getD i 0 ≤ 9223372036854775807 := by
  have hb : i < zs.length := by rw [h.size]; exact hi
  obtain ⟨b, off, e, hc⟩ := h.row i (.int .i64 zs[i]) (by rw [List.getElem?_map, List.getElem?_eq_getElem hb]; rfl)
  have e2 : zs.getD i 0 = zs[i] := by simp [List.getD, List.getElem?_eq_getElem hb]
  rw [e2]
  exact ⟨b, off, e, hc, h.bound _ (List.getElem_mem hb)⟩
theorem Holds.only {w w' : World} {a : Option Addr} {l : List Value} {g : Nat} (h : Holds w a l) (ho : Only g w w') (hne : ∀ b off, a = some ⟨b, off, none⟩ → b ≠ g) : Holds w' a l :=
  h.mono fun b off _ e _ hc => (World.cell?_of_block (ho.block b (hne b off e))).trans hc
theorem Holds.from {w : World} {b off : Nat} {l : List Value} (h : Holds w (some ⟨b, off, none⟩) l) (p n : Nat) : Holds w (some ⟨b, off + p, none⟩) ((l.drop p).take n) := by
  intro i x hx
  have hin : i < n := by
    have := (List.getElem?_eq_some_iff.1 hx).1
    rw [List.length_take] at this; omega
  rw [List.getElem?_take, if_pos hin, List.getElem?_drop] at hx
  obtain ⟨b', off', e, hc⟩ := h (p + i) x hx
  injection e with e; injection e with e1 e2; subst e1; subst e2
  exact ⟨b, off + p, rfl, by rw [Nat.add_assoc]; exact hc⟩
end Go.Proofs.Yticpjkbcchghjaa
