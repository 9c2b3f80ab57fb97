/- The reference's Num: a number of bits. -/
import Derived.Test.YticpjkbcchghjaaRefB
namespace Go.Proofs.Yticpjkbcchghjaa
open Go.RowKit

/-- The memory behind a slice's head holds these values. -/
def Holds (w : World) (a : Option Addr) (l : List Value) : Prop :=
  ∀ i x, l[i]? = some x → ∃ b off, a = some ⟨b, off, none⟩ ∧ w.cell? ⟨b, off + i, none⟩ = some x

/-- A slice value that reads as a list. -/
def Reads (w : World) (v : Value) (l : List Value) : Prop := ∃ a cap, v = .slice a l.length cap ∧ l.length ≤ cap ∧ Holds w a l

theorem reads_of_own {w : World} {base n : Nat} {e : TypeId} {v : Value} {xs : List Value} (h : w.ownsRow base e 1 v n xs) : Reads w v xs := by
  have hl : xs.length = n := by simpa using h.1
  have h2 := h
  rcases h.2 with ⟨rfl, rfl⟩ | ⟨g, cap, cur, rfl, hg, hh, hn, r⟩
  · have : xs = [] := List.length_eq_zero_iff.1 hl
    subst this
    exact ⟨none, 0, rfl, Nat.le_refl _, fun i x hx => by simp at hx⟩
  · refine ⟨some ⟨g, 0, none⟩, cap, by rw [hl], by rw [hl]; exact hn, fun i x hx => ⟨g, 0, rfl, ?_⟩⟩
    have := h2.cells rfl i x hx
    by_cases h0 : i = 0
    · subst h0; simpa [Addr.add] using this
    · simpa [Addr.add, h0] using this

theorem Holds.mono {w w' : World} {a : Option Addr} {l : List Value} (h : Holds w a l) (hw : ∀ b off x, a = some ⟨b, off, none⟩ → ∀ i, w.cell? ⟨b, off + i, none⟩ = some x → w'.cell? ⟨b, off + i, none⟩ = some x) : Holds w' a l := by
  intro i x hx
  obtain ⟨b, off, ha, hc⟩ := h i x hx
  exact ⟨b, off, ha, hw b off x ha i hc⟩

end Go.Proofs.Yticpjkbcchghjaa
