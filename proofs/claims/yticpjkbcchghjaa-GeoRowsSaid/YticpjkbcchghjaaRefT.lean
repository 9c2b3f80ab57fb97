/- The reference's Narrow and Turn. -/
import Derived.Test.YticpjkbcchghjaaRefN
namespace Go.Proofs.Yticpjkbcchghjaa
open Go.RowKit

theorem bitVals_all (u W : Nat) : bitVals u W W = (M.bitsOf u W).map Value.bool := by
  unfold bitVals; rw [Nat.sub_self, Nat.pow_zero, Nat.div_one]

/-- A row of the call's own, not nil: where it lies. -/
theorem own_spot {w : World} {base n : Nat} {e : TypeId} {v : Value} {xs : List Value} (h : w.ownsRow base e 1 v n xs) (hn : 0 < n) :
    ∃ g cap, v = .slice (some ⟨g, 0, none⟩) n cap ∧ base ≤ g ∧ n ≤ cap ∧ cap ≤ maxLen ∧ ∀ i x, xs[i]? = some x → w.cell? ⟨g, i, none⟩ = some x := by
  rcases h.2 with ⟨_, rfl⟩ | ⟨g, cap, cur, rfl, hg, hh, hn2, hm, r⟩
  · omega
  · refine ⟨g, cap, rfl, hg, hn2, hm, fun i x hx => ?_⟩
    have := h.cells rfl i x hx
    by_cases h0 : i = 0
    · subst h0; simpa [Addr.add] using this
    · simpa [Addr.add, h0] using this

end Go.Proofs.Yticpjkbcchghjaa
