/- The reference's Of: the bits of bytes. -/
import Derived.Test.YticpjkbcchghjaaRefY
namespace Go.Proofs.Yticpjkbcchghjaa
open Go.RowKit

theorem own_below {w w' : World} {B C : Nat} {e : TypeId} {size n : Nat} {v : Value} {xs : List Value} (h : w.ownsRow B e size v n xs) (hb : Below C w w') (hC : w.heap.size ≤ C) : w'.ownsRow B e size v n xs := by
  obtain ⟨h1, h2⟩ := h
  refine ⟨h1, ?_⟩
  rcases h2 with h2 | ⟨g, cap, cur, hv, hg, hh, r⟩
  · exact .inl h2
  · have hlt : g < w.heap.size := by
      rcases Nat.lt_or_ge g w.heap.size with h | h
      · exact h
      · rw [Array.getElem?_eq_none (by omega)] at hh; cases hh
    exact .inr ⟨g, cap, cur, hv, hg, (hb.block g (by omega)).trans hh, r⟩

theorem ofN_take (bs : List Nat) (k : Nat) (h : k < bs.length) : M.ofN (bs.take (k + 1)) = M.ofN (bs.take k) ++ M.bitsOf (bs[k]) 8 := by
  rw [List.take_succ_eq_append_getElem h, M.ofN_snoc]

theorem bools_one (l : List Bool) : ∀ x ∈ l.map Value.bool, Value.oneCell' x = true := by
  intro x hx
  obtain ⟨y, _, rfl⟩ := List.mem_map.1 hx
  rfl

end Go.Proofs.Yticpjkbcchghjaa
