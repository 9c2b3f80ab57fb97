/- Package bits: Len, Bytes, Read, Left. -/
import Derived.Test.YtobkbbbdddllmaaBits
import Derived.BigQuiet
import Derived.Deep.QuietTactic
namespace Go.Proofs.Ytobkbbbdddllmaa
open Go.RowKit

theorem u8s_one (l : List Nat) : ∀ x ∈ u8s l, Value.oneCell' x = true := by
  intro x hx
  obtain ⟨y, _, rfl⟩ := List.mem_map.1 hx
  rfl
theorem u8s_length (l : List Nat) : (u8s l).length = l.length := by simp [u8s]

theorem holds_out {w : World} {g n : Nat} {l : List Bool} (ho : OutIs w g l) (hn : n ≤ 512) : Holds w (some ⟨g, 0, none⟩) (u8s (M.bytesN l n)) := by
  intro i x hx
  have hi : i < n := by
    rcases Nat.lt_or_ge i n with h | h
    · exact h
    · rw [List.getElem?_eq_none (by rw [u8s_length, M.bytesN_length]; exact h)] at hx; cases hx
  refine ⟨g, 0, rfl, ?_⟩
  rw [Nat.zero_add, ho.bytes i (by omega), ← hx]
  unfold u8s M.bytesN
  simp [List.getElem?_range hi]

/-- Block g is an In over the bytes bs, of which so many bits are read. -/
structure InIs (w : World) (g : Nat) (bs : List Nat) (pos : Nat) : Prop where
  row : ∃ a cap, w.cell? ⟨g, 0, none⟩ = some (.slice a bs.length cap) ∧ Holds w a (u8s bs) ∧ ∀ b off, a = some ⟨b, off, none⟩ → b ≠ g
  small : ∀ x ∈ bs, x < 256
  size : bs.length ≤ 1000000
  place : w.cell? ⟨g, 1, none⟩ = some (.int .i64 pos)
  free : w.frozen? ⟨g, 1, none⟩ = false
  fits : pos ≤ 8 * bs.length

theorem holds_alloc {w : World} {a : Option Addr} {l : List Value} (h : Holds w a l) (o : Obj) : Holds (w.alloc o) a l :=
  h.below ((Below.refl _ _).alloc (Nat.le_refl _) o)

end Go.Proofs.Ytobkbbbdddllmaa
