/- Slices of fields that came in. -/
import Derived.Test.YticpjkbcchghjaaWays
import Derived.Deep.SlicePairs
namespace Go.Proofs.Yticpjkbcchghjaa
open Go.RowKit

/-- A slice of pairs (a word, an int) that came in. -/
structure IsPairs (w : World) (a : Option Addr) (len cap : Nat) (ps : List (Int × Int)) : Prop where
  size : ps.length = len
  fits : len ≤ cap
  small : cap ≤ 9223372036854775807
  none : a = none → len = 0 ∧ cap = 0
  row : ∀ i, i < len → ∃ b off, a = some ⟨b, off, Option.none⟩ ∧ w.cell? ⟨b, off + i * 2, Option.none⟩ = some (.int .u64 (ps.getD i (0, 0)).1) ∧ w.cell? ⟨b, off + i * 2 + 1, Option.none⟩ = some (.int .i64 (ps.getD i (0, 0)).2) ∧
    0 ≤ (ps.getD i (0, 0)).1 ∧ (ps.getD i (0, 0)).1 ≤ 18446744073709551615 ∧ -9223372036854775808 ≤ (ps.getD i (0, 0)).2 ∧ (ps.getD i (0, 0)).2 ≤ 9223372036854775807
theorem IsPairs.below {w w' : World} {a : Option Addr} {len cap : Nat} {ps : List (Int × Int)} (h : IsPairs w a len cap ps) (hb : Below w.heap.size w w') : IsPairs w' a len cap ps := by
  refine ⟨h.size, h.fits, h.small, h.none, fun i hi => ?_⟩
  obtain ⟨b, off, e, c0, c1, r⟩ := h.row i hi
  exact ⟨b, off, e, (hb.cell (World.block_lt_of_cell? w _ c0)).trans c0, (hb.cell (World.block_lt_of_cell? w _ c1)).trans c1, r⟩
theorem pairs_none (w : World) : IsPairs w none 0 0 [] := ⟨rfl, Nat.le_refl _, by omega, fun _ => ⟨rfl, rfl⟩, fun i h => by omega⟩
theorem pairs_in {w : World} {x : Addr} {len cap : Nat} {V0 V1 : Nat → Value} {u v : Nat → Int} (hl : len ≤ cap) (hm : cap ≤ maxLen)
    (hc : ∀ i, i < cap → w.cell? (x.add (i * 2)) = some (V0 i) ∧ w.cell? (x.add (i * 2 + 1)) = some (V1 i))
    (hu : ∀ i, i < cap → V0 i = .int .u64 (u i) ∧ (Lit.int .u64 (u i)).wf = true) (hv : ∀ i, i < cap → V1 i = .int .i64 (v i) ∧ (Lit.int .i64 (v i)).wf = true) :
    IsPairs w (some x) len cap ((List.range len).map fun i => (u i, v i)) := by
  refine ⟨by rw [List.length_map, List.length_range], hl, by unfold maxLen at hm; omega, (fun h => by cases h), fun i hi => ?_⟩
  have hic : i < cap := by omega
  obtain ⟨c0, c1⟩ := hc i hic
  obtain ⟨e0, f0⟩ := hu i hic
  obtain ⟨e1, f1⟩ := hv i hic
  have hg : ((List.range len).map fun i => (u i, v i)).getD i (0, 0) = (u i, v i) := by simp [List.getD, List.getElem?_range hi]
  obtain ⟨b, off, spot⟩ := x
  have hspot : spot = Option.none := by
    have h0 := World.cell?_spot (hc 0 (by omega)).1
    rwa [Nat.zero_mul, show (⟨b, off, spot⟩ : Addr).add 0 = ⟨b, off, spot⟩ from rfl] at h0
  subst hspot
  rw [Go.WideShapes.add_plain] at c0 c1
  refine ⟨b, off, rfl, ?_, ?_, ?_⟩
  · rw [hg, c0, e0]
  · rw [hg, show off + i * 2 + 1 = off + (i * 2 + 1) by omega, c1, e1]
  · rw [hg]
    have g0 : 0 ≤ u i ∧ u i ≤ 18446744073709551615 := by simpa [Lit.wf, IntKind.min, IntKind.max, IntKind.signed, IntKind.bits] using f0
    have g1 : -9223372036854775808 ≤ v i ∧ v i ≤ 9223372036854775807 := by simpa [Lit.wf, IntKind.min, IntKind.max, IntKind.signed, IntKind.bits] using f1
    exact ⟨g0.1, g0.2, g1.1, g1.2⟩
end Go.Proofs.Yticpjkbcchghjaa
