/- Slices that came in. -/
import Derived.Test.YticpjkbcchghjaaRefY
import Derived.OpenShut
namespace Go.Proofs.Yticpjkbcchghjaa
open Go.RowKit

/-- A slice of bytes that came in. -/
structure IsBytes (w : World) (a : Option Addr) (len cap : Nat) (bs : List Nat) : Prop where
  size : bs.length = len
  fits : len ≤ cap
  small : cap ≤ 9223372036854775807
  byte : ∀ x ∈ bs, x < 256
  none : a = none → len = 0 ∧ cap = 0
  row : Holds w a (u8s bs)
/-- A slice of ints that came in. -/
structure IsInts (w : World) (a : Option Addr) (len cap : Nat) (zs : List Int) : Prop where
  size : zs.length = len
  fits : len ≤ cap
  small : cap ≤ 9223372036854775807
  bound : ∀ x ∈ zs, -9223372036854775808 ≤ x ∧ x ≤ 9223372036854775807
  none : a = none → len = 0 ∧ cap = 0
  row : Holds w a (zs.map (Value.int .i64))

theorem bytes_none (w : World) : IsBytes w none 0 0 [] :=
  ⟨rfl, Nat.le_refl _, by omega, fun x h => by simp at h, fun _ => ⟨rfl, rfl⟩, fun i x h => by simp [u8s] at h⟩
theorem ints_none (w : World) : IsInts w none 0 0 [] :=
  ⟨rfl, Nat.le_refl _, by omega, fun x h => by simp at h, fun _ => ⟨rfl, rfl⟩, fun i x h => by simp at h⟩
theorem bytes_in {w : World} {x : Addr} {len cap : Nat} {zs : List Int} (hl : len ≤ cap) (hm : cap ≤ maxLen) (hz : zs.length = cap)
    (hc : ∀ i, i < zs.length → w.cell? (x.add i) = some (.int .u8 (zs.getD i 0))) (hw : ∀ n ∈ zs, (Lit.int .u8 n).wf = true) :
    IsBytes w (some x) len cap ((zs.take len).map Int.toNat) := by
  have h8 : ∀ n ∈ zs, 0 ≤ n ∧ n ≤ 255 := fun n hn => by
    simpa [Lit.wf, IntKind.min, IntKind.max, IntKind.signed, IntKind.bits] using hw n hn
  refine ⟨by rw [List.length_map, List.length_take]; omega, hl, by unfold maxLen at hm; omega, ?_, (fun h => by cases h), ?_⟩
  · intro y hy
    obtain ⟨n, hn, rfl⟩ := List.mem_map.1 hy
    have := h8 n (List.mem_of_mem_take hn)
    omega
  · intro i v hv
    have hil : i < len := by
      have := (List.getElem?_eq_some_iff.1 hv).1
      unfold u8s at this
      rw [List.length_map, List.length_map, List.length_take] at this; omega
    obtain ⟨b, off, rfl, hcells⟩ := ints_at hc (by omega)
    refine ⟨b, off, rfl, ?_⟩
    rw [hcells i (by omega), ← hv]
    unfold u8s
    have hlt : i < zs.length := by omega
    have h0 := (h8 zs[i] (List.getElem_mem hlt)).1
    rw [List.getElem?_map, List.getElem?_map, List.getElem?_take, if_pos hil, List.getElem?_eq_getElem hlt]
    simp only [Option.map_some, List.getD, List.getElem?_eq_getElem hlt, Option.getD_some]
    rw [Int.toNat_of_nonneg h0]
theorem ints_in {w : World} {x : Addr} {len cap : Nat} {zs : List Int} (hl : len ≤ cap) (hm : cap ≤ maxLen) (hz : zs.length = cap)
    (hc : ∀ i, i < zs.length → w.cell? (x.add i) = some (.int .i64 (zs.getD i 0))) (hw : ∀ n ∈ zs, (Lit.int .i64 n).wf = true) :
    IsInts w (some x) len cap (zs.take len) := by
  have h8 : ∀ n ∈ zs, -9223372036854775808 ≤ n ∧ n ≤ 9223372036854775807 := fun n hn => by
    simpa [Lit.wf, IntKind.min, IntKind.max, IntKind.signed, IntKind.bits] using hw n hn
  refine ⟨by rw [List.length_take]; omega, hl, by unfold maxLen at hm; omega, fun n hn => h8 n (List.mem_of_mem_take hn), (fun h => by cases h), ?_⟩
  intro i v hv
  have hil : i < len := by
    have := (List.getElem?_eq_some_iff.1 hv).1
    rw [List.length_map, List.length_take] at this; omega
  obtain ⟨b, off, rfl, hcells⟩ := ints_at hc (by omega)
  refine ⟨b, off, rfl, ?_⟩
  rw [hcells i (by omega), ← hv]
  have hlt : i < zs.length := by omega
  rw [List.getElem?_map, List.getElem?_take, if_pos hil, List.getElem?_eq_getElem hlt]
  simp only [Option.map_some, List.getD, List.getElem?_eq_getElem hlt, Option.getD_some]
theorem IsBytes.below {w w' : World} {a : Option Addr} {len cap : Nat} {bs : List Nat} (h : IsBytes w a len cap bs) (hb : Below w.heap.size w w') : IsBytes w' a len cap bs :=
  ⟨h.size, h.fits, h.small, h.byte, h.none, h.row.below hb⟩
theorem IsInts.below {w w' : World} {a : Option Addr} {len cap : Nat} {zs : List Int} (h : IsInts w a len cap zs) (hb : Below w.heap.size w w') : IsInts w' a len cap zs :=
  ⟨h.size, h.fits, h.small, h.bound, h.none, h.row.below hb⟩
end Go.Proofs.Yticpjkbcchghjaa
