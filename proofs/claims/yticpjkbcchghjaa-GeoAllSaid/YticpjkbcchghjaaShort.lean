/- The laws' Short: bytes, cut and copied. -/
import Derived.Test.YticpjkbcchghjaaCame
import Derived.Test.YticpjkbcchghjaaRefM
namespace Go.Proofs.Yticpjkbcchghjaa
open Go.RowKit

namespace M
theorem getD_lt (l : List Nat) (h : ∀ x ∈ l, x < 256) (i : Nat) : l.getD i 0 < 256 := by
  by_cases hi : i < l.length
  · simp only [List.getD, List.getElem?_eq_getElem hi, Option.getD_some]; exact h _ (List.getElem_mem hi)
  · simp only [List.getD, List.getElem?_eq_none (Nat.le_of_not_lt hi)]; decide
end M
theorem own_free8 {w : World} {B n g cap i : Nat} {l : List Value} (h : w.ownsRow B 5 1 (.slice (some ⟨g, 0, none⟩) n cap) n l) :
    w.frozen? ⟨g, i, none⟩ = false := by
  rcases h.2 with ⟨h', _⟩ | ⟨g', cap', cur, h', _, hh, r⟩
  · cases h'
  · injection h' with h1; injection h1 with h1; injection h1 with h1 h2; subst h1
    simp [World.frozen?, hh]
theorem own_cell8 {w : World} {B n g cap i : Nat} {l : List Nat} (h : w.ownsRow B 5 1 (.slice (some ⟨g, 0, none⟩) n cap) n (u8s l)) (hi : i < l.length) :
    w.cell? ⟨g, i, none⟩ = some (.int .u8 (l[i] : Nat)) := by
  have := h.cells rfl i (.int .u8 (l[i] : Nat)) (by unfold u8s; rw [List.getElem?_map, List.getElem?_eq_getElem hi]; rfl)
  by_cases h0 : i = 0
  · subst h0; simpa [Addr.add] using this
  · simpa [Addr.add, h0] using this
theorem u8s_set (l : List Nat) (i : Nat) (v : Nat) : (u8s l).set i (.int .u8 (v : Int)) = u8s (l.set i v) := by
  unfold u8s; rw [List.map_set]
theorem IsBytes.at {w : World} {a : Option Addr} {len cap : Nat} {bs : List Nat} (h : IsBytes w a len cap bs) (i : Nat) (hi : i < len) :
    ∃ b off, a = some ⟨b, off, Option.none⟩ ∧ w.cell? ⟨b, off + i, Option.none⟩ = some (.int .u8 (bs.getD i 0 : Nat)) ∧ bs.getD i 0 < 256 := by
  have hb : i < bs.length := by rw [h.size]; exact hi
  obtain ⟨b, off, e, hc⟩ := h.row i (.int .u8 (bs[i] : Nat)) (by unfold u8s; rw [List.getElem?_map, List.getElem?_eq_getElem hb]; rfl)
  refine ⟨b, off, e, ?_, ?_⟩
  · rw [hc]; simp [List.getD, List.getElem?_eq_getElem hb]
  · simp only [List.getD, List.getElem?_eq_getElem hb, Option.getD_some]; exact h.byte _ (List.getElem_mem hb)
theorem IsBytes.cut {w : World} {a : Option Addr} {len cap : Nat} {bs : List Nat} (h : IsBytes w a len cap bs) (n : Nat) : Holds w a (u8s (bs.take n)) := by
  intro i x hx
  have hin : i < n := by
    have := (List.getElem?_eq_some_iff.1 hx).1
    unfold u8s at this
    rw [List.length_map, List.length_take] at this; omega
  refine h.row i x ?_
  rw [← hx]; unfold u8s
  rw [List.getElem?_map, List.getElem?_map, List.getElem?_take, if_pos hin]
end Go.Proofs.Yticpjkbcchghjaa
