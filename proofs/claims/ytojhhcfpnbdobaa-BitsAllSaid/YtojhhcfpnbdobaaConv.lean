/- Bytes as a string. -/
import Derived.Test.YtojhhcfpnbdobaaBegun
import Derived.Laws.BytesArg
namespace Go.Proofs.Ytojhhcfpnbdobaa
open Go.RowKit

/-- Bytes as a string. -/
def strN (bs : List Nat) : ByteArray := strOfNums (bs.map fun (x : Nat) => (x : Int))

theorem conv_holds {w : World} {b off n cap : Nat} {bs : List Nat} (hn : bs.length = n) (h : Holds w (some ⟨b, off, none⟩) (u8s bs)) :
    (convert 34 9 (.slice (some ⟨b, off, none⟩) n cap)).run Try.prog w = .ok (.string (strN bs)) w := by
  refine run_convert_bytes_arg w 34 5 Try.underlying34 Try.underlying5 b off n cap _ (by rw [List.length_map]; exact hn) ?_ 9 Try.underlying9
  intro i hi
  obtain ⟨b', off', he, hc⟩ := h i (.int .u8 (bs[i]'(by omega) : Nat)) (by unfold u8s; rw [List.getElem?_map, List.getElem?_eq_getElem (by omega)]; rfl)
  injection he with he
  injection he with h1 h2
  subst h1 h2
  rw [hc]
  simp [List.getD, List.getElem?_eq_getElem (show i < bs.length by omega)]
theorem conv_own {w : World} {B n : Nat} {v : Value} {bs : List Nat} (h : w.ownsRow B 5 1 v n (u8s bs)) :
    (convert 34 9 v).run Try.prog w = .ok (.string (strN bs)) w := by
  have hl : (u8s bs).length = n := by simpa using h.1
  rw [u8s_length] at hl
  obtain ⟨a, cap, hv, hle, hh⟩ := reads_of_own h
  rw [u8s_length] at hv hle
  rcases h.2 with ⟨hv2, hn0⟩ | ⟨g, cap2, cur, hv2, _, _, r⟩
  · rw [hv2]
    have : bs = [] := List.length_eq_zero_iff.1 (by omega)
    subst this
    exact run_convert_bytes_nil w 34 5 Try.underlying34 Try.underlying5 0 0 9 Try.underlying9
  · rw [hv2] at hv ⊢
    injection hv with h1 h2 h3
    subst h1
    exact conv_holds hl hh
end Go.Proofs.Ytojhhcfpnbdobaa
