/- The reference's Sum. -/
import Derived.Test.YtojhhcfpnbdobaaRefS
namespace Go.Proofs.Ytojhhcfpnbdobaa
open Go.RowKit

attribute [local irreducible] M.stepL

def sumL (bs : List Nat) : Nat := bs.foldl M.stepL 4294967295
theorem stepL_lt (s x : Nat) : M.stepL s x < 4294967296 := by
  rw [M.stepL_def]
  have h := M.num_lt (M.roundsL 8 (M.mixK (M.bitsOf s 32) (M.bitsOf x 8) 8))
  rw [M.roundsL_length _ _ (by rw [M.mixK_length, M.bitsOf_length])] at h
  exact h
theorem foldl_bound (f : Nat → Nat → Nat) (N : Nat) (hf : ∀ s x, f s x < N) (bs : List Nat) (s : Nat) (hs : s < N) : bs.foldl f s < N := by
  induction bs generalizing s with
  | nil => exact hs
  | cons b bs ih => rw [List.foldl_cons]; exact ih _ (hf s b)
theorem sumL_lt (bs : List Nat) : sumL bs < 4294967296 := foldl_bound M.stepL 4294967296 stepL_lt bs 4294967295 (by omega)
theorem sumL_snoc (bs : List Nat) (x : Nat) : sumL (bs ++ [x]) = M.stepL (sumL bs) x := by unfold sumL; rw [List.foldl_append]; rfl

set_option maxHeartbeats 1000000 in
theorem rsum_any (bs : List Nat) (n : Nat) (a : Option Addr) (cap : Nat) (w : World) (hn : bs.length = n) (hl : n ≤ 1000000) (h8 : ∀ x ∈ bs, x < 256) (hh : Holds w a (u8s bs)) :
    Calls Try.prog 47 #[.slice a n cap] w fun e w' => e = .returned (.int .u32 (sumL bs : Nat)) ∧ Below w.heap.size w w' := by
  have hH := Lib.hid (fun w' (hb : Below w.heap.size w w') => hh.below hb)
  have Hn := Lib.hid hn
  have H8 := Lib.hid h8
  clear hn hh h8
  obtain ⟨B, hB⟩ : ∃ B, w.heap.size = B := ⟨_, rfl⟩
  rw [hB] at hH ⊢
  have HB := Lib.hid hB
  clear hB
  go_enter Try.func47, Try.ntmps47
  go_wp2
  go_loopw [3, 4] (fun v i wr => ∃ k q : Nat, k ≤ n ∧ i = .int .i64 k ∧ v = .int .u32 q ∧ Hid (q = sumL (bs.take k)) ∧ Hid (Below B w wr)) (fun _ i _ => (n - intOf i).toNat)
  case atStart => exact ⟨0, 4294967295, Nat.zero_le _, rfl, rfl, rfl, Below.refl _ _⟩
  case round =>
    obtain ⟨k, q, hk, rfl, rfl, hq, hbl⟩ := hrel
    by_cases hlt : k < n
    · have hkl : k < bs.length := by rw [Hn.out]; exact hlt
      obtain ⟨b, off, rfl, hc⟩ := hH.out wr hbl.out k (.int .u8 (bs[k] : Nat)) (by unfold u8s; rw [List.getElem?_map, List.getElem?_eq_getElem hkl]; rfl)
      have hx8 : bs[k] < 256 := H8.out _ (List.getElem_mem hkl)
      have hs : sumL (bs.take (k + 1)) = M.stepL (sumL (bs.take k)) bs[k] := by rw [List.take_succ_eq_append_getElem hkl, sumL_snoc]
      have hql : q < 4294967296 := by rw [hq.out]; exact sumL_lt _
      rw [← hq.out] at hs
      generalize bs[k] = x at hc hx8 hs
      have HS := Lib.hid hs
      have HQ := Lib.hid hql
      have HX := Lib.hid hx8
      have hBs : Hid (B ≤ wr.heap.size) := by show _ ≤ _; have := hbl.out.size; have := HB.out; omega
      clear hs hql hx8
      go_wp2_with (go_at_call 49; refine (rstep_any q x _ HQ.out HX.out).mono ?_; rintro e w1 ⟨rfl, hb1⟩; have HB1 := Lib.hid (hbl.out.trans (hb1.mono hBs.out)); clear hb1)
      go_roundw
      case rel => exact ⟨k + 1, _, by omega, by go_num, rfl, HS.out.symm, HB1⟩
      case measure => simp [intOf]; omega
    · go_wp2
      go_ret
      refine ⟨ret_int ?_, hbl.out⟩
      rw [hq.out, List.take_of_length_le (by rw [Hn.out]; omega)]
end Go.Proofs.Ytojhhcfpnbdobaa
