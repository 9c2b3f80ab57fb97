/- The reference's Of: the bits of bytes. -/
import Derived.Test.YtojhhcfpnbdobaaRefY
namespace Go.Proofs.Ytojhhcfpnbdobaa
open Go.RowKit

theorem own_below {w w' : World} {B C : Nat} {e : TypeId} {size n : Nat} {v : Value} {xs : List Value} (h : w.ownsRow B e size v n xs) (hb : Below C w w') (hC : w.heap.size ≤ C) : w'.ownsRow B e size v n xs := by
  obtain ⟨h1, h2⟩ := h
  refine ⟨h1, ?_⟩
  rcases h2 with h2 | ⟨g, cap, cur, hv, hg, hh, r⟩
  · exact .inl h2
  · have hlt : g < w.heap.size := by
      rcases Nat.lt_or_ge g w.heap.size with h | h
      · exact h
      · rw [Array.getElem?_eq_none (by omega)] at hh; cases hh
    exact .inr ⟨g, cap, cur, hv, hg, (hb.block g (by omega)).trans hh, r⟩

theorem ofN_take (bs : List Nat) (k : Nat) (h : k < bs.length) : M.ofN (bs.take (k + 1)) = M.ofN (bs.take k) ++ M.bitsOf (bs[k]) 8 := by
  rw [List.take_succ_eq_append_getElem h, M.ofN_snoc]

theorem bools_one (l : List Bool) : ∀ x ∈ l.map Value.bool, Value.oneCell' x = true := by
  intro x hx
  obtain ⟨y, _, rfl⟩ := List.mem_map.1 hx
  rfl

set_option maxRecDepth 100000 in
set_option maxHeartbeats 400000 in
theorem rof_any (bs : List Nat) (n : Nat) (a : Option Addr) (cap : Nat) (w : World) (hn : bs.length = n) (hl : n ≤ 1000000) (hb8 : ∀ x ∈ bs, x < 256) (hh : Holds w a (u8s bs)) :
    Calls Try.prog 44 #[.slice a n cap] w fun e w' => ∃ v, e = .returned v ∧ w'.ownsRow w.heap.size 4 1 v (8 * n) ((M.ofN bs).map Value.bool) ∧ Below w.heap.size w w' := by
  obtain ⟨i0, hi, hz0, hz1, hz2⟩ := info_parts Try.infoBool
  have hH := Lib.hid (fun w' (hb : Below w.heap.size w w') => hh.below hb)
  have Hn := Lib.hid hn
  have H8 := Lib.hid hb8
  clear hn hh hb8
  obtain ⟨B, hB⟩ : ∃ B, w.heap.size = B := ⟨_, rfl⟩
  rw [hB] at hH ⊢
  have HB := Lib.hid hB
  clear hB
  go_enter Try.func44, Try.ntmps44
  go_wp2
  go_loopw [3, 4] (fun v i wr => ∃ k : Nat, k ≤ n ∧ i = .int .i64 k ∧ wr.ownsRow B 4 1 v (8 * k) ((M.ofN (bs.take k)).map Value.bool) ∧ Below B w wr) (fun _ i _ => (n - intOf i).toNat)
  case atStart => exact ⟨0, by omega, rfl, World.ownsRow_nil _ _ _ _, Below.refl _ _⟩
  case round =>
    obtain ⟨k, hk, rfl, hown, hbl⟩ := hrel
    by_cases hlt : k < n
    · have hkl : k < bs.length := by rw [Hn.out]; exact hlt
      obtain ⟨b, off, rfl, hc⟩ := hH.out wr hbl k (.int .u8 (bs[k] : Nat)) (by unfold u8s; rw [List.getElem?_map, List.getElem?_eq_getElem hkl]; rfl)
      have hx8 : bs[k] < 256 := H8.out _ (List.getElem_mem hkl)
      have HX := Lib.hid (show M.ofN (bs.take (k + 1)) = _ from ofN_take bs k hkl)
      generalize bs[k] = x at hc hx8 HX
      have hx0 : (0 : Int) ≤ x := by omega
      have hx1 : (x : Int) ≤ 255 := by omega
      have hBs : B ≤ wr.heap.size := by have := hbl.size; have := HB.out; omega
      clear hH
      go_wp2_with fail
      refine (bits_any x 8 _ (by omega) (by omega)).mono ?_
      rintro e w1 ⟨v, rfl, hown1, hbl1⟩
      obtain ⟨g2, cap2, rfl, hg2, hcap2, hcm2, hcells2⟩ := own_spot hown1 (by omega)
      rw [bitVals_all] at hcells2
      have hown2 := own_below hown hbl1 (Nat.le_refl _)
      have hnews : ∀ j u, ((M.bitsOf x 8).map Value.bool)[j]? = some u → w1.cell? ((⟨g2, 0, none⟩ : Addr).add j) = some u := fun j u hj => add_cell (by rw [Nat.zero_add]; exact hcells2 j u hj)
      have HN := Lib.hid hnews
      have HL : Hid (((M.bitsOf x 8).map Value.bool).length = 8 * 1) := by show _ = _; rw [List.length_map, M.bitsOf_length]
      have hc5 : B ≤ w1.heap.size := Nat.le_trans hBs hbl1.size
      have HC3 : Hid (8 * k + 8 ≤ maxLen) := by unfold maxLen; show _ ≤ _; omega
      clear hcells2 hnews hown1 hown
      go_wp2_with (at_builtin; refine wpList_append_own _ rfl _ _ 36 rfl B 4 i0 (.bool false) 1 1 Try.underlying36 hi hz0 hz1 hz2 rfl (by decide) _ _ _ rfl hown2 ⟨g2, 0, none⟩ 8 cap2 _ rfl HL.out HN.out (bools_one _) HC3.out (by omega) hc5 ?_)
      intro v' w' hown' hgrow _
      have hown3 : w'.ownsRow B 4 1 v' (8 * (k + 1)) ((M.ofN (bs.take (k + 1))).map Value.bool) := by rw [HX.out, List.map_append]; exact hown'
      have hbl2 : Below B w w' := below_grown (hbl.trans (hbl1.mono hBs)) hc5 hown2 hgrow
      clear hown' hgrow hown2 hbl hbl1
      go_wp2
      go_roundw
      case rel => exact ⟨k + 1, by omega, by go_num, hown3, hbl2⟩
      case measure => simp [intOf]; omega
    · clear hH
      go_wp2
      go_ret
      obtain rfl : k = n := by omega
      rw [List.take_of_length_le (by rw [Hn.out]; omega)] at hown
      exact ⟨_, rfl, hown, hbl⟩
end Go.Proofs.Ytojhhcfpnbdobaa
