/- The law KoopTurn: the walk. -/
import Derived.Test.YtojhhcfpnbdobaaBegun
import Derived.Test.YtojhhcfpnbdobaaKoopT
import Derived.Test.YtojhhcfpnbdobaaShort
namespace Go.Proofs.Ytojhhcfpnbdobaa
open Go.RowKit

attribute [local irreducible] M.turnN M.anyT M.sumV

set_option maxRecDepth 100000 in
set_option maxHeartbeats 4000000 in
theorem koopTurn_walk (a : Option Addr) (len cap : Nat) (bs : List Nat) (f t : Int) (w : World) (hb : IsBytes w a len cap bs) (_ : (Lit.int .i64 f).wf = true) (ht : (Lit.int .u32 t).wf = true) :
    Calls Try.prog 9 #[.slice a len cap, .int .i64 f, .int .u32 t] w fun e w' => e = .returned (.bool true) ∧ Below w.heap.size w w' := by
  obtain ⟨t1, t2⟩ : 0 ≤ t ∧ t ≤ 4294967295 := by simpa [Lit.wf, IntKind.min, IntKind.max, IntKind.signed, IntKind.bits] using ht
  clear ht
  obtain ⟨T, rfl⟩ := Int.eq_ofNat_of_zero_le t1
  have hT : T < 4294967296 := by omega
  have HBY := Lib.hid hb
  have hlen : len ≤ 9223372036854775807 := Nat.le_trans hb.fits hb.small
  have hsz := Lib.hid hb.size
  clear hb
  go_enter Try.func9, Try.ntmps9
  go_wp2_with (go_at_call 21; refine (begun_any _).mono ?_; rintro e w1 ⟨rfl, hb1⟩; have HB1 := Lib.hid hb1; clear hb1)
  refine (short_any bs len cap 80 a _ (HBY.out.below HB1.out) (by omega)).mono ?_
  rintro e w2 ⟨v, rfl, hown, hb2⟩
  have hw1 := HB1.out.size
  have HB2 := Lib.hid (HB1.out.trans (hb2.mono hw1))
  obtain ⟨c, hc⟩ : ∃ c, min len 80 = c := ⟨_, rfl⟩
  have hc80 : c ≤ 80 := by omega
  have hL : (bs.take 80).length = c := by rw [List.length_take, hsz.out]; omega
  have hL8 : ∀ x ∈ bs.take 80, x < 256 := fun x hx => HBY.out.byte x (List.mem_of_mem_take hx)
  rw [hc] at hown
  generalize bs.take 80 = L at hown hL hL8
  have HL := Lib.hid hL
  have HL8 := Lib.hid hL8
  clear hL hL8 hc hb2
  by_cases hc0 : c = 0
  · subst hc0
    obtain ⟨a2, cap2, hv, _, _⟩ := reads_of_own hown
    have : (u8s L).length = 0 := by unfold u8s; rw [List.length_map, HL.out]
    rw [this] at hv
    subst hv
    clear hown this
    go_wp2
    go_ret
    exact ⟨rfl, HB2.out⟩
  obtain ⟨g, cap2, rfl, hg, hcap2, hcm2, _⟩ := own_spot hown (by omega)
  have HO := Lib.hid hown
  unfold maxLen at hcm2
  clear hown
  have hcz : ((c : Int) == 0) = false := by simp; omega
  by_cases hf : f < 0
  · go_wp2
    go_ret
    exact ⟨rfl, HB2.out⟩
  obtain ⟨F0, rfl⟩ : ∃ F : Nat, f = F := ⟨f.toNat, by omega⟩
  clear hf
  obtain ⟨F, hF⟩ : ∃ F : Nat, F0 % (8 * c) = F := ⟨_, rfl⟩
  have hFl : F < 8 * c := by rw [← hF]; exact Nat.mod_lt _ (by omega)
  have hFI : (F0 : Int) % (8 * (c : Int)) = (F : Int) := by rw [← hF]; simp
  clear hF
  obtain ⟨i0, hi, hz0, hz1, hz2⟩ := info_parts Try.infoByte
  have HNIL := Lib.hid (World.ownsRow_nil w2 w2.heap.size 5 1)
  have HLE := Lib.hid (Nat.le_refl w2.heap.size)
  have hone : ∀ u ∈ u8s L, Value.oneCell' u = true := by
    intro u hu
    obtain ⟨y, _, rfl⟩ := List.mem_map.1 hu
    rfl
  have HONE := Lib.hid hone
  have HLU : Hid ((u8s L).length = c * 1) := by show _ = _; unfold u8s; rw [List.length_map, HL.out, Nat.mul_one]
  have HC3 : Hid (0 + c ≤ maxLen) := by unfold maxLen; show _ ≤ _; omega
  have HN : Hid (∀ j u, (u8s L)[j]? = some u → w2.cell? ((⟨g, 0, none⟩ : Addr).add j) = some u) := fun j u hj => HO.out.cells rfl j u hj
  clear hone
  go_wp2_with (at_builtin; refine wpList_append_own _ rfl _ _ 34 rfl w2.heap.size 5 i0 (.int .u8 0) 1 1 Try.underlying34 hi hz0 hz1 hz2 rfl (by decide) (.slice none 0 0) 0 [] rfl HNIL.out ⟨g, 0, none⟩ c cap2 (u8s L) rfl HLU.out HN.out HONE.out HC3.out (by omega) HLE.out ?_)
  intro v' w3 hown' hgrow _
  have hbl3 := below_grown (Below.refl w2.heap.size w2) (Nat.le_refl _) HNIL.out hgrow
  obtain ⟨g3, cap3, rfl, hg3, hcap3, hcm3, _⟩ := own_spot hown' (by omega)
  unfold maxLen at hcm3
  have HO3 := Lib.hid hown'
  have HB3 := Lib.hid hbl3
  clear hown' hbl3 hgrow HNIL HLE HONE HLU HC3 HN
  go_wp2
  rw [hFI]
  go_loopw [9, 10] (fun r i wr => ∃ k : Nat, k ≤ 32 ∧ F + k ≤ 8 * c ∧ i = .int .i64 k ∧ r = .bool (M.anyT T k) ∧ Hid (wr.ownsRow w2.heap.size 5 1 (.slice (some ⟨g3, 0, none⟩) c cap3) c (u8s (M.turnN L F T k))) ∧ Hid (Below w2.heap.size w2 wr)) (fun _ i _ => (32 - intOf i).toNat)
  case atStart => exact ⟨0, Nat.zero_le _, by omega, rfl, by rw [M.anyT_zero], by rw [M.turnN_zero]; exact HO3, HB3⟩
  case round =>
    obtain ⟨k, hk, hFk, rfl, rfl, hr, hbl⟩ := hrel
    by_cases hlt : k < 32 ∧ F + k < 8 * c
    · obtain ⟨hk32, hFk2⟩ := hlt
      have hFkI : (F : Int) + k < 8 * (c : Int) := by omega
      have hba := M.bit_and T k hT
      obtain ⟨x, hx⟩ : ∃ x, T / 2 ^ k % 2 = x := ⟨_, rfl⟩
      rw [hx] at hba
      have hx1 : x ≤ 1 := by omega
      have htb : T.testBit k = (x == 1) := by rw [Nat.testBit_eq_decide_div_mod_eq, hx]; rfl
      obtain ⟨q, hq⟩ : ∃ q, (F + k) / 8 = q := ⟨_, rfl⟩
      obtain ⟨p, hp⟩ : ∃ p, (F + k) % 8 = p := ⟨_, rfl⟩
      have hqc : q < c := by omega
      have hqI : ((F : Int) + k) / 8 = (q : Int) := by omega
      have hpI : ((F : Int) + k) % 8 = (p : Int) := by omega
      have hp8 : p < 8 := by omega
      have hll : (M.turnN L F T k).length = c := by rw [M.turnN_length, HL.out]
      have hc3 := own_cell8 (i := q) hr.out (by omega)
      have hf3 := own_free8 (i := q) hr.out
      by_cases h1 : x = 1
      · subst h1
        have hold : (M.turnN L F T k)[q] = (M.turnN L F T k).getD q 0 := by simp [List.getD, List.getElem?_eq_getElem (show q < (M.turnN L F T k).length by omega)]
        rw [hold] at hc3
        have ho8 : (M.turnN L F T k).getD q 0 < 256 := by rw [← hold]; exact M.turnN_byte L F T k HL8.out _ (List.getElem_mem _)
        have hnx := M.turnN_on L F T k q p (by rw [htb]; rfl) hq hp
        have hax := M.anyT_on T k (by rw [htb]; rfl)
        have hst := (hr.out.stored q (.int .u8 (((M.turnN L F T k).getD q 0 ^^^ 128 / 2 ^ p : Nat) : Int))).1
        rw [u8s_set, ← hnx] at hst
        have hst4 := hbl.out.setCell (p := ⟨g3, q, none⟩) hg3 (.int .u8 (((M.turnN L F T k).getD q 0 ^^^ 128 / 2 ^ p : Nat) : Int))
        have HS1 := Lib.hid hst
        have HS4 := Lib.hid hst4
        have HAX := Lib.hid hax
        clear hst hst4 hold hnx hll hax htb
        generalize (M.turnN L F T k).getD q 0 = old at hc3 ho8 HS1 HS4
        have hml := M.mask_lt p
        have e1 : bits BinOp.xor IntKind.u8 (old : Int) ((128 : Int) / 2 ^ p) = ((old ^^^ 128 / 2 ^ p : Nat) : Int) := by
          rw [show ((128 : Int) / 2 ^ p) = ((128 / 2 ^ p : Nat) : Int) by simp]; exact u8_xor_nat old _ ho8 hml
        go_wp2
        exact ⟨⟨k + 1, by omega, by omega, by go_num, by rw [HAX.out], HS1.out, HS4.out⟩, by simp [intOf]; omega⟩
      · have h0 : x = 0 := by omega
        subst h0
        have hnx := M.turnN_off L F T k (by rw [htb]; rfl)
        have hax := M.anyT_off T k (by rw [htb]; rfl)
        have HNX := Lib.hid hnx
        have HAX := Lib.hid hax
        clear hnx hax hll htb h1 hc3
        go_wp2
        go_roundw
        case rel => exact ⟨k + 1, by omega, by omega, by go_num, by rw [HAX.out], by rw [HNX.out]; exact hr, hbl⟩
        case measure => simp [intOf]; omega
    · have hts := M.turn_sum L F T k (by rw [HL.out]; exact hFk) hk 0xffffffff#32
      obtain ⟨n1, hn1⟩ : ∃ n, (M.sumV 0xffffffff#32 L).toNat = n := ⟨_, rfl⟩
      obtain ⟨n2, hn2⟩ : ∃ n, (M.sumV 0xffffffff#32 (M.turnN L F T k)).toNat = n := ⟨_, rfl⟩
      have hts2 : (n1 = n2) ↔ M.anyT T k = false := by
        rw [← hts, ← hn1, ← hn2]
        exact ⟨fun h => BitVec.eq_of_toNat_eq h, fun h => by rw [h]⟩
      have hh1 : Holds wr (some ⟨g, 0, none⟩) (u8s L) := by
        obtain ⟨a', cap', he, _, hh⟩ := reads_of_own (own_below HO.out hbl.out (Nat.le_refl _))
        injection he with he1
        subst he1
        exact hh
      have hh2 : Holds wr (some ⟨g3, 0, none⟩) (u8s (M.turnN L F T k)) := by
        obtain ⟨a', cap', he, _, hh⟩ := reads_of_own hr.out
        injection he with he1
        subst he1
        exact hh
      have c1 : Hid (Calls Try.prog 46 #[.slice (some ⟨g, 0, none⟩) c cap2] wr fun e w'' => e = .returned (.int .u32 n1) ∧ wr = w'') := by
        rw [← hn1]; exact kof_any L c _ cap2 wr HL.out (by omega) HL8.out hh1
      have c2 : Hid (Calls Try.prog 46 #[.slice (some ⟨g3, 0, none⟩) c cap3] wr fun e w'' => e = .returned (.int .u32 n2) ∧ wr = w'') := by
        rw [← hn2]; exact kof_any _ c _ cap3 wr (by rw [M.turnN_length, HL.out]) (by omega) (M.turnN_byte L F T k HL8.out) hh2
      have HF := Lib.hid (HB2.out.trans (hbl.out.mono HB2.out.size))
      have HR : Hid ((((n1 : Int) != (n2 : Int)) == M.anyT T k) = true) := by
        show _ = _
        cases ha : M.anyT T k with
        | false =>
          have := hts2.2 ha
          subst this
          simp
        | true =>
          have : ¬ (n1 = n2) := fun h => by rw [hts2.1 h] at ha; cases ha
          have h2 : ¬ ((n1 : Int) = n2) := by omega
          simp [h2]
      clear hts hts2 hn1 hn2 hh1 hh2
      generalize M.anyT T k = turned at HR ⊢
      rcases Nat.lt_or_ge k 32 with hk32 | hk32
      · have hnI : ¬ ((F : Int) + k < 8 * (c : Int)) := by omega
        go_wp2_with (first
          | (go_at_call 46; (with_reducible refine c1.out.mono ?_); rintro e w' ⟨rfl, rfl⟩)
          | (go_at_call 46; (with_reducible refine c2.out.mono ?_); rintro e w' ⟨rfl, rfl⟩))
        go_ret
        exact ⟨by show Ending.returned (Value.bool _) = _; rw [HR.out], HF.out⟩
      · obtain rfl : k = 32 := by omega
        go_wp2_with (first
          | (go_at_call 46; (with_reducible refine c1.out.mono ?_); rintro e w' ⟨rfl, rfl⟩)
          | (go_at_call 46; (with_reducible refine c2.out.mono ?_); rintro e w' ⟨rfl, rfl⟩))
        go_ret
        exact ⟨by show Ending.returned (Value.bool _) = _; rw [HR.out], HF.out⟩
end Go.Proofs.Ytojhhcfpnbdobaa
