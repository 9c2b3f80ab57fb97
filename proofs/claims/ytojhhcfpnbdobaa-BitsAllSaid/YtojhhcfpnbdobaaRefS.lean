/- The reference's Step. -/
import Derived.Test.YtojhhcfpnbdobaaRefO
import Derived.Test.YtojhhcfpnbdobaaKoopM
import Derived.Deep.LoopGhost
namespace Go.Proofs.Ytojhhcfpnbdobaa
open Go.RowKit

def bools (l : List Bool) : List Value := l.map Value.bool
theorem bools_at {l : List Bool} {i : Nat} (h : i < l.length) : (bools l)[i]? = some (.bool (l.getD i false)) := by
  unfold bools
  rw [List.getElem?_map, List.getElem?_eq_getElem h]
  simp [List.getD, List.getElem?_eq_getElem h]
theorem bools_set (l : List Bool) (i : Nat) (b : Bool) : (bools l).set i (.bool b) = bools (l.set i b) := by
  unfold bools; rw [List.map_set]
theorem own_cell {w : World} {B n g cap : Nat} {l : List Bool} {i : Nat} (h : w.ownsRow B 4 1 (.slice (some ⟨g, 0, none⟩) n cap) n (bools l)) (hi : i < l.length) :
    w.cell? ⟨g, i, none⟩ = some (.bool (l.getD i false)) := by
  have := h.cells rfl i _ (bools_at hi)
  by_cases h0 : i = 0
  · subst h0; simpa [Addr.add] using this
  · simpa [Addr.add, h0] using this
theorem own_length {w : World} {B n : Nat} {v : Value} {l : List Bool} (h : w.ownsRow B 4 1 v n (bools l)) : l.length = n := by
  have := h.1; simpa [bools] using this
theorem own_free {w : World} {B n g cap i : Nat} {l : List Value} (h : w.ownsRow B 4 1 (.slice (some ⟨g, 0, none⟩) n cap) n l) :
    w.frozen? ⟨g, i, none⟩ = false := by
  rcases h.2 with ⟨h', _⟩ | ⟨g', cap', cur, h', _, hh, r⟩
  · cases h'
  · injection h' with h1; injection h1 with h1; injection h1 with h1 h2; subst h1
    simp [World.frozen?, hh]
theorem own_kept {w : World} {B n g2 j : Nat} {v : Value} {l : List Value} {u : Value} (h : w.ownsRow B 4 1 v n l) (hg : v.ownBlock ≠ some g2) :
    (w.setCell ⟨g2, j, none⟩ u).ownsRow B 4 1 v n l := by
  obtain ⟨h1, h2⟩ := h
  refine ⟨h1, ?_⟩
  rcases h2 with h2 | ⟨g, cap, cur, hv, hg', hh, r⟩
  · exact .inl h2
  · exact .inr ⟨g, cap, cur, hv, hg', by rw [Below.heap_setCell _ _ _ _ (by intro e; apply hg; rw [hv]; exact congrArg some e)]; exact hh, r⟩
theorem own_base {w : World} {B B' n : Nat} {v : Value} {l : List Value} (h : w.ownsRow B' 4 1 v n l) (hB : B ≤ B') : w.ownsRow B 4 1 v n l := by
  obtain ⟨h1, h2⟩ := h
  rcases h2 with h2 | ⟨g, cap, cur, hv, hg', r⟩
  · exact ⟨h1, .inl h2⟩
  · exact ⟨h1, .inr ⟨g, cap, cur, hv, Nat.le_trans hB hg', r⟩⟩
theorem own_drew {w : World} {B n : Nat} {v : Value} {l : List Value} (h : w.ownsRow B 4 1 v n l) : w.drew.ownsRow B 4 1 v n l := h

attribute [local irreducible] M.stepL M.roundsL M.mixK M.turnL

inductive StepRel (B g3 cap3 : Nat) (R0 : List Bool) (w : World) (v j : Value) (wq : World) : Prop
  | mk (k g cap : Nat) (hk : k ≤ 8) (hj : j = .int .i64 k) (hv : v = .slice (some ⟨g, 0, none⟩) 32 cap) (hB : B ≤ g) (hg : g ≠ g3) (hc : 32 ≤ cap) (hm : cap ≤ 9223372036854775807)
    (row : Hid (wq.ownsRow B 4 1 (.slice (some ⟨g, 0, none⟩) 32 cap) 32 (bools (M.roundsL k R0)))) (pol : Hid (wq.ownsRow B 4 1 (.slice (some ⟨g3, 0, none⟩) 32 cap3) 32 (bools M.polyL))) (bel : Hid (Below B w wq))

set_option maxRecDepth 100000 in
set_option maxHeartbeats 4000000 in
theorem rstep_any (s x : Nat) (w : World) (hs : s < 4294967296) (hx : x < 256) :
    Calls Try.prog 49 #[.int .u32 s, .int .u8 x] w fun e w' => e = .returned (.int .u32 (M.stepL s x : Nat)) ∧ Below w.heap.size w w' := by
  obtain ⟨i0, hi, hz0, hz1, hz2⟩ := info_parts Try.infoBool
  obtain ⟨B, hB⟩ : ∃ B, w.heap.size = B := ⟨_, rfl⟩
  rw [hB]
  go_enter Try.func49, Try.ntmps49
  go_wp2_with fail
  refine (bits_any s 32 _ (by omega) (by omega)).mono ?_
  rintro e w1 ⟨v1, rfl, hown1, hbl1⟩
  rw [bitVals_all] at hown1
  obtain ⟨g1, cap1, rfl, hg1, hcap1, hcm1, _⟩ := own_spot hown1 (by omega)
  have hl1 := (hown1.lt g1 rfl).2
  have HO1 := Lib.hid hown1
  have HB1 := Lib.hid hbl1
  clear hown1 hbl1
  go_wp2_with fail
  refine (bits_any x 8 _ (by omega) (by omega)).mono ?_
  rintro e w2 ⟨v2, rfl, hown2, hbl2⟩
  rw [bitVals_all] at hown2
  obtain ⟨g2, cap2, rfl, hg2, hcap2, hcm2, _⟩ := own_spot hown2 (by omega)
  have hl2 := (hown2.lt g2 rfl).2
  have HO1' := Lib.hid (own_below HO1.out hbl2 (Nat.le_refl _))
  have HB2 := Lib.hid (HB1.out.trans (hbl2.mono HB1.out.size))
  have HO2 := Lib.hid hown2
  clear hown2 hbl2 HO1 HB1
  go_wp2_with fail
  refine (bits_any 1947962583 32 _ (by omega) (by omega)).mono ?_
  rintro e w3 ⟨v3, rfl, hown3, hbl3⟩
  rw [bitVals_all] at hown3
  obtain ⟨g3, cap3, rfl, hg3, hcap3, hcm3, _⟩ := own_spot hown3 (by omega)
  have hl3 := (hown3.lt g3 rfl).2
  have HP1 : Hid (w3.ownsRow B 4 1 (.slice (some ⟨g1, 0, none⟩) 32 cap1) 32 (bools (M.mixK (M.bitsOf s 32) (M.bitsOf x 8) 0))) := by
    rw [M.mixK_zero]; exact own_base (own_below HO1'.out hbl3 (Nat.le_refl _)) (by omega)
  have HP2 : Hid (w3.ownsRow B 4 1 (.slice (some ⟨g2, 0, none⟩) 8 cap2) 8 (bools (M.bitsOf x 8))) := own_base (own_below HO2.out hbl3 (Nat.le_refl _)) (by have := HB2.out.size; omega)
  have HP3 : Hid (w3.ownsRow B 4 1 (.slice (some ⟨g3, 0, none⟩) 32 cap3) 32 (bools M.polyL)) := own_base hown3 (by have := HB2.out.size; omega)
  have HB3 := Lib.hid (HB2.out.trans (hbl3.mono HB2.out.size))
  have h12 : g1 < g2 := by omega
  have h23 : g2 < g3 := by omega
  have hBg : B ≤ g1 := by rw [← hB]; exact hg1
  rw [hB] at HB3
  clear hown3 hbl3 HO1' HO2 HB2 hcm1 hcm2 hcm3 hl1 hl2 hl3 hg1 hg2 hg3
  have hbl8 := Lib.hid (M.bitsOf_length x 8)
  have hbl32 := Lib.hid (M.bitsOf_length s 32)
  have HST : Hid (M.stepL s x = M.num (M.roundsL 8 (M.mixK (M.bitsOf s 32) (M.bitsOf x 8) 8))) := Lib.hid (M.stepL_def s x)
  generalize M.bitsOf s 32 = R at HP1 hbl32 HST
  generalize M.bitsOf x 8 = X at HP1 HP2 hbl8 HST
  go_wp2
  go_loopw [8] (fun i wr => ∃ k : Nat, k ≤ 8 ∧ i = .int .i64 k ∧ Hid (wr.ownsRow B 4 1 (.slice (some ⟨g1, 0, none⟩) 32 cap1) 32 (bools (M.mixK R X k))) ∧
      Hid (wr.ownsRow B 4 1 (.slice (some ⟨g2, 0, none⟩) 8 cap2) 8 (bools X)) ∧ Hid (wr.ownsRow B 4 1 (.slice (some ⟨g3, 0, none⟩) 32 cap3) 32 (bools M.polyL)) ∧ Hid (Below B w wr)) (fun i _ => (8 - intOf i).toNat)
  case atStart => exact ⟨0, Nat.zero_le _, rfl, HP1, HP2, HP3, HB3⟩
  case round =>
    obtain ⟨k, hk, rfl, hr, hx, hp, hb⟩ := hrel
    by_cases hlt : k < 8
    · have hc1 := own_cell (i := k) hr.out (by rw [M.mixK_length, hbl32.out]; omega)
      have hf1 := own_free (i := k) hr.out
      have hc2 := own_cell (i := k) hx.out (by rw [hbl8.out]; exact hlt)
      rw [M.mixK_getD _ _ _ _ (by rw [hbl32.out]; omega), if_neg (by omega)] at hc1
      have hset := M.mixK_set R X k (by rw [hbl32.out]; omega)
      have hst := (hr.out.stored k (.bool (R.getD k false != X.getD k false))).1
      rw [bools_set, hset] at hst
      have hst2 := own_kept (g2 := g1) (j := k) (u := .bool (R.getD k false != X.getD k false)) hx.out (by simp [Value.ownBlock]; omega)
      have hst3 := own_kept (g2 := g1) (j := k) (u := .bool (R.getD k false != X.getD k false)) hp.out (by simp [Value.ownBlock]; omega)
      have hst4 := (hb.out.setCell (p := ⟨g1, k, none⟩) hBg (.bool (R.getD k false != X.getD k false))).drew
      have HS1 := Lib.hid hst
      have HS2 := Lib.hid hst2
      have HS3 := Lib.hid hst3
      have HS4 := Lib.hid hst4
      generalize R.getD k false = y at hc1 HS1 HS2 HS3 HS4
      generalize X.getD k false = z at hc2 HS1 HS2 HS3 HS4
      clear hset hst hst2 hst3 hst4
      go_wp2
      go_region
      go_wp2
      exact ⟨⟨k + 1, by omega, by go_num, HS1.out, HS2.out, HS3.out, HS4.out⟩, by simp [intOf]; omega⟩
    · obtain rfl : k = 8 := by omega
      have hl0 := Lib.hid (show (M.mixK R X 8).length = 32 by rw [M.mixK_length, hbl32.out])
      generalize hR0 : M.mixK R X 8 = R0 at hr hl0
      have HR0 := Lib.hid hR0
      clear hR0 hx
      go_wp2
      go_loopw [5, 9] (fun v j wq => StepRel B g3 cap3 R0 w v j wq) (fun _ j _ => (8 - intOf j).toNat)
      case atStart => exact ⟨0, g1, cap1, Nat.zero_le _, rfl, rfl, hBg, by omega, hcap1, by have := hr.out.2; rcases this with ⟨h, _⟩ | ⟨_, _, _, h, _, _, _, h2, _⟩ <;> cases h; exact h2, by rw [M.roundsL_zero]; exact hr, hp, hb⟩
      case round =>
        obtain ⟨q, g, cap, hq, rfl, rfl, hgB, hgp, hcp, hcm, hrow, hpol, hbel⟩ := hrel
        obtain ⟨wo, rfl⟩ : ∃ wo : World, wo = wr := ⟨_, rfl⟩
        by_cases hq8 : q < 8
        · have hL := Lib.hid (M.roundsL_length q R0 hl0.out)
          have hRq := Lib.hid (M.roundsL_succ q R0)
          generalize M.roundsL q R0 = L at hrow hL hRq
          have hc0 := own_cell (i := 0) hrow.out (by rw [hL.out]; omega)
          obtain ⟨y, hy⟩ : ∃ y, L.getD 0 false = y := ⟨_, rfl⟩
          rw [hy] at hc0
          have hg3 : g3 < wo.heap.size := (hpol.out.lt g3 rfl).2
          have hBs : B ≤ wo.heap.size := by have := (hrow.out.lt g rfl).2; omega
          have hne1 : ¬ cap = 1 := by omega
          have HN1 : Hid (∀ j u, (bools (L.drop 1))[j]? = some u → wo.cell? ((⟨g, 1, none⟩ : Addr).add j) = some u) := by
            intro j u hj
            refine add_cell ?_
            have hjl : 1 + j < L.length := by
              have : j < (bools (L.drop 1)).length := by
                rcases Nat.lt_or_ge j (bools (L.drop 1)).length with h | h
                · exact h
                · rw [List.getElem?_eq_none h] at hj; cases hj
              simp [bools] at this; omega
            rw [own_cell hrow.out hjl, ← hj]
            unfold bools
            rw [List.getElem?_map, List.getElem?_drop, List.getElem?_eq_getElem hjl]
            simp [List.getD, List.getElem?_eq_getElem hjl]
          have HL1 : Hid ((bools (L.drop 1)).length = 31 * 1) := by show _ = _; simp [bools, hL.out]
          have hnil := World.ownsRow_nil wo wo.heap.size 4 1
          have HNIL := Lib.hid hnil
          have HLE := Lib.hid (Nat.le_refl wo.heap.size)
          have HY := Lib.hid hy
          clear hnil hy
          go_wp2_with (first
            | (at_builtin; refine wpList_append_own _ rfl _ _ 36 rfl wo.heap.size 4 i0 (.bool false) 1 1 Try.underlying36 hi hz0 hz1 hz2 rfl (by decide) (.slice none 0 0) 0 [] rfl HNIL.out ⟨g, 1, none⟩ 31 (cap - 1) (bools (L.drop 1)) rfl HL1.out HN1.out (bools_one _) (by unfold maxLen; omega) (by omega) HLE.out ?_; intro v' w4 ha hb4 _; have HA := Lib.hid ha; have HB4 := Lib.hid hb4; clear ha hb4)
            | (at_builtin; refine wpList_append_own _ rfl _ _ 36 rfl wo.heap.size 4 i0 (.bool false) 1 1 Try.underlying36 hi hz0 hz1 hz2 rfl (by decide) v' (0 + 31) ([] ++ bools (L.drop 1)) rfl (HA.out.alloc _) ⟨w4.heap.size, 0, none⟩ 1 1 [.bool false] rfl rfl (one_new _ _ _) (bools_one [false]) (by unfold maxLen; omega) (by omega) (by exact Nat.le_trans HB4.out.size (by simp)) ?_; intro v5 w5 ha5 hb5 _; have HA5 := Lib.hid ha5; have HB5 := Lib.hid hb5; clear ha5 hb5))
          have hlist : [] ++ bools (L.drop 1) ++ [Value.bool false] = bools (M.turnL L) := by
            unfold M.turnL bools; rw [List.nil_append, List.map_append]; rfl
          have hA5 := HA5.out
          rw [hlist, show 0 + 31 + 1 = 32 from rfl] at hA5
          obtain ⟨gN, capN, rfl, hgN, hcapN, hcmN, _⟩ := own_spot hA5 (by omega)
          unfold maxLen at hcmN
          have hTl := Lib.hid (M.turnL_length L hL.out)
          have hb45 : Below wo.heap.size wo w5 := below_grown (((Below.refl _ _).grown HB4.out (Nat.le_refl _) (fun k hk => by cases hk)).alloc HB4.out.size _) (by exact Nat.le_trans HB4.out.size (by simp)) (HA.out.alloc _) HB5.out
          have HR5 : Hid (w5.ownsRow B 4 1 (.slice (some ⟨gN, 0, none⟩) 32 capN) 32 (bools (M.mixK (M.turnL L) M.polyL 0))) := by rw [M.mixK_zero]; exact own_base hA5 hBs
          have HP5 := Lib.hid (own_below hpol.out hb45 (Nat.le_refl _))
          have HX5 := Lib.hid (hbel.out.trans (hb45.mono hBs))
          have hgNB : B ≤ gN := by omega
          have hgN3 : gN ≠ g3 := by omega
          have hround : M.roundL L = if y = true then M.mixK (M.turnL L) M.polyL 32 else M.turnL L := by unfold M.roundL; rw [HY.out]
          have HRD := Lib.hid hround
          have hpl := Lib.hid (show M.polyL.length = 32 from M.bitsOf_length _ _)
          clear hlist hA5 HA5 HA HB4 HB5 hb45 hround hrow hpol hbel HN1 HL1 HNIL HLE hc0 HY
          go_loopw [11] (fun i wz => ∃ k : Nat, k ≤ 32 ∧ (y = false → k = 0) ∧ i = .int .i64 k ∧ Hid (wz.ownsRow B 4 1 (.slice (some ⟨gN, 0, none⟩) 32 capN) 32 (bools (M.mixK (M.turnL L) M.polyL k))) ∧
              Hid (wz.ownsRow B 4 1 (.slice (some ⟨g3, 0, none⟩) 32 cap3) 32 (bools M.polyL)) ∧ Hid (Below B w wz)) (fun i _ => (32 - intOf i).toNat)
          case atStart => exact ⟨0, Nat.zero_le _, fun _ => rfl, rfl, HR5, HP5, HX5⟩
          case round =>
            obtain ⟨k, hk, hky, rfl, hr5, hp5, hx5⟩ := hrel
            cases y with
            | true =>
              clear hky
              by_cases hlt : k < 32
              · have hc1 := own_cell (i := k) hr5.out (by rw [M.mixK_length, hTl.out]; omega)
                have hf1 := own_free (i := k) hr5.out
                have hc2 := own_cell (i := k) hp5.out (by rw [hpl.out]; exact hlt)
                rw [M.mixK_getD _ _ _ _ (by rw [hTl.out]; omega), if_neg (by omega)] at hc1
                have hset := M.mixK_set (M.turnL L) M.polyL k (by rw [hTl.out]; omega)
                have hst := (hr5.out.stored k (.bool ((M.turnL L).getD k false != M.polyL.getD k false))).1
                rw [bools_set, hset] at hst
                have hst3 := own_kept (g2 := gN) (j := k) (u := .bool ((M.turnL L).getD k false != M.polyL.getD k false)) hp5.out (by simp [Value.ownBlock]; omega)
                have hst4 := (hx5.out.setCell (p := ⟨gN, k, none⟩) hgNB (.bool ((M.turnL L).getD k false != M.polyL.getD k false))).drew
                have HS1 := Lib.hid hst
                have HS3 := Lib.hid hst3
                have HS4 := Lib.hid hst4
                generalize (M.turnL L).getD k false = y1 at hc1 HS1 HS3 HS4
                generalize M.polyL.getD k false = z1 at hc2 HS1 HS3 HS4
                clear hset hst hst3 hst4
                go_wp2
                go_region
                go_wp2
                exact ⟨⟨k + 1, by omega, by simp, by go_num, HS1.out, HS3.out, HS4.out⟩, by simp [intOf]; omega⟩
              · obtain rfl : k = 32 := by omega
                go_wp2
                exact ⟨StepRel.mk (q + 1) gN capN (by omega) (by go_num) rfl hgNB hgN3 hcapN (by omega) (by rw [hRq.out, HRD.out]; exact hr5) hp5 hx5, by simp [intOf]; omega⟩
            | false =>
              obtain rfl : k = 0 := hky rfl
              clear hky
              go_wp2
              refine ⟨?_, by simp [intOf]; omega⟩
              (repeat apply Exists.intro)
              exact ⟨StepRel.mk (q + 1) gN capN (by omega) (by go_num) rfl hgNB hgN3 hcapN (by omega) (by rw [hRq.out, HRD.out]; rw [M.mixK_zero] at hr5; exact hr5) hp5 hx5, rfl⟩
        · obtain rfl : q = 8 := by omega
          have hLf := Lib.hid (M.roundsL_length 8 R0 hl0.out)
          have hfin := M.num_lt (M.roundsL 8 R0)
          rw [hLf.out] at hfin
          have hfinI : ((M.num (M.roundsL 8 R0) : Nat) : Int) ≤ 4294967295 := by omega
          have hho : Hid (Holds wo (some ⟨g, 0, none⟩) (bools (M.roundsL 8 R0))) := by
            intro i y hy
            have hil : i < (M.roundsL 8 R0).length := by
              rcases Nat.lt_or_ge i (M.roundsL 8 R0).length with h | h
              · exact h
              · unfold bools at hy; rw [List.getElem?_eq_none (by rw [List.length_map]; exact h)] at hy; cases hy
            rw [bools_at hil] at hy
            injection hy with hy
            subst hy
            exact ⟨g, 0, rfl, by rw [Nat.zero_add]; exact own_cell hrow.out hil⟩
          have HF := Lib.hid (show M.stepL s x = M.num (M.roundsL 8 R0) by rw [← HR0.out]; exact HST.out)
          go_wp2_with (go_at_call 45; refine (num_at (M.roundsL 8 R0) 32 _ _ _ hLf.out (by omega) hho.out).mono ?_; rintro e w' ⟨rfl, rfl⟩)
          go_ret
          exact ⟨ret_int (by rw [HF.out]), hbel.out⟩
end Go.Proofs.Ytojhhcfpnbdobaa
