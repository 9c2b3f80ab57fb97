import Derived.Test.YtfploeefmnbpcaaGreatG25
/- A flash: a byte of a page is turned: the walk. -/
namespace Go.Proofs.YtfploeefmnbpcaaGreat
open Go.RowKit Mp Go.ChangeMaps

def cellsFt (at' kind x y z n v : Int) : List Value := [.int .i64 at', .int .i64 kind, .int .i64 x, .int .i64 y, .int .i64 z, .int .i64 n, .int .i64 v]
abbrev encFt (at' kind x y z n v : Int) : Value := .agg #[.int .i64 at', .int .i64 kind, .int .i64 x, .int .i64 y, .int .i64 z, .int .i64 n, .int .i64 v]
theorem faddr {w : World} {B : Nat} {t : TypeId} {at' kind x y z n v : Int} (h : Row w B t (cellsFt at' kind x y z n v)) : ∀ j u, (cellsA (x, y, z))[j]? = some u → w.cell? ⟨B, 2 + j, none⟩ = some u := by
  intro j u hj
  match j, hj with
  | 0, hj => cases hj; exact h.cell rfl
  | 1, hj => cases hj; exact h.cell rfl
  | 2, hj => cases hj; exact h.cell rfl
  | n + 3, hj => simp [cellsA] at hj
/-- What a FTurn tells, and what becomes of the pages. -/
def turnV (s l m : Bool) (bs : List Nat) (n v : Int) (a : A3) (lp : List (A3 × Value)) : Bool × List (A3 × Value) :=
  if n < 0 ∨ 31 < n ∨ m = true then (false, lp) else if s = true ∧ l = false then (true, (a, pgV (FlM.turnAt bs n.toNat v) false true) :: delA lp a) else (true, lp)
theorem cellsPg_turn {bs : List Nat} (h : bs.length = 32) {i : Nat} (hi : i < 32) (l : Bool) (n : Nat) : ((cellsPg bs l false).set i (.int .u8 (n : Int))).set 33 (.bool true) = cellsPg (bs.set i n) l true := by
  have h1 : (cellsP bs).length = 32 := by simp [cellsP, h]
  have h2 : ((cellsP bs).set i (.int .u8 (n : Int))).length = 32 := by rw [List.length_set]; exact h1
  unfold cellsPg
  rw [List.set_append_left _ _ (by omega), List.set_append_right _ _ (by omega), h2, cellsP_set]
  rfl
section
variable {F0 : Nat → Prop} {w0 w : World} {g : Nat} {M : FlM} {lp lf : List (A3 × Value)} {L : List Nat}
set_option maxRecDepth 100000
set_option maxHeartbeats 4000000
theorem nturn_any (h : FlX F0 w0 w g M lp lf L) (at' kind x y z n v : Int) (ha : okA (x, y, z)) (hv : ∀ p ∈ lp, okV 34 p.2) (bs : List Nat) (l m s : Bool) (hr : (getA lp (x, y, z)).getD (.agg zPg.toArray) = pgV bs l m) (hs : (getA lp (x, y, z)).isSome = s) (hbs : okP bs) :
    Calls Tryz.prog 55 #[nptr g, encFt at' kind x y z n v] w fun e w' => e = .returned (.bool (turnV s l m bs n v (x, y, z) lp).1) ∧ FlX F0 w0 w' g M (turnV s l m bs n v (x, y, z) lp).2 lf L := by
  have NEW := Lib.hid (new_one w 44 (cellsFt at' kind x y z n v))
  have HXN := Lib.hid (h.fresh NEW.out.2.1 [w.heap.size] (fun i hi => by
    simp only [List.mem_cons, List.not_mem_nil, or_false] at hi
    rw [NEW.out.2.2]; omega))
  obtain ⟨a, haa⟩ : ∃ a : A3, (x, y, z) = a := ⟨_, rfl⟩
  have HFA : Hid (∀ (W : World) (B : Nat) (t : TypeId), Row W B t (cellsFt at' kind x y z n v) → ∀ j u, (cellsA a)[j]? = some u → W.cell? ⟨B, 2 + j, none⟩ = some u) := by subst haa; exact fun W B t h => faddr h
  rw [haa] at ha hr hs ⊢
  have HG := Lib.hid (fun (W : World) (hX : FlX F0 w0 W g M lp lf ([w.heap.size] ++ L)) => by have := hX.getP a ha hv; rw [hr, hs] at this; exact this)
  have HSP := Lib.hid (fun (W : World) (L : List Nat) (u : Value) (hu : okV 34 u) (hX : FlX F0 w0 W g M lp lf L) => hX.setP' a ha u hu)
  have HL := Lib.hid (cellsPg_len (l := l) (m := m) hbs.1)
  have HF := Lib.hid (cellsPg_flat bs l m)
  have HLO := Lib.hid (cellsPg_lost (l := l) (m := m) hbs.1)
  have HMA := Lib.hid (cellsPg_marred (l := l) (m := m) hbs.1)
  have HBS := Lib.hid hbs
  obtain ⟨cs, hcs⟩ : ∃ cs, cellsPg bs l m = cs := ⟨_, rfl⟩
  have HCS := Lib.hid hcs
  unfold pgV at HG
  rw [hcs] at HG HL HF HLO HMA
  clear h hv hr hs hbs hcs ha haa
  go_enter Tryz.func55, Tryz.ntmps55
  go_upto_region 1 with (refine wpList_value rfl (exec_box (cs := cellsFt at' kind x y z n v) rfl rfl _) ?_)
  refine gen_world (p := fun W => FlX F0 w0 W g M lp lf ([w.heap.size] ++ L) ∧ Row W w.heap.size 44 (cellsFt at' kind x y z n v)) ⟨HXN.out, NEW.out.1⟩ ?_
  obtain ⟨B, hB⟩ : ∃ B, w.heap.size = B := ⟨_, rfl⟩
  rw [hB] at HG ⊢
  clear NEW HXN
  intro W NW
  obtain ⟨hxw, rb⟩ := NW
  have HXW := Lib.hid hxw
  have RB := Lib.hid rb
  obtain ⟨N, hN⟩ : ∃ N, W.heap.size = N := ⟨_, rfl⟩
  have HNN := Lib.hid hN
  clear hxw rb hN
  go_simp
  try rw [hB]
  clear hB
  go_cut [5, 6] (fun v4 v5 x => ∃ h, v4 = .pointer (some ⟨h, 0, none⟩) ∧ v5 = .bool s ∧ Hid (Row x h 83 cs) ∧ Hid (N ≤ h) ∧ Hid (Below N W x))
  case first =>
    have hBN := RB.out.lt
    rw [HNN.out] at hBN
    refine wp_region_tree (S := fun W' => Row W' B 44 (cellsFt at' kind x y z n v)) (.plain 0 (.plain 1 (.plain 2 (.plain 3 (.plain 4 (.fork 5 (.plain 6 (.plain 7 (.plain 8 (.one 9 (.one 10 (.plain 11 .nil)))))) 9 (.one 5 (.plain 6 (.plain 7 (.plain 8 (.one 10 (.plain 11 .nil)))))))))))) (by kernel_rfl) (by kernel_rfl) (by kernel_rfl) (by decide) (fun _ _ d _ _ h => by cases d <;> exact h) RB.out.drew ?_
    simp only [treeOf, psOf, nth, slotOf]
    iterate 4 (refine wpT_plain ?_ (by rfl) ?_ ?_; rotate_left; (focus (intro w' hw'; go_simp; try with_reducible rfl)); go_simp)
    refine wpT_plain (encA a) (by rfl) (fun w' hw' => exec_load rfl rfl (run_loadAgg (b := B) (o := 2) isAgg_A size_A rfl (HFA.out _ _ _ hw'))) ?_
    go_simp
    refine wpT_fork (by rfl) (by rfl) (fun KK hKK => ?_) (fun KK hKK => ?_)
    · go_simp
      refine (HG.out W.drew HXW.out.drew).mono ?_
      rintro e x2 ⟨rfl, hbx⟩
      dsimp only
      have RA2 := Lib.hid (RB.out.drew.below hbx (Nat.le_refl _))
      have HB2 := Lib.hid (show Below N W x2 from ((Below.refl _ _).drew.trans (hbx.mono (Nat.le_of_eq HNN.out.symm))))
      refine hKK _ _ _ (fun _ h => h) RA2.out ?_
      clear hKK hbx
      iterate 3 (refine wpT_plain ?_ (by rfl) ?_ ?_; rotate_left; (focus (intro w' hw'; go_simp; try with_reducible rfl)); go_simp)
      refine wpT_loud (by rfl) (fun KK hKK => ?_)
      refine wp_value (exec_alloc rfl zero_Pg _) ?_
      have NEW := new_one x2 83 zPg
      obtain ⟨h, hh⟩ : ∃ h, x2.heap.size = h := ⟨_, rfl⟩
      generalize x2.alloc (.cells zPg.toArray 83) = x3 at NEW ⊢
      rw [hh] at NEW ⊢
      obtain ⟨RP, HW1, hsz1⟩ := NEW
      have hBh : N ≤ h := by have := HB2.out.size; have := HNN.out; omega
      refine hKK _ _ _ (fun _ h => h) (RA2.out.below HW1 (Nat.le_of_eq hh)) ?_
      clear hKK
      go_simp
      refine wpT_loud (by rfl) (fun KK hKK => ?_)
      refine wp_skip (exec_store rfl rfl rfl (run_storeRow size_Pg RP rfl HL.out HF.out)) ?_
      have RPF := Lib.hid (RP.set cs)
      have RAF := Lib.hid ((RA2.out.below HW1 (Nat.le_of_eq hh)).other (g := h) (by omega) cs.toArray)
      have HBF := Lib.hid (below_setRow (HB2.out.trans (HW1.mono hBh)) hBh cs.toArray)
      generalize x3.setRow h cs.toArray = x4 at RPF RAF HBF ⊢
      refine hKK _ _ _ (fun _ h => h) RAF.out ?_
      clear hKK RP HW1
      go_simp
      iterate 1 (refine wpT_plain ?_ (by rfl) ?_ ?_; rotate_left; (focus (intro w' hw'; go_simp; try with_reducible rfl)); go_simp)
      refine wpT_nil ?_
      go_wp2_with fail
      go_meet
      case rel => exact ⟨h, rfl, rfl, RPF, hBh, HBF⟩
    · refine wp_value (exec_alloc rfl zero_Pg _) ?_
      have NEW := new_one W.drew 83 zPg
      have hh : W.drew.heap.size = N := HNN.out
      generalize W.drew.alloc (.cells zPg.toArray 83) = x2 at NEW ⊢
      rw [hh] at NEW ⊢
      obtain ⟨RP, HW1, hsz1⟩ := NEW
      have RA2 := Lib.hid (RB.out.drew.below HW1 (Nat.le_of_eq hh))
      have HX2 := Lib.hid (HXW.out.drew.below (w' := x2) (by rw [hh]; exact HW1)).1
      have HB2 := Lib.hid (show Below N W x2 from (Below.refl _ _).drew.trans HW1)
      have RP := Lib.hid RP
      refine hKK _ _ _ (fun _ h => h) RA2.out ?_
      clear hKK
      go_simp
      refine wpT_loud (by rfl) (fun KK hKK => ?_)
      go_simp
      refine (HG.out x2 HX2.out).mono ?_
      rintro e x3 ⟨rfl, hbx⟩
      dsimp only
      have RA3 := Lib.hid (RA2.out.below hbx (Nat.le_refl _))
      have RP3 := Lib.hid (RP.out.below hbx (Nat.le_refl _))
      have HB3 := Lib.hid (HB2.out.trans (hbx.mono (by have := HB2.out.size; have := HNN.out; omega)))
      refine hKK _ _ _ (fun _ h => h) RA3.out ?_
      clear hKK hbx
      iterate 3 (refine wpT_plain ?_ (by rfl) ?_ ?_; rotate_left; (focus (intro w' hw'; go_simp; try with_reducible rfl)); go_simp)
      refine wpT_loud (by rfl) (fun KK hKK => ?_)
      refine wp_skip (exec_store rfl rfl rfl (run_storeRow size_Pg RP3.out rfl HL.out HF.out)) ?_
      have RPF := Lib.hid (RP3.out.set cs)
      have RAF := Lib.hid (RA3.out.other (g := N) (by omega) cs.toArray)
      have HBF := Lib.hid (below_setRow HB3.out (Nat.le_refl N) cs.toArray)
      generalize x3.setRow N cs.toArray = x4 at RPF RAF HBF ⊢
      refine hKK _ _ _ (fun _ h => h) RAF.out ?_
      clear hKK
      go_simp
      iterate 1 (refine wpT_plain ?_ (by rfl) ?_ ?_; rotate_left; (focus (intro w' hw'; go_simp; try with_reducible rfl)); go_simp)
      refine wpT_nil ?_
      go_wp2_with fail
      go_meet
      case rel => exact ⟨N, rfl, rfl, RPF, Nat.le_refl N, HBF⟩
  case rest =>
    obtain ⟨h, rfl, rfl, RP, HNh, HBF⟩ := hcut
    have hBN := RB.out.lt
    rw [HNN.out] at hBN
    have RB2 := Lib.hid (RB.out.below (w' := wc) (by have := HBF.out; rwa [← HNN.out] at this) (Nat.le_refl _))
    have HX2 := Lib.hid (HXW.out.fresh (w' := wc) (by have := HBF.out; rwa [← HNN.out] at this) [h] (fun i hi => by
      simp only [List.mem_cons, List.not_mem_nil, or_false] at hi
      subst hi; exact ⟨by rw [HNN.out]; exact HNh.out, RP.out.lt⟩))
    have hBh : B < h := by have := HNh.out; omega
    have c5 : wc.cell? ⟨B, 5, none⟩ = some (.int .i64 n) := RB2.out.cell rfl
    have h33 := RP.out.cell HMA.out
    have h32 := RP.out.cell HLO.out
    by_cases hn : n < 0 ∨ 31 < n ∨ m = true
    · have HPV := Lib.hid (show turnV s l m bs n v a lp = (false, lp) from if_pos hn)
      rcases hn with hn | hn | hn
      · go_wp2_with fail
        go_ret
        rw [HPV.out]
        exact ⟨rfl, HX2.out.sub (fun k hk => by simp [hk])⟩
      · have hn0 : ¬ n < 0 := by omega
        have hn1 : 32 ≤ n := by omega
        go_wp2_with fail
        go_ret
        rw [HPV.out]
        exact ⟨rfl, HX2.out.sub (fun k hk => by simp [hk])⟩
      · subst hn
        by_cases hn0 : n < 0
        · go_wp2_with fail
          go_ret
          rw [HPV.out]
          exact ⟨rfl, HX2.out.sub (fun k hk => by simp [hk])⟩
        · by_cases hn1 : 32 ≤ n
          · go_wp2_with fail
            go_ret
            rw [HPV.out]
            exact ⟨rfl, HX2.out.sub (fun k hk => by simp [hk])⟩
          · go_wp2_with fail
            go_ret
            rw [HPV.out]
            exact ⟨rfl, HX2.out.sub (fun k hk => by simp [hk])⟩
    · have hn0 : ¬ n < 0 := by omega
      have hn1 : ¬ 32 ≤ n := by omega
      obtain rfl : m = false := by cases m <;> simp_all
      by_cases hsl : s = true ∧ l = false
      · have HPV := Lib.hid (show turnV s l false bs n v a lp = (true, (a, pgV (FlM.turnAt bs n.toNat v) false true) :: delA lp a) by unfold turnV; rw [if_neg hn, if_pos hsl])
        obtain ⟨rfl, rfl⟩ := hsl
        obtain ⟨i, rfl⟩ : ∃ i : Nat, n = i := ⟨n.toNat, by omega⟩
        have hi : i < 32 := by omega
        clear hn hn0 hn1
        have hlen := HBS.out.1
        obtain ⟨u, hu⟩ : ∃ u, bs[i]? = some u := ⟨_, List.getElem?_eq_getElem (by omega)⟩
        have hu256 : u < 256 := HBS.out.2 u (List.mem_of_getElem? hu)
        have HU := Lib.hid hu
        have hci : cs[i]? = some (.int .u8 (u : Int)) := by
          rw [← HCS.out, cellsPg, List.getElem?_append_left (by simp [cellsP, hlen, hi]), cellsP, List.getElem?_map, hu]; rfl
        have cu := RP.out.cell hci
        have fu := RP.out.free i
        have c6 : wc.cell? ⟨B, 6, none⟩ = some (.int .i64 v) := RB2.out.cell rfl
        have HLEN := Lib.hid hlen
        have hii : (i : Int) < 32 := by omega
        clear hu hci hlen
        go_upto_region 5 with fail
        go_region
        have hxor : bits BinOp.xor IntKind.u8 (u : Int) (v % 256) = ((u ^^^ (v % 256).toNat : Nat) : Int) := by
          obtain ⟨k, hk⟩ : ∃ k : Nat, v % 256 = (k : Int) := ⟨(v % 256).toNat, by omega⟩
          rw [hk, u8_xor_nat _ _ hu256 (by omega)]; rfl
        rw [hxor]
        have hta : FlM.turnAt bs i v = bs.set i (u ^^^ (v % 256).toNat) := by
          unfold FlM.turnAt; rw [List.getD_eq_getElem?_getD, HU.out]; rfl
        have RP1 := Lib.hid (RP.out.setCell (j := i) (.int .u8 ((u ^^^ (v % 256).toNat : Nat) : Int)))
        have HX3 := Lib.hid ((HX2.out.offCell (b := h) (o := i) (s := none) (by simp) (by have := HX2.out.keeps.size; have := HXW.out.keeps.size; have := HNh.out; have := HNN.out; omega) (.int .u8 ((u ^^^ (v % 256).toNat : Nat) : Int))).drew)
        have RB3 := Lib.hid (RB2.out.of_block (w' := wc.setCell ⟨h, i, none⟩ (.int .u8 ((u ^^^ (v % 256).toNat : Nat) : Int))) (Below.heap_setCell _ _ _ _ (show B ≠ h by omega)))
        refine gen_world (C := fun W => Exit.then _ _ Exit.normal _ W) (p := fun W => FlX F0 w0 W g M lp lf ([h] ++ ([B] ++ L)) ∧ Row W B 44 (cellsFt at' kind x y z i v) ∧ Row W h 83 (cs.set i (.int .u8 ((u ^^^ (v % 256).toNat : Nat) : Int)))) ⟨HX3.out, RB3.out, RP1.out⟩ ?_
        clear HX3 RB3 RP1 hxor RP RB2 HX2 c5 h33 h32 cu fu c6
        intro x3 NW
        obtain ⟨hx3, rb3, rp3⟩ := NW
        have hm33 : (cs.set i (.int .u8 ((u ^^^ (v % 256).toNat : Nat) : Int)))[33]? = some (.bool false) := by rw [List.getElem?_set_ne (by omega)]; exact HMA.out
        have c33 := rp3.cell hm33
        have f33 := rp3.free 33
        have hmem : h ∈ [h] ++ ([B] ++ L) := by simp
        have hw0 : w0.heap.size ≤ h := by have := HXW.out.keeps.size; have := HNh.out; have := HNN.out; omega
        have HX4 := Lib.hid (hx3.offCell (b := h) (o := 33) (s := none) hmem hw0 (.bool true))
        have RB4 := Lib.hid (rb3.of_block (w' := x3.setCell ⟨h, 33, none⟩ (.bool true)) (Below.heap_setCell _ _ _ _ (show B ≠ h by omega)))
        have RP4 := Lib.hid (rp3.setCell (j := 33) (.bool true))
        rw [← HCS.out, cellsPg_turn HLEN.out hi, ← hta] at RP4
        clear hx3 rb3 rp3 hm33 hmem hw0
        go_upto_region 7 with fail
        refine gen_world (p := fun W => FlX F0 w0 W g M lp lf ([h] ++ ([B] ++ L)) ∧ Row W B 44 (cellsFt at' kind x y z i v) ∧ Row W h 83 (cellsPg (FlM.turnAt bs i v) false true)) ⟨HX4.out, RB4.out, RP4.out⟩ ?_
        clear HX4 RB4 RP4 c33 f33
        intro x4 NW
        obtain ⟨hx4, rb4, rp4⟩ := NW
        have HX4 := Lib.hid hx4
        have RB4 := Lib.hid rb4
        have RP4 := Lib.hid rp4
        have htl : (FlM.turnAt bs i v).length = 32 := by rw [hta, List.length_set]; exact HLEN.out
        have HTL := Lib.hid htl
        have HPV2 : Hid (turnV true false false bs i v a lp = (true, (a, pgV (FlM.turnAt bs i v) false true) :: delA lp a)) := HPV.out
        clear hx4 rb4 rp4 htl hta HPV
        generalize FlM.turnAt bs i v = q at *
        go_simp
        refine wp_region_plan (S := fun W' => Row W' B 44 (cellsFt at' kind x y z i v) ∧ Row W' h 83 (cellsPg q false true)) [(0, true), (1, true), (2, true), (3, true), (4, true), (5, true), (6, false)] (by kernel_rfl) (by kernel_rfl) (by kernel_rfl) (by decide) (fun _ _ d _ _ h => by cases d <;> exact h) ⟨RB4.out.drew, RP4.out.drew⟩ ?_
        simp only [stepsOf, nth, slotOf]
        iterate 4 (refine wpPlan_plain ?_ (by rfl) ?_ ?_; rotate_left; (focus (intro w' hw'; go_simp; try with_reducible rfl)); go_simp)
        refine wpPlan_plain (encA a) (by rfl) (fun w' hw' => exec_load rfl rfl (run_loadAgg (b := B) (o := 2) isAgg_A size_A rfl (HFA.out _ _ _ hw'.1))) ?_
        go_simp
        refine wpPlan_plain (pgV q false true) (by rfl) (fun w' hw' => exec_load rfl rfl (run_loadRow agg_Pg size_Pg (cellsPg_len HTL.out) hw'.2)) ?_
        go_simp
        refine wpPlan_loud (by rfl) (fun KK hKK => ?_)
        go_simp
        refine (HSP.out x4.drew _ _ (okV_pgV false true HTL.out) HX4.out.drew).mono ?_
        rintro e x9 ⟨rfl, ⟨hx9, hs9⟩, hc9⟩
        dsimp only
        refine hKK _ _ _ (fun _ h => h) ⟨hs9.row (by simp) RB4.out.drew, hs9.row (by simp) RP4.out.drew⟩ ?_
        clear hKK
        refine wpPlan_nil ?_
        go_wp2
        go_ret
        rw [HPV2.out]
        exact ⟨rfl, hx9.sub (fun k hk => by simp [hk])⟩
      · have HPV := Lib.hid (show turnV s l false bs n v a lp = (true, lp) by unfold turnV; rw [if_neg hn, if_neg hsl])
        cases s with
        | false =>
          clear hn hsl
          go_wp2_with fail
          go_ret
          rw [HPV.out]
          exact ⟨rfl, HX2.out.sub (fun k hk => by simp [hk])⟩
        | true =>
          obtain rfl : l = true := by cases l <;> simp_all
          clear hn hsl
          go_wp2_with fail
          go_ret
          rw [HPV.out]
          exact ⟨rfl, HX2.out.sub (fun k hk => by simp [hk])⟩
end
end Go.Proofs.YtfploeefmnbpcaaGreat
