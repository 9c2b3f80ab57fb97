import Derived.Test.YtfploeefmnbpcaaGreatG21
/- A flash: a page is read. -/
namespace Go.Proofs.YtfploeefmnbpcaaGreat
open Go.RowKit Mp Go.ChangeMaps

theorem build_zeroP : ∀ W : World, (Instr.build 34 #[]).run Tryz.prog W = .ok (.agg (cellsP z32).toArray) W := fun W => by kernel_rfl
theorem bars_ne {M : FlM} {x y z e : Int} (h : M.bars x y z = some e) : e ≠ 0 := by
  unfold FlM.bars at h
  split at h
  · cases h; omega
  · split at h
    · cases h; omega
    · split at h
      · cases h; omega
      · cases h
theorem bars_in {M : FlM} {x y z : Int} (h : M.bars x y z = none) : M.power = true ∧ inGB M.d M.b M.p x y z = true ∧ M.dead x.toNat = false := by
  unfold FlM.bars at h
  split at h
  · cases h
  · split at h
    · cases h
    · split at h
      · cases h
      · rename_i h1 h2 h3; exact ⟨by simpa using h1, by simpa using h2, by simpa using h3⟩
theorem okP_z32 : okP z32 := by refine ⟨rfl, ?_⟩; decide
section
variable {F0 : Nat → Prop} {w0 w : World} {g : Nat} {M : FlM} {lp lf : List (A3 × Value)} {L : List Nat}
set_option maxRecDepth 100000
set_option maxHeartbeats 4000000
theorem read_err (h : FlX F0 w0 w g M lp lf L) (a : A3) (er : Int) (hb : M.bars a.1 a.2.1 a.2.2 = some er) :
    Calls Tryz.prog 23 #[nptr g, encA a] w fun e w' => e = .returned (.tuple #[encP z32, .int .i64 er]) ∧ Below w.heap.size w w' := by
  have hne := bars_ne hb
  have HR : Hid (∀ (W : World), FlX F0 w0 W g M lp lf L → Calls Tryz.prog 44 #[nptr g, encA a] W fun e w' => e = .returned (.int .i64 er) ∧ Below W.heap.size W w') := fun W hX => by have := reach_any hX a.1 a.2.1 a.2.2; rw [hb] at this; exact this
  have HX := Lib.hid h
  have NEW := Lib.hid (new_two w 32 34 (cellsA a) (cellsP z32))
  have HXN := Lib.hid (h.below NEW.out.2.2.1).1
  have HBN := Lib.hid (build_zeroP)
  clear h hb
  go_enter Tryz.func23, Tryz.ntmps23
  go_wp2_with (first | (refine wpList_value rfl (exec_alloc rfl zero_P _) ?_) | (refine wpList_value rfl (exec_box (cs := cellsA a) rfl rfl _) ?_) | (refine wpList_value (v := encA a) rfl (exec_load rfl rfl (run_loadRow isAgg_A size_A rfl NEW.out.1)) ?_) | (go_at_call 44; (with_reducible refine (HR.out _ HXN.out).mono ?_); rintro e x2 ⟨rfl, hbx⟩; have RZ := Lib.hid (NEW.out.2.1.below hbx (Nat.le_refl _)); have HB := Lib.hid (NEW.out.2.2.1.trans (hbx.mono NEW.out.2.2.1.size)); clear hbx) | (refine wpList_value rfl (exec_build rfl rfl (HBN.out _)) ?_) | (refine wpList_skip rfl (exec_store rfl rfl rfl (run_storeRow (ds := cellsP z32) size_P RZ.out rfl rfl (cellsP_flat _))) ?_))
  exact bodyPost_ret (results_cell2 (Tryz.results23) rfl rfl (run_loadVarRow agg_P size_P rfl (RZ.out.set (cellsP z32)))) rfl ⟨rfl, below_setRow HB.out (Nat.le_succ _) _⟩
theorem read_ok (h : FlX F0 w0 w g M lp lf L) (a : A3) (ha : okA a) (hv : ∀ p ∈ lp, okV 34 p.2) (bs : List Nat) (l m s : Bool) (hb : M.bars a.1 a.2.1 a.2.2 = none) (hr : (getA lp a).getD (.agg zPg.toArray) = pgV bs l m) (hs : (getA lp a).isSome = s) (hbs : bs.length = 32) :
    Calls Tryz.prog 23 #[nptr g, encA a] w fun e w' => e = .returned (.tuple (if s = false then #[encP z32, .int .i64 5] else if l = true then #[encP z32, .int .i64 6] else #[encP bs, .int .i64 0])) ∧ Below w.heap.size w w' := by
  have HR : Hid (∀ (W : World), FlX F0 w0 W g M lp lf L → Calls Tryz.prog 44 #[nptr g, encA a] W fun e w' => e = .returned (.int .i64 0) ∧ Below W.heap.size W w') := fun W hX => by have := reach_any hX a.1 a.2.1 a.2.2; rw [hb] at this; exact this
  have HG := Lib.hid (fun (W : World) (hX : FlX F0 w0 W g M lp lf L) => by have := hX.getP a ha hv; rw [hr, hs] at this; exact this)
  have HL := Lib.hid (cellsPg_len (l := l) (m := m) hbs)
  have HF := Lib.hid (cellsPg_flat bs l m)
  have HLO := Lib.hid (cellsPg_lost (l := l) (m := m) hbs)
  have HBS := Lib.hid hbs
  have NEW := Lib.hid (new_two w 32 34 (cellsA a) (cellsP z32))
  have HXN := Lib.hid (h.below NEW.out.2.2.1).1
  have HBZ := Lib.hid (build_zeroP)
  have HPG : Hid (∀ (W : World) (b : Nat), Row W b 83 (cellsPg bs l m) → ∀ j v, (cellsP bs)[j]? = some v → W.cell? ⟨b, 0 + j, none⟩ = some v) := by
    intro W b hR j v hj
    rw [Nat.zero_add]
    refine hR.cell ?_
    have hlt := (List.getElem?_eq_some_iff.1 hj).1
    rw [cellsPg, List.getElem?_append_left hlt]; exact hj
  obtain ⟨cs, hcs⟩ : ∃ cs, cellsPg bs l m = cs := ⟨_, rfl⟩
  unfold pgV at HG
  rw [hcs] at HG HL HF HLO HPG
  clear h hv hr hs hbs hcs hb
  go_enter Tryz.func23, Tryz.ntmps23
  go_upto_region 4 with (first | (refine wpList_value rfl (exec_alloc rfl zero_P _) ?_) | (refine wpList_value rfl (exec_box (cs := cellsA a) rfl rfl _) ?_) | (refine wpList_value (v := encA a) rfl (exec_load rfl rfl (run_loadRow isAgg_A size_A rfl NEW.out.1)) ?_) | (go_at_call 44; (with_reducible refine (HR.out _ HXN.out).mono ?_); rintro e x2 ⟨rfl, hbx⟩; have RB := Lib.hid (NEW.out.1.below hbx (Nat.le_refl _)); have RZ := Lib.hid (NEW.out.2.1.below hbx (Nat.le_refl _)); have HB := Lib.hid (NEW.out.2.2.1.trans (hbx.mono NEW.out.2.2.1.size)); have HXW := Lib.hid (HXN.out.below hbx).1; clear hbx))
  obtain ⟨W, hW⟩ : ∃ W, x2 = W := ⟨_, rfl⟩
  rw [hW] at RB RZ HB HXW ⊢
  obtain ⟨N, hN⟩ : ∃ N, W.heap.size = N := ⟨_, rfl⟩
  have HNN := Lib.hid hN
  obtain ⟨B, hB⟩ : ∃ B, w.heap.size = B := ⟨_, rfl⟩
  have HBE := Lib.hid hB
  rw [hB] at RB RZ HB ⊢
  clear hN hB hW
  go_cut [7, 8] (fun v4 v5 x => ∃ h, v4 = .pointer (some ⟨h, 0, none⟩) ∧ v5 = .bool s ∧ Hid (Row x h 83 cs) ∧ Hid (N ≤ h) ∧ Hid (Below N W x))
  case first =>
    have hBN := RB.out.lt
    rw [HNN.out] at hBN
    refine wp_region_tree (S := fun W' => Row W' B 32 (cellsA a)) (.plain 0 (.plain 1 (.plain 2 (.plain 3 (.fork 4 (.plain 5 (.plain 6 (.plain 7 (.one 8 (.one 9 (.plain 10 .nil)))))) 8 (.one 4 (.plain 5 (.plain 6 (.plain 7 (.one 9 (.plain 10 .nil))))))))))) (by kernel_rfl) (by kernel_rfl) (by kernel_rfl) (by decide) (fun _ _ d _ _ h => by cases d <;> exact h) RB.out.drew ?_
    simp only [treeOf, psOf, nth, slotOf]
    iterate 3 (refine wpT_plain ?_ (by rfl) ?_ ?_; rotate_left; (focus (intro w' hw'; go_simp; try with_reducible rfl)); go_simp)
    refine wpT_plain (encA a) (by rfl) (fun w' hw' => exec_load rfl rfl (run_loadRow isAgg_A size_A rfl hw')) ?_
    go_simp
    refine wpT_fork (by rfl) (by rfl) (fun KK hKK => ?_) (fun KK hKK => ?_)
    · go_simp
      refine (HG.out W.drew HXW.out.drew).mono ?_
      rintro e x2 ⟨rfl, hbx⟩
      dsimp only
      have RA2 := Lib.hid (RB.out.drew.below hbx (Nat.le_refl _))
      have HB2 := Lib.hid (show Below N W x2 from ((Below.refl _ _).drew.trans (hbx.mono (Nat.le_of_eq HNN.out.symm))))
      refine hKK _ _ _ (fun _ h => h) RA2.out ?_
      clear hKK hbx
      iterate 3 (refine wpT_plain ?_ (by rfl) ?_ ?_; rotate_left; (focus (intro w' hw'; go_simp; try with_reducible rfl)); go_simp)
      refine wpT_loud (by rfl) (fun KK hKK => ?_)
      refine wp_value (exec_alloc rfl zero_Pg _) ?_
      have NEW := new_one x2 83 zPg
      obtain ⟨h, hh⟩ : ∃ h, x2.heap.size = h := ⟨_, rfl⟩
      generalize x2.alloc (.cells zPg.toArray 83) = x3 at NEW ⊢
      rw [hh] at NEW ⊢
      obtain ⟨RP, HW1, hsz1⟩ := NEW
      have hBh : N ≤ h := by have := HB2.out.size; have := HNN.out; omega
      refine hKK _ _ _ (fun _ h => h) (RA2.out.below HW1 (Nat.le_of_eq hh)) ?_
      clear hKK
      go_simp
      refine wpT_loud (by rfl) (fun KK hKK => ?_)
      refine wp_skip (exec_store rfl rfl rfl (run_storeRow size_Pg RP rfl HL.out HF.out)) ?_
      have RPF := Lib.hid (RP.set cs)
      have RAF := Lib.hid ((RA2.out.below HW1 (Nat.le_of_eq hh)).other (g := h) (by omega) cs.toArray)
      have HBF := Lib.hid (below_setRow (HB2.out.trans (HW1.mono hBh)) hBh cs.toArray)
      generalize x3.setRow h cs.toArray = x4 at RPF RAF HBF ⊢
      refine hKK _ _ _ (fun _ h => h) RAF.out ?_
      clear hKK RP HW1
      go_simp
      iterate 1 (refine wpT_plain ?_ (by rfl) ?_ ?_; rotate_left; (focus (intro w' hw'; go_simp; try with_reducible rfl)); go_simp)
      refine wpT_nil ?_
      go_wp2_with fail
      go_meet
      case rel => exact ⟨h, rfl, rfl, RPF, hBh, HBF⟩
    · refine wp_value (exec_alloc rfl zero_Pg _) ?_
      have NEW := new_one W.drew 83 zPg
      have hh : W.drew.heap.size = N := HNN.out
      generalize W.drew.alloc (.cells zPg.toArray 83) = x2 at NEW ⊢
      rw [hh] at NEW ⊢
      obtain ⟨RP, HW1, hsz1⟩ := NEW
      have RA2 := Lib.hid (RB.out.drew.below HW1 (Nat.le_of_eq hh))
      have HX2 := Lib.hid (HXW.out.drew.below (w' := x2) (by rw [hh]; exact HW1)).1
      have HB2 := Lib.hid (show Below N W x2 from (Below.refl _ _).drew.trans HW1)
      have RP := Lib.hid RP
      refine hKK _ _ _ (fun _ h => h) RA2.out ?_
      clear hKK
      go_simp
      refine wpT_loud (by rfl) (fun KK hKK => ?_)
      go_simp
      refine (HG.out x2 HX2.out).mono ?_
      rintro e x3 ⟨rfl, hbx⟩
      dsimp only
      have RA3 := Lib.hid (RA2.out.below hbx (Nat.le_refl _))
      have RP3 := Lib.hid (RP.out.below hbx (Nat.le_refl _))
      have HB3 := Lib.hid (HB2.out.trans (hbx.mono (by have := HB2.out.size; have := HNN.out; omega)))
      refine hKK _ _ _ (fun _ h => h) RA3.out ?_
      clear hKK hbx
      iterate 3 (refine wpT_plain ?_ (by rfl) ?_ ?_; rotate_left; (focus (intro w' hw'; go_simp; try with_reducible rfl)); go_simp)
      refine wpT_loud (by rfl) (fun KK hKK => ?_)
      refine wp_skip (exec_store rfl rfl rfl (run_storeRow size_Pg RP3.out rfl HL.out HF.out)) ?_
      have RPF := Lib.hid (RP3.out.set cs)
      have RAF := Lib.hid (RA3.out.other (g := N) (by omega) cs.toArray)
      have HBF := Lib.hid (below_setRow HB3.out (Nat.le_refl N) cs.toArray)
      generalize x3.setRow N cs.toArray = x4 at RPF RAF HBF ⊢
      refine hKK _ _ _ (fun _ h => h) RAF.out ?_
      clear hKK
      go_simp
      iterate 1 (refine wpT_plain ?_ (by rfl) ?_ ?_; rotate_left; (focus (intro w' hw'; go_simp; try with_reducible rfl)); go_simp)
      refine wpT_nil ?_
      go_wp2_with fail
      go_meet
      case rel => exact ⟨N, rfl, rfl, RPF, Nat.le_refl N, HBF⟩
  case rest =>
    obtain ⟨h, rfl, rfl, RP, HNh, HBF⟩ := hcut
    have hlow := RZ.out.lt
    have RZ2 := Lib.hid (RZ.out.below (w' := wc) (by have := HBF.out; rwa [← HNN.out] at this) (Nat.le_refl _))
    have HB2 := Lib.hid (HB.out.trans (HBF.out.mono (by have := HB.out.size; have := HBE.out; have := HNN.out; omega)))
    have h32 := RP.out.cell HLO.out
    clear hlow
    cases s with
    | false =>
      go_wp2_with (first | (refine wpList_value rfl (exec_build rfl rfl (HBZ.out _)) ?_) | (refine wpList_skip rfl (exec_store rfl rfl rfl (run_storeRow (ds := cellsP z32) size_P RZ2.out rfl rfl (cellsP_flat _))) ?_))
      exact bodyPost_ret (results_cell2 (Tryz.results23) rfl rfl (run_loadVarRow agg_P size_P rfl (RZ2.out.set (cellsP z32)))) rfl ⟨rfl, by rw [HBE.out]; exact below_setRow HB2.out (Nat.le_succ _) _⟩
    | true =>
      cases l with
      | true =>
        go_wp2_with (first | (refine wpList_value rfl (exec_build rfl rfl (HBZ.out _)) ?_) | (refine wpList_skip rfl (exec_store rfl rfl rfl (run_storeRow (ds := cellsP z32) size_P RZ2.out rfl rfl (cellsP_flat _))) ?_))
        exact bodyPost_ret (results_cell2 (Tryz.results23) rfl rfl (run_loadVarRow agg_P size_P rfl (RZ2.out.set (cellsP z32)))) rfl ⟨rfl, by rw [HBE.out]; exact below_setRow HB2.out (Nat.le_succ _) _⟩
      | false =>
        go_wp2_with (first | (refine wpList_value (v := encP bs) rfl (exec_load rfl rfl (run_loadAgg (b := h) (o := 0) agg_P size_P (cellsP_len HBS.out) (HPG.out _ _ RP.out))) ?_) | (refine wpList_skip rfl (exec_store rfl rfl rfl (run_storeRow (ds := cellsP bs) size_P RZ2.out rfl (cellsP_len HBS.out) (cellsP_flat _))) ?_))
        exact bodyPost_ret (results_cell2 (Tryz.results23) rfl rfl (run_loadVarRow agg_P size_P (cellsP_len HBS.out) (RZ2.out.set (cellsP bs)))) rfl ⟨rfl, by rw [HBE.out]; exact below_setRow HB2.out (Nat.le_succ _) _⟩
end
end Go.Proofs.YtfploeefmnbpcaaGreat
