import Derived.Test.YtfploeefmnbpcaaGreatGNandT
/- The law NandTurn: the walk. -/
namespace Go.Proofs.YtfploeefmnbpcaaGreat
open Go.RowKit Mp

attribute [local irreducible] NT.m0 NT.m1 NT.m2 NT.m3 NT.m4 NT.m5 FlM.turnAt

set_option linter.unusedVariables false in
set_option maxRecDepth 100000 in
set_option maxHeartbeats 4000000 in
theorem nandTurn_walk {Is : IsT} (C : NandC Is) (G : Begun7) (n0 a b : Int) (w : World) (hn : (Lit.int .i64 n0).wf = true) (ha : (Lit.int .i64 a).wf = true) (hb : (Lit.int .i64 b).wf = true) :
    Calls Tryz.prog 12 #[.int .i64 n0, .int .i64 a, .int .i64 b] w fun e w' => e = .returned (.bool true) ∧ Below w.heap.size w w' := by
  clear hn ha hb
  by_cases h1 : n0 < 0
  · have HC := Lib.hid C
    have HG := Lib.hid G
    clear C G
    go_enter Tryz.func12, Tryz.ntmps12
    go_wp2_with (go_at_call 15; refine (HG.out _).mono ?_; rintro e w1 ⟨rfl, hb1⟩; have HB1 := Lib.hid hb1; clear hb1)
    refine (made_any HC.out w w1 HB1.out).mono ?_
    rintro e w2 ⟨g, rfl, hh⟩
    have HH := Lib.hid hh
    clear hh HB1
    have e := NT.out n0 1 (by omega)
    rw [NT.m0_def] at HH
    go_wp2_with fail
    refine (HH.out.fault HC.out 0 5 0 0 0 n0 1).mono ?_
    rintro e' w3 ⟨rfl, hh, hs⟩
    rw [e] at hh ⊢
    go_wp2_with fail
    go_ret
    exact ⟨rfl, hh.bel⟩
  have d0 : decide (n0 < 0) = false := by simp; omega
  by_cases h2 : 31 < n0
  · have HC := Lib.hid C
    have HG := Lib.hid G
    clear C G
    go_enter Tryz.func12, Tryz.ntmps12
    go_wp2_with (go_at_call 15; refine (HG.out _).mono ?_; rintro e w1 ⟨rfl, hb1⟩; have HB1 := Lib.hid hb1; clear hb1)
    refine (made_any HC.out w w1 HB1.out).mono ?_
    rintro e w2 ⟨g, rfl, hh⟩
    have HH := Lib.hid hh
    clear hh HB1
    have e := NT.out n0 1 (by omega)
    rw [NT.m0_def] at HH
    go_wp2_with fail
    refine (HH.out.fault HC.out 0 5 0 0 0 n0 1).mono ?_
    rintro e' w3 ⟨rfl, hh, hs⟩
    rw [e] at hh ⊢
    go_wp2_with fail
    go_ret
    exact ⟨rfl, hh.bel⟩
  have d1 : decide (31 < n0) = false := by simp; omega
  obtain ⟨n, rfl⟩ : ∃ n : Nat, n0 = n := ⟨n0.toNat, by omega⟩
  have hn : n < 32 := by omega
  have ea := NT.and255 a
  have eb := NT.and255 b
  obtain ⟨X, hX⟩ : ∃ X, NT.pg3.getD n 0 = X := ⟨_, rfl⟩
  obtain ⟨A, hA⟩ : ∃ A, (a % 256).toNat = A := ⟨_, rfl⟩
  obtain ⟨B, hB⟩ : ∃ B, (b % 256).toNat = B := ⟨_, rfl⟩
  have hX8 : X < 256 := by rw [← hX]; exact NT.pg3_lt ⟨n, hn⟩
  have hA8 : A < 256 := by omega
  have hB8 : B < 256 := by omega
  have xa := NT.xor8 X A hX8 hA8
  have xb := NT.xor8 X B hX8 hB8
  have HTA := Lib.hid (show FlM.turnAt NT.pg3 n a = NT.pg3.set n (X ^^^ A) by unfold FlM.turnAt; rw [hX, hA])
  have HTB := Lib.hid (show FlM.turnAt NT.pg3 n b = NT.pg3.set n (X ^^^ B) by unfold FlM.turnAt; rw [hX, hB])
  have HOA := Lib.hid (NT.okTurn n hn a)
  have HOB := Lib.hid (NT.okTurn n hn b)
  have HX := Lib.hid hX
  rw [hA] at ea
  rw [hB] at eb
  clear hA hB hX h1 h2
  obtain ⟨XA, hXA⟩ : ∃ XA, X ^^^ A = XA := ⟨_, rfl⟩
  obtain ⟨XB, hXB⟩ : ∃ XB, X ^^^ B = XB := ⟨_, rfl⟩
  rw [hXA] at xa HTA
  rw [hXB] at xb HTB
  have k1 := NT.f1 n hn a
  have k3 := NT.f3 n hn a
  have k4 := NT.f4 n hn a b
  have k8 := NT.f8 n hn a b
  have K1 := Lib.hid k1
  have K3 := Lib.hid k3
  have K4 := Lib.hid k4
  have K8 := Lib.hid k8
  clear k1 k3 k4 k8 hXA hXB
  have HC := Lib.hid C
  have HG := Lib.hid G
  clear C G
  go_enter Tryz.func12, Tryz.ntmps12
  go_wp2_with (go_at_call 15; refine (HG.out _).mono ?_; rintro e w1 ⟨rfl, hb1⟩; have HB1 := Lib.hid hb1; clear hb1)
  go_upto_region 7 with (go_at_call 40; refine (made_any HC.out w w1 HB1.out).mono ?_; rintro e w2 ⟨g, rfl, hh⟩; have HH := Lib.hid hh; clear hh HB1)
  rw [NT.m0_def] at HH
  go_wp2_with fail
  have hw2 := HH.out.bel.size
  have HF := Lib.hid (NT.At7.new w2 44 n a)
  replace HH := Lib.hid (HH.out.add HC.out (.cells #[.int .i64 0, .int .i64 5, .int .i64 0, .int .i64 0, .int .i64 0, .int .i64 n, .int .i64 a] 44))
  obtain ⟨bf, hbf⟩ : ∃ bf, w2.heap.size = bf := ⟨_, rfl⟩
  rw [hbf] at HF HH hw2 ⊢
  clear hbf
  have HWB := Lib.hid hw2
  clear hw2
  generalize w2.alloc (.cells #[.int .i64 0, .int .i64 5, .int .i64 0, .int .i64 0, .int .i64 0, .int .i64 n, .int .i64 a] 44) = w3 at HF HH ⊢
  refine (HH.out.fault HC.out 0 5 0 0 0 n a).mono ?_
  rintro e w4 ⟨rfl, hh, hs⟩
  rw [K1.out] at hh ⊢
  replace HF := Lib.hid (HF.out.same hs (by simp))
  replace HH := Lib.hid hh
  clear hh hs
  obtain ⟨b1, b2⟩ := NT.g1
  go_wp2_with fail
  refine (HH.out.program HC.out 0 0 0 NT.pg3 NT.ok3 (by omega) (by omega)).mono ?_
  rintro e w5 ⟨rfl, hh, hs⟩
  rw [NT.m1_def] at hh
  rw [NT.f2]
  replace HF := Lib.hid (HF.out.same hs (by simp))
  replace HH := Lib.hid hh
  clear hh hs b1 b2
  obtain ⟨c0, c1, c2, c3, c4, c5, c6, c7⟩ := HF.out
  go_wp2_with fail
  clear c0 c1 c2 c3 c4 c5 c6 c7
  refine (HH.out.fault HC.out 0 5 0 0 0 n a).mono ?_
  rintro e w6 ⟨rfl, hh, hs⟩
  rw [K3.out] at hh ⊢
  replace HF := Lib.hid (HF.out.same hs (by simp))
  replace HH := Lib.hid hh
  clear hh hs
  obtain ⟨c0, c1, c2, c3, c4, c5, c6, c7⟩ := HF.out
  go_wp2_with fail
  clear c0 c1 c2 c3 c4 c5 c6 c7
  replace HF := Lib.hid (HF.out.set b)
  replace HH := Lib.hid (HH.out.setCell HC.out (b := bf) (o := 6) (s := none) (by simp) HWB.out (.int .i64 b))
  generalize w6.setCell ⟨bf, 6, none⟩ (.int .i64 b) = w7 at HF HH ⊢
  refine (HH.out.fault HC.out 0 5 0 0 0 n b).mono ?_
  rintro e w8 ⟨rfl, hh, hs⟩
  rw [K4.out] at hh ⊢
  replace HF := Lib.hid (HF.out.same hs (by simp))
  replace HH := Lib.hid hh
  clear hh hs
  go_wp2_with fail
  refine (HH.out.read HC.out 0 0 0).mono ?_
  rintro e w9 ⟨rfl, hp, hh, hs⟩
  rw [NT.f5]
  replace HF := Lib.hid (HF.out.same hs (by simp))
  have hsz := hh.bel.size
  have HP := Lib.hid (PgBox.new w9 (FlM.turnAt NT.pg3 n a) HOA.out.1 34)
  replace HH := Lib.hid (hh.add HC.out (.cells (cellsP (FlM.turnAt NT.pg3 n a)).toArray 34))
  have l_bf_cp := HF.out.lt
  replace HF := Lib.hid (HF.out.alloc (.cells (cellsP (FlM.turnAt NT.pg3 n a)).toArray 34))
  clear hp hh hs
  go_upto_region 14 with (refine wpList_storeP _ rfl _ _ rfl w9 _ rfl rfl rfl (FlM.turnAt NT.pg3 n a) rfl HOA.out.1 ?_)
  obtain ⟨cp, hcp⟩ : ∃ cp, w9.heap.size = cp := ⟨_, rfl⟩
  rw [hcp] at HP HH hsz ⊢
  rw [hcp] at l_bf_cp
  clear hcp
  generalize w9.alloc (.cells (cellsP (FlM.turnAt NT.pg3 n a)).toArray 34) = w10 at HP HH HF ⊢
  have HW := Lib.hid (PgBox.new w10 NT.pg3 rfl 34)
  have l_bf_cw := HF.out.lt
  replace HF := Lib.hid (HF.out.alloc (.cells (cellsP NT.pg3).toArray 34))
  have l_cp_cw := HP.out.lt
  replace HP := Lib.hid (HP.out.alloc (.cells (cellsP NT.pg3).toArray 34))
  replace HH := Lib.hid (HH.out.add HC.out (.cells (cellsP NT.pg3).toArray 34))
  go_upto_region 15 with (refine wpList_storeP _ rfl _ _ rfl w10 _ rfl rfl rfl NT.pg3 rfl rfl ?_)
  obtain ⟨cw, hcw⟩ : ∃ cw, w10.heap.size = cw := ⟨_, rfl⟩
  rw [hcw] at HW HH ⊢
  rw [hcw] at l_bf_cw
  rw [hcw] at l_cp_cw
  clear hcw
  have hwc : w.heap.size ≤ cw := by clear xa xb ea eb; omega
  generalize w10.alloc (.cells (cellsP NT.pg3).toArray 34) = w11 at HW HH HF HP ⊢
  have y1 := HW.out.cell n hn
  have y2 := HW.out.free n hn
  rw [HX.out] at y1
  have HWC := Lib.hid hwc
  have N_bf_cw := Lib.hid (Nat.ne_of_lt l_bf_cw)
  have N_cp_cw := Lib.hid (Nat.ne_of_lt l_cp_cw)
  clear hsz hwc l_bf_cp l_bf_cw l_cp_cw
  go_wp2_with fail
  clear y1 y2
  replace HH := Lib.hid (HH.out.setCell HC.out (b := cw) (o := n) (s := none) (by simp) HWC.out (.int .u8 (XA : Int)))
  replace HW := Lib.hid (HW.out.set n hn XA)
  replace HF := Lib.hid (HF.out.off (Below.heap_setCell w11 ⟨cw, n, none⟩ (.int .u8 (XA : Int)) bf N_bf_cw.out))
  replace HP := Lib.hid (HP.out.off (Below.heap_setCell w11 ⟨cw, n, none⟩ (.int .u8 (XA : Int)) cp N_cp_cw.out))
  clear HWC N_bf_cw N_cp_cw
  generalize w11.setCell ⟨cw, n, none⟩ (.int .u8 (XA : Int)) = w12 at HW HH HF HP ⊢
  rw [← HTA.out] at HW
  obtain ⟨b1, b2, b3, b4⟩ := NT.g2 n a
  refine (HH.out.erase HC.out 0 0 (by rw [b1]; omega) (by show (FlM.blk _ 0 0).worn < _; rw [b2]; omega)).mono ?_
  rintro e w13 ⟨rfl, hh, hs⟩
  rw [NT.m3_def] at hh
  rw [NT.f6]
  replace HF := Lib.hid (HF.out.same hs (by simp))
  replace HP := Lib.hid (HP.out.same hs (by simp))
  replace HW := Lib.hid (HW.out.same hs (by simp))
  replace HH := Lib.hid hh
  clear hh hs b1 b2
  go_wp2_with fail
  refine (HH.out.program HC.out 0 0 0 NT.pg3 NT.ok3 (by rw [b3]; omega) (by rw [b4]; omega)).mono ?_
  rintro e w14 ⟨rfl, hh, hs⟩
  rw [NT.m4_def] at hh
  rw [NT.f7]
  replace HF := Lib.hid (HF.out.same hs (by simp))
  replace HP := Lib.hid (HP.out.same hs (by simp))
  replace HW := Lib.hid (HW.out.same hs (by simp))
  replace HH := Lib.hid hh
  clear hh hs b3 b4
  obtain ⟨c0, c1, c2, c3, c4, c5, c6, c7⟩ := HF.out
  go_wp2_with fail
  clear c0 c1 c2 c3 c4 c5 c6 c7
  refine (HH.out.fault HC.out 0 5 0 0 0 n b).mono ?_
  rintro e w15 ⟨rfl, hh, hs⟩
  rw [K8.out] at hh ⊢
  replace HF := Lib.hid (HF.out.same hs (by simp))
  replace HP := Lib.hid (HP.out.same hs (by simp))
  replace HW := Lib.hid (HW.out.same hs (by simp))
  replace HH := Lib.hid hh
  clear hh hs
  go_wp2_with fail
  clear HF
  refine (HH.out.read HC.out 0 0 0).mono ?_
  rintro e w16 ⟨rfl, hp, hh, hs⟩
  rw [NT.f9]
  replace HP := Lib.hid (HP.out.same hs (by simp))
  replace HW := Lib.hid (HW.out.same hs (by simp))
  have hsz := hh.bel.size
  have HQ := Lib.hid (PgBox.new w16 (FlM.turnAt NT.pg3 n b) HOB.out.1 34)
  replace HH := Lib.hid (hh.add HC.out (.cells (cellsP (FlM.turnAt NT.pg3 n b)).toArray 34))
  have l_cp_cq := HP.out.lt
  replace HP := Lib.hid (HP.out.alloc (.cells (cellsP (FlM.turnAt NT.pg3 n b)).toArray 34))
  have l_cw_cq := HW.out.lt
  replace HW := Lib.hid (HW.out.alloc (.cells (cellsP (FlM.turnAt NT.pg3 n b)).toArray 34))
  clear hp hh hs
  go_upto_region 20 with (refine wpList_storeP _ rfl _ _ rfl w16 _ rfl rfl rfl (FlM.turnAt NT.pg3 n b) rfl HOB.out.1 ?_)
  obtain ⟨cq, hcq⟩ : ∃ cq, w16.heap.size = cq := ⟨_, rfl⟩
  rw [hcq] at HQ HH hsz ⊢
  rw [hcq] at l_cp_cq
  rw [hcq] at l_cw_cq
  clear hcq
  generalize w16.alloc (.cells (cellsP (FlM.turnAt NT.pg3 n b)).toArray 34) = w17 at HQ HH HP HW ⊢
  have HV := Lib.hid (PgBox.new w17 NT.pg3 rfl 34)
  have l_cp_cv := HP.out.lt
  replace HP := Lib.hid (HP.out.alloc (.cells (cellsP NT.pg3).toArray 34))
  have l_cw_cv := HW.out.lt
  replace HW := Lib.hid (HW.out.alloc (.cells (cellsP NT.pg3).toArray 34))
  have l_cq_cv := HQ.out.lt
  replace HQ := Lib.hid (HQ.out.alloc (.cells (cellsP NT.pg3).toArray 34))
  replace HH := Lib.hid (HH.out.add HC.out (.cells (cellsP NT.pg3).toArray 34))
  go_upto_region 21 with (refine wpList_storeP _ rfl _ _ rfl w17 _ rfl rfl rfl NT.pg3 rfl rfl ?_)
  obtain ⟨cv, hcv⟩ : ∃ cv, w17.heap.size = cv := ⟨_, rfl⟩
  rw [hcv] at HV HH ⊢
  rw [hcv] at l_cp_cv
  rw [hcv] at l_cw_cv
  rw [hcv] at l_cq_cv
  clear hcv
  have hwc : w.heap.size ≤ cv := by clear xa xb ea eb; omega
  generalize w17.alloc (.cells (cellsP NT.pg3).toArray 34) = w18 at HV HH HP HW HQ ⊢
  have y1 := HV.out.cell n hn
  have y2 := HV.out.free n hn
  rw [HX.out] at y1
  have HWC := Lib.hid hwc
  have N_cp_cv := Lib.hid (Nat.ne_of_lt l_cp_cv)
  have N_cw_cv := Lib.hid (Nat.ne_of_lt l_cw_cv)
  have N_cq_cv := Lib.hid (Nat.ne_of_lt l_cq_cv)
  clear hsz hwc l_cp_cq l_cw_cq l_cp_cv l_cw_cv l_cq_cv
  go_upto_region 22 with fail
  clear y1 y2
  replace HH := Lib.hid (HH.out.setCell HC.out (b := cv) (o := n) (s := none) (by simp) HWC.out (.int .u8 (XB : Int)))
  replace HV := Lib.hid (HV.out.set n hn XB)
  replace HP := Lib.hid (HP.out.off (Below.heap_setCell w18 ⟨cv, n, none⟩ (.int .u8 (XB : Int)) cp N_cp_cv.out))
  replace HW := Lib.hid (HW.out.off (Below.heap_setCell w18 ⟨cv, n, none⟩ (.int .u8 (XB : Int)) cw N_cw_cv.out))
  replace HQ := Lib.hid (HQ.out.off (Below.heap_setCell w18 ⟨cv, n, none⟩ (.int .u8 (XB : Int)) cq N_cq_cv.out))
  clear HWC N_cp_cv N_cw_cv N_cq_cv
  generalize w18.setCell ⟨cv, n, none⟩ (.int .u8 (XB : Int)) = w19 at HV HH HP HW HQ ⊢
  rw [← HTB.out] at HV
  go_wp2_with (first | (refine wpList_loadPg _ (by rfl) _ rfl cp 0 rfl (FlM.turnAt NT.pg3 n a) HP.out.length HP.out.at ?_) | (refine wpList_loadPg _ (by rfl) _ rfl cw 0 rfl (FlM.turnAt NT.pg3 n a) HW.out.length HW.out.at ?_) | (refine wpList_loadPg _ (by rfl) _ rfl cq 0 rfl (FlM.turnAt NT.pg3 n b) HQ.out.length HQ.out.at ?_) | (refine wpList_loadPg _ (by rfl) _ rfl cv 0 rfl (FlM.turnAt NT.pg3 n b) HV.out.length HV.out.at ?_) | (refine wpList_eqlPg _ (by rfl) _ _ _ rfl (FlM.turnAt NT.pg3 n a) (FlM.turnAt NT.pg3 n a) rfl rfl HOA.out HOA.out ?_) | (refine wpList_eqlPg _ (by rfl) _ _ _ rfl (FlM.turnAt NT.pg3 n b) (FlM.turnAt NT.pg3 n b) rfl rfl HOB.out HOB.out ?_))
  go_ret
  exact ⟨rfl, HH.out.bel⟩
end Go.Proofs.YtfploeefmnbpcaaGreat
