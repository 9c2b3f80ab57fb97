import Derived.Test.YtfploeefmnbpcaaGreatGFPlanW
/- The law FaultPlan: the walk. -/
namespace Go.Proofs.YtfploeefmnbpcaaGreat
open Go.RowKit Mp
set_option linter.unusedSimpArgs false
namespace FQ
theorem take_is {w : World} {A : Option Addr} {l : List FtM} (m : Nat) (h : FaultsIs w A l) : FaultsIs w A (l.take m) := fun i f hi => h i f (by
  rw [List.getElem?_take] at hi
  split at hi
  · exact hi
  · cases hi)
end FQ
attribute [local irreducible] wpPlan wpT
set_option maxRecDepth 100000 in
set_option maxHeartbeats 8000000 in
theorem faultPlan_core {IsN : IsT} {Is : PlanT} (P : PlanC IsN Is) (G : Begun7) (ga gb gc : Int) (A : Option Addr) (cap : Nat) (l : List FtM) (A2 : Option Addr) (len2 cap2 : Nat) (zs : List Int) (w : World) (hl : FaultsIs w A l) (hcap : l.length ≤ cap) (hmax : cap ≤ maxLen) (hz : IsInts w A2 len2 cap2 zs) :
    Calls Tryz.prog 7 #[geoV ga gb gc, .slice A l.length cap, .slice A2 len2 cap2] w fun e w' => e = .returned (.bool true) ∧ Below w.heap.size w w' := by
  obtain ⟨d, hd⟩ : ∃ d, 3 + ga % 4 = d := ⟨_, rfl⟩
  obtain ⟨b, hb⟩ : ∃ b, 8 + gb % 9 = b := ⟨_, rfl⟩
  obtain ⟨p, hp⟩ : ∃ p, 2 + gc % 7 = p := ⟨_, rfl⟩
  have HGEO := Lib.hid (fun w => by have := geo_any ga gb gc w; rw [hd, hb, hp] at this; exact this)
  obtain ⟨n, hn⟩ : ∃ n, l.length = n := ⟨_, rfl⟩
  have hcm : cap ≤ 9223372036854775807 := by unfold maxLen at hmax; omega
  rw [hn] at hcap ⊢
  obtain ⟨m, hm⟩ : ∃ m, min n 20 = m := ⟨_, rfl⟩
  have hl' := FQ.take_is m hl
  have hmin : (min (n : Int) 20).toNat = m := by omega
  obtain ⟨L0, hL0⟩ : ∃ L0, l.take m = L0 := ⟨_, rfl⟩
  rw [hL0] at hl'
  have hlen0 : L0.length = m := by rw [← hL0, List.length_take]; omega
  have HN := Lib.hid hlen0
  have HP := Lib.hid P
  have HG := Lib.hid G
  have HL := Lib.hid hl'
  have HMX := Lib.hid hmax
  have HZ := Lib.hid hz
  have HMIN := Lib.hid hmin
  have hm20 : m ≤ 20 := by omega
  have hmcap : m ≤ cap := by omega
  obtain ⟨B, hB⟩ : ∃ B, w.heap.size = B := ⟨_, rfl⟩
  have HBE := Lib.hid hB
  have FN := Lib.hid (new_one w 25 [.int .i64 ga, .int .i64 gb, .int .i64 gc])
  clear P G hl hl' hn hd hb hp hmax hz hm hmin hL0 hlen0
  go_enter Tryz.func7, Tryz.ntmps7
  go_wp2_with fail
  refine (HG.out _).mono ?_
  rintro e w1 ⟨rfl, hb1⟩
  dsimp only
  have RG := Lib.hid (FN.out.1.below hb1 (Nat.le_refl _))
  have HB := Lib.hid (FN.out.2.1.trans (hb1.mono FN.out.2.1.size))
  rw [HBE.out] at RG HB
  have c0 : w1.cell? ⟨B, 0, none⟩ = some (.int .i64 ga) := RG.out.cell rfl
  have c1 : w1.cell? ⟨B, 1, none⟩ = some (.int .i64 gb) := RG.out.cell rfl
  have c2 : w1.cell? ⟨B, 2, none⟩ = some (.int .i64 gc) := RG.out.cell rfl
  have szG : ∀ W : World, (sizeOf 25).run Tryz.prog W = .ok 3 W := fun W => by kernel_rfl
  have isG : ∀ W : World, (isAgg 25).run Tryz.prog W = .ok true W := fun W => by kernel_rfl
  have SZG := Lib.hid szG
  have ISG := Lib.hid isG
  clear hb1 szG isG FN
  go_upto_region 5 with (first | (go_at_call 27; (with_reducible refine (HGEO.out _).mono ?_); rintro e w2 ⟨rfl, hb2⟩; have RG := Lib.hid (RG.out.below hb2 (Nat.le_refl _)); have HB := Lib.hid (HB.out.trans (hb2.mono (by have := HB.out.size; have := HBE.out; omega))); clear hb2) | (refine wpList_skip rfl (exec_store rfl rfl rfl (run_storeRow (ds := [.int .i64 d, .int .i64 b, .int .i64 p]) SZG.out RG.out rfl rfl (by simp [Value.oneCell']))) ?_))
  refine gen_world (p := fun W => Row W B 25 [.int .i64 d, .int .i64 b, .int .i64 p] ∧ Below B w W) ⟨RG.out.set _, below_setRow HB.out (Nat.le_refl _) _⟩ ?_
  clear RG HB c0 c1 c2
  intro w3 NW
  obtain ⟨rg, hb⟩ := NW
  have RG := Lib.hid rg
  have HB := Lib.hid hb
  have c0 : w3.cell? ⟨B, 0, none⟩ = some (.int .i64 d) := rg.cell rfl
  have c1 : w3.cell? ⟨B, 1, none⟩ = some (.int .i64 b) := rg.cell rfl
  have c2 : w3.cell? ⟨B, 2, none⟩ = some (.int .i64 p) := rg.cell rfl
  have hnc : min (n : Int) 20 ≤ (cap : Int) := by omega
  have hn0 : 0 ≤ min (n : Int) 20 := by omega
  clear rg hb
  go_simp
  go_wp2_with fail
  rw [HMIN.out]
  have HNEW := HP.out.new d b p A cap L0 w3 (HL.out.below (w' := w3) (by have := HB.out; rw [← HBE.out] at this; exact this)) (by rw [HN.out]; exact hmcap) HMX.out (by rw [HN.out]; exact hm20)
  rw [HN.out] at HNEW
  refine HNEW.mono ?_
  rintro e w4 ⟨gp, F, rfl, hpl, hFn, hb4⟩
  dsimp only
  have HON := Lib.hid (show FQ.One Is w w4 B w4.heap.size gp d b p (.slice none 0 0) (FQ.upto d b p L0 0) (L0.filter (mayF d b p)) F from
    ⟨RG.out.below hb4 (Nat.le_refl _), hpl, World.ownsRow_nil _ _ _ _, fun k hk => ⟨by have := hFn k hk; have := RG.out.lt; omega, HP.out.lt hpl k hk⟩, HB.out.trans (hb4.mono (Nat.le_of_lt RG.out.lt)), by have := RG.out.lt; have := hb4.size; omega⟩)
  clear HNEW c0 c1 c2 hpl hFn hb4 RG HB hnc hn0
  obtain ⟨Bp, hBp⟩ : ∃ Bp, w4.heap.size = Bp := ⟨_, rfl⟩
  rw [hBp] at HON
  clear hBp
  go_wp2_with fail
  go_loopw [9, 10] (fun v9 i W => ∃ k : Nat, k ≤ m ∧ i = .int .i64 (k : Int) ∧ Hid (FQ.One Is w W B Bp gp d b p v9 (FQ.upto d b p L0 k) (L0.filter (mayF d b p)) F)) (fun _ i _ => (m - intOf i).toNat)
  case atStart => exact ⟨0, Nat.zero_le _, rfl, HON⟩
  case round =>
    clear HON
    obtain ⟨k, hk, rfl, HO⟩ := hrel
    by_cases hkm : k < m
    · obtain ⟨f, hf⟩ : ∃ f, L0[k]? = some f := ⟨_, List.getElem?_eq_getElem (by rw [HN.out]; exact hkm)⟩
      have HFK := Lib.hid hf
      obtain ⟨ab, ao, hA, hcells⟩ := HL.out k f hf
      subst hA
      have hab : ab < w.heap.size := World.block_lt_of_cell? w _ (hcells 0 _ rfl)
      have hgeo : ∀ W, Below B w W → ∀ j u, (cellsFau f)[j]? = some u → W.cell? ⟨ab, ao + k * 7 + j, none⟩ = some u := fun W hW j u hu => by
        rw [← HBE.out] at hW
        exact (hW.cell (p := ⟨ab, ao + k * 7 + j, none⟩) hab).trans (hcells j u hu)
      have HFC := Lib.hid hgeo
      have HMAY := Lib.hid (fun W => HP.out.may d b p f W)
      have hkz : (k : Int) < (m : Int) := by omega
      clear hgeo hcells hab hf
      go_upto_region 11 with fail
      have SRW : ∀ W', FQ.One Is w W' B Bp gp d b p u9 (FQ.upto d b p L0 k) (L0.filter (mayF d b p)) F → Below B w W' := fun W' h => h.bel
      refine wp_region_plan (S := fun W' => FQ.One Is w W' B Bp gp d b p u9 (FQ.upto d b p L0 k) (L0.filter (mayF d b p)) F) [(0, true), (1, true), (2, true), (3, true), (4, true), (5, false)] (by kernel_rfl) (by kernel_rfl) (by kernel_rfl) (by decide) (fun _ _ d _ _ h => by cases d <;> exact h) (HO.out.below HP.out (Below.refl _ _).drew) ?_
      simp only [stepsOf, nth, slotOf]
      refine wpPlan_plain (geoV d b p) (by rfl) (fun w' hw' => exec_load rfl rfl (run_loadRow ISG.out SZG.out rfl hw'.geo)) ?_
      go_simp
      iterate 3 (refine wpPlan_plain ?_ (by rfl) ?_ ?_; rotate_left; (focus (intro w' hw'; go_simp; try with_reducible rfl)); go_simp)
      refine wpPlan_plain (encF f) (by rfl) (fun w' hw' => exec_load rfl rfl (run_loadAgg (b := ab) (o := ao + k * 7) FQ.agg_F FQ.size_F rfl (HFC.out w' hw'.bel))) ?_
      go_simp
      refine wpPlan_loud (by rfl) (fun KK hKK => ?_)
      go_simp
      refine (HMAY.out _).mono ?_
      rintro e W2 ⟨rfl, hb2⟩
      dsimp only
      have HO2 := Lib.hid ((HO.out.below HP.out (Below.refl _ _).drew).below HP.out hb2)
      refine hKK _ _ _ (fun _ h => h) HO2.out ?_
      clear hKK hb2
      refine wpPlan_nil ?_
      cases hm : mayF d b p f
      · go_wp2_with fail
        go_round
        case measure => simp only [intOf]; omega
        case rel => exact ⟨k + 1, by omega, by go_num, by rw [FQ.upto_no HFK.out hm]; exact HO2⟩
      · have HLD := Lib.hid (fun j u (hj : (cellsFau f)[j]? = some u) => HFC.out W2 HO2.out.bel j u hj)
        have HO3 := Lib.hid (HO2.out.below HP.out ((Below.refl W2.heap.size W2).alloc (Nat.le_refl _) (.cells (cellsFau f).toArray 44)))
        have hul := FQ.upto_len d b p L0 k
        have hc3 : Hid ((FQ.upto d b p L0 k).length + 1 ≤ maxLen) := by show _ ≤ _; unfold maxLen; omega
        have hc4 : Hid (((FQ.upto d b p L0 k).length + 1) * 56 ≤ 140737488355328) := by show _ ≤ _; omega
        have hsz3 := HO3.out.bp.2
        obtain ⟨i0, hi0, hz0, hz1, hz2⟩ := info_parts FQ.info
        go_wp2_with (first | (refine wpList_value (v := encF f) rfl (exec_load rfl rfl (run_loadAgg (b := ab) (o := ao + k * 7) FQ.agg_F FQ.size_F rfl HLD.out)) ?_) | (at_builtin; refine wpList_plain rfl (fun KK hKK => wp_append_x _ _ 47 rfl Bp 44 i0 _ 7 56 Tryz.underlying47 hi0 hz0 hz1 hz2 rfl (by decide) u9 (FQ.upto d b p L0 k).length ((FQ.upto d b p L0 k).flatMap cellsFau) rfl HO3.out.own (some ⟨W2.heap.size, 0, none⟩) 1 1 (cellsFau f) rfl (fun e => (by cases e)) rfl (fun ad e => (by cases e; exact FQ.new_cells W2 _ _)) (FQ.flat_F _) hc3.out hc4.out hsz3 (fun v9' W3 hown3 hgrow3 _ => hKK _ _ ?_))))
        have HO4 := Lib.hid (HO3.out.push HP.out hgrow3 hown3)
        clear hown3 hgrow3 hi0 hz0 hz1 hz2
        go_wp2_with fail
        go_round
        case measure => simp only [intOf]; omega
        case rel => exact ⟨k + 1, by omega, by go_num, by rw [FQ.upto_yes HFK.out hm]; exact HO4⟩
    · obtain rfl : k = m := by omega
      have hkz : ¬ (k : Int) < (k : Int) := by omega
      rw [FQ.upto_all d b p L0 k HN.out] at HO
      have hL20 : (L0.filter (mayF d b p)).length ≤ 20 := by
        have h1 := List.length_filter_le (mayF d b p) L0
        have h2 := HN.out
        omega
      have HOUT := Lib.hid (HO.out.out hL20)
      generalize L0.filter (mayF d b p) = L at HOUT
      clear HO
      obtain ⟨a9, cap9, hu9, hle9, hcm9, his9⟩ := FQ.own_is HOUT.out.own
      subst hu9
      clear his9
      have HLEFT := Lib.hid (HP.out.left HOUT.out.plan)
      go_wp2_with (go_at_call 34; (with_reducible refine HLEFT.out.mono ?_); rintro e w5 ⟨rfl, hb5⟩)
      have HOUT5 := Lib.hid (HOUT.out.below HP.out hb5)
      clear HLEFT HOUT hb5 hkz hle9 hcm9 hL20
      go_loopw [9, 11] (fun v9 i W => ∃ (j : Nat) (L : List FtM) (F : Nat → Prop), j ≤ 12 ∧ i = .int .i64 (j : Int) ∧ Hid (FQ.Out Is w W B gp d b p v9 L F)) (fun _ i _ => (12 - intOf i).toNat)
      case atStart => exact ⟨0, L, F, by omega, rfl, HOUT5⟩
      case round =>
        clear HOUT5
        obtain ⟨j, L1, F1, hj12, rfl, HO⟩ := hrel
        by_cases hjl : j < len2
        · by_cases hj : j < 12
          · have hjz : (j : Int) < (len2 : Int) := by omega
            have hjz2 : (j : Int) < 12 := by omega
            obtain ⟨b2, o2, rfl, hz1, hz2, hz3⟩ := (HZ.out.below (w' := wr) (by have := HO.out.bel; rw [← HBE.out] at this; exact this)).at j hjl
            obtain ⟨z, hz⟩ : ∃ z, zs.getD j 0 = z := ⟨_, rfl⟩
            rw [hz] at hz1
            clear hz hz2 hz3
            obtain ⟨n1, hn1⟩ : ∃ n1, L1.length = n1 := ⟨_, rfl⟩
            have HN1 := Lib.hid hn1
            have hn20 : n1 ≤ 20 := by rw [← hn1]; exact HO.out.len
            obtain ⟨a1, cap1, hu1, hle1, hcm1, his1⟩ := FQ.own_is HO.out.own
            rw [hn1] at hu1 hle1
            subst hu1
            have hb2 : b2 < w.heap.size := by
              obtain ⟨b', o', e, hc⟩ := HZ.out.row j (.int .i64 (zs.getD j 0)) (by
                have hjs : j < zs.length := by rw [HZ.out.size]; exact hjl
                rw [List.getElem?_map, List.getElem?_eq_getElem hjs]; simp [List.getD, List.getElem?_eq_getElem hjs])
              cases e
              exact World.block_lt_of_cell? w _ hc
            have hats : ∀ W, Below wr.heap.size wr W → W.cell? ⟨b2, o2 + j, none⟩ = some (.int .i64 z) := fun W hW => (hW.cell (p := ⟨b2, o2 + j, none⟩) (World.block_lt_of_cell? wr _ hz1)).trans hz1
            have hatB : ∀ W, Below B w W → W.cell? ⟨b2, o2 + j, none⟩ = some (.int .i64 z) := fun W hW => by
              have h1 := HO.out.bel
              rw [← HBE.out] at h1 hW
              have h2 := (h1.cell (p := ⟨b2, o2 + j, none⟩) hb2).symm.trans hz1
              exact (hW.cell (p := ⟨b2, o2 + j, none⟩) hb2).trans h2
            have HAT := Lib.hid hatB
            have HDUE := Lib.hid (HO.out.due HP.out z)
            have hgpn : nptr gp = .pointer (some ⟨gp, 0, none⟩) := rfl
            clear his1 hn1 hats hatB hb2 HO
            go_wp2_with (go_at_call 35; (with_reducible refine HDUE.out.mono ?_); rintro e w6 ⟨ag, capg, F2, rfl, hleg, hcmg, hmid⟩)
            have HMID := Lib.hid hmid
            have hown1 := hmid.own
            clear HDUE hmid hz1
            have hcg : capg ≤ 9223372036854775807 := by unfold maxLen at hcmg; omega
            have HIS := Lib.hid (FQ.own_faults hown1)
            clear hown1
            go_loopw [13, 14, 15] (fun v13 v14 kk W => ∃ q : Nat, q ≤ n1 ∧ kk = .int .i64 (q : Int) ∧ Hid (FQ.In w6 W v13 v14 L1 z q)) (fun _ _ kk _ => (n1 - intOf kk).toNat)
            case atStart => exact ⟨0, Nat.zero_le _, rfl, Lib.hid (FQ.In.start w6 L1 z)⟩
            case round =>
              obtain ⟨q, hq, rfl, HI⟩ := hrel
              by_cases hqn : q < n1
              · have hqz : (q : Int) < (n1 : Int) := by omega
                obtain ⟨f, hf⟩ : ∃ f, L1[q]? = some f := ⟨_, List.getElem?_eq_getElem (by rw [HN1.out]; exact hqn)⟩
                have HFK := Lib.hid hf
                obtain ⟨b1, o1, hA1, hcells⟩ := HIS.out q f hf
                subst hA1
                have hab : b1 < w6.heap.size := World.block_lt_of_cell? w6 _ (hcells 0 _ rfl)
                have hgeo : ∀ W, Below w6.heap.size w6 W → ∀ j u, (cellsFau f)[j]? = some u → W.cell? ⟨b1, o1 + q * 7 + j, none⟩ = some u := fun W hW j u hu => (hW.cell (p := ⟨b1, o1 + q * 7 + j, none⟩) hab).trans (hcells j u hu)
                have HFC := Lib.hid hgeo
                have HBB := Lib.hid (fun (W : World) (hW : Below w6.heap.size w6 W) => HMID.out.bel.trans (hW.mono (Nat.le_of_lt HMID.out.geo.lt)))
                clear hgeo hcells hab hf
                go_upto_region 23 with fail
                by_cases hgt : z < f.at'
                · refine wp_region_plan (S := fun W' => FQ.In w6 W' u13 u14 L1 z q) [(0, true), (1, true), (2, true), (3, true), (4, true), (5, true), (6, true), (7, true), (8, true), (9, true)] (by kernel_rfl) (by kernel_rfl) (by kernel_rfl) (by decide) (fun _ _ d _ _ h => by cases d <;> exact h) (HI.out.below (Below.refl _ _).drew) ?_
                  simp only [stepsOf, nth, slotOf]
                  iterate 10 (refine wpPlan_plain ?_ (by rfl) ?_ ?_; rotate_left; (focus (intro w' hw'; have y0 : w'.cell? ⟨b1, o1 + q * 7, none⟩ = some (.int .i64 f.at') := HFC.out w' hw'.bel 0 _ rfl; have y1 := HAT.out w' (HBB.out w' hw'.bel); go_simp; try with_reducible rfl)); go_simp)
                  refine wpPlan_nil ?_
                  have HI2 := Lib.hid (HI.out.below (Below.refl _ _).drew)
                  have HLD := Lib.hid (fun j u (hj : (cellsFau f)[j]? = some u) => HFC.out _ HI2.out.bel j u hj)
                  have HI3 := Lib.hid (HI2.out.below ((Below.refl wr.drew.heap.size wr.drew).alloc (Nat.le_refl _) (.cells (cellsFau f).toArray 44)))
                  have hul := FP.restK_len L1 z q
                  have hc3 : Hid ((FP.restK L1 z q).length + 1 ≤ maxLen) := by show _ ≤ _; unfold maxLen; omega
                  have hc4 : Hid (((FP.restK L1 z q).length + 1) * 56 ≤ 140737488355328) := by show _ ≤ _; omega
                  have hsz3 := HI3.out.bel.size
                  obtain ⟨i0, hi0, hz0, hz1, hz2⟩ := info_parts FQ.info
                  go_wp2_with (first | (refine wpList_value (v := encF f) rfl (exec_load rfl rfl (run_loadAgg (b := b1) (o := o1 + q * 7) FQ.agg_F FQ.size_F rfl HLD.out)) ?_) | (at_builtin; refine wpList_plain rfl (fun KK hKK => wp_append_x _ _ 47 rfl w6.heap.size 44 i0 _ 7 56 Tryz.underlying47 hi0 hz0 hz1 hz2 rfl (by decide) u14 (FP.restK L1 z q).length ((FP.restK L1 z q).flatMap cellsFau) rfl HI3.out.rest (some ⟨wr.heap.size, 0, none⟩) 1 1 (cellsFau f) rfl (fun e => (by cases e)) rfl (fun ad e => (by cases e; exact FQ.new_cells wr.drew _ _)) (FQ.flat_F _) hc3.out hc4.out hsz3 (fun v14' W3 hown3 hgrow3 _ => hKK _ _ ?_))))
                  have HI4 := Lib.hid (HI3.out.pushRest HFK.out hgt hgrow3 hown3)
                  clear hown3 hgrow3 hi0 hz0 hz1 hz2
                  go_round
                  case measure => simp only [intOf]; omega
                  case rel => exact ⟨q + 1, by omega, by go_num, HI4⟩
                · have hle0 : f.at' ≤ z := by omega
                  refine wp_region_plan (S := fun W' => FQ.In w6 W' u13 u14 L1 z q) [(0, true), (1, true), (2, true), (3, true), (4, true), (5, true), (6, true), (7, true), (8, true), (9, true)] (by kernel_rfl) (by kernel_rfl) (by kernel_rfl) (by decide) (fun _ _ d _ _ h => by cases d <;> exact h) (HI.out.below (Below.refl _ _).drew) ?_
                  simp only [stepsOf, nth, slotOf]
                  iterate 10 (refine wpPlan_plain ?_ (by rfl) ?_ ?_; rotate_left; (focus (intro w' hw'; have y0 : w'.cell? ⟨b1, o1 + q * 7, none⟩ = some (.int .i64 f.at') := HFC.out w' hw'.bel 0 _ rfl; have y1 := HAT.out w' (HBB.out w' hw'.bel); go_simp; try with_reducible rfl)); go_simp)
                  refine wpPlan_nil ?_
                  have HI2 := Lib.hid (HI.out.below (Below.refl _ _).drew)
                  obtain ⟨dn, hdn⟩ : ∃ dn, (FP.dueK L1 z q).length = dn := ⟨_, rfl⟩
                  have HDN := Lib.hid hdn
                  have hdn20 : dn ≤ 20 := by have := FP.dueK_len L1 z q; omega
                  obtain ⟨a13, cap13, hu13, hle13, hcm13, _⟩ := FQ.own_is HI2.out.want
                  rw [hdn] at hu13 hle13
                  subst hu13
                  generalize wr.drew = x0 at HI2 ⊢
                  clear HI hdn
                  go_wp2_with fail
                  go_loopw [16] (fun jj W => ∃ r : Nat, r ≤ dn ∧ jj = .int .i64 (r : Int) ∧ Hid (FQ.In w6 W (.slice a13 dn cap13) u14 L1 z q) ∧ Hid (∀ i g, r ≤ i → (FP.dueK L1 z q)[i]? = some g → f.at' < g.at')) (fun jj _ => (intOf jj).toNat)
                  case atStart => exact ⟨dn, Nat.le_refl _, rfl, HI2, Lib.hid (FP.spot_start _ _ _ HDN.out.symm)⟩
                  case round =>
                    clear HI2
                    obtain ⟨r, hr, rfl, HI, HUP⟩ := hrel
                    have hr20 : r ≤ 20 := by omega
                    obtain ⟨go, hgo⟩ : ∃ go : Bool, (r = 0 ∧ go = false) ∨ ∃ (r' : Nat) (g : FtM), r = r' + 1 ∧ (FP.dueK L1 z q)[r']? = some g ∧ go = decide (f.at' < g.at') := by
                      cases r with
                      | zero => exact ⟨false, .inl ⟨rfl, rfl⟩⟩
                      | succ r' => exact ⟨_, .inr ⟨r', _, rfl, List.getElem?_eq_getElem (by rw [HDN.out]; omega), rfl⟩⟩
                    have HGO := Lib.hid hgo
                    clear hgo
                    go_upto_region 26 with fail
                    go_cut [116] (fun u W => u = .bool go ∧ Hid (FQ.In w6 W (.slice a13 dn cap13) u14 L1 z q))
                    case first =>
                      rcases HGO.out with ⟨hr0, hg0⟩ | ⟨r', g, hr1, hg, hgd⟩
                      · clear HGO HUP
                        subst hr0 hg0
                        refine wp_region_plan (S := fun W' => FQ.In w6 W' (.slice a13 dn cap13) u14 L1 z q) [(0, true), (1, true), (2, true), (3, true), (4, true), (5, true), (6, true), (7, true), (8, true), (9, true), (10, true), (11, true), (12, true), (13, true), (14, true), (15, true)] (by kernel_rfl) (by kernel_rfl) (by kernel_rfl) (by decide) (fun _ _ d _ _ h => by cases d <;> exact h) (HI.out.below (Below.refl _ _).drew) ?_
                        simp only [stepsOf, nth, slotOf]
                        iterate 3 (refine wpPlan_plain ?_ (by rfl) ?_ ?_; rotate_left; (focus (intro w' hw'; go_simp; try with_reducible rfl)); go_simp)
                        iterate 12 (refine wpPlan_off (by rfl) ?_; go_simp)
                        iterate 1 (refine wpPlan_plain ?_ (by rfl) ?_ ?_; rotate_left; (focus (intro w' hw'; go_simp; try with_reducible rfl)); go_simp)
                        refine wpPlan_nil ?_
                        go_wp2_with fail
                        go_meet
                        case rel => exact ⟨rfl, Lib.hid (HI.out.below (Below.refl _ _).drew)⟩
                      · clear HGO HUP
                        subst hr1 hgd
                        obtain ⟨G, og, hG, _⟩ := FQ.own_faults HI.out.want r' g hg
                        subst hG
                        have hgz : (0 : Int) < (r' : Int) + 1 := by omega
                        refine wp_region_plan (S := fun W' => FQ.In w6 W' (.slice (some ⟨G, og, none⟩) dn cap13) u14 L1 z q) [(0, true), (1, true), (2, true), (3, true), (4, true), (5, true), (6, true), (7, true), (8, true), (9, true), (10, true), (11, true), (12, true), (13, true), (14, true), (15, true)] (by kernel_rfl) (by kernel_rfl) (by kernel_rfl) (by decide) (fun _ _ d _ _ h => by cases d <;> exact h) (HI.out.below (Below.refl _ _).drew) ?_
                        have hrd : (r' : Int) < (dn : Int) := by omega
                        have hwr : IntKind.i64.wrap (r' : Int) = (r' : Int) := by rw [IntKind.wrap_i64]; omega
                        simp only [stepsOf, nth, slotOf]
                        iterate 16 (refine wpPlan_plain ?_ (by rfl) ?_ ?_; rotate_left; (focus (intro w' hw'; have y0 : w'.cell? ⟨b1, o1 + q * 7, none⟩ = some (.int .i64 f.at') := HFC.out w' hw'.bel 0 _ rfl; obtain ⟨G', og', e', hc'⟩ := FQ.own_faults hw'.want r' g hg; cases e'; have y1 : w'.cell? ⟨G, og + r' * 7, none⟩ = some (.int .i64 g.at') := hc' 0 _ rfl; clear hc'; go_simp; try with_reducible rfl)); go_simp)
                        refine wpPlan_nil ?_
                        go_wp2_with fail
                        go_meet
                        case rel => exact ⟨rfl, Lib.hid (HI.out.below (Below.refl _ _).drew)⟩
                    case rest =>
                      obtain ⟨rfl, HI2⟩ := hcut
                      cases go with
                      | true =>
                        obtain ⟨r', g, hr1, hg, hgd⟩ : ∃ (r' : Nat) (g : FtM), r = r' + 1 ∧ (FP.dueK L1 z q)[r']? = some g ∧ f.at' < g.at' := by
                          rcases HGO.out with ⟨_, h⟩ | ⟨r', g, h1, h2, h3⟩
                          · cases h
                          · exact ⟨r', g, h1, h2, by simpa using h3.symm⟩
                        subst hr1
                        have HDOWN := Lib.hid (FP.spot_down hg hgd HUP.out)
                        clear HGO HUP HI hg hgd
                        go_wp2_with fail
                        go_round
                        case measure => simp only [intOf]; omega
                        case rel => exact ⟨r', by omega, by go_num, HI2, HDOWN⟩
                      | false =>
                        have SPOT := Lib.hid (show FP.Spot (FP.dueK L1 z q) f r from ⟨by rw [HDN.out]; exact hr, fun g h0 hg => by
                          rcases HGO.out with ⟨h, _⟩ | ⟨r', g', h1, h2, h3⟩
                          · omega
                          · subst h1
                            rw [Nat.add_sub_cancel, h2] at hg
                            cases hg
                            have : ¬ f.at' < g.at' := by simpa using h3.symm
                            omega, HUP.out⟩)
                        have hw0 := HI2.out.want
                        rw [HDN.out] at hw0
                        obtain ⟨oc, m2, c2, hcut0⟩ := FQ.cut_at (ty := 47) hw0 r hr Tryz.underlying47 FQ.size_F
                        have CUT := Lib.hid hcut0
                        have hlo := hcut0.lo
                        have hhi := hcut0.hi
                        have hm2 := hcut0.nk
                        have INSL : Hid (0 + r + 1 + m2 = (FP.dueK L1 z q).length + 1) := Lib.hid (by rw [HDN.out]; omega)
                        have HDL : Hid ((((FP.dueK L1 z q).flatMap cellsFau).drop (r * 7)).length = m2 * 7) := Lib.hid (by rw [List.length_drop, FP.flat_len, HDN.out]; omega)
                        have HTL : Hid ((((FP.dueK L1 z q).flatMap cellsFau).take (r * 7)).length = r * 7) := Lib.hid (by rw [List.length_take, FP.flat_len, HDN.out]; omega)
                        clear hw0 hcut0 HGO HI
                        obtain ⟨i0, hi0, hz0, hz1, hz2⟩ := info_parts FQ.info
                        go_upto_region 28 with fail
                        refine wp_region_tree (S := fun W' => Below w6.heap.size w6 W') (.plain 0 (.plain 1 (.plain 2 (.plain 4 (.plain 5 (.plain 6 (.plain 7 (.plain 10 (.plain 11 (.plain 12 (.fork 3 (.one 8 (.one 9 (.one 13 (.plain 14 .nil)))) 8 (.one 3 (.one 9 (.one 13 (.plain 14 .nil))))))))))))))) (by kernel_rfl) (by kernel_rfl) (by kernel_rfl) (by decide) (fun _ _ d _ _ h => by cases d <;> exact h) (HI2.out.below (Below.refl _ _).drew).bel ?_
                        simp only [treeOf, psOf, nth, slotOf]
                        iterate 6 (refine wpT_plain ?_ (by rfl) ?_ ?_; rotate_left; (focus (intro w' hw'; go_simp; try with_reducible rfl)); go_simp)
                        refine wpT_plain (encF f) (by rfl) (fun w' hw' => exec_load rfl rfl (run_loadAgg (b := b1) (o := o1 + q * 7) FQ.agg_F FQ.size_F rfl (HFC.out w' hw'))) ?_
                        go_simp
                        iterate 3 (refine wpT_plain ?_ (by rfl) ?_ ?_; rotate_left; (focus (intro w' hw'; go_simp; try with_reducible rfl)); go_simp)
                        refine wpT_fork (by rfl) (by rfl) (fun KK hKK => ?_) (fun KK hKK => ?_)
                        · refine wp_append_x _ _ 47 rfl wc.heap.size 44 i0 _ 7 56 Tryz.underlying47 hi0 hz0 hz1 hz2 rfl (by decide) (.slice none 0 0) 0 [] rfl (World.ownsRow_nil _ _ _ _) a13 r cap13 _ rfl CUT.out.loN HTL.out (CUT.out.low (Below.refl _ _).drew) (fun u hu => FQ.flat_one _ u (List.mem_of_mem_take hu)) (by unfold maxLen; omega) (by omega) (Nat.le_refl _) ?_
                          intro v1 x3 hown1 hgrow1 _
                          have HB3 := Lib.hid ((Below.refl wc.heap.size wc).drew.grown hgrow1 (Nat.le_refl _) (fun q hq => (by cases hq)))
                          obtain ⟨gb, hgb⟩ : ∃ gb, x3.heap.size = gb := ⟨_, rfl⟩
                          have OWN1 := Lib.hid (hown1.alloc (.cells (cellsFau f).toArray 44))
                          have HB4 := Lib.hid (HB3.out.alloc HB3.out.size (.cells (cellsFau f).toArray 44))
                          have NEWS := Lib.hid (FQ.new_cells x3 f 44)
                          rw [hgb] at NEWS
                          have HGB := Lib.hid hgb
                          refine hKK _ _ _ (fun _ h => h) (HI2.out.below HB3.out).bel ?_
                          clear hown1 hgrow1 hKK hgb
                          refine wpT_loud (by rfl) (fun KK hKK => ?_)
                          go_simp
                          rw [HGB.out]
                          refine hKK _ _ _ (fun _ h => h) (HI2.out.below HB4.out).bel ?_
                          clear hKK
                          refine wpT_loud (by rfl) (fun KK hKK => ?_)
                          refine wp_append_x _ _ 47 rfl wc.heap.size 44 i0 _ 7 56 Tryz.underlying47 hi0 hz0 hz1 hz2 rfl (by decide) v1 (0 + r) _ rfl OWN1.out (some ⟨gb, 0, none⟩) 1 1 (cellsFau f) rfl (fun e => (by cases e)) rfl (fun ad e => (by cases e; exact NEWS.out)) (FQ.flat_F f) (by unfold maxLen; omega) (by omega) HB4.out.size ?_
                          intro v2 x5 hown2 hgrow2 _
                          have HB5 := Lib.hid (HB4.out.grown hgrow2 HB4.out.size (fun q hq => (OWN1.out.lt q hq).1))
                          have OWN2 := Lib.hid hown2
                          clear hown2 hgrow2
                          refine hKK _ _ _ (fun _ h => h) (HI2.out.below HB5.out).bel ?_
                          clear hKK
                          go_simp
                          refine wpT_loud (by rfl) (fun KK hKK => ?_)
                          refine wp_append_x _ _ 47 rfl wc.heap.size 44 i0 _ 7 56 Tryz.underlying47 hi0 hz0 hz1 hz2 rfl (by decide) v2 (0 + r + 1) _ rfl OWN2.out oc m2 c2 _ rfl CUT.out.hiN HDL.out (CUT.out.high HB5.out) (fun u hu => FQ.flat_one _ u (List.mem_of_mem_drop hu)) (by unfold maxLen; omega) (by omega) HB5.out.size ?_
                          intro v3 x6 hown3 hgrow3 _
                          have HB6 := Lib.hid (HB5.out.grown hgrow3 HB5.out.size (fun q hq => (OWN2.out.lt q hq).1))
                          have OWN3 := Lib.hid hown3
                          clear hown3 hgrow3
                          have HIW := Lib.hid (HI2.out.pushWant HFK.out hle0 SPOT.out HB6.out (by have := OWN3.out; rw [INSL.out] at this; simpa using this))
                          refine hKK _ _ _ (fun _ h => h) (HI2.out.below HB6.out).bel ?_
                          clear hKK
                          go_simp
                          iterate 1 (refine wpT_plain ?_ (by rfl) ?_ ?_; rotate_left; (focus (intro w' hw'; go_simp; try with_reducible rfl)); go_simp)
                          refine wpT_nil ?_
                          clear hlo hhi hm2 INSL HDL HTL CUT SPOT HUP
                          go_wp2_with fail
                          go_round
                          case measure => simp only [intOf]; omega
                          case rel => exact ⟨q + 1, by omega, by go_num, HIW⟩
                        · have HB3 := Lib.hid ((Below.refl wc.heap.size wc).drew.alloc (Nat.le_refl _) (.cells (cellsFau f).toArray 44))
                          have NEWS0 := Lib.hid (FQ.new_cells wc.drew f 44)
                          go_simp
                          refine hKK _ _ _ (fun _ h => h) (HI2.out.below HB3.out).bel ?_
                          clear hKK
                          go_simp
                          refine wpT_loud (by rfl) (fun KK hKK => ?_)
                          refine wp_append_x _ _ 47 rfl wc.heap.size 44 i0 _ 7 56 Tryz.underlying47 hi0 hz0 hz1 hz2 rfl (by decide) (.slice none 0 0) 0 [] rfl (World.ownsRow_nil _ _ _ _) a13 r cap13 _ rfl CUT.out.loN HTL.out (CUT.out.low HB3.out) (fun u hu => FQ.flat_one _ u (List.mem_of_mem_take hu)) (by unfold maxLen; omega) (by omega) HB3.out.size ?_
                          intro v1 x4 hown1 hgrow1 _
                          have OWN1 := Lib.hid hown1
                          have HB4 := Lib.hid (HB3.out.grown hgrow1 HB3.out.size (fun q hq => (by cases hq)))
                          have NEWS := Lib.hid (fun j u hu => hgrow1.cell (NEWS0.out j u hu) (by simp [Value.ownBlock]))
                          clear hown1 hgrow1
                          refine hKK _ _ _ (fun _ h => h) (HI2.out.below HB4.out).bel ?_
                          clear hKK
                          go_simp
                          refine wpT_loud (by rfl) (fun KK hKK => ?_)
                          refine wp_append_x _ _ 47 rfl wc.heap.size 44 i0 _ 7 56 Tryz.underlying47 hi0 hz0 hz1 hz2 rfl (by decide) v1 (0 + r) _ rfl OWN1.out (some ⟨wc.heap.size, 0, none⟩) 1 1 (cellsFau f) rfl (fun e => (by cases e)) rfl (fun ad e => (by cases e; exact NEWS.out)) (FQ.flat_F f) (by unfold maxLen; omega) (by omega) HB4.out.size ?_
                          intro v2 x5 hown2 hgrow2 _
                          have HB5 := Lib.hid (HB4.out.grown hgrow2 HB4.out.size (fun q hq => (OWN1.out.lt q hq).1))
                          have OWN2 := Lib.hid hown2
                          clear hown2 hgrow2
                          refine hKK _ _ _ (fun _ h => h) (HI2.out.below HB5.out).bel ?_
                          clear hKK
                          go_simp
                          refine wpT_loud (by rfl) (fun KK hKK => ?_)
                          refine wp_append_x _ _ 47 rfl wc.heap.size 44 i0 _ 7 56 Tryz.underlying47 hi0 hz0 hz1 hz2 rfl (by decide) v2 (0 + r + 1) _ rfl OWN2.out oc m2 c2 _ rfl CUT.out.hiN HDL.out (CUT.out.high HB5.out) (fun u hu => FQ.flat_one _ u (List.mem_of_mem_drop hu)) (by unfold maxLen; omega) (by omega) HB5.out.size ?_
                          intro v3 x6 hown3 hgrow3 _
                          have HB6 := Lib.hid (HB5.out.grown hgrow3 HB5.out.size (fun q hq => (OWN2.out.lt q hq).1))
                          have OWN3 := Lib.hid hown3
                          clear hown3 hgrow3
                          have HIW := Lib.hid (HI2.out.pushWant HFK.out hle0 SPOT.out HB6.out (by have := OWN3.out; rw [INSL.out] at this; simpa using this))
                          refine hKK _ _ _ (fun _ h => h) (HI2.out.below HB6.out).bel ?_
                          clear hKK
                          go_simp
                          iterate 1 (refine wpT_plain ?_ (by rfl) ?_ ?_; rotate_left; (focus (intro w' hw'; go_simp; try with_reducible rfl)); go_simp)
                          refine wpT_nil ?_
                          clear hlo hhi hm2 INSL HDL HTL CUT SPOT HUP
                          go_wp2_with fail
                          go_round
                          case measure => simp only [intOf]; omega
                          case rel => exact ⟨q + 1, by omega, by go_num, HIW⟩
              · obtain rfl : q = n1 := by omega
                have hqz : ¬ (q : Int) < (q : Int) := by omega
                have HI' := HI.out
                rw [← HN1.out] at HI'
                obtain ⟨ho, hgot, hwant⟩ := HMID.out.done HP.out HI'
                obtain ⟨a13, cap13, hu13, hle13, hcm13, _⟩ := FQ.own_is hwant
                obtain ⟨a14, cap14, hu14, hle14, hcm14, _⟩ := FQ.own_is ho.own
                subst hu13 hu14
                obtain ⟨dn, hdn⟩ : ∃ dn, (dueL L1 z).length = dn := ⟨_, rfl⟩
                rw [hdn] at hleg hle13 ⊢
                have HDN := Lib.hid hdn
                obtain ⟨rn, hrn⟩ : ∃ rn, (restL L1 z).length = rn := ⟨_, rfl⟩
                rw [hrn] at hle14 ⊢
                have HLEFT := Lib.hid (HP.out.left ho.plan)
                rw [hrn] at HLEFT
                have HRN := Lib.hid hrn
                have HOUT := Lib.hid ho
                have HGOT := Lib.hid hgot
                have HWANT := Lib.hid hwant
                clear ho hgot hwant hdn hrn HI HI'
                go_wp2_with (go_at_call 34; (with_reducible refine HLEFT.out.mono ?_); rintro e w7 ⟨rfl, hb7⟩)
                have HOUT7 := Lib.hid (HOUT.out.below HP.out hb7)
                have HGOT7 := Lib.hid (HGOT.out.below hb7)
                have HWANT7 := Lib.hid (FQ.own_faults (ownsRow_same HWANT.out hb7.size fun g hg => hb7.block g (HWANT.out.lt g hg).2))
                clear HOUT HGOT HWANT hb7 HLEFT HAT HIS HMID hleg hle13 hle14 hcm13 hcm14 hqz
                have hdn20 : dn ≤ 20 := by
                  have h1 := FP.dueK_len L1 z L1.length
                  rw [FP.dueK_all, HDN.out, HN1.out] at h1
                  omega
                go_loopw [17] (fun kk W => ∃ t : Nat, t ≤ dn ∧ kk = .int .i64 (t : Int) ∧ Hid (Below w7.heap.size w7 W)) (fun kk _ => (dn - intOf kk).toNat)
                case atStart => exact ⟨0, Nat.zero_le _, rfl, Lib.hid (Below.refl _ _)⟩
                case round =>
                  obtain ⟨t, ht, rfl, HB7⟩ := hrel
                  by_cases htd : t < dn
                  · have htz : (t : Int) < (dn : Int) := by omega
                    obtain ⟨g, hg⟩ : ∃ g, (dueL L1 z)[t]? = some g := ⟨_, List.getElem?_eq_getElem (by rw [HDN.out]; exact htd)⟩
                    obtain ⟨bg, og, hAg, hcg1⟩ := HGOT7.out t g hg
                    obtain ⟨bw, ow, hAw, hcw1⟩ := HWANT7.out t g hg
                    subst hAg hAw
                    have HCG := Lib.hid (fun W (hW : Below w7.heap.size w7 W) j u (hj : (cellsFau g)[j]? = some u) => (hW.cell (p := ⟨bg, og + t * 7 + j, none⟩) (World.block_lt_of_cell? w7 _ (hcg1 j u hj))).trans (hcg1 j u hj))
                    have HCW := Lib.hid (fun W (hW : Below w7.heap.size w7 W) j u (hj : (cellsFau g)[j]? = some u) => (hW.cell (p := ⟨bw, ow + t * 7 + j, none⟩) (World.block_lt_of_cell? w7 _ (hcw1 j u hj))).trans (hcw1 j u hj))
                    clear hg hcg1 hcw1
                    go_upto_region 35 with fail
                    refine wp_region_plan (S := fun W' => Below w7.heap.size w7 W') [(0, true), (1, true), (2, true), (3, true), (4, true), (5, true), (6, true), (7, true), (8, true)] (by kernel_rfl) (by kernel_rfl) (by kernel_rfl) (by decide) (fun _ _ d _ _ h => by cases d <;> exact h) HB7.out.drew ?_
                    simp only [stepsOf, nth, slotOf]
                    iterate 3 (refine wpPlan_plain ?_ (by rfl) ?_ ?_; rotate_left; (focus (intro w' hw'; go_simp; try with_reducible rfl)); go_simp)
                    refine wpPlan_plain (encF g) (by rfl) (fun w' hw' => exec_load rfl rfl (run_loadAgg (b := bg) (o := og + t * 7) FQ.agg_F FQ.size_F rfl (HCG.out w' hw'))) ?_
                    go_simp
                    iterate 3 (refine wpPlan_plain ?_ (by rfl) ?_ ?_; rotate_left; (focus (intro w' hw'; go_simp; try with_reducible rfl)); go_simp)
                    refine wpPlan_plain (encF g) (by rfl) (fun w' hw' => exec_load rfl rfl (run_loadAgg (b := bw) (o := ow + t * 7) FQ.agg_F FQ.size_F rfl (HCW.out w' hw'))) ?_
                    go_simp
                    refine wpPlan_plain (.bool false) (by rfl) (fun w' _ => FQ.exec_neqF _ _ _ _ _ rfl g rfl rfl w') ?_
                    go_simp
                    refine wpPlan_nil ?_
                    have HB8 := Lib.hid HB7.out.drew
                    go_wp2_with fail
                    go_round
                    case measure => simp only [intOf]; omega
                    case rel => exact ⟨t + 1, by omega, by go_num, HB8⟩
                  · obtain rfl : t = dn := by omega
                    have htz : ¬ (t : Int) < (t : Int) := by omega
                    have HOUT8 := Lib.hid (HOUT7.out.below HP.out HB7.out)
                    rw [HRN.out] at HOUT8
                    go_wp2_with fail
                    go_round
                    case measure => simp only [intOf]; omega
                    case rel => exact ⟨j + 1, restL L1 z, F2, by omega, by go_num, HOUT8⟩
          · obtain rfl : j = 12 := by omega
            have hjz : (12 : Int) < (len2 : Int) := by omega
            go_wp2_with fail
            go_ret
            exact ⟨rfl, by first | exact HO.out.bel | (rw [HBE.out]; exact HO.out.bel)⟩
        · have hjz : ¬ (j : Int) < (len2 : Int) := by omega
          go_wp2_with fail
          go_ret
          exact ⟨rfl, by first | exact HO.out.bel | (rw [HBE.out]; exact HO.out.bel)⟩
end Go.Proofs.YtfploeefmnbpcaaGreat
