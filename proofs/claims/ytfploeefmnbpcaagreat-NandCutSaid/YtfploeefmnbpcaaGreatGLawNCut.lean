import Derived.Test.YtfploeefmnbpcaaGreatGNandU
/- The law NandCut: the walk. -/
namespace Go.Proofs.YtfploeefmnbpcaaGreat
open Go.RowKit Mp

attribute [local irreducible] NU.st NU.X NU.pre NU.p32 NU.fill

set_option linter.unusedVariables false in
set_option maxRecDepth 100000 in
set_option maxHeartbeats 4000000 in
theorem nandCut_walk {Is : IsT} (C : NandC Is) (G : Begun7) (ops keep more : Int) (w : World) (ho : (Lit.int .i64 ops).wf = true) (hk : (Lit.int .i64 keep).wf = true) (hm : (Lit.int .i64 more).wf = true) :
    Calls Tryz.prog 4 #[.int .i64 ops, .int .i64 keep, .int .i64 more] w fun e w' => e = .returned (.bool true) ∧ Below w.heap.size w w' := by
  have hk2 : keep ≤ 9223372036854775807 := by
    have : -9223372036854775808 ≤ keep ∧ keep ≤ 9223372036854775807 := by simpa [Lit.wf, IntKind.min, IntKind.max, IntKind.signed, IntKind.bits] using hk
    exact this.2
  have HK := Lib.hid hk2
  clear ho hk hm hk2
  by_cases h1 : ops < 0
  · have HC := Lib.hid C
    have HG := Lib.hid G
    clear C G
    go_enter Tryz.func4, Tryz.ntmps4
    go_wp2_with (go_at_call 15; refine (HG.out _).mono ?_; rintro e w1 ⟨rfl, hb1⟩; have HB1 := Lib.hid hb1; clear hb1)
    go_ret
    exact ⟨rfl, HB1.out⟩
  have d1 : decide (ops < 0) = false := by simp; omega
  by_cases h2 : 12 < ops
  · have HC := Lib.hid C
    have HG := Lib.hid G
    clear C G
    go_enter Tryz.func4, Tryz.ntmps4
    go_wp2_with (go_at_call 15; refine (HG.out _).mono ?_; rintro e w1 ⟨rfl, hb1⟩; have HB1 := Lib.hid hb1; clear hb1)
    go_ret
    exact ⟨rfl, HB1.out⟩
  have d2 : decide (12 < ops) = false := by simp; omega
  by_cases h3 : more < 0
  · have HC := Lib.hid C
    have HG := Lib.hid G
    clear C G
    go_enter Tryz.func4, Tryz.ntmps4
    go_wp2_with (go_at_call 15; refine (HG.out _).mono ?_; rintro e w1 ⟨rfl, hb1⟩; have HB1 := Lib.hid hb1; clear hb1)
    go_ret
    exact ⟨rfl, HB1.out⟩
  have d3 : decide (more < 0) = false := by simp; omega
  by_cases h4 : 10 < more
  · have HC := Lib.hid C
    have HG := Lib.hid G
    clear C G
    go_enter Tryz.func4, Tryz.ntmps4
    go_wp2_with (go_at_call 15; refine (HG.out _).mono ?_; rintro e w1 ⟨rfl, hb1⟩; have HB1 := Lib.hid hb1; clear hb1)
    go_ret
    exact ⟨rfl, HB1.out⟩
  have d4 : decide (10 < more) = false := by simp; omega
  obtain ⟨o, rfl⟩ : ∃ o : Nat, ops = o := ⟨ops.toNat, by omega⟩
  obtain ⟨m, rfl⟩ : ∃ m : Nat, more = m := ⟨more.toNat, by omega⟩
  have ho12 : o ≤ 12 := by omega
  have hm10 : m ≤ 10 := by omega
  obtain ⟨K, hK⟩ : ∃ K, (max 0 (min keep 32)).toNat = K := ⟨_, rfl⟩
  have hK32 : K ≤ 32 := by omega
  have HKE := Lib.hid hK
  have hsc := NU.start_cut o keep
  rw [hK] at hsc
  have HSC := Lib.hid hsc
  clear hK hsc h1 h2 h3 h4
  have HC := Lib.hid C
  have HG := Lib.hid G
  clear C G
  go_enter Tryz.func4, Tryz.ntmps4
  go_wp2_with (go_at_call 15; refine (HG.out _).mono ?_; rintro e w1 ⟨rfl, hb1⟩; have HB1 := Lib.hid hb1; clear hb1)
  refine (Has.new HC.out 3 8 8 w w1 [] (by simp) HB1.out (by decide)).mono ?_
  rintro e w2 ⟨g, rfl, hh, -⟩
  have HH := Lib.hid hh
  clear hh HB1
  go_wp2_with fail
  refine (HH.out.cut HC.out o keep (by omega) HK.out).mono ?_
  rintro e w3 ⟨rfl, hh, hs⟩
  rw [HSC.out] at hh
  have HB := Lib.hid (PgBox.new w3 FlM.noPage rfl 34)
  replace HH := Lib.hid (hh.add HC.out (.cells (cellsP FlM.noPage).toArray 34))
  have HW3 := Lib.hid (show w.heap.size ≤ w3.heap.size from hh.bel.size)
  clear hh hs HSC HK
  go_wp2_with (refine wpList_storeP _ rfl _ _ rfl w3 _ rfl rfl rfl FlM.noPage rfl rfl ?_)
  obtain ⟨b, hb⟩ : ∃ b, w3.heap.size = b := ⟨_, rfl⟩
  have hwb : w.heap.size ≤ b := by rw [← hb]; exact HW3.out
  rw [hb] at HB HH
  have HWB := Lib.hid hwb
  clear hwb
  rw [hb]
  clear hb HW3
  generalize w3.alloc (.cells (cellsP FlM.noPage).toArray 34) = w4 at HB HH ⊢
  rw [← NU.fill_zero] at HB
  go_loopw [10, 41] (fun _ i wr => ∃ k : Nat, k ≤ 32 ∧ i = .int .i64 k ∧ Has Is w wr g (NU.st o K 0) [b] ∧ PgBox wr b (NU.fill k)) (fun _ i _ => (32 - intOf i).toNat)
  case atStart => exact ⟨0, by omega, rfl, HH.out, HB.out⟩
  case round =>
    obtain ⟨k, hk, rfl, hh, hbx⟩ := hrel
    replace HH := Lib.hid hh
    replace HB := Lib.hid hbx
    clear hh hbx
    by_cases hlt : k < 32
    · have hc := HB.out.cell k hlt
      have hf := HB.out.free k hlt
      go_wp2_with fail
      go_roundw
      case rel => exact ⟨k + 1, by omega, by simp, HH.out.setCell HC.out (by simp) HWB.out _, by
        have h := HB.out.set k hlt (k + 1)
        rw [NU.fill_next ⟨k, hlt⟩] at h
        exact h⟩
      case measure => simp [intOf]; omega
    · obtain rfl : k = 32 := by omega
      rw [show ((32 : Nat) : Int) = 32 from rfl]
      rw [NU.fill_last] at HB
      clear hk hlt
      go_wp2_with fail
      go_loopw [11, 12] (fun i _ wr => ∃ (k : Nat) (M : FlM), k ≤ o + 1 + m ∧ i = .int .i64 k ∧ Has Is w wr g M [b] ∧ PgBox wr b NU.p32 ∧ ((k ≤ o ∧ M = NU.st o K k) ∨ (o < k ∧ M = NU.X o K))) (fun i _ _ => (o + 1 + m - intOf i).toNat)
      case atStart => exact ⟨0, _, by omega, rfl, HH.out, HB.out, .inl ⟨Nat.zero_le _, rfl⟩⟩
      case round =>
        obtain ⟨k, M, hk, rfl, hh, hbx, hst⟩ := hrel
        replace HH := Lib.hid hh
        replace HB := Lib.hid hbx
        clear hh hbx
        by_cases hlt : k < o + 1 + m
        · obtain ⟨a, c, ha, hc, ta, tc, wc⟩ := NU.half k (by omega)
          rcases (show k < o ∨ k = o ∨ o < k by omega) with hko | hko | hko
          · obtain ⟨_, rfl⟩ : k ≤ o ∧ M = NU.st o K k := by rcases hst with h | h; exact h; omega
            have hp := NU.step o K k hko ho12
            obtain ⟨f1, f2⟩ := NU.st_bounds o K k (by omega)
            rw [ha, hc] at hp
            have dko : decide ((o : Int) ≤ k) = false := by simp; omega
            have d7 : decide (7 < (c : Int)) = false := by simp; clear ta tc wc; omega
            clear ha hc hst
            go_wp2_with (refine wpList_loadPg _ (by rfl) _ rfl b 0 rfl NU.p32 HB.out.length HB.out.at ?_)
            refine (HH.out.program HC.out a 1 c NU.p32 NU.okP_p32 (by omega) (by omega)).mono ?_
            rintro e w5 ⟨rfl, hh, hs⟩
            rw [hp] at hh ⊢
            replace HB := Lib.hid (HB.out.same hs (by simp))
            clear hs hp f1 f2
            go_wp2_with fail
            go_roundw
            case rel => exact ⟨k + 1, _, by omega, by simp, hh, HB.out, .inl ⟨by omega, rfl⟩⟩
            case measure => simp [intOf]; omega
          · subst hko
            obtain ⟨_, rfl⟩ : k ≤ k ∧ M = NU.st k K k := by rcases hst with h | h; exact h; omega
            have hp := (NU.cutX k K ho12).1
            obtain ⟨f1, f2⟩ := NU.st_bounds k K k (by omega)
            rw [ha, hc] at hp
            have d7 : decide (7 < (c : Int)) = false := by simp; clear ta tc wc; omega
            clear ha hc hst
            go_wp2_with (refine wpList_loadPg _ (by rfl) _ rfl b 0 rfl NU.p32 HB.out.length HB.out.at ?_)
            refine (HH.out.program HC.out a 1 c NU.p32 NU.okP_p32 (by omega) (by omega)).mono ?_
            rintro e w5 ⟨rfl, hh, hs⟩
            rw [hp] at hh ⊢
            replace HB := Lib.hid (HB.out.same hs (by simp))
            clear hs hp f1 f2
            go_wp2_with fail
            go_roundw
            case rel => exact ⟨k + 1, _, by omega, by simp, hh, HB.out, .inr ⟨by omega, rfl⟩⟩
            case measure => simp [intOf]; omega
          · obtain ⟨_, rfl⟩ : o < k ∧ M = NU.X o K := by rcases hst with h | h; omega; exact h
            have hp := NU.dead o K ho12 a c
            obtain ⟨-, -, -, f1, f2⟩ := NU.last o K ho12
            have dko : decide ((k : Int) < o) = false := by simp; omega
            have dok : decide ((o : Int) ≤ k) = true := by simp; omega
            clear ha hst
            by_cases h7 : 7 < c
            · have d7 : decide (7 < (c : Int)) = true := by simp; omega
              clear hc
              go_wp2_with (refine wpList_loadPg _ (by rfl) _ rfl b 0 rfl NU.p32 HB.out.length HB.out.at ?_)
              refine (HH.out.program HC.out a 1 c NU.p32 NU.okP_p32 (by omega) (by omega)).mono ?_
              rintro e w5 ⟨rfl, hh, hs⟩
              rw [hp] at hh ⊢
              replace HB := Lib.hid (HB.out.same hs (by simp))
              replace HH := Lib.hid hh
              clear hh hs hp f1 f2
              go_wp2_with fail
              refine (HH.out.on HC.out).mono ?_
              rintro e w6 ⟨rfl, hh, hs⟩
              replace HB := Lib.hid (HB.out.same hs (by simp))
              replace HH := Lib.hid hh
              clear hh hs
              go_upto_region 22 with fail
              go_cut [13] (fun v wx => v = .int .i64 K ∧ w6 = wx)
              case first =>
                rcases (show keep < 0 ∨ keep = 0 ∨ (0 < keep ∧ keep < 32) ∨ keep = 32 ∨ 32 < keep by omega) with h | h | ⟨h, h'⟩ | h | h
                · have e := HKE.out
                  obtain rfl : K = 0 := by omega
                  go_wp2_with fail
                  go_meet
                  case rel => exact ⟨rfl, rfl⟩
                · have e := HKE.out
                  subst h
                  obtain rfl : K = 0 := by omega
                  go_wp2_with fail
                  go_meet
                  case rel => exact ⟨rfl, rfl⟩
                · have e := HKE.out
                  obtain rfl : keep = K := by omega
                  go_wp2_with fail
                  go_meet
                  case rel => exact ⟨rfl, rfl⟩
                · have e := HKE.out
                  subst h
                  obtain rfl : K = 32 := by omega
                  go_wp2_with fail
                  go_meet
                  case rel => exact ⟨rfl, rfl⟩
                · have e := HKE.out
                  obtain rfl : K = 32 := by omega
                  go_wp2_with fail
                  go_meet
                  case rel => exact ⟨rfl, rfl⟩
              case rest =>
              obtain ⟨rfl, rfl⟩ := hcut
              obtain ⟨l1, l2, l3, -, -⟩ := NU.last o K ho12
              obtain ⟨oa, oc, hoa, hoc, u1, u2, u3⟩ := NU.half o (Nat.le_trans ho12 (by decide))
              obtain ⟨na, nc, hna, hnc, u4, u5, u6⟩ := NU.half1 o (Nat.le_trans ho12 (by decide))
              rw [hoa, hoc] at l1
              rw [hna, hnc] at l3
              clear hoa hoc hna hnc
              obtain ⟨tp, htp⟩ : ∃ tp, NU.p32.take K ++ List.replicate (32 - K) 255 = tp := ⟨_, rfl⟩
              have HTA := Lib.hid (NU.torn_at K hK32)
              have htl := NU.torn_length K hK32
              rw [htp] at HTA htl l1
              clear htp
              go_wp2_with fail
              refine (HH.out.read HC.out oa 1 oc).mono ?_
              rintro e w7 ⟨rfl, hp, hh, hs⟩
              rw [l1]
              have HX := Lib.hid (PgBox.new w7 tp htl 34)
              replace HB := Lib.hid ((HB.out.same hs (by simp)).alloc (.cells (cellsP tp).toArray 34))
              replace HH := Lib.hid (hh.add HC.out (.cells (cellsP tp).toArray 34))
              clear hp hh hs l1
              go_wp2_with (refine wpList_storeP _ rfl _ _ rfl w7 _ rfl rfl rfl tp rfl htl ?_)
              obtain ⟨cb, hcb⟩ : ∃ cb, w7.heap.size = cb := ⟨_, rfl⟩
              rw [hcb] at HX HH ⊢
              clear hcb
              generalize w7.alloc (.cells (cellsP tp).toArray 34) = w8 at HX HH HB ⊢
              refine (HH.out.ops HC.out).mono ?_
              rintro e w9 ⟨rfl, hh, hs⟩
              rw [l2]
              replace HB := Lib.hid (HB.out.same hs (by simp))
              replace HX := Lib.hid (HX.out.same hs (by simp))
              replace HH := Lib.hid hh
              clear hh hs l2
              go_wp2_with fail
              go_loopw [16, 108] (fun _ i wr => ∃ j : Nat, j ≤ 32 ∧ i = .int .i64 j ∧ Has Is w wr g (NU.X o K).on [cb, b] ∧ PgBox wr b NU.p32 ∧ PgBox wr cb tp) (fun _ i _ => (32 - intOf i).toNat)
              case atStart => exact ⟨0, Nat.zero_le _, rfl, HH.out, HB.out, HX.out⟩
              case round =>
                clear HH HB HX
                obtain ⟨j, hj, rfl, hh, hb1, hb2⟩ := hrel
                have HH := Lib.hid hh
                have HB := Lib.hid hb1
                have HX := Lib.hid hb2
                clear hh hb1 hb2
                by_cases hlt : j < 32
                · have c1 := HB.out.cell j hlt
                  have c2 := HX.out.cell j hlt
                  have ht := HTA.out j hlt
                  obtain ⟨v, hv⟩ : ∃ v, NU.p32.getD j 0 = v := ⟨_, rfl⟩
                  rw [hv] at c1 ht
                  clear hv
                  by_cases hjK : j < K
                  · rw [if_pos hjK] at ht
                    rw [ht] at c2
                    have e1 : decide (j < K) = true := decide_eq_true hjK
                    have e2 : decide (K ≤ j) = false := decide_eq_false (Nat.not_le_of_lt hjK)
                    have e3 : ¬ K ≤ j := Nat.not_le_of_lt hjK
                    clear ht
                    go_wp2_with fail
                    go_quiet (fail)
                    go_wp2_with fail
                    go_roundw
                    case rel => exact ⟨j + 1, hlt, by simp, HH.out.drewN HC.out _, HB.out.drewN _, HX.out.drewN _⟩
                    case measure => simp [intOf]; clear u1 u2 u3 u4 u5 u6; omega
                  · rw [if_neg hjK] at ht
                    rw [ht, show ((255 : Nat) : Int) = 255 from rfl] at c2
                    have e1 : decide (j < K) = false := decide_eq_false hjK
                    have e2 : decide (K ≤ j) = true := decide_eq_true (Nat.le_of_not_lt hjK)
                    have e3 : K ≤ j := Nat.le_of_not_lt hjK
                    clear ht
                    go_wp2_with fail
                    go_quiet (fail)
                    go_wp2_with fail
                    go_roundw
                    case rel => exact ⟨j + 1, hlt, by simp, HH.out.drewN HC.out _, HB.out.drewN _, HX.out.drewN _⟩
                    case measure => simp [intOf]; clear u1 u2 u3 u4 u5 u6; omega
                · obtain rfl : j = 32 := Nat.le_antisymm hj (Nat.le_of_not_lt hlt)
                  go_wp2_with fail
                  refine (HH.out.next HC.out na 1).mono ?_
                  rintro e w10 ⟨rfl, hh, hs⟩
                  rw [l3]
                  go_wp2_with fail
                  go_ret
                  exact ⟨rfl, hh.bel⟩
            · have d7 : decide (7 < (c : Int)) = false := by simp; omega
              clear hc
              go_wp2_with (refine wpList_loadPg _ (by rfl) _ rfl b 0 rfl NU.p32 HB.out.length HB.out.at ?_)
              refine (HH.out.program HC.out a 1 c NU.p32 NU.okP_p32 (by omega) (by omega)).mono ?_
              rintro e w5 ⟨rfl, hh, hs⟩
              rw [hp] at hh ⊢
              replace HB := Lib.hid (HB.out.same hs (by simp))
              clear hs hp f1 f2
              go_wp2_with fail
              go_roundw
              case rel => exact ⟨k + 1, _, by omega, by simp, hh, HB.out, .inr ⟨by omega, rfl⟩⟩
              case measure => simp [intOf]; omega
        · obtain ⟨_, rfl⟩ : o < k ∧ M = NU.X o K := by rcases hst with h | h; omega; exact h
          obtain rfl : k = o + 1 + m := by omega
          clear hst
          go_wp2_with fail
          refine (HH.out.on HC.out).mono ?_
          rintro e w6 ⟨rfl, hh, hs⟩
          replace HB := Lib.hid (HB.out.same hs (by simp))
          replace HH := Lib.hid hh
          clear hh hs
          go_upto_region 22 with fail
          go_cut [13] (fun v wx => v = .int .i64 K ∧ w6 = wx)
          case first =>
            rcases (show keep < 0 ∨ keep = 0 ∨ (0 < keep ∧ keep < 32) ∨ keep = 32 ∨ 32 < keep by omega) with h | h | ⟨h, h'⟩ | h | h
            · have e := HKE.out
              obtain rfl : K = 0 := by omega
              go_wp2_with fail
              go_meet
              case rel => exact ⟨rfl, rfl⟩
            · have e := HKE.out
              subst h
              obtain rfl : K = 0 := by omega
              go_wp2_with fail
              go_meet
              case rel => exact ⟨rfl, rfl⟩
            · have e := HKE.out
              obtain rfl : keep = K := by omega
              go_wp2_with fail
              go_meet
              case rel => exact ⟨rfl, rfl⟩
            · have e := HKE.out
              subst h
              obtain rfl : K = 32 := by omega
              go_wp2_with fail
              go_meet
              case rel => exact ⟨rfl, rfl⟩
            · have e := HKE.out
              obtain rfl : K = 32 := by omega
              go_wp2_with fail
              go_meet
              case rel => exact ⟨rfl, rfl⟩
          case rest =>
          obtain ⟨rfl, rfl⟩ := hcut
          obtain ⟨l1, l2, l3, -, -⟩ := NU.last o K ho12
          obtain ⟨oa, oc, hoa, hoc, u1, u2, u3⟩ := NU.half o (Nat.le_trans ho12 (by decide))
          obtain ⟨na, nc, hna, hnc, u4, u5, u6⟩ := NU.half1 o (Nat.le_trans ho12 (by decide))
          rw [hoa, hoc] at l1
          rw [hna, hnc] at l3
          clear hoa hoc hna hnc
          obtain ⟨tp, htp⟩ : ∃ tp, NU.p32.take K ++ List.replicate (32 - K) 255 = tp := ⟨_, rfl⟩
          have HTA := Lib.hid (NU.torn_at K hK32)
          have htl := NU.torn_length K hK32
          rw [htp] at HTA htl l1
          clear htp
          go_wp2_with fail
          refine (HH.out.read HC.out oa 1 oc).mono ?_
          rintro e w7 ⟨rfl, hp, hh, hs⟩
          rw [l1]
          have HX := Lib.hid (PgBox.new w7 tp htl 34)
          replace HB := Lib.hid ((HB.out.same hs (by simp)).alloc (.cells (cellsP tp).toArray 34))
          replace HH := Lib.hid (hh.add HC.out (.cells (cellsP tp).toArray 34))
          clear hp hh hs l1
          go_wp2_with (refine wpList_storeP _ rfl _ _ rfl w7 _ rfl rfl rfl tp rfl htl ?_)
          obtain ⟨cb, hcb⟩ : ∃ cb, w7.heap.size = cb := ⟨_, rfl⟩
          rw [hcb] at HX HH ⊢
          clear hcb
          generalize w7.alloc (.cells (cellsP tp).toArray 34) = w8 at HX HH HB ⊢
          refine (HH.out.ops HC.out).mono ?_
          rintro e w9 ⟨rfl, hh, hs⟩
          rw [l2]
          replace HB := Lib.hid (HB.out.same hs (by simp))
          replace HX := Lib.hid (HX.out.same hs (by simp))
          replace HH := Lib.hid hh
          clear hh hs l2
          go_wp2_with fail
          go_loopw [16, 108] (fun _ i wr => ∃ j : Nat, j ≤ 32 ∧ i = .int .i64 j ∧ Has Is w wr g (NU.X o K).on [cb, b] ∧ PgBox wr b NU.p32 ∧ PgBox wr cb tp) (fun _ i _ => (32 - intOf i).toNat)
          case atStart => exact ⟨0, Nat.zero_le _, rfl, HH.out, HB.out, HX.out⟩
          case round =>
            clear HH HB HX
            obtain ⟨j, hj, rfl, hh, hb1, hb2⟩ := hrel
            have HH := Lib.hid hh
            have HB := Lib.hid hb1
            have HX := Lib.hid hb2
            clear hh hb1 hb2
            by_cases hlt : j < 32
            · have c1 := HB.out.cell j hlt
              have c2 := HX.out.cell j hlt
              have ht := HTA.out j hlt
              obtain ⟨v, hv⟩ : ∃ v, NU.p32.getD j 0 = v := ⟨_, rfl⟩
              rw [hv] at c1 ht
              clear hv
              by_cases hjK : j < K
              · rw [if_pos hjK] at ht
                rw [ht] at c2
                have e1 : decide (j < K) = true := decide_eq_true hjK
                have e2 : decide (K ≤ j) = false := decide_eq_false (Nat.not_le_of_lt hjK)
                have e3 : ¬ K ≤ j := Nat.not_le_of_lt hjK
                clear ht
                go_wp2_with fail
                go_quiet (fail)
                go_wp2_with fail
                go_roundw
                case rel => exact ⟨j + 1, hlt, by simp, HH.out.drewN HC.out _, HB.out.drewN _, HX.out.drewN _⟩
                case measure => simp [intOf]; clear u1 u2 u3 u4 u5 u6; omega
              · rw [if_neg hjK] at ht
                rw [ht, show ((255 : Nat) : Int) = 255 from rfl] at c2
                have e1 : decide (j < K) = false := decide_eq_false hjK
                have e2 : decide (K ≤ j) = true := decide_eq_true (Nat.le_of_not_lt hjK)
                have e3 : K ≤ j := Nat.le_of_not_lt hjK
                clear ht
                go_wp2_with fail
                go_quiet (fail)
                go_wp2_with fail
                go_roundw
                case rel => exact ⟨j + 1, hlt, by simp, HH.out.drewN HC.out _, HB.out.drewN _, HX.out.drewN _⟩
                case measure => simp [intOf]; clear u1 u2 u3 u4 u5 u6; omega
            · obtain rfl : j = 32 := Nat.le_antisymm hj (Nat.le_of_not_lt hlt)
              go_wp2_with fail
              refine (HH.out.next HC.out na 1).mono ?_
              rintro e w10 ⟨rfl, hh, hs⟩
              rw [l3]
              go_wp2_with fail
              go_ret
              exact ⟨rfl, hh.bel⟩
end Go.Proofs.YtfploeefmnbpcaaGreat
