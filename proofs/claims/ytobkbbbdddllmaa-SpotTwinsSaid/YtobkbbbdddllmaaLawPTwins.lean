/- The law SpotTwins: the walk. -/
import Derived.Test.YtobkbbbdddllmaaTwinsK
import Derived.Deep.QuietTactic
namespace Go.Proofs.Ytobkbbbdddllmaa
open Go.RowKit Mp Go.ChangeMaps

set_option maxRecDepth 100000 in
set_option maxHeartbeats 8000000 in
theorem spotTwins_walk (a : Option Addr) (len cap : Nat) (ps0 : List (List Nat)) (w : World) (hlen : ps0.length = len) (hle : len ≤ cap) (hcap : cap ≤ maxLen) (hok : ∀ p ∈ ps0, okP p) (hx : PagesIs w a ps0) :
    Calls Try.prog 5 #[.slice a len cap] w fun e w' => e = .returned (.bool true) ∧ Below w.heap.size w w' := by
  have HX := Lib.hid hx
  have HLEN := Lib.hid hlen
  have HOK := Lib.hid hok
  have hc64 : cap ≤ 9223372036854775807 := by unfold maxLen at hcap; omega
  obtain ⟨i0, hi, hz0, hz1, hz2⟩ := info_parts infoI
  obtain ⟨i1, hi', hy0, hy1, hy2⟩ := info_parts infoS
  obtain ⟨n, hn⟩ : ∃ n, min len 25 = n := ⟨_, rfl⟩
  have hnl : n ≤ len := by omega
  have hn25 : n ≤ 25 := by omega
  have HMIN := Lib.hid hn
  clear hx hlen hok hcap hn
  go_enter Try.func5, Try.ntmps5
  go_upto_region 4 with (go_at_call 7; refine (begun5_any _).mono ?_; rintro e w1 ⟨rfl, hb1⟩; have HB1 := Lib.hid hb1; clear hb1)
  go_cut [0] (fun v wx => v = .slice a n cap ∧ w1 = wx)
  case first =>
    rcases (show len < 25 ∨ len = 25 ∨ 25 < len by omega) with h | h | h
    · obtain rfl : n = len := by have := HMIN.out; omega
      go_wp2_with fail
      go_meet
      case rel => exact ⟨by rw [show (min (n : Int) 25).toNat = n by omega], rfl⟩
    · subst h
      obtain rfl : n = 25 := by have := HMIN.out; omega
      go_wp2_with fail
      go_meet
      case rel => exact ⟨rfl, rfl⟩
    · obtain rfl : n = 25 := by have := HMIN.out; omega
      go_wp2_with fail
      go_meet
      case rel => exact ⟨by rw [show (min (len : Int) 25).toNat = 25 by omega], rfl⟩
  case rest =>
  obtain ⟨rfl, rfl⟩ := hcut
  obtain ⟨ps, hps⟩ : ∃ ps, ps0.take n = ps := ⟨_, rfl⟩
  have HP := Lib.hid (show PagesIs w1 a ps from by rw [← hps]; exact (HX.out.below HB1.out).take n)
  have HPN := Lib.hid (show ps.length = n from by rw [← hps, List.length_take, HLEN.out]; omega)
  have HOKP := Lib.hid (show ∀ p ∈ ps, okP p from fun p hp => HOK.out p (by rw [← hps] at hp; exact List.mem_of_mem_take hp))
  have hnc : n ≤ cap := by omega
  clear hps HX HLEN HOK HMIN hle hnl
  go_wp2_with fail
  go_loopw [4, 5] (fun v i wr => ∃ (k : Nat) (vs : List Value), i = .int .i64 k ∧ k ≤ n ∧ Want w1.heap.size wr v vs (twT ps n k) ∧ Below w1.heap.size w1 wr) (fun _ i _ => (n - intOf i).toNat)
  case atStart => exact ⟨0, [], rfl, Nat.zero_le _, ⟨World.ownsRow_nil _ _ _ _, fun j u g hu => by simp at hu⟩, Below.refl _ _⟩
  case round =>
    obtain ⟨k, vs, rfl, hk, hwant, hbel⟩ := hrel
    have HW := Lib.hid hwant
    have HBEL := Lib.hid hbel
    clear hwant hbel
    by_cases hkn : k < n
    · obtain ⟨p, hp⟩ : ∃ p, ps[k]? = some p := ⟨_, List.getElem?_eq_getElem (by rw [HPN.out]; exact hkn)⟩
      have hokp := HOKP.out p (List.mem_of_getElem? hp)
      obtain ⟨hp32, b, o, rfl, hpa⟩ := HP.out k p hp
      have HPA := Lib.hid hpa
      have HPI := Lib.hid hp
      have HPOK := Lib.hid hokp
      obtain ⟨wI, rfl⟩ : ∃ wI, wI = wr := ⟨_, rfl⟩
      clear hp hpa hokp
      go_wp2_with fail
      go_loopw [6, 7, 8] (fun f gv q wr => ∃ j : Nat, q = .int .i64 j ∧ j ≤ n ∧ f = .bool (fstT ps k j) ∧ wr.ownsRow wI.heap.size 3 1 gv (grpT ps k j).length (ints (grpT ps k j)) ∧ Below wI.heap.size wI wr) (fun _ _ q _ => (n - intOf q).toNat)
      case atStart => exact ⟨0, rfl, Nat.zero_le _, by rw [fstT_zero], own_one wI k (Nat.le_refl _), (Below.refl _ _).alloc (Nat.le_refl _) _⟩
      case round =>
        obtain ⟨j, rfl, hj, rfl, hown, hbq⟩ := hrel
        have HOWN := Lib.hid hown
        have HBQ := Lib.hid hbq
        clear hown hbq
        by_cases hjn : j < n
        · obtain ⟨q, hq⟩ : ∃ q, ps[j]? = some q := ⟨_, List.getElem?_eq_getElem (by rw [HPN.out]; exact hjn)⟩
          have hokq := HOKP.out q (List.mem_of_getElem? hq)
          obtain ⟨hq32, b', o', hab, hqa⟩ := HP.out j q hq
          simp only [Option.some.injEq, Addr.mk.injEq, and_true] at hab
          obtain ⟨rfl, rfl⟩ := hab
          have hb1r : Below w1.heap.size w1 wr := HBEL.out.trans (HBQ.out.mono HBEL.out.size)
          have hS : PageAt wr b (o + j * 32) q ∧ PageAt wr b (o + k * 32) p := ⟨hqa.below hb1r hqa.lt, HPA.out.below hb1r HPA.out.lt⟩
          have HS := Lib.hid hS
          have HQI := Lib.hid hq
          have HQOK := Lib.hid hokq
          clear hq hokq hqa hb1r hS
          have hjc : j < cap := by omega
          have hkc : k < cap := by omega
          obtain ⟨B1, hB1⟩ : ∃ B1, fstT ps k j = B1 := ⟨_, rfl⟩
          have HB1' := Lib.hid hB1
          rw [hB1]
          clear hB1
          have hkj : ps[j]? = ps[k]? ↔ q = p := by rw [HQI.out, HPI.out]; simp
          have HKJ := Lib.hid hkj
          clear hkj
          by_cases hqp : q = p
          · have he : ps[j]? = ps[k]? := HKJ.out.2 hqp
            have HE := Lib.hid he
            have HQP := Lib.hid hqp
            clear he hqp
            rcases (show j < k ∨ j = k ∨ k < j by omega) with hjk | hjk | hjk
            · go_wp2_with fail
              refine wp_region_plan (S := fun w' => PageAt w' b (o + j * 32) q ∧ PageAt w' b (o + k * 32) p) [(0, true), (1, true), (2, true), (3, true), (4, true), (5, true), (6, true), (7, true), (8, true), (9, true), (10, true), (11, true), (12, true), (13, true)] (by kernel_rfl) (by kernel_rfl) (by kernel_rfl) (by decide) (fun _ _ d _ _ h => by cases d <;> exact h) HS.out ?_
              simp only [stepsOf, nth, slotOf]
              iterate 3 (refine wpPlan_plain ?_ (by rfl) ?_ ?_; rotate_left; (focus (intro w' hw'; go_simp; try with_reducible rfl)); go_simp)
              refine wpPlan_plain (encP q) (by rfl) (fun w' hw' => exec_loadP _ _ _ rfl b (o + j * 32) rfl q hq32 w' hw'.1) ?_
              go_simp
              iterate 3 (refine wpPlan_plain ?_ (by rfl) ?_ ?_; rotate_left; (focus (intro w' hw'; go_simp; try with_reducible rfl)); go_simp)
              refine wpPlan_plain (encP p) (by rfl) (fun w' hw' => exec_loadP _ _ _ rfl b (o + k * 32) rfl p hp32 w' hw'.2) ?_
              go_simp
              refine wpPlan_plain (.bool true) (by rfl) (fun w' _ => (exec_eqlP _ _ _ _ _ rfl q p rfl rfl HQOK.out HPOK.out w').trans (by rw [decide_eq_true HQP.out])) ?_
              go_simp
              iterate 5 (refine wpPlan_plain ?_ (by rfl) ?_ ?_; rotate_left; (focus (intro w' hw'; go_simp; try with_reducible rfl)); go_simp)
              refine wpPlan_nil ?_
              go_wp2_with fail
              go_roundw
              case rel =>
                refine ⟨j + 1, by simp, by omega, by rw [fstT_no hjk HE.out], ?_, HBQ.out.drew⟩
                rw [grpT_no (by omega)]
                exact ownsRow_same HOWN.out (Nat.le_refl _) (fun _ _ => rfl)
              case measure => simp [intOf]; omega
            · obtain rfl : k = j := hjk.symm
              go_wp2_with fail
              refine wp_region_plan (S := fun w' => PageAt w' b (o + k * 32) q ∧ PageAt w' b (o + k * 32) p) [(0, true), (1, true), (2, true), (3, true), (4, true), (5, true), (6, true), (7, true), (8, true), (9, true), (10, true), (11, true), (12, true), (13, true)] (by kernel_rfl) (by kernel_rfl) (by kernel_rfl) (by decide) (fun _ _ d _ _ h => by cases d <;> exact h) HS.out ?_
              simp only [stepsOf, nth, slotOf]
              iterate 3 (refine wpPlan_plain ?_ (by rfl) ?_ ?_; rotate_left; (focus (intro w' hw'; go_simp; try with_reducible rfl)); go_simp)
              refine wpPlan_plain (encP q) (by rfl) (fun w' hw' => exec_loadP _ _ _ rfl b (o + k * 32) rfl q hq32 w' hw'.1) ?_
              go_simp
              iterate 3 (refine wpPlan_plain ?_ (by rfl) ?_ ?_; rotate_left; (focus (intro w' hw'; go_simp; try with_reducible rfl)); go_simp)
              refine wpPlan_plain (encP p) (by rfl) (fun w' hw' => exec_loadP _ _ _ rfl b (o + k * 32) rfl p hp32 w' hw'.2) ?_
              go_simp
              refine wpPlan_plain (.bool true) (by rfl) (fun w' _ => (exec_eqlP _ _ _ _ _ rfl q p rfl rfl HQOK.out HPOK.out w').trans (by rw [decide_eq_true HQP.out])) ?_
              go_simp
              iterate 5 (refine wpPlan_plain ?_ (by rfl) ?_ ?_; rotate_left; (focus (intro w' hw'; go_simp; try with_reducible rfl)); go_simp)
              refine wpPlan_nil ?_
              go_wp2_with fail
              refine wp_region_plan (S := fun w' => PageAt w' b (o + k * 32) q ∧ PageAt w' b (o + k * 32) p) [(0, true), (1, true), (2, true), (3, true), (4, true), (5, true), (6, true), (7, true), (8, true), (9, true), (10, true), (11, true), (12, true), (13, true)] (by kernel_rfl) (by kernel_rfl) (by kernel_rfl) (by decide) (fun _ _ d _ _ h => by cases d <;> exact h) HS.out ?_
              simp only [stepsOf, nth, slotOf]
              iterate 3 (refine wpPlan_plain ?_ (by rfl) ?_ ?_; rotate_left; (focus (intro w' hw'; go_simp; try with_reducible rfl)); go_simp)
              refine wpPlan_plain (encP q) (by rfl) (fun w' hw' => exec_loadP _ _ _ rfl b (o + k * 32) rfl q hq32 w' hw'.1) ?_
              go_simp
              iterate 3 (refine wpPlan_plain ?_ (by rfl) ?_ ?_; rotate_left; (focus (intro w' hw'; go_simp; try with_reducible rfl)); go_simp)
              refine wpPlan_plain (encP p) (by rfl) (fun w' hw' => exec_loadP _ _ _ rfl b (o + k * 32) rfl p hp32 w' hw'.2) ?_
              go_simp
              refine wpPlan_plain (.bool true) (by rfl) (fun w' _ => (exec_eqlP _ _ _ _ _ rfl q p rfl rfl HQOK.out HPOK.out w').trans (by rw [decide_eq_true HQP.out])) ?_
              go_simp
              iterate 5 (refine wpPlan_plain ?_ (by rfl) ?_ ?_; rotate_left; (focus (intro w' hw'; go_simp; try with_reducible rfl)); go_simp)
              refine wpPlan_nil ?_
              go_wp2_with fail
              go_roundw
              case rel =>
                refine ⟨k + 1, by simp, by omega, by rw [fstT_same (by omega), HB1'.out], ?_, HBQ.out.drew.drew⟩
                rw [grpT_no (by omega)]
                exact ownsRow_same HOWN.out (Nat.le_refl _) (fun _ _ => rfl)
              case measure => simp [intOf]; omega
            · have how2 : (wr.drew.drew.alloc (.cells #[.int .i64 (j : Int)] 3)).ownsRow wI.heap.size 3 1 u7 (grpT ps k j).length (ints (grpT ps k j)) := (ownsRow_same (w' := wr.drew.drew) HOWN.out (Nat.le_refl _) (fun _ _ => rfl)).alloc _
              have hnews := news_one wr.drew.drew (.int .i64 (j : Int)) 3
              have hgl := grpT_len ps k j
              have hbs := HBQ.out.size
              go_wp2_with fail
              refine wp_region_plan (S := fun w' => PageAt w' b (o + j * 32) q ∧ PageAt w' b (o + k * 32) p) [(0, true), (1, true), (2, true), (3, true), (4, true), (5, true), (6, true), (7, true), (8, true), (9, true), (10, true), (11, true), (12, true), (13, true)] (by kernel_rfl) (by kernel_rfl) (by kernel_rfl) (by decide) (fun _ _ d _ _ h => by cases d <;> exact h) HS.out ?_
              simp only [stepsOf, nth, slotOf]
              iterate 3 (refine wpPlan_plain ?_ (by rfl) ?_ ?_; rotate_left; (focus (intro w' hw'; go_simp; try with_reducible rfl)); go_simp)
              refine wpPlan_plain (encP q) (by rfl) (fun w' hw' => exec_loadP _ _ _ rfl b (o + j * 32) rfl q hq32 w' hw'.1) ?_
              go_simp
              iterate 3 (refine wpPlan_plain ?_ (by rfl) ?_ ?_; rotate_left; (focus (intro w' hw'; go_simp; try with_reducible rfl)); go_simp)
              refine wpPlan_plain (encP p) (by rfl) (fun w' hw' => exec_loadP _ _ _ rfl b (o + k * 32) rfl p hp32 w' hw'.2) ?_
              go_simp
              refine wpPlan_plain (.bool true) (by rfl) (fun w' _ => (exec_eqlP _ _ _ _ _ rfl q p rfl rfl HQOK.out HPOK.out w').trans (by rw [decide_eq_true HQP.out])) ?_
              go_simp
              iterate 5 (refine wpPlan_plain ?_ (by rfl) ?_ ?_; rotate_left; (focus (intro w' hw'; go_simp; try with_reducible rfl)); go_simp)
              refine wpPlan_nil ?_
              go_wp2_with fail
              refine wp_region_plan (S := fun w' => PageAt w' b (o + j * 32) q ∧ PageAt w' b (o + k * 32) p) [(0, true), (1, true), (2, true), (3, true), (4, true), (5, true), (6, true), (7, true), (8, true), (9, true), (10, true), (11, true), (12, true), (13, true)] (by kernel_rfl) (by kernel_rfl) (by kernel_rfl) (by decide) (fun _ _ d _ _ h => by cases d <;> exact h) HS.out ?_
              simp only [stepsOf, nth, slotOf]
              iterate 3 (refine wpPlan_plain ?_ (by rfl) ?_ ?_; rotate_left; (focus (intro w' hw'; go_simp; try with_reducible rfl)); go_simp)
              refine wpPlan_plain (encP q) (by rfl) (fun w' hw' => exec_loadP _ _ _ rfl b (o + j * 32) rfl q hq32 w' hw'.1) ?_
              go_simp
              iterate 3 (refine wpPlan_plain ?_ (by rfl) ?_ ?_; rotate_left; (focus (intro w' hw'; go_simp; try with_reducible rfl)); go_simp)
              refine wpPlan_plain (encP p) (by rfl) (fun w' hw' => exec_loadP _ _ _ rfl b (o + k * 32) rfl p hp32 w' hw'.2) ?_
              go_simp
              refine wpPlan_plain (.bool true) (by rfl) (fun w' _ => (exec_eqlP _ _ _ _ _ rfl q p rfl rfl HQOK.out HPOK.out w').trans (by rw [decide_eq_true HQP.out])) ?_
              go_simp
              iterate 5 (refine wpPlan_plain ?_ (by rfl) ?_ ?_; rotate_left; (focus (intro w' hw'; go_simp; try with_reducible rfl)); go_simp)
              refine wpPlan_nil ?_
              go_wp2_with (first
                | (at_builtin; refine wpList_append_own _ rfl _ _ 27 rfl wI.heap.size 3 i0 (.int .i64 0) 1 8 Try.underlying27 hi hz0 hz1 hz2 rfl (by decide) _ _ _ rfl how2 ⟨wr.heap.size, 0, none⟩ 1 1 [.int .i64 (j : Int)] rfl rfl hnews (by simp [Value.oneCell']) (by unfold maxLen; omega) (by omega) (by simp; omega) ?_; intro v' w2 how' hgrow hnil; have HW2 := Lib.hid how'; have HG2 := Lib.hid hgrow; clear how' hgrow hnil)
                | go_in)
              have hB2 : Below wI.heap.size wI w2 := (HBQ.out.drew.drew.alloc HBQ.out.size _).grown HG2.out (by simp; omega) (fun g hg => (HOWN.out.lt g hg).1)
              go_roundw
              case rel =>
                refine ⟨j + 1, by simp, by omega, by rw [fstT_same (by omega), HB1'.out], ?_, hB2⟩
                rw [grpT_yes hjk HE.out]
                simpa [ints] using HW2.out
              case measure => simp [intOf]; omega
          · have hne : ¬ ps[j]? = ps[k]? := fun h => hqp (HKJ.out.1 h)
            have HNE := Lib.hid hne
            have HQP := Lib.hid hqp
            clear hne hqp
            go_wp2_with fail
            refine wp_region_plan (S := fun w' => PageAt w' b (o + j * 32) q ∧ PageAt w' b (o + k * 32) p) [(0, true), (1, true), (2, true), (3, true), (4, true), (5, true), (6, true), (7, true), (8, true), (9, true), (10, true), (11, true), (12, true), (13, true)] (by kernel_rfl) (by kernel_rfl) (by kernel_rfl) (by decide) (fun _ _ d _ _ h => by cases d <;> exact h) HS.out ?_
            simp only [stepsOf, nth, slotOf]
            iterate 3 (refine wpPlan_plain ?_ (by rfl) ?_ ?_; rotate_left; (focus (intro w' hw'; go_simp; try with_reducible rfl)); go_simp)
            refine wpPlan_plain (encP q) (by rfl) (fun w' hw' => exec_loadP _ _ _ rfl b (o + j * 32) rfl q hq32 w' hw'.1) ?_
            go_simp
            iterate 3 (refine wpPlan_plain ?_ (by rfl) ?_ ?_; rotate_left; (focus (intro w' hw'; go_simp; try with_reducible rfl)); go_simp)
            refine wpPlan_plain (encP p) (by rfl) (fun w' hw' => exec_loadP _ _ _ rfl b (o + k * 32) rfl p hp32 w' hw'.2) ?_
            go_simp
            refine wpPlan_plain (.bool false) (by rfl) (fun w' _ => (exec_eqlP _ _ _ _ _ rfl q p rfl rfl HQOK.out HPOK.out w').trans (by rw [decide_eq_false HQP.out])) ?_
            go_simp
            (refine wpPlan_plain ?_ (by rfl) ?_ ?_; rotate_left; (focus (intro w' hw'; go_simp; try with_reducible rfl)); go_simp)
            iterate 3 (refine wpPlan_off (by rfl) ?_; go_simp)
            (refine wpPlan_plain ?_ (by rfl) ?_ ?_; rotate_left; (focus (intro w' hw'; go_simp; try with_reducible rfl)); go_simp)
            refine wpPlan_nil ?_
            go_wp2_with fail
            refine wp_region_plan (S := fun w' => PageAt w' b (o + j * 32) q ∧ PageAt w' b (o + k * 32) p) [(0, true), (1, true), (2, true), (3, true), (4, true), (5, true), (6, true), (7, true), (8, true), (9, true), (10, true), (11, true), (12, true), (13, true)] (by kernel_rfl) (by kernel_rfl) (by kernel_rfl) (by decide) (fun _ _ d _ _ h => by cases d <;> exact h) HS.out ?_
            simp only [stepsOf, nth, slotOf]
            iterate 3 (refine wpPlan_plain ?_ (by rfl) ?_ ?_; rotate_left; (focus (intro w' hw'; go_simp; try with_reducible rfl)); go_simp)
            refine wpPlan_plain (encP q) (by rfl) (fun w' hw' => exec_loadP _ _ _ rfl b (o + j * 32) rfl q hq32 w' hw'.1) ?_
            go_simp
            iterate 3 (refine wpPlan_plain ?_ (by rfl) ?_ ?_; rotate_left; (focus (intro w' hw'; go_simp; try with_reducible rfl)); go_simp)
            refine wpPlan_plain (encP p) (by rfl) (fun w' hw' => exec_loadP _ _ _ rfl b (o + k * 32) rfl p hp32 w' hw'.2) ?_
            go_simp
            refine wpPlan_plain (.bool false) (by rfl) (fun w' _ => (exec_eqlP _ _ _ _ _ rfl q p rfl rfl HQOK.out HPOK.out w').trans (by rw [decide_eq_false HQP.out])) ?_
            go_simp
            (refine wpPlan_plain ?_ (by rfl) ?_ ?_; rotate_left; (focus (intro w' hw'; go_simp; try with_reducible rfl)); go_simp)
            iterate 3 (refine wpPlan_off (by rfl) ?_; go_simp)
            (refine wpPlan_plain ?_ (by rfl) ?_ ?_; rotate_left; (focus (intro w' hw'; go_simp; try with_reducible rfl)); go_simp)
            refine wpPlan_nil ?_
            go_wp2_with fail
            go_roundw
            case rel =>
              refine ⟨j + 1, by simp, by omega, by rw [fstT_same (fun h => HNE.out h.2), HB1'.out], ?_, HBQ.out.drew.drew⟩
              rw [grpT_no (fun h => HNE.out h.2)]
              exact ownsRow_same HOWN.out (Nat.le_refl _) (fun _ _ => rfl)
            case measure => simp [intOf]; omega
        · obtain rfl : n = j := by omega
          have hlead := leads_is (n := n) HPI.out hkn
          have hgl := grpT_len ps k n
          obtain ⟨L, hL⟩ : ∃ L, (grpT ps k n).length = L := ⟨_, rfl⟩
          obtain ⟨F, hF⟩ : ∃ F, fstT ps k n = F := ⟨_, rfl⟩
          have hown0 := HOWN.out
          rw [hL] at hlead hgl hown0
          rw [hF] at hlead ⊢
          have hL0 : 0 < L := by rw [← hL]; simp [grpT]
          have hbs := HBQ.out.size
          have hbs0 := HBEL.out.size
          obtain ⟨gg, cg, rfl, hcg, hgb, hglt, _⟩ := own_parts hown0 hL0
          have hwant : Want w1.heap.size wr u4 vs (twT ps n k) := HW.out.below HBQ.out (Nat.le_refl _)
          have HLEAD := Lib.hid hlead
          have HOWN0 := Lib.hid hown0
          have HWANT := Lib.hid hwant
          have HLL := Lib.hid hL
          clear hlead hown0 hwant hL hF HOWN
          have hcg2 : cg ≤ 9223372036854775807 := by
            rcases HOWN0.out.2 with ⟨e, _⟩ | ⟨g', cap', cur', e, _, _, _, h4, _⟩
            · cases e
            · simp only [Value.slice.injEq] at e
              obtain ⟨_, _, rfl⟩ := e
              unfold maxLen at h4; omega
          cases F with
          | false =>
            have hno : leads ps n k = false := by rw [HLEAD.out]; rfl
            have HNO := Lib.hid hno
            clear hno
            go_wp2_with fail
            go_roundw
            case rel => exact ⟨k + 1, vs, by simp, by omega, by rw [twT_no HNO.out]; exact HWANT.out, HBEL.out.trans (HBQ.out.mono HBEL.out.size)⟩
            case measure => simp [intOf]; omega
          | true =>
            by_cases h1L : 1 < L
            · have hyes : leads ps n k = true := by rw [HLEAD.out]; simp [h1L]
              have HYES := Lib.hid hyes
              clear hyes
              have hwant2 : Want w1.heap.size (wr.alloc (.cells #[.slice (some ⟨gg, 0, none⟩) L cg] 27)) u4 vs (twT ps n k) := HWANT.out.below ((Below.refl _ _).alloc (Nat.le_refl _) _) (Nat.le_refl _)
              have how2 := hwant2.1
              have HWANT2 := Lib.hid hwant2
              have hnews := news_one wr (.slice (some ⟨gg, 0, none⟩) L cg) 27
              have htl := twT_len ps n k
              clear hwant2
              go_wp2_with (first
                | (at_builtin; refine wpList_append_own _ rfl _ _ 46 rfl w1.heap.size 27 i1 (.slice none 0 0) 1 24 Try.underlying46 hi' hy0 hy1 hy2 rfl (by decide) _ _ _ rfl how2 ⟨wr.heap.size, 0, none⟩ 1 1 [.slice (some ⟨gg, 0, none⟩) L cg] rfl rfl hnews (by simp [Value.oneCell']) (by unfold maxLen; omega) (by omega) (by simp; omega) ?_; intro v' w2 how' hgrow hnil; have HW2 := Lib.hid how'; have HG2 := Lib.hid hgrow; clear how' hgrow hnil)
                | go_in)
              have hu2 : (wr.alloc (.cells #[.slice (some ⟨gg, 0, none⟩) L cg] 27)).ownsRow w1.heap.size 3 1 (.slice (some ⟨gg, 0, none⟩) L cg) (grpT ps k n).length (ints (grpT ps k n)) := by
                rw [HLL.out]; exact ownsRow_base (HOWN0.out.alloc _) HBEL.out.size
              have hwant3 := HWANT2.out.append hu2 HW2.out HG2.out
              have hB2 : Below w1.heap.size w1 w2 := (((HBEL.out.trans (HBQ.out.mono HBEL.out.size))).alloc (by omega) _).grown HG2.out (by simp; omega) (fun g hg => (HWANT2.out.1.lt g hg).1)
              go_roundw
              case rel => exact ⟨k + 1, vs ++ [.slice (some ⟨gg, 0, none⟩) L cg], by simp, by omega, by rw [twT_yes HYES.out]; exact hwant3, hB2⟩
              case measure => simp [intOf]; omega
            · have hno : leads ps n k = false := by rw [HLEAD.out]; simp [h1L]
              have HNO := Lib.hid hno
              obtain rfl : L = 1 := by omega
              clear hno h1L
              go_wp2_with fail
              go_roundw
              case rel => exact ⟨k + 1, vs, by simp, by omega, by rw [twT_no HNO.out]; exact HWANT.out, HBEL.out.trans (HBQ.out.mono HBEL.out.size)⟩
              case measure => simp [intOf]; omega
    · obtain rfl : n = k := by omega
      obtain ⟨gs, hgs⟩ : ∃ gs, twinsS ps = gs := ⟨_, rfl⟩
      have htw : twT ps n n = gs := by rw [← hgs, ← twT_all, HPN.out]
      have hwant := HW.out
      rw [htw] at hwant
      have hgl : gs.length ≤ n := by rw [← htw]; exact twT_len ps n n
      have hg2 : ∀ (j : Nat) (g : List Nat), gs[j]? = some g → g.length ≤ 26 := fun j g hj => by
        rw [← hgs] at hj
        have := twinsS_le hj
        rw [HPN.out] at this
        omega
      have hT := twins_any wr a cap ps (HP.out.below (hb := HBEL.out)) (by rw [HPN.out]; omega) HOKP.out
      rw [HPN.out, hgs] at hT
      obtain ⟨a4, c4, rfl, hc4, hm4, hcell4⟩ := own_form hwant.1
      have HWANT := Lib.hid hwant
      have HT := Lib.hid hT
      have HC4 := Lib.hid hcell4
      have HG2 := Lib.hid hg2
      clear hwant hT hcell4 hg2 htw hgs HW
      go_wp2_with fail
      refine HT.out.mono ?_
      rintro e w9 ⟨v9, rfl, ⟨vs9, hrow9, hsub9⟩, hb9⟩
      obtain ⟨a9, c9, rfl, hc9, hm9, hcell9⟩ := own_form hrow9
      have hw9 : Want w1.heap.size w9 (.slice a4 gs.length c4) vs gs := HWANT.out.below hb9 (Nat.le_refl _)
      obtain ⟨a4', c4', e4, _, _, hcell4⟩ := own_form hw9.1
      simp only [Value.slice.injEq] at e4
      obtain ⟨rfl, _, rfl⟩ := e4
      have HROW := Lib.hid hrow9
      have HSUB := Lib.hid hsub9
      have HC9 := Lib.hid hcell9
      have HC4b := Lib.hid hcell4
      have HW9 := Lib.hid hw9
      have HB9 : Hid (Below w.heap.size w w9) := Lib.hid (HB1.out.trans ((HBEL.out.trans (hb9.mono HBEL.out.size)).mono HB1.out.size))
      have hm94 : c9 ≤ 9223372036854775807 := by unfold maxLen at hm9; omega
      have hm44 : c4 ≤ 9223372036854775807 := by unfold maxLen at hm4; omega
      clear hrow9 hsub9 hcell9 hcell4 hw9 hb9 hm9 hm4 HC4 HT HWANT
      go_wp2_with fail
      go_loopw [10] (fun i wr => ∃ q : Nat, i = .int .i64 q ∧ q ≤ gs.length ∧ w9.heap = wr.heap ∧ Below w.heap.size w wr) (fun i _ => (gs.length - intOf i).toNat)
      case atStart => exact ⟨0, rfl, Nat.zero_le _, rfl, HB9.out⟩
      case round =>
        obtain ⟨q, rfl, hq, hheap, hbw⟩ := hrel
        have HHEAP := Lib.hid hheap
        have HBW := Lib.hid hbw
        clear hheap hbw
        by_cases hqn : q < gs.length
        · obtain ⟨gq, hgq⟩ : ∃ gq, gs[q]? = some gq := ⟨_, List.getElem?_eq_getElem hqn⟩
          obtain ⟨u9, hu9⟩ : ∃ u, vs9[q]? = some u := ⟨_, List.getElem?_eq_getElem (by have := HROW.out.1; simp at this; omega)⟩
          obtain ⟨u4, hu4⟩ : ∃ u, vs[q]? = some u := ⟨_, List.getElem?_eq_getElem (by have := HW9.out.1.1; simp at this; omega)⟩
          have hr9 := HSUB.out q u9 gq hu9 hgq
          have hr4 := HW9.out.2 q u4 gq hu4 hgq
          have hlq := HG2.out q gq hgq
          obtain ⟨b9, d9, rfl, hd9, hmd9, hcb9⟩ := own_form hr9
          obtain ⟨b4, d4, rfl, hd4, hmd4, hcb4⟩ := own_form hr4
          obtain ⟨G9, rfl, hG9⟩ := HC9.out q _ hu9
          obtain ⟨G4, rfl, hG4⟩ := HC4b.out q _ hu4
          have HAT := Lib.hid (show ∀ x : Addr, wr.cell? x = w9.cell? x from fun x => World.cell?_of_block (by rw [HHEAP.out]))
          have k9 : wr.cell? ⟨G9, q, none⟩ = some (.slice b9 gq.length d9) := (HAT.out _).trans hG9
          have k4 : wr.cell? ⟨G4, q, none⟩ = some (.slice b4 gq.length d4) := (HAT.out _).trans hG4
          have hmd94 : d9 ≤ 9223372036854775807 := by unfold maxLen at hmd9; omega
          have hmd44 : d4 ≤ 9223372036854775807 := by unfold maxLen at hmd4; omega
          have HCB9 := Lib.hid hcb9
          have HCB4 := Lib.hid hcb4
          have HK9 := Lib.hid hG9
          have HK4 := Lib.hid hG4
          have hqc9 : q < c9 := by omega
          have hqc4 : q < c4 := by omega
          obtain ⟨lq, hlq2⟩ : ∃ lq, gq.length = lq := ⟨_, rfl⟩
          have HLQ := Lib.hid hlq2
          rw [hlq2] at hlq hd9 hd4 k9 k4
          have HK9' := Lib.hid (show w9.cell? ⟨G9, q, none⟩ = some (.slice b9 lq d9) from by rw [← hlq2]; exact HK9.out)
          have HK4' := Lib.hid (show w9.cell? ⟨G4, q, none⟩ = some (.slice b4 lq d4) from by rw [← hlq2]; exact HK4.out)
          clear hgq hu9 hu4 hr9 hr4 hcb9 hcb4 hG9 hG4 hmd9 hmd4 hlq2 HAT HK9 HK4
          go_wp2_with fail
          go_quiet (fail)
          go_wp2_with fail
          clear k9 k4
          go_loopw [11] (fun i wr => ∃ z : Nat, i = .int .i64 z ∧ z ≤ lq ∧ w9.heap = wr.heap ∧ Below w.heap.size w wr) (fun i _ => (lq - intOf i).toNat)
          case atStart => exact ⟨0, rfl, Nat.zero_le _, HHEAP.out, below_drewN HBW.out _⟩
          case round =>
            obtain ⟨z, rfl, hz, hheap, hbw⟩ := hrel
            have HHEAP2 := Lib.hid hheap
            have HBW2 := Lib.hid hbw
            clear hheap hbw
            have HAT2 := Lib.hid (show ∀ x : Addr, wr.cell? x = w9.cell? x from fun x => World.cell?_of_block (by rw [HHEAP2.out]))
            have k9 : wr.cell? ⟨G9, q, none⟩ = some (.slice b9 lq d9) := (HAT2.out _).trans HK9'.out
            have k4 : wr.cell? ⟨G4, q, none⟩ = some (.slice b4 lq d4) := (HAT2.out _).trans HK4'.out
            by_cases hzl : z < lq
            · obtain ⟨x, hx⟩ : ∃ x, (ints gq)[z]? = some (.int .i64 ((x : Nat) : Int)) := by
                have : z < gq.length := by rw [HLQ.out]; exact hzl
                exact ⟨gq[z], by simp [ints, List.getElem?_eq_getElem this]⟩
              obtain ⟨H9, rfl, hH9⟩ := HCB9.out z _ hx
              obtain ⟨H4, rfl, hH4⟩ := HCB4.out z _ hx
              have m9 : wr.cell? ⟨H9, z, none⟩ = some (.int .i64 (x : Int)) := (HAT2.out _).trans hH9
              have m4 : wr.cell? ⟨H4, z, none⟩ = some (.int .i64 (x : Int)) := (HAT2.out _).trans hH4
              have hz9 : z < d9 := by omega
              have hz4 : z < d4 := by omega
              clear hx hH9 hH4
              go_wp2_with fail
              go_quiet (fail)
              go_wp2_with fail
              go_roundw
              case rel => exact ⟨z + 1, by simp, by omega, HHEAP2.out, below_drewN HBW2.out _⟩
              case measure => simp [intOf]; omega
            · obtain rfl : z = lq := by omega
              go_wp2_with fail
              go_roundw
              case rel => exact ⟨q + 1, by simp, by omega, HHEAP2.out, HBW2.out⟩
              case measure => simp [intOf]; omega
        · obtain rfl : q = gs.length := by omega
          go_wp2_with fail
          go_ret
          exact ⟨rfl, HBW.out⟩
end Go.Proofs.Ytobkbbbdddllmaa
