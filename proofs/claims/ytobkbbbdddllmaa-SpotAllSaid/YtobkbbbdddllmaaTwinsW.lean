/- Package spot: Twins. -/
import Derived.Test.YtobkbbbdddllmaaPage
import Derived.Carry
import Derived.Deep.DeepCutAuto
import Derived.WalkKit
namespace Go.Proofs.Ytobkbbbdddllmaa
open Go.RowKit Mp Go.ChangeMaps

theorem infoI : (Try.prog.info? 3).map (fun i => (i.zero, i.size, i.bytes)) = some (some (.int .i64 0), 1, 8) := by kernel_rfl
theorem infoS : (Try.prog.info? 27).map (fun i => (i.zero, i.size, i.bytes)) = some (some (.slice none 0 0), 1, 24) := by kernel_rfl
theorem zeroL : ∀ W : World, (zeroValue 27).run Try.prog W = .ok (.slice none 0 0) W := fun W => by kernel_rfl

/-- v is a slice of slices of numbers, gs, in memory from base on. -/
def OutG (base : Nat) (w : World) (v : Value) (gs : List (List Nat)) : Prop :=
  ∃ vs : List Value, w.ownsRow base 27 1 v gs.length vs ∧ ∀ (j : Nat) (u : Value) (g : List Nat), vs[j]? = some u → gs[j]? = some g → w.ownsRow base 3 1 u g.length (ints g)

theorem ownsRow_base {w : World} {base base' : Nat} {e : TypeId} {size : Nat} {v : Value} {n : Nat} {xs : List Value} (h : w.ownsRow base e size v n xs) (hb : base' ≤ base) : w.ownsRow base' e size v n xs := by
  refine ⟨h.1, ?_⟩
  rcases h.2 with h1 | ⟨g, cap, cur, rfl, h2, h3⟩
  · exact .inl h1
  · exact .inr ⟨g, cap, cur, rfl, Nat.le_trans hb h2, h3⟩

theorem heap_setBlock_atP {W : World} {b : Nat} (o : Obj) (hb : b < W.heap.size) : (setBlock W b o).heap[b]? = some o := by
  simp [Go.ChangeMaps.setBlock, hb]

set_option maxRecDepth 100000 in
set_option maxHeartbeats 4000000 in
theorem twins_some (w : World) (ab ao cap : Nat) (ps : List (List Nat)) (hP : PagesIs w (some ⟨ab, ao, none⟩) ps) (hn : ps.length ≤ 100000) (hok : ∀ p ∈ ps, okP p) :
    Calls Try.prog 19 #[.slice (some ⟨ab, ao, none⟩) ps.length cap] w fun e w' => ∃ v, e = .returned v ∧ OutG w.heap.size w' v (twinsS ps) ∧ Below w.heap.size w w' := by
  have hmm := @run_makeMap Try.prog
  obtain ⟨i0, hi, hz0, hz1, hz2⟩ := info_parts infoI
  obtain ⟨i1, hi', hy0, hy1, hy2⟩ := info_parts infoS
  have HP := Lib.hid hP
  have HOK := Lib.hid hok
  obtain ⟨n, hnn⟩ : ∃ n, ps.length = n := ⟨_, rfl⟩
  have HN := Lib.hid hnn
  rw [hnn] at hn
  rw [hnn]
  clear hP hok hnn
  go_enter Try.func19, Try.ntmps19
  go_wp2
  go_loopw [13] (fun i wr => ∃ (k : Nat) (l : List (List Nat × Value)), i = .int .i64 k ∧ k ≤ n ∧ Gr wr (w.heap.size + 1) w.heap.size ps k l ∧ Below w.heap.size w wr) (fun i _ => (n - intOf i).toNat)
  case atStart => exact ⟨0, [], rfl, Nat.zero_le _, gr_start w ps, (Below.refl _ _).alloc (Nat.le_refl _) _⟩
  case round =>
    obtain ⟨k, l, rfl, hk, hgr, hbel⟩ := hrel
    have HGR := Lib.hid hgr
    have HBEL := Lib.hid hbel
    clear hgr hbel
    by_cases hkn : k < n
    · obtain ⟨p, hp⟩ : ∃ p, ps[k]? = some p := ⟨_, List.getElem?_eq_getElem (by rw [HN.out]; exact hkn)⟩
      have hpp := HOK.out p (List.mem_of_getElem? hp)
      obtain ⟨hp32, b', o', hab, hpa⟩ := HP.out k p hp
      simp only [Option.some.injEq, Addr.mk.injEq, and_true] at hab
      obtain ⟨rfl, rfl⟩ := hab
      have hpa1 : PageAt wr ab (ao + k * 32) p := hpa.below HBEL.out hpa.lt
      have HPA := Lib.hid hpa1
      have HPI := Lib.hid hp
      clear hp hpa hpa1
      obtain ⟨st, o1, hent, hsto⟩ := HGR.out.map.entry Try.underlying70 hpp zeroL
      obtain ⟨wb, hwb⟩ : ∃ wb, (wr.alloc (.cells (cellsP p).toArray 48)).alloc (.cells #[.int .i64 (k : Int)] 3) = wb := ⟨_, rfl⟩
      have hba : Below wr.heap.size wr wb := by rw [← hwb]; exact ((Below.refl _ _).alloc (Nat.le_refl _) _).alloc (by simp) _
      have hsb : wb.heap.size = wr.heap.size + 2 := by rw [← hwb]; simp
      have hcb : wb.cell? ⟨wr.heap.size + 1, 0, none⟩ = some (.int .i64 (k : Int)) := by rw [← hwb, World.cell?_alloc_at _ _ _ _ (by simp)]; rfl
      have hent1 : (Instr.mapEntry 70 (.map (some w.heap.size)) (encP p)).run Try.prog ((wr.alloc (.cells (cellsP p).toArray 48)).alloc (.cells #[.int .i64 (k : Int)] 3)) = .ok (.tuple #[(getA l p).getD (.slice none 0 0), .int .i64 st]) (setBlock wb w.heap.size o1) := by
        rw [hwb]; exact hent wb (hba.block _ HGR.out.map.lt)
      have hrow := HGR.out.row p
      have hrow1 : (setBlock wb w.heap.size o1).ownsRow (w.heap.size + 1) 3 1 ((getA l p).getD (.slice none 0 0)) (idxP ps k p).length (ints (idxP ps k p)) :=
        ownsRow_same hrow (by rw [size_setB]; exact hba.size) (fun g hg => (heap_setB o1 (by have := (hrow.lt g hg).1; omega)).trans (hba.block g (hrow.lt g hg).2))
      obtain ⟨v0, hv0⟩ : ∃ v0, (getA l p).getD (.slice none 0 0) = v0 := ⟨_, rfl⟩
      rw [hv0] at hent1 hrow1
      have hnews : ∀ j u, [Value.int .i64 (k : Int)][j]? = some u → (setBlock wb w.heap.size o1).cell? ((⟨wr.heap.size + 1, 0, none⟩ : Addr).add j) = some u := fun j u hu => by
        match j, hu with
        | 0, hu =>
          simp only [List.getElem?_cons_zero, Option.some.injEq] at hu
          subst hu
          refine (World.cell?_of_block (a := ⟨wr.heap.size + 1, 0, none⟩) (heap_setB o1 ?_)).trans hcb
          have := HBEL.out.size
          show wr.heap.size + 1 ≠ w.heap.size
          omega
      have hidx := idxP_len ps k p
      have hsz1 : (setBlock wb w.heap.size o1).heap.size = wr.heap.size + 2 := by rw [size_setB, hsb]
      have hwl := HGR.out.map.lt
      have HROW := Lib.hid hrow1
      have HBA := Lib.hid hba
      have HSTO := Lib.hid hsto
      have HV0 := Lib.hid hv0
      have HWB := Lib.hid hwb
      have HSZ1 := Lib.hid hsz1
      have HBSZ := Lib.hid HBEL.out.size
      have HSB := Lib.hid hsb
      have HCB := Lib.hid hcb
      clear hent hrow hrow1 hba hsto hv0 hwb hsz1 hsb hcb
      go_wp2_with (first
        | (refine wpList_loadP _ rfl _ rfl ab (ao + k * 32) rfl p hp32 HPA.out ?_)
        | (refine wpList_storeP _ rfl _ _ rfl wr _ rfl rfl rfl p rfl hp32 ?_)
        | (refine wpList_loadP _ rfl _ rfl wr.heap.size 0 rfl p hp32 (pageAt_new wr p hp32 _) ?_)
        | (at_builtin; refine wpList_append_own_at _ rfl _ _ 27 rfl (w.heap.size + 1) 3 i0 (.int .i64 0) 1 8 Try.underlying27 hi hz0 hz1 hz2 rfl (by decide) _ _ _ rfl HROW.out ⟨wr.heap.size + 1, 0, none⟩ 1 1 [.int .i64 (k : Int)] rfl rfl hnews (by simp [Value.oneCell']) (by unfold maxLen; omega) (by omega) (by rw [HSZ1.out]; omega) ?_
           intro v' w2 hown' hgrow hnil hloc
           have hb1 : w2.heap[w.heap.size]? = some o1 := (hgrow.block w.heap.size (by rw [HSZ1.out]; omega) (fun e => by have := (HROW.out.lt _ e.symm).1; omega)).trans (heap_setBlock_atP o1 (by rw [HSB.out]; omega))
           obtain ⟨o2, ho2, hrun2⟩ := HSTO.out v'
           have hst2 := hrun2 w2 hb1
           have HO2 := Lib.hid ho2
           have HOWN := Lib.hid hown'
           have HGROW := Lib.hid hgrow
           have HLOC := Lib.hid hloc
           clear ho2 hrun2 hown' hgrow hloc hnil hb1)
        | go_in)
      have hstep : Gr (setBlock w2 w.heap.size o2) (w.heap.size + 1) w.heap.size ps (k + 1) ((p, v') :: delA l p) := by
        refine HGR.out.step HPI.out HBA.out rfl ?_ (by rw [HV0.out]; exact HGROW.out) ?_ HO2.out rfl
        · exact HOWN.out
        · rw [HV0.out]; exact HLOC.out
      have hbel2 : Below w.heap.size w (setBlock w2 w.heap.size o2) := by
        have h1 : Below w.heap.size w (setBlock wb w.heap.size o1) := below_setB (HBEL.out.trans (HBA.out.mono HBEL.out.size)) (Nat.le_refl _) o1
        exact below_setB (h1.grown HGROW.out h1.size (fun g hg => by have := (HROW.out.lt g hg).1; omega)) (Nat.le_refl _) o2
      go_roundw
      case rel => exact ⟨k + 1, (p, v') :: delA l p, by simp, by omega, hstep, hbel2⟩
      case measure => simp [intOf]; omega
    · obtain rfl : k = n := by omega
      obtain ⟨wL, rfl⟩ : ∃ wL, wL = wr := ⟨_, rfl⟩
      go_wp2
      go_loopw [6, 29] (fun v i wr => ∃ j : Nat, i = .int .i64 j ∧ j ≤ k ∧ wr.ownsRow wL.heap.size 27 1 v (firsts ps k j).length ((firsts ps k j).map fun q => (getA l (ps.getD q [])).getD (.slice none 0 0)) ∧ Below wL.heap.size wL wr) (fun _ i _ => (k - intOf i).toNat)
      case atStart => exact ⟨0, rfl, Nat.zero_le _, World.ownsRow_nil _ _ _ _, Below.refl _ _⟩
      case round =>
        obtain ⟨j, rfl, hj, hown, hbq⟩ := hrel
        have HOWN := Lib.hid hown
        have HBQ := Lib.hid hbq
        clear hown hbq
        by_cases hjn : j < k
        · obtain ⟨p, hp⟩ : ∃ p, ps[j]? = some p := ⟨_, List.getElem?_eq_getElem (by rw [HN.out]; exact hjn)⟩
          have hpp := HOK.out p (List.mem_of_getElem? hp)
          have hpd : ps.getD j [] = p := by rw [List.getD_eq_getElem?_getD, hp]; rfl
          obtain ⟨hp32, b', o', hab, hpa⟩ := HP.out j p hp
          simp only [Option.some.injEq, Addr.mk.injEq, and_true] at hab
          obtain ⟨rfl, rfl⟩ := hab
          have hgq : Gr wr (w.heap.size + 1) w.heap.size ps k l := HGR.out.below HBQ.out (Nat.le_refl _)
          have hpa1 : PageAt wr ab (ao + j * 32) p := (hpa.below HBEL.out hpa.lt).below HBQ.out (Nat.lt_of_lt_of_le hpa.lt HBEL.out.size)
          have hne : idxP ps k p ≠ [] := List.ne_nil_of_mem (idxP_mem.2 ⟨hjn, hp⟩)
          obtain ⟨v, hv⟩ := HGR.out.has p hne
          have hval : (getA l p).getD (.slice none 0 0) = v := by rw [getA_of_mem HGR.out.map.nodup hv]; rfl
          have hlook : (Instr.lookup 70 (.map (some w.heap.size)) (encP p) false).run Try.prog (wr.alloc (.cells (cellsP p).toArray 48)) = .ok v (wr.alloc (.cells (cellsP p).toArray 48)) := by
            have := hgq.map.look Try.underlying70 hpp zeroL false _ (Below.heap_alloc wr (.cells (cellsP p).toArray 48) w.heap.size hgq.map.lt)
            simp only [Bool.false_eq_true, if_false, hval] at this
            exact this
          obtain ⟨f, rest, hfr⟩ : ∃ f rest, idxP ps k p = f :: rest := List.exists_cons_of_ne_nil hne
          have hrowv := hgq.own p v hv
          obtain ⟨g, cp, rfl, hc0, hglt, hlen⟩ : ∃ g cp, v = .slice (some ⟨g, 0, none⟩) (rest.length + 1) cp ∧ wr.cell? ⟨g, 0, none⟩ = some (.int .i64 (f : Int)) ∧ g < wr.heap.size ∧ rest.length + 1 ≤ 100000 := by
            have hl := idxP_len ps k p
            rcases hrowv.2 with ⟨rfl, hz⟩ | ⟨g, cp, cur, rfl, _, hg, _, _, _, ht⟩
            · exact absurd (List.eq_nil_of_length_eq_zero hz) hne
            · refine ⟨g, cp, by rw [hfr]; rfl, ?_, (Array.getElem?_eq_some_iff.1 hg).1, by rw [hfr] at hl; simp at hl; omega⟩
              rw [hfr] at ht
              have h0 : cur[0]? = some (.int .i64 (f : Int)) := by
                have := congrArg (fun L => L[0]?) ht
                simpa [ints] using this
              simp [World.cell?, hg, h0]
          have hlead : leads ps k j = (match f :: rest with | q :: _ :: _ => q == j | _ => false) := by unfold leads; rw [hpd, hfr]; cases rest <;> rfl
          have HPA := Lib.hid hpa1
          have HLK := Lib.hid hlead
          have HVAL := Lib.hid hval
          have HPD := Lib.hid hpd
          clear hp hpp hpd hpa hpa1 hgq hne hv hval hfr hrowv hlead
          by_cases hfj : f = j
          · subst hfj
            by_cases hr : 0 < rest.length
            · have hyes : leads ps k f = true := by
                rw [HLK.out]
                cases rest with
                | nil => simp at hr
                | cons a b => simp
              have HYES := Lib.hid hyes
              clear hyes
              have how2 : ((wr.alloc (.cells (cellsP p).toArray 48)).alloc (.cells #[.slice (some ⟨g, 0, none⟩) (rest.length + 1) cp] 27)).ownsRow wL.heap.size 27 1 u6 (firsts ps k f).length ((firsts ps k f).map fun q => (getA l (ps.getD q [])).getD (.slice none 0 0)) := (HOWN.out.alloc _).alloc _
              have hfl : (firsts ps k f).length ≤ 100000 := by
                have := List.length_filter_le (leads ps k) (List.range f)
                rw [List.length_range] at this
                unfold firsts
                omega
              have hcn : ∀ i u, [Value.slice (some ⟨g, 0, none⟩) (rest.length + 1) cp][i]? = some u → ((wr.alloc (.cells (cellsP p).toArray 48)).alloc (.cells #[.slice (some ⟨g, 0, none⟩) (rest.length + 1) cp] 27)).cell? ((⟨wr.heap.size + 1, 0, none⟩ : Addr).add i) = some u := fun i u hu => by
                match i, hu with
                | 0, hu =>
                  simp only [List.getElem?_cons_zero, Option.some.injEq] at hu
                  subst hu
                  exact (World.cell?_alloc_at _ _ _ _ (by simp)).trans rfl
              have hbq2 := HBQ.out.size
              go_wp2_with (first
                | (refine wpList_loadP _ rfl _ rfl ab (ao + f * 32) rfl p hp32 HPA.out ?_)
                | (refine wpList_storeP _ rfl _ _ rfl wr _ rfl rfl rfl p rfl hp32 ?_)
                | (refine wpList_loadP _ rfl _ rfl wr.heap.size 0 rfl p hp32 (pageAt_new wr p hp32 _) ?_)
                | (at_builtin; refine wpList_append_own _ rfl _ _ 46 rfl wL.heap.size 27 i1 (.slice none 0 0) 1 24 Try.underlying46 hi' hy0 hy1 hy2 rfl (by decide) _ _ _ rfl how2 ⟨wr.heap.size + 1, 0, none⟩ 1 1 [.slice (some ⟨g, 0, none⟩) (rest.length + 1) cp] rfl rfl hcn (by simp [Value.oneCell']) (by unfold maxLen; omega) (by omega) (by simp; omega) ?_
                   intro v' w2 hown' hgrow hnil
                   have HW := Lib.hid hown'
                   have HG := Lib.hid hgrow
                   clear hown' hgrow hnil)
                | go_in)
              have hB2 : Below wL.heap.size wL w2 := ((HBQ.out.alloc HBQ.out.size _).alloc (by simp; omega) _).grown HG.out (by simp; omega) (fun q hq => (HOWN.out.lt q hq).1)
              go_roundw
              case rel =>
                refine ⟨f + 1, by simp, by omega, ?_, hB2⟩
                rw [firsts_yes HYES.out]
                have := HW.out
                rw [List.length_append, List.map_append, List.map_cons, HPD.out, HVAL.out]
                exact this
              case measure => simp [intOf]; omega
            · have hno : leads ps k f = false := by
                rw [HLK.out]
                cases rest with
                | nil => rfl
                | cons a b => simp at hr
              have HNO := Lib.hid hno
              obtain rfl : rest = [] := List.eq_nil_of_length_eq_zero (by omega)
              clear hno hr
              simp only [List.length_nil, Nat.zero_add] at hlook
              go_wp2_with (first
                | (refine wpList_loadP _ rfl _ rfl ab (ao + f * 32) rfl p hp32 HPA.out ?_)
                | (refine wpList_storeP _ rfl _ _ rfl wr _ rfl rfl rfl p rfl hp32 ?_)
                | (refine wpList_loadP _ rfl _ rfl wr.heap.size 0 rfl p hp32 (pageAt_new wr p hp32 _) ?_)
                | go_in)
              go_roundw
              case rel =>
                refine ⟨f + 1, by simp, by omega, ?_, HBQ.out.alloc HBQ.out.size _⟩
                rw [firsts_no HNO.out]
                exact HOWN.out.alloc _
              case measure => simp [intOf]; omega
          · have hno : leads ps k j = false := by
              rw [HLK.out]
              cases rest with
              | nil => rfl
              | cons a b => simpa using hfj
            have HNO := Lib.hid hno
            have hb : ((f : Int) == (j : Int)) = false := by simp; omega
            clear hno
            go_wp2_with (first
                | (refine wpList_loadP _ rfl _ rfl ab (ao + j * 32) rfl p hp32 HPA.out ?_)
                | (refine wpList_storeP _ rfl _ _ rfl wr _ rfl rfl rfl p rfl hp32 ?_)
                | (refine wpList_loadP _ rfl _ rfl wr.heap.size 0 rfl p hp32 (pageAt_new wr p hp32 _) ?_)
                | go_in)
            go_roundw
            case rel =>
              refine ⟨j + 1, by simp, by omega, ?_, HBQ.out.alloc HBQ.out.size _⟩
              rw [firsts_no HNO.out]
              exact HOWN.out.alloc _
            case measure => simp [intOf]; omega
        · obtain rfl : j = k := by omega
          go_wp2
          go_ret
          have hN := HN.out
          have htw : twinsS ps = (firsts ps j j).map fun i => idxP ps j (ps.getD i []) := by unfold twinsS; rw [hN]
          refine ⟨_, rfl, ⟨(firsts ps j j).map fun q => (getA l (ps.getD q [])).getD (.slice none 0 0), ?_, ?_⟩, HBEL.out.trans (HBQ.out.mono HBEL.out.size)⟩
          · rw [htw, List.length_map]
            exact ownsRow_base HOWN.out HBEL.out.size
          · intro i u g hu hg
            rw [htw] at hg
            rw [List.getElem?_map] at hu hg
            cases hi : (firsts ps j j)[i]? with
            | none => rw [hi] at hu; simp at hu
            | some q =>
              rw [hi] at hu hg
              simp only [Option.map_some, Option.some.injEq] at hu hg
              subst hu hg
              exact ownsRow_base ((HGR.out.below HBQ.out (Nat.le_refl _)).row _) (Nat.le_succ _)

set_option maxRecDepth 100000 in
set_option maxHeartbeats 1000000 in
theorem twins_none (w : World) (a : Option Addr) (cap : Nat) :
    Calls Try.prog 19 #[.slice a 0 cap] w fun e w' => ∃ v, e = .returned v ∧ OutG w.heap.size w' v [] ∧ Below w.heap.size w w' := by
  have hmm := @run_makeMap Try.prog
  go_enter Try.func19, Try.ntmps19
  go_wp2
  refine wp_loop_rounds 1 ?_
  rw [rounds_succ]
  go_wp2
  refine wp_loop_rounds 1 ?_
  rw [rounds_succ]
  go_wp2
  go_ret
  exact ⟨_, rfl, ⟨[], World.ownsRow_nil _ _ _ _, fun j u g hu => by simp at hu⟩, (Below.refl _ _).alloc (Nat.le_refl _) _⟩

/-- Twins. -/
theorem twins_any (w : World) (a : Option Addr) (cap : Nat) (ps : List (List Nat)) (hP : PagesIs w a ps) (hn : ps.length ≤ 100000) (hok : ∀ p ∈ ps, okP p) :
    Calls Try.prog 19 #[.slice a ps.length cap] w fun e w' => ∃ v, e = .returned v ∧ OutG w.heap.size w' v (twinsS ps) ∧ Below w.heap.size w w' := by
  cases ps with
  | nil => exact twins_none w a cap
  | cons p r =>
    obtain ⟨_, b, o, rfl, _⟩ := hP 0 p rfl
    exact twins_some w b o cap (p :: r) hP hn hok
end Go.Proofs.Ytobkbbbdddllmaa
