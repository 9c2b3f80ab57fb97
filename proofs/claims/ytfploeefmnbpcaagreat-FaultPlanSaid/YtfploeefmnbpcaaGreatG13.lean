import Derived.Test.YtfploeefmnbpcaaGreatG03
import Derived.Carry
import Derived.Deep.DeepCutAuto
import Derived.WalkKit
import Derived.Test.YtfploeefmnbpcaaGreatG12
/- Package spot: Twins. -/
namespace Go.Proofs.YtfploeefmnbpcaaGreat
open Go.RowKit Mp Go.ChangeMaps

theorem infoI : (Tryz.prog.info? 3).map (fun i => (i.zero, i.size, i.bytes)) = some (some (.int .i64 0), 1, 8) := by kernel_rfl
theorem infoS : (Tryz.prog.info? 22).map (fun i => (i.zero, i.size, i.bytes)) = some (some (.slice none 0 0), 1, 24) := by kernel_rfl
theorem zeroL : ∀ W : World, (zeroValue 22).run Tryz.prog W = .ok (.slice none 0 0) W := fun W => by kernel_rfl

/-- v is a slice of slices of numbers, gs, in memory from base on. -/
def OutG (base : Nat) (w : World) (v : Value) (gs : List (List Nat)) : Prop :=
  ∃ vs : List Value, w.ownsRow base 22 1 v gs.length vs ∧ ∀ (j : Nat) (u : Value) (g : List Nat), vs[j]? = some u → gs[j]? = some g → w.ownsRow base 3 1 u g.length (ints g)

theorem ownsRow_base {w : World} {base base' : Nat} {e : TypeId} {size : Nat} {v : Value} {n : Nat} {xs : List Value} (h : w.ownsRow base e size v n xs) (hb : base' ≤ base) : w.ownsRow base' e size v n xs := by
  refine ⟨h.1, ?_⟩
  rcases h.2 with h1 | ⟨g, cap, cur, rfl, h2, h3⟩
  · exact .inl h1
  · exact .inr ⟨g, cap, cur, rfl, Nat.le_trans hb h2, h3⟩

theorem heap_setBlock_atP {W : World} {b : Nat} (o : Obj) (hb : b < W.heap.size) : (setBlock W b o).heap[b]? = some o := by
  simp [Go.ChangeMaps.setBlock, hb]

set_option maxRecDepth 100000 in
set_option maxHeartbeats 4000000 in
theorem twins_some (w : World) (ab ao cap : Nat) (ps : List (List Nat)) (hP : PagesIs w (some ⟨ab, ao, none⟩) ps) (hn : ps.length ≤ 100000) (hok : ∀ p ∈ ps, okP p) :
    Calls Tryz.prog 78 #[.slice (some ⟨ab, ao, none⟩) ps.length cap] w fun e w' => ∃ v, e = .returned v ∧ OutG w.heap.size w' v (twinsS ps) ∧ Below w.heap.size w w' := by
  have hmm := @run_makeMap Tryz.prog
  obtain ⟨i0, hi, hz0, hz1, hz2⟩ := info_parts infoI
  obtain ⟨i1, hi', hy0, hy1, hy2⟩ := info_parts infoS
  have HP := Lib.hid hP
  have HOK := Lib.hid hok
  obtain ⟨n, hnn⟩ : ∃ n, ps.length = n := ⟨_, rfl⟩
  have HN := Lib.hid hnn
  rw [hnn] at hn
  rw [hnn]
  clear hP hok hnn
  go_enter Tryz.func78, Tryz.ntmps78
  go_wp2
  go_loopw [13] (fun i wr => ∃ (k : Nat) (l : List (List Nat × Value)), i = .int .i64 k ∧ k ≤ n ∧ Gr wr (w.heap.size + 1) w.heap.size ps k l ∧ Below w.heap.size w wr) (fun i _ => (n - intOf i).toNat)
  case atStart => exact ⟨0, [], rfl, Nat.zero_le _, gr_start w ps, (Below.refl _ _).alloc (Nat.le_refl _) _⟩
  case round =>
    obtain ⟨k, l, rfl, hk, hgr, hbel⟩ := hrel
    have HGR := Lib.hid hgr
    have HBEL := Lib.hid hbel
    clear hgr hbel
    by_cases hkn : k < n
    · obtain ⟨p, hp⟩ : ∃ p, ps[k]? = some p := ⟨_, List.getElem?_eq_getElem (by rw [HN.out]; exact hkn)⟩
      have hpp := HOK.out p (List.mem_of_getElem? hp)
      obtain ⟨hp32, b', o', hab, hpa⟩ := HP.out k p hp
      simp only [Option.some.injEq, Addr.mk.injEq, and_true] at hab
      obtain ⟨rfl, rfl⟩ := hab
      have hpa1 : PageAt wr ab (ao + k * 32) p := hpa.below HBEL.out hpa.lt
      have HPA := Lib.hid hpa1
      have HPI := Lib.hid hp
      clear hp hpa hpa1
      obtain ⟨st, o1, hent, hsto⟩ := HGR.out.map.entry Tryz.underlying133 hpp zeroL
      obtain ⟨wb, hwb⟩ : ∃ wb, (wr.alloc (.cells (cellsP p).toArray 34)).alloc (.cells #[.int .i64 (k : Int)] 3) = wb := ⟨_, rfl⟩
      have hba : Below wr.heap.size wr wb := by rw [← hwb]; exact ((Below.refl _ _).alloc (Nat.le_refl _) _).alloc (by simp) _
      have hsb : wb.heap.size = wr.heap.size + 2 := by rw [← hwb]; simp
      have hcb : wb.cell? ⟨wr.heap.size + 1, 0, none⟩ = some (.int .i64 (k : Int)) := by rw [← hwb, World.cell?_alloc_at _ _ _ _ (by simp)]; rfl
      have hent1 : (Instr.mapEntry 133 (.map (some w.heap.size)) (encP p)).run Tryz.prog ((wr.alloc (.cells (cellsP p).toArray 34)).alloc (.cells #[.int .i64 (k : Int)] 3)) = .ok (.tuple #[(getA l p).getD (.slice none 0 0), .int .i64 st]) (setBlock wb w.heap.size o1) := by
        rw [hwb]; exact hent wb (hba.block _ HGR.out.map.lt)
      have hrow := HGR.out.row p
      have hrow1 : (setBlock wb w.heap.size o1).ownsRow (w.heap.size + 1) 3 1 ((getA l p).getD (.slice none 0 0)) (idxP ps k p).length (ints (idxP ps k p)) :=
        ownsRow_same hrow (by rw [size_setB]; exact hba.size) (fun g hg => (heap_setB o1 (by have := (hrow.lt g hg).1; omega)).trans (hba.block g (hrow.lt g hg).2))
      obtain ⟨v0, hv0⟩ : ∃ v0, (getA l p).getD (.slice none 0 0) = v0 := ⟨_, rfl⟩
      rw [hv0] at hent1 hrow1
      have hnews : ∀ j u, [Value.int .i64 (k : Int)][j]? = some u → (setBlock wb w.heap.size o1).cell? ((⟨wr.heap.size + 1, 0, none⟩ : Addr).add j) = some u := fun j u hu => by
        match j, hu with
        | 0, hu =>
          simp only [List.getElem?_cons_zero, Option.some.injEq] at hu
          subst hu
          refine (World.cell?_of_block (a := ⟨wr.heap.size + 1, 0, none⟩) (heap_setB o1 ?_)).trans hcb
          have := HBEL.out.size
          show wr.heap.size + 1 ≠ w.heap.size
          omega
      have hidx := idxP_len ps k p
      have hsz1 : (setBlock wb w.heap.size o1).heap.size = wr.heap.size + 2 := by rw [size_setB, hsb]
      have hwl := HGR.out.map.lt
      have HROW := Lib.hid hrow1
      have HBA := Lib.hid hba
      have HSTO := Lib.hid hsto
      have HV0 := Lib.hid hv0
      have HWB := Lib.hid hwb
      have HSZ1 := Lib.hid hsz1
      have HBSZ := Lib.hid HBEL.out.size
      have HSB := Lib.hid hsb
      have HCB := Lib.hid hcb
      clear hent hrow hrow1 hba hsto hv0 hwb hsz1 hsb hcb
      go_wp2_with (first
        | (refine wpList_loadP _ rfl _ rfl ab (ao + k * 32) rfl p hp32 HPA.out ?_)
        | (refine wpList_storeP _ rfl _ _ rfl wr _ rfl rfl rfl p rfl hp32 ?_)
        | (refine wpList_loadP _ rfl _ rfl wr.heap.size 0 rfl p hp32 (pageAt_new wr p hp32 _) ?_)
        | (at_builtin; refine wpList_append_own_at _ rfl _ _ 22 rfl (w.heap.size + 1) 3 i0 (.int .i64 0) 1 8 Tryz.underlying22 hi hz0 hz1 hz2 rfl (by decide) _ _ _ rfl HROW.out ⟨wr.heap.size + 1, 0, none⟩ 1 1 [.int .i64 (k : Int)] rfl rfl hnews (by simp [Value.oneCell']) (by unfold maxLen; omega) (by omega) (by rw [HSZ1.out]; omega) ?_
           intro v' w2 hown' hgrow hnil hloc
           have hb1 : w2.heap[w.heap.size]? = some o1 := (hgrow.block w.heap.size (by rw [HSZ1.out]; omega) (fun e => by have := (HROW.out.lt _ e.symm).1; omega)).trans (heap_setBlock_atP o1 (by rw [HSB.out]; omega))
           obtain ⟨o2, ho2, hrun2⟩ := HSTO.out v'
           have hst2 := hrun2 w2 hb1
           have HO2 := Lib.hid ho2
           have HOWN := Lib.hid hown'
           have HGROW := Lib.hid hgrow
           have HLOC := Lib.hid hloc
           clear ho2 hrun2 hown' hgrow hloc hnil hb1)
        | go_in)
      have hstep : Gr (setBlock w2 w.heap.size o2) (w.heap.size + 1) w.heap.size ps (k + 1) ((p, v') :: delA l p) := by
        refine HGR.out.step HPI.out HBA.out rfl ?_ (by rw [HV0.out]; exact HGROW.out) ?_ HO2.out rfl
        · exact HOWN.out
        · rw [HV0.out]; exact HLOC.out
      have hbel2 : Below w.heap.size w (setBlock w2 w.heap.size o2) := by
        have h1 : Below w.heap.size w (setBlock wb w.heap.size o1) := below_setB (HBEL.out.trans (HBA.out.mono HBEL.out.size)) (Nat.le_refl _) o1
        exact below_setB (h1.grown HGROW.out h1.size (fun g hg => by have := (HROW.out.lt g hg).1; omega)) (Nat.le_refl _) o2
      go_roundw
      case rel => exact ⟨k + 1, (p, v') :: delA l p, by simp, by omega, hstep, hbel2⟩
      case measure => simp [intOf]; omega
    · obtain rfl : k = n := by omega
      obtain ⟨wL, rfl⟩ : ∃ wL, wL = wr := ⟨_, rfl⟩
      go_wp2
      go_loopw [6, 29] (fun v i wr => ∃ j : Nat, i = .int .i64 j ∧ j ≤ k ∧ wr.ownsRow wL.heap.size 22 1 v (firsts ps k j).length ((firsts ps k j).map fun q => (getA l (ps.getD q [])).getD (.slice none 0 0)) ∧ Below wL.heap.size wL wr) (fun _ i _ => (k - intOf i).toNat)
      case atStart => exact ⟨0, rfl, Nat.zero_le _, World.ownsRow_nil _ _ _ _, Below.refl _ _⟩
      case round =>
        obtain ⟨j, rfl, hj, hown, hbq⟩ := hrel
        have HOWN := Lib.hid hown
        have HBQ := Lib.hid hbq
        clear hown hbq
        by_cases hjn : j < k
        · obtain ⟨p, hp⟩ : ∃ p, ps[j]? = some p := ⟨_, List.getElem?_eq_getElem (by rw [HN.out]; exact hjn)⟩
          have hpp := HOK.out p (List.mem_of_getElem? hp)
          have hpd : ps.getD j [] = p := by rw [List.getD_eq_getElem?_getD, hp]; rfl
          obtain ⟨hp32, b', o', hab, hpa⟩ := HP.out j p hp
          simp only [Option.some.injEq, Addr.mk.injEq, and_true] at hab
          obtain ⟨rfl, rfl⟩ := hab
          have hgq : Gr wr (w.heap.size + 1) w.heap.size ps k l := HGR.out.below HBQ.out (Nat.le_refl _)
          have hpa1 : PageAt wr ab (ao + j * 32) p := (hpa.below HBEL.out hpa.lt).below HBQ.out (Nat.lt_of_lt_of_le hpa.lt HBEL.out.size)
          have hne : idxP ps k p ≠ [] := List.ne_nil_of_mem (idxP_mem.2 ⟨hjn, hp⟩)
          obtain ⟨v, hv⟩ := HGR.out.has p hne
          have hval : (getA l p).getD (.slice none 0 0) = v := by rw [getA_of_mem HGR.out.map.nodup hv]; rfl
          have hlook : (Instr.lookup 133 (.map (some w.heap.size)) (encP p) false).run Tryz.prog (wr.alloc (.cells (cellsP p).toArray 34)) = .ok v (wr.alloc (.cells (cellsP p).toArray 34)) := by
            have := hgq.map.look Tryz.underlying133 hpp zeroL false _ (Below.heap_alloc wr (.cells (cellsP p).toArray 34) w.heap.size hgq.map.lt)
            simp only [Bool.false_eq_true, if_false, hval] at this
            exact this
          obtain ⟨f, rest, hfr⟩ : ∃ f rest, idxP ps k p = f :: rest := List.exists_cons_of_ne_nil hne
          have hrowv := hgq.own p v hv
          obtain ⟨g, cp, rfl, hc0, hglt, hlen⟩ : ∃ g cp, v = .slice (some ⟨g, 0, none⟩) (rest.length + 1) cp ∧ wr.cell? ⟨g, 0, none⟩ = some (.int .i64 (f : Int)) ∧ g < wr.heap.size ∧ rest.length + 1 ≤ 100000 := by
            have hl := idxP_len ps k p
            rcases hrowv.2 with ⟨rfl, hz⟩ | ⟨g, cp, cur, rfl, _, hg, _, _, _, ht⟩
            · exact absurd (List.eq_nil_of_length_eq_zero hz) hne
            · refine ⟨g, cp, by rw [hfr]; rfl, ?_, (Array.getElem?_eq_some_iff.1 hg).1, by rw [hfr] at hl; simp at hl; omega⟩
              rw [hfr] at ht
              have h0 : cur[0]? = some (.int .i64 (f : Int)) := by
                have := congrArg (fun L => L[0]?) ht
                simpa [ints] using this
              simp [World.cell?, hg, h0]
          have hlead : leads ps k j = (match f :: rest with | q :: _ :: _ => q == j | _ => false) := by unfold leads; rw [hpd, hfr]; cases rest <;> rfl
          have HPA := Lib.hid hpa1
          have HLK := Lib.hid hlead
          have HVAL := Lib.hid hval
          have HPD := Lib.hid hpd
          clear hp hpp hpd hpa hpa1 hgq hne hv hval hfr hrowv hlead
          by_cases hfj : f = j
          · subst hfj
            by_cases hr : 0 < rest.length
            · have hyes : leads ps k f = true := by
                rw [HLK.out]
                cases rest with
                | nil => simp at hr
                | cons a b => simp
              have HYES := Lib.hid hyes
              clear hyes
              have how2 : ((wr.alloc (.cells (cellsP p).toArray 34)).alloc (.cells #[.slice (some ⟨g, 0, none⟩) (rest.length + 1) cp] 22)).ownsRow wL.heap.size 22 1 u6 (firsts ps k f).length ((firsts ps k f).map fun q => (getA l (ps.getD q [])).getD (.slice none 0 0)) := (HOWN.out.alloc _).alloc _
              have hfl : (firsts ps k f).length ≤ 100000 := by
                have := List.length_filter_le (leads ps k) (List.range f)
                rw [List.length_range] at this
                unfold firsts
                omega
              have hcn : ∀ i u, [Value.slice (some ⟨g, 0, none⟩) (rest.length + 1) cp][i]? = some u → ((wr.alloc (.cells (cellsP p).toArray 34)).alloc (.cells #[.slice (some ⟨g, 0, none⟩) (rest.length + 1) cp] 22)).cell? ((⟨wr.heap.size + 1, 0, none⟩ : Addr).add i) = some u := fun i u hu => by
                match i, hu with
                | 0, hu =>
                  simp only [List.getElem?_cons_zero, Option.some.injEq] at hu
                  subst hu
                  exact (World.cell?_alloc_at _ _ _ _ (by simp)).trans rfl
              have hbq2 := HBQ.out.size
              go_wp2_with (first
                | (refine wpList_loadP _ rfl _ rfl ab (ao + f * 32) rfl p hp32 HPA.out ?_)
                | (refine wpList_storeP _ rfl _ _ rfl wr _ rfl rfl rfl p rfl hp32 ?_)
                | (refine wpList_loadP _ rfl _ rfl wr.heap.size 0 rfl p hp32 (pageAt_new wr p hp32 _) ?_)
                | (at_builtin; refine wpList_append_own _ rfl _ _ 112 rfl wL.heap.size 22 i1 (.slice none 0 0) 1 24 Tryz.underlying112 hi' hy0 hy1 hy2 rfl (by decide) _ _ _ rfl how2 ⟨wr.heap.size + 1, 0, none⟩ 1 1 [.slice (some ⟨g, 0, none⟩) (rest.length + 1) cp] rfl rfl hcn (by simp [Value.oneCell']) (by unfold maxLen; omega) (by omega) (by simp; omega) ?_
                   intro v' w2 hown' hgrow hnil
                   have HW := Lib.hid hown'
                   have HG := Lib.hid hgrow
                   clear hown' hgrow hnil)
                | go_in)
              have hB2 : Below wL.heap.size wL w2 := ((HBQ.out.alloc HBQ.out.size _).alloc (by simp; omega) _).grown HG.out (by simp; omega) (fun q hq => (HOWN.out.lt q hq).1)
              go_roundw
              case rel =>
                refine ⟨f + 1, by simp, by omega, ?_, hB2⟩
                rw [firsts_yes HYES.out]
                have := HW.out
                rw [List.length_append, List.map_append, List.map_cons, HPD.out, HVAL.out]
                exact this
              case measure => simp [intOf]; omega
            · have hno : leads ps k f = false := by
                rw [HLK.out]
                cases rest with
                | nil => rfl
                | cons a b => simp at hr
              have HNO := Lib.hid hno
              obtain rfl : rest = [] := List.eq_nil_of_length_eq_zero (by omega)
              clear hno hr
              simp only [List.length_nil, Nat.zero_add] at hlook
              go_wp2_with (first
                | (refine wpList_loadP _ rfl _ rfl ab (ao + f * 32) rfl p hp32 HPA.out ?_)
                | (refine wpList_storeP _ rfl _ _ rfl wr _ rfl rfl rfl p rfl hp32 ?_)
                | (refine wpList_loadP _ rfl _ rfl wr.heap.size 0 rfl p hp32 (pageAt_new wr p hp32 _) ?_)
                | go_in)
              go_roundw
              case rel =>
                refine ⟨f + 1, by simp, by omega, ?_, HBQ.out.alloc HBQ.out.size _⟩
                rw [firsts_no HNO.out]
                exact HOWN.out.alloc _
              case measure => simp [intOf]; omega
          · have hno : leads ps k j = false := by
              rw [HLK.out]
              cases rest with
              | nil => rfl
              | cons a b => simpa using hfj
            have HNO := Lib.hid hno
            have hb : ((f : Int) == (j : Int)) = false := by simp; omega
            clear hno
            go_wp2_with (first
                | (refine wpList_loadP _ rfl _ rfl ab (ao + j * 32) rfl p hp32 HPA.out ?_)
                | (refine wpList_storeP _ rfl _ _ rfl wr _ rfl rfl rfl p rfl hp32 ?_)
                | (refine wpList_loadP _ rfl _ rfl wr.heap.size 0 rfl p hp32 (pageAt_new wr p hp32 _) ?_)
                | go_in)
            go_roundw
            case rel =>
              refine ⟨j + 1, by simp, by omega, ?_, HBQ.out.alloc HBQ.out.size _⟩
              rw [firsts_no HNO.out]
              exact HOWN.out.alloc _
            case measure => simp [intOf]; omega
        · obtain rfl : j = k := by omega
          go_wp2
          go_ret
          have hN := HN.out
          have htw : twinsS ps = (firsts ps j j).map fun i => idxP ps j (ps.getD i []) := by unfold twinsS; rw [hN]
          refine ⟨_, rfl, ⟨(firsts ps j j).map fun q => (getA l (ps.getD q [])).getD (.slice none 0 0), ?_, ?_⟩, HBEL.out.trans (HBQ.out.mono HBEL.out.size)⟩
          · rw [htw, List.length_map]
            exact ownsRow_base HOWN.out HBEL.out.size
          · intro i u g hu hg
            rw [htw] at hg
            rw [List.getElem?_map] at hu hg
            cases hi : (firsts ps j j)[i]? with
            | none => rw [hi] at hu; simp at hu
            | some q =>
              rw [hi] at hu hg
              simp only [Option.map_some, Option.some.injEq] at hu hg
              subst hu hg
              exact ownsRow_base ((HGR.out.below HBQ.out (Nat.le_refl _)).row _) (Nat.le_succ _)

set_option maxRecDepth 100000 in
set_option maxHeartbeats 1000000 in
theorem twins_none (w : World) (a : Option Addr) (cap : Nat) :
    Calls Tryz.prog 78 #[.slice a 0 cap] w fun e w' => ∃ v, e = .returned v ∧ OutG w.heap.size w' v [] ∧ Below w.heap.size w w' := by
  have hmm := @run_makeMap Tryz.prog
  go_enter Tryz.func78, Tryz.ntmps78
  go_wp2
  refine wp_loop_rounds 1 ?_
  rw [rounds_succ]
  go_wp2
  refine wp_loop_rounds 1 ?_
  rw [rounds_succ]
  go_wp2
  go_ret
  exact ⟨_, rfl, ⟨[], World.ownsRow_nil _ _ _ _, fun j u g hu => by simp at hu⟩, (Below.refl _ _).alloc (Nat.le_refl _) _⟩

/-- Twins. -/
theorem twins_any (w : World) (a : Option Addr) (cap : Nat) (ps : List (List Nat)) (hP : PagesIs w a ps) (hn : ps.length ≤ 100000) (hok : ∀ p ∈ ps, okP p) :
    Calls Tryz.prog 78 #[.slice a ps.length cap] w fun e w' => ∃ v, e = .returned v ∧ OutG w.heap.size w' v (twinsS ps) ∧ Below w.heap.size w w' := by
  cases ps with
  | nil => exact twins_none w a cap
  | cons p r =>
    obtain ⟨_, b, o, rfl, _⟩ := hP 0 p rfl
    exact twins_some w b o cap (p :: r) hP hn hok
end Go.Proofs.YtfploeefmnbpcaaGreat

/- The guard of the statements on spot. -/
namespace Go.Proofs.YtfploeefmnbpcaaGreat
open Go.RowKit Mp Go.ChangeMaps Go.Sort

/-- A slice of places that has some. -/
theorem SliceA.parts {base : Nat} {w : World} {v : Value} {xs : List A3} (h : SliceA base w v xs) (hne : xs ≠ []) :
    ∃ g cap, v = .slice (some ⟨g, 0, none⟩) xs.length cap ∧ xs.length ≤ cap ∧ base ≤ g ∧ g < w.heap.size ∧
      ∀ i x, xs[i]? = some x → w.cell? ⟨g, i * 3, none⟩ = some (.int .i64 x.1) ∧ w.cell? ⟨g, i * 3 + 1, none⟩ = some (.int .i64 x.2.1) ∧ w.cell? ⟨g, i * 3 + 2, none⟩ = some (.int .i64 x.2.2) := by
  rcases h with ⟨_, e⟩ | ⟨g, cap, rfl, h1, h2, h3, h4, h5⟩
  · exact absurd e hne
  · refine ⟨g, cap, rfl, h1, h3, h4, fun i x hx => ?_⟩
    have hi : i < xs.toArray.size := by have := (List.getElem?_eq_some_iff.1 hx).1; simpa using this
    have hx2 : xs.toArray[i]! = x := by simp [List.getElem!_eq_getElem?_getD, hx]
    have c0 := (h5.cell hi (show 0 < 3 by omega)).1
    have c1 := (h5.cell hi (show 1 < 3 by omega)).1
    have c2 := (h5.cell hi (show 2 < 3 by omega)).1
    rw [hx2] at c0 c1 c2
    simp only [Nat.zero_add, Nat.add_zero] at c0 c1 c2
    exact ⟨c0, c1, c2⟩

theorem sortL_id {xs : List A3} (h : xs.Pairwise ltA) : sortL xs = xs := sorted_eq (sortL_perm xs) (sortL_sorted xs (sorted_nodup h)) h

def pg (n : Nat) : List Nat := n :: List.replicate 31 0
theorem twins_begun : twinsS [pg 1, pg 2, pg 1] = [[0, 2]] := by decide +kernel
theorem okP_pg (n : Nat) (h : n < 256) : okP (pg n) := by
  refine ⟨by simp [pg], fun x hx => ?_⟩
  rcases List.mem_cons.1 hx with rfl | hx
  · exact h
  · rw [List.eq_of_mem_replicate hx]; omega
theorem pages_three (W : World) (p q r : List Nat) (hp : p.length = 32) (hq : q.length = 32) (hr : r.length = 32) (t : TypeId) : PagesIs (W.alloc (.cells (cellsP p ++ cellsP q ++ cellsP r).toArray t)) (some ⟨W.heap.size, 0, none⟩) [p, q, r] := by
  have l1 : (cellsP p).length = 32 := by simp [cellsP, hp]
  have l2 : (cellsP q).length = 32 := by simp [cellsP, hq]
  have at_ : ∀ (x : List Nat) (hx : x.length = 32) (j : Nat), j < 32 → (cellsP x)[j]? = some (.int .u8 ((x.getD j 0 : Nat) : Int)) := fun x hx j hj => by
    simp [cellsP, List.getElem?_eq_getElem (show j < x.length by omega), List.getD_eq_getElem?_getD]
  intro i x hx
  match i, hx with
  | 0, hx =>
    simp at hx; subst hx
    refine ⟨hp, _, _, rfl, fun j hj => ?_⟩
    rw [World.cell?_alloc_at _ _ _ _ rfl, List.getElem?_toArray, List.append_assoc, List.getElem?_append_left (by omega), show 0 + 0 * 32 + j = j by omega]
    exact at_ _ hp j hj
  | 1, hx =>
    simp at hx; subst hx
    refine ⟨hq, _, _, rfl, fun j hj => ?_⟩
    rw [World.cell?_alloc_at _ _ _ _ rfl, List.getElem?_toArray, List.append_assoc, List.getElem?_append_right (by omega), List.getElem?_append_left (by omega), show 0 + 1 * 32 + j - (cellsP p).length = j by omega]
    exact at_ _ hq j hj
  | 2, hx =>
    simp at hx; subst hx
    refine ⟨hr, _, _, rfl, fun j hj => ?_⟩
    rw [World.cell?_alloc_at _ _ _ _ rfl, List.getElem?_toArray, List.getElem?_append_right (by simp; omega), show 0 + 2 * 32 + j - (cellsP p ++ cellsP q).length = j by simp; omega]
    exact at_ _ hr j hj

theorem ok123 : okA (1, 2, 3) := ⟨by unfold okI; decide, by unfold okI; decide, by unfold okI; decide⟩
theorem ok099 : okA (0, 9, 9) := ⟨by unfold okI; decide, by unfold okI; decide, by unfold okI; decide⟩

/-- A slice of one-cell things that has some. -/
theorem own_parts {w : World} {base : Nat} {e : TypeId} {v : Value} {n : Nat} {xs : List Value} (h : w.ownsRow base e 1 v n xs) (hn : 0 < n) :
    ∃ g cap, v = .slice (some ⟨g, 0, none⟩) n cap ∧ n ≤ cap ∧ base ≤ g ∧ g < w.heap.size ∧ ∀ i x, xs[i]? = some x → w.cell? ⟨g, i, none⟩ = some x := by
  rcases h.2 with ⟨_, hz⟩ | ⟨g, cap, cur, rfl, h1, h2, h3, h4, h5, h6⟩
  · omega
  · refine ⟨g, cap, rfl, h3, h1, (Array.getElem?_eq_some_iff.1 h2).1, fun i x hx => ?_⟩
    have hi : i < n := by have := (List.getElem?_eq_some_iff.1 hx).1; have := h.1; omega
    have := congrArg (fun L => L[i]?) h6
    simp only [Nat.mul_one] at this
    rw [List.getElem?_take_of_lt hi, hx] at this
    simp [World.cell?, h2, ← Array.getElem?_toList, this]

/-- What the guard reads. -/
def FB (w : World) (g5 g6 g7 c7 : Nat) : Prop :=
  w.cell? ⟨g5, 0, none⟩ = some (.int .i64 0) ∧ w.cell? ⟨g5, 1, none⟩ = some (.int .i64 9) ∧ w.cell? ⟨g5, 2, none⟩ = some (.int .i64 9) ∧
  w.cell? ⟨g6, 0, none⟩ = some (.slice (some ⟨g7, 0, none⟩) 2 c7) ∧ w.cell? ⟨g7, 1, none⟩ = some (.int .i64 2)
theorem FB.keep {w w' : World} {g5 g6 g7 c7 : Nat} (h : FB w g5 g6 g7 c7) (h5 : w'.heap[g5]? = w.heap[g5]?) (h6 : w'.heap[g6]? = w.heap[g6]?) (h7 : w'.heap[g7]? = w.heap[g7]?) : FB w' g5 g6 g7 c7 := by
  obtain ⟨a, b, c, d, e⟩ := h
  exact ⟨(World.cell?_of_block (a := ⟨g5, 0, none⟩) h5).trans a, (World.cell?_of_block (a := ⟨g5, 1, none⟩) h5).trans b, (World.cell?_of_block (a := ⟨g5, 2, none⟩) h5).trans c, (World.cell?_of_block (a := ⟨g6, 0, none⟩) h6).trans d, (World.cell?_of_block (a := ⟨g7, 1, none⟩) h7).trans e⟩
theorem FB.below {w w' : World} {g5 g6 g7 c7 : Nat} (h : FB w g5 g6 g7 c7) (hb : Below w.heap.size w w') : FB w' g5 g6 g7 c7 :=
  h.keep (hb.block _ (World.block_lt_of_cell? w _ h.1)) (hb.block _ (World.block_lt_of_cell? w _ h.2.2.2.1)) (hb.block _ (World.block_lt_of_cell? w _ h.2.2.2.2))
theorem FB.but {w w' : World} {g5 g6 g7 c7 g b : Nat} (h : FB w g5 g6 g7 c7) (hb : But2 g (some b) w w') (h5 : g5 ≠ g ∧ g5 ≠ b) (h6 : g6 ≠ g ∧ g6 ≠ b) (h7 : g7 ≠ g ∧ g7 ≠ b) : FB w' g5 g6 g7 c7 :=
  h.keep (hb.block _ (World.block_lt_of_cell? w _ h.1) h5.1 (by simpa using h5.2)) (hb.block _ (World.block_lt_of_cell? w _ h.2.2.2.1) h6.1 (by simpa using h6.2)) (hb.block _ (World.block_lt_of_cell? w _ h.2.2.2.2) h7.1 (by simpa using h7.2))

abbrev sx : Value := .string { data := #[120] }
abbrev sy : Value := .string { data := #[121] }
abbrev lB : List (A3 × Value) := [((0, 9, 9), sy), ((1, 2, 3), sx)]

set_option maxRecDepth 100000 in
set_option maxHeartbeats 4000000 in
theorem begun5_any (w : World) : Calls Tryz.prog 65 #[] w fun e w' => e = .returned (.bool true) ∧ Below w.heap.size w w' := by
  obtain ⟨g, hg⟩ : ∃ g, w.heap.size = g := ⟨_, rfl⟩
  have HN := Lib.hid (newS w)
  rw [hg] at HN
  rw [hg]
  go_enter Tryz.func65, Tryz.ntmps65
  go_wp2_with fail
  refine HN.out.mono ?_
  rintro e w1 ⟨rfl, hs, hb, _⟩
  have HS1 := Lib.hid hs
  have HB1 := Lib.hid hb
  clear hs hb HN hg
  go_wp2_with fail
  refine (setS_none g [] (1, 2, 3) sx w1 HS1.out ok123).mono ?_
  rintro e w2 ⟨rfl, b, hbw, hs, hb⟩
  have hgb : g ≤ b := Nat.le_trans (Nat.le_of_lt HS1.out.lt) hbw
  have HS2 := Lib.hid (show SpotIs w2 g (some b) [((1, 2, 3), sx)] from hs)
  have HB2 : Hid (Below g w w2) := Lib.hid (HB1.out.trans (hb.below (Nat.le_of_lt HS1.out.lt) (Nat.le_refl _) (fun _ h => by cases h)))
  clear hs hb hbw HS1 HB1
  go_wp2_with fail
  refine (setS_some g b [((1, 2, 3), sx)] (0, 9, 9) sy w2 HS2.out ok099).mono ?_
  rintro e w3 ⟨rfl, hs, hb⟩
  have HS3 := Lib.hid (show SpotIs w3 g (some b) lB from hs)
  have HB3 : Hid (Below g w w3) := Lib.hid (HB2.out.trans (hb.below (Nat.le_of_lt HS2.out.lt) (Nat.le_refl _) (fun _ h => by cases h; exact hgb)))
  clear hs hb HS2 HB2
  go_wp2_with fail
  refine (getS_any g (some b) lB (1, 2, 3) w3 HS3.out ok123).mono ?_
  rintro e w4 ⟨rfl, hb⟩
  rw [show getA lB (1, 2, 3) = some sx from rfl]
  simp only [Option.getD_some, Option.isSome_some]
  have HS4 := Lib.hid (HS3.out.below hb (Nat.le_refl _))
  have HB4 : Hid (Below g w w4) := Lib.hid (HB3.out.trans (hb.mono (Nat.le_of_lt HS3.out.lt)))
  clear hb HS3 HB3
  go_wp2_with fail
  refine (allS_any g (some b) lB w4 HS4.out (by decide)).mono ?_
  rintro e w5 ⟨v, rfl, hsl, hb⟩
  have hsort : sortL (lB.map (·.1)) = [(0, 9, 9), (1, 2, 3)] := sortL_id (by decide)
  rw [hsort] at hsl
  have HS5 := Lib.hid (HS4.out.below hb (Nat.le_refl _))
  have HB5 : Hid (Below g w w5) := Lib.hid (HB4.out.trans (hb.mono (Nat.le_of_lt HS4.out.lt)))
  obtain ⟨g5, c5, rfl, hc5, hbase5, hlt5, hcell5⟩ := hsl.parts (by simp)
  have hg5 : g5 ≠ g := by have := HS4.out.lt; omega
  have hb5 : g5 ≠ b := by have := HS4.out.mblt rfl; omega
  have HC5 := Lib.hid (hcell5 0 (0, 9, 9) rfl)
  clear hb hsl hcell5 HS4 HB4 hsort hbase5
  go_wp2_with fail
  refine (twins_any _ (some ⟨w5.heap.size, 0, none⟩) 3 [pg 1, pg 2, pg 1] (pages_three w5 (pg 1) (pg 2) (pg 1) rfl rfl rfl _) (by decide) (fun p hp => by
    simp only [List.mem_cons, List.not_mem_nil, or_false] at hp
    rcases hp with rfl | rfl | rfl <;> exact okP_pg _ (by omega))).mono ?_
  rintro e w6 ⟨v, rfl, hout, hb⟩
  rw [twins_begun] at hout
  obtain ⟨vs, hrow, hsub⟩ := hout
  obtain ⟨g6, c6, rfl, hc6, hbase6, hlt6, hcell6⟩ := own_parts hrow (by simp)
  obtain ⟨u, hu⟩ : ∃ u, vs[0]? = some u := by
    have := hrow.1
    simp at this
    exact ⟨_, List.getElem?_eq_getElem (by omega)⟩
  have hsub0 := hsub 0 u [0, 2] hu rfl
  obtain ⟨g7, c7, rfl, hc7, hbase7, hlt7, hcell7⟩ := own_parts hsub0 (by simp)
  have hb56 : Below w5.heap.size w5 w6 := ((Below.refl _ w5).alloc (Nat.le_refl _) _).trans (hb.mono (by simp))
  have HS6 := Lib.hid (HS5.out.below hb56 (Nat.le_refl _))
  have HB6 : Hid (Below g w w6) := Lib.hid (HB5.out.trans (hb56.mono (Nat.le_of_lt HS5.out.lt)))
  have hs5 : w5.heap.size ≤ g6 ∧ w5.heap.size ≤ g7 := by simp at hbase6 hbase7; omega
  have h56 := HS5.out.lt
  have h57 := HS5.out.mblt rfl
  have HF : Hid (FB w6 g5 g6 g7 c7) := Lib.hid ⟨(hb56.cell (p := ⟨g5, 0, none⟩) hlt5).trans HC5.out.1, (hb56.cell (p := ⟨g5, 1, none⟩) hlt5).trans HC5.out.2.1, (hb56.cell (p := ⟨g5, 2, none⟩) hlt5).trans HC5.out.2.2, hcell6 0 _ hu, hcell7 1 (.int .i64 2) rfl⟩
  have HNE : Hid ((g5 ≠ g ∧ g5 ≠ b) ∧ (g6 ≠ g ∧ g6 ≠ b) ∧ (g7 ≠ g ∧ g7 ≠ b)) := Lib.hid ⟨⟨hg5, hb5⟩, ⟨by omega, by omega⟩, ⟨by omega, by omega⟩⟩
  clear hb hsub0 hsub hrow hcell6 hcell7 hu hb56 HS5 HB5 hs5 h56 h57 hg5 hb5 HC5 hbase6 hbase7 hlt6 hlt7 hlt5
  obtain ⟨f0, f1, f2, f3, f4⟩ := HF.out
  go_wp2_with fail
  refine (lenS_any g (some b) lB w6 HS6.out).mono ?_
  rintro e w' ⟨rfl, rfl⟩
  go_wp2_with fail
  refine (blockS_any g (some b) lB 1 2 w6 HS6.out (by decide)).mono ?_
  rintro e w7 ⟨v, rfl, hsl, hb⟩
  have hsort : sortL (pick 1 2 lB) = [(1, 2, 3)] := sortL_id (by decide)
  rw [hsort] at hsl
  obtain ⟨g8, c8, rfl, hc8, _, _, _⟩ := hsl.parts (by simp)
  have HS7 := Lib.hid (HS6.out.below hb (Nat.le_refl _))
  have HB7 : Hid (Below g w w7) := Lib.hid (HB6.out.trans (hb.mono (Nat.le_of_lt HS6.out.lt)))
  have HF7 := Lib.hid (HF.out.below hb)
  clear hb hsl hsort HS6 HB6 HF f0 f1 f2 f3 f4
  obtain ⟨f0, f1, f2, f3, f4⟩ := HF7.out
  go_wp2_with fail
  refine (dropS_yes g b lB (0, 9, 9) sy w7 HS7.out ok099 rfl).mono ?_
  rintro e w8 ⟨rfl, hs, hb⟩
  have HS8 := Lib.hid (show SpotIs w8 g (some b) [((1, 2, 3), sx)] from hs)
  have HB8 : Hid (Below g w w8) := Lib.hid (HB7.out.trans (hb.below (Nat.le_of_lt HS7.out.lt) (Nat.le_refl _) (fun _ h => by cases h; exact hgb)))
  have HF8 := Lib.hid (HF7.out.but hb HNE.out.1 HNE.out.2.1 HNE.out.2.2)
  clear hs hb HS7 HB7 HF7 f0 f1 f2 f3 f4
  obtain ⟨f0, f1, f2, f3, f4⟩ := HF8.out
  go_wp2_with fail
  refine (dropS_no g (some b) [((1, 2, 3), sx)] (0, 9, 9) w8 HS8.out ok099 rfl).mono ?_
  rintro e w9 ⟨rfl, hb⟩
  have HB9 : Hid (Below g w w9) := Lib.hid (HB8.out.trans (hb.mono (Nat.le_of_lt HS8.out.lt)))
  have HF9 := Lib.hid (HF8.out.below hb)
  clear hb HS8 HB8 HF8 f0 f1 f2 f3 f4
  obtain ⟨f0, f1, f2, f3, f4⟩ := HF9.out
  go_wp2_with fail
  go_ret
  exact ⟨rfl, HB9.out⟩
end Go.Proofs.YtfploeefmnbpcaaGreat
