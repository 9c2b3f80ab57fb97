import Derived.Test.YtfploeefmnbpcaaGreatG20
/- A flash: the head of a page. -/
namespace Go.Proofs.YtfploeefmnbpcaaGreat
open Go.RowKit Mp Go.ChangeMaps

theorem size_P : ∀ W : World, (sizeOf 34).run Tryz.prog W = .ok 32 W := fun W => by kernel_rfl
theorem agg_P : ∀ W : World, (isAgg 34).run Tryz.prog W = .ok true W := fun W => by kernel_rfl
theorem zero_P : ∀ W : World, (zeroValue 34).run Tryz.prog W = .ok (.agg (cellsP z32).toArray) W := fun W => by kernel_rfl
theorem cellsP_len {p : List Nat} (h : p.length = 32) : (cellsP p).length = 32 := by simp [cellsP, h]
theorem cellsP_flat (p : List Nat) : ∀ v ∈ cellsP p, v.oneCell' = true := by
  intro v hv
  simp only [cellsP, List.mem_map] at hv
  obtain ⟨n, _, rfl⟩ := hv
  rfl
theorem cellsP_set (p : List Nat) (i n : Nat) : (cellsP p).set i (.int .u8 (n : Int)) = cellsP (p.set i n) := by simp [cellsP, List.map_set]
/-- The first s bytes of p; 255 behind them, below i; then p. -/
def headL (p : List Nat) (s : Nat) : List Nat := p.take s ++ List.replicate (32 - s) 255
structure HeadR (p : List Nat) (s i : Nat) (q : List Nat) : Prop where
  len : q.length = 32
  at' : ∀ j, j < 32 → q.getD j 0 = if s ≤ j ∧ j < i then 255 else p.getD j 0
theorem HeadR.start {p : List Nat} (h : p.length = 32) (s : Nat) : HeadR p s s p := ⟨h, fun j _ => by rw [if_neg (by omega)]⟩
theorem HeadR.step {p q : List Nat} {s i : Nat} (h : HeadR p s i q) (hs : s ≤ i) (hi : i < 32) : HeadR p s (i + 1) (q.set i 255) := by
  refine ⟨by rw [List.length_set]; exact h.len, fun j hj => ?_⟩
  have hl := h.len
  by_cases e : j = i
  · subst e
    rw [if_pos (by omega)]
    simp [List.getD_eq_getElem?_getD, hl, hj]
  · have := h.at' j hj
    rw [List.getD_eq_getElem?_getD, List.getElem?_set_ne (fun e2 => e e2.symm), ← List.getD_eq_getElem?_getD, this]
    by_cases c : s ≤ j ∧ j < i
    · rw [if_pos c, if_pos (by omega)]
    · rw [if_neg c, if_neg (by omega)]
theorem HeadR.done {p q : List Nat} {s i : Nat} (h : HeadR p s i q) (hp : p.length = 32) (hi : 32 ≤ i) : q = headL p (min s 32) := by
  apply List.ext_getElem?
  intro j
  by_cases hj : j < 32
  · have h1 := h.at' j hj
    have hl := h.len
    have hr : (headL p (min s 32)).length = 32 := by simp [headL, hp]; omega
    rw [List.getD_eq_getElem?_getD, List.getElem?_eq_getElem (by omega)] at h1
    rw [List.getElem?_eq_getElem (by omega), List.getElem?_eq_getElem (by omega)]
    simp only [Option.getD_some] at h1
    rw [h1]
    congr 1
    unfold headL
    by_cases c : s ≤ j
    · rw [if_pos (by omega), List.getElem_append_right (by simp [hp]; omega)]
      simp
    · rw [if_neg (by omega), List.getElem_append_left (by simp [hp]; omega)]
      simp [List.getD_eq_getElem?_getD, hp, hj]
  · have hr : (headL p (min s 32)).length = 32 := by simp [headL, hp]; omega
    rw [List.getElem?_eq_none (by have := h.len; omega), List.getElem?_eq_none (by omega)]
theorem okP_headL {p : List Nat} (h : okP p) (s : Nat) (hs : s ≤ 32) : okP (headL p s) := by
  obtain ⟨h1, h2⟩ := h
  refine ⟨by simp [headL, h1]; omega, fun x hx => ?_⟩
  rcases List.mem_append.1 hx with hx | hx
  · exact h2 x (List.mem_of_mem_take hx)
  · rw [List.mem_replicate] at hx; omega

set_option maxRecDepth 100000
set_option maxHeartbeats 2000000
theorem head_any (p : List Nat) (hp : okP p) (k : Int) (w : World) :
    Calls Tryz.prog 50 #[encP p, .int .i64 k] w fun e w' => e = .returned (encP (headL p (max 0 (min k 32)).toNat)) ∧ Below w.heap.size w w' := by
  obtain ⟨B, hB⟩ : ∃ B, w.heap.size = B := ⟨_, rfl⟩
  have HBE := Lib.hid hB
  obtain ⟨s, hs⟩ : ∃ s : Nat, (max k 0) = (s : Int) := ⟨(max k 0).toNat, by omega⟩
  have HS := Lib.hid hs
  have HP := Lib.hid hp
  have hres : (max 0 (min k 32)).toNat = min s 32 := by omega
  rw [hres]
  clear hs hp hres
  go_enter Tryz.func50, Tryz.ntmps50
  go_upto_region 1 with (first | (refine wpList_value rfl (exec_alloc rfl zero_P _) ?_) | (refine wpList_value rfl (exec_box (cs := cellsP p) rfl rfl _) ?_))
  refine gen_world (p := fun W => Row W B 34 (cellsP p) ∧ Row W (B + 1) 34 (cellsP z32) ∧ Below B w W ∧ W.heap.size = B + 2) (by rw [← hB]; exact new_two w _ _ (cellsP p) (cellsP z32)) ?_
  intro W NEW
  obtain ⟨RA, RZ, HW, hsz⟩ := NEW
  rw [hB]
  have RA := Lib.hid RA
  have RZ := Lib.hid RZ
  have HW := Lib.hid HW
  clear hsz hB
  go_simp
  rw [HBE.out]
  go_cut [5] (fun v x => v = .int .i64 (s : Int) ∧ W = x)
  case first =>
    rcases (show k < 0 ∨ k = 0 ∨ 0 < k by omega) with h | h | h
    · obtain rfl : s = 0 := by have := HS.out; omega
      go_wp2_with fail
      go_meet
      case rel => exact ⟨rfl, rfl⟩
    · obtain rfl : s = 0 := by have := HS.out; omega
      subst h
      go_wp2_with fail
      go_meet
      case rel => exact ⟨rfl, rfl⟩
    · obtain rfl : k = s := by have := HS.out; omega
      go_wp2_with fail
      go_meet
      case rel => exact ⟨rfl, rfl⟩
  case rest =>
    obtain ⟨rfl, rfl⟩ := hcut
    go_wp2_with fail
    go_loopw [5] (fun v x => ∃ (i : Nat) (q : List Nat), s ≤ i ∧ i ≤ max s 32 ∧ v = .int .i64 (i : Int) ∧ Hid (HeadR p s i q) ∧ Hid (Row x B 34 (cellsP q)) ∧ Hid (Row x (B + 1) 34 (cellsP z32)) ∧ Hid (Below B w x)) (fun v _ => (32 - intOf v).toNat)
    case atStart => exact ⟨s, p, Nat.le_refl _, by omega, rfl, HeadR.start HP.out.1 s, RA, RZ, HW⟩
    case round =>
      clear RA RZ HW
      obtain ⟨i, q, hi1, hi2, rfl, HR, RA, RZ, HW⟩ := hrel
      by_cases hlt : i < 32
      · have hq := HR.out.len
        obtain ⟨u, hu⟩ : ∃ u, q[i]? = some u := ⟨_, List.getElem?_eq_getElem (by omega)⟩
        have hcell := RA.out.cell (j := i) (v := .int .u8 (u : Int)) (by rw [cellsP, List.getElem?_map, hu]; rfl)
        have hfree := RA.out.free i
        have RA2 := Lib.hid (RA.out.setCell (j := i) (.int .u8 ((255 : Nat) : Int)))
        rw [cellsP_set] at RA2
        have RZ2 := Lib.hid (RZ.out.of_block (w' := wr.setCell ⟨B, i, none⟩ (.int .u8 ((255 : Nat) : Int))) (Below.heap_setCell _ _ _ _ (show B + 1 ≠ B by omega)))
        have HW2 := Lib.hid (HW.out.trans (c := wr.setCell ⟨B, i, none⟩ (.int .u8 ((255 : Nat) : Int))) ⟨rfl, rfl, rfl, by simp, fun k hk => Below.heap_setCell _ _ _ _ (show k ≠ B by omega)⟩)
        have HR2 := Lib.hid (HR.out.step hi1 hlt)
        clear hq hu
        go_wp2_with fail
        go_round
        case rel => exact ⟨i + 1, _, by omega, by omega, by go_num, HR2, RA2, RZ2, HW2⟩
        case measure => simp [intOf]; omega
      · have hfin := HR.out.done HP.out.1 (by omega)
        subst hfin
        have HL1 := Lib.hid (cellsP_len (HR.out.len))
        have HL2 := Lib.hid (cellsP_flat (headL p (min s 32)))
        go_wp2_with (first | (refine wpList_value rfl (exec_load rfl rfl (run_loadRow agg_P size_P HL1.out RA.out)) ?_) | (refine wpList_skip rfl (exec_store rfl rfl rfl (run_storeRow size_P RZ.out rfl HL1.out HL2.out)) ?_))
        refine bodyPost_ret (results_cell1 (Tryz.results50) rfl (run_loadVarRow agg_P size_P HL1.out (RZ.out.set (cellsP (headL p (min s 32)))))) rfl ⟨rfl, ?_⟩
        rw [HBE.out]
        exact below_setRow HW.out (by omega) _
end Go.Proofs.YtfploeefmnbpcaaGreat

/- A flash is made. -/
namespace Go.Proofs.YtfploeefmnbpcaaGreat
open Go.RowKit Mp Go.ChangeMaps

def lowN (d b p : Int) : List Value := [.int .i64 d, .int .i64 b, .int .i64 p, .bool true, .bool false, .int .i64 0, .int .i64 0, .int .i64 0, .int .i64 0, .bool false, .bool false, .bool false, .bool false, .bool false, .bool false]
def blkN : List Value := (List.replicate 96 zBl).flatten
def cellsN (d b p : Int) : List Value := lowN d b p ++ (blkN ++ [.map none, .map none])
theorem blkN_len : blkN.length = 384 := by decide +kernel
theorem cellsN_len (d b p : Int) : (cellsN d b p).length = 401 := by simp [cellsN, lowN, blkN_len]
theorem flat_get : ∀ (n q r : Nat), q < n → r < 4 → ((List.replicate n zBl).flatten)[q * 4 + r]? = zBl[r]?
  | 0, q, r, h, _ => by omega
  | n + 1, q, r, h, hr => by
    rw [List.replicate_succ, List.flatten_cons]
    cases q with
    | zero => rw [List.getElem?_append_left (by simp [zBl]; omega)]; simp
    | succ q =>
      rw [List.getElem?_append_right (by simp [zBl]; omega)]
      have := flat_get n q r (by omega) hr
      rw [← this]; congr 1; simp [zBl]; omega
theorem cellsN_blk (d b p : Int) (x y r : Nat) (hx : x < 6) (hy : y < 16) (hr : r < 4) : (cellsN d b p)[15 + x * 64 + y * 4 + r]? = zBl[r]? := by
  unfold cellsN
  rw [List.getElem?_append_right (by simp [lowN]; omega), List.getElem?_append_left (by simp [lowN, blkN_len]; omega)]
  have := flat_get 96 (x * 16 + y) r (by omega) hr
  rw [← this]; unfold blkN; congr 1; simp [lowN]; omega
theorem cellsN_low (d b p : Int) (i : Nat) (hi : i < 15) : (cellsN d b p)[i]? = (lowN d b p)[i]? := by
  unfold cellsN; rw [List.getElem?_append_left (by simp [lowN]; omega)]
theorem cellsN_map (d b p : Int) (i : Nat) (hi : i = 399 ∨ i = 400) : (cellsN d b p)[i]? = some (.map none) := by
  unfold cellsN
  rw [List.getElem?_append_right (by simp [lowN]; omega), List.getElem?_append_right (by simp [lowN, blkN_len]; omega)]
  rcases hi with rfl | rfl <;> simp [lowN, blkN_len]

theorem new_is {w : World} {g : Nat} {t : TypeId} {d b p : Nat} (hm : mayB d b p = true) (h : Row w g t (cellsN d b p)) : IsL w g (FlM.start d b p) (ff g none none) := by
  have hget : ∀ i, i < 401 → (cellsN d b p)[i]? = some ((cellsN d b p).getD i undef) := fun i hi => by
    have hl := cellsN_len d b p
    rw [List.getD_eq_getElem?_getD, List.getElem?_eq_getElem (by omega)]; rfl
  have hv : ∀ i v, i < 401 → (cellsN d b p)[i]? = some v → (cellsN d b p).getD i undef = v := fun i v hi he => by
    rw [List.getD_eq_getElem?_getD, he]; rfl
  have hlow : ∀ i v, i < 15 → (lowN d b p)[i]? = some v → (cellsN d b p).getD i undef = v := fun i v hi he => hv i v (by omega) ((cellsN_low d b p i hi).trans he)
  refine ⟨fun i => (cellsN d b p).getD i undef, [], [], none, none, ⟨fun i hi => h.cell (hget i (by omega)), fun i _ => h.free i, ?_, ?_, fun b e => (by cases e)⟩, ?_, ?_, ?_, rfl⟩
  · exact ⟨h.cell (cellsN_map d b p 399 (.inl rfl)), h.free _, fun _ => rfl, fun b e => (by cases e)⟩
  · exact ⟨h.cell (cellsN_map d b p 400 (.inr rfl)), h.free _, fun _ => rfl, fun b e => (by cases e)⟩
  · refine ⟨hlow 0 _ (by omega) rfl, hlow 1 _ (by omega) rfl, hlow 2 _ (by omega) rfl, hm, hlow 3 _ (by omega) rfl, ⟨false, 0, 0, hlow 4 _ (by omega) rfl, hlow 5 _ (by omega) rfl, hlow 6 _ (by omega) rfl, fun _ => rfl⟩, hlow 7 _ (by omega) rfl, hlow 8 _ (by omega) rfl, ?_, ?_, ?_, ?_, ?_, ?_⟩
    · intro x hx
      refine hlow (9 + x) (.bool false) (by omega) ?_
      match x, hx with
      | 0, _ => rfl
      | 1, _ => rfl
      | 2, _ => rfl
      | 3, _ => rfl
      | 4, _ => rfl
      | 5, _ => rfl
    · intro x y hx hy; exact hv _ (.int .i64 0) (by omega) (cellsN_blk d b p x y 0 hx hy (by omega))
    · intro x y hx hy; exact hv _ (.int .i64 0) (by omega) (cellsN_blk d b p x y 1 hx hy (by omega))
    · intro x y hx hy; exact hv _ (.bool false) (by omega) (cellsN_blk d b p x y 2 hx hy (by omega))
    · intro x y hx hy; exact hv _ (.bool false) (by omega) (cellsN_blk d b p x y 3 hx hy (by omega))
    · intro x y _ _; exact Nat.zero_le _
  · exact ⟨fun p hp => (by cases hp), fun x y z _ _ hz => absurd hz (by simp [FlM.start]), fun x y z _ _ _ _ => rfl⟩
  · exact ⟨fun p hp => (by cases hp), fun x y z _ _ _ _ => rfl⟩

theorem build_nand (d b p : Int) : ∀ W : World, (Instr.build 77 #[(0, geoV d b p), (1, .bool true)]).run Tryz.prog W = .ok (.agg (cellsN d b p).toArray) W := fun W => by kernel_rfl

set_option maxRecDepth 100000
set_option maxHeartbeats 2000000
theorem exec_build {ρ : Operand → Value} {o : Oper} {t : TypeId} {parts : Array (Nat × Operand)} {vs : Array (Nat × Value)} {v : Value} (hop : o.op = .build t parts) (hv : (parts.map fun (i, x) => (i, ρ x)) = vs) {w : World} (h : (Instr.build t vs).run Tryz.prog w = .ok v w) : (execOp ρ o).run Tryz.prog w = .ok (.value v) w := by
  subst hv
  simp [execOp, hop, h, Result.andThen]
theorem new_no (d b p : Int) (w : World) (hm : mayB d b p = false) : Calls Tryz.prog 16 #[geoV d b p] w fun e w' => e = .returned (.pointer none) ∧ Below w.heap.size w w' := by
  have HG := Lib.hid (fun w => by have := gmay_any d b p w; rw [hm] at this; exact this)
  clear hm
  go_enter Tryz.func16, Tryz.ntmps16
  go_wp2_with (go_at_call 43; (with_reducible refine (HG.out _).mono ?_); rintro e x2 ⟨rfl, hbx⟩)
  go_ret
  exact ⟨rfl, ((Below.refl _ _).alloc (Nat.le_refl _) _).trans (hbx.mono (by simp))⟩
theorem new_yes (d b p : Nat) (w : World) (hm : mayB d b p = true) : Calls Tryz.prog 16 #[geoV d b p] w fun e w' => ∃ g F, e = .returned (nptr g) ∧ IsL w' g (FlM.start d b p) F ∧ (∀ k, F k → w.heap.size ≤ k) ∧ Below w.heap.size w w' := by
  have HG := Lib.hid (fun w => by have := gmay_any d b p w; rw [hm] at this; exact this)
  have HM := Lib.hid hm
  have NEW := Lib.hid (new_one w 25 [.int .i64 d, .int .i64 b, .int .i64 p])
  have isG : ∀ W : World, (isAgg 25).run Tryz.prog W = .ok true W := fun W => by kernel_rfl
  have szG : ∀ W : World, (sizeOf 25).run Tryz.prog W = .ok 3 W := fun W => by kernel_rfl
  have ISG := Lib.hid isG
  have SZG := Lib.hid szG
  clear hm isG szG
  go_enter Tryz.func16, Tryz.ntmps16
  go_upto_region 3 with (go_at_call 43; (with_reducible refine (HG.out _).mono ?_); rintro e x2 ⟨rfl, hbx⟩; have RA := Lib.hid (NEW.out.1.below hbx (Nat.le_refl _)); have HB := Lib.hid (NEW.out.2.1.trans (hbx.mono NEW.out.2.1.size)); clear hbx)
  have HBN := Lib.hid (build_nand d b p)
  go_wp2_with (first | (refine wpList_value (v := geoV d b p) rfl (exec_load rfl rfl (run_loadRow ISG.out SZG.out rfl RA.out)) ?_) | (refine wpList_value rfl (exec_build rfl rfl (HBN.out _)) ?_) | (refine wpList_value rfl (exec_box (cs := cellsN d b p) rfl rfl _) ?_))
  go_ret
  have N2 := new_one x2 77 (cellsN d b p)
  refine ⟨x2.heap.size, _, rfl, new_is HM.out N2.1, fun k hk => ?_, HB.out.trans (N2.2.1.mono HB.out.size)⟩
  rcases hk with rfl | hk | hk
  · exact HB.out.size
  · cases hk
  · cases hk
end Go.Proofs.YtfploeefmnbpcaaGreat
