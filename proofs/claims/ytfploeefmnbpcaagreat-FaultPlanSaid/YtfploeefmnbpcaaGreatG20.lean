import Derived.Test.YtfploeefmnbpcaaGreatG19
/- A flash: what a block has; Next, Worn, Dead. -/
namespace Go.Proofs.YtfploeefmnbpcaaGreat
open Go.RowKit Mp Go.ChangeMaps

section
variable {F0 : Nat → Prop} {w0 w : World} {g : Nat} {M : FlM} {lp lf : List (A3 × Value)} {L : List Nat}
set_option maxRecDepth 100000
set_option maxHeartbeats 1000000
theorem in_nat {d b p : Nat} {x y z : Int} (h : inGB d b p x y z = true) : ∃ X Y Z : Nat, x = X ∧ y = Y ∧ z = Z ∧ X < d ∧ Y < b ∧ Z < p := by
  simp only [inGB, decide_eq_true_eq] at h
  exact ⟨x.toNat, y.toNat, z.toNat, by omega, by omega, by omega, by omega, by omega, by omega⟩
def zBl : List Value := [.int .i64 0, .int .i64 0, .bool false, .bool false]
theorem size_Bl : ∀ W : World, (sizeOf 67).run Tryz.prog W = .ok 4 W := fun W => by kernel_rfl
theorem agg_Bl : ∀ W : World, (isAgg 67).run Tryz.prog W = .ok true W := fun W => by kernel_rfl
theorem block_no (h : FlX F0 w0 w g M lp lf L) (x y : Int) (hi : inGB M.d M.b M.p x y 0 = false) : Calls Tryz.prog 51 #[nptr g, .int .i64 x, .int .i64 y] w fun e w' => e = .returned (.agg zBl.toArray) ∧ Below w.heap.size w w' := by
  have g0 := h.g0
  have g1 := h.g1
  have g2 := h.g2
  have hlt := h.size
  obtain ⟨d, hd⟩ : ∃ d, M.d = d := ⟨_, rfl⟩
  obtain ⟨b, hb⟩ : ∃ b, M.b = b := ⟨_, rfl⟩
  obtain ⟨p, hpp⟩ : ∃ p, M.p = p := ⟨_, rfl⟩
  rw [hd] at g0 hi
  rw [hb] at g1 hi
  rw [hpp] at g2 hi
  have HG := Lib.hid (fun w => by have := gin_any d b p x y 0 w; rw [hi] at this; exact this)
  clear h hi hd hb hpp
  have NEW := Lib.hid (new_one w 67 zBl)
  go_enter Tryz.func51, Tryz.ntmps51
  go_wp2_with (first | (go_at_call 53; (with_reducible refine (HG.out _).mono ?_); rintro e x2 ⟨rfl, hbx⟩; have RZ := Lib.hid (NEW.out.1.below hbx (Nat.le_refl _)); have HB := Lib.hid (NEW.out.2.1.trans (hbx.mono NEW.out.2.1.size)); clear hbx) | (refine wpList_skip rfl (exec_store rfl rfl rfl (run_storeRow (ds := zBl) size_Bl RZ.out rfl rfl (by decide))) ?_))
  exact bodyPost_ret (results_cell1 (Tryz.results51) rfl (run_loadVarRow agg_Bl size_Bl rfl (RZ.out.set zBl))) rfl ⟨rfl, below_setRow HB.out (Nat.le_refl _) _⟩
def vBl (B : BlkM) : List Value := [.int .i64 B.next, .int .i64 B.worn, .bool B.told, .bool B.met]
theorem block_in (h : FlX F0 w0 w g M lp lf L) (x y : Nat) (hi : inGB M.d M.b M.p x y 0 = true) : Calls Tryz.prog 51 #[nptr g, .int .i64 x, .int .i64 y] w fun e w' => e = .returned (.agg (vBl (M.blk x y)).toArray) ∧ Below w.heap.size w w' := by
  have g0 := h.g0
  have g1 := h.g1
  have g2 := h.g2
  have hlt := h.size
  have hl := h.lim
  have hx6 : x < 6 := by simp only [inGB, decide_eq_true_eq] at hi; omega
  have hy16 : y < 16 := by simp only [inGB, decide_eq_true_eq] at hi; omega
  have b0 := h.next hx6 hy16
  have b1 := h.worn hx6 hy16
  have b2 := h.told hx6 hy16
  have b3 := h.met hx6 hy16
  have HV : Hid (∀ j v, (vBl (M.blk x y))[j]? = some v → w.cell? ⟨g, 15 + x * 64 + y * 4 + j, none⟩ = some v) := by
    intro j v hj
    match j, hj with
    | 0, hj => cases hj; exact b0
    | 1, hj => cases hj; exact b1
    | 2, hj => cases hj; exact b2
    | 3, hj => cases hj; exact b3
    | n + 4, hj => simp [vBl] at hj
  have HF : Hid (∀ v ∈ vBl (M.blk x y), v.oneCell' = true) := by
    intro v hv
    simp only [vBl, List.mem_cons, List.not_mem_nil, or_false] at hv
    rcases hv with rfl | rfl | rfl | rfl <;> rfl
  have HN : Hid ((vBl (M.blk x y)).length = 4) := rfl
  generalize vBl (M.blk x y) = cs at HV HF HN ⊢
  obtain ⟨d, hd⟩ : ∃ d, M.d = d := ⟨_, rfl⟩
  obtain ⟨b, hb⟩ : ∃ b, M.b = b := ⟨_, rfl⟩
  obtain ⟨p, hpp⟩ : ∃ p, M.p = p := ⟨_, rfl⟩
  rw [hd] at g0 hi
  rw [hb] at g1 hi
  rw [hpp] at g2 hi
  have HG := Lib.hid (fun w => by have := gin_any d b p x y 0 w; rw [hi] at this; exact this)
  clear h hi hd hb hpp hl b0 b1 b2 b3
  have NEW := Lib.hid (new_one w 67 zBl)
  go_enter Tryz.func51, Tryz.ntmps51
  go_wp2_with (first | (go_at_call 53; (with_reducible refine (HG.out _).mono ?_); rintro e x2 ⟨rfl, hbx⟩; have RZ := Lib.hid (NEW.out.1.below hbx (Nat.le_refl _)); have HB := Lib.hid (NEW.out.2.1.trans (hbx.mono NEW.out.2.1.size)); clear hbx) | (refine wpList_value rfl (exec_load rfl rfl (run_loadAgg (b := g) (o := 15 + x * 64 + y * 4) agg_Bl size_Bl HN.out (fun j v hj => (HB.out.cell (p := ⟨g, 15 + x * 64 + y * 4 + j, none⟩) hlt).trans (HV.out j v hj)))) ?_) | (refine wpList_skip rfl (exec_store rfl rfl rfl (run_storeRow (ds := cs) size_Bl RZ.out rfl HN.out HF.out)) ?_))
  exact bodyPost_ret (results_cell1 (Tryz.results51) rfl (run_loadVarRow agg_Bl size_Bl HN.out (RZ.out.set cs))) rfl ⟨rfl, below_setRow HB.out (Nat.le_refl _) _⟩
theorem fieldBl0 (a b : Int) (s t : Bool) : ∀ W : World, (Instr.field 67 (.agg #[.int .i64 a, .int .i64 b, .bool s, .bool t]) 0).run Tryz.prog W = .ok (.int .i64 a) W := fun W => by kernel_rfl
theorem fieldBl1 (a b : Int) (s t : Bool) : ∀ W : World, (Instr.field 67 (.agg #[.int .i64 a, .int .i64 b, .bool s, .bool t]) 1).run Tryz.prog W = .ok (.int .i64 b) W := fun W => by kernel_rfl
theorem next_worn (h : FlX F0 w0 w g M lp lf L) (x y : Int) : ∃ s t, Calls Tryz.prog 51 #[nptr g, .int .i64 x, .int .i64 y] w fun e w' => e = .returned (.agg #[.int .i64 (M.nextOf x y), .int .i64 (M.wornOf x y), .bool s, .bool t]) ∧ Below w.heap.size w w' := by
  cases hi : inGB M.d M.b M.p x y 0 with
  | false =>
    have e1 : M.nextOf x y = 0 := by unfold FlM.nextOf; rw [hi]; rfl
    have e2 : M.wornOf x y = 0 := by unfold FlM.wornOf; rw [hi]; rfl
    rw [e1, e2]
    exact ⟨false, false, block_no h x y hi⟩
  | true =>
    obtain ⟨X, Y, _, rfl, rfl, -, _⟩ := in_nat hi
    have e1 : M.nextOf X Y = (M.blk X Y).next := by unfold FlM.nextOf; rw [hi]; rfl
    have e2 : M.wornOf X Y = (M.blk X Y).worn := by unfold FlM.wornOf; rw [hi]; rfl
    rw [e1, e2]
    exact ⟨_, _, block_in h X Y hi⟩
theorem next_any (h : FlX F0 w0 w g M lp lf L) (x y : Int) : Calls Tryz.prog 20 #[nptr g, .int .i64 x, .int .i64 y] w fun e w' => e = .returned (.int .i64 (M.nextOf x y)) ∧ Below w.heap.size w w' := by
  obtain ⟨s, t, hb⟩ := next_worn h x y
  have HB := Lib.hid hb
  clear h hb
  generalize M.nextOf x y = n, M.wornOf x y = k at HB ⊢
  have hf := fieldBl0 n k s t
  go_enter Tryz.func20, Tryz.ntmps20
  go_wp2_with (go_at_call 51; (with_reducible refine HB.out.mono ?_); rintro e x2 ⟨rfl, hbx⟩)
  go_ret
  exact ⟨rfl, hbx⟩
theorem worn_any (h : FlX F0 w0 w g M lp lf L) (x y : Int) : Calls Tryz.prog 36 #[nptr g, .int .i64 x, .int .i64 y] w fun e w' => e = .returned (.int .i64 (M.wornOf x y)) ∧ Below w.heap.size w w' := by
  obtain ⟨s, t, hb⟩ := next_worn h x y
  have HB := Lib.hid hb
  clear h hb
  generalize M.nextOf x y = n, M.wornOf x y = k at HB ⊢
  have hf := fieldBl1 n k s t
  go_enter Tryz.func36, Tryz.ntmps36
  go_wp2_with (go_at_call 51; (with_reducible refine HB.out.mono ?_); rintro e x2 ⟨rfl, hbx⟩)
  go_ret
  exact ⟨rfl, hbx⟩
theorem dead_any (h : FlX F0 w0 w g M lp lf L) (x : Nat) (hx : x < M.d) : Calls Tryz.prog 26 #[nptr g, .int .i64 x] w fun e w' => e = .returned (.bool (M.dead x)) ∧ Below w.heap.size w w' := by
  have g0 := h.g0
  have g1 := h.g1
  have g2 := h.g2
  have hlt := h.size
  have hl := h.lim
  have h9 := h.dead (x := x) (by omega)
  have hi : inGB M.d M.b M.p x 0 0 = true := by simp only [inGB, decide_eq_true_eq]; omega
  obtain ⟨d, hd⟩ : ∃ d, M.d = d := ⟨_, rfl⟩
  obtain ⟨b, hb⟩ : ∃ b, M.b = b := ⟨_, rfl⟩
  obtain ⟨p, hpp⟩ : ∃ p, M.p = p := ⟨_, rfl⟩
  have hx6 : x < 6 := by omega
  rw [hd] at g0 hi
  rw [hb] at g1 hi
  rw [hpp] at g2 hi
  have HG := Lib.hid (fun w => by have := gin_any d b p x 0 0 w; rw [hi] at this; exact this)
  generalize M.dead x = t at h9 ⊢
  clear h hi hd hb hpp hl hx
  go_enter Tryz.func26, Tryz.ntmps26
  go_wp2_with (go_at_call 53; (with_reducible refine (HG.out _).mono ?_); rintro e x2 ⟨rfl, hbx⟩; have h9 := (hbx.cell (p := ⟨g, 9 + x, none⟩) hlt).trans h9)
  go_ret
  exact ⟨rfl, hbx⟩
end
end Go.Proofs.YtfploeefmnbpcaaGreat

/- A flash: a page is lost; the head of a page. -/
namespace Go.Proofs.YtfploeefmnbpcaaGreat
open Go.RowKit Mp Go.ChangeMaps

def z32 : List Nat := List.replicate 32 0
theorem zPg_eq : Value.agg zPg.toArray = pgV z32 false false := rfl
theorem build_lost (m : Bool) : ∀ W : World, (Instr.build 83 #[(1, .bool true), (2, .bool m)]).run Tryz.prog W = .ok (pgV z32 true m) W := fun W => by kernel_rfl
theorem cellsPg_len {bs : List Nat} {l m : Bool} (h : bs.length = 32) : (cellsPg bs l m).length = 34 := by simp [cellsPg, cellsP, h]
theorem cellsPg_flat (bs : List Nat) (l m : Bool) : ∀ v ∈ cellsPg bs l m, v.oneCell' = true := by
  intro v hv
  simp only [cellsPg, cellsP, List.mem_append, List.mem_map, List.mem_cons, List.not_mem_nil, or_false] at hv
  rcases hv with ⟨n, _, rfl⟩ | rfl | rfl <;> rfl
theorem okV_pgV {bs : List Nat} (l m : Bool) (h : bs.length = 32) : okV 34 (pgV bs l m) := ⟨_, rfl, cellsPg_len h, cellsPg_flat bs l m⟩
theorem cellsPg_lost {bs : List Nat} {l m : Bool} (h : bs.length = 32) : (cellsPg bs l m)[32]? = some (.bool l) := by
  rw [cellsPg, List.getElem?_append_right (by simp [cellsP, h])]; simp [cellsP, h]
theorem cellsPg_marred {bs : List Nat} {l m : Bool} (h : bs.length = 32) : (cellsPg bs l m)[33]? = some (.bool m) := by
  rw [cellsPg, List.getElem?_append_right (by simp [cellsP, h])]; simp [cellsP, h]

section
variable {F0 : Nat → Prop} {w0 w : World} {g : Nat} {M : FlM} {lp lf : List (A3 × Value)} {L : List Nat}
set_option maxRecDepth 100000
set_option maxHeartbeats 2000000
theorem lose_any (h : FlX F0 w0 w g M lp lf L) (a : A3) (ha : okA a) (hv : ∀ p ∈ lp, okV 34 p.2) (bs : List Nat) (l m : Bool) (hr : (getA lp a).getD (.agg zPg.toArray) = pgV bs l m) (hbs : bs.length = 32) :
    Calls Tryz.prog 46 #[nptr g, encA a] w fun e w' => e = .returned (.tuple #[]) ∧ FlX F0 w0 w' g M ((a, pgV z32 true m) :: delA lp a) lf L ∧ Same L w w' := by
  have HG := Lib.hid (fun (W : World) (hX : FlX F0 w0 W g M lp lf L) => by have := hX.getP a ha hv; rw [hr] at this; exact this)
  have HST := Lib.hid (fun (W : World) (L : List Nat) (hX : FlX F0 w0 W g M lp lf L) => hX.setP a ha (pgV z32 true m) (okV_pgV true m rfl))
  have HX := Lib.hid h
  have HL := Lib.hid (cellsPg_len (l := l) (m := m) hbs)
  have HF := Lib.hid (cellsPg_flat bs l m)
  have HM := Lib.hid (cellsPg_marred (l := l) (m := m) hbs)
  have hlt := h.size
  have hbl := build_lost m
  generalize (getA lp a).isSome = s at HG
  obtain ⟨cs, hcs⟩ : ∃ cs, cellsPg bs l m = cs := ⟨_, rfl⟩
  unfold pgV at HG
  rw [hcs] at HG HL HF HM
  clear h hv hr hbs hcs
  go_enter Tryz.func46, Tryz.ntmps46
  go_upto_region 1 with (refine wpList_value rfl (exec_box (cs := cellsA a) rfl rfl _) ?_)
  obtain ⟨B, hB⟩ : ∃ B, w.heap.size = B := ⟨_, rfl⟩
  refine gen_world (p := fun W => Row W B 32 (cellsA a) ∧ Below B w W ∧ W.heap.size = B + 1) (by rw [← hB]; exact new_one w _ (cellsA a)) ?_
  intro W NEW
  obtain ⟨RA, HW, hsz⟩ := NEW
  have HBE := Lib.hid hB
  have RA := Lib.hid RA
  have HW := Lib.hid HW
  have HSZ := Lib.hid hsz
  rw [hB] at hlt ⊢
  clear hsz hB
  go_simp
  go_cut [4, 5] (fun v4 v5 x => ∃ h t, v4 = .pointer (some ⟨h, 0, none⟩) ∧ v5 = .bool t ∧ Hid (Row x h 83 cs) ∧ Hid (B < h) ∧ Hid (Row x B 32 (cellsA a)) ∧ Hid (Below B w x))
  case first =>
    refine wp_region_tree (S := fun W' => Row W' B 32 (cellsA a)) (.plain 0 (.plain 1 (.plain 2 (.plain 3 (.fork 4 (.plain 5 (.plain 6 (.plain 7 (.one 8 (.one 9 (.plain 10 .nil)))))) 8 (.one 4 (.plain 5 (.plain 6 (.plain 7 (.one 9 (.plain 10 .nil)))))))))))  (by kernel_rfl) (by kernel_rfl) (by kernel_rfl) (by decide) (fun _ _ d _ _ h => by cases d <;> exact h) RA.out ?_
    simp only [treeOf, psOf, nth, slotOf]
    iterate 3 (refine wpT_plain ?_ (by rfl) ?_ ?_; rotate_left; (focus (intro w' hw'; go_simp; try with_reducible rfl)); go_simp)
    refine wpT_plain (encA a) (by rfl) (fun w' hw' => exec_load rfl rfl (run_loadRow isAgg_A size_A rfl hw')) ?_
    go_simp
    refine wpT_fork (by rfl) (by rfl) (fun KK hKK => ?_) (fun KK hKK => ?_)
    · go_simp
      have HWD := Lib.hid HW.out.drew
      refine (HG.out W.drew (HX.out.below (by rw [HBE.out]; exact HWD.out)).1).mono ?_
      rintro e x2 ⟨rfl, hbx⟩
      dsimp only
      have RA2 := Lib.hid (RA.out.drew.below hbx (Nat.le_refl _))
      have HB2 := Lib.hid (HWD.out.trans (hbx.mono (by have := HWD.out.size; have := HBE.out; omega)))
      refine hKK _ _ _ (fun _ h => h) RA2.out ?_
      clear hKK hbx
      iterate 3 (refine wpT_plain ?_ (by rfl) ?_ ?_; rotate_left; (focus (intro w' hw'; go_simp; try with_reducible rfl)); go_simp)
      refine wpT_loud (by rfl) (fun KK hKK => ?_)
      refine wp_value (exec_alloc rfl zero_Pg _) ?_
      have NEW := new_one x2 83 zPg
      obtain ⟨h, hh⟩ : ∃ h, x2.heap.size = h := ⟨_, rfl⟩
      generalize x2.alloc (.cells zPg.toArray 83) = x3 at NEW ⊢
      rw [hh] at NEW ⊢
      obtain ⟨RP, HW1, hsz1⟩ := NEW
      have hBh : B < h := by have := RA2.out.lt; omega
      refine hKK _ _ _ (fun _ h => h) (RA2.out.below HW1 (Nat.le_of_eq hh)) ?_
      clear hKK
      go_simp
      refine wpT_loud (by rfl) (fun KK hKK => ?_)
      refine wp_skip (exec_store rfl rfl rfl (run_storeRow size_Pg RP rfl HL.out HF.out)) ?_
      have RPF := Lib.hid (RP.set cs)
      have RAF := Lib.hid ((RA2.out.below HW1 (Nat.le_of_eq hh)).other (g := h) (by omega) cs.toArray)
      have HBF := Lib.hid (below_setRow (HB2.out.trans (HW1.mono (by omega))) (show B ≤ h by omega) cs.toArray)
      generalize x3.setRow h cs.toArray = x4 at RPF RAF HBF ⊢
      refine hKK _ _ _ (fun _ h => h) RAF.out ?_
      clear hKK RP HW1
      go_simp
      iterate 1 (refine wpT_plain ?_ (by rfl) ?_ ?_; rotate_left; (focus (intro w' hw'; go_simp; try with_reducible rfl)); go_simp)
      refine wpT_nil ?_
      go_wp2_with fail
      go_meet
      case rel => exact ⟨h, s, rfl, rfl, RPF, hBh, RAF, HBF⟩
    · refine wp_value (exec_alloc rfl zero_Pg _) ?_
      have NEW := new_one W.drew 83 zPg
      have hh : W.drew.heap.size = B + 1 := HSZ.out
      generalize W.drew.alloc (.cells zPg.toArray 83) = x2 at NEW ⊢
      rw [hh] at NEW ⊢
      obtain ⟨RP, HW1, hsz1⟩ := NEW
      have RA2 := Lib.hid (RA.out.drew.below HW1 (Nat.le_of_eq hh))
      have HB2 := Lib.hid (HW.out.drew.trans (HW1.mono (by omega)))
      have RP := Lib.hid RP
      refine hKK _ _ _ (fun _ h => h) RA2.out ?_
      clear hKK
      go_simp
      refine wpT_loud (by rfl) (fun KK hKK => ?_)
      go_simp
      refine (HG.out x2 (HX.out.below (by rw [HBE.out]; exact HB2.out)).1).mono ?_
      rintro e x3 ⟨rfl, hbx⟩
      dsimp only
      have RA3 := Lib.hid (RA2.out.below hbx (Nat.le_refl _))
      have RP3 := Lib.hid (RP.out.below hbx (Nat.le_refl _))
      have HB3 := Lib.hid (HB2.out.trans (hbx.mono (by have := HB2.out.size; have := HBE.out; omega)))
      refine hKK _ _ _ (fun _ h => h) RA3.out ?_
      clear hKK hbx
      iterate 3 (refine wpT_plain ?_ (by rfl) ?_ ?_; rotate_left; (focus (intro w' hw'; go_simp; try with_reducible rfl)); go_simp)
      refine wpT_loud (by rfl) (fun KK hKK => ?_)
      refine wp_skip (exec_store rfl rfl rfl (run_storeRow size_Pg RP3.out rfl HL.out HF.out)) ?_
      have RPF := Lib.hid (RP3.out.set cs)
      have RAF := Lib.hid (RA3.out.other (g := B + 1) (by omega) cs.toArray)
      have HBF := Lib.hid (below_setRow HB3.out (show B ≤ B + 1 by omega) cs.toArray)
      generalize x3.setRow (B + 1) cs.toArray = x4 at RPF RAF HBF ⊢
      refine hKK _ _ _ (fun _ h => h) RAF.out ?_
      clear hKK
      go_simp
      iterate 1 (refine wpT_plain ?_ (by rfl) ?_ ?_; rotate_left; (focus (intro w' hw'; go_simp; try with_reducible rfl)); go_simp)
      refine wpT_nil ?_
      go_wp2_with fail
      go_meet
      case rel => exact ⟨B + 1, s, rfl, rfl, RPF, Nat.lt_succ_self B, RAF, HBF⟩
  case rest =>
    obtain ⟨h, t, rfl, rfl, RP, HLE, RAF, HBF⟩ := hcut
    go_upto_region 2 with fail
    refine wp_region_plan (S := fun W' => Row W' B 32 (cellsA a) ∧ W'.cell? ⟨h, 33, none⟩ = some (.bool m)) [(0, true), (1, true), (2, true), (3, true), (4, true), (5, true), (6, true), (7, false)] (by kernel_rfl) (by kernel_rfl) (by kernel_rfl) (by decide) (fun _ _ d _ _ h => by cases d <;> exact h) ⟨RAF.out.drew, RP.out.drew.cell HM.out⟩ ?_
    simp only [stepsOf, nth, slotOf]
    iterate 3 (refine wpPlan_plain ?_ (by rfl) ?_ ?_; rotate_left; (focus (intro w' hw'; go_simp; try with_reducible rfl)); go_simp)
    refine wpPlan_plain (encA a) (by rfl) (fun w' hw' => exec_load rfl rfl (run_loadRow isAgg_A size_A rfl hw'.1)) ?_
    go_simp
    iterate 3 (refine wpPlan_plain ?_ (by rfl) ?_ ?_; rotate_left; (focus (intro w' hw'; obtain ⟨y0, y1⟩ := hw'; go_simp; try with_reducible rfl)); go_simp)
    refine wpPlan_loud (by rfl) (fun KK hKK => ?_)
    go_simp
    have hX := HX.out.fresh (w' := wc.drew) (by rw [HBE.out]; exact HBF.out.drew) [B, h] (fun k hk => by
      have h1 := RAF.out.lt
      have h2 := RP.out.lt
      have h3 := HBE.out
      rcases List.mem_cons.1 hk with rfl | hk
      · exact ⟨by omega, h1⟩
      · rcases List.mem_cons.1 hk with rfl | hk
        · exact ⟨by have := HLE.out; omega, h2⟩
        · cases hk)
    refine (HST.out wc.drew _ hX).mono ?_
    rintro e x2 ⟨rfl, hx2, hs2⟩
    dsimp only
    refine hKK _ _ _ (fun _ h => h) ⟨hs2.row (by simp) RAF.out.drew, (hs2.row (b := h) (by simp) RP.out.drew).cell HM.out⟩ ?_
    refine wpPlan_nil ?_
    go_end0
    refine ⟨rfl, hx2.sub (fun k hk => by simp [hk]), ?_⟩
    have h1 := (HX.out.below (w' := wc.drew) (by rw [HBE.out]; exact HBF.out.drew)).2
    exact h1.trans ⟨hs2.size, fun k hk => hs2.block k (by simp [hk])⟩
end
end Go.Proofs.YtfploeefmnbpcaaGreat
