import Derived.Test.YtfploeefmnbpcaaGreatG26
/- A flash: it is told to break: the walks. -/
namespace Go.Proofs.YtfploeefmnbpcaaGreat
open Go.RowKit Mp Go.ChangeMaps

/-- What can be seen of a flash where a fault's place is asked. -/
structure SeeF (g d b p : Nat) (B : Nat) (cs : List Value) (W : World) : Prop where
  g0 : W.cell? ⟨g, 0, none⟩ = some (.int .i64 (d : Int))
  g1 : W.cell? ⟨g, 1, none⟩ = some (.int .i64 (b : Int))
  g2 : W.cell? ⟨g, 2, none⟩ = some (.int .i64 (p : Int))
  row : Row W B 44 cs
theorem SeeF.below {g d b p B : Nat} {cs : List Value} {W W' : World} (h : SeeF g d b p B cs W) (hb : Below W.heap.size W W') : SeeF g d b p B cs W' :=
  have hg := World.block_lt_of_cell? W _ h.g0
  ⟨(hb.cell (p := ⟨g, 0, none⟩) hg).trans h.g0, (hb.cell (p := ⟨g, 1, none⟩) hg).trans h.g1, (hb.cell (p := ⟨g, 2, none⟩) hg).trans h.g2, h.row.below hb (Nat.le_refl _)⟩
theorem size_Ft : ∀ W : World, (sizeOf 44).run Tryz.prog W = .ok 7 W := fun W => by kernel_rfl
theorem agg_Ft : ∀ W : World, (isAgg 44).run Tryz.prog W = .ok true W := fun W => by kernel_rfl
theorem build_Em : ∀ W : World, (Instr.build 84 #[]).run Tryz.prog W = .ok (.agg #[]) W := fun W => by kernel_rfl
section
variable {F0 : Nat → Prop} {w0 w : World} {g : Nat} {M : FlM} {lp lf : List (A3 × Value)} {L : List Nat}
set_option maxRecDepth 100000
set_option maxHeartbeats 4000000
theorem fault_out (h : FlX F0 w0 w g M lp lf L) (at' kind x y z n v : Int) (hi : inGB M.d M.b M.p x y z = false) :
    Calls Tryz.prog 25 #[nptr g, encFt at' (kind) x y z n v] w fun e w' => e = .returned (.bool false) ∧ FlX F0 w0 w' g M lp lf L := by
  have NEW := Lib.hid (new_one w 44 (cellsFt at' kind x y z n v))
  have HXN := Lib.hid (h.fresh NEW.out.2.1 [w.heap.size] (fun i hi => by
    simp only [List.mem_cons, List.not_mem_nil, or_false] at hi
    rw [NEW.out.2.2]; omega))
  have HI := Lib.hid (fun w => by have := gin_any M.d M.b M.p x y z w; rw [hi] at this; exact this)
  clear h hi
  go_enter Tryz.func25, Tryz.ntmps25
  go_upto_region 1 with (refine wpList_value rfl (exec_box (cs := (cellsFt at' kind x y z n v)) rfl rfl _) ?_)
  refine gen_world (p := fun W => FlX F0 w0 W g M lp lf ([w.heap.size] ++ L) ∧ Row W w.heap.size 44 (cellsFt at' kind x y z n v)) ⟨HXN.out, NEW.out.1⟩ ?_
  obtain ⟨B, hB⟩ : ∃ B, w.heap.size = B := ⟨_, rfl⟩
  rw [hB]
  clear NEW HXN
  intro W0 NW
  obtain ⟨hxw, rb⟩ := NW
  have HS := Lib.hid (show SeeF g M.d M.b M.p B (cellsFt at' kind x y z n v) W0.drew from ⟨hxw.g0, hxw.g1, hxw.g2, rb⟩)
  have HX0 := Lib.hid hxw.drew
  clear hxw rb
  go_simp
  try rw [hB]
  clear hB
  refine wp_region_plan (S := fun W' => SeeF g M.d M.b M.p B (cellsFt at' kind x y z n v) W') [(0, true), (1, true), (2, true), (3, true), (4, true), (5, true), (6, true), (7, true), (8, true), (9, false), (10, true), (11, true)] (by kernel_rfl) (by kernel_rfl) (by kernel_rfl) (by decide) (fun _ _ d _ _ h => by cases d <;> exact h) HS.out ?_
  simp only [stepsOf, nth, slotOf]
  iterate 8 (refine wpPlan_plain ?_ (by rfl) ?_ ?_; rotate_left; (focus (intro w' hw'; obtain ⟨y0, y1, y2, y3⟩ := hw'; go_simp; try with_reducible rfl)); go_simp)
  refine wpPlan_plain (geoV x y z) (by rfl) (fun w' hw' => exec_load rfl rfl (run_loadAgg (b := B) (o := 2) isAgg_A size_A rfl (faddr hw'.row))) ?_
  go_simp
  refine wpPlan_loud (by rfl) (fun K hK => ?_)
  go_simp
  go_wp2_with ((with_reducible refine (HI.out _).mono ?_); rintro e W ⟨rfl, hbx⟩; have HS := Lib.hid (HS.out.below hbx); have HXW := Lib.hid (HX0.out.below hbx).1; clear hbx)
  refine hK _ _ _ (fun _ h => h) HS.out ?_
  clear hK
  iterate 2 (refine wpPlan_plain ?_ (by rfl) ?_ ?_; rotate_left; (focus (intro w' hw'; obtain ⟨y0, y1, y2, y3⟩ := hw'; go_simp; try with_reducible rfl)); go_simp)
  refine wpPlan_nil ?_
  have RB : Hid (Row W B 44 (cellsFt at' kind x y z n v)) := HS.out.row
  have c1 : W.cell? ⟨B, 1, none⟩ = some (.int .i64 (kind)) := RB.out.cell rfl
  clear HX0 HI
  go_wp2_with fail
  go_ret
  exact ⟨rfl, HXW.out.sub (fun k hk => by simp [hk])⟩
theorem fault_none (h : FlX F0 w0 w g M lp lf L) (at' kind n v : Int) (x y z : Nat) (hi : inGB M.d M.b M.p x y z = true) (h1 : kind ≠ 1) (h2 : kind ≠ 2) (h3 : kind ≠ 3) (h4 : kind ≠ 4) (h5 : kind ≠ 5) :
    Calls Tryz.prog 25 #[nptr g, encFt at' (kind) x y z n v] w fun e w' => e = .returned (.bool false) ∧ FlX F0 w0 w' g M lp lf L := by
  have NEW := Lib.hid (new_one w 44 (cellsFt at' kind x y z n v))
  have HXN := Lib.hid (h.fresh NEW.out.2.1 [w.heap.size] (fun i hi => by
    simp only [List.mem_cons, List.not_mem_nil, or_false] at hi
    rw [NEW.out.2.2]; omega))
  have HI := Lib.hid (fun w => by have := gin_any M.d M.b M.p x y z w; rw [hi] at this; exact this)
  clear h hi
  go_enter Tryz.func25, Tryz.ntmps25
  go_upto_region 1 with (refine wpList_value rfl (exec_box (cs := (cellsFt at' kind x y z n v)) rfl rfl _) ?_)
  refine gen_world (p := fun W => FlX F0 w0 W g M lp lf ([w.heap.size] ++ L) ∧ Row W w.heap.size 44 (cellsFt at' kind x y z n v)) ⟨HXN.out, NEW.out.1⟩ ?_
  obtain ⟨B, hB⟩ : ∃ B, w.heap.size = B := ⟨_, rfl⟩
  rw [hB]
  clear NEW HXN
  intro W0 NW
  obtain ⟨hxw, rb⟩ := NW
  have HS := Lib.hid (show SeeF g M.d M.b M.p B (cellsFt at' kind x y z n v) W0.drew from ⟨hxw.g0, hxw.g1, hxw.g2, rb⟩)
  have HX0 := Lib.hid hxw.drew
  clear hxw rb
  go_simp
  try rw [hB]
  clear hB
  refine wp_region_plan (S := fun W' => SeeF g M.d M.b M.p B (cellsFt at' kind x y z n v) W') [(0, true), (1, true), (2, true), (3, true), (4, true), (5, true), (6, true), (7, true), (8, true), (9, false), (10, true), (11, true)] (by kernel_rfl) (by kernel_rfl) (by kernel_rfl) (by decide) (fun _ _ d _ _ h => by cases d <;> exact h) HS.out ?_
  simp only [stepsOf, nth, slotOf]
  iterate 8 (refine wpPlan_plain ?_ (by rfl) ?_ ?_; rotate_left; (focus (intro w' hw'; obtain ⟨y0, y1, y2, y3⟩ := hw'; go_simp; try with_reducible rfl)); go_simp)
  refine wpPlan_plain (geoV x y z) (by rfl) (fun w' hw' => exec_load rfl rfl (run_loadAgg (b := B) (o := 2) isAgg_A size_A rfl (faddr hw'.row))) ?_
  go_simp
  refine wpPlan_loud (by rfl) (fun K hK => ?_)
  go_simp
  go_wp2_with ((with_reducible refine (HI.out _).mono ?_); rintro e W ⟨rfl, hbx⟩; have HS := Lib.hid (HS.out.below hbx); have HXW := Lib.hid (HX0.out.below hbx).1; clear hbx)
  refine hK _ _ _ (fun _ h => h) HS.out ?_
  clear hK
  iterate 2 (refine wpPlan_plain ?_ (by rfl) ?_ ?_; rotate_left; (focus (intro w' hw'; obtain ⟨y0, y1, y2, y3⟩ := hw'; go_simp; try with_reducible rfl)); go_simp)
  refine wpPlan_nil ?_
  have RB : Hid (Row W B 44 (cellsFt at' kind x y z n v)) := HS.out.row
  have c1 : W.cell? ⟨B, 1, none⟩ = some (.int .i64 (kind)) := RB.out.cell rfl
  clear HX0 HI
  go_wp2_with fail
  go_ret
  exact ⟨rfl, HXW.out.sub (fun k hk => by simp [hk])⟩
theorem fault_1 (h : FlX F0 w0 w g M lp lf L) (at' n v : Int) (x y z : Nat) (hi : inGB M.d M.b M.p x y z = true) (ha : okA (k3 x y z)) :
    Calls Tryz.prog 25 #[nptr g, encFt at' (1) x y z n v] w fun e w' => e = .returned (.bool true) ∧ FlX F0 w0 w' g M lp ((k3 x y z, .agg #[]) :: delA lf (k3 x y z)) L := by
  have NEW := Lib.hid (new_one w 44 (cellsFt at' 1 x y z n v))
  have HXN := Lib.hid (h.fresh NEW.out.2.1 [w.heap.size] (fun i hi => by
    simp only [List.mem_cons, List.not_mem_nil, or_false] at hi
    rw [NEW.out.2.2]; omega))
  have HI := Lib.hid (fun w => by have := gin_any M.d M.b M.p x y z w; rw [hi] at this; exact this)
  clear h hi
  go_enter Tryz.func25, Tryz.ntmps25
  go_upto_region 1 with (refine wpList_value rfl (exec_box (cs := (cellsFt at' 1 x y z n v)) rfl rfl _) ?_)
  refine gen_world (p := fun W => FlX F0 w0 W g M lp lf ([w.heap.size] ++ L) ∧ Row W w.heap.size 44 (cellsFt at' 1 x y z n v)) ⟨HXN.out, NEW.out.1⟩ ?_
  obtain ⟨B, hB⟩ : ∃ B, w.heap.size = B := ⟨_, rfl⟩
  rw [hB]
  clear NEW HXN
  intro W0 NW
  obtain ⟨hxw, rb⟩ := NW
  have HS := Lib.hid (show SeeF g M.d M.b M.p B (cellsFt at' 1 x y z n v) W0.drew from ⟨hxw.g0, hxw.g1, hxw.g2, rb⟩)
  have HX0 := Lib.hid hxw.drew
  clear hxw rb
  go_simp
  try rw [hB]
  clear hB
  refine wp_region_plan (S := fun W' => SeeF g M.d M.b M.p B (cellsFt at' 1 x y z n v) W') [(0, true), (1, true), (2, true), (3, true), (4, true), (5, true), (6, true), (7, true), (8, true), (9, false), (10, true), (11, true)] (by kernel_rfl) (by kernel_rfl) (by kernel_rfl) (by decide) (fun _ _ d _ _ h => by cases d <;> exact h) HS.out ?_
  simp only [stepsOf, nth, slotOf]
  iterate 8 (refine wpPlan_plain ?_ (by rfl) ?_ ?_; rotate_left; (focus (intro w' hw'; obtain ⟨y0, y1, y2, y3⟩ := hw'; go_simp; try with_reducible rfl)); go_simp)
  refine wpPlan_plain (geoV x y z) (by rfl) (fun w' hw' => exec_load rfl rfl (run_loadAgg (b := B) (o := 2) isAgg_A size_A rfl (faddr hw'.row))) ?_
  go_simp
  refine wpPlan_loud (by rfl) (fun K hK => ?_)
  go_simp
  go_wp2_with ((with_reducible refine (HI.out _).mono ?_); rintro e W ⟨rfl, hbx⟩; have HS := Lib.hid (HS.out.below hbx); have HXW := Lib.hid (HX0.out.below hbx).1; clear hbx)
  refine hK _ _ _ (fun _ h => h) HS.out ?_
  clear hK
  iterate 2 (refine wpPlan_plain ?_ (by rfl) ?_ ?_; rotate_left; (focus (intro w' hw'; obtain ⟨y0, y1, y2, y3⟩ := hw'; go_simp; try with_reducible rfl)); go_simp)
  refine wpPlan_nil ?_
  have RB : Hid (Row W B 44 (cellsFt at' 1 x y z n v)) := HS.out.row
  have c1 : W.cell? ⟨B, 1, none⟩ = some (.int .i64 (1)) := RB.out.cell rfl
  clear HX0 HI
  have HBE := Lib.hid build_Em
  have HST := Lib.hid (fun (W : World) (L : List Nat) (hX : FlX F0 w0 W g M lp lf L) => hX.setF (k3 x y z) ha (.agg #[]) ⟨[], rfl, rfl, fun v hv => by cases hv⟩)
  clear ha
  go_upto_region 6 with fail
  refine wp_region_plan (S := fun W' => Row W' B 44 (cellsFt at' 1 x y z n v)) [(0, true), (1, true), (2, true), (3, true), (4, true), (5, true), (6, false)] (by kernel_rfl) (by kernel_rfl) (by kernel_rfl) (by decide) (fun _ _ d _ _ h => by cases d <;> exact h) RB.out.drew ?_
  simp only [stepsOf, nth, slotOf]
  iterate 4 (refine wpPlan_plain ?_ (by rfl) ?_ ?_; rotate_left; (focus (intro w' hw'; go_simp; try with_reducible rfl)); go_simp)
  refine wpPlan_plain (encA (k3 x y z)) (by rfl) (fun w' hw' => exec_load rfl rfl (run_loadAgg (b := B) (o := 2) isAgg_A size_A rfl (faddr hw'))) ?_
  go_simp
  refine wpPlan_plain (.agg #[]) (by rfl) (fun w' _ => exec_build (vs := #[]) rfl (by simp) (HBE.out w')) ?_
  go_simp
  refine wpPlan_loud (by rfl) (fun KK hKK => ?_)
  go_simp
  refine (HST.out W.drew _ HXW.out.drew).mono ?_
  rintro e x9 ⟨rfl, hx9, hs9⟩
  dsimp only
  refine hKK _ _ _ (fun _ h => h) (hs9.row (by simp) RB.out.drew) ?_
  clear hKK
  refine wpPlan_nil ?_
  go_wp2
  go_ret
  exact ⟨rfl, hx9.sub (fun k hk => by simp [hk])⟩
theorem fault_2 (h : FlX F0 w0 w g M lp lf L) (at' n v : Int) (x y z : Nat) (hi : inGB M.d M.b M.p x y z = true) (hx : x < 6) (hy : y < 16) :
    Calls Tryz.prog 25 #[nptr g, encFt at' (2) x y z n v] w fun e w' => e = .returned (.bool true) ∧ FlX F0 w0 w' g (M.setB x y { M.blk x y with told := true }) lp lf L := by
  have NEW := Lib.hid (new_one w 44 (cellsFt at' 2 x y z n v))
  have HXN := Lib.hid (h.fresh NEW.out.2.1 [w.heap.size] (fun i hi => by
    simp only [List.mem_cons, List.not_mem_nil, or_false] at hi
    rw [NEW.out.2.2]; omega))
  have HI := Lib.hid (fun w => by have := gin_any M.d M.b M.p x y z w; rw [hi] at this; exact this)
  clear h hi
  go_enter Tryz.func25, Tryz.ntmps25
  go_upto_region 1 with (refine wpList_value rfl (exec_box (cs := (cellsFt at' 2 x y z n v)) rfl rfl _) ?_)
  refine gen_world (p := fun W => FlX F0 w0 W g M lp lf ([w.heap.size] ++ L) ∧ Row W w.heap.size 44 (cellsFt at' 2 x y z n v)) ⟨HXN.out, NEW.out.1⟩ ?_
  obtain ⟨B, hB⟩ : ∃ B, w.heap.size = B := ⟨_, rfl⟩
  rw [hB]
  clear NEW HXN
  intro W0 NW
  obtain ⟨hxw, rb⟩ := NW
  have HS := Lib.hid (show SeeF g M.d M.b M.p B (cellsFt at' 2 x y z n v) W0.drew from ⟨hxw.g0, hxw.g1, hxw.g2, rb⟩)
  have HX0 := Lib.hid hxw.drew
  clear hxw rb
  go_simp
  try rw [hB]
  clear hB
  refine wp_region_plan (S := fun W' => SeeF g M.d M.b M.p B (cellsFt at' 2 x y z n v) W') [(0, true), (1, true), (2, true), (3, true), (4, true), (5, true), (6, true), (7, true), (8, true), (9, false), (10, true), (11, true)] (by kernel_rfl) (by kernel_rfl) (by kernel_rfl) (by decide) (fun _ _ d _ _ h => by cases d <;> exact h) HS.out ?_
  simp only [stepsOf, nth, slotOf]
  iterate 8 (refine wpPlan_plain ?_ (by rfl) ?_ ?_; rotate_left; (focus (intro w' hw'; obtain ⟨y0, y1, y2, y3⟩ := hw'; go_simp; try with_reducible rfl)); go_simp)
  refine wpPlan_plain (geoV x y z) (by rfl) (fun w' hw' => exec_load rfl rfl (run_loadAgg (b := B) (o := 2) isAgg_A size_A rfl (faddr hw'.row))) ?_
  go_simp
  refine wpPlan_loud (by rfl) (fun K hK => ?_)
  go_simp
  go_wp2_with ((with_reducible refine (HI.out _).mono ?_); rintro e W ⟨rfl, hbx⟩; have HS := Lib.hid (HS.out.below hbx); have HXW := Lib.hid (HX0.out.below hbx).1; clear hbx)
  refine hK _ _ _ (fun _ h => h) HS.out ?_
  clear hK
  iterate 2 (refine wpPlan_plain ?_ (by rfl) ?_ ?_; rotate_left; (focus (intro w' hw'; obtain ⟨y0, y1, y2, y3⟩ := hw'; go_simp; try with_reducible rfl)); go_simp)
  refine wpPlan_nil ?_
  have RB : Hid (Row W B 44 (cellsFt at' 2 x y z n v)) := HS.out.row
  have c1 : W.cell? ⟨B, 1, none⟩ = some (.int .i64 (2)) := RB.out.cell rfl
  clear HX0 HI
  have c2 : W.cell? ⟨B, 2, none⟩ = some (.int .i64 (x : Int)) := RB.out.cell rfl
  have c3 : W.cell? ⟨B, 3, none⟩ = some (.int .i64 (y : Int)) := RB.out.cell rfl
  have b2 := HXW.out.told hx hy
  have f2 := HXW.out.free (i := 15 + x * 64 + y * 4 + 2) (by omega)
  have H2 := Lib.hid ((HXW.out.set (i := 15 + x * 64 + y * 4 + 2) (by omega) (.bool true) (fun c h => h.told' hx hy true)).1.drew)
  go_upto_region 8 with fail
  go_region
  go_wp2
  go_ret
  exact ⟨rfl, H2.out.sub (fun k hk => by simp [hk])⟩
theorem fault_4 (h : FlX F0 w0 w g M lp lf L) (at' n v : Int) (x y z : Nat) (hi : inGB M.d M.b M.p x y z = true) (hx : x < 6) :
    Calls Tryz.prog 25 #[nptr g, encFt at' (4) x y z n v] w fun e w' => e = .returned (.bool true) ∧ FlX F0 w0 w' g { M with dead := upd M.dead x true } lp lf L := by
  have NEW := Lib.hid (new_one w 44 (cellsFt at' 4 x y z n v))
  have HXN := Lib.hid (h.fresh NEW.out.2.1 [w.heap.size] (fun i hi => by
    simp only [List.mem_cons, List.not_mem_nil, or_false] at hi
    rw [NEW.out.2.2]; omega))
  have HI := Lib.hid (fun w => by have := gin_any M.d M.b M.p x y z w; rw [hi] at this; exact this)
  clear h hi
  go_enter Tryz.func25, Tryz.ntmps25
  go_upto_region 1 with (refine wpList_value rfl (exec_box (cs := (cellsFt at' 4 x y z n v)) rfl rfl _) ?_)
  refine gen_world (p := fun W => FlX F0 w0 W g M lp lf ([w.heap.size] ++ L) ∧ Row W w.heap.size 44 (cellsFt at' 4 x y z n v)) ⟨HXN.out, NEW.out.1⟩ ?_
  obtain ⟨B, hB⟩ : ∃ B, w.heap.size = B := ⟨_, rfl⟩
  rw [hB]
  clear NEW HXN
  intro W0 NW
  obtain ⟨hxw, rb⟩ := NW
  have HS := Lib.hid (show SeeF g M.d M.b M.p B (cellsFt at' 4 x y z n v) W0.drew from ⟨hxw.g0, hxw.g1, hxw.g2, rb⟩)
  have HX0 := Lib.hid hxw.drew
  clear hxw rb
  go_simp
  try rw [hB]
  clear hB
  refine wp_region_plan (S := fun W' => SeeF g M.d M.b M.p B (cellsFt at' 4 x y z n v) W') [(0, true), (1, true), (2, true), (3, true), (4, true), (5, true), (6, true), (7, true), (8, true), (9, false), (10, true), (11, true)] (by kernel_rfl) (by kernel_rfl) (by kernel_rfl) (by decide) (fun _ _ d _ _ h => by cases d <;> exact h) HS.out ?_
  simp only [stepsOf, nth, slotOf]
  iterate 8 (refine wpPlan_plain ?_ (by rfl) ?_ ?_; rotate_left; (focus (intro w' hw'; obtain ⟨y0, y1, y2, y3⟩ := hw'; go_simp; try with_reducible rfl)); go_simp)
  refine wpPlan_plain (geoV x y z) (by rfl) (fun w' hw' => exec_load rfl rfl (run_loadAgg (b := B) (o := 2) isAgg_A size_A rfl (faddr hw'.row))) ?_
  go_simp
  refine wpPlan_loud (by rfl) (fun K hK => ?_)
  go_simp
  go_wp2_with ((with_reducible refine (HI.out _).mono ?_); rintro e W ⟨rfl, hbx⟩; have HS := Lib.hid (HS.out.below hbx); have HXW := Lib.hid (HX0.out.below hbx).1; clear hbx)
  refine hK _ _ _ (fun _ h => h) HS.out ?_
  clear hK
  iterate 2 (refine wpPlan_plain ?_ (by rfl) ?_ ?_; rotate_left; (focus (intro w' hw'; obtain ⟨y0, y1, y2, y3⟩ := hw'; go_simp; try with_reducible rfl)); go_simp)
  refine wpPlan_nil ?_
  have RB : Hid (Row W B 44 (cellsFt at' 4 x y z n v)) := HS.out.row
  have c1 : W.cell? ⟨B, 1, none⟩ = some (.int .i64 (4)) := RB.out.cell rfl
  clear HX0 HI
  have c2 : W.cell? ⟨B, 2, none⟩ = some (.int .i64 (x : Int)) := RB.out.cell rfl
  have b2 := HXW.out.dead hx
  have f2 := HXW.out.free (i := 9 + x) (by omega)
  have H2 := Lib.hid ((HXW.out.set (i := 9 + x) (by omega) (.bool true) (fun c h => h.dead' hx true)).1.drew)
  go_upto_region 14 with fail
  go_region
  go_wp2
  go_ret
  exact ⟨rfl, H2.out.sub (fun k hk => by simp [hk])⟩
theorem fault_5 (h : FlX F0 w0 w g M lp lf L) (at' n v : Int) (x y z : Nat) (hi : inGB M.d M.b M.p x y z = true) (ha : okA (k3 x y z)) (hv : ∀ p ∈ lp, okV 34 p.2) (bs : List Nat) (l m s : Bool) (hr : (getA lp (k3 x y z)).getD (.agg zPg.toArray) = pgV bs l m) (hs : (getA lp (k3 x y z)).isSome = s) (hbs : okP bs) :
    Calls Tryz.prog 25 #[nptr g, encFt at' (5) x y z n v] w fun e w' => e = .returned (.bool (turnV s l m bs n v (k3 x y z) lp).1) ∧ FlX F0 w0 w' g M (turnV s l m bs n v (k3 x y z) lp).2 lf L := by
  have NEW := Lib.hid (new_one w 44 (cellsFt at' 5 x y z n v))
  have HXN := Lib.hid (h.fresh NEW.out.2.1 [w.heap.size] (fun i hi => by
    simp only [List.mem_cons, List.not_mem_nil, or_false] at hi
    rw [NEW.out.2.2]; omega))
  have HI := Lib.hid (fun w => by have := gin_any M.d M.b M.p x y z w; rw [hi] at this; exact this)
  clear h hi
  go_enter Tryz.func25, Tryz.ntmps25
  go_upto_region 1 with (refine wpList_value rfl (exec_box (cs := (cellsFt at' 5 x y z n v)) rfl rfl _) ?_)
  refine gen_world (p := fun W => FlX F0 w0 W g M lp lf ([w.heap.size] ++ L) ∧ Row W w.heap.size 44 (cellsFt at' 5 x y z n v)) ⟨HXN.out, NEW.out.1⟩ ?_
  obtain ⟨B, hB⟩ : ∃ B, w.heap.size = B := ⟨_, rfl⟩
  rw [hB]
  clear NEW HXN
  intro W0 NW
  obtain ⟨hxw, rb⟩ := NW
  have HS := Lib.hid (show SeeF g M.d M.b M.p B (cellsFt at' 5 x y z n v) W0.drew from ⟨hxw.g0, hxw.g1, hxw.g2, rb⟩)
  have HX0 := Lib.hid hxw.drew
  clear hxw rb
  go_simp
  try rw [hB]
  clear hB
  refine wp_region_plan (S := fun W' => SeeF g M.d M.b M.p B (cellsFt at' 5 x y z n v) W') [(0, true), (1, true), (2, true), (3, true), (4, true), (5, true), (6, true), (7, true), (8, true), (9, false), (10, true), (11, true)] (by kernel_rfl) (by kernel_rfl) (by kernel_rfl) (by decide) (fun _ _ d _ _ h => by cases d <;> exact h) HS.out ?_
  simp only [stepsOf, nth, slotOf]
  iterate 8 (refine wpPlan_plain ?_ (by rfl) ?_ ?_; rotate_left; (focus (intro w' hw'; obtain ⟨y0, y1, y2, y3⟩ := hw'; go_simp; try with_reducible rfl)); go_simp)
  refine wpPlan_plain (geoV x y z) (by rfl) (fun w' hw' => exec_load rfl rfl (run_loadAgg (b := B) (o := 2) isAgg_A size_A rfl (faddr hw'.row))) ?_
  go_simp
  refine wpPlan_loud (by rfl) (fun K hK => ?_)
  go_simp
  go_wp2_with ((with_reducible refine (HI.out _).mono ?_); rintro e W ⟨rfl, hbx⟩; have HS := Lib.hid (HS.out.below hbx); have HXW := Lib.hid (HX0.out.below hbx).1; clear hbx)
  refine hK _ _ _ (fun _ h => h) HS.out ?_
  clear hK
  iterate 2 (refine wpPlan_plain ?_ (by rfl) ?_ ?_; rotate_left; (focus (intro w' hw'; obtain ⟨y0, y1, y2, y3⟩ := hw'; go_simp; try with_reducible rfl)); go_simp)
  refine wpPlan_nil ?_
  have RB : Hid (Row W B 44 (cellsFt at' 5 x y z n v)) := HS.out.row
  have c1 : W.cell? ⟨B, 1, none⟩ = some (.int .i64 (5)) := RB.out.cell rfl
  clear HX0 HI
  have HT := Lib.hid (fun (W : World) (L : List Nat) (hX : FlX F0 w0 W g M lp lf L) => nturn_any hX at' 5 x y z n v ha hv bs l m s hr hs hbs)
  clear ha hv hr hs hbs
  go_wp2_with (refine wpList_value (v := encFt at' 5 x y z n v) rfl (exec_load rfl rfl (run_loadRow agg_Ft size_Ft rfl RB.out)) ?_)
  refine (HT.out _ _ HXW.out).mono ?_
  rintro e x9 ⟨rfl, hx9⟩
  dsimp only
  go_wp2_with fail
  go_ret
  exact ⟨rfl, hx9.sub (fun k hk => by simp [hk])⟩
theorem fault_3 (h : FlX F0 w0 w g M lp lf L) (at' n v : Int) (x y z : Nat) (hi : inGB M.d M.b M.p x y z = true) (ha : okA (k3 x y z)) (hv : ∀ p ∈ lp, okV 34 p.2) (bs : List Nat) (l m s : Bool) (hr : (getA lp (k3 x y z)).getD (.agg zPg.toArray) = pgV bs l m) (hs : (getA lp (k3 x y z)).isSome = s) (hbs : okP bs) :
    Calls Tryz.prog 25 #[nptr g, encFt at' (3) x y z n v] w fun e w' => e = .returned (.bool true) ∧ FlX F0 w0 w' g M (if s = true then (k3 x y z, pgV z32 true m) :: delA lp (k3 x y z) else lp) lf L := by
  have NEW := Lib.hid (new_one w 44 (cellsFt at' 3 x y z n v))
  have HXN := Lib.hid (h.fresh NEW.out.2.1 [w.heap.size] (fun i hi => by
    simp only [List.mem_cons, List.not_mem_nil, or_false] at hi
    rw [NEW.out.2.2]; omega))
  have HI := Lib.hid (fun w => by have := gin_any M.d M.b M.p x y z w; rw [hi] at this; exact this)
  clear h hi
  go_enter Tryz.func25, Tryz.ntmps25
  go_upto_region 1 with (refine wpList_value rfl (exec_box (cs := (cellsFt at' 3 x y z n v)) rfl rfl _) ?_)
  refine gen_world (p := fun W => FlX F0 w0 W g M lp lf ([w.heap.size] ++ L) ∧ Row W w.heap.size 44 (cellsFt at' 3 x y z n v)) ⟨HXN.out, NEW.out.1⟩ ?_
  obtain ⟨B, hB⟩ : ∃ B, w.heap.size = B := ⟨_, rfl⟩
  rw [hB]
  clear NEW HXN
  intro W0 NW
  obtain ⟨hxw, rb⟩ := NW
  have HS := Lib.hid (show SeeF g M.d M.b M.p B (cellsFt at' 3 x y z n v) W0.drew from ⟨hxw.g0, hxw.g1, hxw.g2, rb⟩)
  have HX0 := Lib.hid hxw.drew
  clear hxw rb
  go_simp
  try rw [hB]
  clear hB
  refine wp_region_plan (S := fun W' => SeeF g M.d M.b M.p B (cellsFt at' 3 x y z n v) W') [(0, true), (1, true), (2, true), (3, true), (4, true), (5, true), (6, true), (7, true), (8, true), (9, false), (10, true), (11, true)] (by kernel_rfl) (by kernel_rfl) (by kernel_rfl) (by decide) (fun _ _ d _ _ h => by cases d <;> exact h) HS.out ?_
  simp only [stepsOf, nth, slotOf]
  iterate 8 (refine wpPlan_plain ?_ (by rfl) ?_ ?_; rotate_left; (focus (intro w' hw'; obtain ⟨y0, y1, y2, y3⟩ := hw'; go_simp; try with_reducible rfl)); go_simp)
  refine wpPlan_plain (geoV x y z) (by rfl) (fun w' hw' => exec_load rfl rfl (run_loadAgg (b := B) (o := 2) isAgg_A size_A rfl (faddr hw'.row))) ?_
  go_simp
  refine wpPlan_loud (by rfl) (fun K hK => ?_)
  go_simp
  go_wp2_with ((with_reducible refine (HI.out _).mono ?_); rintro e W ⟨rfl, hbx⟩; have HS := Lib.hid (HS.out.below hbx); have HXW := Lib.hid (HX0.out.below hbx).1; clear hbx)
  refine hK _ _ _ (fun _ h => h) HS.out ?_
  clear hK
  iterate 2 (refine wpPlan_plain ?_ (by rfl) ?_ ?_; rotate_left; (focus (intro w' hw'; obtain ⟨y0, y1, y2, y3⟩ := hw'; go_simp; try with_reducible rfl)); go_simp)
  refine wpPlan_nil ?_
  have RB : Hid (Row W B 44 (cellsFt at' 3 x y z n v)) := HS.out.row
  have c1 : W.cell? ⟨B, 1, none⟩ = some (.int .i64 (3)) := RB.out.cell rfl
  clear HX0 HI
  obtain ⟨a, haa⟩ : ∃ a : A3, k3 x y z = a := ⟨_, rfl⟩
  have HFA : Hid (∀ (W : World), Row W B 44 (cellsFt at' 3 x y z n v) → ∀ j u, (cellsA a)[j]? = some u → W.cell? ⟨B, 2 + j, none⟩ = some u) := by subst haa; exact fun W h => faddr h
  have HAA := Lib.hid haa
  rw [haa] at ha hr hs
  have HG := Lib.hid (fun (W : World) (hX : FlX F0 w0 W g M lp lf ([B] ++ L)) => by have := hX.getP a ha hv; rw [hr, hs] at this; exact this)
  have HLO := Lib.hid (fun (W : World) (L : List Nat) (hX : FlX F0 w0 W g M lp lf L) => lose_any hX a ha hv bs l m hr hbs.1)
  have HL := Lib.hid (cellsPg_len (l := l) (m := m) hbs.1)
  have HF := Lib.hid (cellsPg_flat bs l m)
  obtain ⟨cs, hcs⟩ : ∃ cs, cellsPg bs l m = cs := ⟨_, rfl⟩
  unfold pgV at HG
  rw [hcs] at HG HL HF
  obtain ⟨N, hN⟩ : ∃ N, W.heap.size = N := ⟨_, rfl⟩
  have HNN := Lib.hid hN
  clear hN ha hv hr hs hbs hcs haa
  go_upto_region 10 with fail
  go_cut [5, 6] (fun v4 v5 x => ∃ h, v4 = .pointer (some ⟨h, 0, none⟩) ∧ v5 = .bool s ∧ Hid (Row x h 83 cs) ∧ Hid (N ≤ h) ∧ Hid (Below N W x))
  case first =>
    have hBN := RB.out.lt
    rw [HNN.out] at hBN
    refine wp_region_tree (S := fun W' => Row W' B 44 (cellsFt at' 3 x y z n v)) (.plain 0 (.plain 1 (.plain 2 (.plain 3 (.plain 4 (.fork 5 (.plain 6 (.plain 7 (.plain 8 (.one 9 (.one 10 (.plain 11 .nil)))))) 9 (.one 5 (.plain 6 (.plain 7 (.plain 8 (.one 10 (.plain 11 .nil)))))))))))) (by kernel_rfl) (by kernel_rfl) (by kernel_rfl) (by decide) (fun _ _ d _ _ h => by cases d <;> exact h) RB.out.drew ?_
    simp only [treeOf, psOf, nth, slotOf]
    iterate 4 (refine wpT_plain ?_ (by rfl) ?_ ?_; rotate_left; (focus (intro w' hw'; go_simp; try with_reducible rfl)); go_simp)
    refine wpT_plain (encA a) (by rfl) (fun w' hw' => exec_load rfl rfl (run_loadAgg (b := B) (o := 2) isAgg_A size_A rfl (HFA.out _ hw'))) ?_
    go_simp
    refine wpT_fork (by rfl) (by rfl) (fun KK hKK => ?_) (fun KK hKK => ?_)
    · go_simp
      refine (HG.out W.drew HXW.out.drew).mono ?_
      rintro e x2 ⟨rfl, hbx⟩
      dsimp only
      have RA2 := Lib.hid (RB.out.drew.below hbx (Nat.le_refl _))
      have HB2 := Lib.hid (show Below N W x2 from ((Below.refl _ _).drew.trans (hbx.mono (Nat.le_of_eq HNN.out.symm))))
      refine hKK _ _ _ (fun _ h => h) RA2.out ?_
      clear hKK hbx
      iterate 3 (refine wpT_plain ?_ (by rfl) ?_ ?_; rotate_left; (focus (intro w' hw'; go_simp; try with_reducible rfl)); go_simp)
      refine wpT_loud (by rfl) (fun KK hKK => ?_)
      refine wp_value (exec_alloc rfl zero_Pg _) ?_
      have NEW := new_one x2 83 zPg
      obtain ⟨h, hh⟩ : ∃ h, x2.heap.size = h := ⟨_, rfl⟩
      generalize x2.alloc (.cells zPg.toArray 83) = x3 at NEW ⊢
      rw [hh] at NEW ⊢
      obtain ⟨RP, HW1, hsz1⟩ := NEW
      have hBh : N ≤ h := by have := HB2.out.size; have := HNN.out; omega
      refine hKK _ _ _ (fun _ h => h) (RA2.out.below HW1 (Nat.le_of_eq hh)) ?_
      clear hKK
      go_simp
      refine wpT_loud (by rfl) (fun KK hKK => ?_)
      refine wp_skip (exec_store rfl rfl rfl (run_storeRow size_Pg RP rfl HL.out HF.out)) ?_
      have RPF := Lib.hid (RP.set cs)
      have RAF := Lib.hid ((RA2.out.below HW1 (Nat.le_of_eq hh)).other (g := h) (by omega) cs.toArray)
      have HBF := Lib.hid (below_setRow (HB2.out.trans (HW1.mono hBh)) hBh cs.toArray)
      generalize x3.setRow h cs.toArray = x4 at RPF RAF HBF ⊢
      refine hKK _ _ _ (fun _ h => h) RAF.out ?_
      clear hKK RP HW1
      go_simp
      iterate 1 (refine wpT_plain ?_ (by rfl) ?_ ?_; rotate_left; (focus (intro w' hw'; go_simp; try with_reducible rfl)); go_simp)
      refine wpT_nil ?_
      go_wp2_with fail
      go_meet
      case rel => exact ⟨h, rfl, rfl, RPF, hBh, HBF⟩
    · refine wp_value (exec_alloc rfl zero_Pg _) ?_
      have NEW := new_one W.drew 83 zPg
      have hh : W.drew.heap.size = N := HNN.out
      generalize W.drew.alloc (.cells zPg.toArray 83) = x2 at NEW ⊢
      rw [hh] at NEW ⊢
      obtain ⟨RP, HW1, hsz1⟩ := NEW
      have RA2 := Lib.hid (RB.out.drew.below HW1 (Nat.le_of_eq hh))
      have HX2 := Lib.hid (HXW.out.drew.below (w' := x2) (by rw [hh]; exact HW1)).1
      have HB2 := Lib.hid (show Below N W x2 from (Below.refl _ _).drew.trans HW1)
      have RP := Lib.hid RP
      refine hKK _ _ _ (fun _ h => h) RA2.out ?_
      clear hKK
      go_simp
      refine wpT_loud (by rfl) (fun KK hKK => ?_)
      go_simp
      refine (HG.out x2 HX2.out).mono ?_
      rintro e x3 ⟨rfl, hbx⟩
      dsimp only
      have RA3 := Lib.hid (RA2.out.below hbx (Nat.le_refl _))
      have RP3 := Lib.hid (RP.out.below hbx (Nat.le_refl _))
      have HB3 := Lib.hid (HB2.out.trans (hbx.mono (by have := HB2.out.size; have := HNN.out; omega)))
      refine hKK _ _ _ (fun _ h => h) RA3.out ?_
      clear hKK hbx
      iterate 3 (refine wpT_plain ?_ (by rfl) ?_ ?_; rotate_left; (focus (intro w' hw'; go_simp; try with_reducible rfl)); go_simp)
      refine wpT_loud (by rfl) (fun KK hKK => ?_)
      refine wp_skip (exec_store rfl rfl rfl (run_storeRow size_Pg RP3.out rfl HL.out HF.out)) ?_
      have RPF := Lib.hid (RP3.out.set cs)
      have RAF := Lib.hid (RA3.out.other (g := N) (by omega) cs.toArray)
      have HBF := Lib.hid (below_setRow HB3.out (Nat.le_refl N) cs.toArray)
      generalize x3.setRow N cs.toArray = x4 at RPF RAF HBF ⊢
      refine hKK _ _ _ (fun _ h => h) RAF.out ?_
      clear hKK
      go_simp
      iterate 1 (refine wpT_plain ?_ (by rfl) ?_ ?_; rotate_left; (focus (intro w' hw'; go_simp; try with_reducible rfl)); go_simp)
      refine wpT_nil ?_
      go_wp2_with fail
      go_meet
      case rel => exact ⟨N, rfl, rfl, RPF, Nat.le_refl N, HBF⟩
  case rest =>
    obtain ⟨h, rfl, rfl, RP, HNh, HBF⟩ := hcut
    have HBW : Hid (Below W.heap.size W wc) := by have := HBF.out; rwa [← HNN.out] at this
    have RB2 := Lib.hid (RB.out.below HBW.out (Nat.le_refl _))
    have HX2 := Lib.hid (HXW.out.below HBW.out).1
    cases s with
    | false =>
      go_wp2_with fail
      go_ret
      exact ⟨rfl, HX2.out.sub (fun k hk => by simp [hk])⟩
    | true =>
      go_wp2_with (refine wpList_value (v := encA a) rfl (exec_load rfl rfl (run_loadAgg (b := B) (o := 2) isAgg_A size_A rfl (HFA.out _ RB2.out))) ?_)
      refine (HLO.out _ _ HX2.out).mono ?_
      rintro e x9 ⟨rfl, hx9, -⟩
      dsimp only
      go_wp2_with fail
      go_ret
      rw [HAA.out]
      exact ⟨rfl, hx9.sub (fun k hk => by simp [hk])⟩
end
end Go.Proofs.YtfploeefmnbpcaaGreat
