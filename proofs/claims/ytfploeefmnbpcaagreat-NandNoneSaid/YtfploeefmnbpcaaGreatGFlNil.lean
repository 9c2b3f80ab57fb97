import Derived.Test.YtfploeefmnbpcaaGreatG28
import Derived.Test.YtfploeefmnbpcaaGreatGLawNNone
/- No flash: what the landed methods tell. -/
namespace Go.Proofs.YtfploeefmnbpcaaGreat
open Go.RowKit Mp Go.ChangeMaps

set_option maxRecDepth 100000
set_option maxHeartbeats 2000000
theorem nil_reach (x y z : Int) (w : World) : Calls Tryz.prog 44 #[.pointer none, geoV x y z] w fun e w' => e = .returned (.int .i64 12) ∧ Below w.heap.size w w' := by
  go_enter Tryz.func44, Tryz.ntmps44
  go_wp2
  go_ret
  exact ⟨rfl, (Below.refl _ _).alloc (Nat.le_refl _) _⟩
theorem nil_program (x y z : Int) (pg : List Nat) (w : World) : Calls Tryz.prog 18 #[.pointer none, geoV x y z, encP pg] w fun e w' => e = .returned (.int .i64 12) ∧ Below w.heap.size w w' := by
  have NEW := Lib.hid (new_two w 32 34 (cellsA (x, y, z)) (cellsP pg))
  go_enter Tryz.func18, Tryz.ntmps18
  go_wp2_with (first | (refine wpList_value rfl (exec_box (cs := cellsA (x, y, z)) rfl rfl _) ?_) | (refine wpList_value rfl (exec_box (cs := cellsP pg) rfl rfl _) ?_) | (refine wpList_value (v := geoV x y z) rfl (exec_load rfl rfl (run_loadRow isAgg_A size_A rfl NEW.out.1)) ?_) | (go_at_call 44; (with_reducible refine (nil_reach x y z _).mono ?_); rintro e x2 ⟨rfl, hbx⟩; have HB := Lib.hid (NEW.out.2.2.1.trans (hbx.mono NEW.out.2.2.1.size)); clear hbx))
  go_ret
  exact ⟨rfl, HB.out⟩
theorem nil_read (x y z : Int) (w : World) : Calls Tryz.prog 23 #[.pointer none, geoV x y z] w fun e w' => e = .returned (.tuple #[encP FlM.noPage, .int .i64 12]) ∧ Below w.heap.size w w' := by
  have NEW := Lib.hid (new_two w 32 34 (cellsA (x, y, z)) (cellsP z32))
  have HBN := Lib.hid (build_zeroP)
  go_enter Tryz.func23, Tryz.ntmps23
  go_wp2_with (first | (refine wpList_value rfl (exec_alloc rfl zero_P _) ?_) | (refine wpList_value rfl (exec_box (cs := cellsA (x, y, z)) rfl rfl _) ?_) | (refine wpList_value (v := geoV x y z) rfl (exec_load rfl rfl (run_loadRow isAgg_A size_A rfl NEW.out.1)) ?_) | (go_at_call 44; (with_reducible refine (nil_reach x y z _).mono ?_); rintro e x2 ⟨rfl, hbx⟩; have RZ := Lib.hid (NEW.out.2.1.below hbx (Nat.le_refl _)); have HB := Lib.hid (NEW.out.2.2.1.trans (hbx.mono NEW.out.2.2.1.size)); clear hbx) | (refine wpList_value rfl (exec_build rfl rfl (HBN.out _)) ?_) | (refine wpList_skip rfl (exec_store rfl rfl rfl (run_storeRow (ds := cellsP z32) size_P RZ.out rfl rfl (cellsP_flat _))) ?_))
  exact bodyPost_ret (results_cell2 (Tryz.results23) rfl rfl (run_loadVarRow agg_P size_P rfl (RZ.out.set (cellsP z32)))) rfl ⟨rfl, below_setRow HB.out (Nat.le_succ _) _⟩
theorem nil_erase (x y : Int) (w : World) : Calls Tryz.prog 17 #[.pointer none, .int .i64 x, .int .i64 y] w fun e w' => e = .returned (.int .i64 12) ∧ Below w.heap.size w w' := by
  go_enter Tryz.func17, Tryz.ntmps17
  go_wp2_with (go_at_call 44; (with_reducible refine (nil_reach x y 0 _).mono ?_); rintro e x2 ⟨rfl, hbx⟩)
  go_ret
  exact ⟨rfl, hbx⟩
theorem nil_block (x y : Int) (w : World) : Calls Tryz.prog 51 #[.pointer none, .int .i64 x, .int .i64 y] w fun e w' => e = .returned (.agg #[.int .i64 0, .int .i64 0, .bool false, .bool false]) ∧ Below w.heap.size w w' := by
  have NEW := Lib.hid (new_one w 67 zBl)
  go_enter Tryz.func51, Tryz.ntmps51
  go_wp2_with (refine wpList_skip rfl (exec_store rfl rfl rfl (run_storeRow (ds := zBl) size_Bl NEW.out.1 rfl rfl (by decide))) ?_)
  exact bodyPost_ret (results_cell1 (Tryz.results51) rfl (run_loadVarRow agg_Bl size_Bl rfl (NEW.out.1.set zBl))) rfl ⟨rfl, below_setRow NEW.out.2.1 (Nat.le_refl _) _⟩
theorem nil_next (x y : Int) (w : World) : Calls Tryz.prog 20 #[.pointer none, .int .i64 x, .int .i64 y] w fun e w' => e = .returned (.int .i64 0) ∧ Below w.heap.size w w' := by
  have hf := fieldBl0 0 0 false false
  go_enter Tryz.func20, Tryz.ntmps20
  go_wp2_with (go_at_call 51; (with_reducible refine (nil_block x y _).mono ?_); rintro e x2 ⟨rfl, hbx⟩)
  go_ret
  exact ⟨rfl, hbx⟩
theorem nil_worn (x y : Int) (w : World) : Calls Tryz.prog 36 #[.pointer none, .int .i64 x, .int .i64 y] w fun e w' => e = .returned (.int .i64 0) ∧ Below w.heap.size w w' := by
  have hf := fieldBl1 0 0 false false
  go_enter Tryz.func36, Tryz.ntmps36
  go_wp2_with (go_at_call 51; (with_reducible refine (nil_block x y _).mono ?_); rintro e x2 ⟨rfl, hbx⟩)
  go_ret
  exact ⟨rfl, hbx⟩
theorem nil_dead (x : Int) (w : World) : Calls Tryz.prog 26 #[.pointer none, .int .i64 x] w fun e w' => e = .returned (.bool true) ∧ Below w.heap.size w w' := by
  go_enter Tryz.func26, Tryz.ntmps26
  go_wp2
  go_ret
  exact ⟨rfl, Below.refl _ _⟩
theorem nil_fault (at' kind x y z n v : Int) (w : World) : Calls Tryz.prog 25 #[.pointer none, encFt at' kind x y z n v] w fun e w' => e = .returned (.bool false) ∧ Below w.heap.size w w' := by
  have NEW := Lib.hid (new_one w 44 (cellsFt at' kind x y z n v))
  go_enter Tryz.func25, Tryz.ntmps25
  go_upto_region 1 with (refine wpList_value rfl (exec_box (cs := cellsFt at' kind x y z n v) rfl rfl _) ?_)
  refine wp_region_plan (S := fun _ => True) [(0, true), (1, true), (2, true), (3, true), (4, true), (5, true), (6, true), (7, true), (8, true), (9, false), (10, true), (11, true)] (by kernel_rfl) (by kernel_rfl) (by kernel_rfl) (by decide) (fun _ _ d _ _ h => by cases d <;> exact h) trivial ?_
  simp only [stepsOf, nth, slotOf]
  go_simp
  iterate 3 (refine wpPlan_plain ?_ (by rfl) ?_ ?_; rotate_left; (focus (intro w' hw'; go_simp; try with_reducible rfl)); go_simp)
  iterate 8 (refine wpPlan_off (by rfl) ?_; go_simp)
  iterate 1 (refine wpPlan_plain ?_ (by rfl) ?_ ?_; rotate_left; (focus (intro w' hw'; go_simp; try with_reducible rfl)); go_simp)
  refine wpPlan_nil ?_
  go_wp2
  go_ret
  exact ⟨rfl, NEW.out.2.1.drew⟩
theorem nil_cut (ops keep : Int) (w : World) : Calls Tryz.prog 21 #[.pointer none, .int .i64 ops, .int .i64 keep] w fun e w' => e = .returned (.tuple #[]) ∧ Below w.heap.size w w' := by
  go_enter Tryz.func21, Tryz.ntmps21
  go_wp2
  (try simp only [Exit.inBlock, Exit.then])
  exact bodyPost_ret (results_none rfl _ _ _) rfl ⟨rfl, Below.refl _ _⟩
theorem nil_on (w : World) : Calls Tryz.prog 22 #[.pointer none] w fun e w' => e = .returned (.tuple #[]) ∧ Below w.heap.size w w' := by
  go_enter Tryz.func22, Tryz.ntmps22
  go_wp2
  (try simp only [Exit.inBlock, Exit.then])
  exact bodyPost_ret (results_none rfl _ _ _) rfl ⟨rfl, Below.refl _ _⟩
theorem nil_power (w : World) : Calls Tryz.prog 37 #[.pointer none] w fun e w' => e = .returned (.bool false) ∧ Below w.heap.size w w' := by
  go_enter Tryz.func37, Tryz.ntmps37
  go_wp2
  go_ret
  exact ⟨rfl, Below.refl _ _⟩
theorem nil_ops (w : World) : Calls Tryz.prog 24 #[.pointer none] w fun e w' => e = .returned (.int .i64 0) ∧ Below w.heap.size w w' := by
  go_enter Tryz.func24, Tryz.ntmps24
  go_wp2
  go_ret
  exact ⟨rfl, Below.refl _ _⟩
theorem nil_broken (w : World) : Calls Tryz.prog 19 #[.pointer none] w fun e w' => e = .returned (.int .i64 0) ∧ Below w.heap.size w w' := by
  go_enter Tryz.func19, Tryz.ntmps19
  go_wp2
  go_ret
  exact ⟨rfl, Below.refl _ _⟩
theorem nil_geo (w : World) : Calls Tryz.prog 38 #[.pointer none] w fun e w' => e = .returned (geoV 0 0 0) ∧ Below w.heap.size w w' := by
  go_enter Tryz.func38, Tryz.ntmps38
  go_wp2
  exact bodyPost_ret (v := geoV 0 0 0) (by simp [results, Tryz.results38, go_sem]) rfl ⟨rfl, (Below.refl _ _).alloc (Nat.le_refl _) _⟩
theorem nandN : NandN where
  program := nil_program
  read := nil_read
  erase := nil_erase
  next := nil_next
  worn := nil_worn
  dead := nil_dead
  fault := nil_fault
  cut := nil_cut
  on := nil_on
  power := nil_power
  ops := nil_ops
  broken := nil_broken
  geo := nil_geo
end Go.Proofs.YtfploeefmnbpcaaGreat
