import Derived.Test.YtfploeefmnbpcaaGreatG09
import Derived.Carry
import Derived.Deep.QuietTactic
import Derived.Deep.DeepCutAuto
/- Package spot at nand.page: Get, Set, Drop, at a cell of a block. -/
namespace Go.Proofs.YtfploeefmnbpcaaGreat
open Go.RowKit Mp Go.ChangeMaps

def zPg : List Value := List.replicate 32 (.int .u8 0) ++ [.bool false, .bool false]
theorem zero_Pg : ∀ W : World, (zeroValue 83).run Tryz.prog W = .ok (.agg zPg.toArray) W := fun W => by kernel_rfl
theorem size_Pg : ∀ W : World, (sizeOf 83).run Tryz.prog W = .ok 34 W := fun W => by kernel_rfl
theorem agg_Pg : ∀ W : World, (isAgg 83).run Tryz.prog W = .ok true W := fun W => by kernel_rfl
theorem size_mapPg : ∀ W : World, (sizeOf 70).run Tryz.prog W = .ok 1 W := fun W => by kernel_rfl
theorem okV_zPg : okV 34 (.agg zPg.toArray) := ⟨zPg, rfl, rfl, by decide⟩
theorem isNilPg_some (b : Nat) : ∀ W : World, Sem.run Tryz.prog (binOp BinOp.eql 70 (.map (some b)) (.map none)) W = .ok (.bool false) W := fun W => by kernel_rfl
theorem isNilPg_none : ∀ W : World, Sem.run Tryz.prog (binOp BinOp.eql 70 (.map none) (.map none)) W = .ok (.bool true) W := fun W => by kernel_rfl

set_option maxRecDepth 100000 in
set_option maxHeartbeats 1000000 in
/-- Get. -/
theorem getPg_any (g o : Nat) (mb : Option Nat) (l : List (A3 × Value)) (a : A3) (w : World) (h : SpotAt w g o mb l) (ha : okA a) (hv : ∀ p ∈ l, okV 34 p.2) :
    Calls Tryz.prog 52 #[.pointer (some ⟨g, o, none⟩), encA a] w fun e w' => e = .returned (.tuple #[(getA l a).getD (.agg zPg.toArray), .bool (getA l a).isSome]) ∧ Below w.heap.size w w' := by
  have hr : okV 34 ((getA l a).getD (.agg zPg.toArray)) := by
    cases hg : getA l a with
    | none => exact okV_zPg
    | some v => exact hv _ (mem_of_getA hg)
  have hlook : ∀ W : World, (∀ k, k < w.heap.size → W.heap[k]? = w.heap[k]?) → (Instr.lookup 70 (.map mb) (encA a) true).run Tryz.prog W = .ok (.tuple #[(getA l a).getD (.agg zPg.toArray), .bool (getA l a).isSome]) W := by
    intro W hW
    cases mb with
    | none =>
      have hl := h.none rfl
      subst hl
      obtain ⟨lit, hlit⟩ := EA.has a ha
      exact Maps.look_nil true EA.law Tryz.underlying70 (zero_Pg _) hlit
    | some b => exact (h.some b rfl).look Tryz.underlying70 ha zero_Pg true W (hW b (h.mblt rfl))
  generalize (getA l a).getD (.agg zPg.toArray) = r, (getA l a).isSome = s at hr hlook ⊢
  obtain ⟨cs, rfl, hcs, hfl⟩ := hr
  have hc := h.cell
  have hlt := h.lt
  have HL := Lib.hid hlook
  have HF := Lib.hid hfl
  clear h hv hlook hfl
  go_enter Tryz.func52, Tryz.ntmps52
  go_upto_region 3 with (first | (refine wpList_value rfl (exec_alloc rfl zero_Pg _) ?_) | (refine wpList_value rfl (exec_box (cs := cellsA a) rfl rfl _) ?_))
  have NEW := new_two w 32 83 (cellsA a) zPg
  obtain ⟨B, hB⟩ : ∃ B, w.heap.size = B := ⟨_, rfl⟩
  generalize (w.alloc (.cells (cellsA a).toArray 32)).alloc (.cells zPg.toArray 83) = W at NEW ⊢
  rw [hB] at NEW HL hlt ⊢
  obtain ⟨RA, RZ, HW, hsz⟩ := NEW
  have hc2 : W.cell? ⟨g, o, none⟩ = some (.map mb) := (HW.cell (p := ⟨g, o, none⟩) hlt).trans hc
  have RA := Lib.hid RA
  have RZ := Lib.hid RZ
  have HW := Lib.hid HW
  have HSZ := Lib.hid hsz
  clear hc hsz
  refine wp_region_plan (S := fun W' => W'.cell? ⟨g, o, none⟩ = some (.map mb) ∧ Hid (∀ k, k < B + 2 → W'.heap[k]? = W.heap[k]?)) [(0, true), (1, true), (2, true), (3, true), (4, true), (5, true), (6, true), (7, true), (8, true), (9, false), (10, false), (11, true)] (by kernel_rfl) (by kernel_rfl) (by kernel_rfl) (by decide) (fun _ _ d _ _ h => by cases d <;> exact h) ⟨hc2, fun _ _ => rfl⟩ ?_
  simp only [stepsOf, nth, slotOf]
  iterate 4 (refine wpPlan_plain ?_ (by rfl) ?_ ?_; rotate_left; (focus (intro w' hw'; obtain ⟨y0, y1⟩ := hw'; go_simp; try with_reducible rfl)); go_simp)
  refine wpPlan_plain (encA a) (by rfl) (fun w' hw' => exec_load rfl rfl (run_loadRow isAgg_A size_A rfl (RA.out.of_block (hw'.2.out B (by omega))))) ?_
  go_simp
  refine wpPlan_plain (.tuple #[.agg cs.toArray, .bool s]) (by rfl) (fun w' hw' => exec_lookup rfl rfl rfl (HL.out w' fun k hk => (hw'.2.out k (by omega)).trans (HW.out.block k hk))) ?_
  go_simp
  iterate 3 (refine wpPlan_plain ?_ (by rfl) ?_ ?_; rotate_left; (focus (intro w' hw'; obtain ⟨y0, y1⟩ := hw'; go_simp; try with_reducible rfl)); go_simp)
  refine wpPlan_loud (by rfl) fun KK hKK => ?_
  refine wp_value (exec_alloc rfl zero_Pg _) ?_
  have NEW := new_one W.drew 83 zPg
  have hs1 : W.drew.heap.size = B + 2 := HSZ.out
  rw [hs1] at NEW ⊢
  generalize W.drew.alloc (.cells zPg.toArray 83) = W1 at NEW ⊢
  obtain ⟨RP, HW1, hsz1⟩ := NEW
  have HW1 := Lib.hid HW1
  refine hKK _ _ _ (fun _ h => h) ⟨?_, ?_⟩ ?_
  · exact (HW1.out.cell (p := ⟨g, o, none⟩) (by show g < _; omega)).trans hc2
  · exact fun k hk => HW1.out.block k hk
  clear hKK
  go_simp
  refine wpPlan_loud (by rfl) fun KK hKK => ?_
  refine wp_skip (exec_store rfl rfl rfl (run_storeRow size_Pg RP rfl hcs HF.out)) ?_
  have RP2 := RP.set cs
  have HW2 := Lib.hid (below_setRow (b := B + 2) HW1.out (Nat.le_refl _) cs.toArray)
  have hsz2 := (setRow_size W1 (B + 2) cs.toArray).trans hsz1
  generalize W1.setRow (B + 2) cs.toArray = W2 at RP2 HW2 hsz2 ⊢
  refine hKK _ _ _ (fun _ h => h) ⟨?_, ?_⟩ ?_
  · exact (HW2.out.cell (p := ⟨g, o, none⟩) (by show g < _; omega)).trans hc2
  · exact fun k hk => HW2.out.block k hk
  clear hKK
  go_simp
  iterate 1 (refine wpPlan_plain ?_ (by rfl) ?_ ?_; rotate_left; (focus (intro w' hw'; obtain ⟨y0, y1⟩ := hw'; go_simp; try with_reducible rfl)); go_simp)
  refine wpPlan_nil ?_
  have RZ2 := Lib.hid (RZ.out.of_block (w' := W2) (HW2.out.block (B + 1) (by omega)))
  go_wp2_with (first | (refine wpList_value rfl (exec_load rfl rfl (run_loadRow agg_Pg size_Pg hcs RP2)) ?_) | (refine wpList_skip rfl (exec_store rfl rfl rfl (run_storeRow size_Pg RZ2.out rfl hcs HF.out)) ?_))
  have RZ3 := RZ2.out.set cs
  refine bodyPost_ret (v := .tuple #[.agg cs.toArray, .bool s]) (results_cell2 (Tryz.results52) rfl rfl (run_loadVarRow agg_Pg size_Pg hcs (RZ2.out.set cs))) rfl ⟨rfl, ?_⟩
  rw [hB]
  exact below_setRow (HW.out.trans ⟨HW2.out.os, HW2.out.tape, HW2.out.output, HW2.out.size, fun k hk => HW2.out.block k (by omega)⟩) (by omega) _
set_option maxRecDepth 100000 in
set_option maxHeartbeats 1000000 in
/-- Set, where there is a map. -/
theorem setPg_some (g o b : Nat) (l : List (A3 × Value)) (a : A3) (v : Value) (w : World) (h : SpotAt w g o (some b) l) (ha : okA a) (hv : okV 34 v) :
    Calls Tryz.prog 49 #[.pointer (some ⟨g, o, none⟩), encA a, v] w fun e w' => e = .returned (.tuple #[]) ∧ SpotAt w' g o (some b) ((a, v) :: delA l a) ∧ But3 g o (some b) w w' := by
  have hblt := h.mblt rfl
  have hlt := h.lt
  have hc := h.cell
  obtain ⟨o', ho', hput⟩ := (h.some b rfl).put Tryz.underlying70 ha v
  obtain ⟨cs, rfl, hcs, hfl⟩ := hv
  have hnil := isNilPg_some b
  have H := Lib.hid h
  have HO := Lib.hid ho'
  have HP := Lib.hid hput
  clear h hput ho'
  go_enter Tryz.func49, Tryz.ntmps49
  go_upto_region 4 with (first | (refine wpList_value rfl (exec_box (cs := cellsA a) rfl rfl _) ?_) | (refine wpList_value rfl (exec_box (cs := cs) rfl rfl _) ?_))
  have NEW := new_two w 32 83 (cellsA a) cs
  obtain ⟨B, hB⟩ : ∃ B, w.heap.size = B := ⟨_, rfl⟩
  generalize (w.alloc (.cells (cellsA a).toArray 32)).alloc (.cells cs.toArray 83) = W at NEW ⊢
  rw [hB] at NEW hlt hblt ⊢
  obtain ⟨RA, RZ, HW, hsz⟩ := NEW
  have hc2 : W.cell? ⟨g, o, none⟩ = some (.map (some b)) := (HW.cell (p := ⟨g, o, none⟩) hlt).trans hc
  have RA := Lib.hid RA
  have RZ := Lib.hid RZ
  have HW := Lib.hid HW
  have HSZ := Lib.hid hsz
  clear hc hsz
  refine wp_region_plan (S := fun W' => W'.cell? ⟨g, o, none⟩ = some (.map (some b)) ∧ Hid (∀ k, k < B + 2 → k ≠ b → W'.heap[k]? = W.heap[k]?)) [(0, true), (1, true), (2, true), (3, true), (4, true), (5, true), (6, false)] (by kernel_rfl) (by kernel_rfl) (by kernel_rfl) (by decide) (fun _ _ d _ _ h => by cases d <;> exact h) ⟨hc2, fun _ _ _ => rfl⟩ ?_
  simp only [stepsOf, nth, slotOf]
  iterate 4 (refine wpPlan_plain ?_ (by rfl) ?_ ?_; rotate_left; (focus (intro w' hw'; obtain ⟨y0, y1⟩ := hw'; go_simp; try with_reducible rfl)); go_simp)
  refine wpPlan_plain (encA a) (by rfl) (fun w' hw' => exec_load rfl rfl (run_loadRow isAgg_A size_A rfl (RA.out.of_block (hw'.2.out B (by omega) (by omega))))) ?_
  go_simp
  refine wpPlan_plain (.agg cs.toArray) (by rfl) (fun w' hw' => exec_load rfl rfl (run_loadRow agg_Pg size_Pg hcs (RZ.out.of_block (hw'.2.out (B + 1) (by omega) (by omega))))) ?_
  go_simp
  refine wpPlan_loud (by rfl) fun KK hKK => ?_
  refine wp_skip (exec_mapUpdate ⟨_, rfl, rfl⟩ rfl rfl (HP.out W.drew (HW.out.block b hblt))) ?_
  obtain ⟨s1, s2⟩ := H.out.after (W := W.drew) (by rw [hB]; exact HW.out.drew) HO.out
  have S1 := Lib.hid s1
  have S2 := Lib.hid s2
  clear s1 s2
  refine hKK (fun W' => W' = setBlock W.drew b o') _ _ (fun W' h => ?_) rfl ?_
  · subst h
    exact ⟨S1.out.cell, fun k _ hk => heap_setBlock_off o' hk⟩
  refine wpPlan_nil ?_
  go_end0
  exact ⟨rfl, S1.out, S2.out⟩
set_option maxRecDepth 100000 in
set_option maxHeartbeats 1000000 in
/-- Set, where no map has been made yet. -/
theorem setPg_none (g o : Nat) (l : List (A3 × Value)) (a : A3) (v : Value) (w : World) (h : SpotAt w g o none l) (ha : okA a) (hv : okV 34 v) :
    Calls Tryz.prog 49 #[.pointer (some ⟨g, o, none⟩), encA a, v] w fun e w' => e = .returned (.tuple #[]) ∧ ∃ b, w.heap.size ≤ b ∧ SpotAt w' g o (some b) ((a, v) :: delA l a) ∧ But3 g o none w w' := by
  have hlt := h.lt
  have hc := h.cell
  have hf := h.free
  have hl := h.none rfl
  subst hl
  obtain ⟨cs, rfl, hcs, hfl⟩ := hv
  have hnil := isNilPg_none
  have hmm := @run_makeMap Tryz.prog
  clear h
  go_enter Tryz.func49, Tryz.ntmps49
  go_upto_region 4 with (first | (refine wpList_value rfl (exec_box (cs := cellsA a) rfl rfl _) ?_) | (refine wpList_value rfl (exec_box (cs := cs) rfl rfl _) ?_) | (refine wpList_skip rfl (exec_store (v := .map (some (w.heap.size + 1 + 1))) rfl rfl rfl (run_storeOne size_mapPg ((Below.cell (p := ⟨g, o, none⟩) ((((Below.refl w.heap.size w).alloc (Nat.le_refl _) _).alloc (by simp) _).alloc (by simp; omega) _) hlt).trans hc) ((Below.frozen (p := ⟨g, o, none⟩) ((((Below.refl w.heap.size w).alloc (Nat.le_refl _) _).alloc (by simp) _).alloc (by simp; omega) _) hlt).trans hf) rfl rfl)) ?_))
  have NEW := set_made w g o (.map none) 32 83 (cellsA a) cs hlt hc hf
  obtain ⟨B, hB⟩ : ∃ B, w.heap.size = B := ⟨_, rfl⟩
  rw [hB] at NEW hlt ⊢
  generalize (((w.alloc (.cells (cellsA a).toArray 32)).alloc (.cells cs.toArray 83)).alloc (.map #[] 0)).setCell ⟨g, o, none⟩ (.map (some (B + 1 + 1))) = W at NEW ⊢
  obtain ⟨RA, RZ, HW, hsz, h⟩ := NEW
  have hblt := h.mblt rfl
  have hc2 := h.cell
  obtain ⟨o', ho', hput⟩ := (h.some (B + 2) rfl).put Tryz.underlying70 ha (.agg cs.toArray)
  have H := Lib.hid h
  have HO := Lib.hid ho'
  have HP := Lib.hid hput
  have RA := Lib.hid RA
  have RZ := Lib.hid RZ
  have HW := Lib.hid HW
  have HSZ := Lib.hid hsz
  clear hc hsz h hput ho' hf
  refine wp_region_plan (S := fun W' => W'.cell? ⟨g, o, none⟩ = some (.map (some (B + 2))) ∧ Hid (∀ k, k < B + 2 → W'.heap[k]? = W.heap[k]?)) [(0, true), (1, true), (2, true), (3, true), (4, true), (5, true), (6, false)] (by kernel_rfl) (by kernel_rfl) (by kernel_rfl) (by decide) (fun _ _ d _ _ h => by cases d <;> exact h) ⟨hc2, fun _ _ => rfl⟩ ?_
  simp only [stepsOf, nth, slotOf]
  iterate 4 (refine wpPlan_plain ?_ (by rfl) ?_ ?_; rotate_left; (focus (intro w' hw'; obtain ⟨y0, y1⟩ := hw'; go_simp; try with_reducible rfl)); go_simp)
  refine wpPlan_plain (encA a) (by rfl) (fun w' hw' => exec_load rfl rfl (run_loadRow isAgg_A size_A rfl (RA.out.of_block (hw'.2.out B (by omega))))) ?_
  go_simp
  refine wpPlan_plain (.agg cs.toArray) (by rfl) (fun w' hw' => exec_load rfl rfl (run_loadRow agg_Pg size_Pg hcs (RZ.out.of_block (hw'.2.out (B + 1) (by omega))))) ?_
  go_simp
  refine wpPlan_loud (by rfl) fun KK hKK => ?_
  refine wp_skip (exec_mapUpdate ⟨_, rfl, rfl⟩ rfl rfl (HP.out W.drew rfl)) ?_
  obtain ⟨s1, s2⟩ := H.out.after (W := W.drew) (Below.refl _ _).drew HO.out
  have S1 := Lib.hid s1
  have S2 := Lib.hid ((HW.out.trans (⟨rfl, rfl, rfl, Nat.le_refl _, fun _ _ _ _ => rfl, fun _ _ => rfl, fun _ => rfl⟩ : But3 g o none W W.drew)).setBlock (b := B + 2) (.inr (by omega)) (by omega) o')
  clear s1 s2
  refine hKK (fun W' => W' = setBlock W.drew (B + 2) o') _ _ (fun W' h => ?_) rfl ?_
  · subst h
    exact ⟨S1.out.cell, fun k hk => heap_setBlock_off o' (by omega)⟩
  refine wpPlan_nil ?_
  go_end0
  exact ⟨rfl, B + 2, by omega, S1.out, S2.out⟩

theorem setPg_any (g o : Nat) (mb : Option Nat) (l : List (A3 × Value)) (a : A3) (v : Value) (w : World) (h : SpotAt w g o mb l) (ha : okA a) (hv : okV 34 v) :
    Calls Tryz.prog 49 #[.pointer (some ⟨g, o, none⟩), encA a, v] w fun e w' => e = .returned (.tuple #[]) ∧ ∃ mb', SpotAt w' g o mb' ((a, v) :: delA l a) ∧ But3 g o mb w w' ∧ (mb' = mb ∨ ∃ b, mb' = some b ∧ w.heap.size ≤ b) := by
  cases mb with
  | none => exact (setPg_none g o l a v w h ha hv).mono fun e w' ⟨h1, b, h2, h3, h4⟩ => ⟨h1, some b, h3, h4, .inr ⟨b, rfl, h2⟩⟩
  | some b => exact (setPg_some g o b l a v w h ha hv).mono fun e w' ⟨h1, h3, h4⟩ => ⟨h1, some b, h3, h4, .inl rfl⟩

set_option maxRecDepth 100000 in
set_option maxHeartbeats 1000000 in
/-- Drop of what is not there. -/
theorem dropPg_no (g o : Nat) (mb : Option Nat) (l : List (A3 × Value)) (a : A3) (w : World) (h : SpotAt w g o mb l) (ha : okA a) (hv : ∀ p ∈ l, okV 34 p.2) (hn : getA l a = none) :
    Calls Tryz.prog 47 #[.pointer (some ⟨g, o, none⟩), encA a] w fun e w' => e = .returned (.bool false) ∧ Below w.heap.size w w' := by
  obtain ⟨RA, HW, hsz⟩ := new_one w 32 (cellsA a)
  have hg := getPg_any g o mb l a (w.alloc (.cells (cellsA a).toArray 32)) (h.below HW (Nat.le_refl _)) ha hv
  rw [hn] at hg
  simp only [Option.getD_none, Option.isSome_none] at hg
  have HG := Lib.hid hg
  have RA := Lib.hid RA
  have HW := Lib.hid HW
  clear hg h hn hv hsz
  go_enter Tryz.func47, Tryz.ntmps47
  go_wp2_with (first | (refine wpList_value rfl (exec_box (cs := cellsA a) rfl rfl _) ?_) | (refine wpList_value (v := encA a) rfl (exec_load rfl rfl (run_loadRow isAgg_A size_A rfl RA.out)) ?_))
  (with_reducible refine HG.out.mono ?_)
  rintro e w1 ⟨rfl, hb⟩
  have HB := Lib.hid (HW.out.trans (hb.mono HW.out.size))
  clear hb
  dsimp only
  refine ‹∀ (a : Act) (w : World), wpList _ _ _ _ a w → _› _ _ ?_
  iterate 3 (refine wpList_step fun K hK => ?_; go_simp; refine hK _ _ ?_; clear hK)
  refine wpList_value rfl (exec_alloc rfl zero_Pg _) ?_
  have NEW := new_one w1 83 zPg
  generalize w1.alloc (.cells zPg.toArray 83) = W1 at NEW ⊢
  obtain ⟨RP, HW1, hsz1⟩ := NEW
  refine wpList_skip rfl (exec_store rfl rfl rfl (run_storeRow size_Pg RP rfl rfl (by decide))) ?_
  have HB2 := Lib.hid (HB.out.trans (below_setRow (HW1.mono HB.out.size) HB.out.size zPg.toArray))
  generalize W1.setRow w1.heap.size zPg.toArray = W2 at HB2 ⊢
  go_wp2
  go_ret
  exact ⟨rfl, HB2.out⟩

set_option maxRecDepth 100000 in
set_option maxHeartbeats 1000000 in
/-- Drop of what is there. -/
theorem dropPg_yes (g o b : Nat) (l : List (A3 × Value)) (a : A3) (v : Value) (w : World) (h : SpotAt w g o (some b) l) (ha : okA a) (hv : ∀ p ∈ l, okV 34 p.2) (hn : getA l a = some v) :
    Calls Tryz.prog 47 #[.pointer (some ⟨g, o, none⟩), encA a] w fun e w' => e = .returned (.bool true) ∧ SpotAt w' g o (some b) (delA l a) ∧ But3 g o (some b) w w' := by
  obtain ⟨RA, HW, hsz⟩ := new_one w 32 (cellsA a)
  have hg := getPg_any g o (some b) l a (w.alloc (.cells (cellsA a).toArray 32)) (h.below HW (Nat.le_refl _)) ha hv
  obtain ⟨cs, rfl, hcs, hfl⟩ := hv _ (mem_of_getA hn)
  rw [hn] at hg
  simp only [Option.getD_some, Option.isSome_some] at hg
  have HG := Lib.hid hg
  have HH := Lib.hid h
  have HFL := Lib.hid hfl
  have RA := Lib.hid RA
  have HW := Lib.hid HW
  have hlt := h.lt
  have hblt := h.mblt rfl
  clear hg h hn hv hfl
  go_enter Tryz.func47, Tryz.ntmps47
  go_wp2_with (first | (refine wpList_value rfl (exec_box (cs := cellsA a) rfl rfl _) ?_) | (refine wpList_value (v := encA a) rfl (exec_load rfl rfl (run_loadRow isAgg_A size_A rfl RA.out)) ?_))
  (with_reducible refine HG.out.mono ?_)
  rintro e w1 ⟨rfl, hb⟩
  have hsz1 : w.heap.size + 1 ≤ w1.heap.size := by have := hb.size; rw [hsz] at this; exact this
  have RA := Lib.hid (RA.out.of_block (hb.block w.heap.size (by rw [hsz]; exact Nat.lt_succ_self _)))
  have HB := Lib.hid (HW.out.trans (hb.mono HW.out.size))
  clear hb
  dsimp only
  refine ‹∀ (a : Act) (w : World), wpList _ _ _ _ a w → _› _ _ ?_
  iterate 3 (refine wpList_step fun K hK => ?_; go_simp; refine hK _ _ ?_; clear hK)
  refine wpList_value rfl (exec_alloc rfl zero_Pg _) ?_
  have NEW := new_one w1 83 zPg
  generalize w1.alloc (.cells zPg.toArray 83) = W1 at NEW ⊢
  obtain ⟨RP, HW1, hszz⟩ := NEW
  refine wpList_skip rfl (exec_store rfl rfl rfl (run_storeRow size_Pg RP rfl hcs HFL.out)) ?_
  have HB2 := Lib.hid (HB.out.trans (below_setRow (HW1.mono HB.out.size) HB.out.size cs.toArray))
  have RA := Lib.hid ((RA.out.of_block (HW1.block w.heap.size (by omega))).other (g := w1.heap.size) (by omega) cs.toArray)
  generalize W1.setRow w1.heap.size cs.toArray = W2 at HB2 RA ⊢
  clear RP HW1 hszz HB
  go_upto_region 4 with fail
  have hs2 := HH.out.below HB2.out (Nat.le_refl _)
  have hc2 := hs2.cell
  obtain ⟨o', ho', hdel⟩ := (hs2.some b rfl).del Tryz.underlying70 ha 0
  have HO := Lib.hid ho'
  have hp : ∀ ty : TypeId, (Builtin.delete_ #[70, 32] ty #[.map (some b), encA a]).run Tryz.prog W2.drew = .ok (.tuple #[]) (setBlock W2.drew b o') := fun _ => hdel W2.drew rfl
  obtain ⟨s1, s2⟩ := HH.out.after (W := W2.drew) HB2.out.drew HO.out
  have S1 := Lib.hid s1
  have S2 := Lib.hid s2
  clear hs2 ho' hdel s1 s2
  refine wp_region_plan (S := fun W' => W'.cell? ⟨g, o, none⟩ = some (.map (some b)) ∧ Hid (∀ k, k < w.heap.size + 1 → k ≠ b → W'.heap[k]? = W2.heap[k]?)) [(0, true), (1, true), (2, true), (3, true), (4, true), (5, false)] (by kernel_rfl) (by kernel_rfl) (by kernel_rfl) (by decide) (fun _ _ d _ _ h => by cases d <;> exact h) ⟨hc2, fun _ _ _ => rfl⟩ ?_
  simp only [stepsOf, nth, slotOf]
  iterate 4 (refine wpPlan_plain ?_ (by rfl) ?_ ?_; rotate_left; (focus (intro w' hw'; obtain ⟨y0, y1⟩ := hw'; go_simp; try with_reducible rfl)); go_simp)
  refine wpPlan_plain (encA a) (by rfl) (fun w' hw' => exec_load rfl rfl (run_loadRow isAgg_A size_A rfl (RA.out.of_block (hw'.2.out w.heap.size (by omega) (by omega))))) ?_
  go_simp
  refine wpPlan_loud (by rfl) fun KK hKK => ?_
  go_simp
  refine hKK (fun W' => W' = setBlock W2.drew b o') _ _ (fun W' h => ?_) rfl ?_
  · subst h
    exact ⟨S1.out.cell, fun k _ hk => heap_setBlock_off o' hk⟩
  refine wpPlan_nil ?_
  go_wp2
  go_ret
  exact ⟨rfl, S1.out, S2.out⟩

theorem dropPg_any (g o : Nat) (mb : Option Nat) (l : List (A3 × Value)) (a : A3) (w : World) (h : SpotAt w g o mb l) (ha : okA a) (hv : ∀ p ∈ l, okV 34 p.2) :
    Calls Tryz.prog 47 #[.pointer (some ⟨g, o, none⟩), encA a] w fun e w' => e = .returned (.bool (getA l a).isSome) ∧ SpotAt w' g o mb (delA l a) ∧ But3 g o mb w w' := by
  cases hn : getA l a with
  | none =>
    rw [delA_no hn]
    exact (dropPg_no g o mb l a w h ha hv hn).mono fun e w' ⟨h1, h2⟩ => ⟨h1, h.below h2 (Nat.le_refl _), But3.of_below h2 h.lt⟩
  | some v =>
    cases mb with
    | none => have := h.none rfl; subst this; cases hn
    | some b => exact (dropPg_yes g o b l a v w h ha hv hn).mono fun e w' ⟨h1, h2, h3⟩ => ⟨h1, h2, h3⟩
end Go.Proofs.YtfploeefmnbpcaaGreat
