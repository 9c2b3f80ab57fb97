import Derived.Test.YtfploeefmnbpcaaGreatG04
import Derived.Deep.DeepCutAuto
/- The guard of the statements on a flash. -/
namespace Go.Proofs.YtfploeefmnbpcaaGreat
open Go.RowKit Mp

def Begun5 : Prop := ∀ w, Calls Tryz.prog 41 #[] w fun e w' => e = .returned (.bool true) ∧ Below w.heap.size w w'
def Begun6 : Prop := ∀ w, Calls Tryz.prog 42 #[] w fun e w' => e = .returned (.bool true) ∧ Below w.heap.size w w'
namespace BF
def p56 : List Nat := 5 :: 6 :: List.replicate 30 0
theorem ok56 : okP p56 := ⟨by decide, by decide⟩
def m0 : FlM := FlM.start 3 8 2
def m1 : FlM := (m0.program 1 0 0 (pgN 7)).2
def m2 : FlM := (m1.program 1 0 0 (pgN 8)).2
def m3 : FlM := (m2.fault 3 1 0 0 0 0).2
def m4 : FlM := (m3.erase 1 0).2
def m5 : FlM := m4.cutAt 0 1
def m6 : FlM := (m5.program 1 0 0 p56).2
def m7 : FlM := m6.on
def p5 : List Nat := 5 :: List.replicate 31 255
def fA : FtM := ⟨3, 4, 2, 0, 0, 0, 0⟩
def fB : FtM := ⟨-1, 0, 0, 0, 0, 0, 0⟩
def fC : FtM := ⟨0, 0, 2, 0, 0, 0, 0⟩
def m8 : FlM := runL m7 (dueL [fA] ((3 : Nat) : Int))
theorem f : (m0.program 1 0 0 (pgN 7)).1 = 0 ∧ m0.ops < 100 ∧ m0.broken < 100 ∧ (m1.program 1 0 0 (pgN 8)).1 = 4 ∧ m1.ops < 100 ∧ m1.broken < 100 ∧ m2.read 1 0 0 = (pgN 7, 0) ∧ m2.read 2 0 0 = (FlM.noPage, 5) ∧ (m2.fault 3 1 0 0 0 0).1 = true ∧
    m3.read 1 0 0 = (FlM.noPage, 6) ∧ (m3.erase 1 0).1 = 0 ∧ m3.ops < 100 ∧ (m3.blk 1 0).worn < 100 ∧ (m5.program 1 0 0 p56).1 = 9 ∧ m5.ops < 100 ∧ m5.broken < 100 ∧ m7.read 1 0 0 = (p5, 0) ∧
    m7.broken = 1 ∧ m7.ops = 3 ∧ m7.wornOf 1 0 = 1 ∧ m7.nextOf 1 0 = 1 ∧ m8.dead 2 = true ∧ m8.d = 3 := by decide +kernel
theorem m0_def : FlM.start 3 8 2 = m0 := rfl
theorem m1_def : (m0.program 1 0 0 (pgN 7)).2 = m1 := rfl
theorem m2_def : (m1.program 1 0 0 (pgN 8)).2 = m2 := rfl
theorem m3_def : (m2.fault 3 1 0 0 0 0).2 = m3 := rfl
theorem m4_def : (m3.erase 1 0).2 = m4 := rfl
theorem m5_def : m4.cutAt 0 1 = m5 := rfl
theorem m6_def : (m5.program 1 0 0 p56).2 = m6 := rfl
theorem m7_def : m6.on = m7 := rfl
theorem m8_def : runL m7 (dueL [fA] ((3 : Nat) : Int)) = m8 := rfl
theorem ff : [fA, fB].filter (mayF 3 8 2) = [fA] := rfl
theorem fd : (dueL [fA] ((3 : Nat) : Int)).length = 1 := rfl
theorem fs : diesF [fC] = 4 := by decide +kernel
theorem ok5 : okP p5 := ⟨by decide, by decide⟩
end BF

theorem At3.drew {w : World} {b : Nat} {x y z : Int} (h : At3 w b x y z) : At3 w.drew b x y z := ⟨h.1, h.2.1, h.2.2⟩
/-- A flash and a plan. -/
def Both (Is : IsT) (PI : PlanT) (w0 w : World) (g : Nat) (M : FlM) (g2 : Nat) (l : List FtM) (L : List Nat) : Prop :=
  ∃ F FP, Is w g M F ∧ PI w g2 l FP ∧ (∀ k, F k → w0.heap.size ≤ k ∧ k ∉ L) ∧ (∀ k, FP k → (w0.heap.size ≤ k ∧ k ∉ L) ∧ ¬ F k) ∧ (∀ k ∈ L, k < w.heap.size) ∧ Below w0.heap.size w0 w
section
variable {Is : IsT} {PI : PlanT} {w0 w w' : World} {g g2 : Nat} {M : FlM} {l : List FtM} {L : List Nat}
theorem Both.bel (h : Both Is PI w0 w g M g2 l L) : Below w0.heap.size w0 w := by obtain ⟨_, _, _, _, _, _, _, h⟩ := h; exact h
theorem Both.below (C : NandC Is) (P : PlanC Is PI) (h : Both Is PI w0 w g M g2 l L) (hb : Below w.heap.size w w') : Both Is PI w0 w' g M g2 l L ∧ Same L w w' := by
  obtain ⟨F, FP, h1, h2, h3, h4, h5, h6⟩ := h
  exact ⟨⟨F, FP, C.keep h1 fun k hk => hb.block k (C.lt h1 k hk), P.keep h2 fun k hk => hb.block k (P.lt h2 k hk), h3, h4, fun k hk => Nat.lt_of_lt_of_le (h5 k hk) hb.size, h6.trans (hb.mono h6.size)⟩, ⟨hb.size, fun k hk => hb.block k (h5 k hk)⟩⟩
theorem Both.new (C : NandC Is) (P : PlanC Is PI) (h : Has Is w0 w g M L) (d b p : Int) (a : Option Addr) (cap : Nat) (l : List FtM) (hf : FaultsIs w a l) (h1 : l.length ≤ cap) (h2 : cap ≤ maxLen) (h3 : l.length ≤ 20) :
    Calls Tryz.prog 33 #[geoV d b p, .slice a l.length cap] w fun e w' => ∃ g2, e = .returned (nptr g2) ∧ Both Is PI w0 w' g M g2 (l.filter (mayF d b p)) L ∧ Same L w w' :=
  (P.new d b p a cap l w hf h1 h2 h3).mono fun e w' ⟨g2, FP, he, i1, i2, i3⟩ => by
    obtain ⟨F, j1, j2, j3, j4⟩ := h
    exact ⟨g2, he, ⟨F, FP, C.keep j1 fun k hk => i3.block k (C.lt j1 k hk), i1, j2, fun k hk => ⟨⟨Nat.le_trans j4.size (i2 k hk), fun hm => by have := j3 k hm; have := i2 k hk; omega⟩, fun hF => by have := C.lt j1 k hF; have := i2 k hk; omega⟩, fun k hk => Nat.lt_of_lt_of_le (j3 k hk) i3.size, j4.trans (i3.mono j4.size)⟩, ⟨i3.size, fun k hk => i3.block k (j3 k hk)⟩⟩
theorem Both.left (C : NandC Is) (P : PlanC Is PI) (h : Both Is PI w0 w g M g2 l L) : Calls Tryz.prog 34 #[nptr g2] w fun e w' => e = .returned (.int .i64 (l.length : Nat)) ∧ Both Is PI w0 w' g M g2 l L ∧ Same L w w' := by
  have h0 := h
  obtain ⟨F, FP, h1, h2, h3, h4, h5, h6⟩ := h
  exact (P.left h2).mono fun e w' ⟨he, hb⟩ => ⟨he, h0.below C P hb⟩
theorem Both.broken (C : NandC Is) (P : PlanC Is PI) (h : Both Is PI w0 w g M g2 l L) : Calls Tryz.prog 19 #[nptr g] w fun e w' => e = .returned (.int .i64 M.broken) ∧ Both Is PI w0 w' g M g2 l L ∧ Same L w w' := by
  have h0 := h
  obtain ⟨F, FP, h1, h2, h3, h4, h5, h6⟩ := h
  exact (C.broken h1).mono fun e w' ⟨he, hb⟩ => ⟨he, h0.below C P hb⟩
theorem Both.ops (C : NandC Is) (P : PlanC Is PI) (h : Both Is PI w0 w g M g2 l L) : Calls Tryz.prog 24 #[nptr g] w fun e w' => e = .returned (.int .i64 M.ops) ∧ Both Is PI w0 w' g M g2 l L ∧ Same L w w' := by
  have h0 := h
  obtain ⟨F, FP, h1, h2, h3, h4, h5, h6⟩ := h
  exact (C.ops h1).mono fun e w' ⟨he, hb⟩ => ⟨he, h0.below C P hb⟩
theorem Both.worn (C : NandC Is) (P : PlanC Is PI) (h : Both Is PI w0 w g M g2 l L) (x y : Int) : Calls Tryz.prog 36 #[nptr g, .int .i64 x, .int .i64 y] w fun e w' => e = .returned (.int .i64 (M.wornOf x y)) ∧ Both Is PI w0 w' g M g2 l L ∧ Same L w w' := by
  have h0 := h
  obtain ⟨F, FP, h1, h2, h3, h4, h5, h6⟩ := h
  exact (C.worn x y h1).mono fun e w' ⟨he, hb⟩ => ⟨he, h0.below C P hb⟩
theorem Both.next (C : NandC Is) (P : PlanC Is PI) (h : Both Is PI w0 w g M g2 l L) (x y : Int) : Calls Tryz.prog 20 #[nptr g, .int .i64 x, .int .i64 y] w fun e w' => e = .returned (.int .i64 (M.nextOf x y)) ∧ Both Is PI w0 w' g M g2 l L ∧ Same L w w' := by
  have h0 := h
  obtain ⟨F, FP, h1, h2, h3, h4, h5, h6⟩ := h
  exact (C.next x y h1).mono fun e w' ⟨he, hb⟩ => ⟨he, h0.below C P hb⟩
theorem Both.dead (C : NandC Is) (P : PlanC Is PI) (h : Both Is PI w0 w g M g2 l L) (x : Nat) (hx : x < M.d) : Calls Tryz.prog 26 #[nptr g, .int .i64 x] w fun e w' => e = .returned (.bool (M.dead x)) ∧ Both Is PI w0 w' g M g2 l L ∧ Same L w w' := by
  have h0 := h
  obtain ⟨F, FP, h1, h2, h3, h4, h5, h6⟩ := h
  exact (C.dead x h1 hx).mono fun e w' ⟨he, hb⟩ => ⟨he, h0.below C P hb⟩
theorem Both.run (P : PlanC Is PI) (h : Both Is PI w0 w g M g2 l L) (hl : l.length ≤ 1000000) :
    Calls Tryz.prog 39 #[nptr g2, nptr g] w fun e w' => e = .returned (.int .i64 ((dueL l M.ops).length : Nat)) ∧ Both Is PI w0 w' g (runL M (dueL l M.ops)) g2 (restL l M.ops) L ∧ Same L w w' := by
  obtain ⟨F, FP, h1, h2, h3, h4, h5, h6⟩ := h
  refine (P.run h2 h1 (fun k hk => (h4 k hk).2) hl).mono fun e w' ⟨he, F', FN', i1, i2, i3, i4, i5, i6⟩ => ⟨he, ⟨FN', F', i2, i1, fun k hk => ?_, fun k hk => ⟨?_, i6 k hk⟩, fun k hk => Nat.lt_of_lt_of_le (h5 k hk) i3.size, ?_⟩, ⟨i3.size, fun k hk => i3.block k (h5 k hk) (fun hF => ?_)⟩⟩
  · rcases i5 k hk with h | h
    · exact h3 k h
    · exact ⟨Nat.le_trans h6.size h, fun hm => by have := h5 k hm; omega⟩
  · rcases i4 k hk with h | h
    · exact (h4 k h).1
    · exact ⟨Nat.le_trans h6.size h, fun hm => by have := h5 k hm; omega⟩
  · have hsz := h6.size
    exact h6.trans ⟨i3.os, i3.tape, i3.output, i3.size, fun k hk => i3.block k (by omega) (fun hF => by rcases hF with hF | hF; have := (h4 k hF).1.1; omega; have := (h3 k hF).1; omega)⟩
  · rcases hF with hF | hF
    · exact (h4 k hF).1.2 hk
    · exact (h3 k hF).2 hk
end

attribute [local irreducible] BF.m0 BF.m1 BF.m2 BF.m3 BF.m4 BF.m5 BF.m6 BF.m7 BF.m8 runL dueL diesF

set_option maxRecDepth 100000 in
set_option maxHeartbeats 4000000 in
theorem begun7_any {Is : IsT} {PI : PlanT} (C : NandC Is) (P : PlanC Is PI) (G5 : Begun5) (G6 : Begun6) (w : World) : Calls Tryz.prog 15 #[] w fun e w' => e = .returned (.bool true) ∧ Below w.heap.size w w' := by
  have HC := Lib.hid C
  have HPL := Lib.hid P
  have HG5 := Lib.hid G5
  have HG6 := Lib.hid G6
  obtain ⟨p1, p2, p3, p4, p5, p6, p7, p8, p9, p10, p11, p12, p13, p14, p15, p16, p17, p18, p19, p20, p21, p22, p23⟩ := BF.f
  clear C P G5 G6
  go_enter Tryz.func15, Tryz.ntmps15
  go_upto_region 2 with fail
  have AG := Lib.hid (At3.new w 25 3 8 2)
  have HB := Lib.hid ((Below.refl w.heap.size w).alloc (Nat.le_refl _) (.cells #[.int .i64 3, .int .i64 8, .int .i64 2] 25))
  have hlt : w.heap.size < (w.alloc (.cells #[.int .i64 3, .int .i64 8, .int .i64 2] 25)).heap.size := by simp only [World.size_alloc]; omega
  obtain ⟨bg, hbg⟩ : ∃ bg, w.heap.size = bg := ⟨_, rfl⟩
  have HW0 := Lib.hid hbg
  rw [hbg] at AG hlt ⊢
  clear hbg
  generalize w.alloc (.cells #[.int .i64 3, .int .i64 8, .int .i64 2] 25) = w1 at AG HB hlt ⊢
  have HLT := Lib.hid hlt
  clear hlt
  obtain ⟨AG0, AG1, AG2⟩ := AG.out
  go_wp2_with fail
  clear AG0 AG1 AG2
  refine (Has.new HC.out 3 8 2 w w1 [bg] (by simpa using HLT.out) HB.out (by decide)).mono ?_
  rintro e w2 ⟨g, rfl, hh, hs⟩
  replace AG := Lib.hid (AG.out.same hs (by simp))
  rw [show FlM.start 3 8 2 = BF.m0 from BF.m0_def] at hh
  have HH := Lib.hid hh
  clear hh hs HB HLT
  go_wp2_with fail
  refine (HC.out.new_none 0 0 0 w2 (by decide)).mono ?_
  rintro e w3 ⟨rfl, hb⟩
  obtain ⟨hh, hs⟩ := HH.out.below HC.out hb
  replace AG := Lib.hid (AG.out.same hs (by simp))
  replace HH := Lib.hid hh
  clear hh hs hb
  go_upto_region 6 with fail
  have AA := Lib.hid (At3.new w3 32 1 0 0)
  replace AG := Lib.hid (AG.out.alloc (.cells #[.int .i64 1, .int .i64 0, .int .i64 0] 32))
  replace HH := Lib.hid (HH.out.add HC.out (.cells #[.int .i64 1, .int .i64 0, .int .i64 0] 32))
  obtain ⟨ba, hba⟩ : ∃ ba, w3.heap.size = ba := ⟨_, rfl⟩
  rw [hba] at AA HH ⊢
  clear hba
  generalize w3.alloc (.cells #[.int .i64 1, .int .i64 0, .int .i64 0] 32) = w4 at AA AG HH ⊢
  obtain ⟨AA0, AA1, AA2⟩ := AA.out
  go_wp2_with fail
  refine wp_region_plan (S := fun w' => At3 w' ba 1 0 0) [(0, true), (1, true), (2, true), (4, true), (5, true), (6, true), (3, false), (7, false), (8, true), (9, true)] (by kernel_rfl) (by kernel_rfl) (by kernel_rfl) (by decide) (fun _ _ d _ _ h => by cases d <;> exact h) AA.out ?_
  simp only [stepsOf, nth, slotOf]
  iterate 6 (refine wpPlan_plain ?_ (by rfl) ?_ ?_; rotate_left; (focus (intro w' hw'; obtain ⟨c0, c1, c2⟩ := hw'; go_simp; try with_reducible rfl)); go_simp)
  refine wpPlan_loud (by rfl) (fun K hK => ?_)
  go_simp
  go_wp2_with fail
  replace HH := Lib.hid (HH.out.drew HC.out)
  replace AA := Lib.hid AA.out.drew
  replace AG := Lib.hid AG.out.drew
  refine (HH.out.program HC.out 1 0 0 (pgN 7) (okP_pgN _ (by omega)) (by omega) (by omega)).mono ?_
  rintro e w5 ⟨rfl, hh, hs⟩
  rw [p1]
  rw [BF.m1_def] at hh
  replace AA := Lib.hid (AA.out.same hs (by simp))
  replace AG := Lib.hid (AG.out.same hs (by simp))
  replace HH := Lib.hid hh
  clear hh hs AA0 AA1 AA2
  go_wp2_with fail
  refine hK (fun w' => At3 w' ba 1 0 0) _ _ (fun _ h => h) AA.out ?_
  clear hK
  refine wpPlan_loud (by rfl) (fun K hK => ?_)
  go_simp
  go_wp2_with fail
  refine (HH.out.program HC.out 1 0 0 (pgN 8) (okP_pgN _ (by omega)) (by omega) (by omega)).mono ?_
  rintro e w6 ⟨rfl, hh, hs⟩
  rw [p4]
  rw [BF.m2_def] at hh
  replace AA := Lib.hid (AA.out.same hs (by simp))
  replace AG := Lib.hid (AG.out.same hs (by simp))
  replace HH := Lib.hid hh
  clear hh hs
  go_wp2_with fail
  refine hK (fun w' => At3 w' ba 1 0 0) _ _ (fun _ h => h) AA.out ?_
  clear hK
  iterate 2 (refine wpPlan_plain ?_ (by rfl) ?_ ?_; rotate_left; (focus (intro w' hw'; go_simp; try with_reducible rfl)); go_simp)
  refine wpPlan_nil ?_
  obtain ⟨AA0, AA1, AA2⟩ := AA.out
  go_wp2_with fail
  clear AA0 AA1 AA2
  refine (HH.out.read HC.out 1 0 0).mono ?_
  rintro e w7 ⟨rfl, hp, hh, hs⟩
  rw [p7]
  replace AA := Lib.hid (AA.out.same hs (by simp))
  replace AG := Lib.hid (AG.out.same hs (by simp))
  have X6 := Lib.hid (PgBox.new w7 (pgN 7) rfl 34)
  replace HH := Lib.hid (hh.add HC.out (.cells (cellsP (pgN 7)).toArray 34))
  replace AA := Lib.hid (AA.out.alloc (.cells (cellsP (pgN 7)).toArray 34))
  replace AG := Lib.hid (AG.out.alloc (.cells (cellsP (pgN 7)).toArray 34))
  clear hp hh hs
  go_upto_region 8 with (refine wpList_storeP _ rfl _ _ rfl w7 _ rfl rfl rfl (pgN 7) rfl rfl ?_)
  obtain ⟨bw7, hbw7⟩ : ∃ bw7, w7.heap.size = bw7 := ⟨_, rfl⟩
  rw [hbw7] at HH X6 ⊢
  clear hbw7
  generalize w7.alloc (.cells (cellsP (pgN 7)).toArray 34) = w8 at HH AA AG X6 ⊢
  go_wp2_with fail
  refine (HH.out.read HC.out 2 0 0).mono ?_
  rintro e w9 ⟨rfl, hp, hh, hs⟩
  rw [p8]
  replace AA := Lib.hid (AA.out.same hs (by simp))
  replace AG := Lib.hid (AG.out.same hs (by simp))
  replace X6 := Lib.hid (X6.out.same hs (by simp))
  replace HH := Lib.hid (hh.add HC.out (.cells (cellsP FlM.noPage).toArray 34))
  replace AA := Lib.hid (AA.out.alloc (.cells (cellsP FlM.noPage).toArray 34))
  replace AG := Lib.hid (AG.out.alloc (.cells (cellsP FlM.noPage).toArray 34))
  replace X6 := Lib.hid (X6.out.alloc (.cells (cellsP FlM.noPage).toArray 34))
  clear hp hh hs
  go_upto_region 9 with (refine wpList_storeP _ rfl _ _ rfl w9 _ rfl rfl rfl FlM.noPage rfl rfl ?_)
  obtain ⟨bw9, hbw9⟩ : ∃ bw9, w9.heap.size = bw9 := ⟨_, rfl⟩
  rw [hbw9] at HH  ⊢
  clear hbw9
  generalize w9.alloc (.cells (cellsP FlM.noPage).toArray 34) = w10 at HH AA AG X6 ⊢
  obtain ⟨AA0, AA1, AA2⟩ := AA.out
  go_wp2_with fail
  clear AA0 AA1 AA2
  refine (HH.out.fault HC.out 0 3 1 0 0 0 0).mono ?_
  rintro e w11 ⟨rfl, hh, hs⟩
  rw [p9]
  rw [BF.m3_def] at hh
  replace AA := Lib.hid (AA.out.same hs (by simp))
  replace AG := Lib.hid (AG.out.same hs (by simp))
  replace X6 := Lib.hid (X6.out.same hs (by simp))
  replace HH := Lib.hid hh
  clear hh hs
  obtain ⟨AA0, AA1, AA2⟩ := AA.out
  go_wp2_with fail
  clear AA0 AA1 AA2
  refine (HH.out.read HC.out 1 0 0).mono ?_
  rintro e w12 ⟨rfl, hp, hh, hs⟩
  rw [p10]
  replace AA := Lib.hid (AA.out.same hs (by simp))
  replace AG := Lib.hid (AG.out.same hs (by simp))
  replace X6 := Lib.hid (X6.out.same hs (by simp))
  replace HH := Lib.hid (hh.add HC.out (.cells (cellsP FlM.noPage).toArray 34))
  replace AA := Lib.hid (AA.out.alloc (.cells (cellsP FlM.noPage).toArray 34))
  replace AG := Lib.hid (AG.out.alloc (.cells (cellsP FlM.noPage).toArray 34))
  replace X6 := Lib.hid (X6.out.alloc (.cells (cellsP FlM.noPage).toArray 34))
  clear hp hh hs
  go_upto_region 11 with (refine wpList_storeP _ rfl _ _ rfl w12 _ rfl rfl rfl FlM.noPage rfl rfl ?_)
  obtain ⟨bw12, hbw12⟩ : ∃ bw12, w12.heap.size = bw12 := ⟨_, rfl⟩
  rw [hbw12] at HH  ⊢
  clear hbw12
  generalize w12.alloc (.cells (cellsP FlM.noPage).toArray 34) = w13 at HH AA AG X6 ⊢
  go_wp2_with fail
  refine (HH.out.erase HC.out 1 0 (by omega) (by show (FlM.blk _ 1 0).worn < _; omega)).mono ?_
  rintro e w14 ⟨rfl, hh, hs⟩
  rw [p11]
  rw [BF.m4_def] at hh
  replace AA := Lib.hid (AA.out.same hs (by simp))
  replace AG := Lib.hid (AG.out.same hs (by simp))
  replace X6 := Lib.hid (X6.out.same hs (by simp))
  replace HH := Lib.hid hh
  clear hh hs
  go_wp2_with fail
  refine (HH.out.cut HC.out 0 1 (by decide) (by decide)).mono ?_
  rintro e w15 ⟨rfl, hh, hs⟩
  rw [BF.m5_def] at hh
  replace AA := Lib.hid (AA.out.same hs (by simp))
  replace AG := Lib.hid (AG.out.same hs (by simp))
  replace X6 := Lib.hid (X6.out.same hs (by simp))
  replace HH := Lib.hid hh
  clear hh hs
  obtain ⟨AA0, AA1, AA2⟩ := AA.out
  go_wp2_with fail
  clear AA0 AA1 AA2
  refine (HH.out.program HC.out 1 0 0 BF.p56 BF.ok56 (by omega) (by omega)).mono ?_
  rintro e w16 ⟨rfl, hh, hs⟩
  rw [p14]
  rw [BF.m6_def] at hh
  replace AA := Lib.hid (AA.out.same hs (by simp))
  replace AG := Lib.hid (AG.out.same hs (by simp))
  replace X6 := Lib.hid (X6.out.same hs (by simp))
  replace HH := Lib.hid hh
  clear hh hs
  go_wp2_with fail
  refine (HH.out.on HC.out).mono ?_
  rintro e w17 ⟨rfl, hh, hs⟩
  rw [BF.m7_def] at hh
  replace AA := Lib.hid (AA.out.same hs (by simp))
  replace AG := Lib.hid (AG.out.same hs (by simp))
  replace X6 := Lib.hid (X6.out.same hs (by simp))
  replace HH := Lib.hid hh
  clear hh hs
  obtain ⟨AA0, AA1, AA2⟩ := AA.out
  go_wp2_with fail
  clear AA0 AA1 AA2
  refine (HH.out.read HC.out 1 0 0).mono ?_
  rintro e w18 ⟨rfl, hp, hh, hs⟩
  rw [p17]
  replace AA := Lib.hid (AA.out.same hs (by simp))
  replace AG := Lib.hid (AG.out.same hs (by simp))
  replace X6 := Lib.hid (X6.out.same hs (by simp))
  have X15 := Lib.hid (PgBox.new w18 BF.p5 rfl 34)
  replace HH := Lib.hid (hh.add HC.out (.cells (cellsP BF.p5).toArray 34))
  replace AA := Lib.hid (AA.out.alloc (.cells (cellsP BF.p5).toArray 34))
  replace AG := Lib.hid (AG.out.alloc (.cells (cellsP BF.p5).toArray 34))
  replace X6 := Lib.hid (X6.out.alloc (.cells (cellsP BF.p5).toArray 34))
  clear hp hh hs
  go_upto_region 16 with (refine wpList_storeP _ rfl _ _ rfl w18 _ rfl rfl rfl BF.p5 rfl rfl ?_)
  obtain ⟨bw18, hbw18⟩ : ∃ bw18, w18.heap.size = bw18 := ⟨_, rfl⟩
  rw [hbw18] at HH X15 ⊢
  clear hbw18
  generalize w18.alloc (.cells (cellsP BF.p5).toArray 34) = w19 at HH AA AG X6 X15 ⊢
  obtain ⟨AG0, AG1, AG2⟩ := AG.out
  go_wp2_with fail
  clear AG0 AG1 AG2
  have HFS := Lib.hid (FaultsIs.new w19 44 [BF.fA, BF.fB])
  replace HH := Lib.hid (HH.out.alloc HC.out (.cells ([BF.fA, BF.fB].flatMap cellsFau).toArray 44))
  replace AA := Lib.hid (AA.out.alloc (.cells ([BF.fA, BF.fB].flatMap cellsFau).toArray 44))
  replace AG := Lib.hid (AG.out.alloc (.cells ([BF.fA, BF.fB].flatMap cellsFau).toArray 44))
  replace X6 := Lib.hid (X6.out.alloc (.cells ([BF.fA, BF.fB].flatMap cellsFau).toArray 44))
  replace X15 := Lib.hid (X15.out.alloc (.cells ([BF.fA, BF.fB].flatMap cellsFau).toArray 44))
  refine (Both.new HC.out HPL.out HH.out 3 8 2 (some ⟨w19.heap.size, 0, none⟩) 2 [BF.fA, BF.fB] HFS.out (by decide) (by unfold maxLen; omega) (by decide)).mono ?_
  rintro e w20 ⟨g2, rfl, hh, hs⟩
  rw [BF.ff] at hh
  replace AA := Lib.hid (AA.out.same hs (by simp))
  replace AG := Lib.hid (AG.out.same hs (by simp))
  replace X6 := Lib.hid (X6.out.same hs (by simp))
  replace X15 := Lib.hid (X15.out.same hs (by simp))
  replace HH := Lib.hid hh
  clear hh hs HFS
  go_wp2_with fail
  refine (HG5.out w20).mono ?_
  rintro e w21 ⟨rfl, hb⟩
  obtain ⟨hh, hs⟩ := HH.out.below HC.out HPL.out hb
  replace AA := Lib.hid (AA.out.same hs (by simp))
  replace AG := Lib.hid (AG.out.same hs (by simp))
  replace X6 := Lib.hid (X6.out.same hs (by simp))
  replace X15 := Lib.hid (X15.out.same hs (by simp))
  replace HH := Lib.hid hh
  clear hh hs hb
  go_wp2_with fail
  refine (HG6.out w21).mono ?_
  rintro e w22 ⟨rfl, hb⟩
  obtain ⟨hh, hs⟩ := HH.out.below HC.out HPL.out hb
  replace AA := Lib.hid (AA.out.same hs (by simp))
  replace AG := Lib.hid (AG.out.same hs (by simp))
  replace X6 := Lib.hid (X6.out.same hs (by simp))
  replace X15 := Lib.hid (X15.out.same hs (by simp))
  replace HH := Lib.hid hh
  clear hh hs hb
  go_wp2_with fail
  refine (HH.out.broken HC.out HPL.out).mono ?_
  rintro e w23 ⟨rfl, hh, hs⟩
  rw [p18, show ((1 : Nat) : Int) = 1 from rfl]
  replace AA := Lib.hid (AA.out.same hs (by simp))
  replace AG := Lib.hid (AG.out.same hs (by simp))
  replace X6 := Lib.hid (X6.out.same hs (by simp))
  replace X15 := Lib.hid (X15.out.same hs (by simp))
  replace HH := Lib.hid hh
  clear hh hs
  have y0 : w23.cell? ⟨bw18, 0, none⟩ = some (.int .u8 5) := X15.out.cell 0 (by omega)
  have y1 : w23.cell? ⟨bw18, 1, none⟩ = some (.int .u8 255) := X15.out.cell 1 (by omega)
  have HOK := Lib.hid (okP_pgN 7 (by omega))
  dsimp only
  refine ‹∀ (a : Act) (w : World), wpList _ _ _ _ a w → _› _ _ ?_
  iterate 7 (refine wpList_step fun K hK => ?_; go_simp; refine hK _ _ ?_; clear hK)
  refine wpList_loadPg _ (by rfl) _ rfl bw7 0 rfl (pgN 7) X6.out.length X6.out.at ?_
  go_simp
  refine wpList_step fun K hK => ?_
  go_simp
  refine hK _ _ ?_
  clear hK
  refine wpList_eqlPg _ (by rfl) _ _ _ rfl (pgN 7) (pgN 7) rfl rfl HOK.out HOK.out ?_
  go_simp
  go_wp2_with fail
  clear y0 y1
  refine (HH.out.ops HC.out HPL.out).mono ?_
  rintro e w24 ⟨rfl, hh, hs⟩
  rw [p19, show ((3 : Nat) : Int) = 3 from rfl]
  replace AA := Lib.hid (AA.out.same hs (by simp))
  replace AG := Lib.hid (AG.out.same hs (by simp))
  replace X6 := Lib.hid (X6.out.same hs (by simp))
  replace X15 := Lib.hid (X15.out.same hs (by simp))
  replace HH := Lib.hid hh
  clear hh hs
  go_wp2_with fail
  refine (HH.out.worn HC.out HPL.out 1 0).mono ?_
  rintro e w25 ⟨rfl, hh, hs⟩
  rw [p20]
  replace AA := Lib.hid (AA.out.same hs (by simp))
  replace AG := Lib.hid (AG.out.same hs (by simp))
  replace X6 := Lib.hid (X6.out.same hs (by simp))
  replace X15 := Lib.hid (X15.out.same hs (by simp))
  replace HH := Lib.hid hh
  clear hh hs
  go_wp2_with fail
  refine (HH.out.next HC.out HPL.out 1 0).mono ?_
  rintro e w26 ⟨rfl, hh, hs⟩
  rw [p21]
  replace AA := Lib.hid (AA.out.same hs (by simp))
  replace AG := Lib.hid (AG.out.same hs (by simp))
  replace X6 := Lib.hid (X6.out.same hs (by simp))
  replace X15 := Lib.hid (X15.out.same hs (by simp))
  replace HH := Lib.hid hh
  clear hh hs
  go_wp2_with fail
  refine (HH.out.left HC.out HPL.out).mono ?_
  rintro e w27 ⟨rfl, hh, hs⟩
  rw [show (([BF.fA].length : Nat) : Int) = 1 from rfl]
  replace AA := Lib.hid (AA.out.same hs (by simp))
  replace AG := Lib.hid (AG.out.same hs (by simp))
  replace X6 := Lib.hid (X6.out.same hs (by simp))
  replace X15 := Lib.hid (X15.out.same hs (by simp))
  replace HH := Lib.hid hh
  clear hh hs
  go_wp2_with fail
  refine (HH.out.run HPL.out (by decide)).mono ?_
  rintro e w28 ⟨rfl, hh, hs⟩
  rw [p19] at hh ⊢
  rw [BF.fd, show ((1 : Nat) : Int) = 1 from rfl]
  rw [BF.m8_def] at hh
  replace AA := Lib.hid (AA.out.same hs (by simp))
  replace AG := Lib.hid (AG.out.same hs (by simp))
  replace X6 := Lib.hid (X6.out.same hs (by simp))
  replace X15 := Lib.hid (X15.out.same hs (by simp))
  replace HH := Lib.hid hh
  clear hh hs
  go_wp2_with fail
  refine (HH.out.dead HC.out HPL.out 2 (by rw [p23]; omega)).mono ?_
  rintro e w29 ⟨rfl, hh, hs⟩
  rw [p22]
  replace AA := Lib.hid (AA.out.same hs (by simp))
  replace AG := Lib.hid (AG.out.same hs (by simp))
  replace X6 := Lib.hid (X6.out.same hs (by simp))
  replace X15 := Lib.hid (X15.out.same hs (by simp))
  replace HH := Lib.hid hh
  clear hh hs
  go_wp2_with fail
  have HFS := Lib.hid (FaultsIs.new w29 44 [BF.fC])
  have HB := Lib.hid (HH.out.bel.alloc HH.out.bel.size (.cells ([BF.fC].flatMap cellsFau).toArray 44))
  refine (HPL.out.dies (some ⟨w29.heap.size, 0, none⟩) 1 [BF.fC] _ HFS.out (by decide) (by unfold maxLen; omega) (by decide)).mono ?_
  rintro e w30 ⟨rfl, hb⟩
  rw [BF.fs]
  go_wp2_with fail
  go_ret
  exact ⟨rfl, HB.out.trans (hb.mono HB.out.size)⟩
end Go.Proofs.YtfploeefmnbpcaaGreat
