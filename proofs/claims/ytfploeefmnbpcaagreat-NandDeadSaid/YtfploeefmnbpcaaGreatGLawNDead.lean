import Derived.Test.YtfploeefmnbpcaaGreatG04
/- The law NandDead: the walk. -/
namespace Go.Proofs.YtfploeefmnbpcaaGreat
open Go.RowKit Mp

namespace ND
def m1 (d : Nat) : FlM := ((FlM.start 4 8 2).program d 0 0 (pgN 1)).2
def m2 (d : Nat) : FlM := ((m1 d).fault 4 d 3 1 0 0).2
def m3 (d : Nat) (on : Bool) : FlM := if on then ((m2 d).cutAt (-1) 0).on else m2 d
def m4 (d : Nat) (on : Bool) : FlM := ((m3 d on).program d 0 1 (pgN 0)).2
def m5 (d : Nat) (on : Bool) : FlM := ((m4 d on).erase d 0).2
def m6 (d e : Nat) (on : Bool) : FlM := ((m5 d on).program e 0 0 (pgN 2)).2
theorem facts0 : ∀ d : Fin 4, ∀ on : Bool, ((FlM.start 4 8 2).program d.val 0 0 (pgN 1)).1 = 0 ∧ ((m1 d.val).fault 4 d.val 3 1 0 0).1 = true ∧
    (m3 d.val on).ops = 1 ∧ (m3 d.val on).broken = 0 ∧ (m3 d.val on).read d.val 0 0 = (FlM.noPage, 8) ∧ ((m3 d.val on).program d.val 0 1 (pgN 0)).1 = 8 ∧
    (m4 d.val on).ops = 1 ∧ ((m4 d.val on).blk d.val 0).worn = 0 ∧ ((m4 d.val on).erase d.val 0).1 = 8 ∧
    (m5 d.val on).d = 4 ∧ (m5 d.val on).dead d.val = true ∧ (m5 d.val on).dead ((d.val + 1) % 4) = false ∧ (m5 d.val on).ops = 1 ∧ (m5 d.val on).broken = 0 ∧
    ((m5 d.val on).program (((d.val + 1) % 4 : Nat) : Int) 0 0 (pgN 2)).1 = 0 ∧ (m6 d.val ((d.val + 1) % 4) on).ops = 2 := by decide +kernel
theorem facts (d e : Nat) (hd : d < 4) (he : (d + 1) % 4 = e) (on : Bool) : ((FlM.start 4 8 2).program d 0 0 (pgN 1)).1 = 0 ∧ ((m1 d).fault 4 d 3 1 0 0).1 = true ∧
    (m3 d on).ops = 1 ∧ (m3 d on).broken = 0 ∧ (m3 d on).read d 0 0 = (FlM.noPage, 8) ∧ ((m3 d on).program d 0 1 (pgN 0)).1 = 8 ∧
    (m4 d on).ops = 1 ∧ ((m4 d on).blk d 0).worn = 0 ∧ ((m4 d on).erase d 0).1 = 8 ∧
    (m5 d on).d = 4 ∧ (m5 d on).dead d = true ∧ (m5 d on).dead e = false ∧ (m5 d on).ops = 1 ∧ (m5 d on).broken = 0 ∧
    ((m5 d on).program e 0 0 (pgN 2)).1 = 0 ∧ (m6 d e on).ops = 2 := by
  subst he; exact facts0 ⟨d, hd⟩ on
theorem m3_true (d : Nat) : m3 d true = ((m2 d).cutAt (-1) 0).on := if_pos rfl
theorem m3_false (d : Nat) : m3 d false = m2 d := if_neg (by decide)
end ND

set_option linter.unusedVariables false in
set_option maxRecDepth 100000 in
set_option maxHeartbeats 4000000 in
theorem nandDead_walk {Is : IsT} (C : NandC Is) (G : Begun7) (die : Int) (on : Bool) (w : World) (hd : (Lit.int .i64 die).wf = true) :
    Calls Tryz.prog 5 #[.int .i64 die, .bool on] w fun e w' => e = .returned (.bool true) ∧ Below w.heap.size w w' := by

  obtain ⟨d, hd4, hw, hdt, -⟩ := mod_pos die 4 (by omega) (by omega)
  obtain ⟨A, hA⟩ : ∃ A, die.tmod 4 = A := ⟨_, rfl⟩
  simp only [show ((4 : Nat) : Int) = 4 from rfl, hA] at hw hdt
  obtain ⟨e, he⟩ : ∃ e, (d + 1) % 4 = e := ⟨_, rfl⟩
  have he4 : e < 4 := by omega
  have hw2 : wrap64 ((d : Int) + 1) = d + 1 := IntWalk.wrap64_in _ (by omega)
  have hdt2 : ((d : Int) + 1).tmod 4 = e := by rw [Int.tmod_eq_emod_of_nonneg (by omega)]; omega
  have FX := Lib.hid (ND.facts d e hd4 he on)
  have HC := Lib.hid C
  have HG := Lib.hid G
  clear C G hd
  go_enter Tryz.func5, Tryz.ntmps5
  go_wp2_with (go_at_call 15; refine (HG.out _).mono ?_; rintro e w1 ⟨rfl, hb1⟩; have HB1 := Lib.hid hb1; clear hb1)
  refine (Has.new HC.out 4 8 2 w w1 [] (by simp) HB1.out (by decide)).mono ?_
  rintro e w2 ⟨g, rfl, hh, -⟩
  have HH := Lib.hid hh
  clear hh HB1
  go_wp2_with fail
  have A7 := Lib.hid (At3.new w2 32 d 0 0)
  have HN := Lib.hid (HH.out.add HC.out (.cells #[.int .i64 d, .int .i64 0, .int .i64 0] 32))
  obtain ⟨b, hb⟩ : ∃ b, w2.heap.size = b := ⟨_, rfl⟩
  rw [hb] at HN A7
  rw [hb]
  replace HH := HN
  clear HN hb
  obtain ⟨p1, p2, p3, p4, p5, p6, p7, p8, p9, p10, p11, p12, p13, p14, p15, p16⟩ := FX.out
  refine (HH.out.program HC.out d 0 0 (pgN 1) (okP_pgN _ (by omega)) (by decide) (by decide)).mono ?_
  rintro e w3 ⟨rfl, hh, hs⟩
  rw [p1]
  replace HH := Lib.hid (show Has Is w w3 g (ND.m1 d) [b] from hh)
  replace A7 := Lib.hid (A7.out.same hs (by simp))
  clear hh hs
  clear p1
  go_wp2_with fail
  refine (HH.out.fault HC.out 0 4 d 3 1 0 0).mono ?_
  rintro e w4 ⟨rfl, hh, hs⟩
  rw [p2]
  replace HH := Lib.hid (show Has Is w w4 g (ND.m2 d) [b] from hh)
  replace A7 := Lib.hid (A7.out.same hs (by simp))
  clear hh hs
  clear p2
  cases on
  · rw [← ND.m3_false] at HH
    obtain ⟨A70, A71, A72⟩ := A7.out
    go_wp2_with fail
    clear A70 A71 A72
    refine (HH.out.read HC.out d 0 0).mono ?_
    rintro e w5 ⟨rfl, hp, hh, hs⟩
    rw [p5]
    replace HH := Lib.hid (show Has Is w w5 g (ND.m3 d false) [b] from hh)
    replace A7 := Lib.hid (A7.out.same hs (by simp))
    clear hh hs
    clear hp p5
    go_wp2_with (refine wpList_storeP _ rfl _ _ rfl w5 _ rfl rfl rfl FlM.noPage rfl rfl ?_)
    replace A7 := Lib.hid ((A7.out.alloc (.cells (cellsP FlM.noPage).toArray 34)).alloc (.cells #[.int .i64 e, .int .i64 0, .int .i64 0] 32))
    replace HH := Lib.hid ((HH.out.alloc HC.out (.cells (cellsP FlM.noPage).toArray 34)).add HC.out (.cells #[.int .i64 e, .int .i64 0, .int .i64 0] 32))
    have A10 := Lib.hid (At3.new (w5.alloc (.cells (cellsP FlM.noPage).toArray 34)) 32 e 0 0)
    obtain ⟨c, hc⟩ : ∃ c, w5.heap.size + 1 = c := ⟨_, rfl⟩
    have hc' : (w5.alloc (.cells (cellsP FlM.noPage).toArray 34)).heap.size = c := by simp only [World.size_alloc]; exact hc
    rw [hc'] at HH A10
    rw [hc]
    clear hc hc'
    generalize (w5.alloc (.cells (cellsP FlM.noPage).toArray 34)).alloc (.cells #[.int .i64 e, .int .i64 0, .int .i64 0] 32) = w6 at HH A7 A10 ⊢
    refine (HH.out.program HC.out d 0 1 (pgN 0) (okP_pgN _ (by omega)) (by rw [p3]; omega) (by rw [p4]; omega)).mono ?_
    rintro e w7 ⟨rfl, hh, hs⟩
    rw [p6]
    replace HH := Lib.hid (show Has Is w w7 g (ND.m4 d false) [c, b] from hh)
    replace A7 := Lib.hid (A7.out.same hs (by simp))
    replace A10 := Lib.hid (A10.out.same hs (by simp))
    clear hh hs
    clear p6 p3 p4
    go_wp2_with fail
    refine (HH.out.erase HC.out d 0 (by rw [p7]; omega) (by show (FlM.blk _ d 0).worn < _; rw [p8]; omega)).mono ?_
    rintro e w8 ⟨rfl, hh, hs⟩
    rw [p9]
    replace HH := Lib.hid (show Has Is w w8 g (ND.m5 d false) [c, b] from hh)
    replace A7 := Lib.hid (A7.out.same hs (by simp))
    replace A10 := Lib.hid (A10.out.same hs (by simp))
    clear hh hs
    clear p9 p7 p8
    go_wp2_with fail
    refine (HH.out.dead HC.out d (by rw [p10]; omega)).mono ?_
    rintro e w9 ⟨rfl, hh, hs⟩
    rw [p11]
    replace HH := Lib.hid (show Has Is w w9 g (ND.m5 d false) [c, b] from hh)
    replace A7 := Lib.hid (A7.out.same hs (by simp))
    replace A10 := Lib.hid (A10.out.same hs (by simp))
    clear hh hs
    clear p11
    obtain ⟨A70, A71, A72⟩ := A7.out
    obtain ⟨A100, A101, A102⟩ := A10.out
    go_wp2_with fail
    clear A70 A71 A72
    clear A100 A101 A102
    refine (HH.out.dead HC.out e (by rw [p10]; omega)).mono ?_
    rintro e w10 ⟨rfl, hh, hs⟩
    rw [p12]
    replace HH := Lib.hid (show Has Is w w10 g (ND.m5 d false) [c, b] from hh)
    replace A7 := Lib.hid (A7.out.same hs (by simp))
    replace A10 := Lib.hid (A10.out.same hs (by simp))
    clear hh hs
    clear p12 p10
    obtain ⟨A70, A71, A72⟩ := A7.out
    obtain ⟨A100, A101, A102⟩ := A10.out
    go_wp2_with fail
    clear A70 A71 A72
    clear A100 A101 A102
    refine (HH.out.program HC.out e 0 0 (pgN 2) (okP_pgN _ (by omega)) (by rw [p13]; omega) (by rw [p14]; omega)).mono ?_
    rintro e w11 ⟨rfl, hh, hs⟩
    rw [p15]
    replace HH := Lib.hid (show Has Is w w11 g (ND.m6 d e false) [c, b] from hh)
    replace A7 := Lib.hid (A7.out.same hs (by simp))
    replace A10 := Lib.hid (A10.out.same hs (by simp))
    clear hh hs
    clear p15 p13 p14
    go_wp2_with fail
    refine (HH.out.ops HC.out).mono ?_
    rintro e w12 ⟨rfl, hh, hs⟩
    rw [p16]
    replace HH := Lib.hid (show Has Is w w12 g (ND.m6 d e false) [c, b] from hh)
    replace A7 := Lib.hid (A7.out.same hs (by simp))
    replace A10 := Lib.hid (A10.out.same hs (by simp))
    clear hh hs
    clear p16
    go_wp2_with fail
    go_ret
    exact ⟨rfl, HH.out.bel⟩
  · go_wp2_with fail
    refine (HH.out.cut HC.out (-1) 0 (by decide) (by decide)).mono ?_
    rintro e w4 ⟨rfl, hh, hs⟩
    replace HH := Lib.hid (show Has Is w w4 g ((ND.m2 d).cutAt (-1) 0) [b] from hh)
    replace A7 := Lib.hid (A7.out.same hs (by simp))
    clear hh hs
    go_wp2_with fail
    refine (HH.out.on HC.out).mono ?_
    rintro e w4 ⟨rfl, hh, hs⟩
    replace HH := Lib.hid (show Has Is w w4 g ((ND.m2 d).cutAt (-1) 0).on [b] from hh)
    replace A7 := Lib.hid (A7.out.same hs (by simp))
    clear hh hs
    rw [← ND.m3_true] at HH
    obtain ⟨A70, A71, A72⟩ := A7.out
    go_wp2_with fail
    clear A70 A71 A72
    refine (HH.out.read HC.out d 0 0).mono ?_
    rintro e w5 ⟨rfl, hp, hh, hs⟩
    rw [p5]
    replace HH := Lib.hid (show Has Is w w5 g (ND.m3 d true) [b] from hh)
    replace A7 := Lib.hid (A7.out.same hs (by simp))
    clear hh hs
    clear hp p5
    go_wp2_with (refine wpList_storeP _ rfl _ _ rfl w5 _ rfl rfl rfl FlM.noPage rfl rfl ?_)
    replace A7 := Lib.hid ((A7.out.alloc (.cells (cellsP FlM.noPage).toArray 34)).alloc (.cells #[.int .i64 e, .int .i64 0, .int .i64 0] 32))
    replace HH := Lib.hid ((HH.out.alloc HC.out (.cells (cellsP FlM.noPage).toArray 34)).add HC.out (.cells #[.int .i64 e, .int .i64 0, .int .i64 0] 32))
    have A10 := Lib.hid (At3.new (w5.alloc (.cells (cellsP FlM.noPage).toArray 34)) 32 e 0 0)
    obtain ⟨c, hc⟩ : ∃ c, w5.heap.size + 1 = c := ⟨_, rfl⟩
    have hc' : (w5.alloc (.cells (cellsP FlM.noPage).toArray 34)).heap.size = c := by simp only [World.size_alloc]; exact hc
    rw [hc'] at HH A10
    rw [hc]
    clear hc hc'
    generalize (w5.alloc (.cells (cellsP FlM.noPage).toArray 34)).alloc (.cells #[.int .i64 e, .int .i64 0, .int .i64 0] 32) = w6 at HH A7 A10 ⊢
    refine (HH.out.program HC.out d 0 1 (pgN 0) (okP_pgN _ (by omega)) (by rw [p3]; omega) (by rw [p4]; omega)).mono ?_
    rintro e w7 ⟨rfl, hh, hs⟩
    rw [p6]
    replace HH := Lib.hid (show Has Is w w7 g (ND.m4 d true) [c, b] from hh)
    replace A7 := Lib.hid (A7.out.same hs (by simp))
    replace A10 := Lib.hid (A10.out.same hs (by simp))
    clear hh hs
    clear p6 p3 p4
    go_wp2_with fail
    refine (HH.out.erase HC.out d 0 (by rw [p7]; omega) (by show (FlM.blk _ d 0).worn < _; rw [p8]; omega)).mono ?_
    rintro e w8 ⟨rfl, hh, hs⟩
    rw [p9]
    replace HH := Lib.hid (show Has Is w w8 g (ND.m5 d true) [c, b] from hh)
    replace A7 := Lib.hid (A7.out.same hs (by simp))
    replace A10 := Lib.hid (A10.out.same hs (by simp))
    clear hh hs
    clear p9 p7 p8
    go_wp2_with fail
    refine (HH.out.dead HC.out d (by rw [p10]; omega)).mono ?_
    rintro e w9 ⟨rfl, hh, hs⟩
    rw [p11]
    replace HH := Lib.hid (show Has Is w w9 g (ND.m5 d true) [c, b] from hh)
    replace A7 := Lib.hid (A7.out.same hs (by simp))
    replace A10 := Lib.hid (A10.out.same hs (by simp))
    clear hh hs
    clear p11
    obtain ⟨A70, A71, A72⟩ := A7.out
    obtain ⟨A100, A101, A102⟩ := A10.out
    go_wp2_with fail
    clear A70 A71 A72
    clear A100 A101 A102
    refine (HH.out.dead HC.out e (by rw [p10]; omega)).mono ?_
    rintro e w10 ⟨rfl, hh, hs⟩
    rw [p12]
    replace HH := Lib.hid (show Has Is w w10 g (ND.m5 d true) [c, b] from hh)
    replace A7 := Lib.hid (A7.out.same hs (by simp))
    replace A10 := Lib.hid (A10.out.same hs (by simp))
    clear hh hs
    clear p12 p10
    obtain ⟨A70, A71, A72⟩ := A7.out
    obtain ⟨A100, A101, A102⟩ := A10.out
    go_wp2_with fail
    clear A70 A71 A72
    clear A100 A101 A102
    refine (HH.out.program HC.out e 0 0 (pgN 2) (okP_pgN _ (by omega)) (by rw [p13]; omega) (by rw [p14]; omega)).mono ?_
    rintro e w11 ⟨rfl, hh, hs⟩
    rw [p15]
    replace HH := Lib.hid (show Has Is w w11 g (ND.m6 d e true) [c, b] from hh)
    replace A7 := Lib.hid (A7.out.same hs (by simp))
    replace A10 := Lib.hid (A10.out.same hs (by simp))
    clear hh hs
    clear p15 p13 p14
    go_wp2_with fail
    refine (HH.out.ops HC.out).mono ?_
    rintro e w12 ⟨rfl, hh, hs⟩
    rw [p16]
    replace HH := Lib.hid (show Has Is w w12 g (ND.m6 d e true) [c, b] from hh)
    replace A7 := Lib.hid (A7.out.same hs (by simp))
    replace A10 := Lib.hid (A10.out.same hs (by simp))
    clear hh hs
    clear p16
    go_wp2_with fail
    go_ret
    exact ⟨rfl, HH.out.bel⟩
end Go.Proofs.YtfploeefmnbpcaaGreat
