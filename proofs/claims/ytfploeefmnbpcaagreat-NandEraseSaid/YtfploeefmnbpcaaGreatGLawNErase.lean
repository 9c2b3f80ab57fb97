import Derived.Test.YtfploeefmnbpcaaGreatG04
/- The law NandErase: the walk. -/
namespace Go.Proofs.YtfploeefmnbpcaaGreat
open Go.RowKit Mp

namespace NE
def rw_ (M : FlM) (t : Nat) : Nat → FlM
  | 0 => M
  | i + 1 => ((rw_ M t i).program 1 3 i (pgN t)).2
def m0 : FlM := ((FlM.start 3 8 4).program 1 2 0 (pgN 9)).2
def st (n : Nat) : Nat → FlM
  | 0 => m0
  | t + 1 => ((rw_ (st n t) t n).erase 1 3).2
theorem f1 : ∀ n : Fin 5, ∀ t : Fin 7, ∀ i : Fin 4, i.val < n.val → ((rw_ (st n.val t.val) t.val i.val).program 1 3 i.val (pgN t.val)).1 = 0 ∧ (rw_ (st n.val t.val) t.val i.val).ops < 1000 ∧ (rw_ (st n.val t.val) t.val i.val).broken < 1000 := by decide +kernel
theorem f2 : ∀ n : Fin 5, ∀ t : Fin 7, ((rw_ (st n.val t.val) t.val n.val).erase 1 3).1 = 0 ∧ (rw_ (st n.val t.val) t.val n.val).ops < 1000 ∧ ((rw_ (st n.val t.val) t.val n.val).blk 1 3).worn < 1000 ∧ (st n.val (t.val + 1)).nextOf 1 3 = 0 ∧ (st n.val (t.val + 1)).wornOf 1 3 = t.val + 1 := by decide +kernel
theorem f3 : ∀ n : Fin 5, ∀ t : Fin 7, (st n.val t.val).read 1 2 0 = (pgN 9, 0) ∧ (st n.val t.val).wornOf 1 2 = 0 ∧ (st n.val t.val).wornOf 0 3 = 0 := by decide +kernel
theorem f0 : ((FlM.start 3 8 4).program 1 2 0 (pgN 9)).1 = 0 := by decide +kernel
theorem m0_def (n : Nat) : ((FlM.start 3 8 4).program 1 2 0 (pgN 9)).2 = st n 0 := rfl
theorem rw_def (n t i : Nat) : ((rw_ (st n t) t i).program 1 3 i (pgN t)).2 = rw_ (st n t) t (i + 1) := rfl
theorem rw_zero (n t : Nat) : rw_ (st n t) t 0 = st n t := rfl
theorem st_def (n t : Nat) : ((rw_ (st n t) t n).erase 1 3).2 = st n (t + 1) := rfl
end NE

attribute [local irreducible] NE.rw_ NE.st NE.m0

set_option linter.unusedVariables false in
set_option maxRecDepth 100000 in
set_option maxHeartbeats 4000000 in
theorem nandErase_walk {Is : IsT} (C : NandC Is) (G : Begun7) (n0 times0 : Int) (w : World) (hn : (Lit.int .i64 n0).wf = true) (ht : (Lit.int .i64 times0).wf = true) :
    Calls Tryz.prog 9 #[.int .i64 n0, .int .i64 times0] w fun e w' => e = .returned (.bool true) ∧ Below w.heap.size w w' := by
  obtain ⟨n, hn5, hw, hdt, -⟩ := mod_pos n0 5 (by omega) (by omega)
  obtain ⟨tm, ht7, hwt, hdtt, -⟩ := mod_pos times0 7 (by omega) (by omega)
  obtain ⟨A, hA⟩ : ∃ A, n0.tmod 5 = A := ⟨_, rfl⟩
  obtain ⟨B, hB⟩ : ∃ B, times0.tmod 7 = B := ⟨_, rfl⟩
  simp only [show ((5 : Nat) : Int) = 5 from rfl, hA] at hw hdt
  simp only [show ((7 : Nat) : Int) = 7 from rfl, hB] at hwt hdtt
  have HC := Lib.hid C
  have HG := Lib.hid G
  clear C G
  go_enter Tryz.func9, Tryz.ntmps9
  go_wp2_with (go_at_call 15; refine (HG.out _).mono ?_; rintro e w1 ⟨rfl, hb1⟩; have HB1 := Lib.hid hb1; clear hb1)
  refine (made_any HC.out w w1 HB1.out).mono ?_
  rintro e w2 ⟨g, rfl, hh⟩
  have HH := Lib.hid hh
  clear hh HB1
  go_wp2_with fail
  have A7 := Lib.hid (At3.new w2 32 1 2 0)
  have HN := Lib.hid (HH.out.add HC.out (.cells #[.int .i64 1, .int .i64 2, .int .i64 0] 32))
  obtain ⟨b, hb⟩ : ∃ b, w2.heap.size = b := ⟨_, rfl⟩
  rw [hb] at HN A7
  rw [hb]
  replace HH := HN
  clear HN hb
  refine (HH.out.program HC.out 1 2 0 (pgN 9) (okP_pgN _ (by omega)) (by decide) (by decide)).mono ?_
  rintro e w3 ⟨rfl, hh, hs⟩
  rw [NE.f0]
  replace HH := Lib.hid (show Has Is w w3 g ((FlM.start 3 8 4).program 1 2 0 (pgN 9)).2 [b] from hh)
  replace A7 := Lib.hid (A7.out.same hs (by simp))
  clear hh hs
  rw [NE.m0_def n] at HH
  go_wp2_with fail
  go_loopw [8] (fun i wr => ∃ t : Nat, t ≤ tm ∧ i = .int .i64 t ∧ Has Is w wr g (NE.st n t) [b] ∧ At3 wr b 1 2 0) (fun i _ => (tm - intOf i).toNat)
  case atStart => exact ⟨0, by omega, rfl, HH.out, A7.out⟩
  case round =>
    obtain ⟨t, hk, rfl, hh, ha⟩ := hrel
    replace HH := Lib.hid hh
    replace A7 := Lib.hid ha
    clear hh ha
    by_cases hlt : t < tm
    · go_wp2_with fail
      go_loopw [9] (fun i wr => ∃ i' : Nat, i' ≤ n ∧ i = .int .i64 i' ∧ Has Is w wr g (NE.rw_ (NE.st n t) t i') [b] ∧ At3 wr b 1 2 0) (fun i _ => (n - intOf i).toNat)
      case atStart => exact ⟨0, by omega, rfl, by rw [NE.rw_zero]; exact HH.out, A7.out⟩
      case round =>
        obtain ⟨i, hi, rfl, hh, ha⟩ := hrel
        replace HH := Lib.hid hh
        replace A7 := Lib.hid ha
        clear hh ha
        by_cases hin : i < n
        · obtain ⟨f1, f2, f3⟩ := NE.f1 ⟨n, hn5⟩ ⟨t, by omega⟩ ⟨i, by omega⟩ hin
          simp only at f1 f2 f3
          go_wp2_with fail
          refine (HH.out.program HC.out 1 3 i (pgN t) (okP_pgN _ (by omega)) (by omega) (by omega)).mono ?_
          rintro e w5 ⟨rfl, hh, hs⟩
          rw [f1]
          rw [NE.rw_def] at hh
          clear f1 f2 f3
          go_wp2_with fail
          go_roundw
          case rel => exact ⟨i + 1, by omega, by simp, hh, A7.out.same hs (by simp)⟩
          case measure => simp [intOf]; omega
        · obtain rfl : i = n := by omega
          obtain ⟨f1, f2, f3, f4, f5⟩ := NE.f2 ⟨i, hn5⟩ ⟨t, by omega⟩
          simp only at f1 f2 f3 f4 f5
          go_wp2_with fail
          refine (HH.out.erase HC.out 1 3 (by omega) (by show (FlM.blk _ 1 3).worn < _; omega)).mono ?_
          rintro e w5 ⟨rfl, hh, hs⟩
          rw [f1]
          rw [NE.st_def] at hh
          replace HH := Lib.hid hh
          replace A7 := Lib.hid (A7.out.same hs (by simp))
          clear f1 f2 f3 hh hs
          go_wp2_with fail
          refine (HH.out.next HC.out 1 3).mono ?_
          rintro e w6 ⟨rfl, hh, hs⟩
          rw [f4]
          replace HH := Lib.hid hh
          replace A7 := Lib.hid (A7.out.same hs (by simp))
          clear f4 hh hs
          go_wp2_with fail
          refine (HH.out.worn HC.out 1 3).mono ?_
          rintro e w7 ⟨rfl, hh, hs⟩
          rw [f5]
          replace A7 := Lib.hid (A7.out.same hs (by simp))
          clear f5 hs
          go_wp2_with fail
          go_roundw
          case rel => exact ⟨t + 1, by omega, by simp, hh, A7.out⟩
          case measure => simp [intOf]; omega
    · obtain rfl : t = tm := by omega
      obtain ⟨f1, f2, f3⟩ := NE.f3 ⟨n, hn5⟩ ⟨t, ht7⟩
      simp only at f1 f2 f3
      obtain ⟨A70, A71, A72⟩ := A7.out
      go_wp2_with fail
      refine (HH.out.read HC.out 1 2 0).mono ?_
      rintro e w5 ⟨rfl, hp, hh, hs⟩
      rw [f1]
      rw [f1] at hp
      replace HH := Lib.hid (hh.alloc HC.out (.cells (cellsP (pgN 9)).toArray 34))
      have HP := Lib.hid (pageAt_new w5 (pgN 9) rfl 34)
      have HOK := Lib.hid (okP_pgN 9 (by omega))
      clear f1 hh hs hp A7 A70 A71 A72
      go_wp2_with (first | (refine wpList_storeP _ rfl _ _ rfl w5 _ rfl rfl rfl (pgN 9) rfl rfl ?_) | (refine wpList_loadPg _ (by rfl) _ rfl w5.heap.size 0 rfl (pgN 9) rfl HP.out ?_) | (refine wpList_eqlPg _ (by rfl) _ _ _ rfl (pgN 9) (pgN 9) rfl rfl HOK.out HOK.out ?_))
      refine (HH.out.worn HC.out 1 2).mono ?_
      rintro e w6 ⟨rfl, hh, hs⟩
      rw [f2]
      replace HH := Lib.hid hh
      clear f2 hh hs
      go_wp2_with fail
      refine (HH.out.worn HC.out 0 3).mono ?_
      rintro e w7 ⟨rfl, hh, hs⟩
      rw [f3]
      replace HH := Lib.hid hh
      clear f3 hh hs
      go_wp2_with fail
      go_ret
      exact ⟨rfl, HH.out.bel⟩
end Go.Proofs.YtfploeefmnbpcaaGreat
