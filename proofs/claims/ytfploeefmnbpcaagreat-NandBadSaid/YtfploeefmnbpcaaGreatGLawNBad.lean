import Derived.Test.YtfploeefmnbpcaaGreatG04
/- The law NandBad: the walk. -/
namespace Go.Proofs.YtfploeefmnbpcaaGreat
open Go.RowKit Mp

namespace NB
def st : Nat → FlM
  | 0 => FlM.start 3 8 4
  | i + 1 => ((st i).program 2 0 i (pgN (i + 1))).2
def m1 (n : Nat) : FlM := ((st n).fault 2 2 0 0 0 0).2
def m2 (n : Nat) : FlM := ((m1 n).erase 2 0).2
def m3 (n : Nat) : FlM := ((m2 n).erase 2 0).2
def m4 (n : Nat) : FlM := ((m3 n).program 2 0 n (pgN 0)).2
theorem f1 : ∀ i : Fin 4, ((st i.val).program 2 0 i.val (pgN (i.val + 1))).1 = 0 ∧ (st i.val).ops < 1000 ∧ (st i.val).broken < 1000 := by decide +kernel
theorem f2 : ∀ n : Fin 4, ((st n.val).fault 2 2 0 0 0 0).1 = true ∧ ((m1 n.val).erase 2 0).1 = 7 ∧ (m1 n.val).ops < 1000 ∧ ((m1 n.val).blk 2 0).worn < 1000 ∧ ((m2 n.val).erase 2 0).1 = 7 ∧ (m2 n.val).ops < 1000 ∧ ((m2 n.val).blk 2 0).worn < 1000 ∧
    ((m3 n.val).program 2 0 n.val (pgN 0)).1 = 7 ∧ (m3 n.val).ops < 1000 ∧ (m3 n.val).broken < 1000 ∧ (m4 n.val).read 2 0 n.val = (FlM.noPage, 6) ∧ (m4 n.val).wornOf 2 0 = 0 ∧ ((m4 n.val).erase 2 1).1 = 0 ∧ (m4 n.val).ops < 1000 ∧ ((m4 n.val).blk 2 1).worn < 1000 := by decide +kernel
theorem f3 : ∀ n : Fin 4, ∀ i : Fin 4, i.val < n.val → (m3 n.val).read 2 0 i.val = (pgN (i.val + 1), 0) := by decide +kernel
theorem st_def (i : Nat) : ((st i).program 2 0 i (pgN (i + 1))).2 = st (i + 1) := rfl
theorem st_zero : FlM.start 3 8 4 = st 0 := rfl
theorem m1_def (n : Nat) : ((st n).fault 2 2 0 0 0 0).2 = m1 n := rfl
theorem m2_def (n : Nat) : ((m1 n).erase 2 0).2 = m2 n := rfl
theorem m3_def (n : Nat) : ((m2 n).erase 2 0).2 = m3 n := rfl
theorem m4_def (n : Nat) : ((m3 n).program 2 0 n (pgN 0)).2 = m4 n := rfl
end NB

attribute [local irreducible] NB.st NB.m1 NB.m2 NB.m3 NB.m4

set_option linter.unusedVariables false in
set_option maxRecDepth 100000 in
set_option maxHeartbeats 4000000 in
theorem nandBad_walk {Is : IsT} (C : NandC Is) (G : Begun7) (n0 : Int) (w : World) (hn : (Lit.int .i64 n0).wf = true) :
    Calls Tryz.prog 11 #[.int .i64 n0] w fun e w' => e = .returned (.bool true) ∧ Below w.heap.size w w' := by
  obtain ⟨n, hn4, hw, hdt, -⟩ := mod_pos n0 4 (by omega) (by omega)
  obtain ⟨A, hA⟩ : ∃ A, n0.tmod 4 = A := ⟨_, rfl⟩
  simp only [show ((4 : Nat) : Int) = 4 from rfl, hA] at hw hdt
  have HC := Lib.hid C
  have HG := Lib.hid G
  clear C G
  go_enter Tryz.func11, Tryz.ntmps11
  go_wp2_with (go_at_call 15; refine (HG.out _).mono ?_; rintro e w1 ⟨rfl, hb1⟩; have HB1 := Lib.hid hb1; clear hb1)
  refine (made_any HC.out w w1 HB1.out).mono ?_
  rintro e w2 ⟨g, rfl, hh⟩
  have HH := Lib.hid hh
  clear hh HB1
  rw [NB.st_zero] at HH
  go_wp2_with fail
  go_loopw [5] (fun i wr => ∃ i' : Nat, i' ≤ n ∧ i = .int .i64 i' ∧ Has Is w wr g (NB.st i') []) (fun i _ => (n - intOf i).toNat)
  case atStart => exact ⟨0, by omega, rfl, HH.out⟩
  case round =>
    obtain ⟨i, hi, rfl, hh⟩ := hrel
    replace HH := Lib.hid hh
    clear hh
    by_cases hlt : i < n
    · obtain ⟨f1, f2, f3⟩ := NB.f1 ⟨i, by omega⟩
      simp only at f1 f2 f3
      go_wp2_with fail
      refine (HH.out.program HC.out 2 0 i (pgN (i + 1)) (okP_pgN _ (by omega)) (by omega) (by omega)).mono ?_
      rintro e w5 ⟨rfl, hh, hs⟩
      rw [f1]
      rw [NB.st_def] at hh
      clear f1 f2 f3 hs
      go_wp2_with fail
      go_roundw
      case rel => exact ⟨i + 1, by omega, by simp, hh⟩
      case measure => simp [intOf]; omega
    · obtain rfl : i = n := by omega
      obtain ⟨f1, f2, f3, f4, f5, f6, f7, f8, f9, f10, f11, f12, f13, f14, f15⟩ := NB.f2 ⟨i, hn4⟩
      simp only at f1 f2 f3 f4 f5 f6 f7 f8 f9 f10 f11 f12 f13 f14 f15
      go_wp2_with fail
      refine (HH.out.fault HC.out 0 2 2 0 0 0 0).mono ?_
      rintro e w5 ⟨rfl, hh, hs⟩
      rw [f1]
      rw [NB.m1_def] at hh
      replace HH := Lib.hid hh
      clear hh hs
      go_wp2_with fail
      refine (HH.out.erase HC.out 2 0 (by omega) (by show (FlM.blk _ 2 0).worn < _; omega)).mono ?_
      rintro e w6 ⟨rfl, hh, hs⟩
      rw [f2]
      rw [NB.m2_def] at hh
      replace HH := Lib.hid hh
      clear hh hs
      go_wp2_with fail
      refine (HH.out.erase HC.out 2 0 (by omega) (by show (FlM.blk _ 2 0).worn < _; omega)).mono ?_
      rintro e w7 ⟨rfl, hh, hs⟩
      rw [f5]
      rw [NB.m3_def] at hh
      replace HH := Lib.hid hh
      clear hh hs
      clear f1 f2 f3 f4 f5 f6 f7
      go_wp2_with fail
      go_loopw [8] (fun k wr => ∃ k' : Nat, k' ≤ i ∧ k = .int .i64 k' ∧ Has Is w wr g (NB.m3 i) []) (fun k _ => (i - intOf k).toNat)
      case atStart => exact ⟨0, by omega, rfl, HH.out⟩
      case round =>
        obtain ⟨k, hk, rfl, hh⟩ := hrel
        replace HH := Lib.hid hh
        clear hh
        by_cases hki : k < i
        · have f3 := NB.f3 ⟨i, hn4⟩ ⟨k, by omega⟩ hki
          simp only at f3
          go_wp2_with fail
          refine (HH.out.read HC.out 2 0 k).mono ?_
          rintro e w8 ⟨rfl, hp, hh, hs⟩
          rw [f3]
          replace HH := Lib.hid (hh.alloc HC.out (.cells (cellsP (pgN (k + 1))).toArray 34))
          have HP := Lib.hid (pageAt_new w8 (pgN (k + 1)) rfl 34)
          have HOK := Lib.hid (okP_pgN (k + 1) (by omega))
          clear f3 hh hs hp
          go_wp2_with (first | (refine wpList_storeP _ rfl _ _ rfl w8 _ rfl rfl rfl (pgN (k + 1)) rfl rfl ?_) | (refine wpList_loadPg _ (by rfl) _ rfl w8.heap.size 0 rfl (pgN (k + 1)) rfl HP.out ?_) | (refine wpList_neqPg _ (by rfl) _ _ _ rfl (pgN (k + 1)) (pgN (k + 1)) rfl rfl HOK.out HOK.out ?_))
          go_roundw
          case rel => exact ⟨k + 1, by omega, by simp, HH.out⟩
          case measure => simp [intOf]; omega
        · obtain rfl : k = i := by omega
          go_wp2_with fail
          refine (HH.out.program HC.out 2 0 k (pgN 0) (okP_pgN _ (by omega)) (by omega) (by omega)).mono ?_
          rintro e w8 ⟨rfl, hh, hs⟩
          rw [f8]
          rw [NB.m4_def] at hh
          replace HH := Lib.hid hh
          clear hh hs
          go_wp2_with fail
          refine (HH.out.read HC.out 2 0 k).mono ?_
          rintro e w9 ⟨rfl, hp, hh, hs⟩
          rw [f11]
          replace HH := Lib.hid (hh.alloc HC.out (.cells (cellsP FlM.noPage).toArray 34))
          clear hh hs hp
          go_wp2_with (refine wpList_storeP _ rfl _ _ rfl w9 _ rfl rfl rfl FlM.noPage rfl rfl ?_)
          refine (HH.out.worn HC.out 2 0).mono ?_
          rintro e w10 ⟨rfl, hh, hs⟩
          rw [f12]
          replace HH := Lib.hid hh
          clear hh hs
          go_wp2_with fail
          refine (HH.out.erase HC.out 2 1 (by omega) (by show (FlM.blk _ 2 1).worn < _; omega)).mono ?_
          rintro e w11 ⟨rfl, hh, hs⟩
          rw [f13]
          replace HH := Lib.hid hh
          clear hh hs
          go_wp2_with fail
          go_ret
          exact ⟨rfl, HH.out.bel⟩
end Go.Proofs.YtfploeefmnbpcaaGreat
