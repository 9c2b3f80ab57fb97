import Derived.Test.YtfploeefmnbpcaaGreatG04
/- The law NandEraseCut: the walk. -/
namespace Go.Proofs.YtfploeefmnbpcaaGreat
open Go.RowKit Mp

namespace NC
def st : Nat → FlM
  | 0 => FlM.start 3 8 4
  | i + 1 => ((st i).program 1 0 i (pgN 5)).2
def c (q K : Nat) : FlM := { st q with cut := some (0, K) }
def m2 (q K : Nat) : FlM := ((c q K).erase 1 0).2
def m3 (q K : Nat) : FlM := (m2 q K).on
def m4 (q K : Nat) : FlM := ((m3 q K).erase 1 0).2
theorem f1 : ∀ i : Fin 4, ((st i.val).program 1 0 i.val (pgN 5)).1 = 0 ∧ (st i.val).ops < 1000 ∧ (st i.val).broken < 1000 := by decide +kernel
theorem f2 : ∀ q : Fin 5, ∀ K : Fin 33, ((c q.val K.val).erase 1 0).1 = 9 ∧ (c q.val K.val).ops < 1000 ∧ ((c q.val K.val).blk 1 0).worn < 1000 ∧ (m2 q.val K.val).power = false ∧ (m3 q.val K.val).nextOf 1 0 = 4 ∧ (m3 q.val K.val).wornOf 1 0 = 0 ∧
    ((m3 q.val K.val).erase 1 0).1 = 0 ∧ (m3 q.val K.val).ops < 1000 ∧ ((m3 q.val K.val).blk 1 0).worn < 1000 ∧ ((m4 q.val K.val).program 1 0 0 (pgN 0)).1 = 0 ∧ (m4 q.val K.val).ops < 1000 ∧ (m4 q.val K.val).broken < 1000 := by decide +kernel
theorem f3 : ∀ q : Fin 5, ∀ K : Fin 33, ∀ i : Fin 4, (m3 q.val K.val).read 1 0 i.val = (FlM.noPage, 6) := by decide +kernel
theorem f4 : ∀ q : Fin 5, (st q.val).power = true := by decide +kernel
theorem c_def (q : Nat) (hq : q < 5) (keep : Int) : (st q).cutAt 0 keep = c q (max 0 (min keep 32)).toNat := FlM.cutAt_pos (f4 ⟨q, hq⟩) (by omega)
theorem st_def (i : Nat) : ((st i).program 1 0 i (pgN 5)).2 = st (i + 1) := rfl
theorem st_zero : FlM.start 3 8 4 = st 0 := rfl
theorem m2_def (q K : Nat) : ((c q K).erase 1 0).2 = m2 q K := rfl
theorem m3_def (q K : Nat) : (m2 q K).on = m3 q K := rfl
theorem m4_def (q K : Nat) : ((m3 q K).erase 1 0).2 = m4 q K := rfl
end NC

attribute [local irreducible] NC.st NC.c NC.m2 NC.m3 NC.m4

set_option linter.unusedVariables false in
set_option maxRecDepth 100000 in
set_option maxHeartbeats 4000000 in
theorem nandEraseCut_walk {Is : IsT} (C : NandC Is) (G : Begun7) (n0 keep : Int) (w : World) (hn : (Lit.int .i64 n0).wf = true) (hk : (Lit.int .i64 keep).wf = true) :
    Calls Tryz.prog 13 #[.int .i64 n0, .int .i64 keep] w fun e w' => e = .returned (.bool true) ∧ Below w.heap.size w w' := by
  have hk2 : keep ≤ 9223372036854775807 := by
    have : -9223372036854775808 ≤ keep ∧ keep ≤ 9223372036854775807 := by simpa [Lit.wf, IntKind.min, IntKind.max, IntKind.signed, IntKind.bits] using hk
    exact this.2
  obtain ⟨n, hn5, hw, hdt, -⟩ := mod_pos n0 5 (by omega) (by omega)
  obtain ⟨A, hA⟩ : ∃ A, n0.tmod 5 = A := ⟨_, rfl⟩
  simp only [show ((5 : Nat) : Int) = 5 from rfl, hA] at hw hdt
  have HK := Lib.hid hk2
  clear hk hk2
  have HC := Lib.hid C
  have HG := Lib.hid G
  clear C G
  go_enter Tryz.func13, Tryz.ntmps13
  go_wp2_with (go_at_call 15; refine (HG.out _).mono ?_; rintro e w1 ⟨rfl, hb1⟩; have HB1 := Lib.hid hb1; clear hb1)
  refine (made_any HC.out w w1 HB1.out).mono ?_
  rintro e w2 ⟨g, rfl, hh⟩
  have HH := Lib.hid hh
  clear hh HB1
  rw [NC.st_zero] at HH
  go_wp2_with fail
  go_loopw [7] (fun i wr => ∃ i' : Nat, i' ≤ n ∧ i' ≤ 4 ∧ i = .int .i64 i' ∧ Has Is w wr g (NC.st i') []) (fun i _ => (n - intOf i).toNat)
  case atStart => exact ⟨0, by omega, by omega, rfl, HH.out⟩
  case round =>
    obtain ⟨i, hi, hi4, rfl, hh⟩ := hrel
    replace HH := Lib.hid hh
    clear hh
    by_cases hlt : i < n
    · have h4 : i < 4 := by omega
      obtain ⟨f1, f2, f3⟩ := NC.f1 ⟨i, h4⟩
      simp only at f1 f2 f3
      go_wp2_with fail
      refine (HH.out.program HC.out 1 0 i (pgN 5) (okP_pgN _ (by omega)) (by omega) (by omega)).mono ?_
      rintro e w5 ⟨rfl, hh, hs⟩
      rw [f1]
      rw [NC.st_def] at hh
      clear f1 f2 f3 hs
      go_wp2_with fail
      go_roundw
      case rel => exact ⟨i + 1, by omega, by omega, by simp, hh⟩
      case measure => simp [intOf]; omega
    · obtain rfl : i = n := by omega
      obtain ⟨K, hK⟩ : ∃ K, (max 0 (min keep 32)).toNat = K := ⟨_, rfl⟩
      have hK33 : K < 33 := by omega
      have hc := NC.c_def i hn5 keep
      rw [hK] at hc
      obtain ⟨f1, f2, f3, f4, f5, f6, f7, f8, f9, f10, f11, f12⟩ := NC.f2 ⟨i, hn5⟩ ⟨K, hK33⟩
      simp only at f1 f2 f3 f4 f5 f6 f7 f8 f9 f10 f11 f12
      have HCU := Lib.hid hc
      clear hK hc
      go_wp2_with fail
      refine (HH.out.cut HC.out 0 keep (by decide) HK.out).mono ?_
      rintro e w5 ⟨rfl, hh, hs⟩
      rw [HCU.out] at hh
      replace HH := Lib.hid hh
      clear hh hs
      go_wp2_with fail
      refine (HH.out.erase HC.out 1 0 (by omega) (by show (FlM.blk _ 1 0).worn < _; omega)).mono ?_
      rintro e w6 ⟨rfl, hh, hs⟩
      rw [f1]
      rw [NC.m2_def] at hh
      replace HH := Lib.hid hh
      clear hh hs
      go_wp2_with fail
      refine (HH.out.power HC.out).mono ?_
      rintro e w7 ⟨rfl, hh, hs⟩
      rw [f4]
      replace HH := Lib.hid hh
      clear hh hs
      go_wp2_with fail
      refine (HH.out.on HC.out).mono ?_
      rintro e w8 ⟨rfl, hh, hs⟩
      rw [NC.m3_def] at hh
      replace HH := Lib.hid hh
      clear hh hs f1 f2 f3 f4
      go_wp2_with fail
      go_loopw [8] (fun k wr => ∃ k' : Nat, k' ≤ 4 ∧ k = .int .i64 k' ∧ Has Is w wr g (NC.m3 i K) []) (fun k _ => (4 - intOf k).toNat)
      case atStart => exact ⟨0, by omega, rfl, HH.out⟩
      case round =>
        obtain ⟨k, hk, rfl, hh⟩ := hrel
        replace HH := Lib.hid hh
        clear hh
        by_cases hki : k < 4
        · have f3 := NC.f3 ⟨i, hn5⟩ ⟨K, hK33⟩ ⟨k, hki⟩
          simp only at f3
          go_wp2_with fail
          refine (HH.out.read HC.out 1 0 k).mono ?_
          rintro e w9 ⟨rfl, hp, hh, hs⟩
          rw [f3]
          replace HH := Lib.hid (hh.alloc HC.out (.cells (cellsP FlM.noPage).toArray 34))
          clear f3 hh hs hp
          go_wp2_with (refine wpList_storeP _ rfl _ _ rfl w9 _ rfl rfl rfl FlM.noPage rfl rfl ?_)
          go_roundw
          case rel => exact ⟨k + 1, by omega, by simp, HH.out⟩
          case measure => simp [intOf]; omega
        · obtain rfl : k = 4 := by omega
          go_wp2_with fail
          refine (HH.out.next HC.out 1 0).mono ?_
          rintro e w9 ⟨rfl, hh, hs⟩
          rw [f5]
          replace HH := Lib.hid hh
          clear hh hs
          go_wp2_with fail
          refine (HH.out.worn HC.out 1 0).mono ?_
          rintro e w10 ⟨rfl, hh, hs⟩
          rw [f6]
          replace HH := Lib.hid hh
          clear hh hs
          go_wp2_with fail
          refine (HH.out.erase HC.out 1 0 (by omega) (by show (FlM.blk _ 1 0).worn < _; omega)).mono ?_
          rintro e w11 ⟨rfl, hh, hs⟩
          rw [f7]
          rw [NC.m4_def] at hh
          replace HH := Lib.hid hh
          clear hh hs
          go_wp2_with fail
          refine (HH.out.program HC.out 1 0 0 (pgN 0) (okP_pgN _ (by omega)) (by omega) (by omega)).mono ?_
          rintro e w12 ⟨rfl, hh, hs⟩
          rw [f10]
          go_wp2_with fail
          go_ret
          exact ⟨rfl, hh.bel⟩
end Go.Proofs.YtfploeefmnbpcaaGreat
