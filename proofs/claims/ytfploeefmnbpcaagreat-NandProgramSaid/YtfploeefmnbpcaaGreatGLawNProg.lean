import Derived.Test.YtfploeefmnbpcaaGreatG04
/- The law NandProgram: the walk. -/
namespace Go.Proofs.YtfploeefmnbpcaaGreat
open Go.RowKit Mp

namespace NP
def m0 (p : Nat) : FlM := ((FlM.start 3 8 4).fault 1 0 1 p 0 0).2
def st (p : Nat) : Nat → FlM
  | 0 => m0 p
  | i + 1 => ((st p i).program 0 1 i (pgN i)).2
def rs (p : Nat) : Nat → FlM
  | 0 => ((st p (p + 2)).erase 0 1).2
  | i + 1 => ((rs p i).program 0 1 i (pgN 0)).2
theorem f0 : ∀ p : Fin 3, ((FlM.start 3 8 4).fault 1 0 1 p.val 0 0).1 = true := by decide +kernel
theorem f1 : ∀ p : Fin 3, ∀ i : Fin 5, i.val ≤ p.val + 1 → ((st p.val i.val).program 0 1 i.val (pgN i.val)).1 = (if i.val = p.val then 7 else 0) ∧ (st p.val i.val).ops < 1000 ∧ (st p.val i.val).broken < 1000 ∧ (st p.val (i.val + 1)).read 0 1 i.val = (if i.val = p.val then (FlM.noPage, 6) else (pgN i.val, 0)) := by decide +kernel
theorem f2 : ∀ p : Fin 3, (st p.val (p.val + 2)).ops = p.val + 2 ∧ ((st p.val (p.val + 2)).blk 0 1).worn = 0 ∧ ((st p.val (p.val + 2)).erase 0 1).1 = 0 := by decide +kernel
theorem f3 : ∀ p : Fin 3, ∀ i : Fin 3, i.val ≤ p.val → ((rs p.val i.val).program 0 1 i.val (pgN 0)).1 = 0 ∧ (rs p.val i.val).ops < 1000 ∧ (rs p.val i.val).broken < 1000 := by decide +kernel
theorem m0_def (p : Nat) : ((FlM.start 3 8 4).fault 1 0 1 p 0 0).2 = st p 0 := rfl
theorem st_def (p i : Nat) : ((st p i).program 0 1 i (pgN i)).2 = st p (i + 1) := rfl
theorem rs_zero (p : Nat) : ((st p (p + 2)).erase 0 1).2 = rs p 0 := rfl
theorem rs_def (p i : Nat) : ((rs p i).program 0 1 i (pgN 0)).2 = rs p (i + 1) := rfl
end NP

attribute [local irreducible] NP.st NP.rs NP.m0

set_option linter.unusedVariables false in
set_option maxRecDepth 100000 in
set_option maxHeartbeats 4000000 in
theorem nandProgram_walk {Is : IsT} (C : NandC Is) (G : Begun7) (page : Int) (again : Bool) (w : World) (hn : (Lit.int .i64 page).wf = true) :
    Calls Tryz.prog 10 #[.int .i64 page, .bool again] w fun e w' => e = .returned (.bool true) ∧ Below w.heap.size w w' := by
  obtain ⟨p, hp3, hw, hdt, -⟩ := mod_pos page 3 (by omega) (by omega)
  obtain ⟨A, hA⟩ : ∃ A, page.tmod 3 = A := ⟨_, rfl⟩
  simp only [show ((3 : Nat) : Int) = 3 from rfl, hA] at hw hdt
  have HC := Lib.hid C
  have HG := Lib.hid G
  clear C G
  go_enter Tryz.func10, Tryz.ntmps10
  go_wp2_with (go_at_call 15; refine (HG.out _).mono ?_; rintro e w1 ⟨rfl, hb1⟩; have HB1 := Lib.hid hb1; clear hb1)
  refine (made_any HC.out w w1 HB1.out).mono ?_
  rintro e w2 ⟨g, rfl, hh⟩
  have HH := Lib.hid hh
  clear hh HB1
  go_wp2_with fail
  have f0 := NP.f0 ⟨p, hp3⟩
  simp only at f0
  refine (HH.out.fault HC.out 0 1 0 1 p 0 0).mono ?_
  rintro e w3 ⟨rfl, hh, hs⟩
  rw [f0]
  replace HH := Lib.hid (show Has Is w w3 g ((FlM.start 3 8 4).fault 1 0 1 p 0 0).2 [] from hh)
  clear hh hs
  rw [NP.m0_def p] at HH
  clear f0
  go_wp2_with fail
  go_loopw [7] (fun i wr => ∃ i' : Nat, i' ≤ p + 2 ∧ i = .int .i64 i' ∧ Has Is w wr g (NP.st p i') []) (fun i _ => (p + 2 - intOf i).toNat)
  case atStart => exact ⟨0, by omega, rfl, HH.out⟩
  case round =>
    obtain ⟨i, hi, rfl, hh⟩ := hrel
    replace HH := Lib.hid hh
    clear hh
    by_cases hlt : i ≤ p + 1
    · obtain ⟨f1, f2, f3, f4⟩ := NP.f1 ⟨p, hp3⟩ ⟨i, by omega⟩ hlt
      simp only at f1 f2 f3 f4
      go_wp2_with fail
      refine (HH.out.program HC.out 0 1 i (pgN i) (okP_pgN _ (by omega)) (by omega) (by omega)).mono ?_
      rintro e w5 ⟨rfl, hh, hs⟩
      rw [f1]
      rw [NP.st_def] at hh
      replace HH := Lib.hid hh
      clear f1 f2 f3 hs hh
      by_cases hip : i = p
      · rw [if_pos hip] at f4 ⊢
        · subst hip
          go_wp2_with fail
          refine (HH.out.read HC.out 0 1 i).mono ?_
          rintro e w6 ⟨rfl, hp, hh, hs⟩
          rw [f4]
          replace HH := Lib.hid (hh.alloc HC.out (.cells (cellsP (FlM.noPage)).toArray 34))
          clear hh hs hp f4
          go_wp2_with (refine wpList_storeP _ rfl _ _ rfl w6 _ rfl rfl rfl (FlM.noPage) rfl rfl ?_)
          go_roundw
          case rel => exact ⟨i + 1, by omega, by simp, HH.out⟩
          case measure => simp [intOf]; omega
      · rw [if_neg hip] at f4 ⊢
        · have hne : decide ((i : Int) = p) = false := by simp; omega
          have hne2 : ((i : Int) == p) = false := by simp; omega
          have hne3 : ((i : Int) != p) = true := by simp; omega
          go_wp2_with fail
          refine (HH.out.read HC.out 0 1 i).mono ?_
          rintro e w6 ⟨rfl, hp, hh, hs⟩
          rw [f4]
          replace HH := Lib.hid (hh.alloc HC.out (.cells (cellsP (pgN i)).toArray 34))
          clear hh hs hp f4
          go_wp2_with (refine wpList_storeP _ rfl _ _ rfl w6 _ rfl rfl rfl (pgN i) rfl rfl ?_)
          go_roundw
          case rel => exact ⟨i + 1, by omega, by simp, HH.out⟩
          case measure => simp [intOf]; omega
    · obtain rfl : i = p + 2 := by omega
      obtain ⟨f1, f2, f3⟩ := NP.f2 ⟨p, hp3⟩
      simp only at f1 f2 f3
      cases again
      · go_wp2_with fail
        refine (HH.out.ops HC.out).mono ?_
        rintro e w5 ⟨rfl, hh, hs⟩
        rw [f1]
        replace HH := Lib.hid hh
        clear hh hs f1 f2 f3
        go_wp2_with fail
        go_ret
        exact ⟨rfl, HH.out.bel⟩
      · go_wp2_with fail
        refine (HH.out.erase HC.out 0 1 (by omega) (by show (FlM.blk _ 0 1).worn < _; omega)).mono ?_
        rintro e w5 ⟨rfl, hh, hs⟩
        rw [f3]
        rw [NP.rs_zero] at hh
        replace HH := Lib.hid hh
        clear hh hs f1 f2 f3
        go_wp2_with fail
        go_loopw [11] (fun i wr => ∃ i' : Nat, i' ≤ p + 1 ∧ i = .int .i64 i' ∧ Has Is w wr g (NP.rs p i') []) (fun i _ => (p + 1 - intOf i).toNat)
        case atStart => exact ⟨0, by omega, rfl, HH.out⟩
        case round =>
          obtain ⟨i, hi, rfl, hh⟩ := hrel
          replace HH := Lib.hid hh
          clear hh
          by_cases hlt : i ≤ p
          · obtain ⟨f1, f2, f3⟩ := NP.f3 ⟨p, hp3⟩ ⟨i, by omega⟩ hlt
            simp only at f1 f2 f3
            go_wp2_with fail
            refine (HH.out.program HC.out 0 1 i (pgN 0) (okP_pgN _ (by omega)) (by omega) (by omega)).mono ?_
            rintro e w6 ⟨rfl, hh, hs⟩
            rw [f1]
            rw [NP.rs_def] at hh
            clear f1 f2 f3 hs
            go_wp2_with fail
            go_roundw
            case rel => exact ⟨i + 1, by omega, by simp, hh⟩
            case measure => simp [intOf]; omega
          · obtain rfl : i = p + 1 := by omega
            go_wp2_with fail
            go_ret
            exact ⟨rfl, HH.out.bel⟩
end Go.Proofs.YtfploeefmnbpcaaGreat
