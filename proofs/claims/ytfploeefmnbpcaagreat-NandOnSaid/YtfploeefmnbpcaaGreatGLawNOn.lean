import Derived.Test.YtfploeefmnbpcaaGreatG04
/- The law NandOn: the walk. -/
namespace Go.Proofs.YtfploeefmnbpcaaGreat
open Go.RowKit Mp

namespace NO
def sq : Nat → FlM
  | 0 => FlM.start 3 8 4
  | k + 1 => ((sq k).erase ((k % 3 : Nat) : Int) ((k % 8 : Nat) : Int)).2
theorem facts : ∀ k : Fin 20, ((sq k.val).erase ((k.val % 3 : Nat) : Int) ((k.val % 8 : Nat) : Int)).1 = 0 ∧ (sq k.val).ops = k.val ∧ ((sq k.val).blk (((k.val % 3 : Nat) : Int).toNat) (((k.val % 8 : Nat) : Int).toNat)).worn < 100 := by decide +kernel
theorem sq_next (k : Nat) : sq (k + 1) = ((sq k).erase ((k % 3 : Nat) : Int) ((k % 8 : Nat) : Int)).2 := rfl
theorem last : (sq 20).power = true ∧ (sq 20).ops = 20 := by decide +kernel
def cd (o : Nat) : FlM := (FlM.start 3 8 4).cutAt o 3
theorem cd_def (o : Nat) : (FlM.start 3 8 4).cutAt o 3 = cd o := rfl
theorem cd_eq (o : Nat) : cd o = { FlM.start 3 8 4 with cut := some (o, 3) } := by unfold cd; rw [FlM.cutAt_pos rfl (by omega)]; simp; decide
def off (o : Nat) : FlM := (cd o).cutAt (-1) 0
theorem off_def (o : Nat) : (cd o).cutAt (-1) 0 = off o := rfl
theorem off_eq (o : Nat) : off o = { FlM.start 3 8 4 with power := false } := by unfold off; rw [cd_eq]; rfl
theorem on_off (o : Nat) : (off o).on = sq 0 := by rw [off_eq]; rfl
theorem on_cd (o : Nat) : (cd o).on = sq 0 := by rw [cd_eq]; rfl
theorem off_facts (o : Nat) : (off o).power = false ∧ (off o).program 0 0 0 (pgN 0) = (9, off o) ∧ (off o).erase 0 0 = (9, off o) ∧ (off o).ops = 0 ∧ (off o).broken = 0 ∧ (off o).blk 0 0 = {} := by
  have h : (off o).power = false := by rw [off_eq]
  refine ⟨h, FlM.program_bar _ (FlM.bars_power h _ _ _), FlM.erase_bar (FlM.bars_power h _ _ _), by rw [off_eq]; rfl, by rw [off_eq]; rfl, by rw [off_eq]; rfl⟩
end NO

attribute [local irreducible] NO.sq NO.cd NO.off

set_option maxRecDepth 100000 in
set_option maxHeartbeats 4000000 in
theorem nandOn_walk {Is : IsT} (C : NandC Is) (G : Begun7) (ops : Int) (off : Bool) (w : World) (ho : (Lit.int .i64 ops).wf = true) :
    Calls Tryz.prog 14 #[.int .i64 ops, .bool off] w fun e w' => e = .returned (.bool true) ∧ Below w.heap.size w w' := by
  obtain ⟨t1, t2⟩ : -9223372036854775808 ≤ ops ∧ ops ≤ 9223372036854775807 := by simpa [Lit.wf, IntKind.min, IntKind.max, IntKind.signed, IntKind.bits] using ho
  clear ho
  by_cases h1 : ops < 0
  · have HC := Lib.hid C
    have HG := Lib.hid G
    clear C G
    go_enter Tryz.func14, Tryz.ntmps14
    go_wp2_with (go_at_call 15; refine (HG.out _).mono ?_; rintro e w1 ⟨rfl, hb1⟩; have HB1 := Lib.hid hb1; clear hb1)
    go_ret
    exact ⟨rfl, HB1.out⟩
  by_cases h2 : 20 < ops
  · have h3 : decide (ops < 0) = false := by simp; omega
    have HC := Lib.hid C
    have HG := Lib.hid G
    clear C G
    go_enter Tryz.func14, Tryz.ntmps14
    go_wp2_with (go_at_call 15; refine (HG.out _).mono ?_; rintro e w1 ⟨rfl, hb1⟩; have HB1 := Lib.hid hb1; clear hb1)
    go_ret
    exact ⟨rfl, HB1.out⟩
  have h3 : decide (ops < 0) = false := by simp; omega
  have h4 : decide (20 < ops) = false := by simp; omega
  obtain ⟨o, rfl⟩ : ∃ o : Nat, ops = o := ⟨ops.toNat, by omega⟩
  have HC := Lib.hid C
  have HG := Lib.hid G
  clear C G
  go_enter Tryz.func14, Tryz.ntmps14
  go_wp2_with (go_at_call 15; refine (HG.out _).mono ?_; rintro e w1 ⟨rfl, hb1⟩; have HB1 := Lib.hid hb1; clear hb1)
  refine (made_any HC.out w w1 HB1.out).mono ?_
  rintro e w2 ⟨g, rfl, hh⟩
  have HH := Lib.hid hh
  clear hh HB1
  obtain ⟨q1, q2, q3, q4, q5, q6⟩ := NO.off_facts o
  go_wp2_with fail
  refine (HH.out.cut HC.out o 3 (by omega) (by decide)).mono ?_
  rintro e w3 ⟨rfl, hh, hs⟩
  replace HH := Lib.hid (show Has Is w w3 g ((FlM.start 3 8 4).cutAt o 3) [] from hh)
  clear hh hs
  rw [NO.cd_def] at HH
  cases off
  · go_wp2_with fail
    refine (HH.out.on HC.out).mono ?_
    rintro e w4 ⟨rfl, hh, hs⟩
    replace HH := Lib.hid (show Has Is w w4 g (NO.cd o).on [] from hh)
    clear hh hs
    rw [NO.on_cd] at HH
    go_wp2_with fail
    go_loopw [7] (fun i wr => ∃ k : Nat, k ≤ 20 ∧ i = .int .i64 k ∧ Has Is w wr g (NO.sq k) []) (fun i _ => (20 - intOf i).toNat)
    case atStart => exact ⟨0, by omega, rfl, HH.out⟩
    case round =>
      obtain ⟨k, hk, rfl, hh⟩ := hrel
      replace HH := Lib.hid hh
      clear hh
      by_cases hlt : k < 20
      · obtain ⟨f1, f2, f3⟩ := NO.facts ⟨k, hlt⟩
        simp only at f1 f2 f3
        obtain ⟨a, ha⟩ : ∃ a, k % 3 = a := ⟨_, rfl⟩
        obtain ⟨b, hb⟩ : ∃ b, k % 8 = b := ⟨_, rfl⟩
        have h3 : (k : Int).tmod 3 = a := by rw [Int.tmod_eq_emod_of_nonneg (by omega)]; omega
        have h8 : (k : Int).tmod 8 = b := by rw [Int.tmod_eq_emod_of_nonneg (by omega)]; omega
        have hq : NO.sq (k + 1) = ((NO.sq k).erase a b).2 := by rw [← ha, ← hb]; exact NO.sq_next k
        rw [ha, hb] at f1 f3
        clear ha hb
        go_wp2_with fail
        refine (HH.out.erase HC.out a b (by rw [f2]; omega) (by omega)).mono ?_
        rintro e w5 ⟨rfl, hh, hs⟩
        rw [f1]
        rw [← hq] at hh
        clear f1 f2 f3 hs HH
        go_wp2_with fail
        go_roundw
        case rel => exact ⟨k + 1, by omega, by simp, hh⟩
        case measure => simp [intOf]; omega
      · obtain rfl : k = 20 := by omega
        have hge : ¬ ((20 : Int) < 20) := by omega
        obtain ⟨l1, l2⟩ := NO.last
        go_wp2_with fail
        refine (HH.out.power HC.out).mono ?_
        rintro e w5 ⟨rfl, hh, hs⟩
        rw [l1]
        replace HH := Lib.hid hh
        clear hh hs
        go_wp2_with fail
        refine (HH.out.ops HC.out).mono ?_
        rintro e w6 ⟨rfl, hh, hs⟩
        rw [l2]
        replace HH := Lib.hid hh
        clear hh hs
        go_wp2_with fail
        go_ret
        exact ⟨rfl, HH.out.bel⟩
  · go_wp2_with fail
    refine (HH.out.cut HC.out (-1) 0 (by decide) (by decide)).mono ?_
    rintro e w4 ⟨rfl, hh, hs⟩
    replace HH := Lib.hid (show Has Is w w4 g ((NO.cd o).cutAt (-1) 0) [] from hh)
    clear hh hs
    rw [NO.off_def] at HH
    go_wp2_with fail
    refine (HH.out.power HC.out).mono ?_
    rintro e w5 ⟨rfl, hh, hs⟩
    rw [q1]
    replace HH := Lib.hid (show Has Is w w5 g (NO.off o) [] from hh)
    clear hh hs
    go_wp2_with fail
    refine (HH.out.program HC.out 0 0 0 (pgN 0) (okP_pgN _ (by omega)) (by rw [q4]; omega) (by rw [q5]; omega)).mono ?_
    rintro e w6 ⟨rfl, hh, hs⟩
    rw [q2]
    replace HH := Lib.hid (show Has Is w w6 g ((NO.off o).program 0 0 0 (pgN 0)).2 [] from hh)
    clear hh hs
    rw [q2] at HH
    go_wp2_with fail
    refine (HH.out.erase HC.out 0 0 (by rw [q4]; omega) (by show (FlM.blk _ 0 0).worn < _; rw [q6]; decide)).mono ?_
    rintro e w7 ⟨rfl, hh, hs⟩
    rw [q3]
    replace HH := Lib.hid (show Has Is w w7 g ((NO.off o).erase 0 0).2 [] from hh)
    clear hh hs
    rw [q3] at HH
    go_wp2_with fail
    refine (HH.out.ops HC.out).mono ?_
    rintro e w8 ⟨rfl, hh, hs⟩
    rw [q4]
    replace HH := Lib.hid (show Has Is w w8 g (NO.off o) [] from hh)
    clear hh hs
    go_wp2_with fail
    refine (HH.out.on HC.out).mono ?_
    rintro e w9 ⟨rfl, hh, hs⟩
    replace HH := Lib.hid (show Has Is w w9 g (NO.off o).on [] from hh)
    clear hh hs
    rw [NO.on_off] at HH
    go_wp2_with fail
    go_loopw [7] (fun i wr => ∃ k : Nat, k ≤ 20 ∧ i = .int .i64 k ∧ Has Is w wr g (NO.sq k) []) (fun i _ => (20 - intOf i).toNat)
    case atStart => exact ⟨0, by omega, rfl, HH.out⟩
    case round =>
      obtain ⟨k, hk, rfl, hh⟩ := hrel
      replace HH := Lib.hid hh
      clear hh
      by_cases hlt : k < 20
      · obtain ⟨f1, f2, f3⟩ := NO.facts ⟨k, hlt⟩
        simp only at f1 f2 f3
        obtain ⟨a, ha⟩ : ∃ a, k % 3 = a := ⟨_, rfl⟩
        obtain ⟨b, hb⟩ : ∃ b, k % 8 = b := ⟨_, rfl⟩
        have h3 : (k : Int).tmod 3 = a := by rw [Int.tmod_eq_emod_of_nonneg (by omega)]; omega
        have h8 : (k : Int).tmod 8 = b := by rw [Int.tmod_eq_emod_of_nonneg (by omega)]; omega
        have hq : NO.sq (k + 1) = ((NO.sq k).erase a b).2 := by rw [← ha, ← hb]; exact NO.sq_next k
        rw [ha, hb] at f1 f3
        clear ha hb
        go_wp2_with fail
        refine (HH.out.erase HC.out a b (by rw [f2]; omega) (by omega)).mono ?_
        rintro e w5 ⟨rfl, hh, hs⟩
        rw [f1]
        rw [← hq] at hh
        clear f1 f2 f3 hs HH
        go_wp2_with fail
        go_roundw
        case rel => exact ⟨k + 1, by omega, by simp, hh⟩
        case measure => simp [intOf]; omega
      · obtain rfl : k = 20 := by omega
        have hge : ¬ ((20 : Int) < 20) := by omega
        obtain ⟨l1, l2⟩ := NO.last
        go_wp2_with fail
        refine (HH.out.power HC.out).mono ?_
        rintro e w5 ⟨rfl, hh, hs⟩
        rw [l1]
        replace HH := Lib.hid hh
        clear hh hs
        go_wp2_with fail
        refine (HH.out.ops HC.out).mono ?_
        rintro e w6 ⟨rfl, hh, hs⟩
        rw [l2]
        replace HH := Lib.hid hh
        clear hh hs
        go_wp2_with fail
        go_ret
        exact ⟨rfl, HH.out.bel⟩
end Go.Proofs.YtfploeefmnbpcaaGreat
