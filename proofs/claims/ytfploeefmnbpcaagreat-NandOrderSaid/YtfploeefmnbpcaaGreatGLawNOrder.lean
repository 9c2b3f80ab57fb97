import Derived.Test.YtfploeefmnbpcaaGreatG04
import Derived.Test.YtfploeefmnbpcaaGreatG06
/- The law NandOrder: the walk. -/
namespace Go.Proofs.YtfploeefmnbpcaaGreat
open Go.RowKit Mp

/-- What block 3 of die 1 has come to behind k rounds. -/
structure OS (M : FlM) (nx br k : Nat) : Prop where
  d : M.d = 3
  b : M.b = 8
  p : M.p = 4
  power : M.power = true
  cut : M.cut = none
  dead : M.dead 1 = false
  next : (M.blk 1 3).next = nx
  told : (M.blk 1 3).told = false
  met : (M.blk 1 3).met = false
  fails : ∀ j, (M.blk 1 3).fails j = false
  broken : M.broken = br
  zero : (M.blk 0 3).next = 0
  ops : M.ops ≤ k
  worn : (M.blk 1 3).worn ≤ k
theorem OS.start : OS (FlM.start 3 8 4) 0 0 0 := ⟨rfl, rfl, rfl, rfl, rfl, rfl, rfl, rfl, rfl, fun _ => rfl, rfl, rfl, Nat.le_refl _, Nat.le_refl _⟩
theorem OS.bars {M : FlM} {nx br k : Nat} (h : OS M nx br k) (z : Int) (h0 : 0 ≤ z) (h1 : z < 4) : M.bars 1 3 z = none :=
  FlM.bars_none h.power (by rw [h.d, h.b, h.p]; unfold inGB; simp; omega) h.dead
theorem OS.range {M : FlM} {nx br k : Nat} (h : OS M nx br k) (pg : List Nat) : M.program 1 3 4 pg = (3, M) :=
  FlM.program_bar _ (FlM.bars_range h.power (by rw [h.d, h.b, h.p]; decide))
theorem OS.wrong {M : FlM} {nx br k : Nat} (h : OS M nx br k) (pg : List Nat) (z : Int) (h0 : 0 ≤ z) (h1 : z < 4) (hz : z ≠ nx) : ∃ M', M.program 1 3 z pg = (4, M') ∧ OS M' nx (br + 1) (k + 1) :=
  ⟨_, FlM.program_order _ (h.bars z h0 h1) (by show z ≠ ((M.blk 1 3).next : Int); rw [h.next]; exact hz), ⟨h.d, h.b, h.p, h.power, h.cut, h.dead, h.next, h.told, h.met, h.fails, by show M.broken + 1 = _; rw [h.broken], h.zero, Nat.le_succ_of_le h.ops, Nat.le_succ_of_le h.worn⟩⟩
theorem OS.right {M : FlM} {nx br k : Nat} (h : OS M nx br k) (pg : List Nat) (h1 : nx < 4) : ∃ M', M.program 1 3 nx pg = (0, M') ∧ OS M' (nx + 1) br (k + 1) := by
  have e := FlM.program_ok pg (h.bars nx (by omega) (by omega)) (show (nx : Int) = ((M.blk 1 3).next : Int) by rw [h.next]) (FlM.cutNow_none h.cut) h.met (h.fails _)
  rw [FlM.tick_none h.cut] at e
  refine ⟨_, e, ?_⟩
  have s13 : ∀ (M : FlM) B, (M.setB (1 : Int).toNat (3 : Int).toNat B).blk 1 3 = B := fun M B => FlM.setB_same M 1 3 B
  have s03 : ∀ (M : FlM) B, (M.setB (1 : Int).toNat (3 : Int).toNat B).blk 0 3 = M.blk 0 3 := fun M B => FlM.setB_die B (by decide) 3
  exact ⟨h.d, h.b, h.p, h.power, h.cut, h.dead, by rw [s13]; show (M.blk 1 3).next + 1 = _; rw [h.next], by rw [s13]; exact h.told, by rw [s13]; exact h.met, fun j => by rw [s13]; exact h.fails j, h.broken, by rw [s03]; exact h.zero,
    Nat.succ_le_succ h.ops, by rw [s13]; exact Nat.le_succ_of_le h.worn⟩
theorem OS.erase {M : FlM} {nx br k : Nat} (h : OS M nx br k) : ∃ M', M.erase 1 3 = (0, M') ∧ OS M' 0 br (k + 1) := by
  have e := FlM.erase_ok (h.bars 0 (by omega) (by omega)) (FlM.cutNow_none h.cut) h.told
  rw [FlM.tick_none h.cut] at e
  refine ⟨_, e, ?_⟩
  have s13 : ∀ (M : FlM) B, (M.setB (1 : Int).toNat (3 : Int).toNat B).blk 1 3 = B := fun M B => FlM.setB_same M 1 3 B
  have s03 : ∀ (M : FlM) B, (M.setB (1 : Int).toNat (3 : Int).toNat B).blk 0 3 = M.blk 0 3 := fun M B => FlM.setB_die B (by decide) 3
  exact ⟨h.d, h.b, h.p, h.power, h.cut, h.dead, by rw [s13], by rw [s13], by rw [s13], fun j => by rw [s13], h.broken, by rw [s03]; exact h.zero,
    Nat.succ_le_succ h.ops, by rw [s13]; exact Nat.succ_le_succ h.worn⟩
theorem OS.next13 {M : FlM} {nx br k : Nat} (h : OS M nx br k) : M.nextOf 1 3 = nx := by
  unfold FlM.nextOf; rw [h.d, h.b, h.p]; rw [if_pos (by decide)]; show ((M.blk 1 3).next : Int) = _; rw [h.next]
theorem OS.next03 {M : FlM} {nx br k : Nat} (h : OS M nx br k) : M.nextOf 0 3 = 0 := by
  unfold FlM.nextOf; rw [h.d, h.b, h.p]; rw [if_pos (by decide)]; show ((M.blk 0 3).next : Int) = _; rw [h.zero]; rfl

set_option linter.unusedVariables false in
set_option maxRecDepth 100000 in
set_option maxHeartbeats 4000000 in
theorem nandOrder_walk {Is : IsT} (C : NandC Is) (G : Begun7) (a : Option Addr) (len cap : Nat) (zs : List Int) (w : World) (hz : IsInts w a len cap zs) :
    Calls Tryz.prog 3 #[.slice a len cap] w fun e w' => e = .returned (.bool true) ∧ Below w.heap.size w w' := by
  have HZ := Lib.hid hz
  have hlen : len ≤ 9223372036854775807 := Nat.le_trans hz.fits hz.small
  clear hz
  have HC := Lib.hid C
  have HG := Lib.hid G
  clear C G
  go_enter Tryz.func3, Tryz.ntmps3
  go_wp2_with (go_at_call 15; refine (HG.out _).mono ?_; rintro e w1 ⟨rfl, hb1⟩; have HB1 := Lib.hid hb1; clear hb1)
  refine (Has.new HC.out 3 8 4 w _ [] (by simp) (HB1.out.alloc HB1.out.size _) (by decide)).mono ?_
  rintro e w2 ⟨g, rfl, hh, -⟩
  have HH := Lib.hid hh
  clear hh HB1
  go_wp2_with fail
  go_loopw [6, 7, 8] (fun x y i wr => ∃ (nx br k : Nat) (M : FlM), x = .int .i64 nx ∧ y = .int .i64 br ∧ i = .int .i64 k ∧ k ≤ len ∧ k ≤ 40 ∧ br ≤ k ∧ nx ≤ 4 ∧ OS M nx br k ∧ Has Is w wr g M []) (fun _ _ i _ => (40 - intOf i).toNat)
  case atStart => exact ⟨0, 0, 0, _, rfl, rfl, rfl, Nat.zero_le _, Nat.zero_le _, Nat.zero_le _, Nat.zero_le _, OS.start, HH.out⟩
  case round =>
    clear HH
    obtain ⟨nx, br, k, M, rfl, rfl, rfl, hk, hk40, hbr, hnx, hos, hh⟩ := hrel
    have HH := Lib.hid hh
    have HOS := Lib.hid hos
    clear hh hos
    by_cases hlt : k < len
    · by_cases h40 : k < 40
      · obtain ⟨b, off, rfl, hc1, hz1, hz2⟩ := (HZ.out.below HH.out.bel).at k hlt
        obtain ⟨x, hx⟩ : ∃ x, zs.getD k 0 = x := ⟨_, rfl⟩
        rw [hx] at hc1 hz1 hz2
        clear hx
        obtain ⟨z, hzz⟩ : ∃ z, x.tmod 6 = z := ⟨_, rfl⟩
        have hz3 : -6 < z ∧ z < 6 := by rw [← hzz, Int.tmod_eq_emod]; split <;> omega
        have hcap : k < cap := Nat.lt_of_lt_of_le hlt HZ.out.fits
        rcases (show z < 0 ∨ z = 5 ∨ z = 4 ∨ (0 ≤ z ∧ z < 4 ∧ z ≠ nx) ∨ (z = nx ∧ nx < 4) by omega) with h | h | h | ⟨h, h', hne⟩ | ⟨h, h'⟩
        · have hd0 : decide (z < 0) = true := by simp; omega
          obtain ⟨M', he, ho⟩ := HOS.out.erase
          have ho1 := HOS.out.ops
          have ho2 := HOS.out.worn
          go_wp2_with fail
          refine (HH.out.erase HC.out 1 3 (by omega) (by show (FlM.blk _ 1 3).worn < _; omega)).mono ?_
          rintro e w5 ⟨rfl, hh, hs⟩
          rw [he] at hh ⊢
          clear hs he ho1 ho2
          go_wp2_with fail
          go_roundw
          case rel => exact ⟨0, br, k + 1, _, rfl, rfl, by simp, by omega, by omega, by omega, by omega, ho, hh⟩
          case measure => simp [intOf]; omega
        · subst h
          obtain ⟨M', he, ho⟩ := HOS.out.erase
          have ho1 := HOS.out.ops
          have ho2 := HOS.out.worn
          go_wp2_with fail
          refine (HH.out.erase HC.out 1 3 (by omega) (by show (FlM.blk _ 1 3).worn < _; omega)).mono ?_
          rintro e w5 ⟨rfl, hh, hs⟩
          rw [he] at hh ⊢
          clear hs he ho1 ho2
          go_wp2_with fail
          go_roundw
          case rel => exact ⟨0, br, k + 1, _, rfl, rfl, by simp, by omega, by omega, by omega, by omega, ho, hh⟩
          case measure => simp [intOf]; omega
        · subst h
          have he := HOS.out.range (pgN k)
          have ho1 := HOS.out.ops
          have ho2 := HOS.out.broken
          go_wp2_with fail
          refine (HH.out.program HC.out 1 3 4 (pgN k) (okP_pgN _ (by omega)) (by omega) (by omega)).mono ?_
          rintro e w5 ⟨rfl, hh, hs⟩
          rw [he] at hh ⊢
          clear hs ho1 ho2 he
          go_wp2_with fail
          go_roundw
          case rel => exact ⟨nx, br, k + 1, _, rfl, rfl, by simp, by omega, by omega, by omega, by omega, ⟨HOS.out.d, HOS.out.b, HOS.out.p, HOS.out.power, HOS.out.cut, HOS.out.dead, HOS.out.next, HOS.out.told, HOS.out.met, HOS.out.fails, HOS.out.broken, HOS.out.zero, Nat.le_succ_of_le HOS.out.ops, Nat.le_succ_of_le HOS.out.worn⟩, hh⟩
          case measure => simp [intOf]; omega
        · have hd0 : decide (z < 0) = false := by simp; omega
          have hd5 : (z == 5) = false := by simp; omega
          have hd4 : (z == 4) = false := by simp; omega
          have hdn : (z != nx) = true := by simp; omega
          obtain ⟨M', he, ho⟩ := HOS.out.wrong (pgN k) z h h' hne
          have ho1 := HOS.out.ops
          have ho2 := HOS.out.broken
          go_wp2_with fail
          refine (HH.out.program HC.out 1 3 z (pgN k) (okP_pgN _ (by omega)) (by omega) (by omega)).mono ?_
          rintro e w5 ⟨rfl, hh, hs⟩
          rw [he] at hh ⊢
          clear hs ho1 ho2 he
          go_wp2_with fail
          go_roundw
          case rel => exact ⟨nx, br + 1, k + 1, _, rfl, by simp, by simp, by omega, by omega, by omega, by omega, ho, hh⟩
          case measure => simp [intOf]; omega
        · subst h
          have hd0 : decide ((nx : Int) < 0) = false := by simp
          have hd5 : ((nx : Int) == 5) = false := by simp; omega
          have hd4 : ((nx : Int) == 4) = false := by simp; omega
          obtain ⟨M', he, ho⟩ := HOS.out.right (pgN k) h'
          have ho1 := HOS.out.ops
          have ho2 := HOS.out.broken
          go_wp2_with fail
          refine (HH.out.program HC.out 1 3 nx (pgN k) (okP_pgN _ (by omega)) (by omega) (by omega)).mono ?_
          rintro e w5 ⟨rfl, hh, hs⟩
          rw [he] at hh ⊢
          clear hs ho1 ho2 he
          go_wp2_with fail
          go_roundw
          case rel => exact ⟨nx + 1, br, k + 1, _, by simp, rfl, by simp, by omega, by omega, by omega, by omega, ho, hh⟩
          case measure => simp [intOf]; omega
      · obtain rfl : k = 40 := by omega
        have f1 := HOS.out.broken
        have f2 := HOS.out.next13
        have f3 := HOS.out.next03
        go_wp2_with fail
        refine (HH.out.broken HC.out).mono ?_
        rintro e w5 ⟨rfl, hh, hs⟩
        rw [f1]
        replace HH := Lib.hid hh
        clear hh hs f1
        go_wp2_with fail
        refine (HH.out.next HC.out 1 3).mono ?_
        rintro e w6 ⟨rfl, hh, hs⟩
        rw [f2]
        replace HH := Lib.hid hh
        clear hh hs f2
        go_wp2_with fail
        refine (HH.out.next HC.out 0 3).mono ?_
        rintro e w7 ⟨rfl, hh, hs⟩
        rw [f3]
        replace HH := Lib.hid hh
        clear hh hs f3
        go_wp2_with fail
        go_ret
        exact ⟨rfl, HH.out.bel⟩
    · obtain rfl : k = len := by omega
      have f1 := HOS.out.broken
      have f2 := HOS.out.next13
      have f3 := HOS.out.next03
      go_wp2_with fail
      refine (HH.out.broken HC.out).mono ?_
      rintro e w5 ⟨rfl, hh, hs⟩
      rw [f1]
      replace HH := Lib.hid hh
      clear hh hs f1
      go_wp2_with fail
      refine (HH.out.next HC.out 1 3).mono ?_
      rintro e w6 ⟨rfl, hh, hs⟩
      rw [f2]
      replace HH := Lib.hid hh
      clear hh hs f2
      go_wp2_with fail
      refine (HH.out.next HC.out 0 3).mono ?_
      rintro e w7 ⟨rfl, hh, hs⟩
      rw [f3]
      replace HH := Lib.hid hh
      clear hh hs f3
      go_wp2_with fail
      go_ret
      exact ⟨rfl, HH.out.bel⟩
end Go.Proofs.YtfploeefmnbpcaaGreat
