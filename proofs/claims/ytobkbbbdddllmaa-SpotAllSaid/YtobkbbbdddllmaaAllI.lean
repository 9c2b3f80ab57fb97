/- Package spot at int: All. -/
import Derived.Test.YtobkbbbdddllmaaIter
import Derived.Test.YtobkbbbdddllmaaSpotI
import Derived.Sort.MapsRangeIn
namespace Go.Proofs.Ytobkbbbdddllmaa
open Go.RowKit Mp Go.Shelf
set_option linter.unusedVariables false

set_option maxRecDepth 100000 in
set_option maxHeartbeats 1000000 in
theorem keys1I_in (F : Fence) (n : Nat) (h10 : F.fn 35) (hro : F.round = none) (hn : 1 ≤ n) (l Bm b : Nat) (lst : List (A3 × Value)) (J : List A3 → World → Prop)
    (hY : ∀ pre x W, J pre W → pre.length < lst.length → YieldAt F (n - 1) Try.prog l #[encA x] W fun e W' => e = .returned (.bool true) ∧ J (pre ++ [x]) W' ∧ KeepsWalks W W')
    (W : World) (hJ : AbidesFrom W.heap.size J) (hm : W.cell? ⟨Bm, 0, none⟩ = some (.map (some b))) (hown : MapIs EA W b lst) (h0 : J [] W) :
    CallsIn F n Try.prog 35 #[.func (.yield l) #[] #[], .pointer (some ⟨Bm, 0, none⟩)] W fun e W' => (∃ v, e = .returned v) ∧ ∃ ss : List A3, ss.Perm (lst.map (·.1)) ∧ J ss W' := by
  refine callsIn_of_wp Try.func35 rfl h10 ?_ hro
  simp only [Try.ntmps35, List.size_toArray, List.length_cons, List.length_nil, Nat.reduceAdd, Nat.reduceSub, Array.replicate_succ, Array.replicate_zero, List.push_toArray, List.append_toArray, List.nil_append, List.cons_append]
  gi_wp2_with (first
    | (gi_at_range; refine wpListIn_range _ rfl _ 56 rfl 3 Try.underlying56 b rfl hown ?_; intro w0 hrg0 hg0 hs0)
    | gi_in)
  go_frame
  gi_loopw [3] (fun _ wr => ∃ (left : List (A3 × Value)) (ss : List A3), RangeIs EA wr b W.heap.size lst left ∧ Hid ((ss ++ left.map (·.1)).Perm (lst.map (·.1))) ∧ J ss wr)
    (fun _ wr => wr.rangeLeft b W.heap.size)
  case atStart =>
    exact ⟨lst, [], hrg0, Lib.hid (by simp), hJ [] W w0 none h0 hg0 (fun r e => by cases e)⟩
  case round =>
    obtain ⟨left, ss, hrg, hpm, hJs⟩ := hrel
    gi_wp2_with (first
      | (gi_at_next; refine wpListIn_nextA _ rfl _ rfl b W.heap.size left rfl hrg ?_ ?_)
      | gi_in)
    · intro hl0
      subst hl0
      gi_wp2
      go_end0
      exact ⟨⟨_, rfl⟩, ss, by simpa using hpm.out, hJs⟩
    · intro x y z v left' w2 hp hrg2 hg2 hs2 hen
      have hpm2 := fst_perm hpm.out hp
      have hlen : ss.length < lst.length := by have := hpm2.length_eq; simp at this; omega
      have hJ2 : J ss w2 := hJ ss wr w2 (some W.heap.size) hJs hg2 (fun r e => by cases e; exact ⟨Nat.le_refl _, range_walk hrg⟩)
      have hJ3 : J ss (w2.alloc (.cells #[.int .i64 x, .int .i64 y, .int .i64 z] 29)) := hJ ss w2 _ none hJ2 (World.grownBy_alloc _ _ _) (fun r e => by cases e)
      obtain ⟨fn, tmps, assign, body, hy, hR⟩ := hY ss (x, y, z) _ hJ3 hlen
      unfold encA at hy
      dsimp only at hy
      have HRG := Lib.hid hrg
      have HRG2 := Lib.hid hrg2
      have HP := Lib.hid hp
      have HPM2 := Lib.hid hpm2
      clear hrg hrg2 hp hpm2 hg2 hJ2 hJ3 hJs
      gi_wp2
      refine hR.mono ?_
      rintro e W3 ⟨rfl, hJ4, hk3⟩
      have hrg3 : RangeIs EA W3 b W.heap.size lst left' := range_of_walks (range_of_walks HRG2.out (KeepsWalks.alloc _ _)) hk3
      have HRG3 := Lib.hid hrg3
      clear hrg3
      gi_wp2
      go_roundw
      case rel => exact ⟨left', ss ++ [(x, y, z)], HRG3.out, HPM2, hJ4⟩
      case measure => rw [HRG3.out.left, HRG.out.left]; have := HP.out.length_eq; simp at this; omega

set_option maxRecDepth 100000 in
set_option maxHeartbeats 1000000 in
theorem keys1I_nil (F : Fence) (n : Nat) (h10 : F.fn 35) (hro : F.round = none) (l Bm : Nat) (J : List A3 → World → Prop)
    (W : World) (hJ : AbidesFrom W.heap.size J) (hm : W.cell? ⟨Bm, 0, none⟩ = some (.map none)) (h0 : J [] W) :
    CallsIn F n Try.prog 35 #[.func (.yield l) #[] #[], .pointer (some ⟨Bm, 0, none⟩)] W fun e W' => (∃ v, e = .returned v) ∧ J [] W' := by
  have hr := run_range_nilMap (P := Try.prog) W 56 29 3 Try.underlying56
  have hnx := fun ty => run_next_nilMap (P := Try.prog) W ty 0 0 #[]
  refine callsIn_of_wp Try.func35 rfl h10 ?_ hro
  simp only [Try.ntmps35, List.size_toArray, List.length_cons, List.length_nil, Nat.reduceAdd, Nat.reduceSub, Array.replicate_succ, Array.replicate_zero, List.push_toArray, List.append_toArray, List.nil_append, List.cons_append]
  gi_wp2
  refine wpIn_loop_rounds 1 ?_
  rw [roundsIn_succ]
  gi_wp2
  go_end0
  exact ⟨⟨_, rfl⟩, hJ [] W _ none h0 (World.grownBy_alloc _ _ _) (fun r e => by cases e)⟩

/-- maps.Keys(m). -/
theorem keysI_any (mb : Option Nat) (w : World) :
    Calls Try.prog 29 #[.map mb] w fun e w' => e = .returned (.func (.func 35) #[] #[.pointer (some ⟨w.heap.size, 0, none⟩)]) ∧ w' = w.alloc (.cells #[.map mb] 56) := by
  go_enter Try.func29, Try.ntmps29
  go_wp2
  go_ret
  exact ⟨rfl, rfl⟩

theorem keysI_gives (mb : Option Nat) (g : Nat) (l : List (A3 × Value)) (w : World) (h : SpotIs w g mb l) (Bm : Nat) (w1 : World) (hw1 : Below w.heap.size w w1) (hBm : Bm < w1.heap.size) (hm : w1.cell? ⟨Bm, 0, none⟩ = some (.map mb)) :
    SeqGives Fence.wide 1 Try.prog 35 #[.pointer (some ⟨Bm, 0, none⟩)] encA (fun ss => ss.Perm (l.map (·.1))) l.length w1 := fun lp J W hW hJ hY h0 => by
  have h1 := h.below hw1 (Nat.le_refl _)
  have h2 := h1.below hW (Nat.le_refl _)
  have hm2 : W.cell? ⟨Bm, 0, none⟩ = some (.map mb) := (hW.cell (p := ⟨Bm, 0, none⟩) hBm).trans hm
  cases mb with
  | none =>
    have hl := h.none rfl
    subst hl
    refine (keys1I_nil Fence.wide 1 trivial rfl lp Bm J W hJ hm2 h0).mono ?_
    rintro e W' ⟨hv, hj⟩
    exact ⟨hv, [], by simp, hj⟩
  | some b => exact keys1I_in Fence.wide 1 trivial rfl (Nat.le_refl _) lp Bm b l J hY W hJ hm2 (h2.some b rfl) h0

/-- All of a nil Map. -/
theorem allI_nil (w : World) : Calls Try.prog 14 #[.pointer none] w fun e w' => e = .returned (.slice none 0 0) ∧ w = w' := by
  go_enter Try.func14, Try.ntmps14
  go_wp2
  go_ret
  exact ⟨rfl, rfl⟩

set_option maxRecDepth 100000 in
set_option maxHeartbeats 1000000 in
/-- All. -/
theorem allI_any (g : Nat) (mb : Option Nat) (l : List (A3 × Value)) (w : World) (h : SpotIs w g mb l) (hn : l.length ≤ 100000) :
    Calls Try.prog 14 #[.pointer (some ⟨g, 0, none⟩)] w fun e w' => ∃ v, e = .returned v ∧ SliceA w.heap.size w' v (sortL (l.map (·.1))) ∧ Below w.heap.size w w' := by
  have hc := h.cell
  have hk := fun W => keysI_any mb W
  have hb1 : Below w.heap.size w (w.alloc (.cells #[.map mb] 56)) := (Below.refl _ _).alloc (Nat.le_refl _) _
  have hs := sortedFunc_any 35 #[.pointer (some ⟨w.heap.size, 0, none⟩)] (enters_of Try.func35 (by kernel_rfl) rfl) _ l.length hn _
    (keysI_gives mb g l w h w.heap.size _ hb1 (by simp) (by rw [World.cell?_alloc_at _ _ _ _ rfl]; rfl))
  have HS := Lib.hid hs
  have HK := Lib.hid hk
  have HB := Lib.hid hb1
  clear h hk hs hb1
  go_enter Try.func14, Try.ntmps14
  go_wp2_with (first
    | (go_at_call 29; (with_reducible refine (HK.out _).mono ?_); rintro e w1 ⟨rfl, rfl⟩)
    | (go_at_call 28; (with_reducible refine HS.out.mono ?_); rintro e w2 ⟨v, ss, rfl, hp, hsl, hb⟩; have HP := Lib.hid hp; have HSL := Lib.hid hsl; have HB2 := Lib.hid hb; clear hp hsl hb))
  go_ret
  have e2 := sortL_of_perm HP.out
  refine ⟨_, rfl, ?_, HB.out.trans (HB2.out.mono (by simp))⟩
  rw [← e2]
  exact HSL.out.base (by simp)
end Go.Proofs.Ytobkbbbdddllmaa
