/- Package spot at string: Block. -/
import Derived.Test.YtobkbbbdddllmaaRangeA
import Derived.Test.YtobkbbbdddllmaaSpotS
namespace Go.Proofs.Ytobkbbbdddllmaa
open Go.RowKit Mp Go.ChangeMaps

/-- Block of a nil Map. -/
theorem blockS_nil (die blk : Int) (w : World) : Calls Try.prog 26 #[.pointer none, .int .i64 die, .int .i64 blk] w fun e w' => e = .returned (.slice none 0 0) ∧ w = w' := by
  go_enter Try.func26, Try.ntmps26
  go_wp2
  go_ret
  exact ⟨rfl, rfl⟩

set_option maxRecDepth 100000 in
set_option maxHeartbeats 4000000 in
/-- Block. -/
theorem blockS_some (g b : Nat) (l : List (A3 × Value)) (die blk : Int) (w : World) (h : SpotIs w g (some b) l) (hn : l.length < 100000) :
    Calls Try.prog 26 #[.pointer (some ⟨g, 0, none⟩), .int .i64 die, .int .i64 blk] w fun e w' => ∃ v, e = .returned v ∧ SliceA w.heap.size w' v (sortL (pick die blk l)) ∧ Below w.heap.size w w' := by
  have hc := h.cell
  have hm := h.some b rfl
  have hblt := h.mblt rfl
  have HM := Lib.hid hm
  clear h
  obtain ⟨i0, hi, hz0, hz1, hz2⟩ := info_parts infoA
  go_enter Try.func26, Try.ntmps26
  go_wp2_with (first
    | (at_range; refine wpList_range _ rfl _ 71 rfl 9 Try.underlying71 b rfl hm ?_; intro w0 hrg0 hg0 hs0)
    | go_in)
  go_frame
  go_loopw [7] (fun v wr => ∃ (left : List (A3 × Value)) (xs : List A3), RangeIs EA wr b w.heap.size l left ∧ wr.ownsRow (w.heap.size + 1) 29 3 v xs.length (xs.flatMap cellsA) ∧ Hid ((xs ++ pick die blk left).Perm (pick die blk l)) ∧ xs.length + left.length ≤ l.length ∧ Below w.heap.size w wr ∧ w.heap.size + 1 ≤ wr.heap.size)
    (fun _ wr => wr.rangeLeft b w.heap.size)
  case atStart =>
    refine ⟨l, [], hrg0, World.ownsRow_nil _ _ _ _, Lib.hid (by simp), by simp, ⟨hg0.os, hg0.tape, hg0.output, hg0.size, fun k hk => hg0.block k hk (by simp)⟩, by omega⟩
  case round =>
    obtain ⟨left, xs, hrg, how, hpm, hcnt, hbel, hsz⟩ := hrel
    go_wp2_with (first
      | (at_next; refine wpList_nextA _ rfl _ rfl b w.heap.size left rfl hrg ?_ ?_)
      | go_in)
    · intro hl0
      subst hl0
      have hS : SliceA (w.heap.size + 1) wr u7 xs := SliceA.of_owns how
      have hxs : xs.Perm (pick die blk l) := by simpa [pick] using hpm.out
      have hsort := sort_any (w.heap.size + 1) wr u7 xs hS (by omega)
      have hown : ∀ k, u7.ownBlock = some k → w.heap.size + 1 ≤ k := fun k hk => (how.lt k hk).1
      have HS := Lib.hid hsort
      have HX := Lib.hid hxs
      have HB := Lib.hid hbel
      have HO := Lib.hid hown
      clear hS hxs hsort hbel hown how
      go_wp2_with (go_at_call 32; (with_reducible refine HS.out.mono ?_); rintro e w3 ⟨rfl, hs3, hg3⟩; have HS3 := Lib.hid hs3; have HG3 := Lib.hid hg3; clear hs3 hg3)
      go_ret
      have e2 : sortL xs = sortL (pick die blk l) := sortL_of_perm HX.out
      refine ⟨_, rfl, by rw [← e2]; exact HS3.out.base (by omega), HB.out.grown HG3.out HB.out.size (fun k hk => by have := HO.out k hk; omega)⟩
    · intro x y z v left' w1 hp1 hrg1 hg1 hs1 hen
      have hlen : left.length = left'.length + 1 := by have := hp1.length_eq; simpa using this
      have how1 := how.kept hg1 (ownsRow_ne how (Nat.lt_succ_self _))
      have hbel1 : Below w.heap.size w w1 := hbel.grown hg1 hbel.size (fun k e => by cases e; exact Nat.le_refl _)
      have HRG1 := Lib.hid hrg1
      have HBEL1 := Lib.hid hbel1
      have HOW1 := Lib.hid how1
      have HP1 := Lib.hid hp1
      have HLEN := Lib.hid hlen
      have HRG := Lib.hid hrg
      clear how hrg hrg1 hg1 how1 hbel hbel1 hp1 hlen
      have keep : ∀ W, Below w1.heap.size w1 W → RangeIs EA W b w.heap.size l left' ∧ W.rangeLeft b w.heap.size < wr.rangeLeft b w.heap.size := fun W hW => by
        have h1 : RangeIs EA W b w.heap.size l left' := HRG1.out.of_blocks (hW.block b HRG1.out.map.lt) (hW.block _ HRG1.out.lt)
        exact ⟨h1, by rw [h1.left, HRG.out.left, HLEN.out]; omega⟩
      have KEEP := Lib.hid keep
      clear keep
      by_cases hx : x = die
      · subst hx
        by_cases hy : y = blk
        · subst hy
          have how2 : ((w1.alloc (.cells #[.int .i64 x, .int .i64 y, .int .i64 z] 29)).alloc (.cells #[.int .i64 x, .int .i64 y, .int .i64 z] 29)).ownsRow (w.heap.size + 1) 29 3 u7 xs.length (xs.flatMap cellsA) := (HOW1.out.alloc _).alloc _
          have hnews : ∀ j u, (cellsA (x, y, z))[j]? = some u → ((w1.alloc (.cells #[.int .i64 x, .int .i64 y, .int .i64 z] 29)).alloc (.cells #[.int .i64 x, .int .i64 y, .int .i64 z] 29)).cell? ((⟨wr.heap.size + 1, 0, none⟩ : Addr).add j) = some u := fun j u hu => by
            have e : (⟨wr.heap.size + 1, 0, none⟩ : Addr).add j = ⟨(w1.alloc (.cells #[.int .i64 x, .int .i64 y, .int .i64 z] 29)).heap.size, j, none⟩ := by
              simp only [Addr.add, World.size_alloc, hs1, Nat.zero_add]
              split <;> simp_all
            rw [e, World.cell?_alloc_at _ _ _ _ rfl]
            simpa [cellsA] using hu
          have hcap : xs.length + 1 ≤ 100000 := by have := HLEN.out; omega
          go_wp2_with (first
            | (at_builtin; refine wpList_append_own _ rfl _ _ 26 rfl (w.heap.size + 1) 29 i0 _ 3 24 Try.underlying26 hi hz0 hz1 hz2 rfl (by decide) _ _ _ rfl how2 ⟨wr.heap.size + 1, 0, none⟩ 1 1 (cellsA (x, y, z)) rfl rfl hnews (by simp [cellsA, Value.oneCell']) (by unfold maxLen; omega) (by omega) (by simp; omega) ?_; intro v' w2 how' hgrow hnil)
            | go_in)
          have hB2 : Below (w.heap.size + 1) w1 w2 := (((Below.refl _ w1).alloc (by omega) _).alloc (by simp; omega) _).grown hgrow (by simp; omega) (fun k hk => (HOW1.out.lt k hk).1)
          have hR2 : RangeIs EA w2 b w.heap.size l left' := HRG1.out.of_blocks (hB2.block b (by omega)) (hB2.block _ (by omega))
          go_roundw
          case rel => exact ⟨left', xs ++ [(x, y, z)], hR2, by simpa using how', Lib.hid (pick_yes hpm.out HP1.out), by have := HLEN.out; simp; omega, HBEL1.out.trans (hB2.mono (by omega)), by have := hB2.size; omega⟩
          case measure => rw [hR2.left, HRG.out.left, HLEN.out]; omega
        · have hb : (y == blk) = false := by simpa using hy
          go_wp2
          go_roundw
          case rel => exact ⟨left', xs, (KEEP.out _ ((Below.refl _ _).alloc (Nat.le_refl _) _)).1, HOW1.out.alloc _, Lib.hid (pick_no hpm.out HP1.out (.inr hy)), by have := HLEN.out; omega, HBEL1.out.alloc HBEL1.out.size _, by simp; omega⟩
          case measure => exact (KEEP.out _ ((Below.refl _ _).alloc (Nat.le_refl _) _)).2
      · have hb : (x == die) = false := by simpa using hx
        go_wp2
        go_roundw
        case rel => exact ⟨left', xs, (KEEP.out _ ((Below.refl _ _).alloc (Nat.le_refl _) _)).1, HOW1.out.alloc _, Lib.hid (pick_no hpm.out HP1.out (.inl hx)), by have := HLEN.out; omega, HBEL1.out.alloc HBEL1.out.size _, by simp; omega⟩
        case measure => exact (KEEP.out _ ((Below.refl _ _).alloc (Nat.le_refl _) _)).2

set_option maxRecDepth 100000 in
set_option maxHeartbeats 1000000 in
/-- Block, where no map has been made yet. -/
theorem blockS_none (g : Nat) (l : List (A3 × Value)) (die blk : Int) (w : World) (h : SpotIs w g none l) :
    Calls Try.prog 26 #[.pointer (some ⟨g, 0, none⟩), .int .i64 die, .int .i64 blk] w fun e w' => ∃ v, e = .returned v ∧ SliceA w.heap.size w' v (sortL (pick die blk l)) ∧ Below w.heap.size w w' := by
  have hc := h.cell
  have hl := h.none rfl
  subst hl
  clear h
  have hr := run_range_nilMap (P := Try.prog) w 71 29 9 Try.underlying71
  have hnx := fun ty => run_next_nilMap (P := Try.prog) w ty 0 0 #[]
  have hsort := sort_any w.heap.size (w.alloc (.mapIter none 0 #[] 0)) (.slice none 0 0) [] (.inl ⟨rfl, rfl⟩) (by simp)
  have HS := Lib.hid hsort
  clear hsort
  go_enter Try.func26, Try.ntmps26
  go_wp2
  refine wp_loop_rounds 1 ?_
  rw [rounds_succ]
  go_wp2_with (go_at_call 32; (with_reducible refine HS.out.mono ?_); rintro e w3 ⟨rfl, hs3, hg3⟩; have HS3 := Lib.hid hs3; have HG3 := Lib.hid hg3; clear hs3 hg3)
  go_ret
  exact ⟨_, rfl, by simpa [pick] using HS3.out, ((Below.refl _ _).alloc (Nat.le_refl _) _).grown HG3.out (by simp) (fun k hk => by cases hk)⟩

/-- Block. -/
theorem blockS_any (g : Nat) (mb : Option Nat) (l : List (A3 × Value)) (die blk : Int) (w : World) (h : SpotIs w g mb l) (hn : l.length < 100000) :
    Calls Try.prog 26 #[.pointer (some ⟨g, 0, none⟩), .int .i64 die, .int .i64 blk] w fun e w' => ∃ v, e = .returned v ∧ SliceA w.heap.size w' v (sortL (pick die blk l)) ∧ Below w.heap.size w w' := by
  cases mb with
  | none => exact blockS_none g l die blk w h
  | some b => exact blockS_some g b l die blk w h hn
end Go.Proofs.Ytobkbbbdddllmaa
