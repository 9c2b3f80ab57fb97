/- The guard of the statements on spot. -/
import Derived.Test.YtobkbbbdddllmaaBlockS
import Derived.Test.YtobkbbbdddllmaaAllS
import Derived.Test.YtobkbbbdddllmaaTwinsW
namespace Go.Proofs.Ytobkbbbdddllmaa
open Go.RowKit Mp Go.ChangeMaps Go.Sort

/-- A slice of places that has some. -/
theorem SliceA.parts {base : Nat} {w : World} {v : Value} {xs : List A3} (h : SliceA base w v xs) (hne : xs ≠ []) :
    ∃ g cap, v = .slice (some ⟨g, 0, none⟩) xs.length cap ∧ xs.length ≤ cap ∧ base ≤ g ∧ g < w.heap.size ∧
      ∀ i x, xs[i]? = some x → w.cell? ⟨g, i * 3, none⟩ = some (.int .i64 x.1) ∧ w.cell? ⟨g, i * 3 + 1, none⟩ = some (.int .i64 x.2.1) ∧ w.cell? ⟨g, i * 3 + 2, none⟩ = some (.int .i64 x.2.2) := by
  rcases h with ⟨_, e⟩ | ⟨g, cap, rfl, h1, h2, h3, h4, h5⟩
  · exact absurd e hne
  · refine ⟨g, cap, rfl, h1, h3, h4, fun i x hx => ?_⟩
    have hi : i < xs.toArray.size := by have := (List.getElem?_eq_some_iff.1 hx).1; simpa using this
    have hx2 : xs.toArray[i]! = x := by simp [List.getElem!_eq_getElem?_getD, hx]
    have c0 := (h5.cell hi (show 0 < 3 by omega)).1
    have c1 := (h5.cell hi (show 1 < 3 by omega)).1
    have c2 := (h5.cell hi (show 2 < 3 by omega)).1
    rw [hx2] at c0 c1 c2
    simp only [Nat.zero_add, Nat.add_zero] at c0 c1 c2
    exact ⟨c0, c1, c2⟩

theorem sortL_id {xs : List A3} (h : xs.Pairwise ltA) : sortL xs = xs := sorted_eq (sortL_perm xs) (sortL_sorted xs (sorted_nodup h)) h

def pg (n : Nat) : List Nat := n :: List.replicate 31 0
theorem twins_begun : twinsS [pg 1, pg 2, pg 1] = [[0, 2]] := by decide +kernel
theorem okP_pg (n : Nat) (h : n < 256) : okP (pg n) := by
  refine ⟨by simp [pg], fun x hx => ?_⟩
  rcases List.mem_cons.1 hx with rfl | hx
  · exact h
  · rw [List.eq_of_mem_replicate hx]; omega
theorem pages_three (W : World) (p q r : List Nat) (hp : p.length = 32) (hq : q.length = 32) (hr : r.length = 32) (t : TypeId) : PagesIs (W.alloc (.cells (cellsP p ++ cellsP q ++ cellsP r).toArray t)) (some ⟨W.heap.size, 0, none⟩) [p, q, r] := by
  have l1 : (cellsP p).length = 32 := by simp [cellsP, hp]
  have l2 : (cellsP q).length = 32 := by simp [cellsP, hq]
  have at_ : ∀ (x : List Nat) (hx : x.length = 32) (j : Nat), j < 32 → (cellsP x)[j]? = some (.int .u8 ((x.getD j 0 : Nat) : Int)) := fun x hx j hj => by
    simp [cellsP, List.getElem?_eq_getElem (show j < x.length by omega), List.getD_eq_getElem?_getD]
  intro i x hx
  match i, hx with
  | 0, hx =>
    simp at hx; subst hx
    refine ⟨hp, _, _, rfl, fun j hj => ?_⟩
    rw [World.cell?_alloc_at _ _ _ _ rfl, List.getElem?_toArray, List.append_assoc, List.getElem?_append_left (by omega), show 0 + 0 * 32 + j = j by omega]
    exact at_ _ hp j hj
  | 1, hx =>
    simp at hx; subst hx
    refine ⟨hq, _, _, rfl, fun j hj => ?_⟩
    rw [World.cell?_alloc_at _ _ _ _ rfl, List.getElem?_toArray, List.append_assoc, List.getElem?_append_right (by omega), List.getElem?_append_left (by omega), show 0 + 1 * 32 + j - (cellsP p).length = j by omega]
    exact at_ _ hq j hj
  | 2, hx =>
    simp at hx; subst hx
    refine ⟨hr, _, _, rfl, fun j hj => ?_⟩
    rw [World.cell?_alloc_at _ _ _ _ rfl, List.getElem?_toArray, List.getElem?_append_right (by simp; omega), show 0 + 2 * 32 + j - (cellsP p ++ cellsP q).length = j by simp; omega]
    exact at_ _ hr j hj

theorem ok123 : okA (1, 2, 3) := ⟨by unfold okI; decide, by unfold okI; decide, by unfold okI; decide⟩
theorem ok099 : okA (0, 9, 9) := ⟨by unfold okI; decide, by unfold okI; decide, by unfold okI; decide⟩

/-- A slice of one-cell things that has some. -/
theorem own_parts {w : World} {base : Nat} {e : TypeId} {v : Value} {n : Nat} {xs : List Value} (h : w.ownsRow base e 1 v n xs) (hn : 0 < n) :
    ∃ g cap, v = .slice (some ⟨g, 0, none⟩) n cap ∧ n ≤ cap ∧ base ≤ g ∧ g < w.heap.size ∧ ∀ i x, xs[i]? = some x → w.cell? ⟨g, i, none⟩ = some x := by
  rcases h.2 with ⟨_, hz⟩ | ⟨g, cap, cur, rfl, h1, h2, h3, h4, h5, h6⟩
  · omega
  · refine ⟨g, cap, rfl, h3, h1, (Array.getElem?_eq_some_iff.1 h2).1, fun i x hx => ?_⟩
    have hi : i < n := by have := (List.getElem?_eq_some_iff.1 hx).1; have := h.1; omega
    have := congrArg (fun L => L[i]?) h6
    simp only [Nat.mul_one] at this
    rw [List.getElem?_take_of_lt hi, hx] at this
    simp [World.cell?, h2, ← Array.getElem?_toList, this]

/-- What the guard reads. -/
def FB (w : World) (g5 g6 g7 c7 : Nat) : Prop :=
  w.cell? ⟨g5, 0, none⟩ = some (.int .i64 0) ∧ w.cell? ⟨g5, 1, none⟩ = some (.int .i64 9) ∧ w.cell? ⟨g5, 2, none⟩ = some (.int .i64 9) ∧
  w.cell? ⟨g6, 0, none⟩ = some (.slice (some ⟨g7, 0, none⟩) 2 c7) ∧ w.cell? ⟨g7, 1, none⟩ = some (.int .i64 2)
theorem FB.keep {w w' : World} {g5 g6 g7 c7 : Nat} (h : FB w g5 g6 g7 c7) (h5 : w'.heap[g5]? = w.heap[g5]?) (h6 : w'.heap[g6]? = w.heap[g6]?) (h7 : w'.heap[g7]? = w.heap[g7]?) : FB w' g5 g6 g7 c7 := by
  obtain ⟨a, b, c, d, e⟩ := h
  exact ⟨(World.cell?_of_block (a := ⟨g5, 0, none⟩) h5).trans a, (World.cell?_of_block (a := ⟨g5, 1, none⟩) h5).trans b, (World.cell?_of_block (a := ⟨g5, 2, none⟩) h5).trans c, (World.cell?_of_block (a := ⟨g6, 0, none⟩) h6).trans d, (World.cell?_of_block (a := ⟨g7, 1, none⟩) h7).trans e⟩
theorem FB.below {w w' : World} {g5 g6 g7 c7 : Nat} (h : FB w g5 g6 g7 c7) (hb : Below w.heap.size w w') : FB w' g5 g6 g7 c7 :=
  h.keep (hb.block _ (World.block_lt_of_cell? w _ h.1)) (hb.block _ (World.block_lt_of_cell? w _ h.2.2.2.1)) (hb.block _ (World.block_lt_of_cell? w _ h.2.2.2.2))
theorem FB.but {w w' : World} {g5 g6 g7 c7 g b : Nat} (h : FB w g5 g6 g7 c7) (hb : But2 g (some b) w w') (h5 : g5 ≠ g ∧ g5 ≠ b) (h6 : g6 ≠ g ∧ g6 ≠ b) (h7 : g7 ≠ g ∧ g7 ≠ b) : FB w' g5 g6 g7 c7 :=
  h.keep (hb.block _ (World.block_lt_of_cell? w _ h.1) h5.1 (by simpa using h5.2)) (hb.block _ (World.block_lt_of_cell? w _ h.2.2.2.1) h6.1 (by simpa using h6.2)) (hb.block _ (World.block_lt_of_cell? w _ h.2.2.2.2) h7.1 (by simpa using h7.2))

abbrev sx : Value := .string { data := #[120] }
abbrev sy : Value := .string { data := #[121] }
abbrev lB : List (A3 × Value) := [((0, 9, 9), sy), ((1, 2, 3), sx)]

set_option maxRecDepth 100000 in
set_option maxHeartbeats 4000000 in
theorem begun5_any (w : World) : Calls Try.prog 7 #[] w fun e w' => e = .returned (.bool true) ∧ Below w.heap.size w w' := by
  obtain ⟨g, hg⟩ : ∃ g, w.heap.size = g := ⟨_, rfl⟩
  have HN := Lib.hid (newS w)
  rw [hg] at HN
  rw [hg]
  go_enter Try.func7, Try.ntmps7
  go_wp2_with fail
  refine HN.out.mono ?_
  rintro e w1 ⟨rfl, hs, hb, _⟩
  have HS1 := Lib.hid hs
  have HB1 := Lib.hid hb
  clear hs hb HN hg
  go_wp2_with fail
  refine (setS_none g [] (1, 2, 3) sx w1 HS1.out ok123).mono ?_
  rintro e w2 ⟨rfl, b, hbw, hs, hb⟩
  have hgb : g ≤ b := Nat.le_trans (Nat.le_of_lt HS1.out.lt) hbw
  have HS2 := Lib.hid (show SpotIs w2 g (some b) [((1, 2, 3), sx)] from hs)
  have HB2 : Hid (Below g w w2) := Lib.hid (HB1.out.trans (hb.below (Nat.le_of_lt HS1.out.lt) (Nat.le_refl _) (fun _ h => by cases h)))
  clear hs hb hbw HS1 HB1
  go_wp2_with fail
  refine (setS_some g b [((1, 2, 3), sx)] (0, 9, 9) sy w2 HS2.out ok099).mono ?_
  rintro e w3 ⟨rfl, hs, hb⟩
  have HS3 := Lib.hid (show SpotIs w3 g (some b) lB from hs)
  have HB3 : Hid (Below g w w3) := Lib.hid (HB2.out.trans (hb.below (Nat.le_of_lt HS2.out.lt) (Nat.le_refl _) (fun _ h => by cases h; exact hgb)))
  clear hs hb HS2 HB2
  go_wp2_with fail
  refine (getS_any g (some b) lB (1, 2, 3) w3 HS3.out ok123).mono ?_
  rintro e w4 ⟨rfl, hb⟩
  rw [show getA lB (1, 2, 3) = some sx from rfl]
  simp only [Option.getD_some, Option.isSome_some]
  have HS4 := Lib.hid (HS3.out.below hb (Nat.le_refl _))
  have HB4 : Hid (Below g w w4) := Lib.hid (HB3.out.trans (hb.mono (Nat.le_of_lt HS3.out.lt)))
  clear hb HS3 HB3
  go_wp2_with fail
  refine (allS_any g (some b) lB w4 HS4.out (by decide)).mono ?_
  rintro e w5 ⟨v, rfl, hsl, hb⟩
  have hsort : sortL (lB.map (·.1)) = [(0, 9, 9), (1, 2, 3)] := sortL_id (by decide)
  rw [hsort] at hsl
  have HS5 := Lib.hid (HS4.out.below hb (Nat.le_refl _))
  have HB5 : Hid (Below g w w5) := Lib.hid (HB4.out.trans (hb.mono (Nat.le_of_lt HS4.out.lt)))
  obtain ⟨g5, c5, rfl, hc5, hbase5, hlt5, hcell5⟩ := hsl.parts (by simp)
  have hg5 : g5 ≠ g := by have := HS4.out.lt; omega
  have hb5 : g5 ≠ b := by have := HS4.out.mblt rfl; omega
  have HC5 := Lib.hid (hcell5 0 (0, 9, 9) rfl)
  clear hb hsl hcell5 HS4 HB4 hsort hbase5
  go_wp2_with fail
  refine (twins_any _ (some ⟨w5.heap.size, 0, none⟩) 3 [pg 1, pg 2, pg 1] (pages_three w5 (pg 1) (pg 2) (pg 1) rfl rfl rfl _) (by decide) (fun p hp => by
    simp only [List.mem_cons, List.not_mem_nil, or_false] at hp
    rcases hp with rfl | rfl | rfl <;> exact okP_pg _ (by omega))).mono ?_
  rintro e w6 ⟨v, rfl, hout, hb⟩
  rw [twins_begun] at hout
  obtain ⟨vs, hrow, hsub⟩ := hout
  obtain ⟨g6, c6, rfl, hc6, hbase6, hlt6, hcell6⟩ := own_parts hrow (by simp)
  obtain ⟨u, hu⟩ : ∃ u, vs[0]? = some u := by
    have := hrow.1
    simp at this
    exact ⟨_, List.getElem?_eq_getElem (by omega)⟩
  have hsub0 := hsub 0 u [0, 2] hu rfl
  obtain ⟨g7, c7, rfl, hc7, hbase7, hlt7, hcell7⟩ := own_parts hsub0 (by simp)
  have hb56 : Below w5.heap.size w5 w6 := ((Below.refl _ w5).alloc (Nat.le_refl _) _).trans (hb.mono (by simp))
  have HS6 := Lib.hid (HS5.out.below hb56 (Nat.le_refl _))
  have HB6 : Hid (Below g w w6) := Lib.hid (HB5.out.trans (hb56.mono (Nat.le_of_lt HS5.out.lt)))
  have hs5 : w5.heap.size ≤ g6 ∧ w5.heap.size ≤ g7 := by simp at hbase6 hbase7; omega
  have h56 := HS5.out.lt
  have h57 := HS5.out.mblt rfl
  have HF : Hid (FB w6 g5 g6 g7 c7) := Lib.hid ⟨(hb56.cell (p := ⟨g5, 0, none⟩) hlt5).trans HC5.out.1, (hb56.cell (p := ⟨g5, 1, none⟩) hlt5).trans HC5.out.2.1, (hb56.cell (p := ⟨g5, 2, none⟩) hlt5).trans HC5.out.2.2, hcell6 0 _ hu, hcell7 1 (.int .i64 2) rfl⟩
  have HNE : Hid ((g5 ≠ g ∧ g5 ≠ b) ∧ (g6 ≠ g ∧ g6 ≠ b) ∧ (g7 ≠ g ∧ g7 ≠ b)) := Lib.hid ⟨⟨hg5, hb5⟩, ⟨by omega, by omega⟩, ⟨by omega, by omega⟩⟩
  clear hb hsub0 hsub hrow hcell6 hcell7 hu hb56 HS5 HB5 hs5 h56 h57 hg5 hb5 HC5 hbase6 hbase7 hlt6 hlt7 hlt5
  obtain ⟨f0, f1, f2, f3, f4⟩ := HF.out
  go_wp2_with fail
  refine (lenS_any g (some b) lB w6 HS6.out).mono ?_
  rintro e w' ⟨rfl, rfl⟩
  go_wp2_with fail
  refine (blockS_any g (some b) lB 1 2 w6 HS6.out (by decide)).mono ?_
  rintro e w7 ⟨v, rfl, hsl, hb⟩
  have hsort : sortL (pick 1 2 lB) = [(1, 2, 3)] := sortL_id (by decide)
  rw [hsort] at hsl
  obtain ⟨g8, c8, rfl, hc8, _, _, _⟩ := hsl.parts (by simp)
  have HS7 := Lib.hid (HS6.out.below hb (Nat.le_refl _))
  have HB7 : Hid (Below g w w7) := Lib.hid (HB6.out.trans (hb.mono (Nat.le_of_lt HS6.out.lt)))
  have HF7 := Lib.hid (HF.out.below hb)
  clear hb hsl hsort HS6 HB6 HF f0 f1 f2 f3 f4
  obtain ⟨f0, f1, f2, f3, f4⟩ := HF7.out
  go_wp2_with fail
  refine (dropS_yes g b lB (0, 9, 9) sy w7 HS7.out ok099 rfl).mono ?_
  rintro e w8 ⟨rfl, hs, hb⟩
  have HS8 := Lib.hid (show SpotIs w8 g (some b) [((1, 2, 3), sx)] from hs)
  have HB8 : Hid (Below g w w8) := Lib.hid (HB7.out.trans (hb.below (Nat.le_of_lt HS7.out.lt) (Nat.le_refl _) (fun _ h => by cases h; exact hgb)))
  have HF8 := Lib.hid (HF7.out.but hb HNE.out.1 HNE.out.2.1 HNE.out.2.2)
  clear hs hb HS7 HB7 HF7 f0 f1 f2 f3 f4
  obtain ⟨f0, f1, f2, f3, f4⟩ := HF8.out
  go_wp2_with fail
  refine (dropS_no g (some b) [((1, 2, 3), sx)] (0, 9, 9) w8 HS8.out ok099 rfl).mono ?_
  rintro e w9 ⟨rfl, hb⟩
  have HB9 : Hid (Below g w w9) := Lib.hid (HB8.out.trans (hb.mono (Nat.le_of_lt HS8.out.lt)))
  have HF9 := Lib.hid (HF8.out.below hb)
  clear hb HS8 HB8 HF8 f0 f1 f2 f3 f4
  obtain ⟨f0, f1, f2, f3, f4⟩ := HF9.out
  go_wp2_with fail
  go_ret
  exact ⟨rfl, HB9.out⟩
end Go.Proofs.Ytobkbbbdddllmaa
