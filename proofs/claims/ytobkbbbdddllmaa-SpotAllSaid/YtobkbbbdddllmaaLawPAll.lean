/- The law SpotAll: the walk. -/
import Derived.Test.YtobkbbbdddllmaaSpotR
import Derived.Test.YtobkbbbdddllmaaAllI
import Derived.Test.YtobkbbbdddllmaaTree
import Derived.Deep.QuietTactic
import Derived.StillTailTactics
import Derived.Deep.DeepCutAuto
import Derived.Deep.CutBlock
namespace Go.Proofs.Ytobkbbbdddllmaa
open Go.RowKit Mp Go.ChangeMaps Go.Sort

/-- Is a at q? -/
def InAt (T : List (A3 × Int)) (q : Nat) (a : A3) (b : Bool) : Prop := (b = true ∧ ∃ m, T[q]? = some (a, m)) ∨ (b = false ∧ ∀ m, T[q]? ≠ some (a, m))
theorem inAt_of {T : List (A3 × Int)} {q : Nat} {p : A3 × Int} (a : A3) (h : T[q]? = some p) : InAt T q a (decide (p.1 = a)) := by
  obtain ⟨x, m⟩ := p
  by_cases e : x = a
  · subst e; exact .inl ⟨by simp, m, h⟩
  · exact .inr ⟨by simp [e], fun m' h' => by rw [h] at h'; cases h'; exact e rfl⟩
theorem inAt_none {T : List (A3 × Int)} {q : Nat} (a : A3) (h : T.length ≤ q) : InAt T q a false := .inr ⟨rfl, fun m h' => by rw [List.getElem?_eq_none h] at h'; cases h'⟩
inductive AllMid (w : World) (g B : Nat) (j : Nat) (v5 v6 : Value) (x : World) : Prop
  | mk (mb : Option Nat) (T : List (A3 × Int)) (hT : T.length ≤ j + 1) (st : St w g B mb T v5 v6 x)

inductive AllRel (w : World) (g B : Nat) (len : Nat) (v5 v6 v7 : Value) (x : World) : Prop
  | mk (k : Nat) (mb : Option Nat) (T : List (A3 × Int)) (h7 : v7 = .int .i64 k) (hk : k ≤ len) (h60 : k ≤ 60) (hT : T.length ≤ k) (st : St w g B mb T v5 v6 x)

/-- Where a would stand. -/
theorem place_of (T : List (A3 × Int)) (a : A3) : ∃ k, k ≤ T.length ∧ Upto T a k ∧ ∀ p, T[k]? = some p → ¬ ltA p.1 a := by
  induction T with
  | nil => exact ⟨0, Nat.le_refl _, fun i p _ h => by omega, fun p h => by simp at h⟩
  | cons q r ih =>
    by_cases hq : ltA q.1 a
    · obtain ⟨k, h1, h2, h3⟩ := ih
      refine ⟨k + 1, by simpa using h1, fun i p hp hi => ?_, fun p hp => h3 p (by simpa using hp)⟩
      cases i with
      | zero => simp at hp; subst hp; exact hq
      | succ i => exact h2 i p (by simpa using hp) (by omega)
    · exact ⟨0, Nat.zero_le _, fun i p _ h => by omega, fun p hp => by simp at hp; subst hp; exact hq⟩
theorem cellsT_at {T : List (A3 × Int)} {k : Nat} {p : A3 × Int} (h : T[k]? = some p) : (cellsT T)[k * 3]? = some (.int .i64 p.1.1) ∧ (cellsT T)[k * 3 + 1]? = some (.int .i64 p.1.2.1) ∧ (cellsT T)[k * 3 + 2]? = some (.int .i64 p.1.2.2) := by
  have e : cellsT T = cellsT (T.take k) ++ (cellsA p.1 ++ cellsT (T.drop (k + 1))) := by
    have : cellsA p.1 ++ cellsT (T.drop (k + 1)) = cellsT (T.drop k) := by rw [drop_cons h]; simp [cellsT]
    rw [this, ← cellsT_append, List.take_append_drop]
  have hk := (List.getElem?_eq_some_iff.1 h).1
  have hl : (cellsT (T.take k)).length = k * 3 := by rw [cellsT_len, List.length_take, Nat.min_eq_left (by omega)]
  rw [e]
  refine ⟨?_, ?_, ?_⟩ <;> (rw [List.getElem?_append_right (by omega), hl]; simp [cellsA])
theorem set_len {T : List (A3 × Int)} {a : A3} {k : Nat} {m : Int} (n : Int) (h : T[k]? = some (a, m)) : (setT T k a n).length = T.length := by
  have := congrArg List.length (set_keys n h)
  simpa using this
theorem cells_set {T : List (A3 × Int)} {a : A3} {k : Nat} {m : Int} (n : Int) (h : T[k]? = some (a, m)) : cellsT (setT T k a n) = cellsT T := by
  rw [cellsT_fst, set_keys n h, ← cellsT_fst]
theorem nums_set {T : List (A3 × Int)} {a : A3} {k : Nat} {m : Int} (n : Int) (h : T[k]? = some (a, m)) : numsT (setT T k a n) = (numsT T).set k (.int .i64 n) := by
  have hk := (List.getElem?_eq_some_iff.1 h).1
  have e : T = T.take k ++ (a, m) :: T.drop (k + 1) := by rw [← drop_cons h, List.take_append_drop]
  have hl : ((T.take k).map fun p : A3 × Int => Value.int .i64 p.2).length = k := by simp; omega
  conv => rhs; rw [e]
  unfold numsT setT
  rw [List.map_append, List.map_append, List.map_cons, List.map_cons, List.set_append_right _ _ (by omega), hl]
  simp
/-- A row of places, as it is read. -/
theorem row_form {x : World} {B : Nat} {e : TypeId} {s n : Nat} {v : Value} {xs : List Value} (h : x.ownsRow B e s v n xs) : ∃ oa cap, v = .slice oa n cap ∧ n ≤ cap ∧ cap ≤ 9223372036854775807 ∧
    (∀ j, j < n * s → ∃ G, oa = some ⟨G, 0, none⟩ ∧ ∀ j u, xs[j]? = some u → x.cell? ⟨G, j, none⟩ = some u) := by
  rcases h.2 with ⟨rfl, h0⟩ | ⟨G, cap, cur, rfl, _, hg, hn, hm, hcs, htk⟩
  · subst h0; exact ⟨none, 0, rfl, Nat.le_refl _, by omega, fun j hj => by omega⟩
  · exact ⟨_, cap, rfl, hn, by unfold maxLen at hm; omega, fun j _ => ⟨G, rfl, own_cells h⟩⟩

theorem cells_one (T : List (A3 × Int)) : ∀ u ∈ cellsT T, u.oneCell' = true := fun u hu => by
  unfold cellsT at hu
  obtain ⟨p, _, hp⟩ := List.mem_flatMap.1 hu
  simp [cellsA] at hp
  rcases hp with rfl | rfl | rfl <;> rfl
theorem nums_one (T : List (A3 × Int)) : ∀ u ∈ numsT T, u.oneCell' = true := fun u hu => by
  unfold numsT at hu
  obtain ⟨p, _, rfl⟩ := List.mem_map.1 hu
  rfl
theorem take_one {xs : List Value} (h : ∀ u ∈ xs, u.oneCell' = true) (k : Nat) : ∀ u ∈ xs.take k, u.oneCell' = true := fun u hu => h u (List.mem_of_mem_take hu)
theorem drop_one {xs : List Value} (h : ∀ u ∈ xs, u.oneCell' = true) (k : Nat) : ∀ u ∈ xs.drop k, u.oneCell' = true := fun u hu => h u (List.mem_of_mem_drop hu)
theorem nums_len (T : List (A3 × Int)) : (numsT T).length = T.length := by simp [numsT]
theorem ins_len {T : List (A3 × Int)} {k : Nat} (a : A3) (n : Int) (hk : k ≤ T.length) : (insT T k a n).length = T.length + 1 := by simp [insT]; omega
theorem del_len {T : List (A3 × Int)} {k : Nat} (hk : k < T.length) : (delT T k).length = T.length - 1 := by simp [delT]; omega
theorem ins_cells {T : List (A3 × Int)} {k : Nat} (a : A3) (n : Int) (hk : k ≤ T.length) : [] ++ (cellsT T).take (k * 3) ++ cellsA a ++ (cellsT T).drop (k * 3) = cellsT (insT T k a n) := by
  rw [cellsT_take T k hk, cellsT_drop T k hk]; simp [insT, cellsT]
theorem ins_nums {T : List (A3 × Int)} (k : Nat) (a : A3) (n : Int) : [] ++ (numsT T).take (k * 1) ++ [.int .i64 n] ++ (numsT T).drop (k * 1) = numsT (insT T k a n) := by simp [insT, numsT]
theorem del_cells {T : List (A3 × Int)} {k : Nat} (hk : k < T.length) : [] ++ (cellsT T).take (k * 3) ++ (cellsT T).drop ((k + 1) * 3) = cellsT (delT T k) := by
  rw [cellsT_take T k (by omega), cellsT_drop T (k + 1) (by omega)]; simp [delT, cellsT]
theorem del_nums {T : List (A3 × Int)} (k : Nat) : [] ++ (numsT T).take (k * 1) ++ (numsT T).drop ((k + 1) * 1) = numsT (delT T k) := by simp [delT, numsT]
theorem ins_at {T : List (A3 × Int)} {k : Nat} (a : A3) (n : Int) (hk : k ≤ T.length) : (insT T k a n)[k]? = some (a, n) := by
  unfold insT; rw [List.getElem?_append_right (List.length_take_le _ _)]; simp [Nat.min_eq_left hk]
theorem set_ins {T : List (A3 × Int)} {k : Nat} (a : A3) (m n : Int) (hk : k ≤ T.length) : setT (insT T k a m) k a n = insT T k a n := by
  have hl : (T.take k).length = k := by simp; omega
  unfold setT insT
  rw [List.take_left' hl]
  congr 1
  rw [show T.take k ++ (a, m) :: T.drop k = (T.take k ++ [(a, m)]) ++ T.drop k by simp, List.drop_left' (by simp; omega)]
theorem fst_sorted {T : List (A3 × Int)} (h : SortedT T) : sortL ((T.map fV).map (·.1)) = T.map (·.1) := by rw [fV_keys]; exact sortL_id h
theorem ints_at (W : World) (y : Value) (t : TypeId) : ∀ j u, [y][j]? = some u → (W.alloc (.cells #[y] t)).cell? ((⟨W.heap.size, 0, none⟩ : Addr).add j) = some u := fun j u hu => by
  cases j with
  | zero => rw [show (⟨W.heap.size, 0, none⟩ : Addr).add 0 = ⟨W.heap.size, 0, none⟩ by rfl, World.cell?_alloc_at _ _ _ _ rfl]; simpa using hu
  | succ j => simp at hu
theorem infoInt : (Try.prog.info? 3).map (fun i => (i.zero, i.size, i.bytes)) = some (some (.int .i64 0), 1, 8) := by kernel_rfl

set_option maxRecDepth 100000 in
set_option maxHeartbeats 8000000 in
theorem spotAll_walk (ao : Option Addr) (len cap : Nat) (ops : List (Int × A3 × Int)) (w : World) (hlen : ops.length = len) (hle : len ≤ cap) (hcap : cap ≤ maxLen) (hx : OpsIs w ao ops) :
    Calls Try.prog 3 #[.slice ao len cap] w fun e w' => e = .returned (.bool true) ∧ Below w.heap.size w w' := by
  have HX := Lib.hid hx
  have HLEN := Lib.hid hlen
  have hc64 : cap ≤ 9223372036854775807 := by unfold maxLen at hcap; omega
  obtain ⟨i0, hi, hz0, hz1, hz2⟩ := info_parts infoA
  obtain ⟨j0, hj0, hy0, hy1, hy2⟩ := info_parts infoInt
  clear hx hlen hcap
  go_enter Try.func3, Try.ntmps3
  go_wp2_with fail
  refine (begun5_any w).mono ?_
  rintro e w1 ⟨rfl, hb1⟩
  have HB1 := Lib.hid hb1
  clear hb1
  go_wp2_with fail
  refine (newI w1).mono ?_
  rintro e w2 ⟨rfl, hs, hb2, hsz2⟩
  obtain ⟨g, hg⟩ : ∃ g, w1.heap.size = g := ⟨_, rfl⟩
  rw [hg] at hs hsz2 ⊢
  have hgw : w.heap.size ≤ g := by rw [← hg]; exact HB1.out.size
  have HB2 := Lib.hid (HB1.out.trans (hb2.mono HB1.out.size))
  have ST0 : Hid (St w g (g + 1) none [] (.slice none 0 0) (.slice none 0 0) w2) := Lib.hid ⟨hs, World.ownsRow_nil _ _ _ _, World.ownsRow_nil _ _ _ _, HB2.out, hgw, by omega, by omega, fun b h => (by cases h), List.Pairwise.nil⟩
  obtain ⟨B, hB⟩ : ∃ B, g + 1 = B := ⟨_, rfl⟩
  rw [hB] at ST0
  clear hb2 hs HB1 hg HB2 hsz2 hB hgw
  go_wp2_with fail
  go_loopw [5, 6, 7] (fun v5 v6 v7 x => AllRel w g B len v5 v6 v7 x) (fun _ _ i _ => (len - intOf i).toNat)
  case atStart => exact ⟨0, none, [], rfl, Nat.zero_le _, by omega, Nat.le_refl _, ST0.out⟩
  case round =>
    obtain ⟨j, mb, T, rfl, hj, hj60, hTj, st⟩ := hrel
    have ST := Lib.hid st
    clear st ST0
    rcases (show (j < len ∧ j < 60) ∨ (j < len ∧ 60 ≤ j) ∨ len ≤ j by omega) with hcase | hcase | hcase
    · obtain ⟨hjl, hj6⟩ := hcase
      obtain ⟨o, hp⟩ : ∃ o, ops[j]? = some o := ⟨_, List.getElem?_eq_getElem (by rw [HLEN.out]; exact hjl)⟩
      obtain ⟨hok, hokn, b0, o0, rfl, c0, c1, c2, c3, c4⟩ := (HX.out.below (ST.out.bel.mono (Nat.le_refl _))) j o hp
      obtain ⟨K, a, n⟩ := o
      simp only at hok hokn c0 c1 c2 c3 c4
      have hjc : j < cap := by omega
      have HOK := Lib.hid hok
      clear hp hok hokn
      obtain ⟨k, hkT, hup, hstop⟩ := place_of T a
      have HUP := Lib.hid hup
      have HSTOP := Lib.hid hstop
      obtain ⟨oa, ca, rfl, hca, hca6, hcell⟩ := row_form ST.out.ra
      have HCELL := Lib.hid hcell
      have HKT := Lib.hid hkT
      clear hup hstop hcell
      have RD := Lib.hid (ST.out.round K a n 31)
      obtain ⟨h, hh⟩ : ∃ h, wr.heap.size = h := ⟨_, rfl⟩
      rw [hh] at RD
      have HH := Lib.hid hh
      clear hh
      go_wp2_with fail
      have hd6 : decide ((j : Int) < 60) = true := decide_eq_true (by omega)
      rw [hd6]
      have HJ6 := Lib.hid hj6
      clear hj6 hd6
      rw [HH.out]
      generalize wr.alloc (.cells #[.int .i64 K, .int .i64 a.1, .int .i64 a.2.1, .int .i64 a.2.2, .int .i64 n] 31) = x1 at RD ⊢
      go_loopw [9] (fun i x => ∃ q : Nat, i = .int .i64 q ∧ q ≤ k ∧ Rd w g B h mb (T.map fV) T T K a n (.slice oa T.length ca) u6 x) (fun i _ => (k - intOf i).toNat)
      case atStart => exact ⟨0, rfl, Nat.zero_le _, RD.out⟩
      case round =>
        obtain ⟨q, rfl, hq, rd⟩ := hrel
        have RD := Lib.hid rd
        clear rd
        go_upto_region 12 with fail
        go_cut [45] (fun v x => v = .bool (decide (q < k)) ∧ Rd w g B h mb (T.map fV) T T K a n (.slice oa T.length ca) u6 x)
        case first =>
          rcases Nat.lt_or_ge q T.length with hqT | hqT
          · obtain ⟨p, hp⟩ : ∃ p, T[q]? = some p := ⟨_, List.getElem?_eq_getElem hqT⟩
            obtain ⟨G, rfl, hat⟩ := HCELL.out (q * 3) (by omega)
            obtain ⟨t0, t1, t2⟩ := cellsT_at hp
            have hG := RD.out.ra.lt G rfl
            have hS0 : Hid ((wr.drew.cell? ⟨G, q * 3, none⟩ = some (.int .i64 p.1.1) ∧ wr.drew.cell? ⟨G, q * 3 + 1, none⟩ = some (.int .i64 p.1.2.1) ∧ wr.drew.cell? ⟨G, q * 3 + 2, none⟩ = some (.int .i64 p.1.2.2)) ∧ OpAt wr.drew h K a n) :=
              Lib.hid ⟨⟨own_cells RD.out.ra _ _ t0, own_cells RD.out.ra _ _ t1, own_cells RD.out.ra _ _ t2⟩, RD.out.op⟩
            have hless : decide (ltA p.1 a) = decide (q < k) := by
              by_cases hqk : q < k
              · rw [decide_eq_true hqk]; exact decide_eq_true (HUP.out q p hp hqk)
              · obtain rfl : q = k := by omega
                rw [decide_eq_false hqk]; exact decide_eq_false (HSTOP.out p hp)
            have HGL := Lib.hid hG.2
            have HLESS := Lib.hid (fun W => less_any p.1 a W)
            have HDEC := Lib.hid hless
            have hqc : q < ca := by omega
            clear hless hat t0 t1 t2 hp hG
            refine wp_region_plan (S := fun w' => (w'.cell? ⟨G, q * 3, none⟩ = some (.int .i64 p.1.1) ∧ w'.cell? ⟨G, q * 3 + 1, none⟩ = some (.int .i64 p.1.2.1) ∧ w'.cell? ⟨G, q * 3 + 2, none⟩ = some (.int .i64 p.1.2.2)) ∧ OpAt w' h K a n)
              [(0, true), (1, true), (2, true), (3, true), (4, true), (5, true), (6, true), (7, true), (8, true), (9, true), (10, true), (11, false), (12, true)] (by kernel_rfl) (by kernel_rfl) (by kernel_rfl) (by decide) (fun _ _ d _ _ h => by cases d <;> exact h) hS0.out ?_
            simp only [stepsOf, nth, slotOf]
            iterate 11 (refine wpPlan_plain ?_ (by rfl) ?_ ?_; rotate_left; (focus (intro w' hw'; obtain ⟨⟨x0, x1, x2⟩, y0, y1, y2, y3, y4⟩ := hw'; go_simp; try with_reducible rfl)); go_simp)
            refine wpPlan_loud (by rfl) (fun KK hKK => ?_)
            go_simp
            refine (HLESS.out _).mono ?_
            rintro e x2 ⟨rfl, hb⟩
            rw [HDEC.out]
            have RD2 := Lib.hid (RD.out.below ((Below.refl wr.heap.size wr).drew.trans hb))
            have HBX := Lib.hid hb
            clear hb
            go_simp
            have hop := RD2.out.op
            have hS2 : Hid ((x2.cell? ⟨G, q * 3, none⟩ = some (.int .i64 p.1.1) ∧ x2.cell? ⟨G, q * 3 + 1, none⟩ = some (.int .i64 p.1.2.1) ∧ x2.cell? ⟨G, q * 3 + 2, none⟩ = some (.int .i64 p.1.2.2)) ∧ OpAt x2 h K a n) :=
              Lib.hid ⟨⟨(HBX.out.cell (p := ⟨G, q * 3, none⟩) HGL.out).trans hS0.out.1.1, (HBX.out.cell (p := ⟨G, q * 3 + 1, none⟩) HGL.out).trans hS0.out.1.2.1, (HBX.out.cell (p := ⟨G, q * 3 + 2, none⟩) HGL.out).trans hS0.out.1.2.2⟩, hop⟩
            clear hop
            refine hKK _ _ _ (fun _ h => h) hS2.out ?_
            clear hKK
            refine wpPlan_plain (.bool (decide (q < k))) (by rfl) ?_ ?_
            · intro w' _; go_simp
            go_simp
            refine wpPlan_nil ?_
            go_wp2_with fail
            go_meet
            case rel => exact ⟨rfl, RD2.out⟩
          · obtain rfl : q = T.length := by have := HKT.out; omega
            have hS0 : Hid (OpAt wr.drew h K a n) := Lib.hid RD.out.op
            have HDEC : Hid (decide (T.length < k) = false) := Lib.hid (by have := HKT.out; exact decide_eq_false (by omega))
            clear hqT
            refine wp_region_plan (S := fun w' => OpAt w' h K a n)
              [(0, true), (1, true), (2, true), (3, true), (4, true), (5, true), (6, true), (7, true), (8, true), (9, true), (10, true), (11, false), (12, true)] (by kernel_rfl) (by kernel_rfl) (by kernel_rfl) (by decide) (fun _ _ d _ _ h => by cases d <;> exact h) hS0.out ?_
            simp only [stepsOf, nth, slotOf]
            iterate 5 (refine wpPlan_plain ?_ (by rfl) ?_ ?_; rotate_left; (focus (intro w' hw'; obtain ⟨y0, y1, y2, y3, y4⟩ := hw'; go_simp; try with_reducible rfl)); go_simp)
            iterate 7 (refine wpPlan_off (by rfl) ?_; go_simp)
            refine wpPlan_plain (.bool false) (by rfl) ?_ ?_
            · intro w' _; go_simp
            go_simp
            refine wpPlan_nil ?_
            go_wp2_with fail
            go_meet
            case rel => exact ⟨by rw [HDEC.out], RD.out.below (Below.refl _ _).drew⟩
        case rest =>
          by_cases hqk : q < k
          · rw [decide_eq_true hqk] at hcut
            obtain ⟨rfl, rd⟩ := hcut
            have RD := Lib.hid rd
            clear rd
            go_wp2_with fail
            go_roundw
            case rel => exact ⟨q + 1, by simp, by omega, RD.out⟩
            case measure => simp [intOf]; omega
          · rw [decide_eq_false hqk] at hcut
            obtain ⟨rfl, rd⟩ := hcut
            obtain rfl : q = k := by omega
            have RD := Lib.hid rd
            clear rd hqk
            go_upto_region 14 with fail
            go_cut [10] (fun v x => ∃ inb, v = .bool inb ∧ InAt T q a inb ∧ Rd w g B h mb (T.map fV) T T K a n (.slice oa T.length ca) u6 x)
            case first =>
              rcases Nat.lt_or_ge q T.length with hqT | hqT
              · obtain ⟨p, hp⟩ : ∃ p, T[q]? = some p := ⟨_, List.getElem?_eq_getElem hqT⟩
                obtain ⟨G, rfl, hat⟩ := HCELL.out (q * 3) (by omega)
                obtain ⟨t0, t1, t2⟩ := cellsT_at hp
                have d0 := own_cells RD.out.ra _ _ t0
                have d1 := own_cells RD.out.ra _ _ t1
                have d2 := own_cells RD.out.ra _ _ t2
                obtain ⟨y0, y1, y2, y3, y4⟩ := RD.out.op
                have heq : ∀ W, (Op.equalIn 10000 29 (.agg #[.int .i64 p.1.1, .int .i64 p.1.2.1, .int .i64 p.1.2.2]) (.agg #[.int .i64 a.1, .int .i64 a.2.1, .int .i64 a.2.2])).run Try.prog W = .ok (decide (p.1 = a)) W := fun W => eqA p.1 a W
                have HIN := Lib.hid (inAt_of a hp)
                have hqc : q < ca := by omega
                clear hat t0 t1 t2 hp
                go_quiet (fail)
                go_wp2_with fail
                go_meet
                case rel => exact ⟨_, rfl, HIN.out, RD.out.below (below_drewN (Below.refl _ _) _)⟩
              · obtain rfl : q = T.length := by have := HKT.out; omega
                go_quiet (fail)
                go_wp2_with fail
                go_meet
                case rel => exact ⟨_, rfl, inAt_none a (Nat.le_refl _), RD.out.below (below_drewN (Below.refl _ _) _)⟩
            case rest =>
              obtain ⟨inb, rfl, hin, rd⟩ := hcut
              have RD := Lib.hid rd
              have HIN := Lib.hid hin
              clear rd hin
              obtain ⟨y0, y1, y2, y3, y4⟩ := RD.out.op
              go_upto_block 4 with fail
              go_cut [5, 6] (fun v5 v6 x => AllMid w g B j v5 v6 x)
              case first =>
                rcases (show K = 0 ∨ K = 1 ∨ (K ≠ 0 ∧ K ≠ 1) by omega) with hK | hK | hK
                · subst hK
                  go_wp2_with fail
                  refine (setI_mb g mb (T.map fV) a (.int .i64 n) wc RD.out.spot HOK.out).mono ?_
                  rintro e x2 ⟨rfl, mb2, hs, hb, hm⟩
                  have RD2 := Lib.hid (RD.out.set hs hb hm)
                  clear hs hb hm y0 y1 y2 y3 y4
                  obtain ⟨y0, y1, y2, y3, y4⟩ := RD2.out.op
                  cases inb with
                  | true =>
                    obtain ⟨m, hm⟩ : ∃ m, T[q]? = some (a, m) := by
                      rcases HIN.out with ⟨_, h⟩ | ⟨h, _⟩
                      · exact h
                      · cases h
                    have hqT : q < T.length := (List.getElem?_eq_some_iff.1 hm).1
                    obtain ⟨on, cn, e6, hcn, hcn6, hcelln⟩ := row_form RD2.out.rn
                    obtain ⟨Gn, rfl, hatn⟩ := hcelln q (by omega)
                    subst e6
                    have hqn : q < cn := by omega
                    have hk0 : ∃ u, x2.cell? ⟨Gn, q, none⟩ = some u := ⟨_, hatn q (.int .i64 m) (by unfold numsT; rw [List.getElem?_map, hm]; rfl)⟩
                    obtain ⟨u0, hk0⟩ := hk0
                    have hfz := RD2.out.rn.frozenAt q
                    have RD3 := Lib.hid (RD2.out.store (T3 := setT T q a n) (k := q) rfl (nums_set n hm) (cells_set n hm) (set_len n hm) (set_len n hm) (set_perm' n ST.out.sorted hm) (by unfold SortedT; rw [set_keys n hm]; exact ST.out.sorted))
                    clear hcelln hatn
                    go_wp2_with fail
                    go_meet
                    case rel => exact ⟨mb2, setT T q a n, by rw [set_len n hm]; omega, RD3.out⟩
                  | false =>
                    have hqT : q ≤ T.length := HKT.out
                    have hT60 : T.length ≤ 60 := by omega
                    have hno := (show ∀ p ∈ T, p.1 ≠ a from not_there ST.out.sorted HUP.out HSTOP.out (by
                      rcases HIN.out with ⟨h, _⟩ | ⟨_, h⟩
                      · cases h
                      · exact h))
                    have HNO := Lib.hid hno
                    have HNOT : Hid (∀ m, T[q]? ≠ some (a, m)) := Lib.hid (by
                      rcases HIN.out with ⟨h, _⟩ | ⟨_, h⟩
                      · cases h
                      · exact h)
                    clear hno
                    obtain ⟨on, cn, e6, hcn, hcn6, _⟩ := row_form RD2.out.rn
                    subst e6
                    obtain ⟨oc, m, c, hcut0⟩ := cut_at (ty := 26) RD2.out.ra q hqT Try.underlying26 Try.sizeOf29
                    have CUT := Lib.hid hcut0
                    have hlo := hcut0.lo
                    have hhi := hcut0.hi
                    have hm := hcut0.nk
                    have INS := Lib.hid (ins_cells a 0 hqT)
                    have INSL : Hid (0 + q + 1 + m = (insT T q a 0).length) := Lib.hid (by rw [ins_len a 0 hqT]; omega)
                    have HDL : Hid ((cellsT T |>.drop (q * 3)).length = m * 3) := Lib.hid (by rw [List.length_drop, cellsT_len]; omega)
                    have HTL : Hid ((cellsT T |>.take (q * 3)).length = q * 3) := Lib.hid (by rw [List.length_take, cellsT_len]; omega)
                    go_upto_region 22 with fail
                    go_cut [5] (fun v x => Rd w g B h mb2 ((a, .int .i64 n) :: delA (T.map fV) a) (insT T q a 0) T 0 a n v (.slice on T.length cn) x)
                    case first =>
                      have RDX := Lib.hid RD2.out
                      refine wp_region_tree (S := fun w' => OpAt w' h 0 a n) (.plain 0 (.plain 1 (.plain 2 (.plain 4 (.plain 5 (.plain 8 (.plain 9 (.plain 10 (.fork 3 (.one 6 (.one 7 (.one 11 (.plain 12 .nil)))) 6 (.one 3 (.one 7 (.one 11 (.plain 12 .nil))))))))))))) (by kernel_rfl) (by kernel_rfl) (by kernel_rfl) (by decide) (fun _ _ d _ _ h => by cases d <;> exact h) RDX.out.op ?_
                      simp only [treeOf, psOf, nth, slotOf]
                      iterate 8 (refine wpT_plain ?_ (by rfl) ?_ ?_; rotate_left; (focus (intro w' hw'; obtain ⟨y0, y1, y2, y3, y4⟩ := hw'; go_simp; try with_reducible rfl)); go_simp)
                      refine wpT_fork (by rfl) (by rfl) (fun KK hKK => ?_) (fun KK hKK => ?_)
                      · refine wp_append_x _ _ 26 rfl x2.heap.size 29 i0 _ 3 24 Try.underlying26 hi hz0 hz1 hz2 rfl (by decide) (.slice none 0 0) 0 [] rfl (World.ownsRow_nil _ _ _ _) oa q ca _ rfl CUT.out.loN HTL.out (CUT.out.low (Below.refl _ _).drew) (take_one (cells_one T) _) (by unfold maxLen; omega) (by omega) (Nat.le_refl _) ?_
                        intro v1 x3 hown1 hgrow1 _
                        have HB3 := Lib.hid ((Below.refl x2.heap.size x2).drew.grown hgrow1 (Nat.le_refl _) (fun q hq => (by cases hq)))
                        obtain ⟨gb, hgb⟩ : ∃ gb, x3.heap.size = gb := ⟨_, rfl⟩
                        have OWN1 := Lib.hid (hown1.alloc (.cells #[.int .i64 a.1, .int .i64 a.2.1, .int .i64 a.2.2] 29))
                        have HB4 := Lib.hid (HB3.out.alloc HB3.out.size (.cells #[.int .i64 a.1, .int .i64 a.2.1, .int .i64 a.2.2] 29))
                        have NEWS := Lib.hid (news_at x3 a.1 a.2.1 a.2.2 29)
                        rw [hgb] at NEWS
                        have HGB := Lib.hid hgb
                        refine hKK _ _ _ (fun _ h => h) (RDX.out.below HB3.out).op ?_
                        clear hown1 hgrow1 hKK hgb
                        obtain ⟨y0, y1, y2, y3, y4⟩ := (RDX.out.below HB3.out).op
                        refine wpT_loud (by rfl) (fun KK hKK => ?_)
                        go_simp
                        rw [HGB.out]
                        refine hKK _ _ _ (fun _ h => h) (RDX.out.below HB4.out).op ?_
                        clear hKK
                        refine wpT_loud (by rfl) (fun KK hKK => ?_)
                        refine wp_append_x _ _ 26 rfl x2.heap.size 29 i0 _ 3 24 Try.underlying26 hi hz0 hz1 hz2 rfl (by decide) v1 (0 + q) _ rfl OWN1.out (some ⟨gb, 0, none⟩) 1 1 (cellsA a) rfl (fun e => (by cases e)) rfl (fun ad e => (by cases e; exact NEWS.out)) (by simp [cellsA, Value.oneCell']) (by unfold maxLen; omega) (by omega) HB4.out.size ?_
                        intro v2 x5 hown2 hgrow2 _
                        have HB5 := Lib.hid (HB4.out.grown hgrow2 HB4.out.size (fun q hq => (OWN1.out.lt q hq).1))
                        have OWN2 := Lib.hid hown2
                        clear hown2 hgrow2
                        refine hKK _ _ _ (fun _ h => h) (RDX.out.below HB5.out).op ?_
                        clear hKK
                        go_simp
                        refine wpT_loud (by rfl) (fun KK hKK => ?_)
                        refine wp_append_x _ _ 26 rfl x2.heap.size 29 i0 _ 3 24 Try.underlying26 hi hz0 hz1 hz2 rfl (by decide) v2 (0 + q + 1) _ rfl OWN2.out oc m c _ rfl CUT.out.hiN HDL.out (CUT.out.high HB5.out) (drop_one (cells_one T) _) (by unfold maxLen; omega) (by omega) HB5.out.size ?_
                        intro v3 x6 hown3 hgrow3 _
                        have HB6 := Lib.hid (HB5.out.grown hgrow3 HB5.out.size (fun q hq => (OWN2.out.lt q hq).1))
                        have OWN3 := Lib.hid hown3
                        clear hown3 hgrow3
                        have RDF := Lib.hid (RDX.out.rowA (T' := insT T q a 0) HB6.out (by have := OWN3.out; rw [INS.out, INSL.out] at this; exact this))
                        refine hKK _ _ _ (fun _ h => h) (RDX.out.below HB6.out).op ?_
                        clear hKK
                        go_simp
                        iterate 1 (refine wpT_plain ?_ (by rfl) ?_ ?_; rotate_left; (focus (intro w' hw'; obtain ⟨y0, y1, y2, y3, y4⟩ := hw'; go_simp; try with_reducible rfl)); go_simp)
                        refine wpT_nil ?_
                        go_wp2_with fail
                        go_meet
                        case rel => exact RDF.out
                      · have HB3 := Lib.hid ((Below.refl x2.heap.size x2).drew.alloc (Nat.le_refl _) (.cells #[.int .i64 a.1, .int .i64 a.2.1, .int .i64 a.2.2] 29))
                        have NEWS0 := Lib.hid (news_at x2.drew a.1 a.2.1 a.2.2 29)
                        obtain ⟨y0, y1, y2, y3, y4⟩ := RDX.out.op
                        go_simp
                        refine hKK _ _ _ (fun _ h => h) (RDX.out.below HB3.out).op ?_
                        clear hKK
                        refine wpT_loud (by rfl) (fun KK hKK => ?_)
                        refine wp_append_x _ _ 26 rfl x2.heap.size 29 i0 _ 3 24 Try.underlying26 hi hz0 hz1 hz2 rfl (by decide) (.slice none 0 0) 0 [] rfl (World.ownsRow_nil _ _ _ _) oa q ca _ rfl CUT.out.loN HTL.out (CUT.out.low HB3.out) (take_one (cells_one T) _) (by unfold maxLen; omega) (by omega) HB3.out.size ?_
                        intro v1 x3 hown1 hgrow1 _
                        have HB4 := Lib.hid (HB3.out.grown hgrow1 HB3.out.size (fun q hq => (by cases hq)))
                        have OWN1 := Lib.hid hown1
                        have NEWS := Lib.hid (fun j u hu => grown_cell hgrow1 (NEWS0.out j u hu))
                        refine hKK _ _ _ (fun _ h => h) (RDX.out.below HB4.out).op ?_
                        clear hown1 hgrow1
                        go_simp
                        clear hKK
                        refine wpT_loud (by rfl) (fun KK hKK => ?_)
                        refine wp_append_x _ _ 26 rfl x2.heap.size 29 i0 _ 3 24 Try.underlying26 hi hz0 hz1 hz2 rfl (by decide) v1 (0 + q) _ rfl OWN1.out (some ⟨x2.drew.heap.size, 0, none⟩) 1 1 (cellsA a) rfl (fun e => (by cases e)) rfl (fun ad e => (by cases e; exact NEWS.out)) (by simp [cellsA, Value.oneCell']) (by unfold maxLen; omega) (by omega) HB4.out.size ?_
                        intro v2 x5 hown2 hgrow2 _
                        have HB5 := Lib.hid (HB4.out.grown hgrow2 HB4.out.size (fun q hq => (OWN1.out.lt q hq).1))
                        have OWN2 := Lib.hid hown2
                        clear hown2 hgrow2
                        refine hKK _ _ _ (fun _ h => h) (RDX.out.below HB5.out).op ?_
                        clear hKK
                        go_simp
                        refine wpT_loud (by rfl) (fun KK hKK => ?_)
                        refine wp_append_x _ _ 26 rfl x2.heap.size 29 i0 _ 3 24 Try.underlying26 hi hz0 hz1 hz2 rfl (by decide) v2 (0 + q + 1) _ rfl OWN2.out oc m c _ rfl CUT.out.hiN HDL.out (CUT.out.high HB5.out) (drop_one (cells_one T) _) (by unfold maxLen; omega) (by omega) HB5.out.size ?_
                        intro v3 x6 hown3 hgrow3 _
                        have HB6 := Lib.hid (HB5.out.grown hgrow3 HB5.out.size (fun q hq => (OWN2.out.lt q hq).1))
                        have OWN3 := Lib.hid hown3
                        clear hown3 hgrow3
                        have RDF := Lib.hid (RDX.out.rowA (T' := insT T q a 0) HB6.out (by have := OWN3.out; rw [INS.out, INSL.out] at this; exact this))
                        refine hKK _ _ _ (fun _ h => h) (RDX.out.below HB6.out).op ?_
                        clear hKK
                        go_simp
                        iterate 1 (refine wpT_plain ?_ (by rfl) ?_ ?_; rotate_left; (focus (intro w' hw'; obtain ⟨y0, y1, y2, y3, y4⟩ := hw'; go_simp; try with_reducible rfl)); go_simp)
                        refine wpT_nil ?_
                        go_wp2_with fail
                        go_meet
                        case rel => exact RDF.out
                    case rest =>
                      have RD3 := Lib.hid hcut
                      clear hcut hlo hhi hm INS INSL HDL HTL CUT y0 y1 y2 y3 y4
                      obtain ⟨y0, y1, y2, y3, y4⟩ := RD3.out.op
                      obtain ⟨oc, m, c, hcut0⟩ := cut_at (ty := 27) RD3.out.rn q hqT Try.underlying27 Try.sizeOf3
                      have CUT := Lib.hid hcut0
                      have hlo := hcut0.lo
                      have hhi := hcut0.hi
                      have hm := hcut0.nk
                      have INS := Lib.hid (ins_nums (T := T) q a 0)
                      have INSL : Hid (0 + q + 1 + m = (insT T q a 0).length) := Lib.hid (by rw [ins_len a 0 hqT]; omega)
                      have HDL : Hid ((numsT T |>.drop (q * 1)).length = m * 1) := Lib.hid (by rw [List.length_drop, nums_len]; omega)
                      have HTL : Hid ((numsT T |>.take (q * 1)).length = q * 1) := Lib.hid (by rw [List.length_take, nums_len]; omega)
                      go_upto_region 23 with fail
                      go_cut [6] (fun v x => Rd w g B h mb2 ((a, .int .i64 n) :: delA (T.map fV) a) (insT T q a 0) (insT T q a 0) 0 a n u5 v x)
                      case first =>
                        have RDX := Lib.hid RD3.out
                        refine wp_region_tree (S := fun w' => OpAt w' h 0 a n) (.plain 0 (.plain 1 (.plain 2 (.plain 6 (.plain 7 (.plain 8 (.fork 3 (.one 4 (.one 5 (.one 9 (.plain 10 .nil)))) 4 (.one 3 (.one 5 (.one 9 (.plain 10 .nil))))))))))) (by kernel_rfl) (by kernel_rfl) (by kernel_rfl) (by decide) (fun _ _ d _ _ h => by cases d <;> exact h) RDX.out.op ?_
                        simp only [treeOf, psOf, nth, slotOf]
                        iterate 6 (refine wpT_plain ?_ (by rfl) ?_ ?_; rotate_left; (focus (intro w' hw'; obtain ⟨y0, y1, y2, y3, y4⟩ := hw'; go_simp; try with_reducible rfl)); go_simp)
                        refine wpT_fork (by rfl) (by rfl) (fun KK hKK => ?_) (fun KK hKK => ?_)
                        · refine wp_append_x _ _ 27 rfl wc.heap.size 3 j0 _ 1 8 Try.underlying27 hj0 hy0 hy1 hy2 rfl (by decide) (.slice none 0 0) 0 [] rfl (World.ownsRow_nil _ _ _ _) on q cn _ rfl CUT.out.loN HTL.out (CUT.out.low (Below.refl _ _).drew) (take_one (nums_one T) _) (by unfold maxLen; omega) (by omega) (Nat.le_refl _) ?_
                          intro v1 x3 hown1 hgrow1 _
                          have HB3 := Lib.hid ((Below.refl wc.heap.size wc).drew.grown hgrow1 (Nat.le_refl _) (fun q hq => (by cases hq)))
                          obtain ⟨gb, hgb⟩ : ∃ gb, x3.heap.size = gb := ⟨_, rfl⟩
                          have OWN1 := Lib.hid (hown1.alloc (.cells #[.int .i64 0] 3))
                          have HB4 := Lib.hid (HB3.out.alloc HB3.out.size (.cells #[.int .i64 0] 3))
                          have NEWS := Lib.hid (ints_at x3 (.int .i64 0) 3)
                          rw [hgb] at NEWS
                          have HGB := Lib.hid hgb
                          refine hKK _ _ _ (fun _ h => h) (RDX.out.below HB3.out).op ?_
                          clear hown1 hgrow1 hKK hgb
                          obtain ⟨y0, y1, y2, y3, y4⟩ := (RDX.out.below HB3.out).op
                          refine wpT_loud (by rfl) (fun KK hKK => ?_)
                          go_simp
                          rw [HGB.out]
                          refine hKK _ _ _ (fun _ h => h) (RDX.out.below HB4.out).op ?_
                          clear hKK
                          refine wpT_loud (by rfl) (fun KK hKK => ?_)
                          refine wp_append_x _ _ 27 rfl wc.heap.size 3 j0 _ 1 8 Try.underlying27 hj0 hy0 hy1 hy2 rfl (by decide) v1 (0 + q) _ rfl OWN1.out (some ⟨gb, 0, none⟩) 1 1 [.int .i64 0] rfl (fun e => (by cases e)) rfl (fun ad e => (by cases e; exact NEWS.out)) (by simp [Value.oneCell']) (by unfold maxLen; omega) (by omega) HB4.out.size ?_
                          intro v2 x5 hown2 hgrow2 _
                          have HB5 := Lib.hid (HB4.out.grown hgrow2 HB4.out.size (fun q hq => (OWN1.out.lt q hq).1))
                          have OWN2 := Lib.hid hown2
                          clear hown2 hgrow2
                          refine hKK _ _ _ (fun _ h => h) (RDX.out.below HB5.out).op ?_
                          clear hKK
                          go_simp
                          refine wpT_loud (by rfl) (fun KK hKK => ?_)
                          refine wp_append_x _ _ 27 rfl wc.heap.size 3 j0 _ 1 8 Try.underlying27 hj0 hy0 hy1 hy2 rfl (by decide) v2 (0 + q + 1) _ rfl OWN2.out oc m c _ rfl CUT.out.hiN HDL.out (CUT.out.high HB5.out) (drop_one (nums_one T) _) (by unfold maxLen; omega) (by omega) HB5.out.size ?_
                          intro v3 x6 hown3 hgrow3 _
                          have HB6 := Lib.hid (HB5.out.grown hgrow3 HB5.out.size (fun q hq => (OWN2.out.lt q hq).1))
                          have OWN3 := Lib.hid hown3
                          clear hown3 hgrow3
                          have RDF := Lib.hid (RDX.out.rowN (T' := insT T q a 0) HB6.out (by have := OWN3.out; rw [INS.out, INSL.out] at this; exact this))
                          refine hKK _ _ _ (fun _ h => h) (RDX.out.below HB6.out).op ?_
                          clear hKK
                          go_simp
                          iterate 1 (refine wpT_plain ?_ (by rfl) ?_ ?_; rotate_left; (focus (intro w' hw'; obtain ⟨y0, y1, y2, y3, y4⟩ := hw'; go_simp; try with_reducible rfl)); go_simp)
                          refine wpT_nil ?_
                          go_wp2_with fail
                          go_meet
                          case rel => exact RDF.out
                        · have HB3 := Lib.hid ((Below.refl wc.heap.size wc).drew.alloc (Nat.le_refl _) (.cells #[.int .i64 0] 3))
                          have NEWS0 := Lib.hid (ints_at wc.drew (.int .i64 0) 3)
                          obtain ⟨y0, y1, y2, y3, y4⟩ := RDX.out.op
                          go_simp
                          refine hKK _ _ _ (fun _ h => h) (RDX.out.below HB3.out).op ?_
                          clear hKK
                          refine wpT_loud (by rfl) (fun KK hKK => ?_)
                          refine wp_append_x _ _ 27 rfl wc.heap.size 3 j0 _ 1 8 Try.underlying27 hj0 hy0 hy1 hy2 rfl (by decide) (.slice none 0 0) 0 [] rfl (World.ownsRow_nil _ _ _ _) on q cn _ rfl CUT.out.loN HTL.out (CUT.out.low HB3.out) (take_one (nums_one T) _) (by unfold maxLen; omega) (by omega) HB3.out.size ?_
                          intro v1 x3 hown1 hgrow1 _
                          have HB4 := Lib.hid (HB3.out.grown hgrow1 HB3.out.size (fun q hq => (by cases hq)))
                          have OWN1 := Lib.hid hown1
                          have NEWS := Lib.hid (fun j u hu => grown_cell hgrow1 (NEWS0.out j u hu))
                          refine hKK _ _ _ (fun _ h => h) (RDX.out.below HB4.out).op ?_
                          clear hown1 hgrow1
                          go_simp
                          clear hKK
                          refine wpT_loud (by rfl) (fun KK hKK => ?_)
                          refine wp_append_x _ _ 27 rfl wc.heap.size 3 j0 _ 1 8 Try.underlying27 hj0 hy0 hy1 hy2 rfl (by decide) v1 (0 + q) _ rfl OWN1.out (some ⟨wc.drew.heap.size, 0, none⟩) 1 1 [.int .i64 0] rfl (fun e => (by cases e)) rfl (fun ad e => (by cases e; exact NEWS.out)) (by simp [Value.oneCell']) (by unfold maxLen; omega) (by omega) HB4.out.size ?_
                          intro v2 x5 hown2 hgrow2 _
                          have HB5 := Lib.hid (HB4.out.grown hgrow2 HB4.out.size (fun q hq => (OWN1.out.lt q hq).1))
                          have OWN2 := Lib.hid hown2
                          clear hown2 hgrow2
                          refine hKK _ _ _ (fun _ h => h) (RDX.out.below HB5.out).op ?_
                          clear hKK
                          go_simp
                          refine wpT_loud (by rfl) (fun KK hKK => ?_)
                          refine wp_append_x _ _ 27 rfl wc.heap.size 3 j0 _ 1 8 Try.underlying27 hj0 hy0 hy1 hy2 rfl (by decide) v2 (0 + q + 1) _ rfl OWN2.out oc m c _ rfl CUT.out.hiN HDL.out (CUT.out.high HB5.out) (drop_one (nums_one T) _) (by unfold maxLen; omega) (by omega) HB5.out.size ?_
                          intro v3 x6 hown3 hgrow3 _
                          have HB6 := Lib.hid (HB5.out.grown hgrow3 HB5.out.size (fun q hq => (OWN2.out.lt q hq).1))
                          have OWN3 := Lib.hid hown3
                          clear hown3 hgrow3
                          have RDF := Lib.hid (RDX.out.rowN (T' := insT T q a 0) HB6.out (by have := OWN3.out; rw [INS.out, INSL.out] at this; exact this))
                          refine hKK _ _ _ (fun _ h => h) (RDX.out.below HB6.out).op ?_
                          clear hKK
                          go_simp
                          iterate 1 (refine wpT_plain ?_ (by rfl) ?_ ?_; rotate_left; (focus (intro w' hw'; obtain ⟨y0, y1, y2, y3, y4⟩ := hw'; go_simp; try with_reducible rfl)); go_simp)
                          refine wpT_nil ?_
                          go_wp2_with fail
                          go_meet
                          case rel => exact RDF.out
                      case rest =>
                        have RD4 := Lib.hid hcut
                        clear hcut hlo hhi hm INS INSL HDL HTL CUT y0 y1 y2 y3 y4
                        obtain ⟨y0, y1, y2, y3, y4⟩ := RD4.out.op
                        have hqI : q < (insT T q a 0).length := by rw [ins_len a 0 hqT]; omega
                        obtain ⟨on2, cn2, e6, hcn2, hcn62, hcelln⟩ := row_form RD4.out.rn
                        obtain ⟨Gn, rfl, hatn⟩ := hcelln q (by omega)
                        subst e6
                        have hqn : q < cn2 := by omega
                        have hat := ins_at a 0 hqT
                        have hk0 : ∃ u, wc.cell? ⟨Gn, q, none⟩ = some u := ⟨_, hatn q (.int .i64 0) (by unfold numsT; rw [List.getElem?_map, hat]; rfl)⟩
                        obtain ⟨u0, hk0⟩ := hk0
                        have hfz := RD4.out.rn.frozenAt q
                        have RD5 := Lib.hid (RD4.out.store (T3 := setT (insT T q a 0) q a n) (k := q) rfl (nums_set n hat) (cells_set n hat) (set_len n hat) (set_len n hat) (by rw [set_ins a 0 n hqT]; exact ins_perm q n HNO.out) (by rw [set_ins a 0 n hqT]; exact ins_sorted n ST.out.sorted HUP.out HSTOP.out HNOT.out))
                        have HSL : Hid ((setT (insT T q a 0) q a n).length = T.length + 1) := Lib.hid (by rw [set_len n hat, ins_len a 0 hqT])
                        clear hcelln hatn hat
                        go_wp2_with fail
                        go_meet
                        case rel => exact ⟨mb2, setT (insT T q a 0) q a n, by rw [HSL.out]; omega, RD5.out⟩
                · subst hK
                  go_wp2_with fail
                  cases inb with
                  | true =>
                    obtain ⟨m, hm⟩ : ∃ m, T[q]? = some (a, m) := by
                      rcases HIN.out with ⟨_, h⟩ | ⟨h, _⟩
                      · exact h
                      · cases h
                    obtain ⟨b, rfl⟩ : ∃ b, mb = some b := by
                      cases mb with
                      | some b => exact ⟨b, rfl⟩
                      | none =>
                        have := RD.out.spot.none rfl
                        have h2 := getA_there ST.out.sorted hm
                        rw [this] at h2
                        cases h2
                    refine (dropI_yes g b (T.map fV) a _ wc RD.out.spot HOK.out (getA_there ST.out.sorted hm)).mono ?_
                    rintro e x2 ⟨rfl, hs, hb⟩
                    rw [del_filter ST.out.sorted hm] at hs
                    have RD2 := Lib.hid (RD.out.set hs hb (fun b h => .inl h))
                    have hqT : q < T.length := (List.getElem?_eq_some_iff.1 hm).1
                    clear hs hb y0 y1 y2 y3 y4
                    have hT60 : T.length ≤ 60 := by omega
                    obtain ⟨on, cn, e6, hcn, hcn6, _⟩ := row_form RD2.out.rn
                    subst e6
                    obtain ⟨oc0, m0, c0, hcut0⟩ := cut_at (ty := 26) RD2.out.ra q (Nat.le_of_lt hqT) Try.underlying26 Try.sizeOf29
                    obtain ⟨oc, m, c, hcut1⟩ := cut_at (ty := 26) RD2.out.ra (q + 1) hqT Try.underlying26 Try.sizeOf29
                    have CUT := Lib.hid hcut0
                    have CUT1 := Lib.hid hcut1
                    have hlo := hcut0.lo
                    have hwr : IntKind.i64.wrap ((q : Int) + 1) = (q : Int) + 1 := IntWalk.i64_in _ (by omega)
                    have hhi : ∀ W, (Instr.slice 26 (.slice oa T.length ca) (some (.int .i64 ((q : Int) + 1))) none none).run Try.prog W = .ok (.slice oc m c) W := fun W => by have := hcut1.hi W; simpa using this
                    have hm := hcut1.nk
                    have INS := Lib.hid (del_cells hqT)
                    have INSL : Hid (0 + q + m = (delT T q).length) := Lib.hid (by rw [del_len hqT]; omega)
                    have HDL : Hid ((cellsT T |>.drop ((q + 1) * 3)).length = m * 3) := Lib.hid (by rw [List.length_drop, cellsT_len]; omega)
                    have HTL : Hid ((cellsT T |>.take (q * 3)).length = q * 3) := Lib.hid (by rw [List.length_take, cellsT_len]; omega)
                    clear hcut0 hcut1
                    go_upto_region 29 with fail
                    go_cut [5] (fun v x => Rd w g B h (some b) ((delT T q).map fV) (delT T q) T 1 a n v (.slice on T.length cn) x)
                    case first =>
                      have RDX := Lib.hid RD2.out
                      refine wp_region_tree (S := fun w' => OpAt w' h 1 a n) (.plain 0 (.plain 1 (.plain 2 (.plain 4 (.plain 5 (.plain 6 (.plain 7 (.one 3 (.one 8 (.plain 9 .nil)))))))))) (by kernel_rfl) (by kernel_rfl) (by kernel_rfl) (by decide) (fun _ _ d _ _ h => by cases d <;> exact h) RDX.out.op ?_
                      simp only [treeOf, psOf, nth, slotOf]
                      iterate 7 (refine wpT_plain ?_ (by rfl) ?_ ?_; rotate_left; (focus (intro w' hw'; obtain ⟨y0, y1, y2, y3, y4⟩ := hw'; go_simp; try with_reducible rfl)); go_simp)
                      refine wpT_loud (by rfl) (fun KK hKK => ?_)
                      refine wp_append_x _ _ 26 rfl x2.heap.size 29 i0 _ 3 24 Try.underlying26 hi hz0 hz1 hz2 rfl (by decide) (.slice none 0 0) 0 [] rfl (World.ownsRow_nil _ _ _ _) oa q ca _ rfl CUT.out.loN HTL.out (CUT.out.low (Below.refl _ _).drew) (take_one (cells_one T) _) (by unfold maxLen; omega) (by omega) (Nat.le_refl _) ?_
                      intro v1 x3 hown1 hgrow1 _
                      have HB3 := Lib.hid ((Below.refl x2.heap.size x2).drew.grown hgrow1 (Nat.le_refl _) (fun q hq => (by cases hq)))
                      have OWN1 := Lib.hid hown1
                      refine hKK _ _ _ (fun _ h => h) (RDX.out.below HB3.out).op ?_
                      clear hown1 hgrow1 hKK
                      go_simp
                      refine wpT_loud (by rfl) (fun KK hKK => ?_)
                      refine wp_append_x _ _ 26 rfl x2.heap.size 29 i0 _ 3 24 Try.underlying26 hi hz0 hz1 hz2 rfl (by decide) v1 (0 + q) _ rfl OWN1.out oc m c _ rfl CUT1.out.hiN HDL.out (CUT1.out.high HB3.out) (drop_one (cells_one T) _) (by unfold maxLen; omega) (by omega) HB3.out.size ?_
                      intro v3 x6 hown3 hgrow3 _
                      have HB6 := Lib.hid (HB3.out.grown hgrow3 HB3.out.size (fun q hq => (OWN1.out.lt q hq).1))
                      have OWN3 := Lib.hid hown3
                      clear hown3 hgrow3
                      have RDF := Lib.hid (RDX.out.rowA (T' := delT T q) HB6.out (by have := OWN3.out; rw [INS.out, INSL.out] at this; exact this))
                      refine hKK _ _ _ (fun _ h => h) (RDX.out.below HB6.out).op ?_
                      clear hKK
                      go_simp
                      iterate 1 (refine wpT_plain ?_ (by rfl) ?_ ?_; rotate_left; (focus (intro w' hw'; obtain ⟨y0, y1, y2, y3, y4⟩ := hw'; go_simp; try with_reducible rfl)); go_simp)
                      refine wpT_nil ?_
                      go_wp2_with fail
                      go_meet
                      case rel => exact RDF.out
                    case rest =>
                      have RD3 := Lib.hid hcut
                      clear hcut hlo hhi hm INS INSL HDL HTL CUT CUT1
                      obtain ⟨oc0, m0, c0, hcut0⟩ := cut_at (ty := 27) RD3.out.rn q (Nat.le_of_lt hqT) Try.underlying27 Try.sizeOf3
                      obtain ⟨oc, m, c, hcut1⟩ := cut_at (ty := 27) RD3.out.rn (q + 1) hqT Try.underlying27 Try.sizeOf3
                      have CUT := Lib.hid hcut0
                      have CUT1 := Lib.hid hcut1
                      have hlo := hcut0.lo
                      have hwr : IntKind.i64.wrap ((q : Int) + 1) = (q : Int) + 1 := IntWalk.i64_in _ (by omega)
                      have hhi : ∀ W, (Instr.slice 27 (.slice on T.length cn) (some (.int .i64 ((q : Int) + 1))) none none).run Try.prog W = .ok (.slice oc m c) W := fun W => by have := hcut1.hi W; simpa using this
                      have hm := hcut1.nk
                      have INS := Lib.hid (del_nums (T := T) q)
                      have INSL : Hid (0 + q + m = (delT T q).length) := Lib.hid (by rw [del_len hqT]; omega)
                      have HDL : Hid ((numsT T |>.drop ((q + 1) * 1)).length = m * 1) := Lib.hid (by rw [List.length_drop, nums_len]; omega)
                      have HTL : Hid ((numsT T |>.take (q * 1)).length = q * 1) := Lib.hid (by rw [List.length_take, nums_len]; omega)
                      clear hcut0 hcut1
                      go_upto_region 30 with fail
                      have RDX := Lib.hid RD3.out
                      refine wp_region_tree (S := fun w' => OpAt w' h 1 a n) (.plain 0 (.plain 1 (.plain 2 (.plain 4 (.plain 5 (.plain 6 (.plain 7 (.one 3 (.one 8 (.plain 9 .nil)))))))))) (by kernel_rfl) (by kernel_rfl) (by kernel_rfl) (by decide) (fun _ _ d _ _ h => by cases d <;> exact h) RDX.out.op ?_
                      simp only [treeOf, psOf, nth, slotOf]
                      iterate 7 (refine wpT_plain ?_ (by rfl) ?_ ?_; rotate_left; (focus (intro w' hw'; obtain ⟨y0, y1, y2, y3, y4⟩ := hw'; go_simp; try with_reducible rfl)); go_simp)
                      refine wpT_loud (by rfl) (fun KK hKK => ?_)
                      refine wp_append_x _ _ 27 rfl wc.heap.size 3 j0 _ 1 8 Try.underlying27 hj0 hy0 hy1 hy2 rfl (by decide) (.slice none 0 0) 0 [] rfl (World.ownsRow_nil _ _ _ _) on q cn _ rfl CUT.out.loN HTL.out (CUT.out.low (Below.refl _ _).drew) (take_one (nums_one T) _) (by unfold maxLen; omega) (by omega) (Nat.le_refl _) ?_
                      intro v1 x3 hown1 hgrow1 _
                      have HB3 := Lib.hid ((Below.refl wc.heap.size wc).drew.grown hgrow1 (Nat.le_refl _) (fun q hq => (by cases hq)))
                      have OWN1 := Lib.hid hown1
                      refine hKK _ _ _ (fun _ h => h) (RDX.out.below HB3.out).op ?_
                      clear hown1 hgrow1 hKK
                      go_simp
                      refine wpT_loud (by rfl) (fun KK hKK => ?_)
                      refine wp_append_x _ _ 27 rfl wc.heap.size 3 j0 _ 1 8 Try.underlying27 hj0 hy0 hy1 hy2 rfl (by decide) v1 (0 + q) _ rfl OWN1.out oc m c _ rfl CUT1.out.hiN HDL.out (CUT1.out.high HB3.out) (drop_one (nums_one T) _) (by unfold maxLen; omega) (by omega) HB3.out.size ?_
                      intro v3 x6 hown3 hgrow3 _
                      have HB6 := Lib.hid (HB3.out.grown hgrow3 HB3.out.size (fun q hq => (OWN1.out.lt q hq).1))
                      have OWN3 := Lib.hid hown3
                      clear hown3 hgrow3
                      have RDF := Lib.hid (RDX.out.rowN (T' := delT T q) HB6.out (by have := OWN3.out; rw [INS.out, INSL.out] at this; exact this))
                      refine hKK _ _ _ (fun _ h => h) (RDX.out.below HB6.out).op ?_
                      clear hKK
                      go_simp
                      iterate 1 (refine wpT_plain ?_ (by rfl) ?_ ?_; rotate_left; (focus (intro w' hw'; obtain ⟨y0, y1, y2, y3, y4⟩ := hw'; go_simp; try with_reducible rfl)); go_simp)
                      refine wpT_nil ?_
                      have RD4 := Lib.hid RDF.out
                      clear RDF hlo hhi hm INS INSL HDL HTL CUT CUT1
                      go_wp2_with fail
                      go_meet
                      case rel => exact ⟨some b, delT T q, by rw [del_len hqT]; omega, RD4.out.done (List.Perm.refl _) (del_sorted ST.out.sorted)⟩
                  | false =>
                    have hno := (show ∀ p ∈ T, p.1 ≠ a from not_there ST.out.sorted HUP.out HSTOP.out (by
                      rcases HIN.out with ⟨h, _⟩ | ⟨_, h⟩
                      · cases h
                      · exact h))
                    refine (dropI_no g mb (T.map fV) a wc RD.out.spot HOK.out (getA_not hno)).mono ?_
                    rintro e x2 ⟨rfl, hb⟩
                    have RD2 := Lib.hid (RD.out.below hb)
                    clear hb hno
                    go_wp2_with fail
                    go_meet
                    case rel => exact ⟨mb, T, by omega, RD2.out.done (List.Perm.refl _) ST.out.sorted⟩
                · obtain ⟨hK0, hK1⟩ := hK
                  have hk0 : (K == 0) = false := by simpa using hK0
                  have hk1 : (K == 1) = false := by simpa using hK1
                  go_wp2_with fail
                  have hget := getI_any g mb (T.map fV) a wc RD.out.spot HOK.out
                  cases inb with
                  | true =>
                    obtain ⟨m, hm⟩ : ∃ m, T[q]? = some (a, m) := by
                      rcases HIN.out with ⟨_, h⟩ | ⟨h, _⟩
                      · exact h
                      · cases h
                    rw [getA_there ST.out.sorted hm] at hget
                    refine hget.mono ?_
                    rintro e x2 ⟨rfl, hb⟩
                    have RD2 := Lib.hid (RD.out.below hb)
                    have hqT : q < T.length := (List.getElem?_eq_some_iff.1 hm).1
                    obtain ⟨on, cn, e6, hcn, hcn6, hcelln⟩ := row_form RD2.out.rn
                    obtain ⟨Gn, rfl, hatn⟩ := hcelln q (by omega)
                    subst e6
                    have hqn : q < cn := by omega
                    have hk0 : x2.cell? ⟨Gn, q, none⟩ = some (.int .i64 m) := hatn q (.int .i64 m) (by unfold numsT; rw [List.getElem?_map, hm]; rfl)
                    clear hb hcelln hatn hm
                    simp only [Option.getD_some, Option.isSome_some]
                    go_wp2_with fail
                    go_meet
                    case rel => exact ⟨mb, T, by omega, RD2.out.done (List.Perm.refl _) ST.out.sorted⟩
                  | false =>
                    have hno := (show ∀ p ∈ T, p.1 ≠ a from not_there ST.out.sorted HUP.out HSTOP.out (by
                      rcases HIN.out with ⟨h, _⟩ | ⟨_, h⟩
                      · cases h
                      · exact h))
                    rw [getA_not hno] at hget
                    refine hget.mono ?_
                    rintro e x2 ⟨rfl, hb⟩
                    have RD2 := Lib.hid (RD.out.below hb)
                    clear hb hno
                    simp only [Option.getD_none, Option.isSome_none]
                    go_wp2_with fail
                    go_meet
                    case rel => exact ⟨mb, T, by omega, RD2.out.done (List.Perm.refl _) ST.out.sorted⟩
              case rest =>
                obtain ⟨mb2, T2, hT2, st⟩ := hcut
                have ST2 := Lib.hid st
                clear st
                obtain ⟨oa2, ca2, rfl, hca2, hca26, _⟩ := row_form ST2.out.ra
                go_wp2_with fail
                refine (lenI_any g mb2 (T2.map fV) _ ST2.out.spot).mono ?_
                rintro e x2 ⟨rfl, rfl⟩
                rw [List.length_map]
                go_wp2_with fail
                go_roundw
                case rel => exact ⟨j + 1, mb2, T2, by simp, by omega, by have := HJ6.out; omega, by omega, ST2.out⟩
                case measure => simp [intOf]; omega
    all_goals go_wp2_with fail
    all_goals (
      refine (allI_any g mb (T.map fV) wr ST.out.spot (by simp; omega)).mono ?_
      rintro e w3 ⟨v, rfl, hsl, hb⟩
      rw [fst_sorted ST.out.sorted] at hsl
      obtain ⟨a3, c3, rfl, hc3, hm3, hcell3⟩ := hsl.form
      have HST := Lib.hid (own_below ST.out.ra hb (Nat.le_refl _))
      obtain ⟨oa, ca, rfl, hca, hca6, hcell⟩ := row_form HST.out
      have hm64 : c3 ≤ 9223372036854775807 := by unfold maxLen at hm3; omega
      have HB3 := Lib.hid (ST.out.bel.trans (hb.mono ST.out.bel.size))
      have HC := Lib.hid hcell
      have HC3 := Lib.hid hcell3
      rw [List.length_map] at hc3 ⊢
      clear hb hsl hm3 hcell3 hcell hcase
      go_wp2_with fail
      go_loopw [14] (fun i wr => ∃ q : Nat, i = .int .i64 q ∧ q ≤ T.length ∧ Below w.heap.size w wr ∧ w3.heap = wr.heap) (fun i _ => (T.length - intOf i).toNat)
      case atStart => exact ⟨0, rfl, Nat.zero_le _, HB3.out, rfl⟩
      case round =>
        obtain ⟨q, rfl, hq, hbq, hheap⟩ := hrel
        have HBW := Lib.hid hbq
        have HHEAP := Lib.hid hheap
        clear hbq hheap
        by_cases hqn : q < T.length
        · obtain ⟨p, hp⟩ : ∃ p, T[q]? = some p := ⟨_, List.getElem?_eq_getElem hqn⟩
          obtain ⟨g3, rfl, _, _, d0, d1, d2⟩ := HC3.out q p.1 (by rw [List.getElem?_map, hp]; rfl)
          obtain ⟨g5, rfl, hat⟩ := HC.out (q * 3) (by omega)
          obtain ⟨t0, t1, t2⟩ := cellsT_at hp
          have at_ : ∀ x : Addr, wr.cell? x = w3.cell? x := fun x => World.cell?_of_block (by rw [HHEAP.out])
          have k0 : wr.cell? ⟨g3, q * 3, none⟩ = some (.int .i64 p.1.1) := (at_ _).trans d0
          have k1 : wr.cell? ⟨g3, q * 3 + 1, none⟩ = some (.int .i64 p.1.2.1) := (at_ _).trans d1
          have k2 : wr.cell? ⟨g3, q * 3 + 2, none⟩ = some (.int .i64 p.1.2.2) := (at_ _).trans d2
          have m0 : wr.cell? ⟨g5, q * 3, none⟩ = some (.int .i64 p.1.1) := (at_ _).trans (own_cells HST.out _ _ t0)
          have m1 : wr.cell? ⟨g5, q * 3 + 1, none⟩ = some (.int .i64 p.1.2.1) := (at_ _).trans (own_cells HST.out _ _ t1)
          have m2 : wr.cell? ⟨g5, q * 3 + 2, none⟩ = some (.int .i64 p.1.2.2) := (at_ _).trans (own_cells HST.out _ _ t2)
          have heq : ∀ W, (Op.equalIn 10000 29 (.agg #[.int .i64 p.1.1, .int .i64 p.1.2.1, .int .i64 p.1.2.2]) (.agg #[.int .i64 p.1.1, .int .i64 p.1.2.1, .int .i64 p.1.2.2])).run Try.prog W = .ok true W := fun W => by rw [eqA p.1 p.1 W]; simp
          have hq4 : q < c3 := by omega
          have hq5 : q < ca := by omega
          clear at_ d0 d1 d2 hat t0 t1 t2 hp
          go_wp2_with fail
          go_quiet (fail)
          go_wp2_with fail
          go_roundw
          case rel => exact ⟨q + 1, by simp, by omega, below_drewN HBW.out _, HHEAP.out⟩
          case measure => simp [intOf]; omega
        · obtain rfl : q = T.length := by omega
          go_wp2_with fail
          go_ret
          exact ⟨rfl, HBW.out⟩)
end Go.Proofs.Ytobkbbbdddllmaa
