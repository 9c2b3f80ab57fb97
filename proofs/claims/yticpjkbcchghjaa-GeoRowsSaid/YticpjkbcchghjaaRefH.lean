/- The reference's rows. -/
import Derived.Test.YticpjkbcchghjaaRefG
import Derived.Test.YticpjkbcchghjaaFields
namespace Go.Proofs.Yticpjkbcchghjaa
open Go.RowKit

/-- The die of a row's parity; -1. -/
def parS (m b r : Int) : Int := if 2 ≤ countS m ∧ 0 ≤ b ∧ 0 ≤ r then ((diesS m).getD ((b % countS m + r % countS m) % countS m).toNat 0 : Nat) else -1
/-- The others. -/
def othersS (m b r : Int) : List Nat := if 0 ≤ parS m b r then (diesS m).filter (fun d => (d : Int) != parS m b r) else []
def slotsS (m : Int) : Int := if 2 ≤ countS m then (countS m : Int) - 1 else 0
def dieS (m b r s : Int) : Int := if 0 ≤ s ∧ s < (othersS m b r).length then ((othersS m b r).getD s.toNat 0 : Nat) else -1
def slotS (m b r d : Int) : Int := spotFrom (othersS m b r) d 0


theorem countS_len (m : Int) : (diesS m).length = countS m := rfl
attribute [local irreducible] diesS countS

set_option maxRecDepth 100000 in
set_option maxHeartbeats 1000000 in
theorem rparity_any (m b r : Int) (w : World) (hb : b ≤ 9223372036854775807) (hr : r ≤ 9223372036854775807) :
    Calls Try.prog 20 #[.int .i64 m, .int .i64 b, .int .i64 r] w fun e w' => e = .returned (.int .i64 (parS m b r)) ∧ Below w.heap.size w w' := by
  obtain ⟨n, hn⟩ : ∃ n, countS m = n := ⟨_, rfl⟩
  have hn8 : n ≤ 8 := by rw [← hn]; exact countS_le m
  have hlen : (diesS m).length = n := by rw [countS_len, hn]
  obtain ⟨l, hl⟩ : ∃ l, diesS m = l := ⟨_, rfl⟩
  have hp : parS m b r = if 2 ≤ n ∧ 0 ≤ b ∧ 0 ≤ r then ((l.getD ((b % n + r % n) % n).toNat 0 : Nat) : Int) else -1 := by unfold parS; rw [hn, hl]
  rw [hl] at hlen
  rw [hp]
  have hd := fun w => rdies_any m w
  rw [hl, hlen] at hd
  have HD := Lib.hid hd
  have HLEN := Lib.hid hlen
  clear hn hl hp hd hlen
  by_cases h2 : n < 2
  · rw [if_neg (by omega)]
    go_enter Try.func20, Try.ntmps20
    go_wp2_with fail
    refine (HD.out _).mono ?_
    rintro e w1 ⟨v, rfl, hown, hb1⟩
    obtain ⟨a, cap, rfl, hle, hcm, hh, hor⟩ := own_read hown
    have HB1 := Lib.hid hb1
    clear hown hh hor hb1
    go_wp2
    go_ret
    exact ⟨rfl, HB1.out⟩
  by_cases h3 : b < 0
  · rw [if_neg (by omega)]
    go_enter Try.func20, Try.ntmps20
    go_wp2_with fail
    refine (HD.out _).mono ?_
    rintro e w1 ⟨v, rfl, hown, hb1⟩
    obtain ⟨a, cap, rfl, hle, hcm, hh, hor⟩ := own_read hown
    have HB1 := Lib.hid hb1
    clear hown hh hor hb1
    go_wp2
    go_ret
    exact ⟨rfl, HB1.out⟩
  by_cases h4 : r < 0
  · rw [if_neg (by omega)]
    have h5 : decide (b < 0) = false := by simp; omega
    go_enter Try.func20, Try.ntmps20
    go_wp2_with fail
    refine (HD.out _).mono ?_
    rintro e w1 ⟨v, rfl, hown, hb1⟩
    obtain ⟨a, cap, rfl, hle, hcm, hh, hor⟩ := own_read hown
    have HB1 := Lib.hid hb1
    clear hown hh hor hb1
    go_wp2
    go_ret
    exact ⟨rfl, HB1.out⟩
  · rw [if_pos (by omega)]
    have hnI : (0 : Int) < n := by omega
    have g1 := Int.emod_nonneg b (show (n : Int) ≠ 0 by omega)
    have g2 := Int.emod_lt_of_pos b hnI
    have g3 := Int.emod_nonneg r (show (n : Int) ≠ 0 by omega)
    have g4 := Int.emod_lt_of_pos r hnI
    have g5 := Int.emod_nonneg (b % n + r % n) (show (n : Int) ≠ 0 by omega)
    have g6 := Int.emod_lt_of_pos (b % n + r % n) hnI
    obtain ⟨K, hK⟩ : ∃ K : Nat, (b % n + r % n) % n = K := ⟨((b % n + r % n) % n).toNat, by omega⟩
    rw [hK, Int.toNat_natCast]
    rw [hK] at g5 g6
    have hKn : K < n := by omega
    have hKl : K < l.length := by rw [HLEN.out]; exact hKn
    obtain ⟨x, hx⟩ : ∃ x, l[K] = x := ⟨_, rfl⟩
    have hget : l.getD K 0 = x := by rw [← hx]; simp [List.getD, List.getElem?_eq_getElem hKl]
    have HI : Hid ((i64s l)[K]? = some (.int .i64 (x : Nat))) := by
      show _ = _
      unfold i64s; rw [List.getElem?_map, List.getElem?_eq_getElem hKl, hx]; rfl
    have hw1 : IntKind.i64.wrap (b % n + r % n) = b % n + r % n := IntWalk.i64_in _ (by omega)
    have k1 : 0 ≤ b := by omega
    have k2 : 0 ≤ r := by omega
    have k3 : ¬ (n : Int) < 2 := by omega
    have k4 : 0 ≤ b % n + r % n := by omega
    have k5 : ((n : Int) == 0) = false := by simp; omega
    rw [hget]
    clear hget hx
    go_enter Try.func20, Try.ntmps20
    go_wp2_with fail
    refine (HD.out _).mono ?_
    rintro e w1 ⟨v, rfl, hown, hb1⟩
    obtain ⟨a, cap, rfl, hle, hcm, hh, hor⟩ := own_read hown
    obtain ⟨bb, off, rfl, hc⟩ := hh K (.int .i64 (x : Nat)) HI.out
    have HB1 := Lib.hid hb1
    clear hown hh hor hb1
    go_wp2
    go_quiet (fail)
    go_wp2
    go_ret
    exact ⟨rfl, HB1.out.trans ⟨rfl, rfl, rfl, Nat.le_refl _, fun _ _ => rfl⟩⟩
/-- A slice of ints of the call's own. -/
theorem own_ints {w : World} {B n : Nat} {v : Value} {l : List Nat} (h : w.ownsRow B 3 1 v n (i64s l)) :
    ∃ a cap, v = .slice a n cap ∧ n ≤ cap ∧ cap ≤ 9223372036854775807 ∧ l.length = n ∧ ∀ i (hi : i < l.length), ∃ b off, a = some ⟨b, off, none⟩ ∧ w.cell? ⟨b, off + i, none⟩ = some (.int .i64 (l[i] : Nat)) := by
  obtain ⟨a, cap, e, h1, h2, hh, _⟩ := own_read h
  have hl : l.length = n := by have := h.1; rw [i64s_length] at this; omega
  refine ⟨a, cap, e, h1, h2, hl, fun i hi => ?_⟩
  exact hh i (.int .i64 (l[i] : Nat)) (by unfold i64s; rw [List.getElem?_map, List.getElem?_eq_getElem hi]; rfl)

def filtK (l : List Nat) (p : Int) (k : Nat) : List Nat := (l.take k).filter fun d => (d : Int) != p
theorem filtK_yes (l : List Nat) (p : Int) (k : Nat) (h : k < l.length) (hp : ((l[k] : Nat) : Int) ≠ p) : filtK l p (k + 1) = filtK l p k ++ [l[k]] := by
  unfold filtK; rw [List.take_succ_eq_append_getElem h, List.filter_append]; simp [hp]
theorem filtK_no (l : List Nat) (p : Int) (k : Nat) (h : k < l.length) (hp : ((l[k] : Nat) : Int) = p) : filtK l p (k + 1) = filtK l p k := by
  unfold filtK; rw [List.take_succ_eq_append_getElem h, List.filter_append]; simp [hp]
theorem filtK_le (l : List Nat) (p : Int) (k : Nat) : (filtK l p k).length ≤ k := by
  unfold filtK; have := List.length_filter_le (fun d : Nat => (d : Int) != p) (l.take k); rw [List.length_take] at this; omega

set_option maxRecDepth 100000 in
set_option maxHeartbeats 1000000 in
theorem rothers_any (m b r : Int) (w : World) (hb : b ≤ 9223372036854775807) (hr : r ≤ 9223372036854775807) :
    Calls Try.prog 50 #[.int .i64 m, .int .i64 b, .int .i64 r] w fun e w' => ∃ v, e = .returned v ∧ w'.ownsRow w.heap.size 3 1 v (othersS m b r).length (i64s (othersS m b r)) ∧ Below w.heap.size w w' := by
  obtain ⟨i0, hi, hz0, hz1, hz2⟩ := info_parts Try.infoInt
  obtain ⟨B, hB⟩ : ∃ B, w.heap.size = B := ⟨_, rfl⟩
  obtain ⟨l, hl⟩ : ∃ l, diesS m = l := ⟨_, rfl⟩
  obtain ⟨p, hp⟩ : ∃ p, parS m b r = p := ⟨_, rfl⟩
  have ho : othersS m b r = if 0 ≤ p then l.filter (fun d : Nat => (d : Int) != p) else [] := by unfold othersS; rw [hp, hl]
  have hd := fun w => rdies_any m w
  have hl8 : l.length ≤ 8 := by rw [← hl]; exact diesS_length m
  rw [hl] at hd
  have hpp := fun w => rparity_any m b r w hb hr
  rw [hp] at hpp
  obtain ⟨R, hR⟩ : ∃ R, othersS m b r = R := ⟨_, rfl⟩
  rw [hR] at ho
  rw [hR, hB]
  have HO := Lib.hid ho
  have HD := Lib.hid hd
  have HP := Lib.hid hpp
  have HB := Lib.hid hB
  clear hl hp ho hd hpp hb hr hB hR
  go_enter Try.func50, Try.ntmps50
  go_wp2_with fail
  refine (HD.out _).mono ?_
  rintro e w1 ⟨v, rfl, hown, hb1⟩
  obtain ⟨a, cap, rfl, hle, hcm, hlen, hrd⟩ := own_ints hown
  have HB1 := Lib.hid hb1
  have HRD := Lib.hid hrd
  clear hown hrd hb1
  go_wp2_with fail
  refine (HP.out _).mono ?_
  rintro e w2 ⟨rfl, hb2⟩
  have HB2 : Hid (Below B w w2) := by rw [← HB.out]; exact HB1.out.trans (hb2.mono HB1.out.size)
  have HRD2 : Hid (∀ i (hi : i < l.length), ∃ b off, a = some ⟨b, off, none⟩ ∧ w2.cell? ⟨b, off + i, none⟩ = some (.int .i64 (l[i] : Nat))) := by
    intro i hi
    obtain ⟨b, off, e, hc⟩ := HRD.out i hi
    exact ⟨b, off, e, (hb2.cell (World.block_lt_of_cell? w1 _ hc)).trans hc⟩
  have HBW : Hid (B ≤ w2.heap.size) := by rw [← HB.out]; exact HB2.out.size
  clear hb2 HRD HB1
  obtain ⟨n, hn⟩ : ∃ n, l.length = n := ⟨_, rfl⟩
  rw [hn] at hl8 hle ⊢
  obtain ⟨B2, hB2⟩ : ∃ B2, w2.heap.size = B2 := ⟨_, rfl⟩
  have HN := Lib.hid hn
  have HB22 := Lib.hid hB2
  clear hn hB2 hlen
  go_wp2_with fail
  go_loopw [7, 10] (fun v i wr => ∃ k : Nat, k ≤ n ∧ (k = 0 ∨ 0 ≤ p) ∧ i = .int .i64 k ∧ Hid (wr.ownsRow B2 3 1 v (filtK l p k).length (i64s (filtK l p k))) ∧ Hid (Below B2 w2 wr)) (fun _ i _ => (n - intOf i).toNat)
  case atStart => exact ⟨0, Nat.zero_le _, .inl rfl, rfl, World.ownsRow_nil _ _ _ _, Below.refl _ _⟩
  case round =>
    obtain ⟨k, hk, hkp, rfl, hown, hbl⟩ := hrel
    by_cases hp : p < 0
    · obtain rfl : k = 0 := by omega
      have hf : R = filtK l p 0 := by rw [HO.out, if_neg (by omega)]; rfl
      have HF := Lib.hid hf
      have hor : (0 : Int) < n ∨ n = 0 := by omega
      clear hf
      rcases hor with h0 | h0
      all_goals go_wp2_with fail
      all_goals go_ret
      all_goals (rw [HF.out]; exact ⟨_, rfl, own_lower hown.out (by have := HBW.out; have := HB22.out; omega), HB2.out.trans (hbl.out.mono (by have := HBW.out; have := HB22.out; omega))⟩)
    have hp0 : 0 ≤ p := by omega
    by_cases hlt : k < n
    · have hkl : k < l.length := by rw [HN.out]; exact hlt
      obtain ⟨bb, off, rfl, hc⟩ := HRD2.out k hkl
      have hc := (hbl.out.cell (by rw [← HB22.out]; exact World.block_lt_of_cell? w2 _ hc)).trans hc
      have hfl := filtK_le l p k
      have hy := filtK_yes l p k hkl
      have hno := filtK_no l p k hkl
      generalize l[k] = x at hc hy hno
      by_cases hx : (x : Int) = p
      · have HNO := Lib.hid (hno hx)
        have hxb : ((x : Int) != p) = false := by simp [hx]
        clear hy hno hx
        go_wp2_with fail
        go_roundw
        case rel => exact ⟨k + 1, by omega, .inr hp0, by go_num, by rw [HNO.out]; exact hown, hbl⟩
        case measure => simp [intOf]; omega
      · have HY := Lib.hid (hy hx)
        have hxb : ((x : Int) != p) = true := by simp [hx]
        have hc3 : Hid ((filtK l p k).length + 1 ≤ maxLen) := by show _ ≤ _; unfold maxLen; omega
        have hsz : B2 ≤ wr.heap.size := by rw [← HB22.out]; exact Nat.le_trans (Nat.le_of_eq (by rw [HB22.out])) (by have := hbl.out.size; have := HB22.out; omega)
        have hc5 : Hid (B2 ≤ (wr.alloc (.cells #[.int .i64 (x : Int)] 3)).heap.size) := by show _ ≤ _; simp; omega
        clear hy hno hx
        go_wp2_with (at_builtin; refine wpList_append_own _ rfl _ _ 34 rfl B2 3 i0 (.int .i64 0) 1 8 Try.underlying34 hi hz0 hz1 hz2 rfl (by decide) _ _ _ rfl (hown.out.alloc _) ⟨wr.heap.size, 0, none⟩ 1 1 [.int .i64 (x : Int)] rfl rfl (one_new _ _ _) (one_int _ _) hc3.out (by omega) hc5.out ?_)
        intro v' w' hown' hgrow _
        have hown2 : Hid (w'.ownsRow B2 3 1 v' (filtK l p (k + 1)).length (i64s (filtK l p (k + 1)))) := by
          show World.ownsRow ..
          rw [HY.out, ← i64s_snoc, List.length_append]; exact hown'
        have hbl2 : Hid (Below B2 w2 w') := below_push hbl.out hsz hown.out hgrow
        clear hown' hgrow hown hbl
        go_wp2
        go_roundw
        case rel => exact ⟨k + 1, by omega, .inr hp0, by go_num, hown2, hbl2⟩
        case measure => simp [intOf]; omega
    · obtain rfl : k = n := by omega
      have hf : R = filtK l p k := by
        rw [HO.out, if_pos hp0]; unfold filtK; rw [List.take_of_length_le (by rw [HN.out]; exact Nat.le_refl _)]
      have HF := Lib.hid hf
      clear hf
      go_wp2_with fail
      go_ret
      rw [HF.out]
      exact ⟨_, rfl, own_lower hown.out (by have := HBW.out; have := HB22.out; omega), HB2.out.trans (hbl.out.mono (by have := HBW.out; have := HB22.out; omega))⟩
end Go.Proofs.Yticpjkbcchghjaa
