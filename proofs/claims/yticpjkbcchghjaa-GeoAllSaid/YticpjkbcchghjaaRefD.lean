/- The reference's sets of dies. -/
import Derived.Test.YticpjkbcchghjaaRefO
namespace Go.Proofs.Yticpjkbcchghjaa
open Go.RowKit

theorem Try.infoInt : (Try.prog.info? 3).map (fun i => (i.zero, i.size, i.bytes)) = some (some (.int .i64 0), 1, 8) := by kernel_rfl

def inB (m d : Nat) : Bool := m / 2 ^ d % 2 == 1
/-- The first k dies that are in the set m. -/
def diesK (m k : Nat) : List Nat := (List.range k).filter fun d => inB m d
/-- The dies of a set; of another number none. -/
def diesS (m : Int) : List Nat := if 0 ≤ m ∧ m ≤ 255 then diesK m.toNat 8 else []
def i64s (l : List Nat) : List Value := l.map fun (x : Nat) => Value.int .i64 (x : Int)
theorem i64s_length (l : List Nat) : (i64s l).length = l.length := by simp [i64s]
theorem i64s_snoc (l : List Nat) (x : Nat) : i64s l ++ [Value.int .i64 (x : Int)] = i64s (l ++ [x]) := by simp [i64s]

theorem diesK_yes (m k : Nat) (h : inB m k = true) : diesK m (k + 1) = diesK m k ++ [k] := by
  unfold diesK; rw [List.range_succ, List.filter_append]; simp [h]
theorem diesK_no (m k : Nat) (h : inB m k = false) : diesK m (k + 1) = diesK m k := by
  unfold diesK; rw [List.range_succ, List.filter_append]; simp [h]
theorem diesK_length (m k : Nat) : (diesK m k).length ≤ k := by
  have := List.length_filter_le (fun d => inB m d) (List.range k)
  rwa [List.length_range] at this

theorem inB_int (m d : Nat) : ((m : Int) / P2 d % 2 == 1) = inB m d := by
  unfold inB P2
  rw [← Int.natCast_ediv, Bool.eq_iff_iff]
  simp only [beq_iff_eq]; omega
theorem P2_small {d : Nat} (hd : d < 8) : P2 d ≤ 128 := by
  have h2 : 2 ^ d ≤ 2 ^ 7 := Nat.pow_le_pow_right (n := 2) (by omega) (by omega)
  unfold P2; omega

set_option maxRecDepth 100000 in
set_option maxHeartbeats 1000000 in
theorem rdies_any (m : Int) (w : World) :
    Calls Try.prog 27 #[.int .i64 m] w fun e w' => ∃ v, e = .returned v ∧ w'.ownsRow w.heap.size 3 1 v (diesS m).length (i64s (diesS m)) ∧ Below w.heap.size w w' := by
  obtain ⟨i0, hi, hz0, hz1, hz2⟩ := info_parts Try.infoInt
  by_cases c1 : 0 ≤ m
  · by_cases c2 : m ≤ 255
    · obtain ⟨M, rfl⟩ : ∃ M : Nat, m = M := ⟨m.toNat, by omega⟩
      obtain ⟨B, hB⟩ : ∃ B, w.heap.size = B := ⟨_, rfl⟩
      rw [hB]
      go_enter Try.func27, Try.ntmps27
      go_wp2
      go_loopw [3, 4] (fun v i wr => ∃ k : Nat, k ≤ 8 ∧ i = .int .i64 k ∧ wr.ownsRow B 3 1 v (diesK M k).length (i64s (diesK M k)) ∧ Below B w wr) (fun _ i _ => (8 - intOf i).toNat)
      case atStart => exact ⟨0, Nat.zero_le _, rfl, World.ownsRow_nil _ _ _ _, Below.refl _ _⟩
      case round =>
        obtain ⟨k, hk, rfl, hown, hbl⟩ := hrel
        by_cases hlt : k < 8
        · have hp1 := P2_pos k
          have hp2 := P2_small hlt
          have hq0 : 0 ≤ (M : Int) / P2 k := Int.ediv_nonneg (by omega) (by omega)
          have hq1 : (M : Int) / P2 k ≤ 255 := by have := Int.ediv_le_self (P2 k) (show 0 ≤ (M : Int) by omega); omega
          have hbit := inB_int M k
          have hdl := diesK_length M k
          by_cases hx : inB M k = true
          · rw [hx] at hbit
            have HX := Lib.hid hx
            clear hx
            have hc3 : Hid ((diesK M k).length + 1 ≤ maxLen) := by show _ ≤ _; unfold maxLen; omega
            have hc5 : Hid (B ≤ (wr.alloc (.cells #[.int .i64 (k : Int)] 3)).heap.size) := by show _ ≤ _; have := hbl.size; simp; omega
            go_wp2_with (first
              | (go_at_call 52; refine (pow_nat k _ (by omega)).mono ?_; rintro e w' ⟨rfl, rfl⟩)
              | (at_builtin; refine wpList_append_own _ rfl _ _ 34 rfl B 3 i0 (.int .i64 0) 1 8 Try.underlying34 hi hz0 hz1 hz2 rfl (by decide) _ _ _ rfl (hown.alloc _) ⟨wr.heap.size, 0, none⟩ 1 1 [.int .i64 (k : Int)] rfl rfl (one_new _ _ _) (one_int _ _) hc3.out (by omega) hc5.out ?_))
            intro v' w' hown' hgrow _
            have hown2 : w'.ownsRow B 3 1 v' (diesK M (k + 1)).length (i64s (diesK M (k + 1))) := by
              rw [diesK_yes M k HX.out, ← i64s_snoc, List.length_append]; exact hown'
            have hbl2 : Below B w w' := below_push hbl (by have := hbl.size; omega) hown hgrow
            clear hown' hgrow hown hbl
            go_wp2
            go_roundw
            case rel => exact ⟨k + 1, by omega, by go_num, hown2, hbl2⟩
            case measure => simp [intOf]; omega
          · have hx2 : inB M k = false := by simpa using hx
            rw [hx2] at hbit
            have HX := Lib.hid hx2
            clear hx hx2
            go_wp2_with (go_at_call 52; refine (pow_nat k _ (by omega)).mono ?_; rintro e w' ⟨rfl, rfl⟩)
            go_roundw
            case rel => exact ⟨k + 1, by omega, by go_num, by rw [diesK_no M k HX.out]; exact hown, hbl⟩
            case measure => simp [intOf]; omega
        · obtain rfl : k = 8 := by omega
          have hs : diesS (M : Int) = diesK M 8 := by unfold diesS; rw [if_pos ⟨c1, c2⟩, Int.toNat_natCast]
          have HS := Lib.hid hs
          clear hs
          go_wp2
          go_ret
          exact ⟨_, rfl, by rw [HS.out]; exact hown, hbl⟩
    · have hs : diesS m = [] := if_neg (by omega)
      have HS := Lib.hid hs
      have hb : decide (m ≤ 255) = false := by simp; omega
      clear hs
      go_enter Try.func27, Try.ntmps27
      go_wp2
      refine wp_loop_rounds 1 ?_
      rw [rounds_succ]
      go_wp2
      go_ret
      exact ⟨_, rfl, by rw [HS.out]; exact World.ownsRow_nil _ _ _ _, Below.refl _ _⟩
  · have hs : diesS m = [] := if_neg (by omega)
    have HS := Lib.hid hs
    have hb : decide (0 ≤ m) = false := by simp; omega
    clear hs
    go_enter Try.func27, Try.ntmps27
    go_wp2
    refine wp_loop_rounds 1 ?_
    rw [rounds_succ]
    go_wp2
    go_ret
    exact ⟨_, rfl, by rw [HS.out]; exact World.ownsRow_nil _ _ _ _, Below.refl _ _⟩

/-- Where a die stands among them, counted from k; -1. -/
def spotFrom : List Nat → Int → Nat → Int
  | [], _, _ => -1
  | x :: l, d, k => if (x : Int) = d then (k : Int) else spotFrom l d (k + 1)
def spotS (m d : Int) : Int := spotFrom (diesS m) d 0

theorem diesS_length (m : Int) : (diesS m).length ≤ 8 := by
  unfold diesS; split
  · exact diesK_length _ _
  · simp

end Go.Proofs.Yticpjkbcchghjaa
