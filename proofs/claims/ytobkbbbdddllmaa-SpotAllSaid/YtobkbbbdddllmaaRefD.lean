/- The reference's sets of dies. -/
import Derived.Test.YtobkbbbdddllmaaRefO
namespace Go.Proofs.Ytobkbbbdddllmaa
open Go.RowKit

theorem Try.infoInt : (Try.prog.info? 3).map (fun i => (i.zero, i.size, i.bytes)) = some (some (.int .i64 0), 1, 8) := by kernel_rfl

def inB (m d : Nat) : Bool := m / 2 ^ d % 2 == 1
/-- The first k dies that are in the set m. -/
def diesK (m k : Nat) : List Nat := (List.range k).filter fun d => inB m d
/-- The dies of a set; of another number none. -/
def diesS (m : Int) : List Nat := if 0 ≤ m ∧ m ≤ 255 then diesK m.toNat 8 else []
def i64s (l : List Nat) : List Value := l.map fun (x : Nat) => Value.int .i64 (x : Int)
theorem i64s_length (l : List Nat) : (i64s l).length = l.length := by simp [i64s]
theorem i64s_snoc (l : List Nat) (x : Nat) : i64s l ++ [Value.int .i64 (x : Int)] = i64s (l ++ [x]) := by simp [i64s]

theorem diesK_yes (m k : Nat) (h : inB m k = true) : diesK m (k + 1) = diesK m k ++ [k] := by
  unfold diesK; rw [List.range_succ, List.filter_append]; simp [h]
theorem diesK_no (m k : Nat) (h : inB m k = false) : diesK m (k + 1) = diesK m k := by
  unfold diesK; rw [List.range_succ, List.filter_append]; simp [h]
theorem diesK_length (m k : Nat) : (diesK m k).length ≤ k := by
  have := List.length_filter_le (fun d => inB m d) (List.range k)
  rwa [List.length_range] at this

theorem inB_int (m d : Nat) : ((m : Int) / P2 d % 2 == 1) = inB m d := by
  unfold inB P2
  rw [← Int.natCast_ediv, Bool.eq_iff_iff]
  simp only [beq_iff_eq]; omega
theorem P2_small {d : Nat} (hd : d < 8) : P2 d ≤ 128 := by
  have h2 : 2 ^ d ≤ 2 ^ 7 := Nat.pow_le_pow_right (n := 2) (by omega) (by omega)
  unfold P2; omega

/-- Where a die stands among them, counted from k; -1. -/
def spotFrom : List Nat → Int → Nat → Int
  | [], _, _ => -1
  | x :: l, d, k => if (x : Int) = d then (k : Int) else spotFrom l d (k + 1)
def spotS (m d : Int) : Int := spotFrom (diesS m) d 0

theorem diesS_length (m : Int) : (diesS m).length ≤ 8 := by
  unfold diesS; split
  · exact diesK_length _ _
  · simp

end Go.Proofs.Ytobkbbbdddllmaa
