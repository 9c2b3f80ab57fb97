import Derived.Test.YtfploeefmnbpcaaGreatG02
/- The documents' Set: a list of dies as a set. -/
namespace Go.Proofs.YtfploeefmnbpcaaGreat
open Go.RowKit

def setN (l : List Nat) : Nat := (l.map fun d => 2 ^ d).sum
theorem setN_snoc (l : List Nat) (d : Nat) : setN (l ++ [d]) = setN l + 2 ^ d := by simp [setN]
theorem setN_take {l : List Nat} {k : Nat} (h : k < l.length) : setN (l.take (k + 1)) = setN (l.take k) + 2 ^ l[k] := by
  rw [List.take_succ_eq_append_getElem h, setN_snoc]
theorem setN_le : ∀ (l : List Nat), (∀ d ∈ l, d < 8) → setN l ≤ 128 * l.length
  | [], _ => by simp [setN]
  | d :: l, h => by
    have h1 := setN_le l fun x hx => h x (by simp [hx])
    have h2 : 2 ^ d ≤ 2 ^ 7 := Nat.pow_le_pow_right (n := 2) (by omega) (by have := h d (by simp); omega)
    have h3 : setN (d :: l) = 2 ^ d + setN l := by simp [setN]
    rw [h3, List.length_cons]; omega

set_option maxRecDepth 100000 in
set_option maxHeartbeats 1000000 in
theorem rset_own {v : Value} {base n : Nat} {l : List Nat} {w : World} (hown : w.ownsRow base 3 1 v n (i64s l)) (hd : ∀ d ∈ l, d < 8) (hl : l.length ≤ 1000) :
    Calls Tryz.prog 30 #[v] w fun e w' => e = .returned (.int .i64 (setN l : Nat)) ∧ w = w' := by
  obtain ⟨a, cap, rfl, hle, hhold⟩ := reads_of_own hown
  have HH := Lib.hid hhold
  rw [i64s_length] at hle ⊢
  obtain ⟨m, hn⟩ : ∃ m, l.length = m := ⟨_, rfl⟩
  rw [hn] at hl hle ⊢
  have HN := Lib.hid hn
  have HD := Lib.hid hd
  have HLE : Hid (∀ k, setN (l.take k) ≤ 128 * k) := fun k => by
    have h1 := setN_le (l.take k) (fun d hd' => hd d (List.mem_of_mem_take hd'))
    have h2 : (l.take k).length ≤ k := by rw [List.length_take]; omega
    omega
  clear hown hhold hn hd
  go_enter Tryz.func30, Tryz.ntmps30
  go_wp2
  go_loop [3, 4] (fun s i => ∃ k : Nat, k ≤ m ∧ s = .int .i64 (setN (l.take k) : Nat) ∧ i = .int .i64 k) (fun _ i => (m - intOf i).toNat)
  case atStart => exact ⟨0, Nat.zero_le _, rfl, rfl⟩
  case round =>
    obtain ⟨k, hk, rfl, rfl⟩ := hrel
    have hs0 := HLE.out k
    by_cases hlt : k < m
    · have hkl : k < l.length := by rw [HN.out]; exact hlt
      obtain ⟨b, off, rfl, hc⟩ := HH.out k (.int .i64 (l[k] : Nat)) (by unfold i64s; rw [List.getElem?_map, List.getElem?_eq_getElem hkl]; rfl)
      have h1 := setN_take hkl
      have h8 : l[k] < 8 := HD.out _ (List.getElem_mem hkl)
      generalize l[k] = x at hc h1 h8
      have hp1 := P2_pos x
      have hp2 := P2_small h8
      obtain ⟨s, hs⟩ : ∃ s : Int, ((setN (l.take k) : Nat) : Int) = s := ⟨_, rfl⟩
      have h2 : ((setN (l.take (k + 1)) : Nat) : Int) = s + P2 x := by rw [h1]; unfold P2; omega
      have hs1 : 0 ≤ s := by omega
      have hs2 : s ≤ 128000 := by omega
      rw [hs]
      have H2 := Lib.hid h2
      clear h1 h2 hs hs0
      go_wp2_with (go_at_call 57; refine (pow_nat x _ (by omega)).mono ?_; rintro e w' ⟨rfl, rfl⟩)
      go_round
      case rel => exact ⟨k + 1, by omega, by rw [H2.out], by go_num⟩
      case measure => simp [intOf]; omega
    · obtain rfl : k = m := by omega
      go_wp2
      go_ret
      exact ⟨by rw [List.take_of_length_le (by rw [HN.out]; omega)]; rfl, rfl⟩
end Go.Proofs.YtfploeefmnbpcaaGreat
