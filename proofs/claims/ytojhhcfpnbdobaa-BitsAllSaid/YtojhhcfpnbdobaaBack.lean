/- Bits that went to bytes, read back. No Go text here. -/
import Derived.Test.YtojhhcfpnbdobaaKoopT
namespace Go.Proofs.Ytojhhcfpnbdobaa
namespace M

theorem bytesN_byte (l : List Bool) (n : Nat) : ∀ x ∈ bytesN l n, x < 256 := by
  intro x hx
  unfold bytesN at hx
  obtain ⟨j, _, rfl⟩ := List.mem_map.1 hx
  exact byteN_lt _ _
theorem back_getD (l : List Bool) (n i : Nat) (h : i < 8 * n) : (ofN (bytesN l n)).getD i false = l.getD i false := by
  obtain ⟨q, hq⟩ : ∃ q, i / 8 = q := ⟨_, rfl⟩
  obtain ⟨p, hp⟩ : ∃ p, i % 8 = p := ⟨_, rfl⟩
  have hi : i = 8 * q + p := by omega
  have hp8 : p < 8 := by omega
  have hqn : q < n := by omega
  rw [hi, ofN_getD _ q p (by rw [bytesN_length]; exact hqn) hp8]
  have e1 : (bytesN l n).getD q 0 = byteN l (8 * q) := by
    unfold bytesN
    simp [List.getD, List.getElem?_range hqn]
  have e2 : bitsOf (byteN l (8 * q)) 8 = (List.range 8).map fun t => l.getD (8 * q + t) false := by
    have := bitsOf_num ((List.range 8).map fun t => l.getD (8 * q + t) false)
    rw [List.length_map, List.length_range] at this
    exact this
  have e3 := bitsOf_getD (byteN l (8 * q)) 8 p hp8
  rw [e1, show 7 - p = 8 - 1 - p by omega, ← e3, e2]
  simp [List.getD, List.getElem?_range hp8]
theorem back_part (l : List Bool) (n pos c : Nat) (h : pos + c ≤ l.length) (hn : l.length ≤ 8 * n) : ((ofN (bytesN l n)).drop pos).take c = (l.drop pos).take c := by
  have hl : (ofN (bytesN l n)).length = 8 * n := by rw [ofN_length, bytesN_length]
  apply ext_getD
  · rw [List.length_take, List.length_take, List.length_drop, List.length_drop, hl]; omega
  · intro i hi
    rw [List.length_take, List.length_drop, hl] at hi
    have := back_getD l n (pos + i) (by omega)
    simp only [List.getD] at this ⊢
    rw [List.getElem?_take, List.getElem?_take, if_pos (by omega), if_pos (by omega), List.getElem?_drop, List.getElem?_drop]
    exact this
/-- What was put is what is read. -/
theorem back_next (l : List Bool) (n pos c : Nat) (h : pos + c ≤ l.length) (hn : l.length ≤ 8 * n) : nextN (bytesN l n) pos c = num ((l.drop pos).take c) := by
  unfold nextN; rw [back_part l n pos c h hn]

theorem bitsOf_mod (u c : Nat) : bitsOf (u % 2 ^ c) c = bitsOf u c := by
  have h := bitsOf_num (bitsOf u c)
  rw [num_bitsOf, bitsOf_length] at h
  exact h
/-- One field as two. -/
theorem bitsOf_cut (u a c : Nat) : bitsOf u (a + c) = bitsOf (u / 2 ^ c) a ++ bitsOf (u % 2 ^ c) c := by
  rw [bitsOf_mod, ← bitsOf_take u a c, ← bitsOf_drop u c a, List.take_append_drop]
theorem cut_first (u a c : Nat) (h : u < 2 ^ (a + c)) : num (((bitsOf u (a + c)).drop 0).take a) = u / 2 ^ c := by
  rw [List.drop_zero, bitsOf_take, num_bitsOf]
  refine Nat.mod_eq_of_lt (Nat.div_lt_of_lt_mul ?_)
  rw [Nat.mul_comm, ← Nat.pow_add]; exact h
theorem cut_last (u a c : Nat) : num (((bitsOf u (a + c)).drop a).take c) = u % 2 ^ c := by
  rw [bitsOf_drop, List.take_of_length_le (by rw [bitsOf_length]; exact Nat.le_refl _), num_bitsOf]
end M
end Go.Proofs.Ytojhhcfpnbdobaa
