namespace Go.Proofs.Yticpjkbcchghjaa
namespace M

theorem snoc_ind {α : Type} {P : List α → Prop} (h0 : P []) (h1 : ∀ l a, P l → P (l ++ [a])) (l : List α) : P l := by
  have h : ∀ r : List α, P r.reverse := by
    intro r
    induction r with
    | nil => exact h0
    | cons a r ih => rw [List.reverse_cons]; exact h1 _ _ ih
  have := h l.reverse
  rwa [List.reverse_reverse] at this

/-- The lowest w bits of u, the highest first. -/
def bitsOf (u : Nat) : Nat → List Bool
  | 0 => []
  | w + 1 => bitsOf (u / 2) w ++ [u % 2 == 1]

def step (n : Nat) (b : Bool) : Nat := 2 * n + b.toNat
/-- A number of bits, the highest first. -/
def num (l : List Bool) : Nat := l.foldl step 0

theorem bitsOf_length (u w : Nat) : (bitsOf u w).length = w := by
  induction w generalizing u with
  | zero => rfl
  | succ w ih => simp [bitsOf, ih]

theorem num_snoc (a : List Bool) (b : Bool) : num (a ++ [b]) = 2 * num a + b.toNat := by
  unfold num; rw [List.foldl_append]; rfl

theorem num_append (a b : List Bool) : num (a ++ b) = num a * 2 ^ b.length + num b := by
  refine snoc_ind (P := fun b => num (a ++ b) = num a * 2 ^ b.length + num b) (by simp [num]) ?_ b
  intro l x ih
  rw [← List.append_assoc, num_snoc, ih, num_snoc, List.length_append, List.length_singleton, Nat.pow_succ, ← Nat.mul_assoc]
  omega

theorem num_lt (l : List Bool) : num l < 2 ^ l.length := by
  refine snoc_ind (P := fun l => num l < 2 ^ l.length) (by simp [num]) ?_ l
  intro l b ih
  rw [num_snoc, List.length_append, List.length_singleton, Nat.pow_succ]
  cases b <;> simp <;> omega

theorem num_bitsOf (u w : Nat) : num (bitsOf u w) = u % 2 ^ w := by
  induction w generalizing u with
  | zero => simp [bitsOf, num, Nat.mod_one]
  | succ w ih =>
    rw [bitsOf, num_snoc, ih]
    have h2 : u % (2 ^ (w + 1)) % 2 = u % 2 := by
      rw [Nat.pow_succ]; exact Nat.mod_mul_left_mod u _ 2
    have h3 : u % 2 ^ (w + 1) / 2 = u / 2 % 2 ^ w := by
      rw [Nat.pow_succ, Nat.mul_comm]; exact Nat.mod_mul_right_div_self u 2 (2 ^ w)
    have h4 : (u % 2 == 1).toNat = u % 2 := by
      rcases Nat.mod_two_eq_zero_or_one u with h | h <;> simp [h]
    rw [h4]; omega

theorem bitsOf_num (l : List Bool) : bitsOf (num l) l.length = l := by
  refine snoc_ind (P := fun l => bitsOf (num l) l.length = l) rfl ?_ l
  intro l b ih
  rw [num_snoc, List.length_append, List.length_singleton]
  simp only [bitsOf]
  have h1 : (2 * num l + b.toNat) / 2 = num l := by cases b <;> simp <;> omega
  have h2 : ((2 * num l + b.toNat) % 2 == 1) = b := by cases b <;> simp <;> omega
  rw [h1, h2, ih]

theorem bitsOf_take (u a b : Nat) : (bitsOf u (a + b)).take a = bitsOf (u / 2 ^ b) a := by
  induction b generalizing u with
  | zero => simp [List.take_of_length_le, bitsOf_length]
  | succ b ih =>
    rw [← Nat.add_assoc, bitsOf, List.take_append_of_le_length (by rw [bitsOf_length]; omega), ih, Nat.div_div_eq_div_mul, Nat.pow_succ, Nat.mul_comm 2]

/-- The first j bits from place i on, noughts behind the last, as a number. -/
def partN (l : List Bool) (i j : Nat) : Nat := num ((List.range j).map fun t => l.getD (i + t) false)
/-- Eight of them. -/
def byteN (l : List Bool) (i : Nat) : Nat := partN l i 8
/-- Bits, eight a byte, noughts behind the last. -/
def bytesN (l : List Bool) (r : Nat) : List Nat := (List.range r).map fun j => byteN l (8 * j)

theorem partN_zero (l : List Bool) (i : Nat) : partN l i 0 = 0 := rfl
theorem partN_succ (l : List Bool) (i j : Nat) : partN l i (j + 1) = 2 * partN l i j + (l.getD (i + j) false).toNat := by
  unfold partN
  rw [List.range_succ, List.map_append, List.map_singleton, num_snoc]
theorem partN_lt (l : List Bool) (i j : Nat) : partN l i j < 2 ^ j := by
  have := num_lt ((List.range j).map fun t => l.getD (i + t) false)
  simpa [partN] using this
theorem byteN_lt (l : List Bool) (i : Nat) : byteN l i < 256 := partN_lt l i 8
theorem bytesN_succ (l : List Bool) (r : Nat) : bytesN l (r + 1) = bytesN l r ++ [byteN l (8 * r)] := by
  unfold bytesN; rw [List.range_succ, List.map_append, List.map_singleton]
theorem bytesN_length (l : List Bool) (r : Nat) : (bytesN l r).length = r := by simp [bytesN]

/-- The bits of bytes. -/
def ofN (l : List Nat) : List Bool := l.flatMap fun x => bitsOf x 8
theorem ofN_snoc (l : List Nat) (x : Nat) : ofN (l ++ [x]) = ofN l ++ bitsOf x 8 := by simp [ofN]
theorem ofN_length (l : List Nat) : (ofN l).length = 8 * l.length := by
  induction l with
  | nil => rfl
  | cons a l ih => simp only [ofN, List.flatMap_cons, List.length_append, bitsOf_length, List.length_cons] at ih ⊢; omega

end M
end Go.Proofs.Yticpjkbcchghjaa
