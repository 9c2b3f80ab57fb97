/- Plain arithmetic of package bits. No Go text here. -/
import Derived.Test.YticpjkbcchghjaaZigM
namespace Go.Proofs.Yticpjkbcchghjaa
namespace M

theorem num_false (k : Nat) : num (List.replicate k false) = 0 := by
  induction k with
  | zero => rfl
  | succ k ih => rw [List.replicate_succ', num_snoc, ih]; rfl

theorem pow_split {a b c : Nat} (h : a + b = c) : (2 : Nat) ^ a * 2 ^ b = 2 ^ c := by rw [← Nat.pow_add, h]

/-- A byte of which the list has the first bits alone. -/
theorem byteN_tail (l : List Bool) (i : Nat) (h : (l.drop i).length ≤ 8) : byteN l i = num (l.drop i) * 2 ^ (8 - (l.drop i).length) := by
  unfold byteN partN
  have e : (List.range 8).map (fun t => l.getD (i + t) false) = l.drop i ++ List.replicate (8 - (l.drop i).length) false := by
    apply List.ext_getElem
    · simp at h ⊢; omega
    · intro j h1 h2
      simp only [List.getElem_map, List.getElem_range]
      simp only [List.length_map, List.length_range] at h1
      by_cases hj : j < (l.drop i).length
      · rw [List.getElem_append_left hj, List.getElem_drop]
        rw [List.length_drop] at hj
        simp [List.getD, List.getElem?_eq_getElem (show i + j < l.length by omega)]
      · rw [List.getElem_append_right (by omega), List.getElem_replicate]
        rw [List.length_drop] at hj
        rw [List.getD, List.getElem?_eq_none (by omega)]; rfl
  rw [e, num_append, num_false, List.length_replicate, Nat.add_zero]

theorem byteN_before (m t : List Bool) (j : Nat) (h : 8 * j + 8 ≤ m.length) : byteN (m ++ t) (8 * j) = byteN m (8 * j) := by
  unfold byteN partN
  congr 1
  apply List.map_congr_left
  intro k hk
  have hk8 := List.mem_range.1 hk
  rw [List.getD, List.getD, List.getElem?_append_left (by omega)]
theorem byteN_behind (m : List Bool) (j : Nat) (h : m.length ≤ 8 * j) : byteN m (8 * j) = 0 := by
  have e : m.drop (8 * j) = [] := List.drop_eq_nil_of_le h
  rw [byteN_tail m (8 * j) (by rw [e]; simp), e]; simp [num]

/-- One piece is put: the byte it goes to. -/
theorem put_byte (m t : List Bool) (ht : m.length % 8 + t.length ≤ 8) :
    byteN (m ++ t) (8 * (m.length / 8)) = byteN m (8 * (m.length / 8)) ||| num t * 2 ^ (8 - m.length % 8 - t.length) := by
  have hd : (m.drop (8 * (m.length / 8))).length = m.length % 8 := by rw [List.length_drop]; omega
  have ed : (m ++ t).drop (8 * (m.length / 8)) = m.drop (8 * (m.length / 8)) ++ t := by rw [List.drop_append_of_le_length (by omega)]
  have hl : (m.drop (8 * (m.length / 8)) ++ t).length = m.length % 8 + t.length := by rw [List.length_append, hd]
  rw [byteN_tail (m ++ t) _ (by rw [ed, hl]; exact ht), byteN_tail m _ (by rw [hd]; omega), ed, hl, hd, num_append, Nat.add_mul]
  generalize num (m.drop (8 * (m.length / 8))) = A
  have e1 : A * 2 ^ t.length * 2 ^ (8 - (m.length % 8 + t.length)) = A * 2 ^ (8 - m.length % 8) := by
    rw [Nat.mul_assoc, pow_split]; omega
  have e2 : 8 - (m.length % 8 + t.length) = 8 - m.length % 8 - t.length := by omega
  rw [e1, e2]
  symm
  refine nat_join (8 - m.length % 8) _ _ (Nat.mul_mod_left _ _) ?_
  have h1 := num_lt t
  have h2 : 2 ^ t.length * 2 ^ (8 - m.length % 8 - t.length) = 2 ^ (8 - m.length % 8) := pow_split (by omega)
  rw [← h2]
  exact Nat.mul_lt_mul_of_pos_right h1 (Nat.pow_pos (by omega))

/-- What is left to put stands at the top of the word. -/
def topN (r : List Bool) : Nat := num r * 2 ^ (64 - r.length)
theorem topN_lt (r : List Bool) (h : r.length ≤ 64) : topN r < 18446744073709551616 := by
  have h1 := num_lt r
  have h2 : 2 ^ r.length * 2 ^ (64 - r.length) = 2 ^ 64 := pow_split (by omega)
  unfold topN
  rw [show 18446744073709551616 = 2 ^ 64 from rfl, ← h2]
  exact Nat.mul_lt_mul_of_pos_right h1 (Nat.pow_pos (by omega))

theorem top_next (t r : List Bool) (h : t.length + r.length ≤ 64) : topN (t ++ r) * 2 ^ t.length % 18446744073709551616 = topN r := by
  unfold topN
  rw [num_append, List.length_append]
  have e1 : (num t * 2 ^ r.length + num r) * 2 ^ (64 - (t.length + r.length)) * 2 ^ t.length = num r * 2 ^ (64 - r.length) + 2 ^ 64 * num t := by
    rw [Nat.mul_assoc, pow_split (show 64 - (t.length + r.length) + t.length = 64 - r.length by omega), Nat.add_mul, Nat.mul_assoc, pow_split (show r.length + (64 - r.length) = 64 by omega), Nat.mul_comm (num t), Nat.add_comm]
  rw [e1, show 18446744073709551616 = 2 ^ 64 from rfl, Nat.add_mul_mod_self_left]
  exact Nat.mod_eq_of_lt (topN_lt r (by omega))

theorem top_byte (t r : List Bool) (p : Nat) (h : t.length + r.length ≤ 64) (hp : p + t.length ≤ 8) (hc : r = [] ∨ p + t.length = 8) :
    topN (t ++ r) / 72057594037927936 % 256 / 2 ^ p = num t * 2 ^ (8 - p - t.length) := by
  have hlt := topN_lt (t ++ r) (by rw [List.length_append]; omega)
  rw [Nat.mod_eq_of_lt (by omega), Nat.div_div_eq_div_mul, show 72057594037927936 = 2 ^ 56 from rfl, pow_split (show 56 + p = 56 + p from rfl)]
  unfold topN
  rcases hc with rfl | hc
  · rw [List.append_nil]
    have e : 2 ^ (64 - t.length) = 2 ^ (8 - p - t.length) * 2 ^ (56 + p) := (pow_split (by omega)).symm
    rw [e, ← Nat.mul_assoc, Nat.mul_div_cancel _ (Nat.pow_pos (by omega))]
  · rw [num_append, List.length_append, show 8 - p - t.length = 0 by omega, Nat.pow_zero, Nat.mul_one, Nat.add_mul, Nat.mul_assoc,
      pow_split (show r.length + (64 - (t.length + r.length)) = 56 + p by omega), Nat.mul_comm (num t), Nat.mul_add_div (Nat.pow_pos (by omega))]
    have h1 := num_lt r
    have h2 : 2 ^ r.length * 2 ^ (64 - (t.length + r.length)) = 2 ^ (56 + p) := pow_split (by omega)
    have h3 : num r * 2 ^ (64 - (t.length + r.length)) < 2 ^ (56 + p) := by
      rw [← h2]; exact Nat.mul_lt_mul_of_pos_right h1 (Nat.pow_pos (by omega))
    rw [Nat.div_eq_of_lt h3, Nat.add_zero]

theorem top_start (u W : Nat) (hW : W ≤ 64) (hu : u < 2 ^ W) : u * 2 ^ (64 - W) % 18446744073709551616 = topN (bitsOf u W) := by
  have h : topN (bitsOf u W) = u * 2 ^ (64 - W) := by
    unfold topN; rw [num_bitsOf, bitsOf_length, Nat.mod_eq_of_lt hu]
  rw [← h]
  exact Nat.mod_eq_of_lt (topN_lt _ (by rw [bitsOf_length]; exact hW))

theorem and7 (n : Nat) (h : n < 9223372036854775808) : bits BinOp.and IntKind.i64 (n : Int) 7 = ((n % 8 : Nat) : Int) := by
  have e : bits .and .i64 (n : Int) 7 = IntKind.i64.wrap (BitVec.ofInt 64 (n : Int) &&& BitVec.ofInt 64 7).toNat := rfl
  have e2 : (BitVec.ofInt 64 7) = BitVec.ofNat 64 7 := rfl
  rw [e, e2, BitVec.ofInt_natCast, BitVec.toNat_and, BitVec.toNat_ofNat, BitVec.toNat_ofNat, Nat.mod_eq_of_lt (by omega), Nat.mod_eq_of_lt (by omega), nat_mask3, IntKind.wrap_i64]
  omega

/-- Some bits out of the midst of a byte. -/
theorem get_part (x p k : Nat) (hp : p + k ≤ 8) : num (((bitsOf x 8).drop p).take k) = x * 2 ^ p % 256 / 2 ^ (8 - k) := by
  have e1 : (bitsOf x 8).drop p = bitsOf x (8 - p) := by
    have := bitsOf_drop x (8 - p) p
    rwa [show p + (8 - p) = 8 by omega] at this
  have e2 : (bitsOf x (8 - p)).take k = bitsOf (x / 2 ^ (8 - p - k)) k := by
    have := bitsOf_take x k (8 - p - k)
    rwa [show k + (8 - p - k) = 8 - p by omega] at this
  rw [e1, e2, num_bitsOf, show 256 = 2 ^ (8 - p) * 2 ^ p by rw [pow_split (show 8 - p + p = 8 by omega)], Nat.mul_mod_mul_right]
  have e3 : (2 : Nat) ^ (8 - k) = 2 ^ p * 2 ^ (8 - p - k) := (pow_split (by omega)).symm
  rw [e3, ← Nat.div_div_eq_div_mul, Nat.mul_div_cancel _ (Nat.pow_pos (by omega))]
  have e4 : (2 : Nat) ^ (8 - p) = 2 ^ (8 - p - k) * 2 ^ k := (pow_split (by omega)).symm
  rw [e4, Nat.mod_mul_right_div_self]

theorem ofN_cons (x : Nat) (l : List Nat) : ofN (x :: l) = bitsOf x 8 ++ ofN l := by simp [ofN]
theorem ofN_append (a b : List Nat) : ofN (a ++ b) = ofN a ++ ofN b := by simp [ofN]

theorem ofN_byte (bs : List Nat) (q p k : Nat) (hq : q < bs.length) (hp : p + k ≤ 8) :
    ((ofN bs).drop (8 * q + p)).take k = ((bitsOf (bs[q]) 8).drop p).take k := by
  have e : ofN bs = ofN (bs.take q) ++ (bitsOf (bs[q]) 8 ++ ofN (bs.drop (q + 1))) := by
    rw [← ofN_cons, ← ofN_append, ← List.drop_eq_getElem_cons hq, List.take_append_drop]
  have hl : (ofN (bs.take q)).length = 8 * q := by rw [ofN_length, List.length_take, Nat.min_eq_left (by omega)]
  rw [e, ← List.drop_drop, ← hl, List.drop_left, List.drop_append_of_le_length (by rw [bitsOf_length]; omega),
    List.take_append_of_le_length (by rw [List.length_drop, bitsOf_length]; omega)]

/-- The next bits. -/
def nextN (bs : List Nat) (pos c : Nat) : Nat := num (((ofN bs).drop pos).take c)

theorem nextN_zero (bs : List Nat) (pos : Nat) : nextN bs pos 0 = 0 := by unfold nextN; rw [List.take_zero]; rfl
theorem nextN_lt (bs : List Nat) (pos c : Nat) : nextN bs pos c < 2 ^ c := by
  have h := num_lt (((ofN bs).drop pos).take c)
  have h2 : (((ofN bs).drop pos).take c).length ≤ c := by rw [List.length_take]; omega
  exact Nat.lt_of_lt_of_le h (Nat.pow_le_pow_right (by omega) h2)

theorem nextN_step (bs : List Nat) (pos c k p x : Nat) (hq : (pos + c) / 8 < bs.length) (hp : (pos + c) % 8 = p) (hk : p + k ≤ 8) (hx : bs[(pos + c) / 8] = x) :
    nextN bs pos (c + k) = nextN bs pos c * 2 ^ k + x * 2 ^ p % 256 / 2 ^ (8 - k) := by
  unfold nextN
  have e : pos + c = 8 * ((pos + c) / 8) + p := by omega
  have e2 : ((ofN bs).drop (pos + c)).take k = ((bitsOf x 8).drop p).take k := by
    have := ofN_byte bs ((pos + c) / 8) p k hq hk
    rw [← e, hx] at this
    exact this
  have hl : (((bitsOf x 8).drop p).take k).length = k := by rw [List.length_take, List.length_drop, bitsOf_length]; omega
  rw [List.take_add, List.drop_drop, e2, num_append, get_part x p k hk, hl]

theorem get_val (bs : List Nat) (pos c k p x q : Nat) (hq : (pos + c) / 8 < bs.length) (hp : (pos + c) % 8 = p) (hk : p + k ≤ 8) (hx : bs[(pos + c) / 8] = x) (hn : q = nextN bs pos c) (hck : c + k ≤ 64) :
    bits BinOp.or IntKind.u64 (IntKind.u64.wrap ((q : Int) * 2 ^ k)) ((x * 2 ^ p % 256 / 2 ^ (8 - k) : Nat) : Int) = ((nextN bs pos (c + k) : Nat) : Int) := by
  have h1 := nextN_lt bs pos c
  rw [← hn] at h1
  have h2 := get_part x p k hk
  have h3 := num_lt (((bitsOf x 8).drop p).take k)
  have h4 : (((bitsOf x 8).drop p).take k).length = k := by rw [List.length_take, List.length_drop, bitsOf_length]; omega
  rw [h4, h2] at h3
  have h5 : q * 2 ^ k < 2 ^ c * 2 ^ k := Nat.mul_lt_mul_of_pos_right h1 (Nat.pow_pos (by omega))
  have h6 : 2 ^ c * 2 ^ k ≤ 2 ^ 64 := by rw [pow_split rfl]; exact Nat.pow_le_pow_right (by omega) hck
  have h7 : (2 : Nat) ^ k ≤ 2 ^ 8 := Nat.pow_le_pow_right (by omega) (by omega)
  have e : IntKind.u64.wrap ((q : Int) * 2 ^ k) = ((q * 2 ^ k : Nat) : Int) := by
    rw [IntKind.wrap_u64]
    have : ((q : Int) * 2 ^ k) = ((q * 2 ^ k : Nat) : Int) := by simp
    rw [this]; omega
  rw [e, u64_or_nat _ _ (by omega) (by omega), nat_join k _ _ (Nat.mul_mod_left _ _) h3, nextN_step bs pos c k p x hq hp hk hx, hn]

theorem part_val (x p s : Nat) : IntKind.u64.wrap ((x : Int) * 2 ^ p % 256 / 2 ^ s) = ((x * 2 ^ p % 256 / 2 ^ s : Nat) : Int) := by
  have e : ((x : Int) * 2 ^ p % 256 / 2 ^ s) = ((x * 2 ^ p % 256 / 2 ^ s : Nat) : Int) := by simp
  have h : x * 2 ^ p % 256 / 2 ^ s < 256 := Nat.lt_of_le_of_lt (Nat.div_le_self _ _) (by omega)
  rw [e, IntKind.wrap_u64]
  generalize x * 2 ^ p % 256 / 2 ^ s = y at h
  omega

theorem byteN_in (l : List Bool) (i : Nat) (h : i + 8 ≤ l.length) : byteN l i = num ((l.drop i).take 8) := by
  unfold byteN partN
  congr 1
  apply List.ext_getElem
  · simp; omega
  · intro j h1 h2
    simp only [List.length_map, List.length_range] at h1
    simp only [List.getElem_map, List.getElem_range, List.getElem_take, List.getElem_drop]
    simp [List.getD, List.getElem?_eq_getElem (show i + j < l.length by omega)]

theorem byteN_word (u i : Nat) (h : i < 8) : byteN (bitsOf u 64) (8 * i) = u / 2 ^ (56 - 8 * i) % 256 := by
  have e1 : (bitsOf u 64).drop (8 * i) = bitsOf u (64 - 8 * i) := by
    have := bitsOf_drop u (64 - 8 * i) (8 * i)
    rwa [show 8 * i + (64 - 8 * i) = 64 by omega] at this
  have e2 : (bitsOf u (64 - 8 * i)).take 8 = bitsOf (u / 2 ^ (56 - 8 * i)) 8 := by
    have := bitsOf_take u 8 (56 - 8 * i)
    rwa [show 8 + (56 - 8 * i) = 64 - 8 * i by omega] at this
  rw [byteN_in _ _ (by rw [bitsOf_length]; omega), e1, e2, num_bitsOf]

theorem byteN_byteS (n : Int) (i : Nat) (h : i < 8) : byteS n i = ((byteN (bitsOf (n % 18446744073709551616).toNat 64) (8 * i) : Nat) : Int) := by
  rw [byteN_word _ _ h]
  unfold byteS
  obtain ⟨u, hu⟩ : ∃ u : Nat, (n % 18446744073709551616).toNat = u := ⟨_, rfl⟩
  have hu2 : n % 18446744073709551616 = u := by omega
  rw [hu]
  match i, h with
  | 0, _ => simp; omega
  | 1, _ => simp; omega
  | 2, _ => simp; omega
  | 3, _ => simp; omega
  | 4, _ => simp; omega
  | 5, _ => simp; omega
  | 6, _ => simp; omega
  | 7, _ => simp; omega

theorem bytes_word (n : Int) : [byteS n 0, byteS n 1, byteS n 2, byteS n 3, byteS n 4, byteS n 5, byteS n 6, byteS n 7] = (bytesN (bitsOf (n % 18446744073709551616).toNat 64) 8).map fun (x : Nat) => (x : Int) := by
  have h0 := byteN_byteS n 0 (by omega)
  have h1 := byteN_byteS n 1 (by omega)
  have h2 := byteN_byteS n 2 (by omega)
  have h3 := byteN_byteS n 3 (by omega)
  have h4 := byteN_byteS n 4 (by omega)
  have h5 := byteN_byteS n 5 (by omega)
  have h6 := byteN_byteS n 6 (by omega)
  have h7 := byteN_byteS n 7 (by omega)
  unfold bytesN
  simp only [show List.range 8 = [0, 1, 2, 3, 4, 5, 6, 7] from rfl, List.map_cons, List.map_nil]
  rw [← h0, ← h1, ← h2, ← h3, ← h4, ← h5, ← h6, ← h7]
  rfl

end M
end Go.Proofs.Yticpjkbcchghjaa
