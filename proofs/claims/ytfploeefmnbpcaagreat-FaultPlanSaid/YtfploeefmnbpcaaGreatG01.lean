import Derived.Laws.BitsAllLaws
import Derived.IntWalk
import Derived.Test.YtfploeefmnbpcaaGreatRows
import Derived.WalkKit
import Derived.WalkSpells
import Derived.WalkLawsBesides
import Derived.Handy
import Derived.Lib.Hide
import Derived.Deep.RegionLaw
namespace Go.Proofs.YtfploeefmnbpcaaGreat
namespace M

theorem snoc_ind {α : Type} {P : List α → Prop} (h0 : P []) (h1 : ∀ l a, P l → P (l ++ [a])) (l : List α) : P l := by
  have h : ∀ r : List α, P r.reverse := by
    intro r
    induction r with
    | nil => exact h0
    | cons a r ih => rw [List.reverse_cons]; exact h1 _ _ ih
  have := h l.reverse
  rwa [List.reverse_reverse] at this

/-- The lowest w bits of u, the highest first. -/
def bitsOf (u : Nat) : Nat → List Bool
  | 0 => []
  | w + 1 => bitsOf (u / 2) w ++ [u % 2 == 1]

def step (n : Nat) (b : Bool) : Nat := 2 * n + b.toNat
/-- A number of bits, the highest first. -/
def num (l : List Bool) : Nat := l.foldl step 0

theorem bitsOf_length (u w : Nat) : (bitsOf u w).length = w := by
  induction w generalizing u with
  | zero => rfl
  | succ w ih => simp [bitsOf, ih]

theorem num_snoc (a : List Bool) (b : Bool) : num (a ++ [b]) = 2 * num a + b.toNat := by
  unfold num; rw [List.foldl_append]; rfl

theorem num_append (a b : List Bool) : num (a ++ b) = num a * 2 ^ b.length + num b := by
  refine snoc_ind (P := fun b => num (a ++ b) = num a * 2 ^ b.length + num b) (by simp [num]) ?_ b
  intro l x ih
  rw [← List.append_assoc, num_snoc, ih, num_snoc, List.length_append, List.length_singleton, Nat.pow_succ, ← Nat.mul_assoc]
  omega

theorem num_lt (l : List Bool) : num l < 2 ^ l.length := by
  refine snoc_ind (P := fun l => num l < 2 ^ l.length) (by simp [num]) ?_ l
  intro l b ih
  rw [num_snoc, List.length_append, List.length_singleton, Nat.pow_succ]
  cases b <;> simp <;> omega

theorem num_bitsOf (u w : Nat) : num (bitsOf u w) = u % 2 ^ w := by
  induction w generalizing u with
  | zero => simp [bitsOf, num, Nat.mod_one]
  | succ w ih =>
    rw [bitsOf, num_snoc, ih]
    have h2 : u % (2 ^ (w + 1)) % 2 = u % 2 := by
      rw [Nat.pow_succ]; exact Nat.mod_mul_left_mod u _ 2
    have h3 : u % 2 ^ (w + 1) / 2 = u / 2 % 2 ^ w := by
      rw [Nat.pow_succ, Nat.mul_comm]; exact Nat.mod_mul_right_div_self u 2 (2 ^ w)
    have h4 : (u % 2 == 1).toNat = u % 2 := by
      rcases Nat.mod_two_eq_zero_or_one u with h | h <;> simp [h]
    rw [h4]; omega

theorem bitsOf_num (l : List Bool) : bitsOf (num l) l.length = l := by
  refine snoc_ind (P := fun l => bitsOf (num l) l.length = l) rfl ?_ l
  intro l b ih
  rw [num_snoc, List.length_append, List.length_singleton]
  simp only [bitsOf]
  have h1 : (2 * num l + b.toNat) / 2 = num l := by cases b <;> simp <;> omega
  have h2 : ((2 * num l + b.toNat) % 2 == 1) = b := by cases b <;> simp <;> omega
  rw [h1, h2, ih]

theorem bitsOf_take (u a b : Nat) : (bitsOf u (a + b)).take a = bitsOf (u / 2 ^ b) a := by
  induction b generalizing u with
  | zero => simp [List.take_of_length_le, bitsOf_length]
  | succ b ih =>
    rw [← Nat.add_assoc, bitsOf, List.take_append_of_le_length (by rw [bitsOf_length]; omega), ih, Nat.div_div_eq_div_mul, Nat.pow_succ, Nat.mul_comm 2]

/-- The first j bits from place i on, noughts behind the last, as a number. -/
def partN (l : List Bool) (i j : Nat) : Nat := num ((List.range j).map fun t => l.getD (i + t) false)
/-- Eight of them. -/
def byteN (l : List Bool) (i : Nat) : Nat := partN l i 8
/-- Bits, eight a byte, noughts behind the last. -/
def bytesN (l : List Bool) (r : Nat) : List Nat := (List.range r).map fun j => byteN l (8 * j)

theorem partN_zero (l : List Bool) (i : Nat) : partN l i 0 = 0 := rfl
theorem partN_succ (l : List Bool) (i j : Nat) : partN l i (j + 1) = 2 * partN l i j + (l.getD (i + j) false).toNat := by
  unfold partN
  rw [List.range_succ, List.map_append, List.map_singleton, num_snoc]
theorem partN_lt (l : List Bool) (i j : Nat) : partN l i j < 2 ^ j := by
  have := num_lt ((List.range j).map fun t => l.getD (i + t) false)
  simpa [partN] using this
theorem byteN_lt (l : List Bool) (i : Nat) : byteN l i < 256 := partN_lt l i 8
theorem bytesN_succ (l : List Bool) (r : Nat) : bytesN l (r + 1) = bytesN l r ++ [byteN l (8 * r)] := by
  unfold bytesN; rw [List.range_succ, List.map_append, List.map_singleton]
theorem bytesN_length (l : List Bool) (r : Nat) : (bytesN l r).length = r := by simp [bytesN]

/-- The bits of bytes. -/
def ofN (l : List Nat) : List Bool := l.flatMap fun x => bitsOf x 8
theorem ofN_snoc (l : List Nat) (x : Nat) : ofN (l ++ [x]) = ofN l ++ bitsOf x 8 := by simp [ofN]
theorem ofN_length (l : List Nat) : (ofN l).length = 8 * l.length := by
  induction l with
  | nil => rfl
  | cons a l ih => simp only [ofN, List.flatMap_cons, List.length_append, bitsOf_length, List.length_cons] at ih ⊢; omega

end M
end Go.Proofs.YtfploeefmnbpcaaGreat

/- Plain arithmetic of package zig: what the code's own expressions come to. No Go text here. -/
namespace Go.Proofs.YtfploeefmnbpcaaGreat
namespace M
open Go.RowKit (wrap64)

def zigS (n : Int) : Int := if n < 0 then -2 * n - 1 else 2 * n
def zagS (u : Int) : Int := if u % 2 = 1 then -(u / 2) - 1 else u / 2

theorem zigS_range (n : Int) (h1 : -9223372036854775808 ≤ n) (h2 : n ≤ 9223372036854775807) : 0 ≤ zigS n ∧ zigS n ≤ 18446744073709551615 := by
  unfold zigS; split <;> omega
theorem zagS_range (n : Int) (h1 : 0 ≤ n) (h2 : n ≤ 18446744073709551615) : -9223372036854775808 ≤ zagS n ∧ zagS n ≤ 9223372036854775807 := by
  unfold zagS; split <;> omega
theorem zag_zig (n : Int) : zagS (zigS n) = n := by
  unfold zagS zigS; split <;> split <;> omega
theorem zig_zag (u : Int) (h : 0 ≤ u) : zigS (zagS u) = u := by
  unfold zagS zigS; split <;> split <;> omega

theorem and_ones (w a : Nat) (ha : a < 2 ^ w) : a ^^^ (2 ^ w - 1) = 2 ^ w - 1 - a := by
  have h : BitVec.ofNat w a ^^^ BitVec.allOnes w = ~~~ (BitVec.ofNat w a) := by
    apply BitVec.eq_of_getLsbD_eq; intro i hi; simp [hi]
  have h2 := congrArg BitVec.toNat h
  rw [BitVec.toNat_xor, BitVec.toNat_allOnes, BitVec.toNat_not, BitVec.toNat_ofNat, Nat.mod_eq_of_lt ha] at h2
  exact h2

theorem xor_zero_u64 (a : Int) (h1 : 0 ≤ a) (h2 : a < 18446744073709551616) : bits .xor .u64 a 0 = a := by
  rw [u64_xor a 0 h1 h2 (by omega) (by omega)]; simp; omega
theorem xor_ones_u64 (a : Int) (h1 : 0 ≤ a) (h2 : a < 18446744073709551616) : bits .xor .u64 a 18446744073709551615 = 18446744073709551615 - a := by
  rw [u64_xor a 18446744073709551615 h1 h2 (by omega) (by omega)]
  have h : a.toNat ^^^ (18446744073709551615 : Int).toNat = 18446744073709551615 - a.toNat := and_ones 64 a.toNat (by omega)
  rw [h]; omega

theorem zig_val (n : Int) (h1 : -9223372036854775808 ≤ n) (h2 : n ≤ 9223372036854775807) :
    bits BinOp.xor IntKind.u64 (IntKind.u64.wrap (IntKind.u64.wrap n * 2)) (IntKind.u64.wrap (n / 9223372036854775808)) = zigS n := by
  simp only [IntKind.wrap_u64]
  unfold zigS
  by_cases h : n < 0
  · rw [if_pos h]
    have e1 : n / 9223372036854775808 % 18446744073709551616 = 18446744073709551615 := by omega
    rw [e1, xor_ones_u64 _ (by omega) (by omega)]; omega
  · rw [if_neg h]
    have e1 : n / 9223372036854775808 % 18446744073709551616 = 0 := by omega
    rw [e1, xor_zero_u64 _ (by omega) (by omega)]; omega

theorem i64_xor_zero (a : Int) (h1 : 0 ≤ a) (h2 : a < 9223372036854775808) : bits .xor .i64 a 0 = a := by
  have e : bits .xor .i64 a 0 = IntKind.i64.wrap (BitVec.ofInt 64 a ^^^ BitVec.ofInt 64 0).toNat := rfl
  rw [e]
  obtain ⟨k, rfl⟩ := Int.eq_ofNat_of_zero_le h1
  simp only [BitVec.ofInt_natCast, BitVec.ofInt_ofNat, BitVec.xor_zero, BitVec.toNat_ofNat]
  rw [Nat.mod_eq_of_lt (by omega), IntKind.wrap_i64]; omega
theorem i64_xor_ones (a : Int) (h1 : 0 ≤ a) (h2 : a < 9223372036854775808) : bits .xor .i64 a (-1) = -1 - a := by
  have e : bits .xor .i64 a (-1) = IntKind.i64.wrap (BitVec.ofInt 64 a ^^^ BitVec.ofInt 64 (-1)).toNat := rfl
  rw [e]
  obtain ⟨k, rfl⟩ := Int.eq_ofNat_of_zero_le h1
  have e2 : (BitVec.ofInt 64 (-1)) = BitVec.ofNat 64 18446744073709551615 := by decide
  rw [e2, BitVec.toNat_xor, BitVec.ofInt_natCast, BitVec.toNat_ofNat, BitVec.toNat_ofNat, Nat.mod_eq_of_lt (by omega)]
  have h : k ^^^ (18446744073709551615 % 2 ^ 64) = 18446744073709551615 - k := and_ones 64 k (by omega)
  rw [h, IntKind.wrap_i64]; omega

theorem zag_val (n : Int) (h1 : 0 ≤ n) (h2 : n ≤ 18446744073709551615) :
    bits BinOp.xor IntKind.i64 (n / 2) (wrap64 (-wrap64 (bits BinOp.and IntKind.u64 n 1))) = zagS n := by
  have e : bits BinOp.and IntKind.u64 n 1 = n % 2 := by
    rw [u64_and n 1 h1 (by omega) (by omega) (by omega)]
    show ((n.toNat &&& 1 : Nat) : Int) = _
    rw [nat_mask1]; omega
  rw [e]
  unfold zagS
  by_cases h : n % 2 = 1
  · rw [if_pos h, h]
    have : wrap64 (-wrap64 1) = -1 := by unfold wrap64; decide
    rw [this, i64_xor_ones _ (by omega) (by omega)]; omega
  · rw [if_neg h, show n % 2 = 0 by omega]
    have : wrap64 (-wrap64 0) = 0 := by unfold wrap64; decide
    rw [this, i64_xor_zero _ (by omega) (by omega)]

/-- The lowest w bits of n, as a number of two's complement (w 1 to 64; else 0). -/
def narrowS (n w : Int) : Int := if w < 1 ∨ 64 < w then 0 else (n + 2 ^ (w.toNat - 1)) % 2 ^ w.toNat - 2 ^ (w.toNat - 1)

theorem two_pow_pos (k : Nat) : (0 : Int) < 2 ^ k := Int.pow_pos (by decide)
theorem two_pow_mono {a b : Nat} (h : a ≤ b) : (2 : Int) ^ a ≤ 2 ^ b := by
  have := Nat.pow_le_pow_right (n := 2) (by omega) h
  exact_mod_cast this

theorem narrow_val (n w : Int) (h1 : 1 ≤ w) (h2 : w ≤ 64) :
    wrap64 (n * 2 ^ (64 - w).toNat) / 2 ^ (64 - w).toNat = narrowS n w := by
  unfold narrowS wrap64
  rw [if_neg (by omega)]
  obtain ⟨k, hk⟩ : ∃ k : Nat, w.toNat = k + 1 := ⟨w.toNat - 1, by omega⟩
  obtain ⟨r, hr⟩ : ∃ r : Nat, (64 - w).toNat = r := ⟨_, rfl⟩
  have hkr : k + r = 63 := by omega
  rw [hr, hk, Nat.add_sub_cancel]
  have e63 : (9223372036854775808 : Int) = 2 ^ k * 2 ^ r := by rw [← Int.pow_add, hkr]; rfl
  have e64 : (18446744073709551616 : Int) = 2 ^ (k + 1) * 2 ^ r := by rw [← Int.pow_add, show k + 1 + r = 64 by omega]; rfl
  have hp := two_pow_pos r
  rw [e63, e64, ← Int.add_mul, Int.mul_comm _ (2 ^ r), Int.mul_comm (2 ^ (k + 1)) (2 ^ r), Int.mul_emod_mul_of_pos _ _ hp, Int.mul_comm (2 ^ k) (2 ^ r), ← Int.mul_sub, Int.mul_ediv_cancel_left _ (by omega)]

theorem narrowS_range (n w : Int) : -9223372036854775808 ≤ narrowS n w ∧ narrowS n w ≤ 9223372036854775807 := by
  unfold narrowS
  split
  · omega
  · obtain ⟨k, hk⟩ : ∃ k : Nat, w.toNat = k + 1 := ⟨w.toNat - 1, by omega⟩
    rw [hk, Nat.add_sub_cancel, Int.pow_succ]
    have hp := two_pow_pos k
    have h2 : (2 : Int) ^ k ≤ 2 ^ 63 := two_pow_mono (by omega)
    have h3 : (2 : Int) ^ 63 = 9223372036854775808 := rfl
    have := Int.emod_nonneg (n + 2 ^ k) (b := 2 ^ k * 2) (by omega)
    have := Int.emod_lt_of_pos (n + 2 ^ k) (b := 2 ^ k * 2) (by omega)
    omega

/-- u turned to the left by k bits, k from 0 to 31. -/
def turnS (u k : Int) : Int := u * 2 ^ k.toNat % 4294967296 + u / 2 ^ (32 - k).toNat

theorem and31 (b : Int) : bits BinOp.and IntKind.u64 (IntKind.u64.wrap b) 31 = b % 32 := by
  rw [IntKind.wrap_u64, u64_and _ 31 (by omega) (by omega) (by omega) (by omega)]
  show (((b % 18446744073709551616).toNat &&& 31 : Nat) : Int) = _
  rw [nat_mask5]; omega

theorem turn_val (u k : Int) (h1 : 0 ≤ u) (h2 : u ≤ 4294967295) (hk0 : 0 ≤ k) (hk1 : k ≤ 31) :
    bits BinOp.or IntKind.u32 (u * 2 ^ k.toNat % 4294967296) (u / 2 ^ (32 - k).toNat) = turnS u k := by
  unfold turnS
  obtain ⟨U, rfl⟩ := Int.eq_ofNat_of_zero_le h1
  obtain ⟨K, rfl⟩ := Int.eq_ofNat_of_zero_le hk0
  obtain ⟨r, hr⟩ : ∃ r : Nat, (32 - (K : Int)).toNat = r := ⟨_, rfl⟩
  have hkr : K + r = 32 := by omega
  rw [hr, Int.toNat_natCast]
  have e32 : (4294967296 : Nat) = 2 ^ K * 2 ^ r := by rw [← Nat.pow_add, hkr]
  have c1 : ((U : Int) * 2 ^ K % 4294967296) = ((U * 2 ^ K % 4294967296 : Nat) : Int) := by simp
  have c2 : ((U : Int) / 2 ^ r) = ((U / 2 ^ r : Nat) : Int) := by simp
  have hU : U < 4294967296 := by omega
  have hd : U / 2 ^ r < 2 ^ K := Nat.div_lt_of_lt_mul (by rw [Nat.mul_comm, ← e32]; exact hU)
  have hK : 2 ^ K ≤ 2 ^ 31 := Nat.pow_le_pow_right (by omega) (by omega)
  have hm : U * 2 ^ K % 4294967296 % 2 ^ K = 0 := by
    rw [e32, Nat.mod_mul_right_mod, Nat.mul_mod_left]
  rw [c1, c2, u32_or_nat _ _ (by omega) (by omega), nat_join K _ _ hm hd]
  simp

/-- The i-th byte of n's sixty-four bits, the highest first. -/
def byteS (n i : Int) : Int := n / 2 ^ (56 - 8 * i).toNat % 256
theorem byteS_range (n i : Int) : 0 ≤ byteS n i ∧ byteS n i < 256 := by unfold byteS; omega

theorem byte_vals (n : Int) :
    IntKind.u64.wrap n / 72057594037927936 % 256 = byteS n 0 ∧ IntKind.u64.wrap n / 281474976710656 % 256 = byteS n 1 ∧
    IntKind.u64.wrap n / 1099511627776 % 256 = byteS n 2 ∧ IntKind.u64.wrap n / 4294967296 % 256 = byteS n 3 ∧
    IntKind.u64.wrap n / 16777216 % 256 = byteS n 4 ∧ IntKind.u64.wrap n / 65536 % 256 = byteS n 5 ∧
    IntKind.u64.wrap n / 256 % 256 = byteS n 6 ∧ IntKind.u64.wrap n % 256 = byteS n 7 := by
  simp only [IntKind.wrap_u64]
  have e0 : byteS n 0 = n / 72057594037927936 % 256 := rfl
  have e1 : byteS n 1 = n / 281474976710656 % 256 := rfl
  have e2 : byteS n 2 = n / 1099511627776 % 256 := rfl
  have e3 : byteS n 3 = n / 4294967296 % 256 := rfl
  have e4 : byteS n 4 = n / 16777216 % 256 := rfl
  have e5 : byteS n 5 = n / 65536 % 256 := rfl
  have e6 : byteS n 6 = n / 256 % 256 := rfl
  have e7 : byteS n 7 = n / 1 % 256 := rfl
  rw [e0, e1, e2, e3, e4, e5, e6, e7]
  omega

theorem or_step (a b : Int) (h1 : 0 ≤ a) (h2 : a < 72057594037927936) (h3 : 0 ≤ b) (h4 : b < 256) :
    bits BinOp.or IntKind.u64 (IntKind.u64.wrap (a * 256)) (IntKind.u64.wrap b) = a * 256 + b := by
  simp only [IntKind.wrap_u64]
  rw [show a * 256 % 18446744073709551616 = a * 256 by omega, show b % 18446744073709551616 = b by omega]
  rw [u64_or _ _ (by omega) (by omega) (by omega) (by omega), nat_join 8 _ _ (by omega) (by omega)]
  omega

def of8N (b0 b1 b2 b3 b4 b5 b6 b7 : Int) : Int := ((((((b0 * 256 + b1) * 256 + b2) * 256 + b3) * 256 + b4) * 256 + b5) * 256 + b6) * 256 + b7

theorem of8_val (b0 b1 b2 b3 b4 b5 b6 b7 : Int) (h0 : 0 ≤ b0 ∧ b0 < 256) (h1 : 0 ≤ b1 ∧ b1 < 256) (h2 : 0 ≤ b2 ∧ b2 < 256) (h3 : 0 ≤ b3 ∧ b3 < 256)
    (h4 : 0 ≤ b4 ∧ b4 < 256) (h5 : 0 ≤ b5 ∧ b5 < 256) (h6 : 0 ≤ b6 ∧ b6 < 256) (h7 : 0 ≤ b7 ∧ b7 < 256) :
    bits BinOp.or IntKind.u64 (IntKind.u64.wrap (bits BinOp.or IntKind.u64 (IntKind.u64.wrap (bits BinOp.or IntKind.u64 (IntKind.u64.wrap (bits BinOp.or IntKind.u64
      (IntKind.u64.wrap (bits BinOp.or IntKind.u64 (IntKind.u64.wrap (bits BinOp.or IntKind.u64 (IntKind.u64.wrap (bits BinOp.or IntKind.u64 (IntKind.u64.wrap
      (bits BinOp.or IntKind.u64 0 (IntKind.u64.wrap b0) * 256)) (IntKind.u64.wrap b1) * 256)) (IntKind.u64.wrap b2) * 256)) (IntKind.u64.wrap b3) * 256))
      (IntKind.u64.wrap b4) * 256)) (IntKind.u64.wrap b5) * 256)) (IntKind.u64.wrap b6) * 256)) (IntKind.u64.wrap b7) = of8N b0 b1 b2 b3 b4 b5 b6 b7 := by
  have e0 : bits BinOp.or IntKind.u64 0 (IntKind.u64.wrap b0) = b0 := by
    have := or_step 0 b0 (by omega) (by omega) (by omega) (by omega)
    simpa [IntKind.wrap_u64] using this
  rw [e0, or_step _ b1 (by omega) (by omega) (by omega) (by omega), or_step _ b2 (by omega) (by omega) (by omega) (by omega),
    or_step _ b3 (by omega) (by omega) (by omega) (by omega), or_step _ b4 (by omega) (by omega) (by omega) (by omega),
    or_step _ b5 (by omega) (by omega) (by omega) (by omega), or_step _ b6 (by omega) (by omega) (by omega) (by omega),
    or_step _ b7 (by omega) (by omega) (by omega) (by omega)]
  rfl

theorem of8_bytes (n : Int) (h1 : -9223372036854775808 ≤ n) (h2 : n ≤ 9223372036854775807) :
    wrap64 (of8N (byteS n 0) (byteS n 1) (byteS n 2) (byteS n 3) (byteS n 4) (byteS n 5) (byteS n 6) (byteS n 7)) = n := by
  have e0 : byteS n 0 = n / 72057594037927936 % 256 := rfl
  have e1 : byteS n 1 = n / 281474976710656 % 256 := rfl
  have e2 : byteS n 2 = n / 1099511627776 % 256 := rfl
  have e3 : byteS n 3 = n / 4294967296 % 256 := rfl
  have e4 : byteS n 4 = n / 16777216 % 256 := rfl
  have e5 : byteS n 5 = n / 65536 % 256 := rfl
  have e6 : byteS n 6 = n / 256 % 256 := rfl
  have e7 : byteS n 7 = n / 1 % 256 := rfl
  rw [e0, e1, e2, e3, e4, e5, e6, e7]
  unfold wrap64 of8N
  omega

theorem bytes_of8 (b0 b1 b2 b3 b4 b5 b6 b7 : Int) (h0 : 0 ≤ b0 ∧ b0 < 256) (h1 : 0 ≤ b1 ∧ b1 < 256) (h2 : 0 ≤ b2 ∧ b2 < 256) (h3 : 0 ≤ b3 ∧ b3 < 256)
    (h4 : 0 ≤ b4 ∧ b4 < 256) (h5 : 0 ≤ b5 ∧ b5 < 256) (h6 : 0 ≤ b6 ∧ b6 < 256) (h7 : 0 ≤ b7 ∧ b7 < 256) (n : Int) (hn : n = wrap64 (of8N b0 b1 b2 b3 b4 b5 b6 b7)) :
    byteS n 0 = b0 ∧ byteS n 1 = b1 ∧ byteS n 2 = b2 ∧ byteS n 3 = b3 ∧ byteS n 4 = b4 ∧ byteS n 5 = b5 ∧ byteS n 6 = b6 ∧ byteS n 7 = b7 := by
  have e0 : byteS n 0 = n / 72057594037927936 % 256 := rfl
  have e1 : byteS n 1 = n / 281474976710656 % 256 := rfl
  have e2 : byteS n 2 = n / 1099511627776 % 256 := rfl
  have e3 : byteS n 3 = n / 4294967296 % 256 := rfl
  have e4 : byteS n 4 = n / 16777216 % 256 := rfl
  have e5 : byteS n 5 = n / 65536 % 256 := rfl
  have e6 : byteS n 6 = n / 256 % 256 := rfl
  have e7 : byteS n 7 = n / 1 % 256 := rfl
  rw [e0, e1, e2, e3, e4, e5, e6, e7]
  have hN : ∃ e : Int, n = of8N b0 b1 b2 b3 b4 b5 b6 b7 - 18446744073709551616 * e := by
    rw [hn]; unfold wrap64
    exact ⟨(of8N b0 b1 b2 b3 b4 b5 b6 b7 + 9223372036854775808) / 18446744073709551616, by omega⟩
  obtain ⟨e, he⟩ := hN
  clear e0 e1 e2 e3 e4 e5 e6 e7 hn
  have d7 : n / 256 = (((((b0 * 256 + b1) * 256 + b2) * 256 + b3) * 256 + b4) * 256 + b5) * 256 + b6 - 72057594037927936 * e ∧ n % 256 = b7 := by unfold of8N at he; omega
  have d6 : n / 65536 = ((((b0 * 256 + b1) * 256 + b2) * 256 + b3) * 256 + b4) * 256 + b5 - 281474976710656 * e ∧ n / 256 % 256 = b6 := by rw [d7.1]; clear he; omega
  have d5 : n / 16777216 = (((b0 * 256 + b1) * 256 + b2) * 256 + b3) * 256 + b4 - 1099511627776 * e ∧ n / 65536 % 256 = b5 := by
    clear d7; have := d6.1; clear he; omega
  have d4 : n / 4294967296 = ((b0 * 256 + b1) * 256 + b2) * 256 + b3 - 4294967296 * e ∧ n / 16777216 % 256 = b4 := by
    clear d7 d6; have := d5.1; clear he; omega
  have d3 : n / 1099511627776 = (b0 * 256 + b1) * 256 + b2 - 16777216 * e ∧ n / 4294967296 % 256 = b3 := by
    clear d7 d6 d5; have := d4.1; clear he; omega
  have d2 : n / 281474976710656 = b0 * 256 + b1 - 65536 * e ∧ n / 1099511627776 % 256 = b2 := by
    clear d7 d6 d5 d4; have := d3.1; clear he; omega
  have d1 : n / 72057594037927936 = b0 - 256 * e ∧ n / 281474976710656 % 256 = b1 := by
    clear d7 d6 d5 d4 d3; have := d2.1; clear he; omega
  have d0 : n / 72057594037927936 % 256 = b0 := by rw [d1.1]; clear he; omega
  exact ⟨d0, d1.2, d2.2, d3.2, d4.2, d5.2, d6.2, by rw [Int.ediv_one]; exact d7.2⟩

/-- A list of bits as a number of two's complement. -/
def sgn : List Bool → Int
  | [] => 0
  | b :: l => (num (b :: l) : Int) - (b.toNat : Int) * 2 ^ (l.length + 1)

theorem sgn_cons (b : Bool) (l : List Bool) : sgn (b :: l) = (num l : Int) - (b.toNat : Int) * 2 ^ l.length := by
  show (num (b :: l) : Int) - (b.toNat : Int) * 2 ^ (l.length + 1) = _
  have h : num (b :: l) = b.toNat * 2 ^ l.length + num l := by
    have := num_append [b] l
    simpa [num, step] using this
  rw [h, Int.pow_succ]
  cases b
  · simp
  · simp; omega

theorem sgn_snoc (l : List Bool) (x : Bool) (h : l ≠ []) : sgn (l ++ [x]) = 2 * sgn l + (x.toNat : Int) := by
  cases l with
  | nil => exact absurd rfl h
  | cons b l =>
    rw [List.cons_append, sgn_cons, sgn_cons, num_snoc, List.length_append, List.length_singleton, Int.pow_succ]
    cases b
    · simp
    · simp; omega

theorem sgn_range (l : List Bool) : -(2 ^ (l.length - 1)) ≤ sgn l ∧ sgn l < 2 ^ (l.length - 1) := by
  cases l with
  | nil => simp [sgn]
  | cons b l =>
    rw [sgn_cons, List.length_cons, Nat.add_sub_cancel]
    have h := num_lt l
    have h2 : ((num l : Nat) : Int) < 2 ^ l.length := by
      have : ((num l : Nat) : Int) < ((2 ^ l.length : Nat) : Int) := by omega
      simpa using this
    cases b <;> simp <;> omega

theorem bitsOf_cons (u w : Nat) : bitsOf u (w + 1) = (u / 2 ^ w % 2 == 1) :: bitsOf u w := by
  induction w generalizing u with
  | zero => simp [bitsOf]
  | succ w ih =>
    rw [bitsOf, ih]
    have : u / 2 / 2 ^ w = u / 2 ^ (w + 1) := by rw [Nat.div_div_eq_div_mul, Nat.pow_succ, Nat.mul_comm]
    rw [this]
    rfl

theorem bitsOf_drop (u w k : Nat) : (bitsOf u (k + w)).drop k = bitsOf u w := by
  induction k with
  | zero => simp
  | succ k ih =>
    rw [show k + 1 + w = (k + w) + 1 by omega, bitsOf_cons, List.drop_succ_cons, ih]

theorem narrow_sgn (n : Int) (w : Nat) (h1 : 1 ≤ w) (h2 : w ≤ 64) : sgn (bitsOf (n % 18446744073709551616).toNat w) = narrowS n w := by
  obtain ⟨k, rfl⟩ : ∃ k, w = k + 1 := ⟨w - 1, by omega⟩
  rw [bitsOf_cons, sgn_cons, num_bitsOf, bitsOf_length]
  unfold narrowS
  rw [if_neg (by omega), Int.toNat_natCast, Nat.add_sub_cancel, Int.pow_succ]
  have hp := two_pow_pos k
  have e64 : (18446744073709551616 : Int) = 2 ^ k * 2 * 2 ^ (63 - k) := by
    rw [← Int.pow_succ, ← Int.pow_add, show k + 1 + (63 - k) = 64 by omega]; rfl
  have hpn : ((2 ^ k : Nat) : Int) = 2 ^ k := by simp
  have hu : ((n % 18446744073709551616).toNat : Int) = n % 18446744073709551616 := by omega
  generalize (n % 18446744073709551616).toNat = u at hu
  have hmod : (u : Int) % (2 ^ k * 2) = n % (2 ^ k * 2) := by
    rw [hu, e64, Int.emod_emod_of_dvd _ (Int.dvd_mul_right _ _)]
  generalize hP : (2 : Int) ^ k = P at *
  have hd : ((u / 2 ^ k : Nat) : Int) = (u : Int) / P := by rw [Int.natCast_ediv, hpn]
  have hm : ((u % 2 ^ k : Nat) : Int) = (u : Int) % P := by rw [Int.natCast_emod, hpn]
  have a1 := Int.emod_add_mul_ediv (u : Int) (P * 2)
  have a2 := Int.emod_nonneg (u : Int) (b := P * 2) (by omega)
  have a3 := Int.emod_lt_of_pos (u : Int) (b := P * 2) (by omega)
  generalize hx : (u : Int) % (P * 2) = x at *
  generalize hy : (u : Int) / (P * 2) = y at *
  have hup : (u : Int) = x + P * (2 * y) := by rw [← a1, Int.mul_assoc]
  have q1 : (u : Int) % P = x % P := by rw [hup, Int.add_mul_emod_self_left]
  have q2 : (u : Int) / P = x / P + 2 * y := by rw [hup, Int.add_mul_ediv_left _ _ (by omega)]
  have n1 : (n + P) % (P * 2) = (x + P) % (P * 2) := by rw [← Int.emod_add_emod, ← hmod]
  rw [n1, hm, q1]
  by_cases hc : x < P
  · have t : x / P = 0 := Int.ediv_eq_zero_of_lt a2 hc
    have : (u / 2 ^ k % 2 == 1) = false := by
      rw [t] at q2; simp only [beq_eq_false_iff_ne]; omega
    rw [this, Int.emod_eq_of_lt a2 hc, Int.emod_eq_of_lt (by omega) (by omega)]; simp
  · have t : x / P = 1 := by
      have := Int.ediv_emod_unique (a := x) (b := P) (r := x - P) (q := 1) (by omega)
      exact (this.2 ⟨by omega, by omega, by omega⟩).1
    have t2 : x % P = x - P := by
      have := Int.ediv_emod_unique (a := x) (b := P) (r := x - P) (q := 1) (by omega)
      exact (this.2 ⟨by omega, by omega, by omega⟩).2
    have : (u / 2 ^ k % 2 == 1) = true := by
      rw [t] at q2; simp only [beq_iff_eq]; omega
    have t3 : (x + P) % (P * 2) = x - P := by
      have e : x + P = (x - P) + P * 2 * 1 := by omega
      rw [e, Int.add_mul_emod_self_left, Int.emod_eq_of_lt (by omega) (by omega)]
    rw [this, t2, t3]; simp

theorem sgn_take (l : List Bool) (k : Nat) (h : k < l.length) (h0 : 0 < k) : sgn (l.take (k + 1)) = 2 * sgn (l.take k) + ((l[k]).toNat : Int) := by
  rw [List.take_succ_eq_append_getElem h, sgn_snoc]
  intro e
  have e2 := congrArg List.length e
  rw [List.length_take, Nat.min_eq_left (by omega), List.length_nil] at e2
  omega
theorem sgn_one (l : List Bool) (h : 0 < l.length) : sgn (l.take 1) = -((l[0]).toNat : Int) := by
  rw [List.take_succ_eq_append_getElem h]
  simp only [List.take_zero, List.nil_append]
  rw [sgn_cons]
  simp [num]
theorem sgn_small (l : List Bool) (k : Nat) (hk : k ≤ 63) : -4611686018427387904 ≤ sgn (l.take k) ∧ sgn (l.take k) ≤ 4611686018427387903 := by
  have h := sgn_range (l.take k)
  rw [List.length_take] at h
  have h2 : (2 : Int) ^ (min k l.length - 1) ≤ 2 ^ 62 := two_pow_mono (by omega)
  have h3 : (2 : Int) ^ 62 = 4611686018427387904 := rfl
  omega

theorem turn_num (u m : Nat) (hu : u < 4294967296) (hm : m ≤ 31) : (num ((bitsOf u 32).drop m ++ (bitsOf u 32).take m) : Int) = turnS u m ∧ num ((bitsOf u 32).drop m ++ (bitsOf u 32).take m) < 4294967296 := by
  have e1 : (bitsOf u 32).drop m = bitsOf u (32 - m) := by
    have := bitsOf_drop u (32 - m) m
    rwa [show m + (32 - m) = 32 by omega] at this
  have e2 : (bitsOf u 32).take m = bitsOf (u / 2 ^ (32 - m)) m := by
    have := bitsOf_take u m (32 - m)
    rwa [show m + (32 - m) = 32 by omega] at this
  have e3 : (2 : Nat) ^ 32 = 2 ^ (32 - m) * 2 ^ m := by rw [← Nat.pow_add]; congr 1; omega
  have e4 : u / 2 ^ (32 - m) < 2 ^ m := Nat.div_lt_of_lt_mul (by rw [← e3]; exact hu)
  have e5 : u * 2 ^ m % 4294967296 = u % 2 ^ (32 - m) * 2 ^ m := by
    rw [show 4294967296 = 2 ^ (32 - m) * 2 ^ m from e3, Nat.mul_mod_mul_right]
  have e6 : num (bitsOf u (32 - m) ++ bitsOf (u / 2 ^ (32 - m)) m) = u * 2 ^ m % 4294967296 + u / 2 ^ (32 - m) := by
    rw [num_append, num_bitsOf, num_bitsOf, bitsOf_length, Nat.mod_eq_of_lt e4, e5]
  have hlt := num_lt ((bitsOf u 32).drop m ++ (bitsOf u 32).take m)
  rw [List.length_append, List.length_drop, List.length_take, bitsOf_length, show 32 - m + min m 32 = 32 by omega] at hlt
  refine ⟨?_, hlt⟩
  rw [e1, e2, e6]
  unfold turnS
  rw [Int.toNat_natCast, show (32 - (m : Int)).toNat = 32 - m by omega]
  simp

theorem narrow_fit (m w : Int) (h1 : 1 ≤ w) (h2 : w ≤ 64) (h3 : -(2 ^ (w.toNat - 1)) ≤ m) (h4 : m < 2 ^ (w.toNat - 1)) : narrowS m w = m := by
  unfold narrowS
  rw [if_neg (by omega)]
  obtain ⟨k, hk⟩ : ∃ k : Nat, w.toNat = k + 1 := ⟨w.toNat - 1, by omega⟩
  rw [hk, Nat.add_sub_cancel] at h3 h4 ⊢
  rw [Int.pow_succ, Int.emod_eq_of_lt (by omega) (by omega)]; omega
theorem narrow_in (n w : Int) (h1 : 1 ≤ w) (h2 : w ≤ 64) : -(2 ^ (w.toNat - 1)) ≤ narrowS n w ∧ narrowS n w < 2 ^ (w.toNat - 1) := by
  unfold narrowS
  rw [if_neg (by omega)]
  obtain ⟨k, hk⟩ : ∃ k : Nat, w.toNat = k + 1 := ⟨w.toNat - 1, by omega⟩
  rw [hk, Nat.add_sub_cancel, Int.pow_succ]
  have hp := two_pow_pos k
  have := Int.emod_nonneg (n + 2 ^ k) (b := 2 ^ k * 2) (by omega)
  have := Int.emod_lt_of_pos (n + 2 ^ k) (b := 2 ^ k * 2) (by omega)
  omega
theorem narrow_again (n w : Int) (h1 : 1 ≤ w) (h2 : w ≤ 64) : narrowS (narrowS n w) w = narrowS n w :=
  narrow_fit _ w h1 h2 (narrow_in n w h1 h2).1 (narrow_in n w h1 h2).2
theorem narrow_more (n w : Int) (h1 : 1 ≤ w) (h2 : w < 64) : narrowS (narrowS n w) (w + 1) = narrowS n w := by
  obtain ⟨a, b⟩ := narrow_in n w h1 (by omega)
  have e : (2 : Int) ^ (w.toNat - 1) ≤ 2 ^ ((w + 1).toNat - 1) := two_pow_mono (by omega)
  exact narrow_fit _ (w + 1) (by omega) (by omega) (by omega) (by omega)
theorem narrow_half (w : Int) (h1 : 1 ≤ w) (h2 : w ≤ 64) : narrowS (2 ^ (w.toNat - 1)) w = -(2 ^ (w.toNat - 1)) := by
  unfold narrowS
  rw [if_neg (by omega)]
  obtain ⟨k, hk⟩ : ∃ k : Nat, w.toNat = k + 1 := ⟨w.toNat - 1, by omega⟩
  rw [hk, Nat.add_sub_cancel, Int.pow_succ, show (2 : Int) ^ k + 2 ^ k = 2 ^ k * 2 by omega, Int.emod_self]; omega

def rotL (m : Nat) (L : List Bool) : List Bool := L.drop m ++ L.take m
theorem rotL_length (m : Nat) (L : List Bool) (h : m ≤ L.length) : (rotL m L).length = L.length := by
  unfold rotL; rw [List.length_append, List.length_drop, List.length_take]; omega
theorem rotL_get (m i : Nat) (L : List Bool) (hL : L.length = 32) (hm : m ≤ 31) (hi : i < 32) : (rotL m L)[i]? = L[(i + m) % 32]? := by
  unfold rotL
  by_cases h : i < 32 - m
  · rw [List.getElem?_append_left (by rw [List.length_drop, hL]; exact h), List.getElem?_drop, Nat.mod_eq_of_lt (by omega), Nat.add_comm]
  · rw [List.getElem?_append_right (by rw [List.length_drop, hL]; omega), List.length_drop, hL, List.getElem?_take, if_pos (by omega)]
    congr 1; omega
theorem rotL_rotL (m k : Nat) (L : List Bool) (hL : L.length = 32) (hm : m ≤ 31) (hk : k ≤ 31) : rotL k (rotL m L) = rotL ((m + k) % 32) L := by
  have h1 : (rotL m L).length = 32 := by rw [rotL_length _ _ (by omega), hL]
  apply List.ext_getElem?
  intro i
  by_cases hi : i < 32
  · rw [rotL_get k i _ h1 hk hi, rotL_get m _ L hL hm (by omega), rotL_get _ i L hL (by omega) hi]
    congr 1; omega
  · rw [List.getElem?_eq_none (by rw [rotL_length _ _ (by omega), h1]; omega), List.getElem?_eq_none (by rw [rotL_length _ _ (by omega), hL]; omega)]
theorem turn_rot (u m : Nat) (hu : u < 4294967296) (hm : m ≤ 31) : turnS u m = (num (rotL m (bitsOf u 32)) : Int) ∧ num (rotL m (bitsOf u 32)) < 4294967296 := by
  obtain ⟨h1, h2⟩ := turn_num u m hu hm
  exact ⟨h1.symm, h2⟩
theorem turn_turn (u : Nat) (a b : Int) (hu : u < 4294967296) : turnS (turnS u (a % 32)) (b % 32) = turnS u ((a + b) % 32) := by
  obtain ⟨m, hm, hm2⟩ : ∃ m : Nat, a % 32 = m ∧ m ≤ 31 := ⟨(a % 32).toNat, by omega, by omega⟩
  obtain ⟨k, hk, hk2⟩ : ∃ k : Nat, b % 32 = k ∧ k ≤ 31 := ⟨(b % 32).toNat, by omega, by omega⟩
  have hs : (a + b) % 32 = (((m + k) % 32 : Nat) : Int) := by omega
  obtain ⟨e1, l1⟩ := turn_rot u m hu hm2
  have hb : bitsOf (num (rotL m (bitsOf u 32))) 32 = rotL m (bitsOf u 32) := by
    have h := bitsOf_num (rotL m (bitsOf u 32))
    rwa [rotL_length _ _ (by rw [bitsOf_length]; omega), bitsOf_length] at h
  rw [hm, hk, hs, e1, (turn_rot _ k l1 hk2).1, hb, rotL_rotL m k _ (bitsOf_length _ _) hm2 hk2, (turn_rot u _ hu (by omega)).1]
theorem turnS_range (u k : Int) (h1 : 0 ≤ u) (h2 : u ≤ 4294967295) : 0 ≤ turnS u (k % 32) ∧ turnS u (k % 32) ≤ 4294967295 := by
  obtain ⟨U, rfl⟩ := Int.eq_ofNat_of_zero_le h1
  obtain ⟨m, hm, hm2⟩ : ∃ m : Nat, k % 32 = m ∧ m ≤ 31 := ⟨(k % 32).toNat, by omega, by omega⟩
  rw [hm]
  obtain ⟨e1, l1⟩ := turn_rot U m (by omega) hm2
  rw [e1]; omega

/-- How many of the lowest k bits are set. -/
def cnt (x : Nat) : Nat → Nat
  | 0 => 0
  | k + 1 => cnt x k + x / 2 ^ k % 2
theorem cnt_le (x k : Nat) : cnt x k ≤ k := by
  induction k with
  | zero => exact Nat.le_refl _
  | succ k ih => rw [cnt]; omega
theorem cnt_count (x k : Nat) : cnt x k = (bitsOf x k).count true := by
  induction k with
  | zero => rfl
  | succ k ih =>
    rw [cnt, bitsOf_cons, List.count_cons, ih]
    rcases Nat.mod_two_eq_zero_or_one (x / 2 ^ k) with h | h <;> simp [h]
theorem turnS_nat (u m : Nat) (hu : u < 4294967296) (hm : m ≤ 31) : ∃ A : Nat, turnS u m = A ∧ A < 4294967296 ∧ bitsOf A 32 = rotL m (bitsOf u 32) := by
  obtain ⟨e1, l1⟩ := turn_rot u m hu hm
  refine ⟨_, e1, l1, ?_⟩
  have h := bitsOf_num (rotL m (bitsOf u 32))
  rwa [rotL_length _ _ (by rw [bitsOf_length]; omega), bitsOf_length] at h
theorem cnt_rot (A u m : Nat) (h : bitsOf A 32 = rotL m (bitsOf u 32)) : cnt A 32 = cnt u 32 := by
  rw [cnt_count, cnt_count, h]
  unfold rotL
  rw [List.count_append, Nat.add_comm, ← List.count_append, List.take_append_drop]
theorem turnS_zero (u : Int) (h1 : 0 ≤ u) (h2 : u ≤ 4294967295) : turnS u 0 = u := by
  unfold turnS
  show u * 2 ^ 0 % 4294967296 + u / 2 ^ 32 = u
  have : (2 : Int) ^ 32 = 4294967296 := rfl
  rw [this, Int.pow_zero]; omega
theorem bit_and (A k : Nat) (h : A < 4294967296) : bits BinOp.and IntKind.u32 ((A : Int) / 2 ^ k) 1 = ((A / 2 ^ k % 2 : Nat) : Int) := by
  have e : ((A : Int) / 2 ^ k) = ((A / 2 ^ k : Nat) : Int) := by simp
  have h1 : A / 2 ^ k < 4294967296 := Nat.lt_of_le_of_lt (Nat.div_le_self _ _) h
  rw [e, show (1 : Int) = ((1 : Nat) : Int) from rfl, u32_and_nat _ _ h1 (by omega), nat_mask1]

end M
end Go.Proofs.YtfploeefmnbpcaaGreat

/- The reference's functions on numbers: what each call answers. -/
namespace Go.Proofs.YtfploeefmnbpcaaGreat
open Go.RowKit

theorem ret_int {k : IntKind} {a b : Int} (h : a = b) : Ending.returned (.int k a) = .returned (.int k b) := by rw [h]
set_option maxHeartbeats 400000 in
theorem pow_any (n : Int) (w : World) (h1 : 0 ≤ n) (h2 : n ≤ 63) :
    Calls Tryz.prog 57 #[.int .i64 n] w fun e w' => e = .returned (.int .u64 (2 ^ n.toNat : Nat)) ∧ w = w' := by
  obtain ⟨m, rfl⟩ := Int.eq_ofNat_of_zero_le h1
  have hp : ∀ k : Nat, k < m → (2 : Nat) ^ k * 2 < 18446744073709551616 := by
    intro k hk
    have h := Nat.pow_le_pow_right (n := 2) (by omega) (show k + 1 ≤ 63 by omega)
    rw [Nat.pow_succ] at h
    omega
  go_enter Tryz.func57, Tryz.ntmps57
  go_wp2
  go_loop [3, 4] (fun p i => ∃ k q : Nat, k ≤ m ∧ i = .int .i64 k ∧ p = .int .u64 q ∧ Hid (q = 2 ^ k)) (fun _ i => m - (intOf i).toNat)
  case atStart => exact ⟨0, 1, Nat.zero_le _, rfl, rfl, rfl⟩
  case round =>
    obtain ⟨k, q, hk, rfl, rfl, hq⟩ := hrel
    by_cases hlt : k < m
    · have hb : (q : Int) * 2 < 18446744073709551616 := by have := hp k hlt; rw [← hq.out] at this; omega
      have hm : m ≤ 63 := by omega
      clear hp
      go_wp2
      go_round
      case rel => exact ⟨k + 1, q * 2, by omega, by go_num, by  rw [Int.natCast_mul]; rfl, by show q * 2 = 2 ^ (k + 1); rw [hq.out, Nat.pow_succ]⟩
      case measure => simp [intOf]; omega
    · clear hp
      go_wp2
      go_ret
      exact ⟨ret_int (by rw [hq.out]; have : k = m := by omega
                         subst this; rfl), rfl⟩
end Go.Proofs.YtfploeefmnbpcaaGreat

/- The reference's Bits. -/
namespace Go.Proofs.YtfploeefmnbpcaaGreat
open Go.RowKit

theorem Tryz.infoBool : (Tryz.prog.info? 4).map (fun i => (i.zero, i.size, i.bytes)) = some (some (.bool false), 1, 1) := by kernel_rfl

/-- 2 to the m, as the walk carries it. -/
def P2 (m : Nat) : Int := ((2 ^ m : Nat) : Int)
theorem P2_pos (m : Nat) : 1 ≤ P2 m := by
  unfold P2; have : 0 < 2 ^ m := Nat.pow_pos (by omega)
  omega

theorem pow_nat (m : Nat) (w : World) (h2 : m ≤ 63) :
    Calls Tryz.prog 57 #[.int .i64 m] w fun e w' => e = .returned (.int .u64 (P2 m)) ∧ w = w' := by
  have h := pow_any m w (by omega) (by omega)
  rw [Int.toNat_natCast] at h
  exact h

/-- The k first of W bits of u, told as values. -/
def bitVals (u W k : Nat) : List Value := (M.bitsOf (u / 2 ^ (W - k)) k).map Value.bool

theorem bitVals_snoc (u W k j : Nat) (h : k + (j + 1) = W) : bitVals u W k ++ [Value.bool ((u : Int) / P2 j % 2 == 1)] = bitVals u W (k + 1) := by
  unfold bitVals
  have e1 : W - (k + 1) = j := by omega
  have e2 : W - k = j + 1 := by omega
  rw [e1, e2, M.bitsOf, List.map_append]
  have e3 : u / 2 ^ (j + 1) = u / 2 ^ j / 2 := by rw [Nat.pow_succ, Nat.div_div_eq_div_mul]
  have e4 : ((u : Int) / P2 j % 2 == 1) = (u / 2 ^ j % 2 == 1) := by
    unfold P2
    rw [← Int.natCast_ediv]
    rw [Bool.eq_iff_iff]; simp only [beq_iff_eq]; omega
  rw [e3, e4]; rfl

/-- A new block, then an append to a row of the call's own: below B all is as it was. -/
theorem below_push {B : Nat} {w wr w' : World} {o : Obj} {e : TypeId} {size n : Nat} {v : Value} {xs : List Value} (hb : Below B w wr) (hB : B ≤ wr.heap.size)
    (hown : wr.ownsRow B e size v n xs) (hg : (wr.alloc o).grownBy w' v.ownBlock) : Below B w w' :=
  (hb.alloc hB o).grown hg (by simp; omega) fun k hk => (hown.lt k hk).1
/-- An append to a row of the call's own. -/
theorem below_grown {B : Nat} {w wr w' : World} {e : TypeId} {size n : Nat} {v : Value} {xs : List Value} (hb : Below B w wr) (hB : B ≤ wr.heap.size)
    (hown : wr.ownsRow B e size v n xs) (hg : wr.grownBy w' v.ownBlock) : Below B w w' :=
  hb.grown hg hB fun k hk => (hown.lt k hk).1

theorem one_new (w : World) (x : Value) (t : TypeId) : ∀ (j : Nat) (u : Value), [x][j]? = some u → (w.alloc (.cells #[x] t)).cell? ((⟨w.heap.size, 0, none⟩ : Addr).add j) = some u := by
  intro j u hj
  match j, hj with
  | 0, hj => simp at hj; subst hj; simp [Addr.add]

end Go.Proofs.YtfploeefmnbpcaaGreat

/- The reference's Num: a number of bits. -/
namespace Go.Proofs.YtfploeefmnbpcaaGreat
open Go.RowKit

/-- The memory behind a slice's head holds these values. -/
def Holds (w : World) (a : Option Addr) (l : List Value) : Prop :=
  ∀ i x, l[i]? = some x → ∃ b off, a = some ⟨b, off, none⟩ ∧ w.cell? ⟨b, off + i, none⟩ = some x

/-- A slice value that reads as a list. -/
def Reads (w : World) (v : Value) (l : List Value) : Prop := ∃ a cap, v = .slice a l.length cap ∧ l.length ≤ cap ∧ Holds w a l

theorem reads_of_own {w : World} {base n : Nat} {e : TypeId} {v : Value} {xs : List Value} (h : w.ownsRow base e 1 v n xs) : Reads w v xs := by
  have hl : xs.length = n := by simpa using h.1
  have h2 := h
  rcases h.2 with ⟨rfl, rfl⟩ | ⟨g, cap, cur, rfl, hg, hh, hn, r⟩
  · have : xs = [] := List.length_eq_zero_iff.1 hl
    subst this
    exact ⟨none, 0, rfl, Nat.le_refl _, fun i x hx => by simp at hx⟩
  · refine ⟨some ⟨g, 0, none⟩, cap, by rw [hl], by rw [hl]; exact hn, fun i x hx => ⟨g, 0, rfl, ?_⟩⟩
    have := h2.cells rfl i x hx
    by_cases h0 : i = 0
    · subst h0; simpa [Addr.add] using this
    · simpa [Addr.add, h0] using this

theorem Holds.mono {w w' : World} {a : Option Addr} {l : List Value} (h : Holds w a l) (hw : ∀ b off x, a = some ⟨b, off, none⟩ → ∀ i, w.cell? ⟨b, off + i, none⟩ = some x → w'.cell? ⟨b, off + i, none⟩ = some x) : Holds w' a l := by
  intro i x hx
  obtain ⟨b, off, ha, hc⟩ := h i x hx
  exact ⟨b, off, ha, hw b off x ha i hc⟩

end Go.Proofs.YtfploeefmnbpcaaGreat

/- The reference's Narrow and Turn. -/
namespace Go.Proofs.YtfploeefmnbpcaaGreat
open Go.RowKit

theorem bitVals_all (u W : Nat) : bitVals u W W = (M.bitsOf u W).map Value.bool := by
  unfold bitVals; rw [Nat.sub_self, Nat.pow_zero, Nat.div_one]

/-- A row of the call's own, not nil: where it lies. -/
theorem own_spot {w : World} {base n : Nat} {e : TypeId} {v : Value} {xs : List Value} (h : w.ownsRow base e 1 v n xs) (hn : 0 < n) :
    ∃ g cap, v = .slice (some ⟨g, 0, none⟩) n cap ∧ base ≤ g ∧ n ≤ cap ∧ cap ≤ maxLen ∧ ∀ i x, xs[i]? = some x → w.cell? ⟨g, i, none⟩ = some x := by
  rcases h.2 with ⟨_, rfl⟩ | ⟨g, cap, cur, rfl, hg, hh, hn2, hm, r⟩
  · omega
  · refine ⟨g, cap, rfl, hg, hn2, hm, fun i x hx => ?_⟩
    have := h.cells rfl i x hx
    by_cases h0 : i = 0
    · subst h0; simpa [Addr.add] using this
    · simpa [Addr.add, h0] using this

end Go.Proofs.YtfploeefmnbpcaaGreat

/- The reference's Turn. -/
namespace Go.Proofs.YtfploeefmnbpcaaGreat
open Go.RowKit

/-- An append to a row of the call's own, as one step of a region that draws. -/
theorem step_append_own {P : Program} {ops : Array Oper} {o : Oper} {a : Act} {w : World} {K : Act → World → Prop} {Q : Exit → Act → World → Prop} {E : Prop}
    (hgd : o.guard = none) (s x : Operand) (t : TypeId)
    (ho : o.op = .call { callee := .builtin .append, args := #[s, x], argTypes := #[t, t] })
    (base : Nat) (e : TypeId) (i : TypeInfo) (z : Value) (size bytes : Nat) (ht : P.underlying t = some (.slice e)) (hi : P.info? e = some i) (hz : i.zero = some z)
    (hsize : i.size = size) (hby : i.bytes = bytes) (hzs : z.cells.size = size) (hsz : 0 < size)
    (v : Value) (n : Nat) (xs : List Value) (hs : a.eval s = v) (hown : w.ownsRow base e size v n xs)
    (ad : Addr) (m c : Nat) (news : List Value) (hx : a.eval x = .slice (some ad) m c) (hl : news.length = m * size) (hnews : ∀ j u, news[j]? = some u → w.cell? (ad.add j) = some u) (h1 : ∀ u ∈ news, u.oneCell' = true)
    (h63 : n + m ≤ maxLen) (hbytes : (n + m) * bytes ≤ 140737488355328) (hbase : base ≤ w.heap.size)
    (h : ∀ v' w', w'.ownsRow base e size v' (n + m) (xs ++ news) → w.grownBy w' v.ownBlock → (v' = .slice none 0 0 ↔ v = .slice none 0 0 ∧ m = 0) → K (a.put o.dst v') w') :
    if Region.wanted o (yielded ops a.tmps) = true then Oper.wp P o a w K Q else E := by
  have hw : Region.wanted o (yielded ops a.tmps) = true := by simp [Region.wanted, hgd]
  rw [if_pos hw]
  exact wp_append_own w s x t ho base e i z size bytes ht hi hz hsize hby hzs hsz v n xs hs hown ad m c news hx hl hnews h1 h63 hbytes hbase h

theorem turn_k0 (b : Int) : 0 ≤ b.tmod 32 + 32 ∧ b.tmod 32 + 32 ≤ 63 := by rw [Int.tmod_eq_emod]; split <;> omega
theorem turn_k (b : Int) : (b.tmod 32 + 32) % 32 = b % 32 := by rw [Int.tmod_eq_emod]; split <;> omega

theorem add_cell {w : World} {b o j : Nat} {x : Value} (h : w.cell? ⟨b, o + j, none⟩ = some x) : w.cell? ((⟨b, o, none⟩ : Addr).add j) = some x := by
  by_cases h0 : j = 0
  · subst h0; simpa [Addr.add] using h
  · simpa [Addr.add, h0] using h

end Go.Proofs.YtfploeefmnbpcaaGreat

/- The reference's Bytes. -/
namespace Go.Proofs.YtfploeefmnbpcaaGreat
open Go.RowKit

theorem Tryz.infoByte : (Tryz.prog.info? 5).map (fun i => (i.zero, i.size, i.bytes)) = some (some (.int .u8 0), 1, 1) := by kernel_rfl

theorem Holds.below {w w' : World} {a : Option Addr} {l : List Value} (h : Holds w a l) (hb : Below w.heap.size w w') : Holds w' a l :=
  h.mono fun b off _ _ i hc => (hb.cell (p := ⟨b, off + i, none⟩) (World.block_lt_of_cell? w _ hc)).trans hc

/-- Numbers as bytes' values. -/
def u8s (l : List Nat) : List Value := l.map fun (x : Nat) => Value.int .u8 (x : Int)
theorem u8s_snoc (l : List Nat) (x : Nat) : u8s l ++ [.int .u8 (x : Int)] = u8s (l ++ [x]) := by simp [u8s]

theorem one_int (k : IntKind) (q : Int) : ∀ u ∈ [Value.int k q], Value.oneCell' u = true := by
  intro u hu
  rw [List.mem_singleton] at hu
  subst hu; rfl

end Go.Proofs.YtfploeefmnbpcaaGreat
