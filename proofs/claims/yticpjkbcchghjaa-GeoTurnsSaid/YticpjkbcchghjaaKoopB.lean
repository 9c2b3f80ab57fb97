/- Sums of thirty-two bits: the shift register as a map over GF(2). No Go text here. -/
import Derived.Test.YticpjkbcchghjaaKoopM
import Derived.Test.YticpjkbcchghjaaBitM
import Derived.Laws.BitsAllLaws
namespace Go.Proofs.Yticpjkbcchghjaa
namespace M

abbrev B32 := BitVec 32
def polyV : B32 := 0x741b8cd7#32
/-- One shift. -/
def tV (s : B32) : B32 := (s <<< 1) ^^^ (if s.msb then polyV else 0#32)
def tK : Nat → B32 → B32
  | 0, s => s
  | k + 1, s => tK k (tV s)

theorem tV_xor (a b : B32) : tV (a ^^^ b) = tV a ^^^ tV b := by
  unfold tV
  rw [BitVec.shiftLeft_xor_distrib, BitVec.msb_xor]
  cases a.msb <;> cases b.msb
  · simp
  · simp; rw [BitVec.xor_assoc]
  · simp; rw [BitVec.xor_assoc, BitVec.xor_assoc, BitVec.xor_comm polyV]
  · simp
    rw [BitVec.xor_assoc, BitVec.xor_comm (b <<< 1) polyV, ← BitVec.xor_assoc polyV polyV, BitVec.xor_self, BitVec.zero_xor]
theorem tV_zero : tV 0#32 = 0#32 := by decide
theorem tV_ne (s : B32) (h : tV s = 0#32) : s = 0#32 := by
  unfold tV at h
  by_cases hm : s.msb = true
  · rw [if_pos hm] at h
    have := congrArg (fun v : B32 => v.getLsbD 0) h
    simp [polyV] at this
  · rw [if_neg hm, BitVec.xor_zero] at h
    apply BitVec.eq_of_getLsbD_eq
    intro i hi
    by_cases h31 : i = 31
    · subst h31
      have : s.getLsbD 31 = false := by
        have := hm; rw [BitVec.msb_eq_getLsbD_last] at this; simpa using this
      rw [this]; simp
    · have := congrArg (fun v : B32 => v.getLsbD (i + 1)) h
      simp [BitVec.getLsbD_shiftLeft] at this
      rw [this (by omega)]; simp
theorem tK_xor (k : Nat) (a b : B32) : tK k (a ^^^ b) = tK k a ^^^ tK k b := by
  induction k generalizing a b with
  | zero => rfl
  | succ k ih => simp only [tK]; rw [tV_xor, ih]
theorem tK_zero (k : Nat) : tK k 0#32 = 0#32 := by
  induction k with
  | zero => rfl
  | succ k ih => simp only [tK]; rw [tV_zero, ih]
theorem tK_ne (k : Nat) (s : B32) (h : tK k s = 0#32) : s = 0#32 := by
  induction k generalizing s with
  | zero => exact h
  | succ k ih => exact tV_ne s (ih _ h)
theorem tK_add (j k : Nat) (s : B32) : tK (j + k) s = tK k (tK j s) := by
  induction j generalizing s with
  | zero => simp [tK]
  | succ j ih => rw [show j + 1 + k = (j + k) + 1 by omega]; simp only [tK]; rw [ih]

/-- Bits, the first at the top. -/
def topV (l : List Bool) : B32 := BitVec.ofNat 32 (num l * 2 ^ (32 - l.length))
def bitV (b : Bool) : B32 := if b then 0x80000000#32 else 0#32
/-- Bit by bit. -/
def feedB (s : B32) (l : List Bool) : B32 := l.foldl (fun s b => tV (s ^^^ bitV b)) s

theorem xor_top (y : Nat) (h : y < 2147483648) : 2147483648 ^^^ y = 2147483648 + y := by
  rw [← nat_join 31 2147483648 y (by decide) h]
  apply Nat.eq_of_testBit_eq
  intro i
  rw [Nat.testBit_xor, Nat.testBit_or, show 2147483648 = 2 ^ 31 from rfl, Nat.testBit_two_pow]
  by_cases hi : 31 = i
  · subst hi
    rw [Nat.testBit_lt_two_pow h]; simp
  · simp [hi]

theorem topV_toNat (l : List Bool) (h : l.length ≤ 32) : (topV l).toNat = num l * 2 ^ (32 - l.length) := by
  unfold topV
  rw [BitVec.toNat_ofNat]
  have h2 := num_lt l
  have h3 : 2 ^ l.length * 2 ^ (32 - l.length) = 2 ^ 32 := by rw [← Nat.pow_add]; congr 1; omega
  have h4 : num l * 2 ^ (32 - l.length) < 2 ^ 32 := by rw [← h3]; exact Nat.mul_lt_mul_of_pos_right h2 (Nat.pow_pos (by omega))
  exact Nat.mod_eq_of_lt h4
theorem topV_half (l : List Bool) (h : l.length ≤ 31) : (topV l >>> 1).toNat = num l * 2 ^ (31 - l.length) ∧ num l * 2 ^ (31 - l.length) < 2147483648 := by
  rw [BitVec.toNat_ushiftRight, topV_toNat l (by omega), Nat.shiftRight_eq_div_pow]
  have e : 2 ^ (32 - l.length) = 2 ^ (31 - l.length) * 2 := by rw [← Nat.pow_succ]; congr 1; omega
  have h2 := num_lt l
  have h3 : 2 ^ l.length * 2 ^ (31 - l.length) = 2 ^ 31 := by rw [← Nat.pow_add]; congr 1; omega
  have h4 : num l * 2 ^ (31 - l.length) < 2 ^ 31 := by rw [← h3]; exact Nat.mul_lt_mul_of_pos_right h2 (Nat.pow_pos (by omega))
  refine ⟨?_, h4⟩
  rw [e, ← Nat.mul_assoc, Nat.pow_one, Nat.mul_div_cancel _ (by omega)]

theorem bitV_top (b : Bool) (l : List Bool) (h : l.length ≤ 31) : topV (b :: l) = bitV b ^^^ (topV l >>> 1) := by
  apply BitVec.eq_of_toNat_eq
  obtain ⟨h1, h2⟩ := topV_half l h
  have hn : num (b :: l) = b.toNat * 2 ^ l.length + num l := by
    have := num_append [b] l
    simpa [num, step] using this
  have h3 : 2 ^ l.length * 2 ^ (31 - l.length) = 2147483648 := by rw [← Nat.pow_add, show l.length + (31 - l.length) = 31 by omega]
  rw [topV_toNat _ (by rw [List.length_cons]; omega), BitVec.toNat_xor, h1, hn, List.length_cons, show 32 - (l.length + 1) = 31 - l.length by omega, Nat.add_mul, Nat.mul_assoc, h3]
  cases b
  · simp [bitV]
  · rw [show (bitV true).toNat = 2147483648 from rfl, xor_top _ h2]; simp
theorem tV_half (l : List Bool) (h : l.length ≤ 31) : tV (topV l >>> 1) = topV l := by
  obtain ⟨h1, h2⟩ := topV_half l h
  have hm : (topV l >>> 1).msb = false := by
    rw [BitVec.msb_eq_decide, h1]; simp; omega
  unfold tV
  rw [if_neg (by rw [hm]; simp), BitVec.xor_zero]
  apply BitVec.eq_of_toNat_eq
  rw [BitVec.toNat_shiftLeft, h1, topV_toNat l (by omega), Nat.shiftLeft_eq]
  have e : 2 ^ (32 - l.length) = 2 ^ (31 - l.length) * 2 := by rw [← Nat.pow_succ]; congr 1; omega
  rw [e, Nat.pow_one, Nat.mul_assoc] 
  exact Nat.mod_eq_of_lt (by rw [← Nat.mul_assoc]; omega)

theorem feed_top (l : List Bool) (s : B32) (h : l.length ≤ 32) : feedB s l = tK l.length (s ^^^ topV l) := by
  induction l generalizing s with
  | nil => simp [feedB, tK, topV, num]
  | cons b l ih =>
    have hl : l.length ≤ 31 := by simpa using h
    show feedB (tV (s ^^^ bitV b)) l = _
    rw [ih _ (by omega), bitV_top b l hl, List.length_cons]
    simp only [tK]
    rw [← BitVec.xor_assoc, tV_xor (s ^^^ bitV b), tV_half l hl]

theorem feed_append (a b : List Bool) (s : B32) : feedB s (a ++ b) = feedB (feedB s a) b := by unfold feedB; rw [List.foldl_append]
theorem feed_zeros (k : Nat) (s : B32) : feedB s (List.replicate k false) = tK k s := by
  induction k generalizing s with
  | zero => rfl
  | succ k ih =>
    rw [List.replicate_succ]
    show feedB (tV (s ^^^ bitV false)) (List.replicate k false) = _
    rw [ih]
    simp [tK, bitV]
theorem topV_ne (l : List Bool) (h : l.length ≤ 32) (hn : num l ≠ 0) : topV l ≠ 0#32 := by
  intro e
  have h1 := congrArg BitVec.toNat e
  unfold topV at h1
  rw [BitVec.toNat_ofNat] at h1
  have h2 := num_lt l
  have h3 : 2 ^ l.length * 2 ^ (32 - l.length) = 2 ^ 32 := by rw [← Nat.pow_add]; congr 1; omega
  have h4 : num l * 2 ^ (32 - l.length) < 2 ^ 32 := by rw [← h3]; exact Nat.mul_lt_mul_of_pos_right h2 (Nat.pow_pos (by omega))
  rw [Nat.mod_eq_of_lt h4] at h1
  have : 0 < 2 ^ (32 - l.length) := Nat.pow_pos (by omega)
  rcases Nat.mul_eq_zero.1 (show num l * 2 ^ (32 - l.length) = 0 by simpa using h1) with h5 | h5
  · exact hn h5
  · omega

/-- A burst of at most thirty-two bits, noughts ahead of it and behind it, leaves something. -/
theorem burst (j k : Nat) (l : List Bool) (h : l.length ≤ 32) (hn : num l ≠ 0) : feedB 0#32 (List.replicate j false ++ l ++ List.replicate k false) ≠ 0#32 := by
  rw [feed_append, feed_append, feed_zeros, feed_zeros, tK_zero, feed_top l _ h, BitVec.zero_xor]
  intro e
  exact topV_ne l h hn (tK_ne _ _ (tK_ne _ _ e))

theorem bitsOf_getD (u w i : Nat) (h : i < w) : (bitsOf u w).getD i false = u.testBit (w - 1 - i) := by
  have e1 : (bitsOf u w).drop i = bitsOf u (w - i) := by
    have := bitsOf_drop u (w - i) i
    rwa [show i + (w - i) = w by omega] at this
  have e2 : (bitsOf u w).getD i false = ((bitsOf u w).drop i).getD 0 false := by
    simp [List.getD]
  rw [e2, e1]
  obtain ⟨k, hk⟩ : ∃ k, w - i = k + 1 := ⟨w - i - 1, by omega⟩
  rw [hk, bitsOf_cons, show w - 1 - i = k by omega]
  simp only [List.getD, List.getElem?_cons_zero, Option.getD_some]
  rw [Nat.testBit_eq_decide_div_mod_eq]
  rw [Bool.eq_iff_iff]; simp
def lst (v : B32) : List Bool := bitsOf v.toNat 32
theorem lst_length (v : B32) : (lst v).length = 32 := bitsOf_length _ _
theorem num_lst (v : B32) : num (lst v) = v.toNat := by
  unfold lst; rw [num_bitsOf]; exact Nat.mod_eq_of_lt v.isLt
theorem lst_getD (v : B32) (i : Nat) (h : i < 32) : (lst v).getD i false = v.getLsbD (31 - i) := by
  unfold lst; rw [bitsOf_getD _ _ _ h]; rfl
theorem ext_getD {a b : List Bool} (hl : a.length = b.length) (h : ∀ i, i < a.length → a.getD i false = b.getD i false) : a = b := by
  apply List.ext_getElem hl
  intro i h1 h2
  have := h i h1
  simpa [List.getD, List.getElem?_eq_getElem h1, List.getElem?_eq_getElem h2] using this
theorem topV_bits (x : Nat) (hx : x < 256) : topV (bitsOf x 8) = BitVec.ofNat 32 (x * 16777216) := by
  unfold topV; rw [num_bitsOf, bitsOf_length]
  rw [show x % 2 ^ 8 = x from Nat.mod_eq_of_lt hx]

theorem mix_lst (s : B32) (x : Nat) (hx : x < 256) : mixK (lst s) (bitsOf x 8) 8 = lst (s ^^^ topV (bitsOf x 8)) := by
  apply ext_getD
  · rw [mixK_length, lst_length, lst_length]
  · intro i hi
    rw [mixK_length, lst_length] at hi
    rw [mixK_getD _ _ _ _ (by rw [lst_length]; exact hi), lst_getD _ _ hi, lst_getD _ _ hi, BitVec.getLsbD_xor, topV_bits x hx]
    have e : (BitVec.ofNat 32 (x * 16777216)).getLsbD (31 - i) = (if i < 8 then x.testBit (7 - i) else false) := by
      rw [BitVec.getLsbD_ofNat, show x * 16777216 = x * 2 ^ 24 from rfl, Nat.testBit_mul_two_pow]
      by_cases h8 : i < 8
      · rw [if_pos h8]; simp [show 31 - i < 32 by omega, show 24 ≤ 31 - i by omega, show 31 - i - 24 = 7 - i by omega]
      · rw [if_neg h8]; simp [show ¬ 24 ≤ 31 - i by omega]
    rw [e]
    by_cases h8 : i < 8
    · rw [if_pos h8, if_pos h8, bitsOf_getD _ _ _ h8]
    · rw [if_neg h8, if_neg h8]; simp

theorem turn_getD (v : B32) (i : Nat) (h : i < 32) : (turnL (lst v)).getD i false = (v <<< 1).getLsbD (31 - i) := by
  unfold turnL
  rw [BitVec.getLsbD_shiftLeft]
  have hd : ((lst v).drop 1).length = 31 := by rw [List.length_drop, lst_length]
  by_cases h31 : i < 31
  · have : ((lst v).drop 1 ++ [false]).getD i false = (lst v).getD (i + 1) false := by
      simp only [List.getD]
      rw [List.getElem?_append_left (by omega), List.getElem?_drop, Nat.add_comm]
    rw [this, lst_getD _ _ (by omega)]
    simp [show 31 - i < 32 by omega, show ¬ (31 - i < 1) by omega, show 31 - (i + 1) = 31 - i - 1 by omega]
  · have e : i = 31 := by omega
    subst e
    simp only [List.getD]
    rw [List.getElem?_append_right (by omega), hd]; simp

theorem poly_lst : polyL = lst polyV := by unfold polyL lst; rfl

theorem round_lst (v : B32) : roundL (lst v) = lst (tV v) := by
  have ht : (turnL (lst v)).length = 32 := turnL_length _ (lst_length v)
  have hm : (lst v).getD 0 false = v.msb := by rw [lst_getD _ _ (by omega), BitVec.msb_eq_getLsbD_last]
  unfold roundL tV
  rw [hm]
  apply ext_getD
  · split
    · rw [mixK_length, ht, lst_length]
    · rw [ht, lst_length]
  · intro i hi
    have hi32 : i < 32 := by
      split at hi
      · rw [mixK_length, ht] at hi; exact hi
      · rw [ht] at hi; exact hi
    rw [lst_getD _ _ hi32, BitVec.getLsbD_xor]
    by_cases hb : v.msb = true
    · rw [if_pos hb, if_pos hb, mixK_getD _ _ _ _ (by rw [ht]; exact hi32), if_pos hi32, turn_getD _ _ hi32, poly_lst, lst_getD _ _ hi32]
    · rw [if_neg hb, if_neg hb, turn_getD _ _ hi32]; simp
theorem rounds_lst (k : Nat) (v : B32) : roundsL k (lst v) = lst (tK k v) := by
  induction k with
  | zero => rfl
  | succ k ih => rw [roundsL_succ, ih, round_lst, tK_add k 1]; rfl

/-- The reference's Step, as a shift register. -/
theorem stepL_V (s : B32) (x : Nat) (hx : x < 256) : stepL s.toNat x = (tK 8 (s ^^^ topV (bitsOf x 8))).toNat := by
  rw [stepL_def]
  show num (roundsL 8 (mixK (lst s) (bitsOf x 8) 8)) = _
  rw [mix_lst s x hx, rounds_lst, num_lst]
theorem stepL_feed (s : B32) (x : Nat) (hx : x < 256) : stepL s.toNat x = (feedB s (bitsOf x 8)).toNat := by
  rw [stepL_V s x hx, feed_top _ _ (by rw [bitsOf_length]; omega), bitsOf_length]

def xorL (a b : List Bool) : List Bool := List.zipWith (fun x y => x != y) a b
theorem bitV_xor (a b : Bool) : bitV (a != b) = bitV a ^^^ bitV b := by cases a <;> cases b <;> decide
theorem feed_xor (a b : List Bool) (s t : B32) (h : a.length = b.length) : feedB (s ^^^ t) (xorL a b) = feedB s a ^^^ feedB t b := by
  induction a generalizing b s t with
  | nil =>
    have : b = [] := List.length_eq_zero_iff.1 h.symm
    subst this; rfl
  | cons x a ih =>
    cases b with
    | nil => cases h
    | cons y b =>
      show feedB (tV (s ^^^ t ^^^ bitV (x != y))) (xorL a b) = feedB (tV (s ^^^ bitV x)) a ^^^ feedB (tV (t ^^^ bitV y)) b
      rw [← ih b _ _ (by simpa using h), ← tV_xor, bitV_xor]
      congr 2
      rw [BitVec.xor_assoc, BitVec.xor_assoc, ← BitVec.xor_assoc t, BitVec.xor_comm t, BitVec.xor_assoc (bitV x)]
theorem foldl_feed (bs : List Nat) (s : B32) (h : ∀ x ∈ bs, x < 256) : bs.foldl stepL s.toNat = (feedB s (ofN bs)).toNat := by
  induction bs generalizing s with
  | nil => rfl
  | cons x bs ih =>
    rw [List.foldl_cons, stepL_feed s x (h x (by simp)), ih _ (fun y hy => h y (by simp [hy])), ofN_cons, feed_append]

end M
end Go.Proofs.Yticpjkbcchghjaa
