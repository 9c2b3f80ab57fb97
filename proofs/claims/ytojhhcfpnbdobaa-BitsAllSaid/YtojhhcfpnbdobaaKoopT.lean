/- Bytes in which bits were turned within a window: what becomes of the sum. No Go text here. -/
import Derived.Test.YtojhhcfpnbdobaaKoop
namespace Go.Proofs.Ytojhhcfpnbdobaa
namespace M

theorem stepV_feed (s : B32) (x : Nat) : stepV s x = feedB s (bitsOf x 8) := by
  unfold stepV; rw [feed_top _ _ (by rw [bitsOf_length]; omega), bitsOf_length]
theorem sumV_feed (s : B32) (bs : List Nat) : sumV s bs = feedB s (ofN bs) := by
  induction bs generalizing s with
  | nil => rfl
  | cons b bs ih =>
    rw [ofN_cons, feed_append, ← stepV_feed, ← ih]; rfl
theorem ofN_getD (bs : List Nat) (q p : Nat) (hq : q < bs.length) (hp : p < 8) : (ofN bs).getD (8 * q + p) false = (bs.getD q 0).testBit (7 - p) := by
  have h := ofN_byte bs q p 1 hq (by omega)
  have hl := ofN_length bs
  have e1 : (ofN bs).getD (8 * q + p) false = (((ofN bs).drop (8 * q + p)).take 1).getD 0 false := by
    simp [List.getD]
  have e2 : (((bitsOf bs[q] 8).drop p).take 1).getD 0 false = (bitsOf bs[q] 8).getD p false := by
    simp [List.getD]
  rw [e1, h, e2, bitsOf_getD _ _ _ hp]
  simp [List.getD, List.getElem?_eq_getElem hq]

/-- The first k bits of t, the lowest first. -/
def patt (t k : Nat) : List Bool := (List.range k).map t.testBit
/-- Of n bits those that are turned. -/
def turnE (n f t k : Nat) : List Bool := List.replicate f false ++ patt t k ++ List.replicate (n - f - k) false
/-- Bytes, k bits on. -/
def turnN (bs : List Nat) (f t : Nat) : Nat → List Nat
  | 0 => bs
  | k + 1 => if t.testBit k = true then (turnN bs f t k).set ((f + k) / 8) ((turnN bs f t k).getD ((f + k) / 8) 0 ^^^ 128 / 2 ^ ((f + k) % 8)) else turnN bs f t k
def anyT (t : Nat) : Nat → Bool
  | 0 => false
  | k + 1 => t.testBit k || anyT t k

theorem turnN_zero (bs : List Nat) (f t : Nat) : turnN bs f t 0 = bs := rfl
theorem turnN_on (bs : List Nat) (f t k q p : Nat) (h : t.testBit k = true) (hq : (f + k) / 8 = q) (hp : (f + k) % 8 = p) :
    turnN bs f t (k + 1) = (turnN bs f t k).set q ((turnN bs f t k).getD q 0 ^^^ 128 / 2 ^ p) := by subst hq; subst hp; exact if_pos h
theorem turnN_off (bs : List Nat) (f t k : Nat) (h : t.testBit k = false) : turnN bs f t (k + 1) = turnN bs f t k := if_neg (by rw [h]; decide)
theorem anyT_zero (t : Nat) : anyT t 0 = false := rfl
theorem anyT_on (t k : Nat) (h : t.testBit k = true) : anyT t (k + 1) = true := by unfold anyT; rw [h]; rfl
theorem anyT_off (t k : Nat) (h : t.testBit k = false) : anyT t (k + 1) = anyT t k := by rw [anyT, h]; rfl
theorem turnN_length (bs : List Nat) (f t k : Nat) : (turnN bs f t k).length = bs.length := by
  induction k with
  | zero => rfl
  | succ k ih => unfold turnN; split <;> simp [ih]
theorem mask_lt (p : Nat) : 128 / 2 ^ p < 256 := Nat.lt_of_le_of_lt (Nat.div_le_self _ _) (by omega)
theorem turnN_byte (bs : List Nat) (f t k : Nat) (h : ∀ x ∈ bs, x < 256) : ∀ x ∈ turnN bs f t k, x < 256 := by
  induction k with
  | zero => exact h
  | succ k ih =>
    unfold turnN; split
    · intro x hx
      rcases List.mem_or_eq_of_mem_set hx with hx | hx
      · exact ih x hx
      · rw [hx]
        refine Nat.xor_lt_two_pow (n := 8) ?_ (mask_lt _)
        by_cases hi : (f + k) / 8 < (turnN bs f t k).length
        · simp only [List.getD, List.getElem?_eq_getElem hi, Option.getD_some]; exact ih _ (List.getElem_mem hi)
        · simp only [List.getD, List.getElem?_eq_none (Nat.le_of_not_lt hi)]; decide
    · exact ih
theorem patt_succ (t k : Nat) : patt t (k + 1) = patt t k ++ [t.testBit k] := by unfold patt; rw [List.range_succ, List.map_append]; rfl
theorem patt_length (t k : Nat) : (patt t k).length = k := by simp [patt]
theorem turnE_length (n f t k : Nat) (h : f + k ≤ n) : (turnE n f t k).length = n := by
  unfold turnE; rw [List.length_append, List.length_append, List.length_replicate, List.length_replicate, patt_length]; omega
theorem turnE_next (n f t k : Nat) (h : f + k < n) : turnE n f t (k + 1) = (turnE n f t k).set (f + k) (t.testBit k) := by
  unfold turnE
  obtain ⟨m, hm⟩ : ∃ m, n - f - k = m + 1 := ⟨n - f - k - 1, by omega⟩
  have hl : (List.replicate f false ++ patt t k).length = f + k := by rw [List.length_append, List.length_replicate, patt_length]
  rw [List.set_append_right _ _ (by rw [hl]; exact Nat.le_refl _), hl, Nat.sub_self, hm, show n - f - (k + 1) = m by omega, patt_succ, List.replicate_succ, ← List.append_assoc, List.append_assoc _ [t.testBit k]]
  rfl
theorem turnE_free (n f t k : Nat) : (turnE n f t k).getD (f + k) false = false := by
  unfold turnE
  have hl : (List.replicate f false ++ patt t k).length = f + k := by rw [List.length_append, List.length_replicate, patt_length]
  simp only [List.getD]
  rw [List.getElem?_append_right (by rw [hl]; exact Nat.le_refl _), hl, Nat.sub_self, List.getElem?_replicate]
  split <;> rfl
theorem getD_set (l : List Bool) (i j : Nat) (b : Bool) (h : i < l.length) : (l.set i b).getD j false = if i = j then b else l.getD j false := by
  simp only [List.getD, List.getElem?_set]
  by_cases e : i = j
  · subst e; simp [h]
  · simp [e]
theorem getD_setN (l : List Nat) (i j b : Nat) (h : i < l.length) : (l.set i b).getD j 0 = if i = j then b else l.getD j 0 := by
  simp only [List.getD, List.getElem?_set]
  by_cases e : i = j
  · subst e; simp [h]
  · simp [e]
theorem mask_bit : ∀ p p' : Fin 8, (128 / 2 ^ p.val).testBit (7 - p'.val) = decide (p.val = p'.val) := by decide

theorem turnN_bits (bs : List Nat) (f t k : Nat) (h : f + k ≤ 8 * bs.length) : ∀ i, i < 8 * bs.length → (ofN (turnN bs f t k)).getD i false = ((ofN bs).getD i false != (turnE (8 * bs.length) f t k).getD i false) := by
  induction k with
  | zero =>
    intro i hi
    have : (turnE (8 * bs.length) f t 0).getD i false = false := by
      unfold turnE patt
      simp only [List.range_zero, List.map_nil, List.append_nil, List.getD]
      rw [List.replicate_append_replicate, List.getElem?_replicate]
      split <;> rfl
    rw [this]; simp [turnN]
  | succ k ih =>
    intro i hi
    have ih := ih (by omega) i hi
    have hE := turnE_length (8 * bs.length) f t k (by omega)
    have hfree := turnE_free (8 * bs.length) f t k
    rw [turnE_next _ f t k (by omega), getD_set _ _ _ _ (by omega)]
    by_cases ht : t.testBit k = true
    · rw [ht]
      unfold turnN
      rw [if_pos ht]
      obtain ⟨q, hq⟩ : ∃ q, (f + k) / 8 = q := ⟨_, rfl⟩
      obtain ⟨p, hp⟩ : ∃ p, (f + k) % 8 = p := ⟨_, rfl⟩
      have hp8 : p < 8 := by omega
      have hqp : f + k = 8 * q + p := by omega
      obtain ⟨q', hq'⟩ : ∃ q', i / 8 = q' := ⟨_, rfl⟩
      obtain ⟨p', hp'⟩ : ∃ p', i % 8 = p' := ⟨_, rfl⟩
      have hp8' : p' < 8 := by omega
      have hqp' : i = 8 * q' + p' := by omega
      have hl := turnN_length bs f t k
      rw [hq, hp]
      rw [hqp'] at ih ⊢
      rw [ofN_getD _ q' p' (by rw [hl]; omega) hp8'] at ih
      rw [ofN_getD _ q' p' (by rw [List.length_set, hl]; omega) hp8', getD_setN _ _ _ _ (by rw [hl]; omega)]
      by_cases hqq : q = q'
      · subst hqq
        rw [if_pos rfl, Nat.testBit_xor, ih]
        have hm := mask_bit ⟨p, hp8⟩ ⟨p', hp8'⟩
        simp only at hm
        rw [hm]
        by_cases hpp : p = p'
        · subst hpp
          rw [if_pos hqp, ← hqp, hfree]
          simp
        · rw [if_neg (by omega)]
          simp [hpp]
      · rw [if_neg hqq, ih, if_neg (by omega)]
    · have hf : t.testBit k = false := by simpa using ht
      rw [hf]
      unfold turnN
      rw [if_neg ht, ih]
      by_cases e : f + k = i
      · subst e; rw [if_pos rfl, hfree]
      · rw [if_neg e]

theorem turnN_xor (bs : List Nat) (f t k : Nat) (h : f + k ≤ 8 * bs.length) : ofN (turnN bs f t k) = xorL (ofN bs) (turnE (8 * bs.length) f t k) := by
  have hE := turnE_length (8 * bs.length) f t k h
  have h1 : (ofN (turnN bs f t k)).length = 8 * bs.length := by rw [ofN_length, turnN_length]
  have h2 : (ofN bs).length = 8 * bs.length := ofN_length bs
  apply ext_getD
  · unfold xorL; rw [List.length_zipWith, h1, h2, hE, Nat.min_self]
  · intro i hi
    rw [h1] at hi
    rw [turnN_bits bs f t k h i hi]
    unfold xorL
    simp only [List.getD, List.getElem?_zipWith]
    rw [List.getElem?_eq_getElem (by omega), List.getElem?_eq_getElem (by omega)]
    rfl
theorem num_zero (l : List Bool) (h : ∀ b ∈ l, b = false) : num l = 0 := by
  have : l = List.replicate l.length false := List.eq_replicate_iff.2 ⟨rfl, h⟩
  rw [this]
  generalize l.length = n
  induction n with
  | zero => rfl
  | succ n ih =>
    have := num_append (List.replicate n false) [false]
    rw [← List.replicate_succ'] at this
    rw [this, ih]; rfl
theorem num_pos (l : List Bool) (h : true ∈ l) : num l ≠ 0 := by
  obtain ⟨a, b, rfl⟩ := List.append_of_mem h
  have h1 := num_append a (true :: b)
  have h2 := num_append [true] b
  have h3 : num [true] = 1 := rfl
  rw [h3] at h2
  have h4 : 0 < 2 ^ b.length := Nat.pow_pos (by omega)
  rw [show [true] ++ b = true :: b from rfl] at h2
  omega
theorem anyT_mem (t k : Nat) : anyT t k = true ↔ true ∈ patt t k := by
  induction k with
  | zero => simp [anyT, patt]
  | succ k ih => rw [patt_succ]; simp [anyT, ih, or_comm]
theorem anyT_false (t k : Nat) (h : anyT t k = false) : patt t k = List.replicate k false := by
  refine List.eq_replicate_iff.2 ⟨patt_length t k, fun b hb => ?_⟩
  cases b with
  | false => rfl
  | true => rw [(anyT_mem t k).2 hb] at h; cases h

/-- The sum is another one just if a bit was turned. -/
theorem turn_sum (bs : List Nat) (f t k : Nat) (h : f + k ≤ 8 * bs.length) (hk : k ≤ 32) (s : B32) :
    (sumV s bs = sumV s (turnN bs f t k)) ↔ anyT t k = false := by
  have hl : (ofN bs).length = (turnE (8 * bs.length) f t k).length := by rw [ofN_length, turnE_length _ _ _ _ h]
  have e : sumV s (turnN bs f t k) = sumV s bs ^^^ feedB 0#32 (turnE (8 * bs.length) f t k) := by
    rw [sumV_feed, sumV_feed, turnN_xor bs f t k h]
    have := feed_xor (ofN bs) (turnE (8 * bs.length) f t k) s 0#32 hl
    rw [BitVec.xor_zero] at this
    exact this
  rw [e]
  constructor
  · intro he
    cases ha : anyT t k with
    | false => rfl
    | true =>
      exfalso
      have hb := burst f (8 * bs.length - f - k) (patt t k) (by rw [patt_length]; exact hk) (num_pos _ ((anyT_mem t k).1 ha))
      apply hb
      unfold turnE at he
      have : sumV s bs ^^^ sumV s bs = sumV s bs ^^^ (sumV s bs ^^^ feedB 0#32 (List.replicate f false ++ patt t k ++ List.replicate (8 * bs.length - f - k) false)) := by rw [← he]
      rw [BitVec.xor_self, ← BitVec.xor_assoc, BitVec.xor_self, BitVec.zero_xor] at this
      exact this.symm
  · intro ha
    unfold turnE
    rw [anyT_false t k ha, List.replicate_append_replicate, List.replicate_append_replicate, feed_zeros, tK_zero, BitVec.xor_zero]
end M
end Go.Proofs.Ytojhhcfpnbdobaa
