/- Package koop: what each call answers. -/
import Derived.Test.YtobkbbbdddllmaaRefM
import Derived.Test.YtobkbbbdddllmaaKoopB
import Derived.WalkKit
import Derived.WalkSpells
import Derived.WalkLawsBesides
import Derived.Handy
import Derived.Lib.Hide
namespace Go.Proofs.Ytobkbbbdddllmaa
open Go.RowKit
namespace M

theorem tV_low (s : B32) (h : ((s.toNat : Int) / 2147483648 == 1) = false) : ((s.toNat : Int) * 2 % 4294967296) = ((tV s).toNat : Int) := by
  have hs := s.isLt
  have hm : s.msb = false := by
    rw [BitVec.msb_eq_decide]
    have : ¬ ((s.toNat : Int) / 2147483648 = 1) := by simpa using h
    simp; omega
  unfold tV
  rw [if_neg (by rw [hm]; simp), BitVec.xor_zero, BitVec.toNat_shiftLeft, Nat.shiftLeft_eq]
  omega
theorem tV_high (s : B32) (h : ((s.toNat : Int) / 2147483648 == 1) = true) : bits BinOp.xor IntKind.u32 ((s.toNat : Int) * 2 % 4294967296) 1947962583 = ((tV s).toNat : Int) := by
  have hs := s.isLt
  have hm : s.msb = true := by
    rw [BitVec.msb_eq_decide]
    have : ((s.toNat : Int) / 2147483648 = 1) := by simpa using h
    simp; omega
  unfold tV
  rw [if_pos hm, BitVec.toNat_xor, BitVec.toNat_shiftLeft, Nat.shiftLeft_eq]
  have e : ((s.toNat : Int) * 2 % 4294967296) = ((s.toNat * 2 % 4294967296 : Nat) : Int) := by omega
  rw [e, show (1947962583 : Int) = ((1947962583 : Nat) : Int) from rfl, u32_xor_nat _ _ (by omega) (by omega)]
  rfl

theorem step_in (s : B32) (x : Nat) (hx : x < 256) : bits BinOp.xor IntKind.u32 (s.toNat : Int) ((x : Int) * 16777216) = ((s ^^^ topV (bitsOf x 8)).toNat : Int) := by
  have hs := s.isLt
  rw [topV_bits x hx, BitVec.toNat_xor, BitVec.toNat_ofNat]
  have e : ((x : Int) * 16777216) = ((x * 16777216 : Nat) : Int) := by omega
  rw [e, u32_xor_nat _ _ (by omega) (by omega), Nat.mod_eq_of_lt (a := x * 16777216) (by omega)]
theorem tK_next (k : Nat) (s : B32) : tV (tK k s) = tK (k + 1) s := by rw [tK_add k 1]; rfl

/-- One byte on. -/
def stepV (s : B32) (x : Nat) : B32 := tK 8 (s ^^^ topV (bitsOf x 8))
theorem stepL_stepV (s : B32) (x : Nat) (hx : x < 256) : stepL s.toNat x = (stepV s x).toNat := stepL_V s x hx
def sumV (s : B32) (bs : List Nat) : B32 := bs.foldl stepV s
def zeroV (s : B32) : Nat → B32
  | 0 => s
  | k + 1 => stepV (zeroV s k) 0
theorem zeroV_add (s : B32) (m n : Nat) : zeroV (zeroV s m) n = zeroV s (m + n) := by
  induction n with
  | zero => rfl
  | succ n ih => rw [← Nat.add_assoc]; simp only [zeroV]; rw [ih]
theorem sumV_take (s : B32) (bs : List Nat) (k : Nat) (h : k < bs.length) : sumV s (bs.take (k + 1)) = stepV (sumV s (bs.take k)) bs[k] := by
  unfold sumV; rw [List.take_succ_eq_append_getElem h, List.foldl_append]; rfl
end M

theorem u32_vec (s : Int) (h : (Lit.int .u32 s).wf = true) : ∃ S : M.B32, s = (S.toNat : Int) := by
  obtain ⟨t1, t2⟩ : 0 ≤ s ∧ s ≤ 4294967295 := by simpa [Lit.wf, IntKind.min, IntKind.max, IntKind.signed, IntKind.bits] using h
  exact ⟨BitVec.ofNat 32 s.toNat, by rw [BitVec.toNat_ofNat]; omega⟩
theorem u8_nat (x : Int) (h : (Lit.int .u8 x).wf = true) : ∃ X : Nat, x = (X : Int) ∧ X < 256 := by
  obtain ⟨t1, t2⟩ : 0 ≤ x ∧ x ≤ 255 := by simpa [Lit.wf, IntKind.min, IntKind.max, IntKind.signed, IntKind.bits] using h
  exact ⟨x.toNat, by omega, by omega⟩
end Go.Proofs.Ytobkbbbdddllmaa
