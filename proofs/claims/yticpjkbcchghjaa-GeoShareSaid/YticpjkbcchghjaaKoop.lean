/- Package koop: what each call answers. -/
import Derived.Test.YticpjkbcchghjaaRefM
import Derived.Test.YticpjkbcchghjaaKoopB
import Derived.WalkKit
import Derived.WalkSpells
import Derived.WalkLawsBesides
import Derived.Handy
import Derived.Lib.Hide
namespace Go.Proofs.Yticpjkbcchghjaa
open Go.RowKit
namespace M

theorem tV_low (s : B32) (h : ((s.toNat : Int) / 2147483648 == 1) = false) : ((s.toNat : Int) * 2 % 4294967296) = ((tV s).toNat : Int) := by
  have hs := s.isLt
  have hm : s.msb = false := by
    rw [BitVec.msb_eq_decide]
    have : ¬ ((s.toNat : Int) / 2147483648 = 1) := by simpa using h
    simp; omega
  unfold tV
  rw [if_neg (by rw [hm]; simp), BitVec.xor_zero, BitVec.toNat_shiftLeft, Nat.shiftLeft_eq]
  omega
theorem tV_high (s : B32) (h : ((s.toNat : Int) / 2147483648 == 1) = true) : bits BinOp.xor IntKind.u32 ((s.toNat : Int) * 2 % 4294967296) 1947962583 = ((tV s).toNat : Int) := by
  have hs := s.isLt
  have hm : s.msb = true := by
    rw [BitVec.msb_eq_decide]
    have : ((s.toNat : Int) / 2147483648 = 1) := by simpa using h
    simp; omega
  unfold tV
  rw [if_pos hm, BitVec.toNat_xor, BitVec.toNat_shiftLeft, Nat.shiftLeft_eq]
  have e : ((s.toNat : Int) * 2 % 4294967296) = ((s.toNat * 2 % 4294967296 : Nat) : Int) := by omega
  rw [e, show (1947962583 : Int) = ((1947962583 : Nat) : Int) from rfl, u32_xor_nat _ _ (by omega) (by omega)]
  rfl

theorem step_in (s : B32) (x : Nat) (hx : x < 256) : bits BinOp.xor IntKind.u32 (s.toNat : Int) ((x : Int) * 16777216) = ((s ^^^ topV (bitsOf x 8)).toNat : Int) := by
  have hs := s.isLt
  rw [topV_bits x hx, BitVec.toNat_xor, BitVec.toNat_ofNat]
  have e : ((x : Int) * 16777216) = ((x * 16777216 : Nat) : Int) := by omega
  rw [e, u32_xor_nat _ _ (by omega) (by omega), Nat.mod_eq_of_lt (a := x * 16777216) (by omega)]
theorem tK_next (k : Nat) (s : B32) : tV (tK k s) = tK (k + 1) s := by rw [tK_add k 1]; rfl

/-- One byte on. -/
def stepV (s : B32) (x : Nat) : B32 := tK 8 (s ^^^ topV (bitsOf x 8))
theorem stepL_stepV (s : B32) (x : Nat) (hx : x < 256) : stepL s.toNat x = (stepV s x).toNat := stepL_V s x hx
def sumV (s : B32) (bs : List Nat) : B32 := bs.foldl stepV s
def zeroV (s : B32) : Nat → B32
  | 0 => s
  | k + 1 => stepV (zeroV s k) 0
theorem zeroV_add (s : B32) (m n : Nat) : zeroV (zeroV s m) n = zeroV s (m + n) := by
  induction n with
  | zero => rfl
  | succ n ih => rw [← Nat.add_assoc]; simp only [zeroV]; rw [ih]
theorem sumV_take (s : B32) (bs : List Nat) (k : Nat) (h : k < bs.length) : sumV s (bs.take (k + 1)) = stepV (sumV s (bs.take k)) bs[k] := by
  unfold sumV; rw [List.take_succ_eq_append_getElem h, List.foldl_append]; rfl
end M

set_option maxHeartbeats 400000 in
theorem shift_any (s : M.B32) (w : World) :
    Calls Try.prog 106 #[.int .u32 s.toNat] w fun e w' => e = .returned (.int .u32 (M.tV s).toNat) ∧ w = w' := by
  have h1 := s.isLt
  go_enter Try.func106, Try.ntmps106
  go_wp2
  all_goals rename_i h
  all_goals first
    | (have hv := M.tV_low s h; go_ret; exact ⟨by rw [← hv]; rfl, rfl⟩)
    | (have hv := M.tV_high s h; go_ret; exact ⟨by rw [← hv]; rfl, rfl⟩)

set_option maxHeartbeats 400000 in
theorem kstep_any (s : M.B32) (x : Nat) (w : World) (hx : x < 256) :
    Calls Try.prog 89 #[.int .u32 s.toNat, .int .u8 x] w fun e w' => e = .returned (.int .u32 (M.stepV s x).toNat) ∧ w = w' := by
  have h1 := s.isLt
  have h2 := Lib.hid (M.step_in s x hx)
  go_enter Try.func89, Try.ntmps89
  go_wp2
  go_loop [0, 10] (fun r i => ∃ k : Nat, k ≤ 8 ∧ i = .int .i64 k ∧ r = .int .u32 (M.tK k (s ^^^ M.topV (M.bitsOf x 8))).toNat) (fun _ i => (8 - intOf i).toNat)
  case atStart => exact ⟨0, Nat.zero_le _, rfl, by rw [h2.out]; rfl⟩
  case round =>
    obtain ⟨k, hk, rfl, rfl⟩ := hrel
    by_cases hlt : k < 8
    · go_wp2_with (go_at_call 106; refine (shift_any _ _).mono ?_; rintro e w' ⟨rfl, rfl⟩)
      go_round
      case rel => exact ⟨k + 1, by omega, by go_num, by rw [M.tK_next]⟩
      case measure => simp [intOf]; omega
    · obtain rfl : k = 8 := by omega
      go_wp2
      go_ret
      exact ⟨rfl, rfl⟩

set_option maxHeartbeats 400000 in
theorem kof_any (bs : List Nat) (n : Nat) (a : Option Addr) (cap : Nat) (w : World) (hn : bs.length = n) (hl : n ≤ 1000000) (hb8 : ∀ x ∈ bs, x < 256) (hh : Holds w a (u8s bs)) :
    Calls Try.prog 88 #[.slice a n cap] w fun e w' => e = .returned (.int .u32 (M.sumV 0xffffffff#32 bs).toNat) ∧ w = w' := by
  have hH := Lib.hid hh
  have Hn := Lib.hid hn
  have H8 := Lib.hid hb8
  clear hn hh hb8
  go_enter Try.func88, Try.ntmps88
  go_wp2
  go_loop [3, 8] (fun r i => ∃ k : Nat, k ≤ n ∧ i = .int .i64 k ∧ r = .int .u32 (M.sumV 0xffffffff#32 (bs.take k)).toNat) (fun _ i => (n - intOf i).toNat)
  case atStart => exact ⟨0, Nat.zero_le _, rfl, rfl⟩
  case round =>
    obtain ⟨k, hk, rfl, rfl⟩ := hrel
    by_cases hlt : k < n
    · have hkl : k < bs.length := by rw [Hn.out]; exact hlt
      obtain ⟨b, off, rfl, hc⟩ := hH.out k (.int .u8 (bs[k] : Nat)) (by unfold u8s; rw [List.getElem?_map, List.getElem?_eq_getElem hkl]; rfl)
      have hx8 : bs[k] < 256 := H8.out _ (List.getElem_mem hkl)
      have HX := Lib.hid (M.sumV_take 0xffffffff#32 bs k hkl)
      generalize bs[k] = x at hc hx8 HX
      go_wp2_with (go_at_call 89; refine (kstep_any _ x _ hx8).mono ?_; rintro e w' ⟨rfl, rfl⟩)
      go_round
      case rel => exact ⟨k + 1, by omega, by go_num, by rw [HX.out]⟩
      case measure => simp [intOf]; omega
    · obtain rfl : k = n := by omega
      go_wp2
      go_ret
      exact ⟨by rw [List.take_of_length_le (by rw [Hn.out]; omega)]; rfl, rfl⟩

theorem u32_vec (s : Int) (h : (Lit.int .u32 s).wf = true) : ∃ S : M.B32, s = (S.toNat : Int) := by
  obtain ⟨t1, t2⟩ : 0 ≤ s ∧ s ≤ 4294967295 := by simpa [Lit.wf, IntKind.min, IntKind.max, IntKind.signed, IntKind.bits] using h
  exact ⟨BitVec.ofNat 32 s.toNat, by rw [BitVec.toNat_ofNat]; omega⟩
theorem u8_nat (x : Int) (h : (Lit.int .u8 x).wf = true) : ∃ X : Nat, x = (X : Int) ∧ X < 256 := by
  obtain ⟨t1, t2⟩ : 0 ≤ x ∧ x ≤ 255 := by simpa [Lit.wf, IntKind.min, IntKind.max, IntKind.signed, IntKind.bits] using h
  exact ⟨x.toNat, by omega, by omega⟩
end Go.Proofs.Yticpjkbcchghjaa
