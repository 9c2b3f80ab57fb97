import Derived.Test.YtfploeefmnbpcaaGreatG04
import Derived.Test.YtfploeefmnbpcaaGreatRows
import Derived.Test.YtfploeefmnbpcaaGreatG01
import Derived.WalkKit
import Derived.WalkSpells
import Derived.WalkLawsBesides
import Derived.Handy
import Derived.Lib.Hide
import Derived.Test.YtfploeefmnbpcaaGreatG02
import Derived.Deep.LoopGhost
import Derived.Laws.BitsAllLaws
/- Package bits: Get. -/
namespace Go.Proofs.YtfploeefmnbpcaaGreat
open Go.RowKit

set_option maxHeartbeats 400000 in
theorem get_width (p : Option Addr) (n : Int) (w : World) (h : n < 1 ∨ 64 < n) : Calls Tryz.prog 108 #[.pointer p, .int .i64 n] w fun e w' => e = .returned (.tuple #[.int .u64 0, .bool false]) ∧ w = w' := by
  go_enter Tryz.func108, Tryz.ntmps108
  go_wp2_with (go_at_call 133; refine (isWidth_no _ _ h).mono ?_; rintro e w' ⟨rfl, rfl⟩)
  go_ret2
  exact ⟨rfl, rfl⟩

set_option maxHeartbeats 400000 in
theorem get_nil (n : Int) (w : World) (h1 : 1 ≤ n) (h2 : n ≤ 64) : Calls Tryz.prog 108 #[.pointer none, .int .i64 n] w fun e w' => e = .returned (.tuple #[.int .u64 0, .bool false]) ∧ w = w' := by
  have hb : decide (0 < n) = true := by simp; omega
  go_enter Tryz.func108, Tryz.ntmps108
  go_wp2_with (first
    | (go_at_call 133; refine (isWidth_yes _ _ h1 h2).mono ?_; rintro e w' ⟨rfl, rfl⟩)
    | (go_at_call 115; refine (left_nil _).mono ?_; rintro e w' ⟨rfl, rfl⟩))
  go_ret2
  exact ⟨rfl, rfl⟩

set_option maxHeartbeats 400000 in
theorem get_few (g : Nat) (bs : List Nat) (pos : Nat) (n : Int) (w : World) (h1 : 1 ≤ n) (h2 : n ≤ 64) (hi : InIs w g bs pos) (hf : 8 * (bs.length : Int) - pos < n) :
    Calls Tryz.prog 108 #[.pointer (some ⟨g, 0, none⟩), .int .i64 n] w fun e w' => e = .returned (.tuple #[.int .u64 0, .bool false]) ∧ ∃ m, w' = w.drewN m := by
  have HI := Lib.hid hi
  clear hi
  go_enter Tryz.func108, Tryz.ntmps108
  go_wp2_with (first
    | (go_at_call 133; refine (isWidth_yes _ _ h1 h2).mono ?_; rintro e w' ⟨rfl, rfl⟩)
    | (go_at_call 115; refine (left_any g bs pos _ HI.out).mono ?_; rintro e w' ⟨rfl, nd, rfl⟩))
  go_ret2
  exact ⟨rfl, _, rfl⟩

set_option maxRecDepth 100000 in
set_option maxHeartbeats 1000000 in
theorem get_good (g : Nat) (bs : List Nat) (pos W : Nat) (w : World) (h1 : 1 ≤ W) (h2 : W ≤ 64) (hi : InIs w g bs pos) (hf : pos + W ≤ 8 * bs.length) :
    Calls Tryz.prog 108 #[.pointer (some ⟨g, 0, none⟩), .int .i64 W] w fun e w' => e = .returned (.tuple #[.int .u64 (M.nextN bs pos W : Nat), .bool true]) ∧ InIs w' g bs (pos + W) ∧ Only g w w' := by
  have h1I : (1 : Int) ≤ W := by omega
  have h2I : (W : Int) ≤ 64 := by omega
  have hle : ¬ (8 * (bs.length : Int) - pos < W) := by omega
  have HI := Lib.hid hi
  clear hi
  go_enter Tryz.func108, Tryz.ntmps108
  go_wp2_with (first
    | (go_at_call 133; refine (isWidth_yes _ _ h1I h2I).mono ?_; rintro e w' ⟨rfl, rfl⟩)
    | (go_at_call 115; refine (left_any g bs pos _ HI.out).mono ?_; rintro e w' ⟨rfl, nd, rfl⟩))
  clear hle
  have HI2 : Hid (InIs (w.drewN nd) g bs (pos + 0)) := ⟨HI.out.row, HI.out.small, HI.out.size, HI.out.place, HI.out.free, HI.out.fits⟩
  have HO0 : Hid (Only g w (w.drewN nd)) := ⟨rfl, rfl, rfl, rfl, fun _ _ => rfl⟩
  generalize w.drewN nd = w0 at HI2 HO0 ⊢
  clear HI
  go_loopw [1, 6] (fun a v wr => ∃ c r q : Nat, Hid (c + r = W) ∧ a = .int .i64 r ∧ v = .int .u64 q ∧ Hid (q = M.nextN bs pos c) ∧ Hid (InIs wr g bs (pos + c)) ∧ Hid (Only g w wr)) (fun a _ _ => (intOf a).toNat)
  case atStart => exact ⟨0, W, 0, by show 0 + W = W; omega, rfl, rfl, (M.nextN_zero bs pos).symm, HI2, HO0⟩
  case round =>
    obtain ⟨c, r, q, hcr, rfl, rfl, hq, hin, honly⟩ := hrel
    by_cases hr : 0 < r
    · have hcr1 := hcr.out
      obtain ⟨n, hn⟩ : ∃ n, pos + c = n := ⟨_, rfl⟩
      rw [hn] at hin
      have hn8 : n < 8 * bs.length := by omega
      have hsz := hin.out.size
      have hnl : n / 8 < bs.length := by omega
      obtain ⟨⟨a, cap, hc0, hhold, hag⟩, h8, _, hc1, hf1, _⟩ := hin.out
      obtain ⟨x, hx⟩ : ∃ x, bs[n / 8] = x := ⟨_, rfl⟩
      have hx8 : x < 256 := by rw [← hx]; exact h8 _ (List.getElem_mem hnl)
      obtain ⟨b, off, rfl, hcx⟩ := hhold (n / 8) (.int .u8 (x : Nat)) (by unfold u8s; rw [List.getElem?_map, List.getElem?_eq_getElem hnl, hx]; rfl)
      have hbg : b ≠ g := hag b off rfl
      obtain ⟨p, hp⟩ : ∃ p, n % 8 = p := ⟨_, rfl⟩
      have hand : bits BinOp.and IntKind.i64 (n : Int) 7 = (p : Int) := by rw [← hp]; exact M.and7 n (by omega)
      have hp8 : p < 8 := by omega
      obtain ⟨k, hk⟩ : ∃ k, min (8 - p) r = k := ⟨_, rfl⟩
      have hval := M.get_val bs pos c k p x q (by rw [hn]; exact hnl) (by rw [hn]; exact hp) (by omega) (by simp only [hn]; exact hx) hq.out (by omega)
      have hin2 : ∀ N : Int, N = ((n + k : Nat) : Int) → InIs (wr.setCell ⟨g, 1, none⟩ (.int .i64 N)).drew g bs (pos + (c + k)) := by
        intro N hN
        have ho : Only g wr (wr.setCell ⟨g, 1, none⟩ (.int .i64 N)) := (Only.refl g wr).setCell _ _ _
        refine ⟨⟨_, cap, ?_, ?_, hag⟩, h8, hsz, ?_, ?_, by omega⟩
        · show (wr.setCell ⟨g, 1, none⟩ (.int .i64 N)).cell? _ = _
          rw [World.cell?_setCell_other _ _ _ _ (addr_ne (by omega))]; exact hc0
        · exact hhold.mono fun b' off' y hb' i hy => (World.cell?_of_block (ho.block b' (hag b' off' hb'))).trans hy
        · show (wr.setCell ⟨g, 1, none⟩ (.int .i64 N)).cell? _ = _
          rw [World.cell?_setCell_same _ _ _ hc1, hN]
          exact congrArg (fun z : Nat => some (Value.int .i64 (z : Int))) (by omega)
        · show (wr.setCell ⟨g, 1, none⟩ (.int .i64 N)).frozen? _ = _
          rw [World.frozen?_setCell]; exact hf1
      have HV := Lib.hid hval
      have HIN2 := Lib.hid hin2
      have HK := Lib.hid hk
      have HN := Lib.hid hn
      have hlenI : (n : Int) / 8 < bs.length := by omega
      have hnI : (n : Int) ≤ 8000000 := by omega
      have hr64 : (r : Int) ≤ 64 := by omega
      have hcr2 := Lib.hid hcr1
      clear hval hin2 hk hp hn hhold hag h8 hcr1 hx
      by_cases hk : 8 - p ≤ r
      · have hw8 : IntKind.i64.wrap (8 - (8 - (p : Int))) = (p : Int) := by rw [IntWalk.i64_in _ (by omega)]; omega
        have hkv : k = 8 - p := by have := HK.out; omega
        have HKV := Lib.hid hkv
        clear hkv
        go_wp2
        go_region
        go_wp2
        have hkv := HKV.out
        refine ⟨⟨c + k, r - k, M.nextN bs pos (c + k), ?_, ?_, ?_, rfl, ?_, ?_⟩, ?_⟩
        · show c + k + (r - k) = W; have := hcr2.out; omega
        · exact congrArg (Value.int .i64) (by omega)
        · rw [← HV.out, ← M.part_val, hkv, show 8 - (8 - p) = p by omega]
        · exact HIN2.out _ (by omega)
        · exact (honly.out.setCell _ _ _).drew
        · simp [intOf]; omega
      · have hw8 : IntKind.i64.wrap (8 - (r : Int)) = ((8 - r : Nat) : Int) := by rw [IntWalk.i64_in _ (by omega)]; omega
        have hkv : k = r := by have := HK.out; omega
        have HKV := Lib.hid hkv
        clear hkv
        go_wp2
        go_region
        go_wp2
        have hkv := HKV.out
        refine ⟨⟨c + k, r - k, M.nextN bs pos (c + k), ?_, ?_, ?_, rfl, ?_, ?_⟩, ?_⟩
        · show c + k + (r - k) = W; have := hcr2.out; omega
        · exact congrArg (Value.int .i64) (by omega)
        · rw [← HV.out, ← M.part_val, hkv]
        · exact HIN2.out _ (by omega)
        · exact (honly.out.setCell _ _ _).drew
        · simp [intOf]; omega
    · have hr0 : c = W := by have := hcr.out; omega
      have HR := Lib.hid hr0
      clear hr0
      go_wp2
      go_ret2
      rw [← HR.out]
      exact ⟨by rw [← hq.out]; rfl, hin.out, honly.out⟩
end Go.Proofs.YtfploeefmnbpcaaGreat

/- Package zig: what each call answers. -/
namespace Go.Proofs.YtfploeefmnbpcaaGreat
open Go.RowKit

set_option maxHeartbeats 400000 in
theorem zig_any (n : Int) (w : World) (h1 : -9223372036854775808 ≤ n) (h2 : n ≤ 9223372036854775807) :
    Calls Tryz.prog 110 #[.int .i64 n] w fun e w' => e = .returned (.int .u64 (M.zigS n)) ∧ w = w' := by
  have hv := Lib.hid (M.zig_val n h1 h2)
  go_enter Tryz.func110, Tryz.ntmps110
  go_wp2
  go_ret
  exact ⟨by rw [← hv.out]; rfl, rfl⟩

set_option maxHeartbeats 400000 in
theorem zag_any (n : Int) (w : World) (h1 : 0 ≤ n) (h2 : n ≤ 18446744073709551615) :
    Calls Tryz.prog 111 #[.int .u64 n] w fun e w' => e = .returned (.int .i64 (M.zagS n)) ∧ w = w' := by
  have hv := Lib.hid (M.zag_val n h1 h2)
  go_enter Tryz.func111, Tryz.ntmps111
  go_wp2
  go_ret
  exact ⟨by rw [← hv.out]; rfl, rfl⟩

set_option maxHeartbeats 400000 in
theorem narrow_any (n b : Int) (w : World) :
    Calls Tryz.prog 112 #[.int .i64 n, .int .i64 b] w fun e w' => e = .returned (.int .i64 (M.narrowS n b)) ∧ w = w' := by
  by_cases c1 : b < 1
  · have hv := Lib.hid (show M.narrowS n b = 0 from if_pos (.inl c1))
    go_enter Tryz.func112, Tryz.ntmps112
    go_wp2
    go_ret
    exact ⟨by rw [hv.out]; rfl, rfl⟩
  · by_cases c2 : 64 < b
    · have hv := Lib.hid (show M.narrowS n b = 0 from if_pos (.inr c2))
      go_enter Tryz.func112, Tryz.ntmps112
      go_wp2
      go_ret
      exact ⟨by rw [hv.out]; rfl, rfl⟩
    · have hv := Lib.hid (M.narrow_val n b (by omega) (by omega))
      go_enter Tryz.func112, Tryz.ntmps112
      go_wp2
      go_ret
      exact ⟨by rw [← hv.out]; rfl, rfl⟩

set_option maxHeartbeats 400000 in
theorem turn_any (u b : Int) (w : World) (h1 : 0 ≤ u) (h2 : u ≤ 4294967295) :
    Calls Tryz.prog 113 #[.int .u32 u, .int .i64 b] w fun e w' => e = .returned (.int .u32 (M.turnS u (b % 32))) ∧ w = w' := by
  have hk0 : 0 ≤ b % 32 := by omega
  have hk1 : b % 32 ≤ 31 := by omega
  have hk := M.and31 b
  have hv := Lib.hid (M.turn_val u (b % 32) h1 h2 hk0 hk1)
  generalize b % 32 = k at hk0 hk1 hk hv ⊢
  go_enter Tryz.func113, Tryz.ntmps113
  go_wp2
  go_ret
  exact ⟨by rw [← hv.out]; rfl, rfl⟩

/-- An array of eight bytes. -/
def agg8 (b0 b1 b2 b3 b4 b5 b6 b7 : Int) : Value := .agg #[.int .u8 b0, .int .u8 b1, .int .u8 b2, .int .u8 b3, .int .u8 b4, .int .u8 b5, .int .u8 b6, .int .u8 b7]
/-- Eight bytes of n. -/
def bytes8S (n : Int) : Value := agg8 (M.byteS n 0) (M.byteS n 1) (M.byteS n 2) (M.byteS n 3) (M.byteS n 4) (M.byteS n 5) (M.byteS n 6) (M.byteS n 7)

section
variable (b0 b1 b2 b3 b4 b5 b6 b7 : Int)
end

end Go.Proofs.YtfploeefmnbpcaaGreat

/- Plain words of the reference's Step: lists of bits. No Go text here. -/
namespace Go.Proofs.YtfploeefmnbpcaaGreat
namespace M

/-- The first k bits of r are laid over with those of b. -/
def mixK (r b : List Bool) (k : Nat) : List Bool := (List.range r.length).map fun i => if i < k then (r.getD i false != b.getD i false) else r.getD i false
theorem mixK_length (r b : List Bool) (k : Nat) : (mixK r b k).length = r.length := by simp [mixK]
theorem mixK_zero (r b : List Bool) : mixK r b 0 = r := by
  apply List.ext_getElem
  · simp [mixK]
  · intro i h1 h2
    simp [mixK, List.getD, List.getElem?_eq_getElem h2]
theorem mixK_getD (r b : List Bool) (k i : Nat) (h : i < r.length) : (mixK r b k).getD i false = if i < k then (r.getD i false != b.getD i false) else r.getD i false := by
  rw [List.getD, List.getElem?_eq_getElem (by rw [mixK_length]; exact h)]
  simp [mixK]
theorem mixK_set (r b : List Bool) (k : Nat) (_ : k < r.length) : (mixK r b k).set k (r.getD k false != b.getD k false) = mixK r b (k + 1) := by
  apply List.ext_getElem
  · simp [mixK]
  · intro i h1 h2
    rw [List.getElem_set]
    simp only [mixK, List.getElem_map, List.getElem_range]
    by_cases hik : k = i
    · subst hik; simp
    · rw [if_neg hik]
      by_cases hlt : i < k
      · rw [if_pos hlt, if_pos (by omega)]
      · rw [if_neg hlt, if_neg (by omega)]

def polyL : List Bool := bitsOf 1947962583 32
/-- One bit further. -/
def turnL (r : List Bool) : List Bool := r.drop 1 ++ [false]
def roundL (r : List Bool) : List Bool := if r.getD 0 false = true then mixK (turnL r) polyL 32 else turnL r
def roundsL : Nat → List Bool → List Bool
  | 0, r => r
  | k + 1, r => roundL (roundsL k r)
/-- The reference's Step. -/
def stepL (s x : Nat) : Nat := num (roundsL 8 (mixK (bitsOf s 32) (bitsOf x 8) 8))

theorem stepL_def (s x : Nat) : stepL s x = num (roundsL 8 (mixK (bitsOf s 32) (bitsOf x 8) 8)) := rfl
theorem roundsL_zero (r : List Bool) : roundsL 0 r = r := rfl
theorem roundsL_succ (k : Nat) (r : List Bool) : roundsL (k + 1) r = roundL (roundsL k r) := rfl
theorem turnL_length (r : List Bool) (h : r.length = 32) : (turnL r).length = 32 := by simp [turnL, h]
theorem roundL_length (r : List Bool) (h : r.length = 32) : (roundL r).length = 32 := by
  unfold roundL; split
  · rw [mixK_length]; exact turnL_length r h
  · exact turnL_length r h
theorem roundsL_length (k : Nat) (r : List Bool) (h : r.length = 32) : (roundsL k r).length = 32 := by
  induction k with
  | zero => exact h
  | succ k ih => exact roundL_length _ ih

end M
end Go.Proofs.YtfploeefmnbpcaaGreat

/- The reference's Step. -/
namespace Go.Proofs.YtfploeefmnbpcaaGreat
open Go.RowKit

def bools (l : List Bool) : List Value := l.map Value.bool
theorem bools_at {l : List Bool} {i : Nat} (h : i < l.length) : (bools l)[i]? = some (.bool (l.getD i false)) := by
  unfold bools
  rw [List.getElem?_map, List.getElem?_eq_getElem h]
  simp [List.getD, List.getElem?_eq_getElem h]
theorem bools_set (l : List Bool) (i : Nat) (b : Bool) : (bools l).set i (.bool b) = bools (l.set i b) := by
  unfold bools; rw [List.map_set]
theorem own_cell {w : World} {B n g cap : Nat} {l : List Bool} {i : Nat} (h : w.ownsRow B 4 1 (.slice (some ⟨g, 0, none⟩) n cap) n (bools l)) (hi : i < l.length) :
    w.cell? ⟨g, i, none⟩ = some (.bool (l.getD i false)) := by
  have := h.cells rfl i _ (bools_at hi)
  by_cases h0 : i = 0
  · subst h0; simpa [Addr.add] using this
  · simpa [Addr.add, h0] using this
theorem own_length {w : World} {B n : Nat} {v : Value} {l : List Bool} (h : w.ownsRow B 4 1 v n (bools l)) : l.length = n := by
  have := h.1; simpa [bools] using this
theorem own_free {w : World} {B n g cap i : Nat} {l : List Value} (h : w.ownsRow B 4 1 (.slice (some ⟨g, 0, none⟩) n cap) n l) :
    w.frozen? ⟨g, i, none⟩ = false := by
  rcases h.2 with ⟨h', _⟩ | ⟨g', cap', cur, h', _, hh, r⟩
  · cases h'
  · injection h' with h1; injection h1 with h1; injection h1 with h1 h2; subst h1
    simp [World.frozen?, hh]
theorem own_kept {w : World} {B n g2 j : Nat} {v : Value} {l : List Value} {u : Value} (h : w.ownsRow B 4 1 v n l) (hg : v.ownBlock ≠ some g2) :
    (w.setCell ⟨g2, j, none⟩ u).ownsRow B 4 1 v n l := by
  obtain ⟨h1, h2⟩ := h
  refine ⟨h1, ?_⟩
  rcases h2 with h2 | ⟨g, cap, cur, hv, hg', hh, r⟩
  · exact .inl h2
  · exact .inr ⟨g, cap, cur, hv, hg', by rw [Below.heap_setCell _ _ _ _ (by intro e; apply hg; rw [hv]; exact congrArg some e)]; exact hh, r⟩
theorem own_base {w : World} {B B' n : Nat} {v : Value} {l : List Value} (h : w.ownsRow B' 4 1 v n l) (hB : B ≤ B') : w.ownsRow B 4 1 v n l := by
  obtain ⟨h1, h2⟩ := h
  rcases h2 with h2 | ⟨g, cap, cur, hv, hg', r⟩
  · exact ⟨h1, .inl h2⟩
  · exact ⟨h1, .inr ⟨g, cap, cur, hv, Nat.le_trans hB hg', r⟩⟩
theorem own_drew {w : World} {B n : Nat} {v : Value} {l : List Value} (h : w.ownsRow B 4 1 v n l) : w.drew.ownsRow B 4 1 v n l := h

attribute [local irreducible] M.stepL M.roundsL M.mixK M.turnL

inductive StepRel (B g3 cap3 : Nat) (R0 : List Bool) (w : World) (v j : Value) (wq : World) : Prop
  | mk (k g cap : Nat) (hk : k ≤ 8) (hj : j = .int .i64 k) (hv : v = .slice (some ⟨g, 0, none⟩) 32 cap) (hB : B ≤ g) (hg : g ≠ g3) (hc : 32 ≤ cap) (hm : cap ≤ 9223372036854775807)
    (row : Hid (wq.ownsRow B 4 1 (.slice (some ⟨g, 0, none⟩) 32 cap) 32 (bools (M.roundsL k R0)))) (pol : Hid (wq.ownsRow B 4 1 (.slice (some ⟨g3, 0, none⟩) 32 cap3) 32 (bools M.polyL))) (bel : Hid (Below B w wq))

end Go.Proofs.YtfploeefmnbpcaaGreat

/- The reference's Sum. -/
namespace Go.Proofs.YtfploeefmnbpcaaGreat
open Go.RowKit

attribute [local irreducible] M.stepL

def sumL (bs : List Nat) : Nat := bs.foldl M.stepL 4294967295
theorem stepL_lt (s x : Nat) : M.stepL s x < 4294967296 := by
  rw [M.stepL_def]
  have h := M.num_lt (M.roundsL 8 (M.mixK (M.bitsOf s 32) (M.bitsOf x 8) 8))
  rw [M.roundsL_length _ _ (by rw [M.mixK_length, M.bitsOf_length])] at h
  exact h
theorem foldl_bound (f : Nat → Nat → Nat) (N : Nat) (hf : ∀ s x, f s x < N) (bs : List Nat) (s : Nat) (hs : s < N) : bs.foldl f s < N := by
  induction bs generalizing s with
  | nil => exact hs
  | cons b bs ih => rw [List.foldl_cons]; exact ih _ (hf s b)
theorem sumL_lt (bs : List Nat) : sumL bs < 4294967296 := foldl_bound M.stepL 4294967296 stepL_lt bs 4294967295 (by omega)
theorem sumL_snoc (bs : List Nat) (x : Nat) : sumL (bs ++ [x]) = M.stepL (sumL bs) x := by unfold sumL; rw [List.foldl_append]; rfl

end Go.Proofs.YtfploeefmnbpcaaGreat

/- Sums of thirty-two bits: the shift register as a map over GF(2). No Go text here. -/
namespace Go.Proofs.YtfploeefmnbpcaaGreat
namespace M

abbrev B32 := BitVec 32
def polyV : B32 := 0x741b8cd7#32
/-- One shift. -/
def tV (s : B32) : B32 := (s <<< 1) ^^^ (if s.msb then polyV else 0#32)
def tK : Nat → B32 → B32
  | 0, s => s
  | k + 1, s => tK k (tV s)

theorem tV_xor (a b : B32) : tV (a ^^^ b) = tV a ^^^ tV b := by
  unfold tV
  rw [BitVec.shiftLeft_xor_distrib, BitVec.msb_xor]
  cases a.msb <;> cases b.msb
  · simp
  · simp; rw [BitVec.xor_assoc]
  · simp; rw [BitVec.xor_assoc, BitVec.xor_assoc, BitVec.xor_comm polyV]
  · simp
    rw [BitVec.xor_assoc, BitVec.xor_comm (b <<< 1) polyV, ← BitVec.xor_assoc polyV polyV, BitVec.xor_self, BitVec.zero_xor]
theorem tV_zero : tV 0#32 = 0#32 := by decide
theorem tV_ne (s : B32) (h : tV s = 0#32) : s = 0#32 := by
  unfold tV at h
  by_cases hm : s.msb = true
  · rw [if_pos hm] at h
    have := congrArg (fun v : B32 => v.getLsbD 0) h
    simp [polyV] at this
  · rw [if_neg hm, BitVec.xor_zero] at h
    apply BitVec.eq_of_getLsbD_eq
    intro i hi
    by_cases h31 : i = 31
    · subst h31
      have : s.getLsbD 31 = false := by
        have := hm; rw [BitVec.msb_eq_getLsbD_last] at this; simpa using this
      rw [this]; simp
    · have := congrArg (fun v : B32 => v.getLsbD (i + 1)) h
      simp [BitVec.getLsbD_shiftLeft] at this
      rw [this (by omega)]; simp
theorem tK_xor (k : Nat) (a b : B32) : tK k (a ^^^ b) = tK k a ^^^ tK k b := by
  induction k generalizing a b with
  | zero => rfl
  | succ k ih => simp only [tK]; rw [tV_xor, ih]
theorem tK_zero (k : Nat) : tK k 0#32 = 0#32 := by
  induction k with
  | zero => rfl
  | succ k ih => simp only [tK]; rw [tV_zero, ih]
theorem tK_ne (k : Nat) (s : B32) (h : tK k s = 0#32) : s = 0#32 := by
  induction k generalizing s with
  | zero => exact h
  | succ k ih => exact tV_ne s (ih _ h)
theorem tK_add (j k : Nat) (s : B32) : tK (j + k) s = tK k (tK j s) := by
  induction j generalizing s with
  | zero => simp [tK]
  | succ j ih => rw [show j + 1 + k = (j + k) + 1 by omega]; simp only [tK]; rw [ih]

/-- Bits, the first at the top. -/
def topV (l : List Bool) : B32 := BitVec.ofNat 32 (num l * 2 ^ (32 - l.length))
def bitV (b : Bool) : B32 := if b then 0x80000000#32 else 0#32
/-- Bit by bit. -/
def feedB (s : B32) (l : List Bool) : B32 := l.foldl (fun s b => tV (s ^^^ bitV b)) s

theorem xor_top (y : Nat) (h : y < 2147483648) : 2147483648 ^^^ y = 2147483648 + y := by
  rw [← nat_join 31 2147483648 y (by decide) h]
  apply Nat.eq_of_testBit_eq
  intro i
  rw [Nat.testBit_xor, Nat.testBit_or, show 2147483648 = 2 ^ 31 from rfl, Nat.testBit_two_pow]
  by_cases hi : 31 = i
  · subst hi
    rw [Nat.testBit_lt_two_pow h]; simp
  · simp [hi]

theorem topV_toNat (l : List Bool) (h : l.length ≤ 32) : (topV l).toNat = num l * 2 ^ (32 - l.length) := by
  unfold topV
  rw [BitVec.toNat_ofNat]
  have h2 := num_lt l
  have h3 : 2 ^ l.length * 2 ^ (32 - l.length) = 2 ^ 32 := by rw [← Nat.pow_add]; congr 1; omega
  have h4 : num l * 2 ^ (32 - l.length) < 2 ^ 32 := by rw [← h3]; exact Nat.mul_lt_mul_of_pos_right h2 (Nat.pow_pos (by omega))
  exact Nat.mod_eq_of_lt h4
theorem topV_half (l : List Bool) (h : l.length ≤ 31) : (topV l >>> 1).toNat = num l * 2 ^ (31 - l.length) ∧ num l * 2 ^ (31 - l.length) < 2147483648 := by
  rw [BitVec.toNat_ushiftRight, topV_toNat l (by omega), Nat.shiftRight_eq_div_pow]
  have e : 2 ^ (32 - l.length) = 2 ^ (31 - l.length) * 2 := by rw [← Nat.pow_succ]; congr 1; omega
  have h2 := num_lt l
  have h3 : 2 ^ l.length * 2 ^ (31 - l.length) = 2 ^ 31 := by rw [← Nat.pow_add]; congr 1; omega
  have h4 : num l * 2 ^ (31 - l.length) < 2 ^ 31 := by rw [← h3]; exact Nat.mul_lt_mul_of_pos_right h2 (Nat.pow_pos (by omega))
  refine ⟨?_, h4⟩
  rw [e, ← Nat.mul_assoc, Nat.pow_one, Nat.mul_div_cancel _ (by omega)]

theorem bitV_top (b : Bool) (l : List Bool) (h : l.length ≤ 31) : topV (b :: l) = bitV b ^^^ (topV l >>> 1) := by
  apply BitVec.eq_of_toNat_eq
  obtain ⟨h1, h2⟩ := topV_half l h
  have hn : num (b :: l) = b.toNat * 2 ^ l.length + num l := by
    have := num_append [b] l
    simpa [num, step] using this
  have h3 : 2 ^ l.length * 2 ^ (31 - l.length) = 2147483648 := by rw [← Nat.pow_add, show l.length + (31 - l.length) = 31 by omega]
  rw [topV_toNat _ (by rw [List.length_cons]; omega), BitVec.toNat_xor, h1, hn, List.length_cons, show 32 - (l.length + 1) = 31 - l.length by omega, Nat.add_mul, Nat.mul_assoc, h3]
  cases b
  · simp [bitV]
  · rw [show (bitV true).toNat = 2147483648 from rfl, xor_top _ h2]; simp
theorem tV_half (l : List Bool) (h : l.length ≤ 31) : tV (topV l >>> 1) = topV l := by
  obtain ⟨h1, h2⟩ := topV_half l h
  have hm : (topV l >>> 1).msb = false := by
    rw [BitVec.msb_eq_decide, h1]; simp; omega
  unfold tV
  rw [if_neg (by rw [hm]; simp), BitVec.xor_zero]
  apply BitVec.eq_of_toNat_eq
  rw [BitVec.toNat_shiftLeft, h1, topV_toNat l (by omega), Nat.shiftLeft_eq]
  have e : 2 ^ (32 - l.length) = 2 ^ (31 - l.length) * 2 := by rw [← Nat.pow_succ]; congr 1; omega
  rw [e, Nat.pow_one, Nat.mul_assoc] 
  exact Nat.mod_eq_of_lt (by rw [← Nat.mul_assoc]; omega)

theorem feed_top (l : List Bool) (s : B32) (h : l.length ≤ 32) : feedB s l = tK l.length (s ^^^ topV l) := by
  induction l generalizing s with
  | nil => simp [feedB, tK, topV, num]
  | cons b l ih =>
    have hl : l.length ≤ 31 := by simpa using h
    show feedB (tV (s ^^^ bitV b)) l = _
    rw [ih _ (by omega), bitV_top b l hl, List.length_cons]
    simp only [tK]
    rw [← BitVec.xor_assoc, tV_xor (s ^^^ bitV b), tV_half l hl]

theorem feed_append (a b : List Bool) (s : B32) : feedB s (a ++ b) = feedB (feedB s a) b := by unfold feedB; rw [List.foldl_append]
theorem feed_zeros (k : Nat) (s : B32) : feedB s (List.replicate k false) = tK k s := by
  induction k generalizing s with
  | zero => rfl
  | succ k ih =>
    rw [List.replicate_succ]
    show feedB (tV (s ^^^ bitV false)) (List.replicate k false) = _
    rw [ih]
    simp [tK, bitV]
theorem topV_ne (l : List Bool) (h : l.length ≤ 32) (hn : num l ≠ 0) : topV l ≠ 0#32 := by
  intro e
  have h1 := congrArg BitVec.toNat e
  unfold topV at h1
  rw [BitVec.toNat_ofNat] at h1
  have h2 := num_lt l
  have h3 : 2 ^ l.length * 2 ^ (32 - l.length) = 2 ^ 32 := by rw [← Nat.pow_add]; congr 1; omega
  have h4 : num l * 2 ^ (32 - l.length) < 2 ^ 32 := by rw [← h3]; exact Nat.mul_lt_mul_of_pos_right h2 (Nat.pow_pos (by omega))
  rw [Nat.mod_eq_of_lt h4] at h1
  have : 0 < 2 ^ (32 - l.length) := Nat.pow_pos (by omega)
  rcases Nat.mul_eq_zero.1 (show num l * 2 ^ (32 - l.length) = 0 by simpa using h1) with h5 | h5
  · exact hn h5
  · omega

/-- A burst of at most thirty-two bits, noughts ahead of it and behind it, leaves something. -/
theorem burst (j k : Nat) (l : List Bool) (h : l.length ≤ 32) (hn : num l ≠ 0) : feedB 0#32 (List.replicate j false ++ l ++ List.replicate k false) ≠ 0#32 := by
  rw [feed_append, feed_append, feed_zeros, feed_zeros, tK_zero, feed_top l _ h, BitVec.zero_xor]
  intro e
  exact topV_ne l h hn (tK_ne _ _ (tK_ne _ _ e))

theorem bitsOf_getD (u w i : Nat) (h : i < w) : (bitsOf u w).getD i false = u.testBit (w - 1 - i) := by
  have e1 : (bitsOf u w).drop i = bitsOf u (w - i) := by
    have := bitsOf_drop u (w - i) i
    rwa [show i + (w - i) = w by omega] at this
  have e2 : (bitsOf u w).getD i false = ((bitsOf u w).drop i).getD 0 false := by
    simp [List.getD]
  rw [e2, e1]
  obtain ⟨k, hk⟩ : ∃ k, w - i = k + 1 := ⟨w - i - 1, by omega⟩
  rw [hk, bitsOf_cons, show w - 1 - i = k by omega]
  simp only [List.getD, List.getElem?_cons_zero, Option.getD_some]
  rw [Nat.testBit_eq_decide_div_mod_eq]
  rw [Bool.eq_iff_iff]; simp
def lst (v : B32) : List Bool := bitsOf v.toNat 32
theorem lst_length (v : B32) : (lst v).length = 32 := bitsOf_length _ _
theorem num_lst (v : B32) : num (lst v) = v.toNat := by
  unfold lst; rw [num_bitsOf]; exact Nat.mod_eq_of_lt v.isLt
theorem lst_getD (v : B32) (i : Nat) (h : i < 32) : (lst v).getD i false = v.getLsbD (31 - i) := by
  unfold lst; rw [bitsOf_getD _ _ _ h]; rfl
theorem ext_getD {a b : List Bool} (hl : a.length = b.length) (h : ∀ i, i < a.length → a.getD i false = b.getD i false) : a = b := by
  apply List.ext_getElem hl
  intro i h1 h2
  have := h i h1
  simpa [List.getD, List.getElem?_eq_getElem h1, List.getElem?_eq_getElem h2] using this
theorem topV_bits (x : Nat) (hx : x < 256) : topV (bitsOf x 8) = BitVec.ofNat 32 (x * 16777216) := by
  unfold topV; rw [num_bitsOf, bitsOf_length]
  rw [show x % 2 ^ 8 = x from Nat.mod_eq_of_lt hx]

theorem mix_lst (s : B32) (x : Nat) (hx : x < 256) : mixK (lst s) (bitsOf x 8) 8 = lst (s ^^^ topV (bitsOf x 8)) := by
  apply ext_getD
  · rw [mixK_length, lst_length, lst_length]
  · intro i hi
    rw [mixK_length, lst_length] at hi
    rw [mixK_getD _ _ _ _ (by rw [lst_length]; exact hi), lst_getD _ _ hi, lst_getD _ _ hi, BitVec.getLsbD_xor, topV_bits x hx]
    have e : (BitVec.ofNat 32 (x * 16777216)).getLsbD (31 - i) = (if i < 8 then x.testBit (7 - i) else false) := by
      rw [BitVec.getLsbD_ofNat, show x * 16777216 = x * 2 ^ 24 from rfl, Nat.testBit_mul_two_pow]
      by_cases h8 : i < 8
      · rw [if_pos h8]; simp [show 31 - i < 32 by omega, show 24 ≤ 31 - i by omega, show 31 - i - 24 = 7 - i by omega]
      · rw [if_neg h8]; simp [show ¬ 24 ≤ 31 - i by omega]
    rw [e]
    by_cases h8 : i < 8
    · rw [if_pos h8, if_pos h8, bitsOf_getD _ _ _ h8]
    · rw [if_neg h8, if_neg h8]; simp

theorem turn_getD (v : B32) (i : Nat) (h : i < 32) : (turnL (lst v)).getD i false = (v <<< 1).getLsbD (31 - i) := by
  unfold turnL
  rw [BitVec.getLsbD_shiftLeft]
  have hd : ((lst v).drop 1).length = 31 := by rw [List.length_drop, lst_length]
  by_cases h31 : i < 31
  · have : ((lst v).drop 1 ++ [false]).getD i false = (lst v).getD (i + 1) false := by
      simp only [List.getD]
      rw [List.getElem?_append_left (by omega), List.getElem?_drop, Nat.add_comm]
    rw [this, lst_getD _ _ (by omega)]
    simp [show 31 - i < 32 by omega, show ¬ (31 - i < 1) by omega, show 31 - (i + 1) = 31 - i - 1 by omega]
  · have e : i = 31 := by omega
    subst e
    simp only [List.getD]
    rw [List.getElem?_append_right (by omega), hd]; simp

theorem poly_lst : polyL = lst polyV := by unfold polyL lst; rfl

theorem round_lst (v : B32) : roundL (lst v) = lst (tV v) := by
  have ht : (turnL (lst v)).length = 32 := turnL_length _ (lst_length v)
  have hm : (lst v).getD 0 false = v.msb := by rw [lst_getD _ _ (by omega), BitVec.msb_eq_getLsbD_last]
  unfold roundL tV
  rw [hm]
  apply ext_getD
  · split
    · rw [mixK_length, ht, lst_length]
    · rw [ht, lst_length]
  · intro i hi
    have hi32 : i < 32 := by
      split at hi
      · rw [mixK_length, ht] at hi; exact hi
      · rw [ht] at hi; exact hi
    rw [lst_getD _ _ hi32, BitVec.getLsbD_xor]
    by_cases hb : v.msb = true
    · rw [if_pos hb, if_pos hb, mixK_getD _ _ _ _ (by rw [ht]; exact hi32), if_pos hi32, turn_getD _ _ hi32, poly_lst, lst_getD _ _ hi32]
    · rw [if_neg hb, if_neg hb, turn_getD _ _ hi32]; simp
theorem rounds_lst (k : Nat) (v : B32) : roundsL k (lst v) = lst (tK k v) := by
  induction k with
  | zero => rfl
  | succ k ih => rw [roundsL_succ, ih, round_lst, tK_add k 1]; rfl

/-- The reference's Step, as a shift register. -/
theorem stepL_V (s : B32) (x : Nat) (hx : x < 256) : stepL s.toNat x = (tK 8 (s ^^^ topV (bitsOf x 8))).toNat := by
  rw [stepL_def]
  show num (roundsL 8 (mixK (lst s) (bitsOf x 8) 8)) = _
  rw [mix_lst s x hx, rounds_lst, num_lst]
theorem stepL_feed (s : B32) (x : Nat) (hx : x < 256) : stepL s.toNat x = (feedB s (bitsOf x 8)).toNat := by
  rw [stepL_V s x hx, feed_top _ _ (by rw [bitsOf_length]; omega), bitsOf_length]

def xorL (a b : List Bool) : List Bool := List.zipWith (fun x y => x != y) a b
theorem bitV_xor (a b : Bool) : bitV (a != b) = bitV a ^^^ bitV b := by cases a <;> cases b <;> decide
theorem feed_xor (a b : List Bool) (s t : B32) (h : a.length = b.length) : feedB (s ^^^ t) (xorL a b) = feedB s a ^^^ feedB t b := by
  induction a generalizing b s t with
  | nil =>
    have : b = [] := List.length_eq_zero_iff.1 h.symm
    subst this; rfl
  | cons x a ih =>
    cases b with
    | nil => cases h
    | cons y b =>
      show feedB (tV (s ^^^ t ^^^ bitV (x != y))) (xorL a b) = feedB (tV (s ^^^ bitV x)) a ^^^ feedB (tV (t ^^^ bitV y)) b
      rw [← ih b _ _ (by simpa using h), ← tV_xor, bitV_xor]
      congr 2
      rw [BitVec.xor_assoc, BitVec.xor_assoc, ← BitVec.xor_assoc t, BitVec.xor_comm t, BitVec.xor_assoc (bitV x)]
theorem foldl_feed (bs : List Nat) (s : B32) (h : ∀ x ∈ bs, x < 256) : bs.foldl stepL s.toNat = (feedB s (ofN bs)).toNat := by
  induction bs generalizing s with
  | nil => rfl
  | cons x bs ih =>
    rw [List.foldl_cons, stepL_feed s x (h x (by simp)), ih _ (fun y hy => h y (by simp [hy])), ofN_cons, feed_append]

end M
end Go.Proofs.YtfploeefmnbpcaaGreat

/- Package koop: what each call answers. -/
namespace Go.Proofs.YtfploeefmnbpcaaGreat
open Go.RowKit
namespace M

theorem tV_low (s : B32) (h : ((s.toNat : Int) / 2147483648 == 1) = false) : ((s.toNat : Int) * 2 % 4294967296) = ((tV s).toNat : Int) := by
  have hs := s.isLt
  have hm : s.msb = false := by
    rw [BitVec.msb_eq_decide]
    have : ¬ ((s.toNat : Int) / 2147483648 = 1) := by simpa using h
    simp; omega
  unfold tV
  rw [if_neg (by rw [hm]; simp), BitVec.xor_zero, BitVec.toNat_shiftLeft, Nat.shiftLeft_eq]
  omega
theorem tV_high (s : B32) (h : ((s.toNat : Int) / 2147483648 == 1) = true) : bits BinOp.xor IntKind.u32 ((s.toNat : Int) * 2 % 4294967296) 1947962583 = ((tV s).toNat : Int) := by
  have hs := s.isLt
  have hm : s.msb = true := by
    rw [BitVec.msb_eq_decide]
    have : ((s.toNat : Int) / 2147483648 = 1) := by simpa using h
    simp; omega
  unfold tV
  rw [if_pos hm, BitVec.toNat_xor, BitVec.toNat_shiftLeft, Nat.shiftLeft_eq]
  have e : ((s.toNat : Int) * 2 % 4294967296) = ((s.toNat * 2 % 4294967296 : Nat) : Int) := by omega
  rw [e, show (1947962583 : Int) = ((1947962583 : Nat) : Int) from rfl, u32_xor_nat _ _ (by omega) (by omega)]
  rfl

theorem step_in (s : B32) (x : Nat) (hx : x < 256) : bits BinOp.xor IntKind.u32 (s.toNat : Int) ((x : Int) * 16777216) = ((s ^^^ topV (bitsOf x 8)).toNat : Int) := by
  have hs := s.isLt
  rw [topV_bits x hx, BitVec.toNat_xor, BitVec.toNat_ofNat]
  have e : ((x : Int) * 16777216) = ((x * 16777216 : Nat) : Int) := by omega
  rw [e, u32_xor_nat _ _ (by omega) (by omega), Nat.mod_eq_of_lt (a := x * 16777216) (by omega)]
theorem tK_next (k : Nat) (s : B32) : tV (tK k s) = tK (k + 1) s := by rw [tK_add k 1]; rfl

/-- One byte on. -/
def stepV (s : B32) (x : Nat) : B32 := tK 8 (s ^^^ topV (bitsOf x 8))
theorem stepL_stepV (s : B32) (x : Nat) (hx : x < 256) : stepL s.toNat x = (stepV s x).toNat := stepL_V s x hx
def sumV (s : B32) (bs : List Nat) : B32 := bs.foldl stepV s
def zeroV (s : B32) : Nat → B32
  | 0 => s
  | k + 1 => stepV (zeroV s k) 0
theorem zeroV_add (s : B32) (m n : Nat) : zeroV (zeroV s m) n = zeroV s (m + n) := by
  induction n with
  | zero => rfl
  | succ n ih => rw [← Nat.add_assoc]; simp only [zeroV]; rw [ih]
theorem sumV_take (s : B32) (bs : List Nat) (k : Nat) (h : k < bs.length) : sumV s (bs.take (k + 1)) = stepV (sumV s (bs.take k)) bs[k] := by
  unfold sumV; rw [List.take_succ_eq_append_getElem h, List.foldl_append]; rfl
end M

set_option maxHeartbeats 400000 in
theorem shift_any (s : M.B32) (w : World) :
    Calls Tryz.prog 135 #[.int .u32 s.toNat] w fun e w' => e = .returned (.int .u32 (M.tV s).toNat) ∧ w = w' := by
  have h1 := s.isLt
  go_enter Tryz.func135, Tryz.ntmps135
  go_wp2
  all_goals rename_i h
  all_goals first
    | (have hv := M.tV_low s h; go_ret; exact ⟨by rw [← hv]; rfl, rfl⟩)
    | (have hv := M.tV_high s h; go_ret; exact ⟨by rw [← hv]; rfl, rfl⟩)

set_option maxHeartbeats 400000 in
theorem kstep_any (s : M.B32) (x : Nat) (w : World) (hx : x < 256) :
    Calls Tryz.prog 117 #[.int .u32 s.toNat, .int .u8 x] w fun e w' => e = .returned (.int .u32 (M.stepV s x).toNat) ∧ w = w' := by
  have h1 := s.isLt
  have h2 := Lib.hid (M.step_in s x hx)
  go_enter Tryz.func117, Tryz.ntmps117
  go_wp2
  go_loop [0, 10] (fun r i => ∃ k : Nat, k ≤ 8 ∧ i = .int .i64 k ∧ r = .int .u32 (M.tK k (s ^^^ M.topV (M.bitsOf x 8))).toNat) (fun _ i => (8 - intOf i).toNat)
  case atStart => exact ⟨0, Nat.zero_le _, rfl, by rw [h2.out]; rfl⟩
  case round =>
    obtain ⟨k, hk, rfl, rfl⟩ := hrel
    by_cases hlt : k < 8
    · go_wp2_with (go_at_call 135; refine (shift_any _ _).mono ?_; rintro e w' ⟨rfl, rfl⟩)
      go_round
      case rel => exact ⟨k + 1, by omega, by go_num, by rw [M.tK_next]⟩
      case measure => simp [intOf]; omega
    · obtain rfl : k = 8 := by omega
      go_wp2
      go_ret
      exact ⟨rfl, rfl⟩

set_option maxHeartbeats 400000 in
theorem kof_any (bs : List Nat) (n : Nat) (a : Option Addr) (cap : Nat) (w : World) (hn : bs.length = n) (hl : n ≤ 1000000) (hb8 : ∀ x ∈ bs, x < 256) (hh : Holds w a (u8s bs)) :
    Calls Tryz.prog 116 #[.slice a n cap] w fun e w' => e = .returned (.int .u32 (M.sumV 0xffffffff#32 bs).toNat) ∧ w = w' := by
  have hH := Lib.hid hh
  have Hn := Lib.hid hn
  have H8 := Lib.hid hb8
  clear hn hh hb8
  go_enter Tryz.func116, Tryz.ntmps116
  go_wp2
  go_loop [3, 8] (fun r i => ∃ k : Nat, k ≤ n ∧ i = .int .i64 k ∧ r = .int .u32 (M.sumV 0xffffffff#32 (bs.take k)).toNat) (fun _ i => (n - intOf i).toNat)
  case atStart => exact ⟨0, Nat.zero_le _, rfl, rfl⟩
  case round =>
    obtain ⟨k, hk, rfl, rfl⟩ := hrel
    by_cases hlt : k < n
    · have hkl : k < bs.length := by rw [Hn.out]; exact hlt
      obtain ⟨b, off, rfl, hc⟩ := hH.out k (.int .u8 (bs[k] : Nat)) (by unfold u8s; rw [List.getElem?_map, List.getElem?_eq_getElem hkl]; rfl)
      have hx8 : bs[k] < 256 := H8.out _ (List.getElem_mem hkl)
      have HX := Lib.hid (M.sumV_take 0xffffffff#32 bs k hkl)
      generalize bs[k] = x at hc hx8 HX
      go_wp2_with (go_at_call 117; refine (kstep_any _ x _ hx8).mono ?_; rintro e w' ⟨rfl, rfl⟩)
      go_round
      case rel => exact ⟨k + 1, by omega, by go_num, by rw [HX.out]⟩
      case measure => simp [intOf]; omega
    · obtain rfl : k = n := by omega
      go_wp2
      go_ret
      exact ⟨by rw [List.take_of_length_le (by rw [Hn.out]; omega)]; rfl, rfl⟩

theorem u32_vec (s : Int) (h : (Lit.int .u32 s).wf = true) : ∃ S : M.B32, s = (S.toNat : Int) := by
  obtain ⟨t1, t2⟩ : 0 ≤ s ∧ s ≤ 4294967295 := by simpa [Lit.wf, IntKind.min, IntKind.max, IntKind.signed, IntKind.bits] using h
  exact ⟨BitVec.ofNat 32 s.toNat, by rw [BitVec.toNat_ofNat]; omega⟩
theorem u8_nat (x : Int) (h : (Lit.int .u8 x).wf = true) : ∃ X : Nat, x = (X : Int) ∧ X < 256 := by
  obtain ⟨t1, t2⟩ : 0 ≤ x ∧ x ≤ 255 := by simpa [Lit.wf, IntKind.min, IntKind.max, IntKind.signed, IntKind.bits] using h
  exact ⟨x.toNat, by omega, by omega⟩
end Go.Proofs.YtfploeefmnbpcaaGreat

/- What the guard asks of koop and lane: single calls. -/
namespace Go.Proofs.YtfploeefmnbpcaaGreat
open Go.RowKit

theorem g_kof (w : World) : Calls Tryz.prog 116 #[.slice none 0 0] w fun e w' => e = .returned (.int .u32 4294967295) ∧ w = w' := by
  have h := kof_any [] 0 none 0 w rfl (by omega) (fun x hx => by simp at hx) (fun i x hx => by simp [u8s] at hx)
  rwa [show (((M.sumV 0xffffffff#32 []).toNat : Nat) : Int) = 4294967295 from by decide] at h
theorem g_kstep (w : World) : Calls Tryz.prog 117 #[.int .u32 0, .int .u8 128] w fun e w' => e = .returned (.int .u32 1394846057) ∧ w = w' := by
  have h := kstep_any 0#32 128 w (by omega)
  rwa [show (((M.stepV 0#32 128).toNat : Nat) : Int) = 1394846057 from by decide +kernel] at h
theorem g_all (w : World) : Calls Tryz.prog 118 #[.int .i64 3] w fun e w' => e = .returned (.int .i64 7) ∧ w = w' := all_yes 3 w (by omega)
theorem g_at (w : World) : Calls Tryz.prog 97 #[.int .i64 6, .int .i64 0] w fun e w' => e = .returned (.int .i64 1) ∧ w = w' := by
  have h := at_yes 6 0 w (by omega) (by decide +kernel)
  rwa [show M.atN 6 0 = 1 from by decide +kernel] at h
theorem g_spot (w : World) : Calls Tryz.prog 99 #[.int .i64 6, .int .i64 2] w fun e w' => e = .returned (.int .i64 1) ∧ w = w' := by
  have h := spot_any 6 2 w
  rwa [show spotS 6 2 = 1 from by decide +kernel] at h
theorem g_count (w : World) : Calls Tryz.prog 96 #[.int .i64 6] w fun e w' => e = .returned (.int .i64 2) ∧ w = w' := by
  have h := count_yes 6 w (by omega)
  rwa [show M.popN 6 = 2 from by decide +kernel] at h
end Go.Proofs.YtfploeefmnbpcaaGreat
