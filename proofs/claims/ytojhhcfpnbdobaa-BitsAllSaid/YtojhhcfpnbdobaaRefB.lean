/- The reference's Bits. -/
import Derived.Test.YtojhhcfpnbdobaaRef
namespace Go.Proofs.Ytojhhcfpnbdobaa
open Go.RowKit

theorem Try.infoBool : (Try.prog.info? 4).map (fun i => (i.zero, i.size, i.bytes)) = some (some (.bool false), 1, 1) := by kernel_rfl

/-- 2 to the m, as the walk carries it. -/
def P2 (m : Nat) : Int := ((2 ^ m : Nat) : Int)
theorem P2_pos (m : Nat) : 1 ≤ P2 m := by
  unfold P2; have : 0 < 2 ^ m := Nat.pow_pos (by omega)
  omega

theorem pow_nat (m : Nat) (w : World) (h2 : m ≤ 63) :
    Calls Try.prog 60 #[.int .i64 m] w fun e w' => e = .returned (.int .u64 (P2 m)) ∧ w = w' := by
  have h := pow_any m w (by omega) (by omega)
  rw [Int.toNat_natCast] at h
  exact h

/-- The k first of W bits of u, told as values. -/
def bitVals (u W k : Nat) : List Value := (M.bitsOf (u / 2 ^ (W - k)) k).map Value.bool

theorem bitVals_snoc (u W k j : Nat) (h : k + (j + 1) = W) : bitVals u W k ++ [Value.bool ((u : Int) / P2 j % 2 == 1)] = bitVals u W (k + 1) := by
  unfold bitVals
  have e1 : W - (k + 1) = j := by omega
  have e2 : W - k = j + 1 := by omega
  rw [e1, e2, M.bitsOf, List.map_append]
  have e3 : u / 2 ^ (j + 1) = u / 2 ^ j / 2 := by rw [Nat.pow_succ, Nat.div_div_eq_div_mul]
  have e4 : ((u : Int) / P2 j % 2 == 1) = (u / 2 ^ j % 2 == 1) := by
    unfold P2
    rw [← Int.natCast_ediv]
    rw [Bool.eq_iff_iff]; simp only [beq_iff_eq]; omega
  rw [e3, e4]; rfl

/-- A new block, then an append to a row of the call's own: below B all is as it was. -/
theorem below_push {B : Nat} {w wr w' : World} {o : Obj} {e : TypeId} {size n : Nat} {v : Value} {xs : List Value} (hb : Below B w wr) (hB : B ≤ wr.heap.size)
    (hown : wr.ownsRow B e size v n xs) (hg : (wr.alloc o).grownBy w' v.ownBlock) : Below B w w' :=
  (hb.alloc hB o).grown hg (by simp; omega) fun k hk => (hown.lt k hk).1
/-- An append to a row of the call's own. -/
theorem below_grown {B : Nat} {w wr w' : World} {e : TypeId} {size n : Nat} {v : Value} {xs : List Value} (hb : Below B w wr) (hB : B ≤ wr.heap.size)
    (hown : wr.ownsRow B e size v n xs) (hg : wr.grownBy w' v.ownBlock) : Below B w w' :=
  hb.grown hg hB fun k hk => (hown.lt k hk).1

theorem one_new (w : World) (x : Value) (t : TypeId) : ∀ (j : Nat) (u : Value), [x][j]? = some u → (w.alloc (.cells #[x] t)).cell? ((⟨w.heap.size, 0, none⟩ : Addr).add j) = some u := by
  intro j u hj
  match j, hj with
  | 0, hj => simp at hj; subst hj; simp [Addr.add]

set_option maxHeartbeats 400000 in
theorem bits_any (u : Nat) (W : Nat) (w : World) (hu : u < 18446744073709551616) (hW : W ≤ 64) :
    Calls Try.prog 35 #[.int .u64 u, .int .i64 W] w fun e w' => ∃ v, e = .returned v ∧ w'.ownsRow w.heap.size 4 1 v W (bitVals u W W) ∧ Below w.heap.size w w' := by
  obtain ⟨i0, hi, hz0, hz1, hz2⟩ := info_parts Try.infoBool
  obtain ⟨B, hB⟩ : ∃ B, w.heap.size = B := ⟨_, rfl⟩
  rw [hB]
  go_enter Try.func35, Try.ntmps35
  go_wp2
  go_loopw [5, 6] (fun v i wr => ∃ k j : Nat, Hid (k + j = W) ∧ i = .int .i64 ((j : Int) - 1) ∧ wr.ownsRow B 4 1 v k (bitVals u W k) ∧ Below B w wr) (fun _ i _ => (intOf i + 1).toNat)
  case atStart => exact ⟨0, W, by show 0 + W = W; omega, rfl, World.ownsRow_nil _ _ _ _, Below.refl _ _⟩
  case round =>
    obtain ⟨k, j, hkj, rfl, hown, hbl⟩ := hrel
    by_cases hj : 1 ≤ j
    · obtain ⟨j, rfl⟩ : ∃ i, j = i + 1 := ⟨j - 1, by omega⟩
      have hp := P2_pos j
      have hq0 : 0 ≤ (u : Int) / P2 j := Int.ediv_nonneg (by omega) (by omega)
      have hq1 : (u : Int) / P2 j ≤ 18446744073709551615 := by
        have := Int.ediv_le_self (P2 j) (show 0 ≤ (u : Int) by omega)
        omega
      have hj2 : j ≤ 63 := by have := hkj.out; omega
      rw [show (((j + 1 : Nat) : Int) - 1) = (j : Int) by omega]
      go_wp2_with (first
        | (go_at_call 60; refine (pow_nat j _ hj2).mono ?_; rintro e w' ⟨rfl, rfl⟩)
        | (at_builtin; refine wpList_append_own _ rfl _ _ 36 rfl B 4 i0 (.bool false) 1 1 Try.underlying36 hi hz0 hz1 hz2 rfl (by decide) _ _ _ rfl (hown.alloc _) ⟨wr.heap.size, 0, none⟩ 1 1 [.bool ((u : Int) / P2 j % 2 == 1)] rfl rfl ?c1 ?c2 ?c3 ?c4 ?c5 ?_))
      case c1 => exact one_new _ _ _
      case c2 => intro u hu; simp at hu; subst hu; rfl
      case c3 => unfold maxLen; have := hkj.out; omega
      case c4 => have := hkj.out; omega
      case c5 => have := hbl.size; simp; omega
      intro v' w' hown' hgrow _
      have hown2 : w'.ownsRow B 4 1 v' (k + 1) (bitVals u W (k + 1)) := by rw [← bitVals_snoc u W k j hkj.out]; exact hown'
      have hbl2 : Below B w w' := below_push hbl (by have := hbl.size; omega) hown hgrow
      clear hown' hgrow hown hbl
      go_wp2
      go_roundw
      case rel => exact ⟨k + 1, j, by show k + 1 + j = W; have := hkj.out; omega, rfl, hown2, hbl2⟩
      case measure => simp [intOf]
    · obtain rfl : j = 0 := by omega
      rw [show (((0 : Nat) : Int) - 1) = (-1 : Int) by omega]
      go_wp2
      go_ret
      obtain rfl : k = W := by have := hkj.out; omega
      exact ⟨_, rfl, hown, hbl⟩
end Go.Proofs.Ytojhhcfpnbdobaa
