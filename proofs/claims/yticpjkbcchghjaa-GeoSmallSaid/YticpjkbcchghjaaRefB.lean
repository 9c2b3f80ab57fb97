/- The reference's Bits. -/
import Derived.Test.YticpjkbcchghjaaRef
namespace Go.Proofs.Yticpjkbcchghjaa
open Go.RowKit

theorem Try.infoBool : (Try.prog.info? 4).map (fun i => (i.zero, i.size, i.bytes)) = some (some (.bool false), 1, 1) := by kernel_rfl

/-- 2 to the m, as the walk carries it. -/
def P2 (m : Nat) : Int := ((2 ^ m : Nat) : Int)
theorem P2_pos (m : Nat) : 1 ≤ P2 m := by
  unfold P2; have : 0 < 2 ^ m := Nat.pow_pos (by omega)
  omega

theorem pow_nat (m : Nat) (w : World) (h2 : m ≤ 63) :
    Calls Try.prog 52 #[.int .i64 m] w fun e w' => e = .returned (.int .u64 (P2 m)) ∧ w = w' := by
  have h := pow_any m w (by omega) (by omega)
  rw [Int.toNat_natCast] at h
  exact h

/-- The k first of W bits of u, told as values. -/
def bitVals (u W k : Nat) : List Value := (M.bitsOf (u / 2 ^ (W - k)) k).map Value.bool

theorem bitVals_snoc (u W k j : Nat) (h : k + (j + 1) = W) : bitVals u W k ++ [Value.bool ((u : Int) / P2 j % 2 == 1)] = bitVals u W (k + 1) := by
  unfold bitVals
  have e1 : W - (k + 1) = j := by omega
  have e2 : W - k = j + 1 := by omega
  rw [e1, e2, M.bitsOf, List.map_append]
  have e3 : u / 2 ^ (j + 1) = u / 2 ^ j / 2 := by rw [Nat.pow_succ, Nat.div_div_eq_div_mul]
  have e4 : ((u : Int) / P2 j % 2 == 1) = (u / 2 ^ j % 2 == 1) := by
    unfold P2
    rw [← Int.natCast_ediv]
    rw [Bool.eq_iff_iff]; simp only [beq_iff_eq]; omega
  rw [e3, e4]; rfl

/-- A new block, then an append to a row of the call's own: below B all is as it was. -/
theorem below_push {B : Nat} {w wr w' : World} {o : Obj} {e : TypeId} {size n : Nat} {v : Value} {xs : List Value} (hb : Below B w wr) (hB : B ≤ wr.heap.size)
    (hown : wr.ownsRow B e size v n xs) (hg : (wr.alloc o).grownBy w' v.ownBlock) : Below B w w' :=
  (hb.alloc hB o).grown hg (by simp; omega) fun k hk => (hown.lt k hk).1
/-- An append to a row of the call's own. -/
theorem below_grown {B : Nat} {w wr w' : World} {e : TypeId} {size n : Nat} {v : Value} {xs : List Value} (hb : Below B w wr) (hB : B ≤ wr.heap.size)
    (hown : wr.ownsRow B e size v n xs) (hg : wr.grownBy w' v.ownBlock) : Below B w w' :=
  hb.grown hg hB fun k hk => (hown.lt k hk).1

theorem one_new (w : World) (x : Value) (t : TypeId) : ∀ (j : Nat) (u : Value), [x][j]? = some u → (w.alloc (.cells #[x] t)).cell? ((⟨w.heap.size, 0, none⟩ : Addr).add j) = some u := by
  intro j u hj
  match j, hj with
  | 0, hj => simp at hj; subst hj; simp [Addr.add]

end Go.Proofs.Yticpjkbcchghjaa
