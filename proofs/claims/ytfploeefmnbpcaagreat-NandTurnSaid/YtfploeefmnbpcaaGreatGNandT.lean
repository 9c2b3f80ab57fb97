import Derived.Test.YtfploeefmnbpcaaGreatG04
import Derived.Deep.DeepCutAuto
/- The law NandTurn: the walk. -/
namespace Go.Proofs.YtfploeefmnbpcaaGreat
open Go.RowKit Mp

namespace NT
theorem and255 (n : Int) : bits BinOp.and IntKind.i64 n 255 = ((n % 256).toNat : Int) := by
  have e : bits .and .i64 n 255 = IntKind.i64.wrap (BitVec.ofInt 64 n &&& BitVec.ofInt 64 255).toNat := rfl
  have e2 : (BitVec.ofInt 64 255) = BitVec.ofNat 64 255 := rfl
  have e3 : ∀ x : Nat, x &&& 255 = x % 256 := fun x => Nat.and_two_pow_sub_one_eq_mod x 8
  rw [e, e2, BitVec.toNat_and, BitVec.toNat_ofInt, BitVec.toNat_ofNat, Nat.mod_eq_of_lt (a := 255) (by omega), e3, IntKind.wrap_i64]
  omega
theorem xor8 (x y : Nat) (hx : x < 256) (hy : y < 256) : bits BinOp.xor IntKind.u8 (x : Int) (y : Int) = ((x ^^^ y : Nat) : Int) := by
  have e : bits .xor .u8 (x : Int) (y : Int) = IntKind.u8.wrap (BitVec.ofInt 8 (x : Int) ^^^ BitVec.ofInt 8 (y : Int)).toNat := rfl
  have hlt : x ^^^ y < 2 ^ 8 := Nat.xor_lt_two_pow (by omega) (by omega)
  have e1 : ((x : Int) % (2 ^ 8 : Nat)).toNat = x := by omega
  have e2 : ((y : Int) % (2 ^ 8 : Nat)).toNat = y := by omega
  rw [e, BitVec.toNat_xor, BitVec.toNat_ofInt, BitVec.toNat_ofInt, e1, e2]
  obtain ⟨z, hz⟩ : ∃ z, x ^^^ y = z := ⟨_, rfl⟩
  rw [hz] at hlt ⊢
  simp [IntKind.wrap, IntKind.signed, IntKind.bits]
  omega
def pg3 : List Nat := 1 :: 2 :: 3 :: List.replicate 29 0
theorem ok3 : okP pg3 := ⟨by decide, by decide⟩
theorem pg3_lt : ∀ n : Fin 32, pg3.getD n.val 0 < 256 := by decide
theorem okTurn (n : Nat) (hn : n < 32) (a : Int) : okP (FlM.turnAt pg3 n a) := by
  unfold FlM.turnAt
  refine ⟨by rw [List.length_set]; exact ok3.1, fun x hx => ?_⟩
  rcases List.mem_or_eq_of_mem_set hx with h | rfl
  · exact ok3.2 x h
  · exact Nat.xor_lt_two_pow (n := 8) (pg3_lt ⟨n, hn⟩) (by omega)
def m0 : FlM := FlM.start 3 8 4
def m1 : FlM := (m0.program 0 0 0 pg3).2
def m2 (n : Nat) (a : Int) : FlM := m1.setB 0 0 { m1.blk 0 0 with pages := upd (m1.blk 0 0).pages 0 { (m1.blk 0 0).pages 0 with bytes := FlM.turnAt ((m1.blk 0 0).pages 0).bytes n a, turned := true } }
def m3 (n : Nat) (a : Int) : FlM := ((m2 n a).erase 0 0).2
def m4 (n : Nat) (a : Int) : FlM := ((m3 n a).program 0 0 0 pg3).2
def m5 (n : Nat) (a b : Int) : FlM := (m4 n a).setB 0 0 { (m4 n a).blk 0 0 with pages := upd ((m4 n a).blk 0 0).pages 0 { ((m4 n a).blk 0 0).pages 0 with bytes := FlM.turnAt (((m4 n a).blk 0 0).pages 0).bytes n b, turned := true } }
theorem out (n v : Int) (h : n < 0 ∨ 31 < n) : m0.fault 5 0 0 0 n v = (false, m0) := by
  unfold FlM.fault
  rw [if_neg (by decide)]
  simp only
  rw [if_neg (by decide), if_neg (by decide), if_neg (by decide), if_neg (by decide), if_pos h]
theorem turn (M : FlM) (n : Nat) (hn : n < 32) (v : Int) (hin : inGB M.d M.b M.p 0 0 0 = true) (hz : ((M.blk 0 0).next : Int) ≤ 0 → False) (ht : ((M.blk 0 0).pages 0).turned = false) (hc : ((M.blk 0 0).pages 0).cant = false) :
    M.fault 5 0 0 0 n v = (true, M.setB 0 0 { M.blk 0 0 with pages := upd (M.blk 0 0).pages 0 { (M.blk 0 0).pages 0 with bytes := FlM.turnAt ((M.blk 0 0).pages 0).bytes n v, turned := true } }) := by
  unfold FlM.fault
  rw [if_neg (by rw [hin]; decide)]
  simp only
  rw [if_neg (by decide), if_neg (by decide), if_neg (by decide), if_neg (by decide), if_neg (by omega)]
  have e : (0 : Int).toNat = 0 := rfl
  rw [e, if_neg hz, ht, hc]
  rfl
theorem f1 (n : Nat) (hn : n < 32) (a : Int) : m0.fault 5 0 0 0 n a = (true, m0) := by
  unfold FlM.fault
  rw [if_neg (by decide)]
  simp only
  rw [if_neg (by decide), if_neg (by decide), if_neg (by decide), if_neg (by decide), if_neg (by omega), if_pos (by decide)]
theorem f2 : (m0.program 0 0 0 pg3).1 = 0 := by decide +kernel
theorem f3 (n : Nat) (hn : n < 32) (a : Int) : m1.fault 5 0 0 0 n a = (true, m2 n a) := turn m1 n hn a (by decide +kernel) (by decide +kernel) (by decide +kernel) (by decide +kernel)
theorem f4 (n : Nat) (hn : n < 32) (a b : Int) : (m2 n a).fault 5 0 0 0 n b = (false, m2 n a) := by
  unfold FlM.fault
  rw [if_neg (by show ¬ (inGB 3 8 4 0 0 0 = false ∨ _); decide)]
  simp only
  rw [if_neg (by decide), if_neg (by decide), if_neg (by decide), if_neg (by decide), if_neg (by omega), if_neg (by show ¬ ((1 : Nat) : Int) ≤ 0; decide), if_pos (by rfl)]
theorem f5 (n : Nat) (a : Int) : (m2 n a).read 0 0 0 = (FlM.turnAt pg3 n a, 0) := rfl
theorem f6 (n : Nat) (a : Int) : ((m2 n a).erase 0 0).1 = 0 := rfl
theorem f7 (n : Nat) (a : Int) : ((m3 n a).program 0 0 0 pg3).1 = 0 := rfl
theorem f8 (n : Nat) (hn : n < 32) (a b : Int) : (m4 n a).fault 5 0 0 0 n b = (true, m5 n a b) := turn (m4 n a) n hn b (by rfl) (by show ((1 : Nat) : Int) ≤ 0 → False; decide) (by rfl) (by rfl)
theorem f9 (n : Nat) (a b : Int) : (m5 n a b).read 0 0 0 = (FlM.turnAt pg3 n b, 0) := rfl
theorem g1 : m0.ops = 0 ∧ m0.broken = 0 := by decide +kernel
theorem g2 (n : Nat) (a : Int) : (m2 n a).ops = 1 ∧ ((m2 n a).blk 0 0).worn = 0 ∧ (m3 n a).ops = 2 ∧ (m3 n a).broken = 0 := ⟨rfl, rfl, rfl, rfl⟩
theorem m0_def : FlM.start 3 8 4 = m0 := rfl
theorem m1_def : (m0.program 0 0 0 pg3).2 = m1 := rfl
theorem m3_def (n : Nat) (a : Int) : ((m2 n a).erase 0 0).2 = m3 n a := rfl
theorem m4_def (n : Nat) (a : Int) : ((m3 n a).program 0 0 0 pg3).2 = m4 n a := rfl

/-- Block b is a fault that turns byte n of the first page by v. -/
structure At7 (w : World) (b : Nat) (n v : Int) : Prop where
  c0 : w.cell? ⟨b, 0, none⟩ = some (.int .i64 0)
  c1 : w.cell? ⟨b, 1, none⟩ = some (.int .i64 5)
  c2 : w.cell? ⟨b, 2, none⟩ = some (.int .i64 0)
  c3 : w.cell? ⟨b, 3, none⟩ = some (.int .i64 0)
  c4 : w.cell? ⟨b, 4, none⟩ = some (.int .i64 0)
  c5 : w.cell? ⟨b, 5, none⟩ = some (.int .i64 n)
  c6 : w.cell? ⟨b, 6, none⟩ = some (.int .i64 v)
  free : w.frozen? ⟨b, 6, none⟩ = false
theorem At7.new (w : World) (t : TypeId) (n v : Int) : At7 (w.alloc (.cells #[.int .i64 0, .int .i64 5, .int .i64 0, .int .i64 0, .int .i64 0, .int .i64 n, .int .i64 v] t)) w.heap.size n v := by
  constructor
  all_goals first | exact World.frozen?_alloc_at _ _ _ _ rfl | (rw [World.cell?_alloc_at _ _ _ _ rfl]; rfl)
theorem At7.off {w w' : World} {b : Nat} {n v : Int} (h : At7 w b n v) (hk : w'.heap[b]? = w.heap[b]?) : At7 w' b n v :=
  ⟨(World.cell?_of_block (a := ⟨b, 0, none⟩) hk).trans h.c0, (World.cell?_of_block (a := ⟨b, 1, none⟩) hk).trans h.c1, (World.cell?_of_block (a := ⟨b, 2, none⟩) hk).trans h.c2, (World.cell?_of_block (a := ⟨b, 3, none⟩) hk).trans h.c3,
    (World.cell?_of_block (a := ⟨b, 4, none⟩) hk).trans h.c4, (World.cell?_of_block (a := ⟨b, 5, none⟩) hk).trans h.c5, (World.cell?_of_block (a := ⟨b, 6, none⟩) hk).trans h.c6, (World.frozen?_of_block (a := ⟨b, 6, none⟩) hk).trans h.free⟩
theorem At7.same {w w' : World} {b : Nat} {n v : Int} {L : List Nat} (h : At7 w b n v) (hs : Same L w w') (hb : b ∈ L) : At7 w' b n v := h.off (hs.block b hb)
theorem At7.lt {w : World} {b : Nat} {n v : Int} (h : At7 w b n v) : b < w.heap.size := World.block_lt_of_cell? w _ h.c0
theorem At7.alloc {w : World} {b : Nat} {n v : Int} (h : At7 w b n v) (o : Obj) : At7 (w.alloc o) b n v := h.off (Below.heap_alloc _ _ _ h.lt)
theorem At7.set {w : World} {b : Nat} {n v : Int} (h : At7 w b n v) (u : Int) : At7 (w.setCell ⟨b, 6, none⟩ (.int .i64 u)) b n u := by
  have o : ∀ k, k ≠ 6 → (w.setCell ⟨b, 6, none⟩ (.int .i64 u)).cell? ⟨b, k, none⟩ = w.cell? ⟨b, k, none⟩ := fun k hk => World.cell?_setCell_other _ _ _ _ (fun e => by injection e; omega)
  exact ⟨(o 0 (by omega)).trans h.c0, (o 1 (by omega)).trans h.c1, (o 2 (by omega)).trans h.c2, (o 3 (by omega)).trans h.c3, (o 4 (by omega)).trans h.c4, (o 5 (by omega)).trans h.c5, World.cell?_setCell_same _ _ _ h.c6, by rw [World.frozen?_setCell]; exact h.free⟩
end NT
end Go.Proofs.YtfploeefmnbpcaaGreat
