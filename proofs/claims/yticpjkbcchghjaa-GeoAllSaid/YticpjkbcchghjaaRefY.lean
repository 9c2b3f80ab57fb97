/- The reference's Bytes. -/
import Derived.Test.YticpjkbcchghjaaRefU
namespace Go.Proofs.Yticpjkbcchghjaa
open Go.RowKit

theorem Try.infoByte : (Try.prog.info? 5).map (fun i => (i.zero, i.size, i.bytes)) = some (some (.int .u8 0), 1, 1) := by kernel_rfl

theorem Holds.below {w w' : World} {a : Option Addr} {l : List Value} (h : Holds w a l) (hb : Below w.heap.size w w') : Holds w' a l :=
  h.mono fun b off _ _ i hc => (hb.cell (p := ⟨b, off + i, none⟩) (World.block_lt_of_cell? w _ hc)).trans hc

/-- Numbers as bytes' values. -/
def u8s (l : List Nat) : List Value := l.map fun (x : Nat) => Value.int .u8 (x : Int)
theorem u8s_snoc (l : List Nat) (x : Nat) : u8s l ++ [.int .u8 (x : Int)] = u8s (l ++ [x]) := by simp [u8s]

theorem one_int (k : IntKind) (q : Int) : ∀ u ∈ [Value.int k q], Value.oneCell' u = true := by
  intro u hu
  rw [List.mem_singleton] at hu
  subst hu; rfl

end Go.Proofs.Yticpjkbcchghjaa
