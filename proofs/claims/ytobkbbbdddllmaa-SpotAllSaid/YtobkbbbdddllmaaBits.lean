/- Package bits: what each call does. -/
import Derived.Test.YtobkbbbdddllmaaBitM
import Derived.Test.YtobkbbbdddllmaaRefO
import Derived.BigRegion
import Derived.StillTailTactics
namespace Go.Proofs.Ytobkbbbdddllmaa
open Go.RowKit

/-- Block g is an Out that has the bits l. -/
structure OutIs (w : World) (g : Nat) (l : List Bool) : Prop where
  fits : l.length ≤ 4096
  bytes : ∀ j, j < 512 → w.cell? ⟨g, j, none⟩ = some (.int .u8 (M.byteN l (8 * j) : Nat))
  count : w.cell? ⟨g, 512, none⟩ = some (.int .i64 l.length)
  free : ∀ j, j ≤ 512 → w.frozen? ⟨g, j, none⟩ = false

/-- Block g may have changed, nothing else has. -/
structure Only (g : Nat) (w w' : World) : Prop where
  os : w'.os = w.os
  tape : w'.tape = w.tape
  output : w'.output = w.output
  size : w'.heap.size = w.heap.size
  block : ∀ k, k ≠ g → w'.heap[k]? = w.heap[k]?
theorem Only.refl (g : Nat) (w : World) : Only g w w := ⟨rfl, rfl, rfl, rfl, fun _ _ => rfl⟩
theorem Only.trans {g : Nat} {a b c : World} (h : Only g a b) (k : Only g b c) : Only g a c :=
  ⟨k.os.trans h.os, k.tape.trans h.tape, k.output.trans h.output, k.size.trans h.size, fun i hi => (k.block i hi).trans (h.block i hi)⟩
theorem Only.drew {g : Nat} {a w : World} (h : Only g a w) : Only g a w.drew := ⟨h.os, h.tape, h.output, h.size, h.block⟩
theorem Only.setCell {g : Nat} {a w : World} (h : Only g a w) (o : Nat) (s : Option Nat) (u : Value) : Only g a (w.setCell ⟨g, o, s⟩ u) :=
  h.trans ⟨rfl, rfl, rfl, by simp [World.setCell], fun k hk => Below.heap_setCell _ _ _ _ hk⟩
theorem Only.below {g B : Nat} {w w' : World} (h : Only g w w') (hg : B ≤ g) : Below B w w' := ⟨h.os, h.tape, h.output, by rw [h.size]; exact Nat.le_refl _, fun k hk => h.block k (by omega)⟩

theorem addr_ne {g i j : Nat} (h : i ≠ j) : (⟨g, i, none⟩ : Addr) ≠ ⟨g, j, none⟩ := fun e => h (congrArg Addr.off e)

/-- One piece more. -/
theorem out_step {w : World} {g n : Nat} {m t : List Bool} {X N : Int} (ho : OutIs w g m) (hn : m.length = n) (hf : n + t.length ≤ 4096) (ht : n % 8 + t.length ≤ 8) (h0 : 0 < t.length)
    (hX : X = (M.byteN (m ++ t) (8 * (n / 8)) : Nat)) (hN : N = ((n + t.length : Nat) : Int)) :
    OutIs ((w.setCell ⟨g, n / 8, none⟩ (.int .u8 X)).setCell ⟨g, 512, none⟩ (.int .i64 N)).drew g (m ++ t) := by
  subst hn
  have hq : m.length / 8 < 512 := by omega
  refine ⟨by rw [List.length_append]; omega, fun j hj => ?_, ?_, fun j hj => ?_⟩
  · show ((w.setCell ⟨g, m.length / 8, none⟩ (.int .u8 X)).setCell ⟨g, 512, none⟩ (.int .i64 N)).cell? _ = _
    rw [World.cell?_setCell_other _ _ _ _ (addr_ne (by omega))]
    by_cases hj2 : j = m.length / 8
    · subst hj2
      rw [World.cell?_setCell_same _ _ _ (ho.bytes _ hj), hX]
    · rw [World.cell?_setCell_other _ _ _ _ (addr_ne (by omega)), ho.bytes j hj]
      by_cases hlt : j < m.length / 8
      · rw [M.byteN_before m t j (by omega)]
      · rw [M.byteN_behind m j (by omega), M.byteN_behind (m ++ t) j (by rw [List.length_append]; omega)]
  · show ((w.setCell ⟨g, m.length / 8, none⟩ (.int .u8 X)).setCell ⟨g, 512, none⟩ (.int .i64 N)).cell? _ = _
    have hc : (w.setCell ⟨g, m.length / 8, none⟩ (.int .u8 X)).cell? ⟨g, 512, none⟩ = some (.int .i64 m.length) := by
      rw [World.cell?_setCell_other _ _ _ _ (addr_ne (by omega))]; exact ho.count
    rw [World.cell?_setCell_same _ _ _ hc, hN, List.length_append]
  · show ((w.setCell ⟨g, m.length / 8, none⟩ (.int .u8 X)).setCell ⟨g, 512, none⟩ (.int .i64 N)).frozen? _ = _
    rw [World.frozen?_setCell, World.frozen?_setCell]; exact ho.free j hj

/-- The byte that is stored. -/
theorem put_val (m t r : List Bool) (n b x p : Nat) (hn : m.length = n) (hb : M.byteN m (8 * (n / 8)) = b) (hp : n % 8 = p) (hx : M.topN (t ++ r) = x) (h64 : t.length + r.length ≤ 64)
    (ht : p + t.length ≤ 8) (hc : r = [] ∨ p + t.length = 8) :
    bits BinOp.or IntKind.u8 (b : Int) ((x : Int) / 72057594037927936 % 256 / 2 ^ p) = ((M.byteN (m ++ t) (8 * (n / 8)) : Nat) : Int) := by
  subst hn hp
  have e : ((x : Int) / 72057594037927936 % 256 / 2 ^ (m.length % 8)) = ((x / 72057594037927936 % 256 / 2 ^ (m.length % 8) : Nat) : Int) := by simp
  have h1 : b < 256 := by rw [← hb]; exact M.byteN_lt _ _
  have h2 : x / 72057594037927936 % 256 / 2 ^ (m.length % 8) < 256 := Nat.lt_of_le_of_lt (Nat.div_le_self _ _) (by omega)
  rw [e, u8_or_nat _ _ h1 h2, M.put_byte m t ht, hb, ← hx, M.top_byte t r _ h64 ht hc]

end Go.Proofs.Ytobkbbbdddllmaa
