/- A range over a map by places; what has been collected. -/
import Derived.Test.YtobkbbbdddllmaaSorted
import Derived.Maps.AppendAt
import Derived.WalkKit
import Derived.OwnWalk
import Derived.Deep.DeepCutAuto
namespace Go.Proofs.Ytobkbbbdddllmaa
open Go.RowKit Mp Go.ChangeMaps

theorem wpList_nextA (w : World) {ops : Array Oper} {rest : List Oper} {o : Oper} {a : Act} {Q : Exit → Act → World → Prop} {l : List (A3 × Value)} (hg : o.guard = none) (it : Operand) (hop : o.op = Op.next it false) (b r : Nat) (left : List (A3 × Value))
    (hit : a.eval it = .pointer (some ⟨r, 0, none⟩)) (h : RangeIs EA w b r l left)
    (hDone : left = [] → wpList Try.prog ops Q rest (a.put o.dst (.tuple #[.bool false])) w)
    (hMore : ∀ (x y z : Int) (v : Value) (left' : List (A3 × Value)) (w' : World), left.Perm (((x, y, z), v) :: left') → RangeIs EA w' b r l left' → w.grownBy w' (some r) → w'.heap.size = w.heap.size →
      (Instr.entry (.pointer (some ⟨r, 0, none⟩))).run Try.prog w' = .ok (.tuple #[.agg #[.int .i64 x, .int .i64 y, .int .i64 z], v]) w' → wpList Try.prog ops Q rest (a.put o.dst (.tuple #[.bool true, .agg #[.int .i64 x, .int .i64 y, .int .i64 z], v])) w') :
    wpList Try.prog ops Q (o :: rest) a w :=
  wpList_next w hg it hop b r left hit h hDone fun ⟨x, y, z⟩ v left' w' => hMore x y z v left' w'

theorem wpListIn_nextA {F : Fence} {n : Nat} (w : World) {ops : Array Oper} {rest : List Oper} {o : Oper} {a : Act} {Q : Exit → Act → World → Prop} {l : List (A3 × Value)} (hg : o.guard = none) (it : Operand) (hop : o.op = Op.next it false) (b r : Nat) (left : List (A3 × Value))
    (hit : a.eval it = .pointer (some ⟨r, 0, none⟩)) (h : RangeIs EA w b r l left)
    (hDone : left = [] → wpListIn F n Try.prog ops Q rest (a.put o.dst (.tuple #[.bool false])) w)
    (hMore : ∀ (x y z : Int) (v : Value) (left' : List (A3 × Value)) (w' : World), left.Perm (((x, y, z), v) :: left') → RangeIs EA w' b r l left' → w.grownBy w' (some r) → w'.heap.size = w.heap.size →
      (Instr.entry (.pointer (some ⟨r, 0, none⟩))).run Try.prog w' = .ok (.tuple #[.agg #[.int .i64 x, .int .i64 y, .int .i64 z], v]) w' → wpListIn F n Try.prog ops Q rest (a.put o.dst (.tuple #[.bool true, .agg #[.int .i64 x, .int .i64 y, .int .i64 z], v])) w') :
    wpListIn F n Try.prog ops Q (o :: rest) a w :=
  wpListIn_next w hg it hop b r left hit h hDone fun ⟨x, y, z⟩ v left' w' => hMore x y z v left' w'

/-- Of that block of that die? -/
def inBlk (die blk : Int) (p : A3 × Value) : Bool := decide (p.1.1 = die) && decide (p.1.2.1 = blk)
def pick (die blk : Int) (l : List (A3 × Value)) : List A3 := (l.filter (inBlk die blk)).map (·.1)

theorem infoA : (Try.prog.info? 29).map (fun i => (i.zero, i.size, i.bytes)) = some (some (.agg #[.int .i64 0, .int .i64 0, .int .i64 0]), 3, 24) := by kernel_rfl

theorem pick_perm {die blk : Int} {l l' : List (A3 × Value)} (h : l.Perm l') : (pick die blk l).Perm (pick die blk l') := (h.filter _).map _

theorem pick_yes {die blk z : Int} {v : Value} {left l : List (A3 × Value)} {xs : List A3} {left0 : List (A3 × Value)} (h : (xs ++ pick die blk left0).Perm (pick die blk l)) (hp : left0.Perm (((die, blk, z), v) :: left)) :
    ((xs ++ [(die, blk, z)]) ++ pick die blk left).Perm (pick die blk l) := by
  have h1 : (pick die blk left0).Perm ((die, blk, z) :: pick die blk left) := by
    have := pick_perm (die := die) (blk := blk) hp
    simpa [pick, inBlk] using this
  have h2 := (List.Perm.append_left xs h1).symm.trans h
  simpa using h2
theorem pick_no {die blk x y z : Int} {v : Value} {left l : List (A3 × Value)} {xs : List A3} {left0 : List (A3 × Value)} (h : (xs ++ pick die blk left0).Perm (pick die blk l)) (hp : left0.Perm (((x, y, z), v) :: left)) (hn : x ≠ die ∨ y ≠ blk) :
    (xs ++ pick die blk left).Perm (pick die blk l) := by
  have h1 : (pick die blk left0).Perm (pick die blk left) := by
    have := pick_perm (die := die) (blk := blk) hp
    have e : inBlk die blk ((x, y, z), v) = false := by rcases hn with h | h <;> simp [inBlk, h]
    unfold pick at this ⊢
    rw [List.filter_cons, e] at this
    simpa using this
  exact (List.Perm.append_left xs h1).symm.trans h

theorem ownsRow_ne {w : World} {base r : Nat} {e : TypeId} {size : Nat} {v : Value} {n : Nat} {xs : List Value} (h : w.ownsRow base e size v n xs) (hr : r < base) : v.ownBlock = none ∨ v.ownBlock ≠ some r := by
  cases hv : v.ownBlock with
  | none => exact .inl rfl
  | some k => exact .inr (fun e => by have e2 := Option.some.inj e; have := (h.lt k hv).1; omega)
end Go.Proofs.Ytobkbbbdddllmaa
