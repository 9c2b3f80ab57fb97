import Derived.Test.YtfploeefmnbpcaaGreatG16
import Derived.Test.YtfploeefmnbpcaaGreatG03
import Derived.Test.YtfploeefmnbpcaaGreatG17
import Derived.Test.YtfploeefmnbpcaaGreatG18
import Derived.Test.YtfploeefmnbpcaaGreatG08
/- A flash in memory and the flash that it is. No walk here. -/
namespace Go.Proofs.YtfploeefmnbpcaaGreat
open Go.RowKit Mp Go.ChangeMaps

def CutIs (cut : Option (Nat × Nat)) (s : Bool) (l k : Int) : Prop :=
  match cut with
  | none => s = false
  | some (n, j) => s = true ∧ l = n ∧ (n : Int) ≤ 9223372036854775807 ∧ j = (max 0 (min k 32)).toNat

/-- The cells are M's. -/
structure RelC (c : Nat → Value) (M : FlM) : Prop where
  g0 : c 0 = .int .i64 M.d
  g1 : c 1 = .int .i64 M.b
  g2 : c 2 = .int .i64 M.p
  may : mayB M.d M.b M.p = true
  power : c 3 = .bool M.power
  cut : ∃ s l k, c 4 = .bool s ∧ c 5 = .int .i64 l ∧ c 6 = .int .i64 k ∧ (M.power = true → CutIs M.cut s l k)
  ops : c 7 = .int .i64 M.ops
  broken : c 8 = .int .i64 M.broken
  dead : ∀ x, x < 6 → c (9 + x) = .bool (M.dead x)
  next : ∀ x y, x < 6 → y < 16 → c (15 + x * 64 + y * 4) = .int .i64 (M.blk x y).next
  worn : ∀ x y, x < 6 → y < 16 → c (15 + x * 64 + y * 4 + 1) = .int .i64 (M.blk x y).worn
  told : ∀ x y, x < 6 → y < 16 → c (15 + x * 64 + y * 4 + 2) = .bool (M.blk x y).told
  met : ∀ x y, x < 6 → y < 16 → c (15 + x * 64 + y * 4 + 3) = .bool (M.blk x y).met
  le : ∀ x y, x < 6 → y < 16 → (M.blk x y).next ≤ M.p

def cellsPg (bs : List Nat) (l m : Bool) : List Value := cellsP bs ++ [.bool l, .bool m]
def pgV (bs : List Nat) (l m : Bool) : Value := .agg (cellsPg bs l m).toArray
abbrev k3 (x y z : Nat) : A3 := ((x : Int), (y : Int), (z : Int))

/-- The pages are M's. -/
structure RelP (lp : List (A3 × Value)) (M : FlM) : Prop where
  ok : ∀ p ∈ lp, okV 34 p.2
  has : ∀ x y z : Nat, x < M.d → y < M.b → z < (M.blk x y).next → ∃ bs, getA lp (k3 x y z) = some (pgV bs ((M.blk x y).pages z).cant ((M.blk x y).pages z).turned) ∧ okP bs ∧ (((M.blk x y).pages z).cant = false → bs = ((M.blk x y).pages z).bytes)
  no : ∀ x y z : Nat, x < M.d → y < M.b → z < M.p → (M.blk x y).next ≤ z → getA lp (k3 x y z) = none
/-- The faults of programs are M's. -/
structure RelF (lf : List (A3 × Value)) (M : FlM) : Prop where
  ok : ∀ p ∈ lf, okV 0 p.2
  at' : ∀ x y z : Nat, x < M.d → y < M.b → z < M.p → (M.blk x y).next ≤ z → (getA lf (k3 x y z)).isSome = (M.blk x y).fails z

/-- A flash in the midst of a call: its cells are M's. -/
def FlX (F0 : Nat → Prop) (w0 w : World) (g : Nat) (M : FlM) (lp lf : List (A3 × Value)) (L : List Nat) : Prop := ∃ c, FlS F0 w0 w g c lp lf L ∧ RelC c M

/-- A flash between calls. -/
def IsL : IsT := fun w g M F => ∃ c lp lf mp mf, Fl w g c lp lf mp mf ∧ RelC c M ∧ RelP lp M ∧ RelF lf M ∧ F = ff g mp mf

section
variable {F0 : Nat → Prop} {w0 w w' : World} {g : Nat} {M M' : FlM} {lp lf lp' lf' : List (A3 × Value)} {L : List Nat} {c : Nat → Value}
theorem mayB_lim (h : mayB M.d M.b M.p = true) : 3 ≤ M.d ∧ M.d ≤ 6 ∧ 8 ≤ M.b ∧ M.b ≤ 16 ∧ 2 ≤ M.p ∧ M.p ≤ 8 := by
  have := mayB_yes h; omega
theorem FlX.lim (h : FlX F0 w0 w g M lp lf L) : 3 ≤ M.d ∧ M.d ≤ 6 ∧ 8 ≤ M.b ∧ M.b ≤ 16 ∧ 2 ≤ M.p ∧ M.p ≤ 8 := by
  obtain ⟨c, _, h⟩ := h; exact mayB_lim h.may
theorem FlX.size (h : FlX F0 w0 w g M lp lf L) : g < w.heap.size := by obtain ⟨c, h, _⟩ := h; exact h.size
theorem FlX.keeps (h : FlX F0 w0 w g M lp lf L) : Keeps F0 w0 w := by obtain ⟨c, h, _⟩ := h; exact h.keeps
theorem FlX.below (h : FlX F0 w0 w g M lp lf L) (hb : Below w.heap.size w w') : FlX F0 w0 w' g M lp lf L ∧ Same L w w' := by
  obtain ⟨c, h1, h2⟩ := h; exact ⟨⟨c, (h1.below hb).1, h2⟩, (h1.below hb).2⟩
theorem FlX.drew (h : FlX F0 w0 w g M lp lf L) : FlX F0 w0 w.drew g M lp lf L := by obtain ⟨c, h1, h2⟩ := h; exact ⟨c, h1.drew, h2⟩
theorem FlX.drewN (h : FlX F0 w0 w g M lp lf L) (n : Nat) : FlX F0 w0 (w.drewN n) g M lp lf L := (h.below (below_drewN (Below.refl _ _) n)).1
theorem FlX.alloc (h : FlX F0 w0 w g M lp lf L) (o : Obj) : FlX F0 w0 (w.alloc o) g M lp lf L := by obtain ⟨c, h1, h2⟩ := h; exact ⟨c, h1.alloc o, h2⟩
theorem FlX.add (h : FlX F0 w0 w g M lp lf L) (o : Obj) : FlX F0 w0 (w.alloc o) g M lp lf (w.heap.size :: L) := by obtain ⟨c, h1, h2⟩ := h; exact ⟨c, h1.add o, h2⟩
theorem FlX.sub (h : FlX F0 w0 w g M lp lf L) {L' : List Nat} (hs : ∀ k ∈ L', k ∈ L) : FlX F0 w0 w g M lp lf L' := by obtain ⟨c, h1, h2⟩ := h; exact ⟨c, h1.sub hs, h2⟩
theorem FlX.lt (h : FlX F0 w0 w g M lp lf L) : ∀ k ∈ L, k < w.heap.size := by obtain ⟨c, h1, h2⟩ := h; exact h1.lt
theorem FlX.offCell (h : FlX F0 w0 w g M lp lf L) {b o : Nat} {s : Option Nat} (hb : b ∈ L) (hb0 : w0.heap.size ≤ b) (u : Value) : FlX F0 w0 (w.setCell ⟨b, o, s⟩ u) g M lp lf L := by
  obtain ⟨c, h1, h2⟩ := h; exact ⟨c, h1.offCell hb hb0 u, h2⟩
theorem FlX.offRow (h : FlX F0 w0 w g M lp lf L) {b : Nat} (hb : b ∈ L) (hb0 : w0.heap.size ≤ b) (ds : Array Value) : FlX F0 w0 (w.setRow b ds) g M lp lf L := by
  obtain ⟨c, h1, h2⟩ := h; exact ⟨c, h1.offRow hb hb0 ds, h2⟩
theorem FlX.set (h : FlX F0 w0 w g M lp lf L) {i : Nat} (hi : i < 399) (v : Value) (hr : ∀ c, RelC c M → RelC (upd c i v) M') : FlX F0 w0 (w.setCell ⟨g, i, none⟩ v) g M' lp lf L ∧ Same L w (w.setCell ⟨g, i, none⟩ v) := by
  obtain ⟨c, h1, h2⟩ := h; exact ⟨⟨_, (h1.set hi v).1, hr c h2⟩, (h1.set hi v).2⟩
theorem FlX.free (h : FlX F0 w0 w g M lp lf L) {i : Nat} (hi : i < 399) : w.frozen? ⟨g, i, none⟩ = false := by obtain ⟨c, h1, h2⟩ := h; exact h1.free hi
theorem FlX.g0 (h : FlX F0 w0 w g M lp lf L) : w.cell? ⟨g, 0, none⟩ = some (.int .i64 M.d) := by obtain ⟨c, h1, h2⟩ := h; rw [← h2.g0]; exact h1.cell (by omega)
theorem FlX.g1 (h : FlX F0 w0 w g M lp lf L) : w.cell? ⟨g, 1, none⟩ = some (.int .i64 M.b) := by obtain ⟨c, h1, h2⟩ := h; rw [← h2.g1]; exact h1.cell (by omega)
theorem FlX.g2 (h : FlX F0 w0 w g M lp lf L) : w.cell? ⟨g, 2, none⟩ = some (.int .i64 M.p) := by obtain ⟨c, h1, h2⟩ := h; rw [← h2.g2]; exact h1.cell (by omega)
theorem FlX.power (h : FlX F0 w0 w g M lp lf L) : w.cell? ⟨g, 3, none⟩ = some (.bool M.power) := by obtain ⟨c, h1, h2⟩ := h; rw [← h2.power]; exact h1.cell (by omega)
theorem FlX.cut (h : FlX F0 w0 w g M lp lf L) : ∃ s l k, w.cell? ⟨g, 4, none⟩ = some (.bool s) ∧ w.cell? ⟨g, 5, none⟩ = some (.int .i64 l) ∧ w.cell? ⟨g, 6, none⟩ = some (.int .i64 k) ∧ (M.power = true → CutIs M.cut s l k) := by
  obtain ⟨c, h1, h2⟩ := h
  obtain ⟨s, l, k, e1, e2, e3, e4⟩ := h2.cut
  exact ⟨s, l, k, by rw [← e1]; exact h1.cell (by omega), by rw [← e2]; exact h1.cell (by omega), by rw [← e3]; exact h1.cell (by omega), e4⟩
theorem FlX.ops (h : FlX F0 w0 w g M lp lf L) : w.cell? ⟨g, 7, none⟩ = some (.int .i64 M.ops) := by obtain ⟨c, h1, h2⟩ := h; rw [← h2.ops]; exact h1.cell (by omega)
theorem FlX.broken (h : FlX F0 w0 w g M lp lf L) : w.cell? ⟨g, 8, none⟩ = some (.int .i64 M.broken) := by obtain ⟨c, h1, h2⟩ := h; rw [← h2.broken]; exact h1.cell (by omega)
theorem FlX.dead (h : FlX F0 w0 w g M lp lf L) {x : Nat} (hx : x < 6) : w.cell? ⟨g, 9 + x, none⟩ = some (.bool (M.dead x)) := by obtain ⟨c, h1, h2⟩ := h; rw [← h2.dead x hx]; exact h1.cell (by omega)
theorem FlX.next (h : FlX F0 w0 w g M lp lf L) {x y : Nat} (hx : x < 6) (hy : y < 16) : w.cell? ⟨g, 15 + x * 64 + y * 4, none⟩ = some (.int .i64 (M.blk x y).next) := by obtain ⟨c, h1, h2⟩ := h; rw [← h2.next x y hx hy]; exact h1.cell (by omega)
theorem FlX.worn (h : FlX F0 w0 w g M lp lf L) {x y : Nat} (hx : x < 6) (hy : y < 16) : w.cell? ⟨g, 15 + x * 64 + y * 4 + 1, none⟩ = some (.int .i64 (M.blk x y).worn) := by obtain ⟨c, h1, h2⟩ := h; rw [← h2.worn x y hx hy]; exact h1.cell (by omega)
theorem FlX.told (h : FlX F0 w0 w g M lp lf L) {x y : Nat} (hx : x < 6) (hy : y < 16) : w.cell? ⟨g, 15 + x * 64 + y * 4 + 2, none⟩ = some (.bool (M.blk x y).told) := by obtain ⟨c, h1, h2⟩ := h; rw [← h2.told x y hx hy]; exact h1.cell (by omega)
theorem FlX.met (h : FlX F0 w0 w g M lp lf L) {x y : Nat} (hx : x < 6) (hy : y < 16) : w.cell? ⟨g, 15 + x * 64 + y * 4 + 3, none⟩ = some (.bool (M.blk x y).met) := by obtain ⟨c, h1, h2⟩ := h; rw [← h2.met x y hx hy]; exact h1.cell (by omega)
theorem FlX.le (h : FlX F0 w0 w g M lp lf L) {x y : Nat} (hx : x < 6) (hy : y < 16) : (M.blk x y).next ≤ M.p := by obtain ⟨c, h1, h2⟩ := h; exact h2.le x y hx hy
theorem FlX.same (h : FlX F0 w0 w g M lp lf L) (hr : ∀ c, RelC c M → RelC c M') : FlX F0 w0 w g M' lp lf L := by obtain ⟨c, h1, h2⟩ := h; exact ⟨c, h1, hr c h2⟩

/-- What was made since is another's. -/
theorem FlX.fresh (h : FlX F0 w0 w g M lp lf L) (hb : Below w.heap.size w w') (N : List Nat) (hN : ∀ k ∈ N, w.heap.size ≤ k ∧ k < w'.heap.size) : FlX F0 w0 w' g M lp lf (N ++ L) := by
  obtain ⟨c, h1, h2⟩ := h
  obtain ⟨⟨mp, mf, j1, j2, j3⟩, j4, j5, j6⟩ := h1
  obtain ⟨⟨_, _, k1, _⟩, k4, k5, k6⟩ := (FlS.below ⟨⟨mp, mf, j1, j2, j3⟩, j4, j5, j6⟩ hb).1
  refine ⟨c, ⟨⟨mp, mf, j1.keep fun k hk => hb.block k (j1.lt k hk), fun k hk hf => ?_, j3⟩, fun k hk => ?_, k5, k6⟩, h2⟩
  · rcases List.mem_append.1 hk with hk | hk
    · have := (hN k hk).1; have := j1.lt k hf; omega
    · exact j2 k hk hf
  · rcases List.mem_append.1 hk with hk | hk
    · exact (hN k hk).2
    · exact k4 k hk
theorem IsL.begin {F : Nat → Prop} (h : IsL w g M F) : ∃ lp lf, FlX F w w g M lp lf [] ∧ RelP lp M ∧ RelF lf M := by
  obtain ⟨c, lp, lf, mp, mf, h1, h2, h3, h4, rfl⟩ := h
  exact ⟨lp, lf, ⟨c, FlS.start h1, h2⟩, h3, h4⟩
theorem FlX.done (h : FlX F0 w0 w g M lp lf L) (hp : RelP lp M) (hf : RelF lf M) : Turned IsL g F0 w0 w M := by
  obtain ⟨c, h1, h2⟩ := h
  obtain ⟨mp, mf, j1, j2, j3⟩ := h1.ex
  exact ⟨ff g mp mf, ⟨c, lp, lf, mp, mf, j1, h2, hp, hf, rfl⟩, h1.keeps, j3⟩
theorem IsL.size {F : Nat → Prop} (h : IsL w g M F) : g < w.heap.size := by
  obtain ⟨c, lp, lf, mp, mf, h1, h2, h3, h4, rfl⟩ := h; exact h1.pages.lt

/-! The maps. -/
theorem FlX.getP (h : FlX F0 w0 w g M lp lf L) (a : A3) (ha : okA a) (hv : ∀ p ∈ lp, okV 34 p.2) :
    Calls Tryz.prog 52 #[.pointer (some ⟨g, 399, none⟩), encA a] w fun e w' => e = .returned (.tuple #[(getA lp a).getD (.agg zPg.toArray), .bool (getA lp a).isSome]) ∧ Below w.heap.size w w' := by
  obtain ⟨c, h1, h2⟩ := h
  obtain ⟨mp, mf, j1, j2, j3⟩ := h1.ex
  exact getPg_any g 399 mp lp a w j1.pages ha hv
theorem FlX.setP (h : FlX F0 w0 w g M lp lf L) (a : A3) (ha : okA a) (v : Value) (hv : okV 34 v) :
    Calls Tryz.prog 49 #[.pointer (some ⟨g, 399, none⟩), encA a, v] w fun e w' => e = .returned (.tuple #[]) ∧ FlX F0 w0 w' g M ((a, v) :: delA lp a) lf L ∧ Same L w w' := by
  obtain ⟨c, h1, h2⟩ := h
  obtain ⟨mp, mf, j1, j2, j3⟩ := h1.ex
  refine (setPg_any g 399 mp lp a v w j1.pages ha hv).mono ?_
  rintro e w' ⟨rfl, mp', k1, k2, k3⟩
  have := FlS.mapP j1 j2 j3 h1.lt h1.keeps k1 k2 k3
  exact ⟨rfl, ⟨c, this.1, h2⟩, this.2⟩
theorem FlX.dropP (h : FlX F0 w0 w g M lp lf L) (a : A3) (ha : okA a) (hv : ∀ p ∈ lp, okV 34 p.2) :
    Calls Tryz.prog 47 #[.pointer (some ⟨g, 399, none⟩), encA a] w fun e w' => e = .returned (.bool (getA lp a).isSome) ∧ FlX F0 w0 w' g M (delA lp a) lf L ∧ Same L w w' := by
  obtain ⟨c, h1, h2⟩ := h
  obtain ⟨mp, mf, j1, j2, j3⟩ := h1.ex
  refine (dropPg_any g 399 mp lp a w j1.pages ha hv).mono ?_
  rintro e w' ⟨rfl, k1, k2⟩
  have := FlS.mapP j1 j2 j3 h1.lt h1.keeps k1 k2 (.inl rfl)
  exact ⟨rfl, ⟨c, this.1, h2⟩, this.2⟩
theorem FlX.setF (h : FlX F0 w0 w g M lp lf L) (a : A3) (ha : okA a) (v : Value) (hv : okV 0 v) :
    Calls Tryz.prog 54 #[.pointer (some ⟨g, 400, none⟩), encA a, v] w fun e w' => e = .returned (.tuple #[]) ∧ FlX F0 w0 w' g M lp ((a, v) :: delA lf a) L ∧ Same L w w' := by
  obtain ⟨c, h1, h2⟩ := h
  obtain ⟨mp, mf, j1, j2, j3⟩ := h1.ex
  refine (setEm_any g 400 mf lf a v w j1.fails ha hv).mono ?_
  rintro e w' ⟨rfl, mp', k1, k2, k3⟩
  have := FlS.mapF j1 j2 j3 h1.lt h1.keeps k1 k2 k3
  exact ⟨rfl, ⟨c, this.1, h2⟩, this.2⟩
theorem FlX.dropF (h : FlX F0 w0 w g M lp lf L) (a : A3) (ha : okA a) (hv : ∀ p ∈ lf, okV 0 p.2) :
    Calls Tryz.prog 48 #[.pointer (some ⟨g, 400, none⟩), encA a] w fun e w' => e = .returned (.bool (getA lf a).isSome) ∧ FlX F0 w0 w' g M lp (delA lf a) L ∧ Same L w w' := by
  obtain ⟨c, h1, h2⟩ := h
  obtain ⟨mp, mf, j1, j2, j3⟩ := h1.ex
  refine (dropEm_any g 400 mf lf a w j1.fails ha hv).mono ?_
  rintro e w' ⟨rfl, k1, k2⟩
  have := FlS.mapF j1 j2 j3 h1.lt h1.keeps k1 k2 (.inl rfl)
  exact ⟨rfl, ⟨c, this.1, h2⟩, this.2⟩
end
end Go.Proofs.YtfploeefmnbpcaaGreat

/- A flash's cells and its model, step by step. No walk here. -/
namespace Go.Proofs.YtfploeefmnbpcaaGreat
open Go.RowKit Mp Go.ChangeMaps

section
variable {M M' : FlM} {c c' : Nat → Value} {x y : Nat} {B : BlkM}
theorem blk_setB (M : FlM) (x y : Nat) (B : BlkM) (x' y' : Nat) : (M.setB x y B).blk x' y' = if x' = x ∧ y' = y then B else M.blk x' y' := by
  by_cases h1 : x' = x
  · subst h1
    by_cases h2 : y' = y
    · subst h2; rw [FlM.setB_same]; simp
    · rw [FlM.setB_block B h2]; simp [h2]
  · rw [FlM.setB_die B h1]; simp [h1]
theorem tick_d (M : FlM) : M.tick.d = M.d := by unfold FlM.tick; split <;> rfl
theorem tick_b (M : FlM) : M.tick.b = M.b := by unfold FlM.tick; split <;> rfl
theorem tick_p (M : FlM) : M.tick.p = M.p := by unfold FlM.tick; split <;> rfl
theorem tick_blk (M : FlM) : M.tick.blk = M.blk := by unfold FlM.tick; split <;> rfl
theorem tick_dead (M : FlM) : M.tick.dead = M.dead := by unfold FlM.tick; split <;> rfl
theorem tick_broken (M : FlM) : M.tick.broken = M.broken := by unfold FlM.tick; split <;> rfl
theorem tick_ops (M : FlM) : M.tick.ops = M.ops + 1 := by unfold FlM.tick; split <;> rfl
theorem tick_setB (M : FlM) (x y : Nat) (B : BlkM) : (M.setB x y B).tick = M.tick.setB x y B := by
  unfold FlM.tick FlM.setB; dsimp only; split <;> rfl
theorem cutNow_setB (M : FlM) (x y : Nat) (B : BlkM) : (M.setB x y B).cutNow = M.cutNow := rfl

theorem RelC.congr (h : RelC c M) (e1 : M'.d = M.d) (e2 : M'.b = M.b) (e3 : M'.p = M.p) (e4 : M'.power = M.power) (e5 : M'.cut = M.cut) (e6 : M'.ops = M.ops) (e7 : M'.broken = M.broken) (e8 : ∀ x, x < 6 → M'.dead x = M.dead x)
    (e9 : ∀ x y, x < 6 → y < 16 → (M'.blk x y).next = (M.blk x y).next ∧ (M'.blk x y).worn = (M.blk x y).worn ∧ (M'.blk x y).told = (M.blk x y).told ∧ (M'.blk x y).met = (M.blk x y).met) : RelC c M' :=
  ⟨by rw [e1]; exact h.g0, by rw [e2]; exact h.g1, by rw [e3]; exact h.g2, by rw [e1, e2, e3]; exact h.may, by rw [e4]; exact h.power, by rw [e4, e5]; exact h.cut, by rw [e6]; exact h.ops, by rw [e7]; exact h.broken,
   fun x hx => by rw [e8 x hx]; exact h.dead x hx, fun x y hx hy => by rw [(e9 x y hx hy).1]; exact h.next x y hx hy, fun x y hx hy => by rw [(e9 x y hx hy).2.1]; exact h.worn x y hx hy,
   fun x y hx hy => by rw [(e9 x y hx hy).2.2.1]; exact h.told x y hx hy, fun x y hx hy => by rw [(e9 x y hx hy).2.2.2]; exact h.met x y hx hy, fun x y hx hy => by rw [(e9 x y hx hy).1, e3]; exact h.le x y hx hy⟩
/-- A block's cells turn. -/
theorem RelC.setB (h : RelC c M) (hx : x < 6) (hy : y < 16) (hlow : ∀ i, i < 15 → c' i = c i) (hoff : ∀ x' y' k, x' < 6 → y' < 16 → k < 4 → ¬ (x' = x ∧ y' = y) → c' (15 + x' * 64 + y' * 4 + k) = c (15 + x' * 64 + y' * 4 + k))
    (h0 : c' (15 + x * 64 + y * 4) = .int .i64 B.next) (h1 : c' (15 + x * 64 + y * 4 + 1) = .int .i64 B.worn) (h2 : c' (15 + x * 64 + y * 4 + 2) = .bool B.told) (h3 : c' (15 + x * 64 + y * 4 + 3) = .bool B.met) (hle : B.next ≤ M.p) : RelC c' (M.setB x y B) := by
  refine ⟨(hlow 0 (by omega)).trans h.g0, (hlow 1 (by omega)).trans h.g1, (hlow 2 (by omega)).trans h.g2, h.may, (hlow 3 (by omega)).trans h.power, ?_, (hlow 7 (by omega)).trans h.ops, (hlow 8 (by omega)).trans h.broken, fun x hx => (hlow _ (by omega)).trans (h.dead x hx), ?_, ?_, ?_, ?_, ?_⟩
  · obtain ⟨s, l, k, a1, a2, a3, a4⟩ := h.cut
    exact ⟨s, l, k, (hlow 4 (by omega)).trans a1, (hlow 5 (by omega)).trans a2, (hlow 6 (by omega)).trans a3, a4⟩
  all_goals intro x' y' hx' hy'; rw [blk_setB]; split
  · rename_i e; obtain ⟨rfl, rfl⟩ := e; exact h0
  · rename_i e; have := hoff x' y' 0 hx' hy' (by omega) e; exact this.trans (h.next x' y' hx' hy')
  · rename_i e; obtain ⟨rfl, rfl⟩ := e; exact h1
  · rename_i e; exact (hoff x' y' 1 hx' hy' (by omega) e).trans (h.worn x' y' hx' hy')
  · rename_i e; obtain ⟨rfl, rfl⟩ := e; exact h2
  · rename_i e; exact (hoff x' y' 2 hx' hy' (by omega) e).trans (h.told x' y' hx' hy')
  · rename_i e; obtain ⟨rfl, rfl⟩ := e; exact h3
  · rename_i e; exact (hoff x' y' 3 hx' hy' (by omega) e).trans (h.met x' y' hx' hy')
  · exact hle
  · exact h.le x' y' hx' hy'
theorem RelC.next' (h : RelC c M) (hx : x < 6) (hy : y < 16) (n : Nat) (hn : n ≤ M.p) : RelC (upd c (15 + x * 64 + y * 4) (.int .i64 n)) (M.setB x y { M.blk x y with next := n }) :=
  h.setB hx hy (fun i hi => upd_off _ _ (by omega)) (fun x' y' k hx' hy' hk hne => upd_off _ _ (by omega)) (upd_same _ _ _) ((upd_off _ _ (by omega)).trans (h.worn x y hx hy)) ((upd_off _ _ (by omega)).trans (h.told x y hx hy)) ((upd_off _ _ (by omega)).trans (h.met x y hx hy)) hn
theorem RelC.worn' (h : RelC c M) (hx : x < 6) (hy : y < 16) (n : Nat) : RelC (upd c (15 + x * 64 + y * 4 + 1) (.int .i64 n)) (M.setB x y { M.blk x y with worn := n }) :=
  h.setB hx hy (fun i hi => upd_off _ _ (by omega)) (fun x' y' k hx' hy' hk hne => upd_off _ _ (by omega)) ((upd_off _ _ (by omega)).trans (h.next x y hx hy)) (upd_same _ _ _) ((upd_off _ _ (by omega)).trans (h.told x y hx hy)) ((upd_off _ _ (by omega)).trans (h.met x y hx hy)) (h.le x y hx hy)
theorem RelC.told' (h : RelC c M) (hx : x < 6) (hy : y < 16) (t : Bool) : RelC (upd c (15 + x * 64 + y * 4 + 2) (.bool t)) (M.setB x y { M.blk x y with told := t }) :=
  h.setB hx hy (fun i hi => upd_off _ _ (by omega)) (fun x' y' k hx' hy' hk hne => upd_off _ _ (by omega)) ((upd_off _ _ (by omega)).trans (h.next x y hx hy)) ((upd_off _ _ (by omega)).trans (h.worn x y hx hy)) (upd_same _ _ _) ((upd_off _ _ (by omega)).trans (h.met x y hx hy)) (h.le x y hx hy)
theorem RelC.met' (h : RelC c M) (hx : x < 6) (hy : y < 16) (t : Bool) : RelC (upd c (15 + x * 64 + y * 4 + 3) (.bool t)) (M.setB x y { M.blk x y with met := t }) :=
  h.setB hx hy (fun i hi => upd_off _ _ (by omega)) (fun x' y' k hx' hy' hk hne => upd_off _ _ (by omega)) ((upd_off _ _ (by omega)).trans (h.next x y hx hy)) ((upd_off _ _ (by omega)).trans (h.worn x y hx hy)) ((upd_off _ _ (by omega)).trans (h.told x y hx hy)) (upd_same _ _ _) (h.le x y hx hy)
/-- A cell that is no block's turns. -/
theorem RelC.low (h : RelC c M) (hlow : ∀ i, 15 ≤ i → c' i = c i) (d : M'.d = M.d) (b : M'.b = M.b) (p : M'.p = M.p) (k : M'.blk = M.blk) (h0 : c' 0 = c 0) (h1 : c' 1 = c 1) (h2 : c' 2 = c 2) (h3 : c' 3 = .bool M'.power)
    (h4 : ∃ s l k, c' 4 = .bool s ∧ c' 5 = .int .i64 l ∧ c' 6 = .int .i64 k ∧ (M'.power = true → CutIs M'.cut s l k)) (h7 : c' 7 = .int .i64 M'.ops) (h8 : c' 8 = .int .i64 M'.broken) (h9 : ∀ x, x < 6 → c' (9 + x) = .bool (M'.dead x)) : RelC c' M' :=
  ⟨by rw [d]; exact h0.trans h.g0, by rw [b]; exact h1.trans h.g1, by rw [p]; exact h2.trans h.g2, by rw [d, b, p]; exact h.may, h3, h4, h7, h8, h9,
   fun x y hx hy => by rw [k]; exact (hlow _ (by omega)).trans (h.next x y hx hy), fun x y hx hy => by rw [k]; exact (hlow _ (by omega)).trans (h.worn x y hx hy), fun x y hx hy => by rw [k]; exact (hlow _ (by omega)).trans (h.told x y hx hy), fun x y hx hy => by rw [k]; exact (hlow _ (by omega)).trans (h.met x y hx hy), fun x y hx hy => by rw [k, p]; exact h.le x y hx hy⟩
theorem RelC.broken' (h : RelC c M) (n : Nat) : RelC (upd c 8 (.int .i64 n)) { M with broken := n } := by
  refine h.low (fun i hi => upd_off _ _ (by omega)) rfl rfl rfl rfl rfl rfl rfl h.power ?_ h.ops (upd_same _ _ _) (fun x hx => (upd_off _ _ (by omega)).trans (h.dead x hx))
  exact h.cut
theorem RelC.ops' (h : RelC c M) (n : Nat) : RelC (upd c 7 (.int .i64 n)) { M with ops := n } := by
  refine h.low (fun i hi => upd_off _ _ (by omega)) rfl rfl rfl rfl rfl rfl rfl h.power ?_ (upd_same _ _ _) h.broken (fun x hx => (upd_off _ _ (by omega)).trans (h.dead x hx))
  exact h.cut
theorem RelC.dead' (h : RelC c M) (hx : x < 6) (t : Bool) : RelC (upd c (9 + x) (.bool t)) { M with dead := upd M.dead x t } := by
  refine h.low (fun i hi => upd_off _ _ (by omega)) rfl rfl rfl rfl (upd_off _ _ (by omega)) (upd_off _ _ (by omega)) (upd_off _ _ (by omega)) ((upd_off _ _ (by omega)).trans h.power) ?_ ((upd_off _ _ (by omega)).trans h.ops) ((upd_off _ _ (by omega)).trans h.broken) (fun z hz => ?_)
  · obtain ⟨s, l, k, a1, a2, a3, a4⟩ := h.cut
    exact ⟨s, l, k, (upd_off _ _ (by omega)).trans a1, (upd_off _ _ (by omega)).trans a2, (upd_off _ _ (by omega)).trans a3, a4⟩
  · show _ = Value.bool (upd M.dead x t z)
    by_cases e : z = x
    · subst e; rw [upd_same, upd_same]
    · rw [upd_off M.dead _ e, upd_off c _ (by omega)]; exact h.dead z hz
/-- Power goes. -/
theorem RelC.off (h : RelC c M) (cu : Option (Nat × Nat)) : RelC (upd c 3 (.bool false)) { M with power := false, cut := cu } := by
  refine h.low (fun i hi => upd_off _ _ (by omega)) rfl rfl rfl rfl rfl rfl rfl (upd_same _ _ _) ?_ h.ops h.broken (fun x hx => (upd_off _ _ (by omega)).trans (h.dead x hx))
  obtain ⟨s, l, k, a1, a2, a3, a4⟩ := h.cut
  exact ⟨s, l, k, a1, a2, a3, fun e => (by cases e)⟩
/-- One operation fewer ahead of the cut. -/
theorem RelC.left (h : RelC c M) {n j : Nat} (hp : M.power = true) (hc : M.cut = some (n + 1, j)) : RelC (upd c 5 (.int .i64 n)) { M with cut := some (n, j) } := by
  refine h.low (fun i hi => upd_off _ _ (by omega)) rfl rfl rfl rfl rfl rfl rfl h.power ?_ h.ops h.broken (fun x hx => (upd_off _ _ (by omega)).trans (h.dead x hx))
  obtain ⟨s, l, k, a1, a2, a3, a4⟩ := h.cut
  have := a4 hp
  rw [hc] at this
  obtain ⟨b1, b2, b3, b4⟩ := this
  exact ⟨s, n, k, a1, upd_same _ _ _, a3, fun _ => ⟨b1, rfl, by omega, b4⟩⟩
/-- A cut is laid. -/
theorem RelC.lay (h : RelC c M) (s : Bool) (l k : Int) (cu : Option (Nat × Nat)) (hc : M.power = true → CutIs cu s l k) : RelC (upd (upd (upd c 4 (.bool s)) 5 (.int .i64 l)) 6 (.int .i64 k)) { M with cut := cu } := by
  refine h.low (fun i hi => by rw [upd_off _ _ (by omega), upd_off _ _ (by omega), upd_off _ _ (by omega)]) rfl rfl rfl rfl rfl rfl rfl h.power ⟨s, l, k, rfl, rfl, rfl, hc⟩ h.ops h.broken (fun x hx => ?_)
  rw [upd_off _ _ (by omega), upd_off _ _ (by omega), upd_off _ _ (by omega)]; exact h.dead x hx
/-- Power comes; there is no cut. -/
theorem RelC.on (h : RelC c M) (l k : Int) : RelC (upd (upd (upd (upd c 3 (.bool true)) 4 (.bool false)) 5 (.int .i64 l)) 6 (.int .i64 k)) M.on := by
  refine h.low (fun i hi => by rw [upd_off _ _ (by omega), upd_off _ _ (by omega), upd_off _ _ (by omega), upd_off _ _ (by omega)]) rfl rfl rfl rfl rfl rfl rfl rfl ⟨false, l, k, rfl, rfl, rfl, fun _ => rfl⟩ h.ops h.broken (fun x hx => ?_)
  rw [upd_off _ _ (by omega), upd_off _ _ (by omega), upd_off _ _ (by omega), upd_off _ _ (by omega)]; exact h.dead x hx
end
end Go.Proofs.YtfploeefmnbpcaaGreat

/- A flash's methods that read: Power, Ops, Broken, Geo; On, Cut; start. -/
namespace Go.Proofs.YtfploeefmnbpcaaGreat
open Go.RowKit Mp Go.ChangeMaps

section
variable {F0 : Nat → Prop} {w0 w : World} {g : Nat} {M : FlM} {lp lf : List (A3 × Value)} {L : List Nat}
set_option maxRecDepth 100000
set_option maxHeartbeats 1000000
theorem off_ne {g a b : Nat} (h : a ≠ b) : (⟨g, a, none⟩ : Addr) ≠ ⟨g, b, none⟩ := fun e => h (congrArg Addr.off e)
theorem power_any (h : FlX F0 w0 w g M lp lf L) : Calls Tryz.prog 37 #[nptr g] w fun e w' => e = .returned (.bool M.power) ∧ Below w.heap.size w w' := by
  have hc := h.power
  clear h
  generalize M.power = p at hc ⊢
  go_enter Tryz.func37, Tryz.ntmps37
  go_wp2
  go_ret
  exact ⟨rfl, Below.refl _ _⟩
theorem ops_any (h : FlX F0 w0 w g M lp lf L) : Calls Tryz.prog 24 #[nptr g] w fun e w' => e = .returned (.int .i64 M.ops) ∧ Below w.heap.size w w' := by
  have hc := h.ops
  clear h
  generalize M.ops = p at hc ⊢
  go_enter Tryz.func24, Tryz.ntmps24
  go_wp2
  go_ret
  exact ⟨rfl, Below.refl _ _⟩
theorem broken_any (h : FlX F0 w0 w g M lp lf L) : Calls Tryz.prog 19 #[nptr g] w fun e w' => e = .returned (.int .i64 M.broken) ∧ Below w.heap.size w w' := by
  have hc := h.broken
  clear h
  generalize M.broken = p at hc ⊢
  go_enter Tryz.func19, Tryz.ntmps19
  go_wp2
  go_ret
  exact ⟨rfl, Below.refl _ _⟩
theorem nandgeo_any (h : FlX F0 w0 w g M lp lf L) : Calls Tryz.prog 38 #[nptr g] w fun e w' => e = .returned (geoV M.d M.b M.p) ∧ Below w.heap.size w w' := by
  have h0 := h.g0
  have h1 := h.g1
  have h2 := h.g2
  have hlt := h.size
  clear h
  generalize (M.d : Int) = d, (M.b : Int) = b, (M.p : Int) = p at h0 h1 h2 ⊢
  go_enter Tryz.func38, Tryz.ntmps38
  go_wp2
  exact bodyPost_ret (v := geoV d b p) (by simp [results, Tryz.results38, go_sem]) rfl ⟨rfl, (Below.refl _ _).alloc (Nat.le_refl _) _⟩
theorem on_any (h : FlX F0 w0 w g M lp lf L) : Calls Tryz.prog 22 #[nptr g] w fun e w' => e = .returned (.tuple #[]) ∧ FlX F0 w0 w' g M.on lp lf L := by
  have h3 := h.power
  have f3 := h.free (i := 3) (by omega)
  obtain ⟨s, l, k, h4, h5, h6, -⟩ := h.cut
  have f4 := h.free (i := 4) (by omega)
  have f5 := h.free (i := 5) (by omega)
  have f6 := h.free (i := 6) (by omega)
  have HH := Lib.hid h
  clear h
  go_enter Tryz.func22, Tryz.ntmps22
  go_wp2
  go_end0
  obtain ⟨c, h1, h2⟩ := HH.out
  have k1 := (h1.set (i := 3) (by omega) (.bool true)).1
  have k2 := (k1.set (i := 4) (by omega) (.bool false)).1
  have k3 := (k2.set (i := 5) (by omega) (.int .i64 0)).1
  have k4 := (k3.set (i := 6) (by omega) (.int .i64 0)).1
  exact ⟨rfl, _, k4, h2.on 0 0⟩
theorem cutAt_neg {ops keep : Int} (h : ops < 0) : M.cutAt ops keep = { M with power := false, cut := (M.cutAt ops keep).cut } := by
  unfold FlM.cutAt
  cases hp : M.power with
  | true => simp [h]
  | false => simp [← hp]
theorem cutAt_cut {ops keep : Int} (h : 0 ≤ ops) : M.cutAt ops keep = { M with cut := (M.cutAt ops keep).cut } := by
  unfold FlM.cutAt
  cases hp : M.power with
  | true => simp [show ¬ ops < 0 by omega]
  | false => rw [if_pos rfl, ← hp]
theorem cut_any (h : FlX F0 w0 w g M lp lf L) (ops keep : Int) (hb : ops ≤ 9223372036854775807) : Calls Tryz.prog 21 #[nptr g, .int .i64 ops, .int .i64 keep] w fun e w' => e = .returned (.tuple #[]) ∧ FlX F0 w0 w' g (M.cutAt ops keep) lp lf L := by
  have h3 := h.power
  have f3 := h.free (i := 3) (by omega)
  obtain ⟨s, l, k, h4, h5, h6, -⟩ := h.cut
  have f4 := h.free (i := 4) (by omega)
  have f5 := h.free (i := 5) (by omega)
  have f6 := h.free (i := 6) (by omega)
  have HH := Lib.hid h
  clear h
  by_cases hlt : ops < 0
  · have HL := Lib.hid hlt
    go_enter Tryz.func21, Tryz.ntmps21
    go_wp2
    (try simp only [Exit.inBlock, Exit.then])
    refine bodyPost_ret (results_none rfl _ _ _) rfl ?_
    obtain ⟨c, h1, h2⟩ := HH.out
    rw [cutAt_neg HL.out]
    exact ⟨rfl, _, (h1.set (i := 3) (by omega) (.bool false)).1, h2.off _⟩
  · have HL := Lib.hid hlt
    go_enter Tryz.func21, Tryz.ntmps21
    go_wp2
    go_end0
    obtain ⟨c, h1, h2⟩ := HH.out
    rw [cutAt_cut (show 0 ≤ ops by have := HL.out; omega)]
    have k2 := (h1.set (i := 4) (by omega) (.bool true)).1
    have k3 := (k2.set (i := 5) (by omega) (.int .i64 ops)).1
    have k4 := (k3.set (i := 6) (by omega) (.int .i64 keep)).1
    refine ⟨rfl, _, k4, h2.lay true ops keep _ fun hp => ?_⟩
    have hlt := HL.out
    unfold FlM.cutAt
    rw [if_neg (by simp [hp]), if_neg (by omega)]
    exact ⟨rfl, by omega, by omega, rfl⟩
theorem start_any (h : FlX F0 w0 w g M lp lf L) (hp : M.power = true) (ho : M.ops < 4000000000000000000) : Calls Tryz.prog 45 #[nptr g] w fun e w' => e = .returned (.bool M.cutNow.isSome) ∧ FlX F0 w0 w' g M.tick lp lf L ∧ Same L w w' ∧ ∀ j, M.cutNow = some j → ∃ k : Int, w'.cell? ⟨g, 6, none⟩ = some (.int .i64 k) ∧ j = (max 0 (min k 32)).toNat := by
  have h3 := h.power
  have f3 := h.free (i := 3) (by omega)
  obtain ⟨s, l, k, h4, h5, h6, hc⟩ := h.cut
  have f5 := h.free (i := 5) (by omega)
  have h7 := h.ops
  have f7 := h.free (i := 7) (by omega)
  have HH := Lib.hid h
  have HC := Lib.hid (hc hp)
  have hw : IntKind.i64.wrap ((M.ops : Int) + 1) = ((M.ops + 1 : Nat) : Int) := IntWalk.i64_in _ (by omega)
  have HP := Lib.hid hp
  have HK := Lib.hid h6
  clear h hc hp h6
  cases hcut : M.cut with
  | none =>
    rw [hcut] at HC
    obtain rfl : s = false := HC.out
    have HCUT := Lib.hid hcut
    clear hcut
    go_enter Tryz.func45, Tryz.ntmps45
    go_wp2
    go_ret
    rw [FlM.tick_none HCUT.out, FlM.cutNow_none HCUT.out]
    have hs := HH.out.set (i := 7) (by omega) (.int .i64 ((M.ops + 1 : Nat) : Int)) (fun c h => h.ops' (M.ops + 1))
    exact ⟨rfl, hs.1, hs.2, fun j e => (by cases e)⟩
  | some q =>
    obtain ⟨n, j⟩ := q
    rw [hcut] at HC
    obtain ⟨rfl, rfl, hn, hj⟩ := HC.out
    have HCUT := Lib.hid hcut
    have HJ := Lib.hid hj
    clear hcut hj
    cases n with
    | zero =>
      go_enter Tryz.func45, Tryz.ntmps45
      go_wp2
      go_ret
      have hcn : M.cutNow = some j := by unfold FlM.cutNow; rw [HCUT.out]; rfl
      rw [FlM.tick_zero HCUT.out, hcn]
      have hs := HH.out.set (i := 7) (by omega) (.int .i64 ((M.ops + 1 : Nat) : Int)) (fun c h => h.ops' (M.ops + 1))
      have hs2 := hs.1.set (i := 3) (by omega) (.bool false) (fun c h => h.off none)
      refine ⟨rfl, hs2.1, hs.2.trans hs2.2, fun j' e => ?_⟩
      cases e
      refine ⟨k, ?_, HJ.out⟩
      rw [World.cell?_setCell_other _ _ _ _ (off_ne (by omega)), World.cell?_setCell_other _ _ _ _ (off_ne (by omega))]
      exact HK.out
    | succ n =>
      obtain ⟨v, hv⟩ : ∃ v : Int, ((n + 1 : Nat) : Int) = v := ⟨_, rfl⟩
      rw [hv] at h5 hn
      have hv1 : 1 ≤ v := by omega
      have hv0 : ¬ v = 0 := by omega
      have HV := Lib.hid (show v - 1 = (n : Int) by omega)
      clear hv
      go_enter Tryz.func45, Tryz.ntmps45
      go_wp2
      go_ret
      rw [FlM.tick_some HCUT.out, FlM.cutNow_some HCUT.out]
      have hs := HH.out.set (i := 7) (by omega) (.int .i64 ((M.ops + 1 : Nat) : Int)) (fun c h => h.ops' (M.ops + 1))
      have hs2 := hs.1.set (i := 5) (by omega) (.int .i64 (n : Int)) (fun c h => h.left HP.out HCUT.out)
      rw [HV.out]
      refine ⟨rfl, hs2.1, hs.2.trans hs2.2, fun j' e => (by cases e)⟩
end
end Go.Proofs.YtfploeefmnbpcaaGreat

/- A flash: which page can be come at; which block there is. -/
namespace Go.Proofs.YtfploeefmnbpcaaGreat
open Go.RowKit Mp Go.ChangeMaps

/-- What can be seen of a flash where its measure is asked. -/
structure See (g d b p : Nat) (B : Nat) (x y z : Int) (W : World) : Prop where
  g0 : W.cell? ⟨g, 0, none⟩ = some (.int .i64 (d : Int))
  g1 : W.cell? ⟨g, 1, none⟩ = some (.int .i64 (b : Int))
  g2 : W.cell? ⟨g, 2, none⟩ = some (.int .i64 (p : Int))
  row : Row W B 32 (cellsA (x, y, z))
theorem See.below {g d b p B : Nat} {x y z : Int} {W W' : World} (h : See g d b p B x y z W) (hb : Below W.heap.size W W') : See g d b p B x y z W' :=
  have hg := World.block_lt_of_cell? W _ h.g0
  ⟨(hb.cell (p := ⟨g, 0, none⟩) hg).trans h.g0, (hb.cell (p := ⟨g, 1, none⟩) hg).trans h.g1, (hb.cell (p := ⟨g, 2, none⟩) hg).trans h.g2, h.row.below hb (Nat.le_refl _)⟩

section
variable {F0 : Nat → Prop} {w0 w : World} {g : Nat} {M : FlM} {lp lf : List (A3 × Value)} {L : List Nat}
set_option maxRecDepth 100000
set_option maxHeartbeats 1000000
theorem reach_no (h : FlX F0 w0 w g M lp lf L) (x y z : Int) (hp : M.power = true) (hi : inGB M.d M.b M.p x y z = false) : Calls Tryz.prog 44 #[nptr g, geoV x y z] w fun e w' => e = .returned (.int .i64 3) ∧ Below w.heap.size w w' := by
  have h3 := h.power
  have g0 := h.g0
  have g1 := h.g1
  have g2 := h.g2
  have hlt := h.size
  rw [hp] at h3
  obtain ⟨d, hd⟩ : ∃ d, M.d = d := ⟨_, rfl⟩
  obtain ⟨b, hb⟩ : ∃ b, M.b = b := ⟨_, rfl⟩
  obtain ⟨p, hpp⟩ : ∃ p, M.p = p := ⟨_, rfl⟩
  rw [hd] at g0 hi
  rw [hb] at g1 hi
  rw [hpp] at g2 hi
  have HG := Lib.hid (fun w => by have := gin_any d b p x y z w; rw [hi] at this; exact this)
  clear h hp hi hd hb hpp
  go_enter Tryz.func44, Tryz.ntmps44
  go_upto_region 5 with fail
  refine gen_world (p := fun W => Row W w.heap.size 32 (cellsA (x, y, z)) ∧ Below w.heap.size w W ∧ W.heap.size = w.heap.size + 1) (new_one w _ (cellsA (x, y, z))) ?_
  intro W NEW
  obtain ⟨RA, HW, hsz⟩ := NEW
  have HS := Lib.hid (show See g d b p w.heap.size x y z W.drew from ⟨(HW.cell (p := ⟨g, 0, none⟩) hlt).trans g0, (HW.cell (p := ⟨g, 1, none⟩) hlt).trans g1, (HW.cell (p := ⟨g, 2, none⟩) hlt).trans g2, RA⟩)
  have HB := Lib.hid HW.drew
  clear HW RA g0 g1 g2 h3 hsz
  refine wp_region_plan (S := fun W' => See g d b p w.heap.size x y z W') [(0, true), (1, true), (2, true), (3, true), (4, true), (5, false), (6, true), (7, true)] (by kernel_rfl) (by kernel_rfl) (by kernel_rfl) (by decide) (fun _ _ d _ _ h => by cases d <;> exact h) HS.out ?_
  simp only [stepsOf, nth, slotOf]
  iterate 4 (refine wpPlan_plain ?_ (by rfl) ?_ ?_; rotate_left; (focus (intro w' hw'; obtain ⟨y0, y1, y2, y3⟩ := hw'; go_simp; try with_reducible rfl)); go_simp)
  refine wpPlan_plain (geoV x y z) (by rfl) (fun w' hw' => exec_load rfl rfl (run_loadRow isAgg_A size_A rfl hw'.row)) ?_
  go_simp
  refine wpPlan_loud (by rfl) (fun K hK => ?_)
  go_simp
  go_wp2_with ((with_reducible refine (HG.out _).mono ?_); rintro e x2 ⟨rfl, hbx⟩; have HB := Lib.hid (HB.out.trans (hbx.mono HB.out.size)); have HS := Lib.hid (HS.out.below hbx); clear hbx)
  refine hK _ _ _ (fun _ h => h) HS.out ?_
  clear hK
  iterate 2 (refine wpPlan_plain ?_ (by rfl) ?_ ?_; rotate_left; (focus (intro w' hw'; obtain ⟨y0, y1, y2, y3⟩ := hw'; go_simp; try with_reducible rfl)); go_simp)
  refine wpPlan_nil ?_
  go_wp2
  go_ret
  exact ⟨rfl, HB.out⟩
theorem reach_in (h : FlX F0 w0 w g M lp lf L) (x : Nat) (y z : Int) (hp : M.power = true) (hi : inGB M.d M.b M.p x y z = true) : Calls Tryz.prog 44 #[nptr g, geoV x y z] w fun e w' => e = .returned (.int .i64 (if M.dead x = true then 8 else 0)) ∧ Below w.heap.size w w' := by
  have h3 := h.power
  have g0 := h.g0
  have g1 := h.g1
  have g2 := h.g2
  have hlt := h.size
  have hx6 : x < 6 := by have := h.lim; simp only [inGB, decide_eq_true_eq] at hi; omega
  have h9 := h.dead hx6
  rw [hp] at h3
  obtain ⟨d, hd⟩ : ∃ d, M.d = d := ⟨_, rfl⟩
  obtain ⟨b, hb⟩ : ∃ b, M.b = b := ⟨_, rfl⟩
  obtain ⟨p, hpp⟩ : ∃ p, M.p = p := ⟨_, rfl⟩
  rw [hd] at g0 hi
  rw [hb] at g1 hi
  rw [hpp] at g2 hi
  have HG := Lib.hid (fun w => by have := gin_any d b p x y z w; rw [hi] at this; exact this)
  generalize M.dead x = t at h9 ⊢
  clear h hp hi hd hb hpp
  go_enter Tryz.func44, Tryz.ntmps44
  go_upto_region 5 with fail
  refine gen_world (p := fun W => Row W w.heap.size 32 (cellsA (x, y, z)) ∧ Below w.heap.size w W ∧ W.heap.size = w.heap.size + 1) (new_one w _ (cellsA (x, y, z))) ?_
  intro W NEW
  obtain ⟨RA, HW, hsz⟩ := NEW
  have HS := Lib.hid (show See g d b p w.heap.size x y z W.drew from ⟨(HW.cell (p := ⟨g, 0, none⟩) hlt).trans g0, (HW.cell (p := ⟨g, 1, none⟩) hlt).trans g1, (HW.cell (p := ⟨g, 2, none⟩) hlt).trans g2, RA⟩)
  have HB := Lib.hid HW.drew
  have H9 := Lib.hid h9
  clear HW RA g0 g1 g2 h3 hsz h9
  refine wp_region_plan (S := fun W' => See g d b p w.heap.size x y z W') [(0, true), (1, true), (2, true), (3, true), (4, true), (5, false), (6, true), (7, true)] (by kernel_rfl) (by kernel_rfl) (by kernel_rfl) (by decide) (fun _ _ d _ _ h => by cases d <;> exact h) HS.out ?_
  simp only [stepsOf, nth, slotOf]
  iterate 4 (refine wpPlan_plain ?_ (by rfl) ?_ ?_; rotate_left; (focus (intro w' hw'; obtain ⟨y0, y1, y2, y3⟩ := hw'; go_simp; try with_reducible rfl)); go_simp)
  refine wpPlan_plain (geoV x y z) (by rfl) (fun w' hw' => exec_load rfl rfl (run_loadRow isAgg_A size_A rfl hw'.row)) ?_
  go_simp
  refine wpPlan_loud (by rfl) (fun K hK => ?_)
  go_simp
  go_wp2_with ((with_reducible refine (HG.out _).mono ?_); rintro e x2 ⟨rfl, hbx⟩; have HB := Lib.hid (HB.out.trans (hbx.mono HB.out.size)); have HS := Lib.hid (HS.out.below hbx); clear hbx)
  refine hK _ _ _ (fun _ h => h) HS.out ?_
  clear hK
  iterate 2 (refine wpPlan_plain ?_ (by rfl) ?_ ?_; rotate_left; (focus (intro w' hw'; obtain ⟨y0, y1, y2, y3⟩ := hw'; go_simp; try with_reducible rfl)); go_simp)
  refine wpPlan_nil ?_
  have hx0 : x2.cell? ⟨w.heap.size, 0, none⟩ = some (.int .i64 (x : Int)) := HS.out.row.cell rfl
  have hg9 : x2.cell? ⟨g, 9 + x, none⟩ = some (.bool t) := (HB.out.cell (p := ⟨g, 9 + x, none⟩) hlt).trans H9.out
  go_wp2
  go_quiet (fail)
  cases t
  all_goals go_wp2
  all_goals go_ret
  all_goals exact ⟨rfl, below_drewN HB.out _⟩
theorem reach_any (h : FlX F0 w0 w g M lp lf L) (x y z : Int) : Calls Tryz.prog 44 #[nptr g, geoV x y z] w fun e w' => e = .returned (.int .i64 ((M.bars x y z).getD 0)) ∧ Below w.heap.size w w' := by
  cases hp : M.power with
  | false =>
    rw [FlM.bars_power hp]
    have h3 := h.power
    have hlt := h.size
    rw [hp] at h3
    clear h hp
    go_enter Tryz.func44, Tryz.ntmps44
    go_wp2
    go_ret
    exact ⟨rfl, (Below.refl _ _).alloc (Nat.le_refl _) _⟩
  | true =>
    cases hi : inGB M.d M.b M.p x y z with
    | false => rw [FlM.bars_range hp hi]; exact reach_no h x y z hp hi
    | true =>
      obtain ⟨x, rfl⟩ : ∃ n : Nat, x = n := ⟨x.toNat, by simp only [inGB, decide_eq_true_eq] at hi; omega⟩
      refine (reach_in h x y z hp hi).mono ?_
      rintro e w' ⟨rfl, hb⟩
      refine ⟨?_, hb⟩
      cases hd : M.dead x with
      | true => rw [FlM.bars_dead hp hi hd]; simp
      | false => rw [FlM.bars_none hp hi hd]; simp
end
end Go.Proofs.YtfploeefmnbpcaaGreat
