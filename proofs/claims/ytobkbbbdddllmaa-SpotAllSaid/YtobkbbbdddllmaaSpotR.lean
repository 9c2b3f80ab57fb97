/- The law SpotAll: what stands within a round. -/
import Derived.Test.YtobkbbbdddllmaaLess
import Derived.Test.YtobkbbbdddllmaaFields
import Derived.Test.YtobkbbbdddllmaaSpotI
import Derived.Laws.OwnMore
namespace Go.Proofs.Ytobkbbbdddllmaa
open Go.RowKit Mp Go.ChangeMaps

theorem own_but2 {w w' : World} {B g n s : Nat} {mb : Option Nat} {e : TypeId} {v : Value} {xs : List Value} (h : w.ownsRow B e s v n xs) (hb : But2 g mb w w') (hg : g < B) (hm : ∀ b, mb = some b → v.ownBlock ≠ some b) : w'.ownsRow B e s v n xs := by
  refine ⟨h.1, ?_⟩
  rcases h.2 with hn | ⟨g', cap, cur, rfl, hbb, hgg, rest⟩
  · exact .inl hn
  · exact .inr ⟨g', cap, cur, rfl, hbb, (hb.block g' (Array.getElem?_eq_some_iff.1 hgg).1 (by omega) (fun e => hm g' e.symm rfl)).trans hgg, rest⟩
/-- A map's block is no row's. -/
theorem own_map {w : World} {B g b n s : Nat} {e : TypeId} {v : Value} {xs : List Value} {l : List (A3 × Value)} (h : w.ownsRow B e s v n xs) (hs : SpotIs w g (some b) l) : v.ownBlock ≠ some b := by
  intro eb
  obtain ⟨o, ho, es, clock, rfl, _⟩ := hs.some b rfl
  rcases h.2 with ⟨rfl, _⟩ | ⟨g', cap, cur, rfl, _, hg, _⟩
  · cases eb
  · simp only [Value.ownBlock, Option.some.injEq] at eb
    rw [eb, ho] at hg
    simp at hg

def OpAt (x : World) (h : Nat) (K : Int) (a : A3) (n : Int) : Prop :=
  x.cell? ⟨h, 0, none⟩ = some (.int .i64 K) ∧ x.cell? ⟨h, 1, none⟩ = some (.int .i64 a.1) ∧ x.cell? ⟨h, 2, none⟩ = some (.int .i64 a.2.1) ∧ x.cell? ⟨h, 3, none⟩ = some (.int .i64 a.2.2) ∧ x.cell? ⟨h, 4, none⟩ = some (.int .i64 n)
theorem OpAt.same {x x' : World} {h : Nat} {K n : Int} {a : A3} (o : OpAt x h K a n) (hb : x'.heap[h]? = x.heap[h]?) : OpAt x' h K a n :=
  ⟨(World.cell?_of_block (a := ⟨h, 0, none⟩) hb).trans o.1, (World.cell?_of_block (a := ⟨h, 1, none⟩) hb).trans o.2.1, (World.cell?_of_block (a := ⟨h, 2, none⟩) hb).trans o.2.2.1, (World.cell?_of_block (a := ⟨h, 3, none⟩) hb).trans o.2.2.2.1, (World.cell?_of_block (a := ⟨h, 4, none⟩) hb).trans o.2.2.2.2⟩
theorem OpAt.lt {x : World} {h : Nat} {K n : Int} {a : A3} (o : OpAt x h K a n) : h < x.heap.size := World.block_lt_of_cell? x _ o.1
theorem opAt_new (x : World) (K : Int) (a : A3) (n : Int) (t : TypeId) : OpAt (x.alloc (.cells #[.int .i64 K, .int .i64 a.1, .int .i64 a.2.1, .int .i64 a.2.2, .int .i64 n] t)) x.heap.size K a n := by
  refine ⟨?_, ?_, ?_, ?_, ?_⟩ <;> (rw [World.cell?_alloc_at _ _ _ _ rfl]; rfl)

/-- At a round's begin and end. -/
structure St (w : World) (g B : Nat) (mb : Option Nat) (T : List (A3 × Int)) (va vn : Value) (x : World) : Prop where
  spot : SpotIs x g mb (T.map fV)
  ra : x.ownsRow B 29 3 va T.length (cellsT T)
  rn : x.ownsRow B 3 1 vn T.length (numsT T)
  bel : Below w.heap.size w x
  wg : w.heap.size ≤ g
  gB : g < B
  Bx : B ≤ x.heap.size
  mbw : ∀ b, mb = some b → w.heap.size ≤ b
  sorted : SortedT T

structure Rd (w : World) (g B h : Nat) (mb : Option Nat) (l : List (A3 × Value)) (T1 T2 : List (A3 × Int)) (K : Int) (a : A3) (n : Int) (va vn : Value) (x : World) : Prop where
  spot : SpotIs x g mb l
  ra : x.ownsRow B 29 3 va T1.length (cellsT T1)
  rn : x.ownsRow B 3 1 vn T2.length (numsT T2)
  op : OpAt x h K a n
  bel : Below w.heap.size w x
  wg : w.heap.size ≤ g
  gB : g < B
  Bh : B ≤ h
  mbw : ∀ b, mb = some b → w.heap.size ≤ b ∧ b ≠ h

section
variable {w x x' : World} {g B h : Nat} {mb : Option Nat} {l : List (A3 × Value)} {T T1 T2 : List (A3 × Int)} {K n : Int} {a : A3} {va vn : Value}

theorem Rd.Bx (r : Rd w g B h mb l T1 T2 K a n va vn x) : B ≤ x.heap.size := by have := r.op.lt; have := r.Bh; omega
theorem Rd.below (r : Rd w g B h mb l T1 T2 K a n va vn x) (hb : Below x.heap.size x x') : Rd w g B h mb l T1 T2 K a n va vn x' :=
  ⟨r.spot.below hb (Nat.le_refl _), own_below r.ra hb (Nat.le_refl _), own_below r.rn hb (Nat.le_refl _), r.op.same (hb.block h r.op.lt), r.bel.trans (hb.mono r.bel.size), r.wg, r.gB, r.Bh, r.mbw⟩
theorem Rd.spotted (r : Rd w g B h mb l T1 T2 K a n va vn x) {mb' : Option Nat} {l' : List (A3 × Value)} (hs : SpotIs x' g mb' l') (hb : But2 g mb x x') (hm : ∀ b, mb' = some b → w.heap.size ≤ b ∧ b ≠ h) : Rd w g B h mb' l' T1 T2 K a n va vn x' := by
  have hgB := r.gB
  have hBh := r.Bh
  refine ⟨hs, own_but2 r.ra hb r.gB ?_, own_but2 r.rn hb r.gB ?_, r.op.same (hb.block h r.op.lt (by omega) (fun e => (r.mbw h e.symm).2 rfl)), r.bel.trans (hb.below r.bel.size r.wg (fun b hb => (r.mbw b hb).1)), r.wg, r.gB, r.Bh, hm⟩
  · intro b hb'; have := r.spot; rw [hb'] at this; exact own_map r.ra this
  · intro b hb'; have := r.spot; rw [hb'] at this; exact own_map r.rn this
theorem Rd.rowA (r : Rd w g B h mb l T1 T2 K a n va vn x) {T' : List (A3 × Int)} {va' : Value} (hb : Below x.heap.size x x') (hr : x'.ownsRow x.heap.size 29 3 va' T'.length (cellsT T')) : Rd w g B h mb l T' T2 K a n va' vn x' :=
  let q := r.below hb
  ⟨q.spot, own_lower hr r.Bx, q.rn, q.op, q.bel, q.wg, q.gB, q.Bh, q.mbw⟩
theorem Rd.rowN (r : Rd w g B h mb l T1 T2 K a n va vn x) {T' : List (A3 × Int)} {vn' : Value} (hb : Below x.heap.size x x') (hr : x'.ownsRow x.heap.size 3 1 vn' T'.length (numsT T')) : Rd w g B h mb l T1 T' K a n va vn' x' :=
  let q := r.below hb
  ⟨q.spot, q.ra, own_lower hr r.Bx, q.op, q.bel, q.wg, q.gB, q.Bh, q.mbw⟩
theorem Rd.done (r : Rd w g B h mb l T T K a n va vn x) (hp : l.Perm (T.map fV)) (hs : SortedT T) : St w g B mb T va vn x :=
  ⟨r.spot.of_perm hp, r.ra, r.rn, r.bel, r.wg, r.gB, r.Bx, fun b hb => (r.mbw b hb).1, hs⟩
theorem St.round (s : St w g B mb T va vn x) (K : Int) (a : A3) (n : Int) (t : TypeId) : Rd w g B x.heap.size mb (T.map fV) T T K a n va vn (x.alloc (.cells #[.int .i64 K, .int .i64 a.1, .int .i64 a.2.1, .int .i64 a.2.2, .int .i64 n] t)) := by
  have hb := (Below.refl x.heap.size x).alloc (Nat.le_refl _) (.cells #[.int .i64 K, .int .i64 a.1, .int .i64 a.2.1, .int .i64 a.2.2, .int .i64 n] t)
  refine ⟨s.spot.below hb (Nat.le_refl _), own_below s.ra hb (Nat.le_refl _), own_below s.rn hb (Nat.le_refl _), opAt_new x K a n t, s.bel.trans (hb.mono s.bel.size), s.wg, s.gB, s.Bx, fun b hb => ⟨s.mbw b hb, ?_⟩⟩
  have := s.spot
  rw [hb] at this
  have := this.mblt rfl
  omega
/-- ns[k] = n. -/
theorem Rd.store {T3 : List (A3 × Int)} (r : Rd w g B h mb l T1 T2 K a n va vn x) {G k cap : Nat} (hv : vn = .slice (some ⟨G, 0, none⟩) T2.length cap) (hn : numsT T3 = (numsT T2).set k (.int .i64 n)) (hc : cellsT T3 = cellsT T1) (hl : T3.length = T2.length) (hl1 : T3.length = T1.length) (hp : l.Perm (T3.map fV)) (hs : SortedT T3) :
    St w g B mb T3 va vn (x.setCell ⟨G, k, none⟩ (.int .i64 n)) := by
  subst hv
  obtain ⟨h1, h2⟩ := r.rn.stored k (.int .i64 n)
  have hG := (r.rn.lt G rfl)
  have hgB := r.gB
  have hs' : SpotIs (x.setCell ⟨G, k, none⟩ (.int .i64 n)) g mb l := r.spot.keep (h2.block g r.spot.lt (by simp; omega)) fun b hb => h2.block b (r.spot.mblt hb) (fun e => by
    have := r.spot; rw [hb] at this
    exact own_map r.rn this e.symm)
  refine ⟨hs'.of_perm hp, by rw [hc, hl1]; exact r.ra.kept h2 (own_apart r.ra r.rn (by decide)), by rw [hn, hl]; exact h1, r.bel.grown h2 r.bel.size (fun q hq => ?_), r.wg, r.gB, by have := r.Bx; have := h2.size; omega, fun b hb => (r.mbw b hb).1, hs⟩
  cases hq; have := r.wg; omega
end

theorem setI_mb (g : Nat) (mb : Option Nat) (l : List (A3 × Value)) (a : A3) (v : Value) (w : World) (h : SpotIs w g mb l) (ha : okA a) :
    Calls Try.prog 10 #[.pointer (some ⟨g, 0, none⟩), encA a, v] w fun e w' => e = .returned (.tuple #[]) ∧ ∃ mb', SpotIs w' g mb' ((a, v) :: delA l a) ∧ But2 g mb w w' ∧ ∀ b, mb' = some b → mb = some b ∨ w.heap.size ≤ b := by
  cases mb with
  | none =>
    refine (setI_none g l a v w h ha).mono ?_
    rintro e w' ⟨rfl, b, hb, hs, h2⟩
    exact ⟨rfl, some b, hs, h2, fun b' e => .inr (by cases e; exact hb)⟩
  | some b =>
    refine (setI_some g b l a v w h ha).mono ?_
    rintro e w' ⟨rfl, hs, h2⟩
    exact ⟨rfl, some b, hs, h2, fun b' e => .inl e⟩
theorem Rd.set {w x x' : World} {g B h : Nat} {mb mb' : Option Nat} {l l' : List (A3 × Value)} {T1 T2 : List (A3 × Int)} {K n : Int} {a : A3} {va vn : Value} (r : Rd w g B h mb l T1 T2 K a n va vn x) (hs : SpotIs x' g mb' l') (hb : But2 g mb x x') (hm : ∀ b, mb' = some b → mb = some b ∨ x.heap.size ≤ b) : Rd w g B h mb' l' T1 T2 K a n va vn x' :=
  r.spotted hs hb fun b e => by
    have := r.bel.size
    have := r.op.lt
    rcases hm b e with h1 | h1
    · exact r.mbw b h1
    · omega

theorem grown_cell {w w' : World} {p : Addr} {u : Value} (hg : w.grownBy w' none) (h : w.cell? p = some u) : w'.cell? p = some u := hg.cell h (by simp)

/-- A row, cut at k. -/
structure CutAt (x : World) (ty : TypeId) (s : Nat) (xs : List Value) (n k : Nat) (oa : Option Addr) (cap : Nat) (oc : Option Addr) (m c : Nat) : Prop where
  nk : k + m = n
  le : n ≤ cap
  max : cap ≤ 9223372036854775807
  lo : ∀ W : World, (Instr.slice ty (.slice oa n cap) none (some (.int .i64 (k : Int))) none).run Try.prog W = .ok (.slice oa k cap) W
  hi : ∀ W : World, (Instr.slice ty (.slice oa n cap) (some (.int .i64 (k : Int))) none none).run Try.prog W = .ok (.slice oc m c) W
  loN : oa = none → k = 0 ∧ cap = 0
  hiN : oc = none → m = 0 ∧ c = 0
  loC : ∀ ad, oa = some ad → ad.block < x.heap.size ∧ ∀ j u, (xs.take (k * s))[j]? = some u → x.cell? (ad.add j) = some u
  hiC : ∀ ad, oc = some ad → ad.block < x.heap.size ∧ ∀ j u, (xs.drop (k * s))[j]? = some u → x.cell? (ad.add j) = some u
theorem cut_at {x : World} {B n s : Nat} {e ty : TypeId} {oa : Option Addr} {cap : Nat} {xs : List Value} (h : x.ownsRow B e s (.slice oa n cap) n xs) (k : Nat) (hk : k ≤ n) (hu : Try.prog.underlying ty = some (.slice e)) (hz : ∀ W : World, (sizeOf e).run Try.prog W = .ok s W) :
    ∃ oc m c, CutAt x ty s xs n k oa cap oc m c := by
  have hlen := h.1
  have hel : Try.prog.underlying ty = some (.slice (Try.prog.elem ty)) := by
    have : Try.prog.elem ty = e := by simp [Program.elem, hu]
    rw [this]; exact hu
  have hz' : ∀ W : World, (sizeOf (Try.prog.elem ty)).run Try.prog W = .ok s W := by
    have : Try.prog.elem ty = e := by simp [Program.elem, hu]
    rw [this]; exact hz
  rcases h.2 with ⟨e1, h0⟩ | ⟨G, cap', cur, e1, _, hg, hn, hm, hcs, htk⟩
  · obtain ⟨rfl, h2, rfl⟩ := Value.slice.inj e1
    clear e1
    obtain rfl : n = 0 := h0
    obtain rfl : k = 0 := by omega
    refine ⟨none, 0, 0, by omega, by omega, by omega, fun W => ?_, fun W => ?_, fun _ => ⟨rfl, rfl⟩, fun _ => ⟨rfl, rfl⟩, fun _ e => (by cases e), fun _ e => (by cases e)⟩
    · rw [run_slice_h W ty none 0 0 hel .i64 ((0 : Nat) : Int) (by omega) (by omega), hz']; rfl
    · rw [run_slice_l W ty none 0 0 hel .i64 ((0 : Nat) : Int) (by omega) (by omega), hz']; rfl
  · obtain ⟨rfl, _, rfl⟩ := Value.slice.inj e1
    clear e1
    have hlt := (Array.getElem?_eq_some_iff.1 hg).1
    have hadd : ∀ j, (⟨G, 0, none⟩ : Addr).add j = ⟨G, j, none⟩ := fun j => by unfold Addr.add; split <;> simp_all
    have hat := h.cells (g := G) rfl
    refine ⟨some (if cap = k then ⟨G, 0, none⟩ else ⟨G, k * s, none⟩), n - k, cap - k, by omega, hn, by unfold maxLen at hm; omega, fun W => ?_, fun W => ?_, fun e => (by cases e), fun e => (by cases e), fun ad e => ?_, fun ad e => ?_⟩
    · rw [run_slice_h W ty _ n cap hel .i64 (k : Int) (by omega) (by omega), hz']
      simp [Result.andThen, sliced, hadd]
    · rw [run_slice_l W ty _ n cap hel .i64 (k : Int) (by omega) (by omega), hz']
      simp [Result.andThen, sliced, hadd]
      split <;> rfl
    · cases e
      refine ⟨hlt, fun j u hu => hat j u ?_⟩
      rw [List.getElem?_take] at hu
      split at hu
      · exact hu
      · cases hu
    · cases e
      by_cases hck : cap = k
      · obtain rfl : k = n := by omega
        rw [if_pos hck]
        refine ⟨hlt, fun j u hu => ?_⟩
        rw [List.drop_eq_nil_of_le (by omega)] at hu
        cases hu
      · rw [if_neg hck]
        refine ⟨hlt, fun j u hu => ?_⟩
        rw [List.getElem?_drop] at hu
        have h3 := hat _ u hu
        rw [hadd] at h3
        have e2 : (⟨G, k * s, none⟩ : Addr).add j = ⟨G, k * s + j, none⟩ := by
          have : (⟨G, k * s, none⟩ : Addr) = (⟨G, 0, none⟩ : Addr).add (k * s) := (hadd _).symm
          unfold Addr.add
          split
          · simp
          · simp
        rw [e2]
        exact h3
section
variable {x x' : World} {ty : TypeId} {s : Nat} {xs : List Value} {n k : Nat} {oa : Option Addr} {cap : Nat} {oc : Option Addr} {m c : Nat}
theorem CutAt.low (h : CutAt x ty s xs n k oa cap oc m c) (hb : Below x.heap.size x x') : ∀ ad, oa = some ad → ∀ j u, (xs.take (k * s))[j]? = some u → x'.cell? (ad.add j) = some u := fun ad e j u hu =>
  (hb.cell (p := ad.add j) (by rw [show (ad.add j).block = ad.block by unfold Addr.add; split <;> rfl]; exact (h.loC ad e).1)).trans ((h.loC ad e).2 j u hu)
theorem CutAt.high (h : CutAt x ty s xs n k oa cap oc m c) (hb : Below x.heap.size x x') : ∀ ad, oc = some ad → ∀ j u, (xs.drop (k * s))[j]? = some u → x'.cell? (ad.add j) = some u := fun ad e j u hu =>
  (hb.cell (p := ad.add j) (by rw [show (ad.add j).block = ad.block by unfold Addr.add; split <;> rfl]; exact (h.hiC ad e).1)).trans ((h.hiC ad e).2 j u hu)
end
end Go.Proofs.Ytobkbbbdddllmaa
