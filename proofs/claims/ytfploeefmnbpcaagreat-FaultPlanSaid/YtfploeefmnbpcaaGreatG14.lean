import Derived.Test.YtfploeefmnbpcaaGreatG13
import Derived.Test.YtfploeefmnbpcaaGreatG03
import Derived.Laws.StructEq
import Derived.Laws.AppendOwnNone
import Derived.Test.YtfploeefmnbpcaaGreatG11
import Derived.Deep.QuietTactic
import Derived.Test.YtfploeefmnbpcaaGreatG02
/- Places held against one another by ==; slices of places, read. -/
namespace Go.Proofs.YtfploeefmnbpcaaGreat
open Go.RowKit Mp Go.ChangeMaps Go.Sort

theorem eqA (a b : A3) (w : World) : (Op.equalIn 10000 32 (.agg #[.int .i64 a.1, .int .i64 a.2.1, .int .i64 a.2.2]) (.agg #[.int .i64 b.1, .int .i64 b.2.1, .int .i64 b.2.2])).run Tryz.prog w = .ok (decide (a = b)) w := by
  obtain ⟨x, y, z⟩ := a
  obtain ⟨x', y', z'⟩ := b
  have u3 := Tryz.underlying3
  have a3 := Tryz.isAgg3
  have z3 := Tryz.sizeOf3
  have hS : Tryz.prog.underlying 32 = some (.struct (Tryz.prog.fieldsOf 32)) := by kernel_rfl
  have hp : Tryz.prog.stoodInHeld 32 = false := by kernel_rfl
  rw [show (10000 : Nat) = 9999 + 1 from rfl, run_equalIn_struct w 9999 32 _ _ hS hp]
  simp only [Program.fieldsOf, Tryz.underlying32]
  go_simp
  by_cases h1 : x = x' <;> by_cases h2 : y = y' <;> by_cases h3 : z = z' <;> simp [h1, h2, h3]

/-- A slice of places, as it is read. -/
theorem SliceA.form {base : Nat} {w : World} {v : Value} {xs : List A3} (h : SliceA base w v xs) :
    ∃ a cap, v = .slice a xs.length cap ∧ xs.length ≤ cap ∧ cap ≤ maxLen ∧ ∀ i x, xs[i]? = some x → ∃ g, a = some ⟨g, 0, none⟩ ∧ base ≤ g ∧ g < w.heap.size ∧
      w.cell? ⟨g, i * 3, none⟩ = some (.int .i64 x.1) ∧ w.cell? ⟨g, i * 3 + 1, none⟩ = some (.int .i64 x.2.1) ∧ w.cell? ⟨g, i * 3 + 2, none⟩ = some (.int .i64 x.2.2) := by
  cases xs with
  | nil =>
    rcases h with ⟨rfl, _⟩ | ⟨g, cap, rfl, h1, h2, _⟩
    · exact ⟨none, 0, rfl, Nat.le_refl _, by unfold maxLen; omega, fun i x hx => by simp at hx⟩
    · exact ⟨_, cap, rfl, h1, h2, fun i x hx => by simp at hx⟩
  | cons p r =>
    have hc := h
    rcases h with ⟨_, e⟩ | ⟨g, cap, rfl, h1, h2, h3, h4, h5⟩
    · cases e
    · obtain ⟨g', cap', e, _, _, _, hcell⟩ := hc.parts (by simp)
      simp only [Value.slice.injEq, Option.some.injEq, Addr.mk.injEq, and_true] at e
      obtain ⟨rfl, _, rfl⟩ := e
      exact ⟨_, cap, rfl, h1, h2, fun i x hx => ⟨g, rfl, h3, h4, hcell i x hx⟩⟩

/-- Of that block of that die? -/
def inP (die blk : Int) (x : A3) : Bool := decide (x.1 = die) && decide (x.2.1 = blk)
theorem pick_filter (die blk : Int) (l : List (A3 × Value)) : pick die blk l = (l.map (·.1)).filter (inP die blk) := by
  unfold pick
  rw [List.filter_map]
  rfl
theorem sortL_pick {l : List (A3 × Value)} (die blk : Int) (h : (l.map (·.1)).Nodup) : sortL (pick die blk l) = (sortL (l.map (·.1))).filter (inP die blk) := by
  have h1 : (sortL (pick die blk l)).Pairwise ltA := sortL_sorted _ (by rw [pick_filter]; exact h.filter _)
  have h2 : ((sortL (l.map (·.1))).filter (inP die blk)).Pairwise ltA := (sortL_sorted _ h).filter _
  refine sorted_eq ?_ h1 h2
  refine (sortL_perm _).trans ?_
  rw [pick_filter]
  exact ((sortL_perm (l.map (·.1))).filter _).symm

theorem take_yes {S : List A3} {j : Nat} {p : A3} {f : A3 → Bool} (hp : S[j]? = some p) (hf : f p = true) : (S.take (j + 1)).filter f = (S.take j).filter f ++ [p] := by
  rw [List.take_add_one, List.filter_append, hp]; simp [hf]
theorem take_no {S : List A3} {j : Nat} {p : A3} {f : A3 → Bool} (hp : S[j]? = some p) (hf : f p = false) : (S.take (j + 1)).filter f = (S.take j).filter f := by
  rw [List.take_add_one, List.filter_append, hp]; simp [hf]
theorem news_at (W : World) (x y z : Int) (t : TypeId) : ∀ j u, (cellsA (x, y, z))[j]? = some u → (W.alloc (.cells #[.int .i64 x, .int .i64 y, .int .i64 z] t)).cell? ((⟨W.heap.size, 0, none⟩ : Addr).add j) = some u := fun j u hu => by
  have e : (⟨W.heap.size, 0, none⟩ : Addr).add j = ⟨W.heap.size, j, none⟩ := by
    simp only [Addr.add, Nat.zero_add]
    split <;> simp_all
  rw [e, World.cell?_alloc_at _ _ _ _ rfl]
  simpa [cellsA] using hu
end Go.Proofs.YtfploeefmnbpcaaGreat

/- Things by places, in order, told by a list. No Go text here. -/
namespace Go.Proofs.YtfploeefmnbpcaaGreat
open Mp

def fV (p : A3 × Int) : A3 × Value := (p.1, .int .i64 p.2)
def SortedT (T : List (A3 × Int)) : Prop := (T.map (·.1)).Pairwise ltA
/-- All ahead of k lie ahead of a. -/
def Upto (T : List (A3 × Int)) (a : A3) (k : Nat) : Prop := ∀ i p, T[i]? = some p → i < k → ltA p.1 a

theorem sorted_split {T : List (A3 × Int)} (hs : SortedT T) (k : Nat) : SortedT (T.take k) ∧ SortedT (T.drop k) ∧ ∀ p ∈ T.take k, ∀ q ∈ T.drop k, ltA p.1 q.1 := by
  unfold SortedT at *
  have e : T.map (·.1) = (T.take k).map (·.1) ++ (T.drop k).map (·.1) := by rw [← List.map_append, List.take_append_drop]
  rw [e, List.pairwise_append] at hs
  exact ⟨hs.1, hs.2.1, fun p hp q hq => hs.2.2 p.1 (List.mem_map.2 ⟨p, hp, rfl⟩) q.1 (List.mem_map.2 ⟨q, hq, rfl⟩)⟩
theorem upto_take {T : List (A3 × Int)} {a : A3} {k : Nat} (h : Upto T a k) : ∀ p ∈ T.take k, ltA p.1 a := fun p hp => by
  obtain ⟨i, hi⟩ := List.getElem?_of_mem hp
  rw [List.getElem?_take] at hi
  split at hi
  · rename_i h1; exact h i p hi h1
  · cases hi
theorem drop_cons {T : List (A3 × Int)} {k : Nat} {p : A3 × Int} (hp : T[k]? = some p) : T.drop k = p :: T.drop (k + 1) := by
  have hk := (List.getElem?_eq_some_iff.1 hp).1
  rw [List.drop_eq_getElem_cons hk]
  rw [List.getElem?_eq_getElem hk] at hp
  rw [Option.some.inj hp]
/-- All from k on lie behind a. -/
theorem drop_behind {T : List (A3 × Int)} {a : A3} {k : Nat} (hs : SortedT T) (hstop : ∀ p, T[k]? = some p → ¬ ltA p.1 a) (hno : ∀ n, T[k]? ≠ some (a, n)) : ∀ p ∈ T.drop k, ltA a p.1 := by
  cases hk : T[k]? with
  | none =>
    have : T.length ≤ k := by
      rcases Nat.lt_or_ge k T.length with h | h
      · rw [List.getElem?_eq_getElem h] at hk; cases hk
      · exact h
    rw [List.drop_eq_nil_of_le this]; intro p hp; simp at hp
  | some q =>
    have h1 := hstop q hk
    have hq : ltA a q.1 := by
      by_cases h2 : ltA a q.1
      · exact h2
      · have e := ltA_total h1 h2
        obtain ⟨x, n⟩ := q
        simp only at e
        subst e
        exact absurd hk (hno n)
    have hd := (sorted_split hs k).2.1
    rw [drop_cons hk] at hd ⊢
    unfold SortedT at hd
    rw [List.map_cons, List.pairwise_cons] at hd
    intro p hp
    rcases List.mem_cons.1 hp with rfl | hp
    · exact hq
    · exact ltA_trans hq (hd.1 p.1 (List.mem_map.2 ⟨p, hp, rfl⟩))

theorem not_there {T : List (A3 × Int)} {a : A3} {k : Nat} (hs : SortedT T) (hu : Upto T a k) (hstop : ∀ p, T[k]? = some p → ¬ ltA p.1 a) (hno : ∀ n, T[k]? ≠ some (a, n)) : ∀ p ∈ T, p.1 ≠ a := by
  intro p hp e
  rw [← List.take_append_drop k T] at hp
  rcases List.mem_append.1 hp with h | h
  · have := upto_take hu p h
    rw [e] at this; exact ltA_irrefl a this
  · have := drop_behind hs hstop hno p h
    rw [e] at this; exact ltA_irrefl a this
theorem fV_keys (T : List (A3 × Int)) : (T.map fV).map (·.1) = T.map (·.1) := by simp [fV]
theorem fV_nodup {T : List (A3 × Int)} (hs : SortedT T) : ((T.map fV).map (·.1)).Nodup := by rw [fV_keys]; exact sorted_nodup hs
theorem getA_there {T : List (A3 × Int)} {a : A3} {k : Nat} {n : Int} (hs : SortedT T) (h : T[k]? = some (a, n)) : getA (T.map fV) a = some (.int .i64 n) :=
  getA_of_mem (fV_nodup hs) (List.mem_map.2 ⟨(a, n), List.mem_of_getElem? h, rfl⟩)
theorem getA_not {T : List (A3 × Int)} {a : A3} (h : ∀ p ∈ T, p.1 ≠ a) : getA (T.map fV) a = none :=
  getA_none fun p hp => by
    obtain ⟨q, hq, rfl⟩ := List.mem_map.1 hp
    exact h q hq

def insT (T : List (A3 × Int)) (k : Nat) (a : A3) (n : Int) : List (A3 × Int) := T.take k ++ (a, n) :: T.drop k
def delT (T : List (A3 × Int)) (k : Nat) : List (A3 × Int) := T.take k ++ T.drop (k + 1)

theorem ins_sorted {T : List (A3 × Int)} {a : A3} {k : Nat} (n : Int) (hs : SortedT T) (hu : Upto T a k) (hstop : ∀ p, T[k]? = some p → ¬ ltA p.1 a) (hno : ∀ n, T[k]? ≠ some (a, n)) : SortedT (insT T k a n) := by
  obtain ⟨h1, h2, h3⟩ := sorted_split hs k
  unfold SortedT insT at *
  rw [List.map_append, List.map_cons, List.pairwise_append, List.pairwise_cons]
  refine ⟨h1, ⟨fun x hx => ?_, h2⟩, fun x hx y hy => ?_⟩
  · obtain ⟨q, hq, rfl⟩ := List.mem_map.1 hx
    exact drop_behind hs hstop hno q hq
  · obtain ⟨p, hp, rfl⟩ := List.mem_map.1 hx
    rcases List.mem_cons.1 hy with rfl | hy
    · exact upto_take hu p hp
    · obtain ⟨q, hq, rfl⟩ := List.mem_map.1 hy
      exact h3 p hp q hq
theorem delA_all {l : List (A3 × Value)} {a : A3} (h : ∀ p ∈ l, p.1 ≠ a) : delA l a = l := List.filter_eq_self.2 fun p hp => by simpa using h p hp
theorem ins_perm {T : List (A3 × Int)} {a : A3} (k : Nat) (n : Int) (h : ∀ p ∈ T, p.1 ≠ a) : ((a, .int .i64 n) :: delA (T.map fV) a).Perm ((insT T k a n).map fV) := by
  rw [delA_all (fun p hp => by obtain ⟨q, hq, rfl⟩ := List.mem_map.1 hp; exact h q hq)]
  unfold insT
  rw [List.map_append, List.map_cons]
  have := (List.perm_middle (a := fV (a, n)) (l₁ := (T.take k).map fV) (l₂ := (T.drop k).map fV)).symm
  rw [← List.map_append, List.take_append_drop] at this
  exact this
theorem del_filter {T : List (A3 × Int)} {a : A3} {k : Nat} {n : Int} (hs : SortedT T) (h : T[k]? = some (a, n)) : delA (T.map fV) a = (delT T k).map fV := by
  obtain ⟨h1, h2, h3⟩ := sorted_split hs k
  rw [drop_cons h] at h2 h3
  have e : T.map fV = (T.take k).map fV ++ fV (a, n) :: (T.drop (k + 1)).map fV := by
    rw [← List.map_cons, ← drop_cons h, ← List.map_append, List.take_append_drop]
  unfold delA delT
  rw [e, List.filter_append, List.filter_cons, List.map_append]
  have k1 : ((T.take k).map fV).filter (fun p => !decide (p.1 = a)) = (T.take k).map fV := List.filter_eq_self.2 fun p hp => by
    obtain ⟨q, hq, rfl⟩ := List.mem_map.1 hp
    have := h3 q hq (a, n) List.mem_cons_self
    have hne : q.1 ≠ a := fun e => by rw [e] at this; exact ltA_irrefl a this
    show (!decide (q.1 = a)) = true
    rw [decide_eq_false hne]; rfl
  have k2 : ((T.drop (k + 1)).map fV).filter (fun p => !decide (p.1 = a)) = (T.drop (k + 1)).map fV := List.filter_eq_self.2 fun p hp => by
    obtain ⟨q, hq, rfl⟩ := List.mem_map.1 hp
    unfold SortedT at h2
    rw [List.map_cons, List.pairwise_cons] at h2
    have := h2.1 q.1 (List.mem_map.2 ⟨q, hq, rfl⟩)
    have hne : q.1 ≠ a := fun e => by rw [e] at this; exact ltA_irrefl a this
    show (!decide (q.1 = a)) = true
    rw [decide_eq_false hne]; rfl
  rw [k1, k2]
  simp [fV]
theorem del_sorted {T : List (A3 × Int)} {k : Nat} (hs : SortedT T) : SortedT (delT T k) := by
  unfold SortedT delT at *
  refine hs.sublist (List.Sublist.map _ ?_)
  have := List.Sublist.append_left (List.drop_sublist_drop_left T (Nat.le_succ k)) (T.take k)
  rwa [List.take_append_drop] at this
def setT (T : List (A3 × Int)) (k : Nat) (a : A3) (n : Int) : List (A3 × Int) := T.take k ++ (a, n) :: T.drop (k + 1)
theorem set_keys {T : List (A3 × Int)} {a : A3} {k : Nat} {m : Int} (n : Int) (h : T[k]? = some (a, m)) : (setT T k a n).map (·.1) = T.map (·.1) := by
  have : T = T.take k ++ (a, m) :: T.drop (k + 1) := by rw [← drop_cons h, List.take_append_drop]
  unfold setT
  conv => rhs; rw [this]
  simp
theorem set_perm' {T : List (A3 × Int)} {a : A3} {k : Nat} {m : Int} (n : Int) (hs : SortedT T) (h : T[k]? = some (a, m)) : ((a, .int .i64 n) :: delA (T.map fV) a).Perm ((setT T k a n).map fV) := by
  rw [del_filter hs h]
  unfold delT setT
  rw [List.map_append, List.map_append, List.map_cons]
  exact List.perm_middle.symm

/-- The cells of the places; the numbers. -/
def cellsT (T : List (A3 × Int)) : List Value := T.flatMap fun p => cellsA p.1
def numsT (T : List (A3 × Int)) : List Value := T.map fun p => .int .i64 p.2
theorem cellsT_len (T : List (A3 × Int)) : (cellsT T).length = T.length * 3 := by
  induction T with
  | nil => rfl
  | cons p r ih => simp only [cellsT, List.flatMap_cons, List.length_append, List.length_cons] at ih ⊢; rw [ih]; simp [cellsA]; omega
theorem cellsT_append (A B : List (A3 × Int)) : cellsT (A ++ B) = cellsT A ++ cellsT B := by simp [cellsT]
theorem cellsT_take (T : List (A3 × Int)) (k : Nat) (hk : k ≤ T.length) : (cellsT T).take (k * 3) = cellsT (T.take k) := by
  have e : cellsT T = cellsT (T.take k) ++ cellsT (T.drop k) := by rw [← cellsT_append, List.take_append_drop]
  have hl : (cellsT (T.take k)).length = k * 3 := by rw [cellsT_len, List.length_take, Nat.min_eq_left hk]
  rw [e, List.take_left' hl]
theorem cellsT_drop (T : List (A3 × Int)) (k : Nat) (hk : k ≤ T.length) : (cellsT T).drop (k * 3) = cellsT (T.drop k) := by
  have e : cellsT T = cellsT (T.take k) ++ cellsT (T.drop k) := by rw [← cellsT_append, List.take_append_drop]
  have hl : (cellsT (T.take k)).length = k * 3 := by rw [cellsT_len, List.length_take, Nat.min_eq_left hk]
  rw [e, List.drop_left' hl]
theorem cellsT_fst (T : List (A3 × Int)) : cellsT T = (T.map (·.1)).flatMap cellsA := by simp [cellsT, List.flatMap_map]
end Go.Proofs.YtfploeefmnbpcaaGreat

/- The law's own less; append of whatever slice to a slice of one's own, in a region. -/
namespace Go.Proofs.YtfploeefmnbpcaaGreat
open Go.RowKit Mp Go.ChangeMaps

/-- 'append(v, x...)', v the call's own, x nil or not. -/
theorem wp_append_x {P : Program} {w : World} {o : Oper} {a : Act} {K : Act → World → Prop} {Q : Exit → Act → World → Prop} (s x : Operand) (t : TypeId)
    (ho : o.op = .call { callee := .builtin .append, args := #[s, x], argTypes := #[t, t] })
    (base : Nat) (e : TypeId) (i : TypeInfo) (z : Value) (size bytes : Nat) (ht : P.underlying t = some (.slice e)) (hi : P.info? e = some i) (hz : i.zero = some z)
    (hsize : i.size = size) (hby : i.bytes = bytes) (hzs : z.cells.size = size) (hsz : 0 < size)
    (v : Value) (n : Nat) (xs : List Value) (hs : a.eval s = v) (hown : w.ownsRow base e size v n xs)
    (oa : Option Addr) (m c : Nat) (news : List Value) (hx : a.eval x = .slice oa m c) (hno : oa = none → m = 0 ∧ c = 0) (hl : news.length = m * size) (hnews : ∀ ad, oa = some ad → ∀ j u, news[j]? = some u → w.cell? (ad.add j) = some u) (h1 : ∀ u ∈ news, u.oneCell' = true)
    (h63 : n + m ≤ maxLen) (hbytes : (n + m) * bytes ≤ 140737488355328) (hbase : base ≤ w.heap.size)
    (h : ∀ v' w', w'.ownsRow base e size v' (n + m) (xs ++ news) → w.grownBy w' v.ownBlock → (v' = .slice none 0 0 ↔ v = .slice none 0 0 ∧ m = 0) → K (a.put o.dst v') w') : o.wp P a w K Q := by
  cases oa with
  | some ad => exact wp_append_own _ s x t ho base e i z size bytes ht hi hz hsize hby hzs hsz v n xs hs hown ad m c news hx hl (hnews ad rfl) h1 h63 hbytes hbase h
  | none =>
    obtain ⟨rfl, rfl⟩ := hno rfl
    have hn0 : news = [] := List.eq_nil_of_length_eq_zero (by omega)
    subst hn0
    have hrun := run_append_owned_none (P := P) (w := w) base t o.type e i size ht hi v n xs hown
    unfold Oper.wp
    simp [execOp, ho, resolve, invoke, builtin, hs, hx, hrun, Result.andThen]
    exact h v w (by simpa using hown) ⟨rfl, rfl, rfl, Nat.le_refl _, fun _ _ _ => rfl⟩ (by simp)

/-- The cells of a row of one's own. -/
theorem own_cells {w : World} {base : Nat} {e : TypeId} {size g n cap : Nat} {xs : List Value} (h : w.ownsRow base e size (.slice (some ⟨g, 0, none⟩) n cap) n xs) : ∀ j u, xs[j]? = some u → w.cell? ⟨g, j, none⟩ = some u := by
  intro j u hu
  rcases h.2 with ⟨e1, _⟩ | ⟨g', cap', cur, e1, _, h2, _, _, _, h6⟩
  · cases e1
  · simp only [Value.slice.injEq, Option.some.injEq, Addr.mk.injEq, and_true] at e1
    obtain ⟨rfl, _, rfl⟩ := e1
    have hj : j < n * size := by have := (List.getElem?_eq_some_iff.1 hu).1; have := h.1; omega
    have : (cur.toList.take (n * size))[j]? = xs[j]? := by rw [h6]
    rw [List.getElem?_take_of_lt hj, hu] at this
    simp [World.cell?, h2, ← Array.getElem?_toList, this]
end Go.Proofs.YtfploeefmnbpcaaGreat

/- Package fault: a plan in memory; Left, Due. -/
namespace Go.Proofs.YtfploeefmnbpcaaGreat
open Go.Shelf Go.RowKit Go.Lib Go.Sort Mp
set_option linter.unusedSimpArgs false
namespace FT
/-! The sort, and what is due of it. -/
def sortF (l : List FtM) : List FtM := l.foldl insF []
theorem tw_filter (t : Int) : ∀ {s : List FtM}, FP.Srt s → s.takeWhile (fun g => decide (g.at' ≤ t)) = s.filter (fun g => decide (g.at' ≤ t)) ∧ s.dropWhile (fun g => decide (g.at' ≤ t)) = s.filter (fun g => decide (t < g.at'))
  | [], _ => ⟨rfl, rfl⟩
  | a :: s, h => by
    have hp := List.pairwise_cons.1 h
    have ih := tw_filter t hp.2
    by_cases ha : a.at' ≤ t
    · have h1 : decide (a.at' ≤ t) = true := by simpa using ha
      have h2 : decide (t < a.at') = false := by simpa using ha
      simp only [List.takeWhile_cons, List.dropWhile_cons, List.filter_cons, h1, h2, if_true, Bool.false_eq_true, if_false]
      exact ⟨by rw [ih.1], ih.2⟩
    · have h1 : decide (a.at' ≤ t) = false := by simpa using ha
      have h2 : decide (t < a.at') = true := by simp; omega
      have e1 : s.filter (fun g => decide (g.at' ≤ t)) = [] := List.filter_eq_nil_iff.2 fun x hx => by have := hp.1 x hx; simp; omega
      have e2 : s.filter (fun g => decide (t < g.at')) = s := List.filter_eq_self.2 fun x hx => by have := hp.1 x hx; simp; omega
      simp only [List.takeWhile_cons, List.dropWhile_cons, List.filter_cons, h1, h2, if_true, Bool.false_eq_true, if_false, e1, e2]
      exact ⟨trivial, trivial⟩
theorem srt_filter {p : FtM → Bool} {s : List FtM} (h : FP.Srt s) : FP.Srt (s.filter p) := h.sublist List.filter_sublist
theorem ins_filter (p : FtM → Bool) {s : List FtM} (f : FtM) (h : FP.Srt s) : (insF s f).filter p = if p f then insF (s.filter p) f else s.filter p := by
  have e := tw_filter f.at' h
  have e' := tw_filter f.at' (srt_filter (p := p) h)
  have hs : s.takeWhile (fun g => decide (g.at' ≤ f.at')) ++ s.dropWhile (fun g => decide (g.at' ≤ f.at')) = s := List.takeWhile_append_dropWhile
  unfold insF
  rw [e'.1, e'.2, List.filter_append, List.filter_cons]
  have c1 : (s.takeWhile (fun g => decide (g.at' ≤ f.at'))).filter p = (s.filter p).filter (fun g => decide (g.at' ≤ f.at')) := by
    rw [e.1, List.filter_filter, List.filter_filter]; congr 1; funext x; exact Bool.and_comm _ _
  have c2 : (s.dropWhile (fun g => decide (g.at' ≤ f.at'))).filter p = (s.filter p).filter (fun g => decide (f.at' < g.at')) := by
    rw [e.2, List.filter_filter, List.filter_filter]; congr 1; funext x; exact Bool.and_comm _ _
  by_cases hp : p f = true
  · rw [if_pos hp, if_pos hp, c1, c2]
  · rw [if_neg hp, if_neg hp, ← List.filter_append, hs]
theorem sort_filter (p : FtM → Bool) : ∀ (l s : List FtM), FP.Srt s → (l.foldl insF s).filter p = (l.filter p).foldl insF (s.filter p)
  | [], _, _ => rfl
  | f :: l, s, h => by
    rw [List.foldl_cons, sort_filter p l _ (FP.insF_sorted f h), ins_filter p f h, List.filter_cons]
    split <;> rfl
theorem sortF_sorted (l : List FtM) : FP.Srt (sortF l) := FP.foldl_ins_sorted _ _ List.Pairwise.nil
theorem sortF_len (l : List FtM) : (sortF l).length = l.length := foldl_len l
theorem due_take (l : List FtM) (ops : Int) : (sortF l).takeWhile (fun g => decide (g.at' ≤ ops)) = dueL l ops := by
  rw [(tw_filter ops (sortF_sorted l)).1]
  exact sort_filter _ l [] List.Pairwise.nil
theorem due_drop (l : List FtM) (ops : Int) : (sortF l).dropWhile (fun g => decide (g.at' ≤ ops)) = sortF (restL l ops) := by
  rw [(tw_filter ops (sortF_sorted l)).2]
  exact sort_filter _ l [] List.Pairwise.nil
theorem due_app (l : List FtM) (ops : Int) : dueL l ops ++ sortF (restL l ops) = sortF l := by
  rw [← due_take, ← due_drop]; exact List.takeWhile_append_dropWhile
theorem due_len (l : List FtM) (ops : Int) : (dueL l ops).length + (restL l ops).length = l.length := by
  have := congrArg List.length (due_app l ops)
  rw [List.length_append, sortF_len, sortF_len] at this
  exact this
/-- Of the first ones each is due, the next one isn't. -/
theorem due_at {l : List FtM} {ops : Int} {k : Nat} {f : FtM} (hf : (sortF l)[k]? = some f) : (k < (dueL l ops).length → f.at' ≤ ops) ∧ (k = (dueL l ops).length → ops < f.at') := by
  have e := due_app l ops
  rw [← e] at hf
  constructor
  · intro hk
    rw [List.getElem?_append_left hk, ← due_take] at hf
    have := List.all_takeWhile (p := fun g : FtM => decide (g.at' ≤ ops)) (l := sortF l)
    have := List.all_eq_true.1 this f (List.mem_of_getElem? hf)
    simpa using this
  · intro hk
    rw [List.getElem?_append_right (by omega), ← due_drop, (tw_filter ops (sortF_sorted l)).2] at hf
    have := (List.mem_filter.1 (List.mem_of_getElem? hf)).2
    simpa using this

/-! A slice of faults, cut. -/
theorem add_none (b o j : Nat) : (⟨b, o, none⟩ : Addr).add j = ⟨b, o + j, none⟩ := by unfold Addr.add; split <;> simp_all
/-- Where a slice of faults lies: nil has no room. -/
structure Lies (w : World) (a : Option Addr) (cap : Nat) (l : List FtM) (F : Nat → Prop) : Prop where
  le : l.length ≤ cap
  max : cap ≤ maxLen
  is : FaultsIs w a l
  nil : a = none → cap = 0
  own : ∀ ad, a = some ad → ∃ b o, ad = ⟨b, o, none⟩ ∧ F b ∧ b < w.heap.size
theorem Lies.same {w w' : World} {a : Option Addr} {cap : Nat} {l : List FtM} {F F' : Nat → Prop} (h : Lies w a cap l F) (hk : ∀ k, F k → k < w.heap.size → w'.heap[k]? = w.heap[k]?) (hF : ∀ k, F k → F' k) : Lies w' a cap l F' :=
  ⟨h.le, h.max, fun i f hi => by
    obtain ⟨b, o, e, hc⟩ := h.is i f hi
    obtain ⟨b', o', e', hF', hlt⟩ := h.own _ e
    cases e'
    exact ⟨b, o, e, fun j v hj => (World.cell?_of_block (a := ⟨b, o + i * 7 + j, none⟩) (hk b hF' hlt)).trans (hc j v hj)⟩, h.nil, fun ad e => by
    obtain ⟨b, o, e', hF', hlt⟩ := h.own _ e
    exact ⟨b, o, e', hF _ hF', (Array.getElem?_eq_some_iff.1 ((hk b hF' hlt).trans (Array.getElem?_eq_getElem hlt))).1⟩⟩
theorem Lies.low {w : World} {a : Option Addr} {cap k : Nat} {l : List FtM} {F : Nat → Prop} (h : Lies w a cap l F) : Lies w a cap (l.take k) F :=
  ⟨by rw [List.length_take]; have := h.le; omega, h.max, fun i f hi => h.is i f (by
    rw [List.getElem?_take] at hi
    split at hi
    · exact hi
    · cases hi), h.nil, h.own⟩
theorem run_cut {w : World} {a : Option Addr} {n cap k : Nat} {l : List FtM} {F : Nat → Prop} (h : Lies w a cap l F) (hn : l.length = n) (hk : k ≤ n) :
    (∀ W : World, (Instr.slice 47 (.slice a n cap) none (some (.int .i64 (k : Int))) none).run Tryz.prog W = .ok (.slice a k cap) W) ∧
    ∃ c, (∀ W : World, (Instr.slice 47 (.slice a n cap) (some (.int .i64 (k : Int))) none none).run Tryz.prog W = .ok (.slice c (n - k) (cap - k)) W) ∧ Lies w c (cap - k) (l.drop k) F := by
  have hel : Tryz.prog.underlying 47 = some (.slice (Tryz.prog.elem 47)) := by
    have : Tryz.prog.elem 47 = 44 := by simp [Program.elem, Tryz.underlying47]
    rw [this]; exact Tryz.underlying47
  have hz : ∀ W : World, (sizeOf (Tryz.prog.elem 47)).run Tryz.prog W = .ok 7 W := by
    have : Tryz.prog.elem 47 = 44 := by simp [Program.elem, Tryz.underlying47]
    rw [this]; exact size_F
  have hle := h.le
  have hmax := h.max
  unfold maxLen at hmax
  cases a with
  | none =>
    have h0 := h.nil rfl
    subst h0
    obtain rfl : n = 0 := by omega
    obtain rfl : k = 0 := by omega
    refine ⟨fun W => ?_, none, fun W => ?_, ?_⟩
    · rw [run_slice_h W _ none 0 0 hel .i64 ((0 : Nat) : Int) (by omega) (by omega), hz]; rfl
    · rw [run_slice_l W _ none 0 0 hel .i64 ((0 : Nat) : Int) (by omega) (by omega), hz]; rfl
    · rw [List.drop_zero]; exact h
  | some ad =>
    obtain ⟨b, o, rfl, hF, hlt⟩ := h.own ad rfl
    refine ⟨fun W => ?_, some (if cap = k then ⟨b, o, none⟩ else ⟨b, o + k * 7, none⟩), fun W => ?_, ?_⟩
    · rw [run_slice_h W _ _ n cap hel .i64 (k : Int) (by omega) (by omega), hz]
      simp [Result.andThen, sliced, add_none]
    · rw [run_slice_l W _ _ n cap hel .i64 (k : Int) (by omega) (by omega), hz]
      simp [Result.andThen, sliced, add_none]
      split <;> rfl
    · refine ⟨by rw [List.length_drop]; omega, by unfold maxLen; omega, fun i f hi => ?_, fun e => (by cases e), fun ad e => ?_⟩
      · rw [List.getElem?_drop] at hi
        have hil := (List.getElem?_eq_some_iff.1 hi).1
        rw [if_neg (by omega)]
        obtain ⟨b', o', e, hc⟩ := h.is (k + i) f hi
        cases e
        refine ⟨b, o + k * 7, rfl, fun j v hj => ?_⟩
        rw [show o + k * 7 + i * 7 + j = o + (k + i) * 7 + j by omega]
        exact hc j v hj
      · cases e
        by_cases hck : cap = k
        · rw [if_pos hck]; exact ⟨b, o, rfl, hF, hlt⟩
        · rw [if_neg hck]; exact ⟨b, o + k * 7, rfl, hF, hlt⟩

/-! slices.Clone. -/
theorem clone_none (w : World) : Calls Tryz.prog 64 #[.slice none 0 0] w fun e w' => e = .returned (.slice none 0 0) ∧ w = w' := by
  have hn := fun w => Lib.run_eql_slice_nil (P := Tryz.prog) w 47 44 none 0 0 0 0 Tryz.underlying47
  go_enter Tryz.func64, Tryz.ntmps64
  go_wp2
  go_ret
  exact ⟨rfl, rfl⟩
theorem cells_at (l : List FtM) (b o : Nat) (w : World) (h : FaultsIs w (some ⟨b, o, none⟩) l) : ∀ j u, (l.flatMap cellsFau)[j]? = some u → w.cell? ((⟨b, o, none⟩ : Addr).add j) = some u := by
  intro j u hj
  have hl : j < l.length * 7 := by have := (List.getElem?_eq_some_iff.1 hj).1; rwa [FP.flat_len] at this
  obtain ⟨f, hf⟩ : ∃ f, l[j / 7]? = some f := ⟨_, List.getElem?_eq_getElem (by omega)⟩
  have h1 := flat_at l (j / 7) f (j % 7) hf (by omega)
  rw [show j / 7 * 7 + j % 7 = j by omega, hj] at h1
  obtain ⟨b', o', e, hc⟩ := h (j / 7) f hf
  cases e
  rw [add_none, show o + j = o + j / 7 * 7 + j % 7 by omega]
  exact hc _ _ h1.symm
theorem flat_one (l : List FtM) : ∀ u ∈ l.flatMap cellsFau, Value.oneCell' u = true := fun u hu => by
  obtain ⟨f, _, hf⟩ := List.mem_flatMap.1 hu
  exact flat_F f u hf
set_option maxRecDepth 100000 in
set_option maxHeartbeats 400000 in
theorem clone_some (l : List FtM) (n : Nat) (b o cap : Nat) (w : World) (hn : l.length = n) (hl : n ≤ 1000000) (hh : FaultsIs w (some ⟨b, o, none⟩) l) :
    Calls Tryz.prog 64 #[.slice (some ⟨b, o, none⟩) n cap] w fun e w' => ∃ v, e = .returned v ∧ w'.ownsRow w.heap.size 44 7 v n (l.flatMap cellsFau) ∧ Below w.heap.size w w' := by
  obtain ⟨i0, hi, hz0, hz1, hz2⟩ := info_parts info
  have hnil := fun w => Lib.run_eql_slice_nil (P := Tryz.prog) w 47 44 (some ⟨b, o, none⟩) n cap 0 0 Tryz.underlying47
  have hnews := cells_at l b o w hh
  have hnews2 : ∀ j u, (l.flatMap cellsFau)[j]? = some u → (w.alloc (.cells #[] 44)).cell? ((⟨b, o, none⟩ : Addr).add j) = some u := fun j u hj =>
    (((Below.refl w.heap.size w).alloc (Nat.le_refl _) _).cell (World.block_lt_of_cell? w _ (hnews j u hj))).trans (hnews j u hj)
  have HN := Lib.hid hnews2
  have HL : Hid ((l.flatMap cellsFau).length = n * 7) := by show _ = _; rw [FP.flat_len, hn]
  have HC3 : Hid (0 + n ≤ maxLen) := by unfold maxLen; show _ ≤ _; omega
  have hmade := World.ownsRow_made (e := 44) (size := 7) (base := w.heap.size) w #[] 0 (Nat.le_refl _) (Nat.zero_le _) rfl
  have hle : w.heap.size ≤ (w.alloc (.cells #[] 44)).heap.size := by simp
  have HLE := Lib.hid hle
  clear hnews hnews2 hh hn hle
  go_enter Tryz.func64, Tryz.ntmps64
  go_wp2_with (at_builtin; refine wpList_append_own _ rfl _ _ 47 rfl w.heap.size 44 i0 (.agg #[.int .i64 0, .int .i64 0, .int .i64 0, .int .i64 0, .int .i64 0, .int .i64 0, .int .i64 0]) 7 56 Tryz.underlying47 hi hz0 hz1 hz2 rfl (by decide) _ _ _ rfl hmade ⟨b, o, none⟩ n cap _ rfl HL.out HN.out (flat_one _) HC3.out (by omega) HLE.out ?_)
  intro v' w' hown' hgrow _
  have hown2 : w'.ownsRow w.heap.size 44 7 v' n (l.flatMap cellsFau) := hown'
  have hbl : Below w.heap.size w w' := below_grown ((Below.refl _ _).alloc (Nat.le_refl _) _) HLE.out hmade hgrow
  clear hown' hgrow hmade
  go_wp2
  go_ret
  exact ⟨_, rfl, hown2, hbl⟩
theorem clone_any (l : List FtM) (n : Nat) (a : Option Addr) (cap : Nat) (F : Nat → Prop) (w : World) (hn : l.length = n) (hl : n ≤ 1000000) (hh : Lies w a cap l F) :
    Calls Tryz.prog 64 #[.slice a n cap] w fun e w' => ∃ v, e = .returned v ∧ SliceF w.heap.size w' v l ∧ Below w.heap.size w w' := by
  cases a with
  | none =>
    have h0 := hh.nil rfl
    subst h0
    have hle := hh.le
    obtain rfl : n = 0 := by omega
    obtain rfl := List.length_eq_zero_iff.1 hn
    refine (clone_none w).mono ?_
    rintro e w' ⟨rfl, rfl⟩
    exact ⟨_, rfl, .inl ⟨rfl, rfl⟩, Below.refl _ _⟩
  | some ad =>
    obtain ⟨b, o, rfl, _⟩ := hh.own ad rfl
    refine (clone_some l n b o cap w hn hl hh.is).mono ?_
    rintro e w' ⟨v, rfl, h1, h2⟩
    exact ⟨v, rfl, .of_owns (by rw [hn]; exact h1), h2⟩

/-- A plan at block g: what did not come yet, by its time. -/
def IsP : PlanT := fun w g l F => ∃ a cap, Row w g 95 [.slice a l.length cap] ∧ Lies w a cap (sortF l) F ∧ F g ∧ (∀ ad, a = some ad → ad.block ≠ g) ∧ ∀ k, F k → k < w.heap.size
theorem IsP.lt {w : World} {g : Nat} {l : List FtM} {F : Nat → Prop} (h : IsP w g l F) : ∀ k, F k → k < w.heap.size := by
  obtain ⟨_, _, _, _, _, _, h⟩ := h; exact h
theorem IsP.keep {w w' : World} {g : Nat} {l : List FtM} {F : Nat → Prop} (h : IsP w g l F) (hk : ∀ k, F k → w'.heap[k]? = w.heap[k]?) : IsP w' g l F := by
  obtain ⟨a, cap, h1, h2, h3, h4, h5⟩ := h
  exact ⟨a, cap, h1.of_block (hk g h3), h2.same (fun k hF _ => hk k hF) (fun _ h => h), h3, h4, fun k hF => (Array.getElem?_eq_some_iff.1 ((hk k hF).trans (Array.getElem?_eq_getElem (h5 k hF)))).1⟩
theorem left_any {w : World} {g : Nat} {l : List FtM} {F : Nat → Prop} (h : IsP w g l F) : Calls Tryz.prog 34 #[nptr g] w fun e w' => e = .returned (.int .i64 (l.length : Nat)) ∧ Below w.heap.size w w' := by
  obtain ⟨a, cap, h1, h2, h3, h4, h5⟩ := h
  have hc : w.cell? ⟨g, 0, none⟩ = some (.slice a l.length cap) := h1.cell rfl
  clear h1 h2 h3 h4 h5
  unfold nptr
  go_enter Tryz.func34, Tryz.ntmps34
  go_wp2
  go_ret
  exact ⟨rfl, Below.refl _ _⟩
theorem left_nil (w : World) : Calls Tryz.prog 34 #[.pointer none] w fun e w' => e = .returned (.int .i64 0) ∧ Below w.heap.size w w' := by
  go_enter Tryz.func34, Tryz.ntmps34
  go_wp2
  go_ret
  exact ⟨rfl, Below.refl _ _⟩
theorem due_nil (ops : Int) (w : World) : Calls Tryz.prog 35 #[.pointer none, .int .i64 ops] w fun e w' => e = .returned (.slice none 0 0) ∧ Below w.heap.size w w' := by
  go_enter Tryz.func35, Tryz.ntmps35
  go_wp2
  go_ret
  exact ⟨rfl, Below.refl _ _⟩
/-- A slice one has been told lies behind what was there. -/
theorem SliceF.lies {base : Nat} {w : World} {v : Value} {l : List FtM} (h : SliceF base w v l) : ∃ a cap, v = .slice a l.length cap ∧ Lies w a cap l (fun k => base ≤ k) := by
  obtain ⟨a, cap, hv, h1, h2, h3, h4, h5⟩ := h.is
  exact ⟨a, cap, hv, h1, h2, h3, h4, fun ad e => by obtain ⟨b, hb, h6, h7⟩ := h5 ad e; exact ⟨b, 0, hb, h6, h7⟩⟩
theorem due_done {w w1 : World} {g n d cap : Nat} {a c : Option Addr} {v : Value} {l : List FtM} {ops : Int} {F : Nat → Prop}
    (hF : F g) (hFs : ∀ k, F k → k < w.heap.size) (hr : (restL l ops).length = n - d)
    (hh : Lies w c (cap - d) (sortF (restL l ops)) (fun k => F k ∧ k ≠ g)) (hs : SliceF w.heap.size w1 v (dueL l ops)) (hb : Below w.heap.size w w1) (hR : Row w1 g 95 [.slice a n cap]) :
    ∃ a cap' F', Ending.returned v = .returned (.slice a (dueL l ops).length cap') ∧ (dueL l ops).length ≤ cap' ∧ cap' ≤ maxLen ∧
      FaultsIs (w1.setCell ⟨g, 0, none⟩ (.slice c (n - d : Nat) (cap - d))) a (dueL l ops) ∧ (∀ b o, a = some ⟨b, o, none⟩ → w.heap.size ≤ b ∧ ¬ F' b) ∧ IsP (w1.setCell ⟨g, 0, none⟩ (.slice c (n - d : Nat) (cap - d))) g (restL l ops) F' ∧
      Keeps F w (w1.setCell ⟨g, 0, none⟩ (.slice c (n - d : Nat) (cap - d))) ∧ ∀ k, F' k → F k ∨ w.heap.size ≤ k := by
  have hgl := hFs g hF
  have oth : ∀ k, k ≠ g → (w1.setCell ⟨g, 0, none⟩ (.slice c (n - d) (cap - d))).heap[k]? = w1.heap[k]? := fun k hk => Below.heap_setCell _ _ _ _ hk
  have hsz : (w1.setCell ⟨g, 0, none⟩ (.slice c (n - d) (cap - d))).heap.size = w1.heap.size := by simp [World.setCell]
  obtain ⟨a', cap', rfl, hl⟩ := hs.lies
  have hl2 := hl.same (w' := w1.setCell ⟨g, 0, none⟩ (.slice c (n - d) (cap - d))) (F' := fun k => w.heap.size ≤ k) (fun k hk _ => oth k (by omega)) (fun _ h => h)
  refine ⟨a', cap', F, rfl, hl2.le, hl2.max, hl2.is, fun b o e => ?_, ⟨c, cap - d, ?_, ?_, hF, fun ad e => ?_, fun k hk => ?_⟩, ⟨?_, ?_, ?_, ?_, fun k hk hnF => ?_⟩, fun k hk => .inl hk⟩
  · obtain ⟨b', o', e', h1, _⟩ := hl2.own _ e
    cases e'
    exact ⟨h1, fun hFb => by have := hFs b hFb; omega⟩
  · rw [hr]; exact hR.setCell _
  · exact hh.same (fun k hk hlt => (oth k hk.2).trans (hb.block k hlt)) (fun _ h => h.1)
  · obtain ⟨b', o', rfl, h1, _⟩ := hh.own _ e
    exact h1.2
  · rw [hsz]; exact Nat.lt_of_lt_of_le (hFs k hk) hb.size
  · exact hb.os
  · exact hb.tape
  · exact hb.output
  · rw [hsz]; exact hb.size
  · exact (oth k (fun e => hnF (e ▸ hF))).trans (hb.block k hk)
end FT
end Go.Proofs.YtfploeefmnbpcaaGreat

/- Package fault: Dies. -/
namespace Go.Proofs.YtfploeefmnbpcaaGreat
open Go.Shelf Go.RowKit Go.Lib Go.Sort Mp
set_option linter.unusedSimpArgs false
namespace FT
theorem dies_take {l : List FtM} {k : Nat} {f : FtM} (h : l[k]? = some f) : diesF (l.take (k + 1)) = withS (diesF (l.take k)) f.x := by
  rw [FP.take_snoc h]; unfold diesF; rw [List.foldl_append]; rfl
set_option maxRecDepth 100000 in
set_option maxHeartbeats 4000000 in
theorem dies_any (a : Option Addr) (cap : Nat) (l : List FtM) (w : World) (hf : FaultsIs w a l) (h1 : l.length ≤ cap) (h2 : cap ≤ maxLen) :
    Calls Tryz.prog 32 #[.slice a l.length cap] w fun e w' => e = .returned (.int .i64 (diesF l)) ∧ Below w.heap.size w w' := by
  obtain ⟨n, hn⟩ : ∃ n, l.length = n := ⟨_, rfl⟩
  have HF := Lib.hid hf
  have HN := Lib.hid hn
  rw [hn] at h1 ⊢
  unfold maxLen at h2
  clear hf hn
  go_enter Tryz.func32, Tryz.ntmps32
  go_wp2
  go_loopw [3, 8] (fun m i wr => ∃ k : Nat, k ≤ n ∧ i = .int .i64 k ∧ m = .int .i64 (diesF (l.take k)) ∧ Below w.heap.size w wr) (fun _ i _ => (n - intOf i).toNat)
  case atStart => exact ⟨0, Nat.zero_le _, rfl, rfl, Below.refl _ _⟩
  case round =>
    obtain ⟨k, hk, rfl, rfl, hb⟩ := hrel
    have HB := Lib.hid hb
    clear hb
    by_cases hkn : k < n
    · obtain ⟨f, hf⟩ : ∃ f, l[k]? = some f := ⟨_, List.getElem?_eq_getElem (by rw [HN.out]; exact hkn)⟩
      have HS := Lib.hid (dies_take hf)
      obtain ⟨b, o, rfl, hcc⟩ := HF.out k f hf
      have hblt : b < w.heap.size := World.block_lt_of_cell? w _ (hcc 0 _ rfl)
      have HC : ∀ j v, (cellsFau f)[j]? = some v → wr.cell? ⟨b, o + k * 7 + j, none⟩ = some v := fun j v hj => (HB.out.cell (p := ⟨b, o + k * 7 + j, none⟩) hblt).trans (hcc j v hj)
      have c0 : wr.cell? ⟨b, o + k * 7, none⟩ = some (.int .i64 f.at') := HC 0 _ rfl
      have c1 : wr.cell? ⟨b, o + k * 7 + 1, none⟩ = some (.int .i64 f.kind) := HC 1 _ rfl
      have c2 : wr.cell? ⟨b, o + k * 7 + 2, none⟩ = some (.int .i64 f.x) := HC 2 _ rfl
      have c3 : wr.cell? ⟨b, o + k * 7 + 3, none⟩ = some (.int .i64 f.y) := HC 3 _ rfl
      have c4 : wr.cell? ⟨b, o + k * 7 + 4, none⟩ = some (.int .i64 f.z) := HC 4 _ rfl
      have c5 : wr.cell? ⟨b, o + k * 7 + 5, none⟩ = some (.int .i64 f.n) := HC 5 _ rfl
      have c6 : wr.cell? ⟨b, o + k * 7 + 6, none⟩ = some (.int .i64 f.v) := HC 6 _ rfl
      clear HC hcc hf hblt
      generalize diesF (l.take k) = m at HS ⊢
      have hkz : (k : Int) < (n : Int) := by omega
      go_wp2_with (go_at_call 60; (with_reducible refine (with_any _ _ _).mono ?_); rintro e x ⟨rfl, rfl⟩)
      go_round
      case measure => simp only [intOf]; omega
      case rel => exact ⟨k + 1, by omega, by go_num, by rw [HS.out], HB.out.trans ((Below.refl _ _).alloc HB.out.size _)⟩
    · obtain rfl : k = n := by omega
      have hkz : ¬ (k : Int) < (k : Int) := by omega
      have HL : Hid (l.take k = l) := Lib.hid (by rw [← HN.out, List.take_length])
      rw [HL.out]
      go_wp2
      go_ret
      exact ⟨rfl, HB.out⟩
end FT
end Go.Proofs.YtfploeefmnbpcaaGreat
