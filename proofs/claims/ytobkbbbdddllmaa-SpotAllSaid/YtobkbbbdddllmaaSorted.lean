/- Places in order: what slices.SortFunc(l, compare) leaves. -/
import Derived.Test.YtobkbbbdddllmaaSortA
namespace Go.Proofs.Ytobkbbbdddllmaa
open Go.Shelf Go.RowKit Go.Lib Go.Sort

/-- One place comes ahead of the other. -/
def ltA (a b : A3) : Prop := a.1 < b.1 ∨ a.1 = b.1 ∧ (a.2.1 < b.2.1 ∨ a.2.1 = b.2.1 ∧ a.2.2 < b.2.2)
instance (a b : A3) : Decidable (ltA a b) := by unfold ltA; exact inferInstance

theorem ltOf_cmp (a b : A3) : ltOf cmpA a b = decide (ltA a b) := by
  unfold ltOf
  congr 1
  rw [eq_iff_iff]
  unfold cmpA cmpI ltA
  (repeat' split) <;> omega
theorem ltA_irrefl (a : A3) : ¬ ltA a a := by unfold ltA; omega
theorem ltA_trans {a b c : A3} (h : ltA a b) (k : ltA b c) : ltA a c := by unfold ltA at *; omega
theorem ltA_total {a b : A3} (h : ¬ ltA a b) (k : ¬ ltA b a) : a = b := by
  obtain ⟨x, y, z⟩ := a; obtain ⟨x', y', z'⟩ := b
  simp only [ltA] at h k
  simp only [Prod.mk.injEq]
  omega
theorem swoA : SWO (ltOf cmpA) where
  irrefl x := by rw [ltOf_cmp]; simpa using ltA_irrefl x
  trans x y z h1 h2 := by rw [ltOf_cmp] at *; simp only [decide_eq_true_eq] at *; exact ltA_trans h1 h2
  ntrans x y z h1 h2 := by
    rw [ltOf_cmp] at *
    simp only [decide_eq_false_iff_not] at *
    intro h3
    unfold ltA at *
    omega
theorem cmpLays (blk off size : Nat) (w : World) : CmpLays Try.prog 30 #[] cellsA 3 cmpA blk off size w :=
  fun _ _ _ _ x y => cmp_any x y _

/-- The places in order. -/
def sortL (xs : List A3) : List A3 := xs.mergeSort fun x y => !(ltOf cmpA) y x
theorem sortL_perm (xs : List A3) : (sortL xs).Perm xs := List.mergeSort_perm _ _
theorem sortL_length (xs : List A3) : (sortL xs).length = xs.length := (sortL_perm xs).length_eq
theorem sortL_sorted (xs : List A3) (h : xs.Nodup) : (sortL xs).Pairwise ltA := by
  have h1 : (sortL xs).Pairwise fun x y => (!(ltOf cmpA) y x) = true := by
    refine List.pairwise_mergeSort (fun a b c h1 h2 => ?_) (fun a b => ?_) xs
    · rw [ltOf_cmp] at *
      simp only [Bool.not_eq_true', decide_eq_false_iff_not] at *
      unfold ltA at *; omega
    · rw [ltOf_cmp, ltOf_cmp]
      by_cases h : ltA b a
      · have : ¬ ltA a b := fun k => ltA_irrefl a (ltA_trans k h)
        simp [this]
      · simp [h]
  have h2 : (sortL xs).Nodup := (sortL_perm xs).nodup_iff.2 h
  refine (h1.and h2).imp fun {x y} ⟨h3, h4⟩ => ?_
  rw [ltOf_cmp] at h3
  simp only [Bool.not_eq_true', decide_eq_false_iff_not] at h3
  by_cases h5 : ltA x y
  · exact h5
  · exact absurd (ltA_total h5 h3) h4
theorem sorted_eq {l l' : List A3} (hp : l.Perm l') (h : l.Pairwise ltA) (h' : l'.Pairwise ltA) : l = l' :=
  List.Perm.eq_of_pairwise (le := ltA) (fun a _ _ _ h1 h2 => absurd (ltA_trans h1 h2) (ltA_irrefl a)) h h' hp
theorem sorted_nodup {l : List A3} (h : l.Pairwise ltA) : l.Nodup := by
  refine h.imp ?_
  intro a b h1 h2
  subst h2
  exact ltA_irrefl _ h1

theorem sortL_of_perm {l l' : List A3} (h : l.Perm l') : sortL l = sortL l' := by
  have tr : ∀ a b c : A3, (!(ltOf cmpA) b a) = true → (!(ltOf cmpA) c b) = true → (!(ltOf cmpA) c a) = true := fun a b c h1 h2 => by
    rw [ltOf_cmp] at *
    simp only [Bool.not_eq_true', decide_eq_false_iff_not] at *
    unfold ltA at *; omega
  have tot : ∀ a b : A3, ((!(ltOf cmpA) b a) || (!(ltOf cmpA) a b)) = true := fun a b => by
    rw [ltOf_cmp, ltOf_cmp]
    by_cases h : ltA b a
    · have : ¬ ltA a b := fun k => ltA_irrefl a (ltA_trans k h)
      simp [this]
    · simp [h]
  refine List.Perm.eq_of_pairwise (le := fun x y => (!(ltOf cmpA) y x) = true) (fun a b _ _ h1 h2 => ?_) (List.pairwise_mergeSort tr tot l) (List.pairwise_mergeSort tr tot l') (((sortL_perm l).trans h).trans (sortL_perm l').symm)
  rw [ltOf_cmp] at h1 h2
  simp only [Bool.not_eq_true', decide_eq_false_iff_not] at h1 h2
  exact ltA_total h2 h1

/-- The cells of places that lie behind one another. -/
theorem flat_get : ∀ (xs : List A3) (t : Nat), t < xs.length * 3 → (xs.flatMap cellsA)[t]? = some (cellsA (xs[t / 3]!))[t % 3]!
  | [], t, h => by simp at h
  | x :: r, t, h => by
    rw [List.flatMap_cons]
    by_cases ht : t < 3
    · rw [List.getElem?_append_left (by simpa [cellsA] using ht)]
      have h0 : t / 3 = 0 := by omega
      have h1 : t % 3 = t := by omega
      rw [h0, h1]
      match t, ht with
      | 0, _ => rfl
      | 1, _ => rfl
      | 2, _ => rfl
    · rw [List.getElem?_append_right (by simp [cellsA]; omega)]
      have e1 : t / 3 = (t - 3) / 3 + 1 := by omega
      have e2 : t % 3 = (t - 3) % 3 := by omega
      rw [show (cellsA x).length = 3 from rfl, flat_get r (t - 3) (by simp at h; omega), e1, e2]
      rfl

theorem holdsA_of_block {w : World} {g : Nat} {cur : Array Value} {e : TypeId} {xs : List A3} (hb : w.heap[g]? = some (.cells cur e (0, 0))) (ht : cur.toList.take (xs.length * 3) = xs.flatMap cellsA) :
    HoldsK cellsA 3 w g 0 xs.toArray := by
  intro t hlt
  rw [size_flatK] at hlt
  have hlt' : t < xs.length * 3 := by simpa using hlt
  refine ⟨?_, by simp [World.frozen?, hb]⟩
  have h1 : (cur.toList.take (xs.length * 3))[t]? = (xs.flatMap cellsA)[t]? := by rw [ht]
  rw [List.getElem?_take_of_lt hlt', flat_get xs t hlt'] at h1
  rw [get_flatK _ _ _ _ hlt]
  simp only [World.cell?, hb, Nat.zero_add, Option.isSome_none, Bool.false_eq_true, if_false, id]
  rw [← Array.getElem?_toList, h1]
  simp

/-- v is a slice of the places xs, in memory from block base on. -/
def SliceA (base : Nat) (w : World) (v : Value) (xs : List A3) : Prop :=
  (v = .slice none 0 0 ∧ xs = []) ∨ ∃ g cap, v = .slice (some ⟨g, 0, none⟩) xs.length cap ∧ xs.length ≤ cap ∧ cap ≤ maxLen ∧ base ≤ g ∧ g < w.heap.size ∧ HoldsK cellsA 3 w g 0 xs.toArray

theorem SliceA.of_owns {base : Nat} {w : World} {v : Value} {xs : List A3} (h : w.ownsRow base 29 3 v xs.length (xs.flatMap cellsA)) : SliceA base w v xs := by
  rcases h.2 with ⟨rfl, hz⟩ | ⟨g, cap, cur, rfl, hbase, hg, r1, r2, r3, r4⟩
  · exact .inl ⟨rfl, List.eq_nil_of_length_eq_zero hz⟩
  · exact .inr ⟨g, cap, rfl, r1, r2, hbase, (Array.getElem?_eq_some_iff.1 hg).1, holdsA_of_block hg r4⟩

/-- Another block's turn leaves a slice. -/
theorem SliceA.keep {base : Nat} {w w' : World} {v : Value} {xs : List A3} (h : SliceA base w v xs) (hs : w.heap.size ≤ w'.heap.size) (hb : ∀ g, v.ownBlock = some g → w'.heap[g]? = w.heap[g]?) : SliceA base w' v xs := by
  rcases h with h | ⟨g, cap, rfl, h1, h2, h3, h4, h5⟩
  · exact .inl h
  · refine .inr ⟨g, cap, rfl, h1, h2, h3, by omega, fun t ht => ?_⟩
    have hg := hb g rfl
    exact ⟨(World.cell?_of_block (a := ⟨g, 0 + t, none⟩) hg).trans (h5 t ht).1, (World.frozen?_of_block (a := ⟨g, 0 + t, none⟩) hg).trans (h5 t ht).2⟩
theorem SliceA.below {base B : Nat} {w w' : World} {v : Value} {xs : List A3} (h : SliceA base w v xs) (hw : Below B w w') (hB : w.heap.size ≤ B) : SliceA base w' v xs := by
  rcases h with h | ⟨g, cap, rfl, h1, h2, h3, h4, h5⟩
  · exact .inl h
  · exact SliceA.keep (.inr ⟨g, cap, rfl, h1, h2, h3, h4, h5⟩) hw.size (fun g' e => by cases e; exact hw.block g (Nat.lt_of_lt_of_le h4 hB))
theorem SliceA.base {base base' : Nat} {w : World} {v : Value} {xs : List A3} (h : SliceA base w v xs) (hb : base' ≤ base) : SliceA base' w v xs := by
  rcases h with h | ⟨g, cap, rfl, h1, h2, h3, h4, h5⟩
  · exact .inl h
  · exact .inr ⟨g, cap, rfl, h1, h2, by omega, h4, h5⟩

theorem enters_compare : ∀ args w, (callFunc 30 args).run Try.prog w = .ok (.enter 30 args) w := enters_of Try.func30 (by kernel_rfl) rfl

/-- slices.SortFunc(l, compare). -/
theorem sort_any (base : Nat) (w : World) (v : Value) (xs : List A3) (h : SliceA base w v xs) (hn : xs.length < 4611686018427387904) :
    Calls Try.prog 32 #[v, .func (.func 30) #[] #[]] w fun e w' => e = .returned (.tuple #[]) ∧ SliceA base w' v (sortL xs) ∧ w.grownBy w' v.ownBlock := by
  rcases h with ⟨rfl, rfl⟩ | ⟨g, cap, rfl, h1, h2, h3, h4, h5⟩
  · refine (AnyF.slices_SortFunc_none sortA none 0 _ w).mono ?_
    rintro e w' ⟨rfl, rfl⟩
    exact ⟨rfl, .inl ⟨rfl, by simp [sortL]⟩, ⟨rfl, rfl, rfl, Nat.le_refl _, fun _ _ _ => rfl⟩⟩
  · have hcon := AnyQ.slices_SortFunc_total sortA 3 Try.isAgg29 Try.sizeOf29 cellsA (fun _ => rfl) (fun x v hv => by simp [cellsA] at hv; rcases hv with rfl | rfl | rfl <;> rfl) cmpA swoA 30 #[] g 0 cap xs.toArray w enters_compare (cmpLays g 0 xs.toArray.size w) h5 h4 (by simpa using hn)
      (fun x y e1 e2 => by rw [ltOf_cmp] at e1 e2; simp only [decide_eq_false_iff_not] at e1 e2; exact ltA_total e1 e2)
    change Calls Try.prog 32 _ _ _ at hcon
    have e0 : xs.toArray.size = xs.length := by simp
    rw [e0] at hcon
    refine hcon.mono ?_
    rintro e w' ⟨rfl, n, os, hw⟩
    have hs : (xs.toArray.toList.mergeSort fun x y => !(ltOf cmpA) y x) = sortL xs := rfl
    rw [hs] at hw
    have hl := sortL_length xs
    have hgl : (Sort.ahead w n).heap.size = w.heap.size := rfl
    have hH : HoldsK cellsA 3 (putRowK cellsA 3 (Sort.ahead w n) g 0 (sortL xs).toArray) g 0 (sortL xs).toArray := holdsK_putRowK cellsA 3 _ g 0 _ _ (holdsK_ahead cellsA 3 w n g 0 _ h5) (by simp [hl])
    have hsz : (putRowK cellsA 3 (Sort.ahead w n) g 0 (sortL xs).toArray).heap.size = w.heap.size := by simp [putRowK, putRow, mapBlock, Sort.ahead]
    refine ⟨rfl, .inr ⟨g, cap, by rw [hl], by omega, h2, h3, ?_, ?_⟩, ?_⟩
    · rw [hw]; unfold sortWorldK grow; simp only [Array.size_append, hsz]; omega
    · rw [hw]; exact holdsK_grow cellsA 3 _ os g 0 _ (by rw [hsz]; exact h4) hH
    · rw [hw]
      refine ⟨rfl, rfl, rfl, ?_, fun k hk hne => ?_⟩
      · unfold sortWorldK grow; simp only [Array.size_append, hsz]; omega
      · have hkg : g ≠ k := fun e => hne (by rw [← e]; rfl)
        unfold sortWorldK
        rw [heap_grow_old _ _ (by rw [hsz]; exact hk)]
        simp [putRowK, putRow, mapBlock, Sort.ahead, Array.getElem?_modify, hkg]
end Go.Proofs.Ytobkbbbdddllmaa
