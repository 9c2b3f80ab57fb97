/- Maps, told by the list of their keys and values: what lies in the block, and what each operation comes to. Of whatever program. -/
import Derived.Maps.RangeWalk
import Derived.Maps.OwnSet
import Derived.Sort.MapsRangeIn
import Derived.WideKeyEntry
import Derived.Lib.Hide
namespace Go.Proofs.Ytobkbbbdddllmaa.Mp
open Go Go.MapKept Go.ChangeMaps Go.Maps Go.RowKit
set_option linter.unusedVariables false

/-- How keys are written. -/
structure KeyEnc (P : Program) (k : TypeId) (α : Type) where
  enc : α → Value
  Ok : α → Prop
  law : Keyed P k
  has : ∀ a, Ok a → ∃ l, keyOf P k (enc a) = some l
  inj : ∀ a b, enc a = enc b → a = b

section
variable {P : Program} {k : TypeId} {α : Type} (E : KeyEnc P k α)

/-- The entries of a map that has l. -/
structure Ents (es : Array MapEntry) (clock : Nat) (l : List (α × Value)) : Prop where
  stamped : Stamped es clock
  ok : ∀ p ∈ l, E.Ok p.1
  perm : (es.toList.map fun e => (e.key, e.val)).Perm (l.map fun p => (E.enc p.1, p.2))

variable {E} {es : Array MapEntry} {clock : Nat} {l l' : List (α × Value)}

theorem Ents.of_perm (h : Ents E es clock l) (hp : l.Perm l') : Ents E es clock l' :=
  ⟨h.stamped, fun p hp' => h.ok p (hp.mem_iff.2 hp'), h.perm.trans (hp.map _)⟩

theorem Ents.size (h : Ents E es clock l) : es.size = l.length := by
  have := h.perm.length_eq; simpa using this

theorem Ents.mem (h : Ents E es clock l) {e : MapEntry} (he : e ∈ es.toList) : ∃ p ∈ l, e.key = E.enc p.1 ∧ e.val = p.2 := by
  have : (e.key, e.val) ∈ l.map fun p => (E.enc p.1, p.2) := h.perm.mem_iff.1 (List.mem_map.2 ⟨e, he, rfl⟩)
  obtain ⟨p, hp, e1⟩ := List.mem_map.1 this
  simp only [Prod.mk.injEq] at e1
  exact ⟨p, hp, e1.1.symm, e1.2.symm⟩

theorem Ents.mem' (h : Ents E es clock l) {p : α × Value} (hp : p ∈ l) : ∃ e ∈ es.toList, e.key = E.enc p.1 ∧ e.val = p.2 := by
  have : (E.enc p.1, p.2) ∈ es.toList.map fun e => (e.key, e.val) := h.perm.mem_iff.2 (List.mem_map.2 ⟨p, hp, rfl⟩)
  obtain ⟨e, he, e1⟩ := List.mem_map.1 this
  simp only [Prod.mk.injEq] at e1
  exact ⟨e, he, e1.1, e1.2⟩

theorem Ents.keyed (h : Ents E es clock l) : ∀ e ∈ es.toList, ∃ lit, keyOf P k e.key = some lit := fun e he => by
  obtain ⟨p, hp, e1, _⟩ := h.mem he
  rw [e1]; exact E.has _ (h.ok p hp)

theorem Ents.nodup (h : Ents E es clock l) : (l.map (·.1)).Nodup := by
  have h1 : (es.toList.map (·.key)).Nodup := h.stamped.2.2
  have h2 : (es.toList.map (·.key)).Perm (l.map fun p => E.enc p.1) := by
    have := h.perm.map (·.1)
    simpa [List.map_map, Function.comp_def] using this
  have h3 : (l.map fun p => E.enc p.1).Nodup := h2.nodup_iff.1 h1
  have h4 : ((l.map (·.1)).map E.enc).Nodup := by simpa [List.map_map, Function.comp_def] using h3
  exact List.Pairwise.imp (fun h e => h (by rw [e])) (List.pairwise_map.1 h4)

/-- The object in a map's block. -/
def IsObj (E : KeyEnc P k α) (o : Obj) (l : List (α × Value)) : Prop := ∃ es clock, o = .map es clock ∧ Ents E es clock l
/-- Block b is a map that has l. -/
def MapIs (E : KeyEnc P k α) (w : World) (b : Nat) (l : List (α × Value)) : Prop := ∃ o, w.heap[b]? = some o ∧ IsObj E o l

theorem MapIs.lt {w : World} {b : Nat} (h : MapIs E w b l) : b < w.heap.size := by
  obtain ⟨o, ho, _⟩ := h; exact (Array.getElem?_eq_some_iff.1 ho).1
theorem MapIs.of_block {w w' : World} {b : Nat} (h : MapIs E w b l) (hb : w'.heap[b]? = w.heap[b]?) : MapIs E w' b l := by
  obtain ⟨o, ho, hi⟩ := h; exact ⟨o, hb.trans ho, hi⟩
theorem MapIs.of_perm {w : World} {b : Nat} (h : MapIs E w b l) (hp : l.Perm l') : MapIs E w b l' := by
  obtain ⟨o, ho, es, clock, rfl, he⟩ := h; exact ⟨_, ho, es, clock, rfl, he.of_perm hp⟩
theorem MapIs.nodup {w : World} {b : Nat} (h : MapIs E w b l) : (l.map (·.1)).Nodup := by
  obtain ⟨o, ho, es, clock, rfl, he⟩ := h; exact he.nodup
theorem MapIs.ok {w : World} {b : Nat} (h : MapIs E w b l) : ∀ p ∈ l, E.Ok p.1 := by
  obtain ⟨o, ho, es, clock, rfl, he⟩ := h; exact he.ok

/-- An empty map. -/
theorem isObj_empty (E : KeyEnc P k α) : IsObj E (.map #[] 0) [] := ⟨_, _, rfl, stamped_empty 0, fun p hp => by simp at hp, by simp⟩
theorem made (E : KeyEnc P k α) (w : World) : MapIs E (w.alloc (.map #[] 0)) w.heap.size [] := ⟨_, (MapKept.heap_alloc w _).1, isObj_empty E⟩

/-- 'len(m)'. -/
theorem MapIs.len {b : Nat} {t e : TypeId} {w : World} (h : MapIs E w b l) (ht : P.underlying t = some (.map k e)) (ty : TypeId) : ∀ W : World, W.heap[b]? = w.heap[b]? →
    (Builtin.len_ #[t] ty #[.map (some b)]).run P W = .ok (.int .i64 (l.length : Nat)) W := by
  intro W hW
  obtain ⟨o, ho, es, clock, rfl, he⟩ := h
  rw [← he.size]
  simp [Builtin.len_, run_underlying ht, MapKept.run_getObj_map (hW.trans ho), goInt, Result.andThen]

variable [DecidableEq α]
/-- What stands at a. -/
def getA (l : List (α × Value)) (a : α) : Option Value := (l.find? (fun p => decide (p.1 = a))).map (·.2)
/-- All but a. -/
def delA (l : List (α × Value)) (a : α) : List (α × Value) := l.filter (fun p => !decide (p.1 = a))

variable {b : Nat} {t e : TypeId} {w : World}

theorem getA_of_mem : ∀ {l : List (α × Value)}, (l.map (·.1)).Nodup → ∀ {a v}, (a, v) ∈ l → getA l a = some v
  | [], _, _, _, h => by simp at h
  | p :: r, hn, a, v, h => by
    simp only [List.map_cons, List.nodup_cons] at hn
    rcases List.mem_cons.1 h with rfl | h
    · simp [getA]
    · have hne : p.1 ≠ a := fun e => hn.1 (by rw [e]; exact List.mem_map.2 ⟨_, h, rfl⟩)
      have ih := getA_of_mem hn.2 h
      unfold getA at ih ⊢
      rw [List.find?_cons, decide_eq_false hne]
      exact ih
theorem getA_none {l : List (α × Value)} {a : α} (h : ∀ p ∈ l, p.1 ≠ a) : getA l a = none := by
  unfold getA
  rw [List.find?_eq_none.2 (fun p hp => by simpa using h p hp)]; rfl
theorem mem_of_getA {l : List (α × Value)} {a : α} {v : Value} (h : getA l a = some v) : (a, v) ∈ l := by
  unfold getA at h
  obtain ⟨p, hp, rfl⟩ := Option.map_eq_some_iff.1 h
  have h1 := List.mem_of_find?_eq_some hp
  have h2 := List.find?_some hp
  simp only [decide_eq_true_eq] at h2
  rw [← h2]; exact h1

/-- Where a key is, in whatever world. -/
theorem Ents.find (h : Ents E es clock l) {a : α} (ha : E.Ok a) :
    (getA l a = none ∧ (∀ x ∈ es.toList, x.key ≠ E.enc a) ∧ ∀ W : World, (Instr.findKey k (E.enc a) es.toList).run P W = .ok none W) ∨
    ∃ j e0, es.toList[j]? = some e0 ∧ e0.key = E.enc a ∧ getA l a = some e0.val ∧ ∀ W : World, (Instr.findKey k (E.enc a) es.toList).run P W = .ok (some (j, e0.val)) W := by
  obtain ⟨lit, hlit⟩ := E.has a ha
  by_cases hex : ∃ x ∈ es.toList, x.key = E.enc a
  · right
    obtain ⟨x, hx, hxk⟩ := hex
    obtain ⟨j, hj⟩ := List.getElem?_of_mem hx
    refine ⟨j, x, hj, hxk, ?_, fun W => ?_⟩
    · obtain ⟨p, hp, e1, e2⟩ := h.mem hx
      have : p.1 = a := E.inj _ _ (e1.symm.trans hxk)
      rw [e2]; exact getA_of_mem h.nodup (by rw [← this]; exact hp)
    · rcases E.law.find W hlit es.toList h.keyed with ⟨_, h2⟩ | ⟨j', e', h1, h2, h3⟩
      · exact absurd hxk (h2 x hx)
      · have hn : (es.toList.map (·.key)).Nodup := h.stamped.2.2
        have h4 : (es.toList.map (·.key))[j]? = some (E.enc a) := by rw [List.getElem?_map, hj]; simp [hxk]
        have h5 : (es.toList.map (·.key))[j']? = some (E.enc a) := by rw [List.getElem?_map, h2]; simp [h3]
        have hjl := (List.getElem?_eq_some_iff.1 h4).1
        have : j = j' := (List.getElem?_inj hjl hn).1 (h4.trans h5.symm)
        subst this
        rw [hj] at h2; cases h2
        exact h1
  · left
    have hno : ∀ x ∈ es.toList, x.key ≠ E.enc a := fun x hx e => hex ⟨x, hx, e⟩
    refine ⟨getA_none fun p hp e => ?_, hno, fun W => ?_⟩
    · obtain ⟨x, hx, e1, _⟩ := h.mem' hp
      exact hno x hx (by rw [e1, e])
    · rcases E.law.find W hlit es.toList h.keyed with ⟨h1, _⟩ | ⟨j', e', _, h2, h3⟩
      · exact h1
      · exact absurd h3 (hno e' (List.mem_of_getElem? h2))


/-- 'm[a]', 'v, ok := m[a]'. -/
theorem MapIs.look (h : MapIs E w b l) (ht : P.underlying t = some (.map k e)) {a : α} (ha : E.Ok a) {z : Value} (hz : ∀ W : World, (zeroValue e).run P W = .ok z W) (c : Bool) :
    ∀ W : World, W.heap[b]? = w.heap[b]? → (Instr.lookup t (.map (some b)) (E.enc a) c).run P W = .ok (if c then .tuple #[(getA l a).getD z, .bool (getA l a).isSome] else (getA l a).getD z) W := by
  intro W hW
  obtain ⟨o, ho, es, clock, rfl, he⟩ := h
  have hb := hW.trans ho
  obtain ⟨lit, hlit⟩ := E.has a ha
  rcases he.find ha with ⟨h1, h2, h3⟩ | ⟨j, e0, h1, h2, h3, h4⟩
  · simp [Instr.lookup, run_underlying ht, MapKept.run_getObj_map hb, E.law.check W _ hlit, h3, hz, h1, Result.andThen]
  · simp [Instr.lookup, run_underlying ht, MapKept.run_getObj_map hb, E.law.check W _ hlit, h4, h3, Result.andThen]

theorem Ents.push (he : Ents E es clock l) {a : α} (ha : E.Ok a) (v : Value) (h2 : ∀ x ∈ es.toList, x.key ≠ E.enc a) : Ents E (es.push ⟨E.enc a, v, clock⟩) (clock + 1) ((a, v) :: delA l a) := by
  refine ⟨stamped_push he.stamped h2, ?_, ?_⟩
  · intro p hp
    rcases List.mem_cons.1 hp with rfl | hp
    · exact ha
    · exact he.ok p (List.mem_filter.1 hp).1
  · have hd : delA l a = l := List.filter_eq_self.2 fun p hp => by
      have : p.1 ≠ a := fun e1 => by
        obtain ⟨x, hx, e2, _⟩ := he.mem' hp
        exact h2 x hx (by rw [e2, e1])
      simpa using this
    rw [hd]
    simp only [Array.toList_push, List.map_append, List.map_cons, List.map_nil]
    exact (List.perm_append_singleton _ _).trans (he.perm.cons _)

theorem Ents.mod (he : Ents E es clock l) {a : α} (ha : E.Ok a) (v : Value) {j : Nat} {e0 : MapEntry} (h1 : es.toList[j]? = some e0) (h2 : e0.key = E.enc a) :
    Ents E (es.modify j (fun e' => { e' with key := E.enc a, val := v })) clock ((a, v) :: delA l a) := by
  have hj : es[j]? = some e0 := by simpa using h1
  have hmod : (es.modify j (fun e' => { e' with key := E.enc a, val := v })).toList = es.toList.set j { e0 with key := E.enc a, val := v } := by
    rw [Array.toList_modify, modify_eq_set _ _ _ _ h1]
  refine ⟨?_, ?_, ?_⟩
  · exact stamped_modify he.stamped j _ (fun _ _ => rfl) (fun e' he' hj' => by rw [hj] at hj'; cases hj'; exact h2.symm)
  · intro p hp
    rcases List.mem_cons.1 hp with rfl | hp
    · exact ha
    · exact he.ok p (List.mem_filter.1 hp).1
  · rw [hmod]
    have hjl : j < es.toList.length := (List.getElem?_eq_some_iff.1 h1).1
    have p1 : (es.toList.set j { e0 with key := E.enc a, val := v }).Perm ({ e0 with key := E.enc a, val := v } :: es.toList.eraseIdx j) := set_perm _ _ hjl _
    have p2 : (es.toList).Perm (e0 :: es.toList.eraseIdx j) := by
      have hs : es.toList.set j e0 = es.toList := WideElems.set_self _ _ _ h1
      have := set_perm es.toList j hjl e0
      rwa [hs] at this
    have p3 := (p2.map fun e => (e.key, e.val)).symm.trans he.perm
    refine (p1.map fun e => (e.key, e.val)).trans ?_
    simp only [List.map_cons]
    refine List.Perm.cons _ ?_
    -- the others
    have hn : (es.toList.map (·.key)).Nodup := he.stamped.2.2
    have hout : ∀ x ∈ es.toList.eraseIdx j, x.key ≠ E.enc a := by
      have := (p2.map (·.key)).nodup_iff.1 hn
      simp only [List.map_cons, List.nodup_cons] at this
      intro x hx e1
      exact this.1 (List.mem_map.2 ⟨x, hx, by rw [e1, h2]⟩)
    have q1 : ((es.toList.eraseIdx j).map fun e => (e.key, e.val)) = ((e0 :: es.toList.eraseIdx j).filter (fun e => !(Classical.propDecidable (e.key = E.enc a)).decide)).map fun e => (e.key, e.val) := by
      rw [List.filter_cons]
      have : (!(Classical.propDecidable (e0.key = E.enc a)).decide) = false := by simp [h2]
      rw [this]
      simp only [Bool.false_eq_true, if_false]
      rw [List.filter_eq_self.2 (fun x hx => by simpa using hout x hx)]
    rw [q1]
    have q2 : ∀ L : List MapEntry, ((L.filter (fun e => !(Classical.propDecidable (e.key = E.enc a)).decide)).map fun e => (e.key, e.val)) = (L.map fun e => (e.key, e.val)).filter (fun p : Value × Value => !(Classical.propDecidable (p.1 = E.enc a)).decide) := fun L => by
      rw [List.filter_map]; rfl
    rw [q2]
    have q3 : (l.map fun p => (E.enc p.1, p.2)).filter (fun p : Value × Value => !(Classical.propDecidable (p.1 = E.enc a)).decide) = (delA l a).map fun p => (E.enc p.1, p.2) := by
      rw [List.filter_map]
      unfold delA
      congr 1
      refine List.filter_congr fun p hp => ?_
      simp only [Function.comp_apply]
      by_cases e1 : p.1 = a
      · simp [e1]
      · have : E.enc p.1 ≠ E.enc a := fun h => e1 (E.inj _ _ h)
        simp [e1, this]
    rw [← q3]
    exact p3.filter _

/-- What stands in the block behind 'm[a] = v'. -/
theorem MapIs.put (h : MapIs E w b l) (ht : P.underlying t = some (.map k e)) {a : α} (ha : E.Ok a) (v : Value) :
    ∃ o', IsObj E o' ((a, v) :: delA l a) ∧ ∀ W : World, W.heap[b]? = w.heap[b]? → (Instr.mapUpdate t (.map (some b)) (E.enc a) v).run P W = .ok () (setBlock W b o') := by
  obtain ⟨o, ho, es, clock, rfl, he⟩ := h
  obtain ⟨lit, hlit⟩ := E.has a ha
  rcases he.find ha with ⟨h1, h2, h3⟩ | ⟨j, e0, h1, h2, h3, h4⟩
  · refine ⟨_, ⟨_, _, rfl, he.push ha v h2⟩, fun W hW => ?_⟩
    have hb := hW.trans ho
    simp [Instr.mapUpdate, run_underlying ht, MapKept.run_getObj_map hb, E.law.check W false hlit, h3, MapKept.run_setObj_map _ hb, Result.andThen, setBlock]
  · have hj : es[j]? = some e0 := by simpa using h1
    refine ⟨_, ⟨_, _, rfl, he.mod ha v h1 h2⟩, fun W hW => ?_⟩
    have hb := hW.trans ho
    simp [Instr.mapUpdate, run_underlying ht, MapKept.run_getObj_map hb, E.law.check W false hlit, h4, hj, h2, E.law.stays W hlit, MapKept.run_setObj_map _ hb, Result.andThen, setBlock]

/-- 'm[a] = f(m[a])': the entry is laid hold of, its value worked out, then stored. -/
theorem MapIs.entry (h : MapIs E w b l) (ht : P.underlying t = some (.map k e)) {a : α} (ha : E.Ok a) {z : Value} (hz : ∀ W : World, (zeroValue e).run P W = .ok z W) :
    ∃ (st : Nat) (o1 : Obj), (∀ W : World, W.heap[b]? = w.heap[b]? → (Instr.mapEntry t (.map (some b)) (E.enc a)).run P W = .ok (.tuple #[(getA l a).getD z, .int .i64 st]) (setBlock W b o1)) ∧
      ∀ v : Value, ∃ o2, IsObj E o2 ((a, v) :: delA l a) ∧ ∀ W : World, W.heap[b]? = some o1 → (Instr.entryStore t (.map (some b)) (.int .i64 st) v).run P W = .ok () (setBlock W b o2) := by
  obtain ⟨o, ho, es, clock, rfl, he⟩ := h
  obtain ⟨lit, hlit⟩ := E.has a ha
  obtain ⟨s1, s2, _⟩ := he.stamped
  rcases he.find ha with ⟨h1, h2, h3⟩ | ⟨j, e0, h1, h2, h3, h4⟩
  · refine ⟨clock, .map (es.push ⟨E.enc a, z, clock⟩) (clock + 1), fun W hW => ?_, fun v => ⟨.map (es.push ⟨E.enc a, v, clock⟩) (clock + 1), ⟨_, _, rfl, he.push ha v h2⟩, fun W hW => ?_⟩⟩
    · have hb := hW.trans ho
      simp [Instr.mapEntry, run_underlying ht, MapKept.run_getObj_map hb, E.law.check W false hlit, h3, hz, h1, MapKept.run_setObj_map _ hb, Result.andThen, setBlock, goInt]
    · have hidx : (es.push ⟨E.enc a, z, clock⟩).findIdx? (fun e => ((e.born : Nat) : Int) == ((clock : Nat) : Int)) = some es.size := by
        rw [WideElems.findIdx_arr]
        exact WideElems.findIdx_born (l := (es.push ⟨E.enc a, z, clock⟩).toList) (j := es.size) (e0 := ⟨E.enc a, z, clock⟩) (by
          simp only [Array.toList_push, List.map_append, List.map_cons, List.map_nil]
          refine List.nodup_append.2 ⟨s2, by simp, fun a ha c hc e1 => ?_⟩
          simp only [List.mem_singleton] at hc
          obtain ⟨x, hx, rfl⟩ := List.mem_map.1 ha
          have := s1 x hx
          omega) (by simp)
      have hmod : (es.push ⟨E.enc a, z, clock⟩).modify es.size (fun e => { e with val := v }) = es.push ⟨E.enc a, v, clock⟩ := by
        apply Array.ext'
        rw [Array.toList_modify, Array.toList_push, Array.toList_push, ← Array.length_toList, WideElems.modify_last]
      simp [Instr.entryStore, MapKept.run_getObj_map hW, asInt, asIntOf, hidx, hmod, MapKept.run_setObj_map _ hW, Result.andThen, setBlock]
  · have hj : es[j]? = some e0 := by simpa using h1
    have hsame : es.modify j (fun e => { e with key := E.enc a }) = es := by
      apply Array.ext'
      rw [Array.toList_modify, modify_eq_set _ _ _ _ h1]
      have : ({ e0 with key := E.enc a } : MapEntry) = e0 := by rw [← h2]
      rw [this]
      exact WideElems.set_self _ _ _ h1
    refine ⟨e0.born, .map es clock, fun W hW => ?_, fun v => ⟨.map (es.modify j (fun e' => { e' with key := E.enc a, val := v })) clock, ⟨_, _, rfl, he.mod ha v h1 h2⟩, fun W hW => ?_⟩⟩
    · have hb := hW.trans ho
      simp [Instr.mapEntry, run_underlying ht, MapKept.run_getObj_map hb, E.law.check W false hlit, h4, hj, h2, h3, E.law.stays W hlit, hsame, MapKept.run_setObj_map _ hb, Result.andThen, setBlock, goInt]
    · have hidx : es.findIdx? (fun e => ((e.born : Nat) : Int) == ((e0.born : Nat) : Int)) = some j := by
        rw [WideElems.findIdx_arr]
        exact WideElems.findIdx_born s2 h1
      have hmod : es.modify j (fun e => { e with val := v }) = es.modify j (fun e' => { e' with key := E.enc a, val := v }) := by
        apply Array.ext'
        rw [Array.toList_modify, Array.toList_modify, modify_eq_set _ _ _ _ h1, modify_eq_set _ _ _ _ h1, ← h2]
      simp [Instr.entryStore, MapKept.run_getObj_map hW, asInt, asIntOf, hidx, hmod, MapKept.run_setObj_map _ hW, Result.andThen, setBlock]

/-- What stands in the block behind 'delete(m, a)'. -/
theorem MapIs.del (h : MapIs E w b l) (ht : P.underlying t = some (.map k e)) {a : α} (ha : E.Ok a) (ty : TypeId) :
    ∃ o', IsObj E o' (delA l a) ∧ ∀ W : World, W.heap[b]? = w.heap[b]? → (Builtin.delete_ #[t, k] ty #[.map (some b), E.enc a]).run P W = .ok (.tuple #[]) (setBlock W b o') := by
  obtain ⟨o, ho, es, clock, rfl, he⟩ := h
  obtain ⟨lit, hlit⟩ := E.has a ha
  have q3 : (l.map fun p => (E.enc p.1, p.2)).filter (fun p : Value × Value => !(Classical.propDecidable (p.1 = E.enc a)).decide) = (delA l a).map fun p => (E.enc p.1, p.2) := by
    rw [List.filter_map]
    unfold delA
    congr 1
    refine List.filter_congr fun p hp => ?_
    simp only [Function.comp_apply]
    by_cases e1 : p.1 = a
    · simp [e1]
    · have : E.enc p.1 ≠ E.enc a := fun h => e1 (E.inj _ _ h)
      simp [e1, this]
  have hok : ∀ p ∈ delA l a, E.Ok p.1 := fun p hp => he.ok p (List.mem_filter.1 hp).1
  rcases he.find ha with ⟨h1, h2, h3⟩ | ⟨j, e0, h1, h2, h3, h4⟩
  · refine ⟨.map es clock, ⟨_, _, rfl, he.stamped, hok, ?_⟩, fun W hW => ?_⟩
    · rw [← q3, List.filter_eq_self.2 (fun x hx => ?_)]
      · exact he.perm
      · obtain ⟨p, hp, rfl⟩ := List.mem_map.1 hx
        obtain ⟨y, hy, e2, _⟩ := he.mem' hp
        have := h2 y hy
        rw [e2] at this
        simpa using this
    · have hb := hW.trans ho
      simp [Builtin.delete_, run_underlying ht, MapKept.run_getObj_map hb, E.law.check W _ hlit, h3, MapKept.run_setObj_map _ hb, Result.andThen, setBlock]
  · have hjl : j < es.toList.length := (List.getElem?_eq_some_iff.1 h1).1
    have hjs : j < es.size := by simpa using hjl
    have hsub : (es.eraseIdxIfInBounds j).toList = es.toList.eraseIdx j := by
      unfold Array.eraseIdxIfInBounds
      rw [dif_pos hjs]
      simp
    have p2 : (es.toList).Perm (e0 :: es.toList.eraseIdx j) := by
      have hs : es.toList.set j e0 = es.toList := WideElems.set_self _ _ _ h1
      have := set_perm es.toList j hjl e0
      rwa [hs] at this
    have p3 := (p2.map fun e => (e.key, e.val)).symm.trans he.perm
    have hn : (es.toList.map (·.key)).Nodup := he.stamped.2.2
    have hout : ∀ x ∈ es.toList.eraseIdx j, x.key ≠ E.enc a := by
      have := (p2.map (·.key)).nodup_iff.1 hn
      simp only [List.map_cons, List.nodup_cons] at this
      intro x hx e1
      exact this.1 (List.mem_map.2 ⟨x, hx, by rw [e1, h2]⟩)
    refine ⟨.map (es.eraseIdxIfInBounds j) clock, ⟨_, _, rfl, stamped_erase he.stamped j, hok, ?_⟩, fun W hW => ?_⟩
    · rw [hsub, ← q3]
      have h5 := p3.filter (fun p : Value × Value => !(Classical.propDecidable (p.1 = E.enc a)).decide)
      rw [List.map_cons, List.filter_cons] at h5
      have : (!(Classical.propDecidable (e0.key = E.enc a)).decide) = false := by simp [h2]
      simp only [this, Bool.false_eq_true, if_false] at h5
      rwa [List.filter_eq_self.2 (fun x hx => by
        obtain ⟨y, hy, rfl⟩ := List.mem_map.1 hx
        simpa using hout y hy)] at h5
    · have hb := hW.trans ho
      simp [Builtin.delete_, run_underlying ht, MapKept.run_getObj_map hb, E.law.check W _ hlit, h4, MapKept.run_setObj_map _ hb, Result.andThen, setBlock]

end
end Go.Proofs.Ytobkbbbdddllmaa.Mp
