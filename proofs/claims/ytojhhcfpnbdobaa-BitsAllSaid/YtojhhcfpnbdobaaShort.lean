/- The laws' Short: bytes, cut and copied. -/
import Derived.Test.YtojhhcfpnbdobaaCame
import Derived.Test.YtojhhcfpnbdobaaRefM
namespace Go.Proofs.Ytojhhcfpnbdobaa
open Go.RowKit

set_option maxRecDepth 100000 in
set_option maxHeartbeats 400000 in
theorem short_any (bs : List Nat) (len cap m : Nat) (a : Option Addr) (w : World) (h : IsBytes w a len cap bs) (hm : m ≤ 1000000) :
    Calls Try.prog 43 #[.slice a len cap, .int .i64 m] w fun e w' => ∃ v, e = .returned v ∧ w'.ownsRow w.heap.size 5 1 v (min len m) (u8s (bs.take m)) ∧ Below w.heap.size w w' := by
  obtain ⟨i0, hi, hz0, hz1, hz2⟩ := info_parts Try.infoByte
  have hnil := World.ownsRow_nil w w.heap.size 5 1
  have HNIL := Lib.hid hnil
  have hf := h.fits
  have hsm := h.small
  obtain ⟨c, hc⟩ : ∃ c, min len m = c := ⟨_, rfl⟩
  have hcl : c ≤ len := by omega
  have hcm : c ≤ m := by omega
  have htk : (u8s (bs.take m)) = u8s (bs.take c) := by
    rw [← hc, ← h.size, Nat.min_comm, ← List.take_eq_take_min]
  have hlen : (u8s (bs.take c)).length = c := by unfold u8s; rw [List.length_map, List.length_take, h.size]; omega
  have HLEN := Lib.hid hlen
  rw [hc, htk]
  clear hnil htk hlen
  by_cases hc0 : c = 0
  · have hnl : u8s (bs.take c) = [] := List.length_eq_zero_iff.1 (by rw [HLEN.out]; exact hc0)
    rw [hnl, hc0]
    cases a with
    | none =>
      obtain ⟨rfl, rfl⟩ := h.none rfl
      clear h HLEN hnl
      go_enter Try.func43, Try.ntmps43
      go_wp2
      go_ret
      exact ⟨_, rfl, HNIL.out, Below.refl _ _⟩
    | some x =>
      clear h HLEN hnl
      rcases Nat.lt_or_ge m len with hml | hml
      · obtain rfl : m = 0 := by omega
        clear hc
        go_enter Try.func43, Try.ntmps43
        go_wp2
        go_ret
        exact ⟨_, rfl, HNIL.out, Below.refl _ _⟩
      · obtain rfl : len = 0 := by omega
        clear hc
        go_enter Try.func43, Try.ntmps43
        go_wp2
        go_ret
        exact ⟨_, rfl, HNIL.out, Below.refl _ _⟩
  · have h0 : 0 < (u8s bs).length := by unfold u8s; rw [List.length_map, h.size]; omega
    obtain ⟨b, off, rfl, hc1⟩ := h.row 0 _ (List.getElem?_eq_getElem h0)
    have hnews : ∀ j u, (u8s (bs.take c))[j]? = some u → w.cell? ((⟨b, off, none⟩ : Addr).add j) = some u := by
      intro j u hj
      refine add_cell ?_
      have hjc : j < c := by
        have := (List.getElem?_eq_some_iff.1 hj).1
        rw [HLEN.out] at this; exact this
      have hj2 : (u8s bs)[j]? = some u := by
        rw [← hj]; unfold u8s
        rw [List.getElem?_map, List.getElem?_map, List.getElem?_take, if_pos hjc]
      obtain ⟨b', off', he, hcell⟩ := h.row j u hj2
      injection he with he; injection he with he1 he2; subst he1; subst he2
      exact hcell
    have HN := Lib.hid hnews
    have HL : Hid ((u8s (bs.take c)).length = c * 1) := by show _ = _; rw [HLEN.out, Nat.mul_one]
    have hone : ∀ u ∈ u8s (bs.take c), Value.oneCell' u = true := by
      intro u hu
      obtain ⟨y, _, rfl⟩ := List.mem_map.1 hu
      rfl
    have HO := Lib.hid hone
    have HC3 : Hid (0 + c ≤ maxLen) := by unfold maxLen; show _ ≤ _; omega
    have HLE := Lib.hid (Nat.le_refl w.heap.size)
    have hbl := Below.refl w.heap.size w
    have HB := Lib.hid hbl
    clear hnews hone h hc1 h0 hbl HLEN
    rcases Nat.lt_or_ge m len with hml | hml
    · obtain rfl : m = c := by omega
      clear hc
      go_enter Try.func43, Try.ntmps43
      go_wp2_with (at_builtin; refine wpList_append_own _ rfl _ _ 34 rfl w.heap.size 5 i0 (.int .u8 0) 1 1 Try.underlying34 hi hz0 hz1 hz2 rfl (by decide) (.slice none 0 0) 0 [] rfl HNIL.out ⟨b, off, none⟩ m cap (u8s (bs.take m)) rfl HL.out HN.out HO.out HC3.out (by omega) HLE.out ?_)
      intro v' w' hown' hgrow _
      have hown2 : w'.ownsRow w.heap.size 5 1 v' m (u8s (bs.take m)) := by simpa using hown'
      have hbl2 := below_grown HB.out (Nat.le_refl _) HNIL.out hgrow
      clear hown' hgrow
      go_wp2
      go_ret
      exact ⟨_, rfl, hown2, hbl2⟩
    · obtain rfl : len = c := by omega
      clear hc
      go_enter Try.func43, Try.ntmps43
      go_wp2_with (at_builtin; refine wpList_append_own _ rfl _ _ 34 rfl w.heap.size 5 i0 (.int .u8 0) 1 1 Try.underlying34 hi hz0 hz1 hz2 rfl (by decide) (.slice none 0 0) 0 [] rfl HNIL.out ⟨b, off, none⟩ len cap (u8s (bs.take len)) rfl HL.out HN.out HO.out HC3.out (by omega) HLE.out ?_)
      intro v' w' hown' hgrow _
      have hown2 : w'.ownsRow w.heap.size 5 1 v' len (u8s (bs.take len)) := by simpa using hown'
      have hbl2 := below_grown HB.out (Nat.le_refl _) HNIL.out hgrow
      clear hown' hgrow
      go_wp2
      go_ret
      exact ⟨_, rfl, hown2, hbl2⟩

/-- Short's answer, as it is read. -/
theorem short_reads (bs : List Nat) (len cap m : Nat) (a : Option Addr) (w : World) (h : IsBytes w a len cap bs) (hm : m ≤ 1000000) :
    Calls Try.prog 43 #[.slice a len cap, .int .i64 m] w fun e w' => ∃ a' cap', e = .returned (.slice a' (min len m) cap') ∧ IsBytes w' a' (min len m) cap' (bs.take m) ∧ Below w.heap.size w w' := by
  refine (short_any bs len cap m a w h hm).mono ?_
  rintro e w' ⟨v, rfl, hown, hb⟩
  have hl : (bs.take m).length = min len m := by rw [List.length_take, h.size]; omega
  have h8 : ∀ x ∈ bs.take m, x < 256 := fun x hx => h.byte x (List.mem_of_mem_take hx)
  obtain ⟨a', cap', rfl, hf, hh⟩ := reads_of_own hown
  have hlu : (u8s (bs.take m)).length = min len m := by unfold u8s; rw [List.length_map, hl]
  rw [hlu] at hown hf ⊢
  refine ⟨a', cap', rfl, ⟨hl, hf, ?_, h8, ?_, hh⟩, hb⟩
  · rcases hown.2 with ⟨h1, h2⟩ | ⟨g, cap2, cur, h1, _, _, _, h5, _⟩
    · injection h1 with _ _ h3; omega
    · injection h1 with _ _ h3; subst h3; unfold maxLen at h5; omega
  · intro ha; subst ha
    rcases hown.2 with ⟨h1, h2⟩ | ⟨g, cap2, cur, h1, _⟩
    · injection h1 with _ h4 h3; exact ⟨h2, h3⟩
    · cases h1


namespace M
theorem getD_lt (l : List Nat) (h : ∀ x ∈ l, x < 256) (i : Nat) : l.getD i 0 < 256 := by
  by_cases hi : i < l.length
  · simp only [List.getD, List.getElem?_eq_getElem hi, Option.getD_some]; exact h _ (List.getElem_mem hi)
  · simp only [List.getD, List.getElem?_eq_none (Nat.le_of_not_lt hi)]; decide
end M
theorem own_free8 {w : World} {B n g cap i : Nat} {l : List Value} (h : w.ownsRow B 5 1 (.slice (some ⟨g, 0, none⟩) n cap) n l) :
    w.frozen? ⟨g, i, none⟩ = false := by
  rcases h.2 with ⟨h', _⟩ | ⟨g', cap', cur, h', _, hh, r⟩
  · cases h'
  · injection h' with h1; injection h1 with h1; injection h1 with h1 h2; subst h1
    simp [World.frozen?, hh]
theorem own_cell8 {w : World} {B n g cap i : Nat} {l : List Nat} (h : w.ownsRow B 5 1 (.slice (some ⟨g, 0, none⟩) n cap) n (u8s l)) (hi : i < l.length) :
    w.cell? ⟨g, i, none⟩ = some (.int .u8 (l[i] : Nat)) := by
  have := h.cells rfl i (.int .u8 (l[i] : Nat)) (by unfold u8s; rw [List.getElem?_map, List.getElem?_eq_getElem hi]; rfl)
  by_cases h0 : i = 0
  · subst h0; simpa [Addr.add] using this
  · simpa [Addr.add, h0] using this
theorem u8s_set (l : List Nat) (i : Nat) (v : Nat) : (u8s l).set i (.int .u8 (v : Int)) = u8s (l.set i v) := by
  unfold u8s; rw [List.map_set]
theorem IsBytes.at {w : World} {a : Option Addr} {len cap : Nat} {bs : List Nat} (h : IsBytes w a len cap bs) (i : Nat) (hi : i < len) :
    ∃ b off, a = some ⟨b, off, Option.none⟩ ∧ w.cell? ⟨b, off + i, Option.none⟩ = some (.int .u8 (bs.getD i 0 : Nat)) ∧ bs.getD i 0 < 256 := by
  have hb : i < bs.length := by rw [h.size]; exact hi
  obtain ⟨b, off, e, hc⟩ := h.row i (.int .u8 (bs[i] : Nat)) (by unfold u8s; rw [List.getElem?_map, List.getElem?_eq_getElem hb]; rfl)
  refine ⟨b, off, e, ?_, ?_⟩
  · rw [hc]; simp [List.getD, List.getElem?_eq_getElem hb]
  · simp only [List.getD, List.getElem?_eq_getElem hb, Option.getD_some]; exact h.byte _ (List.getElem_mem hb)
theorem IsBytes.cut {w : World} {a : Option Addr} {len cap : Nat} {bs : List Nat} (h : IsBytes w a len cap bs) (n : Nat) : Holds w a (u8s (bs.take n)) := by
  intro i x hx
  have hin : i < n := by
    have := (List.getElem?_eq_some_iff.1 hx).1
    unfold u8s at this
    rw [List.length_map, List.length_take] at this; omega
  refine h.row i x ?_
  rw [← hx]; unfold u8s
  rw [List.getElem?_map, List.getElem?_map, List.getElem?_take, if_pos hin]
end Go.Proofs.Ytojhhcfpnbdobaa
