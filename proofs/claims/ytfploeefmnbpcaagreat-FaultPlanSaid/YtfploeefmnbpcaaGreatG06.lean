import Derived.Test.YtfploeefmnbpcaaGreatG05
import Derived.Test.YtfploeefmnbpcaaGreatG02
import Derived.Deep.SlicePairs
/- The statements' guard. -/
namespace Go.Proofs.YtfploeefmnbpcaaGreat
open Go.RowKit

theorem zeros_out : Tryz.zeroCells142 = ((List.replicate 512 (Value.int .u8 0)) ++ [Value.int .i64 0]).toArray := by kernel_rfl

theorem rep_in (n j : Nat) (a b : Value) (h : j < n) : ((List.replicate n a ++ [b]).toArray)[j]? = some a := by
  rw [List.getElem?_toArray, List.getElem?_append_left (by rw [List.length_replicate]; exact h), List.getElem?_replicate, if_pos h]
theorem rep_end (n : Nat) (a b : Value) : ((List.replicate n a ++ [b]).toArray)[n]? = some b := by
  rw [List.getElem?_toArray, List.getElem?_append_right (by rw [List.length_replicate]; exact Nat.le_refl _), List.length_replicate, Nat.sub_self]; rfl

theorem new_out (w : World) : OutIs (w.alloc (.cells Tryz.zeroCells142 142)) w.heap.size [] := by
  rw [zeros_out]
  refine ⟨Nat.zero_le _, fun j hj => ?_, ?_, fun j _ => World.frozen?_alloc_at _ _ _ _ rfl⟩
  · rw [World.cell?_alloc_at _ _ _ _ rfl, M.byteN_behind [] j (Nat.zero_le _)]
    exact rep_in 512 j _ _ hj
  · rw [World.cell?_alloc_at _ _ _ _ rfl]
    exact rep_end 512 _ _

theorem out_cells {w w' : World} {g : Nat} {l : List Bool} (h : OutIs w g l) (hb : w'.heap[g]? = w.heap[g]?) : OutIs w' g l := by
  have hc : ∀ j, w'.cell? ⟨g, j, none⟩ = w.cell? ⟨g, j, none⟩ := fun j => World.cell?_of_block hb
  have hf : ∀ j, w'.frozen? ⟨g, j, none⟩ = w.frozen? ⟨g, j, none⟩ := fun j => World.frozen?_of_block hb
  exact ⟨h.fits, fun j hj => by rw [hc]; exact h.bytes j hj, by rw [hc]; exact h.count, fun j hj => by rw [hf]; exact h.free j hj⟩
theorem out_lt {w : World} {g : Nat} {l : List Bool} (h : OutIs w g l) : g < w.heap.size := World.block_lt_of_cell? w _ h.count
theorem out_below {w w' : World} {g B : Nat} {l : List Bool} (h : OutIs w g l) (hb : Below B w w') (hB : g < B) : OutIs w' g l := out_cells h (hb.block g hB)
theorem out_only {w w' : World} {g g2 : Nat} {l : List Bool} (h : OutIs w g l) (hb : Only g2 w w') (hB : g ≠ g2) : OutIs w' g l := out_cells h (hb.block g hB)
theorem in_cells {w w' : World} {g : Nat} {bs : List Nat} {pos : Nat} (h : InIs w g bs pos) (hb : ∀ k, k < w.heap.size → w'.heap[k]? = w.heap[k]?) : InIs w' g bs pos := by
  have hg : w'.heap[g]? = w.heap[g]? := hb g (World.block_lt_of_cell? w _ h.place)
  obtain ⟨a, cap, h1, h2, h3⟩ := h.row
  exact ⟨⟨a, cap, (World.cell?_of_block hg).trans h1, h2.mono fun b off x _ i hc => (World.cell?_of_block (hb b (World.block_lt_of_cell? w _ hc))).trans hc, h3⟩, h.small, h.size,
    (World.cell?_of_block hg).trans h.place, (World.frozen?_of_block hg).trans h.free, h.fits⟩

theorem g_zig (w : World) : Calls Tryz.prog 110 #[.int .i64 (-1)] w fun e w' => e = .returned (.int .u64 1) ∧ w = w' := by
  have h := zig_any (-1) w (by omega) (by omega)
  rwa [show M.zigS (-1) = 1 from by decide] at h
theorem g_zag (w : World) : Calls Tryz.prog 111 #[.int .u64 1] w fun e w' => e = .returned (.int .i64 (-1)) ∧ w = w' := by
  have h := zag_any 1 w (by omega) (by omega)
  rwa [show M.zagS 1 = -1 from by decide] at h
theorem g_nar (w : World) : Calls Tryz.prog 112 #[.int .i64 255, .int .i64 8] w fun e w' => e = .returned (.int .i64 (-1)) ∧ w = w' := by
  have h := narrow_any 255 8 w
  rwa [show M.narrowS 255 8 = -1 from by decide] at h
theorem g_nar0 (w : World) : Calls Tryz.prog 112 #[.int .i64 1, .int .i64 0] w fun e w' => e = .returned (.int .i64 0) ∧ w = w' := by
  have h := narrow_any 1 0 w
  rwa [show M.narrowS 1 0 = 0 from by decide] at h
theorem g_turn (w : World) : Calls Tryz.prog 113 #[.int .u32 1, .int .i64 33] w fun e w' => e = .returned (.int .u32 2) ∧ w = w' := by
  have h := turn_any 1 33 w (by omega) (by omega)
  rwa [show M.turnS 1 (33 % 32) = 2 from by decide] at h

set_option maxRecDepth 100000 in
set_option maxHeartbeats 2000000 in
theorem begun_any (w : World) : Calls Tryz.prog 94 #[] w fun e w' => e = .returned (.bool true) ∧ Below w.heap.size w w' := by
  obtain ⟨g, hg⟩ : ∃ g, w.heap.size = g := ⟨_, rfl⟩
  have hnew := new_out w
  rw [hg] at hnew
  have hb0 : Below g w (w.alloc (.cells Tryz.zeroCells142 142)) := (Below.refl g w).alloc (by omega) _
  have HB0 := Lib.hid hb0
  have HNEW := Lib.hid hnew
  rw [hg]
  go_enter Tryz.func94, Tryz.ntmps94
  clear hnew hb0
  go_wp2_with fail
  refine (put_good g 5 3 [] _ (by omega) (by omega) (by decide) HNEW.out (by simp)).mono ?_
  rintro e w1 ⟨rfl, ho1, hon1⟩
  have hb1 : Below g w w1 := HB0.out.trans (hon1.below (Nat.le_refl g))
  have HB1 := Lib.hid hb1
  have HO1 := Lib.hid ho1
  clear ho1 hon1 hb1 HNEW HB0
  go_wp2_with fail
  refine (put_high g 2 1 _ (by omega) (by omega) (by decide)).mono ?_
  rintro e w2 ⟨rfl, rfl⟩
  have hnews : Holds (w1.alloc (.cells #[.int .u8 165] 5)) (some ⟨w1.heap.size, 0, none⟩) (u8s [165]) := by
    intro i x hx
    match i, hx with
    | 0, hx => simp [u8s] at hx; subst hx; exact ⟨_, _, rfl, by rw [World.cell?_alloc_at _ _ _ _ rfl]; rfl⟩
  have HN := Lib.hid hnews
  clear hnews
  go_wp2_with fail
  refine (read_any [165] 1 _ _ _ rfl (by omega) (by decide) (.inr ⟨_, _, rfl, HN.out⟩)).mono ?_
  rintro e w3 ⟨g2, rfl, hg2, hin, hb3⟩
  have hg1 : g < w1.heap.size := out_lt HO1.out
  have hgg : g < g2 := by have : w1.heap.size ≤ (w1.alloc (.cells #[.int .u8 165] 5)).heap.size := by simp
                          omega
  have hb3' : Below w1.heap.size w1 w3 := ((Below.refl _ _).alloc (Nat.le_refl _) _).trans (hb3.mono (by simp))
  have HIN := Lib.hid hin
  have HB3 := Lib.hid (HB1.out.trans (hb3'.mono (by omega)))
  have HO3 := Lib.hid (out_below HO1.out hb3' hg1)
  clear hin hb3 hb3' hg2 HN HO1 HB1
  go_wp2_with fail
  refine (get_good g2 [165] 0 4 _ (by omega) (by omega) HIN.out (by simp)).mono ?_
  rintro e w4 ⟨rfl, hin4, hon4⟩
  have HN4 := Lib.hid (show M.nextN [165] 0 4 = 10 from by decide)
  rw [HN4.out]
  have HIN4 := Lib.hid hin4
  have HB4 := Lib.hid (HB3.out.trans (hon4.below (by omega)))
  have HO4 := Lib.hid (out_only HO3.out hon4 (by omega))
  clear hin4 hon4 HIN HB3 HO3
  go_wp2_with fail
  refine (get_few g2 [165] (0 + 4) 9 _ (by omega) (by omega) HIN4.out (by decide)).mono ?_
  rintro e w5 ⟨rfl, nd, rfl⟩
  have HIN5 := Lib.hid (in_cells (w' := w4.drewN nd) HIN4.out fun _ _ => rfl)
  have hb5 : Below g w (w4.drewN nd) := HB4.out.trans ⟨rfl, rfl, rfl, Nat.le_refl _, fun _ _ => rfl⟩
  have HB5 := Lib.hid hb5
  have HO5 := Lib.hid (out_cells (w' := w4.drewN nd) HO4.out rfl)
  clear HIN4 HB4 HO4 hb5
  generalize w4.drewN nd = w5 at HIN5 HB5 HO5 ⊢
  go_wp2_with fail
  refine (bytes_any g _ 1 _ HO5.out (by simp [M.bitsOf_length])).mono ?_
  rintro e w6 ⟨v, rfl, hown, hb6⟩
  obtain ⟨g3, cap3, rfl, _, _, _, hcells⟩ := own_spot hown (by omega)
  have hc3 : w6.cell? ⟨g3, 0, none⟩ = some (.int .u8 160) := hcells 0 _ (by
    rw [show M.bytesN ([] ++ M.bitsOf 5 3) 1 = [160] from by decide]; rfl)
  have HO6 := Lib.hid (out_below HO5.out hb6 (out_lt HO5.out))
  have HIN6 := Lib.hid (in_cells HIN5.out fun k hk => hb6.block k hk)
  have hsz5 : g ≤ w5.heap.size := Nat.le_of_lt (out_lt HO5.out)
  have HB6 := Lib.hid (HB5.out.trans (hb6.mono hsz5))
  clear hown hb6 HO5 HIN5 HB5 hcells hsz5
  go_wp2_with (first
    | (go_at_call 110; (with_reducible refine (g_zig _).mono ?_); rintro e w' ⟨rfl, rfl⟩)
    | (go_at_call 111; (with_reducible refine (g_zag _).mono ?_); rintro e w' ⟨rfl, rfl⟩)
    | (go_at_call 112; (with_reducible refine (g_nar _).mono ?_); rintro e w' ⟨rfl, rfl⟩)
    | (go_at_call 112; (with_reducible refine (g_nar0 _).mono ?_); rintro e w' ⟨rfl, rfl⟩)
    | (go_at_call 113; (with_reducible refine (g_turn _).mono ?_); rintro e w' ⟨rfl, rfl⟩)
    | (go_at_call 114; refine (len_any g _ _ HO6.out).mono ?_; rintro e w' ⟨rfl, rfl⟩)
    | (go_at_call 115; refine (left_any g2 _ _ _ HIN6.out).mono ?_; rintro e w' ⟨rfl, nd, rfl⟩)
    | (go_at_call 116; (with_reducible refine (g_kof _).mono ?_); rintro e w' ⟨rfl, rfl⟩)
    | (go_at_call 117; (with_reducible refine (g_kstep _).mono ?_); rintro e w' ⟨rfl, rfl⟩)
    | (go_at_call 118; (with_reducible refine (g_all _).mono ?_); rintro e w' ⟨rfl, rfl⟩)
    | (go_at_call 97; (with_reducible refine (g_at _).mono ?_); rintro e w' ⟨rfl, rfl⟩)
    | (go_at_call 99; (with_reducible refine (g_spot _).mono ?_); rintro e w' ⟨rfl, rfl⟩)
    | (go_at_call 96; (with_reducible refine (g_count _).mono ?_); rintro e w' ⟨rfl, rfl⟩))
  go_ret
  exact ⟨rfl, HB6.out.trans ⟨rfl, rfl, rfl, Nat.le_refl _, fun _ _ => rfl⟩⟩
end Go.Proofs.YtfploeefmnbpcaaGreat

/- The laws' Short: bytes, cut and copied. -/
namespace Go.Proofs.YtfploeefmnbpcaaGreat
open Go.RowKit

namespace M
theorem getD_lt (l : List Nat) (h : ∀ x ∈ l, x < 256) (i : Nat) : l.getD i 0 < 256 := by
  by_cases hi : i < l.length
  · simp only [List.getD, List.getElem?_eq_getElem hi, Option.getD_some]; exact h _ (List.getElem_mem hi)
  · simp only [List.getD, List.getElem?_eq_none (Nat.le_of_not_lt hi)]; decide
end M
theorem own_free8 {w : World} {B n g cap i : Nat} {l : List Value} (h : w.ownsRow B 5 1 (.slice (some ⟨g, 0, none⟩) n cap) n l) :
    w.frozen? ⟨g, i, none⟩ = false := by
  rcases h.2 with ⟨h', _⟩ | ⟨g', cap', cur, h', _, hh, r⟩
  · cases h'
  · injection h' with h1; injection h1 with h1; injection h1 with h1 h2; subst h1
    simp [World.frozen?, hh]
theorem own_cell8 {w : World} {B n g cap i : Nat} {l : List Nat} (h : w.ownsRow B 5 1 (.slice (some ⟨g, 0, none⟩) n cap) n (u8s l)) (hi : i < l.length) :
    w.cell? ⟨g, i, none⟩ = some (.int .u8 (l[i] : Nat)) := by
  have := h.cells rfl i (.int .u8 (l[i] : Nat)) (by unfold u8s; rw [List.getElem?_map, List.getElem?_eq_getElem hi]; rfl)
  by_cases h0 : i = 0
  · subst h0; simpa [Addr.add] using this
  · simpa [Addr.add, h0] using this
theorem u8s_set (l : List Nat) (i : Nat) (v : Nat) : (u8s l).set i (.int .u8 (v : Int)) = u8s (l.set i v) := by
  unfold u8s; rw [List.map_set]
theorem IsBytes.at {w : World} {a : Option Addr} {len cap : Nat} {bs : List Nat} (h : IsBytes w a len cap bs) (i : Nat) (hi : i < len) :
    ∃ b off, a = some ⟨b, off, Option.none⟩ ∧ w.cell? ⟨b, off + i, Option.none⟩ = some (.int .u8 (bs.getD i 0 : Nat)) ∧ bs.getD i 0 < 256 := by
  have hb : i < bs.length := by rw [h.size]; exact hi
  obtain ⟨b, off, e, hc⟩ := h.row i (.int .u8 (bs[i] : Nat)) (by unfold u8s; rw [List.getElem?_map, List.getElem?_eq_getElem hb]; rfl)
  refine ⟨b, off, e, ?_, ?_⟩
  · rw [hc]; simp [List.getD, List.getElem?_eq_getElem hb]
  · simp only [List.getD, List.getElem?_eq_getElem hb, Option.getD_some]; exact h.byte _ (List.getElem_mem hb)
theorem IsBytes.cut {w : World} {a : Option Addr} {len cap : Nat} {bs : List Nat} (h : IsBytes w a len cap bs) (n : Nat) : Holds w a (u8s (bs.take n)) := by
  intro i x hx
  have hin : i < n := by
    have := (List.getElem?_eq_some_iff.1 hx).1
    unfold u8s at this
    rw [List.length_map, List.length_take] at this; omega
  refine h.row i x ?_
  rw [← hx]; unfold u8s
  rw [List.getElem?_map, List.getElem?_map, List.getElem?_take, if_pos hin]
end Go.Proofs.YtfploeefmnbpcaaGreat

/- Slices of the call's own and slices that came in, read. -/
namespace Go.Proofs.YtfploeefmnbpcaaGreat
open Go.RowKit

/-- A slice of the call's own, as it is read. -/
theorem own_read {w : World} {B n : Nat} {e : TypeId} {v : Value} {xs : List Value} (h : w.ownsRow B e 1 v n xs) :
    ∃ a cap, v = .slice a n cap ∧ n ≤ cap ∧ cap ≤ 9223372036854775807 ∧ Holds w a xs ∧ ((a = none ∧ n = 0 ∧ cap = 0) ∨ ∃ g, a = some ⟨g, 0, none⟩ ∧ B ≤ g ∧ g < w.heap.size) := by
  have hl : xs.length = n := by simpa using h.1
  rcases h.2 with ⟨hv, hn⟩ | ⟨g, cap2, cur, hv, _, _, hle, h5, _⟩
  · subst hv; subst hn
    have : xs = [] := List.length_eq_zero_iff.1 hl
    subst this
    exact ⟨none, 0, rfl, Nat.le_refl _, by omega, fun _ x hx => by simp at hx, .inl ⟨rfl, rfl, rfl⟩⟩
  · obtain ⟨a, cap, hv2, hle2, hh⟩ := reads_of_own h
    rw [hl] at hv2 hle2
    rw [hv] at hv2
    injection hv2 with e1 e2 e3
    subst e1; subst e3
    have := h.lt g (by rw [hv]; rfl)
    exact ⟨_, _, hv, hle2, by unfold maxLen at h5; omega, hh, .inr ⟨g, rfl, this.1, this.2⟩⟩

theorem IsInts.at {w : World} {a : Option Addr} {len cap : Nat} {zs : List Int} (h : IsInts w a len cap zs) (i : Nat) (hi : i < len) :
    ∃ b off, a = some ⟨b, off, Option.none⟩ ∧ w.cell? ⟨b, off + i, Option.none⟩ = some (.int .i64 (zs.getD i 0)) ∧ -9223372036854775808 ≤ zs.getD i 0 ∧ zs.getD i 0 ≤ 9223372036854775807 := by
  have hb : i < zs.length := by rw [h.size]; exact hi
  obtain ⟨b, off, e, hc⟩ := h.row i (.int .i64 zs[i]) (by rw [List.getElem?_map, List.getElem?_eq_getElem hb]; rfl)
  have e2 : zs.getD i 0 = zs[i] := by simp [List.getD, List.getElem?_eq_getElem hb]
  rw [e2]
  exact ⟨b, off, e, hc, h.bound _ (List.getElem_mem hb)⟩
theorem Holds.only {w w' : World} {a : Option Addr} {l : List Value} {g : Nat} (h : Holds w a l) (ho : Only g w w') (hne : ∀ b off, a = some ⟨b, off, none⟩ → b ≠ g) : Holds w' a l :=
  h.mono fun b off _ e _ hc => (World.cell?_of_block (ho.block b (hne b off e))).trans hc
theorem Holds.from {w : World} {b off : Nat} {l : List Value} (h : Holds w (some ⟨b, off, none⟩) l) (p n : Nat) : Holds w (some ⟨b, off + p, none⟩) ((l.drop p).take n) := by
  intro i x hx
  have hin : i < n := by
    have := (List.getElem?_eq_some_iff.1 hx).1
    rw [List.length_take] at this; omega
  rw [List.getElem?_take, if_pos hin, List.getElem?_drop] at hx
  obtain ⟨b', off', e, hc⟩ := h (p + i) x hx
  injection e with e; injection e with e1 e2; subst e1; subst e2
  exact ⟨b, off + p, rfl, by rw [Nat.add_assoc]; exact hc⟩
end Go.Proofs.YtfploeefmnbpcaaGreat

/- Slices of fields that came in. -/
namespace Go.Proofs.YtfploeefmnbpcaaGreat
open Go.RowKit

/-- A slice of pairs (a word, an int) that came in. -/
structure IsPairs (w : World) (a : Option Addr) (len cap : Nat) (ps : List (Int × Int)) : Prop where
  size : ps.length = len
  fits : len ≤ cap
  small : cap ≤ 9223372036854775807
  none : a = none → len = 0 ∧ cap = 0
  row : ∀ i, i < len → ∃ b off, a = some ⟨b, off, Option.none⟩ ∧ w.cell? ⟨b, off + i * 2, Option.none⟩ = some (.int .u64 (ps.getD i (0, 0)).1) ∧ w.cell? ⟨b, off + i * 2 + 1, Option.none⟩ = some (.int .i64 (ps.getD i (0, 0)).2) ∧
    0 ≤ (ps.getD i (0, 0)).1 ∧ (ps.getD i (0, 0)).1 ≤ 18446744073709551615 ∧ -9223372036854775808 ≤ (ps.getD i (0, 0)).2 ∧ (ps.getD i (0, 0)).2 ≤ 9223372036854775807
theorem IsPairs.below {w w' : World} {a : Option Addr} {len cap : Nat} {ps : List (Int × Int)} (h : IsPairs w a len cap ps) (hb : Below w.heap.size w w') : IsPairs w' a len cap ps := by
  refine ⟨h.size, h.fits, h.small, h.none, fun i hi => ?_⟩
  obtain ⟨b, off, e, c0, c1, r⟩ := h.row i hi
  exact ⟨b, off, e, (hb.cell (World.block_lt_of_cell? w _ c0)).trans c0, (hb.cell (World.block_lt_of_cell? w _ c1)).trans c1, r⟩
theorem pairs_none (w : World) : IsPairs w none 0 0 [] := ⟨rfl, Nat.le_refl _, by omega, fun _ => ⟨rfl, rfl⟩, fun i h => by omega⟩
theorem pairs_in {w : World} {x : Addr} {len cap : Nat} {V0 V1 : Nat → Value} {u v : Nat → Int} (hl : len ≤ cap) (hm : cap ≤ maxLen)
    (hc : ∀ i, i < cap → w.cell? (x.add (i * 2)) = some (V0 i) ∧ w.cell? (x.add (i * 2 + 1)) = some (V1 i))
    (hu : ∀ i, i < cap → V0 i = .int .u64 (u i) ∧ (Lit.int .u64 (u i)).wf = true) (hv : ∀ i, i < cap → V1 i = .int .i64 (v i) ∧ (Lit.int .i64 (v i)).wf = true) :
    IsPairs w (some x) len cap ((List.range len).map fun i => (u i, v i)) := by
  refine ⟨by rw [List.length_map, List.length_range], hl, by unfold maxLen at hm; omega, (fun h => by cases h), fun i hi => ?_⟩
  have hic : i < cap := by omega
  obtain ⟨c0, c1⟩ := hc i hic
  obtain ⟨e0, f0⟩ := hu i hic
  obtain ⟨e1, f1⟩ := hv i hic
  have hg : ((List.range len).map fun i => (u i, v i)).getD i (0, 0) = (u i, v i) := by simp [List.getD, List.getElem?_range hi]
  obtain ⟨b, off, spot⟩ := x
  have hspot : spot = Option.none := by
    have h0 := World.cell?_spot (hc 0 (by omega)).1
    rwa [Nat.zero_mul, show (⟨b, off, spot⟩ : Addr).add 0 = ⟨b, off, spot⟩ from rfl] at h0
  subst hspot
  rw [Go.WideShapes.add_plain] at c0 c1
  refine ⟨b, off, rfl, ?_, ?_, ?_⟩
  · rw [hg, c0, e0]
  · rw [hg, show off + i * 2 + 1 = off + (i * 2 + 1) by omega, c1, e1]
  · rw [hg]
    have g0 : 0 ≤ u i ∧ u i ≤ 18446744073709551615 := by simpa [Lit.wf, IntKind.min, IntKind.max, IntKind.signed, IntKind.bits] using f0
    have g1 : -9223372036854775808 ≤ v i ∧ v i ≤ 9223372036854775807 := by simpa [Lit.wf, IntKind.min, IntKind.max, IntKind.signed, IntKind.bits] using f1
    exact ⟨g0.1, g0.2, g1.1, g1.2⟩
end Go.Proofs.YtfploeefmnbpcaaGreat

/- Fields, one behind the other; rows of the call's own that lie apart. -/
namespace Go.Proofs.YtfploeefmnbpcaaGreat
open Go.RowKit

namespace M
/-- The bits of fields. -/
def bitsF (fs : List (Nat × Nat)) : List Bool := fs.flatMap fun f => bitsOf f.1 f.2
theorem bitsF_nil : bitsF [] = [] := rfl
theorem bitsF_snoc (fs : List (Nat × Nat)) (u n : Nat) : bitsF (fs ++ [(u, n)]) = bitsF fs ++ bitsOf u n := by simp [bitsF]
theorem bitsF_length (fs : List (Nat × Nat)) (h : ∀ f ∈ fs, f.2 ≤ 64) : (bitsF fs).length ≤ 64 * fs.length := by
  induction fs with
  | nil => simp [bitsF]
  | cons f fs ih =>
    have h1 := h f (by simp)
    have h2 := ih fun x hx => h x (by simp [hx])
    simp only [bitsF, List.flatMap_cons, List.length_append, bitsOf_length, List.length_cons] at h2 ⊢
    omega
theorem bitsF_append (a b : List (Nat × Nat)) : bitsF (a ++ b) = bitsF a ++ bitsF b := by simp [bitsF]
/-- Where the k-th field begins; what stands there. -/
theorem bitsF_at (fs : List (Nat × Nat)) (k : Nat) (h : k < fs.length) :
    (bitsF (fs.take (k + 1))).length = (bitsF (fs.take k)).length + (fs[k]).2 ∧ (bitsF (fs.take k)).length + (fs[k]).2 ≤ (bitsF fs).length ∧
    ((bitsF fs).drop (bitsF (fs.take k)).length).take (fs[k]).2 = bitsOf (fs[k]).1 (fs[k]).2 := by
  have e1 : fs.take (k + 1) = fs.take k ++ [((fs[k]).1, (fs[k]).2)] := List.take_succ_eq_append_getElem h
  have e2 : bitsF fs = bitsF (fs.take k) ++ (bitsOf (fs[k]).1 (fs[k]).2 ++ bitsF (fs.drop (k + 1))) := by
    have := List.take_append_drop (k + 1) fs
    rw [e1] at this
    rw [← List.append_assoc, ← bitsF_snoc, ← bitsF_append, this]
  refine ⟨by rw [e1, bitsF_snoc, List.length_append, bitsOf_length], ?_, ?_⟩
  · rw [e2, List.length_append, List.length_append, bitsOf_length]; omega
  · rw [e2, List.drop_left]
    exact List.take_left' (bitsOf_length _ _)
end M

/-- The cells of fields. -/
def cellsF (fs : List (Nat × Nat)) : List Value := fs.flatMap fun f => [Value.int .u64 (f.1 : Int), Value.int .i64 (f.2 : Int)]
theorem cellsF_snoc (fs : List (Nat × Nat)) (u n : Nat) : cellsF fs ++ [Value.int .u64 (u : Int), Value.int .i64 (n : Int)] = cellsF (fs ++ [(u, n)]) := by simp [cellsF]
theorem cellsF_length (fs : List (Nat × Nat)) : (cellsF fs).length = fs.length * 2 := by
  induction fs with
  | nil => rfl
  | cons f fs ih => simp only [cellsF, List.flatMap_cons, List.length_append, List.length_cons, List.length_nil] at ih ⊢; omega
theorem cellsF_at (fs : List (Nat × Nat)) (k : Nat) (h : k < fs.length) : (cellsF fs)[k * 2]? = some (.int .u64 ((fs[k]).1 : Int)) ∧ (cellsF fs)[k * 2 + 1]? = some (.int .i64 ((fs[k]).2 : Int)) := by
  induction fs generalizing k with
  | nil => simp at h
  | cons f fs ih =>
    cases k with
    | zero => simp [cellsF]
    | succ k =>
      have := ih k (by simpa using h)
      simp only [cellsF, List.flatMap_cons, List.getElem_cons_succ] at this ⊢
      rw [show (k + 1) * 2 = 2 + k * 2 by omega, List.getElem?_append_right (by simp), List.getElem?_append_right (by simp; omega)]
      simp only [List.length_cons, List.length_nil]
      rw [show 2 + k * 2 - (0 + 1 + 1) = k * 2 by omega, show 2 + k * 2 + 1 - (0 + 1 + 1) = k * 2 + 1 by omega]
      exact this
/-- Rows of unlike elements lie apart. -/
theorem own_apart {w : World} {B B' n n' s s' : Nat} {e e' : TypeId} {v v' : Value} {xs xs' : List Value} (h : w.ownsRow B e s v n xs) (h' : w.ownsRow B' e' s' v' n' xs') (he : e ≠ e') :
    v.ownBlock = none ∨ v.ownBlock ≠ v'.ownBlock := by
  rcases h.2 with ⟨rfl, _⟩ | ⟨g, cap, cur, rfl, _, hg, _⟩
  · exact .inl rfl
  · right
    rcases h'.2 with ⟨rfl, _⟩ | ⟨g', cap', cur', rfl, _, hg', _⟩
    · simp [Value.ownBlock]
    · intro hh
      simp only [Value.ownBlock, Option.some.injEq] at hh
      subst hh
      rw [hg] at hg'
      injection hg' with hg'
      injection hg' with _ h2 _
      exact he h2
/-- A row stays where nothing below a place beyond it has changed. -/
theorem own_only {w w' : World} {B n s g : Nat} {e : TypeId} {v : Value} {xs : List Value} (h : w.ownsRow B e s v n xs) (ho : Only g w w') (hg : g < B) : w'.ownsRow B e s v n xs := by
  refine ⟨h.1, ?_⟩
  rcases h.2 with hn | ⟨g', cap, cur, rfl, hb, hgg, rest⟩
  · exact .inl hn
  · exact .inr ⟨g', cap, cur, rfl, hb, (ho.block g' (by omega)).trans hgg, rest⟩
theorem own_lower {w : World} {B B' n s : Nat} {e : TypeId} {v : Value} {xs : List Value} (h : w.ownsRow B' e s v n xs) (hB : B ≤ B') : w.ownsRow B e s v n xs := by
  obtain ⟨h1, h2⟩ := h
  rcases h2 with h2 | ⟨g, cap, cur, hv, hg, r⟩
  · exact ⟨h1, .inl h2⟩
  · exact ⟨h1, .inr ⟨g, cap, cur, hv, Nat.le_trans hB hg, r⟩⟩
/-- A new row of one field. -/
theorem own_field (w : World) (B : Nat) (hB : B ≤ w.heap.size) (x y : Value) (t : TypeId) : (w.alloc (.cells #[x, y] t)).ownsRow B t 2 (.slice (some ⟨w.heap.size, 0, none⟩) 1 1) 1 [x, y] :=
  ⟨rfl, .inr ⟨w.heap.size, 1, #[x, y], rfl, hB, heap_alloc_new w _, Nat.le_refl _, by decide, rfl, rfl⟩⟩
theorem grown_out {w w' : World} {g B n s : Nat} {e : TypeId} {l : List Bool} {v : Value} {xs : List Value} (h : OutIs w g l) (hr : w.ownsRow B e s v n xs) (hg : w.grownBy w' v.ownBlock) (hB : g < B) : OutIs w' g l := by
  refine out_cells h (hg.block g (out_lt h) fun hh => ?_)
  have := (hr.lt g hh.symm).1
  omega
end Go.Proofs.YtfploeefmnbpcaaGreat

/- The reference's rows. -/
namespace Go.Proofs.YtfploeefmnbpcaaGreat
open Go.RowKit

/-- The die of a row's parity; -1. -/
def parS (m b r : Int) : Int := if 2 ≤ countS m ∧ 0 ≤ b ∧ 0 ≤ r then ((diesS m).getD ((b % countS m + r % countS m) % countS m).toNat 0 : Nat) else -1
/-- The others. -/
def othersS (m b r : Int) : List Nat := if 0 ≤ parS m b r then (diesS m).filter (fun d => (d : Int) != parS m b r) else []
def slotsS (m : Int) : Int := if 2 ≤ countS m then (countS m : Int) - 1 else 0
def dieS (m b r s : Int) : Int := if 0 ≤ s ∧ s < (othersS m b r).length then ((othersS m b r).getD s.toNat 0 : Nat) else -1
def slotS (m b r d : Int) : Int := spotFrom (othersS m b r) d 0


theorem countS_len (m : Int) : (diesS m).length = countS m := rfl
attribute [local irreducible] diesS countS

/-- A slice of ints of the call's own. -/
theorem own_ints {w : World} {B n : Nat} {v : Value} {l : List Nat} (h : w.ownsRow B 3 1 v n (i64s l)) :
    ∃ a cap, v = .slice a n cap ∧ n ≤ cap ∧ cap ≤ 9223372036854775807 ∧ l.length = n ∧ ∀ i (hi : i < l.length), ∃ b off, a = some ⟨b, off, none⟩ ∧ w.cell? ⟨b, off + i, none⟩ = some (.int .i64 (l[i] : Nat)) := by
  obtain ⟨a, cap, e, h1, h2, hh, _⟩ := own_read h
  have hl : l.length = n := by have := h.1; rw [i64s_length] at this; omega
  refine ⟨a, cap, e, h1, h2, hl, fun i hi => ?_⟩
  exact hh i (.int .i64 (l[i] : Nat)) (by unfold i64s; rw [List.getElem?_map, List.getElem?_eq_getElem hi]; rfl)

def filtK (l : List Nat) (p : Int) (k : Nat) : List Nat := (l.take k).filter fun d => (d : Int) != p
theorem filtK_yes (l : List Nat) (p : Int) (k : Nat) (h : k < l.length) (hp : ((l[k] : Nat) : Int) ≠ p) : filtK l p (k + 1) = filtK l p k ++ [l[k]] := by
  unfold filtK; rw [List.take_succ_eq_append_getElem h, List.filter_append]; simp [hp]
theorem filtK_no (l : List Nat) (p : Int) (k : Nat) (h : k < l.length) (hp : ((l[k] : Nat) : Int) = p) : filtK l p (k + 1) = filtK l p k := by
  unfold filtK; rw [List.take_succ_eq_append_getElem h, List.filter_append]; simp [hp]
theorem filtK_le (l : List Nat) (p : Int) (k : Nat) : (filtK l p k).length ≤ k := by
  unfold filtK; have := List.length_filter_le (fun d : Nat => (d : Int) != p) (l.take k); rw [List.length_take] at this; omega

end Go.Proofs.YtfploeefmnbpcaaGreat

/- The reference's Slots, Die, Slot. -/
namespace Go.Proofs.YtfploeefmnbpcaaGreat
open Go.RowKit

theorem othersS_le (m b r : Int) : (othersS m b r).length ≤ 8 := by
  unfold othersS
  split
  · have := List.length_filter_le (fun d : Nat => (d : Int) != parS m b r) (diesS m)
    have := diesS_length m
    omega
  · simp

attribute [local irreducible] diesS countS othersS

end Go.Proofs.YtfploeefmnbpcaaGreat
