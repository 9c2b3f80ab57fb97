/- The statements' guard. -/
import Derived.Test.YticpjkbcchghjaaGuardK
namespace Go.Proofs.Yticpjkbcchghjaa
open Go.RowKit

theorem zeros_out : Try.zeroCells103 = ((List.replicate 512 (Value.int .u8 0)) ++ [Value.int .i64 0]).toArray := by kernel_rfl

theorem rep_in (n j : Nat) (a b : Value) (h : j < n) : ((List.replicate n a ++ [b]).toArray)[j]? = some a := by
  rw [List.getElem?_toArray, List.getElem?_append_left (by rw [List.length_replicate]; exact h), List.getElem?_replicate, if_pos h]
theorem rep_end (n : Nat) (a b : Value) : ((List.replicate n a ++ [b]).toArray)[n]? = some b := by
  rw [List.getElem?_toArray, List.getElem?_append_right (by rw [List.length_replicate]; exact Nat.le_refl _), List.length_replicate, Nat.sub_self]; rfl

theorem new_out (w : World) : OutIs (w.alloc (.cells Try.zeroCells103 103)) w.heap.size [] := by
  rw [zeros_out]
  refine ⟨Nat.zero_le _, fun j hj => ?_, ?_, fun j _ => World.frozen?_alloc_at _ _ _ _ rfl⟩
  · rw [World.cell?_alloc_at _ _ _ _ rfl, M.byteN_behind [] j (Nat.zero_le _)]
    exact rep_in 512 j _ _ hj
  · rw [World.cell?_alloc_at _ _ _ _ rfl]
    exact rep_end 512 _ _

theorem out_cells {w w' : World} {g : Nat} {l : List Bool} (h : OutIs w g l) (hb : w'.heap[g]? = w.heap[g]?) : OutIs w' g l := by
  have hc : ∀ j, w'.cell? ⟨g, j, none⟩ = w.cell? ⟨g, j, none⟩ := fun j => World.cell?_of_block hb
  have hf : ∀ j, w'.frozen? ⟨g, j, none⟩ = w.frozen? ⟨g, j, none⟩ := fun j => World.frozen?_of_block hb
  exact ⟨h.fits, fun j hj => by rw [hc]; exact h.bytes j hj, by rw [hc]; exact h.count, fun j hj => by rw [hf]; exact h.free j hj⟩
theorem out_lt {w : World} {g : Nat} {l : List Bool} (h : OutIs w g l) : g < w.heap.size := World.block_lt_of_cell? w _ h.count
theorem out_below {w w' : World} {g B : Nat} {l : List Bool} (h : OutIs w g l) (hb : Below B w w') (hB : g < B) : OutIs w' g l := out_cells h (hb.block g hB)
theorem out_only {w w' : World} {g g2 : Nat} {l : List Bool} (h : OutIs w g l) (hb : Only g2 w w') (hB : g ≠ g2) : OutIs w' g l := out_cells h (hb.block g hB)
theorem in_cells {w w' : World} {g : Nat} {bs : List Nat} {pos : Nat} (h : InIs w g bs pos) (hb : ∀ k, k < w.heap.size → w'.heap[k]? = w.heap[k]?) : InIs w' g bs pos := by
  have hg : w'.heap[g]? = w.heap[g]? := hb g (World.block_lt_of_cell? w _ h.place)
  obtain ⟨a, cap, h1, h2, h3⟩ := h.row
  exact ⟨⟨a, cap, (World.cell?_of_block hg).trans h1, h2.mono fun b off x _ i hc => (World.cell?_of_block (hb b (World.block_lt_of_cell? w _ hc))).trans hc, h3⟩, h.small, h.size,
    (World.cell?_of_block hg).trans h.place, (World.frozen?_of_block hg).trans h.free, h.fits⟩

theorem g_zig (w : World) : Calls Try.prog 82 #[.int .i64 (-1)] w fun e w' => e = .returned (.int .u64 1) ∧ w = w' := by
  have h := zig_any (-1) w (by omega) (by omega)
  rwa [show M.zigS (-1) = 1 from by decide] at h
theorem g_zag (w : World) : Calls Try.prog 83 #[.int .u64 1] w fun e w' => e = .returned (.int .i64 (-1)) ∧ w = w' := by
  have h := zag_any 1 w (by omega) (by omega)
  rwa [show M.zagS 1 = -1 from by decide] at h
theorem g_nar (w : World) : Calls Try.prog 84 #[.int .i64 255, .int .i64 8] w fun e w' => e = .returned (.int .i64 (-1)) ∧ w = w' := by
  have h := narrow_any 255 8 w
  rwa [show M.narrowS 255 8 = -1 from by decide] at h
theorem g_nar0 (w : World) : Calls Try.prog 84 #[.int .i64 1, .int .i64 0] w fun e w' => e = .returned (.int .i64 0) ∧ w = w' := by
  have h := narrow_any 1 0 w
  rwa [show M.narrowS 1 0 = 0 from by decide] at h
theorem g_turn (w : World) : Calls Try.prog 85 #[.int .u32 1, .int .i64 33] w fun e w' => e = .returned (.int .u32 2) ∧ w = w' := by
  have h := turn_any 1 33 w (by omega) (by omega)
  rwa [show M.turnS 1 (33 % 32) = 2 from by decide] at h

set_option maxRecDepth 100000 in
set_option maxHeartbeats 2000000 in
theorem begun_any (w : World) : Calls Try.prog 65 #[] w fun e w' => e = .returned (.bool true) ∧ Below w.heap.size w w' := by
  obtain ⟨g, hg⟩ : ∃ g, w.heap.size = g := ⟨_, rfl⟩
  have hnew := new_out w
  rw [hg] at hnew
  have hb0 : Below g w (w.alloc (.cells Try.zeroCells103 103)) := (Below.refl g w).alloc (by omega) _
  have HB0 := Lib.hid hb0
  have HNEW := Lib.hid hnew
  rw [hg]
  go_enter Try.func65, Try.ntmps65
  clear hnew hb0
  go_wp2_with fail
  refine (put_good g 5 3 [] _ (by omega) (by omega) (by decide) HNEW.out (by simp)).mono ?_
  rintro e w1 ⟨rfl, ho1, hon1⟩
  have hb1 : Below g w w1 := HB0.out.trans (hon1.below (Nat.le_refl g))
  have HB1 := Lib.hid hb1
  have HO1 := Lib.hid ho1
  clear ho1 hon1 hb1 HNEW HB0
  go_wp2_with fail
  refine (put_high g 2 1 _ (by omega) (by omega) (by decide)).mono ?_
  rintro e w2 ⟨rfl, rfl⟩
  have hnews : Holds (w1.alloc (.cells #[.int .u8 165] 5)) (some ⟨w1.heap.size, 0, none⟩) (u8s [165]) := by
    intro i x hx
    match i, hx with
    | 0, hx => simp [u8s] at hx; subst hx; exact ⟨_, _, rfl, by rw [World.cell?_alloc_at _ _ _ _ rfl]; rfl⟩
  have HN := Lib.hid hnews
  clear hnews
  go_wp2_with fail
  refine (read_any [165] 1 _ _ _ rfl (by omega) (by decide) (.inr ⟨_, _, rfl, HN.out⟩)).mono ?_
  rintro e w3 ⟨g2, rfl, hg2, hin, hb3⟩
  have hg1 : g < w1.heap.size := out_lt HO1.out
  have hgg : g < g2 := by have : w1.heap.size ≤ (w1.alloc (.cells #[.int .u8 165] 5)).heap.size := by simp
                          omega
  have hb3' : Below w1.heap.size w1 w3 := ((Below.refl _ _).alloc (Nat.le_refl _) _).trans (hb3.mono (by simp))
  have HIN := Lib.hid hin
  have HB3 := Lib.hid (HB1.out.trans (hb3'.mono (by omega)))
  have HO3 := Lib.hid (out_below HO1.out hb3' hg1)
  clear hin hb3 hb3' hg2 HN HO1 HB1
  go_wp2_with fail
  refine (get_good g2 [165] 0 4 _ (by omega) (by omega) HIN.out (by simp)).mono ?_
  rintro e w4 ⟨rfl, hin4, hon4⟩
  have HN4 := Lib.hid (show M.nextN [165] 0 4 = 10 from by decide)
  rw [HN4.out]
  have HIN4 := Lib.hid hin4
  have HB4 := Lib.hid (HB3.out.trans (hon4.below (by omega)))
  have HO4 := Lib.hid (out_only HO3.out hon4 (by omega))
  clear hin4 hon4 HIN HB3 HO3
  go_wp2_with fail
  refine (get_few g2 [165] (0 + 4) 9 _ (by omega) (by omega) HIN4.out (by decide)).mono ?_
  rintro e w5 ⟨rfl, nd, rfl⟩
  have HIN5 := Lib.hid (in_cells (w' := w4.drewN nd) HIN4.out fun _ _ => rfl)
  have hb5 : Below g w (w4.drewN nd) := HB4.out.trans ⟨rfl, rfl, rfl, Nat.le_refl _, fun _ _ => rfl⟩
  have HB5 := Lib.hid hb5
  have HO5 := Lib.hid (out_cells (w' := w4.drewN nd) HO4.out rfl)
  clear HIN4 HB4 HO4 hb5
  generalize w4.drewN nd = w5 at HIN5 HB5 HO5 ⊢
  go_wp2_with fail
  refine (bytes_any g _ 1 _ HO5.out (by simp [M.bitsOf_length])).mono ?_
  rintro e w6 ⟨v, rfl, hown, hb6⟩
  obtain ⟨g3, cap3, rfl, _, _, _, hcells⟩ := own_spot hown (by omega)
  have hc3 : w6.cell? ⟨g3, 0, none⟩ = some (.int .u8 160) := hcells 0 _ (by
    rw [show M.bytesN ([] ++ M.bitsOf 5 3) 1 = [160] from by decide]; rfl)
  have HO6 := Lib.hid (out_below HO5.out hb6 (out_lt HO5.out))
  have HIN6 := Lib.hid (in_cells HIN5.out fun k hk => hb6.block k hk)
  have hsz5 : g ≤ w5.heap.size := Nat.le_of_lt (out_lt HO5.out)
  have HB6 := Lib.hid (HB5.out.trans (hb6.mono hsz5))
  clear hown hb6 HO5 HIN5 HB5 hcells hsz5
  go_wp2_with (first
    | (go_at_call 82; (with_reducible refine (g_zig _).mono ?_); rintro e w' ⟨rfl, rfl⟩)
    | (go_at_call 83; (with_reducible refine (g_zag _).mono ?_); rintro e w' ⟨rfl, rfl⟩)
    | (go_at_call 84; (with_reducible refine (g_nar _).mono ?_); rintro e w' ⟨rfl, rfl⟩)
    | (go_at_call 84; (with_reducible refine (g_nar0 _).mono ?_); rintro e w' ⟨rfl, rfl⟩)
    | (go_at_call 85; (with_reducible refine (g_turn _).mono ?_); rintro e w' ⟨rfl, rfl⟩)
    | (go_at_call 86; refine (len_any g _ _ HO6.out).mono ?_; rintro e w' ⟨rfl, rfl⟩)
    | (go_at_call 87; refine (left_any g2 _ _ _ HIN6.out).mono ?_; rintro e w' ⟨rfl, nd, rfl⟩)
    | (go_at_call 88; (with_reducible refine (g_kof _).mono ?_); rintro e w' ⟨rfl, rfl⟩)
    | (go_at_call 89; (with_reducible refine (g_kstep _).mono ?_); rintro e w' ⟨rfl, rfl⟩)
    | (go_at_call 69; (with_reducible refine (g_all _).mono ?_); rintro e w' ⟨rfl, rfl⟩)
    | (go_at_call 48; (with_reducible refine (g_at _).mono ?_); rintro e w' ⟨rfl, rfl⟩)
    | (go_at_call 51; (with_reducible refine (g_spot _).mono ?_); rintro e w' ⟨rfl, rfl⟩)
    | (go_at_call 47; (with_reducible refine (g_count _).mono ?_); rintro e w' ⟨rfl, rfl⟩))
  go_ret
  exact ⟨rfl, HB6.out.trans ⟨rfl, rfl, rfl, Nat.le_refl _, fun _ _ => rfl⟩⟩
end Go.Proofs.Yticpjkbcchghjaa
