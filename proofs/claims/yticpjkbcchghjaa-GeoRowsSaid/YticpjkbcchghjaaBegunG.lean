/- The guard of the statements of geo. -/
import Derived.Test.YticpjkbcchghjaaGeo
namespace Go.Proofs.Yticpjkbcchghjaa
open Go.RowKit

set_option maxHeartbeats 1000000 in
theorem begun1_any (w : World) : Calls Try.prog 43 #[] w fun e w' => e = .returned (.bool true) ∧ Below w.heap.size w w' := by
  go_enter Try.func43, Try.ntmps43
  go_wp2_with (go_at_call 65; refine (begun_any _).mono ?_; rintro e w1 ⟨rfl, hb1⟩; have HB1 := Lib.hid hb1; clear hb1)
  go_ret
  exact ⟨rfl, HB1.out⟩

theorem g6_may1 (w : World) : Calls Try.prog 13 #[geoV 3 8 2] w fun e w' => e = .returned (.bool true) ∧ Below w.heap.size w w' := gmay_any 3 8 2 w
theorem g6_may0 (w : World) : Calls Try.prog 13 #[geoV 0 0 0] w fun e w' => e = .returned (.bool false) ∧ Below w.heap.size w w' := gmay_any 0 0 0 w
theorem g6_in1 (w : World) : Calls Try.prog 15 #[geoV 3 8 2, geoV 2 7 1] w fun e w' => e = .returned (.bool true) ∧ Below w.heap.size w w' := gin_any 3 8 2 2 7 1 w
theorem g6_in0 (w : World) : Calls Try.prog 15 #[geoV 3 8 2, geoV 3 0 0] w fun e w' => e = .returned (.bool false) ∧ Below w.heap.size w w' := gin_any 3 8 2 3 0 0 w
theorem g6_par (w : World) : Calls Try.prog 19 #[.int .i64 7, .int .i64 1, .int .i64 1] w fun e w' => e = .returned (.int .i64 2) ∧ Below w.heap.size w w' := by
  have h := gparity_any 7 1 1 w (by omega) (by omega)
  rwa [show parS 7 1 1 = 2 from by decide +kernel] at h
theorem g6_slots (w : World) : Calls Try.prog 21 #[.int .i64 7] w fun e w' => e = .returned (.int .i64 2) ∧ Below w.heap.size w w' := by
  have h := gslots_any 7 w
  rwa [show slotsS 7 = 2 from by decide +kernel] at h
theorem g6_die (w : World) : Calls Try.prog 23 #[.int .i64 7, .int .i64 0, .int .i64 0, .int .i64 0] w fun e w' => e = .returned (.int .i64 1) ∧ Below w.heap.size w w' := by
  have h := gdie_any 7 0 0 0 w (by omega) (by omega) (by omega)
  rwa [show dieS 7 0 0 0 = 1 from by decide +kernel] at h
theorem g6_slot1 (w : World) : Calls Try.prog 25 #[.int .i64 7, .int .i64 0, .int .i64 0, .int .i64 2] w fun e w' => e = .returned (.int .i64 1) ∧ Below w.heap.size w w' := by
  have h := gslot_any 7 0 0 2 w (by omega) (by omega)
  rwa [show slotS 7 0 0 2 = 1 from by decide +kernel] at h
theorem g6_slot0 (w : World) : Calls Try.prog 25 #[.int .i64 7, .int .i64 0, .int .i64 0, .int .i64 0] w fun e w' => e = .returned (.int .i64 (-1)) ∧ Below w.heap.size w w' := by
  have h := gslot_any 7 0 0 0 w (by omega) (by omega)
  rwa [show slotS 7 0 0 0 = -1 from by decide +kernel] at h
theorem g6_log (w : World) : Calls Try.prog 17 #[geoV 3 8 2] w fun e w' => e = .returned (.int .i64 3) ∧ Below w.heap.size w w' := by
  have h := glogical_any 3 8 2 w
  rwa [show logS 3 8 2 = 3 from by decide +kernel] at h

set_option maxRecDepth 100000 in
set_option maxHeartbeats 2000000 in
theorem begun6_any (w : World) : Calls Try.prog 12 #[] w fun e w' => e = .returned (.bool true) ∧ Below w.heap.size w w' := by
  obtain ⟨g, hg⟩ : ∃ g, w.heap.size = g := ⟨_, rfl⟩
  have hb0 : Below g w (w.alloc (.cells #[.int .i64 3, .int .i64 8, .int .i64 2] 23)) := (Below.refl g w).alloc (by omega) _
  have HB := Lib.hid hb0
  have c0 : (w.alloc (.cells #[.int .i64 3, .int .i64 8, .int .i64 2] 23)).cell? ⟨g, 0, none⟩ = some (.int .i64 3) := by rw [World.cell?_alloc_at _ _ _ _ hg.symm]; rfl
  have c1 : (w.alloc (.cells #[.int .i64 3, .int .i64 8, .int .i64 2] 23)).cell? ⟨g, 1, none⟩ = some (.int .i64 8) := by rw [World.cell?_alloc_at _ _ _ _ hg.symm]; rfl
  have c2 : (w.alloc (.cells #[.int .i64 3, .int .i64 8, .int .i64 2] 23)).cell? ⟨g, 2, none⟩ = some (.int .i64 2) := by rw [World.cell?_alloc_at _ _ _ _ hg.symm]; rfl
  have hlt : g < (w.alloc (.cells #[.int .i64 3, .int .i64 8, .int .i64 2] 23)).heap.size := by simp; omega
  rw [hg]
  go_enter Try.func12, Try.ntmps12
  clear hb0
  go_wp2_with fail
  clear hg
  generalize w.alloc (.cells #[.int .i64 3, .int .i64 8, .int .i64 2] 23) = x0 at HB c0 c1 c2 hlt ⊢
  (refine (begun1_any _).mono ?_; rintro e x ⟨rfl, hbx⟩; have c0 := (hbx.cell (p := ⟨g, 0, none⟩) hlt).trans c0; have c1 := (hbx.cell (p := ⟨g, 1, none⟩) hlt).trans c1; have c2 := (hbx.cell (p := ⟨g, 2, none⟩) hlt).trans c2; have HB := Lib.hid (HB.out.trans (hbx.mono (Nat.le_of_lt hlt))); have hlt := Nat.lt_of_lt_of_le hlt hbx.size; clear hbx)
  go_wp2_with (first
    | (go_at_call 13; (with_reducible refine (g6_may1 _).mono ?_); rintro e x ⟨rfl, hbx⟩; have c0 := (hbx.cell (p := ⟨g, 0, none⟩) hlt).trans c0; have c1 := (hbx.cell (p := ⟨g, 1, none⟩) hlt).trans c1; have c2 := (hbx.cell (p := ⟨g, 2, none⟩) hlt).trans c2; have HB := Lib.hid (HB.out.trans (hbx.mono (Nat.le_of_lt hlt))); have hlt := Nat.lt_of_lt_of_le hlt hbx.size; clear hbx)
    | (go_at_call 13; (with_reducible refine (g6_may0 _).mono ?_); rintro e x ⟨rfl, hbx⟩; have c0 := (hbx.cell (p := ⟨g, 0, none⟩) hlt).trans c0; have c1 := (hbx.cell (p := ⟨g, 1, none⟩) hlt).trans c1; have c2 := (hbx.cell (p := ⟨g, 2, none⟩) hlt).trans c2; have HB := Lib.hid (HB.out.trans (hbx.mono (Nat.le_of_lt hlt))); have hlt := Nat.lt_of_lt_of_le hlt hbx.size; clear hbx)
    | (go_at_call 15; (with_reducible refine (g6_in1 _).mono ?_); rintro e x ⟨rfl, hbx⟩; have c0 := (hbx.cell (p := ⟨g, 0, none⟩) hlt).trans c0; have c1 := (hbx.cell (p := ⟨g, 1, none⟩) hlt).trans c1; have c2 := (hbx.cell (p := ⟨g, 2, none⟩) hlt).trans c2; have HB := Lib.hid (HB.out.trans (hbx.mono (Nat.le_of_lt hlt))); have hlt := Nat.lt_of_lt_of_le hlt hbx.size; clear hbx)
    | (go_at_call 15; (with_reducible refine (g6_in0 _).mono ?_); rintro e x ⟨rfl, hbx⟩; have c0 := (hbx.cell (p := ⟨g, 0, none⟩) hlt).trans c0; have c1 := (hbx.cell (p := ⟨g, 1, none⟩) hlt).trans c1; have c2 := (hbx.cell (p := ⟨g, 2, none⟩) hlt).trans c2; have HB := Lib.hid (HB.out.trans (hbx.mono (Nat.le_of_lt hlt))); have hlt := Nat.lt_of_lt_of_le hlt hbx.size; clear hbx)
    | (go_at_call 19; (with_reducible refine (g6_par _).mono ?_); rintro e x ⟨rfl, hbx⟩; have c0 := (hbx.cell (p := ⟨g, 0, none⟩) hlt).trans c0; have c1 := (hbx.cell (p := ⟨g, 1, none⟩) hlt).trans c1; have c2 := (hbx.cell (p := ⟨g, 2, none⟩) hlt).trans c2; have HB := Lib.hid (HB.out.trans (hbx.mono (Nat.le_of_lt hlt))); have hlt := Nat.lt_of_lt_of_le hlt hbx.size; clear hbx)
    | (go_at_call 21; (with_reducible refine (g6_slots _).mono ?_); rintro e x ⟨rfl, hbx⟩; have c0 := (hbx.cell (p := ⟨g, 0, none⟩) hlt).trans c0; have c1 := (hbx.cell (p := ⟨g, 1, none⟩) hlt).trans c1; have c2 := (hbx.cell (p := ⟨g, 2, none⟩) hlt).trans c2; have HB := Lib.hid (HB.out.trans (hbx.mono (Nat.le_of_lt hlt))); have hlt := Nat.lt_of_lt_of_le hlt hbx.size; clear hbx)
    | (go_at_call 23; (with_reducible refine (g6_die _).mono ?_); rintro e x ⟨rfl, hbx⟩; have c0 := (hbx.cell (p := ⟨g, 0, none⟩) hlt).trans c0; have c1 := (hbx.cell (p := ⟨g, 1, none⟩) hlt).trans c1; have c2 := (hbx.cell (p := ⟨g, 2, none⟩) hlt).trans c2; have HB := Lib.hid (HB.out.trans (hbx.mono (Nat.le_of_lt hlt))); have hlt := Nat.lt_of_lt_of_le hlt hbx.size; clear hbx)
    | (go_at_call 25; (with_reducible refine (g6_slot1 _).mono ?_); rintro e x ⟨rfl, hbx⟩; have c0 := (hbx.cell (p := ⟨g, 0, none⟩) hlt).trans c0; have c1 := (hbx.cell (p := ⟨g, 1, none⟩) hlt).trans c1; have c2 := (hbx.cell (p := ⟨g, 2, none⟩) hlt).trans c2; have HB := Lib.hid (HB.out.trans (hbx.mono (Nat.le_of_lt hlt))); have hlt := Nat.lt_of_lt_of_le hlt hbx.size; clear hbx)
    | (go_at_call 25; (with_reducible refine (g6_slot0 _).mono ?_); rintro e x ⟨rfl, hbx⟩; have c0 := (hbx.cell (p := ⟨g, 0, none⟩) hlt).trans c0; have c1 := (hbx.cell (p := ⟨g, 1, none⟩) hlt).trans c1; have c2 := (hbx.cell (p := ⟨g, 2, none⟩) hlt).trans c2; have HB := Lib.hid (HB.out.trans (hbx.mono (Nat.le_of_lt hlt))); have hlt := Nat.lt_of_lt_of_le hlt hbx.size; clear hbx)
    | (go_at_call 17; (with_reducible refine (g6_log _).mono ?_); rintro e x ⟨rfl, hbx⟩; have c0 := (hbx.cell (p := ⟨g, 0, none⟩) hlt).trans c0; have c1 := (hbx.cell (p := ⟨g, 1, none⟩) hlt).trans c1; have c2 := (hbx.cell (p := ⟨g, 2, none⟩) hlt).trans c2; have HB := Lib.hid (HB.out.trans (hbx.mono (Nat.le_of_lt hlt))); have hlt := Nat.lt_of_lt_of_le hlt hbx.size; clear hbx))
  go_ret
  exact ⟨rfl, HB.out⟩
end Go.Proofs.Yticpjkbcchghjaa
