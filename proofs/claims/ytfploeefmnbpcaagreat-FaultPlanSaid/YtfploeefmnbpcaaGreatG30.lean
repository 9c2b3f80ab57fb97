import Derived.Test.YtfploeefmnbpcaaGreatG08
import Derived.Test.YtfploeefmnbpcaaGreatG29
import Derived.Test.YtfploeefmnbpcaaGreatG13
import Derived.Test.YtfploeefmnbpcaaGreatG10
import Derived.Test.YtfploeefmnbpcaaGreatG14
import Derived.Test.YtfploeefmnbpcaaGreatG15
import Derived.Test.YtfploeefmnbpcaaGreatG28
/- The guard of the statements of geo. -/
namespace Go.Proofs.YtfploeefmnbpcaaGreat
open Go.RowKit

set_option maxHeartbeats 1000000 in
theorem begun1_any (w : World) : Calls Tryz.prog 82 #[] w fun e w' => e = .returned (.bool true) ∧ Below w.heap.size w w' := by
  go_enter Tryz.func82, Tryz.ntmps82
  go_wp2_with (go_at_call 94; refine (begun_any _).mono ?_; rintro e w1 ⟨rfl, hb1⟩; have HB1 := Lib.hid hb1; clear hb1)
  go_ret
  exact ⟨rfl, HB1.out⟩

theorem g6_may1 (w : World) : Calls Tryz.prog 43 #[geoV 3 8 2] w fun e w' => e = .returned (.bool true) ∧ Below w.heap.size w w' := gmay_any 3 8 2 w
theorem g6_may0 (w : World) : Calls Tryz.prog 43 #[geoV 0 0 0] w fun e w' => e = .returned (.bool false) ∧ Below w.heap.size w w' := gmay_any 0 0 0 w
theorem g6_in1 (w : World) : Calls Tryz.prog 53 #[geoV 3 8 2, geoV 2 7 1] w fun e w' => e = .returned (.bool true) ∧ Below w.heap.size w w' := gin_any 3 8 2 2 7 1 w
theorem g6_in0 (w : World) : Calls Tryz.prog 53 #[geoV 3 8 2, geoV 3 0 0] w fun e w' => e = .returned (.bool false) ∧ Below w.heap.size w w' := gin_any 3 8 2 3 0 0 w
theorem g6_par (w : World) : Calls Tryz.prog 83 #[.int .i64 7, .int .i64 1, .int .i64 1] w fun e w' => e = .returned (.int .i64 2) ∧ Below w.heap.size w w' := by
  have h := gparity_any 7 1 1 w (by omega) (by omega)
  rwa [show parS 7 1 1 = 2 from by decide +kernel] at h
theorem g6_slots (w : World) : Calls Tryz.prog 84 #[.int .i64 7] w fun e w' => e = .returned (.int .i64 2) ∧ Below w.heap.size w w' := by
  have h := gslots_any 7 w
  rwa [show slotsS 7 = 2 from by decide +kernel] at h
theorem g6_die (w : World) : Calls Tryz.prog 85 #[.int .i64 7, .int .i64 0, .int .i64 0, .int .i64 0] w fun e w' => e = .returned (.int .i64 1) ∧ Below w.heap.size w w' := by
  have h := gdie_any 7 0 0 0 w (by omega) (by omega) (by omega)
  rwa [show dieS 7 0 0 0 = 1 from by decide +kernel] at h
theorem g6_slot1 (w : World) : Calls Tryz.prog 86 #[.int .i64 7, .int .i64 0, .int .i64 0, .int .i64 2] w fun e w' => e = .returned (.int .i64 1) ∧ Below w.heap.size w w' := by
  have h := gslot_any 7 0 0 2 w (by omega) (by omega)
  rwa [show slotS 7 0 0 2 = 1 from by decide +kernel] at h
theorem g6_slot0 (w : World) : Calls Tryz.prog 86 #[.int .i64 7, .int .i64 0, .int .i64 0, .int .i64 0] w fun e w' => e = .returned (.int .i64 (-1)) ∧ Below w.heap.size w w' := by
  have h := gslot_any 7 0 0 0 w (by omega) (by omega)
  rwa [show slotS 7 0 0 0 = -1 from by decide +kernel] at h
theorem g6_log (w : World) : Calls Tryz.prog 87 #[geoV 3 8 2] w fun e w' => e = .returned (.int .i64 3) ∧ Below w.heap.size w w' := by
  have h := glogical_any 3 8 2 w
  rwa [show logS 3 8 2 = 3 from by decide +kernel] at h

set_option maxRecDepth 100000 in
set_option maxHeartbeats 2000000 in
theorem begun6_any (w : World) : Calls Tryz.prog 66 #[] w fun e w' => e = .returned (.bool true) ∧ Below w.heap.size w w' := by
  obtain ⟨g, hg⟩ : ∃ g, w.heap.size = g := ⟨_, rfl⟩
  have hb0 : Below g w (w.alloc (.cells #[.int .i64 3, .int .i64 8, .int .i64 2] 25)) := (Below.refl g w).alloc (by omega) _
  have HB := Lib.hid hb0
  have c0 : (w.alloc (.cells #[.int .i64 3, .int .i64 8, .int .i64 2] 25)).cell? ⟨g, 0, none⟩ = some (.int .i64 3) := by rw [World.cell?_alloc_at _ _ _ _ hg.symm]; rfl
  have c1 : (w.alloc (.cells #[.int .i64 3, .int .i64 8, .int .i64 2] 25)).cell? ⟨g, 1, none⟩ = some (.int .i64 8) := by rw [World.cell?_alloc_at _ _ _ _ hg.symm]; rfl
  have c2 : (w.alloc (.cells #[.int .i64 3, .int .i64 8, .int .i64 2] 25)).cell? ⟨g, 2, none⟩ = some (.int .i64 2) := by rw [World.cell?_alloc_at _ _ _ _ hg.symm]; rfl
  have hlt : g < (w.alloc (.cells #[.int .i64 3, .int .i64 8, .int .i64 2] 25)).heap.size := by simp; omega
  rw [hg]
  go_enter Tryz.func66, Tryz.ntmps66
  clear hb0
  go_wp2_with fail
  clear hg
  generalize w.alloc (.cells #[.int .i64 3, .int .i64 8, .int .i64 2] 25) = x0 at HB c0 c1 c2 hlt ⊢
  (refine (begun1_any _).mono ?_; rintro e x ⟨rfl, hbx⟩; have c0 := (hbx.cell (p := ⟨g, 0, none⟩) hlt).trans c0; have c1 := (hbx.cell (p := ⟨g, 1, none⟩) hlt).trans c1; have c2 := (hbx.cell (p := ⟨g, 2, none⟩) hlt).trans c2; have HB := Lib.hid (HB.out.trans (hbx.mono (Nat.le_of_lt hlt))); have hlt := Nat.lt_of_lt_of_le hlt hbx.size; clear hbx)
  go_wp2_with (first
    | (go_at_call 43; (with_reducible refine (g6_may1 _).mono ?_); rintro e x ⟨rfl, hbx⟩; have c0 := (hbx.cell (p := ⟨g, 0, none⟩) hlt).trans c0; have c1 := (hbx.cell (p := ⟨g, 1, none⟩) hlt).trans c1; have c2 := (hbx.cell (p := ⟨g, 2, none⟩) hlt).trans c2; have HB := Lib.hid (HB.out.trans (hbx.mono (Nat.le_of_lt hlt))); have hlt := Nat.lt_of_lt_of_le hlt hbx.size; clear hbx)
    | (go_at_call 43; (with_reducible refine (g6_may0 _).mono ?_); rintro e x ⟨rfl, hbx⟩; have c0 := (hbx.cell (p := ⟨g, 0, none⟩) hlt).trans c0; have c1 := (hbx.cell (p := ⟨g, 1, none⟩) hlt).trans c1; have c2 := (hbx.cell (p := ⟨g, 2, none⟩) hlt).trans c2; have HB := Lib.hid (HB.out.trans (hbx.mono (Nat.le_of_lt hlt))); have hlt := Nat.lt_of_lt_of_le hlt hbx.size; clear hbx)
    | (go_at_call 53; (with_reducible refine (g6_in1 _).mono ?_); rintro e x ⟨rfl, hbx⟩; have c0 := (hbx.cell (p := ⟨g, 0, none⟩) hlt).trans c0; have c1 := (hbx.cell (p := ⟨g, 1, none⟩) hlt).trans c1; have c2 := (hbx.cell (p := ⟨g, 2, none⟩) hlt).trans c2; have HB := Lib.hid (HB.out.trans (hbx.mono (Nat.le_of_lt hlt))); have hlt := Nat.lt_of_lt_of_le hlt hbx.size; clear hbx)
    | (go_at_call 53; (with_reducible refine (g6_in0 _).mono ?_); rintro e x ⟨rfl, hbx⟩; have c0 := (hbx.cell (p := ⟨g, 0, none⟩) hlt).trans c0; have c1 := (hbx.cell (p := ⟨g, 1, none⟩) hlt).trans c1; have c2 := (hbx.cell (p := ⟨g, 2, none⟩) hlt).trans c2; have HB := Lib.hid (HB.out.trans (hbx.mono (Nat.le_of_lt hlt))); have hlt := Nat.lt_of_lt_of_le hlt hbx.size; clear hbx)
    | (go_at_call 83; (with_reducible refine (g6_par _).mono ?_); rintro e x ⟨rfl, hbx⟩; have c0 := (hbx.cell (p := ⟨g, 0, none⟩) hlt).trans c0; have c1 := (hbx.cell (p := ⟨g, 1, none⟩) hlt).trans c1; have c2 := (hbx.cell (p := ⟨g, 2, none⟩) hlt).trans c2; have HB := Lib.hid (HB.out.trans (hbx.mono (Nat.le_of_lt hlt))); have hlt := Nat.lt_of_lt_of_le hlt hbx.size; clear hbx)
    | (go_at_call 84; (with_reducible refine (g6_slots _).mono ?_); rintro e x ⟨rfl, hbx⟩; have c0 := (hbx.cell (p := ⟨g, 0, none⟩) hlt).trans c0; have c1 := (hbx.cell (p := ⟨g, 1, none⟩) hlt).trans c1; have c2 := (hbx.cell (p := ⟨g, 2, none⟩) hlt).trans c2; have HB := Lib.hid (HB.out.trans (hbx.mono (Nat.le_of_lt hlt))); have hlt := Nat.lt_of_lt_of_le hlt hbx.size; clear hbx)
    | (go_at_call 85; (with_reducible refine (g6_die _).mono ?_); rintro e x ⟨rfl, hbx⟩; have c0 := (hbx.cell (p := ⟨g, 0, none⟩) hlt).trans c0; have c1 := (hbx.cell (p := ⟨g, 1, none⟩) hlt).trans c1; have c2 := (hbx.cell (p := ⟨g, 2, none⟩) hlt).trans c2; have HB := Lib.hid (HB.out.trans (hbx.mono (Nat.le_of_lt hlt))); have hlt := Nat.lt_of_lt_of_le hlt hbx.size; clear hbx)
    | (go_at_call 86; (with_reducible refine (g6_slot1 _).mono ?_); rintro e x ⟨rfl, hbx⟩; have c0 := (hbx.cell (p := ⟨g, 0, none⟩) hlt).trans c0; have c1 := (hbx.cell (p := ⟨g, 1, none⟩) hlt).trans c1; have c2 := (hbx.cell (p := ⟨g, 2, none⟩) hlt).trans c2; have HB := Lib.hid (HB.out.trans (hbx.mono (Nat.le_of_lt hlt))); have hlt := Nat.lt_of_lt_of_le hlt hbx.size; clear hbx)
    | (go_at_call 86; (with_reducible refine (g6_slot0 _).mono ?_); rintro e x ⟨rfl, hbx⟩; have c0 := (hbx.cell (p := ⟨g, 0, none⟩) hlt).trans c0; have c1 := (hbx.cell (p := ⟨g, 1, none⟩) hlt).trans c1; have c2 := (hbx.cell (p := ⟨g, 2, none⟩) hlt).trans c2; have HB := Lib.hid (HB.out.trans (hbx.mono (Nat.le_of_lt hlt))); have hlt := Nat.lt_of_lt_of_le hlt hbx.size; clear hbx)
    | (go_at_call 87; (with_reducible refine (g6_log _).mono ?_); rintro e x ⟨rfl, hbx⟩; have c0 := (hbx.cell (p := ⟨g, 0, none⟩) hlt).trans c0; have c1 := (hbx.cell (p := ⟨g, 1, none⟩) hlt).trans c1; have c2 := (hbx.cell (p := ⟨g, 2, none⟩) hlt).trans c2; have HB := Lib.hid (HB.out.trans (hbx.mono (Nat.le_of_lt hlt))); have hlt := Nat.lt_of_lt_of_le hlt hbx.size; clear hbx))
  go_ret
  exact ⟨rfl, HB.out⟩
end Go.Proofs.YtfploeefmnbpcaaGreat

/- The guards of the layers below answer true; so does this layer's, over a flash and a plan that keep their contracts. -/
namespace Go.Proofs.YtfploeefmnbpcaaGreat
open Go.RowKit Mp

theorem begun5 : Begun5 := fun w => by
  go_enter Tryz.func41, Tryz.ntmps41
  go_wp2_with (go_at_call 65; (with_reducible refine (begun5_any _).mono ?_); rintro e w1 ⟨rfl, hb⟩)
  go_ret
  exact ⟨rfl, hb⟩
theorem begun6 : Begun6 := fun w => by
  go_enter Tryz.func42, Tryz.ntmps42
  go_wp2_with (go_at_call 66; (with_reducible refine (begun6_any _).mono ?_); rintro e w1 ⟨rfl, hb⟩)
  go_ret
  exact ⟨rfl, hb⟩
theorem begun7_of {Is : IsT} {PI : PlanT} (C : NandC Is) (P : PlanC Is PI) : Begun7 := fun w => begun7_any C P begun5 begun6 w
end Go.Proofs.YtfploeefmnbpcaaGreat

/- Package fault does what is asked of it: over the landed flash, and where there is none. -/
namespace Go.Proofs.YtfploeefmnbpcaaGreat
open Go.RowKit Mp

theorem planC : PlanC IsM FT.IsP where
  lt h := h.lt
  keep h hk := h.keep hk
  may d b p f w := ftmay_any d b p f w
  dies a cap l w hf h1 h2 _ := FT.dies_any a cap l w hf h1 h2
  new d b p a cap l w hf h1 h2 h3 := FT.new_any d b p a cap l w hf h1 h2 h3
  left h := FT.left_any h
  due ops h hl := FT.due_any ops h hl
  run h hn hd hl := FT.run_any nandC h hn hd hl
theorem begun7 : Begun7 := begun7_of nandC planC
end Go.Proofs.YtfploeefmnbpcaaGreat
