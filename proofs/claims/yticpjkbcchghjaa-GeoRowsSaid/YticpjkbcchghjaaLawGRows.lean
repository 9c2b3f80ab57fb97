/- The law GeoRows: the walk. -/
import Derived.Test.YticpjkbcchghjaaBegunG
namespace Go.Proofs.Yticpjkbcchghjaa
open Go.RowKit

attribute [local irreducible] parS slotsS dieS slotS

set_option maxRecDepth 100000 in
set_option maxHeartbeats 2000000 in
theorem geoRows_walk (m b r s d : Int) (w : World) (_ : (Lit.int .i64 m).wf = true) (hb : (Lit.int .i64 b).wf = true) (hr : (Lit.int .i64 r).wf = true) (hs : (Lit.int .i64 s).wf = true) (_ : (Lit.int .i64 d).wf = true) :
    Calls Try.prog 4 #[.int .i64 m, .int .i64 b, .int .i64 r, .int .i64 s, .int .i64 d] w fun e w' => e = .returned (.bool true) ∧ Below w.heap.size w w' := by
  obtain ⟨_, b2⟩ : -9223372036854775808 ≤ b ∧ b ≤ 9223372036854775807 := by simpa [Lit.wf, IntKind.min, IntKind.max, IntKind.signed, IntKind.bits] using hb
  obtain ⟨_, r2⟩ : -9223372036854775808 ≤ r ∧ r ≤ 9223372036854775807 := by simpa [Lit.wf, IntKind.min, IntKind.max, IntKind.signed, IntKind.bits] using hr
  obtain ⟨_, s2⟩ : -9223372036854775808 ≤ s ∧ s ≤ 9223372036854775807 := by simpa [Lit.wf, IntKind.min, IntKind.max, IntKind.signed, IntKind.bits] using hs
  clear hb hr hs
  have HB : Hid (Below w.heap.size w w) := Below.refl _ _
  go_enter Try.func4, Try.ntmps4
  go_wp2_with (first
    | (go_at_call 12; (with_reducible refine (begun6_any _).mono ?_); rintro e x ⟨rfl, hbx⟩; have HB := Lib.hid (HB.out.trans (hbx.mono HB.out.size)); clear hbx)
    | (go_at_call 19; (with_reducible refine (gparity_any m b r _ b2 r2).mono ?_); rintro e x ⟨rfl, hbx⟩; have HB := Lib.hid (HB.out.trans (hbx.mono HB.out.size)); clear hbx)
    | (go_at_call 20; (with_reducible refine (rparity_any m b r _ b2 r2).mono ?_); rintro e x ⟨rfl, hbx⟩; have HB := Lib.hid (HB.out.trans (hbx.mono HB.out.size)); clear hbx)
    | (go_at_call 21; (with_reducible refine (gslots_any m _).mono ?_); rintro e x ⟨rfl, hbx⟩; have HB := Lib.hid (HB.out.trans (hbx.mono HB.out.size)); clear hbx)
    | (go_at_call 22; (with_reducible refine (rslots_any m _).mono ?_); rintro e x ⟨rfl, hbx⟩; have HB := Lib.hid (HB.out.trans (hbx.mono HB.out.size)); clear hbx)
    | (go_at_call 23; (with_reducible refine (gdie_any m b r s _ b2 r2 s2).mono ?_); rintro e x ⟨rfl, hbx⟩; have HB := Lib.hid (HB.out.trans (hbx.mono HB.out.size)); clear hbx)
    | (go_at_call 24; (with_reducible refine (rdie_any m b r s _ b2 r2).mono ?_); rintro e x ⟨rfl, hbx⟩; have HB := Lib.hid (HB.out.trans (hbx.mono HB.out.size)); clear hbx)
    | (go_at_call 25; (with_reducible refine (gslot_any m b r d _ b2 r2).mono ?_); rintro e x ⟨rfl, hbx⟩; have HB := Lib.hid (HB.out.trans (hbx.mono HB.out.size)); clear hbx)
    | (go_at_call 26; (with_reducible refine (rslot_any m b r d _ b2 r2).mono ?_); rintro e x ⟨rfl, hbx⟩; have HB := Lib.hid (HB.out.trans (hbx.mono HB.out.size)); clear hbx))
  go_ret
  exact ⟨rfl, HB.out⟩
end Go.Proofs.Yticpjkbcchghjaa
