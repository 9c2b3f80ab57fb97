/- The law BitsNone: the walk. -/
import Derived.Test.YtojhhcfpnbdobaaBegun
namespace Go.Proofs.Ytojhhcfpnbdobaa
open Go.RowKit

set_option maxRecDepth 100000 in
set_option maxHeartbeats 2000000 in
theorem bitsNone_walk (w : World) : Calls Try.prog 12 #[] w fun e w' => e = .returned (.bool true) ∧ Below w.heap.size w w' := by
  go_enter Try.func12, Try.ntmps12
  go_wp2_with fail
  refine (get_nil 1 _ (by omega) (by omega)).mono ?_
  rintro e w1 ⟨rfl, rfl⟩
  go_wp2_with fail
  refine (begun_any _).mono ?_
  rintro e w1 ⟨rfl, hb1⟩
  have HB1 := Lib.hid hb1
  clear hb1
  go_wp2_with (first
    | (go_at_call 37; refine (put_nil _ _ _).mono ?_; rintro e w' ⟨rfl, rfl⟩)
    | (go_at_call 39; refine (len_nil _).mono ?_; rintro e w' ⟨rfl, rfl⟩)
    | (go_at_call 38; refine (bytes_nil _).mono ?_; rintro e w' ⟨rfl, rfl⟩)
    | (go_at_call 42; (with_reducible refine (left_nil _).mono ?_); rintro e w' ⟨rfl, rfl⟩)
    | (go_at_call 40; refine (read_any [] 0 _ _ _ rfl (by omega) (by decide) (.inl ⟨rfl, rfl, rfl⟩)).mono ?_; rintro e w2 ⟨g, rfl, hg, hin, hb2⟩; have HIN := Lib.hid hin; have HB2 := Lib.hid hb2; clear hin hb2)
    | (go_at_call 42; refine (left_any _ _ _ _ HIN.out).mono ?_; rintro e w' ⟨rfl, nd, rfl⟩))
  go_ret
  exact ⟨rfl, (HB1.out.trans (HB2.out.mono HB1.out.size)).trans ⟨rfl, rfl, rfl, Nat.le_refl _, fun _ _ => rfl⟩⟩
end Go.Proofs.Ytojhhcfpnbdobaa
