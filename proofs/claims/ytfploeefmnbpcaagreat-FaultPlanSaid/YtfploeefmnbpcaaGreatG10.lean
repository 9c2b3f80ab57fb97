import Derived.Test.YtfploeefmnbpcaaGreatG04
import Derived.Test.YtfploeefmnbpcaaGreatG08
import Derived.Test.YtfploeefmnbpcaaGreatG09
import Derived.Test.YtfploeefmnbpcaaGreatG02
/- Package fault: which faults may be; of which dies they are. -/
namespace Go.Proofs.YtfploeefmnbpcaaGreat
open Go.RowKit Mp
set_option linter.unusedSimpArgs false

set_option maxHeartbeats 1000000 in
theorem fwithin_any (n l h : Int) (w : World) :
    Calls Tryz.prog 58 #[.int .i64 n, .int .i64 l, .int .i64 h] w fun e w' => e = .returned (.bool (decide (l ≤ n ∧ n ≤ h))) ∧ w = w' := by
  rw [Bool.decide_and]
  cases k1 : decide (l ≤ n) <;> cases k2 : decide (n ≤ h) <;>
  · go_enter Tryz.func58, Tryz.ntmps58
    go_wp2
    go_ret
    first | exact ⟨rfl, rfl⟩ | exact ⟨ret_bool k2, rfl⟩
def turnF (f : FtM) : Bool := if f.kind = 5 then decide (0 ≤ f.n ∧ f.n ≤ 31) && decide (1 ≤ f.v ∧ f.v ≤ 255) else decide (f.n = 0) && decide (f.v = 0)
theorem mayF_and (d b p : Int) (f : FtM) : mayF d b p f = (decide (0 ≤ f.at') && decide (1 ≤ f.kind ∧ f.kind ≤ 5) && inGB d b p f.x f.y f.z && turnF f) := by
  unfold mayF turnF
  cases inGB d b p f.x f.y f.z
  · simp
  · by_cases h : f.kind = 5
    · rw [if_pos h, if_pos h, Bool.eq_iff_iff]; simp only [decide_eq_true_eq, Bool.and_eq_true, and_true]; omega
    · rw [if_neg h, if_neg h, Bool.eq_iff_iff]; simp only [decide_eq_true_eq, Bool.and_eq_true, and_true, Bool.decide_and]
set_option maxHeartbeats 1000000 in
theorem fturn_any (f : FtM) (w : World) :
    Calls Tryz.prog 59 #[encF f] w fun e w' => e = .returned (.bool (turnF f)) ∧ Below w.heap.size w w' := by
  unfold turnF
  by_cases h : f.kind = 5
  · rw [if_pos h]
    have hk : (f.kind != 5) = false := by simpa using h
    cases h1 : decide (0 ≤ f.n ∧ f.n ≤ 31) <;> cases h2 : decide (1 ≤ f.v ∧ f.v ≤ 255) <;>
    · have H1 := Lib.hid (fun w => by have := fwithin_any f.n 0 31 w; rw [h1] at this; exact this)
      have H2 := Lib.hid (fun w => by have := fwithin_any f.v 1 255 w; rw [h2] at this; exact this)
      clear h1 h2 h
      go_enter Tryz.func59, Tryz.ntmps59
      go_wp2_with (go_at_call 58; (first | (with_reducible refine (H1.out _).mono ?_) | (with_reducible refine (H2.out _).mono ?_)); rintro e w' ⟨rfl, rfl⟩)
      go_ret
      exact ⟨rfl, (Below.refl _ _).alloc (Nat.le_refl _) _⟩
  · rw [if_neg h]
    have hk : (f.kind != 5) = true := by simpa using h
    cases h1 : decide (f.n = 0) <;> cases h2 : decide (f.v = 0) <;>
    · obtain ⟨c1, e1⟩ : ∃ c, (f.n == 0) = c := ⟨_, rfl⟩
      obtain ⟨c2, e2⟩ : ∃ c, (f.v == 0) = c := ⟨_, rfl⟩
      have q1 : c1 = decide (f.n = 0) := by rw [← e1]; rfl
      have q2 : c2 = decide (f.v = 0) := by rw [← e2]; rfl
      rw [h1] at q1
      rw [h2] at q2
      subst q1 q2
      clear h1 h2 h
      go_enter Tryz.func59, Tryz.ntmps59
      go_wp2
      go_ret
      exact ⟨rfl, (Below.refl _ _).alloc (Nat.le_refl _) _⟩
set_option maxHeartbeats 2000000 in
theorem ftmay_any (d b p : Int) (f : FtM) (w : World) :
    Calls Tryz.prog 31 #[geoV d b p, encF f] w fun e w' => e = .returned (.bool (mayF d b p f)) ∧ Below w.heap.size w w' := by
  have hm := mayF_and d b p f
  cases h1 : decide (0 ≤ f.at') <;> cases h2 : decide (1 ≤ f.kind ∧ f.kind ≤ 5) <;> cases h3 : inGB d b p f.x f.y f.z <;> cases h4 : turnF f <;>
  · rw [h1, h2, h3, h4] at hm
    simp only [Bool.and_true, Bool.and_false, Bool.false_and, Bool.true_and] at hm
    rw [hm]
    have H2 := Lib.hid (fun w => by have := fwithin_any f.kind 1 5 w; rw [h2] at this; exact this)
    have H3 := Lib.hid (fun w => by have := gin_any d b p f.x f.y f.z w; rw [h3] at this; exact this)
    have H4 := Lib.hid (fun w => by have := fturn_any f w; rw [h4] at this; exact this)
    clear h2 h3 h4 hm
    have HN := Lib.hid (new_two w 25 44 [.int .i64 d, .int .i64 b, .int .i64 p] (cellsFau f))
    go_enter Tryz.func31, Tryz.ntmps31
    have CC : ∀ (x : World) j v, Below (w.heap.size + 2) ((w.alloc (.cells #[.int .i64 d, .int .i64 b, .int .i64 p] 25)).alloc (.cells (cellsFau f).toArray 44)) x → (cellsFau f)[j]? = some v → x.cell? ⟨w.heap.size + 1, j, none⟩ = some v := fun x j v hb hj =>
      (hb.cell (p := ⟨w.heap.size + 1, j, none⟩) (show w.heap.size + 1 < w.heap.size + 2 by omega)).trans (HN.out.2.1.cell hj)
    have CC := Lib.hid CC
    have hsz := HN.out.2.2.2
    have HBN := Lib.hid HN.out.2.2.1
    have HSZ := Lib.hid hsz
    clear hsz
    go_wp2_with (first
      | (go_at_call 58; (with_reducible refine (H2.out _).mono ?_); rintro e x ⟨rfl, rfl⟩)
      | (go_at_call 53; (with_reducible refine (H3.out _).mono ?_); rintro e x ⟨rfl, hbx⟩; have hbx' := Lib.hid (hbx.mono (Nat.le_of_eq HSZ.out.symm)); have c0 := CC.out x 0 _ hbx'.out rfl; have c1 := CC.out x 1 _ hbx'.out rfl; have c2 := CC.out x 2 _ hbx'.out rfl; have c3 := CC.out x 3 _ hbx'.out rfl; have c4 := CC.out x 4 _ hbx'.out rfl; have c5 := CC.out x 5 _ hbx'.out rfl; have c6 := CC.out x 6 _ hbx'.out rfl; have HBN := Lib.hid (HBN.out.trans (hbx.mono HBN.out.size)); clear hbx)
      | (go_at_call 59; (with_reducible refine (H4.out _).mono ?_); rintro e x ⟨rfl, hbx⟩; have HBN := Lib.hid (HBN.out.trans (hbx.mono HBN.out.size)); clear hbx))
    go_ret
    exact ⟨rfl, HBN.out⟩
end Go.Proofs.YtfploeefmnbpcaaGreat
