/- The law ZigBytes: the walk. -/
import Derived.Test.YtojhhcfpnbdobaaWays
import Derived.Test.YtojhhcfpnbdobaaConv
import Derived.Test.YtojhhcfpnbdobaaPlan
namespace Go.Proofs.Ytojhhcfpnbdobaa
open Go.RowKit

/-- Eight bytes in a block. -/
structure BoxB (w : World) (g : Nat) (b0 b1 b2 b3 b4 b5 b6 b7 : Nat) : Prop where
  c0 : w.cell? ⟨g, 0, none⟩ = some (.int .u8 b0)
  c1 : w.cell? ⟨g, 1, none⟩ = some (.int .u8 b1)
  c2 : w.cell? ⟨g, 2, none⟩ = some (.int .u8 b2)
  c3 : w.cell? ⟨g, 3, none⟩ = some (.int .u8 b3)
  c4 : w.cell? ⟨g, 4, none⟩ = some (.int .u8 b4)
  c5 : w.cell? ⟨g, 5, none⟩ = some (.int .u8 b5)
  c6 : w.cell? ⟨g, 6, none⟩ = some (.int .u8 b6)
  c7 : w.cell? ⟨g, 7, none⟩ = some (.int .u8 b7)
theorem BoxB.below {w w' : World} {g b0 b1 b2 b3 b4 b5 b6 b7 : Nat} (h : BoxB w g b0 b1 b2 b3 b4 b5 b6 b7) (hb : Below w.heap.size w w') : BoxB w' g b0 b1 b2 b3 b4 b5 b6 b7 := by
  have hg : g < w.heap.size := World.block_lt_of_cell? w _ h.c0
  exact ⟨(hb.cell hg).trans h.c0, (hb.cell hg).trans h.c1, (hb.cell hg).trans h.c2, (hb.cell hg).trans h.c3, (hb.cell hg).trans h.c4, (hb.cell hg).trans h.c5, (hb.cell hg).trans h.c6, (hb.cell hg).trans h.c7⟩
theorem BoxB.holds {w : World} {g b0 b1 b2 b3 b4 b5 b6 b7 : Nat} (h : BoxB w g b0 b1 b2 b3 b4 b5 b6 b7) : Holds w (some ⟨g, 0, none⟩) (u8s [b0, b1, b2, b3, b4, b5, b6, b7]) := by
  intro i x hx
  refine ⟨g, 0, rfl, ?_⟩
  match i, hx with
  | 0, hx => injection hx with hx; subst hx; exact h.c0
  | 1, hx => injection hx with hx; subst hx; exact h.c1
  | 2, hx => injection hx with hx; subst hx; exact h.c2
  | 3, hx => injection hx with hx; subst hx; exact h.c3
  | 4, hx => injection hx with hx; subst hx; exact h.c4
  | 5, hx => injection hx with hx; subst hx; exact h.c5
  | 6, hx => injection hx with hx; subst hx; exact h.c6
  | 7, hx => injection hx with hx; subst hx; exact h.c7
theorem eqBox (b0 b1 b2 b3 b4 b5 b6 b7 : Nat) (w : World) : (Op.equalIn 10000 26 (.agg #[.int .u8 b0, .int .u8 b1, .int .u8 b2, .int .u8 b3, .int .u8 b4, .int .u8 b5, .int .u8 b6, .int .u8 b7]) (.agg #[.int .u8 b0, .int .u8 b1, .int .u8 b2, .int .u8 b3, .int .u8 b4, .int .u8 b5, .int .u8 b6, .int .u8 b7])).run Try.prog w = .ok true w := by
  have u3 := Try.underlying5
  have a3 := Try.isAgg5
  have z3 := Try.sizeOf5
  rw [show (10000 : Nat) = 9999 + 1 from rfl, Op.equalIn]
  simp only [Sem.run_bind, run_underlying Try.underlying26, Result.andThen_ok]
  simp only [Std.Legacy.Range.forIn_eq_forIn_range', Std.Legacy.Range.size, Nat.sub_zero, Nat.add_sub_cancel, Nat.div_one, List.range'_succ, List.range'_zero, List.forIn_cons, List.forIn_nil]
  go_simp
theorem wrap_back (m : Int) (q : Nat) (h : q < 18446744073709551616) (hm : m = wrap64 (q : Int)) : IntKind.u64.wrap m = (q : Int) := by
  rw [IntKind.wrap_u64, hm]; unfold wrap64; omega
theorem num_eight (b0 b1 b2 b3 b4 b5 b6 b7 : Nat) (h0 : b0 < 256) (h1 : b1 < 256) (h2 : b2 < 256) (h3 : b3 < 256) (h4 : b4 < 256) (h5 : b5 < 256) (h6 : b6 < 256) (h7 : b7 < 256) :
    ((M.num (M.ofN [b0, b1, b2, b3, b4, b5, b6, b7]) : Nat) : Int) = M.of8N b0 b1 b2 b3 b4 b5 b6 b7 := by
  have e : ∀ (l : List Nat) (x : Nat), x < 256 → M.num (M.ofN (l ++ [x])) = M.num (M.ofN l) * 256 + x := by
    intro l x hx
    rw [M.ofN_snoc, M.num_append, M.bitsOf_length, M.num_bitsOf, Nat.mod_eq_of_lt hx]
  have a0 := e [] b0 h0
  have a1 := e [b0] b1 h1
  have a2 := e [b0, b1] b2 h2
  have a3 := e [b0, b1, b2] b3 h3
  have a4 := e [b0, b1, b2, b3] b4 h4
  have a5 := e [b0, b1, b2, b3, b4] b5 h5
  have a6 := e [b0, b1, b2, b3, b4, b5] b6 h6
  have a7 := e [b0, b1, b2, b3, b4, b5, b6] b7 h7
  simp only [List.cons_append, List.nil_append] at a0 a1 a2 a3 a4 a5 a6 a7
  have z : M.num (M.ofN []) = 0 := rfl
  unfold M.of8N
  omega

set_option maxRecDepth 100000 in
set_option maxHeartbeats 4000000 in
theorem zigBytes_walk (b0 b1 b2 b3 b4 b5 b6 b7 : Nat) (n : Int) (w : World) (h0 : b0 < 256) (h1 : b1 < 256) (h2 : b2 < 256) (h3 : b3 < 256)
    (h4 : b4 < 256) (h5 : b5 < 256) (h6 : b6 < 256) (h7 : b7 < 256) (hn : (Lit.int .i64 n).wf = true) :
    Calls Try.prog 14 #[.agg #[.int .u8 b0, .int .u8 b1, .int .u8 b2, .int .u8 b3, .int .u8 b4, .int .u8 b5, .int .u8 b6, .int .u8 b7], .int .i64 n] w fun e w' => e = .returned (.bool true) ∧ Below w.heap.size w w' := by
  obtain ⟨n1, n2⟩ : -9223372036854775808 ≤ n ∧ n ≤ 9223372036854775807 := by simpa [Lit.wf, IntKind.min, IntKind.max, IntKind.signed, IntKind.bits] using hn
  clear hn
  obtain ⟨m, hm⟩ : ∃ m, wrap64 (M.of8N b0 b1 b2 b3 b4 b5 b6 b7) = m := ⟨_, rfl⟩
  have c1 : Hid (∀ w' : World, Calls Try.prog 33 #[.agg #[.int .u8 b0, .int .u8 b1, .int .u8 b2, .int .u8 b3, .int .u8 b4, .int .u8 b5, .int .u8 b6, .int .u8 b7]] w' fun e w'' => e = .returned (.int .i64 m) ∧ Below w'.heap.size w' w'') := fun w' => by
    rw [← hm]; exact of8_any b0 b1 b2 b3 b4 b5 b6 b7 w' (by omega) (by omega) (by omega) (by omega) (by omega) (by omega) (by omega) (by omega)
  have hby := M.bytes_of8 b0 b1 b2 b3 b4 b5 b6 b7 (by omega) (by omega) (by omega) (by omega) (by omega) (by omega) (by omega) (by omega) m hm.symm
  have c2 : Hid (∀ w' : World, Calls Try.prog 23 #[.int .i64 m] w' fun e w'' => e = .returned (.agg #[.int .u8 b0, .int .u8 b1, .int .u8 b2, .int .u8 b3, .int .u8 b4, .int .u8 b5, .int .u8 b6, .int .u8 b7]) ∧ Below w'.heap.size w' w'') := fun w' => by
    have := bytes8_any m w'
    obtain ⟨e0, e1, e2, e3, e4, e5, e6, e7⟩ := hby
    unfold bytes8S agg8 at this
    rw [e0, e1, e2, e3, e4, e5, e6, e7] at this
    exact this
  have c3 : Hid (∃ a0 a1 a2 a3 a4 a5 a6 a7 : Int, (∀ w' : World, Calls Try.prog 23 #[.int .i64 n] w' fun e w'' => e = .returned (.agg #[.int .u8 a0, .int .u8 a1, .int .u8 a2, .int .u8 a3, .int .u8 a4, .int .u8 a5, .int .u8 a6, .int .u8 a7]) ∧ Below w'.heap.size w' w'') ∧
      (∀ w' : World, Calls Try.prog 33 #[.agg #[.int .u8 a0, .int .u8 a1, .int .u8 a2, .int .u8 a3, .int .u8 a4, .int .u8 a5, .int .u8 a6, .int .u8 a7]] w' fun e w'' => e = .returned (.int .i64 n) ∧ Below w'.heap.size w' w'')) := by
    refine ⟨M.byteS n 0, M.byteS n 1, M.byteS n 2, M.byteS n 3, M.byteS n 4, M.byteS n 5, M.byteS n 6, M.byteS n 7, fun w' => bytes8_any n w', fun w' => ?_⟩
    have := of8_any (M.byteS n 0) (M.byteS n 1) (M.byteS n 2) (M.byteS n 3) (M.byteS n 4) (M.byteS n 5) (M.byteS n 6) (M.byteS n 7) w' (M.byteS_range n 0) (M.byteS_range n 1) (M.byteS_range n 2) (M.byteS_range n 3) (M.byteS_range n 4) (M.byteS_range n 5) (M.byteS_range n 6) (M.byteS_range n 7)
    rw [M.of8_bytes n n1 n2] at this
    exact this
  obtain ⟨a0, a1, a2, a3, a4, a5, a6, a7, c3a, c4a⟩ := c3.out
  have c3 := Lib.hid c3a
  have c4 := Lib.hid c4a
  clear c3a c4a
  have hnum := num_eight b0 b1 b2 b3 b4 b5 b6 b7 h0 h1 h2 h3 h4 h5 h6 h7
  have hlL : ([b0, b1, b2, b3, b4, b5, b6, b7] : List Nat).length = 8 := rfl
  have hL8 : ∀ x ∈ ([b0, b1, b2, b3, b4, b5, b6, b7] : List Nat), x < 256 := by
    intro x hx
    simp only [List.mem_cons, List.not_mem_nil, or_false] at hx
    omega
  obtain ⟨q, hq⟩ : ∃ q, M.num (M.ofN [b0, b1, b2, b3, b4, b5, b6, b7]) = q := ⟨_, rfl⟩
  have hql : q < 18446744073709551616 := by
    have := M.num_lt (M.ofN [b0, b1, b2, b3, b4, b5, b6, b7])
    rw [M.ofN_length, hlL, hq] at this
    exact Nat.lt_of_lt_of_le this (by decide)
  have hmq : IntKind.u64.wrap m = (q : Int) := wrap_back m q hql (by rw [← hm, ← hnum, hq])
  have c5 : Hid (∀ w' : World, Holds w' (some ⟨w.heap.size, 0, none⟩) (u8s [b0, b1, b2, b3, b4, b5, b6, b7]) → Calls Try.prog 44 #[.slice (some ⟨w.heap.size, 0, none⟩) 8 8] w' fun e w'' => ∃ a cap, e = .returned (.slice a 64 cap) ∧ Below w'.heap.size w' w'' ∧
      (∀ w3 : World, Below w''.heap.size w'' w3 → Calls Try.prog 45 #[.slice a 64 cap] w3 fun e w4 => e = .returned (.int .u64 q) ∧ w3 = w4)) := fun w' hh => by
    refine (rof_any [b0, b1, b2, b3, b4, b5, b6, b7] 8 _ 8 w' hlL (by omega) hL8 hh).mono ?_
    rintro e w'' ⟨v, rfl, hown, hb⟩
    obtain ⟨a, cap, rfl, _, _, hr, _⟩ := own_read hown
    refine ⟨a, cap, rfl, hb, fun w3 hb3 => ?_⟩
    rw [← hq]
    exact num_at (M.ofN [b0, b1, b2, b3, b4, b5, b6, b7]) 64 a cap w3 (by rw [M.ofN_length, hlL]) (by omega) (hr.below hb3)
  clear hnum hlL hL8 hq hql hby hm
  go_enter Try.func14, Try.ntmps14
  go_wp2_with fail
  obtain ⟨g, hg⟩ : ∃ g, w.heap.size = g := ⟨_, rfl⟩
  have hbox : BoxB (w.alloc (.cells #[.int .u8 b0, .int .u8 b1, .int .u8 b2, .int .u8 b3, .int .u8 b4, .int .u8 b5, .int .u8 b6, .int .u8 b7] 26)) g b0 b1 b2 b3 b4 b5 b6 b7 := by
    rw [← hg]
    exact ⟨by rw [World.cell?_alloc_at _ _ _ _ rfl]; rfl, by rw [World.cell?_alloc_at _ _ _ _ rfl]; rfl, by rw [World.cell?_alloc_at _ _ _ _ rfl]; rfl, by rw [World.cell?_alloc_at _ _ _ _ rfl]; rfl,
      by rw [World.cell?_alloc_at _ _ _ _ rfl]; rfl, by rw [World.cell?_alloc_at _ _ _ _ rfl]; rfl, by rw [World.cell?_alloc_at _ _ _ _ rfl]; rfl, by rw [World.cell?_alloc_at _ _ _ _ rfl]; rfl⟩
  have hbl0 : Below g w (w.alloc (.cells #[.int .u8 b0, .int .u8 b1, .int .u8 b2, .int .u8 b3, .int .u8 b4, .int .u8 b5, .int .u8 b6, .int .u8 b7] 26)) := by rw [← hg]; exact (Below.refl w.heap.size w).alloc (Nat.le_refl _) _
  have HG := Lib.hid hg
  have HW0 : Hid (BoxB (w.alloc (.cells #[.int .u8 b0, .int .u8 b1, .int .u8 b2, .int .u8 b3, .int .u8 b4, .int .u8 b5, .int .u8 b6, .int .u8 b7] 26)) g b0 b1 b2 b3 b4 b5 b6 b7 ∧ Below g w (w.alloc (.cells #[.int .u8 b0, .int .u8 b1, .int .u8 b2, .int .u8 b3, .int .u8 b4, .int .u8 b5, .int .u8 b6, .int .u8 b7] 26))) := ⟨hbox, hbl0⟩
  clear hbox hbl0
  generalize w.alloc (.cells #[.int .u8 b0, .int .u8 b1, .int .u8 b2, .int .u8 b3, .int .u8 b4, .int .u8 b5, .int .u8 b6, .int .u8 b7] 26) = w0 at HW0 ⊢
  refine (begun_any _).mono ?_
  rintro e w1 ⟨rfl, hb1⟩
  have Hw1 : Hid (BoxB w1 g b0 b1 b2 b3 b4 b5 b6 b7 ∧ Below g w w1) := ⟨HW0.out.1.below hb1, HW0.out.2.trans (hb1.mono (Nat.le_of_lt (World.block_lt_of_cell? _ _ HW0.out.1.c0)))⟩
  clear hb1 HW0
  rw [hg] at c5
  rw [hg]
  clear hg
  go_wp2
  have Hwd : Hid (BoxB w1.drew g b0 b1 b2 b3 b4 b5 b6 b7 ∧ Below g w w1.drew) := ⟨⟨Hw1.out.1.c0, Hw1.out.1.c1, Hw1.out.1.c2, Hw1.out.1.c3, Hw1.out.1.c4, Hw1.out.1.c5, Hw1.out.1.c6, Hw1.out.1.c7⟩, Hw1.out.2.drew⟩
  refine wp_region_plan (S := fun w' => BoxB w' g b0 b1 b2 b3 b4 b5 b6 b7 ∧ Below g w w') [(0, true), (3, true), (1, false), (2, false), (4, true), (5, true), (6, true), (9, true), (7, false), (8, false), (10, true), (11, true), (12, true), (13, true), (16, true), (14, false), (15, true), (17, false), (18, false), (19, true), (20, true), (21, true)] (by kernel_rfl) (by kernel_rfl) (by kernel_rfl) (by decide) (fun _ _ d _ _ h => by cases d <;> exact h) Hwd.out ?_
  simp only [stepsOf, nth, slotOf]
  clear Hw1
  iterate 2 (refine wpPlan_plain (.agg #[.int .u8 b0, .int .u8 b1, .int .u8 b2, .int .u8 b3, .int .u8 b4, .int .u8 b5, .int .u8 b6, .int .u8 b7]) (by rfl) ?_ ?_; (focus (intro w' hw'; obtain ⟨⟨x0, x1, x2, x3, x4, x5, x6, x7⟩, _⟩ := hw'; go_simp)); go_simp)
  refine wpPlan_loud (by rfl) (fun K hK => ?_)
  go_simp
  go_wp2_with ((with_reducible refine (c1.out _).mono ?_); rintro e w2 ⟨rfl, hb⟩)
  have Hw2 : Hid (BoxB w2 g b0 b1 b2 b3 b4 b5 b6 b7 ∧ Below g w w2) := ⟨Hwd.out.1.below hb, Hwd.out.2.trans (hb.mono (Nat.le_of_lt (World.block_lt_of_cell? _ _ Hwd.out.1.c0)))⟩
  clear hb
  refine hK _ _ _ (fun _ h => h) Hw2.out ?_
  clear hK Hwd
  refine wpPlan_loud (by rfl) (fun K hK => ?_)
  go_simp
  go_wp2_with ((with_reducible refine (c2.out _).mono ?_); rintro e w3 ⟨rfl, hb⟩)
  have Hw3 : Hid (BoxB w3 g b0 b1 b2 b3 b4 b5 b6 b7 ∧ Below g w w3) := ⟨Hw2.out.1.below hb, Hw2.out.2.trans (hb.mono (Nat.le_of_lt (World.block_lt_of_cell? _ _ Hw2.out.1.c0)))⟩
  clear hb
  refine hK _ _ _ (fun _ h => h) Hw3.out ?_
  clear hK Hw2
  (refine wpPlan_plain (.bool true) (by rfl) ?_ ?_; (focus (intro w' _; have hq := eqBox b0 b1 b2 b3 b4 b5 b6 b7 w'; go_simp)); go_simp)
  iterate 3 (refine wpPlan_plain ?_ (by rfl) ?_ ?_; rotate_left; (focus (intro w' _; go_simp; try with_reducible rfl)); go_simp)
  refine wpPlan_loud (by rfl) (fun K hK => ?_)
  go_simp
  go_wp2_with ((with_reducible refine (c3.out _).mono ?_); rintro e w4 ⟨rfl, hb⟩)
  have Hw4 : Hid (BoxB w4 g b0 b1 b2 b3 b4 b5 b6 b7 ∧ Below g w w4) := ⟨Hw3.out.1.below hb, Hw3.out.2.trans (hb.mono (Nat.le_of_lt (World.block_lt_of_cell? _ _ Hw3.out.1.c0)))⟩
  clear hb
  refine hK _ _ _ (fun _ h => h) Hw4.out ?_
  clear hK Hw3
  refine wpPlan_loud (by rfl) (fun K hK => ?_)
  go_simp
  go_wp2_with ((with_reducible refine (c4.out _).mono ?_); rintro e w5 ⟨rfl, hb⟩)
  have Hw5 : Hid (BoxB w5 g b0 b1 b2 b3 b4 b5 b6 b7 ∧ Below g w w5) := ⟨Hw4.out.1.below hb, Hw4.out.2.trans (hb.mono (Nat.le_of_lt (World.block_lt_of_cell? _ _ Hw4.out.1.c0)))⟩
  clear hb
  refine hK _ _ _ (fun _ h => h) Hw5.out ?_
  clear hK Hw4
  iterate 3 (refine wpPlan_plain ?_ (by rfl) ?_ ?_; rotate_left; (focus (intro w' _; go_simp; try with_reducible rfl)); go_simp)
  (refine wpPlan_plain (.agg #[.int .u8 b0, .int .u8 b1, .int .u8 b2, .int .u8 b3, .int .u8 b4, .int .u8 b5, .int .u8 b6, .int .u8 b7]) (by rfl) ?_ ?_; (focus (intro w' hw'; obtain ⟨⟨x0, x1, x2, x3, x4, x5, x6, x7⟩, _⟩ := hw'; go_simp)); go_simp)
  (refine wpPlan_plain ?_ (by rfl) ?_ ?_; rotate_left; (focus (intro w' _; go_simp; try with_reducible rfl)); go_simp)
  refine wpPlan_loud (by rfl) (fun K hK => ?_)
  go_simp
  go_wp2_with ((with_reducible refine (c1.out _).mono ?_); rintro e w6 ⟨rfl, hb⟩)
  have Hw6 : Hid (BoxB w6 g b0 b1 b2 b3 b4 b5 b6 b7 ∧ Below g w w6) := ⟨Hw5.out.1.below hb, Hw5.out.2.trans (hb.mono (Nat.le_of_lt (World.block_lt_of_cell? _ _ Hw5.out.1.c0)))⟩
  clear hb
  refine hK _ _ _ (fun _ h => h) Hw6.out ?_
  clear hK Hw5
  (refine wpPlan_plain ?_ (by rfl) ?_ ?_; rotate_left; (focus (intro w' _; go_simp; try with_reducible rfl)); go_simp)
  refine wpPlan_loud (by rfl) (fun K hK => ?_)
  go_simp
  go_wp2_with ((with_reducible refine (c5.out _ ?_).mono ?_); (exact Hw6.out.1.holds); rintro e w7 ⟨a, cap, rfl, hb, c6⟩; have c6 := Lib.hid c6)
  have Hw7 : Hid (BoxB w7 g b0 b1 b2 b3 b4 b5 b6 b7 ∧ Below g w w7) := ⟨Hw6.out.1.below hb, Hw6.out.2.trans (hb.mono (Nat.le_of_lt (World.block_lt_of_cell? _ _ Hw6.out.1.c0)))⟩
  clear hb
  refine hK _ _ _ (fun _ h => h) Hw7.out ?_
  clear hK Hw6
  refine wpPlan_loud (by rfl) (fun K hK => ?_)
  go_simp
  go_wp2_with ((with_reducible refine (c6.out _ ?_).mono ?_); (exact Below.refl _ _); rintro e w' ⟨rfl, rfl⟩)
  refine hK _ _ _ (fun _ h => h) Hw7.out ?_
  clear hK
  iterate 3 (refine wpPlan_plain ?_ (by rfl) ?_ ?_; rotate_left; (focus (intro w' _; go_simp; try with_reducible rfl)); go_simp)
  refine wpPlan_nil ?_
  go_wp2
  go_ret
  exact ⟨rfl, by rw [HG.out]; exact Hw7.out.2⟩
end Go.Proofs.Ytojhhcfpnbdobaa
