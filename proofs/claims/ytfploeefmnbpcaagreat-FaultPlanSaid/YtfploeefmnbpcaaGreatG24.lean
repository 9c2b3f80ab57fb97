import Derived.Test.YtfploeefmnbpcaaGreatG23
/- A flash: a block is erased: the walks. -/
namespace Go.Proofs.YtfploeefmnbpcaaGreat
open Go.RowKit Mp Go.ChangeMaps

theorem getA_cons (l : List (A3 × Value)) (a b : A3) (v : Value) : getA ((a, v) :: l) b = if a = b then some v else getA l b := by
  unfold getA
  rw [List.find?_cons]
  by_cases h : a = b
  · simp [h]
  · simp [h]
theorem getA_del (l : List (A3 × Value)) (a b : A3) : getA (delA l a) b = if a = b then none else getA l b := by
  by_cases h : a = b
  · subst h
    rw [if_pos rfl]
    refine getA_none fun p hp => ?_
    have := (List.mem_filter.1 hp).2
    simpa using this
  · rw [if_neg h]
    unfold getA delA
    rw [List.find?_filter]
    congr 2
    funext p
    by_cases h2 : p.1 = b
    · have : p.1 ≠ a := fun e => h (e.symm.trans h2)
      simp [h2]
      exact fun e => h e.symm
    · simp [h2]
theorem ok_del {n : Nat} {l : List (A3 × Value)} (h : ∀ p ∈ l, okV n p.2) (a : A3) : ∀ p ∈ delA l a, okV n p.2 := fun p hp => h p (List.mem_filter.1 hp).1
theorem ok_cons {n : Nat} {l : List (A3 × Value)} (h : ∀ p ∈ l, okV n p.2) (a : A3) {v : Value} (hv : okV n v) : ∀ p ∈ (a, v) :: delA l a, okV n p.2 := fun p hp => by
  rcases List.mem_cons.1 hp with rfl | hp
  · exact hv
  · exact ok_del h a p hp
/-- The first k pages of a block are dropped. -/
def delsK (l : List (A3 × Value)) (x y : Nat) : Nat → List (A3 × Value)
  | 0 => l
  | k + 1 => delA (delsK l x y k) (k3 x y k)
/-- The first k pages of a block are lost. -/
def losesK (l : List (A3 × Value)) (x y : Nat) (mk : Nat → Bool) : Nat → List (A3 × Value)
  | 0 => l
  | k + 1 => (k3 x y k, pgV z32 true (mk k)) :: delA (losesK l x y mk k) (k3 x y k)
theorem k3_eq {x y z x' y' z' : Nat} : k3 x y z = k3 x' y' z' ↔ x = x' ∧ y = y' ∧ z = z' := by
  unfold k3; simp only [Prod.mk.injEq]; omega
theorem ok_dels {n : Nat} {l : List (A3 × Value)} (h : ∀ p ∈ l, okV n p.2) (x y : Nat) : ∀ k, ∀ p ∈ delsK l x y k, okV n p.2
  | 0 => h
  | k + 1 => ok_del (ok_dels h x y k) _
theorem ok_loses {l : List (A3 × Value)} (h : ∀ p ∈ l, okV 34 p.2) (x y : Nat) (mk : Nat → Bool) : ∀ k, ∀ p ∈ losesK l x y mk k, okV 34 p.2
  | 0 => h
  | k + 1 => ok_cons (ok_loses h x y mk k) _ (okV_pgV true (mk k) rfl)
theorem getA_dels (l : List (A3 × Value)) (x y : Nat) (x' y' z' : Nat) : ∀ k, getA (delsK l x y k) (k3 x' y' z') = if x' = x ∧ y' = y ∧ z' < k then none else getA l (k3 x' y' z')
  | 0 => by rw [if_neg (by omega)]; rfl
  | k + 1 => by
    rw [delsK, getA_del, getA_dels l x y x' y' z' k]
    by_cases h : k3 x y k = k3 x' y' z'
    · rw [if_pos h, if_pos (by rw [k3_eq] at h; omega)]
    · rw [if_neg h]
      rw [k3_eq] at h
      by_cases h2 : x' = x ∧ y' = y ∧ z' < k
      · rw [if_pos h2, if_pos (by omega)]
      · rw [if_neg h2, if_neg (by omega)]
theorem getA_loses (l : List (A3 × Value)) (x y : Nat) (mk : Nat → Bool) (x' y' z' : Nat) : ∀ k, getA (losesK l x y mk k) (k3 x' y' z') = if x' = x ∧ y' = y ∧ z' < k then some (pgV z32 true (mk z')) else getA l (k3 x' y' z')
  | 0 => by rw [if_neg (by omega)]; rfl
  | k + 1 => by
    rw [losesK, getA_cons, getA_del, getA_loses l x y mk x' y' z' k]
    by_cases h : k3 x y k = k3 x' y' z'
    · rw [if_pos h]
      rw [k3_eq] at h
      obtain ⟨rfl, rfl, rfl⟩ := h
      rw [if_pos (by omega)]
    · rw [if_neg h, if_neg h]
      rw [k3_eq] at h
      by_cases h2 : x' = x ∧ y' = y ∧ z' < k
      · rw [if_pos h2, if_pos (by omega)]
      · rw [if_neg h2, if_neg (by omega)]

section
variable {F0 : Nat → Prop} {w0 w : World} {g : Nat} {M : FlM} {lp lf : List (A3 × Value)} {L : List Nat}
set_option maxRecDepth 100000
set_option maxHeartbeats 4000000
theorem erase_err (h : FlX F0 w0 w g M lp lf L) (x y : Int) (er : Int) (hb : M.bars x y 0 = some er) :
    Calls Tryz.prog 17 #[nptr g, .int .i64 x, .int .i64 y] w fun e w' => e = .returned (.int .i64 er) ∧ Below w.heap.size w w' := by
  have hne := bars_ne hb
  have HR := Lib.hid (fun (W : World) (hX : FlX F0 w0 W g M lp lf L) => by have := reach_any hX x y 0; rw [hb] at this; exact this)
  have HX := Lib.hid h
  clear h hb
  go_enter Tryz.func17, Tryz.ntmps17
  go_wp2_with (go_at_call 44; (with_reducible refine (HR.out _ HX.out).mono ?_); rintro e x2 ⟨rfl, hbx⟩; have HB := Lib.hid hbx; clear hbx)
  go_ret
  exact ⟨rfl, HB.out⟩
theorem erase_told (h : FlX F0 w0 w g M lp lf L) (x y : Nat) (hb : M.bars x y 0 = none) (hx : x < 6) (hy : y < 16) (ho : M.ops < 4000000000000000000) (hc : M.cutNow = none) (ht : (M.blk x y).told = true) :
    Calls Tryz.prog 17 #[nptr g, .int .i64 x, .int .i64 y] w fun e w' => e = .returned (.int .i64 7) ∧ FlX F0 w0 w' g (M.tick.setB x y { M.tick.blk x y with met := true }) lp lf L := by
  have hpow := (bars_in hb).1
  have HR := Lib.hid (fun (W : World) (hX : FlX F0 w0 W g M lp lf L) => by have := reach_any hX x y 0; rw [hb] at this; exact this)
  have HSTA := Lib.hid (fun (W : World) (hX : FlX F0 w0 W g M lp lf L) => by have := start_any hX hpow ho; rw [hc] at this; exact this)
  have HX := Lib.hid h
  have HT : Hid ((M.tick.blk x y).told = true) := by show (M.tick.blk x y).told = true; rw [tick_blk]; exact ht
  clear h hb ho hc ht hpow
  go_enter Tryz.func17, Tryz.ntmps17
  go_wp2_with (go_at_call 44; (with_reducible refine (HR.out _ HX.out).mono ?_); rintro e x2 ⟨rfl, hbx⟩; have HX2 := Lib.hid (HX.out.below hbx).1; clear hbx)
  refine (HSTA.out _ HX2.out).mono ?_
  rintro e x3 ⟨rfl, hx3, -, -⟩
  dsimp only
  have HX3 := Lib.hid hx3
  have b2 := hx3.told hx hy
  rw [HT.out] at b2
  have b3 := hx3.met hx hy
  have f3 := hx3.free (i := 15 + x * 64 + y * 4 + 3) (by omega)
  clear hx3
  go_wp2_with fail
  go_ret
  exact ⟨rfl, (HX3.out.set (by omega) _ (fun c h => h.met' hx hy true)).1⟩
theorem erase_cut (h : FlX F0 w0 w g M lp lf L) (x y : Nat) (hb : M.bars x y 0 = none) (hx : x < 6) (hy : y < 16) (ho : M.ops < 4000000000000000000) (j : Nat) (hc : M.cutNow = some j) (hv : ∀ p ∈ lp, okV 34 p.2) (mk : Nat → Bool)
    (hmk : ∀ z, z < M.p → ∃ bs l, (getA lp (k3 x y z)).getD (.agg zPg.toArray) = pgV bs l (mk z) ∧ bs.length = 32) :
    Calls Tryz.prog 17 #[nptr g, .int .i64 x, .int .i64 y] w fun e w' => e = .returned (.int .i64 9) ∧ FlX F0 w0 w' g (M.tick.setB x y { M.tick.blk x y with next := M.p }) (losesK lp x y mk M.p) lf L := by
  have hpow := (bars_in hb).1
  have HLIM := Lib.hid h.lim
  have HR := Lib.hid (fun (W : World) (hX : FlX F0 w0 W g M lp lf L) => by have := reach_any hX x y 0; rw [hb] at this; exact this)
  have HSTA := Lib.hid (fun (W : World) (hX : FlX F0 w0 W g M lp lf L) => by have := start_any hX hpow ho; rw [hc] at this; exact this)
  have HX := Lib.hid h
  obtain ⟨M2, hM2⟩ : ∃ M2, M.tick.setB x y { M.tick.blk x y with next := M.p } = M2 := ⟨_, rfl⟩
  obtain ⟨p, hp⟩ : ∃ p, M.p = p := ⟨_, rfl⟩
  have hp8 : p ≤ 8 := by have := HLIM.out; omega
  have H2 : Hid (∀ (W : World), FlX F0 w0 W g M.tick lp lf L → FlX F0 w0 (W.setCell ⟨g, 15 + x * 64 + y * 4, none⟩ (.int .i64 (p : Int))) g M2 lp lf L) := fun W hX => by
    subst hM2; subst hp
    exact (hX.set (by omega) _ (fun c h => h.next' hx hy M.p (by rw [tick_p]; exact Nat.le_refl _))).1
  have HP2 : Hid (M2.p = p) := by subst hM2; subst hp; exact tick_p M
  have HP1 : Hid (M.tick.p = p) := by subst hp; exact tick_p M
  have HLO : Hid (∀ (W : World) (k : Nat), k < p → FlX F0 w0 W g M2 (losesK lp x y mk k) lf L → Calls Tryz.prog 46 #[nptr g, geoV x y k] W fun e w' => e = .returned (.tuple #[]) ∧ FlX F0 w0 w' g M2 (losesK lp x y mk (k + 1)) lf L) := fun W k hk hX => by
    obtain ⟨bs, l, h1, h2⟩ := hmk k (by omega)
    refine (lose_any hX (k3 x y k) (okA_k3 hx hy (by omega)) (ok_loses hv x y mk k) bs l (mk k) ?_ h2).mono fun e w' ⟨h1, h2, _⟩ => ⟨h1, h2⟩
    rw [getA_loses, if_neg (by omega)]; exact h1
  clear h hb ho hc hpow hv hmk
  rw [hM2, hp]
  clear hM2 hp
  go_enter Tryz.func17, Tryz.ntmps17
  go_wp2_with (go_at_call 44; (with_reducible refine (HR.out _ HX.out).mono ?_); rintro e x2 ⟨rfl, hbx⟩; have HX2 := Lib.hid (HX.out.below hbx).1; clear hbx)
  refine (HSTA.out _ HX2.out).mono ?_
  rintro e x3 ⟨rfl, hx3, -, -⟩
  dsimp only
  have b0 := hx3.next hx hy
  have f0 := hx3.free (i := 15 + x * 64 + y * 4) (by omega)
  have g2 := hx3.g2
  rw [HP1.out] at g2
  have HX4 := Lib.hid (H2.out _ hx3)
  clear hx3
  go_upto_region 8 with fail
  refine gen_world (p := fun W => FlX F0 w0 W g M2 lp lf L) HX4.out ?_
  clear b0 f0 g2 HX4
  intro x4 hx4
  have g2 := hx4.g2
  rw [HP2.out] at g2
  have HX4 := Lib.hid hx4
  clear hx4
  go_simp
  go_wp2_with fail
  go_loopw [45] (fun v W => ∃ k : Nat, k ≤ p ∧ v = .int .i64 (k : Int) ∧ Hid (FlX F0 w0 W g M2 (losesK lp x y mk k) lf L)) (fun v _ => (p - intOf v).toNat)
  case atStart => exact ⟨0, by omega, rfl, HX4⟩
  case round =>
    clear g2 HX4
    obtain ⟨k, hk, rfl, HXk⟩ := hrel
    by_cases hlt : k < p
    · have HL := Lib.hid (HLO.out wr k hlt HXk.out)
      go_wp2_with fail
      refine HL.out.mono ?_
      rintro e x5 ⟨rfl, hx5⟩
      dsimp only
      go_wp2_with fail
      go_round
      case rel => exact ⟨k + 1, by omega, by go_num, hx5⟩
      case measure => simp [intOf]; omega
    · obtain rfl : k = p := by omega
      go_wp2_with fail
      go_ret
      exact ⟨rfl, HXk.out⟩
end
end Go.Proofs.YtfploeefmnbpcaaGreat
