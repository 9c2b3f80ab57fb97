import Derived.Test.YtfploeefmnbpcaaGreatG24
/- A flash: a block is erased whole: the walk. -/
namespace Go.Proofs.YtfploeefmnbpcaaGreat
open Go.RowKit Mp Go.ChangeMaps

def zA : List Value := [.int .i64 0, .int .i64 0, .int .i64 0]
theorem zero_A : ∀ W : World, (zeroValue 32).run Tryz.prog W = .ok (.agg zA.toArray) W := fun W => by kernel_rfl
section
variable {F0 : Nat → Prop} {w0 w : World} {g : Nat} {M : FlM} {lp lf : List (A3 × Value)} {L : List Nat}
set_option maxRecDepth 100000
set_option maxHeartbeats 4000000
theorem erase_go (h : FlX F0 w0 w g M lp lf L) (x y : Nat) (hb : M.bars x y 0 = none) (hx : x < 6) (hy : y < 16) (ho : M.ops < 4000000000000000000) (hw : (M.blk x y).worn < 4000000000000000000) (hc : M.cutNow = none) (ht : (M.blk x y).told = false)
    (hvp : ∀ p ∈ lp, okV 34 p.2) (hvf : ∀ p ∈ lf, okV 0 p.2) :
    Calls Tryz.prog 17 #[nptr g, .int .i64 x, .int .i64 y] w fun e w' => e = .returned (.int .i64 0) ∧ FlX F0 w0 w' g (M.tick.setB x y { M.tick.blk x y with next := 0, worn := (M.blk x y).worn + 1 }) (delsK lp x y M.p) (delsK lf x y M.p) L := by
  have hpow := (bars_in hb).1
  have HLIM := Lib.hid h.lim
  have HR := Lib.hid (fun (W : World) (hX : FlX F0 w0 W g M lp lf L) => by have := reach_any hX x y 0; rw [hb] at this; exact this)
  have HSTA := Lib.hid (fun (W : World) (hX : FlX F0 w0 W g M lp lf L) => by have := start_any hX hpow ho; rw [hc] at this; exact this)
  have HX := Lib.hid h
  obtain ⟨M2, hM2⟩ : ∃ M2, M.tick.setB x y { M.tick.blk x y with next := 0, worn := (M.blk x y).worn + 1 } = M2 := ⟨_, rfl⟩
  obtain ⟨p, hp⟩ : ∃ p, M.p = p := ⟨_, rfl⟩
  have hp8 : p ≤ 8 := by have := HLIM.out; omega
  obtain ⟨v, hvv⟩ : ∃ v : Int, ((M.blk x y).worn : Int) = v := ⟨_, rfl⟩
  have hv0 : 0 ≤ v := by omega
  have hv1 : v < 4000000000000000000 := by omega
  have H2 : Hid (∀ (W : World), FlX F0 w0 W g M.tick lp lf L → FlX F0 w0 ((W.setCell ⟨g, 15 + x * 64 + y * 4, none⟩ (.int .i64 0)).setCell ⟨g, 15 + x * 64 + y * 4 + 1, none⟩ (.int .i64 (v + 1))) g M2 lp lf L) := fun W hX => by
    have h1 := (hX.set (i := 15 + x * 64 + y * 4) (by omega) (.int .i64 ((0 : Nat) : Int)) (fun c h => h.next' hx hy 0 (Nat.zero_le _))).1
    have h2 := (h1.set (i := 15 + x * 64 + y * 4 + 1) (by omega) (.int .i64 (((M.blk x y).worn + 1 : Nat) : Int)) (fun c h => h.worn' hx hy ((M.blk x y).worn + 1))).1
    have e : (((M.blk x y).worn + 1 : Nat) : Int) = v + 1 := by omega
    rw [e] at h2
    subst hM2
    refine h2.same fun c hc => hc.congr rfl rfl rfl rfl rfl rfl rfl (fun _ _ => rfl) fun x' y' _ _ => ?_
    rw [blk_setB, blk_setB]
    by_cases e : x' = x ∧ y' = y
    · rw [if_pos e, if_pos e, FlM.setB_same]; exact ⟨rfl, rfl, rfl, rfl⟩
    · rw [if_neg e, if_neg e, blk_setB, if_neg e]; exact ⟨rfl, rfl, rfl, rfl⟩
  have HP2 : Hid (M2.p = p) := by subst hM2; subst hp; exact tick_p M
  have HW1 : Hid ((M.tick.blk x y).worn = (M.blk x y).worn ∧ (M.tick.blk x y).told = false) := ⟨by rw [tick_blk], by rw [tick_blk]; exact ht⟩
  have HVV := Lib.hid hvv
  have HDP : Hid (∀ (W : World) (k : Nat) (L : List Nat) (lf : List (A3 × Value)), k < p → FlX F0 w0 W g M2 (delsK lp x y k) lf L → Calls Tryz.prog 47 #[.pointer (some ⟨g, 399, none⟩), encA (k3 x y k)] W fun e w' => (∃ t, e = .returned (.bool t)) ∧ FlX F0 w0 w' g M2 (delsK lp x y (k + 1)) lf L ∧ Same L W w') := fun W k L lf hk hX =>
    (hX.dropP (k3 x y k) (okA_k3 hx hy (by omega)) (ok_dels hvp x y k)).mono fun e w' ⟨h1, h2, h3⟩ => ⟨⟨_, h1⟩, h2, h3⟩
  have HDF : Hid (∀ (W : World) (k : Nat) (L : List Nat) (lp : List (A3 × Value)), k < p → FlX F0 w0 W g M2 lp (delsK lf x y k) L → Calls Tryz.prog 48 #[.pointer (some ⟨g, 400, none⟩), encA (k3 x y k)] W fun e w' => (∃ t, e = .returned (.bool t)) ∧ FlX F0 w0 w' g M2 lp (delsK lf x y (k + 1)) L ∧ Same L W w') := fun W k L lp hk hX =>
    (hX.dropF (k3 x y k) (okA_k3 hx hy (by omega)) (ok_dels hvf x y k)).mono fun e w' ⟨h1, h2, h3⟩ => ⟨⟨_, h1⟩, h2, h3⟩
  clear h hb ho hc hpow hvp hvf hw ht hvv
  rw [hM2, hp]
  clear hM2 hp
  go_enter Tryz.func17, Tryz.ntmps17
  go_wp2_with (go_at_call 44; (with_reducible refine (HR.out _ HX.out).mono ?_); rintro e x2 ⟨rfl, hbx⟩; have HX2 := Lib.hid (HX.out.below hbx).1; clear hbx)
  refine (HSTA.out _ HX2.out).mono ?_
  rintro e x3 ⟨rfl, hx3, -, -⟩
  dsimp only
  have b0 := hx3.next hx hy
  have f0 := hx3.free (i := 15 + x * 64 + y * 4) (by omega)
  have b1 := hx3.worn hx hy
  rw [HW1.out.1, HVV.out] at b1
  have f1 := hx3.free (i := 15 + x * 64 + y * 4 + 1) (by omega)
  have b2 := hx3.told hx hy
  rw [HW1.out.2] at b2
  have HX4 := Lib.hid (H2.out _ hx3)
  clear hx3
  go_upto_region 19 with fail
  refine gen_world (p := fun W => FlX F0 w0 W g M2 lp lf L) HX4.out ?_
  clear b0 f0 b1 b2 f1 HX4
  intro x4 hx4
  have g2 := hx4.g2
  rw [HP2.out] at g2
  have HX4 := Lib.hid hx4
  clear hx4
  go_simp
  go_wp2_with fail
  go_loopw [78] (fun v W => ∃ k : Nat, k ≤ p ∧ v = .int .i64 (k : Int) ∧ Hid (FlX F0 w0 W g M2 (delsK lp x y k) (delsK lf x y k) L)) (fun v _ => (p - intOf v).toNat)
  case atStart => exact ⟨0, by omega, rfl, HX4⟩
  case round =>
    clear g2 HX4
    obtain ⟨k, hk, rfl, HXk⟩ := hrel
    by_cases hlt : k < p
    · have NEW := Lib.hid (new_one wr 32 zA)
      have RZ := Lib.hid NEW.out.1
      have HXN := Lib.hid (HXk.out.fresh (L := L) (w' := (wr.alloc (.cells zA.toArray 32)).setRow wr.heap.size (cellsA (k3 x y k)).toArray) (below_setRow NEW.out.2.1 (Nat.le_refl _) _) [wr.heap.size] (fun i hi => by
        simp only [List.mem_cons, List.not_mem_nil, or_false] at hi
        rw [setRow_size, NEW.out.2.2]; omega))
      have RA := Lib.hid (RZ.out.set (cellsA (k3 x y k)))
      go_upto_region 23 with (first | (refine wpList_value rfl (exec_alloc rfl zero_A _) ?_) | (refine wpList_skip rfl (exec_store rfl rfl rfl (run_storeRow (ds := cellsA (k3 x y k)) size_A RZ.out rfl rfl (fun v hv => by simp [cellsA] at hv; rcases hv with rfl | rfl | rfl <;> rfl))) ?_))
      refine gen_world (p := fun W => FlX F0 w0 W g M2 (delsK lp x y k) (delsK lf x y k) ([wr.heap.size] ++ L) ∧ Row W wr.heap.size 32 (cellsA (k3 x y k))) ⟨HXN.out, RA.out⟩ ?_
      obtain ⟨B, hB⟩ : ∃ B, wr.heap.size = B := ⟨_, rfl⟩
      rw [hB]
      clear HXN RA RZ NEW
      intro x5 NW
      obtain ⟨hx5, ra⟩ := NW
      have HX5 := Lib.hid hx5
      have RA := Lib.hid ra
      clear hx5 ra
      go_simp
      try rw [hB]
      refine wp_region_plan (S := fun W' => Row W' B 32 (cellsA (k3 x y k))) [(0, true), (1, true), (2, true), (3, true), (4, false)] (by kernel_rfl) (by kernel_rfl) (by kernel_rfl) (by decide) (fun _ _ d _ _ h => by cases d <;> exact h) RA.out.drew ?_
      simp only [stepsOf, nth, slotOf]
      iterate 3 (refine wpPlan_plain ?_ (by rfl) ?_ ?_; rotate_left; (focus (intro w' hw'; go_simp; try with_reducible rfl)); go_simp)
      refine wpPlan_plain (encA (k3 x y k)) (by rfl) (fun w' hw' => exec_load rfl rfl (run_loadRow isAgg_A size_A rfl hw')) ?_
      go_simp
      refine wpPlan_loud (by rfl) (fun KK hKK => ?_)
      go_simp
      refine (HDP.out x5.drew k _ _ hlt HX5.out.drew).mono ?_
      rintro e x6 ⟨⟨t, rfl⟩, hx6, hs6⟩
      dsimp only
      have RA6 := Lib.hid (hs6.row (by simp) RA.out.drew)
      have HX6 := Lib.hid hx6
      refine hKK _ _ _ (fun _ h => h) RA6.out ?_
      clear hKK hx6 hs6 RA HX5
      refine wpPlan_nil ?_
      go_upto_region 24 with fail
      refine wp_region_plan (S := fun W' => Row W' B 32 (cellsA (k3 x y k))) [(0, true), (1, true), (2, true), (3, true), (4, false)] (by kernel_rfl) (by kernel_rfl) (by kernel_rfl) (by decide) (fun _ _ d _ _ h => by cases d <;> exact h) RA6.out.drew ?_
      simp only [stepsOf, nth, slotOf]
      iterate 3 (refine wpPlan_plain ?_ (by rfl) ?_ ?_; rotate_left; (focus (intro w' hw'; go_simp; try with_reducible rfl)); go_simp)
      refine wpPlan_plain (encA (k3 x y k)) (by rfl) (fun w' hw' => exec_load rfl rfl (run_loadRow isAgg_A size_A rfl hw')) ?_
      go_simp
      refine wpPlan_loud (by rfl) (fun KK hKK => ?_)
      go_simp
      refine (HDF.out x6.drew k _ _ hlt HX6.out.drew).mono ?_
      rintro e x7 ⟨⟨t2, rfl⟩, hx7, hs7⟩
      dsimp only
      have HX7 := Lib.hid (hx7.sub (L' := L) (fun k hk => by simp [hk]))
      refine hKK _ _ _ (fun _ h => h) (hs7.row (by simp) RA6.out.drew) ?_
      clear hKK hx7 hs7 RA6 HX6
      refine wpPlan_nil ?_
      go_wp2_with fail
      go_round
      case rel => exact ⟨k + 1, by omega, by go_num, HX7⟩
      case measure => simp [intOf]; omega
    · obtain rfl : k = p := by omega
      go_wp2_with fail
      go_ret
      exact ⟨rfl, HXk.out⟩
end
end Go.Proofs.YtfploeefmnbpcaaGreat
