import Derived.Test.YtfploeefmnbpcaaGreatG22
/- A flash: a page is programmed: the walks. -/
namespace Go.Proofs.YtfploeefmnbpcaaGreat
open Go.RowKit Mp Go.ChangeMaps

/-- What a program tells, and what becomes of the page. -/
def progV (cut : Option Nat) (bad : Bool) (pg : List Nat) : Int × Value :=
  match cut with
  | some j => (9, pgV (headL pg j) false true)
  | none => if bad = true then (7, pgV z32 true false) else (0, pgV pg false false)
theorem exec_build1 {ρ : Operand → Value} {o : Oper} {t : TypeId} {x : Operand} {u v : Value} (hop : o.op = .build t #[(0, x)]) (hx : ρ x = u) {w : World} (h : (Instr.build t #[(0, u)]).run Tryz.prog w = .ok v w) : (execOp ρ o).run Tryz.prog w = .ok (.value v) w :=
  exec_build hop (by simp [hx]) h
theorem okP32 {p : List Nat} (h : okP p) : ∃ b0 b1 b2 b3 b4 b5 b6 b7 b8 b9 b10 b11 b12 b13 b14 b15 b16 b17 b18 b19 b20 b21 b22 b23 b24 b25 b26 b27 b28 b29 b30 b31, p = [b0, b1, b2, b3, b4, b5, b6, b7, b8, b9, b10, b11, b12, b13, b14, b15, b16, b17, b18, b19, b20, b21, b22, b23, b24, b25, b26, b27, b28, b29, b30, b31] := by
  have h1 := h.1
  match p, h1 with
  | [b0, b1, b2, b3, b4, b5, b6, b7, b8, b9, b10, b11, b12, b13, b14, b15, b16, b17, b18, b19, b20, b21, b22, b23, b24, b25, b26, b27, b28, b29, b30, b31], _ => exact ⟨b0, b1, b2, b3, b4, b5, b6, b7, b8, b9, b10, b11, b12, b13, b14, b15, b16, b17, b18, b19, b20, b21, b22, b23, b24, b25, b26, b27, b28, b29, b30, b31, rfl⟩
theorem build_page {p : List Nat} (h : okP p) (m : Bool) : ∀ W : World, (Instr.build 83 #[(0, encP p), (2, .bool m)]).run Tryz.prog W = .ok (pgV p false m) W := by
  obtain ⟨b0, b1, b2, b3, b4, b5, b6, b7, b8, b9, b10, b11, b12, b13, b14, b15, b16, b17, b18, b19, b20, b21, b22, b23, b24, b25, b26, b27, b28, b29, b30, b31, rfl⟩ := okP32 h
  intro W; kernel_rfl
theorem build_page1 {p : List Nat} (h : okP p) : ∀ W : World, (Instr.build 83 #[(0, encP p)]).run Tryz.prog W = .ok (pgV p false false) W := by
  obtain ⟨b0, b1, b2, b3, b4, b5, b6, b7, b8, b9, b10, b11, b12, b13, b14, b15, b16, b17, b18, b19, b20, b21, b22, b23, b24, b25, b26, b27, b28, b29, b30, b31, rfl⟩ := okP32 h
  intro W; kernel_rfl
theorem okA_k3 {x y z : Nat} (hx : x < 6) (hy : y < 16) (hz : z < 8) : okA (k3 x y z) := by
  refine ⟨?_, ?_, ?_⟩ <;> simp [okI, Lit.wf, IntKind.min, IntKind.max, IntKind.signed, IntKind.bits] <;> omega

section
variable {F0 : Nat → Prop} {w0 w : World} {g : Nat} {M : FlM} {lp lf : List (A3 × Value)} {L : List Nat}
theorem FlX.setP' (h : FlX F0 w0 w g M lp lf L) (a : A3) (ha : okA a) (v : Value) (hv : okV 34 v) :
    Calls Tryz.prog 49 #[.pointer (some ⟨g, 399, none⟩), encA a, v] w fun e w' => e = .returned (.tuple #[]) ∧ (FlX F0 w0 w' g M ((a, v) :: delA lp a) lf L ∧ Same L w w') ∧ ∀ i, i < 399 → w'.cell? ⟨g, i, none⟩ = w.cell? ⟨g, i, none⟩ := by
  obtain ⟨c, h1, h2⟩ := h
  obtain ⟨mp, mf, j1, j2, j3⟩ := h1.ex
  refine (setPg_any g 399 mp lp a v w j1.pages ha hv).mono ?_
  rintro e w' ⟨rfl, mp', k1, k2, k3⟩
  have := FlS.mapP j1 j2 j3 h1.lt h1.keeps k1 k2 k3
  exact ⟨rfl, ⟨⟨c, this.1, h2⟩, this.2⟩, fun i hi => (this.1.cell hi).trans (h1.cell hi).symm⟩
set_option maxRecDepth 100000
set_option maxHeartbeats 4000000
theorem prog_err (h : FlX F0 w0 w g M lp lf L) (a : A3) (pg : List Nat) (er : Int) (hb : M.bars a.1 a.2.1 a.2.2 = some er) :
    Calls Tryz.prog 18 #[nptr g, encA a, encP pg] w fun e w' => e = .returned (.int .i64 er) ∧ Below w.heap.size w w' := by
  have hne := bars_ne hb
  have HR : Hid (∀ (W : World), FlX F0 w0 W g M lp lf L → Calls Tryz.prog 44 #[nptr g, encA a] W fun e w' => e = .returned (.int .i64 er) ∧ Below W.heap.size W w') := fun W hX => by have := reach_any hX a.1 a.2.1 a.2.2; rw [hb] at this; exact this
  have NEW := Lib.hid (new_two w 32 34 (cellsA a) (cellsP pg))
  have HXN := Lib.hid (h.below NEW.out.2.2.1).1
  clear h hb
  go_enter Tryz.func18, Tryz.ntmps18
  go_wp2_with (first | (refine wpList_value rfl (exec_box (cs := cellsA a) rfl rfl _) ?_) | (refine wpList_value rfl (exec_box (cs := cellsP pg) rfl rfl _) ?_) | (refine wpList_value (v := encA a) rfl (exec_load rfl rfl (run_loadRow isAgg_A size_A rfl NEW.out.1)) ?_) | (go_at_call 44; (with_reducible refine (HR.out _ HXN.out).mono ?_); rintro e x2 ⟨rfl, hbx⟩; have HB := Lib.hid (NEW.out.2.2.1.trans (hbx.mono NEW.out.2.2.1.size)); clear hbx))
  go_ret
  exact ⟨rfl, HB.out⟩
theorem prog_order (h : FlX F0 w0 w g M lp lf L) (x y z : Nat) (pg : List Nat) (hb : M.bars x y z = none) (hx : x < 6) (hy : y < 16) (hzn : z ≠ (M.blk x y).next) (ho : M.broken < 4000000000000000000) :
    Calls Tryz.prog 18 #[nptr g, encA (k3 x y z), encP pg] w fun e w' => e = .returned (.int .i64 4) ∧ FlX F0 w0 w' g { M with broken := M.broken + 1 } lp lf L := by
  have HR : Hid (∀ (W : World) (L : List Nat), FlX F0 w0 W g M lp lf L → Calls Tryz.prog 44 #[nptr g, encA (k3 x y z)] W fun e w' => e = .returned (.int .i64 0) ∧ Below W.heap.size W w') := fun W L hX => by have := reach_any hX x y z; rw [hb] at this; exact this
  have NEW := Lib.hid (new_two w 32 34 (cellsA (k3 x y z)) (cellsP pg))
  have HXN := Lib.hid (h.fresh NEW.out.2.2.1 [w.heap.size, w.heap.size + 1] (fun k hk => by
    have := NEW.out.2.2.2
    simp only [List.mem_cons, List.not_mem_nil, or_false] at hk
    omega))
  have hne : ¬ ((z : Int) = ((M.blk x y).next : Int)) := by omega
  obtain ⟨n, hn⟩ : ∃ n : Int, ((M.blk x y).next : Int) = n := ⟨_, rfl⟩
  rw [hn] at hne
  have HN := Lib.hid hn
  have HO := Lib.hid ho
  clear h hb hn hzn ho
  go_enter Tryz.func18, Tryz.ntmps18
  go_upto_region 4 with (first | (refine wpList_value rfl (exec_box (cs := cellsA (k3 x y z)) rfl rfl _) ?_) | (refine wpList_value rfl (exec_box (cs := cellsP pg) rfl rfl _) ?_) | (refine wpList_value (v := encA (k3 x y z)) rfl (exec_load rfl rfl (run_loadRow isAgg_A size_A rfl NEW.out.1)) ?_) | (go_at_call 44; (with_reducible refine (HR.out _ _ HXN.out).mono ?_); rintro e x2 ⟨rfl, hbx⟩; have RB := Lib.hid (NEW.out.1.below hbx (Nat.le_refl _)); have HXW := Lib.hid (HXN.out.below hbx).1; clear hbx))
  have a0 : x2.cell? ⟨w.heap.size, 0, none⟩ = some (.int .i64 (x : Int)) := RB.out.cell rfl
  have a1 : x2.cell? ⟨w.heap.size, 1, none⟩ = some (.int .i64 (y : Int)) := RB.out.cell rfl
  have a2 : x2.cell? ⟨w.heap.size, 2, none⟩ = some (.int .i64 (z : Int)) := RB.out.cell rfl
  have b0 := HXW.out.next hx hy
  rw [HN.out] at b0
  go_quiet (fail)
  go_upto_region 5 with fail
  refine gen_drewN (p := fun W => FlX F0 w0 W g M lp lf ([w.heap.size, w.heap.size + 1] ++ L) ∧ W.cell? ⟨w.heap.size, 2, none⟩ = some (.int .i64 (z : Int)) ∧ W.cell? ⟨g, 15 + x * 64 + y * 4, none⟩ = some (.int .i64 n)) (fun n => ⟨HXW.out.drewN n, a2, b0⟩) ?_
  clear a0 a1 a2 b0 RB HXW
  intro x3 NW
  obtain ⟨hxw, a2, b0⟩ := NW
  have HXW := Lib.hid hxw
  clear hxw
  go_simp
  go_quiet (fail)
  go_upto_region 6 with fail
  refine gen_drewN (p := fun W => FlX F0 w0 W g M lp lf ([w.heap.size, w.heap.size + 1] ++ L)) (fun n => HXW.out.drewN n) ?_
  clear a2 b0 HXW
  intro x4 hxw
  have HXW := Lib.hid hxw
  have b8 := HXW.out.broken
  have f8 := HXW.out.free (i := 8) (by omega)
  obtain ⟨v, hv⟩ : ∃ v : Int, (M.broken : Int) = v := ⟨_, rfl⟩
  rw [hv] at b8
  have hv0 : 0 ≤ v := by omega
  have hv1 : v < 4000000000000000000 := by have := HO.out; omega
  have HV := Lib.hid (show v + 1 = ((M.broken + 1 : Nat) : Int) by omega)
  clear hv hxw
  go_simp
  go_wp2
  go_ret
  rw [HV.out]
  exact ⟨rfl, FlX.sub (FlX.set HXW.out (i := 8) (by omega) _ (fun c h => h.broken' (M.broken + 1))).1 (fun k hk => by simp [hk])⟩
theorem prog_go (h : FlX F0 w0 w g M lp lf L) (x y z : Nat) (pg : List Nat) (hpg : okP pg) (hb : M.bars x y z = none) (hx : x < 6) (hy : y < 16) (hz : z < M.p) (hz8 : z < 8) (hzn : z = (M.blk x y).next) (ho : M.ops < 4000000000000000000)
    (hvp : ∀ p ∈ lp, okV 34 p.2) (hvf : ∀ p ∈ lf, okV 0 p.2) (hl : getA lp (k3 x y z) = none) (t : Bool) (ht : (getA lf (k3 x y z)).isSome = t) :
    Calls Tryz.prog 18 #[nptr g, encA (k3 x y z), encP pg] w fun e w' => e = .returned (.int .i64 (progV M.cutNow (t || (M.blk x y).met) pg).1) ∧
      FlX F0 w0 w' g (M.setB x y { M.blk x y with next := z + 1 }).tick ((k3 x y z, (progV M.cutNow (t || (M.blk x y).met) pg).2) :: delA lp (k3 x y z)) (delA lf (k3 x y z)) L := by
  have hpow := (bars_in hb).1
  have HR : Hid (∀ (W : World) (L : List Nat), FlX F0 w0 W g M lp lf L → Calls Tryz.prog 44 #[nptr g, encA (k3 x y z)] W fun e w' => e = .returned (.int .i64 0) ∧ Below W.heap.size W w') := fun W L hX => by have := reach_any hX x y z; rw [hb] at this; exact this
  have NEW := Lib.hid (new_two w 32 34 (cellsA (k3 x y z)) (cellsP pg))
  have HXN := Lib.hid (h.fresh NEW.out.2.2.1 [w.heap.size, w.heap.size + 1] (fun k hk => by
    have := NEW.out.2.2.2
    simp only [List.mem_cons, List.not_mem_nil, or_false] at hk
    omega))
  obtain ⟨M1, hM1⟩ : ∃ M1, M.setB x y { M.blk x y with next := z + 1 } = M1 := ⟨_, rfl⟩
  have hok : okA (k3 x y z) := okA_k3 hx hy hz8
  have HDR : Hid (∀ (W : World) (L : List Nat), FlX F0 w0 W g M1 lp lf L → Calls Tryz.prog 48 #[.pointer (some ⟨g, 400, none⟩), encA (k3 x y z)] W fun e w' => e = .returned (.bool t) ∧ FlX F0 w0 w' g M1 lp (delA lf (k3 x y z)) L ∧ Same L W w') := fun W L hX => by have := hX.dropF _ hok hvf; rwa [ht] at this
  have HST : Hid (∀ (W : World) (L : List Nat) (v : Value), okV 34 v → FlX F0 w0 W g M1.tick lp (delA lf (k3 x y z)) L → Calls Tryz.prog 49 #[.pointer (some ⟨g, 399, none⟩), encA (k3 x y z), v] W fun e w' => e = .returned (.tuple #[]) ∧ (FlX F0 w0 w' g M1.tick ((k3 x y z, v) :: delA lp (k3 x y z)) (delA lf (k3 x y z)) L ∧ Same L W w') ∧ ∀ i, i < 399 → w'.cell? ⟨g, i, none⟩ = W.cell? ⟨g, i, none⟩) := fun W L v hv hX => hX.setP' _ hok v hv
  have HLO : Hid (∀ (W : World) (L : List Nat), FlX F0 w0 W g M1.tick lp (delA lf (k3 x y z)) L → Calls Tryz.prog 46 #[nptr g, encA (k3 x y z)] W fun e w' => e = .returned (.tuple #[]) ∧ FlX F0 w0 w' g M1.tick ((k3 x y z, pgV z32 true false) :: delA lp (k3 x y z)) (delA lf (k3 x y z)) L ∧ Same L W w') := fun W L hX => lose_any hX _ hok hvp z32 false false (by rw [hl]; rfl) rfl
  have HSTA : Hid (∀ (W : World) (L : List Nat), FlX F0 w0 W g M1 lp (delA lf (k3 x y z)) L → Calls Tryz.prog 45 #[nptr g] W fun e w' => e = .returned (.bool M.cutNow.isSome) ∧ FlX F0 w0 w' g M1.tick lp (delA lf (k3 x y z)) L ∧ Same L W w' ∧ ∀ j, M.cutNow = some j → ∃ k : Int, w'.cell? ⟨g, 6, none⟩ = some (.int .i64 k) ∧ j = (max 0 (min k 32)).toNat) := fun W L hX => by subst hM1; exact start_any hX hpow ho
  have HM1 : Hid (∀ (W : World) (L : List Nat), FlX F0 w0 W g M lp lf L → FlX F0 w0 (W.setCell ⟨g, 15 + x * 64 + y * 4, none⟩ (.int .i64 ((z : Int) + 1))) g M1 lp lf L ∧ Same L W (W.setCell ⟨g, 15 + x * 64 + y * 4, none⟩ (.int .i64 ((z : Int) + 1)))) := fun W L hX => by
    subst hM1
    exact hX.set (by omega) _ (fun c h => h.next' hx hy (z + 1) (by omega))
  have HMET : Hid (∀ (W : World) (lp lf : List (A3 × Value)) (L : List Nat), FlX F0 w0 W g M1.tick lp lf L → W.cell? ⟨g, 15 + x * 64 + y * 4 + 3, none⟩ = some (.bool (M.blk x y).met)) := fun W lp lf L hX => by
    have := hX.met hx hy
    rw [tick_blk, ← hM1, FlM.setB_same] at this
    exact this
  have HNX : Hid (∀ (W : World) (L : List Nat), FlX F0 w0 W g M lp lf L → W.cell? ⟨g, 15 + x * 64 + y * 4, none⟩ = some (.int .i64 (z : Int))) := fun W L hX => by have := hX.next hx hy; rwa [← hzn] at this
  have HPG := Lib.hid hpg
  have hz8i : (z : Int) < 8 := by omega
  generalize M.cutNow = cu at HSTA ⊢
  generalize (M.blk x y).met = met at HMET ⊢
  rw [hM1]
  clear h hb hzn ho hvp hvf hl ht hpow hM1 hpg hok hz
  go_enter Tryz.func18, Tryz.ntmps18
  go_upto_region 4 with (first | (refine wpList_value rfl (exec_box (cs := cellsA (k3 x y z)) rfl rfl _) ?_) | (refine wpList_value rfl (exec_box (cs := cellsP pg) rfl rfl _) ?_) | (refine wpList_value (v := encA (k3 x y z)) rfl (exec_load rfl rfl (run_loadRow isAgg_A size_A rfl NEW.out.1)) ?_) | (go_at_call 44; (with_reducible refine (HR.out _ _ HXN.out).mono ?_); rintro e x2 ⟨rfl, hbx⟩; have RB := Lib.hid (NEW.out.1.below hbx (Nat.le_refl _)); have RQ := Lib.hid (NEW.out.2.1.below hbx (Nat.le_refl _)); have HXW := Lib.hid (HXN.out.below hbx).1; clear hbx))
  have a0 : x2.cell? ⟨w.heap.size, 0, none⟩ = some (.int .i64 (x : Int)) := RB.out.cell rfl
  have a1 : x2.cell? ⟨w.heap.size, 1, none⟩ = some (.int .i64 (y : Int)) := RB.out.cell rfl
  have a2 : x2.cell? ⟨w.heap.size, 2, none⟩ = some (.int .i64 (z : Int)) := RB.out.cell rfl
  have b0 := HNX.out _ _ HXW.out
  have bf := HXW.out.free (i := 15 + x * 64 + y * 4) (by omega)
  obtain ⟨B, hB⟩ : ∃ B, w.heap.size = B := ⟨_, rfl⟩
  rw [hB] at a0 a1 a2 RB RQ HXW ⊢
  go_quiet (fail)
  go_upto_region 5 with fail
  refine gen_drewN (p := fun W => FlX F0 w0 W g M lp lf ([B, B + 1] ++ L) ∧ Row W B 32 (cellsA (k3 x y z)) ∧ Row W (B + 1) 34 (cellsP pg)) (fun n => ⟨HXW.out.drewN n, RB.out, RQ.out⟩) ?_
  clear a0 a1 a2 b0 bf RB RQ HXW
  intro x3 NW
  obtain ⟨hxw, rb, rq⟩ := NW
  have HXW := Lib.hid hxw
  have RB := Lib.hid rb
  have RQ := Lib.hid rq
  have a2 : x3.cell? ⟨B, 2, none⟩ = some (.int .i64 (z : Int)) := RB.out.cell rfl
  have b0 := HNX.out _ _ HXW.out
  clear hxw rb rq
  go_simp
  go_quiet (fail)
  go_upto_region 8 with fail
  refine gen_drewN (p := fun W => FlX F0 w0 W g M lp lf ([B, B + 1] ++ L) ∧ Row W B 32 (cellsA (k3 x y z)) ∧ Row W (B + 1) 34 (cellsP pg)) (fun n => ⟨HXW.out.drewN n, RB.out, RQ.out⟩) ?_
  clear a2 b0 RB RQ HXW
  intro x4 NW
  obtain ⟨hxw, rb, rq⟩ := NW
  have b0 := HNX.out _ _ hxw
  have bf := hxw.free (i := 15 + x * 64 + y * 4) (by omega)
  have hs := HM1.out _ _ hxw
  have HXW := Lib.hid hs.1
  have RB := Lib.hid (hs.2.row (by simp) rb)
  have RQ := Lib.hid (hs.2.row (by simp) rq)
  clear hxw rb rq hs
  go_simp
  go_upto_region 9 with fail
  refine gen_world (p := fun W => FlX F0 w0 W g M1 lp lf ([B, B + 1] ++ L) ∧ Row W B 32 (cellsA (k3 x y z)) ∧ Row W (B + 1) 34 (cellsP pg)) ⟨HXW.out, RB.out, RQ.out⟩ ?_
  clear b0 bf RB RQ HXW
  intro x5 NW
  obtain ⟨hxw, rb, rq⟩ := NW
  have HXW := Lib.hid hxw
  have RB := Lib.hid rb
  have RQ := Lib.hid rq
  clear hxw rb rq
  go_simp
  refine wp_region_plan (S := fun W' => Row W' B 32 (cellsA (k3 x y z))) [(0, true), (1, true), (2, true), (3, true), (4, false), (5, true)] (by kernel_rfl) (by kernel_rfl) (by kernel_rfl) (by decide) (fun _ _ d _ _ h => by cases d <;> exact h) RB.out.drew ?_
  simp only [stepsOf, nth, slotOf]
  iterate 3 (refine wpPlan_plain ?_ (by rfl) ?_ ?_; rotate_left; (focus (intro w' hw'; go_simp; try with_reducible rfl)); go_simp)
  refine wpPlan_plain (encA (k3 x y z)) (by rfl) (fun w' hw' => exec_load rfl rfl (run_loadRow isAgg_A size_A rfl hw')) ?_
  go_simp
  refine wpPlan_loud (by rfl) (fun KK hKK => ?_)
  go_simp
  refine (HDR.out x5.drew _ HXW.out.drew).mono ?_
  rintro e x6 ⟨rfl, hx6, hs6⟩
  dsimp only
  have RB6 := Lib.hid (hs6.row (by simp) RB.out.drew)
  have RQ6 := Lib.hid (hs6.row (by simp) RQ.out.drew)
  have HX6 := Lib.hid hx6
  refine hKK _ _ _ (fun _ h => h) RB6.out ?_
  clear hKK hx6 hs6 HXW RB RQ
  iterate 1 (refine wpPlan_plain ?_ (by rfl) ?_ ?_; rotate_left; (focus (intro w' hw'; go_simp; try with_reducible rfl)); go_simp)
  refine wpPlan_nil ?_
  go_wp2_with fail
  refine (HSTA.out x6 _ HX6.out).mono ?_
  rintro e x7 ⟨rfl, hx7, hs7, hk7⟩
  dsimp only
  have RB7 := Lib.hid (hs7.row (by simp) RB6.out)
  have RQ7 := Lib.hid (hs7.row (by simp) RQ6.out)
  have HX7 := Lib.hid hx7
  have HK7 := Lib.hid hk7
  have hmet := HMET.out _ _ _ _ hx7
  clear hx7 hs7 hk7 HX6 RB6 RQ6
  cases cu with
  | some j =>
    obtain ⟨k, hk6, hj⟩ := HK7.out j rfl
    have hq := okP_headL HPG.out j (by omega)
    have HQ := Lib.hid hq
    have HHD : Hid (∀ W : World, Calls Tryz.prog 50 #[encP pg, .int .i64 k] W fun e w' => e = .returned (encP (headL pg j)) ∧ Below W.heap.size W w') := fun W => by have := head_any pg HPG.out k W; rwa [← hj] at this
    have HBP := Lib.hid (build_page hq true)
    clear hq hj hmet
    go_upto_region 12 with fail
    refine wp_region_plan (S := fun W' => Row W' B 32 (cellsA (k3 x y z)) ∧ Row W' (B + 1) 34 (cellsP pg) ∧ W'.cell? ⟨g, 6, none⟩ = some (.int .i64 k)) [(0, true), (1, true), (2, true), (3, true), (4, true), (5, true), (6, true), (7, true), (8, true), (9, true), (10, false), (11, true), (12, false)] (by kernel_rfl) (by kernel_rfl) (by kernel_rfl) (by decide) (fun _ _ d _ _ h => by cases d <;> exact h) ⟨RB7.out.drew, RQ7.out.drew, hk6⟩ ?_
    simp only [stepsOf, nth, slotOf]
    iterate 3 (refine wpPlan_plain ?_ (by rfl) ?_ ?_; rotate_left; (focus (intro w' hw'; go_simp; try with_reducible rfl)); go_simp)
    refine wpPlan_plain (encA (k3 x y z)) (by rfl) (fun w' hw' => exec_load rfl rfl (run_loadRow isAgg_A size_A rfl hw'.1)) ?_
    go_simp
    refine wpPlan_plain (encP pg) (by rfl) (fun w' hw' => exec_load rfl rfl (run_loadRow agg_P size_P (cellsP_len HPG.out.1) hw'.2.1)) ?_
    go_simp
    iterate 5 (refine wpPlan_plain ?_ (by rfl) ?_ ?_; rotate_left; (focus (intro w' hw'; obtain ⟨_, _, y2⟩ := hw'; go_simp; try with_reducible rfl)); go_simp)
    refine wpPlan_loud (by rfl) (fun KK hKK => ?_)
    go_simp
    refine (HHD.out x7.drew).mono ?_
    rintro e x8 ⟨rfl, hb8⟩
    dsimp only
    have hg7 := HX7.out.size
    have hh8 := HX7.out.drew.below hb8
    have RB8 := Lib.hid (RB7.out.drew.below hb8 (Nat.le_refl _))
    have RQ8 := Lib.hid (RQ7.out.drew.below hb8 (Nat.le_refl _))
    have hk8 : x8.cell? ⟨g, 6, none⟩ = some (.int .i64 k) := (hb8.cell (p := ⟨g, 6, none⟩) hg7).trans hk6
    have HX8 := Lib.hid hh8.1
    refine hKK _ _ _ (fun _ h => h) ⟨RB8.out, RQ8.out, hk8⟩ ?_
    clear hKK hh8 hb8
    refine wpPlan_plain (pgV (headL pg j) false true) (by rfl) (fun w' _ => exec_build rfl (by go_simp) (HBP.out w')) ?_
    go_simp
    refine wpPlan_loud (by rfl) (fun KK hKK => ?_)
    go_simp
    refine (HST.out x8 _ _ (okV_pgV false true HQ.out.1) HX8.out).mono ?_
    rintro e x9 ⟨rfl, ⟨hx9, hs9⟩, hc9⟩
    dsimp only
    refine hKK (fun W' => W' = x9) _ _ (fun W' h => ?_) rfl ?_
    · subst h
      exact ⟨hs9.row (by simp) RB8.out, hs9.row (by simp) RQ8.out, (hc9 6 (by omega)).trans hk8⟩
    clear hKK
    refine wpPlan_nil ?_
    go_wp2
    go_ret
    rw [show progV (some j) (t || met) pg = (9, pgV (headL pg j) false true) from rfl]
    exact ⟨rfl, hx9.sub (fun k hk => by simp [hk])⟩
  | none =>
    cases hbad : (t || met) with
    | true =>
      have hq : ∀ (b : Bool), t = b → b = true ∨ (b = false ∧ met = true) := by
        intro b hb; subst hb; cases t
        · exact .inr ⟨rfl, by simpa using hbad⟩
        · exact .inl rfl
      cases t with
      | true =>
        clear hq hbad
        have hpv := Lib.hid (show progV none (true || met) pg = (7, pgV z32 true false) from rfl)
        go_wp2_with (refine wpList_value (v := encA (k3 x y z)) rfl (exec_load rfl rfl (run_loadRow isAgg_A size_A rfl RB7.out)) ?_)
        refine (HLO.out x7 _ HX7.out).mono ?_
        rintro e x8 ⟨rfl, hx8, hs8⟩
        dsimp only
        go_wp2_with fail
        go_ret
        rw [hpv.out]
        exact ⟨rfl, hx8.sub (fun k hk => by simp [hk])⟩
      | false =>
        obtain rfl : met = true := by simpa using hbad
        clear hq hbad
        have hpv := Lib.hid (show progV none (false || true) pg = (7, pgV z32 true false) from rfl)
        go_wp2_with (refine wpList_value (v := encA (k3 x y z)) rfl (exec_load rfl rfl (run_loadRow isAgg_A size_A rfl RB7.out)) ?_)
        refine (HLO.out x7 _ HX7.out).mono ?_
        rintro e x8 ⟨rfl, hx8, hs8⟩
        dsimp only
        go_wp2_with fail
        go_ret
        rw [hpv.out]
        exact ⟨rfl, hx8.sub (fun k hk => by simp [hk])⟩
    | false =>
      obtain ⟨rfl, rfl⟩ : t = false ∧ met = false := by cases t <;> cases met <;> simp_all
      have HBP := Lib.hid (build_page1 HPG.out)
      clear hbad
      go_upto_region 17 with fail
      refine wp_region_plan (S := fun W' => Row W' B 32 (cellsA (k3 x y z)) ∧ Row W' (B + 1) 34 (cellsP pg)) [(0, true), (1, true), (2, true), (3, true), (4, true), (5, true), (6, false)] (by kernel_rfl) (by kernel_rfl) (by kernel_rfl) (by decide) (fun _ _ d _ _ h => by cases d <;> exact h) ⟨RB7.out.drew, RQ7.out.drew⟩ ?_
      simp only [stepsOf, nth, slotOf]
      iterate 3 (refine wpPlan_plain ?_ (by rfl) ?_ ?_; rotate_left; (focus (intro w' hw'; go_simp; try with_reducible rfl)); go_simp)
      refine wpPlan_plain (encA (k3 x y z)) (by rfl) (fun w' hw' => exec_load rfl rfl (run_loadRow isAgg_A size_A rfl hw'.1)) ?_
      go_simp
      refine wpPlan_plain (encP pg) (by rfl) (fun w' hw' => exec_load rfl rfl (run_loadRow agg_P size_P (cellsP_len HPG.out.1) hw'.2)) ?_
      go_simp
      refine wpPlan_plain (pgV pg false false) (by rfl) (fun w' _ => exec_build rfl (by go_simp) (HBP.out w')) ?_
      go_simp
      refine wpPlan_loud (by rfl) (fun KK hKK => ?_)
      go_simp
      refine (HST.out x7.drew _ _ (okV_pgV false false HPG.out.1) HX7.out.drew).mono ?_
      rintro e x9 ⟨rfl, ⟨hx9, hs9⟩, hc9⟩
      dsimp only
      refine hKK _ _ _ (fun _ h => h) ⟨hs9.row (by simp) RB7.out.drew, hs9.row (by simp) RQ7.out.drew⟩ ?_
      clear hKK
      refine wpPlan_nil ?_
      go_wp2
      go_ret
      rw [show progV none (false || false) pg = (0, pgV pg false false) from rfl]
      exact ⟨rfl, hx9.sub (fun k hk => by simp [hk])⟩
end
end Go.Proofs.YtfploeefmnbpcaaGreat
