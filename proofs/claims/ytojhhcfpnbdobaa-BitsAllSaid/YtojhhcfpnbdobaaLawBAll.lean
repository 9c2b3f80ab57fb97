/- The law BitsAll: the walk. -/
import Derived.Test.YtojhhcfpnbdobaaFields
import Derived.Test.YtojhhcfpnbdobaaBack
import Derived.Test.YtojhhcfpnbdobaaConv
import Derived.Test.YtojhhcfpnbdobaaTree
namespace Go.Proofs.Ytojhhcfpnbdobaa
open Go.RowKit

theorem pair_one (k k' : IntKind) (q q' : Int) : ∀ u ∈ [Value.int k q, Value.int k' q'], Value.oneCell' u = true := by
  intro u hu
  rcases List.mem_cons.1 hu with h | h
  · subst h; rfl
  · rw [List.mem_singleton] at h; subst h; rfl

/-- A row of fields, as it is read. -/
theorem own_fields {x : World} {B q : Nat} {v : Value} {fs : List (Nat × Nat)} (h : x.ownsRow B 47 2 v q (cellsF fs)) :
    ∃ a c, v = .slice a q c ∧ q ≤ c ∧ c ≤ 9223372036854775807 ∧ fs.length = q ∧ (q = 0 ∨ ∃ g6, a = some ⟨g6, 0, none⟩ ∧ g6 < x.heap.size ∧ ∀ t (ht : t < fs.length), x.cell? ⟨g6, t * 2, none⟩ = some (.int .u64 ((fs[t]).1 : Int)) ∧ x.cell? ⟨g6, t * 2 + 1, none⟩ = some (.int .i64 ((fs[t]).2 : Int))) := by
  have hl : fs.length = q := by have := h.1; rw [cellsF_length] at this; omega
  rcases h.2 with ⟨rfl, h0⟩ | ⟨g6, cap, cur, rfl, _, hg, hn, hm, _⟩
  · exact ⟨none, 0, by rw [h0], by omega, by omega, hl, .inl h0⟩
  · refine ⟨_, cap, rfl, hn, by unfold maxLen at hm; omega, hl, .inr ⟨g6, rfl, (Array.getElem?_eq_some_iff.1 hg).1, fun t ht => ?_⟩⟩
    obtain ⟨e0, e1⟩ := cellsF_at fs t ht
    have hadd : ∀ j, (⟨g6, 0, none⟩ : Addr).add j = ⟨g6, j, none⟩ := fun j => by unfold Addr.add; split <;> simp_all
    have h0 := h.cells (g := g6) rfl _ _ e0
    have h1 := h.cells (g := g6) rfl _ _ e1
    rw [hadd] at h0 h1
    exact ⟨h0, h1⟩

inductive FieldRel (g : Nat) (w : World) (v5 v6 v7 : Value) (wr : World) : Prop
  | mk (k : Nat) (fs : List (Nat × Nat)) (hk : k ≤ 40) (hfs : fs.length ≤ k) (good : ∀ f ∈ fs, 1 ≤ f.2 ∧ f.2 ≤ 64 ∧ f.1 < 2 ^ f.2) (h7 : v7 = .int .i64 k)
      (own5 : wr.ownsRow (g + 1) 4 1 v5 (M.bitsF fs).length ((M.bitsF fs).map Value.bool)) (own6 : wr.ownsRow (g + 1) 47 2 v6 fs.length (cellsF fs))
      (out : OutIs wr g (M.bitsF fs)) (size : g + 1 ≤ wr.heap.size) (bel : Below w.heap.size w wr)

theorem Try.infoField : (Try.prog.info? 47).map (fun i => (i.zero, i.size, i.bytes)) = some (some (.agg #[.int .u64 0, .int .i64 0]), 2, 16) := by kernel_rfl

/-- Within a round: block h is the field; rows 5 and 6 are the call's own. -/
structure InRound (g h : Nat) (w : World) (U N : Nat) (l : List Bool) (v5 : Value) (n5 : Nat) (xs5 : List Value) (v6 : Value) (n6 : Nat) (xs6 : List Value) (x : World) : Prop where
  blk : x.ownsRow (g + 1) 47 2 (.slice (some ⟨h, 0, none⟩) 1 1) 1 [.int .u64 (U : Int), .int .i64 (N : Int)]
  own5 : x.ownsRow (g + 1) 4 1 v5 n5 xs5
  own6 : x.ownsRow (g + 1) 47 2 v6 n6 xs6
  ne6 : v6.ownBlock ≠ some h
  out : OutIs x g l
  size : g + 1 ≤ x.heap.size
  bel : Below w.heap.size w x
  low : w.heap.size ≤ g
section
variable {g h : Nat} {w x x' : World} {U N : Nat} {l : List Bool} {v5 v6 v : Value} {n5 n6 n : Nat} {xs5 xs6 xs : List Value}
theorem InRound.cells (a : InRound g h w U N l v5 n5 xs5 v6 n6 xs6 x) : x.cell? ⟨h, 0, none⟩ = some (.int .u64 (U : Int)) ∧ x.cell? ⟨h, 1, none⟩ = some (.int .i64 (N : Int)) := by
  have h0 := a.blk.cells (g := h) rfl 0 (.int .u64 (U : Int)) rfl
  have h1 := a.blk.cells (g := h) rfl 1 (.int .i64 (N : Int)) rfl
  exact ⟨by simpa [Addr.add] using h0, by simpa [Addr.add] using h1⟩
theorem InRound.below (a : InRound g h w U N l v5 n5 xs5 v6 n6 xs6 x) (hb : Below x.heap.size x x') : InRound g h w U N l v5 n5 xs5 v6 n6 xs6 x' :=
  ⟨own_below a.blk hb (Nat.le_refl _), own_below a.own5 hb (Nat.le_refl _), own_below a.own6 hb (Nat.le_refl _), a.ne6, out_below a.out hb (out_lt a.out),
    Nat.le_trans a.size hb.size, a.bel.trans (hb.mono a.bel.size), a.low⟩
theorem InRound.alloc (a : InRound g h w U N l v5 n5 xs5 v6 n6 xs6 x) (o : Obj) : InRound g h w U N l v5 n5 xs5 v6 n6 xs6 (x.alloc o) :=
  a.below ((Below.refl _ _).alloc (Nat.le_refl _) o)
theorem InRound.only (a : InRound g h w U N l v5 n5 xs5 v6 n6 xs6 x) (ho : Only g x x') {l' : List Bool} (out : OutIs x' g l') : InRound g h w U N l' v5 n5 xs5 v6 n6 xs6 x' :=
  ⟨own_only a.blk ho (by omega), own_only a.own5 ho (by omega), own_only a.own6 ho (by omega), a.ne6, out, by have := ho.size; have := a.size; omega, a.bel.trans (ho.below a.low), a.low⟩
theorem InRound.grown5 (a : InRound g h w U N l v5 n5 xs5 v6 n6 xs6 x) (hg : x.grownBy x' v5.ownBlock) (hr : x'.ownsRow (g + 1) 4 1 v n xs) : InRound g h w U N l v n xs v6 n6 xs6 x' :=
  ⟨a.blk.kept hg (own_apart a.blk a.own5 (by decide)), hr, a.own6.kept hg (own_apart a.own6 a.own5 (by decide)), a.ne6, grown_out a.out a.own5 hg (by omega),
    Nat.le_trans a.size hg.size, a.bel.grown hg a.bel.size fun k hk => by have := (a.own5.lt k hk).1; have := a.low; omega, a.low⟩
theorem InRound.grown6 (a : InRound g h w U N l v5 n5 xs5 v6 n6 xs6 x) (hg : x.grownBy x' v6.ownBlock) (hr : x'.ownsRow (g + 1) 47 2 v n xs) :
    x'.ownsRow (g + 1) 4 1 v5 n5 xs5 ∧ x'.ownsRow (g + 1) 47 2 v n xs ∧ OutIs x' g l ∧ g + 1 ≤ x'.heap.size ∧ Below w.heap.size w x' ∧
      x'.cell? ⟨h, 0, none⟩ = some (.int .u64 (U : Int)) ∧ x'.cell? ⟨h, 1, none⟩ = some (.int .i64 (N : Int)) :=
  ⟨a.own5.kept hg (own_apart a.own5 a.own6 (by decide)), hr, grown_out a.out a.own6 hg (by omega), Nat.le_trans a.size hg.size,
    a.bel.grown hg a.bel.size fun k hk => by have := (a.own6.lt k hk).1; have := a.low; omega, hg.cell a.cells.1 (fun e => a.ne6 e.symm), hg.cell a.cells.2 (fun e => a.ne6 e.symm)⟩
end

set_option maxRecDepth 100000 in
set_option maxHeartbeats 4000000 in
theorem bitsAll_walk (al : Option Addr) (ll cl : Nat) (ps : List (Int × Int)) (w : World) (hp : IsPairs w al ll cl ps) :
    Calls Try.prog 5 #[.slice al ll cl] w fun e w' => e = .returned (.bool true) ∧ Below w.heap.size w w' := by
  have HP := Lib.hid hp
  obtain ⟨i0, hi, hz0, hz1, hz2⟩ := info_parts Try.infoBool
  obtain ⟨j0, hj, hy0, hy1, hy2⟩ := info_parts Try.infoField
  have hll : ll ≤ 9223372036854775807 := Nat.le_trans hp.fits hp.small
  clear hp
  go_enter Try.func5, Try.ntmps5
  go_wp2_with (go_at_call 21; refine (begun_any _).mono ?_; rintro e w1 ⟨rfl, hb1⟩; have HB1 := Lib.hid hb1; clear hb1)
  obtain ⟨g, hg⟩ : ∃ g, w1.heap.size = g := ⟨_, rfl⟩
  have hnew := new_out w1
  rw [hg] at hnew
  have HNEW := Lib.hid hnew
  have hgw : w.heap.size ≤ g := by rw [← hg]; exact HB1.out.size
  have HG := Lib.hid hgw
  have HB2 := Lib.hid (HB1.out.trans ((Below.refl w.heap.size w1).alloc (by rw [hg]; exact hgw) (.cells Try.zeroCells45 45)))
  have hsz2 : g + 1 ≤ (w1.alloc (.cells Try.zeroCells45 45)).heap.size := by rw [← hg]; simp
  have HSZ2 := Lib.hid hsz2
  rw [hg]
  clear hnew hg hgw HB1 hsz2
  generalize w1.alloc (.cells Try.zeroCells45 45) = w2 at HNEW HB2 HSZ2 ⊢
  go_loopw [5, 6, 7] (fun v5 v6 v7 wr => FieldRel g w v5 v6 v7 wr) (fun _ _ v _ => (40 - intOf v).toNat)
  case atStart => exact ⟨0, [], Nat.zero_le _, by simp, by simp, rfl, World.ownsRow_nil _ _ _ _, World.ownsRow_nil _ _ _ _, HNEW.out, HSZ2.out, HB2.out⟩
  case round =>
    obtain ⟨k, fs, hk, hfs, good, rfl, own5, own6, out, size, bel⟩ := hrel
    have hbl := M.bitsF_length fs fun f hf => (good f hf).2.1
    have hb25 : (M.bitsF fs).length ≤ 2560 := by omega
    have GOOD := Lib.hid good
    have HR5 := Lib.hid own5
    have HR6 := Lib.hid own6
    have HO := Lib.hid out
    have HSZ := Lib.hid size
    have HB := Lib.hid bel
    clear good own5 own6 out size bel hbl
    by_cases hlt : k < ll ∧ k < 40
    · obtain ⟨hkl, hk40⟩ := hlt
      obtain ⟨b, off, rfl, hc0, hc1, u1, u2, v1, v2⟩ := (HP.out.below HB.out).row k hkl
      generalize (ps.getD k (0, 0)).1 = u at hc0 u1 u2
      generalize (ps.getD k (0, 0)).2 = n at hc1 v1 v2
      by_cases hA : n < 1 ∨ 64 < n
      · have HA := Lib.hid hA
        have hx := (Below.refl wr.heap.size wr).alloc (Nat.le_refl _) (.cells #[.int .u64 u, .int .i64 n] 47)
        have HFIN : Hid (FieldRel g w u5 u6 (.int .i64 ((k : Int) + 1)) (wr.alloc (.cells #[.int .u64 u, .int .i64 n] 47))) :=
          ⟨k + 1, fs, by omega, by omega, GOOD.out, by go_num, HR5.out.alloc _, HR6.out.alloc _, out_below HO.out hx (out_lt HO.out), Nat.le_trans HSZ.out hx.size, HB.out.trans (hx.mono HB.out.size)⟩
        clear hx
        rcases hA with hA | hA
        · have hb1 : decide (1 ≤ n) = false := by simp; omega
          go_wp2_with (go_at_call 37; refine (put_width g u n _ HA.out).mono ?_; rintro e w' ⟨rfl, rfl⟩)
          exact ⟨HFIN.out, by simp [intOf]; omega⟩
        · have hb1 : decide (n ≤ 64) = false := by simp; omega
          have hb2 : 1 ≤ n := by omega
          go_wp2_with (go_at_call 37; refine (put_width g u n _ HA.out).mono ?_; rintro e w' ⟨rfl, rfl⟩)
          exact ⟨HFIN.out, by simp [intOf]; omega⟩
      obtain ⟨N, rfl⟩ : ∃ N : Nat, n = N := ⟨n.toNat, by omega⟩
      obtain ⟨U, rfl⟩ := Int.eq_ofNat_of_zero_le u1
      have hN1 : 1 ≤ N := by omega
      have hN2 : N ≤ 64 := by omega
      have hU64 : U < 18446744073709551616 := by omega
      clear hA
      have hsh : N < 64 → IntKind.u64.wrap (2 ^ N) = ((2 ^ N : Nat) : Int) := by
        have : ∀ n : Fin 64, IntKind.u64.wrap (2 ^ n.val) = ((2 ^ n.val : Nat) : Int) := by decide +kernel
        exact fun h => this ⟨N, h⟩
      have hand : N < 64 → bits BinOp.and IntKind.i64 (N : Int) 63 = (N : Int) := by
        have : ∀ n : Fin 64, bits BinOp.and IntKind.i64 ((n.val : Nat) : Int) 63 = ((n.val : Nat) : Int) := by decide +kernel
        exact fun h => this ⟨N, h⟩
      by_cases hU : U < 2 ^ N
      · have hcase : ((N : Int) == 64) = true ∨ (N < 64 ∧ ((N : Int) == 64) = false ∧ decide ((U : Int) < IntKind.u64.wrap (2 ^ N)) = true) := by
          by_cases h64 : N = 64
          · left; simp [h64]
          · right
            refine ⟨by omega, by simp; omega, ?_⟩
            rw [hsh (by omega)]
            simp only [decide_eq_true_eq]
            exact Int.ofNat_lt.2 hU
        clear hsh
        have hyes : ∃ ok : Bool, ok = true := ⟨true, rfl⟩
        clear hyes
        rcases hcase with hne | ⟨hNl, hne, hlt⟩
        all_goals (try have hand := hand hNl)
        all_goals
          have HU := Lib.hid hU
          have HN1 := Lib.hid hN1
          have HN2 := Lib.hid hN2
          clear hU
          obtain ⟨h, hh⟩ : ∃ h, wr.heap.size = h := ⟨_, rfl⟩
          have hx := (Below.refl wr.heap.size wr).alloc (Nat.le_refl _) (.cells #[.int .u64 (U : Int), .int .i64 (N : Int)] 47)
          have at1 : InRound g h w U N (M.bitsF fs) u5 (M.bitsF fs).length ((M.bitsF fs).map Value.bool) u6 fs.length (cellsF fs) (wr.alloc (.cells #[.int .u64 (U : Int), .int .i64 (N : Int)] 47)) := by
            refine ⟨?_, HR5.out.alloc _, HR6.out.alloc _, fun e => ?_, out_below HO.out hx (out_lt HO.out), Nat.le_trans HSZ.out hx.size, HB.out.trans (hx.mono HB.out.size), HG.out⟩
            · rw [← hh]; exact own_field wr (g + 1) HSZ.out _ _ _
            · have := (HR6.out.lt h e).2; omega
          have AT1 := Lib.hid at1
          have HH := Lib.hid hh
          clear hx at1 hh HO HR5 HR6 HB HSZ
          go_wp2_with fail
          rw [HH.out]
          generalize wr.alloc (.cells #[.int .u64 (U : Int), .int .i64 (N : Int)] 47) = x1 at AT1 ⊢
          refine (put_good g U N (M.bitsF fs) _ HN1.out HN2.out HU.out AT1.out.out (by have := HN2.out; omega)).mono ?_
          rintro e x2 ⟨rfl, ho, hon⟩
          have AT2 := Lib.hid (AT1.out.only hon ho)
          have hc := AT2.out.cells
          obtain ⟨hcu, hcn⟩ := hc
          have HBITS := Lib.hid (fun w => bits_any U N w (Nat.lt_of_lt_of_le HU.out (Nat.pow_le_pow_right (n := 2) (by omega) HN2.out)) HN2.out)
          have HS0 : Hid (InRound g h w U N (M.bitsF fs ++ M.bitsOf U N) u5 (M.bitsF fs).length ((M.bitsF fs).map Value.bool) u6 fs.length (cellsF fs) x2.drew) := ⟨AT2.out.blk, AT2.out.own5, AT2.out.own6, AT2.out.ne6, out_cells AT2.out.out rfl, AT2.out.size, AT2.out.bel.drew, AT2.out.low⟩
          clear ho hon AT1
          go_wp2_with fail
          clear hcu hcn
          refine wp_region_tree (S := fun w' => w'.cell? ⟨h, 0, none⟩ = some (.int .u64 (U : Int)) ∧ w'.cell? ⟨h, 1, none⟩ = some (.int .i64 (N : Int)))
            (.plain 0 (.plain 1 (.plain 2 (.plain 3 (.plain 4 (.plain 7 (.plain 8 (.fork 5 (.fork 6 (.one 9 (.one 10 (.plain 11 (.plain 12 .nil)))) 9 (.one 6 (.one 10 (.plain 11 (.plain 12 .nil))))) 9 (.one 5 (.one 6 (.one 10 (.plain 11 (.plain 12 .nil)))))))))))))
            (by kernel_rfl) (by kernel_rfl) (by kernel_rfl) (by decide) (fun _ _ d _ _ h => by cases d <;> exact h) HS0.out.cells ?_
          simp only [treeOf, psOf, nth, slotOf]
          iterate 7 (refine wpT_plain ?_ (by rfl) ?_ ?_; rotate_left; (focus (intro w' hw'; obtain ⟨hw0, hw1⟩ := hw'; go_simp; try with_reducible rfl)); go_simp)
          refine wpT_fork (by rfl) (by rfl) (fun K hK => ?_) (fun K hK => ?_)
          · go_simp
            go_wp2_with ((with_reducible refine (HBITS.out _).mono ?_); rintro e x3 ⟨v71, rfl, hown, hb⟩)
            obtain ⟨g2, cap2, rfl, hg2, hcp2, hcm2, hcl2⟩ := own_spot hown HN1.out
            have AT3 := Lib.hid (HS0.out.below hb)
            have R71 : Hid (x3.ownsRow (g + 1) 4 1 (.slice (some ⟨g2, 0, none⟩) N cap2) N ((M.bitsOf U N).map Value.bool)) := by
              have := hown
              rw [bitVals_all] at this
              exact own_lower this HS0.out.size
            refine hK _ _ _ (fun _ h => h) AT3.out.cells ?_
            clear hown hb hcl2 hK
            refine wpT_fork (by rfl) (by rfl) (fun K hK => ?_) (fun K hK => ?_)
            · refine wp_append_own _ _ _ 36 rfl (g + 1) 4 i0 (.bool false) 1 1 Try.underlying36 hi hz0 hz1 hz2 rfl (by decide) u5 (M.bitsF fs).length _ rfl AT3.out.own5 ⟨g2, 0, none⟩ N cap2 _ rfl (by rw [List.length_map, M.bitsOf_length, Nat.mul_one]) (R71.out.cells rfl) (bools_one _) (by have := HN2.out; unfold maxLen; omega) (by have := HN2.out; omega) (by have := AT3.out.size; omega) ?_
              intro v5' x4 hown' hgrow _
              have AT4 := Lib.hid (AT3.out.grown5 hgrow hown')
              refine hK _ _ _ (fun _ h => h) AT4.out.cells ?_
              clear hown' hgrow hK
              go_simp
              refine wpT_loud (by rfl) (fun K hK => ?_)
              go_simp
              have AT5 := Lib.hid (AT4.out.alloc (.cells #[.int .u64 (U : Int), .int .i64 (N : Int)] 47))
              have R75 := Lib.hid (own_field x4 (g + 1) AT4.out.size (.int .u64 (U : Int)) (.int .i64 (N : Int)) 47)
              refine hK _ _ _ (fun _ h => h) AT5.out.cells ?_
              clear hK
              refine wpT_loud (by rfl) (fun K hK => ?_)
              refine wp_append_own _ _ _ 41 rfl (g + 1) 47 j0 (.agg #[.int .u64 0, .int .i64 0]) 2 16 Try.underlying41 hj hy0 hy1 hy2 rfl (by decide) u6 fs.length _ rfl AT5.out.own6 ⟨x4.heap.size, 0, none⟩ 1 1 [.int .u64 (U : Int), .int .i64 (N : Int)] rfl rfl (R75.out.cells rfl) (pair_one _ _ _ _) (by unfold maxLen; omega) (by omega) (by have := AT5.out.size; omega) ?_
              intro v6' x6 hown' hgrow _
              obtain ⟨r5, r6, ho6, hs6, hb6, hc60, hc61⟩ := AT5.out.grown6 hgrow hown'
              refine hK _ _ _ (fun _ h => h) ⟨hc60, hc61⟩ ?_
              have HFIN : Hid (FieldRel g w v5' v6' (.int .i64 ((k : Int) + 1)) x6) := ⟨k + 1, fs ++ [(U, N)], by omega, by rw [List.length_append]; simp; omega, fun f hf => by
                  rcases List.mem_append.1 hf with hf | hf
                  · exact GOOD.out f hf
                  · rw [List.mem_singleton] at hf; subst hf; exact ⟨HN1.out, HN2.out, HU.out⟩, by go_num, by
                  rw [M.bitsF_snoc, List.length_append, M.bitsOf_length, List.map_append]; exact r5, by
                  rw [List.length_append, ← cellsF_snoc]; exact r6, by rw [M.bitsF_snoc]; exact ho6, hs6, hb6⟩
              clear hown' hgrow hK r5 r6 ho6 hs6 hb6 hc60 hc61
              go_simp
              iterate 2 (refine wpT_plain ?_ (by rfl) ?_ ?_; rotate_left; (focus (intro w' _; go_simp; try with_reducible rfl)); go_simp)
              refine wpT_nil ?_
              go_wp2_with fail
              exact ⟨HFIN.out, by simp [intOf]; omega⟩
            · go_simp
              have AT4 := Lib.hid (AT3.out.alloc (.cells #[.int .u64 (U : Int), .int .i64 (N : Int)] 47))
              have R75 := Lib.hid (own_field x3 (g + 1) AT3.out.size (.int .u64 (U : Int)) (.int .i64 (N : Int)) 47)
              have R71 := Lib.hid (R71.out.alloc (.cells #[.int .u64 (U : Int), .int .i64 (N : Int)] 47))
              refine hK _ _ _ (fun _ h => h) AT4.out.cells ?_
              clear hK
              refine wpT_loud (by rfl) (fun K hK => ?_)
              refine wp_append_own _ _ _ 36 rfl (g + 1) 4 i0 (.bool false) 1 1 Try.underlying36 hi hz0 hz1 hz2 rfl (by decide) u5 (M.bitsF fs).length _ rfl AT4.out.own5 ⟨g2, 0, none⟩ N cap2 _ rfl (by rw [List.length_map, M.bitsOf_length, Nat.mul_one]) (R71.out.cells rfl) (bools_one _) (by have := HN2.out; unfold maxLen; omega) (by have := HN2.out; omega) (by have := AT4.out.size; omega) ?_
              intro v5' x5 hown' hgrow _
              have AT5 := Lib.hid (AT4.out.grown5 hgrow hown')
              have R75 := Lib.hid (R75.out.kept hgrow (own_apart R75.out AT4.out.own5 (by decide)))
              refine hK _ _ _ (fun _ h => h) AT5.out.cells ?_
              clear hown' hgrow hK
              go_simp
              refine wpT_loud (by rfl) (fun K hK => ?_)
              refine wp_append_own _ _ _ 41 rfl (g + 1) 47 j0 (.agg #[.int .u64 0, .int .i64 0]) 2 16 Try.underlying41 hj hy0 hy1 hy2 rfl (by decide) u6 fs.length _ rfl AT5.out.own6 ⟨x3.heap.size, 0, none⟩ 1 1 [.int .u64 (U : Int), .int .i64 (N : Int)] rfl rfl (R75.out.cells rfl) (pair_one _ _ _ _) (by unfold maxLen; omega) (by omega) (by have := AT5.out.size; omega) ?_
              intro v6' x6 hown' hgrow _
              obtain ⟨r5, r6, ho6, hs6, hb6, hc60, hc61⟩ := AT5.out.grown6 hgrow hown'
              refine hK _ _ _ (fun _ h => h) ⟨hc60, hc61⟩ ?_
              have HFIN : Hid (FieldRel g w v5' v6' (.int .i64 ((k : Int) + 1)) x6) := ⟨k + 1, fs ++ [(U, N)], by omega, by rw [List.length_append]; simp; omega, fun f hf => by
                  rcases List.mem_append.1 hf with hf | hf
                  · exact GOOD.out f hf
                  · rw [List.mem_singleton] at hf; subst hf; exact ⟨HN1.out, HN2.out, HU.out⟩, by go_num, by
                  rw [M.bitsF_snoc, List.length_append, M.bitsOf_length, List.map_append]; exact r5, by
                  rw [List.length_append, ← cellsF_snoc]; exact r6, by rw [M.bitsF_snoc]; exact ho6, hs6, hb6⟩
              clear hown' hgrow hK r5 r6 ho6 hs6 hb6 hc60 hc61
              go_simp
              iterate 2 (refine wpT_plain ?_ (by rfl) ?_ ?_; rotate_left; (focus (intro w' _; go_simp; try with_reducible rfl)); go_simp)
              refine wpT_nil ?_
              go_wp2_with fail
              exact ⟨HFIN.out, by simp [intOf]; omega⟩
          · go_simp
            have AT3 := Lib.hid (HS0.out.alloc (.cells #[.int .u64 (U : Int), .int .i64 (N : Int)] 47))
            have R75 := Lib.hid (own_field x2.drew (g + 1) HS0.out.size (.int .u64 (U : Int)) (.int .i64 (N : Int)) 47)
            refine hK _ _ _ (fun _ h => h) AT3.out.cells ?_
            clear hK
            refine wpT_loud (by rfl) (fun K hK => ?_)
            go_simp
            go_wp2_with ((with_reducible refine (HBITS.out _).mono ?_); rintro e x4 ⟨v71, rfl, hown, hb⟩)
            obtain ⟨g2, cap2, rfl, hg2, hcp2, hcm2, hcl2⟩ := own_spot hown HN1.out
            have AT4 := Lib.hid (AT3.out.below hb)
            have R75 := Lib.hid (own_below R75.out hb (Nat.le_refl _))
            have R71 : Hid (x4.ownsRow (g + 1) 4 1 (.slice (some ⟨g2, 0, none⟩) N cap2) N ((M.bitsOf U N).map Value.bool)) := by
              have := hown
              rw [bitVals_all] at this
              exact own_lower this AT3.out.size
            refine hK _ _ _ (fun _ h => h) AT4.out.cells ?_
            clear hown hb hcl2 hK
            refine wpT_loud (by rfl) (fun K hK => ?_)
            refine wp_append_own _ _ _ 36 rfl (g + 1) 4 i0 (.bool false) 1 1 Try.underlying36 hi hz0 hz1 hz2 rfl (by decide) u5 (M.bitsF fs).length _ rfl AT4.out.own5 ⟨g2, 0, none⟩ N cap2 _ rfl (by rw [List.length_map, M.bitsOf_length, Nat.mul_one]) (R71.out.cells rfl) (bools_one _) (by have := HN2.out; unfold maxLen; omega) (by have := HN2.out; omega) (by have := AT4.out.size; omega) ?_
            intro v5' x5 hown' hgrow _
            have AT5 := Lib.hid (AT4.out.grown5 hgrow hown')
            have R75 := Lib.hid (R75.out.kept hgrow (own_apart R75.out AT4.out.own5 (by decide)))
            refine hK _ _ _ (fun _ h => h) AT5.out.cells ?_
            clear hown' hgrow hK
            go_simp
            refine wpT_loud (by rfl) (fun K hK => ?_)
            refine wp_append_own _ _ _ 41 rfl (g + 1) 47 j0 (.agg #[.int .u64 0, .int .i64 0]) 2 16 Try.underlying41 hj hy0 hy1 hy2 rfl (by decide) u6 fs.length _ rfl AT5.out.own6 ⟨x2.drew.heap.size, 0, none⟩ 1 1 [.int .u64 (U : Int), .int .i64 (N : Int)] rfl rfl (R75.out.cells rfl) (pair_one _ _ _ _) (by unfold maxLen; omega) (by omega) (by have := AT5.out.size; omega) ?_
            intro v6' x6 hown' hgrow _
            obtain ⟨r5, r6, ho6, hs6, hb6, hc60, hc61⟩ := AT5.out.grown6 hgrow hown'
            refine hK _ _ _ (fun _ h => h) ⟨hc60, hc61⟩ ?_
            have HFIN : Hid (FieldRel g w v5' v6' (.int .i64 ((k : Int) + 1)) x6) := ⟨k + 1, fs ++ [(U, N)], by omega, by rw [List.length_append]; simp; omega, fun f hf => by
                rcases List.mem_append.1 hf with hf | hf
                · exact GOOD.out f hf
                · rw [List.mem_singleton] at hf; subst hf; exact ⟨HN1.out, HN2.out, HU.out⟩, by go_num, by
                rw [M.bitsF_snoc, List.length_append, M.bitsOf_length, List.map_append]; exact r5, by
                rw [List.length_append, ← cellsF_snoc]; exact r6, by rw [M.bitsF_snoc]; exact ho6, hs6, hb6⟩
            clear hown' hgrow hK r5 r6 ho6 hs6 hb6 hc60 hc61
            go_simp
            iterate 2 (refine wpT_plain ?_ (by rfl) ?_ ?_; rotate_left; (focus (intro w' _; go_simp; try with_reducible rfl)); go_simp)
            refine wpT_nil ?_
            go_wp2_with fail
            exact ⟨HFIN.out, by simp [intOf]; omega⟩
      · have hNl : N < 64 := by
          rcases Nat.lt_or_ge N 64 with h | h
          · exact h
          · obtain rfl : N = 64 := by omega
            exact absurd hU64 hU
        have hand := hand hNl
        have hne : ((N : Int) == 64) = false := by simp; omega
        have hlt : decide ((U : Int) < IntKind.u64.wrap (2 ^ N)) = false := by
          rw [hsh hNl]
          simp only [decide_eq_false_iff_not]
          exact fun h => hU (Int.ofNat_lt.1 h)
        have hub : ((U : Int) / 2 ^ (N : Int).toNat != 0) = true := by
          have : ¬ (U / 2 ^ N = 0) := fun h => hU (by
            have hp : 0 < 2 ^ N := Nat.pow_pos (by omega)
            exact (Nat.div_eq_zero_iff_lt hp).1 h)
          rw [Int.toNat_natCast, show ((U : Int) / 2 ^ N) = ((U / 2 ^ N : Nat) : Int) by simp]
          exact bne_iff_ne.2 (by omega)
        have HUB := Lib.hid hub
        have hN1I : (1 : Int) ≤ N := by omega
        have hN2I : (N : Int) ≤ 64 := by omega
        have hx := (Below.refl wr.heap.size wr).alloc (Nat.le_refl _) (.cells #[.int .u64 (U : Int), .int .i64 (N : Int)] 47)
        have HFIN : Hid (FieldRel g w u5 u6 (.int .i64 ((k : Int) + 1)) (wr.alloc (.cells #[.int .u64 (U : Int), .int .i64 (N : Int)] 47))) :=
          ⟨k + 1, fs, by omega, by omega, GOOD.out, by go_num, HR5.out.alloc _, HR6.out.alloc _, out_below HO.out hx (out_lt HO.out), Nat.le_trans HSZ.out hx.size, HB.out.trans (hx.mono HB.out.size)⟩
        clear hub hx hsh hU
        go_wp2_with (go_at_call 37; (with_reducible refine (put_high g U N _ hN1I hN2I HUB.out).mono ?_); rintro e w' ⟨rfl, rfl⟩)
        exact ⟨HFIN.out, by simp [intOf]; omega⟩
    · have hcond : (k = 40 ∧ (k : Int) < (ll : Int)) ∨ ¬ (k : Int) < (ll : Int) := by omega
      have hle40 : fs.length ≤ 40 := by omega
      obtain ⟨n, hn⟩ : ∃ n, ((M.bitsF fs).length + 7) / 8 = n := ⟨_, rfl⟩
      have hn320 : n ≤ 320 := by omega
      have HN := Lib.hid hn
      clear hn
      obtain ⟨m, hm⟩ : ∃ m, (M.bitsF fs).length = m := ⟨_, rfl⟩
      have hm25 : m ≤ 2560 := by omega
      have hnm : m ≤ 8 * n := by have := HN.out; omega
      have HLN := Lib.hid (M.bytesN_length (M.bitsF fs) n)
      have HL8 := Lib.hid (M.bytesN_byte (M.bitsF fs) n)
      have cv := Lib.hid (fun (w' : World) (B : Nat) (v : Value) (h : w'.ownsRow B 5 1 v n (u8s (M.bytesN (M.bitsF fs) n))) => conv_own h)
      have hby : ∀ w', OutIs w' g (M.bitsF fs) → Calls Try.prog 38 #[.pointer (some ⟨g, 0, none⟩)] w' fun e w'' => ∃ v, e = .returned v ∧ w''.ownsRow w'.heap.size 5 1 v n (u8s (M.bytesN (M.bitsF fs) n)) ∧ Below w'.heap.size w' w'' := fun w' h => bytes_any g (M.bitsF fs) n w' h HN.out
      have hrb : ∀ a cap w', Holds w' a ((M.bitsF fs).map Value.bool) → Calls Try.prog 34 #[.slice a m cap] w' fun e w'' => ∃ v, e = .returned v ∧ w''.ownsRow w'.heap.size 5 1 v n (u8s (M.bytesN (M.bitsF fs) n)) ∧ Below w'.heap.size w' w'' := fun a cap w' h => by
        have := rbytes_any (M.bitsF fs) m a cap w' hm (by omega) h
        rw [← hm, HN.out, hm] at this; exact this
      have hln : ∀ w', OutIs w' g (M.bitsF fs) → Calls Try.prog 39 #[.pointer (some ⟨g, 0, none⟩)] w' fun e w'' => e = .returned (.int .i64 m) ∧ w' = w'' := fun w' h => by
        rw [← hm]; exact len_any g (M.bitsF fs) w' h
      have hr5 := HR5.out
      rw [hm] at hr5
      obtain ⟨a5, c5, rfl, hc51, hc52, hh5, hor5⟩ := own_read hr5
      have HM := Lib.hid hm
      have HBY := Lib.hid hby
      have HRB := Lib.hid hrb
      have HLEN := Lib.hid hln
      have HH5 := Lib.hid hh5
      have HG5 := Lib.hid hor5
      clear hm hby hrb hln hr5 hh5 hor5 HR5
      rcases hcond with ⟨rfl, hcnd⟩ | hcnd
      all_goals
        go_wp2_with fail
        refine (HBY.out _ HO.out).mono ?_
        rintro e x2 ⟨v, rfl, hown, hb2⟩
        obtain ⟨ab, cb, rfl, hcb1, hcb2, hhb, horb⟩ := own_read hown
        have hszr := HB.out.size
        have HO2 := Lib.hid (out_below HO.out hb2 (out_lt HO.out))
        have HR62 := Lib.hid (own_below HR6.out hb2 (Nat.le_refl _))
        have HH52 := Lib.hid (HH5.out.below hb2)
        have HB2 := Lib.hid (HB.out.trans (hb2.mono hszr))
        have HV2 := Lib.hid hown
        have HHB := Lib.hid hhb
        have HORB := Lib.hid horb
        have HSZ2 : Hid (g + 1 ≤ x2.heap.size) := Nat.le_trans HSZ.out hb2.size
        clear hown hb2 hhb horb hszr HO HR6 HH5 HB HSZ
        go_wp2_with fail
        refine wp_region_plan (S := fun w' => w'.ownsRow wr.heap.size 5 1 (.slice ab n cb) n (u8s (M.bytesN (M.bitsF fs) n))) [(0, true), (2, true), (3, true), (1, false), (4, true), (5, true), (6, true), (7, true), (8, true), (9, false), (10, true), (11, true), (12, true)] (by kernel_rfl) (by kernel_rfl) (by kernel_rfl) (by decide) (fun _ _ d _ _ h => by cases d <;> exact h) HV2.out ?_
        simp only [stepsOf, nth, slotOf]
        iterate 3 (refine wpPlan_plain ?_ (by rfl) ?_ ?_; rotate_left; (focus (intro w' _; go_simp; try with_reducible rfl)); go_simp)
        refine wpPlan_loud (by rfl) (fun K hK => ?_)
        go_simp
        go_wp2_with ((with_reducible refine (HLEN.out _ (by exact out_cells HO2.out rfl)).mono ?_); rintro e w' ⟨rfl, rfl⟩)
        refine hK _ _ _ (fun _ h => h) HV2.out ?_
        clear hK
        iterate 3 (refine wpPlan_plain ?_ (by rfl) ?_ ?_; rotate_left; (focus (intro w' _; go_simp; try with_reducible rfl)); go_simp)
        refine wpPlan_plain (.string (strN (M.bytesN (M.bitsF fs) n))) (by rfl) (fun w' hw' => ?_) ?_
        · have hc := cv.out _ _ _ hw'
          clear hw'
          go_simp
        go_simp
        iterate 1 (refine wpPlan_plain ?_ (by rfl) ?_ ?_; rotate_left; (focus (intro w' _; go_simp; try with_reducible rfl)); go_simp)
        refine wpPlan_loud (by rfl) (fun K hK => ?_)
        go_simp
        go_wp2_with ((with_reducible refine (HRB.out _ _ _ ?_).mono ?_); (exact HH52.out); rintro e x3 ⟨v3, rfl, hown3, hb3⟩)
        have hb3' : Below x2.heap.size x2 x3 := ⟨hb3.os, hb3.tape, hb3.output, hb3.size, hb3.block⟩
        refine hK (fun w' => w'.ownsRow wr.heap.size 5 1 (.slice ab n cb) n (u8s (M.bytesN (M.bitsF fs) n)) ∧ w'.ownsRow x2.heap.size 5 1 v3 n (u8s (M.bytesN (M.bitsF fs) n))) _ _ (fun _ h => h.1) ⟨own_below HV2.out hb3' (Nat.le_refl _), hown3⟩ ?_
        have HB3 := Lib.hid (HB2.out.trans (hb3'.mono HB2.out.size))
        have HH3 := Lib.hid (HHB.out.below hb3')
        have HR63 := Lib.hid (own_below HR62.out hb3' (Nat.le_refl _))
        clear hK hb3 hb3' hown3 HV2 HR62 HO2 HHB HB2 HSZ2 HH52
        refine wpPlan_plain (.string (strN (M.bytesN (M.bitsF fs) n))) (by rfl) (fun w' hw' => ?_) ?_
        · have hc := cv.out _ _ _ hw'.2
          clear hw'
          go_simp
        go_simp
        iterate 2 (refine wpPlan_plain ?_ (by rfl) ?_ ?_; rotate_left; (focus (intro w' _; go_simp; try with_reducible rfl)); go_simp)
        refine wpPlan_nil ?_
        go_wp2_with fail
        obtain ⟨L, hL⟩ : ∃ L, M.bytesN (M.bitsF fs) n = L := ⟨_, rfl⟩
        have hnx : ∀ t (ht : t < fs.length), M.nextN L (M.bitsF (fs.take t)).length (fs[t]).2 = (fs[t]).1 ∧ (M.bitsF (fs.take (t + 1))).length = (M.bitsF (fs.take t)).length + (fs[t]).2 ∧ (M.bitsF (fs.take t)).length + (fs[t]).2 ≤ 8 * n ∧ 1 ≤ (fs[t]).2 ∧ (fs[t]).2 ≤ 64 := by
          intro t ht
          obtain ⟨e1, e2, e3⟩ := M.bitsF_at fs t ht
          have hgd := GOOD.out _ (List.getElem_mem ht)
          have hm := HM.out
          refine ⟨?_, e1, by omega, hgd.1, hgd.2.1⟩
          rw [← hL, M.back_next _ _ _ _ e2 (by omega), e3, M.num_bitsOf]
          exact Nat.mod_eq_of_lt hgd.2.2
        have hll2 := HLN.out
        have hl82 := HL8.out
        rw [hL] at hll2 hl82 HH3
        have HLL := Lib.hid hll2
        have HNX := Lib.hid hnx
        clear hL hnx HLN HL8
        refine (read_any L n ab cb _ hll2 (by omega) hl82 (by
          rcases HORB.out with h | ⟨gb, h, _⟩
          · exact .inl h
          · exact .inr ⟨gb, 0, h, HH3.out⟩)).mono ?_
        rintro e x4 ⟨gi, rfl, hgi, hin, hb4⟩
        have hr6 := own_below HR63.out hb4 (Nat.le_refl _)
        obtain ⟨a6, c6, rfl, hq1, hq2, hq3, hor6⟩ := own_fields HR63.out
        have HIN := Lib.hid hin
        have HB4 := Lib.hid (HB3.out.trans (hb4.mono HB3.out.size))
        have hwg : w.heap.size ≤ gi := Nat.le_trans HB3.out.size hgi
        have hor7 : fs.length = 0 ∨ ∃ g6, a6 = some ⟨g6, 0, none⟩ ∧ g6 ≠ gi ∧ ∀ t (ht : t < fs.length), x4.cell? ⟨g6, t * 2, none⟩ = some (.int .u64 ((fs[t]).1 : Int)) ∧ x4.cell? ⟨g6, t * 2 + 1, none⟩ = some (.int .i64 ((fs[t]).2 : Int)) := by
          rcases hor6 with h | ⟨g6, h1, h2, h3⟩
          · exact .inl h
          · refine .inr ⟨g6, h1, by omega, fun t ht => ⟨(hb4.cell h2).trans (h3 t ht).1, (hb4.cell h2).trans (h3 t ht).2⟩⟩
        have HOR := Lib.hid hor7
        obtain ⟨q, hq⟩ : ∃ q, fs.length = q := ⟨_, rfl⟩
        have HQ := Lib.hid hq
        rw [hq] at hq1 hle40 ⊢
        clear hr6 hq3 hor6 hor7 hin hb4 hll2 hl82 HR63 HB3 HH3 HORB hgi hq hfs
        go_wp2_with fail
        go_loopw [12] (fun v wq => ∃ t : Nat, t ≤ q ∧ v = .int .i64 t ∧ Hid (InIs wq gi L (M.bitsF (fs.take t)).length) ∧ Hid (Only gi x4 wq)) (fun v _ => (q - intOf v).toNat)
        case atStart => exact ⟨0, Nat.zero_le _, rfl, HIN, Only.refl _ _⟩
        case round =>
          obtain ⟨t, ht, rfl, hin, hon⟩ := hrel
          have HBW := Lib.hid (HB4.out.trans (hon.out.below hwg))
          by_cases hlt2 : t < q
          · have htl : t < fs.length := by rw [HQ.out]; exact hlt2
            obtain ⟨n1, n2, n3, n4, n5⟩ := HNX.out t htl
            rcases HOR.out with h0 | ⟨g6, rfl, hne6, hc6⟩
            · exfalso; omega
            obtain ⟨c0, c1⟩ := hc6 t htl
            have hc0 : wr.cell? ⟨g6, t * 2, none⟩ = some (.int .u64 ((fs[t]).1 : Int)) := (World.cell?_of_block (hon.out.block g6 hne6)).trans c0
            have hc1 : wr.cell? ⟨g6, t * 2 + 1, none⟩ = some (.int .i64 ((fs[t]).2 : Int)) := (World.cell?_of_block (hon.out.block g6 hne6)).trans c1
            obtain ⟨U, hU⟩ : ∃ U, (fs[t]).1 = U := ⟨_, rfl⟩
            obtain ⟨N, hN⟩ : ∃ N, (fs[t]).2 = N := ⟨_, rfl⟩
            rw [hU] at hc0 n1
            rw [hN] at hc1 n1 n2 n3 n4 n5
            clear hU hN c0 c1 hc6
            have hgg := get_good gi L (M.bitsF (fs.take t)).length N
            rw [n1, ← n2] at hgg
            have HGG := Lib.hid hgg
            have HON := hon
            have HF : Hid ((M.bitsF (fs.take (t + 1))).length ≤ 8 * L.length) := by show _ ≤ _; rw [HLL.out, n2]; exact n3
            have HNE := Lib.hid hne6
            clear hon n1 n2 n3 hgg htl hne6
            have k1 : (t : Int) < q := by omega
            have hqc : (q : Int) ≤ (c6 : Int) := by omega
            go_wp2_with (go_at_call 41; (with_reducible refine (HGG.out _ n4 n5 hin.out HF.out).mono ?_); rintro e w9 ⟨rfl, hi9, ho9⟩; have HI9 := Lib.hid hi9; have HO9 := Lib.hid (HON.out.trans ho9); have hd0 := (World.cell?_of_block (ho9.block g6 HNE.out)).trans hc0; clear hi9 ho9)
            exact ⟨⟨t + 1, by omega, by go_num, HI9, HO9⟩, by simp [intOf]; omega⟩
          · obtain rfl : t = q := by omega
            have hfin : M.bitsF (fs.take t) = M.bitsF fs := by rw [List.take_of_length_le (by rw [HQ.out]; exact Nat.le_refl _)]
            have hin2 := hin.out
            rw [hfin, HM.out] at hin2
            have hlf := fun w' => left_any gi L m w'
            rw [HLL.out] at hlf
            have HLF := Lib.hid hlf
            have HI2 := Lib.hid hin2
            clear hfin hin2 hin hlf
            go_wp2_with (go_at_call 42; refine (HLF.out _ HI2.out).mono ?_; rintro e w' ⟨rfl, nd, rfl⟩)
            go_ret
            exact ⟨rfl, HBW.out.trans ⟨rfl, rfl, rfl, Nat.le_refl _, fun _ _ => rfl⟩⟩
end Go.Proofs.Ytojhhcfpnbdobaa
