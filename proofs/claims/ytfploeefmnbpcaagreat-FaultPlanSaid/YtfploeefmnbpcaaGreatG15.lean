import Derived.Test.YtfploeefmnbpcaaGreatG14
import Derived.Test.YtfploeefmnbpcaaGreatG10
import Derived.Test.YtfploeefmnbpcaaGreatG09
import Derived.Deep.DeepCutAuto
/- Package fault: New. -/
namespace Go.Proofs.YtfploeefmnbpcaaGreat
open Go.Shelf Go.RowKit Go.Lib Go.Sort Mp
set_option linter.unusedSimpArgs false
namespace FT
def upto (d b p : Int) (l : List FtM) (k : Nat) : List FtM := (l.take k).filter (mayF d b p)
theorem upto_yes {d b p : Int} {l : List FtM} {k : Nat} {f : FtM} (h : l[k]? = some f) (hm : mayF d b p f = true) : upto d b p l (k + 1) = upto d b p l k ++ [f] := by
  unfold upto; rw [FP.take_snoc h, List.filter_append, List.filter_cons_of_pos hm, List.filter_nil]
theorem upto_no {d b p : Int} {l : List FtM} {k : Nat} {f : FtM} (h : l[k]? = some f) (hm : mayF d b p f = false) : upto d b p l (k + 1) = upto d b p l k := by
  unfold upto; rw [FP.take_snoc h, List.filter_append, List.filter_cons_of_neg (by simp [hm]), List.filter_nil, List.append_nil]
theorem upto_len (d b p : Int) (l : List FtM) (k : Nat) : (upto d b p l k).length ≤ k := by
  unfold upto
  have h1 := List.length_filter_le (mayF d b p) (l.take k)
  have h2 : (l.take k).length ≤ k := by rw [List.length_take]; omega
  omega
/-- Within the loop: a measure at B, the plan at B + 1. -/
structure NSt (w wr : World) (B : Nat) (d b p : Int) (v : Value) (L : List FtM) : Prop where
  geo : Row wr B 25 [.int .i64 d, .int .i64 b, .int .i64 p]
  pl : Row wr (B + 1) 95 [v]
  own : wr.ownsRow (B + 2) 44 7 v L.length (L.flatMap cellsFau)
  bel : Below B w wr
  size : B + 2 ≤ wr.heap.size
section
variable {w wr wr' : World} {B : Nat} {d b p : Int} {v v' : Value} {L : List FtM}
theorem NSt.below (h : NSt w wr B d b p v L) (hb : Below wr.heap.size wr wr') : NSt w wr' B d b p v L :=
  ⟨h.geo.below hb (Nat.le_refl _), h.pl.below hb (Nat.le_refl _), ownsRow_same h.own hb.size fun g hg => hb.block g (h.own.lt g hg).2, h.bel.trans (hb.mono (by have := h.size; omega)), Nat.le_trans h.size hb.size⟩
theorem NSt.start (w : World) (d b p : Int) : NSt w ((w.alloc (.cells #[.int .i64 d, .int .i64 b, .int .i64 p] 25)).alloc (.cells #[.slice none 0 0] 95)) w.heap.size d b p (.slice none 0 0) [] := by
  have h := new_two w 25 95 [.int .i64 d, .int .i64 b, .int .i64 p] [.slice none 0 0]
  exact ⟨h.1, h.2.1, World.ownsRow_nil _ _ _ _, h.2.2.1, by rw [h.2.2.2]; exact Nat.le_refl _⟩
theorem NSt.push (h : NSt w wr B d b p v L) {f : FtM} (hg : wr.grownBy wr' v.ownBlock) (ho : wr'.ownsRow (B + 2) 44 7 v' (L.length + 1) (L.flatMap cellsFau ++ cellsFau f)) : NSt w (wr'.setCell ⟨B + 1, 0, none⟩ v') B d b p v' (L ++ [f]) := by
  have hb : Below (B + 2) wr wr' := (Below.refl _ _).grown hg h.size fun q hq => (h.own.lt q hq).1
  have oth : ∀ k, k ≠ B + 1 → (wr'.setCell ⟨B + 1, 0, none⟩ v').heap[k]? = wr'.heap[k]? := fun k hk => Below.heap_setCell _ _ _ _ hk
  have hsz : (wr'.setCell ⟨B + 1, 0, none⟩ v').heap.size = wr'.heap.size := by simp [World.setCell]
  refine ⟨h.geo.of_block ((oth B (by omega)).trans (hb.block B (by omega))), (h.pl.of_block (hb.block (B + 1) (by omega))).setCell v', ?_, h.bel.trans ⟨hb.os, hb.tape, hb.output, by rw [hsz]; exact hb.size, fun k hk => (oth k (by omega)).trans (hb.block k (by omega))⟩, by rw [hsz]; exact Nat.le_trans h.size hb.size⟩
  rw [List.length_append, List.flatMap_append]
  have : wr'.ownsRow (B + 2) 44 7 v' (L.length + 1) (L.flatMap cellsFau ++ [f].flatMap cellsFau) := by simpa using ho
  exact ownsRow_same this (by rw [hsz]; exact Nat.le_refl _) fun g hg => oth g (by have := (this.lt g hg).1; omega)
theorem NSt.cell (h : NSt w wr B d b p v L) : wr.cell? ⟨B + 1, 0, none⟩ = some v := h.pl.cell rfl
theorem NSt.free (h : NSt w wr B d b p v L) : wr.frozen? ⟨B + 1, 0, none⟩ = false := h.pl.free 0
end
theorem new_cells (W : World) (f : FtM) (t : TypeId) : ∀ j u, (cellsFau f)[j]? = some u → (W.alloc (.cells (cellsFau f).toArray t)).cell? ((⟨W.heap.size, 0, none⟩ : Addr).add j) = some u := fun j u hu => by
  rw [add_none, Nat.zero_add]; exact (Row.new W t (cellsFau f)).cell hu

theorem size_SF : ∀ W : World, (Go.sizeOf 47).run Tryz.prog W = .ok 1 W := fun W => by kernel_rfl
theorem own_one {w : World} {base n s : Nat} {e : TypeId} {v : Value} {xs : List Value} (h : w.ownsRow base e s v n xs) : v.cells = #[v] ∧ v.oneCell' = true := by
  rcases h.2 with ⟨rfl, _⟩ | ⟨g, cap, cur, rfl, _⟩
  · exact ⟨rfl, rfl⟩
  · exact ⟨rfl, rfl⟩

set_option maxRecDepth 100000 in
set_option maxHeartbeats 4000000 in
theorem new_any (d b p : Int) (a : Option Addr) (cap : Nat) (l : List FtM) (w : World) (hf : FaultsIs w a l) (h1 : l.length ≤ cap) (h2 : cap ≤ maxLen) (h3 : l.length ≤ 20) :
    Calls Tryz.prog 33 #[geoV d b p, .slice a l.length cap] w fun e w' => ∃ g F, e = .returned (nptr g) ∧ IsP w' g (l.filter (mayF d b p)) F ∧ (∀ k, F k → w.heap.size ≤ k) ∧ Below w.heap.size w w' := by
  obtain ⟨n, hn⟩ : ∃ n, l.length = n := ⟨_, rfl⟩
  have HF := Lib.hid hf
  have HN := Lib.hid hn
  rw [hn] at h1 h3 ⊢
  have h2' : cap ≤ 9223372036854775807 := by unfold maxLen at h2; omega
  have HST := Lib.hid (NSt.start w d b p)
  clear hf hn h2
  go_enter Tryz.func33, Tryz.ntmps33
  go_wp2
  go_loopw [12] (fun i wr => ∃ (k : Nat) (v : Value), k ≤ n ∧ i = .int .i64 k ∧ NSt w wr w.heap.size d b p v (upto d b p l k)) (fun i _ => (n - intOf i).toNat)
  case atStart => exact ⟨0, _, Nat.zero_le _, rfl, HST.out⟩
  case round =>
    obtain ⟨k, v, hk, rfl, hs⟩ := hrel
    have HS := Lib.hid hs
    clear hs
    by_cases hkn : k < n
    · obtain ⟨f, hf⟩ : ∃ f, l[k]? = some f := ⟨_, List.getElem?_eq_getElem (by rw [HN.out]; exact hkn)⟩
      have HFK := Lib.hid hf
      obtain ⟨gb, o, rfl, hcc⟩ := HF.out k f hf
      have hblt : gb < w.heap.size := World.block_lt_of_cell? w _ (hcc 0 _ rfl)
      have HC : ∀ j v, (cellsFau f)[j]? = some v → wr.cell? ⟨gb, o + k * 7 + j, none⟩ = some v := fun j v hj => (HS.out.bel.cell (p := ⟨gb, o + k * 7 + j, none⟩) hblt).trans (hcc j v hj)
      have c0 : wr.cell? ⟨gb, o + k * 7, none⟩ = some (.int .i64 f.at') := HC 0 _ rfl
      have c1 : wr.cell? ⟨gb, o + k * 7 + 1, none⟩ = some (.int .i64 f.kind) := HC 1 _ rfl
      have c2 : wr.cell? ⟨gb, o + k * 7 + 2, none⟩ = some (.int .i64 f.x) := HC 2 _ rfl
      have c3 : wr.cell? ⟨gb, o + k * 7 + 3, none⟩ = some (.int .i64 f.y) := HC 3 _ rfl
      have c4 : wr.cell? ⟨gb, o + k * 7 + 4, none⟩ = some (.int .i64 f.z) := HC 4 _ rfl
      have c5 : wr.cell? ⟨gb, o + k * 7 + 5, none⟩ = some (.int .i64 f.n) := HC 5 _ rfl
      have c6 : wr.cell? ⟨gb, o + k * 7 + 6, none⟩ = some (.int .i64 f.v) := HC 6 _ rfl
      have hkz : (k : Int) < (n : Int) := by omega
      have HA := Lib.hid (HS.out.below ((Below.refl wr.heap.size wr).alloc (Nat.le_refl _) (.cells #[.int .i64 f.at', .int .i64 f.kind, .int .i64 f.x, .int .i64 f.y, .int .i64 f.z, .int .i64 f.n, .int .i64 f.v] 44)))
      have g0 := HA.out.geo.cell (j := 0) rfl
      have g1 := HA.out.geo.cell (j := 1) rfl
      have g2 := HA.out.geo.cell (j := 2) rfl
      have HV := Lib.hid (Row.new wr 44 [.int .i64 f.at', .int .i64 f.kind, .int .i64 f.x, .int .i64 f.y, .int .i64 f.z, .int .i64 f.n, .int .i64 f.v])
      clear HC hcc hf hblt
      have HMAY := Lib.hid (fun W => ftmay_any d b p f W)
      cases hm : mayF d b p f
      · rw [hm] at HMAY
        go_wp2_with (go_at_call 31; (with_reducible refine (HMAY.out _).mono ?_); rintro e x ⟨rfl, hb⟩)
        go_round
        case measure => simp only [intOf]; omega
        case rel => exact ⟨k + 1, v, by omega, by go_num, by rw [upto_no HFK.out hm]; exact HA.out.below hb⟩
      · rw [hm] at HMAY
        go_upto_region 6 with (go_at_call 31; (with_reducible refine (HMAY.out _).mono ?_); rintro e x ⟨rfl, hb⟩)
        have HX := Lib.hid (HA.out.below hb)
        have HVX := Lib.hid (HV.out.below hb (Nat.le_refl _))
        clear hb c0 c1 c2 c3 c4 c5 c6 g0 g1 g2
        refine wp_region_tree (S := fun W' => Row W' wr.heap.size 44 (cellsFau f)) (.plain 0 (.plain 1 (.plain 2 (.plain 3 (.plain 5 (.fork 4 (.one 6 (.one 7 (.plain 8 (.plain 9 (.one 10 .nil))))) 6 (.one 4 (.one 7 (.plain 8 (.plain 9 (.one 10 .nil))))))))))) (by kernel_rfl) (by kernel_rfl) (by kernel_rfl) (by decide) (fun _ _ d _ _ h => by cases d <;> exact h) HVX.out ?_
        simp only [treeOf, psOf, nth, slotOf]
        iterate 4 (refine wpT_plain ?_ (by rfl) ?_ ?_; rotate_left; (focus (intro w' hw'; go_simp; try with_reducible rfl)); go_simp)
        refine wpT_plain (encF f) (by rfl) (fun w' hw' => exec_load rfl rfl (run_loadRow agg_F size_F rfl hw')) ?_
        go_simp
        have HY := Lib.hid ((HX.out.below ((Below.refl x.heap.size x).alloc (Nat.le_refl _) (.cells #[.int .i64 f.at', .int .i64 f.kind, .int .i64 f.x, .int .i64 f.y, .int .i64 f.z, .int .i64 f.n, .int .i64 f.v] 44))).below (Below.refl _ _).drew)
        have HVY := Lib.hid ((HVX.out.alloc (.cells #[.int .i64 f.at', .int .i64 f.kind, .int .i64 f.x, .int .i64 f.y, .int .i64 f.z, .int .i64 f.n, .int .i64 f.v] 44)).drew)
        have HYC : Hid (∀ j u, (cellsFau f)[j]? = some u → (x.alloc (.cells #[.int .i64 f.at', .int .i64 f.kind, .int .i64 f.x, .int .i64 f.y, .int .i64 f.z, .int .i64 f.n, .int .i64 f.v] 44)).drew.cell? ((⟨x.heap.size, 0, none⟩ : Addr).add j) = some u) := Lib.hid (new_cells x f 44)
        obtain ⟨i0, hi, hz0, hz1, hz2⟩ := info_parts info
        have hul := upto_len d b p l k
        have hcx := HX.out.cell
        refine wpT_fork (by rfl) (by rfl) (fun KK hKK => ?_) (fun KK hKK => ?_)
        · go_simp
          refine hKK _ _ _ (fun _ h => h) HVX.out ?_
          clear hKK
          go_simp
          refine wpT_loud (by rfl) fun KK hKK => ?_
          go_simp
          generalize (x.alloc (.cells #[.int .i64 f.at', .int .i64 f.kind, .int .i64 f.x, .int .i64 f.y, .int .i64 f.z, .int .i64 f.n, .int .i64 f.v] 44)).drew = y at HY HVY HYC ⊢
          refine hKK _ _ _ (fun _ h => h) HVY.out ?_
          clear hKK
          go_simp
          refine wpT_loud (by rfl) fun KK hKK => ?_
          refine wp_append_x _ _ 47 rfl (w.heap.size + 2) 44 i0 _ 7 56 Tryz.underlying47 hi hz0 hz1 hz2 rfl (by decide) v (upto d b p l k).length _ rfl HY.out.own (some ⟨x.heap.size, 0, none⟩) 1 1 (cellsFau f) rfl (fun e => (by cases e)) rfl (fun ad e => (by cases e; exact HYC.out)) (flat_F f) (by unfold maxLen; omega) (by omega) HY.out.size ?_
          intro v' y2 hown hgrow _
          have HP := Lib.hid (HY.out.push hgrow hown)
          obtain ⟨hv1, hv2⟩ := own_one hown
          have hb2 : Below (w.heap.size + 2) y y2 := (Below.refl _ _).grown hgrow HY.out.size fun q hq => (HY.out.own.lt q hq).1
          have hc2 : y2.cell? ⟨w.heap.size + 1, 0, none⟩ = some v := (hb2.cell (p := ⟨w.heap.size + 1, 0, none⟩) (show w.heap.size + 1 < w.heap.size + 2 by omega)).trans HY.out.cell
          have hf2 : y2.frozen? ⟨w.heap.size + 1, 0, none⟩ = false := (HY.out.pl.of_block (hb2.block (w.heap.size + 1) (by omega))).free 0
          have HV2 := Lib.hid (HVY.out.of_block (hgrow.block _ HVY.out.lt (fun e => by have := (HS.out.own.lt _ e.symm).2; omega)))
          refine hKK _ _ _ (fun _ h => h) HV2.out ?_
          clear hKK hown hgrow hb2 hi hz0 hz1 hz2
          go_simp
          iterate 2 (refine wpT_plain ?_ (by rfl) ?_ ?_; rotate_left; (focus (intro w' hw'; go_simp; try with_reducible rfl)); go_simp)
          refine wpT_loud (by rfl) fun KK hKK => ?_
          refine wp_skip (exec_store rfl rfl rfl (run_storeOne size_SF hc2 hf2 hv1 hv2)) ?_
          refine hKK _ _ _ (fun _ h => h) (HV2.out.of_block (w' := y2.setCell ⟨w.heap.size + 1, 0, none⟩ v') (Below.heap_setCell _ _ _ _ (show wr.heap.size ≠ w.heap.size + 1 by have := HS.out.size; omega))) ?_
          clear hKK hc2 hf2
          go_simp
          refine wpT_nil ?_
          generalize y2.setCell ⟨w.heap.size + 1, 0, none⟩ v' = y3 at HP ⊢
          go_wp2
          go_round
          case measure => simp only [intOf]; omega
          case rel => exact ⟨k + 1, v', by omega, by go_num, by rw [upto_yes HFK.out hm]; exact HP.out⟩
        · go_simp
          generalize (x.alloc (.cells #[.int .i64 f.at', .int .i64 f.kind, .int .i64 f.x, .int .i64 f.y, .int .i64 f.z, .int .i64 f.n, .int .i64 f.v] 44)).drew = y at HY HVY HYC ⊢
          refine hKK _ _ _ (fun _ h => h) HVY.out ?_
          clear hKK
          go_simp
          have hcy := HY.out.cell
          refine wpT_loud (by rfl) fun KK hKK => ?_
          go_simp
          refine hKK _ _ _ (fun _ h => h) HVY.out ?_
          clear hKK
          go_simp
          refine wpT_loud (by rfl) fun KK hKK => ?_
          refine wp_append_x _ _ 47 rfl (w.heap.size + 2) 44 i0 _ 7 56 Tryz.underlying47 hi hz0 hz1 hz2 rfl (by decide) v (upto d b p l k).length _ rfl HY.out.own (some ⟨x.heap.size, 0, none⟩) 1 1 (cellsFau f) rfl (fun e => (by cases e)) rfl (fun ad e => (by cases e; exact HYC.out)) (flat_F f) (by unfold maxLen; omega) (by omega) HY.out.size ?_
          intro v' y2 hown hgrow _
          have HP := Lib.hid (HY.out.push hgrow hown)
          obtain ⟨hv1, hv2⟩ := own_one hown
          have hb2 : Below (w.heap.size + 2) y y2 := (Below.refl _ _).grown hgrow HY.out.size fun q hq => (HY.out.own.lt q hq).1
          have hc2 : y2.cell? ⟨w.heap.size + 1, 0, none⟩ = some v := (hb2.cell (p := ⟨w.heap.size + 1, 0, none⟩) (show w.heap.size + 1 < w.heap.size + 2 by omega)).trans HY.out.cell
          have hf2 : y2.frozen? ⟨w.heap.size + 1, 0, none⟩ = false := (HY.out.pl.of_block (hb2.block (w.heap.size + 1) (by omega))).free 0
          have HV2 := Lib.hid (HVY.out.of_block (hgrow.block _ HVY.out.lt (fun e => by have := (HS.out.own.lt _ e.symm).2; omega)))
          refine hKK _ _ _ (fun _ h => h) HV2.out ?_
          clear hKK hown hgrow hb2 hi hz0 hz1 hz2
          go_simp
          iterate 2 (refine wpT_plain ?_ (by rfl) ?_ ?_; rotate_left; (focus (intro w' hw'; go_simp; try with_reducible rfl)); go_simp)
          refine wpT_loud (by rfl) fun KK hKK => ?_
          refine wp_skip (exec_store rfl rfl rfl (run_storeOne size_SF hc2 hf2 hv1 hv2)) ?_
          refine hKK _ _ _ (fun _ h => h) (HV2.out.of_block (w' := y2.setCell ⟨w.heap.size + 1, 0, none⟩ v') (Below.heap_setCell _ _ _ _ (show wr.heap.size ≠ w.heap.size + 1 by have := HS.out.size; omega))) ?_
          clear hKK hc2 hf2
          go_simp
          refine wpT_nil ?_
          generalize y2.setCell ⟨w.heap.size + 1, 0, none⟩ v' = y3 at HP ⊢
          go_wp2
          go_round
          case measure => simp only [intOf]; omega
          case rel => exact ⟨k + 1, v', by omega, by go_num, by rw [upto_yes HFK.out hm]; exact HP.out⟩
    · obtain rfl : k = n := by omega
      have hkz : ¬ (k : Int) < (k : Int) := by omega
      have HT := Lib.hid (show upto d b p l k = l.filter (mayF d b p) by unfold upto; rw [← HN.out, List.take_length])
      rw [HT.out] at HS
      have hlen : (l.filter (mayF d b p)).length ≤ 20 := by
        have := List.length_filter_le (mayF d b p) l
        have := HN.out
        omega
      have HSL := Lib.hid (SliceF.of_owns HS.out.own)
      have HST2 := Lib.hid (stableFunc_any (w.heap.size + 2) wr v (l.filter (mayF d b p)) HSL.out hlen)
      have hcv := HS.out.cell
      obtain ⟨L, hL⟩ : ∃ L, l.filter (mayF d b p) = L := ⟨_, rfl⟩
      rw [hL] at HS HSL HST2
      have HLL := Lib.hid hL
      clear hL
      go_wp2_with (go_at_call 61; (with_reducible refine HST2.out.mono ?_); rintro e y ⟨rfl, hsl, hgr⟩)
      go_ret
      rw [HLL.out]
      have hb2 : Below (w.heap.size + 2) wr y := (Below.refl _ _).grown hgr HS.out.size fun q hq => (HS.out.own.lt q hq).1
      have hrow : Row y (w.heap.size + 1) 95 [v] := HS.out.pl.of_block (hb2.block _ (by omega))
      obtain ⟨a', cap', hv, hl⟩ := hsl.lies
      rw [foldl_len] at hv
      subst hv
      refine ⟨w.heap.size + 1, fun k => w.heap.size + 1 ≤ k ∧ k < y.heap.size, rfl, ⟨a', cap', hrow, ?_, ?_, fun ad e => ?_, fun k hk => hk.2⟩, fun k hk => by have := hk.1; omega, ?_⟩
      · exact ⟨hl.le, hl.max, hl.is, hl.nil, fun ad e => by obtain ⟨b', o', h1, h2, h3⟩ := hl.own ad e; exact ⟨b', o', h1, ⟨by omega, h3⟩, h3⟩⟩
      · exact ⟨Nat.le_refl _, hrow.lt⟩
      · obtain ⟨b', o', rfl, h2, h3⟩ := hl.own ad e
        show b' ≠ _
        omega
      · exact HS.out.bel.trans ⟨hb2.os, hb2.tape, hb2.output, hb2.size, fun k hk => hb2.block k (by omega)⟩
end FT
end Go.Proofs.YtfploeefmnbpcaaGreat

/- Package fault: Due. -/
namespace Go.Proofs.YtfploeefmnbpcaaGreat
open Go.Shelf Go.RowKit Go.Lib Go.Sort Mp
set_option linter.unusedSimpArgs false
namespace FT
set_option maxRecDepth 100000 in
set_option maxHeartbeats 4000000 in
theorem due_any {w : World} {g : Nat} {l : List FtM} {F : Nat → Prop} (ops : Int) (h : IsP w g l F) (hl : l.length ≤ 1000000) : Calls Tryz.prog 35 #[nptr g, .int .i64 ops] w fun e w' => ∃ a cap F', e = .returned (.slice a (dueL l ops).length cap) ∧ (dueL l ops).length ≤ cap ∧ cap ≤ maxLen ∧
    FaultsIs w' a (dueL l ops) ∧ (∀ b o, a = some ⟨b, o, none⟩ → w.heap.size ≤ b ∧ ¬ F' b) ∧ IsP w' g (restL l ops) F' ∧ Keeps F w w' ∧ ∀ k, F' k → F k ∨ w.heap.size ≤ k := by
  obtain ⟨a, cap, h1, h2, h3, h4, h5⟩ := h
  replace h2 : Lies w a cap (sortF l) (fun k => F k ∧ k ≠ g) := ⟨h2.le, h2.max, h2.is, h2.nil, fun ad e => by
    obtain ⟨b, o, rfl, hb, hlt⟩ := h2.own ad e
    exact ⟨b, o, rfl, ⟨hb, h4 _ e⟩, hlt⟩⟩
  have hc : w.cell? ⟨g, 0, none⟩ = some (.slice a l.length cap) := h1.cell rfl
  obtain ⟨n, hn⟩ : ∃ n, l.length = n := ⟨_, rfl⟩
  obtain ⟨d, hd⟩ : ∃ d, (dueL l ops).length = d := ⟨_, rfl⟩
  have hdn : d ≤ n := by have := due_len l ops; omega
  have hslen : (sortF l).length = n := by rw [sortF_len, hn]
  obtain ⟨lo, c, hi, hlies⟩ := run_cut (k := d) h2 hslen hdn
  have htake : (sortF l).take d = dueL l ops := by rw [← due_app l ops, ← hd, List.take_left]
  have hdrop : (sortF l).drop d = sortF (restL l ops) := by
    have := due_app l ops
    rw [← this, ← hd, List.drop_left]
  have hrest : (restL l ops).length = n - d := by have := due_len l ops; omega
  have HCL := Lib.hid (fun W (hW : Lies W a cap (dueL l ops) (fun k => F k ∧ k ≠ g)) => clone_any (dueL l ops) d a cap _ W hd (by omega) hW)
  have H2 := Lib.hid h2
  have HLOW := Lib.hid (show Lies w a cap (dueL l ops) (fun k => F k ∧ k ≠ g) by rw [← htake]; exact h2.low)
  have HHI := Lib.hid (show Lies w c (cap - d) (sortF (restL l ops)) (fun k => F k ∧ k ≠ g) by rw [← hdrop]; exact hlies)
  have HR := Lib.hid (⟨h1, h3, h4, h5⟩ : _ ∧ _ ∧ _ ∧ _)
  have HLEN := Lib.hid (⟨hn, hd, hslen, hrest⟩ : _ ∧ _ ∧ _ ∧ _)
  have hdc : d ≤ cap := by have := h2.le; omega
  have hnc : n ≤ cap := by have := h2.le; omega
  have hcm : cap ≤ 9223372036854775807 := by have := h2.max; unfold maxLen at this; omega
  rw [hn] at hc hl
  have hlt : g < w.heap.size := World.block_lt_of_cell? w _ hc
  have hfz : w.frozen? ⟨g, 0, none⟩ = false := h1.free 0
  clear htake hdrop hlies h1 h2 h3 h4 h5 hn hd hslen hrest
  unfold nptr
  go_enter Tryz.func35, Tryz.ntmps35
  go_wp2
  go_loop [5] (fun m => ∃ k : Nat, k ≤ d ∧ m = .int .i64 k) (fun m => (d - intOf m).toNat)
  case atStart => exact ⟨0, Nat.zero_le _, rfl⟩
  case round =>
    obtain ⟨k, hk, rfl⟩ := hrel
    by_cases hkd : k < d
    · obtain ⟨f, hf⟩ : ∃ f, (sortF l)[k]? = some f := ⟨_, List.getElem?_eq_getElem (by rw [HLEN.out.2.2.1]; omega)⟩
      have hfa := (due_at hf).1 (by rw [HLEN.out.2.1]; exact hkd)
      obtain ⟨b, o, rfl, hcc⟩ := H2.out.is k f hf
      have hc0 : w.cell? ⟨b, o + k * 7, none⟩ = some (.int .i64 f.at') := by have := hcc 0 _ rfl; simpa using this
      have hkn : (k : Int) < (n : Int) := by omega
      clear hf hcc
      go_wp2
      go_round
      case measure => simp only [intOf]; omega
      case rel => exact ⟨k + 1, by omega, by go_num⟩
    · obtain rfl : k = d := by omega
      by_cases hkn : k < n
      · obtain ⟨f, hf⟩ : ∃ f, (sortF l)[k]? = some f := ⟨_, List.getElem?_eq_getElem (by rw [HLEN.out.2.2.1]; omega)⟩
        have hfa := (due_at hf).2 (by rw [HLEN.out.2.1])
        obtain ⟨b, o, rfl, hcc⟩ := H2.out.is k f hf
        have hc0 : w.cell? ⟨b, o + k * 7, none⟩ = some (.int .i64 f.at') := by have := hcc 0 _ rfl; simpa using this
        have hkn : (k : Int) < (n : Int) := by omega
        have hna : ¬ f.at' ≤ ops := by omega
        clear hf hcc hfa
        go_wp2_with (go_at_call 64; (with_reducible refine (HCL.out _ HLOW.out).mono ?_); rintro e w1 ⟨v, rfl, hs, hb⟩; have RG := Lib.hid (HR.out.1.below hb (Nat.le_refl _)); rw [HLEN.out.1] at RG; have hc1 : w1.cell? ⟨g, 0, none⟩ = some (.slice _ n cap) := RG.out.cell rfl; have hf1 : w1.frozen? ⟨g, 0, none⟩ = false := RG.out.free 0)
        go_ret
        exact due_done HR.out.2.1 HR.out.2.2.2 HLEN.out.2.2.2 HHI.out hs hb RG.out
      · have hkn : ¬ (k : Int) < (n : Int) := by omega
        go_wp2_with (go_at_call 64; (with_reducible refine (HCL.out _ HLOW.out).mono ?_); rintro e w1 ⟨v, rfl, hs, hb⟩; have RG := Lib.hid (HR.out.1.below hb (Nat.le_refl _)); rw [HLEN.out.1] at RG; have hc1 : w1.cell? ⟨g, 0, none⟩ = some (.slice _ n cap) := RG.out.cell rfl; have hf1 : w1.frozen? ⟨g, 0, none⟩ = false := RG.out.free 0)
        go_ret
        exact due_done HR.out.2.1 HR.out.2.2.2 HLEN.out.2.2.2 HHI.out hs hb RG.out
end FT
end Go.Proofs.YtfploeefmnbpcaaGreat

/- Package fault: Run. -/
namespace Go.Proofs.YtfploeefmnbpcaaGreat
open Go.Shelf Go.RowKit Go.Lib Go.Sort Mp
set_option linter.unusedSimpArgs false
namespace FT
theorem run_take {M : FlM} {l : List FtM} {k : Nat} {f : FtM} (h : l[k]? = some f) : runL M (l.take (k + 1)) = ((runL M (l.take k)).fault f.kind f.x f.y f.z f.n f.v).2 := by
  rw [FP.take_snoc h]; unfold runL; rw [List.foldl_append]; rfl
theorem run_zero (M : FlM) (l : List FtM) : runL M (l.take 0) = M := rfl
/-- Within the loop: the plan, what is due, the flash. -/
structure RSt (IsN : IsT) (w wr : World) (g g' : Nat) (l : List FtM) (M : FlM) (a : Option Addr) (D : List FtM) (F FN F1 : Nat → Prop) : Prop where
  p : IsP wr g l F1
  f : FaultsIs wr a D
  n : ∃ Fk, IsN wr g' M Fk ∧ (∀ k, Fk k → ¬ F1 k) ∧ (∀ k, Fk k → FN k ∨ w.heap.size ≤ k) ∧ ∀ (i : Nat) (f : FtM), D[i]? = some f → ∀ b o, a = some ⟨b, o, none⟩ → ¬ Fk b
  keeps : Keeps (fun k => F k ∨ FN k) w wr
section
variable {IsN : IsT} {w wr wr' : World} {g g' : Nat} {l : List FtM} {M M' : FlM} {a : Option Addr} {D : List FtM} {F FN F1 : Nat → Prop}
theorem RSt.below (C : NandC IsN) (h : RSt IsN w wr g g' l M a D F FN F1) (hb : Below wr.heap.size wr wr') : RSt IsN w wr' g g' l M a D F FN F1 := by
  obtain ⟨Fk, h1, h2, h3, h4⟩ := h.n
  have hk := h.keeps
  exact ⟨h.p.keep fun k hF => hb.block k (h.p.lt k hF), h.f.below hb, ⟨Fk, C.keep h1 fun k hF => hb.block k (C.lt h1 k hF), h2, h3, h4⟩,
    ⟨hb.os.trans hk.os, hb.tape.trans hk.tape, hb.output.trans hk.output, Nat.le_trans hk.size hb.size, fun k hlt hn => (hb.block k (Nat.lt_of_lt_of_le hlt hk.size)).trans (hk.block k hlt hn)⟩⟩
theorem RSt.fault (C : NandC IsN) (h : RSt IsN w wr g g' l M a D F FN F1) (f : FtM) :
    Calls Tryz.prog 25 #[nptr g', encF f] wr fun e w' => (∃ r, e = .returned (.bool r)) ∧ RSt IsN w w' g g' l (M.fault f.kind f.x f.y f.z f.n f.v).2 a D F FN F1 := by
  obtain ⟨Fk, h1, h2, h3, h4⟩ := h.n
  refine (C.fault f.at' f.kind f.x f.y f.z f.n f.v h1).mono ?_
  rintro e w' ⟨rfl, F', t1, t2, t3⟩
  have hk := h.keeps
  have hff : ∀ (i : Nat) (q : FtM), D[i]? = some q → ∀ b o, a = some ⟨b, o, none⟩ → b < wr.heap.size := fun i q hi b o e => by
    obtain ⟨b', o', e', hc⟩ := h.f i q hi
    rw [e] at e'; cases e'
    exact World.block_lt_of_cell? wr _ (hc 0 _ rfl)
  refine ⟨⟨_, rfl⟩, ⟨h.p.keep fun k hF => t2.block k (h.p.lt k hF) (fun hn => h2 k hn hF), fun i q hi => ?_, ⟨F', t1, fun k hk' hF => ?_, fun k hk' => ?_, fun i q hi b o e hF => ?_⟩, ⟨t2.os.trans hk.os, t2.tape.trans hk.tape, t2.output.trans hk.output, Nat.le_trans hk.size t2.size, fun k hlt hn => ?_⟩⟩⟩
  · obtain ⟨b, o, e, hc⟩ := h.f i q hi
    exact ⟨b, o, e, fun j v hj => (World.cell?_of_block (a := ⟨b, o + i * 7 + j, none⟩) (t2.block b (hff i q hi b o e) (h4 i q hi b o e))).trans (hc j v hj)⟩
  · rcases t3 k hk' with h5 | h5
    · exact h2 k h5 hF
    · have := h.p.lt k hF; omega
  · rcases t3 k hk' with h5 | h5
    · exact h3 k h5
    · exact .inr (Nat.le_trans hk.size h5)
  · rcases t3 b hF with h5 | h5
    · exact h4 i q hi b o e h5
    · have := hff i q hi b o e; omega
  · refine (t2.block k (Nat.lt_of_lt_of_le hlt hk.size) (fun hF => ?_)).trans (hk.block k hlt hn)
    rcases h3 k hF with h5 | h5
    · exact hn (.inr h5)
    · omega
theorem RSt.start {w1 w2 : World} (C : NandC IsN) (hN : IsN w g' M FN) (hdis : ∀ k, F k → ¬ FN k) (hb : Below w.heap.size w w1) (hp : IsP w2 g l F1) (hf : FaultsIs w2 a D)
    (ha : ∀ b o, a = some ⟨b, o, none⟩ → w1.heap.size ≤ b ∧ ¬ F1 b) (hk : Keeps F w1 w2) (h1 : ∀ k, F1 k → F k ∨ w1.heap.size ≤ k) : RSt IsN w w2 g g' l M a D F FN F1 := by
  have hlt := C.lt hN
  have hs := hb.size
  refine ⟨hp, hf, ⟨FN, C.keep hN fun k hF => ?_, fun k hF h2 => ?_, fun k hF => .inl hF, fun i q hi b o e hF => ?_⟩, ⟨hk.os.trans hb.os, hk.tape.trans hb.tape, hk.output.trans hb.output, Nat.le_trans hs hk.size, fun k hl hn => ?_⟩⟩
  · have := hlt k hF
    exact (hk.block k (by omega) (fun h => hdis k h hF)).trans (hb.block k this)
  · rcases h1 k h2 with h | h
    · exact hdis k h hF
    · have := hlt k hF; omega
  · have := (ha b o e).1; have := hlt b hF; omega
  · exact (hk.block k (by omega) (fun h => hn (.inl h))).trans (hb.block k hl)
end
attribute [local irreducible] runL dueL restL
set_option maxRecDepth 100000 in
set_option maxHeartbeats 4000000 in
theorem run_any {IsN : IsT} (C : NandC IsN) {w : World} {g : Nat} {l : List FtM} {F : Nat → Prop} {g' : Nat} {M : FlM} {FN : Nat → Prop} (hP : IsP w g l F) (hN : IsN w g' M FN) (hdis : ∀ k, F k → ¬ FN k) (hl : l.length ≤ 1000000) :
    Calls Tryz.prog 39 #[nptr g, nptr g'] w fun e w' => e = .returned (.int .i64 ((dueL l M.ops).length : Nat)) ∧ ∃ F' FN', IsP w' g (restL l M.ops) F' ∧ IsN w' g' (runL M (dueL l M.ops)) FN' ∧
      Keeps (fun k => F k ∨ FN k) w w' ∧ (∀ k, F' k → F k ∨ w.heap.size ≤ k) ∧ (∀ k, FN' k → FN k ∨ w.heap.size ≤ k) ∧ ∀ k, F' k → ¬ FN' k := by
  have HC := Lib.hid C
  have HO := Lib.hid (C.ops hN)
  have HST := Lib.hid (⟨hP, hN, hdis, hl⟩ : _ ∧ _ ∧ _ ∧ _)
  obtain ⟨ops, hops⟩ : ∃ o, M.ops = o := ⟨_, rfl⟩
  rw [hops] at HO ⊢
  obtain ⟨D, hD⟩ : ∃ D, dueL l ops = D := ⟨_, rfl⟩
  have HD := Lib.hid hD
  rw [hD]
  obtain ⟨n, hn⟩ : ∃ n, D.length = n := ⟨_, rfl⟩
  have hnl : n ≤ 1000000 := by have := due_len l ops; rw [hD, hn] at this; omega
  have HNL := Lib.hid hn
  rw [hn]
  clear hP hN hdis hl hD hn hops C
  unfold nptr
  go_enter Tryz.func39, Tryz.ntmps39
  go_wp2_with (first
    | (go_at_call 24; (with_reducible refine HO.out.mono ?_); rintro e w1 ⟨rfl, hb1⟩; have HB1 := Lib.hid hb1)
    | (go_at_call 35; (with_reducible refine (due_any ops (HST.out.1.keep fun k hF => HB1.out.block k (HST.out.1.lt k hF)) HST.out.2.2.2).mono ?_); rintro e w2 ⟨a, cap, F1, rfl, hle, hmx, hf, ha, hp, hk, h1⟩))
  rw [HD.out] at hf hle ⊢
  rw [HNL.out] at hle ⊢
  have HK1 := Lib.hid h1
  have HMX : n ≤ 9223372036854775807 := by omega
  have RS := Lib.hid (RSt.start HC.out HST.out.2.1 HST.out.2.2.1 HB1.out hp hf ha hk h1)
  clear hp hf ha hk h1 hb1
  have hmx' : cap ≤ 9223372036854775807 := by unfold maxLen at hmx; omega
  go_loopw [14] (fun i wr => ∃ k : Nat, k ≤ n ∧ i = .int .i64 k ∧ RSt IsN w wr g g' (restL l ops) (runL M (D.take k)) a D F FN F1) (fun i _ => (n - intOf i).toNat)
  case atStart => exact ⟨0, Nat.zero_le _, rfl, by rw [run_zero]; exact RS.out⟩
  case round =>
    obtain ⟨k, hk, rfl, hr⟩ := hrel
    have HR := Lib.hid hr
    clear hr
    by_cases hkn : k < n
    · obtain ⟨f, hf⟩ : ∃ f, D[k]? = some f := ⟨_, List.getElem?_eq_getElem (by rw [HNL.out]; exact hkn)⟩
      have HS := Lib.hid (run_take (M := M) hf)
      obtain ⟨b, o, rfl, HC7⟩ := HR.out.f k f hf
      have c0 : wr.cell? ⟨b, o + k * 7, none⟩ = some (.int .i64 f.at') := HC7 0 _ rfl
      have c1 : wr.cell? ⟨b, o + k * 7 + 1, none⟩ = some (.int .i64 f.kind) := HC7 1 _ rfl
      have c2 : wr.cell? ⟨b, o + k * 7 + 2, none⟩ = some (.int .i64 f.x) := HC7 2 _ rfl
      have c3 : wr.cell? ⟨b, o + k * 7 + 3, none⟩ = some (.int .i64 f.y) := HC7 3 _ rfl
      have c4 : wr.cell? ⟨b, o + k * 7 + 4, none⟩ = some (.int .i64 f.z) := HC7 4 _ rfl
      have c5 : wr.cell? ⟨b, o + k * 7 + 5, none⟩ = some (.int .i64 f.n) := HC7 5 _ rfl
      have c6 : wr.cell? ⟨b, o + k * 7 + 6, none⟩ = some (.int .i64 f.v) := HC7 6 _ rfl
      have HA := Lib.hid (HR.out.below HC.out ((Below.refl wr.heap.size wr).alloc (Nat.le_refl _) (.cells (cellsFau f).toArray 44)))
      have hfa := HA.out.fault HC.out f
      unfold cellsFau at hfa
      have HFA := Lib.hid hfa
      clear HC7 hf hfa
      have hkz : (k : Int) < (n : Int) := by omega
      go_wp2_with (go_at_call 25; (with_reducible refine HFA.out.mono ?_); rintro e x ⟨⟨r, rfl⟩, hx⟩)
      go_round
      case measure => simp only [intOf]; omega
      case rel => exact ⟨k + 1, by omega, by go_num, by rw [HS.out]; exact hx⟩
    · obtain rfl : k = n := by omega
      have hkz : ¬ (k : Int) < (k : Int) := by omega
      have HT := Lib.hid (show D.take k = D by rw [← HNL.out, List.take_length])
      rw [HT.out] at HR
      go_wp2
      go_ret
      obtain ⟨Fk, i1, i2, i3, i4⟩ := HR.out.n
      refine ⟨by first | rfl | trivial, F1, HR.out.p, Fk, i1, HR.out.keeps, fun k hF => ?_, i3, fun k hF hn => i2 k hn hF⟩
      rcases HK1.out k hF with h | h
      · exact .inl h
      · exact .inr (Nat.le_trans HB1.out.size h)
end FT
end Go.Proofs.YtfploeefmnbpcaaGreat
