import Derived.Test.YtfploeefmnbpcaaGreatG04
import Derived.Test.YtfploeefmnbpcaaGreatGRefSet
import Derived.Test.YtfploeefmnbpcaaGreatGLawGSmall
import Derived.Test.YtfploeefmnbpcaaGreatG14
import Derived.Test.YtfploeefmnbpcaaGreatG06
import Derived.Test.YtfploeefmnbpcaaGreatG09
import Derived.Deep.QuietTactic
import Derived.Deep.DeepCutAuto
/- The law FaultMay: the walk. -/
namespace Go.Proofs.YtfploeefmnbpcaaGreat
open Go.RowKit Mp
set_option linter.unusedSimpArgs false

theorem infoFault : (Tryz.prog.info? 44).map (fun i => (i.zero, i.size, i.bytes)) = some (some (.agg #[.int .i64 0, .int .i64 0, .int .i64 0, .int .i64 0, .int .i64 0, .int .i64 0, .int .i64 0]), 7, 56) := by kernel_rfl
theorem size_Fa : ∀ W : World, (sizeOf 44).run Tryz.prog W = .ok 7 W := fun W => by kernel_rfl
theorem isAgg_int : ∀ W : World, (isAgg 3).run Tryz.prog W = .ok false W := fun W => by kernel_rfl
theorem agg_Fa : ∀ W : World, (isAgg 44).run Tryz.prog W = .ok true W := fun W => by kernel_rfl
namespace FM
theorem new_cells (W : World) (f : FtM) (t : TypeId) : ∀ j u, (cellsFau f)[j]? = some u → (W.alloc (.cells (cellsFau f).toArray t)).cell? ((⟨W.heap.size, 0, none⟩ : Addr).add j) = some u := fun j u hu => by
  have e : (⟨W.heap.size, 0, none⟩ : Addr).add j = ⟨W.heap.size, j, none⟩ := by
    simp only [Addr.add, Nat.zero_add]
    split <;> simp_all
  rw [e]; exact (Row.new W t (cellsFau f)).cell hu
theorem flat_F (f : FtM) : ∀ u ∈ cellsFau f, u.oneCell' = true := by
  intro u hu
  simp only [cellsFau, List.mem_cons, List.not_mem_nil, or_false] at hu
  rcases hu with rfl | rfl | rfl | rfl | rfl | rfl | rfl <;> rfl
theorem own_apart' {w : World} {B B' n n' s s' : Nat} {e e' : TypeId} {v v' : Value} {xs xs' : List Value} (h : w.ownsRow B e s v n xs) (h' : w.ownsRow B' e' s' v' n' xs') (he : e ≠ e') : v.ownBlock = none ∨ v.ownBlock ≠ v'.ownBlock := own_apart h h' he
/-- Which of the faults are in. -/
def inL (d b p : Int) (l : List FtM) : List FtM := l.filter fun f => inGB d b p f.x f.y f.z
theorem inL_snoc (d b p : Int) (l : List FtM) (f : FtM) : inL d b p (l ++ [f]) = if inGB d b p f.x f.y f.z then inL d b p l ++ [f] else inL d b p l := by
  unfold inL; rw [List.filter_append]; cases h : inGB d b p f.x f.y f.z <;> simp [h]
theorem dies_snoc (l : List FtM) (f : FtM) : diesF (l ++ [f]) = withS (diesF l) f.x := by unfold diesF; rw [List.foldl_append]; rfl
theorem withS_nat (K D : Nat) (hK : K < 256) (hD : D < 8) : withS K D = (M.withN K D : Nat) := by
  unfold withS M.withN
  rw [if_pos ⟨by omega, by omega⟩, if_pos ⟨by omega, by omega⟩, hasS_nat K D (by omega) (by omega), Int.toNat_natCast]
  split <;> simp
theorem with_lt : ∀ m : Fin 256, ∀ d : Fin 8, M.withN m.val d.val < 256 := by decide +kernel
theorem spot_neg (K D : Nat) (hK : K < 256) (hD : D < 8) : decide (spotS K D < 0) = !inB K D := by
  have h := M.spot_tab ⟨K, hK⟩ ⟨D, hD⟩
  have : diesS (K : Int) = diesK K 8 := by unfold diesS; rw [if_pos ⟨by omega, by omega⟩, Int.toNat_natCast]
  unfold spotS
  rw [this]
  simp only at h
  rw [h]
  cases inB K D with
  | true => simp
  | false => simp
/-- What the loop knows. -/
structure St (es : List FtM) (ds : List Nat) (K k : Nat) : Prop where
  k256 : K < 256
  set : setN ds = K
  dies : diesF es = (K : Int)
  low : ∀ d ∈ ds, d < 8
  len : ds.length ≤ k
  elen : es.length ≤ k
  ex : ∀ f ∈ es, 0 ≤ f.x ∧ f.x < 8
theorem St.start : St [] [] 0 0 := ⟨by omega, rfl, rfl, fun _ h => (by cases h), Nat.le_refl _, Nat.le_refl _, fun _ h => (by cases h)⟩
theorem St.skip {es : List FtM} {ds : List Nat} {K k : Nat} (h : St es ds K k) : St es ds K (k + 1) := ⟨h.k256, h.set, h.dies, h.low, by have := h.len; omega, by have := h.elen; omega, h.ex⟩
theorem St.old {es : List FtM} {ds : List Nat} {K k : Nat} (h : St es ds K k) {f : FtM} {D : Nat} (hf : f.x = D) (hD : D < 8) (hin : inB K D = true) : St (es ++ [f]) ds K (k + 1) := by
  refine ⟨h.k256, h.set, ?_, h.low, by have := h.len; omega, by have := h.elen; simp; omega, fun g hg => ?_⟩
  · rw [dies_snoc, h.dies, hf, withS_nat K D h.k256 hD]; unfold M.withN; rw [if_pos hin]
  · rcases List.mem_append.1 hg with hg | hg
    · exact h.ex g hg
    · rw [List.mem_singleton] at hg; subst hg; omega
theorem St.new {es : List FtM} {ds : List Nat} {K k : Nat} (h : St es ds K k) {f : FtM} {D : Nat} (hf : f.x = D) (hD : D < 8) (hin : inB K D = false) : St (es ++ [f]) (ds ++ [D]) (M.withN K D) (k + 1) := by
  have hw : M.withN K D = K + 2 ^ D := by unfold M.withN; rw [if_neg (by rw [hin]; simp)]
  refine ⟨with_lt ⟨K, h.k256⟩ ⟨D, hD⟩, ?_, ?_, fun d hd => ?_, by have := h.len; simp; omega, by have := h.elen; simp; omega, fun g hg => ?_⟩
  · rw [setN_snoc, h.set, hw]
  · rw [dies_snoc, h.dies, hf, withS_nat K D h.k256 hD]
  · rcases List.mem_append.1 hd with hd | hd
    · exact h.low d hd
    · rw [List.mem_singleton] at hd; omega
  · rcases List.mem_append.1 hg with hg | hg
    · exact h.ex g hg
    · rw [List.mem_singleton] at hg; subst hg; omega
/-- What lies in memory within the loop. -/
structure Mem (w W : World) (B : Nat) (d b p : Int) (fc : List Value) (v9 v10 : Value) (ds : List Nat) (es : List FtM) : Prop where
  geo : Row W B 25 [.int .i64 d, .int .i64 b, .int .i64 p]
  flt : Row W (B + 1) 44 fc
  own9 : W.ownsRow (B + 2) 3 1 v9 ds.length (i64s ds)
  own10 : W.ownsRow (B + 2) 44 7 v10 es.length (es.flatMap cellsFau)
  bel : Below B w W
  size : B + 2 ≤ W.heap.size
  wB : w.heap.size = B
theorem own_below {W W' : World} {B n s : Nat} {e : TypeId} {v : Value} {xs : List Value} (h : W.ownsRow B e s v n xs) (hb : Below W.heap.size W W') : W'.ownsRow B e s v n xs :=
  ownsRow_same h hb.size fun g hg => hb.block g (h.lt g hg).2
theorem Mem.below {w W W' : World} {B : Nat} {d b p : Int} {fc : List Value} {v9 v10 : Value} {ds : List Nat} {es : List FtM} (h : Mem w W B d b p fc v9 v10 ds es) (hb : Below W.heap.size W W') : Mem w W' B d b p fc v9 v10 ds es :=
  ⟨h.geo.below hb (Nat.le_refl _), h.flt.below hb (Nat.le_refl _), own_below h.own9 hb, own_below h.own10 hb, h.bel.trans (hb.mono (by have := h.size; omega)), Nat.le_trans h.size hb.size, h.wB⟩
theorem Mem.push10 {w W W' : World} {B : Nat} {d b p : Int} {fc : List Value} {v9 v10 v' : Value} {ds : List Nat} {es : List FtM} {f : FtM} (h : Mem w W B d b p fc v9 v10 ds es) (hg : W.grownBy W' v10.ownBlock)
    (ho : W'.ownsRow (B + 2) 44 7 v' (es.length + 1) (es.flatMap cellsFau ++ cellsFau f)) : Mem w W' B d b p fc v9 v' ds (es ++ [f]) := by
  have hb : Below (B + 2) W W' := (Below.refl _ _).grown hg h.size fun q hq => (h.own10.lt q hq).1
  refine ⟨h.geo.of_block (hb.block B (by omega)), h.flt.of_block (hb.block (B + 1) (by omega)), h.own9.kept hg (own_apart' h.own9 h.own10 (by decide)), ?_, h.bel.trans ⟨hb.os, hb.tape, hb.output, hb.size, fun k hk => hb.block k (by omega)⟩, Nat.le_trans h.size hb.size, h.wB⟩
  rw [List.length_append, List.flatMap_append]
  simpa using ho
theorem Mem.push9 {w W W' : World} {B : Nat} {d b p : Int} {fc : List Value} {v9 v10 v' : Value} {ds : List Nat} {es : List FtM} {D : Nat} (h : Mem w W B d b p fc v9 v10 ds es) (hg : W.grownBy W' v9.ownBlock)
    (ho : W'.ownsRow (B + 2) 3 1 v' (ds.length + 1) (i64s ds ++ [.int .i64 (D : Int)])) : Mem w W' B d b p fc v' v10 (ds ++ [D]) es := by
  have hb : Below (B + 2) W W' := (Below.refl _ _).grown hg h.size fun q hq => (h.own9.lt q hq).1
  refine ⟨h.geo.of_block (hb.block B (by omega)), h.flt.of_block (hb.block (B + 1) (by omega)), ?_, h.own10.kept hg (own_apart' h.own10 h.own9 (by decide)), h.bel.trans ⟨hb.os, hb.tape, hb.output, hb.size, fun k hk => hb.block k (by omega)⟩, Nat.le_trans h.size hb.size, h.wB⟩
  rw [List.length_append, ← i64s_snoc]
  exact ho
theorem faults_own {W : World} {B : Nat} {v : Value} {es : List FtM} (h : W.ownsRow B 44 7 v es.length (es.flatMap cellsFau)) : ∃ a cap, v = .slice a es.length cap ∧ es.length ≤ cap ∧ cap ≤ maxLen ∧ FaultsIs W a es := by
  rcases h.2 with ⟨rfl, hz⟩ | ⟨g, cap, cur, rfl, _, hg, hle, hmx, hcs, htk⟩
  · exact ⟨none, 0, by rw [hz], by omega, by unfold maxLen; omega, fun i f hi => by
      have : es = [] := List.length_eq_zero_iff.1 hz
      subst this; simp at hi⟩
  · refine ⟨some ⟨g, 0, none⟩, cap, rfl, hle, hmx, fun i f hi => ⟨g, 0, rfl, fun j u hj => ?_⟩⟩
    have h7 : j < 7 := by have := (List.getElem?_eq_some_iff.1 hj).1; simpa [cellsFau] using this
    have hil : i < es.length := (List.getElem?_eq_some_iff.1 hi).1
    have e := flat_at es i f j hi h7
    rw [hj, ← htk, List.getElem?_take] at e
    rw [if_pos (by omega)] at e
    rw [Nat.zero_add]
    simp [World.cell?, hg]
    simpa using e
end FM

set_option maxRecDepth 100000 in
set_option maxHeartbeats 8000000 in
theorem faultMay_core {IsN : IsT} {Is : PlanT} (P : PlanC IsN Is) (G : Begun7) (ga gb gc : Int) (f : FtM) (A : Option Addr) (cap : Nat) (l : List FtM) (w : World) (hl : FaultsIs w A l) (hcap : l.length ≤ cap) (hmax : cap ≤ maxLen) :
    Calls Tryz.prog 6 #[geoV ga gb gc, encF f, .slice A l.length cap] w fun e w' => e = .returned (.bool true) ∧ Below w.heap.size w w' := by
  obtain ⟨d, hd⟩ : ∃ d, 3 + ga % 4 = d := ⟨_, rfl⟩
  obtain ⟨b, hb⟩ : ∃ b, 8 + gb % 9 = b := ⟨_, rfl⟩
  obtain ⟨p, hp⟩ : ∃ p, 2 + gc % 7 = p := ⟨_, rfl⟩
  have hd6 : d ≤ 6 := by omega
  have HGEO := Lib.hid (fun w => by have := geo_any ga gb gc w; rw [hd, hb, hp] at this; exact this)
  obtain ⟨n, hn⟩ : ∃ n, l.length = n := ⟨_, rfl⟩
  rw [hn] at hcap ⊢
  have HN := Lib.hid hn
  have HP := Lib.hid P
  have HG := Lib.hid G
  have HL := Lib.hid hl
  have HMX := Lib.hid hmax
  obtain ⟨B, hB⟩ : ∃ B, w.heap.size = B := ⟨_, rfl⟩
  have HBE := Lib.hid hB
  have FN := Lib.hid (new_two w 25 44 [.int .i64 ga, .int .i64 gb, .int .i64 gc] (cellsFau f))
  obtain ⟨T, KD, x, y, z, nn, v⟩ := f
  clear P G hl hn hd hb hp hmax
  go_enter Tryz.func6, Tryz.ntmps6
  go_wp2_with fail
  refine (HG.out _).mono ?_
  rintro e w1 ⟨rfl, hb1⟩
  dsimp only
  have RG := Lib.hid (FN.out.1.below hb1 (Nat.le_refl _))
  have RF := Lib.hid (FN.out.2.1.below hb1 (Nat.le_refl _))
  have HB := Lib.hid (FN.out.2.2.1.trans (hb1.mono FN.out.2.2.1.size))
  rw [HBE.out] at RG RF HB
  have c0 : w1.cell? ⟨B, 0, none⟩ = some (.int .i64 ga) := RG.out.cell rfl
  have c1 : w1.cell? ⟨B, 1, none⟩ = some (.int .i64 gb) := RG.out.cell rfl
  have c2 : w1.cell? ⟨B, 2, none⟩ = some (.int .i64 gc) := RG.out.cell rfl
  have szG : ∀ W : World, (sizeOf 25).run Tryz.prog W = .ok 3 W := fun W => by kernel_rfl
  have SZG := Lib.hid szG
  clear hb1 szG FN
  go_upto_region 5 with (first | (go_at_call 27; (with_reducible refine (HGEO.out _).mono ?_); rintro e w2 ⟨rfl, hb2⟩; have RG := Lib.hid (RG.out.below hb2 (Nat.le_refl _)); have RF := Lib.hid (RF.out.below hb2 (Nat.le_refl _)); have HB := Lib.hid (HB.out.trans (hb2.mono (by have := HB.out.size; have := HBE.out; omega))); clear hb2) | (refine wpList_skip rfl (exec_store rfl rfl rfl (run_storeRow (ds := [.int .i64 d, .int .i64 b, .int .i64 p]) SZG.out RG.out rfl rfl (fun v hv => by simp at hv; rcases hv with rfl | rfl | rfl <;> rfl))) ?_))
  refine gen_world (p := fun W => Row W B 25 [.int .i64 d, .int .i64 b, .int .i64 p] ∧ Row W (B + 1) 44 (cellsFau ⟨T, KD, x, y, z, nn, v⟩) ∧ Below B w W) ⟨RG.out.set _, RF.out.other (by omega) _, below_setRow HB.out (Nat.le_refl _) _⟩ ?_
  clear RG RF HB c0 c1 c2
  intro w3 NW
  obtain ⟨rg, rf, hb⟩ := NW
  have RG := Lib.hid rg
  have RF := Lib.hid rf
  have HB := Lib.hid hb
  have hBlt := rf.lt
  have c0 : w3.cell? ⟨B, 0, none⟩ = some (.int .i64 d) := rg.cell rfl
  have c1 : w3.cell? ⟨B, 1, none⟩ = some (.int .i64 b) := rg.cell rfl
  have c2 : w3.cell? ⟨B, 2, none⟩ = some (.int .i64 p) := rg.cell rfl
  have f0 : w3.cell? ⟨B + 1, 0, none⟩ = some (.int .i64 T) := rf.cell rfl
  have f1 : w3.cell? ⟨B + 1, 1, none⟩ = some (.int .i64 KD) := rf.cell rfl
  have f2 : w3.cell? ⟨B + 1, 2, none⟩ = some (.int .i64 x) := rf.cell rfl
  have f3 : w3.cell? ⟨B + 1, 3, none⟩ = some (.int .i64 y) := rf.cell rfl
  have f4 : w3.cell? ⟨B + 1, 4, none⟩ = some (.int .i64 z) := rf.cell rfl
  have f5 : w3.cell? ⟨B + 1, 5, none⟩ = some (.int .i64 nn) := rf.cell rfl
  have f6 : w3.cell? ⟨B + 1, 6, none⟩ = some (.int .i64 v) := rf.cell rfl
  obtain ⟨may, hmay⟩ : ∃ may, mayF d b p ⟨T, KD, x, y, z, nn, v⟩ = may := ⟨_, rfl⟩
  have HMAY := Lib.hid hmay
  unfold mayF at hmay
  dsimp only at hmay
  clear rg rf hb
  go_simp
  go_cut [8] (fun u W => u = .bool may ∧ Hid (Row W B 25 [.int .i64 d, .int .i64 b, .int .i64 p]) ∧ Hid (Row W (B + 1) 44 (cellsFau ⟨T, KD, x, y, z, nn, v⟩)) ∧ Hid (Below B w W))
  case first =>
    by_cases hT : 0 ≤ T
    · by_cases hK1 : 1 ≤ KD
      · by_cases hK5 : KD ≤ 5
        · have hI := fun w => rin_any d b p x y z w
          cases hi : inGB d b p x y z with
          | false =>
            rw [hi] at hI hmay
            have HI := Lib.hid hI
            clear hI hi
            obtain rfl : may = false := by rw [← hmay]; simp [hT, hK1, hK5]
            clear hmay
            go_wp2_with (go_at_call 28; (with_reducible refine (HI.out _).mono ?_); rintro e w4 ⟨rfl, hb4⟩; have f1 := (hb4.cell (p := ⟨B + 1, 1, none⟩) hBlt).trans f1; have f5 := (hb4.cell (p := ⟨B + 1, 5, none⟩) hBlt).trans f5; have f6 := (hb4.cell (p := ⟨B + 1, 6, none⟩) hBlt).trans f6; have RG := Lib.hid (RG.out.below hb4 (Nat.le_refl _)); have RF := Lib.hid (RF.out.below hb4 (Nat.le_refl _)); have HB := Lib.hid (HB.out.trans (hb4.mono (by have := HB.out.size; have := HBE.out; omega))); clear hb4)
            go_meet
            case rel => exact ⟨by first | rfl | simp [hT, hK1, hK5], RG, RF, HB⟩
          | true =>
            rw [hi] at hI hmay
            have HI := Lib.hid hI
            clear hI hi
            by_cases h5 : KD = 5
            · subst h5
              by_cases n0 : 0 ≤ nn
              · by_cases n31 : nn ≤ 31
                · by_cases v1 : 1 ≤ v
                  · by_cases v255 : v ≤ 255
                    · obtain rfl : may = true := by rw [← hmay]; simp [hT, n0, n31, v1, v255]
                      clear hmay
                      go_wp2_with (go_at_call 28; (with_reducible refine (HI.out _).mono ?_); rintro e w4 ⟨rfl, hb4⟩; have f1 := (hb4.cell (p := ⟨B + 1, 1, none⟩) hBlt).trans f1; have f5 := (hb4.cell (p := ⟨B + 1, 5, none⟩) hBlt).trans f5; have f6 := (hb4.cell (p := ⟨B + 1, 6, none⟩) hBlt).trans f6; have RG := Lib.hid (RG.out.below hb4 (Nat.le_refl _)); have RF := Lib.hid (RF.out.below hb4 (Nat.le_refl _)); have HB := Lib.hid (HB.out.trans (hb4.mono (by have := HB.out.size; have := HBE.out; omega))); clear hb4)
                      go_meet
                      case rel => exact ⟨by first | rfl | simp [hT, n0, n31, v1, v255], RG, RF, HB⟩
                    · obtain rfl : may = false := by rw [← hmay]; simp [hT, n0, n31, v1, v255]
                      clear hmay
                      go_wp2_with (go_at_call 28; (with_reducible refine (HI.out _).mono ?_); rintro e w4 ⟨rfl, hb4⟩; have f1 := (hb4.cell (p := ⟨B + 1, 1, none⟩) hBlt).trans f1; have f5 := (hb4.cell (p := ⟨B + 1, 5, none⟩) hBlt).trans f5; have f6 := (hb4.cell (p := ⟨B + 1, 6, none⟩) hBlt).trans f6; have RG := Lib.hid (RG.out.below hb4 (Nat.le_refl _)); have RF := Lib.hid (RF.out.below hb4 (Nat.le_refl _)); have HB := Lib.hid (HB.out.trans (hb4.mono (by have := HB.out.size; have := HBE.out; omega))); clear hb4)
                      go_meet
                      case rel => exact ⟨by first | rfl | simp [hT, n0, n31, v1, v255], RG, RF, HB⟩
                  · obtain rfl : may = false := by rw [← hmay]; simp [hT, n0, n31, v1]
                    clear hmay
                    go_wp2_with (go_at_call 28; (with_reducible refine (HI.out _).mono ?_); rintro e w4 ⟨rfl, hb4⟩; have f1 := (hb4.cell (p := ⟨B + 1, 1, none⟩) hBlt).trans f1; have f5 := (hb4.cell (p := ⟨B + 1, 5, none⟩) hBlt).trans f5; have f6 := (hb4.cell (p := ⟨B + 1, 6, none⟩) hBlt).trans f6; have RG := Lib.hid (RG.out.below hb4 (Nat.le_refl _)); have RF := Lib.hid (RF.out.below hb4 (Nat.le_refl _)); have HB := Lib.hid (HB.out.trans (hb4.mono (by have := HB.out.size; have := HBE.out; omega))); clear hb4)
                    go_meet
                    case rel => exact ⟨by first | rfl | simp [hT, n0, n31, v1], RG, RF, HB⟩
                · obtain rfl : may = false := by rw [← hmay]; simp [hT, n0, n31]
                  clear hmay
                  go_wp2_with (go_at_call 28; (with_reducible refine (HI.out _).mono ?_); rintro e w4 ⟨rfl, hb4⟩; have f1 := (hb4.cell (p := ⟨B + 1, 1, none⟩) hBlt).trans f1; have f5 := (hb4.cell (p := ⟨B + 1, 5, none⟩) hBlt).trans f5; have f6 := (hb4.cell (p := ⟨B + 1, 6, none⟩) hBlt).trans f6; have RG := Lib.hid (RG.out.below hb4 (Nat.le_refl _)); have RF := Lib.hid (RF.out.below hb4 (Nat.le_refl _)); have HB := Lib.hid (HB.out.trans (hb4.mono (by have := HB.out.size; have := HBE.out; omega))); clear hb4)
                  go_meet
                  case rel => exact ⟨by first | rfl | simp [hT, n0, n31], RG, RF, HB⟩
              · obtain rfl : may = false := by rw [← hmay]; simp [hT, n0]
                clear hmay
                go_wp2_with (go_at_call 28; (with_reducible refine (HI.out _).mono ?_); rintro e w4 ⟨rfl, hb4⟩; have f1 := (hb4.cell (p := ⟨B + 1, 1, none⟩) hBlt).trans f1; have f5 := (hb4.cell (p := ⟨B + 1, 5, none⟩) hBlt).trans f5; have f6 := (hb4.cell (p := ⟨B + 1, 6, none⟩) hBlt).trans f6; have RG := Lib.hid (RG.out.below hb4 (Nat.le_refl _)); have RF := Lib.hid (RF.out.below hb4 (Nat.le_refl _)); have HB := Lib.hid (HB.out.trans (hb4.mono (by have := HB.out.size; have := HBE.out; omega))); clear hb4)
                go_meet
                case rel => exact ⟨by first | rfl | simp [hT, n0], RG, RF, HB⟩
            · by_cases n0 : nn = 0
              · subst n0
                by_cases v0 : v = 0
                · subst v0
                  obtain rfl : may = true := by rw [← hmay]; simp [hT, hK1, hK5, h5]
                  clear hmay
                  go_wp2_with (go_at_call 28; (with_reducible refine (HI.out _).mono ?_); rintro e w4 ⟨rfl, hb4⟩; have f1 := (hb4.cell (p := ⟨B + 1, 1, none⟩) hBlt).trans f1; have f5 := (hb4.cell (p := ⟨B + 1, 5, none⟩) hBlt).trans f5; have f6 := (hb4.cell (p := ⟨B + 1, 6, none⟩) hBlt).trans f6; have RG := Lib.hid (RG.out.below hb4 (Nat.le_refl _)); have RF := Lib.hid (RF.out.below hb4 (Nat.le_refl _)); have HB := Lib.hid (HB.out.trans (hb4.mono (by have := HB.out.size; have := HBE.out; omega))); clear hb4)
                  go_meet
                  case rel => exact ⟨by first | rfl | simp [hT, hK1, hK5, h5], RG, RF, HB⟩
                · obtain rfl : may = false := by rw [← hmay]; simp [hT, hK1, hK5, h5, v0]
                  clear hmay
                  go_wp2_with (go_at_call 28; (with_reducible refine (HI.out _).mono ?_); rintro e w4 ⟨rfl, hb4⟩; have f1 := (hb4.cell (p := ⟨B + 1, 1, none⟩) hBlt).trans f1; have f5 := (hb4.cell (p := ⟨B + 1, 5, none⟩) hBlt).trans f5; have f6 := (hb4.cell (p := ⟨B + 1, 6, none⟩) hBlt).trans f6; have RG := Lib.hid (RG.out.below hb4 (Nat.le_refl _)); have RF := Lib.hid (RF.out.below hb4 (Nat.le_refl _)); have HB := Lib.hid (HB.out.trans (hb4.mono (by have := HB.out.size; have := HBE.out; omega))); clear hb4)
                  go_meet
                  case rel => exact ⟨by first | rfl | simp [hT, hK1, hK5, h5, v0], RG, RF, HB⟩
              · obtain rfl : may = false := by rw [← hmay]; simp [hT, hK1, hK5, h5, n0]
                clear hmay
                go_wp2_with (go_at_call 28; (with_reducible refine (HI.out _).mono ?_); rintro e w4 ⟨rfl, hb4⟩; have f1 := (hb4.cell (p := ⟨B + 1, 1, none⟩) hBlt).trans f1; have f5 := (hb4.cell (p := ⟨B + 1, 5, none⟩) hBlt).trans f5; have f6 := (hb4.cell (p := ⟨B + 1, 6, none⟩) hBlt).trans f6; have RG := Lib.hid (RG.out.below hb4 (Nat.le_refl _)); have RF := Lib.hid (RF.out.below hb4 (Nat.le_refl _)); have HB := Lib.hid (HB.out.trans (hb4.mono (by have := HB.out.size; have := HBE.out; omega))); clear hb4)
                go_meet
                case rel => exact ⟨by first | rfl | simp [hT, hK1, hK5, h5, n0], RG, RF, HB⟩
        · obtain rfl : may = false := by rw [← hmay]; simp [hT, hK1, hK5]
          clear hmay
          go_wp2_with fail
          go_meet
          case rel => exact ⟨by first | rfl | simp [hT, hK1, hK5], RG, RF, HB⟩
      · obtain rfl : may = false := by rw [← hmay]; simp [hT, hK1]
        clear hmay
        go_wp2_with fail
        go_meet
        case rel => exact ⟨by first | rfl | simp [hT, hK1], RG, RF, HB⟩
    · obtain rfl : may = false := by rw [← hmay]; simp [hT]
      clear hmay
      go_wp2_with fail
      go_meet
      case rel => exact ⟨by first | rfl | simp [hT], RG, RF, HB⟩
  case rest =>
    obtain ⟨rfl, RG, RF, HB⟩ := hcut
    have hsz := RF.out.lt
    have HM0 := Lib.hid (show FM.Mem w wc B d b p (cellsFau ⟨T, KD, x, y, z, nn, v⟩) (.slice none 0 0) (.slice none 0 0) [] [] from ⟨RG.out, RF.out, World.ownsRow_nil _ _ _ _, World.ownsRow_nil _ _ _ _, HB.out, by omega, HBE.out⟩)
    clear hsz RG RF HB
    go_wp2_with fail
    go_loopw [9, 10, 11] (fun v9 v10 v11 W => ∃ (k K : Nat) (ds : List Nat) (es : List FtM), k ≤ n ∧ k ≤ 12 ∧ v11 = .int .i64 (k : Int) ∧ Hid (FM.St es ds K k) ∧ Hid (FM.Mem w W B d b p (cellsFau ⟨T, KD, x, y, z, nn, v⟩) v9 v10 ds es)) (fun _ _ v11 _ => (12 - intOf v11).toNat)
    case atStart => exact ⟨0, 0, [], [], Nat.zero_le _, by omega, rfl, FM.St.start, HM0⟩
    case round =>
      clear HM0
      obtain ⟨k, K, ds, es, hk, hk12, rfl, HS, HM⟩ := hrel
      by_cases hlt : k < n
      · by_cases hlt2 : k < 12
        · have hkl : k < l.length := by rw [HN.out]; exact hlt
          obtain ⟨ft, hft⟩ : ∃ ft, l[k]? = some ft := ⟨_, List.getElem?_eq_getElem hkl⟩
          obtain ⟨ab, ao, hA, hcells⟩ := HL.out k ft hft
          subst hA
          have hab : ab < w.heap.size := World.block_lt_of_cell? w _ (hcells 0 _ rfl)
          have hgeo : ∀ W, Below w.heap.size w W → ∀ j u, (cellsFau ft)[j]? = some u → W.cell? ⟨ab, ao + k * 7 + j, none⟩ = some u := fun W hW j u hu => (hW.cell (p := ⟨ab, ao + k * 7 + j, none⟩) hab).trans (hcells j u hu)
          have HFC := Lib.hid hgeo
          obtain ⟨fT, fK, fx, fy, fz, fn, fv⟩ := ft
          have HAD : Hid (∀ W, Below B w W → ∀ j u, (cellsA (fx, fy, fz))[j]? = some u → W.cell? ⟨ab, ao + k * 7 + 2 + j, none⟩ = some u) := by
            intro W hW j u hj
            have hW : Below w.heap.size w W := by rw [HBE.out]; exact hW
            match j, hj with
            | 0, hj => cases hj; exact HFC.out W hW 2 _ rfl
            | 1, hj => cases hj; exact HFC.out W hW 3 _ rfl
            | 2, hj => cases hj; exact HFC.out W hW 4 _ rfl
            | i + 3, hj => simp [cellsA] at hj
          have hI := fun w => rin_any d b p fx fy fz w
          have isG : ∀ W : World, (isAgg 25).run Tryz.prog W = .ok true W := fun W => by kernel_rfl
          have szG : ∀ W : World, (sizeOf 25).run Tryz.prog W = .ok 3 W := fun W => by kernel_rfl
          have ISG := Lib.hid isG
          have SZG := Lib.hid szG
          have HAB := Lib.hid hab
          clear hgeo hcells isG szG hab
          go_upto_region 11 with fail
          cases hi : inGB d b p fx fy fz with
          | false =>
            rw [hi] at hI
            have HI := Lib.hid hI
            clear hI hi
            refine wp_region_plan (S := fun W' => FM.Mem w W' B d b p (cellsFau ⟨T, KD, x, y, z, nn, v⟩) u9 u10 ds es) [(0, true), (1, true), (2, true), (3, true), (4, true), (5, true), (6, false), (7, true)] (by kernel_rfl) (by kernel_rfl) (by kernel_rfl) (by decide) (fun _ _ d _ _ h => by cases d <;> exact h) (HM.out.below (Below.refl _ _).drew) ?_
            simp only [stepsOf, nth, slotOf]
            refine wpPlan_plain (geoV d b p) (by rfl) (fun w' hw' => exec_load rfl rfl (run_loadRow ISG.out SZG.out rfl hw'.geo)) ?_
            go_simp
            iterate 4 (refine wpPlan_plain ?_ (by rfl) ?_ ?_; rotate_left; (focus (intro w' hw'; go_simp; try with_reducible rfl)); go_simp)
            refine wpPlan_plain (geoV fx fy fz) (by rfl) (fun w' hw' => exec_load rfl rfl (run_loadAgg (b := ab) (o := ao + k * 7 + 2) isAgg_A size_A rfl (HAD.out w' hw'.bel))) ?_
            go_simp
            refine wpPlan_loud (by rfl) (fun KK hKK => ?_)
            go_simp
            refine (HI.out _).mono ?_
            rintro e W2 ⟨rfl, hb2⟩
            dsimp only
            have HM2 := Lib.hid ((HM.out.below (Below.refl _ _).drew).below hb2)
            refine hKK _ _ _ (fun _ h => h) HM2.out ?_
            clear hKK hb2
            iterate 1 (refine wpPlan_plain ?_ (by rfl) ?_ ?_; rotate_left; (focus (intro w' hw'; go_simp; try with_reducible rfl)); go_simp)
            refine wpPlan_nil ?_
            go_wp2_with fail
            go_round
            case rel => exact ⟨k + 1, K, ds, es, by omega, by omega, by go_num, HS.out.skip, HM2⟩
            case measure => simp [intOf]; omega
          | true =>
            rw [hi] at hI
            have HI := Lib.hid hI
            have hx0 : 0 ≤ fx ∧ fx < d := by simp only [inGB, decide_eq_true_eq] at hi; omega
            obtain ⟨D, rfl⟩ : ∃ D : Nat, fx = D := ⟨fx.toNat, by omega⟩
            have hD8 : D < 8 := by omega
            clear hI hi hx0
            refine wp_region_plan (S := fun W' => FM.Mem w W' B d b p (cellsFau ⟨T, KD, x, y, z, nn, v⟩) u9 u10 ds es) [(0, true), (1, true), (2, true), (3, true), (4, true), (5, true), (6, false), (7, true)] (by kernel_rfl) (by kernel_rfl) (by kernel_rfl) (by decide) (fun _ _ d _ _ h => by cases d <;> exact h) (HM.out.below (Below.refl _ _).drew) ?_
            simp only [stepsOf, nth, slotOf]
            refine wpPlan_plain (geoV d b p) (by rfl) (fun w' hw' => exec_load rfl rfl (run_loadRow ISG.out SZG.out rfl hw'.geo)) ?_
            go_simp
            iterate 4 (refine wpPlan_plain ?_ (by rfl) ?_ ?_; rotate_left; (focus (intro w' hw'; go_simp; try with_reducible rfl)); go_simp)
            refine wpPlan_plain (geoV D fy fz) (by rfl) (fun w' hw' => exec_load rfl rfl (run_loadAgg (b := ab) (o := ao + k * 7 + 2) isAgg_A size_A rfl (HAD.out w' hw'.bel))) ?_
            go_simp
            refine wpPlan_loud (by rfl) (fun KK hKK => ?_)
            go_simp
            refine (HI.out _).mono ?_
            rintro e W2 ⟨rfl, hb2⟩
            dsimp only
            have HM2 := Lib.hid ((HM.out.below (Below.refl _ _).drew).below hb2)
            refine hKK _ _ _ (fun _ h => h) HM2.out ?_
            clear hKK hb2
            iterate 1 (refine wpPlan_plain ?_ (by rfl) ?_ ?_; rotate_left; (focus (intro w' hw'; go_simp; try with_reducible rfl)); go_simp)
            refine wpPlan_nil ?_
            have hc3 : Hid (es.length + 1 ≤ maxLen) := by have := HS.out.elen; show _ ≤ _; unfold maxLen; omega
            have hc4 : Hid ((es.length + 1) * 56 ≤ 140737488355328) := by have := HS.out.elen; show _ ≤ _; omega
            have HLD := Lib.hid (fun j u (hj : (cellsFau ⟨fT, fK, D, fy, fz, fn, fv⟩)[j]? = some u) => HFC.out W2 (by rw [HBE.out]; exact HM2.out.bel) j u hj)
            have HM3 := Lib.hid (HM2.out.below ((Below.refl _ _).alloc (Nat.le_refl _) (.cells (cellsFau ⟨fT, fK, D, fy, fz, fn, fv⟩).toArray 44)))
            have hsz3 := HM3.out.size
            obtain ⟨i0, hi0, hz0, hz1, hz2⟩ := info_parts infoFault
            go_wp2_with (first | (refine wpList_value (v := encF ⟨fT, fK, D, fy, fz, fn, fv⟩) rfl (exec_load rfl rfl (run_loadAgg (b := ab) (o := ao + k * 7) agg_Fa size_Fa rfl HLD.out)) ?_) | (at_builtin; refine wpList_plain rfl (fun KK hKK => wp_append_x _ _ 47 rfl (B + 2) 44 i0 _ 7 56 Tryz.underlying47 hi0 hz0 hz1 hz2 rfl (by decide) u10 es.length (es.flatMap cellsFau) rfl HM3.out.own10 (some ⟨W2.heap.size, 0, none⟩) 1 1 (cellsFau ⟨fT, fK, D, fy, fz, fn, fv⟩) rfl (fun e => (by cases e)) rfl (fun ad e => (by cases e; exact FM.new_cells W2 _ _)) (FM.flat_F _) hc3.out hc4.out hsz3 (fun v10' W3 hown3 hgrow3 _ => hKK _ _ ?_))))
            have HM4 := Lib.hid (HM3.out.push10 hgrow3 (by have := hown3; exact this))
            clear hown3 hgrow3 hi0 hz0 hz1 hz2
            have hf2 : ∀ W', Below B w W' → W'.cell? ⟨ab, ao + k * 7 + 2, none⟩ = some (.int .i64 (D : Int)) := fun W' hW => HFC.out W' (by rw [HBE.out]; exact hW) 2 _ rfl
            have HF2 := Lib.hid hf2
            have HSET := Lib.hid (fun (W' : World) (h : FM.Mem w W' B d b p (cellsFau ⟨T, KD, x, y, z, nn, v⟩) u9 v10' ds (es ++ [⟨fT, fK, D, fy, fz, fn, fv⟩])) => by have := rset_own h.own9 HS.out.low (by have := HS.out.len; omega); rw [HS.out.set] at this; exact this)
            clear hf2
            have hspot := FM.spot_neg K D HS.out.k256 hD8
            obtain ⟨sp, hsp⟩ : ∃ sp, spotS K D = sp := ⟨_, rfl⟩
            have hI := fun w => rspot_any K D w
            rw [hsp] at hI hspot
            have HI := Lib.hid hI
            clear hI hsp
            refine wp_region_plan (S := fun W' => FM.Mem w W' B d b p (cellsFau ⟨T, KD, x, y, z, nn, v⟩) u9 v10' ds (es ++ [⟨fT, fK, D, fy, fz, fn, fv⟩])) [(0, true), (2, true), (3, true), (4, true), (5, true), (6, true), (7, true), (1, false), (8, false), (9, true)] (by kernel_rfl) (by kernel_rfl) (by kernel_rfl) (by decide) (fun _ _ d _ _ h => by cases d <;> exact h) (HM4.out.below (Below.refl _ _).drew) ?_
            simp only [stepsOf, nth, slotOf]
            iterate 6 (refine wpPlan_plain ?_ (by rfl) ?_ ?_; rotate_left; (focus (intro w' hw'; go_simp; try with_reducible rfl)); go_simp)
            refine wpPlan_plain (.int .i64 (D : Int)) (by rfl) (fun w' hw' => exec_load rfl rfl (run_loadOne isAgg_int (HF2.out w' hw'.bel))) ?_
            go_simp
            refine wpPlan_loud (by rfl) (fun KK hKK => ?_)
            go_simp
            have HMd := Lib.hid (HM4.out.below (Below.refl _ _).drew)
            refine (HSET.out W3.drew HMd.out).mono ?_
            rintro e W4 ⟨rfl, hW4⟩
            subst hW4
            dsimp only
            refine hKK _ _ _ (fun _ h => h) HMd.out ?_
            clear hKK
            go_simp
            refine wpPlan_loud (by rfl) (fun KK hKK => ?_)
            go_simp
            refine (HI.out _).mono ?_
            rintro e W5 ⟨rfl, hb5⟩
            dsimp only
            have HM5 := Lib.hid (HMd.out.below hb5)
            refine hKK _ _ _ (fun _ h => h) HM5.out ?_
            clear hKK hb5 HMd HM4 HM3 HM2 HSET
            cases hin : inB K D with
            | true =>
              rw [hin] at hspot
              have hs2 : ¬ sp < 0 := by simpa using hspot
              have HS2 := Lib.hid (HS.out.old (f := ⟨fT, fK, D, fy, fz, fn, fv⟩) rfl hD8 hin)
              clear hspot hin
              iterate 1 (refine wpPlan_plain ?_ (by rfl) ?_ ?_; rotate_left; (focus (intro w' hw'; go_simp; try with_reducible rfl)); go_simp)
              refine wpPlan_nil ?_
              go_wp2_with fail
              go_round
              case rel => exact ⟨k + 1, K, ds, _, by omega, by omega, by go_num, HS2, HM5⟩
              case measure => simp [intOf]; omega
            | false =>
              rw [hin] at hspot
              have hs2 : sp < 0 := by simpa using hspot
              have HS2 := Lib.hid (HS.out.new (f := ⟨fT, fK, D, fy, fz, fn, fv⟩) rfl hD8 hin)
              clear hspot hin
              iterate 1 (refine wpPlan_plain ?_ (by rfl) ?_ ?_; rotate_left; (focus (intro w' hw'; go_simp; try with_reducible rfl)); go_simp)
              refine wpPlan_nil ?_
              have hc5 : Hid (ds.length + 1 ≤ maxLen) := by have := HS.out.len; show _ ≤ _; unfold maxLen; omega
              have hc6 : Hid ((ds.length + 1) * 8 ≤ 140737488355328) := by have := HS.out.len; show _ ≤ _; omega
              have hf2 := HF2.out W5 HM5.out.bel
              have HM6 := Lib.hid (HM5.out.below ((Below.refl _ _).alloc (Nat.le_refl _) (.cells #[.int .i64 (D : Int)] 3)))
              have hsz6 := HM6.out.size
              obtain ⟨j0, hj0, hy0, hy1, hy2⟩ := info_parts Tryz.infoInt
              go_wp2_with (at_builtin; refine wpList_plain rfl (fun KK hKK => wp_append_x _ _ 22 rfl (B + 2) 3 j0 _ 1 8 Tryz.underlying22 hj0 hy0 hy1 hy2 rfl (by decide) u9 ds.length (i64s ds) rfl HM6.out.own9 (some ⟨W5.heap.size, 0, none⟩) 1 1 [.int .i64 (D : Int)] rfl (fun e => (by cases e)) rfl (fun ad e => (by cases e; exact one_new W5 _ _)) (one_int _ _) hc5.out hc6.out hsz6 (fun v9' W6 hown6 hgrow6 _ => hKK _ _ ?_)))
              have HM7 := Lib.hid (HM6.out.push9 (D := D) hgrow6 (by have := hown6; exact this))
              clear hown6 hgrow6 hj0 hy0 hy1 hy2
              go_wp2_with fail
              go_round
              case rel => exact ⟨k + 1, _, _, _, by omega, by omega, by go_num, HS2, HM7⟩
              case measure => simp [intOf]; omega
        · obtain rfl : k = 12 := by omega
          obtain ⟨a9, cap9, rfl, hle9, hmx9, hfs⟩ := FM.faults_own HM.out.own10
          have HDS := Lib.hid (fun (W' : World) (hb : Below wr.heap.size wr W') => by have := HP.out.dies a9 cap9 es W' (hfs.below hb) hle9 hmx9 HS.out.ex; rw [HS.out.dies] at this; exact this)
          have HSET := Lib.hid (fun (W' : World) (hb : Below wr.heap.size wr W') => by have := rset_own (FM.own_below HM.out.own9 hb) HS.out.low (by have := HS.out.len; omega); rw [HS.out.set] at this; exact this)
          have HMAYC := Lib.hid (fun (W' : World) => by have := HP.out.may d b p ⟨T, KD, x, y, z, nn, v⟩ W'; rw [HMAY.out] at this; exact this)
          have c0 : wr.cell? ⟨B, 0, none⟩ = some (.int .i64 d) := HM.out.geo.cell rfl
          have c1 : wr.cell? ⟨B, 1, none⟩ = some (.int .i64 b) := HM.out.geo.cell rfl
          have c2 : wr.cell? ⟨B, 2, none⟩ = some (.int .i64 p) := HM.out.geo.cell rfl
          have f0 : wr.cell? ⟨B + 1, 0, none⟩ = some (.int .i64 T) := HM.out.flt.cell rfl
          have f1 : wr.cell? ⟨B + 1, 1, none⟩ = some (.int .i64 KD) := HM.out.flt.cell rfl
          have f2 : wr.cell? ⟨B + 1, 2, none⟩ = some (.int .i64 x) := HM.out.flt.cell rfl
          have f3 : wr.cell? ⟨B + 1, 3, none⟩ = some (.int .i64 y) := HM.out.flt.cell rfl
          have f4 : wr.cell? ⟨B + 1, 4, none⟩ = some (.int .i64 z) := HM.out.flt.cell rfl
          have f5 : wr.cell? ⟨B + 1, 5, none⟩ = some (.int .i64 nn) := HM.out.flt.cell rfl
          have f6 : wr.cell? ⟨B + 1, 6, none⟩ = some (.int .i64 v) := HM.out.flt.cell rfl
          have HBW := HM.out.bel
          clear hfs
          have hmm : ∀ q : Bool, (q == q) = true := fun q => by cases q <;> rfl
          generalize hes : es.length = m at *
          go_wp2_with (first | (go_at_call 31; (with_reducible refine (HMAYC.out _).mono ?_); rintro e W8 ⟨rfl, hb8⟩; have HB8 := Lib.hid hb8; clear hb8) | (go_at_call 32; (with_reducible refine (HDS.out _ HB8.out).mono ?_); rintro e W9 ⟨rfl, hb9⟩; have HB9 := Lib.hid (HB8.out.trans (hb9.mono HB8.out.size)); clear hb9) | (go_at_call 30; (with_reducible refine (HSET.out _ HB9.out).mono ?_); rintro e W10 ⟨rfl, rfl⟩))
          go_ret
          refine ⟨rfl, ?_⟩
          rw [HBE.out]
          exact HBW.trans (HB9.out.mono (by have := HM.out.size; omega))
      · obtain rfl : k = n := by omega
        obtain ⟨a9, cap9, rfl, hle9, hmx9, hfs⟩ := FM.faults_own HM.out.own10
        have HDS := Lib.hid (fun (W' : World) (hb : Below wr.heap.size wr W') => by have := HP.out.dies a9 cap9 es W' (hfs.below hb) hle9 hmx9 HS.out.ex; rw [HS.out.dies] at this; exact this)
        have HSET := Lib.hid (fun (W' : World) (hb : Below wr.heap.size wr W') => by have := rset_own (FM.own_below HM.out.own9 hb) HS.out.low (by have := HS.out.len; omega); rw [HS.out.set] at this; exact this)
        have HMAYC := Lib.hid (fun (W' : World) => by have := HP.out.may d b p ⟨T, KD, x, y, z, nn, v⟩ W'; rw [HMAY.out] at this; exact this)
        have c0 : wr.cell? ⟨B, 0, none⟩ = some (.int .i64 d) := HM.out.geo.cell rfl
        have c1 : wr.cell? ⟨B, 1, none⟩ = some (.int .i64 b) := HM.out.geo.cell rfl
        have c2 : wr.cell? ⟨B, 2, none⟩ = some (.int .i64 p) := HM.out.geo.cell rfl
        have f0 : wr.cell? ⟨B + 1, 0, none⟩ = some (.int .i64 T) := HM.out.flt.cell rfl
        have f1 : wr.cell? ⟨B + 1, 1, none⟩ = some (.int .i64 KD) := HM.out.flt.cell rfl
        have f2 : wr.cell? ⟨B + 1, 2, none⟩ = some (.int .i64 x) := HM.out.flt.cell rfl
        have f3 : wr.cell? ⟨B + 1, 3, none⟩ = some (.int .i64 y) := HM.out.flt.cell rfl
        have f4 : wr.cell? ⟨B + 1, 4, none⟩ = some (.int .i64 z) := HM.out.flt.cell rfl
        have f5 : wr.cell? ⟨B + 1, 5, none⟩ = some (.int .i64 nn) := HM.out.flt.cell rfl
        have f6 : wr.cell? ⟨B + 1, 6, none⟩ = some (.int .i64 v) := HM.out.flt.cell rfl
        have HBW := HM.out.bel
        clear hfs
        have hmm : ∀ q : Bool, (q == q) = true := fun q => by cases q <;> rfl
        generalize hes : es.length = m at *
        go_wp2_with (first | (go_at_call 31; (with_reducible refine (HMAYC.out _).mono ?_); rintro e W8 ⟨rfl, hb8⟩; have HB8 := Lib.hid hb8; clear hb8) | (go_at_call 32; (with_reducible refine (HDS.out _ HB8.out).mono ?_); rintro e W9 ⟨rfl, hb9⟩; have HB9 := Lib.hid (HB8.out.trans (hb9.mono HB8.out.size)); clear hb9) | (go_at_call 30; (with_reducible refine (HSET.out _ HB9.out).mono ?_); rintro e W10 ⟨rfl, rfl⟩))
        go_ret
        refine ⟨rfl, ?_⟩
        rw [HBE.out]
        exact HBW.trans (HB9.out.mono (by have := HM.out.size; omega))
end Go.Proofs.YtfploeefmnbpcaaGreat
