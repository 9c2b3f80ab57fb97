/- The law SpotBlock: the walk. -/
import Derived.Test.YtobkbbbdddllmaaEqA
import Derived.Test.YtobkbbbdddllmaaBlockB
import Derived.Test.YtobkbbbdddllmaaAllB
import Derived.Deep.QuietTactic
namespace Go.Proofs.Ytobkbbbdddllmaa
open Go.RowKit Mp Go.ChangeMaps Go.Sort

set_option maxRecDepth 100000 in
set_option maxHeartbeats 8000000 in
theorem spotBlock_walk (a : Option Addr) (len cap : Nat) (xs : List A3) (die blk : Int) (w : World) (hlen : xs.length = len) (hle : len ≤ cap) (hcap : cap ≤ maxLen) (hx : AddrsIs w a xs) (_hd : (Lit.int .i64 die).wf = true) (_hb : (Lit.int .i64 blk).wf = true) :
    Calls Try.prog 4 #[.slice a len cap, .int .i64 die, .int .i64 blk] w fun e w' => e = .returned (.bool true) ∧ Below w.heap.size w w' := by
  have HX := Lib.hid hx
  have HLEN := Lib.hid hlen
  have hc64 : cap ≤ 9223372036854775807 := by unfold maxLen at hcap; omega
  obtain ⟨i0, hi, hz0, hz1, hz2⟩ := info_parts infoA
  clear hx hlen hcap
  go_enter Try.func4, Try.ntmps4
  go_wp2_with fail
  refine (begun5_any w).mono ?_
  rintro e w1 ⟨rfl, hb1⟩
  have HB1 := Lib.hid hb1
  clear hb1
  go_wp2_with fail
  refine (newB w1).mono ?_
  rintro e w2 ⟨rfl, hs, hb2, _⟩
  obtain ⟨g, hg⟩ : ∃ g, w1.heap.size = g := ⟨_, rfl⟩
  rw [hg] at hs ⊢
  have hgw : w.heap.size ≤ g := by rw [← hg]; exact HB1.out.size
  have HB2 := Lib.hid (HB1.out.trans (hb2.mono HB1.out.size))
  have HS2 := Lib.hid hs
  clear hb2 hs HB1 hg
  go_wp2_with fail
  go_loopw [9] (fun i wr => ∃ (k : Nat) (mb : Option Nat) (l : List (A3 × Value)), i = .int .i64 k ∧ k ≤ len ∧ k ≤ 40 ∧ SpotIs wr g mb l ∧ (∀ b, mb = some b → w.heap.size ≤ b) ∧ l.length ≤ k ∧ Below w.heap.size w wr) (fun i _ => (len - intOf i).toNat)
  case atStart => exact ⟨0, none, [], rfl, Nat.zero_le _, by omega, HS2.out, fun b h => (by cases h), Nat.le_refl _, HB2.out⟩
  case round =>
    obtain ⟨k, mb, l, rfl, hk, hk40, hs, hmb, hl, hbel⟩ := hrel
    have HS := Lib.hid hs
    have HBEL := Lib.hid hbel
    have HMB := Lib.hid hmb
    have HL := Lib.hid hl
    clear hs hbel hmb hl HS2 HB2
    rcases (show (k < len ∧ k < 40) ∨ (k < len ∧ 40 ≤ k) ∨ len ≤ k by omega) with hcase | hcase | hcase
    · obtain ⟨hkl, hk4⟩ := hcase
      obtain ⟨p, hp⟩ : ∃ p, xs[k]? = some p := ⟨_, List.getElem?_eq_getElem (by rw [HLEN.out]; exact hkl)⟩
      obtain ⟨hok, b0, o0, rfl, c0, c1, c2⟩ := (HX.out.below (HBEL.out.mono (Nat.le_refl _))) k p hp
      have hkc : k < cap := by omega
      have HOK := Lib.hid hok
      clear hp hok
      cases mb with
      | none =>
        go_wp2_with fail
        refine (setB_none g l p (.bool true) wr HS.out HOK.out).mono ?_
        rintro e w3 ⟨rfl, b, hbw, hs, hb⟩
        have hmb2 : w.heap.size ≤ b := Nat.le_trans HBEL.out.size hbw
        have hb3 := HBEL.out.trans (hb.below HBEL.out.size hgw (fun _ h => (by cases h)))
        have HS3 := Lib.hid hs
        have HB3 := Lib.hid hb3
        clear hs hb hb3
        go_wp2_with fail
        go_roundw
        case rel => exact ⟨k + 1, some b, (p, .bool true) :: delA l p, by simp, by omega, by omega, HS3.out, fun _ h => (by cases h; exact hmb2), by have := HL.out; have := List.length_filter_le (fun q : A3 × Value => !decide (q.1 = p)) l; simp [delA] at this ⊢; omega, HB3.out⟩
        case measure => simp [intOf]; omega
      | some b =>
        go_wp2_with fail
        refine (setB_some g b l p (.bool true) wr HS.out HOK.out).mono ?_
        rintro e w3 ⟨rfl, hs, hb⟩
        have hb3 := HBEL.out.trans (hb.below HBEL.out.size hgw (fun _ h => (by cases h; exact HMB.out b rfl)))
        have HS3 := Lib.hid hs
        have HB3 := Lib.hid hb3
        clear hs hb hb3
        go_wp2_with fail
        go_roundw
        case rel => exact ⟨k + 1, some b, (p, .bool true) :: delA l p, by simp, by omega, by omega, HS3.out, HMB.out, by have := HL.out; have := List.length_filter_le (fun q : A3 × Value => !decide (q.1 = p)) l; simp [delA] at this ⊢; omega, HB3.out⟩
        case measure => simp [intOf]; omega
    all_goals go_wp2_with fail
    all_goals (
      refine (allB_any g mb l wr HS.out (by have := HL.out; omega)).mono ?_
      rintro e w3 ⟨v, rfl, hsl, hb⟩
      obtain ⟨S, hS⟩ : ∃ S, sortL (l.map (·.1)) = S := ⟨_, rfl⟩
      rw [hS] at hsl
      obtain ⟨a3, c3, rfl, hc3, hm3, hcell3⟩ := hsl.form
      have hS40 : S.length ≤ 40 := by rw [← hS, sortL_length]; simp; have := HL.out; omega
      have HS3 := Lib.hid (HS.out.below hb (Nat.le_refl _))
      have HB3 := Lib.hid (HBEL.out.trans (hb.mono HBEL.out.size))
      have HSL := Lib.hid hsl
      have HSS := Lib.hid hS
      have hm64 : c3 ≤ 9223372036854775807 := by unfold maxLen at hm3; omega
      obtain ⟨wA, rfl⟩ : ∃ wA, wA = w3 := ⟨_, rfl⟩
      have HC := Lib.hid hcell3
      clear hb hsl hS HS HBEL hm3 hcell3 hcase
      go_wp2_with fail
      go_loopw [10, 12] (fun v i wr => ∃ k : Nat, i = .int .i64 k ∧ k ≤ S.length ∧ wr.ownsRow wA.heap.size 29 3 v ((S.take k).filter (inP die blk)).length (((S.take k).filter (inP die blk)).flatMap cellsA) ∧ Below wA.heap.size wA wr) (fun _ i _ => (S.length - intOf i).toNat)
      case atStart => exact ⟨0, rfl, Nat.zero_le _, World.ownsRow_nil _ _ _ _, Below.refl _ _⟩
      case round =>
        obtain ⟨j, rfl, hj, hown, hbq⟩ := hrel
        have HOWN := Lib.hid hown
        have HBQ := Lib.hid hbq
        clear hown hbq
        by_cases hjn : j < S.length
        · obtain ⟨p, hp⟩ : ∃ p, S[j]? = some p := ⟨_, List.getElem?_eq_getElem hjn⟩
          obtain ⟨g3, rfl, _, hlt3, e0, e1, e2⟩ := HC.out j p hp
          have c0 : wr.cell? ⟨g3, j * 3, none⟩ = some (.int .i64 p.1) := (HBQ.out.cell (p := ⟨g3, j * 3, none⟩) hlt3).trans e0
          have c1 : wr.cell? ⟨g3, j * 3 + 1, none⟩ = some (.int .i64 p.2.1) := (HBQ.out.cell (p := ⟨g3, j * 3 + 1, none⟩) hlt3).trans e1
          have c2 : wr.cell? ⟨g3, j * 3 + 2, none⟩ = some (.int .i64 p.2.2) := (HBQ.out.cell (p := ⟨g3, j * 3 + 2, none⟩) hlt3).trans e2
          have hjc : j < c3 := by omega
          have HP := Lib.hid hp
          have hfl : ((S.take j).filter (inP die blk)).length ≤ 40 := by
            have h1 := List.length_filter_le (inP die blk) (S.take j)
            have h2 := List.length_take_le j S
            rw [List.length_take] at h1
            omega
          have hbs := HBQ.out.size
          clear e0 e1 e2 hp
          by_cases hd : p.1 = die
          · subst hd
            by_cases hbk : p.2.1 = blk
            · subst hbk
              have how2 : (wr.alloc (.cells #[.int .i64 p.1, .int .i64 p.2.1, .int .i64 p.2.2] 29)).ownsRow wA.heap.size 29 3 u10 ((S.take j).filter (inP p.1 p.2.1)).length (((S.take j).filter (inP p.1 p.2.1)).flatMap cellsA) := HOWN.out.alloc _
              have hnews := news_at wr p.1 p.2.1 p.2.2 29
              go_wp2_with (first
                | (at_builtin; refine wpList_append_own _ rfl _ _ 26 rfl wA.heap.size 29 i0 _ 3 24 Try.underlying26 hi hz0 hz1 hz2 rfl (by decide) _ _ _ rfl how2 ⟨wr.heap.size, 0, none⟩ 1 1 (cellsA (p.1, p.2.1, p.2.2)) rfl rfl hnews (by simp [cellsA, Value.oneCell']) (by unfold maxLen; omega) (by omega) (by simp; omega) ?_; intro v' w2 how' hgrow hnil; have HW := Lib.hid how'; have HG := Lib.hid hgrow; clear how' hgrow hnil)
                | go_in)
              have hB2 : Below wA.heap.size wA w2 := (HBQ.out.alloc HBQ.out.size _).grown HG.out (by simp; omega) (fun q hq => (HOWN.out.lt q hq).1)
              go_roundw
              case rel =>
                refine ⟨j + 1, by simp, by omega, ?_, hB2⟩
                rw [take_yes HP.out (by simp [inP])]
                simpa using HW.out
              case measure => simp [intOf]; omega
            · have hb : (p.2.1 == blk) = false := by simpa using hbk
              go_wp2_with fail
              go_roundw
              case rel => exact ⟨j + 1, by simp, by omega, by rw [take_no HP.out (by simp [inP, hbk])]; exact HOWN.out, HBQ.out⟩
              case measure => simp [intOf]; omega
          · have hb : (p.1 == die) = false := by simpa using hd
            go_wp2_with fail
            go_roundw
            case rel => exact ⟨j + 1, by simp, by omega, by rw [take_no HP.out (by simp [inP, hd])]; exact HOWN.out, HBQ.out⟩
            case measure => simp [intOf]; omega
        · obtain rfl : j = S.length := by omega
          have hw1 := HOWN.out
          rw [List.take_length] at hw1
          obtain ⟨G, hG⟩ : ∃ G, S.filter (inP die blk) = G := ⟨_, rfl⟩
          rw [hG] at hw1
          have HS4 := Lib.hid (HS3.out.below HBQ.out (Nat.le_refl _))
          have hG40 : G.length ≤ 40 := by rw [← hG]; have := List.length_filter_le (inP die blk) S; omega
          obtain ⟨a4, c4, rfl, hc4, hm4, hcell4⟩ := (SliceA.of_owns hw1).form
          have hm464 : c4 ≤ 9223372036854775807 := by unfold maxLen at hm4; omega
          have HB4 := Lib.hid (HB3.out.trans (HBQ.out.mono HB3.out.size))
          obtain ⟨wC, rfl⟩ : ∃ wC, wC = wr := ⟨_, rfl⟩
          go_wp2_with fail
          refine (blockB_any g mb l die blk wC HS4.out (by have := HL.out; omega)).mono ?_
          rintro e w5 ⟨v, rfl, hsl, hb⟩
          have hpk : sortL (pick die blk l) = G := by rw [sortL_pick die blk HS3.out.nodup, HSS.out, hG]
          rw [hpk] at hsl
          obtain ⟨a5, c5, rfl, hc5, hm5, hcell5⟩ := hsl.form
          have hm564 : c5 ≤ 9223372036854775807 := by unfold maxLen at hm5; omega
          have hcell4' : ∀ i x, G[i]? = some x → ∃ g, a4 = some ⟨g, 0, none⟩ ∧ w5.cell? ⟨g, i * 3, none⟩ = some (.int .i64 x.1) ∧ w5.cell? ⟨g, i * 3 + 1, none⟩ = some (.int .i64 x.2.1) ∧ w5.cell? ⟨g, i * 3 + 2, none⟩ = some (.int .i64 x.2.2) := fun i x hx => by
            obtain ⟨q, e, _, hq, k0, k1, k2⟩ := hcell4 i x hx
            exact ⟨q, e, (hb.cell (p := ⟨q, i * 3, none⟩) hq).trans k0, (hb.cell (p := ⟨q, i * 3 + 1, none⟩) hq).trans k1, (hb.cell (p := ⟨q, i * 3 + 2, none⟩) hq).trans k2⟩
          have HC4 := Lib.hid hcell4'
          have HC5 := Lib.hid hcell5
          have HB5 := Lib.hid (HB4.out.trans (hb.mono HB4.out.size))
          clear hb hsl hpk hcell4 hcell4' hcell5 hG hw1 HOWN HBQ hm4 hm5 HC
          go_wp2_with fail
          go_loopw [14] (fun i wr => ∃ q : Nat, i = .int .i64 q ∧ q ≤ G.length ∧ Below w.heap.size w wr ∧ w5.heap = wr.heap) (fun i _ => (G.length - intOf i).toNat)
          case atStart => exact ⟨0, rfl, Nat.zero_le _, HB5.out, rfl⟩
          case round =>
            obtain ⟨q, rfl, hq, hbq, hheap⟩ := hrel
            have HBW := Lib.hid hbq
            have HHEAP := Lib.hid hheap
            clear hbq hheap
            by_cases hqn : q < G.length
            · obtain ⟨p, hp⟩ : ∃ p, G[q]? = some p := ⟨_, List.getElem?_eq_getElem hqn⟩
              obtain ⟨g4, rfl, d0, d1, d2⟩ := HC4.out q p hp
              obtain ⟨g5, rfl, _, _, e0, e1, e2⟩ := HC5.out q p hp
              have at_ : ∀ x : Addr, wr.cell? x = w5.cell? x := fun x => World.cell?_of_block (by rw [HHEAP.out])
              have k0 : wr.cell? ⟨g4, q * 3, none⟩ = some (.int .i64 p.1) := (at_ _).trans d0
              have k1 : wr.cell? ⟨g4, q * 3 + 1, none⟩ = some (.int .i64 p.2.1) := (at_ _).trans d1
              have k2 : wr.cell? ⟨g4, q * 3 + 2, none⟩ = some (.int .i64 p.2.2) := (at_ _).trans d2
              have m0 : wr.cell? ⟨g5, q * 3, none⟩ = some (.int .i64 p.1) := (at_ _).trans e0
              have m1 : wr.cell? ⟨g5, q * 3 + 1, none⟩ = some (.int .i64 p.2.1) := (at_ _).trans e1
              have m2 : wr.cell? ⟨g5, q * 3 + 2, none⟩ = some (.int .i64 p.2.2) := (at_ _).trans e2
              have heq : ∀ W, (Op.equalIn 10000 29 (.agg #[.int .i64 p.1, .int .i64 p.2.1, .int .i64 p.2.2]) (.agg #[.int .i64 p.1, .int .i64 p.2.1, .int .i64 p.2.2])).run Try.prog W = .ok true W := fun W => by rw [eqA p p W]; simp
              have hq4 : q < c4 := by omega
              have hq5 : q < c5 := by omega
              clear at_ d0 d1 d2 e0 e1 e2 hp
              go_wp2_with fail
              go_quiet (fail)
              go_wp2_with fail
              go_roundw
              case rel => exact ⟨q + 1, by simp, by omega, below_drewN HBW.out _, HHEAP.out⟩
              case measure => simp [intOf]; omega
            · obtain rfl : q = G.length := by omega
              go_wp2_with fail
              go_ret
              exact ⟨rfl, HBW.out⟩)
end Go.Proofs.Ytobkbbbdddllmaa
