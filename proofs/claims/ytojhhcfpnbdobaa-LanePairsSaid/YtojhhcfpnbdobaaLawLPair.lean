/- The law LanePairs: the walk. -/
import Derived.Test.YtojhhcfpnbdobaaWays
import Derived.Test.YtojhhcfpnbdobaaLaneU
import Derived.Deep.DeepCutAuto
namespace Go.Proofs.Ytojhhcfpnbdobaa
open Go.RowKit

namespace M
/-- Numbers as dies. -/
def resN (zs : List Int) (n : Nat) : List Nat := (zs.take n).map fun z => (z % 8).toNat
theorem resN_length (zs : List Int) (n : Nat) (h : n ≤ zs.length) : (resN zs n).length = n := by
  unfold resN; rw [List.length_map, List.length_take]; omega
theorem resN_lt (zs : List Int) (n : Nat) : ∀ x ∈ resN zs n, x < 8 := by
  intro x hx
  obtain ⟨z, _, rfl⟩ := List.mem_map.1 hx
  omega
theorem resN_getD (zs : List Int) (n k : Nat) (h : k < n) (hn : n ≤ zs.length) : (resN zs n).getD k 0 = (zs.getD k 0 % 8).toNat := by
  unfold resN
  simp only [List.getD, List.getElem?_map, List.getElem?_take, if_pos h, List.getElem?_eq_getElem (show k < zs.length by omega), Option.map_some, Option.getD_some]
theorem take_getD (l : List Nat) (k : Nat) (h : k < l.length) : l.take (k + 1) = l.take k ++ [l.getD k 0] := by
  rw [List.take_succ_eq_append_getElem h]
  simp only [List.getD, List.getElem?_eq_getElem h, Option.getD_some]
end M

set_option linter.unusedVariables false in
set_option maxRecDepth 100000 in
set_option maxHeartbeats 4000000 in
theorem lanePairs_walk (a : Option Addr) (len cap : Nat) (zs : List Int) (turn : Int) (w : World) (hz : IsInts w a len cap zs) (ht : (Lit.int .i64 turn).wf = true) :
    Calls Try.prog 20 #[.slice a len cap, .int .i64 turn] w fun e w' => e = .returned (.bool true) ∧ Below w.heap.size w w' := by
  obtain ⟨t1, t2⟩ : -9223372036854775808 ≤ turn ∧ turn ≤ 9223372036854775807 := by simpa [Lit.wf, IntKind.min, IntKind.max, IntKind.signed, IntKind.bits] using ht
  have HZ := Lib.hid hz
  have hlen : len ≤ 9223372036854775807 := Nat.le_trans hz.fits hz.small
  obtain ⟨n, hn⟩ : ∃ n, min len 10 = n := ⟨_, rfl⟩
  have hmin : (if (len : Int) < 10 then (len : Int) else 10) = (n : Int) := by split <;> omega
  have hn10 : n ≤ 10 := by omega
  have hnl : n ≤ len := by omega
  have HLEN := Lib.hid (M.resN_length zs n (by rw [hz.size]; exact hnl))
  have HLT := Lib.hid (M.resN_lt zs n)
  have HMIN := Lib.hid hmin
  clear hz ht hn hmin
  go_enter Try.func20, Try.ntmps20
  go_upto_region 4 with (go_at_call 21; refine (begun_any _).mono ?_; rintro e w1 ⟨rfl, hb1⟩; have HB1 := Lib.hid hb1; clear hb1)
  go_cut [6] (fun v wx => v = .int .i64 n ∧ w1 = wx)
  case first =>
    have hor : (len : Int) < 10 ∨ 10 ≤ (len : Int) := by omega
    rcases hor with h | h
    · obtain rfl : len = n := by have := HMIN.out; rw [if_pos h] at this; omega
      go_wp2_with fail
      go_meet
      case rel => exact ⟨rfl, rfl⟩
    · obtain rfl : n = 10 := by have := HMIN.out; rw [if_neg (by omega)] at this; omega
      rcases (show (len : Int) = 10 ∨ 10 < (len : Int) by omega) with h2 | h2
      · obtain rfl : len = 10 := by omega
        go_wp2_with fail
        go_meet
        case rel => exact ⟨rfl, rfl⟩
      · have h3 : ¬ ((len : Int) ≤ 10) := by omega
        have h4 : ¬ ((len : Int) < 10) := by omega
        go_wp2_with fail
        go_meet
        case rel => exact ⟨rfl, rfl⟩
  case rest =>
  obtain ⟨rfl, rfl⟩ := hcut
  have HZ1 := Lib.hid (HZ.out.below HB1.out)
  obtain ⟨s, hs⟩ : ∃ s : Int, turn.tmod n = s := ⟨_, rfl⟩
  obtain ⟨r, hr⟩ : ∃ r : Nat, ((s + n) % n).toNat = r := ⟨_, rfl⟩
  have hrn : r < n ∨ n = 0 := by
    rcases Nat.eq_zero_or_pos n with h | h
    · exact .inr h
    · have h1 := Int.emod_nonneg (s + n) (show (n : Int) ≠ 0 by omega)
      have h2 := Int.emod_lt_of_pos (s + n) (show (0 : Int) < n by omega)
      left; omega
  have HS := Lib.hid hs
  have HR := Lib.hid hr
  have HRN := Lib.hid hrn
  clear hs hr hrn
  go_wp2_with fail
  go_loop [7, 8, 9] (fun x y i => ∃ k f g : Nat, k ≤ n ∧ f < 256 ∧ g < 256 ∧ i = .int .i64 k ∧ x = .int .i64 f ∧ y = .int .i64 g ∧ Hid (M.foldW ((M.resN zs n).take k) = f) ∧ Hid (M.foldW (M.wheelL (M.resN zs n) r k) = g)) (fun _ _ i => (n - intOf i).toNat)
  case atStart => exact ⟨0, 0, 0, Nat.zero_le _, by omega, by omega, rfl, rfl, rfl, rfl, rfl⟩
  case round =>
    obtain ⟨k, f, g, hk, hf, hg, rfl, rfl, rfl, hfold, hgold⟩ := hrel
    by_cases hlt : k < n
    · have hrn : r < n := by rcases HRN.out with h | h <;> omega
      obtain ⟨b, off, rfl, hc1, hz1, hz2⟩ := HZ1.out.at k (by omega)
      obtain ⟨j, hj⟩ : ∃ j, (k + r) % n = j := ⟨_, rfl⟩
      have hjn : j < n := by rw [← hj]; exact Nat.mod_lt _ (by omega)
      obtain ⟨b', off', he, hc2, hz3, hz4⟩ := HZ1.out.at j (by omega)
      injection he with he; injection he with he1 he2; subst he1; subst he2
      have ek := M.resN_getD zs n k hlt (by rw [HZ1.out.size]; exact hnl)
      have ej := M.resN_getD zs n j hjn (by rw [HZ1.out.size]; exact hnl)
      have hk8 := M.getD_lt8 (M.resN zs n) HLT.out k
      have hj8 := M.getD_lt8 (M.resN zs n) HLT.out j
      have hfo : M.foldW ((M.resN zs n).take (k + 1)) = M.withN f ((M.resN zs n).getD k 0) := by
        rw [M.take_getD _ k (by rw [HLEN.out]; exact hlt), M.foldW_snoc, hfold.out]
      have hgo : M.foldW (M.wheelL (M.resN zs n) r (k + 1)) = M.withN g ((M.resN zs n).getD j 0) := by
        rw [M.wheelL_succ, M.foldW_snoc, hgold.out, HLEN.out, hj]
      generalize (M.resN zs n).getD k 0 = X at ek hk8 hfo
      generalize (M.resN zs n).getD j 0 = Y at ej hj8 hgo
      generalize zs.getD k 0 = p at hc1 hz1 hz2 ek
      generalize zs.getD j 0 = q at hc2 hz3 hz4 ej
      have ep : (p.tmod 8 + 8) % 8 = (X : Int) := by rw [Int.tmod_eq_emod]; split <;> omega
      have eq : (q.tmod 8 + 8) % 8 = (Y : Int) := by rw [Int.tmod_eq_emod]; split <;> omega
      have hp1 : -7 ≤ p.tmod 8 ∧ p.tmod 8 ≤ 7 := by rw [Int.tmod_eq_emod]; split <;> omega
      have hq1 : -7 ≤ q.tmod 8 ∧ q.tmod 8 ≤ 7 := by rw [Int.tmod_eq_emod]; split <;> omega
      obtain ⟨hp1, hp2⟩ := hp1
      obtain ⟨hq1, hq2⟩ := hq1
      obtain ⟨P, hP⟩ : ∃ P : Int, p.tmod 8 = P := ⟨_, rfl⟩
      obtain ⟨Q, hQ⟩ : ∃ Q : Int, q.tmod 8 = Q := ⟨_, rfl⟩
      rw [hP] at ep hp1 hp2
      rw [hQ] at eq hq1 hq2
      have hnI : (0 : Int) < n := by omega
      have hn0 : ((n : Int) == 0) = false := by simp; omega
      have hs1 : -(n : Int) < s ∧ s < n := by
        have h := HS.out
        have a1 := Int.emod_nonneg turn (show (n : Int) ≠ 0 by omega)
        have a2 := Int.emod_lt_of_pos turn hnI
        rw [Int.tmod_eq_emod] at h
        rw [Int.natAbs_natCast] at h
        split at h <;> omega
      obtain ⟨hs1, hs2⟩ := hs1
      have hs3 : turn.tmod n = s := HS.out
      have er : (s + n) % n = (r : Int) := by
        have a1 := Int.emod_nonneg (s + n) (show (n : Int) ≠ 0 by omega)
        have := HR.out; omega
      have ejI : ((k : Int) + r) % n = (j : Int) := by rw [← hj]; simp
      have hwf := (M.without_tab ⟨f, hf⟩ ⟨X, hk8⟩).2.1
      have hwg := (M.without_tab ⟨g, hg⟩ ⟨Y, hj8⟩).2.1
      simp only at hwf hwg
      have HF := Lib.hid hfo
      have HG := Lib.hid hgo
      have hjI : (j : Int) < len := by omega
      have hkI : (k : Int) < len := by omega
      clear ek ej hfo hgo hfold hgold hj
      go_wp2_with (first
        | (go_at_call 57; (with_reducible refine (with_yes f X _ hf hk8).mono ?_); rintro e w' ⟨rfl, rfl⟩)
        | (go_at_call 57; (with_reducible refine (with_yes g Y _ hg hj8).mono ?_); rintro e w' ⟨rfl, rfl⟩))
      exact ⟨⟨k + 1, _, _, by omega, hwf, hwg, by go_num, rfl, rfl, HF, HG⟩, by simp [intOf]; omega⟩
    · obtain rfl : k = n := by omega
      have hX := M.foldW_all (M.resN zs k) HLT.out
      have hfe : M.foldW (M.resN zs k) = f := by
        have h := hfold.out
        rwa [List.take_of_length_le (by rw [HLEN.out]; exact Nat.le_refl _)] at h
      have hge : g = f := by
        have h := M.turn_same (M.resN zs k) HLT.out r (by rw [HLEN.out]; exact HRN.out)
        rw [HLEN.out, hgold.out, hfe] at h
        exact h
      have hz0 := M.foldW_zero (M.resN zs k) HLT.out
      rw [hfe] at hX hz0
      obtain ⟨_, hX2, hX3⟩ := hX
      rw [HLEN.out] at hX2
      have hz1 : f = 0 ↔ k = 0 := by
        rw [hz0]
        constructor
        · intro h
          have := HLEN.out
          rw [h] at this; exact this.symm
        · intro h
          exact List.length_eq_zero_iff.1 (by rw [HLEN.out]; exact h)
      have HX2 := Lib.hid hX2
      have HX3 := Lib.hid hX3
      have HZ0 := Lib.hid hz1
      clear hX2 hX3 hz0 hz1 hfe hfold hgold
      subst hge
      go_wp2_with fail
      go_loop [11] (fun i => ∃ t : Nat, t ≤ k ∧ i = .int .i64 t) (fun i => (k - intOf i).toNat)
      case atStart => exact ⟨0, Nat.zero_le _, rfl⟩
      case round =>
        obtain ⟨t, ht, rfl⟩ := hrel
        by_cases hlt2 : t < k
        · obtain ⟨b, off, rfl, hc1, hz1, hz2⟩ := HZ1.out.at t (by omega)
          have ek := M.resN_getD zs k t hlt2 (by rw [HZ1.out.size]; exact hnl)
          have hk8 := M.getD_lt8 (M.resN zs k) HLT.out t
          have hin : inB g ((M.resN zs k).getD t 0) = true := by
            rw [HX3.out _ hk8, List.contains_iff_mem]
            have htl : t < (M.resN zs k).length := by rw [HLEN.out]; exact hlt2
            simp only [List.getD, List.getElem?_eq_getElem htl, Option.getD_some]
            exact List.getElem_mem htl
          generalize (M.resN zs k).getD t 0 = X at ek hk8 hin
          generalize zs.getD t 0 = p at hc1 hz1 hz2 ek
          have ep : (p.tmod 8 + 8) % 8 = (X : Int) := by rw [Int.tmod_eq_emod]; split <;> omega
          have hp1 : -7 ≤ p.tmod 8 ∧ p.tmod 8 ≤ 7 := by rw [Int.tmod_eq_emod]; split <;> omega
          obtain ⟨hp1, hp2⟩ := hp1
          obtain ⟨P, hP⟩ : ∃ P : Int, p.tmod 8 = P := ⟨_, rfl⟩
          rw [hP] at ep hp1 hp2
          have hh := has_yes g X
          rw [hin] at hh
          have HH := Lib.hid hh
          have hkI : (t : Int) < len := by omega
          clear ek hin hh
          go_wp2_with (go_at_call 53; (with_reducible refine (HH.out _ hf hk8).mono ?_); rintro e w' ⟨rfl, rfl⟩)
          exact ⟨⟨t + 1, by omega, by go_num⟩, by simp [intOf]; omega⟩
        · obtain rfl : t = k := by omega
          have hle : (M.popN g : Int) ≤ t := by have := HX2.out; omega
          have hzb : ((t : Int) == 0) = ((g : Int) == 0) := by
            rw [Bool.eq_iff_iff]; simp only [beq_iff_eq]
            have := HZ0.out
            omega
          have hcnt := count_yes g
          obtain ⟨c, hc⟩ : ∃ c, M.popN g = c := ⟨_, rfl⟩
          rw [hc] at hle hcnt
          have HC := Lib.hid hcnt
          clear hcnt hc
          go_wp2_with (go_at_call 54; (with_reducible refine (HC.out _ hf).mono ?_); rintro e w' ⟨rfl, rfl⟩)
          go_ret
          exact ⟨rfl, HB1.out⟩
end Go.Proofs.Ytojhhcfpnbdobaa
