/- The law GeoTurns: the walk. -/
import Derived.Test.YticpjkbcchghjaaBegunG
import Derived.Test.YticpjkbcchghjaaTurnM
namespace Go.Proofs.Yticpjkbcchghjaa
open Go.RowKit

theorem and255 (n : Int) : bits BinOp.and IntKind.i64 n 255 = ((n % 256).toNat : Int) := by
  have e : bits .and .i64 n 255 = IntKind.i64.wrap (BitVec.ofInt 64 n &&& BitVec.ofInt 64 255).toNat := rfl
  have e2 : (BitVec.ofInt 64 255) = BitVec.ofNat 64 255 := rfl
  have e3 : ∀ x : Nat, x &&& 255 = x % 256 := fun x => Nat.and_two_pow_sub_one_eq_mod x 8
  rw [e, e2, BitVec.toNat_and, BitVec.toNat_ofInt, BitVec.toNat_ofNat, Nat.mod_eq_of_lt (a := 255) (by omega), e3, IntKind.wrap_i64]
  omega

/-- A set's bit, as the code asks for it. -/
theorem bit_in (F D : Nat) (hF : F < 256) (hD : D < 8) (v : Bool) (h : inB F D = v) : bits BinOp.and IntKind.i64 ((F : Int) / 2 ^ D) 1 = ((v.toNat : Nat) : Int) := by
  have h2 := M.has_tab ⟨F, hF⟩ ⟨D, hD⟩
  simp only [Int.natCast_ediv, Int.natCast_pow, Int.cast_ofNat_Int] at h2
  rw [h2, h]
theorem or_in (F D : Nat) (hF : F < 256) (hD : D < 8) : bits BinOp.or IntKind.i64 (F : Int) (wrap64 (2 ^ D)) = (M.withN F D : Nat) := by
  rw [wrap_pow (by omega)]; exact M.or_tab ⟨F, hF⟩ ⟨D, hD⟩

/-- The parity of the i-th row from one on. -/
theorem par_row (K B R i n : Nat) (hK : K < 256) (hn : M.popN K = n) (h2 : 2 ≤ n) : parS K B (R + i) = ((diesK K 8).getD ((i + (B % n + R % n) % n) % n) 0 : Nat) := by
  have hc := countS_nat K hK
  unfold parS
  rw [hc, hn, if_pos ⟨h2, by omega, by omega⟩, diesS_nat K hK, ← M.sum_mod]
  congr 3

attribute [local irreducible] parS slotsS dieS slotS spotS atS diesS

set_option maxRecDepth 100000 in
set_option maxHeartbeats 4000000 in
theorem geoTurns_walk (m b r : Int) (w : World) (_ : (Lit.int .i64 m).wf = true) (hb : (Lit.int .i64 b).wf = true) (hr : (Lit.int .i64 r).wf = true) :
    Calls Try.prog 5 #[.int .i64 m, .int .i64 b, .int .i64 r] w fun e w' => e = .returned (.bool true) ∧ Below w.heap.size w w' := by
  obtain ⟨b1, b2⟩ : -9223372036854775808 ≤ b ∧ b ≤ 9223372036854775807 := by simpa [Lit.wf, IntKind.min, IntKind.max, IntKind.signed, IntKind.bits] using hb
  obtain ⟨r1, r2⟩ : -9223372036854775808 ≤ r ∧ r ≤ 9223372036854775807 := by simpa [Lit.wf, IntKind.min, IntKind.max, IntKind.signed, IntKind.bits] using hr
  have hand := and255 m
  obtain ⟨K, hK⟩ : ∃ K : Nat, (m % 256).toNat = K := ⟨_, rfl⟩
  have hK8 : K < 256 := by omega
  rw [hK] at hand
  clear hK hb hr
  obtain ⟨n, hn⟩ : ∃ n, M.popN K = n := ⟨_, rfl⟩
  have hn8 : n ≤ 8 := by rw [← hn]; exact diesK_length K 8
  have hd := fun w => rdies_any K w
  rw [diesS_nat K hK8, show (diesK K 8).length = n from hn] at hd
  have HD := Lib.hid hd
  have HN := Lib.hid hn
  clear hd hn
  have HB : Hid (Below w.heap.size w w) := Below.refl _ _
  by_cases hout : n < 2 ∨ b < 0 ∨ r < 0 ∨ 1073741824 < b ∨ 1073741824 < r
  · go_enter Try.func5, Try.ntmps5
    go_wp2_with (go_at_call 12; (with_reducible refine (begun6_any _).mono ?_); rintro e x ⟨rfl, hbx⟩; have HB := Lib.hid (HB.out.trans (hbx.mono HB.out.size)); clear hbx)
    refine (HD.out _).mono ?_
    rintro e x1 ⟨v, rfl, hown, hbx⟩
    obtain ⟨a, cap, rfl, hle, hcm, hlen, hrd⟩ := own_ints hown
    have HB := Lib.hid (HB.out.trans (hbx.mono HB.out.size))
    clear hbx hown hrd hlen
    have HO := Lib.hid hout
    clear hout
    rcases HO.out with h | h | h | h | h
    all_goals go_wp2_with fail
    all_goals (try (exfalso; omega))
    all_goals go_ret
    all_goals exact ⟨rfl, HB.out⟩
  obtain ⟨B, rfl⟩ : ∃ B : Nat, b = B := ⟨b.toNat, by omega⟩
  obtain ⟨R, rfl⟩ : ∃ R : Nat, r = R := ⟨r.toNat, by omega⟩
  have hn2 : 2 ≤ n := by omega
  have hB : (B : Int) ≤ 1073741824 := by omega
  have hR : (R : Int) ≤ 1073741824 := by omega
  clear hout
  obtain ⟨c, hc⟩ : ∃ c, (B % n + R % n) % n = c := ⟨_, rfl⟩
  have hcn : c < n := by rw [← hc]; exact Nat.mod_lt _ (by omega)
  have hpar : ∀ i : Nat, parS K B (R + i) = ((diesK K 8).getD ((i + c) % n) 0 : Nat) := fun i => by
    have := par_row K B R i n hK8 HN.out hn2
    rw [hc] at this; exact this
  have hsl : slotsS K = ((n - 1 : Nat) : Int) := by
    unfold slotsS
    rw [countS_nat K hK8, HN.out, if_pos hn2]; omega
  have hgs := fun w => gslots_any K w
  rw [hsl] at hgs
  have HPAR := Lib.hid hpar
  have HGS := Lib.hid hgs
  have HC := Lib.hid hcn
  have HLL : Hid ((diesK K 8).length = n) := HN.out
  clear hpar hsl hgs hc hcn
  go_enter Try.func5, Try.ntmps5
  go_wp2_with (go_at_call 12; (with_reducible refine (begun6_any _).mono ?_); rintro e x ⟨rfl, hbx⟩; have HB := Lib.hid (HB.out.trans (hbx.mono HB.out.size)); clear hbx)
  refine (HD.out _).mono ?_
  rintro e x1 ⟨v, rfl, hown, hbx⟩
  obtain ⟨a, cap, rfl, hle, hcm, hlen, hrd⟩ := own_ints hown
  have HB := Lib.hid (HB.out.trans (hbx.mono HB.out.size))
  clear hbx hown hrd hlen HD
  go_wp2_with fail
  go_loopw [9, 10] (fun x i wr => ∃ k F : Nat, k ≤ n ∧ F < 256 ∧ i = .int .i64 k ∧ x = .int .i64 F ∧ Hid (M.foldW (M.wheelL (diesK K 8) c k) = F) ∧ Hid (Below w.heap.size w wr)) (fun _ i _ => (n - intOf i).toNat)
  case atStart => exact ⟨0, 0, Nat.zero_le _, by omega, rfl, rfl, rfl, HB⟩
  case round =>
    clear HB
    obtain ⟨k, F, hk, hF, rfl, rfl, hfold, HB⟩ := hrel
    by_cases hlt : k < n
    · obtain ⟨D, hD⟩ : ∃ D, (diesK K 8).getD ((k + c) % n) 0 = D := ⟨_, rfl⟩
      have hmem : D ∈ diesK K 8 := by
        rw [← hD]; exact M.getD_mem (by rw [HLL.out]; exact Nat.mod_lt _ (by omega))
      obtain ⟨hin, hD8⟩ := M.mem_tab ⟨K, hK8⟩ D hmem
      simp only at hin hD8
      have hp := HPAR.out k
      rw [hD] at hp
      have hnew := M.wheel_new (diesK K 8) (M.diesK_nodup K 8) c k (by rw [HLL.out]; exact HC.out) (by rw [HLL.out]; exact hlt)
      rw [HLL.out, hD] at hnew
      have hall := M.foldW_all (M.wheelL (diesK K 8) c k) (M.wheelL_lt _ (fun x hx => (M.mem_tab ⟨K, hK8⟩ x hx).2) c k)
      rw [hfold.out] at hall
      have hFD : inB F D = false := by rw [hall.2.2 D hD8]; exact hnew
      have hfold2 : M.foldW (M.wheelL (diesK K 8) c (k + 1)) = M.withN F D := by
        rw [M.wheelL_succ, M.foldW_snoc, hfold.out, HLL.out, hD]
      have hwF := (M.without_tab ⟨F, hF⟩ ⟨D, hD8⟩).2.1
      have hbit := bit_in F D hF hD8 false hFD
      simp only [Bool.toNat_false] at hbit
      have hor := or_in F D hF hD8
      have hgp := fun w => gparity_any K B (R + k) w (by omega) (by omega)
      rw [hp] at hgp
      have HGP := Lib.hid hgp
      have HP := Lib.hid hp
      have HF2 := Lib.hid hfold2
      have HOR := Lib.hid hor
      have HIN := Lib.hid hin
      have HWF := Lib.hid hwF
      clear hD hmem hin hp hnew hall hFD hfold2 hwF hor hgp hfold
      have hkI : (k : Int) < n := by omega
      go_wp2_with (go_at_call 19; (with_reducible refine (HGP.out _).mono ?_); rintro e x ⟨rfl, hbx⟩; have HB := Lib.hid (HB.out.trans (hbx.mono HB.out.size)); clear hbx)
      obtain ⟨Q, hQ⟩ : ∃ Q, M.withoutN K D = Q := ⟨_, rfl⟩
      have hQ8 : Q < 256 := by rw [← hQ]; exact (M.without_tab ⟨K, hK8⟩ ⟨D, hD8⟩).1
      have hot := M.own_tab ⟨K, hK8⟩ ⟨D, hD8⟩ HIN.out
      have hpw := M.pop_without_tab ⟨K, hK8⟩ ⟨D, hD8⟩ HIN.out
      simp only [hQ, HN.out] at hot hpw
      have hpn : parS K B (R + k) ≥ 0 := by rw [HP.out]; omega
      have hdi := fun s => die_without K B (R + k) s hpn
      have hsi := fun d => slot_without K B (R + k) d hpn
      rw [HP.out, without_nat K D hK8 hD8, hQ] at hdi hsi
      have hlq : (diesK Q 8).length = n - 1 := by show M.popN Q = n - 1; omega
      have HDI := Lib.hid hdi
      have HSI := Lib.hid hsi
      have HOT := Lib.hid hot
      have HLQ := Lib.hid hlq
      have h1 : (2 : Nat) ^ D < 256 := Nat.lt_of_lt_of_le (Nat.pow_lt_pow_right (a := 2) (by omega) hD8) (by decide)
      have HONE : Hid (M.foldW [D] = 2 ^ D) := M.one_tab ⟨D, hD8⟩
      clear hQ hot hpw hpn hdi hsi hlq
      go_loopw [12, 13] (fun x i wr => ∃ j G : Nat, j ≤ n - 1 ∧ G < 256 ∧ i = .int .i64 j ∧ x = .int .i64 G ∧ Hid (M.foldW (D :: (diesK Q 8).take j) = G) ∧ Hid (Below w.heap.size w wr)) (fun _ i _ => (n - 1 - intOf i).toNat)
      case atStart => exact ⟨0, 2 ^ D, Nat.zero_le _, h1, rfl, by rw [wrap_pow (by omega)], HONE, HB⟩
      case round =>
        clear HB
        obtain ⟨j, G, hj, hG, rfl, rfl, hfg, HB⟩ := hrel
        by_cases hlt2 : j < n - 1
        · have hjl : j < (diesK Q 8).length := by rw [HLQ.out]; exact hlt2
          obtain ⟨E, hE⟩ : ∃ E, (diesK Q 8).getD j 0 = E := ⟨_, rfl⟩
          have hmem : E ∈ diesK Q 8 := by rw [← hE]; exact M.getD_mem hjl
          obtain ⟨hinE, hE8⟩ := M.mem_tab ⟨Q, hQ8⟩ E hmem
          simp only at hinE hE8
          obtain ⟨a1, a2, a3⟩ := M.at_tab ⟨Q, hQ8⟩ ⟨j, by omega⟩ (by show j < (diesK Q 8).length; exact hjl)
          simp only at a1 a2 a3
          have eE : M.atN Q j = E := hE
          rw [eE] at a3
          have hcq := countS_nat Q hQ8
          have hpq : M.popN Q = n - 1 := HLQ.out
          have hdie : dieS K B (R + k) j = (E : Nat) := by
            rw [HDI.out, atS_in _ j (by rw [hcq, hpq]; exact hlt2), diesS_nat Q hQ8, hE]
          have hslot : slotS K B (R + k) E = (j : Nat) := by
            rw [HSI.out]
            unfold spotS
            rw [diesS_nat Q hQ8]; exact a3
          have hall := M.foldW_all (D :: (diesK Q 8).take j) (fun x hx => by
            rcases List.mem_cons.1 hx with hx | hx
            · rw [hx]; exact hD8
            · exact (M.mem_tab ⟨Q, hQ8⟩ x (List.mem_of_mem_take hx)).2)
          rw [hfg.out] at hall
          have hGE : inB G E = false := by
            rw [hall.2.2 E hE8, Bool.eq_false_iff]
            intro h
            rw [List.contains_iff_mem] at h
            rcases List.mem_cons.1 h with h | h
            · rw [h] at hinE; rw [HOT.out.2] at hinE; cases hinE
            · rw [← hE] at h; exact M.take_new _ (M.diesK_nodup Q 8) j hjl h
          have hfg2 : M.foldW (D :: (diesK Q 8).take (j + 1)) = M.withN G E := by
            rw [List.take_succ_eq_append_getElem hjl, ← List.cons_append, M.foldW_snoc, hfg.out]
            have : (diesK Q 8)[j] = E := by rw [← hE]; simp [List.getD, List.getElem?_eq_getElem hjl]
            rw [this]
          have hwG := (M.without_tab ⟨G, hG⟩ ⟨E, hE8⟩).2.1
          have hbitG := bit_in G E hG hE8 false hGE
          simp only [Bool.toNat_false] at hbitG
          have HORG := Lib.hid (or_in G E hG hE8)
          have hgd := fun w => gdie_any K B (R + k) j w (by omega) (by omega) (by omega)
          rw [hdie] at hgd
          have hgs2 := fun w => gslot_any K B (R + k) E w (by omega) (by omega)
          rw [hslot] at hgs2
          have HGD := Lib.hid hgd
          have HGS2 := Lib.hid hgs2
          have HFG2 := Lib.hid hfg2
          have HWG := Lib.hid hwG
          have hjI : (j : Int) < ((n - 1 : Nat) : Int) := by omega
          clear hjl hE hmem hinE a1 a2 a3 eE hcq hpq hdie hslot hall hGE hfg2 hwG hgd hgs2 hfg
          go_wp2_with (first
            | (go_at_call 21; (with_reducible refine (HGS.out _).mono ?_); rintro e x ⟨rfl, hbx⟩; have HB := Lib.hid (HB.out.trans (hbx.mono HB.out.size)); clear hbx)
            | (go_at_call 23; (with_reducible refine (HGD.out _).mono ?_); rintro e x ⟨rfl, hbx⟩; have HB := Lib.hid (HB.out.trans (hbx.mono HB.out.size)); clear hbx)
            | (go_at_call 25; (with_reducible refine (HGS2.out _).mono ?_); rintro e x ⟨rfl, hbx⟩; have HB := Lib.hid (HB.out.trans (hbx.mono HB.out.size)); clear hbx))
          exact ⟨⟨j + 1, _, by omega, HWG.out, by go_num, by rw [HORG.out], HFG2, HB⟩, by simp [intOf]; omega⟩
        · obtain rfl : j = n - 1 := by omega
          have hGK : G = K := by
            have h := hfg.out
            rw [List.take_of_length_le (by rw [HLQ.out]; exact Nat.le_refl _), HOT.out.1] at h
            exact h.symm
          clear hfg
          subst hGK
          go_wp2_with (go_at_call 21; (with_reducible refine (HGS.out _).mono ?_); rintro e x ⟨rfl, hbx⟩; have HB := Lib.hid (HB.out.trans (hbx.mono HB.out.size)); clear hbx)
          exact ⟨⟨k + 1, _, by omega, HWF.out, by go_num, by rw [HOR.out], HF2, HB⟩, by simp [intOf]; omega⟩
    · obtain rfl : k = n := by omega
      have hFK : F = K := by
        have h := hfold.out
        have h2 := M.turn_same (diesK K 8) (fun x hx => (M.mem_tab ⟨K, hK8⟩ x hx).2) c (.inl (by rw [HLL.out]; exact HC.out))
        rw [HLL.out, h] at h2
        rw [h2]; exact M.fold_tab ⟨K, hK8⟩
      clear hfold
      subst hFK
      go_wp2_with fail
      go_ret
      exact ⟨rfl, HB.out⟩
end Go.Proofs.Yticpjkbcchghjaa
