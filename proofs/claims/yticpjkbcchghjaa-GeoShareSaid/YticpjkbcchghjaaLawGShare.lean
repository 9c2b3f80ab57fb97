/- The law GeoShare: the walk. -/
import Derived.Test.YticpjkbcchghjaaLawGTurns
namespace Go.Proofs.Yticpjkbcchghjaa
open Go.RowKit

namespace M
/-- How often a die had the parity: in so many rows of one block. -/
theorem wheel_count (l : List Nat) (hl : l.Nodup) (c : Nat) (hc : c < l.length) (d : Nat) : ∀ k, k ≤ l.length → (wheelL l c k).count d = if (wheelL l c k).contains d then 1 else 0 := by
  intro k
  induction k with
  | zero => intro _; rfl
  | succ k ih =>
    intro hk
    have hn := wheel_new l hl c k hc (by omega)
    rw [wheelL_succ]
    generalize l.getD ((k + c) % l.length) 0 = x at hn ⊢
    have ih := ih (by omega)
    rw [List.count_append, ih, List.count_singleton]
    have e : (wheelL l c k ++ [x]).contains d = ((wheelL l c k).contains d || x == d) := by
      simp only [List.contains_eq_any_beq, List.any_append, List.any_cons, List.any_nil, Bool.or_false]
      congr 1
      rw [Bool.eq_iff_iff]; simp only [beq_iff_eq]; exact ⟨fun h => h.symm, fun h => h.symm⟩
    rw [e]
    by_cases hx : x = d
    · subst hx
      rw [hn]; simp
    · have : (x == d) = false := by simpa using hx
      rw [this]; simp
end M

/-- Block g: eight numbers. -/
structure EightAt (g : Nat) (f : Nat → Int) (w : World) : Prop where
  cell : ∀ d, d < 8 → w.cell? ⟨g, d, none⟩ = some (.int .i64 (f d))
  free : ∀ d, d < 8 → w.frozen? ⟨g, d, none⟩ = false
theorem EightAt.lt {g : Nat} {f : Nat → Int} {w : World} (h : EightAt g f w) : g < w.heap.size := World.block_lt_of_cell? w _ (h.cell 0 (by omega))
theorem EightAt.below {g : Nat} {f : Nat → Int} {w w' : World} (h : EightAt g f w) (hb : Below w.heap.size w w') : EightAt g f w' :=
  ⟨fun d hd => (hb.cell (p := ⟨g, d, none⟩) h.lt).trans (h.cell d hd), fun d hd => (hb.frozen (p := ⟨g, d, none⟩) h.lt).trans (h.free d hd)⟩
theorem EightAt.set {g : Nat} {f f' : Nat → Int} {w : World} (h : EightAt g f w) (p : Nat) (hp : p < 8) (v : Int) (hv : f' p = v) (ho : ∀ d, d < 8 → d ≠ p → f' d = f d) : EightAt g f' (w.setCell ⟨g, p, none⟩ (.int .i64 v)) := by
  refine ⟨fun d hd => ?_, fun d hd => by rw [World.frozen?_setCell]; exact h.free d hd⟩
  by_cases hdp : d = p
  · subst hdp
    rw [World.cell?_setCell_same _ _ _ (h.cell d hd), hv]
  · rw [World.cell?_setCell_other _ _ _ _ (addr_ne (by omega)), h.cell d hd, ho d hd hdp]
theorem eight_new (w : World) (t : TypeId) : EightAt w.heap.size (fun _ => 0) (w.alloc (.cells #[.int .i64 0, .int .i64 0, .int .i64 0, .int .i64 0, .int .i64 0, .int .i64 0, .int .i64 0, .int .i64 0] t)) := by
  refine ⟨fun d hd => ?_, fun d _ => World.frozen?_alloc_at _ _ _ _ rfl⟩
  rw [World.cell?_alloc_at _ _ _ _ rfl]
  match d, hd with
  | 0, _ => rfl
  | 1, _ => rfl
  | 2, _ => rfl
  | 3, _ => rfl
  | 4, _ => rfl
  | 5, _ => rfl
  | 6, _ => rfl
  | 7, _ => rfl

attribute [local irreducible] parS slotsS dieS slotS spotS atS diesS

set_option maxRecDepth 100000 in
set_option maxHeartbeats 4000000 in
theorem geoShare_walk (m nb : Int) (w : World) (_ : (Lit.int .i64 m).wf = true) (_ : (Lit.int .i64 nb).wf = true) :
    Calls Try.prog 7 #[.int .i64 m, .int .i64 nb] w fun e w' => e = .returned (.bool true) ∧ Below w.heap.size w w' := by
  have hand := and255 m
  obtain ⟨K, hK⟩ : ∃ K : Nat, (m % 256).toNat = K := ⟨_, rfl⟩
  have hK8 : K < 256 := by omega
  rw [hK] at hand
  clear hK
  obtain ⟨n, hn⟩ : ∃ n, M.popN K = n := ⟨_, rfl⟩
  have hn8 : n ≤ 8 := by rw [← hn]; exact diesK_length K 8
  have HN := Lib.hid hn
  clear hn
  have HB : Hid (Below w.heap.size w w) := Below.refl _ _
  go_enter Try.func7, Try.ntmps7
  go_wp2_with (go_at_call 12; (with_reducible refine (begun6_any _).mono ?_); rintro e x ⟨rfl, hbx⟩; have HB := Lib.hid (HB.out.trans (hbx.mono HB.out.size)); clear hbx)
  go_loop [6, 7] (fun s d => ∃ k q : Nat, k ≤ 8 ∧ q ≤ 8 ∧ d = .int .i64 k ∧ s = .int .i64 q ∧ Hid ((diesK K k).length = q)) (fun _ d => (8 - intOf d).toNat)
  case atStart => exact ⟨0, 0, by omega, by omega, rfl, rfl, rfl⟩
  case round =>
    obtain ⟨k, q, hk, hq, rfl, rfl, hlen⟩ := hrel
    by_cases hlt : k < 8
    · cases hx : inB K k with
      | false =>
        have hbit := bit_in K k hK8 hlt false hx
        simp only [Bool.toNat_false] at hbit
        have H := Lib.hid (show (diesK K (k + 1)).length = q by rw [diesK_no K k hx]; exact hlen.out)
        clear hx hlen
        go_wp2_with fail
        go_round
        case rel => exact ⟨k + 1, q, by omega, hq, by go_num, rfl, H⟩
        case measure => simp [intOf]; omega
      | true =>
        have hbit := bit_in K k hK8 hlt true hx
        simp only [Bool.toNat_true] at hbit
        have hl2 : (diesK K (k + 1)).length = q + 1 := by rw [diesK_yes K k hx, List.length_append, hlen.out]; rfl
        have hq2 : q + 1 ≤ 8 := by rw [← hl2]; have := diesK_length K (k + 1); omega
        have H := Lib.hid hl2
        clear hx hlen hl2
        go_wp2_with fail
        go_round
        case rel => exact ⟨k + 1, q + 1, by omega, hq2, by go_num, by go_num, H⟩
        case measure => simp [intOf]; omega
    · obtain rfl : k = 8 := by omega
      obtain rfl : q = n := by have h1 := hlen.out; have h2 : (diesK K 8).length = n := HN.out; omega
      clear hlen
      by_cases hout : q < 2 ∨ nb < 1 ∨ 20 < nb
      · have HO := Lib.hid hout
        clear hout
        rcases HO.out with h | h | h
        all_goals go_wp2_with fail
        all_goals (try (exfalso; omega))
        all_goals go_ret
        all_goals exact ⟨rfl, HB.out⟩
      obtain ⟨Z, rfl⟩ : ∃ Z : Nat, nb = Z := ⟨nb.toNat, by omega⟩
      have hn2 : 2 ≤ q := by omega
      have hZ1 : 1 ≤ Z := by omega
      have hZ2 : Z ≤ 20 := by omega
      clear hout
      obtain ⟨g, hg⟩ : ∃ g, x.heap.size = g := ⟨_, rfl⟩
      have hnew := eight_new x 39
      rw [hg] at hnew
      have HE := Lib.hid hnew
      have hgw : w.heap.size ≤ g := by rw [← hg]; exact HB.out.size
      have HGW := Lib.hid hgw
      have HB := Lib.hid (HB.out.alloc HB.out.size (.cells #[.int .i64 0, .int .i64 0, .int .i64 0, .int .i64 0, .int .i64 0, .int .i64 0, .int .i64 0, .int .i64 0] 39))
      have HH := Lib.hid hg
      clear hnew hgw hg
      go_wp2_with fail
      rw [HH.out]
      generalize x.alloc (.cells #[.int .i64 0, .int .i64 0, .int .i64 0, .int .i64 0, .int .i64 0, .int .i64 0, .int .i64 0, .int .i64 0] 39) = x2 at HE HB ⊢
      have HLL : Hid ((diesK K 8).length = q) := HN.out
      go_loopw [9] (fun v wr => ∃ β : Nat, β ≤ Z ∧ v = .int .i64 β ∧ Hid (EightAt g (fun d => if inB K d then (β : Int) else 0) wr) ∧ Hid (Below w.heap.size w wr)) (fun v _ => (Z - intOf v).toNat)
      case atStart => exact ⟨0, Nat.zero_le _, rfl, by
        show EightAt ..
        have h := HE.out
        exact ⟨fun d hd => by rw [h.cell d hd]; simp, h.free⟩, HB⟩
      case round =>
        clear HB HE
        obtain ⟨β, hβ, rfl, HE, HB⟩ := hrel
        by_cases hlt2 : β < Z
        · obtain ⟨c, hc⟩ : ∃ c, (β % q + 0 % q) % q = c := ⟨_, rfl⟩
          have hcn : c < q := by rw [← hc]; exact Nat.mod_lt _ (by omega)
          have hpar : ∀ i : Nat, parS K β i = ((diesK K 8).getD ((i + c) % q) 0 : Nat) := fun i => by
            have := par_row K β 0 i q hK8 HN.out hn2
            rw [hc] at this
            rw [← this]; congr 1; omega
          have HPAR := Lib.hid hpar
          have HC := Lib.hid hcn
          clear hc hpar hcn
          have k1 : (β : Int) < Z := by omega
          go_wp2_with fail
          go_loopw [10] (fun v wr => ∃ ρ : Nat, ρ ≤ q ∧ v = .int .i64 ρ ∧ Hid (EightAt g (fun d => (if inB K d then (β : Int) else 0) + ((M.wheelL (diesK K 8) c ρ).count d : Nat)) wr) ∧ Hid (Below w.heap.size w wr)) (fun v _ => (q - intOf v).toNat)
          case atStart => exact ⟨0, Nat.zero_le _, rfl, by
            show EightAt ..
            have h := HE.out
            exact ⟨fun d hd => by rw [h.cell d hd]; simp [M.wheelL], h.free⟩, HB⟩
          case round =>
            clear HB HE
            obtain ⟨ρ, hρ, rfl, HE, HB⟩ := hrel
            by_cases hlt3 : ρ < q
            · obtain ⟨D, hD⟩ : ∃ D, (diesK K 8).getD ((ρ + c) % q) 0 = D := ⟨_, rfl⟩
              have hmem : D ∈ diesK K 8 := by
                rw [← hD]; exact M.getD_mem (by rw [HLL.out]; exact Nat.mod_lt _ (by omega))
              obtain ⟨hin, hD8⟩ := M.mem_tab ⟨K, hK8⟩ D hmem
              simp only at hin hD8
              have hp := HPAR.out ρ
              rw [hD] at hp
              have hgp := fun w => gparity_any K β ρ w (by omega) (by omega)
              rw [hp] at hgp
              have HGP := Lib.hid hgp
              have hwh : M.wheelL (diesK K 8) c (ρ + 1) = M.wheelL (diesK K 8) c ρ ++ [D] := by rw [M.wheelL_succ, HLL.out, hD]
              have HWH := Lib.hid hwh
              have hcb : (M.wheelL (diesK K 8) c ρ).count D ≤ ρ := by
                have := List.count_le_length (a := D) (l := M.wheelL (diesK K 8) c ρ)
                unfold M.wheelL at this ⊢
                rw [List.length_map, List.length_range] at this; exact this
              clear hD hmem hin hp hgp hwh
              have k3 : (ρ : Int) < q := by omega
              go_wp2_with (go_at_call 19; (with_reducible refine (HGP.out _).mono ?_); rintro e y ⟨rfl, hby⟩; have HE := Lib.hid (HE.out.below hby); have HB := Lib.hid (HB.out.trans (hby.mono HB.out.size)); have hcell := HE.out.cell D hD8; have hfree := HE.out.free D hD8; clear hby)
              refine ⟨⟨ρ + 1, by omega, by go_num, ?_, HB.out.trans (((Only.refl g y).setCell D none _).below HGW.out)⟩, by simp [intOf]; omega⟩
              refine HE.out.set D hD8 _ ?_ fun d _ hne => ?_
              · have e : (D == D) = true := by simp
                rw [HWH.out, List.count_append, List.count_singleton, e, Int.natCast_add, ← Int.add_assoc]; rfl
              · have e : (D == d) = false := by simp; omega
                rw [HWH.out, List.count_append, List.count_singleton, e]; rfl
            · obtain rfl : ρ = q := by omega
              have hfin : ∀ d, d < 8 → ((if inB K d then (β : Int) else 0) + ((M.wheelL (diesK K 8) c ρ).count d : Nat)) = (if inB K d then ((β + 1 : Nat) : Int) else 0) := by
                intro d hd
                have h1 := M.wheel_count (diesK K 8) (M.diesK_nodup K 8) c (by rw [HLL.out]; exact HC.out) d ρ (by rw [HLL.out]; exact Nat.le_refl _)
                have h2 := M.turn_same (diesK K 8) (fun x hx => (M.mem_tab ⟨K, hK8⟩ x hx).2) c (.inl (by rw [HLL.out]; exact HC.out))
                have h3 := (M.foldW_all (M.wheelL (diesK K 8) c ρ) (M.wheelL_lt _ (fun x hx => (M.mem_tab ⟨K, hK8⟩ x hx).2) c ρ)).2.2 d hd
                rw [HLL.out] at h2
                have h4 : M.foldW (diesK K 8) = K := M.fold_tab ⟨K, hK8⟩
                rw [h2, h4] at h3
                rw [h1, ← h3]
                cases inB K d <;> simp
              have HE2 : Hid (EightAt g (fun d => if inB K d then ((β + 1 : Nat) : Int) else 0) wr) := by
                show EightAt ..
                exact ⟨fun d hd => by rw [HE.out.cell d hd, hfin d hd], HE.out.free⟩
              clear hfin HE
              go_wp2_with fail
              exact ⟨⟨β + 1, by omega, by go_num, HE2, HB⟩, by simp [intOf]; omega⟩
        · obtain rfl : β = Z := by omega
          go_wp2_with fail
          go_loop [12] (fun v => ∃ d : Nat, d ≤ 8 ∧ v = .int .i64 d) (fun v => (8 - intOf v).toNat)
          case atStart => exact ⟨0, Nat.zero_le _, rfl⟩
          case round =>
            obtain ⟨d, hd, rfl⟩ := hrel
            by_cases hlt4 : d < 8
            · have hcell := HE.out.cell d hlt4
              cases hx : inB K d with
              | false =>
                have hbit := bit_in K d hK8 hlt4 false hx
                simp only [Bool.toNat_false] at hbit
                simp only [hx, Bool.false_eq_true, if_false] at hcell
                clear hx
                go_wp2_with fail
                exact ⟨⟨d + 1, by omega, by go_num⟩, by simp [intOf]; omega⟩
              | true =>
                have hbit := bit_in K d hK8 hlt4 true hx
                simp only [Bool.toNat_true] at hbit
                simp only [hx, if_true] at hcell
                clear hx
                go_wp2_with fail
                exact ⟨⟨d + 1, by omega, by go_num⟩, by simp [intOf]; omega⟩
            · go_wp2_with fail
              go_ret
              exact ⟨rfl, HB.out⟩
end Go.Proofs.Yticpjkbcchghjaa
