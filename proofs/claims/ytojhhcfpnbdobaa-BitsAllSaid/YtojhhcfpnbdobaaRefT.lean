/- The reference's Narrow and Turn. -/
import Derived.Test.YtojhhcfpnbdobaaRefN
namespace Go.Proofs.Ytojhhcfpnbdobaa
open Go.RowKit

theorem bitVals_all (u W : Nat) : bitVals u W W = (M.bitsOf u W).map Value.bool := by
  unfold bitVals; rw [Nat.sub_self, Nat.pow_zero, Nat.div_one]

/-- A row of the call's own, not nil: where it lies. -/
theorem own_spot {w : World} {base n : Nat} {e : TypeId} {v : Value} {xs : List Value} (h : w.ownsRow base e 1 v n xs) (hn : 0 < n) :
    ∃ g cap, v = .slice (some ⟨g, 0, none⟩) n cap ∧ base ≤ g ∧ n ≤ cap ∧ cap ≤ maxLen ∧ ∀ i x, xs[i]? = some x → w.cell? ⟨g, i, none⟩ = some x := by
  rcases h.2 with ⟨_, rfl⟩ | ⟨g, cap, cur, rfl, hg, hh, hn2, hm, r⟩
  · omega
  · refine ⟨g, cap, rfl, hg, hn2, hm, fun i x hx => ?_⟩
    have := h.cells rfl i x hx
    by_cases h0 : i = 0
    · subst h0; simpa [Addr.add] using this
    · simpa [Addr.add, h0] using this

set_option maxHeartbeats 400000 in
theorem rnarrow_any (n b : Int) (w : World) :
    Calls Try.prog 22 #[.int .i64 n, .int .i64 b] w fun e w' => e = .returned (.int .i64 (M.narrowS n b)) ∧ Below w.heap.size w w' := by
  by_cases c1 : b < 1
  · have hv := Lib.hid (show M.narrowS n b = 0 from if_pos (.inl c1))
    go_enter Try.func22, Try.ntmps22
    go_wp2
    go_ret
    exact ⟨ret_int (by rw [hv.out]), Below.refl _ _⟩
  by_cases c2 : 64 < b
  · have hv := Lib.hid (show M.narrowS n b = 0 from if_pos (.inr c2))
    go_enter Try.func22, Try.ntmps22
    go_wp2
    go_ret
    exact ⟨ret_int (by rw [hv.out]), Below.refl _ _⟩
  obtain ⟨m, rfl⟩ : ∃ m : Nat, b = m := ⟨b.toNat, by omega⟩
  have hm1 : 1 ≤ m := by omega
  have hm2 : m ≤ 64 := by omega
  obtain ⟨u, hu, hu2⟩ : ∃ u : Nat, (n % 18446744073709551616).toNat = u ∧ IntKind.u64.wrap n = (u : Int) := ⟨_, rfl, by rw [IntKind.wrap_u64]; omega⟩
  have hN : M.sgn (M.bitsOf u m) = M.narrowS n m := by rw [← hu]; exact M.narrow_sgn n m hm1 hm2
  have hlt : u < 18446744073709551616 := by omega
  have HN := Lib.hid hN
  clear hN hu c1 c2
  go_enter Try.func22, Try.ntmps22
  go_wp2_with fail
  refine (bits_any u 64 _ hlt (by omega)).mono ?_
  rintro e w' ⟨v, rfl, hown, hbl⟩
  obtain ⟨g, cap, rfl, hg, hcap, hcm, hcells⟩ := own_spot hown (by omega)
  rw [bitVals_all] at hcells
  unfold maxLen at hcm
  clear hown hlt hu2
  go_wp2
  have hbl1 := Lib.hid hbl
  clear hbl
  obtain ⟨L, hL⟩ : ∃ L, M.bitsOf u m = L := ⟨_, rfl⟩
  have hLl : L.length = m := by rw [← hL, M.bitsOf_length]
  have hcl : ∀ k (h : k < L.length), w'.cell? ⟨g, 64 - m + k, none⟩ = some (.bool (L[k])) := by
    intro k h
    refine hcells _ _ ?_
    have e : (M.bitsOf u 64).drop (64 - m) = L := by
      rw [← hL]; have := M.bitsOf_drop u m (64 - m); rw [show 64 - m + m = 64 by omega] at this; exact this
    have e2 : (M.bitsOf u 64)[64 - m + k]? = some L[k] := by
      rw [← List.getElem?_drop, e, List.getElem?_eq_getElem h]
    rw [List.getElem?_map, e2]; rfl
  clear hcells
  rw [hL] at HN
  have HL := Lib.hid hL
  clear hL
  have hCL := Lib.hid hcl
  have HLl := Lib.hid hLl
  clear hcl hLl
  go_loop [6, 7] (fun o i => ∃ (k : Nat) (s : Int), k ≤ m ∧ i = .int .i64 k ∧ o = .int .i64 s ∧ Hid (s = M.sgn (L.take k))) (fun _ i => m - (intOf i).toNat)
  case atStart => exact ⟨0, 0, Nat.zero_le _, rfl, rfl, rfl⟩
  case round =>
    obtain ⟨k, s, hk, rfl, rfl, hs⟩ := hrel
    by_cases hlt : k < m
    · have hkl : k < L.length := by rw [HLl.out]; exact hlt
      have hc := hCL.out k hkl
      have hr := M.sgn_small L k (by omega)
      rw [← hs.out] at hr
      obtain ⟨hr1, hr2⟩ := hr
      by_cases h0 : 0 < k
      · have hst := Lib.hid (M.sgn_take L k hkl h0)
        by_cases hx : L[k] = true
        · rw [hx] at hc
          have HX := Lib.hid hx
          clear hx
          go_wp2
          go_round
          case rel => exact ⟨k + 1, s * 2 + 1, by omega, by go_num, rfl, by
            show s * 2 + 1 = _
            rw [hst.out, HX.out, hs.out]; simp; omega⟩
          case measure => simp [intOf]; omega
        · have hx2 : L[k] = false := by simpa using hx
          rw [hx2] at hc
          have HX := Lib.hid hx2
          clear hx hx2
          go_wp2
          go_round
          case rel => exact ⟨k + 1, s * 2, by omega, by go_num, rfl, by
            show s * 2 = _
            rw [hst.out, HX.out, hs.out]; simp; omega⟩
          case measure => simp [intOf]; omega
      · obtain rfl : k = 0 := by omega
        rw [Nat.add_zero] at hc
        have hz1 : 0 ≤ s := by rw [hs.out]; simp [M.sgn]
        have hz2 : s ≤ 0 := by rw [hs.out]; simp [M.sgn]
        have hst := Lib.hid (M.sgn_one L hkl)
        by_cases hx : L[0] = true
        · rw [hx] at hc
          have HX := Lib.hid hx
          clear hx
          go_wp2
          go_round
          case rel => exact ⟨1, s * 2 - 1, by omega, by go_num, rfl, by
            show s * 2 - 1 = _
            rw [hst.out, HX.out, hs.out]; simp [M.sgn]⟩
          case measure => simp [intOf]; omega
        · have hx2 : L[0] = false := by simpa using hx
          rw [hx2] at hc
          have HX := Lib.hid hx2
          clear hx hx2
          go_wp2
          go_round
          case rel => exact ⟨1, s * 2, by omega, by go_num, rfl, by
            show s * 2 = _
            rw [hst.out, HX.out, hs.out]; simp [M.sgn]⟩
          case measure => simp [intOf]; omega
    · go_wp2
      go_ret
      exact ⟨ret_int (by rw [hs.out, show k = L.length by rw [HLl.out]; omega, List.take_length, HN.out]), hbl1.out⟩
end Go.Proofs.Ytojhhcfpnbdobaa
