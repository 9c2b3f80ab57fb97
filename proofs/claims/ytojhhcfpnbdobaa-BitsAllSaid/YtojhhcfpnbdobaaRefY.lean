/- The reference's Bytes. -/
import Derived.Test.YtojhhcfpnbdobaaRefU
namespace Go.Proofs.Ytojhhcfpnbdobaa
open Go.RowKit

theorem Try.infoByte : (Try.prog.info? 5).map (fun i => (i.zero, i.size, i.bytes)) = some (some (.int .u8 0), 1, 1) := by kernel_rfl

theorem Holds.below {w w' : World} {a : Option Addr} {l : List Value} (h : Holds w a l) (hb : Below w.heap.size w w') : Holds w' a l :=
  h.mono fun b off _ _ i hc => (hb.cell (p := ⟨b, off + i, none⟩) (World.block_lt_of_cell? w _ hc)).trans hc

/-- Numbers as bytes' values. -/
def u8s (l : List Nat) : List Value := l.map fun (x : Nat) => Value.int .u8 (x : Int)
theorem u8s_snoc (l : List Nat) (x : Nat) : u8s l ++ [.int .u8 (x : Int)] = u8s (l ++ [x]) := by simp [u8s]

theorem one_int (k : IntKind) (q : Int) : ∀ u ∈ [Value.int k q], Value.oneCell' u = true := by
  intro u hu
  rw [List.mem_singleton] at hu
  subst hu; rfl

set_option maxRecDepth 100000 in
set_option maxHeartbeats 400000 in
theorem rbytes_any (l : List Bool) (n : Nat) (a : Option Addr) (cap : Nat) (w : World) (hn : l.length = n) (hl : n ≤ 1000000) (hh : Holds w a (l.map Value.bool)) :
    Calls Try.prog 34 #[.slice a n cap] w fun e w' => ∃ v, e = .returned v ∧ w'.ownsRow w.heap.size 5 1 v ((n + 7) / 8) (u8s (M.bytesN l ((n + 7) / 8))) ∧ Below w.heap.size w w' := by
  obtain ⟨i0, hi, hz0, hz1, hz2⟩ := info_parts Try.infoByte
  have hH := Lib.hid (fun w' (hb : Below w.heap.size w w') => hh.below hb)
  have Hn := Lib.hid hn
  clear hn hh
  obtain ⟨B, hB⟩ : ∃ B, w.heap.size = B := ⟨_, rfl⟩
  rw [hB] at hH ⊢
  have HB := Lib.hid hB
  clear hB
  obtain ⟨R, hR⟩ : ∃ R, (n + 7) / 8 = R := ⟨_, rfl⟩
  have hR1 : 8 * R ≤ n + 7 := by omega
  have hR2 : n ≤ 8 * R := by omega
  rw [hR]
  clear hR
  go_enter Try.func34, Try.ntmps34
  go_wp2
  go_loopw [3, 4] (fun v i wr => ∃ r : Nat, r ≤ R ∧ i = .int .i64 (8 * (r : Int)) ∧ wr.ownsRow B 5 1 v r (u8s (M.bytesN l r)) ∧ Below B w wr) (fun _ i _ => (n + 8 - intOf i).toNat)
  case atStart => exact ⟨0, by omega, rfl, World.ownsRow_nil _ _ _ _, Below.refl _ _⟩
  case round =>
    obtain ⟨r, hr, rfl, hown, hbl⟩ := hrel
    by_cases hlt : r < R
    · have hlt2 : 8 * (r : Int) < n := by omega
      go_wp2
      obtain ⟨wo, rfl⟩ : ∃ wo : World, wo = wr := ⟨_, rfl⟩
      go_loop [5, 6] (fun p k => ∃ j q : Nat, j ≤ 8 ∧ k = .int .i64 (8 * (r : Int) + j) ∧ p = .int .u8 q ∧ Hid (q = M.partN l (8 * r) j)) (fun _ k => (8 * r + 8 - intOf k).toNat)
      case atStart => exact ⟨0, 0, by omega, by simp, rfl, rfl⟩
      case round =>
        obtain ⟨j, q, hj, rfl, rfl, hq⟩ := hrel
        by_cases hj8 : j < 8
        · have hb : (q : Int) * 2 + 1 ≤ 255 := by
            have h1 := M.partN_lt l (8 * r) j
            rw [← hq.out] at h1
            have h2 := Nat.pow_le_pow_right (n := 2) (by omega) (show j ≤ 7 by omega)
            omega
          have hs := Lib.hid (M.partN_succ l (8 * r) j)
          by_cases hin : 8 * r + j < n
          · have hx0 : l[8 * r + j]? = some (l.getD (8 * r + j) false) := by
              rw [List.getElem?_eq_getElem (by rw [Hn.out]; exact hin)]
              simp [List.getD, List.getElem?_eq_getElem (show 8 * r + j < l.length by rw [Hn.out]; exact hin)]
            obtain ⟨b, off, rfl, hc⟩ := hH.out wo hbl _ (.bool (l.getD (8 * r + j) false)) (by rw [List.getElem?_map, hx0]; rfl)
            have hinI : 8 * (r : Int) + j < n := by omega
            clear hx0 hH
            by_cases hx : l.getD (8 * r + j) false = true
            · rw [hx] at hc
              have HX := Lib.hid hx
              clear hx
              go_wp2
              go_round
              case rel => exact ⟨j + 1, q * 2 + 1, by omega, by go_num, by rw [Int.natCast_add, Int.natCast_mul]; rfl, by
                show q * 2 + 1 = _
                rw [hs.out, HX.out, hq.out]; simp; omega⟩
              case measure => simp [intOf]; omega
            · have hx2 : l.getD (8 * r + j) false = false := by simpa using hx
              rw [hx2] at hc
              have HX := Lib.hid hx2
              clear hx hx2
              go_wp2
              go_round
              case rel => exact ⟨j + 1, q * 2, by omega, by go_num, by rw [Int.natCast_mul]; rfl, by
                show q * 2 = _
                rw [hs.out, HX.out, hq.out]; simp; omega⟩
              case measure => simp [intOf]; omega
          · have hx2 : l.getD (8 * r + j) false = false := by
              rw [List.getD, List.getElem?_eq_none (by rw [Hn.out]; omega)]; rfl
            have HX := Lib.hid hx2
            have hinI : ¬ (8 * (r : Int) + j < n) := by omega
            clear hx2 hH
            go_wp2
            go_round
            case rel => exact ⟨j + 1, q * 2, by omega, by go_num, by rw [Int.natCast_mul]; rfl, by
              show q * 2 = _
              rw [hs.out, HX.out, hq.out]; simp; omega⟩
            case measure => simp [intOf]; omega
        · obtain rfl : j = 8 := by omega
          have hc5 : B ≤ (wo.alloc (.cells #[.int .u8 (q : Int)] 5)).heap.size := by have := hbl.size; have := HB.out; simp; omega
          have hc3 : r + 1 ≤ maxLen := by unfold maxLen; omega
          have HC3 := Lib.hid hc3
          have HC5 := Lib.hid hc5
          clear hc3 hc5
          go_wp2_with (at_builtin; refine wpList_append_own _ rfl _ _ 34 rfl B 5 i0 (.int .u8 0) 1 1 Try.underlying34 hi hz0 hz1 hz2 rfl (by decide) _ _ _ rfl (hown.alloc _) ⟨wo.heap.size, 0, none⟩ 1 1 [.int .u8 (q : Int)] rfl rfl (one_new _ _ _) (one_int _ _) HC3.out (by omega) HC5.out ?_)
          intro v' w' hown' hgrow _
          have hown2 : w'.ownsRow B 5 1 v' (r + 1) (u8s (M.bytesN l (r + 1))) := by rw [M.bytesN_succ, ← u8s_snoc]; rw [hq.out] at hown'; exact hown'
          have hbl2 : Below B w w' := below_push hbl (by have := hbl.size; have := HB.out; omega) hown hgrow
          clear hown' hgrow hown hbl hH
          go_wp2
          go_roundw
          case rel => exact ⟨r + 1, by omega, by go_num, hown2, hbl2⟩
          case measure => simp [intOf]; omega
    · have hge : ¬ (8 * (r : Int) < n) := by omega
      clear hH
      go_wp2
      go_ret
      obtain rfl : r = R := by omega
      exact ⟨_, rfl, hown, hbl⟩
end Go.Proofs.Ytojhhcfpnbdobaa
