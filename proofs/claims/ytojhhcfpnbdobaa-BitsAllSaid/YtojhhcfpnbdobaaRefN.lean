/- The reference's Num: a number of bits. -/
import Derived.Test.YtojhhcfpnbdobaaRefB
namespace Go.Proofs.Ytojhhcfpnbdobaa
open Go.RowKit

/-- The memory behind a slice's head holds these values. -/
def Holds (w : World) (a : Option Addr) (l : List Value) : Prop :=
  ∀ i x, l[i]? = some x → ∃ b off, a = some ⟨b, off, none⟩ ∧ w.cell? ⟨b, off + i, none⟩ = some x

/-- A slice value that reads as a list. -/
def Reads (w : World) (v : Value) (l : List Value) : Prop := ∃ a cap, v = .slice a l.length cap ∧ l.length ≤ cap ∧ Holds w a l

theorem reads_of_own {w : World} {base n : Nat} {e : TypeId} {v : Value} {xs : List Value} (h : w.ownsRow base e 1 v n xs) : Reads w v xs := by
  have hl : xs.length = n := by simpa using h.1
  have h2 := h
  rcases h.2 with ⟨rfl, rfl⟩ | ⟨g, cap, cur, rfl, hg, hh, hn, r⟩
  · have : xs = [] := List.length_eq_zero_iff.1 hl
    subst this
    exact ⟨none, 0, rfl, Nat.le_refl _, fun i x hx => by simp at hx⟩
  · refine ⟨some ⟨g, 0, none⟩, cap, by rw [hl], by rw [hl]; exact hn, fun i x hx => ⟨g, 0, rfl, ?_⟩⟩
    have := h2.cells rfl i x hx
    by_cases h0 : i = 0
    · subst h0; simpa [Addr.add] using this
    · simpa [Addr.add, h0] using this

theorem Holds.mono {w w' : World} {a : Option Addr} {l : List Value} (h : Holds w a l) (hw : ∀ b off x, a = some ⟨b, off, none⟩ → ∀ i, w.cell? ⟨b, off + i, none⟩ = some x → w'.cell? ⟨b, off + i, none⟩ = some x) : Holds w' a l := by
  intro i x hx
  obtain ⟨b, off, ha, hc⟩ := h i x hx
  exact ⟨b, off, ha, hw b off x ha i hc⟩

set_option maxHeartbeats 400000 in
theorem num_any (l : List Bool) (a : Option Addr) (cap : Nat) (w : World) (hl : l.length ≤ 64) (hh : Holds w a (l.map Value.bool)) :
    Calls Try.prog 45 #[.slice a l.length cap] w fun e w' => e = .returned (.int .u64 (M.num l)) ∧ w = w' := by
  obtain ⟨n, hn⟩ : ∃ n, l.length = n := ⟨_, rfl⟩
  rw [hn] at hl ⊢
  go_enter Try.func45, Try.ntmps45
  go_wp2
  go_loop [3, 4] (fun p i => ∃ k q : Nat, k ≤ n ∧ i = .int .i64 k ∧ p = .int .u64 q ∧ Hid (q = M.num (l.take k))) (fun _ i => n - (intOf i).toNat)
  case atStart => exact ⟨0, 0, Nat.zero_le _, rfl, rfl, rfl⟩
  case round =>
    obtain ⟨k, q, hk, rfl, rfl, hq⟩ := hrel
    by_cases hlt : k < n
    · have hb : (q : Int) * 2 + 1 < 18446744073709551616 := by
        have h1 := M.num_lt (l.take k)
        rw [List.length_take, Nat.min_eq_left (by omega), ← hq.out] at h1
        have h2 := Nat.pow_le_pow_right (n := 2) (by omega) (show k ≤ 63 by omega)
        omega
      have hget : (l.map Value.bool)[k]? = some (.bool (l[k]'(by omega))) := by simp [hn, hlt]
      obtain ⟨b, off, rfl, hc⟩ := hh k _ hget
      have hs : M.num (l.take (k + 1)) = 2 * M.num (l.take k) + (l[k]'(by omega)).toNat := by
        rw [List.take_succ_eq_append_getElem (by omega), M.num_snoc]
      have HS := Lib.hid hs
      clear hs hget hh
      by_cases hx : l[k]'(by omega) = true
      · rw [hx] at hc
        have HX := Lib.hid hx
        clear hx
        go_wp2
        go_round
        case rel => exact ⟨k + 1, q * 2 + 1, by omega, by go_num, by rw [Int.natCast_add, Int.natCast_mul]; rfl, by
          show q * 2 + 1 = _
          rw [HS.out, HX.out, hq.out]; simp; omega⟩
        case measure => simp [intOf]; omega
      · have hx2 : l[k]'(by omega) = false := by simpa using hx
        rw [hx2] at hc
        have HX := Lib.hid hx2
        clear hx hx2
        go_wp2
        go_round
        case rel => exact ⟨k + 1, q * 2, by omega, by go_num, by rw [Int.natCast_mul]; rfl, by
          show q * 2 = _
          rw [HS.out, HX.out, hq.out]; simp; omega⟩
        case measure => simp [intOf]; omega
    · clear hh
      go_wp2
      go_ret
      exact ⟨ret_int (by rw [hq.out, show k = l.length by omega, List.take_length]), rfl⟩

theorem num_at (l : List Bool) (n : Nat) (a : Option Addr) (cap : Nat) (w : World) (hn : l.length = n) (hl : n ≤ 64) (hh : Holds w a (l.map Value.bool)) :
    Calls Try.prog 45 #[.slice a n cap] w fun e w' => e = .returned (.int .u64 (M.num l)) ∧ w = w' := by
  subst hn; exact num_any l a cap w hl hh
end Go.Proofs.Ytojhhcfpnbdobaa
