/- Package bits: Get. -/
import Derived.Test.YticpjkbcchghjaaBitsB
namespace Go.Proofs.Yticpjkbcchghjaa
open Go.RowKit

set_option maxHeartbeats 400000 in
theorem get_width (p : Option Addr) (n : Int) (w : World) (h : n < 1 ∨ 64 < n) : Calls Try.prog 80 #[.pointer p, .int .i64 n] w fun e w' => e = .returned (.tuple #[.int .u64 0, .bool false]) ∧ w = w' := by
  go_enter Try.func80, Try.ntmps80
  go_wp2_with (go_at_call 104; refine (isWidth_no _ _ h).mono ?_; rintro e w' ⟨rfl, rfl⟩)
  go_ret2
  exact ⟨rfl, rfl⟩

set_option maxHeartbeats 400000 in
theorem get_nil (n : Int) (w : World) (h1 : 1 ≤ n) (h2 : n ≤ 64) : Calls Try.prog 80 #[.pointer none, .int .i64 n] w fun e w' => e = .returned (.tuple #[.int .u64 0, .bool false]) ∧ w = w' := by
  have hb : decide (0 < n) = true := by simp; omega
  go_enter Try.func80, Try.ntmps80
  go_wp2_with (first
    | (go_at_call 104; refine (isWidth_yes _ _ h1 h2).mono ?_; rintro e w' ⟨rfl, rfl⟩)
    | (go_at_call 87; refine (left_nil _).mono ?_; rintro e w' ⟨rfl, rfl⟩))
  go_ret2
  exact ⟨rfl, rfl⟩

set_option maxHeartbeats 400000 in
theorem get_few (g : Nat) (bs : List Nat) (pos : Nat) (n : Int) (w : World) (h1 : 1 ≤ n) (h2 : n ≤ 64) (hi : InIs w g bs pos) (hf : 8 * (bs.length : Int) - pos < n) :
    Calls Try.prog 80 #[.pointer (some ⟨g, 0, none⟩), .int .i64 n] w fun e w' => e = .returned (.tuple #[.int .u64 0, .bool false]) ∧ ∃ m, w' = w.drewN m := by
  have HI := Lib.hid hi
  clear hi
  go_enter Try.func80, Try.ntmps80
  go_wp2_with (first
    | (go_at_call 104; refine (isWidth_yes _ _ h1 h2).mono ?_; rintro e w' ⟨rfl, rfl⟩)
    | (go_at_call 87; refine (left_any g bs pos _ HI.out).mono ?_; rintro e w' ⟨rfl, nd, rfl⟩))
  go_ret2
  exact ⟨rfl, _, rfl⟩

set_option maxRecDepth 100000 in
set_option maxHeartbeats 1000000 in
theorem get_good (g : Nat) (bs : List Nat) (pos W : Nat) (w : World) (h1 : 1 ≤ W) (h2 : W ≤ 64) (hi : InIs w g bs pos) (hf : pos + W ≤ 8 * bs.length) :
    Calls Try.prog 80 #[.pointer (some ⟨g, 0, none⟩), .int .i64 W] w fun e w' => e = .returned (.tuple #[.int .u64 (M.nextN bs pos W : Nat), .bool true]) ∧ InIs w' g bs (pos + W) ∧ Only g w w' := by
  have h1I : (1 : Int) ≤ W := by omega
  have h2I : (W : Int) ≤ 64 := by omega
  have hle : ¬ (8 * (bs.length : Int) - pos < W) := by omega
  have HI := Lib.hid hi
  clear hi
  go_enter Try.func80, Try.ntmps80
  go_wp2_with (first
    | (go_at_call 104; refine (isWidth_yes _ _ h1I h2I).mono ?_; rintro e w' ⟨rfl, rfl⟩)
    | (go_at_call 87; refine (left_any g bs pos _ HI.out).mono ?_; rintro e w' ⟨rfl, nd, rfl⟩))
  clear hle
  have HI2 : Hid (InIs (w.drewN nd) g bs (pos + 0)) := ⟨HI.out.row, HI.out.small, HI.out.size, HI.out.place, HI.out.free, HI.out.fits⟩
  have HO0 : Hid (Only g w (w.drewN nd)) := ⟨rfl, rfl, rfl, rfl, fun _ _ => rfl⟩
  generalize w.drewN nd = w0 at HI2 HO0 ⊢
  clear HI
  go_loopw [1, 6] (fun a v wr => ∃ c r q : Nat, Hid (c + r = W) ∧ a = .int .i64 r ∧ v = .int .u64 q ∧ Hid (q = M.nextN bs pos c) ∧ Hid (InIs wr g bs (pos + c)) ∧ Hid (Only g w wr)) (fun a _ _ => (intOf a).toNat)
  case atStart => exact ⟨0, W, 0, by show 0 + W = W; omega, rfl, rfl, (M.nextN_zero bs pos).symm, HI2, HO0⟩
  case round =>
    obtain ⟨c, r, q, hcr, rfl, rfl, hq, hin, honly⟩ := hrel
    by_cases hr : 0 < r
    · have hcr1 := hcr.out
      obtain ⟨n, hn⟩ : ∃ n, pos + c = n := ⟨_, rfl⟩
      rw [hn] at hin
      have hn8 : n < 8 * bs.length := by omega
      have hsz := hin.out.size
      have hnl : n / 8 < bs.length := by omega
      obtain ⟨⟨a, cap, hc0, hhold, hag⟩, h8, _, hc1, hf1, _⟩ := hin.out
      obtain ⟨x, hx⟩ : ∃ x, bs[n / 8] = x := ⟨_, rfl⟩
      have hx8 : x < 256 := by rw [← hx]; exact h8 _ (List.getElem_mem hnl)
      obtain ⟨b, off, rfl, hcx⟩ := hhold (n / 8) (.int .u8 (x : Nat)) (by unfold u8s; rw [List.getElem?_map, List.getElem?_eq_getElem hnl, hx]; rfl)
      have hbg : b ≠ g := hag b off rfl
      obtain ⟨p, hp⟩ : ∃ p, n % 8 = p := ⟨_, rfl⟩
      have hand : bits BinOp.and IntKind.i64 (n : Int) 7 = (p : Int) := by rw [← hp]; exact M.and7 n (by omega)
      have hp8 : p < 8 := by omega
      obtain ⟨k, hk⟩ : ∃ k, min (8 - p) r = k := ⟨_, rfl⟩
      have hval := M.get_val bs pos c k p x q (by rw [hn]; exact hnl) (by rw [hn]; exact hp) (by omega) (by simp only [hn]; exact hx) hq.out (by omega)
      have hin2 : ∀ N : Int, N = ((n + k : Nat) : Int) → InIs (wr.setCell ⟨g, 1, none⟩ (.int .i64 N)).drew g bs (pos + (c + k)) := by
        intro N hN
        have ho : Only g wr (wr.setCell ⟨g, 1, none⟩ (.int .i64 N)) := (Only.refl g wr).setCell _ _ _
        refine ⟨⟨_, cap, ?_, ?_, hag⟩, h8, hsz, ?_, ?_, by omega⟩
        · show (wr.setCell ⟨g, 1, none⟩ (.int .i64 N)).cell? _ = _
          rw [World.cell?_setCell_other _ _ _ _ (addr_ne (by omega))]; exact hc0
        · exact hhold.mono fun b' off' y hb' i hy => (World.cell?_of_block (ho.block b' (hag b' off' hb'))).trans hy
        · show (wr.setCell ⟨g, 1, none⟩ (.int .i64 N)).cell? _ = _
          rw [World.cell?_setCell_same _ _ _ hc1, hN]
          exact congrArg (fun z : Nat => some (Value.int .i64 (z : Int))) (by omega)
        · show (wr.setCell ⟨g, 1, none⟩ (.int .i64 N)).frozen? _ = _
          rw [World.frozen?_setCell]; exact hf1
      have HV := Lib.hid hval
      have HIN2 := Lib.hid hin2
      have HK := Lib.hid hk
      have HN := Lib.hid hn
      have hlenI : (n : Int) / 8 < bs.length := by omega
      have hnI : (n : Int) ≤ 8000000 := by omega
      have hr64 : (r : Int) ≤ 64 := by omega
      have hcr2 := Lib.hid hcr1
      clear hval hin2 hk hp hn hhold hag h8 hcr1 hx
      by_cases hk : 8 - p ≤ r
      · have hw8 : IntKind.i64.wrap (8 - (8 - (p : Int))) = (p : Int) := by rw [IntWalk.i64_in _ (by omega)]; omega
        have hkv : k = 8 - p := by have := HK.out; omega
        have HKV := Lib.hid hkv
        clear hkv
        go_wp2
        go_region
        go_wp2
        have hkv := HKV.out
        refine ⟨⟨c + k, r - k, M.nextN bs pos (c + k), ?_, ?_, ?_, rfl, ?_, ?_⟩, ?_⟩
        · show c + k + (r - k) = W; have := hcr2.out; omega
        · exact congrArg (Value.int .i64) (by omega)
        · rw [← HV.out, ← M.part_val, hkv, show 8 - (8 - p) = p by omega]
        · exact HIN2.out _ (by omega)
        · exact (honly.out.setCell _ _ _).drew
        · simp [intOf]; omega
      · have hw8 : IntKind.i64.wrap (8 - (r : Int)) = ((8 - r : Nat) : Int) := by rw [IntWalk.i64_in _ (by omega)]; omega
        have hkv : k = r := by have := HK.out; omega
        have HKV := Lib.hid hkv
        clear hkv
        go_wp2
        go_region
        go_wp2
        have hkv := HKV.out
        refine ⟨⟨c + k, r - k, M.nextN bs pos (c + k), ?_, ?_, ?_, rfl, ?_, ?_⟩, ?_⟩
        · show c + k + (r - k) = W; have := hcr2.out; omega
        · exact congrArg (Value.int .i64) (by omega)
        · rw [← HV.out, ← M.part_val, hkv]
        · exact HIN2.out _ (by omega)
        · exact (honly.out.setCell _ _ _).drew
        · simp [intOf]; omega
    · have hr0 : c = W := by have := hcr.out; omega
      have HR := Lib.hid hr0
      clear hr0
      go_wp2
      go_ret2
      rw [← HR.out]
      exact ⟨by rw [← hq.out]; rfl, hin.out, honly.out⟩
end Go.Proofs.Yticpjkbcchghjaa
