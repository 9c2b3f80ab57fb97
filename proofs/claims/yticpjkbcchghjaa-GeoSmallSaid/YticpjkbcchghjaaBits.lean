/- Package bits: what each call does. -/
import Derived.Test.YticpjkbcchghjaaBitM
import Derived.Test.YticpjkbcchghjaaRefO
import Derived.BigRegion
import Derived.StillTailTactics
namespace Go.Proofs.Yticpjkbcchghjaa
open Go.RowKit

theorem isWidth_yes (n : Int) (w : World) (h1 : 1 ≤ n) (h2 : n ≤ 64) : Calls Try.prog 104 #[.int .i64 n] w fun e w' => e = .returned (.bool true) ∧ w = w' := by
  go_enter Try.func104, Try.ntmps104
  go_wp2
  go_ret
  exact ⟨rfl, rfl⟩
theorem isWidth_low (n : Int) (w : World) (h1 : n < 1) : Calls Try.prog 104 #[.int .i64 n] w fun e w' => e = .returned (.bool false) ∧ w = w' := by
  have hb : decide (1 ≤ n) = false := by simp; omega
  go_enter Try.func104, Try.ntmps104
  go_wp2
  go_ret
  exact ⟨rfl, rfl⟩
theorem isWidth_high (n : Int) (w : World) (h1 : 64 < n) : Calls Try.prog 104 #[.int .i64 n] w fun e w' => e = .returned (.bool false) ∧ w = w' := by
  have hb : decide (n ≤ 64) = false := by simp; omega
  have h2 : 1 ≤ n := by omega
  go_enter Try.func104, Try.ntmps104
  go_wp2
  go_ret
  exact ⟨rfl, rfl⟩
theorem isWidth_no (n : Int) (w : World) (h : n < 1 ∨ 64 < n) : Calls Try.prog 104 #[.int .i64 n] w fun e w' => e = .returned (.bool false) ∧ w = w' := by
  rcases h with h | h
  · exact isWidth_low n w h
  · exact isWidth_high n w h

/-- Block g is an Out that has the bits l. -/
structure OutIs (w : World) (g : Nat) (l : List Bool) : Prop where
  fits : l.length ≤ 4096
  bytes : ∀ j, j < 512 → w.cell? ⟨g, j, none⟩ = some (.int .u8 (M.byteN l (8 * j) : Nat))
  count : w.cell? ⟨g, 512, none⟩ = some (.int .i64 l.length)
  free : ∀ j, j ≤ 512 → w.frozen? ⟨g, j, none⟩ = false

/-- Block g may have changed, nothing else has. -/
structure Only (g : Nat) (w w' : World) : Prop where
  os : w'.os = w.os
  tape : w'.tape = w.tape
  output : w'.output = w.output
  size : w'.heap.size = w.heap.size
  block : ∀ k, k ≠ g → w'.heap[k]? = w.heap[k]?
theorem Only.refl (g : Nat) (w : World) : Only g w w := ⟨rfl, rfl, rfl, rfl, fun _ _ => rfl⟩
theorem Only.trans {g : Nat} {a b c : World} (h : Only g a b) (k : Only g b c) : Only g a c :=
  ⟨k.os.trans h.os, k.tape.trans h.tape, k.output.trans h.output, k.size.trans h.size, fun i hi => (k.block i hi).trans (h.block i hi)⟩
theorem Only.drew {g : Nat} {a w : World} (h : Only g a w) : Only g a w.drew := ⟨h.os, h.tape, h.output, h.size, h.block⟩
theorem Only.setCell {g : Nat} {a w : World} (h : Only g a w) (o : Nat) (s : Option Nat) (u : Value) : Only g a (w.setCell ⟨g, o, s⟩ u) :=
  h.trans ⟨rfl, rfl, rfl, by simp [World.setCell], fun k hk => Below.heap_setCell _ _ _ _ hk⟩
theorem Only.below {g B : Nat} {w w' : World} (h : Only g w w') (hg : B ≤ g) : Below B w w' := ⟨h.os, h.tape, h.output, by rw [h.size]; exact Nat.le_refl _, fun k hk => h.block k (by omega)⟩

theorem put_nil (u n : Int) (w : World) : Calls Try.prog 78 #[.pointer none, .int .u64 u, .int .i64 n] w fun e w' => e = .returned (.bool false) ∧ w = w' := by
  go_enter Try.func78, Try.ntmps78
  go_wp2
  go_ret
  exact ⟨rfl, rfl⟩
set_option maxHeartbeats 400000 in
theorem put_width (g : Nat) (u n : Int) (w : World) (h : n < 1 ∨ 64 < n) : Calls Try.prog 78 #[.pointer (some ⟨g, 0, none⟩), .int .u64 u, .int .i64 n] w fun e w' => e = .returned (.bool false) ∧ w = w' := by
  go_enter Try.func78, Try.ntmps78
  go_wp2_with (go_at_call 104; refine (isWidth_no _ _ h).mono ?_; rintro e w' ⟨rfl, rfl⟩)
  go_ret
  exact ⟨rfl, rfl⟩
set_option maxHeartbeats 400000 in
theorem put_high (g : Nat) (u n : Int) (w : World) (h1 : 1 ≤ n) (h2 : n ≤ 64) (hu : (u / 2 ^ n.toNat != 0) = true) : Calls Try.prog 78 #[.pointer (some ⟨g, 0, none⟩), .int .u64 u, .int .i64 n] w fun e w' => e = .returned (.bool false) ∧ w = w' := by
  go_enter Try.func78, Try.ntmps78
  go_wp2_with (go_at_call 104; refine (isWidth_yes _ _ h1 h2).mono ?_; rintro e w' ⟨rfl, rfl⟩)
  go_ret
  exact ⟨rfl, rfl⟩
set_option maxHeartbeats 400000 in
theorem put_full (g : Nat) (u n : Int) (l : List Bool) (w : World) (h1 : 1 ≤ n) (h2 : n ≤ 64) (hu : (u / 2 ^ n.toNat != 0) = false) (ho : OutIs w g l) (hf : 4096 < (l.length : Int) + n) : Calls Try.prog 78 #[.pointer (some ⟨g, 0, none⟩), .int .u64 u, .int .i64 n] w fun e w' => e = .returned (.bool false) ∧ w = w' := by
  have hc := ho.count
  have hl := ho.fits
  clear ho
  go_enter Try.func78, Try.ntmps78
  go_wp2_with (go_at_call 104; refine (isWidth_yes _ _ h1 h2).mono ?_; rintro e w' ⟨rfl, rfl⟩)
  go_ret
  exact ⟨rfl, rfl⟩

theorem addr_ne {g i j : Nat} (h : i ≠ j) : (⟨g, i, none⟩ : Addr) ≠ ⟨g, j, none⟩ := fun e => h (congrArg Addr.off e)

/-- One piece more. -/
theorem out_step {w : World} {g n : Nat} {m t : List Bool} {X N : Int} (ho : OutIs w g m) (hn : m.length = n) (hf : n + t.length ≤ 4096) (ht : n % 8 + t.length ≤ 8) (h0 : 0 < t.length)
    (hX : X = (M.byteN (m ++ t) (8 * (n / 8)) : Nat)) (hN : N = ((n + t.length : Nat) : Int)) :
    OutIs ((w.setCell ⟨g, n / 8, none⟩ (.int .u8 X)).setCell ⟨g, 512, none⟩ (.int .i64 N)).drew g (m ++ t) := by
  subst hn
  have hq : m.length / 8 < 512 := by omega
  refine ⟨by rw [List.length_append]; omega, fun j hj => ?_, ?_, fun j hj => ?_⟩
  · show ((w.setCell ⟨g, m.length / 8, none⟩ (.int .u8 X)).setCell ⟨g, 512, none⟩ (.int .i64 N)).cell? _ = _
    rw [World.cell?_setCell_other _ _ _ _ (addr_ne (by omega))]
    by_cases hj2 : j = m.length / 8
    · subst hj2
      rw [World.cell?_setCell_same _ _ _ (ho.bytes _ hj), hX]
    · rw [World.cell?_setCell_other _ _ _ _ (addr_ne (by omega)), ho.bytes j hj]
      by_cases hlt : j < m.length / 8
      · rw [M.byteN_before m t j (by omega)]
      · rw [M.byteN_behind m j (by omega), M.byteN_behind (m ++ t) j (by rw [List.length_append]; omega)]
  · show ((w.setCell ⟨g, m.length / 8, none⟩ (.int .u8 X)).setCell ⟨g, 512, none⟩ (.int .i64 N)).cell? _ = _
    have hc : (w.setCell ⟨g, m.length / 8, none⟩ (.int .u8 X)).cell? ⟨g, 512, none⟩ = some (.int .i64 m.length) := by
      rw [World.cell?_setCell_other _ _ _ _ (addr_ne (by omega))]; exact ho.count
    rw [World.cell?_setCell_same _ _ _ hc, hN, List.length_append]
  · show ((w.setCell ⟨g, m.length / 8, none⟩ (.int .u8 X)).setCell ⟨g, 512, none⟩ (.int .i64 N)).frozen? _ = _
    rw [World.frozen?_setCell, World.frozen?_setCell]; exact ho.free j hj

/-- The byte that is stored. -/
theorem put_val (m t r : List Bool) (n b x p : Nat) (hn : m.length = n) (hb : M.byteN m (8 * (n / 8)) = b) (hp : n % 8 = p) (hx : M.topN (t ++ r) = x) (h64 : t.length + r.length ≤ 64)
    (ht : p + t.length ≤ 8) (hc : r = [] ∨ p + t.length = 8) :
    bits BinOp.or IntKind.u8 (b : Int) ((x : Int) / 72057594037927936 % 256 / 2 ^ p) = ((M.byteN (m ++ t) (8 * (n / 8)) : Nat) : Int) := by
  subst hn hp
  have e : ((x : Int) / 72057594037927936 % 256 / 2 ^ (m.length % 8)) = ((x / 72057594037927936 % 256 / 2 ^ (m.length % 8) : Nat) : Int) := by simp
  have h1 : b < 256 := by rw [← hb]; exact M.byteN_lt _ _
  have h2 : x / 72057594037927936 % 256 / 2 ^ (m.length % 8) < 256 := Nat.lt_of_le_of_lt (Nat.div_le_self _ _) (by omega)
  rw [e, u8_or_nat _ _ h1 h2, M.put_byte m t ht, hb, ← hx, M.top_byte t r _ h64 ht hc]

set_option maxRecDepth 100000 in
set_option maxHeartbeats 1000000 in
theorem put_good (g : Nat) (u W : Nat) (l : List Bool) (w : World) (h1 : 1 ≤ W) (h2 : W ≤ 64) (hu : u < 2 ^ W) (ho : OutIs w g l) (hf : l.length + W ≤ 4096) :
    Calls Try.prog 78 #[.pointer (some ⟨g, 0, none⟩), .int .u64 u, .int .i64 W] w fun e w' => e = .returned (.bool true) ∧ OutIs w' g (l ++ M.bitsOf u W) ∧ Only g w w' := by
  have hc := ho.count
  have hl := ho.fits
  have hub : ((u : Int) / 2 ^ W != 0) = false := by
    rw [show ((u : Int) / 2 ^ W) = ((u / 2 ^ W : Nat) : Int) by simp, Nat.div_eq_of_lt hu]; rfl
  have HO := Lib.hid ho
  clear ho
  have h1I : (1 : Int) ≤ W := by omega
  have h2I : (W : Int) ≤ 64 := by omega
  go_enter Try.func78, Try.ntmps78
  go_wp2_with (go_at_call 104; refine (isWidth_yes _ _ h1I h2I).mono ?_; rintro e w' ⟨rfl, rfl⟩)
  have hts : IntKind.u64.wrap ((u : Int) * 2 ^ (64 - W)) = ((M.topN (M.bitsOf u W) : Nat) : Int) := by
    rw [IntKind.wrap_u64, ← M.top_start u W h2 hu]; simp
  rw [hts]
  clear hts hub hc hl
  go_loopw [1, 2] (fun a b wr => ∃ t r : List Bool, Hid (t ++ r = M.bitsOf u W) ∧ a = .int .u64 (M.topN r : Nat) ∧ b = .int .i64 r.length ∧ Hid (OutIs wr g (l ++ t)) ∧ Hid (Only g w wr)) (fun _ b _ => (intOf b).toNat)
  case atStart => exact ⟨[], M.bitsOf u W, rfl, rfl, by rw [M.bitsOf_length], by rw [List.append_nil]; exact HO, Only.refl _ _⟩
  case round =>
    obtain ⟨t, r, htr, rfl, rfl, hout, honly⟩ := hrel
    have hlen : t.length + r.length = W := by rw [← List.length_append, htr.out, M.bitsOf_length]
    obtain ⟨m, hm⟩ : ∃ m, l ++ t = m := ⟨_, rfl⟩
    have hml : m.length = l.length + t.length := by rw [← hm, List.length_append]
    rw [hm] at hout
    have HM := Lib.hid hm
    clear hm
    by_cases hr : 0 < r.length
    · obtain ⟨n, hn⟩ : ∃ n, m.length = n := ⟨_, rfl⟩
      have hn1 : n < 4096 := by omega
      have hcn := hout.out.count
      have hfn := hout.out.free 512 (by omega)
      have hcb := hout.out.bytes (n / 8) (by omega)
      have hfb := hout.out.free (n / 8) (by omega)
      rw [hn] at hcn
      obtain ⟨b, hb⟩ : ∃ b, M.byteN m (8 * (n / 8)) = b := ⟨_, rfl⟩
      rw [hb] at hcb
      have hb255 : b < 256 := by rw [← hb]; exact M.byteN_lt _ _
      obtain ⟨p, hp⟩ : ∃ p, n % 8 = p := ⟨_, rfl⟩
      have hand : bits BinOp.and IntKind.i64 (n : Int) 7 = (p : Int) := by rw [← hp]; exact M.and7 n (by omega)
      have hp8 : p < 8 := by omega
      obtain ⟨x, hx⟩ : ∃ x, M.topN r = x := ⟨_, rfl⟩
      rw [hx]
      obtain ⟨c, hc⟩ : ∃ c, r.length = c := ⟨_, rfl⟩
      rw [hc] at hr ⊢
      have HN := Lib.hid hn
      have HB := Lib.hid hb
      have HP := Lib.hid hp
      have HX := Lib.hid hx
      have HC := Lib.hid hc
      have HL := Lib.hid hlen
      have HML := Lib.hid hml
      have hc64 : c ≤ 64 := by omega
      clear hn hb hp hx hc hlen hml
      obtain ⟨k, hk⟩ : ∃ k, min (8 - p) c = k := ⟨_, rfl⟩
      obtain ⟨t2, r2, htr2, ht2, hr2⟩ : ∃ t2 r2 : List Bool, t2 ++ r2 = r ∧ t2.length = k ∧ r2.length + k = c :=
        ⟨r.take k, r.drop k, List.take_append_drop k r, by rw [List.length_take, HC.out]; omega, by rw [List.length_drop, HC.out]; omega⟩
      have hv := put_val m t2 r2 n b x p HN.out HB.out HP.out (by rw [htr2]; exact HX.out) (by omega) (by omega) (by
        by_cases hcc : 8 - p ≤ c
        · right; omega
        · left; exact List.length_eq_zero_iff.1 (by omega))
      have hout2 : ∀ N : Int, N = ((n + k : Nat) : Int) → OutIs ((wr.setCell ⟨g, n / 8, none⟩ (.int .u8 ((M.byteN (m ++ t2) (8 * (n / 8)) : Nat) : Int))).setCell ⟨g, 512, none⟩ (.int .i64 N)).drew g (m ++ t2) := by
        intro N hN
        have h1 := HML.out
        have h2 := HL.out
        have h3 := HN.out
        have h4 := HC.out
        exact out_step hout.out HN.out (by omega) (by have := HP.out; omega) (by omega) rfl (by rw [hN, ht2])
      have htop : IntKind.u64.wrap ((x : Int) * 2 ^ k) = ((M.topN r2 : Nat) : Int) := by
        rw [← M.top_next t2 r2 (by omega), htr2, HX.out, ht2, IntKind.wrap_u64]; simp
      have hfin : t ++ t2 ++ r2 = M.bitsOf u W := by rw [List.append_assoc, htr2]; exact htr.out
      have hmt : m ++ t2 = l ++ (t ++ t2) := by rw [← HM.out, List.append_assoc]
      have HV := Lib.hid hv
      have HO2 := Lib.hid hout2
      have HT := Lib.hid htop
      have HF := Lib.hid hfin
      have HMT := Lib.hid hmt
      have HK := Lib.hid hk
      have HR2 := Lib.hid hr2
      clear hv hout2 htop hfin hmt htr2 ht2 hk hr2
      by_cases hk : 8 - p ≤ c
      · have hkv : k = 8 - p := by have := HK.out; omega
        have HKV := Lib.hid hkv
        clear hkv
        go_wp2
        go_region
        go_wp2
        refine ⟨⟨t ++ t2, r2, HF.out, ?_, ?_, ?_, ?_⟩, ?_⟩
        · rw [← HT.out, HKV.out]
        · have := HR2.out; have := HKV.out; exact congrArg (Value.int .i64) (by omega)
        · show OutIs _ g (l ++ (t ++ t2))
          rw [← HMT.out, HV.out]
          exact HO2.out _ (by have := HKV.out; omega)
        · exact ((honly.out.setCell _ _ _).setCell _ _ _).drew
        · simp [intOf]; omega
      · have hkv : k = c := by have := HK.out; omega
        have HKV := Lib.hid hkv
        clear hkv
        go_wp2
        go_region
        go_wp2
        refine ⟨⟨t ++ t2, r2, HF.out, ?_, ?_, ?_, ?_⟩, ?_⟩
        · rw [← HT.out, HKV.out]
        · have := HR2.out; have := HKV.out; exact congrArg (Value.int .i64) (by omega)
        · show OutIs _ g (l ++ (t ++ t2))
          rw [← HMT.out, HV.out]
          exact HO2.out _ (by have := HKV.out; omega)
        · exact ((honly.out.setCell _ _ _).setCell _ _ _).drew
        · simp [intOf]; omega
    · have hr0 : r = [] := List.length_eq_zero_iff.1 (by omega)
      subst hr0
      rw [List.append_nil] at htr
      go_wp2
      go_ret
      refine ⟨rfl, ?_, honly.out⟩
      rw [← htr.out, HM.out]; exact hout.out
end Go.Proofs.Yticpjkbcchghjaa
