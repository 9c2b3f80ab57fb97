/- The law KoopLine: the walk. -/
import Derived.Test.YtojhhcfpnbdobaaBegun
import Derived.Test.YtojhhcfpnbdobaaKoop
import Derived.Test.YtojhhcfpnbdobaaShort
namespace Go.Proofs.Ytojhhcfpnbdobaa
open Go.RowKit

namespace M
theorem top_xor (x y : Nat) (hx : x < 256) (hy : y < 256) : topV (bitsOf (x ^^^ y) 8) = topV (bitsOf x 8) ^^^ topV (bitsOf y 8) := by
  have hxy : x ^^^ y < 256 := Nat.xor_lt_two_pow (n := 8) hx hy
  rw [topV_bits _ hx, topV_bits _ hy, topV_bits _ hxy]
  apply BitVec.eq_of_toNat_eq
  have e : ∀ z : Nat, z * 16777216 = z <<< 24 := fun z => by rw [Nat.shiftLeft_eq]
  rw [BitVec.toNat_xor, BitVec.toNat_ofNat, BitVec.toNat_ofNat, BitVec.toNat_ofNat, Nat.mod_eq_of_lt (by omega), Nat.mod_eq_of_lt (by omega), Nat.mod_eq_of_lt (by omega), e, e, e, Nat.shiftLeft_xor_distrib]
theorem stepV_xor (s t : B32) (x y : Nat) (hx : x < 256) (hy : y < 256) : stepV (s ^^^ t) (x ^^^ y) = stepV s x ^^^ stepV t y := by
  unfold stepV
  rw [top_xor x y hx hy, ← tK_xor]
  congr 1
  rw [BitVec.xor_assoc, BitVec.xor_assoc]
  congr 1
  rw [← BitVec.xor_assoc, ← BitVec.xor_assoc, BitVec.xor_comm t]

/-- Three, laid over one another. -/
def over3 (a b c : List Nat) (n : Nat) : List Nat := (List.range n).map fun i => (a.getD i 0 ^^^ b.getD i 0) ^^^ c.getD i 0
theorem over3_succ (a b c : List Nat) (n : Nat) : over3 a b c (n + 1) = over3 a b c n ++ [(a.getD n 0 ^^^ b.getD n 0) ^^^ c.getD n 0] := by
  unfold over3; rw [List.range_succ, List.map_append]; rfl
theorem take_getD (l : List Nat) (n : Nat) (h : n < l.length) : l.take (n + 1) = l.take n ++ [l.getD n 0] := by
  rw [List.take_succ_eq_append_getElem h]
  simp [List.getD, List.getElem?_eq_getElem h]
/-- The first k are laid, noughts behind. -/
def part3 (a b c : List Nat) (n k : Nat) : List Nat := over3 a b c k ++ List.replicate (n - k) 0
theorem over3_length (a b c : List Nat) (n : Nat) : (over3 a b c n).length = n := by simp [over3]
theorem part3_zero (a b c : List Nat) (n : Nat) : part3 a b c n 0 = List.replicate n 0 := by simp [part3, over3]
theorem part3_full (a b c : List Nat) (n : Nat) : part3 a b c n n = over3 a b c n := by simp [part3]
theorem part3_set (a b c : List Nat) (n k : Nat) (h : k < n) : (part3 a b c n k).set k ((a.getD k 0 ^^^ b.getD k 0) ^^^ c.getD k 0) = part3 a b c n (k + 1) := by
  unfold part3
  rw [List.set_append_right _ _ (by rw [over3_length]; exact Nat.le_refl _), over3_length, Nat.sub_self, over3_succ, List.append_assoc]
  obtain ⟨m, hm⟩ : ∃ m, n - k = m + 1 := ⟨n - k - 1, by omega⟩
  rw [hm, show n - (k + 1) = m by omega, List.replicate_succ]
  rfl
theorem sumV_snoc (s : B32) (l : List Nat) (x : Nat) : sumV s (l ++ [x]) = stepV (sumV s l) x := by unfold sumV; rw [List.foldl_append]; rfl
theorem over3_sum (a b c : List Nat) (s : B32) (ha : ∀ x ∈ a, x < 256) (hb : ∀ x ∈ b, x < 256) (hc : ∀ x ∈ c, x < 256) (n : Nat)
    (h1 : n ≤ a.length) (h2 : n ≤ b.length) (h3 : n ≤ c.length) :
    sumV s (over3 a b c n) = (sumV s (a.take n) ^^^ sumV s (b.take n)) ^^^ sumV s (c.take n) := by
  induction n with
  | zero => simp [over3, sumV]
  | succ n ih =>
    have xa := getD_lt a ha n
    have xb := getD_lt b hb n
    have xc := getD_lt c hc n
    rw [over3_succ, take_getD a n (by omega), take_getD b n (by omega), take_getD c n (by omega), sumV_snoc, sumV_snoc, sumV_snoc, sumV_snoc,
      ih (by omega) (by omega) (by omega), ← stepV_xor _ _ _ _ xa xb, ← stepV_xor _ _ _ _ (Nat.xor_lt_two_pow (n := 8) xa xb) xc]
end M

set_option maxRecDepth 100000 in
set_option maxHeartbeats 8000000 in
theorem koopLine_walk (a0 : Option Addr) (len0 cap0 : Nat) (bs0 : List Nat) (a1 : Option Addr) (len1 cap1 : Nat) (bs1 : List Nat) (a2 : Option Addr) (len2 cap2 : Nat) (bs2 : List Nat) (w : World)
    (hb0 : IsBytes w a0 len0 cap0 bs0) (hb1 : IsBytes w a1 len1 cap1 bs1) (hb2 : IsBytes w a2 len2 cap2 bs2) :
    Calls Try.prog 18 #[.slice a0 len0 cap0, .slice a1 len1 cap1, .slice a2 len2 cap2] w fun e w' => e = .returned (.bool true) ∧ Below w.heap.size w w' := by
  have H0 := Lib.hid hb0
  have H1 := Lib.hid hb1
  have H2 := Lib.hid hb2
  have l0 : len0 ≤ 9223372036854775807 := Nat.le_trans hb0.fits hb0.small
  have l1 : len1 ≤ 9223372036854775807 := Nat.le_trans hb1.fits hb1.small
  have l2 : len2 ≤ 9223372036854775807 := Nat.le_trans hb2.fits hb2.small
  have f0 := hb0.fits
  have f1 := hb1.fits
  have f2 := hb2.fits
  clear hb0 hb1 hb2
  obtain ⟨i0, hi, hz0, hz1, hz2⟩ := info_parts Try.infoByte
  obtain ⟨m2, hm2⟩ : ∃ m : Nat, (if (50 : Int) < (len2 : Int) then (50 : Int) else (len2 : Int)) = (m : Int) := ⟨min 50 len2, by split <;> omega⟩
  have hm2' : m2 ≤ 50 ∧ m2 ≤ len2 := by split at hm2 <;> omega
  obtain ⟨m1, hm1⟩ : ∃ m : Nat, (if (m2 : Int) < (len1 : Int) then (m2 : Int) else (len1 : Int)) = (m : Int) := ⟨min m2 len1, by split <;> omega⟩
  have hm1' : m1 ≤ m2 ∧ m1 ≤ len1 := by split at hm1 <;> omega
  obtain ⟨n, hn⟩ : ∃ m : Nat, (if (m1 : Int) < (len0 : Int) then (m1 : Int) else (len0 : Int)) = (m : Int) := ⟨min m1 len0, by split <;> omega⟩
  have hn' : n ≤ m1 ∧ n ≤ len0 := by split at hn <;> omega
  have hN50 : n ≤ 50 := by omega
  have hN0 : n ≤ len0 := by omega
  have hN1 : n ≤ len1 := by omega
  have hN2 : n ≤ len2 := by omega
  have hMIN : Hid ((if (if (if (50 : Int) < (len2 : Int) then (50 : Int) else (len2 : Int)) < (len1 : Int) then (if (50 : Int) < (len2 : Int) then (50 : Int) else (len2 : Int)) else (len1 : Int)) < (len0 : Int) then
      (if (if (50 : Int) < (len2 : Int) then (50 : Int) else (len2 : Int)) < (len1 : Int) then (if (50 : Int) < (len2 : Int) then (50 : Int) else (len2 : Int)) else (len1 : Int)) else (len0 : Int)) = (n : Int)) := by
    show _ = _; rw [hm2, hm1, hn]
  have hE1 : Hid ((if (if (50 : Int) < (len2 : Int) then (50 : Int) else (len2 : Int)) < (len1 : Int) then (if (50 : Int) < (len2 : Int) then (50 : Int) else (len2 : Int)) else (len1 : Int)) = (m1 : Int)) := by
    show _ = _; rw [hm2, hm1]
  have hE2 := Lib.hid hm2
  clear hm2 hm2' hm1 hm1' hn hn'
  go_enter Try.func18, Try.ntmps18
  go_wp2_with (first
    | (go_at_call 21; refine (begun_any _).mono ?_; rintro e w1 ⟨rfl, hb1⟩; have HB1 := Lib.hid hb1; clear hb1)
    | (at_make; refine wpList_make_full _ rfl _ _ 34 rfl _ 5 i0 (.int .u8 0) 1 Try.underlying34 hi hz0 hz1 .i64 .i64 _ _ n rfl rfl hMIN.out hMIN.out (by rw [hz2]; omega) (by unfold maxLen; omega) (Nat.le_refl _) ?_; intro w2 hown2 hgrow2; rw [hMIN.out, hE1.out, hE2.out]; have HOWN2 := Lib.hid hown2; have HG2 := Lib.hid hgrow2; clear hown2 hgrow2))
  obtain ⟨g, hg⟩ : ∃ g, w1.heap.size = g := ⟨_, rfl⟩
  have hz : (madeCells (Value.int IntKind.u8 0).cells (n * 1)).toList = u8s (M.part3 bs0 bs1 bs2 n 0) := by
    rw [M.part3_zero, Nat.mul_one, show (Value.int IntKind.u8 0).cells = #[Value.int IntKind.u8 0] from rfl, toList_madeCells_one]
    unfold u8s; rw [List.map_replicate]; rfl
  have hown := HOWN2.out
  rw [hz, hg] at hown
  have HOWN := Lib.hid hown
  have hbl2 : Below w.heap.size w w2 := below_grown HB1.out HB1.out.size (World.ownsRow_nil w1 w.heap.size 5 1) HG2.out
  have HBL := Lib.hid hbl2
  have hgw : w.heap.size ≤ g := by rw [← hg]; exact HB1.out.size
  rw [hg]
  clear hz hown hbl2 hg HOWN2 HG2 HB1 hMIN hE1 hE2 hz1 hz2 hz0 hi
  go_loopw [27] (fun i wr => ∃ k : Nat, k ≤ n ∧ i = .int .i64 k ∧ Hid (wr.ownsRow g 5 1 (.slice (some ⟨g, 0, none⟩) n n) n (u8s (M.part3 bs0 bs1 bs2 n k))) ∧ Hid (Below w.heap.size w wr)) (fun i _ => (n - intOf i).toNat)
  case atStart => exact ⟨0, Nat.zero_le _, rfl, HOWN, HBL⟩
  case round =>
    obtain ⟨k, hk, rfl, hr, hbl⟩ := hrel
    by_cases hlt : k < n
    · obtain ⟨b0, o0, rfl, hc0, hx0⟩ := (H0.out.below hbl.out).at k (by omega)
      obtain ⟨b1, o1, rfl, hc1, hx1⟩ := (H1.out.below hbl.out).at k (by omega)
      obtain ⟨b2, o2, rfl, hc2, hx2⟩ := (H2.out.below hbl.out).at k (by omega)
      have hpl : (M.part3 bs0 bs1 bs2 n k).length = n := by unfold M.part3; rw [List.length_append, M.over3_length, List.length_replicate]; omega
      have hc3 := own_cell8 (i := k) hr.out (by omega)
      have hf3 := own_free8 (i := k) hr.out
      have hset := M.part3_set bs0 bs1 bs2 n k hlt
      have hst := (hr.out.stored k (.int .u8 (((bs0.getD k 0 ^^^ bs1.getD k 0) ^^^ bs2.getD k 0 : Nat) : Int))).1
      rw [u8s_set, hset] at hst
      have hst4 := (hbl.out.setCell (p := ⟨g, k, none⟩) hgw (.int .u8 (((bs0.getD k 0 ^^^ bs1.getD k 0) ^^^ bs2.getD k 0 : Nat) : Int))).drew
      have HS1 := Lib.hid hst
      have HS4 := Lib.hid hst4
      generalize (M.part3 bs0 bs1 bs2 n k)[k] = old at hc3
      clear hset hst hst4 hpl
      generalize bs0.getD k 0 = x0 at hc0 hx0 HS1 HS4
      generalize bs1.getD k 0 = x1 at hc1 hx1 HS1 HS4
      generalize bs2.getD k 0 = x2 at hc2 hx2 HS1 HS4
      have hxy := Nat.xor_lt_two_pow (n := 8) hx0 hx1
      have e1 : bits BinOp.xor IntKind.u8 (x0 : Int) (x1 : Int) = ((x0 ^^^ x1 : Nat) : Int) := u8_xor_nat x0 x1 hx0 hx1
      have e2 : bits BinOp.xor IntKind.u8 ((x0 ^^^ x1 : Nat) : Int) (x2 : Int) = (((x0 ^^^ x1) ^^^ x2 : Nat) : Int) := u8_xor_nat _ x2 hxy hx2
      go_wp2
      go_region
      go_wp2
      exact ⟨⟨k + 1, by omega, by go_num, HS1.out, HS4.out⟩, by simp [intOf]; omega⟩
    · obtain rfl : k = n := by omega
      have hov := M.over3_sum bs0 bs1 bs2 0xffffffff#32 H0.out.byte H1.out.byte H2.out.byte k (by rw [H0.out.size]; exact hN0) (by rw [H1.out.size]; exact hN1) (by rw [H2.out.size]; exact hN2)
      obtain ⟨A, hA⟩ : ∃ A, M.sumV 0xffffffff#32 (bs0.take k) = A := ⟨_, rfl⟩
      obtain ⟨B, hB⟩ : ∃ B, M.sumV 0xffffffff#32 (bs1.take k) = B := ⟨_, rfl⟩
      obtain ⟨C, hC⟩ : ∃ C, M.sumV 0xffffffff#32 (bs2.take k) = C := ⟨_, rfl⟩
      rw [hA, hB, hC] at hov
      have hrd := hr.out
      rw [M.part3_full] at hrd
      have hD8 : ∀ x ∈ M.over3 bs0 bs1 bs2 k, x < 256 := by
        intro x hx
        unfold M.over3 at hx
        obtain ⟨i, _, rfl⟩ := List.mem_map.1 hx
        exact Nat.xor_lt_two_pow (n := 8) (Nat.xor_lt_two_pow (n := 8) (M.getD_lt bs0 H0.out.byte i) (M.getD_lt bs1 H1.out.byte i)) (M.getD_lt bs2 H2.out.byte i)
      have hlD := M.over3_length bs0 bs1 bs2 k
      obtain ⟨aD, capD, heD, hfD, hhD⟩ := reads_of_own hrd
      injection heD with heD1 heD3 heD2
      subst heD1; subst heD2
      have c0 : Hid (∀ w', Below w.heap.size w w' → Calls Try.prog 46 #[.slice a0 k cap0] w' fun e w'' => e = .returned (.int .u32 A.toNat) ∧ w' = w'') := fun w' hb => by
        rw [← hA]; exact kof_any _ k a0 cap0 w' (by rw [List.length_take, H0.out.size]; omega) (by omega) (fun x hx => H0.out.byte x (List.mem_of_mem_take hx)) ((H0.out.below hb).cut k)
      have c1 : Hid (∀ w', Below w.heap.size w w' → Calls Try.prog 46 #[.slice a1 k cap1] w' fun e w'' => e = .returned (.int .u32 B.toNat) ∧ w' = w'') := fun w' hb => by
        rw [← hB]; exact kof_any _ k a1 cap1 w' (by rw [List.length_take, H1.out.size]; omega) (by omega) (fun x hx => H1.out.byte x (List.mem_of_mem_take hx)) ((H1.out.below hb).cut k)
      have c2 : Hid (∀ w', Below w.heap.size w w' → Calls Try.prog 46 #[.slice a2 k cap2] w' fun e w'' => e = .returned (.int .u32 C.toNat) ∧ w' = w'') := fun w' hb => by
        rw [← hC]; exact kof_any _ k a2 cap2 w' (by rw [List.length_take, H2.out.size]; omega) (by omega) (fun x hx => H2.out.byte x (List.mem_of_mem_take hx)) ((H2.out.below hb).cut k)
      have c3 : Hid (∀ w' : World, w'.heap = wr.heap → Calls Try.prog 46 #[.slice (some ⟨g, 0, none⟩) k k] w' fun e w'' => e = .returned (.int .u32 ((A ^^^ B) ^^^ C).toNat) ∧ w' = w'') := fun w' hb => by
        rw [← hov]; exact kof_any _ k _ k w' hlD (by omega) hD8 (hhD.mono fun b off x _ i hc => (World.cell?_of_block (by rw [hb])).trans hc)
      have hAB : (A ^^^ B).toNat = A.toNat ^^^ B.toNat := BitVec.toNat_xor ..
      have hABC : ((A ^^^ B) ^^^ C).toNat = (A ^^^ B).toNat ^^^ C.toNat := BitVec.toNat_xor ..
      have hAl := A.isLt
      have hBl := B.isLt
      have hCl := C.isLt
      have hABl := (A ^^^ B).isLt
      have e1 : bits BinOp.xor IntKind.u32 (A.toNat : Int) (B.toNat : Int) = (((A ^^^ B).toNat : Nat) : Int) := by rw [hAB]; exact u32_xor_nat _ _ (by omega) (by omega)
      have e2 : bits BinOp.xor IntKind.u32 ((A ^^^ B).toNat : Int) (C.toNat : Int) = ((((A ^^^ B) ^^^ C).toNat : Nat) : Int) := by rw [hABC]; exact u32_xor_nat _ _ (by omega) (by omega)
      have HBD := Lib.hid hbl.out.drew
      have q0 : (k : Int) ≤ (cap0 : Int) := by omega
      have q1 : (k : Int) ≤ (cap1 : Int) := by omega
      have q2 : (k : Int) ≤ (cap2 : Int) := by omega
      have r0 : k ≤ cap0 := by omega
      have r1 : k ≤ cap1 := by omega
      have r2 : k ≤ cap2 := by omega
      clear hov hA hB hC hrd hD8 hlD hhD hAB hABC heD3 hfD
      generalize ((A ^^^ B) ^^^ C).toNat = nY at c3 e2
      generalize (A ^^^ B).toNat = nX at e1 e2 hABl
      generalize A.toNat = nA at c0 e1 hAl
      generalize B.toNat = nB at c1 e1 hBl
      generalize C.toNat = nC at c2 e2 hCl
      go_wp2
      go_region_with (first
        | (go_at_call 46; (with_reducible refine (c0.out _ ?_).mono ?_); (first | exact hbl.out | exact HBD.out); rintro e w' ⟨rfl, rfl⟩)
        | (go_at_call 46; (with_reducible refine (c1.out _ ?_).mono ?_); (first | exact hbl.out | exact HBD.out); rintro e w' ⟨rfl, rfl⟩)
        | (go_at_call 46; (with_reducible refine (c2.out _ ?_).mono ?_); (first | exact hbl.out | exact HBD.out); rintro e w' ⟨rfl, rfl⟩)
        | (go_at_call 46; (with_reducible refine (c3.out _ ?_).mono ?_); (exact rfl); rintro e w' ⟨rfl, rfl⟩))
      all_goals go_wp2
      all_goals go_ret
      all_goals exact ⟨rfl, HBD.out⟩
end Go.Proofs.Ytojhhcfpnbdobaa
