import Derived.Test.YtfploeefmnbpcaaGreatG01
import Derived.OpenShut
import Derived.BigQuiet
import Derived.Deep.QuietTactic
import Derived.Maps.RangeWalk
import Derived.Maps.OwnSet
import Derived.Sort.MapsRangeIn
import Derived.WideKeyEntry
import Derived.Lib.Hide
/- The reference's Of: the bits of bytes. -/
namespace Go.Proofs.YtfploeefmnbpcaaGreat
open Go.RowKit

theorem own_below {w w' : World} {B C : Nat} {e : TypeId} {size n : Nat} {v : Value} {xs : List Value} (h : w.ownsRow B e size v n xs) (hb : Below C w w') (hC : w.heap.size ≤ C) : w'.ownsRow B e size v n xs := by
  obtain ⟨h1, h2⟩ := h
  refine ⟨h1, ?_⟩
  rcases h2 with h2 | ⟨g, cap, cur, hv, hg, hh, r⟩
  · exact .inl h2
  · have hlt : g < w.heap.size := by
      rcases Nat.lt_or_ge g w.heap.size with h | h
      · exact h
      · rw [Array.getElem?_eq_none (by omega)] at hh; cases hh
    exact .inr ⟨g, cap, cur, hv, hg, (hb.block g (by omega)).trans hh, r⟩

theorem ofN_take (bs : List Nat) (k : Nat) (h : k < bs.length) : M.ofN (bs.take (k + 1)) = M.ofN (bs.take k) ++ M.bitsOf (bs[k]) 8 := by
  rw [List.take_succ_eq_append_getElem h, M.ofN_snoc]

theorem bools_one (l : List Bool) : ∀ x ∈ l.map Value.bool, Value.oneCell' x = true := by
  intro x hx
  obtain ⟨y, _, rfl⟩ := List.mem_map.1 hx
  rfl

end Go.Proofs.YtfploeefmnbpcaaGreat

/- The reference's sets of dies. -/
namespace Go.Proofs.YtfploeefmnbpcaaGreat
open Go.RowKit

theorem Tryz.infoInt : (Tryz.prog.info? 3).map (fun i => (i.zero, i.size, i.bytes)) = some (some (.int .i64 0), 1, 8) := by kernel_rfl

def inB (m d : Nat) : Bool := m / 2 ^ d % 2 == 1
/-- The first k dies that are in the set m. -/
def diesK (m k : Nat) : List Nat := (List.range k).filter fun d => inB m d
/-- The dies of a set; of another number none. -/
def diesS (m : Int) : List Nat := if 0 ≤ m ∧ m ≤ 255 then diesK m.toNat 8 else []
def i64s (l : List Nat) : List Value := l.map fun (x : Nat) => Value.int .i64 (x : Int)
theorem i64s_length (l : List Nat) : (i64s l).length = l.length := by simp [i64s]
theorem i64s_snoc (l : List Nat) (x : Nat) : i64s l ++ [Value.int .i64 (x : Int)] = i64s (l ++ [x]) := by simp [i64s]

theorem diesK_yes (m k : Nat) (h : inB m k = true) : diesK m (k + 1) = diesK m k ++ [k] := by
  unfold diesK; rw [List.range_succ, List.filter_append]; simp [h]
theorem diesK_no (m k : Nat) (h : inB m k = false) : diesK m (k + 1) = diesK m k := by
  unfold diesK; rw [List.range_succ, List.filter_append]; simp [h]
theorem diesK_length (m k : Nat) : (diesK m k).length ≤ k := by
  have := List.length_filter_le (fun d => inB m d) (List.range k)
  rwa [List.length_range] at this

theorem inB_int (m d : Nat) : ((m : Int) / P2 d % 2 == 1) = inB m d := by
  unfold inB P2
  rw [← Int.natCast_ediv, Bool.eq_iff_iff]
  simp only [beq_iff_eq]; omega
theorem P2_small {d : Nat} (hd : d < 8) : P2 d ≤ 128 := by
  have h2 : 2 ^ d ≤ 2 ^ 7 := Nat.pow_le_pow_right (n := 2) (by omega) (by omega)
  unfold P2; omega

set_option maxRecDepth 100000 in
set_option maxHeartbeats 1000000 in
theorem rdies_any (m : Int) (w : World) :
    Calls Tryz.prog 56 #[.int .i64 m] w fun e w' => ∃ v, e = .returned v ∧ w'.ownsRow w.heap.size 3 1 v (diesS m).length (i64s (diesS m)) ∧ Below w.heap.size w w' := by
  obtain ⟨i0, hi, hz0, hz1, hz2⟩ := info_parts Tryz.infoInt
  by_cases c1 : 0 ≤ m
  · by_cases c2 : m ≤ 255
    · obtain ⟨M, rfl⟩ : ∃ M : Nat, m = M := ⟨m.toNat, by omega⟩
      obtain ⟨B, hB⟩ : ∃ B, w.heap.size = B := ⟨_, rfl⟩
      rw [hB]
      go_enter Tryz.func56, Tryz.ntmps56
      go_wp2
      go_loopw [3, 4] (fun v i wr => ∃ k : Nat, k ≤ 8 ∧ i = .int .i64 k ∧ wr.ownsRow B 3 1 v (diesK M k).length (i64s (diesK M k)) ∧ Below B w wr) (fun _ i _ => (8 - intOf i).toNat)
      case atStart => exact ⟨0, Nat.zero_le _, rfl, World.ownsRow_nil _ _ _ _, Below.refl _ _⟩
      case round =>
        obtain ⟨k, hk, rfl, hown, hbl⟩ := hrel
        by_cases hlt : k < 8
        · have hp1 := P2_pos k
          have hp2 := P2_small hlt
          have hq0 : 0 ≤ (M : Int) / P2 k := Int.ediv_nonneg (by omega) (by omega)
          have hq1 : (M : Int) / P2 k ≤ 255 := by have := Int.ediv_le_self (P2 k) (show 0 ≤ (M : Int) by omega); omega
          have hbit := inB_int M k
          have hdl := diesK_length M k
          by_cases hx : inB M k = true
          · rw [hx] at hbit
            have HX := Lib.hid hx
            clear hx
            have hc3 : Hid ((diesK M k).length + 1 ≤ maxLen) := by show _ ≤ _; unfold maxLen; omega
            have hc5 : Hid (B ≤ (wr.alloc (.cells #[.int .i64 (k : Int)] 3)).heap.size) := by show _ ≤ _; have := hbl.size; simp; omega
            go_wp2_with (first
              | (go_at_call 57; refine (pow_nat k _ (by omega)).mono ?_; rintro e w' ⟨rfl, rfl⟩)
              | (at_builtin; refine wpList_append_own _ rfl _ _ 22 rfl B 3 i0 (.int .i64 0) 1 8 Tryz.underlying22 hi hz0 hz1 hz2 rfl (by decide) _ _ _ rfl (hown.alloc _) ⟨wr.heap.size, 0, none⟩ 1 1 [.int .i64 (k : Int)] rfl rfl (one_new _ _ _) (one_int _ _) hc3.out (by omega) hc5.out ?_))
            intro v' w' hown' hgrow _
            have hown2 : w'.ownsRow B 3 1 v' (diesK M (k + 1)).length (i64s (diesK M (k + 1))) := by
              rw [diesK_yes M k HX.out, ← i64s_snoc, List.length_append]; exact hown'
            have hbl2 : Below B w w' := below_push hbl (by have := hbl.size; omega) hown hgrow
            clear hown' hgrow hown hbl
            go_wp2
            go_roundw
            case rel => exact ⟨k + 1, by omega, by go_num, hown2, hbl2⟩
            case measure => simp [intOf]; omega
          · have hx2 : inB M k = false := by simpa using hx
            rw [hx2] at hbit
            have HX := Lib.hid hx2
            clear hx hx2
            go_wp2_with (go_at_call 57; refine (pow_nat k _ (by omega)).mono ?_; rintro e w' ⟨rfl, rfl⟩)
            go_roundw
            case rel => exact ⟨k + 1, by omega, by go_num, by rw [diesK_no M k HX.out]; exact hown, hbl⟩
            case measure => simp [intOf]; omega
        · obtain rfl : k = 8 := by omega
          have hs : diesS (M : Int) = diesK M 8 := by unfold diesS; rw [if_pos ⟨c1, c2⟩, Int.toNat_natCast]
          have HS := Lib.hid hs
          clear hs
          go_wp2
          go_ret
          exact ⟨_, rfl, by rw [HS.out]; exact hown, hbl⟩
    · have hs : diesS m = [] := if_neg (by omega)
      have HS := Lib.hid hs
      have hb : decide (m ≤ 255) = false := by simp; omega
      clear hs
      go_enter Tryz.func56, Tryz.ntmps56
      go_wp2
      refine wp_loop_rounds 1 ?_
      rw [rounds_succ]
      go_wp2
      go_ret
      exact ⟨_, rfl, by rw [HS.out]; exact World.ownsRow_nil _ _ _ _, Below.refl _ _⟩
  · have hs : diesS m = [] := if_neg (by omega)
    have HS := Lib.hid hs
    have hb : decide (0 ≤ m) = false := by simp; omega
    clear hs
    go_enter Tryz.func56, Tryz.ntmps56
    go_wp2
    refine wp_loop_rounds 1 ?_
    rw [rounds_succ]
    go_wp2
    go_ret
    exact ⟨_, rfl, by rw [HS.out]; exact World.ownsRow_nil _ _ _ _, Below.refl _ _⟩

/-- Where a die stands among them, counted from k; -1. -/
def spotFrom : List Nat → Int → Nat → Int
  | [], _, _ => -1
  | x :: l, d, k => if (x : Int) = d then (k : Int) else spotFrom l d (k + 1)
def spotS (m d : Int) : Int := spotFrom (diesS m) d 0

theorem diesS_length (m : Int) : (diesS m).length ≤ 8 := by
  unfold diesS; split
  · exact diesK_length _ _
  · simp

set_option maxRecDepth 100000 in
set_option maxHeartbeats 1000000 in
theorem rspot_any (m d : Int) (w : World) :
    Calls Tryz.prog 29 #[.int .i64 m, .int .i64 d] w fun e w' => e = .returned (.int .i64 (spotS m d)) ∧ Below w.heap.size w w' := by
  go_enter Tryz.func29, Tryz.ntmps29
  go_wp2_with fail
  refine (rdies_any m _).mono ?_
  rintro e w1 ⟨v, rfl, hown, hbl⟩
  obtain ⟨l, hl⟩ : ∃ l, diesS m = l := ⟨_, rfl⟩
  have hl8 := diesS_length m
  rw [hl] at hown hl8
  have hS : spotS m d = spotFrom l d 0 := by unfold spotS; rw [hl]
  have HS := Lib.hid hS
  have HB := Lib.hid hbl
  obtain ⟨a, cap, rfl, hle, hhold⟩ := reads_of_own hown
  have HH := Lib.hid hhold
  rw [i64s_length] at hle ⊢
  obtain ⟨n, hn⟩ : ∃ n, l.length = n := ⟨_, rfl⟩
  rw [hn] at hl8 hle ⊢
  have HN := Lib.hid hn
  clear hl hS hbl hown hhold hn
  go_wp2
  go_loop [6] (fun i => ∃ k : Nat, k ≤ n ∧ i = .int .i64 k ∧ Hid (spotFrom (l.drop k) d k = spotFrom l d 0)) (fun i => (n - intOf i).toNat)
  case atStart => exact ⟨0, Nat.zero_le _, rfl, rfl⟩
  case round =>
    obtain ⟨k, hk, rfl, hsp⟩ := hrel
    by_cases hlt : k < n
    · have hkl : k < l.length := by rw [HN.out]; exact hlt
      obtain ⟨b, off, rfl, hc⟩ := HH.out k (.int .i64 (l[k] : Nat)) (by unfold i64s; rw [List.getElem?_map, List.getElem?_eq_getElem hkl]; rfl)
      have hdr : l.drop k = l[k] :: l.drop (k + 1) := List.drop_eq_getElem_cons hkl
      have h1 := hsp.out
      rw [hdr] at h1
      generalize l[k] = x at hc h1
      by_cases hx : (x : Int) = d
      · have hb : ((x : Int) == d) = true := by simpa using hx
        rw [spotFrom, if_pos hx] at h1
        have H1 := Lib.hid h1
        clear hx h1 hdr
        go_wp2
        go_ret
        exact ⟨ret_int (by rw [HS.out]; exact H1.out), HB.out⟩
      · have hb : ((x : Int) == d) = false := by simpa using hx
        rw [spotFrom, if_neg hx] at h1
        have H1 := Lib.hid h1
        clear hx h1 hdr
        go_wp2
        go_round
        case rel => exact ⟨k + 1, by omega, by go_num, H1⟩
        case measure => simp [intOf]; omega
    · go_wp2
      go_ret
      refine ⟨ret_int ?_, HB.out⟩
      have h1 := hsp.out
      rw [List.drop_eq_nil_of_le (by rw [HN.out]; omega)] at h1
      rw [HS.out]; exact h1
end Go.Proofs.YtfploeefmnbpcaaGreat

/- Sets of dies: numbers. No Go text here. -/
namespace Go.Proofs.YtfploeefmnbpcaaGreat
open Go.RowKit
namespace M

def withN (m d : Nat) : Nat := if inB m d then m else m + 2 ^ d
def withoutN (m d : Nat) : Nat := if inB m d then m - 2 ^ d else m
/-- How many dies a set has. -/
def popN (m : Nat) : Nat := (diesK m 8).length
/-- Which die stands at a place. -/
def atN (m k : Nat) : Nat := (diesK m 8).getD k 0

theorem fin2 {P : Nat → Nat → Prop} (h : ∀ m : Fin 256, ∀ d : Fin 8, P m.val d.val) {m d : Nat} (hm : m < 256) (hd : d < 8) : P m d := h ⟨m, hm⟩ ⟨d, hd⟩
theorem fin1 {P : Nat → Prop} (h : ∀ m : Fin 256, P m.val) {m : Nat} (hm : m < 256) : P m := h ⟨m, hm⟩

theorem or_tab : ∀ m : Fin 256, ∀ d : Fin 8, bits BinOp.or IntKind.i64 ((m.val : Nat) : Int) ((2 ^ d.val : Nat) : Int) = ((withN m.val d.val : Nat) : Int) := by decide +kernel
theorem andNot_tab : ∀ m : Fin 256, ∀ d : Fin 8, bits BinOp.andNot IntKind.i64 ((m.val : Nat) : Int) ((2 ^ d.val : Nat) : Int) = ((withoutN m.val d.val : Nat) : Int) := by decide +kernel
theorem has_tab : ∀ m : Fin 256, ∀ d : Fin 8, bits BinOp.and IntKind.i64 ((m.val / 2 ^ d.val : Nat) : Int) 1 = (((inB m.val d.val).toNat : Nat) : Int) := by decide +kernel
theorem and1_tab : ∀ m : Fin 256, bits BinOp.and IntKind.i64 ((m.val : Nat) : Int) 1 = ((m.val % 2 : Nat) : Int) := by decide +kernel
theorem low_tab : ∀ m : Fin 256, ∀ d : Fin 8, bits BinOp.and IntKind.i64 ((m.val : Nat) : Int) ((2 ^ d.val - 1 : Nat) : Int) = ((m.val % 2 ^ d.val : Nat) : Int) := by decide +kernel
theorem spot_tab : ∀ m : Fin 256, ∀ d : Fin 8, spotFrom (diesK m.val 8) ((d.val : Nat) : Int) 0 = if inB m.val d.val then ((popN (m.val % 2 ^ d.val) : Nat) : Int) else -1 := by decide +kernel
theorem pop_tab : ∀ m : Fin 256, popN m.val = m.val % 2 + popN (m.val / 2) := by decide +kernel
theorem at_tab : ∀ m : Fin 256, ∀ k : Fin 8, k.val < popN m.val → inB m.val (atN m.val k.val) = true ∧ atN m.val k.val < 8 ∧ spotFrom (diesK m.val 8) ((atN m.val k.val : Nat) : Int) 0 = ((k.val : Nat) : Int) := by decide +kernel
theorem without_tab : ∀ m : Fin 256, ∀ d : Fin 8, withoutN m.val d.val < 256 ∧ withN m.val d.val < 256 ∧ (inB m.val d.val = true → inB (withoutN m.val d.val) d.val = false ∧ withN (withoutN m.val d.val) d.val = m.val) := by decide +kernel
theorem pop_with_tab : ∀ m : Fin 256, ∀ d : Fin 8, popN (withN m.val d.val) ≤ popN m.val + 1 := by decide +kernel
theorem in_with_tab : ∀ m : Fin 256, ∀ d : Fin 8, ∀ e : Fin 8, inB (withN m.val d.val) e.val = (inB m.val e.val || d.val == e.val) := by decide +kernel
theorem sum_tab : ∀ m : Fin 256, m.val = (inB m.val 0).toNat + 2 * (inB m.val 1).toNat + 4 * (inB m.val 2).toNat + 8 * (inB m.val 3).toNat + 16 * (inB m.val 4).toNat + 32 * (inB m.val 5).toNat + 64 * (inB m.val 6).toNat + 128 * (inB m.val 7).toNat := by decide +kernel
theorem fold_tab : ∀ m : Fin 256, (diesK m.val 8).foldl withN 0 = m.val := by decide +kernel
/-- The k-th die of a set, met by going up. -/
theorem up_tab : ∀ m : Fin 256, ∀ d : Fin 8, inB m.val d.val = true → atN m.val ((diesK m.val d.val).length) = d.val ∧ (diesK m.val d.val).length < popN m.val := by decide +kernel
theorem end_tab : ∀ m : Fin 256, ∀ d : Fin 8, m.val / 2 ^ d.val = 0 → (diesK m.val d.val).length = popN m.val := by decide +kernel

theorem same_set {a b : Nat} (ha : a < 256) (hb : b < 256) (h : ∀ e, e < 8 → inB a e = inB b e) : a = b := by
  have e1 := sum_tab ⟨a, ha⟩
  have e2 := sum_tab ⟨b, hb⟩
  simp only at e1 e2
  rw [h 0 (by omega), h 1 (by omega), h 2 (by omega), h 3 (by omega), h 4 (by omega), h 5 (by omega), h 6 (by omega), h 7 (by omega), ← e2] at e1
  exact e1

/-- Dies, one by one. -/
def foldW (l : List Nat) : Nat := l.foldl withN 0
theorem foldW_snoc (l : List Nat) (d : Nat) : foldW (l ++ [d]) = withN (foldW l) d := by unfold foldW; rw [List.foldl_append]; rfl
theorem foldW_all (l : List Nat) (h : ∀ x ∈ l, x < 8) : foldW l < 256 ∧ popN (foldW l) ≤ l.length ∧ ∀ e, e < 8 → inB (foldW l) e = l.contains e := by
  revert h
  refine snoc_ind (P := fun l => (∀ x ∈ l, x < 8) → foldW l < 256 ∧ popN (foldW l) ≤ l.length ∧ ∀ e, e < 8 → inB (foldW l) e = l.contains e) ?_ ?_ l
  · intro _
    refine ⟨by decide, by decide, fun e _ => ?_⟩
    show inB 0 e = false
    unfold inB; rw [Nat.zero_div]; rfl
  · intro l d ih h
    obtain ⟨h1, h2, h3⟩ := ih fun x hx => h x (by simp [hx])
    have hd : d < 8 := h d (by simp)
    rw [foldW_snoc]
    refine ⟨(without_tab ⟨_, h1⟩ ⟨d, hd⟩).2.1, ?_, fun e he => ?_⟩
    · have := pop_with_tab ⟨_, h1⟩ ⟨d, hd⟩
      simp only [List.length_append, List.length_singleton] at this ⊢; omega
    · have := in_with_tab ⟨_, h1⟩ ⟨d, hd⟩ ⟨e, he⟩
      simp only at this
      rw [this, h3 e he]
      simp only [List.contains_eq_any_beq, List.any_append, List.any_cons, List.any_nil, Bool.or_false]
      congr 1
      rw [Bool.eq_iff_iff]; simp; exact ⟨fun h => h.symm, fun h => h.symm⟩
theorem foldW_zero (l : List Nat) (h : ∀ x ∈ l, x < 8) : (foldW l = 0) ↔ l = [] := by
  constructor
  · intro h0
    cases l with
    | nil => rfl
    | cons d l =>
      have := (foldW_all (d :: l) h).2.2 d (h d (by simp))
      rw [h0] at this
      have e : inB 0 d = false := by unfold inB; rw [Nat.zero_div]; rfl
      rw [e] at this
      simp at this
  · rintro rfl; rfl
/-- Turned round, the same dies. -/
def wheelL (l : List Nat) (r k : Nat) : List Nat := (List.range k).map fun i => l.getD ((i + r) % l.length) 0
theorem wheelL_succ (l : List Nat) (r k : Nat) : wheelL l r (k + 1) = wheelL l r k ++ [l.getD ((k + r) % l.length) 0] := by
  unfold wheelL; rw [List.range_succ, List.map_append, List.map_singleton]
theorem getD_lt8 (l : List Nat) (h : ∀ x ∈ l, x < 8) (i : Nat) : l.getD i 0 < 8 := by
  by_cases hi : i < l.length
  · simp only [List.getD, List.getElem?_eq_getElem hi, Option.getD_some]; exact h _ (List.getElem_mem hi)
  · simp only [List.getD, List.getElem?_eq_none (Nat.le_of_not_lt hi)]; decide
theorem wheelL_lt (l : List Nat) (h : ∀ x ∈ l, x < 8) (r k : Nat) : ∀ x ∈ wheelL l r k, x < 8 := by
  intro x hx
  obtain ⟨i, _, rfl⟩ := List.mem_map.1 hx
  exact getD_lt8 l h _
theorem turn_same (l : List Nat) (h : ∀ x ∈ l, x < 8) (r : Nat) (hr : r < l.length ∨ l.length = 0) : foldW (wheelL l r l.length) = foldW l := by
  obtain ⟨a1, _, a3⟩ := foldW_all l h
  obtain ⟨b1, _, b3⟩ := foldW_all _ (wheelL_lt l h r l.length)
  refine same_set b1 a1 fun e he => ?_
  rw [a3 e he, b3 e he, Bool.eq_iff_iff, List.contains_iff_mem, List.contains_iff_mem]
  constructor
  · intro hm
    obtain ⟨i, hi, rfl⟩ := List.mem_map.1 hm
    have hi := List.mem_range.1 hi
    have hlt : (i + r) % l.length < l.length := Nat.mod_lt _ (by omega)
    simp only [List.getD, List.getElem?_eq_getElem hlt, Option.getD_some]
    exact List.getElem_mem hlt
  · intro hm
    obtain ⟨j, hj, rfl⟩ := List.mem_iff_getElem.1 hm
    have hr : r < l.length := by omega
    refine List.mem_map.2 ⟨(j + (l.length - r)) % l.length, List.mem_range.2 (Nat.mod_lt _ (by omega)), ?_⟩
    have e : ((j + (l.length - r)) % l.length + r) % l.length = j := by
      rw [Nat.mod_add_mod, show j + (l.length - r) + r = j + l.length by omega, Nat.add_mod_right, Nat.mod_eq_of_lt hj]
    rw [e]
    simp only [List.getD, List.getElem?_eq_getElem hj, Option.getD_some]
end M
end Go.Proofs.YtfploeefmnbpcaaGreat

/- Package lane: what each call answers. -/
namespace Go.Proofs.YtfploeefmnbpcaaGreat
open Go.RowKit

theorem isSet_yes (m : Int) (w : World) (h1 : 0 ≤ m) (h2 : m ≤ 255) : Calls Tryz.prog 70 #[.int .i64 m] w fun e w' => e = .returned (.bool true) ∧ w = w' := by
  have hd : (m / 256 == 0) = true := by simp; omega
  go_enter Tryz.func70, Tryz.ntmps70
  go_wp2
  go_ret
  exact ⟨rfl, rfl⟩
theorem isSet_no (m : Int) (w : World) (h : m < 0 ∨ 255 < m) : Calls Tryz.prog 70 #[.int .i64 m] w fun e w' => e = .returned (.bool false) ∧ w = w' := by
  have hd : (m / 256 == 0) = false := by simp; omega
  go_enter Tryz.func70, Tryz.ntmps70
  go_wp2
  go_ret
  exact ⟨rfl, rfl⟩
theorem isDie_yes (d : Int) (w : World) (h1 : 0 ≤ d) (h2 : d < 8) : Calls Tryz.prog 71 #[.int .i64 d] w fun e w' => e = .returned (.bool true) ∧ w = w' := by
  go_enter Tryz.func71, Tryz.ntmps71
  go_wp2
  go_ret
  exact ⟨rfl, rfl⟩
theorem isDie_low (d : Int) (w : World) (h : d < 0) : Calls Tryz.prog 71 #[.int .i64 d] w fun e w' => e = .returned (.bool false) ∧ w = w' := by
  have hb : decide (0 ≤ d) = false := by simp; omega
  go_enter Tryz.func71, Tryz.ntmps71
  go_wp2
  go_ret
  exact ⟨rfl, rfl⟩
theorem isDie_high (d : Int) (w : World) (h : 7 < d) : Calls Tryz.prog 71 #[.int .i64 d] w fun e w' => e = .returned (.bool false) ∧ w = w' := by
  have hb : decide (d < 8) = false := by simp; omega
  have h0 : 0 ≤ d := by omega
  go_enter Tryz.func71, Tryz.ntmps71
  go_wp2
  go_ret
  exact ⟨rfl, rfl⟩
theorem isDie_no (d : Int) (w : World) (h : d < 0 ∨ 7 < d) : Calls Tryz.prog 71 #[.int .i64 d] w fun e w' => e = .returned (.bool false) ∧ w = w' := by
  rcases h with h | h
  · exact isDie_low d w h
  · exact isDie_high d w h

theorem all_no (d : Int) (w : World) (h : d < 0 ∨ 8 < d) : Calls Tryz.prog 118 #[.int .i64 d] w fun e w' => e = .returned (.int .i64 0) ∧ w = w' := by
  by_cases h0 : d < 0
  · go_enter Tryz.func118, Tryz.ntmps118
    go_wp2
    go_ret
    exact ⟨rfl, rfl⟩
  · have h8 : 8 < d := by omega
    go_enter Tryz.func118, Tryz.ntmps118
    go_wp2
    go_ret
    exact ⟨rfl, rfl⟩
theorem wrap_pow {d : Nat} (h : d ≤ 8) : wrap64 ((2 : Int) ^ d) = ((2 ^ d : Nat) : Int) := by
  have : ∀ d : Fin 9, wrap64 ((2 : Int) ^ d.val) = ((2 ^ d.val : Nat) : Int) := by decide +kernel
  exact this ⟨d, by omega⟩
theorem wrap_all {d : Nat} (h : d ≤ 8) : wrap64 (wrap64 ((2 : Int) ^ d) - 1) = ((2 ^ d - 1 : Nat) : Int) := by
  have : ∀ d : Fin 9, wrap64 (wrap64 ((2 : Int) ^ d.val) - 1) = ((2 ^ d.val - 1 : Nat) : Int) := by decide +kernel
  exact this ⟨d, by omega⟩
theorem all_yes (d : Nat) (w : World) (h : d ≤ 8) : Calls Tryz.prog 118 #[.int .i64 d] w fun e w' => e = .returned (.int .i64 ((2 ^ d - 1 : Nat) : Int)) ∧ w = w' := by
  go_enter Tryz.func118, Tryz.ntmps118
  go_wp2
  go_ret
  exact ⟨ret_int (wrap_all h), rfl⟩
theorem has_yes (m d : Nat) (w : World) (hm : m < 256) (hd : d < 8) : Calls Tryz.prog 120 #[.int .i64 m, .int .i64 d] w fun e w' => e = .returned (.bool (inB m d)) ∧ w = w' := by
  go_enter Tryz.func120, Tryz.ntmps120
  go_wp2_with (first
    | (go_at_call 70; refine (isSet_yes _ _ (by omega) (by omega)).mono ?_; rintro e w' ⟨rfl, rfl⟩)
    | (go_at_call 71; refine (isDie_yes _ _ (by omega) (by omega)).mono ?_; rintro e w' ⟨rfl, rfl⟩))
  go_ret
  have h := M.has_tab ⟨m, hm⟩ ⟨d, hd⟩
  simp only [Int.natCast_ediv, Int.natCast_pow, Int.cast_ofNat_Int] at h
  refine ⟨?_, rfl⟩
  rw [h]
  cases inB m d <;> rfl
theorem has_no (m d : Int) (w : World) (h : m < 0 ∨ 255 < m ∨ d < 0 ∨ 7 < d) : Calls Tryz.prog 120 #[.int .i64 m, .int .i64 d] w fun e w' => e = .returned (.bool false) ∧ w = w' := by
  by_cases hm : m < 0 ∨ 255 < m
  · go_enter Tryz.func120, Tryz.ntmps120
    go_wp2_with (go_at_call 70; refine (isSet_no _ _ hm).mono ?_; rintro e w' ⟨rfl, rfl⟩)
    go_ret
    exact ⟨rfl, rfl⟩
  · have hd : d < 0 ∨ 7 < d := by omega
    have h1 : 0 ≤ m := by omega
    have h2 : m ≤ 255 := by omega
    clear hm h
    go_enter Tryz.func120, Tryz.ntmps120
    go_wp2_with (first
      | (go_at_call 70; refine (isSet_yes _ _ h1 h2).mono ?_; rintro e w' ⟨rfl, rfl⟩)
      | (go_at_call 71; refine (isDie_no _ _ hd).mono ?_; rintro e w' ⟨rfl, rfl⟩))
    go_ret
    exact ⟨rfl, rfl⟩
theorem with_yes (m d : Nat) (w : World) (hm : m < 256) (hd : d < 8) : Calls Tryz.prog 60 #[.int .i64 m, .int .i64 d] w fun e w' => e = .returned (.int .i64 (M.withN m d : Nat)) ∧ w = w' := by
  go_enter Tryz.func60, Tryz.ntmps60
  go_wp2_with (first
    | (go_at_call 70; refine (isSet_yes _ _ (by omega) (by omega)).mono ?_; rintro e w' ⟨rfl, rfl⟩)
    | (go_at_call 71; refine (isDie_yes _ _ (by omega) (by omega)).mono ?_; rintro e w' ⟨rfl, rfl⟩))
  go_ret
  exact ⟨ret_int (by rw [wrap_pow (by omega)]; exact M.or_tab ⟨m, hm⟩ ⟨d, hd⟩), rfl⟩
theorem with_set (m d : Int) (w : World) (hm : m < 0 ∨ 255 < m) : Calls Tryz.prog 60 #[.int .i64 m, .int .i64 d] w fun e w' => e = .returned (.int .i64 0) ∧ w = w' := by
  go_enter Tryz.func60, Tryz.ntmps60
  go_wp2_with (go_at_call 70; refine (isSet_no _ _ hm).mono ?_; rintro e w' ⟨rfl, rfl⟩)
  go_ret
  exact ⟨rfl, rfl⟩
theorem with_die (m d : Int) (w : World) (h1 : 0 ≤ m) (h2 : m ≤ 255) (hd : d < 0 ∨ 7 < d) : Calls Tryz.prog 60 #[.int .i64 m, .int .i64 d] w fun e w' => e = .returned (.int .i64 m) ∧ w = w' := by
  go_enter Tryz.func60, Tryz.ntmps60
  go_wp2_with (first
    | (go_at_call 70; refine (isSet_yes _ _ h1 h2).mono ?_; rintro e w' ⟨rfl, rfl⟩)
    | (go_at_call 71; refine (isDie_no _ _ hd).mono ?_; rintro e w' ⟨rfl, rfl⟩))
  go_ret
  exact ⟨rfl, rfl⟩
theorem without_yes (m d : Nat) (w : World) (hm : m < 256) (hd : d < 8) : Calls Tryz.prog 119 #[.int .i64 m, .int .i64 d] w fun e w' => e = .returned (.int .i64 (M.withoutN m d : Nat)) ∧ w = w' := by
  go_enter Tryz.func119, Tryz.ntmps119
  go_wp2_with (first
    | (go_at_call 70; refine (isSet_yes _ _ (by omega) (by omega)).mono ?_; rintro e w' ⟨rfl, rfl⟩)
    | (go_at_call 71; refine (isDie_yes _ _ (by omega) (by omega)).mono ?_; rintro e w' ⟨rfl, rfl⟩))
  go_ret
  exact ⟨ret_int (by rw [wrap_pow (by omega)]; exact M.andNot_tab ⟨m, hm⟩ ⟨d, hd⟩), rfl⟩
theorem without_set (m d : Int) (w : World) (hm : m < 0 ∨ 255 < m) : Calls Tryz.prog 119 #[.int .i64 m, .int .i64 d] w fun e w' => e = .returned (.int .i64 0) ∧ w = w' := by
  go_enter Tryz.func119, Tryz.ntmps119
  go_wp2_with (go_at_call 70; refine (isSet_no _ _ hm).mono ?_; rintro e w' ⟨rfl, rfl⟩)
  go_ret
  exact ⟨rfl, rfl⟩
theorem without_die (m d : Int) (w : World) (h1 : 0 ≤ m) (h2 : m ≤ 255) (hd : d < 0 ∨ 7 < d) : Calls Tryz.prog 119 #[.int .i64 m, .int .i64 d] w fun e w' => e = .returned (.int .i64 m) ∧ w = w' := by
  go_enter Tryz.func119, Tryz.ntmps119
  go_wp2_with (first
    | (go_at_call 70; refine (isSet_yes _ _ h1 h2).mono ?_; rintro e w' ⟨rfl, rfl⟩)
    | (go_at_call 71; refine (isDie_no _ _ hd).mono ?_; rintro e w' ⟨rfl, rfl⟩))
  go_ret
  exact ⟨rfl, rfl⟩
theorem count_no (m : Int) (w : World) (hm : m < 0 ∨ 255 < m) : Calls Tryz.prog 96 #[.int .i64 m] w fun e w' => e = .returned (.int .i64 0) ∧ w = w' := by
  go_enter Tryz.func96, Tryz.ntmps96
  go_wp2_with (go_at_call 70; refine (isSet_no _ _ hm).mono ?_; rintro e w' ⟨rfl, rfl⟩)
  go_ret
  exact ⟨rfl, rfl⟩
theorem count_yes (m : Nat) (w : World) (hm : m < 256) : Calls Tryz.prog 96 #[.int .i64 m] w fun e w' => e = .returned (.int .i64 (M.popN m : Nat)) ∧ w = w' := by
  go_enter Tryz.func96, Tryz.ntmps96
  go_wp2_with (go_at_call 70; refine (isSet_yes _ _ (by omega) (by omega)).mono ?_; rintro e w' ⟨rfl, rfl⟩)
  go_loop [0, 3] (fun x n => ∃ a s : Nat, a < 256 ∧ s ≤ 8 ∧ x = .int .i64 a ∧ n = .int .i64 s ∧ Hid (s + M.popN a = M.popN m)) (fun x _ => (intOf x).toNat)
  case atStart => exact ⟨m, 0, hm, by omega, rfl, rfl, by show _ = _; omega⟩
  case round =>
    obtain ⟨a, s, ha, hs, rfl, rfl, hsum⟩ := hrel
    by_cases h0 : a = 0
    · subst h0
      have h := hsum.out
      have hp : M.popN 0 = 0 := by decide
      rw [hp] at h
      have H := Lib.hid h
      clear h hp
      go_wp2
      go_ret
      exact ⟨ret_int (by have := H.out; omega), rfl⟩
    · have hne : ((a : Int) != 0) = true := by simp; omega
      have hand := M.and1_tab ⟨a, ha⟩
      simp only at hand
      have hpop := M.pop_tab ⟨a, ha⟩
      have hle : (M.popN m) ≤ 8 := diesK_length m 8
      have h := hsum.out
      have hb : a % 2 ≤ 1 := by omega
      have ha0 : 0 < a := by omega
      simp only at hpop
      have hs8 : s + a % 2 ≤ 8 := by omega
      have H := Lib.hid (show s + a % 2 + M.popN (a / 2) = M.popN m by omega)
      clear hpop hle h hsum h0
      go_wp2
      go_round
      case rel => exact ⟨a / 2, s + a % 2, by omega, hs8, by go_num, by go_num, H⟩
      case measure => simp [intOf]; omega
theorem at_yes (m k : Nat) (w : World) (hm : m < 256) (hk : k < M.popN m) : Calls Tryz.prog 97 #[.int .i64 m, .int .i64 k] w fun e w' => e = .returned (.int .i64 (M.atN m k : Nat)) ∧ w = w' := by
  have hk8 : k < 8 := Nat.lt_of_lt_of_le hk (diesK_length m 8)
  have HK := Lib.hid hk
  clear hk
  go_enter Tryz.func97, Tryz.ntmps97
  go_wp2_with (go_at_call 70; refine (isSet_yes _ _ (by omega) (by omega)).mono ?_; rintro e w' ⟨rfl, rfl⟩)
  go_loop [1, 5] (fun x n => ∃ d c : Nat, d < 8 ∧ c ≤ k ∧ Hid ((diesK m d).length = c) ∧ x = .int .i64 ((k : Int) - c) ∧ n = .int .i64 d) (fun _ n => (8 - intOf n).toNat)
  case atStart => exact ⟨0, 0, by omega, by omega, rfl, by rw [show (k : Int) - (0 : Nat) = k by omega], rfl⟩
  case round =>
    obtain ⟨d, c, hd, hck, hc, rfl, rfl⟩ := hrel
    have hne : ((m : Int) / 2 ^ d != 0) = true := by
      have h := M.end_tab ⟨m, hm⟩ ⟨d, hd⟩
      simp only at h
      have h0 : m / 2 ^ d ≠ 0 := fun h0 => by have := h h0; have := HK.out; have := hc.out; omega
      rw [show ((m : Int) / 2 ^ d) = ((m / 2 ^ d : Nat) : Int) by simp]
      simp only [bne_iff_ne]; omega
    have hand := M.has_tab ⟨m, hm⟩ ⟨d, hd⟩
    simp only [Int.natCast_ediv, Int.natCast_pow, Int.cast_ofNat_Int] at hand
    cases hx : inB m d with
    | false =>
      rw [hx] at hand
      simp only [Bool.toNat_false] at hand
      have hc2 : (diesK m (d + 1)).length = c := by rw [diesK_no m d hx]; exact hc.out
      have hd8 : d + 1 < 8 := by
        rcases Nat.lt_or_ge (d + 1) 8 with h | h
        · exact h
        · exfalso
          obtain rfl : d = 7 := by omega
          have : M.popN m = c := hc2
          have := HK.out; omega
      have HC2 := Lib.hid hc2
      clear hx hc2 hc
      go_wp2
      go_round
      case rel => exact ⟨d + 1, c, hd8, hck, HC2, rfl, by go_num⟩
      case measure => simp [intOf]; omega
    | true =>
      rw [hx] at hand
      simp only [Bool.toNat_true] at hand
      have hup := M.up_tab ⟨m, hm⟩ ⟨d, hd⟩ hx
      simp only [hc.out] at hup
      have hc2 : (diesK m (d + 1)).length = c + 1 := by rw [diesK_yes m d hx, List.length_append, hc.out]; rfl
      by_cases hkc : k = c
      · subst hkc
        have HUP := Lib.hid hup.1
        have hz : ((k : Int) - (k : Int) == 0) = true := by simp
        clear hup hc2 hx hc
        go_wp2
        go_ret
        exact ⟨ret_int (by rw [HUP.out]), rfl⟩
      · have hd8 : d + 1 < 8 := by
          rcases Nat.lt_or_ge (d + 1) 8 with h | h
          · exact h
          · exfalso
            obtain rfl : d = 7 := by omega
            have : M.popN m = c + 1 := hc2
            have := HK.out; omega
        have HC2 := Lib.hid hc2
        have hz : ((k : Int) - (c : Int) == 0) = false := by simp; omega
        clear hx hc2 hc hup
        go_wp2
        go_round
        case rel => exact ⟨d + 1, c + 1, hd8, by omega, HC2, congrArg (Value.int .i64) (by omega), by go_num⟩
        case measure => simp [intOf]; omega
theorem at_set (m k : Int) (w : World) (hm : m < 0 ∨ 255 < m) : Calls Tryz.prog 97 #[.int .i64 m, .int .i64 k] w fun e w' => e = .returned (.int .i64 (-1)) ∧ w = w' := by
  go_enter Tryz.func97, Tryz.ntmps97
  go_wp2_with (go_at_call 70; refine (isSet_no _ _ hm).mono ?_; rintro e w' ⟨rfl, rfl⟩)
  go_ret
  exact ⟨rfl, rfl⟩
theorem at_low (m k : Int) (w : World) (h1 : 0 ≤ m) (h2 : m ≤ 255) (hk : k < 0) : Calls Tryz.prog 97 #[.int .i64 m, .int .i64 k] w fun e w' => e = .returned (.int .i64 (-1)) ∧ w = w' := by
  go_enter Tryz.func97, Tryz.ntmps97
  go_wp2_with (go_at_call 70; refine (isSet_yes _ _ h1 h2).mono ?_; rintro e w' ⟨rfl, rfl⟩)
  go_ret
  exact ⟨rfl, rfl⟩
theorem at_high (m : Nat) (k : Int) (w : World) (hm : m < 256) (hk : (M.popN m : Int) ≤ k) (hk2 : k ≤ 9223372036854775807) : Calls Tryz.prog 97 #[.int .i64 m, .int .i64 k] w fun e w' => e = .returned (.int .i64 (-1)) ∧ w = w' := by
  have HK := Lib.hid hk
  have hk0 : 0 ≤ k := by omega
  clear hk
  go_enter Tryz.func97, Tryz.ntmps97
  go_wp2_with (go_at_call 70; refine (isSet_yes _ _ (by omega) (by omega)).mono ?_; rintro e w' ⟨rfl, rfl⟩)
  go_loop [1, 5] (fun x n => ∃ d c : Nat, d ≤ 8 ∧ (c : Int) ≤ k ∧ c ≤ 8 ∧ Hid ((diesK m d).length = c) ∧ x = .int .i64 (k - c) ∧ n = .int .i64 d) (fun _ n => (8 - intOf n).toNat)
  case atStart => exact ⟨0, 0, by omega, by omega, by omega, rfl, by rw [show k - ((0 : Nat) : Int) = k by omega], rfl⟩
  case round =>
    obtain ⟨d, c, hd, hck, hc8, hc, rfl, rfl⟩ := hrel
    have hcast : ((m : Int) / 2 ^ d) = ((m / 2 ^ d : Nat) : Int) := by simp
    by_cases h0 : m / 2 ^ d = 0
    · have hne : ((m : Int) / 2 ^ d != 0) = false := by rw [hcast, h0]; rfl
      clear h0 hcast
      go_wp2
      go_ret
      exact ⟨rfl, rfl⟩
    have hd8 : d < 8 := by
      rcases Nat.lt_or_ge d 8 with h | h
      · exact h
      · exfalso
        obtain rfl : d = 8 := by omega
        exact h0 (Nat.div_eq_of_lt (by omega))
    have hne : ((m : Int) / 2 ^ d != 0) = true := by
      rw [hcast]; simp only [bne_iff_ne]; omega
    have hand := M.has_tab ⟨m, hm⟩ ⟨d, hd8⟩
    simp only [Int.natCast_ediv, Int.natCast_pow, Int.cast_ofNat_Int] at hand
    clear h0 hcast
    cases hx : inB m d with
    | false =>
      rw [hx] at hand
      simp only [Bool.toNat_false] at hand
      have hc2 : (diesK m (d + 1)).length = c := by rw [diesK_no m d hx]; exact hc.out
      have HC2 := Lib.hid hc2
      clear hx hc2 hc
      go_wp2
      go_round
      case rel => exact ⟨d + 1, c, by omega, hck, hc8, HC2, rfl, by go_num⟩
      case measure => simp [intOf]; omega
    | true =>
      rw [hx] at hand
      simp only [Bool.toNat_true] at hand
      have hup := M.up_tab ⟨m, hm⟩ ⟨d, hd8⟩ hx
      simp only [hc.out] at hup
      have hc2 : (diesK m (d + 1)).length = c + 1 := by rw [diesK_yes m d hx, List.length_append, hc.out]; rfl
      have hlt : (c : Int) < k := by have := HK.out; have := hup.2; omega
      have hc9 : c + 1 ≤ 8 := by have := diesK_length m (d + 1); omega
      have HC2 := Lib.hid hc2
      have hz : (k - (c : Int) == 0) = false := by simp; omega
      clear hx hc2 hc hup
      go_wp2
      go_round
      case rel => exact ⟨d + 1, c + 1, by omega, by omega, hc9, HC2, congrArg (Value.int .i64) (by omega), by go_num⟩
      case measure => simp [intOf]; omega
theorem spot_in (m d : Nat) (w : World) (hm : m < 256) (hd : d < 8) (hx : inB m d = true) : Calls Tryz.prog 99 #[.int .i64 m, .int .i64 d] w fun e w' => e = .returned (.int .i64 (M.popN (m % 2 ^ d) : Nat)) ∧ w = w' := by
  have hh := has_yes m d
  rw [hx] at hh
  have HH := Lib.hid hh
  have HL := Lib.hid (M.low_tab ⟨m, hm⟩ ⟨d, hd⟩)
  clear hx hh
  go_enter Tryz.func99, Tryz.ntmps99
  go_wp2_with (first
    | (go_at_call 120; refine (HH.out _ hm hd).mono ?_; rintro e w' ⟨rfl, rfl⟩)
    | (go_at_call 118; refine (all_yes d _ (by omega)).mono ?_; rintro e w' ⟨rfl, rfl⟩)
    | (go_at_call 96; rw [HL.out]; refine (count_yes _ _ (Nat.lt_of_le_of_lt (Nat.mod_le _ _) hm)).mono ?_; rintro e w' ⟨rfl, rfl⟩))
  go_ret
  exact ⟨rfl, rfl⟩
theorem spot_not (m d : Int) (w : World) (h : ∀ w, Calls Tryz.prog 120 #[.int .i64 m, .int .i64 d] w fun e w' => e = .returned (.bool false) ∧ w = w') : Calls Tryz.prog 99 #[.int .i64 m, .int .i64 d] w fun e w' => e = .returned (.int .i64 (-1)) ∧ w = w' := by
  have HH := Lib.hid h
  clear h
  go_enter Tryz.func99, Tryz.ntmps99
  go_wp2_with (go_at_call 120; refine (HH.out _).mono ?_; rintro e w' ⟨rfl, rfl⟩)
  go_ret
  exact ⟨rfl, rfl⟩
theorem spotFrom_none (l : List Nat) (d : Int) (k : Nat) (h : ∀ x ∈ l, (x : Int) ≠ d) : spotFrom l d k = -1 := by
  induction l generalizing k with
  | nil => rfl
  | cons x l ih =>
    rw [spotFrom, if_neg (h x (by simp))]
    exact ih _ fun y hy => h y (by simp [hy])
theorem diesK_lt (m k : Nat) : ∀ x ∈ diesK m k, x < k := fun _ hx => List.mem_range.1 (List.mem_filter.1 hx).1
theorem spot_any (m d : Int) (w : World) : Calls Tryz.prog 99 #[.int .i64 m, .int .i64 d] w fun e w' => e = .returned (.int .i64 (spotS m d)) ∧ w = w' := by
  by_cases hm : 0 ≤ m ∧ m ≤ 255
  · obtain ⟨K, rfl⟩ : ∃ K : Nat, m = K := ⟨m.toNat, by omega⟩
    have hK : K < 256 := by omega
    have hs : diesS (K : Int) = diesK K 8 := by unfold diesS; rw [if_pos hm, Int.toNat_natCast]
    unfold spotS
    rw [hs]
    by_cases hd : 0 ≤ d ∧ d ≤ 7
    · obtain ⟨D, rfl⟩ : ∃ D : Nat, d = D := ⟨d.toNat, by omega⟩
      have hD : D < 8 := by omega
      rw [M.spot_tab ⟨K, hK⟩ ⟨D, hD⟩]
      cases hx : inB K D with
      | true => exact spot_in K D w hK hD hx
      | false =>
        refine spot_not _ _ _ fun w => ?_
        have h := has_yes K D w hK hD
        rwa [hx] at h
    · rw [spotFrom_none _ _ _ fun x hx => by have := diesK_lt K 8 x hx; omega]
      exact spot_not _ _ _ fun w => has_no _ _ _ (by omega)
  · have hs : diesS m = [] := if_neg hm
    unfold spotS
    rw [hs]
    exact spot_not _ _ _ fun w => has_no _ _ _ (by omega)
end Go.Proofs.YtfploeefmnbpcaaGreat

/- Package lane: what each call answers, whatever it is given. -/
namespace Go.Proofs.YtfploeefmnbpcaaGreat
open Go.RowKit

def hasS (m d : Int) : Bool := decide (0 ≤ spotS m d)
def countS (m : Int) : Nat := (diesS m).length
def atS (m i : Int) : Int := if 0 ≤ i ∧ i < countS m then ((diesS m).getD i.toNat 0 : Nat) else -1
def withS (m d : Int) : Int := if 0 ≤ m ∧ m ≤ 255 then (if 0 ≤ d ∧ d ≤ 7 then (if hasS m d then m else m + 2 ^ d.toNat) else m) else 0
def withoutS (m d : Int) : Int := if 0 ≤ m ∧ m ≤ 255 then (if 0 ≤ d ∧ d ≤ 7 then (if hasS m d then m - 2 ^ d.toNat else m) else m) else 0
def allS (d : Int) : Int := if 0 ≤ d ∧ d ≤ 8 then 2 ^ d.toNat - 1 else 0

theorem diesS_nat (m : Nat) (h : m < 256) : diesS (m : Int) = diesK m 8 := by unfold diesS; rw [if_pos ⟨by omega, by omega⟩, Int.toNat_natCast]
theorem diesS_none (m : Int) (h : m < 0 ∨ 255 < m) : diesS m = [] := if_neg (by omega)
theorem spotS_none (m d : Int) (h : m < 0 ∨ 255 < m ∨ d < 0 ∨ 7 < d) : spotS m d = -1 := by
  unfold spotS
  by_cases hm : m < 0 ∨ 255 < m
  · rw [diesS_none m hm]; rfl
  · obtain ⟨K, rfl⟩ : ∃ K : Nat, m = K := ⟨m.toNat, by omega⟩
    rw [diesS_nat K (by omega)]
    exact spotFrom_none _ _ _ fun x hx => by have := diesK_lt K 8 x hx; omega
theorem spotS_nat (m d : Nat) (hm : m < 256) (hd : d < 8) : spotS m d = if inB m d then ((M.popN (m % 2 ^ d) : Nat) : Int) else -1 := by
  unfold spotS; rw [diesS_nat m hm]; exact M.spot_tab ⟨m, hm⟩ ⟨d, hd⟩
theorem hasS_nat (m d : Nat) (hm : m < 256) (hd : d < 8) : hasS m d = inB m d := by
  unfold hasS; rw [spotS_nat m d hm hd]
  cases inB m d with
  | true => simp
  | false => simp
theorem hasS_none (m d : Int) (h : m < 0 ∨ 255 < m ∨ d < 0 ∨ 7 < d) : hasS m d = false := by
  unfold hasS; rw [spotS_none m d h]; rfl
theorem countS_nat (m : Nat) (h : m < 256) : countS m = M.popN m := by unfold countS; rw [diesS_nat m h]; rfl
theorem countS_none (m : Int) (h : m < 0 ∨ 255 < m) : countS m = 0 := by unfold countS; rw [diesS_none m h]; rfl

theorem has_any (m d : Int) (w : World) : Calls Tryz.prog 120 #[.int .i64 m, .int .i64 d] w fun e w' => e = .returned (.bool (hasS m d)) ∧ w = w' := by
  by_cases h : m < 0 ∨ 255 < m ∨ d < 0 ∨ 7 < d
  · rw [hasS_none m d h]; exact has_no m d w h
  · obtain ⟨K, rfl⟩ : ∃ K : Nat, m = K := ⟨m.toNat, by omega⟩
    obtain ⟨D, rfl⟩ : ∃ D : Nat, d = D := ⟨d.toNat, by omega⟩
    rw [hasS_nat K D (by omega) (by omega)]
    exact has_yes K D w (by omega) (by omega)
theorem count_any (m : Int) (w : World) : Calls Tryz.prog 96 #[.int .i64 m] w fun e w' => e = .returned (.int .i64 (countS m : Nat)) ∧ w = w' := by
  by_cases h : m < 0 ∨ 255 < m
  · rw [countS_none m h]; exact count_no m w h
  · obtain ⟨K, rfl⟩ : ∃ K : Nat, m = K := ⟨m.toNat, by omega⟩
    rw [countS_nat K (by omega)]
    exact count_yes K w (by omega)
theorem at_any (m i : Int) (w : World) (h2 : i ≤ 9223372036854775807) : Calls Tryz.prog 97 #[.int .i64 m, .int .i64 i] w fun e w' => e = .returned (.int .i64 (atS m i)) ∧ w = w' := by
  by_cases h : m < 0 ∨ 255 < m
  · have : atS m i = -1 := if_neg (by rw [countS_none m h]; omega)
    rw [this]; exact at_set m i w h
  · obtain ⟨K, rfl⟩ : ∃ K : Nat, m = K := ⟨m.toNat, by omega⟩
    have hc := countS_nat K (by omega)
    by_cases h0 : i < 0
    · have : atS K i = -1 := if_neg (by omega)
      rw [this]; exact at_low K i w (by omega) (by omega) h0
    by_cases h1 : i < M.popN K
    · obtain ⟨I, rfl⟩ : ∃ I : Nat, i = I := ⟨i.toNat, by omega⟩
      have : atS K I = (M.atN K I : Nat) := by
        unfold atS; rw [hc, if_pos ⟨by omega, h1⟩, diesS_nat K (by omega), Int.toNat_natCast]; rfl
      rw [this]; exact at_yes K I w (by omega) (by omega)
    · have : atS K i = -1 := if_neg (by rw [hc]; omega)
      rw [this]; exact at_high K i w (by omega) (by omega) h2
theorem with_any (m d : Int) (w : World) : Calls Tryz.prog 60 #[.int .i64 m, .int .i64 d] w fun e w' => e = .returned (.int .i64 (withS m d)) ∧ w = w' := by
  by_cases h : m < 0 ∨ 255 < m
  · have : withS m d = 0 := if_neg (by omega)
    rw [this]; exact with_set m d w h
  · by_cases hd : d < 0 ∨ 7 < d
    · have : withS m d = m := by unfold withS; rw [if_pos ⟨by omega, by omega⟩, if_neg (by omega)]
      rw [this]; exact with_die m d w (by omega) (by omega) hd
    · obtain ⟨K, rfl⟩ : ∃ K : Nat, m = K := ⟨m.toNat, by omega⟩
      obtain ⟨D, rfl⟩ : ∃ D : Nat, d = D := ⟨d.toNat, by omega⟩
      have : withS K D = (M.withN K D : Nat) := by
        unfold withS M.withN
        rw [if_pos ⟨by omega, by omega⟩, if_pos ⟨by omega, by omega⟩, hasS_nat K D (by omega) (by omega), Int.toNat_natCast]
        split <;> simp
      rw [this]; exact with_yes K D w (by omega) (by omega)
theorem in_le : ∀ m : Fin 256, ∀ d : Fin 8, inB m.val d.val = true → 2 ^ d.val ≤ m.val := by decide +kernel
theorem without_any (m d : Int) (w : World) : Calls Tryz.prog 119 #[.int .i64 m, .int .i64 d] w fun e w' => e = .returned (.int .i64 (withoutS m d)) ∧ w = w' := by
  by_cases h : m < 0 ∨ 255 < m
  · have : withoutS m d = 0 := if_neg (by omega)
    rw [this]; exact without_set m d w h
  · by_cases hd : d < 0 ∨ 7 < d
    · have : withoutS m d = m := by unfold withoutS; rw [if_pos ⟨by omega, by omega⟩, if_neg (by omega)]
      rw [this]; exact without_die m d w (by omega) (by omega) hd
    · obtain ⟨K, rfl⟩ : ∃ K : Nat, m = K := ⟨m.toNat, by omega⟩
      obtain ⟨D, rfl⟩ : ∃ D : Nat, d = D := ⟨d.toNat, by omega⟩
      have : withoutS K D = (M.withoutN K D : Nat) := by
        have hle := in_le ⟨K, by omega⟩ ⟨D, by omega⟩
        simp only at hle
        unfold withoutS M.withoutN
        rw [if_pos ⟨by omega, by omega⟩, if_pos ⟨by omega, by omega⟩, hasS_nat K D (by omega) (by omega), Int.toNat_natCast]
        split
        · rename_i hx
          have := hle hx
          rw [Int.natCast_sub this]; simp
        · rfl
      rw [this]; exact without_yes K D w (by omega) (by omega)
theorem all_any (d : Int) (w : World) : Calls Tryz.prog 118 #[.int .i64 d] w fun e w' => e = .returned (.int .i64 (allS d)) ∧ w = w' := by
  by_cases h : d < 0 ∨ 8 < d
  · have : allS d = 0 := if_neg (by omega)
    rw [this]; exact all_no d w h
  · obtain ⟨D, rfl⟩ : ∃ D : Nat, d = D := ⟨d.toNat, by omega⟩
    have : allS D = ((2 ^ D - 1 : Nat) : Int) := by
      unfold allS
      have hp : 1 ≤ 2 ^ D := Nat.one_le_two_pow
      rw [if_pos ⟨by omega, by omega⟩, Int.toNat_natCast, Int.natCast_sub hp]; simp
    rw [this]; exact all_yes D w (by omega)
theorem atS_in (m : Int) (i : Nat) (h : i < countS m) : atS m i = ((diesS m).getD i 0 : Nat) := by
  unfold atS; rw [if_pos ⟨by omega, by omega⟩, Int.toNat_natCast]
theorem atS_out (m i : Int) (h : i < 0 ∨ countS m ≤ i) : atS m i = -1 := if_neg (by omega)
theorem countS_le (m : Int) : countS m ≤ 8 := diesS_length m
end Go.Proofs.YtfploeefmnbpcaaGreat

/- Slices that came in. -/
namespace Go.Proofs.YtfploeefmnbpcaaGreat
open Go.RowKit

/-- A slice of bytes that came in. -/
structure IsBytes (w : World) (a : Option Addr) (len cap : Nat) (bs : List Nat) : Prop where
  size : bs.length = len
  fits : len ≤ cap
  small : cap ≤ 9223372036854775807
  byte : ∀ x ∈ bs, x < 256
  none : a = none → len = 0 ∧ cap = 0
  row : Holds w a (u8s bs)
/-- A slice of ints that came in. -/
structure IsInts (w : World) (a : Option Addr) (len cap : Nat) (zs : List Int) : Prop where
  size : zs.length = len
  fits : len ≤ cap
  small : cap ≤ 9223372036854775807
  bound : ∀ x ∈ zs, -9223372036854775808 ≤ x ∧ x ≤ 9223372036854775807
  none : a = none → len = 0 ∧ cap = 0
  row : Holds w a (zs.map (Value.int .i64))

theorem bytes_none (w : World) : IsBytes w none 0 0 [] :=
  ⟨rfl, Nat.le_refl _, by omega, fun x h => by simp at h, fun _ => ⟨rfl, rfl⟩, fun i x h => by simp [u8s] at h⟩
theorem ints_none (w : World) : IsInts w none 0 0 [] :=
  ⟨rfl, Nat.le_refl _, by omega, fun x h => by simp at h, fun _ => ⟨rfl, rfl⟩, fun i x h => by simp at h⟩
theorem bytes_in {w : World} {x : Addr} {len cap : Nat} {zs : List Int} (hl : len ≤ cap) (hm : cap ≤ maxLen) (hz : zs.length = cap)
    (hc : ∀ i, i < zs.length → w.cell? (x.add i) = some (.int .u8 (zs.getD i 0))) (hw : ∀ n ∈ zs, (Lit.int .u8 n).wf = true) :
    IsBytes w (some x) len cap ((zs.take len).map Int.toNat) := by
  have h8 : ∀ n ∈ zs, 0 ≤ n ∧ n ≤ 255 := fun n hn => by
    simpa [Lit.wf, IntKind.min, IntKind.max, IntKind.signed, IntKind.bits] using hw n hn
  refine ⟨by rw [List.length_map, List.length_take]; omega, hl, by unfold maxLen at hm; omega, ?_, (fun h => by cases h), ?_⟩
  · intro y hy
    obtain ⟨n, hn, rfl⟩ := List.mem_map.1 hy
    have := h8 n (List.mem_of_mem_take hn)
    omega
  · intro i v hv
    have hil : i < len := by
      have := (List.getElem?_eq_some_iff.1 hv).1
      unfold u8s at this
      rw [List.length_map, List.length_map, List.length_take] at this; omega
    obtain ⟨b, off, rfl, hcells⟩ := ints_at hc (by omega)
    refine ⟨b, off, rfl, ?_⟩
    rw [hcells i (by omega), ← hv]
    unfold u8s
    have hlt : i < zs.length := by omega
    have h0 := (h8 zs[i] (List.getElem_mem hlt)).1
    rw [List.getElem?_map, List.getElem?_map, List.getElem?_take, if_pos hil, List.getElem?_eq_getElem hlt]
    simp only [Option.map_some, List.getD, List.getElem?_eq_getElem hlt, Option.getD_some]
    rw [Int.toNat_of_nonneg h0]
theorem ints_in {w : World} {x : Addr} {len cap : Nat} {zs : List Int} (hl : len ≤ cap) (hm : cap ≤ maxLen) (hz : zs.length = cap)
    (hc : ∀ i, i < zs.length → w.cell? (x.add i) = some (.int .i64 (zs.getD i 0))) (hw : ∀ n ∈ zs, (Lit.int .i64 n).wf = true) :
    IsInts w (some x) len cap (zs.take len) := by
  have h8 : ∀ n ∈ zs, -9223372036854775808 ≤ n ∧ n ≤ 9223372036854775807 := fun n hn => by
    simpa [Lit.wf, IntKind.min, IntKind.max, IntKind.signed, IntKind.bits] using hw n hn
  refine ⟨by rw [List.length_take]; omega, hl, by unfold maxLen at hm; omega, fun n hn => h8 n (List.mem_of_mem_take hn), (fun h => by cases h), ?_⟩
  intro i v hv
  have hil : i < len := by
    have := (List.getElem?_eq_some_iff.1 hv).1
    rw [List.length_map, List.length_take] at this; omega
  obtain ⟨b, off, rfl, hcells⟩ := ints_at hc (by omega)
  refine ⟨b, off, rfl, ?_⟩
  rw [hcells i (by omega), ← hv]
  have hlt : i < zs.length := by omega
  rw [List.getElem?_map, List.getElem?_take, if_pos hil, List.getElem?_eq_getElem hlt]
  simp only [Option.map_some, List.getD, List.getElem?_eq_getElem hlt, Option.getD_some]
theorem IsBytes.below {w w' : World} {a : Option Addr} {len cap : Nat} {bs : List Nat} (h : IsBytes w a len cap bs) (hb : Below w.heap.size w w') : IsBytes w' a len cap bs :=
  ⟨h.size, h.fits, h.small, h.byte, h.none, h.row.below hb⟩
theorem IsInts.below {w w' : World} {a : Option Addr} {len cap : Nat} {zs : List Int} (h : IsInts w a len cap zs) (hb : Below w.heap.size w w') : IsInts w' a len cap zs :=
  ⟨h.size, h.fits, h.small, h.bound, h.none, h.row.below hb⟩
end Go.Proofs.YtfploeefmnbpcaaGreat

/- The reference's places. -/
namespace Go.Proofs.YtfploeefmnbpcaaGreat
open Go.RowKit

/-- Which measures may be. -/
def mayB (d b p : Int) : Bool := decide (3 ≤ d ∧ d ≤ 6 ∧ 8 ≤ b ∧ b ≤ 16 ∧ 2 ≤ p ∧ p ≤ 8)
/-- Which places are in. -/
def inGB (d b p x y z : Int) : Bool := decide (0 ≤ x ∧ x < d ∧ 0 ≤ y ∧ y < b ∧ 0 ≤ z ∧ z < p)
def logS (d b p : Int) : Int := if mayB d b p then ((b - 5) * p * (d - 2) + 1) / 2 else 0
abbrev geoV (d b p : Int) : Value := .agg #[.int .i64 d, .int .i64 b, .int .i64 p]

theorem ret_bool {a b : Bool} (h : a = b) : Ending.returned (.bool a) = .returned (.bool b) := by rw [h]
theorem mayB_yes {d b p : Int} (h : mayB d b p = true) : 3 ≤ d ∧ d ≤ 6 ∧ 8 ≤ b ∧ b ≤ 16 ∧ 2 ≤ p ∧ p ≤ 8 := of_decide_eq_true h

set_option maxHeartbeats 1000000 in
theorem rin_any (d b p x y z : Int) (w : World) :
    Calls Tryz.prog 28 #[geoV d b p, geoV x y z] w fun e w' => e = .returned (.bool (inGB d b p x y z)) ∧ Below w.heap.size w w' := by
  go_enter Tryz.func28, Tryz.ntmps28
  go_wp2
  all_goals go_ret
  all_goals refine ⟨ret_bool ?_, ((Below.refl _ _).alloc (Nat.le_refl _) _).alloc (by simp) _⟩
  all_goals (rw [Bool.eq_iff_iff]; simp only [inGB, decide_eq_true_eq, Bool.false_eq_true, false_iff]; omega)

theorem log_table : ∀ b : Fin 12, ∀ p : Fin 8, ∀ d : Fin 5, (((b.val : Int) * (p.val + 1) * d.val + 1 : Int) / 2 ≤ 200) ∧ 0 ≤ (b.val : Int) * (p.val + 1) * d.val + 1 := by decide +kernel

end Go.Proofs.YtfploeefmnbpcaaGreat

/- Maps, told by the list of their keys and values: what lies in the block, and what each operation comes to. Of whatever program. -/
namespace Go.Proofs.YtfploeefmnbpcaaGreat.Mp
open Go Go.MapKept Go.ChangeMaps Go.Maps Go.RowKit
set_option linter.unusedVariables false

/-- How keys are written. -/
structure KeyEnc (P : Program) (k : TypeId) (α : Type) where
  enc : α → Value
  Ok : α → Prop
  law : Keyed P k
  has : ∀ a, Ok a → ∃ l, keyOf P k (enc a) = some l
  inj : ∀ a b, enc a = enc b → a = b

section
variable {P : Program} {k : TypeId} {α : Type} (E : KeyEnc P k α)

/-- The entries of a map that has l. -/
structure Ents (es : Array MapEntry) (clock : Nat) (l : List (α × Value)) : Prop where
  stamped : Stamped es clock
  ok : ∀ p ∈ l, E.Ok p.1
  perm : (es.toList.map fun e => (e.key, e.val)).Perm (l.map fun p => (E.enc p.1, p.2))

variable {E} {es : Array MapEntry} {clock : Nat} {l l' : List (α × Value)}

theorem Ents.of_perm (h : Ents E es clock l) (hp : l.Perm l') : Ents E es clock l' :=
  ⟨h.stamped, fun p hp' => h.ok p (hp.mem_iff.2 hp'), h.perm.trans (hp.map _)⟩

theorem Ents.size (h : Ents E es clock l) : es.size = l.length := by
  have := h.perm.length_eq; simpa using this

theorem Ents.mem (h : Ents E es clock l) {e : MapEntry} (he : e ∈ es.toList) : ∃ p ∈ l, e.key = E.enc p.1 ∧ e.val = p.2 := by
  have : (e.key, e.val) ∈ l.map fun p => (E.enc p.1, p.2) := h.perm.mem_iff.1 (List.mem_map.2 ⟨e, he, rfl⟩)
  obtain ⟨p, hp, e1⟩ := List.mem_map.1 this
  simp only [Prod.mk.injEq] at e1
  exact ⟨p, hp, e1.1.symm, e1.2.symm⟩

theorem Ents.mem' (h : Ents E es clock l) {p : α × Value} (hp : p ∈ l) : ∃ e ∈ es.toList, e.key = E.enc p.1 ∧ e.val = p.2 := by
  have : (E.enc p.1, p.2) ∈ es.toList.map fun e => (e.key, e.val) := h.perm.mem_iff.2 (List.mem_map.2 ⟨p, hp, rfl⟩)
  obtain ⟨e, he, e1⟩ := List.mem_map.1 this
  simp only [Prod.mk.injEq] at e1
  exact ⟨e, he, e1.1, e1.2⟩

theorem Ents.keyed (h : Ents E es clock l) : ∀ e ∈ es.toList, ∃ lit, keyOf P k e.key = some lit := fun e he => by
  obtain ⟨p, hp, e1, _⟩ := h.mem he
  rw [e1]; exact E.has _ (h.ok p hp)

theorem Ents.nodup (h : Ents E es clock l) : (l.map (·.1)).Nodup := by
  have h1 : (es.toList.map (·.key)).Nodup := h.stamped.2.2
  have h2 : (es.toList.map (·.key)).Perm (l.map fun p => E.enc p.1) := by
    have := h.perm.map (·.1)
    simpa [List.map_map, Function.comp_def] using this
  have h3 : (l.map fun p => E.enc p.1).Nodup := h2.nodup_iff.1 h1
  have h4 : ((l.map (·.1)).map E.enc).Nodup := by simpa [List.map_map, Function.comp_def] using h3
  exact List.Pairwise.imp (fun h e => h (by rw [e])) (List.pairwise_map.1 h4)

/-- The object in a map's block. -/
def IsObj (E : KeyEnc P k α) (o : Obj) (l : List (α × Value)) : Prop := ∃ es clock, o = .map es clock ∧ Ents E es clock l
/-- Block b is a map that has l. -/
def MapIs (E : KeyEnc P k α) (w : World) (b : Nat) (l : List (α × Value)) : Prop := ∃ o, w.heap[b]? = some o ∧ IsObj E o l

theorem MapIs.lt {w : World} {b : Nat} (h : MapIs E w b l) : b < w.heap.size := by
  obtain ⟨o, ho, _⟩ := h; exact (Array.getElem?_eq_some_iff.1 ho).1
theorem MapIs.of_block {w w' : World} {b : Nat} (h : MapIs E w b l) (hb : w'.heap[b]? = w.heap[b]?) : MapIs E w' b l := by
  obtain ⟨o, ho, hi⟩ := h; exact ⟨o, hb.trans ho, hi⟩
theorem MapIs.of_perm {w : World} {b : Nat} (h : MapIs E w b l) (hp : l.Perm l') : MapIs E w b l' := by
  obtain ⟨o, ho, es, clock, rfl, he⟩ := h; exact ⟨_, ho, es, clock, rfl, he.of_perm hp⟩
theorem MapIs.nodup {w : World} {b : Nat} (h : MapIs E w b l) : (l.map (·.1)).Nodup := by
  obtain ⟨o, ho, es, clock, rfl, he⟩ := h; exact he.nodup
theorem MapIs.ok {w : World} {b : Nat} (h : MapIs E w b l) : ∀ p ∈ l, E.Ok p.1 := by
  obtain ⟨o, ho, es, clock, rfl, he⟩ := h; exact he.ok

/-- An empty map. -/
theorem isObj_empty (E : KeyEnc P k α) : IsObj E (.map #[] 0) [] := ⟨_, _, rfl, stamped_empty 0, fun p hp => by simp at hp, by simp⟩
theorem made (E : KeyEnc P k α) (w : World) : MapIs E (w.alloc (.map #[] 0)) w.heap.size [] := ⟨_, (MapKept.heap_alloc w _).1, isObj_empty E⟩

/-- 'len(m)'. -/
theorem MapIs.len {b : Nat} {t e : TypeId} {w : World} (h : MapIs E w b l) (ht : P.underlying t = some (.map k e)) (ty : TypeId) : ∀ W : World, W.heap[b]? = w.heap[b]? →
    (Builtin.len_ #[t] ty #[.map (some b)]).run P W = .ok (.int .i64 (l.length : Nat)) W := by
  intro W hW
  obtain ⟨o, ho, es, clock, rfl, he⟩ := h
  rw [← he.size]
  simp [Builtin.len_, run_underlying ht, MapKept.run_getObj_map (hW.trans ho), goInt, Result.andThen]

variable [DecidableEq α]
/-- What stands at a. -/
def getA (l : List (α × Value)) (a : α) : Option Value := (l.find? (fun p => decide (p.1 = a))).map (·.2)
/-- All but a. -/
def delA (l : List (α × Value)) (a : α) : List (α × Value) := l.filter (fun p => !decide (p.1 = a))

variable {b : Nat} {t e : TypeId} {w : World}

theorem getA_of_mem : ∀ {l : List (α × Value)}, (l.map (·.1)).Nodup → ∀ {a v}, (a, v) ∈ l → getA l a = some v
  | [], _, _, _, h => by simp at h
  | p :: r, hn, a, v, h => by
    simp only [List.map_cons, List.nodup_cons] at hn
    rcases List.mem_cons.1 h with rfl | h
    · simp [getA]
    · have hne : p.1 ≠ a := fun e => hn.1 (by rw [e]; exact List.mem_map.2 ⟨_, h, rfl⟩)
      have ih := getA_of_mem hn.2 h
      unfold getA at ih ⊢
      rw [List.find?_cons, decide_eq_false hne]
      exact ih
theorem getA_none {l : List (α × Value)} {a : α} (h : ∀ p ∈ l, p.1 ≠ a) : getA l a = none := by
  unfold getA
  rw [List.find?_eq_none.2 (fun p hp => by simpa using h p hp)]; rfl
theorem mem_of_getA {l : List (α × Value)} {a : α} {v : Value} (h : getA l a = some v) : (a, v) ∈ l := by
  unfold getA at h
  obtain ⟨p, hp, rfl⟩ := Option.map_eq_some_iff.1 h
  have h1 := List.mem_of_find?_eq_some hp
  have h2 := List.find?_some hp
  simp only [decide_eq_true_eq] at h2
  rw [← h2]; exact h1

/-- Where a key is, in whatever world. -/
theorem Ents.find (h : Ents E es clock l) {a : α} (ha : E.Ok a) :
    (getA l a = none ∧ (∀ x ∈ es.toList, x.key ≠ E.enc a) ∧ ∀ W : World, (Instr.findKey k (E.enc a) es.toList).run P W = .ok none W) ∨
    ∃ j e0, es.toList[j]? = some e0 ∧ e0.key = E.enc a ∧ getA l a = some e0.val ∧ ∀ W : World, (Instr.findKey k (E.enc a) es.toList).run P W = .ok (some (j, e0.val)) W := by
  obtain ⟨lit, hlit⟩ := E.has a ha
  by_cases hex : ∃ x ∈ es.toList, x.key = E.enc a
  · right
    obtain ⟨x, hx, hxk⟩ := hex
    obtain ⟨j, hj⟩ := List.getElem?_of_mem hx
    refine ⟨j, x, hj, hxk, ?_, fun W => ?_⟩
    · obtain ⟨p, hp, e1, e2⟩ := h.mem hx
      have : p.1 = a := E.inj _ _ (e1.symm.trans hxk)
      rw [e2]; exact getA_of_mem h.nodup (by rw [← this]; exact hp)
    · rcases E.law.find W hlit es.toList h.keyed with ⟨_, h2⟩ | ⟨j', e', h1, h2, h3⟩
      · exact absurd hxk (h2 x hx)
      · have hn : (es.toList.map (·.key)).Nodup := h.stamped.2.2
        have h4 : (es.toList.map (·.key))[j]? = some (E.enc a) := by rw [List.getElem?_map, hj]; simp [hxk]
        have h5 : (es.toList.map (·.key))[j']? = some (E.enc a) := by rw [List.getElem?_map, h2]; simp [h3]
        have hjl := (List.getElem?_eq_some_iff.1 h4).1
        have : j = j' := (List.getElem?_inj hjl hn).1 (h4.trans h5.symm)
        subst this
        rw [hj] at h2; cases h2
        exact h1
  · left
    have hno : ∀ x ∈ es.toList, x.key ≠ E.enc a := fun x hx e => hex ⟨x, hx, e⟩
    refine ⟨getA_none fun p hp e => ?_, hno, fun W => ?_⟩
    · obtain ⟨x, hx, e1, _⟩ := h.mem' hp
      exact hno x hx (by rw [e1, e])
    · rcases E.law.find W hlit es.toList h.keyed with ⟨h1, _⟩ | ⟨j', e', _, h2, h3⟩
      · exact h1
      · exact absurd h3 (hno e' (List.mem_of_getElem? h2))


/-- 'm[a]', 'v, ok := m[a]'. -/
theorem MapIs.look (h : MapIs E w b l) (ht : P.underlying t = some (.map k e)) {a : α} (ha : E.Ok a) {z : Value} (hz : ∀ W : World, (zeroValue e).run P W = .ok z W) (c : Bool) :
    ∀ W : World, W.heap[b]? = w.heap[b]? → (Instr.lookup t (.map (some b)) (E.enc a) c).run P W = .ok (if c then .tuple #[(getA l a).getD z, .bool (getA l a).isSome] else (getA l a).getD z) W := by
  intro W hW
  obtain ⟨o, ho, es, clock, rfl, he⟩ := h
  have hb := hW.trans ho
  obtain ⟨lit, hlit⟩ := E.has a ha
  rcases he.find ha with ⟨h1, h2, h3⟩ | ⟨j, e0, h1, h2, h3, h4⟩
  · simp [Instr.lookup, run_underlying ht, MapKept.run_getObj_map hb, E.law.check W _ hlit, h3, hz, h1, Result.andThen]
  · simp [Instr.lookup, run_underlying ht, MapKept.run_getObj_map hb, E.law.check W _ hlit, h4, h3, Result.andThen]

theorem Ents.push (he : Ents E es clock l) {a : α} (ha : E.Ok a) (v : Value) (h2 : ∀ x ∈ es.toList, x.key ≠ E.enc a) : Ents E (es.push ⟨E.enc a, v, clock⟩) (clock + 1) ((a, v) :: delA l a) := by
  refine ⟨stamped_push he.stamped h2, ?_, ?_⟩
  · intro p hp
    rcases List.mem_cons.1 hp with rfl | hp
    · exact ha
    · exact he.ok p (List.mem_filter.1 hp).1
  · have hd : delA l a = l := List.filter_eq_self.2 fun p hp => by
      have : p.1 ≠ a := fun e1 => by
        obtain ⟨x, hx, e2, _⟩ := he.mem' hp
        exact h2 x hx (by rw [e2, e1])
      simpa using this
    rw [hd]
    simp only [Array.toList_push, List.map_append, List.map_cons, List.map_nil]
    exact (List.perm_append_singleton _ _).trans (he.perm.cons _)

theorem Ents.mod (he : Ents E es clock l) {a : α} (ha : E.Ok a) (v : Value) {j : Nat} {e0 : MapEntry} (h1 : es.toList[j]? = some e0) (h2 : e0.key = E.enc a) :
    Ents E (es.modify j (fun e' => { e' with key := E.enc a, val := v })) clock ((a, v) :: delA l a) := by
  have hj : es[j]? = some e0 := by simpa using h1
  have hmod : (es.modify j (fun e' => { e' with key := E.enc a, val := v })).toList = es.toList.set j { e0 with key := E.enc a, val := v } := by
    rw [Array.toList_modify, modify_eq_set _ _ _ _ h1]
  refine ⟨?_, ?_, ?_⟩
  · exact stamped_modify he.stamped j _ (fun _ _ => rfl) (fun e' he' hj' => by rw [hj] at hj'; cases hj'; exact h2.symm)
  · intro p hp
    rcases List.mem_cons.1 hp with rfl | hp
    · exact ha
    · exact he.ok p (List.mem_filter.1 hp).1
  · rw [hmod]
    have hjl : j < es.toList.length := (List.getElem?_eq_some_iff.1 h1).1
    have p1 : (es.toList.set j { e0 with key := E.enc a, val := v }).Perm ({ e0 with key := E.enc a, val := v } :: es.toList.eraseIdx j) := set_perm _ _ hjl _
    have p2 : (es.toList).Perm (e0 :: es.toList.eraseIdx j) := by
      have hs : es.toList.set j e0 = es.toList := WideElems.set_self _ _ _ h1
      have := set_perm es.toList j hjl e0
      rwa [hs] at this
    have p3 := (p2.map fun e => (e.key, e.val)).symm.trans he.perm
    refine (p1.map fun e => (e.key, e.val)).trans ?_
    simp only [List.map_cons]
    refine List.Perm.cons _ ?_
    -- the others
    have hn : (es.toList.map (·.key)).Nodup := he.stamped.2.2
    have hout : ∀ x ∈ es.toList.eraseIdx j, x.key ≠ E.enc a := by
      have := (p2.map (·.key)).nodup_iff.1 hn
      simp only [List.map_cons, List.nodup_cons] at this
      intro x hx e1
      exact this.1 (List.mem_map.2 ⟨x, hx, by rw [e1, h2]⟩)
    have q1 : ((es.toList.eraseIdx j).map fun e => (e.key, e.val)) = ((e0 :: es.toList.eraseIdx j).filter (fun e => !(Classical.propDecidable (e.key = E.enc a)).decide)).map fun e => (e.key, e.val) := by
      rw [List.filter_cons]
      have : (!(Classical.propDecidable (e0.key = E.enc a)).decide) = false := by simp [h2]
      rw [this]
      simp only [Bool.false_eq_true, if_false]
      rw [List.filter_eq_self.2 (fun x hx => by simpa using hout x hx)]
    rw [q1]
    have q2 : ∀ L : List MapEntry, ((L.filter (fun e => !(Classical.propDecidable (e.key = E.enc a)).decide)).map fun e => (e.key, e.val)) = (L.map fun e => (e.key, e.val)).filter (fun p : Value × Value => !(Classical.propDecidable (p.1 = E.enc a)).decide) := fun L => by
      rw [List.filter_map]; rfl
    rw [q2]
    have q3 : (l.map fun p => (E.enc p.1, p.2)).filter (fun p : Value × Value => !(Classical.propDecidable (p.1 = E.enc a)).decide) = (delA l a).map fun p => (E.enc p.1, p.2) := by
      rw [List.filter_map]
      unfold delA
      congr 1
      refine List.filter_congr fun p hp => ?_
      simp only [Function.comp_apply]
      by_cases e1 : p.1 = a
      · simp [e1]
      · have : E.enc p.1 ≠ E.enc a := fun h => e1 (E.inj _ _ h)
        simp [e1, this]
    rw [← q3]
    exact p3.filter _

/-- What stands in the block behind 'm[a] = v'. -/
theorem MapIs.put (h : MapIs E w b l) (ht : P.underlying t = some (.map k e)) {a : α} (ha : E.Ok a) (v : Value) :
    ∃ o', IsObj E o' ((a, v) :: delA l a) ∧ ∀ W : World, W.heap[b]? = w.heap[b]? → (Instr.mapUpdate t (.map (some b)) (E.enc a) v).run P W = .ok () (setBlock W b o') := by
  obtain ⟨o, ho, es, clock, rfl, he⟩ := h
  obtain ⟨lit, hlit⟩ := E.has a ha
  rcases he.find ha with ⟨h1, h2, h3⟩ | ⟨j, e0, h1, h2, h3, h4⟩
  · refine ⟨_, ⟨_, _, rfl, he.push ha v h2⟩, fun W hW => ?_⟩
    have hb := hW.trans ho
    simp [Instr.mapUpdate, run_underlying ht, MapKept.run_getObj_map hb, E.law.check W false hlit, h3, MapKept.run_setObj_map _ hb, Result.andThen, setBlock]
  · have hj : es[j]? = some e0 := by simpa using h1
    refine ⟨_, ⟨_, _, rfl, he.mod ha v h1 h2⟩, fun W hW => ?_⟩
    have hb := hW.trans ho
    simp [Instr.mapUpdate, run_underlying ht, MapKept.run_getObj_map hb, E.law.check W false hlit, h4, hj, h2, E.law.stays W hlit, MapKept.run_setObj_map _ hb, Result.andThen, setBlock]

/-- 'm[a] = f(m[a])': the entry is laid hold of, its value worked out, then stored. -/
theorem MapIs.entry (h : MapIs E w b l) (ht : P.underlying t = some (.map k e)) {a : α} (ha : E.Ok a) {z : Value} (hz : ∀ W : World, (zeroValue e).run P W = .ok z W) :
    ∃ (st : Nat) (o1 : Obj), (∀ W : World, W.heap[b]? = w.heap[b]? → (Instr.mapEntry t (.map (some b)) (E.enc a)).run P W = .ok (.tuple #[(getA l a).getD z, .int .i64 st]) (setBlock W b o1)) ∧
      ∀ v : Value, ∃ o2, IsObj E o2 ((a, v) :: delA l a) ∧ ∀ W : World, W.heap[b]? = some o1 → (Instr.entryStore t (.map (some b)) (.int .i64 st) v).run P W = .ok () (setBlock W b o2) := by
  obtain ⟨o, ho, es, clock, rfl, he⟩ := h
  obtain ⟨lit, hlit⟩ := E.has a ha
  obtain ⟨s1, s2, _⟩ := he.stamped
  rcases he.find ha with ⟨h1, h2, h3⟩ | ⟨j, e0, h1, h2, h3, h4⟩
  · refine ⟨clock, .map (es.push ⟨E.enc a, z, clock⟩) (clock + 1), fun W hW => ?_, fun v => ⟨.map (es.push ⟨E.enc a, v, clock⟩) (clock + 1), ⟨_, _, rfl, he.push ha v h2⟩, fun W hW => ?_⟩⟩
    · have hb := hW.trans ho
      simp [Instr.mapEntry, run_underlying ht, MapKept.run_getObj_map hb, E.law.check W false hlit, h3, hz, h1, MapKept.run_setObj_map _ hb, Result.andThen, setBlock, goInt]
    · have hidx : (es.push ⟨E.enc a, z, clock⟩).findIdx? (fun e => ((e.born : Nat) : Int) == ((clock : Nat) : Int)) = some es.size := by
        rw [WideElems.findIdx_arr]
        exact WideElems.findIdx_born (l := (es.push ⟨E.enc a, z, clock⟩).toList) (j := es.size) (e0 := ⟨E.enc a, z, clock⟩) (by
          simp only [Array.toList_push, List.map_append, List.map_cons, List.map_nil]
          refine List.nodup_append.2 ⟨s2, by simp, fun a ha c hc e1 => ?_⟩
          simp only [List.mem_singleton] at hc
          obtain ⟨x, hx, rfl⟩ := List.mem_map.1 ha
          have := s1 x hx
          omega) (by simp)
      have hmod : (es.push ⟨E.enc a, z, clock⟩).modify es.size (fun e => { e with val := v }) = es.push ⟨E.enc a, v, clock⟩ := by
        apply Array.ext'
        rw [Array.toList_modify, Array.toList_push, Array.toList_push, ← Array.length_toList, WideElems.modify_last]
      simp [Instr.entryStore, MapKept.run_getObj_map hW, asInt, asIntOf, hidx, hmod, MapKept.run_setObj_map _ hW, Result.andThen, setBlock]
  · have hj : es[j]? = some e0 := by simpa using h1
    have hsame : es.modify j (fun e => { e with key := E.enc a }) = es := by
      apply Array.ext'
      rw [Array.toList_modify, modify_eq_set _ _ _ _ h1]
      have : ({ e0 with key := E.enc a } : MapEntry) = e0 := by rw [← h2]
      rw [this]
      exact WideElems.set_self _ _ _ h1
    refine ⟨e0.born, .map es clock, fun W hW => ?_, fun v => ⟨.map (es.modify j (fun e' => { e' with key := E.enc a, val := v })) clock, ⟨_, _, rfl, he.mod ha v h1 h2⟩, fun W hW => ?_⟩⟩
    · have hb := hW.trans ho
      simp [Instr.mapEntry, run_underlying ht, MapKept.run_getObj_map hb, E.law.check W false hlit, h4, hj, h2, h3, E.law.stays W hlit, hsame, MapKept.run_setObj_map _ hb, Result.andThen, setBlock, goInt]
    · have hidx : es.findIdx? (fun e => ((e.born : Nat) : Int) == ((e0.born : Nat) : Int)) = some j := by
        rw [WideElems.findIdx_arr]
        exact WideElems.findIdx_born s2 h1
      have hmod : es.modify j (fun e => { e with val := v }) = es.modify j (fun e' => { e' with key := E.enc a, val := v }) := by
        apply Array.ext'
        rw [Array.toList_modify, Array.toList_modify, modify_eq_set _ _ _ _ h1, modify_eq_set _ _ _ _ h1, ← h2]
      simp [Instr.entryStore, MapKept.run_getObj_map hW, asInt, asIntOf, hidx, hmod, MapKept.run_setObj_map _ hW, Result.andThen, setBlock]

/-- What stands in the block behind 'delete(m, a)'. -/
theorem MapIs.del (h : MapIs E w b l) (ht : P.underlying t = some (.map k e)) {a : α} (ha : E.Ok a) (ty : TypeId) :
    ∃ o', IsObj E o' (delA l a) ∧ ∀ W : World, W.heap[b]? = w.heap[b]? → (Builtin.delete_ #[t, k] ty #[.map (some b), E.enc a]).run P W = .ok (.tuple #[]) (setBlock W b o') := by
  obtain ⟨o, ho, es, clock, rfl, he⟩ := h
  obtain ⟨lit, hlit⟩ := E.has a ha
  have q3 : (l.map fun p => (E.enc p.1, p.2)).filter (fun p : Value × Value => !(Classical.propDecidable (p.1 = E.enc a)).decide) = (delA l a).map fun p => (E.enc p.1, p.2) := by
    rw [List.filter_map]
    unfold delA
    congr 1
    refine List.filter_congr fun p hp => ?_
    simp only [Function.comp_apply]
    by_cases e1 : p.1 = a
    · simp [e1]
    · have : E.enc p.1 ≠ E.enc a := fun h => e1 (E.inj _ _ h)
      simp [e1, this]
  have hok : ∀ p ∈ delA l a, E.Ok p.1 := fun p hp => he.ok p (List.mem_filter.1 hp).1
  rcases he.find ha with ⟨h1, h2, h3⟩ | ⟨j, e0, h1, h2, h3, h4⟩
  · refine ⟨.map es clock, ⟨_, _, rfl, he.stamped, hok, ?_⟩, fun W hW => ?_⟩
    · rw [← q3, List.filter_eq_self.2 (fun x hx => ?_)]
      · exact he.perm
      · obtain ⟨p, hp, rfl⟩ := List.mem_map.1 hx
        obtain ⟨y, hy, e2, _⟩ := he.mem' hp
        have := h2 y hy
        rw [e2] at this
        simpa using this
    · have hb := hW.trans ho
      simp [Builtin.delete_, run_underlying ht, MapKept.run_getObj_map hb, E.law.check W _ hlit, h3, MapKept.run_setObj_map _ hb, Result.andThen, setBlock]
  · have hjl : j < es.toList.length := (List.getElem?_eq_some_iff.1 h1).1
    have hjs : j < es.size := by simpa using hjl
    have hsub : (es.eraseIdxIfInBounds j).toList = es.toList.eraseIdx j := by
      unfold Array.eraseIdxIfInBounds
      rw [dif_pos hjs]
      simp
    have p2 : (es.toList).Perm (e0 :: es.toList.eraseIdx j) := by
      have hs : es.toList.set j e0 = es.toList := WideElems.set_self _ _ _ h1
      have := set_perm es.toList j hjl e0
      rwa [hs] at this
    have p3 := (p2.map fun e => (e.key, e.val)).symm.trans he.perm
    have hn : (es.toList.map (·.key)).Nodup := he.stamped.2.2
    have hout : ∀ x ∈ es.toList.eraseIdx j, x.key ≠ E.enc a := by
      have := (p2.map (·.key)).nodup_iff.1 hn
      simp only [List.map_cons, List.nodup_cons] at this
      intro x hx e1
      exact this.1 (List.mem_map.2 ⟨x, hx, by rw [e1, h2]⟩)
    refine ⟨.map (es.eraseIdxIfInBounds j) clock, ⟨_, _, rfl, stamped_erase he.stamped j, hok, ?_⟩, fun W hW => ?_⟩
    · rw [hsub, ← q3]
      have h5 := p3.filter (fun p : Value × Value => !(Classical.propDecidable (p.1 = E.enc a)).decide)
      rw [List.map_cons, List.filter_cons] at h5
      have : (!(Classical.propDecidable (e0.key = E.enc a)).decide) = false := by simp [h2]
      simp only [this, Bool.false_eq_true, if_false] at h5
      rwa [List.filter_eq_self.2 (fun x hx => by
        obtain ⟨y, hy, rfl⟩ := List.mem_map.1 hx
        simpa using hout y hy)] at h5
    · have hb := hW.trans ho
      simp [Builtin.delete_, run_underlying ht, MapKept.run_getObj_map hb, E.law.check W _ hlit, h4, MapKept.run_setObj_map _ hb, Result.andThen, setBlock]

end
end Go.Proofs.YtfploeefmnbpcaaGreat.Mp
