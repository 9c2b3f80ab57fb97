/- The law BitsOwn: the walk. -/
import Derived.Test.YtojhhcfpnbdobaaPairs
namespace Go.Proofs.Ytojhhcfpnbdobaa
open Go.RowKit

namespace M
/-- The first k bytes are turned. -/
def flipK (l : List Nat) (k : Nat) : List Nat := (List.range l.length).map fun i => if i < k then l.getD i 0 ^^^ 255 else l.getD i 0
theorem flipK_length (l : List Nat) (k : Nat) : (flipK l k).length = l.length := by simp [flipK]
theorem flipK_zero (l : List Nat) : flipK l 0 = l := by
  apply List.ext_getElem
  · simp [flipK]
  · intro i h1 h2
    simp [flipK, List.getD, List.getElem?_eq_getElem h2]
theorem flipK_getD (l : List Nat) (k i : Nat) (h : i < l.length) : (flipK l k).getD i 0 = if i < k then l.getD i 0 ^^^ 255 else l.getD i 0 := by
  rw [List.getD, List.getElem?_eq_getElem (by rw [flipK_length]; exact h)]
  simp [flipK]
theorem flipK_set (l : List Nat) (k : Nat) (_ : k < l.length) : (flipK l k).set k (l.getD k 0 ^^^ 255) = flipK l (k + 1) := by
  apply List.ext_getElem
  · simp [flipK]
  · intro i h1 h2
    rw [List.getElem_set]
    simp only [flipK, List.getElem_map, List.getElem_range]
    by_cases hik : k = i
    · subst hik; simp
    · rw [if_neg hik]
      by_cases hlt : i < k
      · rw [if_pos hlt, if_pos (by omega)]
      · rw [if_neg hlt, if_neg (by omega)]
end M
theorem own_get8 {w : World} {B n g cap i : Nat} {l : List Nat} (h : w.ownsRow B 5 1 (.slice (some ⟨g, 0, none⟩) n cap) n (u8s l)) (hi : i < l.length) :
    w.cell? ⟨g, i, none⟩ = some (.int .u8 (l.getD i 0 : Nat)) := by
  rw [own_cell8 h hi]; simp [List.getD, List.getElem?_eq_getElem hi]

theorem own_base8 {w : World} {B B' n : Nat} {v : Value} {l : List Value} (h : w.ownsRow B' 5 1 v n l) (hB : B ≤ B') : w.ownsRow B 5 1 v n l := by
  obtain ⟨h1, h2⟩ := h
  rcases h2 with h2 | ⟨g, cap, cur, hv, hg, r⟩
  · exact ⟨h1, .inl h2⟩
  · exact ⟨h1, .inr ⟨g, cap, cur, hv, Nat.le_trans hB hg, r⟩⟩
theorem own_drew8 {w : World} {B n : Nat} {v : Value} {l : List Value} (h : w.ownsRow B 5 1 v n l) : w.drew.ownsRow B 5 1 v n l := h
theorem out_kept {w : World} {g g2 j : Nat} {l : List Bool} {u : Value} (h : OutIs w g l) (hg : g2 ≠ g) : OutIs (w.setCell ⟨g2, j, none⟩ u) g l :=
  out_cells h (Below.heap_setCell _ _ _ _ (Ne.symm hg))

inductive OutRel (g : Nat) (w : World) (v : Value) (wr : World) : Prop
  | mk (k : Nat) (l : List Bool) (hk : k ≤ 10) (hl : l.length ≤ 64 * k) (hv : v = .int .i64 k) (out : OutIs wr g l) (bel : Below w.heap.size w wr)

set_option maxRecDepth 100000 in
set_option maxHeartbeats 4000000 in
theorem bitsOwn_walk (al : Option Addr) (ll cl : Nat) (ps : List (Int × Int)) (a : Option Addr) (len cap : Nat) (bs : List Nat) (w : World) (hp : IsPairs w al ll cl ps) (hb : IsBytes w a len cap bs) :
    Calls Try.prog 17 #[.slice al ll cl, .slice a len cap] w fun e w' => e = .returned (.bool true) ∧ Below w.heap.size w w' := by
  have HBY := Lib.hid hb
  have HP := Lib.hid hp
  have hlen : len ≤ 9223372036854775807 := Nat.le_trans hb.fits hb.small
  have hll : ll ≤ 9223372036854775807 := Nat.le_trans hp.fits hp.small
  have hsz := Lib.hid hb.size
  clear hb hp
  go_enter Try.func17, Try.ntmps17
  go_wp2_with (go_at_call 21; refine (begun_any _).mono ?_; rintro e w1 ⟨rfl, hb1⟩; have HB1 := Lib.hid hb1; clear hb1)
  obtain ⟨g, hg⟩ : ∃ g, w1.heap.size = g := ⟨_, rfl⟩
  have hnew := new_out w1
  rw [hg] at hnew
  have HNEW := Lib.hid hnew
  have hgw : w.heap.size ≤ g := by rw [← hg]; exact HB1.out.size
  have HG := Lib.hid hgw
  have HB2 := Lib.hid (HB1.out.trans ((Below.refl w.heap.size w1).alloc (by rw [hg]; exact hgw) (.cells Try.zeroCells45 45)))
  rw [hg]
  clear hnew hg hgw HB1
  generalize w1.alloc (.cells Try.zeroCells45 45) = w2 at HNEW HB2 ⊢
  go_loopw [7] (fun v wr => OutRel g w v wr) (fun v _ => (10 - intOf v).toNat)
  case atStart => exact ⟨0, [], Nat.zero_le _, by simp, rfl, HNEW.out, HB2.out⟩
  case round =>
    obtain ⟨k, l, hk, hl, rfl, hout, hbl⟩ := hrel
    have HOUT := Lib.hid hout
    have HBL := Lib.hid hbl
    clear hout hbl
    by_cases hlt : k < ll ∧ k < 10
    · obtain ⟨hkl, hk10⟩ := hlt
      obtain ⟨b, off, rfl, hc0, hc1, u1, u2, v1, v2⟩ := (HP.out.below HBL.out).row k hkl
      generalize (ps.getD k (0, 0)).1 = u at hc0 u1 u2
      generalize (ps.getD k (0, 0)).2 = n at hc1 v1 v2
      have HOD : Hid (OutIs wr.drew g l) := out_cells HOUT.out rfl
      have HBD := Lib.hid HBL.out.drew
      by_cases hA : n < 1 ∨ 64 < n
      · have HA := Lib.hid hA
        clear hA
        go_wp2
        go_region_with (go_at_call 37; refine (put_width g u n _ HA.out).mono ?_; rintro e w' ⟨rfl, rfl⟩)
        all_goals go_wp2
        all_goals exact ⟨⟨k + 1, l, by omega, by omega, by go_num, HOD.out, HBD.out⟩, by simp [intOf]; omega⟩
      obtain ⟨N, rfl⟩ : ∃ N : Nat, n = N := ⟨n.toNat, by omega⟩
      obtain ⟨U, rfl⟩ := Int.eq_ofNat_of_zero_le u1
      have HN1 : Hid (1 ≤ N) := by show _ ≤ _; omega
      have HN2 : Hid (N ≤ 64) := by show _ ≤ _; omega
      clear hA
      by_cases hU : U < 2 ^ N
      · have HU := Lib.hid hU
        clear hU
        go_wp2
        go_region_with (go_at_call 37; (with_reducible refine (put_good g U N l _ HN1.out HN2.out HU.out ?_ ?_).mono ?_); (exact HOD.out); (have := HN2.out; omega); rintro e w' ⟨rfl, ho, hon⟩; have HO2 := Lib.hid ho; have HB3 := Lib.hid (HBD.out.trans (hon.below HG.out)); clear ho hon)
        all_goals go_wp2
        all_goals exact ⟨⟨k + 1, l ++ M.bitsOf U N, by omega, by rw [List.length_append, M.bitsOf_length]; have := HN2.out; omega, by go_num, HO2.out, HB3.out⟩, by simp [intOf]; omega⟩
      · have hub : ((U : Int) / 2 ^ (N : Int).toNat != 0) = true := by
          have : ¬ (U / 2 ^ N = 0) := fun h => hU (by
            have hp : 0 < 2 ^ N := Nat.pow_pos (by omega)
            exact (Nat.div_eq_zero_iff_lt hp).1 h)
          rw [Int.toNat_natCast, show ((U : Int) / 2 ^ N) = ((U / 2 ^ N : Nat) : Int) by simp]
          exact bne_iff_ne.2 (by omega)
        have HUB := Lib.hid hub
        have HN1I : Hid ((1 : Int) ≤ N) := by show _ ≤ _; have := HN1.out; omega
        have HN2I : Hid ((N : Int) ≤ 64) := by show _ ≤ _; have := HN2.out; omega
        clear hub hU
        go_wp2
        go_region_with (go_at_call 37; (with_reducible refine (put_high g U N _ HN1I.out HN2I.out HUB.out).mono ?_); rintro e w' ⟨rfl, rfl⟩)
        all_goals go_wp2
        all_goals exact ⟨⟨k + 1, l, by omega, by omega, by go_num, HOD.out, HBD.out⟩, by simp [intOf]; omega⟩
    · have hl640 : l.length ≤ 640 := by omega
      rcases (show (k = 10 ∧ (k : Int) < (ll : Int)) ∨ ¬ (k : Int) < (ll : Int) by omega) with ⟨rfl, hcnd⟩ | hcnd
      · obtain ⟨n, hn⟩ : ∃ n, (l.length + 7) / 8 = n := ⟨_, rfl⟩
        have hn80 : n ≤ 80 := by omega
        have HN := Lib.hid hn
        clear hn hl640
        go_wp2_with fail
        refine (bytes_any g l n _ HOUT.out HN.out).mono ?_
        rintro e w3 ⟨v, rfl, hown3, hb3⟩
        obtain ⟨ax, cx, rfl, hcx1, hcx2, _, horx⟩ := own_read hown3
        have hszr := HBL.out.size
        have HB3 := Lib.hid (HBL.out.trans (hb3.mono hszr))
        have HOUT3 := Lib.hid (out_below HOUT.out hb3 (out_lt HOUT.out))
        have hgr := out_lt HOUT.out
        have horx2 : (ax = none ∧ n = 0) ∨ ∃ gx, ax = some ⟨gx, 0, none⟩ ∧ g < gx ∧ gx < w3.heap.size := by
          rcases horx with ⟨h1, h2, _⟩ | ⟨gx, h1, h2, h3⟩
          · exact .inl ⟨h1, h2⟩
          · exact .inr ⟨gx, h1, by omega, h3⟩
        have HORX := Lib.hid horx2
        have hLn : (M.bytesN l n).length = n := M.bytesN_length l n
        have hL8 : ∀ i, (M.bytesN l n).getD i 0 < 256 := M.getD_lt _ (fun x hx => by
          unfold M.bytesN at hx
          obtain ⟨j, _, rfl⟩ := List.mem_map.1 hx
          exact M.byteN_lt _ _)
        have hbv : ∀ (w' : World), OutIs w' g l → Calls Try.prog 38 #[.pointer (some ⟨g, 0, none⟩)] w' fun e w'' => ∃ v, e = .returned v ∧ w''.ownsRow w'.heap.size 5 1 v n (u8s (M.bytesN l n)) ∧ Below w'.heap.size w' w'' := fun w' h => bytes_any g l n w' h HN.out
        have HBV := Lib.hid hbv
        generalize M.bytesN l n = L at hown3 hLn hL8 HBV
        have HOWN3 : Hid (w3.ownsRow g 5 1 (.slice ax n cx) n (u8s (M.flipK L 0))) := by
          rw [M.flipK_zero]; exact own_base8 hown3 (by omega)
        have HLN := Lib.hid hLn
        have HL8 := Lib.hid hL8
        clear hown3 hb3 horx horx2 hLn hL8 hbv hszr hgr HN
        go_wp2
        go_loopw [44] (fun v wq => ∃ j : Nat, j ≤ n ∧ v = .int .i64 j ∧ Hid (wq.ownsRow g 5 1 (.slice ax n cx) n (u8s (M.flipK L j))) ∧ Hid (OutIs wq g l) ∧ Hid (Below w.heap.size w wq) ∧ Hid (w3.heap.size ≤ wq.heap.size)) (fun v _ => (n - intOf v).toNat)
        case atStart => exact ⟨0, Nat.zero_le _, rfl, HOWN3, HOUT3, HB3, Nat.le_refl _⟩
        case round =>
          obtain ⟨j, hj, rfl, hx, ho, hb, hsz3⟩ := hrel
          by_cases hjn : j < n
          · rcases HORX.out with ⟨rfl, h0⟩ | ⟨gx, rfl, hgx1, hgx2⟩
            · omega
            have hc := own_get8 (i := j) hx.out (by rw [M.flipK_length, HLN.out]; exact hjn)
            rw [M.flipK_getD _ _ _ (by rw [HLN.out]; exact hjn), if_neg (Nat.lt_irrefl _)] at hc
            have hf := own_free8 (i := j) hx.out
            have hset := M.flipK_set L j (by rw [HLN.out]; exact hjn)
            have hst := (hx.out.stored j (.int .u8 ((L.getD j 0 ^^^ 255 : Nat) : Int))).1
            rw [u8s_set, hset] at hst
            have HS1 := Lib.hid hst
            have HS2 := Lib.hid (out_kept (j := j) (u := .int .u8 ((L.getD j 0 ^^^ 255 : Nat) : Int)) ho.out (show gx ≠ g by omega))
            have HS3 := Lib.hid (hb.out.setCell (p := ⟨gx, j, none⟩) (show w.heap.size ≤ gx by have := HG.out; omega) (.int .u8 ((L.getD j 0 ^^^ 255 : Nat) : Int)))
            have HS4 : Hid (w3.heap.size ≤ (wr.setCell ⟨gx, j, none⟩ (.int .u8 ((L.getD j 0 ^^^ 255 : Nat) : Int))).heap.size) := by show _ ≤ _; rw [World.size_setCell]; exact hsz3.out
            have hl8 := HL8.out j
            clear hset hst
            generalize L.getD j 0 = old at hc HS1 HS2 HS3 HS4 hl8
            have e1 : bits BinOp.xor IntKind.u8 (old : Int) 255 = ((old ^^^ 255 : Nat) : Int) := u8_xor_nat old 255 hl8 (by omega)
            go_wp2
            exact ⟨⟨j + 1, by omega, by go_num, HS1.out, HS2.out, HS3.out, HS4.out⟩, by simp [intOf]; omega⟩
          · obtain rfl : j = n := by omega
            go_wp2_with fail
            refine (HBV.out _ ho.out).mono ?_
            rintro e w5 ⟨v, rfl, hown5, hb5⟩
            obtain ⟨ay, cy, rfl, _, _, _, hory⟩ := own_read hown5
            have hszq := hb.out.size
            have HB5 := Lib.hid (hb.out.trans (hb5.mono hszq))
            have HX5 := Lib.hid (own_below hx.out hb5 (Nat.le_refl _))
            have HY5 := Lib.hid hown5
            have HORY : Hid ((ay = none ∧ j = 0) ∨ ∃ gy, ay = some ⟨gy, 0, none⟩) := by
              rcases hory with ⟨h1, h2, _⟩ | ⟨gy, h1, _⟩
              · exact .inl ⟨h1, h2⟩
              · exact .inr ⟨gy, h1⟩
            clear hown5 hory hb5 hszq
            go_wp2
            go_loopw [58] (fun v wz => ∃ i : Nat, i ≤ j ∧ v = .int .i64 i ∧ Hid (wz.ownsRow g 5 1 (.slice ax j cx) j (u8s (M.flipK L j))) ∧ Hid (wz.ownsRow wr.heap.size 5 1 (.slice ay j cy) j (u8s L)) ∧ Hid (Below w.heap.size w wz)) (fun v _ => (j - intOf v).toNat)
            case atStart => exact ⟨0, Nat.zero_le _, rfl, HX5, HY5, HB5⟩
            case round =>
              obtain ⟨i, hi, rfl, hx5, hy5, hb5⟩ := hrel
              by_cases hij : i < j
              · rcases HORX.out with ⟨rfl, h0⟩ | ⟨gx, rfl, _, _⟩
                · omega
                rcases HORY.out with ⟨rfl, h0⟩ | ⟨gy, rfl⟩
                · omega
                have hcx := own_get8 (i := i) hx5.out (by rw [M.flipK_length, HLN.out]; exact hij)
                rw [M.flipK_getD _ _ _ (by rw [HLN.out]; exact hij), if_pos hij] at hcx
                have hcy := own_get8 (i := i) hy5.out (by rw [HLN.out]; exact hij)
                have hl8 := HL8.out i
                generalize L.getD i 0 = old at hcx hcy hl8
                have e1 : bits BinOp.xor IntKind.u8 (old : Int) 255 = ((old ^^^ 255 : Nat) : Int) := u8_xor_nat old 255 hl8 (by omega)
                have HX6 := Lib.hid (own_drew8 hx5.out)
                have HY6 := Lib.hid (own_drew8 hy5.out)
                have HB6 := Lib.hid hb5.out.drew
                go_wp2
                go_region
                all_goals go_wp2
                all_goals exact ⟨⟨i + 1, by omega, by go_num, HX6.out, HY6.out, HB6.out⟩, by simp [intOf]; omega⟩
              · obtain rfl : i = j := by omega
                have hszq := hb5.out.size
                go_wp2_with fail
                refine (short_any bs len cap 20 a _ (HBY.out.below hb5.out) (by omega)).mono ?_
                rintro e w6 ⟨v, rfl, hown6, hb6⟩
                have HB6 := Lib.hid (hb5.out.trans (hb6.mono hszq))
                obtain ⟨m, hm⟩ : ∃ m, min len 20 = m := ⟨_, rfl⟩
                have hmin : m ≤ 20 := by omega
                have hl6 : (bs.take 20).length = m := by rw [List.length_take, hsz.out]; omega
                have hl8 : ∀ x ∈ bs.take 20, x < 256 := fun x hx => HBY.out.byte x (List.mem_of_mem_take hx)
                rw [hm] at hown6
                generalize bs.take 20 = B at hl6 hl8 hown6
                obtain ⟨a6, c6, rfl, _, _, hh6, hor6⟩ := own_read hown6
                have HH6 := Lib.hid hh6
                have HOR6 := Lib.hid hor6
                have HL6 := Lib.hid hl6
                have HB8 := Lib.hid hl8
                clear hown6 hb6 hh6 hor6 hl6 hl8 hm
                go_wp2_with fail
                refine (read_any B m a6 c6 _ HL6.out (by omega) HB8.out (by
                  rcases HOR6.out with h | ⟨g', h, _⟩
                  · exact .inl h
                  · exact .inr ⟨g', 0, h, HH6.out⟩)).mono ?_
                rintro e w7 ⟨g7, rfl, _, hin7, hb7⟩
                have HIN7 := Lib.hid hin7
                have HB7 := Lib.hid (HB6.out.trans (hb7.mono HB6.out.size))
                have hl7 := HL6.out
                clear hin7 hb7
                go_wp2_with (go_at_call 42; refine (left_any g7 B 0 _ HIN7.out).mono ?_; rintro e w' ⟨rfl, nd, rfl⟩)
                go_ret
                exact ⟨by simp, HB7.out.trans ⟨rfl, rfl, rfl, Nat.le_refl _, fun _ _ => rfl⟩⟩
      · obtain ⟨n, hn⟩ : ∃ n, (l.length + 7) / 8 = n := ⟨_, rfl⟩
        have hn80 : n ≤ 80 := by omega
        have HN := Lib.hid hn
        clear hn hl640
        go_wp2_with fail
        refine (bytes_any g l n _ HOUT.out HN.out).mono ?_
        rintro e w3 ⟨v, rfl, hown3, hb3⟩
        obtain ⟨ax, cx, rfl, hcx1, hcx2, _, horx⟩ := own_read hown3
        have hszr := HBL.out.size
        have HB3 := Lib.hid (HBL.out.trans (hb3.mono hszr))
        have HOUT3 := Lib.hid (out_below HOUT.out hb3 (out_lt HOUT.out))
        have hgr := out_lt HOUT.out
        have horx2 : (ax = none ∧ n = 0) ∨ ∃ gx, ax = some ⟨gx, 0, none⟩ ∧ g < gx ∧ gx < w3.heap.size := by
          rcases horx with ⟨h1, h2, _⟩ | ⟨gx, h1, h2, h3⟩
          · exact .inl ⟨h1, h2⟩
          · exact .inr ⟨gx, h1, by omega, h3⟩
        have HORX := Lib.hid horx2
        have hLn : (M.bytesN l n).length = n := M.bytesN_length l n
        have hL8 : ∀ i, (M.bytesN l n).getD i 0 < 256 := M.getD_lt _ (fun x hx => by
          unfold M.bytesN at hx
          obtain ⟨j, _, rfl⟩ := List.mem_map.1 hx
          exact M.byteN_lt _ _)
        have hbv : ∀ (w' : World), OutIs w' g l → Calls Try.prog 38 #[.pointer (some ⟨g, 0, none⟩)] w' fun e w'' => ∃ v, e = .returned v ∧ w''.ownsRow w'.heap.size 5 1 v n (u8s (M.bytesN l n)) ∧ Below w'.heap.size w' w'' := fun w' h => bytes_any g l n w' h HN.out
        have HBV := Lib.hid hbv
        generalize M.bytesN l n = L at hown3 hLn hL8 HBV
        have HOWN3 : Hid (w3.ownsRow g 5 1 (.slice ax n cx) n (u8s (M.flipK L 0))) := by
          rw [M.flipK_zero]; exact own_base8 hown3 (by omega)
        have HLN := Lib.hid hLn
        have HL8 := Lib.hid hL8
        clear hown3 hb3 horx horx2 hLn hL8 hbv hszr hgr HN
        go_wp2
        go_loopw [44] (fun v wq => ∃ j : Nat, j ≤ n ∧ v = .int .i64 j ∧ Hid (wq.ownsRow g 5 1 (.slice ax n cx) n (u8s (M.flipK L j))) ∧ Hid (OutIs wq g l) ∧ Hid (Below w.heap.size w wq) ∧ Hid (w3.heap.size ≤ wq.heap.size)) (fun v _ => (n - intOf v).toNat)
        case atStart => exact ⟨0, Nat.zero_le _, rfl, HOWN3, HOUT3, HB3, Nat.le_refl _⟩
        case round =>
          obtain ⟨j, hj, rfl, hx, ho, hb, hsz3⟩ := hrel
          by_cases hjn : j < n
          · rcases HORX.out with ⟨rfl, h0⟩ | ⟨gx, rfl, hgx1, hgx2⟩
            · omega
            have hc := own_get8 (i := j) hx.out (by rw [M.flipK_length, HLN.out]; exact hjn)
            rw [M.flipK_getD _ _ _ (by rw [HLN.out]; exact hjn), if_neg (Nat.lt_irrefl _)] at hc
            have hf := own_free8 (i := j) hx.out
            have hset := M.flipK_set L j (by rw [HLN.out]; exact hjn)
            have hst := (hx.out.stored j (.int .u8 ((L.getD j 0 ^^^ 255 : Nat) : Int))).1
            rw [u8s_set, hset] at hst
            have HS1 := Lib.hid hst
            have HS2 := Lib.hid (out_kept (j := j) (u := .int .u8 ((L.getD j 0 ^^^ 255 : Nat) : Int)) ho.out (show gx ≠ g by omega))
            have HS3 := Lib.hid (hb.out.setCell (p := ⟨gx, j, none⟩) (show w.heap.size ≤ gx by have := HG.out; omega) (.int .u8 ((L.getD j 0 ^^^ 255 : Nat) : Int)))
            have HS4 : Hid (w3.heap.size ≤ (wr.setCell ⟨gx, j, none⟩ (.int .u8 ((L.getD j 0 ^^^ 255 : Nat) : Int))).heap.size) := by show _ ≤ _; rw [World.size_setCell]; exact hsz3.out
            have hl8 := HL8.out j
            clear hset hst
            generalize L.getD j 0 = old at hc HS1 HS2 HS3 HS4 hl8
            have e1 : bits BinOp.xor IntKind.u8 (old : Int) 255 = ((old ^^^ 255 : Nat) : Int) := u8_xor_nat old 255 hl8 (by omega)
            go_wp2
            exact ⟨⟨j + 1, by omega, by go_num, HS1.out, HS2.out, HS3.out, HS4.out⟩, by simp [intOf]; omega⟩
          · obtain rfl : j = n := by omega
            go_wp2_with fail
            refine (HBV.out _ ho.out).mono ?_
            rintro e w5 ⟨v, rfl, hown5, hb5⟩
            obtain ⟨ay, cy, rfl, _, _, _, hory⟩ := own_read hown5
            have hszq := hb.out.size
            have HB5 := Lib.hid (hb.out.trans (hb5.mono hszq))
            have HX5 := Lib.hid (own_below hx.out hb5 (Nat.le_refl _))
            have HY5 := Lib.hid hown5
            have HORY : Hid ((ay = none ∧ j = 0) ∨ ∃ gy, ay = some ⟨gy, 0, none⟩) := by
              rcases hory with ⟨h1, h2, _⟩ | ⟨gy, h1, _⟩
              · exact .inl ⟨h1, h2⟩
              · exact .inr ⟨gy, h1⟩
            clear hown5 hory hb5 hszq
            go_wp2
            go_loopw [58] (fun v wz => ∃ i : Nat, i ≤ j ∧ v = .int .i64 i ∧ Hid (wz.ownsRow g 5 1 (.slice ax j cx) j (u8s (M.flipK L j))) ∧ Hid (wz.ownsRow wr.heap.size 5 1 (.slice ay j cy) j (u8s L)) ∧ Hid (Below w.heap.size w wz)) (fun v _ => (j - intOf v).toNat)
            case atStart => exact ⟨0, Nat.zero_le _, rfl, HX5, HY5, HB5⟩
            case round =>
              obtain ⟨i, hi, rfl, hx5, hy5, hb5⟩ := hrel
              by_cases hij : i < j
              · rcases HORX.out with ⟨rfl, h0⟩ | ⟨gx, rfl, _, _⟩
                · omega
                rcases HORY.out with ⟨rfl, h0⟩ | ⟨gy, rfl⟩
                · omega
                have hcx := own_get8 (i := i) hx5.out (by rw [M.flipK_length, HLN.out]; exact hij)
                rw [M.flipK_getD _ _ _ (by rw [HLN.out]; exact hij), if_pos hij] at hcx
                have hcy := own_get8 (i := i) hy5.out (by rw [HLN.out]; exact hij)
                have hl8 := HL8.out i
                generalize L.getD i 0 = old at hcx hcy hl8
                have e1 : bits BinOp.xor IntKind.u8 (old : Int) 255 = ((old ^^^ 255 : Nat) : Int) := u8_xor_nat old 255 hl8 (by omega)
                have HX6 := Lib.hid (own_drew8 hx5.out)
                have HY6 := Lib.hid (own_drew8 hy5.out)
                have HB6 := Lib.hid hb5.out.drew
                go_wp2
                go_region
                all_goals go_wp2
                all_goals exact ⟨⟨i + 1, by omega, by go_num, HX6.out, HY6.out, HB6.out⟩, by simp [intOf]; omega⟩
              · obtain rfl : i = j := by omega
                have hszq := hb5.out.size
                go_wp2_with fail
                refine (short_any bs len cap 20 a _ (HBY.out.below hb5.out) (by omega)).mono ?_
                rintro e w6 ⟨v, rfl, hown6, hb6⟩
                have HB6 := Lib.hid (hb5.out.trans (hb6.mono hszq))
                obtain ⟨m, hm⟩ : ∃ m, min len 20 = m := ⟨_, rfl⟩
                have hmin : m ≤ 20 := by omega
                have hl6 : (bs.take 20).length = m := by rw [List.length_take, hsz.out]; omega
                have hl8 : ∀ x ∈ bs.take 20, x < 256 := fun x hx => HBY.out.byte x (List.mem_of_mem_take hx)
                rw [hm] at hown6
                generalize bs.take 20 = B at hl6 hl8 hown6
                obtain ⟨a6, c6, rfl, _, _, hh6, hor6⟩ := own_read hown6
                have HH6 := Lib.hid hh6
                have HOR6 := Lib.hid hor6
                have HL6 := Lib.hid hl6
                have HB8 := Lib.hid hl8
                clear hown6 hb6 hh6 hor6 hl6 hl8 hm
                go_wp2_with fail
                refine (read_any B m a6 c6 _ HL6.out (by omega) HB8.out (by
                  rcases HOR6.out with h | ⟨g', h, _⟩
                  · exact .inl h
                  · exact .inr ⟨g', 0, h, HH6.out⟩)).mono ?_
                rintro e w7 ⟨g7, rfl, _, hin7, hb7⟩
                have HIN7 := Lib.hid hin7
                have HB7 := Lib.hid (HB6.out.trans (hb7.mono HB6.out.size))
                have hl7 := HL6.out
                clear hin7 hb7
                go_wp2_with (go_at_call 42; refine (left_any g7 B 0 _ HIN7.out).mono ?_; rintro e w' ⟨rfl, nd, rfl⟩)
                go_ret
                exact ⟨by simp, HB7.out.trans ⟨rfl, rfl, rfl, Nat.le_refl _, fun _ _ => rfl⟩⟩
end Go.Proofs.Ytojhhcfpnbdobaa
