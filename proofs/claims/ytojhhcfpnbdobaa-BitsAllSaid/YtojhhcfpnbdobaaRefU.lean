/- The reference's Turn. -/
import Derived.Test.YtojhhcfpnbdobaaRefT
import Derived.Deep.RegionLaw
namespace Go.Proofs.Ytojhhcfpnbdobaa
open Go.RowKit

/-- An append to a row of the call's own, as one step of a region that draws. -/
theorem step_append_own {P : Program} {ops : Array Oper} {o : Oper} {a : Act} {w : World} {K : Act → World → Prop} {Q : Exit → Act → World → Prop} {E : Prop}
    (hgd : o.guard = none) (s x : Operand) (t : TypeId)
    (ho : o.op = .call { callee := .builtin .append, args := #[s, x], argTypes := #[t, t] })
    (base : Nat) (e : TypeId) (i : TypeInfo) (z : Value) (size bytes : Nat) (ht : P.underlying t = some (.slice e)) (hi : P.info? e = some i) (hz : i.zero = some z)
    (hsize : i.size = size) (hby : i.bytes = bytes) (hzs : z.cells.size = size) (hsz : 0 < size)
    (v : Value) (n : Nat) (xs : List Value) (hs : a.eval s = v) (hown : w.ownsRow base e size v n xs)
    (ad : Addr) (m c : Nat) (news : List Value) (hx : a.eval x = .slice (some ad) m c) (hl : news.length = m * size) (hnews : ∀ j u, news[j]? = some u → w.cell? (ad.add j) = some u) (h1 : ∀ u ∈ news, u.oneCell' = true)
    (h63 : n + m ≤ maxLen) (hbytes : (n + m) * bytes ≤ 140737488355328) (hbase : base ≤ w.heap.size)
    (h : ∀ v' w', w'.ownsRow base e size v' (n + m) (xs ++ news) → w.grownBy w' v.ownBlock → (v' = .slice none 0 0 ↔ v = .slice none 0 0 ∧ m = 0) → K (a.put o.dst v') w') :
    if Region.wanted o (yielded ops a.tmps) = true then Oper.wp P o a w K Q else E := by
  have hw : Region.wanted o (yielded ops a.tmps) = true := by simp [Region.wanted, hgd]
  rw [if_pos hw]
  exact wp_append_own w s x t ho base e i z size bytes ht hi hz hsize hby hzs hsz v n xs hs hown ad m c news hx hl hnews h1 h63 hbytes hbase h

theorem turn_k0 (b : Int) : 0 ≤ b.tmod 32 + 32 ∧ b.tmod 32 + 32 ≤ 63 := by rw [Int.tmod_eq_emod]; split <;> omega
theorem turn_k (b : Int) : (b.tmod 32 + 32) % 32 = b % 32 := by rw [Int.tmod_eq_emod]; split <;> omega

theorem add_cell {w : World} {b o j : Nat} {x : Value} (h : w.cell? ⟨b, o + j, none⟩ = some x) : w.cell? ((⟨b, o, none⟩ : Addr).add j) = some x := by
  by_cases h0 : j = 0
  · subst h0; simpa [Addr.add] using h
  · simpa [Addr.add, h0] using h

set_option maxHeartbeats 400000 in
theorem rturn_any (u : Nat) (b : Int) (w : World) (hu : u < 4294967296) :
    Calls Try.prog 32 #[.int .u32 u, .int .i64 b] w fun e w' => e = .returned (.int .u32 (M.turnS u (b % 32))) ∧ Below w.heap.size w w' := by
  obtain ⟨i0, hi, hz0, hz1, hz2⟩ := info_parts Try.infoBool
  obtain ⟨m, hm, hm2⟩ : ∃ m : Nat, b % 32 = m ∧ m ≤ 31 := ⟨(b % 32).toNat, by omega, by omega⟩
  have hk := turn_k b
  obtain ⟨hk0, hk1⟩ := turn_k0 b
  rw [hm] at hk ⊢
  clear hm
  obtain ⟨B, hB⟩ : ∃ B, w.heap.size = B := ⟨_, rfl⟩
  rw [hB]
  go_enter Try.func32, Try.ntmps32
  go_wp2_with fail
  refine (bits_any u 32 _ (by omega) (by omega)).mono ?_
  rintro e w1 ⟨v, rfl, hown, hbl⟩
  rw [hB] at hown hbl
  obtain ⟨g, cap, rfl, hg, hcap, hcm, hcells⟩ := own_spot hown (by omega)
  rw [bitVals_all] at hcells
  unfold maxLen at hcm
  have hcl := Lib.hid hcells
  clear hown hcells
  go_wp2
  have hne : ¬ cap = m := by omega
  have hmi : (m : Int) ≤ 32 := by omega
  have hmc : (m : Int) ≤ (cap : Int) := by omega
  obtain ⟨A, hA⟩ : ∃ A, (M.bitsOf u 32).drop m = A := ⟨_, rfl⟩
  obtain ⟨T, hT⟩ : ∃ T, (M.bitsOf u 32).take m = T := ⟨_, rfl⟩
  have hAl : A.length = 32 - m := by rw [← hA, List.length_drop, M.bitsOf_length]
  have hTl : T.length = m := by rw [← hT, List.length_take, M.bitsOf_length]; omega
  have HA : Hid (∀ j x, (A.map Value.bool)[j]? = some x → w1.cell? ((⟨g, m, none⟩ : Addr).add j) = some x) := by
    intro j x hj
    refine add_cell (hcl.out (m + j) x ?_)
    rw [← hA, List.map_drop, List.getElem?_drop] at hj
    exact hj
  have HT : Hid (∀ j x, (T.map Value.bool)[j]? = some x → w1.cell? ((⟨g, 0, none⟩ : Addr).add j) = some x) := by
    intro j x hj
    refine add_cell (hcl.out (0 + j) x ?_)
    rw [Nat.zero_add]
    rw [← hT, List.map_take, List.getElem?_take] at hj
    split at hj
    · exact hj
    · cases hj
  have HAl := Lib.hid hAl
  have HTl := Lib.hid hTl
  have h1c : Hid (∀ (l : List Bool), ∀ x ∈ l.map Value.bool, Value.oneCell' x = true) := by
    intro l x hx
    obtain ⟨y, _, rfl⟩ := List.mem_map.1 hx
    rfl
  have hBs : B ≤ w1.heap.size := by rw [← hB]; exact hbl.size
  obtain ⟨hnum, hnl⟩ := M.turn_num u m hu hm2
  rw [hA, hT] at hnum hnl
  have hnw : (M.num (A ++ T) : Int) ≤ 4294967295 := by omega
  have HN := Lib.hid hnum
  clear hAl hTl hcl hA hT hnum hnl
  have hz : Hid (0 + (32 - m) + m = 32) := by show 0 + (32 - m) + m = 32; omega
  go_region_law (first
    | (refine step_append_own rfl _ _ 36 rfl B 4 i0 (.bool false) 1 1 Try.underlying36 hi hz0 hz1 hz2 rfl (by decide) (.slice none 0 0) 0 [] rfl (World.ownsRow_nil _ _ _ _) ⟨g, m, none⟩ (32 - m) (cap - m) (A.map Value.bool) rfl (by rw [List.length_map, HAl.out, Nat.mul_one]) (fun j x hj => HA j x hj) (h1c A) (by unfold maxLen; omega) (by omega) (by exact hBs) ?_; intro v' w2 ha hb hc)
    | (refine step_append_own rfl _ _ 36 rfl B 4 i0 (.bool false) 1 1 Try.underlying36 hi hz0 hz1 hz2 rfl (by decide) v' (0 + (32 - m)) ([] ++ A.map Value.bool) rfl ha ⟨g, 0, none⟩ m cap (T.map Value.bool) rfl (by rw [List.length_map, HTl.out, Nat.mul_one]) (fun j x hj => hb.cell (HT j x hj) (by simp [Value.ownBlock])) (h1c T) (by unfold maxLen; omega) (by omega) (by exact Nat.le_trans hBs hb.size) ?_; intro v2 w3 ha2 hb2 hc2; obtain ⟨g2, cap2, rfl, hg2, hcap2, hcm2, hcells2⟩ := own_spot ha2 (by omega); rw [hz.out]; have HC := Lib.hid hcells2; clear hcells2)
    | (go_simp; go_at_call 45; refine (num_at (A ++ T) _ _ _ _ (by rw [List.length_append, HAl.out, HTl.out]; omega) (by omega) (by intro i x hx; refine ⟨g2, 0, rfl, ?_⟩; rw [Nat.zero_add]; refine HC.out i x ?_; rw [List.nil_append, ← List.map_append]; exact hx)).mono ?_; rintro e w' ⟨rfl, rfl⟩))
  go_wp2
  go_ret
  refine ⟨ret_int ?_, below_grown (hbl.drew.grown hb hBs (fun k hk => by cases hk)) (Nat.le_trans hBs hb.size) ha hb2⟩
  rw [IntWalk.u32_in _ ⟨by omega, by omega⟩]
  exact HN.out
end Go.Proofs.Ytojhhcfpnbdobaa
