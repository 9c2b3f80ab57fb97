import Derived.Test.YtfploeefmnbpcaaGreatG04
import Derived.BigQuiet
import Derived.Deep.DeepCutAuto
/- The law NandCut: the walk. -/
namespace Go.Proofs.YtfploeefmnbpcaaGreat
open Go.RowKit Mp

namespace NU
def p32 : List Nat := (List.range 32).map (· + 1)
/-- The page behind k rounds. -/
def fill (k : Nat) : List Nat := (List.range k).map (· + 1) ++ List.replicate (32 - k) 0
def pre : Nat → FlM
  | 0 => FlM.start 3 8 8
  | i + 1 => ((pre i).program ((i % 2 : Nat) : Int) 1 ((i / 2 : Nat) : Int) p32).2
def st (o K i : Nat) : FlM := { pre i with cut := some (o - i, K) }
def X (o K : Nat) : FlM := ((st o K o).program ((o % 2 : Nat) : Int) 1 ((o / 2 : Nat) : Int) p32).2
theorem fill_zero : fill 0 = FlM.noPage := by decide
theorem fill_last : fill 32 = p32 := by decide
theorem fill_next : ∀ k : Fin 32, (fill k.val).set k.val (k.val + 1) = fill (k.val + 1) := by decide +kernel
theorem okP_p32 : okP p32 := ⟨by decide, by decide⟩
theorem p32_at : ∀ k : Fin 32, p32.getD k.val 0 = k.val + 1 := by decide +kernel
theorem start_cut (o : Nat) (keep : Int) : (FlM.start 3 8 8).cutAt o keep = st o (max 0 (min keep 32)).toNat 0 := by
  rw [FlM.cutAt_pos rfl (by omega)]
  simp [st, pre]
theorem facts : ∀ i : Fin 13, (pre i.val).cut = none ∧ (pre i.val).bars ((i.val % 2 : Nat) : Int) 1 ((i.val / 2 : Nat) : Int) = none ∧ ((pre i.val).blk (i.val % 2) 1).next = i.val / 2 ∧ ((pre i.val).blk (i.val % 2) 1).met = false ∧
    ((pre i.val).blk (i.val % 2) 1).fails (i.val / 2) = false ∧ (pre i.val).ops = i.val ∧ (pre i.val).broken = 0 ∧ ((pre i.val).blk ((i.val + 1) % 2) 1).next = (i.val + 1) / 2 ∧ (pre i.val).d = 3 ∧ (pre i.val).b = 8 ∧ (pre i.val).p = 8 ∧ (pre i.val).dead (i.val % 2) = false := by decide +kernel
theorem step (o K i : Nat) (hi : i < o) (ho : o ≤ 12) : (st o K i).program ((i % 2 : Nat) : Int) 1 ((i / 2 : Nat) : Int) p32 = (0, st o K (i + 1)) := by
  obtain ⟨f1, f2, f3, f4, f5, -⟩ := facts ⟨i, by omega⟩
  simp only at f1 f2 f3 f4 f5
  obtain ⟨n, hn⟩ : ∃ n, o - i = n + 1 := ⟨o - i - 1, by omega⟩
  have hc : (st o K i).cut = some (n + 1, K) := by unfold st; rw [hn]
  have e1 := FlM.program_ok (M := st o K i) p32 f2 (show ((i / 2 : Nat) : Int) = (((pre i).blk (i % 2) 1).next : Int) by rw [f3]) (FlM.cutNow_some hc) f4 (show ((pre i).blk (i % 2) 1).fails ((pre i).blk (i % 2) 1).next = false by rw [f3]; exact f5)
  have e2 := FlM.program_ok (M := pre i) p32 f2 (show ((i / 2 : Nat) : Int) = (((pre i).blk (i % 2) 1).next : Int) by rw [f3]) (FlM.cutNow_none f1) f4 (show ((pre i).blk (i % 2) 1).fails ((pre i).blk (i % 2) 1).next = false by rw [f3]; exact f5)
  rw [e1, FlM.tick_some hc]
  unfold st
  rw [show pre (i + 1) = ((pre i).program ((i % 2 : Nat) : Int) 1 ((i / 2 : Nat) : Int) p32).2 from rfl, e2, FlM.tick_none f1, show o - (i + 1) = n by omega]
  rfl
theorem st_bounds (o K i : Nat) (hi : i ≤ 12) : (st o K i).ops < 1000 ∧ (st o K i).broken < 1000 := by
  obtain ⟨f1, f2, f3, f4, f5, f6, f7, -⟩ := facts ⟨i, by omega⟩
  simp only at f6 f7
  exact ⟨by show (pre i).ops < _; omega, by show (pre i).broken < _; omega⟩
theorem cutX (o K : Nat) (ho : o ≤ 12) : (st o K o).program ((o % 2 : Nat) : Int) 1 ((o / 2 : Nat) : Int) p32 = (9, X o K) ∧
    X o K = ({ st o K o with ops := o + 1, power := false, cut := none } : FlM).setB (o % 2) 1 { (pre o).blk (o % 2) 1 with next := o / 2 + 1, pages := upd ((pre o).blk (o % 2) 1).pages (o / 2) { bytes := p32.take K ++ List.replicate (32 - K) 255, turned := true } } := by
  obtain ⟨f1, f2, f3, f4, f5, f6, -⟩ := facts ⟨o, by omega⟩
  simp only at f1 f2 f3 f4 f5 f6
  have hc : (st o K o).cut = some (0, K) := by unfold st; rw [Nat.sub_self]
  have e := FlM.program_cut (M := st o K o) p32 f2 (show ((o / 2 : Nat) : Int) = (((pre o).blk (o % 2) 1).next : Int) by rw [f3]) hc
  refine ⟨by unfold X; rw [e], ?_⟩
  unfold X
  rw [e]
  have e3 : (st o K o).blk ((o % 2 : Nat) : Int).toNat (1 : Int).toNat = (pre o).blk (o % 2) 1 := rfl
  have e4 : (st o K o).ops = o := f6
  rw [e3, f3, e4]
  rfl
theorem dead (o K : Nat) (ho : o ≤ 12) (x z : Int) : (X o K).program x 1 z p32 = (9, X o K) :=
  FlM.program_bar _ (FlM.bars_power (by rw [(cutX o K ho).2]; rfl) _ _ _)
theorem last (o K : Nat) (ho : o ≤ 12) : (X o K).on.read ((o % 2 : Nat) : Int) 1 ((o / 2 : Nat) : Int) = (p32.take K ++ List.replicate (32 - K) 255, 0) ∧ (X o K).on.ops = o + 1 ∧ (X o K).on.nextOf (((o + 1) % 2 : Nat) : Int) 1 = (((o + 1) / 2 : Nat) : Int) ∧ (X o K).ops = o + 1 ∧ (X o K).broken = 0 := by
  obtain ⟨f1, f2, f3, f4, f5, f6, f7, f8, f9, f10, f11, f12⟩ := facts ⟨o, by omega⟩
  simp only at f1 f2 f3 f4 f5 f6 f7 f8 f9 f10 f11 f12
  have hx := (cutX o K ho).2
  have hb : (X o K).on.blk (o % 2) 1 = { (pre o).blk (o % 2) 1 with next := o / 2 + 1, pages := upd ((pre o).blk (o % 2) 1).pages (o / 2) { bytes := p32.take K ++ List.replicate (32 - K) 255, turned := true } } := by
    rw [hx]; exact FlM.setB_same _ _ _ _
  have hb2 : ((X o K).on.blk ((o + 1) % 2) 1).next = (o + 1) / 2 := by
    rw [hx]
    show (FlM.blk (FlM.setB _ _ _ _) _ _).next = _
    rw [FlM.setB_die _ (by omega)]
    exact f8
  have hd : (X o K).on.d = 3 ∧ (X o K).on.b = 8 ∧ (X o K).on.p = 8 ∧ (X o K).on.dead (o % 2) = false ∧ (X o K).on.power = true := by
    rw [hx]; exact ⟨f9, f10, f11, f12, rfl⟩
  obtain ⟨d1, d2, d3, d4, d5⟩ := hd
  have hin : ∀ x z : Nat, x < 3 → z < 8 → inGB (X o K).on.d (X o K).on.b (X o K).on.p (x : Int) 1 (z : Int) = true := fun x z h1 h2 => by rw [d1, d2, d3]; unfold inGB; simp; omega
  refine ⟨?_, by rw [hx]; rfl, ?_, by rw [hx]; rfl, by rw [hx]; exact f7⟩
  · have e := FlM.read_ok (M := (X o K).on) (x := ((o % 2 : Nat) : Int)) (y := 1) (z := ((o / 2 : Nat) : Int)) (FlM.bars_none d5 (hin _ _ (by omega) (by omega)) d4)
      (by show ((o / 2 : Nat) : Int) < (((X o K).on.blk (o % 2) 1).next : Int); rw [hb]; simp only; omega)
      (by show (((X o K).on.blk (o % 2) 1).pages (o / 2)).cant = false; rw [hb]; simp only [upd_same])
    rw [e]
    have : (((X o K).on.blk (o % 2) 1).pages (o / 2)).bytes = p32.take K ++ List.replicate (32 - K) 255 := by rw [hb]; simp only [upd_same]
    exact congrArg (fun q => (q, (0 : Int))) this
  · unfold FlM.nextOf
    have h0 : inGB (X o K).on.d (X o K).on.b (X o K).on.p (((o + 1) % 2 : Nat) : Int) 1 0 = true := hin ((o + 1) % 2) 0 (by omega) (by omega)
    rw [if_pos h0]
    exact congrArg (fun q : Nat => (q : Int)) hb2
theorem half (o : Nat) (h : o ≤ 100) : ∃ a c : Nat, o % 2 = a ∧ o / 2 = c ∧ (o : Int).tmod 2 = a ∧ (o : Int).tdiv 2 = c ∧ wrap64 (c : Int) = c := by
  refine ⟨o % 2, o / 2, rfl, rfl, ?_, ?_, IntWalk.wrap64_in ((o / 2 : Nat) : Int) (by omega)⟩
  · rw [Int.tmod_eq_emod_of_nonneg (by omega)]; omega
  · rw [Int.tdiv_eq_ediv_of_nonneg (by omega)]; omega
theorem half1 (o : Nat) (h : o ≤ 50) : ∃ a c : Nat, (o + 1) % 2 = a ∧ (o + 1) / 2 = c ∧ ((o : Int) + 1).tmod 2 = a ∧ ((o : Int) + 1).tdiv 2 = c ∧ wrap64 (c : Int) = c := half (o + 1) (by omega)
theorem torn_at (K : Nat) (hK : K ≤ 32) (j : Nat) (hj : j < 32) : (p32.take K ++ List.replicate (32 - K) 255).getD j 0 = if j < K then p32.getD j 0 else 255 := by
  have hl : (p32.take K).length = K := by rw [List.length_take, okP_p32.1]; omega
  simp only [List.getD_eq_getElem?_getD]
  by_cases h : j < K
  · rw [if_pos h, List.getElem?_append_left (by omega), List.getElem?_take, if_pos h]
  · rw [if_neg h, List.getElem?_append_right (by omega), List.getElem?_replicate, if_pos (by omega)]
    rfl
theorem torn_length (K : Nat) (hK : K ≤ 32) : (p32.take K ++ List.replicate (32 - K) 255).length = 32 := by
  rw [List.length_append, List.length_take, List.length_replicate, okP_p32.1]; omega
end NU
end Go.Proofs.YtfploeefmnbpcaaGreat
