/- ZigBytes: the statement. The function is called with any arguments that can be read: it returns true, and nothing that was there has changed. No condition. -/
import Derived.Test.YtojhhcfpnbdobaaLawZB
import Derived.ProofKit
import Derived.OpenShut
import Derived.ShutString
import Derived.ChangeOld
namespace Go.Proofs.Ytojhhcfpnbdobaa.zigBytes
open Go.ChangeShapes Go.WideShapes Go.ChangeAt Go.RowKit
open Go.ChangeMaps (open_string shut_string)
set_option linter.unusedVariables false

theorem list8 (l : List Value) (h : l.length = 8) : ∃ c0 c1 c2 c3 c4 c5 c6 c7, l = [c0, c1, c2, c3, c4, c5, c6, c7] := by
  match l, h with
  | [c0, c1, c2, c3, c4, c5, c6, c7], _ => exact ⟨c0, c1, c2, c3, c4, c5, c6, c7, rfl⟩
theorem byte_of {H : Type} {enc : TypeId × Value → H} {P : Program} {w : World} {base : Nat} {spare : Nat → Bool} {held : Bool} {e : TypeId} {m i : Nat} {c : Value} {cs : List Value} {xs : List (DataW H × List MemPlace)}
    (he : P.underlying e = some (.int .u8)) (h : DataW.trod enc P w base spare held m e cs = xs[i]?) (hi : i < xs.length) (hc : cs = [c] := by rfl) : ∃ b : Nat, c = .int .u8 (b : Int) ∧ b < 256 := by
  subst hc
  rw [List.getElem?_eq_getElem hi] at h
  obtain ⟨n, e1, _, hw⟩ := DataW.trod_int he h
  simp only [List.cons.injEq, and_true] at e1
  have g : 0 ≤ n ∧ n ≤ 255 := by simpa [Lit.wf, IntKind.min, IntKind.max, IntKind.signed, IntKind.bits] using hw
  exact ⟨n.toNat, by rw [e1, Int.toNat_of_nonneg g.1], by omega⟩
theorem own : ownKnob Try.prog.godebug = none := by kernel_rfl
theorem laidOut : laidOutB Try.prog = true := by kernel_rfl

set_option maxRecDepth 100000 in
theorem lifted (os : Os) (started : os.Started) (H : Type) (enc : TypeId × Value → H) :
    ReturnsInHanded {} Try.checked os 14 .any (Rows.zigBytesSpec.pre6 enc Try.prog Try.f14 Rows.zigBytesRow.domain false) (Rows.zigBytesSpec.post enc Try.prog Try.f14 false true false false) := by
  refine returnsInHanded_of_change (C := Try.checked) own started (by kernel_rfl) Try.func14
    (ChangeSpec.witness6 (enc := enc) (C := Try.checked) false ⟨#[], #[.agg #[.int .u8 0, .int .u8 0, .int .u8 0, .int .u8 0, .int .u8 0, .int .u8 0, .int .u8 0, .int .u8 0], .int .i64 0], []⟩ 8 (by kernel_rfl) (by kernel_rfl) (by kernel_rfl) (by kernel_rfl)) ?_
  intro W base args ds gs before hval0 hW hcnd _
  have hval : ∀ (j : Nat) t v, Try.f14.params[j]? = some t → args[j]? = some v → Value.okWide Try.prog W .any base t v := hval0
  have hW' := hW
  obtain ⟨p, q, hA0, hV, rfl, hfz, hnd⟩ := hW
  have hA : DataW.TrodAll enc Try.prog W 0 (fun _ => true) true Try.f14.params.toList args.toList ds p := hA0
  rw [Try.params14] at hA hval
  obtain ⟨v0, vs0, d0, ds0, p0, q0, hargs, rfl, rfl, h0, r0⟩ := trodAll_cons hA
  obtain ⟨v1, vs1, d1, ds1, p1, q1, rfl, rfl, rfl, h1, r1⟩ := trodAll_cons r0
  obtain ⟨rfl, rfl, rfl⟩ := trodAll_nil r1
  obtain rfl : args = #[v0, v1] := by cases args; simp_all
  obtain ⟨rfl, rfl⟩ := trodVars_none hV
  have k0 := h0
  have lt0 : ∀ x ∈ p0, x.block < W.heap.size := by obtain ⟨m, hm⟩ := k0; exact DataW.trod_lt m _ _ _ hm
  obtain ⟨cs, rfl, hsz, _⟩ : ∃ cs, v0 = .agg cs ∧ cs.size = Try.prog.cellsOf 26 ∧ Row.okWide Try.prog W .any base 26 cs := by
    have := hval 0 26 v0 rfl rfl
    simpa [Value.okWide, Try.underlying26] using this
  obtain ⟨l⟩ := cs
  obtain ⟨c0, c1, c2, c3, c4, c5, c6, c7, rfl⟩ := list8 l (by rw [show Try.prog.cellsOf 26 = 8 by kernel_rfl] at hsz; simpa using hsz)
  obtain ⟨fuel0, hf0⟩ := h0
  obtain ⟨xs, m, _, _, _, hxl, hx⟩ := DataW.trod_array Try.underlying26 hf0
  rw [show Try.prog.cellsOf 5 = 1 by kernel_rfl] at hx
  obtain ⟨b0, rfl, u0⟩ := byte_of Try.underlying5 (hx 0 (by omega)) (by omega)
  obtain ⟨b1, rfl, u1⟩ := byte_of Try.underlying5 (hx 1 (by omega)) (by omega)
  obtain ⟨b2, rfl, u2⟩ := byte_of Try.underlying5 (hx 2 (by omega)) (by omega)
  obtain ⟨b3, rfl, u3⟩ := byte_of Try.underlying5 (hx 3 (by omega)) (by omega)
  obtain ⟨b4, rfl, u4⟩ := byte_of Try.underlying5 (hx 4 (by omega)) (by omega)
  obtain ⟨b5, rfl, u5⟩ := byte_of Try.underlying5 (hx 5 (by omega)) (by omega)
  obtain ⟨b6, rfl, u6⟩ := byte_of Try.underlying5 (hx 6 (by omega)) (by omega)
  obtain ⟨b7, rfl, u7⟩ := byte_of Try.underlying5 (hx 7 (by omega)) (by omega)
  have k1 := h1
  have lt1 : ∀ x ∈ p1, x.block < W.heap.size := by obtain ⟨m, hm⟩ := k1; exact DataW.trod_lt m _ _ _ hm
  obtain ⟨a1, rfl, rfl, rfl, w1⟩ := open_int Try.underlying2 (hval 1 2 v1 rfl rfl) h1
  clear hA0 hval0
  refine (zigBytes_walk b0 b1 b2 b3 b4 b5 b6 b7 a1 W u0 u1 u2 u3 u4 u5 u6 u7 w1).mono fun e W' ⟨he, bel⟩ => ?_
  subst he
  exact ⟨_, rfl, _, _, _, [], _, [], hW', trodAll_mk1 (shut_bool Try.underlying4 _), (trodAll_cons_mk (Below.trod laidOut (by kernel_rfl) (of_decide_eq_true (by kernel_rfl)) k0 bel lt0) (trodAll_cons_mk (Below.trod laidOut (by kernel_rfl) (of_decide_eq_true (by kernel_rfl)) k1 bel lt1) trodAll_mk0)), rfl, bel.frame _, fun h => by cases h⟩

theorem over : Rows.zigBytesRow.holds Try.pinned (OpenSpec.ofChange Rows.zigBytesSpec) :=
  OpenClaim.holds_of_wide 14 Try.f14 rfl rfl rfl rfl rfl rfl rfl ⟨rfl, rfl, rfl, rfl, rfl⟩ rfl rfl rfl rfl rfl (by kernel_rfl) Try.func14 (by kernel_rfl)
    (of_decide_eq_true (by kernel_rfl)) (by unfold Func.isWrapper; first | (rw [if_pos (by decide +kernel)]; kernel_rfl) | (rw [if_neg (by decide +kernel)]; exact ⟨rfl, rfl⟩))
    (fun os started H enc _ => lifted os started H enc)

/-- The statement. -/
theorem proved : Rows.ZigBytesSaid := over
#print axioms proved
end Go.Proofs.Ytojhhcfpnbdobaa.zigBytes
