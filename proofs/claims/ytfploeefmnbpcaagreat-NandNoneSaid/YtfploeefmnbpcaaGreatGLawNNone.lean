import Derived.Test.YtfploeefmnbpcaaGreatG04
/- No flash, no plan: what the methods are asked to tell. -/
namespace Go.Proofs.YtfploeefmnbpcaaGreat
open Go.RowKit Mp

/-- No flash. -/
structure NandN : Prop where
  program : ∀ (x y z : Int) (pg : List Nat) (w : World), Calls Tryz.prog 18 #[.pointer none, geoV x y z, encP pg] w fun e w' => e = .returned (.int .i64 12) ∧ Below w.heap.size w w'
  read : ∀ (x y z : Int) (w : World), Calls Tryz.prog 23 #[.pointer none, geoV x y z] w fun e w' => e = .returned (.tuple #[encP FlM.noPage, .int .i64 12]) ∧ Below w.heap.size w w'
  erase : ∀ (x y : Int) (w : World), Calls Tryz.prog 17 #[.pointer none, .int .i64 x, .int .i64 y] w fun e w' => e = .returned (.int .i64 12) ∧ Below w.heap.size w w'
  next : ∀ (x y : Int) (w : World), Calls Tryz.prog 20 #[.pointer none, .int .i64 x, .int .i64 y] w fun e w' => e = .returned (.int .i64 0) ∧ Below w.heap.size w w'
  worn : ∀ (x y : Int) (w : World), Calls Tryz.prog 36 #[.pointer none, .int .i64 x, .int .i64 y] w fun e w' => e = .returned (.int .i64 0) ∧ Below w.heap.size w w'
  dead : ∀ (x : Int) (w : World), Calls Tryz.prog 26 #[.pointer none, .int .i64 x] w fun e w' => e = .returned (.bool true) ∧ Below w.heap.size w w'
  fault : ∀ (at' kind x y z n v : Int) (w : World), Calls Tryz.prog 25 #[.pointer none, .agg #[.int .i64 at', .int .i64 kind, .int .i64 x, .int .i64 y, .int .i64 z, .int .i64 n, .int .i64 v]] w fun e w' => e = .returned (.bool false) ∧ Below w.heap.size w w'
  cut : ∀ (ops keep : Int) (w : World), Calls Tryz.prog 21 #[.pointer none, .int .i64 ops, .int .i64 keep] w fun e w' => e = .returned (.tuple #[]) ∧ Below w.heap.size w w'
  on : ∀ (w : World), Calls Tryz.prog 22 #[.pointer none] w fun e w' => e = .returned (.tuple #[]) ∧ Below w.heap.size w w'
  power : ∀ (w : World), Calls Tryz.prog 37 #[.pointer none] w fun e w' => e = .returned (.bool false) ∧ Below w.heap.size w w'
  ops : ∀ (w : World), Calls Tryz.prog 24 #[.pointer none] w fun e w' => e = .returned (.int .i64 0) ∧ Below w.heap.size w w'
  broken : ∀ (w : World), Calls Tryz.prog 19 #[.pointer none] w fun e w' => e = .returned (.int .i64 0) ∧ Below w.heap.size w w'
  geo : ∀ (w : World), Calls Tryz.prog 38 #[.pointer none] w fun e w' => e = .returned (geoV 0 0 0) ∧ Below w.heap.size w w'
/-- No plan. -/
structure PlanN : Prop where
  due : ∀ (ops : Int) (w : World), Calls Tryz.prog 35 #[.pointer none, .int .i64 ops] w fun e w' => e = .returned (.slice none 0 0) ∧ Below w.heap.size w w'
  run : ∀ (w : World), Calls Tryz.prog 39 #[.pointer none, .pointer none] w fun e w' => e = .returned (.int .i64 0) ∧ Below w.heap.size w w'
  left : ∀ (w : World), Calls Tryz.prog 34 #[.pointer none] w fun e w' => e = .returned (.int .i64 0) ∧ Below w.heap.size w w'
theorem eqG (a b : A3) (w : World) : (Op.equalIn 10000 25 (.agg #[.int .i64 a.1, .int .i64 a.2.1, .int .i64 a.2.2]) (.agg #[.int .i64 b.1, .int .i64 b.2.1, .int .i64 b.2.2])).run Tryz.prog w = .ok (decide (a = b)) w := by
  obtain ⟨x, y, z⟩ := a
  obtain ⟨x', y', z'⟩ := b
  have u3 := Tryz.underlying3
  have a3 := Tryz.isAgg3
  have z3 := Tryz.sizeOf3
  have hS : Tryz.prog.underlying 25 = some (.struct (Tryz.prog.fieldsOf 25)) := by kernel_rfl
  have hp : Tryz.prog.stoodInHeld 25 = false := by kernel_rfl
  rw [show (10000 : Nat) = 9999 + 1 from rfl, run_equalIn_struct w 9999 25 _ _ hS hp]
  simp only [Program.fieldsOf, Tryz.underlying25]
  go_simp
  by_cases h1 : x = x' <;> by_cases h2 : y = y' <;> by_cases h3 : z = z' <;> simp [h1, h2, h3]

set_option maxRecDepth 100000 in
set_option maxHeartbeats 4000000 in
theorem nandNone_walk (C : NandN) (P : PlanN) (G : Begun7) (w : World) :
    Calls Tryz.prog 8 #[] w fun e w' => e = .returned (.bool true) ∧ Below w.heap.size w w' := by
  have HC := Lib.hid C
  have HP := Lib.hid P
  have HG := Lib.hid G
  have hq := fun w => eqG (0, 0, 0) (0, 0, 0) w
  simp only [decide_true] at hq
  have HQ := Lib.hid hq
  clear C G P hq
  go_enter Tryz.func8, Tryz.ntmps8
  go_wp2_with fail
  refine (HC.out.read 0 0 0 _).mono ?_
  rintro e w1 ⟨rfl, hb⟩
  have HB := Lib.hid (hb.alloc hb.size (.cells (cellsP FlM.noPage).toArray 34))
  clear hb
  go_wp2_with (refine wpList_storeP _ rfl _ _ rfl w1 _ rfl rfl rfl FlM.noPage rfl rfl ?_)
  generalize w1.alloc (.cells (cellsP FlM.noPage).toArray 34) = v at HB ⊢
  refine (HC.out.cut 1 1 _).mono ?_
  rintro e v1 ⟨rfl, hb⟩
  replace HB := Lib.hid (HB.out.trans (hb.mono HB.out.size))
  clear hb
  go_wp2_with fail
  refine (HC.out.on _).mono ?_
  rintro e v2 ⟨rfl, hb⟩
  replace HB := Lib.hid (HB.out.trans (hb.mono HB.out.size))
  clear hb
  go_wp2_with fail
  refine (HG.out _).mono ?_
  rintro e v3 ⟨rfl, hb⟩
  replace HB := Lib.hid (HB.out.trans (hb.mono HB.out.size))
  clear hb
  go_wp2_with fail
  refine (HC.out.program 0 0 0 (pgN 0) _).mono ?_
  rintro e v4 ⟨rfl, hb⟩
  replace HB := Lib.hid (HB.out.trans (hb.mono HB.out.size))
  clear hb
  go_wp2_with fail
  refine (HC.out.erase 0 0 _).mono ?_
  rintro e v5 ⟨rfl, hb⟩
  replace HB := Lib.hid (HB.out.trans (hb.mono HB.out.size))
  clear hb
  go_wp2_with fail
  refine (HC.out.next 0 0 _).mono ?_
  rintro e v6 ⟨rfl, hb⟩
  replace HB := Lib.hid (HB.out.trans (hb.mono HB.out.size))
  clear hb
  go_wp2_with fail
  refine (HC.out.worn 0 0 _).mono ?_
  rintro e v7 ⟨rfl, hb⟩
  replace HB := Lib.hid (HB.out.trans (hb.mono HB.out.size))
  clear hb
  go_wp2_with fail
  refine (HC.out.dead 0 _).mono ?_
  rintro e v8 ⟨rfl, hb⟩
  replace HB := Lib.hid (HB.out.trans (hb.mono HB.out.size))
  clear hb
  go_wp2_with fail
  refine (HC.out.fault 0 4 0 0 0 0 0 _).mono ?_
  rintro e v9 ⟨rfl, hb⟩
  replace HB := Lib.hid (HB.out.trans (hb.mono HB.out.size))
  clear hb
  go_wp2_with fail
  refine (HC.out.power _).mono ?_
  rintro e v10 ⟨rfl, hb⟩
  replace HB := Lib.hid (HB.out.trans (hb.mono HB.out.size))
  clear hb
  go_wp2_with fail
  refine (HC.out.ops _).mono ?_
  rintro e v11 ⟨rfl, hb⟩
  replace HB := Lib.hid (HB.out.trans (hb.mono HB.out.size))
  clear hb
  go_wp2_with fail
  refine (HC.out.broken _).mono ?_
  rintro e v12 ⟨rfl, hb⟩
  replace HB := Lib.hid (HB.out.trans (hb.mono HB.out.size))
  clear hb
  go_wp2_with fail
  refine (HC.out.geo _).mono ?_
  rintro e v13 ⟨rfl, hb⟩
  replace HB := Lib.hid (HB.out.trans (hb.mono HB.out.size))
  clear hb
  go_wp2_with fail
  refine (HP.out.due 3 _).mono ?_
  rintro e v14 ⟨rfl, hb⟩
  replace HB := Lib.hid (HB.out.trans (hb.mono HB.out.size))
  clear hb
  go_wp2_with fail
  refine (HP.out.run _).mono ?_
  rintro e v15 ⟨rfl, hb⟩
  replace HB := Lib.hid (HB.out.trans (hb.mono HB.out.size))
  clear hb
  go_wp2_with fail
  refine (HP.out.left _).mono ?_
  rintro e v16 ⟨rfl, hb⟩
  replace HB := Lib.hid (HB.out.trans (hb.mono HB.out.size))
  clear hb
  go_wp2_with fail
  go_ret
  exact ⟨rfl, HB.out⟩
end Go.Proofs.YtfploeefmnbpcaaGreat
