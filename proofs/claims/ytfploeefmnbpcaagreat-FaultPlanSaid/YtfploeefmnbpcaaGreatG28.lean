import Derived.Test.YtfploeefmnbpcaaGreatG27
/- A flash's pages and its model, step by step. No walk here. -/
namespace Go.Proofs.YtfploeefmnbpcaaGreat
open Go.RowKit Mp Go.ChangeMaps

section
variable {M M' : FlM} {lp lf : List (A3 × Value)} {x y z : Nat}
theorem getA_put (l : List (A3 × Value)) (x y z x' y' z' : Nat) (v : Value) : getA ((k3 x y z, v) :: delA l (k3 x y z)) (k3 x' y' z') = if x' = x ∧ y' = y ∧ z' = z then some v else getA l (k3 x' y' z') := by
  rw [getA_cons, getA_del]
  by_cases h : k3 x y z = k3 x' y' z'
  · rw [if_pos h, if_pos (by rw [k3_eq] at h; omega)]
  · rw [if_neg h, if_neg h, if_neg (by rw [k3_eq] at h; omega)]
theorem RelP.congr (h : RelP lp M) (e1 : M'.d = M.d) (e2 : M'.b = M.b) (e3 : M'.p = M.p) (e4 : ∀ x y, (M'.blk x y).next = (M.blk x y).next ∧ (M'.blk x y).pages = (M.blk x y).pages) : RelP lp M' :=
  ⟨h.ok, fun x y z hx hy hz => by rw [(e4 x y).2]; exact h.has x y z (e1 ▸ hx) (e2 ▸ hy) ((e4 x y).1 ▸ hz), fun x y z hx hy hz hn => h.no x y z (e1 ▸ hx) (e2 ▸ hy) (e3 ▸ hz) ((e4 x y).1 ▸ hn)⟩
theorem RelF.congr (h : RelF lf M) (e1 : M'.d = M.d) (e2 : M'.b = M.b) (e3 : M'.p = M.p) (e4 : ∀ x y, (M'.blk x y).next = (M.blk x y).next ∧ (M'.blk x y).fails = (M.blk x y).fails) : RelF lf M' :=
  ⟨h.ok, fun x y z hx hy hz hn => by rw [(e4 x y).2]; exact h.at' x y z (e1 ▸ hx) (e2 ▸ hy) (e3 ▸ hz) ((e4 x y).1 ▸ hn)⟩
/-- A page turns. -/
theorem RelP.put (h : RelP lp M) (e1 : M'.d = M.d) (e2 : M'.b = M.b) (e3 : M'.p = M.p) (hs : ∀ x' y', ¬ (x' = x ∧ y' = y) → M'.blk x' y' = M.blk x' y') {n : Nat} {P : PgM} (hn : (M'.blk x y).next = n) (hpg : (M'.blk x y).pages = upd (M.blk x y).pages z P)
    (hz : z < n) (hlt : ∀ z', z' ≠ z → (z' < n ↔ z' < (M.blk x y).next)) {bs : List Nat} (hok : okP bs) (hP : P.cant = false → bs = P.bytes) : RelP ((k3 x y z, pgV bs P.cant P.turned) :: delA lp (k3 x y z)) M' := by
  refine ⟨ok_cons h.ok _ (okV_pgV _ _ hok.1), fun x' y' z' hx hy hz' => ?_, fun x' y' z' hx hy hz' hn' => ?_⟩
  · rw [getA_put]
    by_cases e : x' = x ∧ y' = y
    · obtain ⟨rfl, rfl⟩ := e
      rw [hpg]
      by_cases ez : z' = z
      · subst ez
        rw [if_pos ⟨rfl, rfl, rfl⟩, upd_same]
        exact ⟨bs, rfl, hok, hP⟩
      · rw [if_neg (by omega), upd_off _ _ ez]
        exact h.has _ _ _ (e1 ▸ hx) (e2 ▸ hy) ((hlt z' ez).1 (hn ▸ hz'))
    · rw [if_neg (by omega), hs _ _ e]
      exact h.has _ _ _ (e1 ▸ hx) (e2 ▸ hy) (hs _ _ e ▸ hz')
  · rw [getA_put]
    by_cases e : x' = x ∧ y' = y
    · obtain ⟨rfl, rfl⟩ := e
      rw [hn] at hn'
      have ez : z' ≠ z := by omega
      rw [if_neg (by omega)]
      exact h.no _ _ _ (e1 ▸ hx) (e2 ▸ hy) (e3 ▸ hz') (by have := (hlt z' ez).2; omega)
    · rw [if_neg (by omega)]
      exact h.no _ _ _ (e1 ▸ hx) (e2 ▸ hy) (e3 ▸ hz') (hs _ _ e ▸ hn')
/-- A page was programmed: what was told of its program is used. -/
theorem RelF.used (h : RelF lf M) (e1 : M'.d = M.d) (e2 : M'.b = M.b) (e3 : M'.p = M.p) (hs : ∀ x' y', ¬ (x' = x ∧ y' = y) → M'.blk x' y' = M.blk x' y') (hn : (M'.blk x y).next = z + 1) (hz : z = (M.blk x y).next) (hf : (M'.blk x y).fails = (M.blk x y).fails) : RelF (delA lf (k3 x y z)) M' := by
  refine ⟨ok_del h.ok _, fun x' y' z' hx hy hz' hn' => ?_⟩
  rw [getA_del]
  by_cases e : x' = x ∧ y' = y
  · obtain ⟨rfl, rfl⟩ := e
    rw [hn] at hn'
    rw [if_neg (by rw [k3_eq]; omega), hf]
    exact h.at' _ _ _ (e1 ▸ hx) (e2 ▸ hy) (e3 ▸ hz') (by omega)
  · rw [if_neg (by rw [k3_eq]; omega), hs _ _ e]
    exact h.at' _ _ _ (e1 ▸ hx) (e2 ▸ hy) (e3 ▸ hz') (hs _ _ e ▸ hn')
/-- A fault of a program is told. -/
theorem RelF.tell (h : RelF lf M) (e1 : M'.d = M.d) (e2 : M'.b = M.b) (e3 : M'.p = M.p) (hs : ∀ x' y', ¬ (x' = x ∧ y' = y) → M'.blk x' y' = M.blk x' y') (hn : (M'.blk x y).next = (M.blk x y).next) (hf : (M'.blk x y).fails = upd (M.blk x y).fails z true) : RelF ((k3 x y z, .agg #[]) :: delA lf (k3 x y z)) M' := by
  refine ⟨ok_cons h.ok _ ⟨[], rfl, rfl, fun v hv => by cases hv⟩, fun x' y' z' hx hy hz' hn' => ?_⟩
  rw [getA_put]
  by_cases e : x' = x ∧ y' = y
  · obtain ⟨rfl, rfl⟩ := e
    rw [hf]
    by_cases ez : z' = z
    · subst ez; rw [if_pos ⟨rfl, rfl, rfl⟩, upd_same]; rfl
    · rw [if_neg (by omega), upd_off _ _ ez]
      exact h.at' _ _ _ (e1 ▸ hx) (e2 ▸ hy) (e3 ▸ hz') (hn ▸ hn')
  · rw [if_neg (by omega), hs _ _ e]
    exact h.at' _ _ _ (e1 ▸ hx) (e2 ▸ hy) (e3 ▸ hz') (hs _ _ e ▸ hn')
/-- A block is as new. -/
theorem RelP.clean (h : RelP lp M) (e1 : M'.d = M.d) (e2 : M'.b = M.b) (e3 : M'.p = M.p) (hs : ∀ x' y', ¬ (x' = x ∧ y' = y) → M'.blk x' y' = M.blk x' y') (hn : (M'.blk x y).next = 0) : RelP (delsK lp x y M.p) M' := by
  refine ⟨ok_dels h.ok _ _ _, fun x' y' z' hx hy hz' => ?_, fun x' y' z' hx hy hz' hn' => ?_⟩
  · by_cases e : x' = x ∧ y' = y
    · obtain ⟨rfl, rfl⟩ := e; rw [hn] at hz'; omega
    · rw [getA_dels, if_neg (by omega), hs _ _ e]
      exact h.has _ _ _ (e1 ▸ hx) (e2 ▸ hy) (hs _ _ e ▸ hz')
  · rw [getA_dels]
    by_cases e : x' = x ∧ y' = y
    · rw [if_pos ⟨e.1, e.2, e3 ▸ hz'⟩]
    · rw [if_neg (by omega)]
      exact h.no _ _ _ (e1 ▸ hx) (e2 ▸ hy) (e3 ▸ hz') (hs _ _ e ▸ hn')
theorem RelF.clean (h : RelF lf M) (e1 : M'.d = M.d) (e2 : M'.b = M.b) (e3 : M'.p = M.p) (hs : ∀ x' y', ¬ (x' = x ∧ y' = y) → M'.blk x' y' = M.blk x' y') (hf : (M'.blk x y).fails = fun _ => false) : RelF (delsK lf x y M.p) M' := by
  refine ⟨ok_dels h.ok _ _ _, fun x' y' z' hx hy hz' hn' => ?_⟩
  rw [getA_dels]
  by_cases e : x' = x ∧ y' = y
  · rw [if_pos ⟨e.1, e.2, e3 ▸ hz'⟩]
    obtain ⟨rfl, rfl⟩ := e
    rw [hf]; rfl
  · rw [if_neg (by omega), hs _ _ e]
    exact h.at' _ _ _ (e1 ▸ hx) (e2 ▸ hy) (e3 ▸ hz') (hs _ _ e ▸ hn')
/-- A block is lost. -/
theorem RelP.lost (h : RelP lp M) (e1 : M'.d = M.d) (e2 : M'.b = M.b) (e3 : M'.p = M.p) (hs : ∀ x' y', ¬ (x' = x ∧ y' = y) → M'.blk x' y' = M.blk x' y') (hn : (M'.blk x y).next = M.p) {mk : Nat → Bool} (hc : ∀ z, ((M'.blk x y).pages z).cant = true ∧ ((M'.blk x y).pages z).turned = mk z) : RelP (losesK lp x y mk M.p) M' := by
  refine ⟨ok_loses h.ok _ _ _ _, fun x' y' z' hx hy hz' => ?_, fun x' y' z' hx hy hz' hn' => ?_⟩
  · rw [getA_loses]
    by_cases e : x' = x ∧ y' = y
    · obtain ⟨rfl, rfl⟩ := e
      rw [hn] at hz'
      rw [if_pos ⟨rfl, rfl, hz'⟩, (hc z').1, (hc z').2]
      exact ⟨z32, rfl, okP_z32, fun e => (by cases e)⟩
    · rw [if_neg (by omega), hs _ _ e]
      exact h.has _ _ _ (e1 ▸ hx) (e2 ▸ hy) (hs _ _ e ▸ hz')
  · rw [getA_loses]
    by_cases e : x' = x ∧ y' = y
    · obtain ⟨rfl, rfl⟩ := e; rw [hn] at hn'; rw [e3] at hz'; omega
    · rw [if_neg (by omega)]
      exact h.no _ _ _ (e1 ▸ hx) (e2 ▸ hy) (e3 ▸ hz') (hs _ _ e ▸ hn')
theorem RelF.lost (h : RelF lf M) (e1 : M'.d = M.d) (e2 : M'.b = M.b) (e3 : M'.p = M.p) (hs : ∀ x' y', ¬ (x' = x ∧ y' = y) → M'.blk x' y' = M.blk x' y') (hn : (M'.blk x y).next = M.p) : RelF lf M' := by
  refine ⟨h.ok, fun x' y' z' hx hy hz' hn' => ?_⟩
  by_cases e : x' = x ∧ y' = y
  · obtain ⟨rfl, rfl⟩ := e; rw [hn] at hn'; rw [e3] at hz'; omega
  · rw [hs _ _ e]
    exact h.at' _ _ _ (e1 ▸ hx) (e2 ▸ hy) (e3 ▸ hz') (hs _ _ e ▸ hn')
/-- What stands at a place. -/
theorem RelP.look (h : RelP lp M) (hx : x < M.d) (hy : y < M.b) (hz : z < M.p) : ∃ bs, okP bs ∧ (getA lp (k3 x y z)).isSome = decide (z < (M.blk x y).next) ∧
    (getA lp (k3 x y z)).getD (.agg zPg.toArray) = pgV bs (decide (z < (M.blk x y).next) && ((M.blk x y).pages z).cant) (decide (z < (M.blk x y).next) && ((M.blk x y).pages z).turned) ∧
    (z < (M.blk x y).next → ((M.blk x y).pages z).cant = false → bs = ((M.blk x y).pages z).bytes) := by
  by_cases hn : z < (M.blk x y).next
  · obtain ⟨bs, h1, h2, h3⟩ := h.has x y z hx hy hn
    refine ⟨bs, h2, ?_, ?_, fun _ => h3⟩
    · rw [h1]; simp [hn]
    · rw [h1]; simp [hn]
  · have h1 := h.no x y z hx hy hz (by omega)
    refine ⟨z32, okP_z32, ?_, ?_, fun e => absurd e hn⟩
    · rw [h1]; simp [hn]
    · rw [h1]; simp [hn]; exact zPg_eq
theorem setB_off (M : FlM) (B : BlkM) {x' y' : Nat} (h : ¬ (x' = x ∧ y' = y)) : (M.setB x y B).blk x' y' = M.blk x' y' := by rw [blk_setB, if_neg h]
theorem tick_off (M : FlM) (B : BlkM) {x' y' : Nat} (h : ¬ (x' = x ∧ y' = y)) : (M.tick.setB x y B).blk x' y' = M.blk x' y' := by rw [blk_setB, if_neg h, tick_blk]
end
end Go.Proofs.YtfploeefmnbpcaaGreat

/- The landed flash does what its contracts ask. -/
namespace Go.Proofs.YtfploeefmnbpcaaGreat
open Go.RowKit Mp Go.ChangeMaps

section
variable {F0 : Nat → Prop} {w0 w w' : World} {g : Nat} {M : FlM} {lp lf : List (A3 × Value)} {L : List Nat} {F : Nat → Prop}
theorem FlX.setB_same {x y : Nat} {B B' : BlkM} (h : FlX F0 w0 w g (M.setB x y B) lp lf L) (h1 : B'.next = B.next) (h2 : B'.worn = B.worn) (h3 : B'.told = B.told) (h4 : B'.met = B.met) : FlX F0 w0 w g (M.setB x y B') lp lf L :=
  h.same fun c hc => hc.congr rfl rfl rfl rfl rfl rfl rfl (fun _ _ => rfl) fun x' y' _ _ => by
    rw [blk_setB, blk_setB]
    by_cases e : x' = x ∧ y' = y
    · rw [if_pos e, if_pos e]; exact ⟨h1, h2, h3, h4⟩
    · rw [if_neg e, if_neg e]; exact ⟨rfl, rfl, rfl, rfl⟩
/-- What becomes of a page that is programmed. -/
def progP (cut : Option Nat) (bad : Bool) (pg : List Nat) : PgM :=
  match cut with
  | some j => { bytes := headL pg j, turned := true }
  | none => if bad = true then { cant := true } else { bytes := pg }
theorem program_go {X Y Z : Nat} (pg : List Nat) (h : M.bars X Y Z = none) (hz : Z = (M.blk X Y).next) :
    M.program X Y Z pg = ((progV M.cutNow ((M.blk X Y).fails Z || (M.blk X Y).met) pg).1, M.tick.setB X Y { M.blk X Y with next := Z + 1, pages := upd (M.blk X Y).pages Z (progP M.cutNow ((M.blk X Y).fails Z || (M.blk X Y).met) pg) }) := by
  subst hz
  unfold FlM.program
  rw [h]
  simp only [Int.toNat_natCast, ne_eq, not_true_eq_false, if_false]
  cases hc : M.cutNow with
  | some j => rfl
  | none =>
    cases hm : (M.blk X Y).met <;> cases hf : (M.blk X Y).fails (M.blk X Y).next <;> simp [progV, progP]
theorem progP_ok (cut : Option Nat) (bad : Bool) {pg : List Nat} (hp : okP pg) (hj : ∀ j, cut = some j → j ≤ 32) : ∃ bs, okP bs ∧ (progV cut bad pg).2 = pgV bs (progP cut bad pg).cant (progP cut bad pg).turned ∧ ((progP cut bad pg).cant = false → bs = (progP cut bad pg).bytes) := by
  cases cut with
  | some j => exact ⟨headL pg j, okP_headL hp j (hj j rfl), rfl, fun _ => rfl⟩
  | none =>
    cases bad with
    | true => exact ⟨z32, okP_z32, rfl, fun e => (by cases e)⟩
    | false => exact ⟨pg, hp, rfl, fun _ => rfl⟩
theorem FlX.keep32 (h : FlX F0 w0 w g M lp lf L) (hp : M.power = true) : ∀ j, M.cutNow = some j → j ≤ 32 := by
  intro j hj
  obtain ⟨s, l, k, _, _, _, hc⟩ := h.cut
  have hc := hc hp
  unfold FlM.cutNow at hj
  split at hj
  · rename_i k' e
    cases hj
    rw [e] at hc
    obtain ⟨_, _, _, hj⟩ := hc
    omega
  · cases hj

theorem isL_program (x y z : Int) (pg : List Nat) (h : IsL w g M F) (hp : okP pg) (ho : M.ops < 4000000000000000000) (hb : M.broken < 4000000000000000000) :
    Calls Tryz.prog 18 #[nptr g, geoV x y z, encP pg] w fun e w' => e = .returned (.int .i64 (M.program x y z pg).1) ∧ Turned IsL g F w w' (M.program x y z pg).2 := by
  obtain ⟨lp, lf, hX, hP, hF⟩ := h.begin
  have hl := hX.lim
  cases hba : M.bars x y z with
  | some er =>
    rw [FlM.program_bar _ hba]
    exact (prog_err hX (x, y, z) pg er hba).mono fun e w' ⟨h1, h2⟩ => ⟨h1, (hX.below h2).1.done hP hF⟩
  | none =>
    obtain ⟨hpow, hi, hd⟩ := bars_in hba
    obtain ⟨X, Y, Z, rfl, rfl, rfl, hx, hy, hz⟩ := in_nat hi
    by_cases hzn : Z = (M.blk X Y).next
    · rw [program_go pg hba hzn]
      have hlp : getA lp (k3 X Y Z) = none := hP.no X Y Z hx hy hz (by omega)
      have hlf := hF.at' X Y Z hx hy hz (by omega)
      refine (prog_go hX X Y Z pg hp hba (by omega) (by omega) hz (by omega) hzn ho hP.ok hF.ok hlp _ hlf).mono fun e w' ⟨h1, h2⟩ => ⟨h1, ?_⟩
      rw [tick_setB] at h2
      obtain ⟨bs, k1, k2, k3'⟩ := progP_ok M.cutNow ((M.blk X Y).fails Z || (M.blk X Y).met) hp (hX.keep32 hpow)
      rw [k2] at h2
      have h3 := h2.setB_same (B' := { M.blk X Y with next := Z + 1, pages := upd (M.blk X Y).pages Z (progP M.cutNow ((M.blk X Y).fails Z || (M.blk X Y).met) pg) }) rfl rfl rfl rfl
      refine h3.done ?_ ?_
      · refine hP.put (n := Z + 1) (by exact tick_d M) (by exact tick_b M) (by exact tick_p M) (fun _ _ e => tick_off M _ e) (by rw [FlM.setB_same]) (by rw [FlM.setB_same]) (by omega) (fun z' hne => by omega) k1 k3'
      · exact hF.used (by exact tick_d M) (by exact tick_b M) (by exact tick_p M) (fun _ _ e => tick_off M _ e) (by rw [FlM.setB_same]) hzn (by rw [FlM.setB_same])
    · rw [FlM.program_order pg hba (by simp only [Int.toNat_natCast]; omega)]
      exact (prog_order hX X Y Z pg hba (by omega) (by omega) hzn hb).mono fun e w' ⟨h1, h2⟩ => ⟨h1, h2.done (hP.congr rfl rfl rfl fun _ _ => ⟨rfl, rfl⟩) (hF.congr rfl rfl rfl fun _ _ => ⟨rfl, rfl⟩)⟩
theorem isL_read (x y z : Int) (h : IsL w g M F) :
    Calls Tryz.prog 23 #[nptr g, geoV x y z] w fun e w' => e = .returned (.tuple #[encP (M.read x y z).1, .int .i64 (M.read x y z).2]) ∧ okP (M.read x y z).1 ∧ Below w.heap.size w w' := by
  obtain ⟨lp, lf, hX, hP, hF⟩ := h.begin
  have hl := hX.lim
  cases hba : M.bars x y z with
  | some er =>
    rw [FlM.read_bar hba]
    exact (read_err hX (x, y, z) er hba).mono fun e w' ⟨h1, h2⟩ => ⟨h1, okP_z32, h2⟩
  | none =>
    obtain ⟨hpow, hi, hd⟩ := bars_in hba
    obtain ⟨X, Y, Z, rfl, rfl, rfl, hx, hy, hz⟩ := in_nat hi
    obtain ⟨bs, k1, k2, k3', k4⟩ := hP.look hx hy hz
    refine (read_ok hX (k3 X Y Z) (okA_k3 (by omega) (by omega) (by omega)) hP.ok bs _ _ _ hba k3' k2 k1.1).mono fun e w' ⟨h1, h2⟩ => ?_
    by_cases hn : Z < (M.blk X Y).next
    · cases hc : ((M.blk X Y).pages Z).cant with
      | true =>
        rw [FlM.read_cant hba (by simp only [Int.toNat_natCast]; omega) (by simp only [Int.toNat_natCast]; exact hc)]
        rw [hc] at h1
        simp only [hn, decide_true, Bool.true_and, Bool.true_eq_false, if_false, if_true] at h1
        exact ⟨h1, okP_z32, h2⟩
      | false =>
        rw [FlM.read_ok hba (by simp only [Int.toNat_natCast]; omega) (by simp only [Int.toNat_natCast]; exact hc)]
        rw [hc, k4 hn hc] at h1
        simp only [hn, decide_true, Bool.true_and, Bool.true_eq_false, Bool.false_eq_true, if_false] at h1
        simp only [Int.toNat_natCast]
        exact ⟨h1, k4 hn hc ▸ k1, h2⟩
    · rw [FlM.read_erased hba (by simp only [Int.toNat_natCast]; omega)]
      simp only [hn, decide_false, if_true] at h1
      exact ⟨h1, okP_z32, h2⟩
/-- An erase that was met was told. -/
def MetTold (M : FlM) : Prop := ∀ x y, (M.blk x y).met = true → (M.blk x y).told = true
theorem isL_erase (x y : Int) (h : IsL w g M F) (hmt : MetTold M) (ho : M.ops < 4000000000000000000) (hw : (M.blk x.toNat y.toNat).worn < 4000000000000000000) :
    Calls Tryz.prog 17 #[nptr g, .int .i64 x, .int .i64 y] w fun e w' => e = .returned (.int .i64 (M.erase x y).1) ∧ Turned IsL g F w w' (M.erase x y).2 := by
  obtain ⟨lp, lf, hX, hP, hF⟩ := h.begin
  have hl := hX.lim
  cases hba : M.bars x y 0 with
  | some er =>
    rw [FlM.erase_bar hba]
    exact (erase_err hX x y er hba).mono fun e w' ⟨h1, h2⟩ => ⟨h1, (hX.below h2).1.done hP hF⟩
  | none =>
    obtain ⟨hpow, hi, hd⟩ := bars_in hba
    obtain ⟨X, Y, Z, rfl, rfl, -, hx, hy, -⟩ := in_nat hi
    simp only [Int.toNat_natCast] at hw
    cases hc : M.cutNow with
    | some j =>
      have he : M.erase X Y = (9, M.tick.setB X Y { M.blk X Y with next := M.p, pages := fun k => { bytes := ((M.blk X Y).pages k).bytes, cant := true, turned := decide (k < (M.blk X Y).next) && ((M.blk X Y).pages k).turned } }) := by
        unfold FlM.erase; rw [hba]; simp only [hc, Int.toNat_natCast]
      rw [he]
      refine (erase_cut hX X Y hba (by omega) (by omega) ho j hc hP.ok (fun z => decide (z < (M.blk X Y).next) && ((M.blk X Y).pages z).turned) (fun z hz => ?_)).mono fun e w' ⟨h1, h2⟩ => ⟨h1, ?_⟩
      · obtain ⟨bs, k1, _, k3', _⟩ := hP.look hx hy hz
        exact ⟨bs, _, k3', k1.1⟩
      · have h3 := h2.setB_same (B' := { M.blk X Y with next := M.p, pages := fun k => { bytes := ((M.blk X Y).pages k).bytes, cant := true, turned := decide (k < (M.blk X Y).next) && ((M.blk X Y).pages k).turned } }) rfl (by rw [tick_blk]) (by rw [tick_blk]) (by rw [tick_blk])
        exact h3.done (hP.lost (by exact tick_d M) (by exact tick_b M) (by exact tick_p M) (fun _ _ e => tick_off M _ e) (by rw [FlM.setB_same]) (fun z => by rw [FlM.setB_same]; exact ⟨rfl, rfl⟩)) (hF.lost (x := X) (y := Y) (by exact tick_d M) (by exact tick_b M) (by exact tick_p M) (fun _ _ e => tick_off M _ e) (by rw [FlM.setB_same]))
    | none =>
      cases ht : (M.blk X Y).told with
      | true =>
        rw [FlM.erase_fail hba hc (by simp only [Int.toNat_natCast]; exact ht)]
        simp only [Int.toNat_natCast]
        refine (erase_told hX X Y hba (by omega) (by omega) ho hc ht).mono fun e w' ⟨h1, h2⟩ => ⟨h1, ?_⟩
        rw [tick_blk] at h2
        have hb : ∀ x' y', ((M.tick.setB X Y { M.blk X Y with met := true }).blk x' y').next = (M.blk x' y').next ∧ ((M.tick.setB X Y { M.blk X Y with met := true }).blk x' y').pages = (M.blk x' y').pages ∧ ((M.tick.setB X Y { M.blk X Y with met := true }).blk x' y').fails = (M.blk x' y').fails := by
          intro x' y'
          by_cases e : x' = X ∧ y' = Y
          · obtain ⟨rfl, rfl⟩ := e; rw [FlM.setB_same]; exact ⟨rfl, rfl, rfl⟩
          · rw [tick_off M _ e]; exact ⟨rfl, rfl, rfl⟩
        exact h2.done (hP.congr (by exact tick_d M) (by exact tick_b M) (by exact tick_p M) fun x y => ⟨(hb x y).1, (hb x y).2.1⟩) (hF.congr (by exact tick_d M) (by exact tick_b M) (by exact tick_p M) fun x y => ⟨(hb x y).1, (hb x y).2.2⟩)
      | false =>
        have he : M.erase X Y = (0, M.tick.setB X Y { worn := (M.blk X Y).worn + 1 }) := by
          unfold FlM.erase; rw [hba]; simp only [hc, Int.toNat_natCast, ht]; rfl
        rw [he]
        refine (erase_go hX X Y hba (by omega) (by omega) ho hw hc ht hP.ok hF.ok).mono fun e w' ⟨h1, h2⟩ => ⟨h1, ?_⟩
        have hm : (M.blk X Y).met = false := by
          cases hm : (M.blk X Y).met with
          | false => rfl
          | true => rw [hmt X Y hm] at ht; cases ht
        have h3 := h2.setB_same (B' := { worn := (M.blk X Y).worn + 1 }) rfl rfl (by rw [tick_blk]; exact ht.symm) (by rw [tick_blk]; exact hm.symm)
        exact h3.done (hP.clean (by exact tick_d M) (by exact tick_b M) (by exact tick_p M) (fun _ _ e => tick_off M _ e) (by rw [FlM.setB_same])) (hF.clean (by exact tick_d M) (by exact tick_b M) (by exact tick_p M) (fun _ _ e => tick_off M _ e) (by rw [FlM.setB_same]))
theorem setB_off' (M : FlM) {x y : Nat} (B : BlkM) {x' y' : Nat} (h : ¬ (x' = x ∧ y' = y)) : (M.setB x y B).blk x' y' = M.blk x' y' := setB_off M B h
theorem okP_turnAt {p : List Nat} (h : okP p) (n : Nat) (v : Int) : okP (FlM.turnAt p n v) := by
  obtain ⟨h1, h2⟩ := h
  refine ⟨by unfold FlM.turnAt; rw [List.length_set]; exact h1, fun x hx => ?_⟩
  unfold FlM.turnAt at hx
  rcases List.mem_or_eq_of_mem_set hx with hx | rfl
  · exact h2 x hx
  · refine Nat.xor_lt_two_pow (n := 8) ?_ (by omega)
    rw [List.getD_eq_getElem?_getD]
    cases hg : p[n]? with
    | none => simp
    | some u => exact h2 u (List.mem_of_getElem? hg)
theorem isL_fault (at' kind x y z n v : Int) (h : IsL w g M F) :
    Calls Tryz.prog 25 #[nptr g, encFt at' kind x y z n v] w fun e w' => e = .returned (.bool (M.fault kind x y z n v).1) ∧ Turned IsL g F w w' (M.fault kind x y z n v).2 := by
  obtain ⟨lp, lf, hX, hP, hF⟩ := h.begin
  have hl := hX.lim
  cases hi : inGB M.d M.b M.p x y z with
  | false =>
    have he : M.fault kind x y z n v = (false, M) := by unfold FlM.fault; rw [if_pos (.inl hi)]
    rw [he]
    exact (fault_out hX at' kind x y z n v hi).mono fun e w' ⟨h1, h2⟩ => ⟨h1, h2.done hP hF⟩
  | true =>
    obtain ⟨X, Y, Z, rfl, rfl, rfl, hx, hy, hz⟩ := in_nat hi
    have hok : okA (k3 X Y Z) := okA_k3 (by omega) (by omega) (by omega)
    obtain ⟨bs, k1, k2, k3', k4⟩ := hP.look hx hy hz
    by_cases hk : kind < 1 ∨ 5 < kind
    · have he : M.fault kind X Y Z n v = (false, M) := by unfold FlM.fault; rw [if_pos (.inr hk)]
      rw [he]
      exact (fault_none hX at' kind n v X Y Z hi (by omega) (by omega) (by omega) (by omega) (by omega)).mono fun e w' ⟨h1, h2⟩ => ⟨h1, h2.done hP hF⟩
    have hno : ¬ (inGB M.d M.b M.p X Y Z = false ∨ kind < 1 ∨ 5 < kind) := by rw [hi]; simpa using hk
    rcases (show kind = 1 ∨ kind = 2 ∨ kind = 3 ∨ kind = 4 ∨ kind = 5 by omega) with rfl | rfl | rfl | rfl | rfl
    · have he : M.fault 1 X Y Z n v = (true, M.setB X Y { M.blk X Y with fails := upd (M.blk X Y).fails Z true }) := by unfold FlM.fault; rw [if_neg hno]; rfl
      rw [he]
      refine (fault_1 hX at' n v X Y Z hi hok).mono fun e w' ⟨h1, h2⟩ => ⟨h1, ?_⟩
      have h3 : FlX F w w' g (M.setB X Y { M.blk X Y with fails := upd (M.blk X Y).fails Z true }) _ _ _ := h2.same fun c hc => hc.congr rfl rfl rfl rfl rfl rfl rfl (fun _ _ => rfl) fun x' y' _ _ => by
        rw [blk_setB]; split
        · rename_i e; obtain ⟨rfl, rfl⟩ := e; exact ⟨rfl, rfl, rfl, rfl⟩
        · exact ⟨rfl, rfl, rfl, rfl⟩
      refine h3.done (hP.congr rfl rfl rfl fun x' y' => ?_) (hF.tell (by rfl) (by rfl) (by rfl) (fun _ _ e => setB_off M _ e) (by rw [FlM.setB_same]) (by rw [FlM.setB_same]))
      rw [blk_setB]; split
      · rename_i e; obtain ⟨rfl, rfl⟩ := e; exact ⟨rfl, rfl⟩
      · exact ⟨rfl, rfl⟩
    · have he : M.fault 2 X Y Z n v = (true, M.setB X Y { M.blk X Y with told := true }) := by unfold FlM.fault; rw [if_neg hno]; rfl
      rw [he]
      refine (fault_2 hX at' n v X Y Z hi (by omega) (by omega)).mono fun e w' ⟨h1, h2⟩ => ⟨h1, ?_⟩
      have hb : ∀ x' y', ((M.setB X Y { M.blk X Y with told := true }).blk x' y').next = (M.blk x' y').next ∧ ((M.setB X Y { M.blk X Y with told := true }).blk x' y').pages = (M.blk x' y').pages ∧ ((M.setB X Y { M.blk X Y with told := true }).blk x' y').fails = (M.blk x' y').fails := by
        intro x' y'
        by_cases e : x' = X ∧ y' = Y
        · obtain ⟨rfl, rfl⟩ := e; rw [FlM.setB_same]; exact ⟨rfl, rfl, rfl⟩
        · rw [setB_off M _ e]; exact ⟨rfl, rfl, rfl⟩
      exact h2.done (hP.congr rfl rfl rfl fun x y => ⟨(hb x y).1, (hb x y).2.1⟩) (hF.congr rfl rfl rfl fun x y => ⟨(hb x y).1, (hb x y).2.2⟩)
    · have he : M.fault 3 X Y Z n v = (true, if Z < (M.blk X Y).next then M.setB X Y { M.blk X Y with pages := upd (M.blk X Y).pages Z { (M.blk X Y).pages Z with cant := true } } else M) := by
        unfold FlM.fault; rw [if_neg hno]
        simp only [Int.toNat_natCast]
        by_cases e : Z < (M.blk X Y).next
        · rw [if_pos e]; simp [e]
        · rw [if_neg e]; simp [e]
      rw [he]
      refine (fault_3 hX at' n v X Y Z hi hok hP.ok bs _ _ _ k3' k2 k1).mono fun e w' ⟨h1, h2⟩ => ⟨h1, ?_⟩
      by_cases hn : Z < (M.blk X Y).next
      · simp only [hn, decide_true, Bool.true_and, if_true] at h2 ⊢
        have h3 : FlX F w w' g (M.setB X Y { M.blk X Y with pages := upd (M.blk X Y).pages Z { (M.blk X Y).pages Z with cant := true } }) _ _ _ := h2.same fun c hc => hc.congr rfl rfl rfl rfl rfl rfl rfl (fun _ _ => rfl) fun x' y' _ _ => by
          rw [blk_setB]; split
          · rename_i e; obtain ⟨rfl, rfl⟩ := e; exact ⟨rfl, rfl, rfl, rfl⟩
          · exact ⟨rfl, rfl, rfl, rfl⟩
        refine h3.done (hP.put (P := { (M.blk X Y).pages Z with cant := true }) (n := (M.blk X Y).next) (by rfl) (by rfl) (by rfl) (fun _ _ e => setB_off M _ e) (by rw [FlM.setB_same]) (by rw [FlM.setB_same]) hn (fun _ _ => Iff.rfl) okP_z32 (fun e => (by cases e))) (hF.congr rfl rfl rfl fun x' y' => ?_)
        rw [blk_setB]; split
        · rename_i e; obtain ⟨rfl, rfl⟩ := e; exact ⟨rfl, rfl⟩
        · exact ⟨rfl, rfl⟩
      · simp only [hn, decide_false, Bool.false_eq_true, if_false] at h2 ⊢
        exact h2.done hP hF
    · have he : M.fault 4 X Y Z n v = (true, { M with dead := upd M.dead X true }) := by unfold FlM.fault; rw [if_neg hno]; rfl
      rw [he]
      exact (fault_4 hX at' n v X Y Z hi (by omega)).mono fun e w' ⟨h1, h2⟩ => ⟨h1, h2.done (hP.congr rfl rfl rfl fun _ _ => ⟨rfl, rfl⟩) (hF.congr rfl rfl rfl fun _ _ => ⟨rfl, rfl⟩)⟩
    · refine (fault_5 hX at' n v X Y Z hi hok hP.ok bs _ _ _ k3' k2 k1).mono fun e w' ⟨h1, h2⟩ => ?_
      have he : M.fault 5 X Y Z n v = if n < 0 ∨ 31 < n then (false, M) else if (M.blk X Y).next ≤ Z then (true, M) else if ((M.blk X Y).pages Z).turned = true then (false, M) else if ((M.blk X Y).pages Z).cant = true then (true, M)
          else (true, M.setB X Y { M.blk X Y with pages := upd (M.blk X Y).pages Z { (M.blk X Y).pages Z with bytes := FlM.turnAt ((M.blk X Y).pages Z).bytes n.toNat v, turned := true } }) := by
        unfold FlM.fault; rw [if_neg hno]
        simp only [Int.toNat_natCast, show ¬ ((5 : Int) = 1) by decide, show ¬ ((5 : Int) = 2) by decide, show ¬ ((5 : Int) = 3) by decide, show ¬ ((5 : Int) = 4) by decide, if_false, Int.ofNat_le]
      rw [he]
      by_cases hnn : n < 0 ∨ 31 < n
      · rw [if_pos hnn]
        unfold turnV at h1 h2
        rw [if_pos (by omega)] at h1 h2
        exact ⟨h1, h2.done hP hF⟩
      rw [if_neg hnn]
      by_cases hn : Z < (M.blk X Y).next
      · rw [if_neg (by omega)]
        simp only [hn, decide_true, Bool.true_and] at h1 h2
        cases ht : ((M.blk X Y).pages Z).turned with
        | true =>
          rw [if_pos rfl]
          unfold turnV at h1 h2
          rw [if_pos (.inr (.inr ht))] at h1 h2
          exact ⟨h1, h2.done hP hF⟩
        | false =>
          rw [if_neg (by simp)]
          unfold turnV at h1 h2
          rw [if_neg (by rw [ht]; simpa using hnn)] at h1 h2
          cases hc : ((M.blk X Y).pages Z).cant with
          | true =>
            rw [if_pos rfl]
            rw [if_neg (by rw [hc]; simp)] at h1 h2
            exact ⟨h1, h2.done hP hF⟩
          | false =>
            rw [if_neg (by simp)]
            rw [if_pos ⟨rfl, hc⟩] at h1 h2
            refine ⟨h1, ?_⟩
            have hbs := k4 hn hc
            have h3 : FlX F w w' g (M.setB X Y { M.blk X Y with pages := upd (M.blk X Y).pages Z { (M.blk X Y).pages Z with bytes := FlM.turnAt ((M.blk X Y).pages Z).bytes n.toNat v, turned := true } }) _ _ _ := h2.same fun c hc => hc.congr rfl rfl rfl rfl rfl rfl rfl (fun _ _ => rfl) fun x' y' _ _ => by
              rw [blk_setB]; split
              · rename_i e; obtain ⟨rfl, rfl⟩ := e; exact ⟨rfl, rfl, rfl, rfl⟩
              · exact ⟨rfl, rfl, rfl, rfl⟩
            have hput := hP.put (M' := M.setB X Y { M.blk X Y with pages := upd (M.blk X Y).pages Z { (M.blk X Y).pages Z with bytes := FlM.turnAt ((M.blk X Y).pages Z).bytes n.toNat v, turned := true } }) (x := X) (y := Y) (z := Z)
              (P := { (M.blk X Y).pages Z with bytes := FlM.turnAt ((M.blk X Y).pages Z).bytes n.toNat v, turned := true }) (n := (M.blk X Y).next) rfl rfl rfl (fun _ _ e => setB_off M _ e) (by rw [FlM.setB_same]) (by rw [FlM.setB_same]) hn (fun _ _ => Iff.rfl) (okP_turnAt k1 n.toNat v) (fun _ => by rw [hbs])
            rw [show pgV (FlM.turnAt bs n.toNat v) false true = pgV (FlM.turnAt bs n.toNat v) ((M.blk X Y).pages Z).cant true by rw [hc]] at h3
            refine h3.done hput (hF.congr rfl rfl rfl fun x' y' => ?_)
            rw [blk_setB]; split
            · rename_i e; obtain ⟨rfl, rfl⟩ := e; exact ⟨rfl, rfl⟩
            · exact ⟨rfl, rfl⟩
      · rw [if_pos (by omega)]
        simp only [hn, decide_false, Bool.false_and] at h1 h2
        unfold turnV at h1 h2
        rw [if_neg (by simpa using hnn), if_neg (by simp)] at h1 h2
        exact ⟨h1, h2.done hP hF⟩

/-- A flash between calls; an erase that was met was told. -/
def IsM : IsT := fun w g M F => IsL w g M F ∧ MetTold M
theorem Turned.and {M' : FlM} (h : Turned IsL g F w w' M') (hm : MetTold M') : Turned IsM g F w w' M' := by
  obtain ⟨F', h1, h2⟩ := h; exact ⟨F', ⟨h1, hm⟩, h2⟩
theorem metTold_setB (h : MetTold M) {x y : Nat} {B : BlkM} (hB : B.met = true → B.told = true) : MetTold (M.setB x y B) := by
  intro x' y'
  rw [blk_setB]
  split
  · exact hB
  · exact h x' y'
theorem metTold_tick (h : MetTold M) : MetTold M.tick := by intro x y; rw [tick_blk]; exact h x y
theorem metTold_program (h : MetTold M) (x y z : Int) (pg : List Nat) : MetTold (M.program x y z pg).2 := by
  unfold FlM.program
  split
  · exact h
  · dsimp only
    split
    · exact h
    · split
      · exact metTold_setB (metTold_tick h) (h _ _)
      · split
        · exact metTold_setB (metTold_tick h) (h _ _)
        · exact metTold_setB (metTold_tick h) (h _ _)
theorem metTold_erase (h : MetTold M) (x y : Int) : MetTold (M.erase x y).2 := by
  unfold FlM.erase
  split
  · exact h
  · dsimp only
    split
    · exact metTold_setB (metTold_tick h) (h _ _)
    · split
      · rename_i ht; exact metTold_setB (metTold_tick h) (fun _ => ht)
      · exact metTold_setB (metTold_tick h) (fun e => (by cases e))
theorem metTold_fault (h : MetTold M) (kind x y z n v : Int) : MetTold (M.fault kind x y z n v).2 := by
  unfold FlM.fault
  dsimp only
  repeat' split
  all_goals first | exact h | exact metTold_setB h (h _ _) | exact metTold_setB h (fun _ => rfl)
theorem metTold_cutAt (h : MetTold M) (ops keep : Int) : MetTold (M.cutAt ops keep) := by
  unfold FlM.cutAt
  split
  · exact h
  · split
    · exact h
    · exact h

theorem nandC : NandC IsM where
  lt := by
    rintro w g M F ⟨⟨c, lp, lf, mp, mf, h1, h2, h3, h4, rfl⟩, _⟩ k hk
    exact h1.lt k hk
  keep := by
    rintro w w' g M F ⟨⟨c, lp, lf, mp, mf, h1, h2, h3, h4, rfl⟩, hm⟩ hk
    exact ⟨⟨c, lp, lf, mp, mf, h1.keep hk, h2, h3, h4, rfl⟩, hm⟩
  new := fun d b p w hm => (new_yes d b p w hm).mono fun e w' ⟨g, F, h1, h2, h3, h4⟩ => ⟨g, F, h1, ⟨h2, fun _ _ e => (by cases e)⟩, h3, h4⟩
  new_none := fun d b p w hm => new_no d b p w hm
  program := fun x y z pg h hp ho hb => (isL_program x y z pg h.1 hp ho hb).mono fun e w' ⟨h1, h2⟩ => ⟨h1, h2.and (metTold_program h.2 x y z pg)⟩
  read := fun x y z h => isL_read x y z h.1
  erase := fun x y h ho hw => (isL_erase x y h.1 h.2 ho hw).mono fun e w' ⟨h1, h2⟩ => ⟨h1, h2.and (metTold_erase h.2 x y)⟩
  next := fun x y h => by obtain ⟨lp, lf, hX, _, _⟩ := h.1.begin; exact next_any hX x y
  worn := fun x y h => by obtain ⟨lp, lf, hX, _, _⟩ := h.1.begin; exact worn_any hX x y
  dead := fun x h hx => by obtain ⟨lp, lf, hX, _, _⟩ := h.1.begin; exact dead_any hX x hx
  fault := fun at' kind x y z n v h => (isL_fault at' kind x y z n v h.1).mono fun e w' ⟨h1, h2⟩ => ⟨h1, h2.and (metTold_fault h.2 kind x y z n v)⟩
  cut := fun ops keep h h1 _ => by
    obtain ⟨lp, lf, hX, hP, hF⟩ := h.1.begin
    refine (cut_any hX ops keep h1).mono fun e w' ⟨k1, k2⟩ => ⟨k1, (k2.done ?_ ?_).and (metTold_cutAt h.2 ops keep)⟩
    · refine hP.congr ?_ ?_ ?_ fun _ _ => ?_
      all_goals (unfold FlM.cutAt; repeat' split)
      all_goals first | rfl | exact ⟨rfl, rfl⟩
    · refine hF.congr ?_ ?_ ?_ fun _ _ => ?_
      all_goals (unfold FlM.cutAt; repeat' split)
      all_goals first | rfl | exact ⟨rfl, rfl⟩
  on := fun h => by
    obtain ⟨lp, lf, hX, hP, hF⟩ := h.1.begin
    exact (on_any hX).mono fun e w' ⟨k1, k2⟩ => ⟨k1, (k2.done (hP.congr rfl rfl rfl fun _ _ => ⟨rfl, rfl⟩) (hF.congr rfl rfl rfl fun _ _ => ⟨rfl, rfl⟩)).and h.2⟩
  power := fun h => by obtain ⟨lp, lf, hX, _, _⟩ := h.1.begin; exact power_any hX
  ops := fun h => by obtain ⟨lp, lf, hX, _, _⟩ := h.1.begin; exact ops_any hX
  broken := fun h => by obtain ⟨lp, lf, hX, _, _⟩ := h.1.begin; exact broken_any hX
  geo := fun h => by obtain ⟨lp, lf, hX, _, _⟩ := h.1.begin; exact nandgeo_any hX
end
end Go.Proofs.YtfploeefmnbpcaaGreat
