/- Package bits: Len, Bytes, Read, Left. -/
import Derived.Test.YticpjkbcchghjaaBits
import Derived.BigQuiet
import Derived.Deep.QuietTactic
namespace Go.Proofs.Yticpjkbcchghjaa
open Go.RowKit

theorem len_nil (w : World) : Calls Try.prog 86 #[.pointer none] w fun e w' => e = .returned (.int .i64 0) ∧ w = w' := by
  go_enter Try.func86, Try.ntmps86
  go_wp2
  go_ret
  exact ⟨rfl, rfl⟩
theorem len_any (g : Nat) (l : List Bool) (w : World) (ho : OutIs w g l) : Calls Try.prog 86 #[.pointer (some ⟨g, 0, none⟩)] w fun e w' => e = .returned (.int .i64 l.length) ∧ w = w' := by
  have hc := ho.count
  clear ho
  go_enter Try.func86, Try.ntmps86
  go_wp2
  go_ret
  exact ⟨rfl, rfl⟩

theorem u8s_one (l : List Nat) : ∀ x ∈ u8s l, Value.oneCell' x = true := by
  intro x hx
  obtain ⟨y, _, rfl⟩ := List.mem_map.1 hx
  rfl
theorem u8s_length (l : List Nat) : (u8s l).length = l.length := by simp [u8s]

/-- slices.Clone of bytes. -/
theorem clone_none (w : World) : Calls Try.prog 105 #[.slice none 0 0] w fun e w' => e = .returned (.slice none 0 0) ∧ w = w' := by
  have hn := fun w => Lib.run_eql_slice_nil (P := Try.prog) w 107 5 none 0 0 0 0 Try.underlying107
  go_enter Try.func105, Try.ntmps105
  go_wp2
  go_ret
  exact ⟨rfl, rfl⟩

set_option maxRecDepth 100000 in
set_option maxHeartbeats 400000 in
theorem clone_some (bs : List Nat) (n : Nat) (b off cap : Nat) (w : World) (hn : bs.length = n) (hl : n ≤ 1000000) (hh : Holds w (some ⟨b, off, none⟩) (u8s bs)) :
    Calls Try.prog 105 #[.slice (some ⟨b, off, none⟩) n cap] w fun e w' => ∃ v, e = .returned v ∧ w'.ownsRow w.heap.size 5 1 v n (u8s bs) ∧ Below w.heap.size w w' := by
  obtain ⟨i0, hi, hz0, hz1, hz2⟩ := info_parts Try.infoByte
  have hnil := fun w => Lib.run_eql_slice_nil (P := Try.prog) w 107 5 (some ⟨b, off, none⟩) n cap 0 0 Try.underlying107
  have hnews : ∀ j u, (u8s bs)[j]? = some u → w.cell? ((⟨b, off, none⟩ : Addr).add j) = some u := by
    intro j u hj
    obtain ⟨b', off', he, hc⟩ := hh j u hj
    injection he with he
    injection he with h1 h2
    subst h1 h2
    exact add_cell hc
  have hnews2 : ∀ j u, (u8s bs)[j]? = some u → (w.alloc (.cells #[] 5)).cell? ((⟨b, off, none⟩ : Addr).add j) = some u := fun j u hj =>
    (((Below.refl w.heap.size w).alloc (Nat.le_refl _) _).cell (World.block_lt_of_cell? w _ (hnews j u hj))).trans (hnews j u hj)
  have HN := Lib.hid hnews2
  have HL : Hid ((u8s bs).length = n * 1) := by show _ = _; rw [u8s_length, hn, Nat.mul_one]
  have HC3 : Hid (0 + n ≤ maxLen) := by unfold maxLen; show _ ≤ _; omega
  have hmade := World.ownsRow_made (e := 5) (size := 1) (base := w.heap.size) w #[] 0 (Nat.le_refl _) (Nat.zero_le _) rfl
  have hle : w.heap.size ≤ (w.alloc (.cells #[] 5)).heap.size := by simp
  have HLE := Lib.hid hle
  clear hnews hnews2 hh hn hle
  go_enter Try.func105, Try.ntmps105
  go_wp2_with (at_builtin; refine wpList_append_own _ rfl _ _ 107 rfl w.heap.size 5 i0 (.int .u8 0) 1 1 Try.underlying107 hi hz0 hz1 hz2 rfl (by decide) _ _ _ rfl hmade ⟨b, off, none⟩ n cap _ rfl HL.out HN.out (u8s_one _) HC3.out (by omega) HLE.out ?_)
  intro v' w' hown' hgrow _
  have hown2 : w'.ownsRow w.heap.size 5 1 v' n (u8s bs) := hown'
  have hbl : Below w.heap.size w w' := below_grown ((Below.refl _ _).alloc (Nat.le_refl _) _) HLE.out hmade hgrow
  clear hown' hgrow hmade
  go_wp2
  go_ret
  exact ⟨_, rfl, hown2, hbl⟩

/-- A slice that came in: nil, or it leads to bytes. -/
theorem clone_any (bs : List Nat) (n : Nat) (a : Option Addr) (cap : Nat) (w : World) (hn : bs.length = n) (hl : n ≤ 1000000) (hh : (a = none ∧ n = 0 ∧ cap = 0) ∨ ∃ b off, a = some ⟨b, off, none⟩ ∧ Holds w a (u8s bs)) :
    Calls Try.prog 105 #[.slice a n cap] w fun e w' => ∃ v, e = .returned v ∧ w'.ownsRow w.heap.size 5 1 v n (u8s bs) ∧ Below w.heap.size w w' := by
  rcases hh with ⟨rfl, rfl, rfl⟩ | ⟨b, off, rfl, hh⟩
  · refine (clone_none w).mono ?_
    rintro e w' ⟨rfl, rfl⟩
    have : bs = [] := List.length_eq_zero_iff.1 hn
    subst this
    exact ⟨_, rfl, World.ownsRow_nil _ _ _ _, Below.refl _ _⟩
  · exact clone_some bs n b off cap w hn hl hh

theorem bytes_nil (w : World) : Calls Try.prog 81 #[.pointer none] w fun e w' => e = .returned (.slice none 0 0) ∧ w = w' := by
  go_enter Try.func81, Try.ntmps81
  go_wp2
  go_ret
  exact ⟨rfl, rfl⟩

theorem holds_out {w : World} {g n : Nat} {l : List Bool} (ho : OutIs w g l) (hn : n ≤ 512) : Holds w (some ⟨g, 0, none⟩) (u8s (M.bytesN l n)) := by
  intro i x hx
  have hi : i < n := by
    rcases Nat.lt_or_ge i n with h | h
    · exact h
    · rw [List.getElem?_eq_none (by rw [u8s_length, M.bytesN_length]; exact h)] at hx; cases hx
  refine ⟨g, 0, rfl, ?_⟩
  rw [Nat.zero_add, ho.bytes i (by omega), ← hx]
  unfold u8s M.bytesN
  simp [List.getElem?_range hi]

set_option maxHeartbeats 400000 in
theorem bytes_any (g : Nat) (l : List Bool) (n : Nat) (w : World) (ho : OutIs w g l) (hn : (l.length + 7) / 8 = n) :
    Calls Try.prog 81 #[.pointer (some ⟨g, 0, none⟩)] w fun e w' => ∃ v, e = .returned v ∧ w'.ownsRow w.heap.size 5 1 v n (u8s (M.bytesN l n)) ∧ Below w.heap.size w w' := by
  have hc := ho.count
  have hl := ho.fits
  have HO := Lib.hid ho
  have hn2 : ((l.length : Int) + 7) / 8 = (n : Int) := by omega
  have hn5 : n ≤ 512 := by omega
  have hnI : (n : Int) ≤ 512 := by omega
  have hw : IntKind.i64.wrap ((l.length : Int) + 7) = (l.length : Int) + 7 := IntWalk.i64_in _ (by omega)
  clear ho hn
  go_enter Try.func81, Try.ntmps81
  go_wp2
  go_region_with (go_at_call 105; refine (clone_some (M.bytesN l n) n g 0 _ _ (M.bytesN_length _ _) (by omega) (by exact fun i x hx => holds_out HO.out hn5 i x hx)).mono ?_; rintro e w' ⟨v, rfl, hown, hbl⟩)
  go_wp2
  go_ret
  exact ⟨_, rfl, hown, (Below.refl _ _).drew.trans hbl⟩

/-- Block g is an In over the bytes bs, of which so many bits are read. -/
structure InIs (w : World) (g : Nat) (bs : List Nat) (pos : Nat) : Prop where
  row : ∃ a cap, w.cell? ⟨g, 0, none⟩ = some (.slice a bs.length cap) ∧ Holds w a (u8s bs) ∧ ∀ b off, a = some ⟨b, off, none⟩ → b ≠ g
  small : ∀ x ∈ bs, x < 256
  size : bs.length ≤ 1000000
  place : w.cell? ⟨g, 1, none⟩ = some (.int .i64 pos)
  free : w.frozen? ⟨g, 1, none⟩ = false
  fits : pos ≤ 8 * bs.length

theorem holds_alloc {w : World} {a : Option Addr} {l : List Value} (h : Holds w a l) (o : Obj) : Holds (w.alloc o) a l :=
  h.below ((Below.refl _ _).alloc (Nat.le_refl _) o)

set_option maxHeartbeats 400000 in
theorem read_any (bs : List Nat) (n : Nat) (a : Option Addr) (cap : Nat) (w : World) (hn : bs.length = n) (hl : n ≤ 1000000) (h8 : ∀ x ∈ bs, x < 256)
    (hh : (a = none ∧ n = 0 ∧ cap = 0) ∨ ∃ b off, a = some ⟨b, off, none⟩ ∧ Holds w a (u8s bs)) :
    Calls Try.prog 79 #[.slice a n cap] w fun e w' => ∃ g, e = .returned (.pointer (some ⟨g, 0, none⟩)) ∧ w.heap.size ≤ g ∧ InIs w' g bs 0 ∧ Below w.heap.size w w' := by
  have HH := Lib.hid hh
  have H8 := Lib.hid h8
  clear hh h8
  go_enter Try.func79, Try.ntmps79
  go_wp2_with fail
  refine (clone_any bs n a cap _ hn hl HH.out).mono ?_
  rintro e w1 ⟨v, rfl, hown, hbl⟩
  obtain ⟨a1, cap1, rfl, hle, hhold⟩ := reads_of_own hown
  rw [u8s_length, hn] at hle
  rw [u8s_length, hn]
  go_wp2
  go_ret
  refine ⟨w1.heap.size, rfl, hbl.size, ⟨⟨a1, cap1, ?_, holds_alloc hhold _, ?_⟩, H8.out, by omega, ?_, ?_, Nat.zero_le _⟩, hbl.alloc hbl.size _⟩
  · rw [World.cell?_alloc_at _ _ _ _ rfl, hn]; rfl
  · intro b off hb
    have := (hown.lt b (by rw [hb]; rfl)).2
    omega
  · rw [World.cell?_alloc_at _ _ _ _ rfl]; rfl
  · exact World.frozen?_alloc_at _ _ _ _ rfl

theorem left_nil (w : World) : Calls Try.prog 87 #[.pointer none] w fun e w' => e = .returned (.int .i64 0) ∧ w = w' := by
  go_enter Try.func87, Try.ntmps87
  go_wp2
  go_ret
  exact ⟨rfl, rfl⟩

set_option maxHeartbeats 400000 in
theorem left_any (g : Nat) (bs : List Nat) (pos : Nat) (w : World) (hi : InIs w g bs pos) :
    Calls Try.prog 87 #[.pointer (some ⟨g, 0, none⟩)] w fun e w' => e = .returned (.int .i64 (8 * (bs.length : Int) - pos)) ∧ ∃ n, w' = w.drewN n := by
  obtain ⟨⟨a, cap, hc0, _, _⟩, _, hsz, hc1, _, hf⟩ := hi
  have hw1 : IntKind.i64.wrap (8 * (bs.length : Int)) = 8 * (bs.length : Int) := IntWalk.i64_in _ (by omega)
  have hw2 : IntKind.i64.wrap (8 * (bs.length : Int) - pos) = 8 * (bs.length : Int) - pos := IntWalk.i64_in _ (by omega)
  go_enter Try.func87, Try.ntmps87
  go_wp2
  go_quiet (fail)
  go_wp2
  go_ret
  exact ⟨rfl, _, rfl⟩
end Go.Proofs.Yticpjkbcchghjaa
