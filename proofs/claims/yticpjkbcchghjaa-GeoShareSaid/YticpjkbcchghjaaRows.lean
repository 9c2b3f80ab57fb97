/-
  No cell of these rows narrows 'for every input' (looked for: loops, veiled, ifaces, maps, wideKeys, modest, calm, conditions, laid).
  DERIVED. THE GIVEN ROWS OF THIS SEAT. 9 by the template 'for every input the law returns true; each argument reads behind the call as it read before'; 0 by the template 'total and deterministic' (their statements: YticpjkbcchghjaaTotals.lean).
  GIVEN WITH THE SEED: the statements are not yours to turn. If you find one false, say at which input.
  Laid BY PROGRAM, IN A SANDBOX (cutbox-rows.mjs): the forced cells as the released guide's own fill.sh prints them over the translation 44776ab01744f269… (all of the seat's roots in one cut). By AI agents, Wed Nov 11 2026. No macro, syntax, notation, axiom, sorry.
-/
import Derived.Test.YticpjkbcchghjaaChecked
import GoSem.Claim
import GoSem.ClaimJoined
import GoSem.ClaimMapViews
import Derived.JoinedTies
import Derived.KernelRfl
namespace Go.Proofs.Yticpjkbcchghjaa
/- THE CELL 'sum', in the pinned program and in every row, IS THE sha256 OF THE DUMP (.gsa) THAT YticpjkbcchghjaaProg.lean LOADS. Nothing in Lean hashes anything: it is a label: what it is worth is what the hold of that sum in a sandbox is worth. -/
noncomputable def Try.pinned : Pinned := { name := "yticpjkbcchghjaa", sum := "44776ab01744f26964196ddea491c9cb7d7635ee9e614f244e3d5286c7e337dc", checked := Try.checked }
namespace Rows
def none {H : Type} : Left H := { results := [], args := [] }

/-- 'ostrakonlaw6.GeoAll': WHATEVER THE INPUT: true; the input reads as it did. -/
def geoAllSpec : ChangeSpec := { name := "geoAll", fn := fun _ => fun
  | [d1, d2] => { results := [.lit (.bool true)], args := [d1, d2] }
  | _ => none }
def geoAllRow : OpenClaim := { program := "yticpjkbcchghjaa", sum := "44776ab01744f26964196ddea491c9cb7d7635ee9e614f244e3d5286c7e337dc", func := "ostrakon/ostrakonlaw6.GeoAll", spec := "geoAll", plainKeys := false, apart := false }
def GeoAllSaid : Prop := geoAllRow.holds Try.pinned (OpenSpec.ofChange geoAllSpec)

/-- ITS FALSE NEIGHBOUR: 'it returns false'. Refute it at one input. -/
def geoAllWrong : ChangeSpec := { name := "geoAll", fn := fun _ => fun
  | [d1, d2] => { results := [.lit (.bool false)], args := [d1, d2] }
  | _ => none }
def GeoAllWrongFalsely : Prop := geoAllRow.holds Try.pinned (OpenSpec.ofChange geoAllWrong)

/-- 'ostrakonlaw6.GeoRows': WHATEVER THE INPUT: true; the input reads as it did. -/
def geoRowsSpec : ChangeSpec := { name := "geoRows", fn := fun _ => fun
  | [d1, d2, d3, d4, d5] => { results := [.lit (.bool true)], args := [d1, d2, d3, d4, d5] }
  | _ => none }
def geoRowsRow : OpenClaim := { program := "yticpjkbcchghjaa", sum := "44776ab01744f26964196ddea491c9cb7d7635ee9e614f244e3d5286c7e337dc", func := "ostrakon/ostrakonlaw6.GeoRows", spec := "geoRows", plainKeys := false, apart := false }
def GeoRowsSaid : Prop := geoRowsRow.holds Try.pinned (OpenSpec.ofChange geoRowsSpec)

/-- ITS FALSE NEIGHBOUR: 'it returns false'. Refute it at one input. -/
def geoRowsWrong : ChangeSpec := { name := "geoRows", fn := fun _ => fun
  | [d1, d2, d3, d4, d5] => { results := [.lit (.bool false)], args := [d1, d2, d3, d4, d5] }
  | _ => none }
def GeoRowsWrongFalsely : Prop := geoRowsRow.holds Try.pinned (OpenSpec.ofChange geoRowsWrong)

/-- 'ostrakonlaw6.GeoTurns': WHATEVER THE INPUT: true; the input reads as it did. -/
def geoTurnsSpec : ChangeSpec := { name := "geoTurns", fn := fun _ => fun
  | [d1, d2, d3] => { results := [.lit (.bool true)], args := [d1, d2, d3] }
  | _ => none }
def geoTurnsRow : OpenClaim := { program := "yticpjkbcchghjaa", sum := "44776ab01744f26964196ddea491c9cb7d7635ee9e614f244e3d5286c7e337dc", func := "ostrakon/ostrakonlaw6.GeoTurns", spec := "geoTurns", plainKeys := false, apart := false }
def GeoTurnsSaid : Prop := geoTurnsRow.holds Try.pinned (OpenSpec.ofChange geoTurnsSpec)

/-- ITS FALSE NEIGHBOUR: 'it returns false'. Refute it at one input. -/
def geoTurnsWrong : ChangeSpec := { name := "geoTurns", fn := fun _ => fun
  | [d1, d2, d3] => { results := [.lit (.bool false)], args := [d1, d2, d3] }
  | _ => none }
def GeoTurnsWrongFalsely : Prop := geoTurnsRow.holds Try.pinned (OpenSpec.ofChange geoTurnsWrong)

/-- 'ostrakonlaw6.GeoSmall': WHATEVER THE INPUT: true; the input reads as it did. -/
def geoSmallSpec : ChangeSpec := { name := "geoSmall", fn := fun _ => fun
  | [d1, d2, d3] => { results := [.lit (.bool true)], args := [d1, d2, d3] }
  | _ => none }
def geoSmallRow : OpenClaim := { program := "yticpjkbcchghjaa", sum := "44776ab01744f26964196ddea491c9cb7d7635ee9e614f244e3d5286c7e337dc", func := "ostrakon/ostrakonlaw6.GeoSmall", spec := "geoSmall", plainKeys := false, apart := false }
def GeoSmallSaid : Prop := geoSmallRow.holds Try.pinned (OpenSpec.ofChange geoSmallSpec)

/-- ITS FALSE NEIGHBOUR: 'it returns false'. Refute it at one input. -/
def geoSmallWrong : ChangeSpec := { name := "geoSmall", fn := fun _ => fun
  | [d1, d2, d3] => { results := [.lit (.bool false)], args := [d1, d2, d3] }
  | _ => none }
def GeoSmallWrongFalsely : Prop := geoSmallRow.holds Try.pinned (OpenSpec.ofChange geoSmallWrong)

/-- 'ostrakonlaw6.GeoShare': WHATEVER THE INPUT: true; the input reads as it did. -/
def geoShareSpec : ChangeSpec := { name := "geoShare", fn := fun _ => fun
  | [d1, d2] => { results := [.lit (.bool true)], args := [d1, d2] }
  | _ => none }
def geoShareRow : OpenClaim := { program := "yticpjkbcchghjaa", sum := "44776ab01744f26964196ddea491c9cb7d7635ee9e614f244e3d5286c7e337dc", func := "ostrakon/ostrakonlaw6.GeoShare", spec := "geoShare", plainKeys := false, apart := false }
def GeoShareSaid : Prop := geoShareRow.holds Try.pinned (OpenSpec.ofChange geoShareSpec)

/-- ITS FALSE NEIGHBOUR: 'it returns false'. Refute it at one input. -/
def geoShareWrong : ChangeSpec := { name := "geoShare", fn := fun _ => fun
  | [d1, d2] => { results := [.lit (.bool false)], args := [d1, d2] }
  | _ => none }
def GeoShareWrongFalsely : Prop := geoShareRow.holds Try.pinned (OpenSpec.ofChange geoShareWrong)

/-- 'ostrakonlaw5.SpotAll': WHATEVER THE INPUT: true; the input reads as it did. -/
def spotAllSpec : ChangeSpec := { name := "spotAll", fn := fun _ => fun
  | [d] => { results := [.lit (.bool true)], args := [d] }
  | _ => none }
def spotAllRow : OpenClaim := { program := "yticpjkbcchghjaa", sum := "44776ab01744f26964196ddea491c9cb7d7635ee9e614f244e3d5286c7e337dc", func := "ostrakon/ostrakonlaw5.SpotAll", spec := "spotAll", unfollowed := true, recurses := true, plainKeys := false, apart := false }
def SpotAllSaid : Prop := spotAllRow.holds Try.pinned (OpenSpec.ofChange spotAllSpec)

/-- ITS FALSE NEIGHBOUR: 'it returns false'. Refute it at one input. -/
def spotAllWrong : ChangeSpec := { name := "spotAll", fn := fun _ => fun
  | [d] => { results := [.lit (.bool false)], args := [d] }
  | _ => none }
def SpotAllWrongFalsely : Prop := spotAllRow.holds Try.pinned (OpenSpec.ofChange spotAllWrong)

/-- 'ostrakonlaw5.SpotBlock': WHATEVER THE INPUT: true; the input reads as it did. -/
def spotBlockSpec : ChangeSpec := { name := "spotBlock", fn := fun _ => fun
  | [d1, d2, d3] => { results := [.lit (.bool true)], args := [d1, d2, d3] }
  | _ => none }
def spotBlockRow : OpenClaim := { program := "yticpjkbcchghjaa", sum := "44776ab01744f26964196ddea491c9cb7d7635ee9e614f244e3d5286c7e337dc", func := "ostrakon/ostrakonlaw5.SpotBlock", spec := "spotBlock", unfollowed := true, recurses := true, plainKeys := false, apart := false }
def SpotBlockSaid : Prop := spotBlockRow.holds Try.pinned (OpenSpec.ofChange spotBlockSpec)

/-- ITS FALSE NEIGHBOUR: 'it returns false'. Refute it at one input. -/
def spotBlockWrong : ChangeSpec := { name := "spotBlock", fn := fun _ => fun
  | [d1, d2, d3] => { results := [.lit (.bool false)], args := [d1, d2, d3] }
  | _ => none }
def SpotBlockWrongFalsely : Prop := spotBlockRow.holds Try.pinned (OpenSpec.ofChange spotBlockWrong)

/-- 'ostrakonlaw5.SpotTwins': WHATEVER THE INPUT: true; the input reads as it did. -/
def spotTwinsSpec : ChangeSpec := { name := "spotTwins", fn := fun _ => fun
  | [d] => { results := [.lit (.bool true)], args := [d] }
  | _ => none }
def spotTwinsRow : OpenClaim := { program := "yticpjkbcchghjaa", sum := "44776ab01744f26964196ddea491c9cb7d7635ee9e614f244e3d5286c7e337dc", func := "ostrakon/ostrakonlaw5.SpotTwins", spec := "spotTwins", unfollowed := true, recurses := true, plainKeys := false, apart := false }
def SpotTwinsSaid : Prop := spotTwinsRow.holds Try.pinned (OpenSpec.ofChange spotTwinsSpec)

/-- ITS FALSE NEIGHBOUR: 'it returns false'. Refute it at one input. -/
def spotTwinsWrong : ChangeSpec := { name := "spotTwins", fn := fun _ => fun
  | [d] => { results := [.lit (.bool false)], args := [d] }
  | _ => none }
def SpotTwinsWrongFalsely : Prop := spotTwinsRow.holds Try.pinned (OpenSpec.ofChange spotTwinsWrong)

/-- 'ostrakonlaw5.SpotNone': WHATEVER THE INPUT: true; the input reads as it did. -/
def spotNoneSpec : ChangeSpec := { name := "spotNone", fn := fun _ => fun
  | [] => { results := [.lit (.bool true)], args := [] }
  | _ => none }
def spotNoneRow : OpenClaim := { program := "yticpjkbcchghjaa", sum := "44776ab01744f26964196ddea491c9cb7d7635ee9e614f244e3d5286c7e337dc", func := "ostrakon/ostrakonlaw5.SpotNone", spec := "spotNone", unfollowed := true, recurses := true, plainKeys := false, apart := false }
def SpotNoneSaid : Prop := spotNoneRow.holds Try.pinned (OpenSpec.ofChange spotNoneSpec)

/-- ITS FALSE NEIGHBOUR: 'it returns false'. Refute it at one input. -/
def spotNoneWrong : ChangeSpec := { name := "spotNone", fn := fun _ => fun
  | [] => { results := [.lit (.bool false)], args := [] }
  | _ => none }
def SpotNoneWrongFalsely : Prop := spotNoneRow.holds Try.pinned (OpenSpec.ofChange spotNoneWrong)

/- THE SECOND FORM. 'bulk': how many values and letters a reading holds, each counted each time it is reached (what is shared counts as often as it is met; a slice's spare places count too). A statement '..UptoSaid' is the law's where the arguments, and the package variables that the reading takes, are together of bulk at most 1048576: NARROWER than '..Said'. Prove '..Said' where nothing that the law and all that it calls make is longer than what came in: it says more and counts as full. Else prove '..UptoSaid'. A law counts once. -/
mutual
def uptoBulk {H : Type} : DataW H → Nat
  | .lit (.string bytes) => bytes.length + 1
  | .lit _ => 1
  | .nil => 1
  | .ptr d => uptoBulk d + 1
  | .slice elems spare => uptoBulkAll elems + uptoBulkAll spare + 1
  | .agg parts => uptoBulkAll parts + 1
  | .iface _ d => uptoBulk d + 1
  | .map entries => uptoBulkEntries entries + 1
  | .held _ => 1
def uptoBulkAll {H : Type} : List (DataW H) → Nat
  | [] => 0
  | d :: r => uptoBulk d + uptoBulkAll r
def uptoBulkEntries {H : Type} : List (Lit × DataW H) → Nat
  | [] => 0
  | x :: r => uptoBulkEntry x + uptoBulkEntries r
def uptoBulkEntry {H : Type} : Lit × DataW H → Nat
  | (.string bytes, d) => bytes.length + uptoBulk d + 1
  | (_, d) => uptoBulk d + 1
 end
def uptoSmall : (H : Type) → List (DataW H) → Bool := fun _ ds => decide (uptoBulkAll ds ≤ 1048576)
def OpenSpec.upto (s : _root_.Go.ChangeSpec) : _root_.Go.OpenSpec := { _root_.Go.OpenSpec.ofChange s with cond := some uptoSmall }

/-- 'ostrakonlaw6.GeoAll', WHERE WHAT IT READS IS OF BULK AT MOST 1048576: true; the input reads as it did. -/
def geoAllUptoRow : OpenClaim := { program := "yticpjkbcchghjaa", sum := "44776ab01744f26964196ddea491c9cb7d7635ee9e614f244e3d5286c7e337dc", func := "ostrakon/ostrakonlaw6.GeoAll", spec := "geoAll", plainKeys := false, apart := false, narrowed := true }
def GeoAllUptoSaid : Prop := geoAllUptoRow.holds Try.pinned (OpenSpec.upto geoAllSpec)

/-- 'ostrakonlaw6.GeoRows', WHERE WHAT IT READS IS OF BULK AT MOST 1048576: true; the input reads as it did. -/
def geoRowsUptoRow : OpenClaim := { program := "yticpjkbcchghjaa", sum := "44776ab01744f26964196ddea491c9cb7d7635ee9e614f244e3d5286c7e337dc", func := "ostrakon/ostrakonlaw6.GeoRows", spec := "geoRows", plainKeys := false, apart := false, narrowed := true }
def GeoRowsUptoSaid : Prop := geoRowsUptoRow.holds Try.pinned (OpenSpec.upto geoRowsSpec)

/-- 'ostrakonlaw6.GeoTurns', WHERE WHAT IT READS IS OF BULK AT MOST 1048576: true; the input reads as it did. -/
def geoTurnsUptoRow : OpenClaim := { program := "yticpjkbcchghjaa", sum := "44776ab01744f26964196ddea491c9cb7d7635ee9e614f244e3d5286c7e337dc", func := "ostrakon/ostrakonlaw6.GeoTurns", spec := "geoTurns", plainKeys := false, apart := false, narrowed := true }
def GeoTurnsUptoSaid : Prop := geoTurnsUptoRow.holds Try.pinned (OpenSpec.upto geoTurnsSpec)

/-- 'ostrakonlaw6.GeoSmall', WHERE WHAT IT READS IS OF BULK AT MOST 1048576: true; the input reads as it did. -/
def geoSmallUptoRow : OpenClaim := { program := "yticpjkbcchghjaa", sum := "44776ab01744f26964196ddea491c9cb7d7635ee9e614f244e3d5286c7e337dc", func := "ostrakon/ostrakonlaw6.GeoSmall", spec := "geoSmall", plainKeys := false, apart := false, narrowed := true }
def GeoSmallUptoSaid : Prop := geoSmallUptoRow.holds Try.pinned (OpenSpec.upto geoSmallSpec)

/-- 'ostrakonlaw6.GeoShare', WHERE WHAT IT READS IS OF BULK AT MOST 1048576: true; the input reads as it did. -/
def geoShareUptoRow : OpenClaim := { program := "yticpjkbcchghjaa", sum := "44776ab01744f26964196ddea491c9cb7d7635ee9e614f244e3d5286c7e337dc", func := "ostrakon/ostrakonlaw6.GeoShare", spec := "geoShare", plainKeys := false, apart := false, narrowed := true }
def GeoShareUptoSaid : Prop := geoShareUptoRow.holds Try.pinned (OpenSpec.upto geoShareSpec)

/-- 'ostrakonlaw5.SpotAll', WHERE WHAT IT READS IS OF BULK AT MOST 1048576: true; the input reads as it did. -/
def spotAllUptoRow : OpenClaim := { program := "yticpjkbcchghjaa", sum := "44776ab01744f26964196ddea491c9cb7d7635ee9e614f244e3d5286c7e337dc", func := "ostrakon/ostrakonlaw5.SpotAll", spec := "spotAll", unfollowed := true, recurses := true, plainKeys := false, apart := false, narrowed := true }
def SpotAllUptoSaid : Prop := spotAllUptoRow.holds Try.pinned (OpenSpec.upto spotAllSpec)

/-- 'ostrakonlaw5.SpotBlock', WHERE WHAT IT READS IS OF BULK AT MOST 1048576: true; the input reads as it did. -/
def spotBlockUptoRow : OpenClaim := { program := "yticpjkbcchghjaa", sum := "44776ab01744f26964196ddea491c9cb7d7635ee9e614f244e3d5286c7e337dc", func := "ostrakon/ostrakonlaw5.SpotBlock", spec := "spotBlock", unfollowed := true, recurses := true, plainKeys := false, apart := false, narrowed := true }
def SpotBlockUptoSaid : Prop := spotBlockUptoRow.holds Try.pinned (OpenSpec.upto spotBlockSpec)

/-- 'ostrakonlaw5.SpotTwins', WHERE WHAT IT READS IS OF BULK AT MOST 1048576: true; the input reads as it did. -/
def spotTwinsUptoRow : OpenClaim := { program := "yticpjkbcchghjaa", sum := "44776ab01744f26964196ddea491c9cb7d7635ee9e614f244e3d5286c7e337dc", func := "ostrakon/ostrakonlaw5.SpotTwins", spec := "spotTwins", unfollowed := true, recurses := true, plainKeys := false, apart := false, narrowed := true }
def SpotTwinsUptoSaid : Prop := spotTwinsUptoRow.holds Try.pinned (OpenSpec.upto spotTwinsSpec)

/-- 'ostrakonlaw5.SpotNone', WHERE WHAT IT READS IS OF BULK AT MOST 1048576: true; the input reads as it did. -/
def spotNoneUptoRow : OpenClaim := { program := "yticpjkbcchghjaa", sum := "44776ab01744f26964196ddea491c9cb7d7635ee9e614f244e3d5286c7e337dc", func := "ostrakon/ostrakonlaw5.SpotNone", spec := "spotNone", unfollowed := true, recurses := true, plainKeys := false, apart := false, narrowed := true }
def SpotNoneUptoSaid : Prop := spotNoneUptoRow.holds Try.pinned (OpenSpec.upto spotNoneSpec)

end Rows
end Go.Proofs.Yticpjkbcchghjaa
