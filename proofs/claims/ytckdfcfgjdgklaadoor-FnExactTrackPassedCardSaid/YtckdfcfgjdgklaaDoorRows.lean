/-
  NARROWER THAN 'FOR EVERY INPUT', by the rows' own cells (each row's printed sentence says how): FnExactTrackValid: laid · FnExactTrackStep: laid · FnExactTrackNext: laid · FnExactTrackBlocks: laid · FnExactTrackWalk: laid · FnExactTrackWay: laid · FnExactTrackTurn: laid · FnExactTrackPassed: laid.
  DERIVED. THE GIVEN ROWS OF THIS SEAT. 8 by the template 'for every input the law returns true; each argument reads behind the call as it read before'; 0 by the template 'total and deterministic' (their statements: YtckdfcfgjdgklaaDoorTotals.lean).
  GIVEN WITH THE SEED: the statements are not yours to turn. If you find one false, say at which input.
  Laid BY PROGRAM, IN A SANDBOX (cutbox-rows.mjs): the forced cells as the released guide's own fill.sh prints them over the translation 2a81457fe638bfe3… (all of the seat's roots in one cut). By AI agents, Wed Nov 11 2026. No macro, syntax, notation, axiom, sorry.
-/
import Derived.Test.YtckdfcfgjdgklaaDoorChecked
import GoSem.PinnedTables
import GoSem.Claim
import GoSem.ClaimJoined
import GoSem.ClaimMapViews
import Derived.JoinedTies
import Derived.KernelRfl
namespace Go.Proofs.YtckdfcfgjdgklaaDoor
/- THE CELL 'sum', in the pinned program and in every row, IS THE sha256 OF THE DUMP (.gsa) THAT YtckdfcfgjdgklaaDoorProg.lean LOADS. Nothing in Lean hashes anything: it is a label: what it is worth is what the hold of that sum in a sandbox is worth. -/
noncomputable def Tryd.pinned : Pinned := { name := "ytckdfcfgjdgklaadoor", sum := "2a81457fe638bfe39cb8acb396938ea75fd6a4c6915dc762cfdf198693014da5", checked := Tryd.checked }
namespace Rows
def none {H : Type} : Left H := { results := [], args := [] }

/- WHAT THE LISTED PACKAGE-LEVEL VARIABLES READ AS WHEN THE CALL BEGINS. Each datum BY PROGRAM (the guide's laid-datum.mjs) off the statement by which the dump's own 'gosem.cut.vars' lays the variable. In a bare row this is a premise. The card (YtckdfcfgjdgklaaDoorCards.lean) ties it to the program's text. -/
def laid_unicode_utf8_acceptRanges {H : Type} : DataW H := .agg [.agg [.lit (.int .u8 128), .lit (.int .u8 191)], .agg [.lit (.int .u8 160), .lit (.int .u8 191)], .agg [.lit (.int .u8 128), .lit (.int .u8 159)], .agg [.lit (.int .u8 144), .lit (.int .u8 191)], .agg [.lit (.int .u8 128), .lit (.int .u8 143)], .agg [.lit (.int .u8 0), .lit (.int .u8 0)], .agg [.lit (.int .u8 0), .lit (.int .u8 0)], .agg [.lit (.int .u8 0), .lit (.int .u8 0)], .agg [.lit (.int .u8 0), .lit (.int .u8 0)], .agg [.lit (.int .u8 0), .lit (.int .u8 0)], .agg [.lit (.int .u8 0), .lit (.int .u8 0)], .agg [.lit (.int .u8 0), .lit (.int .u8 0)], .agg [.lit (.int .u8 0), .lit (.int .u8 0)], .agg [.lit (.int .u8 0), .lit (.int .u8 0)], .agg [.lit (.int .u8 0), .lit (.int .u8 0)], .agg [.lit (.int .u8 0), .lit (.int .u8 0)]]
/-- One of Go's own tables, pinned by name: the form's constant. -/
def laid_unicode_utf8_first : DataW Unit := Go.Pinned.utf8First
def laid_math_bits_deBruijn32tab {H : Type} : DataW H := .agg [.lit (.int .u8 0), .lit (.int .u8 1), .lit (.int .u8 28), .lit (.int .u8 2), .lit (.int .u8 29), .lit (.int .u8 14), .lit (.int .u8 24), .lit (.int .u8 3), .lit (.int .u8 30), .lit (.int .u8 22), .lit (.int .u8 20), .lit (.int .u8 15), .lit (.int .u8 25), .lit (.int .u8 17), .lit (.int .u8 4), .lit (.int .u8 8), .lit (.int .u8 31), .lit (.int .u8 27), .lit (.int .u8 13), .lit (.int .u8 23), .lit (.int .u8 21), .lit (.int .u8 19), .lit (.int .u8 16), .lit (.int .u8 7), .lit (.int .u8 26), .lit (.int .u8 12), .lit (.int .u8 18), .lit (.int .u8 6), .lit (.int .u8 11), .lit (.int .u8 5), .lit (.int .u8 10), .lit (.int .u8 9)]
def laid_math_bits_deBruijn64tab {H : Type} : DataW H := .agg [.lit (.int .u8 0), .lit (.int .u8 1), .lit (.int .u8 56), .lit (.int .u8 2), .lit (.int .u8 57), .lit (.int .u8 49), .lit (.int .u8 28), .lit (.int .u8 3), .lit (.int .u8 61), .lit (.int .u8 58), .lit (.int .u8 42), .lit (.int .u8 50), .lit (.int .u8 38), .lit (.int .u8 29), .lit (.int .u8 17), .lit (.int .u8 4), .lit (.int .u8 62), .lit (.int .u8 47), .lit (.int .u8 59), .lit (.int .u8 36), .lit (.int .u8 45), .lit (.int .u8 43), .lit (.int .u8 51), .lit (.int .u8 22), .lit (.int .u8 53), .lit (.int .u8 39), .lit (.int .u8 33), .lit (.int .u8 30), .lit (.int .u8 24), .lit (.int .u8 18), .lit (.int .u8 12), .lit (.int .u8 5), .lit (.int .u8 63), .lit (.int .u8 55), .lit (.int .u8 48), .lit (.int .u8 27), .lit (.int .u8 60), .lit (.int .u8 41), .lit (.int .u8 37), .lit (.int .u8 16), .lit (.int .u8 46), .lit (.int .u8 35), .lit (.int .u8 44), .lit (.int .u8 21), .lit (.int .u8 52), .lit (.int .u8 32), .lit (.int .u8 23), .lit (.int .u8 11), .lit (.int .u8 54), .lit (.int .u8 26), .lit (.int .u8 40), .lit (.int .u8 15), .lit (.int .u8 34), .lit (.int .u8 20), .lit (.int .u8 31), .lit (.int .u8 10), .lit (.int .u8 25), .lit (.int .u8 14), .lit (.int .u8 19), .lit (.int .u8 9), .lit (.int .u8 13), .lit (.int .u8 8), .lit (.int .u8 7), .lit (.int .u8 6)]

/-- 'laws.FnExactTrackValid': WHATEVER THE INPUT: true; the input reads as it did. -/
def fnExactTrackValidSpec : ChangeSpec := { name := "fnExactTrackValid", fn := fun _ => fun
  | [d] => { results := [.lit (.bool true)], args := [d] }
  | _ => none }
def fnExactTrackValidRow : OpenClaim := { program := "ytckdfcfgjdgklaadoor", sum := "2a81457fe638bfe39cb8acb396938ea75fd6a4c6915dc762cfdf198693014da5", func := "loop.example/blockboxes/laws.FnExactTrackValid", spec := "fnExactTrackValid", inPlace := ["internal/bytealg.IndexByteString", "internal/bytealg.IndexString"], named := ["unicode/utf8.first", "unicode/utf8.acceptRanges", "internal/bytealg.MaxLen"], plainKeys := false, apart := false, laid := [("unicode/utf8.acceptRanges", laid_unicode_utf8_acceptRanges), ("unicode/utf8.first", laid_unicode_utf8_first)] }
def FnExactTrackValidSaid : Prop := fnExactTrackValidRow.holds Tryd.pinned (OpenSpec.ofChange fnExactTrackValidSpec)

/-- ITS FALSE NEIGHBOUR: 'it returns false'. Refute it at one input. -/
def fnExactTrackValidWrong : ChangeSpec := { name := "fnExactTrackValid", fn := fun _ => fun
  | [d] => { results := [.lit (.bool false)], args := [d] }
  | _ => none }
def FnExactTrackValidWrongFalsely : Prop := fnExactTrackValidRow.holds Tryd.pinned (OpenSpec.ofChange fnExactTrackValidWrong)

/-- 'laws.FnExactTrackStep': WHATEVER THE INPUT: true; the input reads as it did. -/
def fnExactTrackStepSpec : ChangeSpec := { name := "fnExactTrackStep", fn := fun _ => fun
  | [d1, d2] => { results := [.lit (.bool true)], args := [d1, d2] }
  | _ => none }
def fnExactTrackStepRow : OpenClaim := { program := "ytckdfcfgjdgklaadoor", sum := "2a81457fe638bfe39cb8acb396938ea75fd6a4c6915dc762cfdf198693014da5", func := "loop.example/blockboxes/laws.FnExactTrackStep", spec := "fnExactTrackStep", inPlace := ["internal/bytealg.IndexByteString", "internal/bytealg.IndexString", "internal/abi.NoEscape"], named := ["unicode/utf8.first", "unicode/utf8.acceptRanges", "internal/bytealg.MaxLen"], plainKeys := false, apart := false, laid := [("unicode/utf8.acceptRanges", laid_unicode_utf8_acceptRanges), ("unicode/utf8.first", laid_unicode_utf8_first)] }
def FnExactTrackStepSaid : Prop := fnExactTrackStepRow.holds Tryd.pinned (OpenSpec.ofChange fnExactTrackStepSpec)

/-- ITS FALSE NEIGHBOUR: 'it returns false'. Refute it at one input. -/
def fnExactTrackStepWrong : ChangeSpec := { name := "fnExactTrackStep", fn := fun _ => fun
  | [d1, d2] => { results := [.lit (.bool false)], args := [d1, d2] }
  | _ => none }
def FnExactTrackStepWrongFalsely : Prop := fnExactTrackStepRow.holds Tryd.pinned (OpenSpec.ofChange fnExactTrackStepWrong)

/-- 'laws.FnExactTrackNext': WHATEVER THE INPUT: true; the input reads as it did. -/
def fnExactTrackNextSpec : ChangeSpec := { name := "fnExactTrackNext", fn := fun _ => fun
  | [d] => { results := [.lit (.bool true)], args := [d] }
  | _ => none }
def fnExactTrackNextRow : OpenClaim := { program := "ytckdfcfgjdgklaadoor", sum := "2a81457fe638bfe39cb8acb396938ea75fd6a4c6915dc762cfdf198693014da5", func := "loop.example/blockboxes/laws.FnExactTrackNext", spec := "fnExactTrackNext", inPlace := ["internal/bytealg.IndexByteString", "internal/bytealg.IndexString"], named := ["unicode/utf8.first", "unicode/utf8.acceptRanges", "internal/bytealg.MaxLen"], plainKeys := false, apart := false, laid := [("unicode/utf8.acceptRanges", laid_unicode_utf8_acceptRanges), ("unicode/utf8.first", laid_unicode_utf8_first)] }
def FnExactTrackNextSaid : Prop := fnExactTrackNextRow.holds Tryd.pinned (OpenSpec.ofChange fnExactTrackNextSpec)

/-- ITS FALSE NEIGHBOUR: 'it returns false'. Refute it at one input. -/
def fnExactTrackNextWrong : ChangeSpec := { name := "fnExactTrackNext", fn := fun _ => fun
  | [d] => { results := [.lit (.bool false)], args := [d] }
  | _ => none }
def FnExactTrackNextWrongFalsely : Prop := fnExactTrackNextRow.holds Tryd.pinned (OpenSpec.ofChange fnExactTrackNextWrong)

/-- 'laws.FnExactTrackBlocks': WHATEVER THE INPUT: true; the input reads as it did. -/
def fnExactTrackBlocksSpec : ChangeSpec := { name := "fnExactTrackBlocks", fn := fun _ => fun
  | [d] => { results := [.lit (.bool true)], args := [d] }
  | _ => none }
def fnExactTrackBlocksRow : OpenClaim := { program := "ytckdfcfgjdgklaadoor", sum := "2a81457fe638bfe39cb8acb396938ea75fd6a4c6915dc762cfdf198693014da5", func := "loop.example/blockboxes/laws.FnExactTrackBlocks", spec := "fnExactTrackBlocks", inPlace := ["internal/bytealg.IndexByteString", "internal/bytealg.IndexString"], named := ["unicode/utf8.first", "unicode/utf8.acceptRanges", "internal/bytealg.MaxLen"], plainKeys := false, apart := false, laid := [("unicode/utf8.acceptRanges", laid_unicode_utf8_acceptRanges), ("unicode/utf8.first", laid_unicode_utf8_first)] }
def FnExactTrackBlocksSaid : Prop := fnExactTrackBlocksRow.holds Tryd.pinned (OpenSpec.ofChange fnExactTrackBlocksSpec)

/-- ITS FALSE NEIGHBOUR: 'it returns false'. Refute it at one input. -/
def fnExactTrackBlocksWrong : ChangeSpec := { name := "fnExactTrackBlocks", fn := fun _ => fun
  | [d] => { results := [.lit (.bool false)], args := [d] }
  | _ => none }
def FnExactTrackBlocksWrongFalsely : Prop := fnExactTrackBlocksRow.holds Tryd.pinned (OpenSpec.ofChange fnExactTrackBlocksWrong)

/-- 'laws.FnExactTrackWalk': WHATEVER THE INPUT: true; the input reads as it did. -/
def fnExactTrackWalkSpec : ChangeSpec := { name := "fnExactTrackWalk", fn := fun _ => fun
  | [d] => { results := [.lit (.bool true)], args := [d] }
  | _ => none }
def fnExactTrackWalkRow : OpenClaim := { program := "ytckdfcfgjdgklaadoor", sum := "2a81457fe638bfe39cb8acb396938ea75fd6a4c6915dc762cfdf198693014da5", func := "loop.example/blockboxes/laws.FnExactTrackWalk", spec := "fnExactTrackWalk", inPlace := ["internal/bytealg.IndexByteString", "internal/bytealg.IndexString"], named := ["unicode/utf8.first", "unicode/utf8.acceptRanges", "math/bits.deBruijn32tab", "math/bits.deBruijn64tab", "internal/bytealg.MaxLen"], plainKeys := false, apart := false, laid := [("math/bits.deBruijn32tab", laid_math_bits_deBruijn32tab), ("math/bits.deBruijn64tab", laid_math_bits_deBruijn64tab), ("unicode/utf8.acceptRanges", laid_unicode_utf8_acceptRanges), ("unicode/utf8.first", laid_unicode_utf8_first)] }
def FnExactTrackWalkSaid : Prop := fnExactTrackWalkRow.holds Tryd.pinned (OpenSpec.ofChange fnExactTrackWalkSpec)

/-- ITS FALSE NEIGHBOUR: 'it returns false'. Refute it at one input. -/
def fnExactTrackWalkWrong : ChangeSpec := { name := "fnExactTrackWalk", fn := fun _ => fun
  | [d] => { results := [.lit (.bool false)], args := [d] }
  | _ => none }
def FnExactTrackWalkWrongFalsely : Prop := fnExactTrackWalkRow.holds Tryd.pinned (OpenSpec.ofChange fnExactTrackWalkWrong)

/-- 'laws.FnExactTrackWay': WHATEVER THE INPUT: true; the input reads as it did. -/
def fnExactTrackWaySpec : ChangeSpec := { name := "fnExactTrackWay", fn := fun _ => fun
  | [d1, d2] => { results := [.lit (.bool true)], args := [d1, d2] }
  | _ => none }
def fnExactTrackWayRow : OpenClaim := { program := "ytckdfcfgjdgklaadoor", sum := "2a81457fe638bfe39cb8acb396938ea75fd6a4c6915dc762cfdf198693014da5", func := "loop.example/blockboxes/laws.FnExactTrackWay", spec := "fnExactTrackWay", inPlace := ["internal/bytealg.IndexByteString", "internal/bytealg.IndexString"], named := ["unicode/utf8.first", "unicode/utf8.acceptRanges", "internal/bytealg.MaxLen"], plainKeys := false, apart := false, laid := [("unicode/utf8.acceptRanges", laid_unicode_utf8_acceptRanges), ("unicode/utf8.first", laid_unicode_utf8_first)] }
def FnExactTrackWaySaid : Prop := fnExactTrackWayRow.holds Tryd.pinned (OpenSpec.ofChange fnExactTrackWaySpec)

/-- ITS FALSE NEIGHBOUR: 'it returns false'. Refute it at one input. -/
def fnExactTrackWayWrong : ChangeSpec := { name := "fnExactTrackWay", fn := fun _ => fun
  | [d1, d2] => { results := [.lit (.bool false)], args := [d1, d2] }
  | _ => none }
def FnExactTrackWayWrongFalsely : Prop := fnExactTrackWayRow.holds Tryd.pinned (OpenSpec.ofChange fnExactTrackWayWrong)

/-- 'laws.FnExactTrackTurn': WHATEVER THE INPUT: true; the input reads as it did. -/
def fnExactTrackTurnSpec : ChangeSpec := { name := "fnExactTrackTurn", fn := fun _ => fun
  | [d] => { results := [.lit (.bool true)], args := [d] }
  | _ => none }
def fnExactTrackTurnRow : OpenClaim := { program := "ytckdfcfgjdgklaadoor", sum := "2a81457fe638bfe39cb8acb396938ea75fd6a4c6915dc762cfdf198693014da5", func := "loop.example/blockboxes/laws.FnExactTrackTurn", spec := "fnExactTrackTurn", inPlace := ["internal/bytealg.IndexByteString", "internal/bytealg.IndexString", "internal/abi.NoEscape"], named := ["unicode/utf8.first", "unicode/utf8.acceptRanges", "internal/bytealg.MaxLen"], plainKeys := false, apart := false, laid := [("unicode/utf8.acceptRanges", laid_unicode_utf8_acceptRanges), ("unicode/utf8.first", laid_unicode_utf8_first)] }
def FnExactTrackTurnSaid : Prop := fnExactTrackTurnRow.holds Tryd.pinned (OpenSpec.ofChange fnExactTrackTurnSpec)

/-- ITS FALSE NEIGHBOUR: 'it returns false'. Refute it at one input. -/
def fnExactTrackTurnWrong : ChangeSpec := { name := "fnExactTrackTurn", fn := fun _ => fun
  | [d] => { results := [.lit (.bool false)], args := [d] }
  | _ => none }
def FnExactTrackTurnWrongFalsely : Prop := fnExactTrackTurnRow.holds Tryd.pinned (OpenSpec.ofChange fnExactTrackTurnWrong)

/-- 'laws.FnExactTrackPassed': WHATEVER THE INPUT: true; the input reads as it did. -/
def fnExactTrackPassedSpec : ChangeSpec := { name := "fnExactTrackPassed", fn := fun _ => fun
  | [d] => { results := [.lit (.bool true)], args := [d] }
  | _ => none }
def fnExactTrackPassedRow : OpenClaim := { program := "ytckdfcfgjdgklaadoor", sum := "2a81457fe638bfe39cb8acb396938ea75fd6a4c6915dc762cfdf198693014da5", func := "loop.example/blockboxes/laws.FnExactTrackPassed", spec := "fnExactTrackPassed", inPlace := ["internal/bytealg.IndexByteString", "internal/bytealg.IndexString"], named := ["unicode/utf8.first", "unicode/utf8.acceptRanges", "math/bits.deBruijn32tab", "math/bits.deBruijn64tab", "internal/bytealg.MaxLen"], plainKeys := false, apart := false, laid := [("math/bits.deBruijn32tab", laid_math_bits_deBruijn32tab), ("math/bits.deBruijn64tab", laid_math_bits_deBruijn64tab), ("unicode/utf8.acceptRanges", laid_unicode_utf8_acceptRanges), ("unicode/utf8.first", laid_unicode_utf8_first)] }
def FnExactTrackPassedSaid : Prop := fnExactTrackPassedRow.holds Tryd.pinned (OpenSpec.ofChange fnExactTrackPassedSpec)

/-- ITS FALSE NEIGHBOUR: 'it returns false'. Refute it at one input. -/
def fnExactTrackPassedWrong : ChangeSpec := { name := "fnExactTrackPassed", fn := fun _ => fun
  | [d] => { results := [.lit (.bool false)], args := [d] }
  | _ => none }
def FnExactTrackPassedWrongFalsely : Prop := fnExactTrackPassedRow.holds Tryd.pinned (OpenSpec.ofChange fnExactTrackPassedWrong)

/- THE SECOND FORM. 'bulk': how many values and letters a reading holds, each counted each time it is reached (what is shared counts as often as it is met; a slice's spare places count too). A statement '..UptoSaid' is the law's where the arguments, and the package variables that the reading takes, are together of bulk at most 1048576: NARROWER than '..Said'. Prove '..Said' where nothing that the law and all that it calls make is longer than what came in: it says more and counts as full. Else prove '..UptoSaid'. A law counts once. -/
mutual
def uptoBulk {H : Type} : DataW H → Nat
  | .lit (.string bytes) => bytes.length + 1
  | .lit _ => 1
  | .nil => 1
  | .ptr d => uptoBulk d + 1
  | .slice elems spare => uptoBulkAll elems + uptoBulkAll spare + 1
  | .agg parts => uptoBulkAll parts + 1
  | .iface _ d => uptoBulk d + 1
  | .map entries => uptoBulkEntries entries + 1
  | .held _ => 1
def uptoBulkAll {H : Type} : List (DataW H) → Nat
  | [] => 0
  | d :: r => uptoBulk d + uptoBulkAll r
def uptoBulkEntries {H : Type} : List (Lit × DataW H) → Nat
  | [] => 0
  | x :: r => uptoBulkEntry x + uptoBulkEntries r
def uptoBulkEntry {H : Type} : Lit × DataW H → Nat
  | (.string bytes, d) => bytes.length + uptoBulk d + 1
  | (_, d) => uptoBulk d + 1
 end
def uptoSmall : (H : Type) → List (DataW H) → Bool := fun _ ds => decide (uptoBulkAll ds ≤ 1048576)
def OpenSpec.upto (s : _root_.Go.ChangeSpec) : _root_.Go.OpenSpec := { _root_.Go.OpenSpec.ofChange s with cond := some uptoSmall }

/-- 'laws.FnExactTrackValid', WHERE WHAT IT READS IS OF BULK AT MOST 1048576: true; the input reads as it did. -/
def fnExactTrackValidUptoRow : OpenClaim := { program := "ytckdfcfgjdgklaadoor", sum := "2a81457fe638bfe39cb8acb396938ea75fd6a4c6915dc762cfdf198693014da5", func := "loop.example/blockboxes/laws.FnExactTrackValid", spec := "fnExactTrackValid", inPlace := ["internal/bytealg.IndexByteString", "internal/bytealg.IndexString"], named := ["unicode/utf8.first", "unicode/utf8.acceptRanges", "internal/bytealg.MaxLen"], plainKeys := false, apart := false, laid := [("unicode/utf8.acceptRanges", laid_unicode_utf8_acceptRanges), ("unicode/utf8.first", laid_unicode_utf8_first)], narrowed := true }
def FnExactTrackValidUptoSaid : Prop := fnExactTrackValidUptoRow.holds Tryd.pinned (OpenSpec.upto fnExactTrackValidSpec)

/-- 'laws.FnExactTrackStep', WHERE WHAT IT READS IS OF BULK AT MOST 1048576: true; the input reads as it did. -/
def fnExactTrackStepUptoRow : OpenClaim := { program := "ytckdfcfgjdgklaadoor", sum := "2a81457fe638bfe39cb8acb396938ea75fd6a4c6915dc762cfdf198693014da5", func := "loop.example/blockboxes/laws.FnExactTrackStep", spec := "fnExactTrackStep", inPlace := ["internal/bytealg.IndexByteString", "internal/bytealg.IndexString", "internal/abi.NoEscape"], named := ["unicode/utf8.first", "unicode/utf8.acceptRanges", "internal/bytealg.MaxLen"], plainKeys := false, apart := false, laid := [("unicode/utf8.acceptRanges", laid_unicode_utf8_acceptRanges), ("unicode/utf8.first", laid_unicode_utf8_first)], narrowed := true }
def FnExactTrackStepUptoSaid : Prop := fnExactTrackStepUptoRow.holds Tryd.pinned (OpenSpec.upto fnExactTrackStepSpec)

/-- 'laws.FnExactTrackNext', WHERE WHAT IT READS IS OF BULK AT MOST 1048576: true; the input reads as it did. -/
def fnExactTrackNextUptoRow : OpenClaim := { program := "ytckdfcfgjdgklaadoor", sum := "2a81457fe638bfe39cb8acb396938ea75fd6a4c6915dc762cfdf198693014da5", func := "loop.example/blockboxes/laws.FnExactTrackNext", spec := "fnExactTrackNext", inPlace := ["internal/bytealg.IndexByteString", "internal/bytealg.IndexString"], named := ["unicode/utf8.first", "unicode/utf8.acceptRanges", "internal/bytealg.MaxLen"], plainKeys := false, apart := false, laid := [("unicode/utf8.acceptRanges", laid_unicode_utf8_acceptRanges), ("unicode/utf8.first", laid_unicode_utf8_first)], narrowed := true }
def FnExactTrackNextUptoSaid : Prop := fnExactTrackNextUptoRow.holds Tryd.pinned (OpenSpec.upto fnExactTrackNextSpec)

/-- 'laws.FnExactTrackBlocks', WHERE WHAT IT READS IS OF BULK AT MOST 1048576: true; the input reads as it did. -/
def fnExactTrackBlocksUptoRow : OpenClaim := { program := "ytckdfcfgjdgklaadoor", sum := "2a81457fe638bfe39cb8acb396938ea75fd6a4c6915dc762cfdf198693014da5", func := "loop.example/blockboxes/laws.FnExactTrackBlocks", spec := "fnExactTrackBlocks", inPlace := ["internal/bytealg.IndexByteString", "internal/bytealg.IndexString"], named := ["unicode/utf8.first", "unicode/utf8.acceptRanges", "internal/bytealg.MaxLen"], plainKeys := false, apart := false, laid := [("unicode/utf8.acceptRanges", laid_unicode_utf8_acceptRanges), ("unicode/utf8.first", laid_unicode_utf8_first)], narrowed := true }
def FnExactTrackBlocksUptoSaid : Prop := fnExactTrackBlocksUptoRow.holds Tryd.pinned (OpenSpec.upto fnExactTrackBlocksSpec)

/-- 'laws.FnExactTrackWalk', WHERE WHAT IT READS IS OF BULK AT MOST 1048576: true; the input reads as it did. -/
def fnExactTrackWalkUptoRow : OpenClaim := { program := "ytckdfcfgjdgklaadoor", sum := "2a81457fe638bfe39cb8acb396938ea75fd6a4c6915dc762cfdf198693014da5", func := "loop.example/blockboxes/laws.FnExactTrackWalk", spec := "fnExactTrackWalk", inPlace := ["internal/bytealg.IndexByteString", "internal/bytealg.IndexString"], named := ["unicode/utf8.first", "unicode/utf8.acceptRanges", "math/bits.deBruijn32tab", "math/bits.deBruijn64tab", "internal/bytealg.MaxLen"], plainKeys := false, apart := false, laid := [("math/bits.deBruijn32tab", laid_math_bits_deBruijn32tab), ("math/bits.deBruijn64tab", laid_math_bits_deBruijn64tab), ("unicode/utf8.acceptRanges", laid_unicode_utf8_acceptRanges), ("unicode/utf8.first", laid_unicode_utf8_first)], narrowed := true }
def FnExactTrackWalkUptoSaid : Prop := fnExactTrackWalkUptoRow.holds Tryd.pinned (OpenSpec.upto fnExactTrackWalkSpec)

/-- 'laws.FnExactTrackWay', WHERE WHAT IT READS IS OF BULK AT MOST 1048576: true; the input reads as it did. -/
def fnExactTrackWayUptoRow : OpenClaim := { program := "ytckdfcfgjdgklaadoor", sum := "2a81457fe638bfe39cb8acb396938ea75fd6a4c6915dc762cfdf198693014da5", func := "loop.example/blockboxes/laws.FnExactTrackWay", spec := "fnExactTrackWay", inPlace := ["internal/bytealg.IndexByteString", "internal/bytealg.IndexString"], named := ["unicode/utf8.first", "unicode/utf8.acceptRanges", "internal/bytealg.MaxLen"], plainKeys := false, apart := false, laid := [("unicode/utf8.acceptRanges", laid_unicode_utf8_acceptRanges), ("unicode/utf8.first", laid_unicode_utf8_first)], narrowed := true }
def FnExactTrackWayUptoSaid : Prop := fnExactTrackWayUptoRow.holds Tryd.pinned (OpenSpec.upto fnExactTrackWaySpec)

/-- 'laws.FnExactTrackTurn', WHERE WHAT IT READS IS OF BULK AT MOST 1048576: true; the input reads as it did. -/
def fnExactTrackTurnUptoRow : OpenClaim := { program := "ytckdfcfgjdgklaadoor", sum := "2a81457fe638bfe39cb8acb396938ea75fd6a4c6915dc762cfdf198693014da5", func := "loop.example/blockboxes/laws.FnExactTrackTurn", spec := "fnExactTrackTurn", inPlace := ["internal/bytealg.IndexByteString", "internal/bytealg.IndexString", "internal/abi.NoEscape"], named := ["unicode/utf8.first", "unicode/utf8.acceptRanges", "internal/bytealg.MaxLen"], plainKeys := false, apart := false, laid := [("unicode/utf8.acceptRanges", laid_unicode_utf8_acceptRanges), ("unicode/utf8.first", laid_unicode_utf8_first)], narrowed := true }
def FnExactTrackTurnUptoSaid : Prop := fnExactTrackTurnUptoRow.holds Tryd.pinned (OpenSpec.upto fnExactTrackTurnSpec)

/-- 'laws.FnExactTrackPassed', WHERE WHAT IT READS IS OF BULK AT MOST 1048576: true; the input reads as it did. -/
def fnExactTrackPassedUptoRow : OpenClaim := { program := "ytckdfcfgjdgklaadoor", sum := "2a81457fe638bfe39cb8acb396938ea75fd6a4c6915dc762cfdf198693014da5", func := "loop.example/blockboxes/laws.FnExactTrackPassed", spec := "fnExactTrackPassed", inPlace := ["internal/bytealg.IndexByteString", "internal/bytealg.IndexString"], named := ["unicode/utf8.first", "unicode/utf8.acceptRanges", "math/bits.deBruijn32tab", "math/bits.deBruijn64tab", "internal/bytealg.MaxLen"], plainKeys := false, apart := false, laid := [("math/bits.deBruijn32tab", laid_math_bits_deBruijn32tab), ("math/bits.deBruijn64tab", laid_math_bits_deBruijn64tab), ("unicode/utf8.acceptRanges", laid_unicode_utf8_acceptRanges), ("unicode/utf8.first", laid_unicode_utf8_first)], narrowed := true }
def FnExactTrackPassedUptoSaid : Prop := fnExactTrackPassedUptoRow.holds Tryd.pinned (OpenSpec.upto fnExactTrackPassedSpec)

end Rows
end Go.Proofs.YtckdfcfgjdgklaaDoor
