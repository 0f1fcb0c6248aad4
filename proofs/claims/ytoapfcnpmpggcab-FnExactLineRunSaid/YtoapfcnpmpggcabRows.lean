/-
  No cell of these rows narrows 'for every input' (looked for: loops, veiled, ifaces, maps, wideKeys, modest, calm, conditions, laid).
  DERIVED. THE GIVEN ROWS OF THIS SEAT. 12 by the template 'for every input the law returns true; each argument reads behind the call as it read before'; 0 by the template 'total and deterministic' (their statements: YtoapfcnpmpggcabTotals.lean).
  GIVEN WITH THE SEED: the statements are not yours to turn. If you find one false, say at which input.
  Laid BY PROGRAM, IN A SANDBOX (cutbox-rows.mjs): the forced cells as the released guide's own fill.sh prints them over the translation 49c999042d75b9d1… (all of the seat's roots in one cut). By AI agents, Wed Nov 11 2026. No macro, syntax, notation, axiom, sorry.
-/
import Derived.Test.YtoapfcnpmpggcabChecked
import GoSem.Claim
import GoSem.ClaimJoined
import GoSem.ClaimMapViews
import Derived.JoinedTies
import Derived.KernelRfl
namespace Go.Proofs.Ytoapfcnpmpggcab
/- THE CELL 'sum', in the pinned program and in every row, IS THE sha256 OF THE DUMP (.gsa) THAT YtoapfcnpmpggcabProg.lean LOADS. Nothing in Lean hashes anything: it is a label: what it is worth is what the hold of that sum in a sandbox is worth. -/
noncomputable def Try.pinned : Pinned := { name := "ytoapfcnpmpggcab", sum := "49c999042d75b9d1f39ce1a1d7524ba43690ba43c62bb5fccddf571144bbe5c8", checked := Try.checked }
namespace Rows
def none {H : Type} : Left H := { results := [], args := [] }

/-- 'laws.FnExactLineValid': WHATEVER THE INPUT: true; the input reads as it did. -/
def fnExactLineValidSpec : ChangeSpec := { name := "fnExactLineValid", fn := fun _ => fun
  | [d] => { results := [.lit (.bool true)], args := [d] }
  | _ => none }
def fnExactLineValidRow : OpenClaim := { program := "ytoapfcnpmpggcab", sum := "49c999042d75b9d1f39ce1a1d7524ba43690ba43c62bb5fccddf571144bbe5c8", func := "loop.example/blockboxes/laws.FnExactLineValid", spec := "fnExactLineValid", unfollowed := true, recurses := true, apart := false }
def FnExactLineValidSaid : Prop := fnExactLineValidRow.holds Try.pinned (OpenSpec.ofChange fnExactLineValidSpec)

/-- ITS FALSE NEIGHBOUR: 'it returns false'. Refute it at one input. -/
def fnExactLineValidWrong : ChangeSpec := { name := "fnExactLineValid", fn := fun _ => fun
  | [d] => { results := [.lit (.bool false)], args := [d] }
  | _ => none }
def FnExactLineValidWrongFalsely : Prop := fnExactLineValidRow.holds Try.pinned (OpenSpec.ofChange fnExactLineValidWrong)

/-- 'laws.FnExactLineNew': WHATEVER THE INPUT: true; the input reads as it did. -/
def fnExactLineNewSpec : ChangeSpec := { name := "fnExactLineNew", fn := fun _ => fun
  | [d1, d2] => { results := [.lit (.bool true)], args := [d1, d2] }
  | _ => none }
def fnExactLineNewRow : OpenClaim := { program := "ytoapfcnpmpggcab", sum := "49c999042d75b9d1f39ce1a1d7524ba43690ba43c62bb5fccddf571144bbe5c8", func := "loop.example/blockboxes/laws.FnExactLineNew", spec := "fnExactLineNew", apart := false }
def FnExactLineNewSaid : Prop := fnExactLineNewRow.holds Try.pinned (OpenSpec.ofChange fnExactLineNewSpec)

/-- ITS FALSE NEIGHBOUR: 'it returns false'. Refute it at one input. -/
def fnExactLineNewWrong : ChangeSpec := { name := "fnExactLineNew", fn := fun _ => fun
  | [d1, d2] => { results := [.lit (.bool false)], args := [d1, d2] }
  | _ => none }
def FnExactLineNewWrongFalsely : Prop := fnExactLineNewRow.holds Try.pinned (OpenSpec.ofChange fnExactLineNewWrong)

/-- 'laws.FnExactLineStep': WHATEVER THE INPUT: true; the input reads as it did. -/
def fnExactLineStepSpec : ChangeSpec := { name := "fnExactLineStep", fn := fun _ => fun
  | [d1, d2] => { results := [.lit (.bool true)], args := [d1, d2] }
  | _ => none }
def fnExactLineStepRow : OpenClaim := { program := "ytoapfcnpmpggcab", sum := "49c999042d75b9d1f39ce1a1d7524ba43690ba43c62bb5fccddf571144bbe5c8", func := "loop.example/blockboxes/laws.FnExactLineStep", spec := "fnExactLineStep", unfollowed := true, recurses := true, apart := false }
def FnExactLineStepSaid : Prop := fnExactLineStepRow.holds Try.pinned (OpenSpec.ofChange fnExactLineStepSpec)

/-- ITS FALSE NEIGHBOUR: 'it returns false'. Refute it at one input. -/
def fnExactLineStepWrong : ChangeSpec := { name := "fnExactLineStep", fn := fun _ => fun
  | [d1, d2] => { results := [.lit (.bool false)], args := [d1, d2] }
  | _ => none }
def FnExactLineStepWrongFalsely : Prop := fnExactLineStepRow.holds Try.pinned (OpenSpec.ofChange fnExactLineStepWrong)

/-- 'laws.FnExactLineRun': WHATEVER THE INPUT: true; the input reads as it did. -/
def fnExactLineRunSpec : ChangeSpec := { name := "fnExactLineRun", fn := fun _ => fun
  | [d1, d2] => { results := [.lit (.bool true)], args := [d1, d2] }
  | _ => none }
def fnExactLineRunRow : OpenClaim := { program := "ytoapfcnpmpggcab", sum := "49c999042d75b9d1f39ce1a1d7524ba43690ba43c62bb5fccddf571144bbe5c8", func := "loop.example/blockboxes/laws.FnExactLineRun", spec := "fnExactLineRun", unfollowed := true, recurses := true, apart := false }
def FnExactLineRunSaid : Prop := fnExactLineRunRow.holds Try.pinned (OpenSpec.ofChange fnExactLineRunSpec)

/-- ITS FALSE NEIGHBOUR: 'it returns false'. Refute it at one input. -/
def fnExactLineRunWrong : ChangeSpec := { name := "fnExactLineRun", fn := fun _ => fun
  | [d1, d2] => { results := [.lit (.bool false)], args := [d1, d2] }
  | _ => none }
def FnExactLineRunWrongFalsely : Prop := fnExactLineRunRow.holds Try.pinned (OpenSpec.ofChange fnExactLineRunWrong)

/-- 'laws.FnExactLineMoves': WHATEVER THE INPUT: true; the input reads as it did. -/
def fnExactLineMovesSpec : ChangeSpec := { name := "fnExactLineMoves", fn := fun _ => fun
  | [d] => { results := [.lit (.bool true)], args := [d] }
  | _ => none }
def fnExactLineMovesRow : OpenClaim := { program := "ytoapfcnpmpggcab", sum := "49c999042d75b9d1f39ce1a1d7524ba43690ba43c62bb5fccddf571144bbe5c8", func := "loop.example/blockboxes/laws.FnExactLineMoves", spec := "fnExactLineMoves", unfollowed := true, recurses := true, apart := false }
def FnExactLineMovesSaid : Prop := fnExactLineMovesRow.holds Try.pinned (OpenSpec.ofChange fnExactLineMovesSpec)

/-- ITS FALSE NEIGHBOUR: 'it returns false'. Refute it at one input. -/
def fnExactLineMovesWrong : ChangeSpec := { name := "fnExactLineMoves", fn := fun _ => fun
  | [d] => { results := [.lit (.bool false)], args := [d] }
  | _ => none }
def FnExactLineMovesWrongFalsely : Prop := fnExactLineMovesRow.holds Try.pinned (OpenSpec.ofChange fnExactLineMovesWrong)

/-- 'laws.FnExactLineDone': WHATEVER THE INPUT: true; the input reads as it did. -/
def fnExactLineDoneSpec : ChangeSpec := { name := "fnExactLineDone", fn := fun _ => fun
  | [d] => { results := [.lit (.bool true)], args := [d] }
  | _ => none }
def fnExactLineDoneRow : OpenClaim := { program := "ytoapfcnpmpggcab", sum := "49c999042d75b9d1f39ce1a1d7524ba43690ba43c62bb5fccddf571144bbe5c8", func := "loop.example/blockboxes/laws.FnExactLineDone", spec := "fnExactLineDone", unfollowed := true, recurses := true, apart := false }
def FnExactLineDoneSaid : Prop := fnExactLineDoneRow.holds Try.pinned (OpenSpec.ofChange fnExactLineDoneSpec)

/-- ITS FALSE NEIGHBOUR: 'it returns false'. Refute it at one input. -/
def fnExactLineDoneWrong : ChangeSpec := { name := "fnExactLineDone", fn := fun _ => fun
  | [d] => { results := [.lit (.bool false)], args := [d] }
  | _ => none }
def FnExactLineDoneWrongFalsely : Prop := fnExactLineDoneRow.holds Try.pinned (OpenSpec.ofChange fnExactLineDoneWrong)

/-- 'laws.FnExactLineLeft': WHATEVER THE INPUT: true; the input reads as it did. -/
def fnExactLineLeftSpec : ChangeSpec := { name := "fnExactLineLeft", fn := fun _ => fun
  | [d] => { results := [.lit (.bool true)], args := [d] }
  | _ => none }
def fnExactLineLeftRow : OpenClaim := { program := "ytoapfcnpmpggcab", sum := "49c999042d75b9d1f39ce1a1d7524ba43690ba43c62bb5fccddf571144bbe5c8", func := "loop.example/blockboxes/laws.FnExactLineLeft", spec := "fnExactLineLeft", unfollowed := true, recurses := true, apart := false }
def FnExactLineLeftSaid : Prop := fnExactLineLeftRow.holds Try.pinned (OpenSpec.ofChange fnExactLineLeftSpec)

/-- ITS FALSE NEIGHBOUR: 'it returns false'. Refute it at one input. -/
def fnExactLineLeftWrong : ChangeSpec := { name := "fnExactLineLeft", fn := fun _ => fun
  | [d] => { results := [.lit (.bool false)], args := [d] }
  | _ => none }
def FnExactLineLeftWrongFalsely : Prop := fnExactLineLeftRow.holds Try.pinned (OpenSpec.ofChange fnExactLineLeftWrong)

/-- 'laws.FnExactLineFinish': WHATEVER THE INPUT: true; the input reads as it did. -/
def fnExactLineFinishSpec : ChangeSpec := { name := "fnExactLineFinish", fn := fun _ => fun
  | [d] => { results := [.lit (.bool true)], args := [d] }
  | _ => none }
def fnExactLineFinishRow : OpenClaim := { program := "ytoapfcnpmpggcab", sum := "49c999042d75b9d1f39ce1a1d7524ba43690ba43c62bb5fccddf571144bbe5c8", func := "loop.example/blockboxes/laws.FnExactLineFinish", spec := "fnExactLineFinish", unfollowed := true, recurses := true, apart := false }
def FnExactLineFinishSaid : Prop := fnExactLineFinishRow.holds Try.pinned (OpenSpec.ofChange fnExactLineFinishSpec)

/-- ITS FALSE NEIGHBOUR: 'it returns false'. Refute it at one input. -/
def fnExactLineFinishWrong : ChangeSpec := { name := "fnExactLineFinish", fn := fun _ => fun
  | [d] => { results := [.lit (.bool false)], args := [d] }
  | _ => none }
def FnExactLineFinishWrongFalsely : Prop := fnExactLineFinishRow.holds Try.pinned (OpenSpec.ofChange fnExactLineFinishWrong)

/-- 'laws.FnExactLineText': WHATEVER THE INPUT: true; the input reads as it did. -/
def fnExactLineTextSpec : ChangeSpec := { name := "fnExactLineText", fn := fun _ => fun
  | [d1, d2] => { results := [.lit (.bool true)], args := [d1, d2] }
  | _ => none }
def fnExactLineTextRow : OpenClaim := { program := "ytoapfcnpmpggcab", sum := "49c999042d75b9d1f39ce1a1d7524ba43690ba43c62bb5fccddf571144bbe5c8", func := "loop.example/blockboxes/laws.FnExactLineText", spec := "fnExactLineText", inPlace := ["internal/abi.NoEscape"], apart := false }
def FnExactLineTextSaid : Prop := fnExactLineTextRow.holds Try.pinned (OpenSpec.ofChange fnExactLineTextSpec)

/-- ITS FALSE NEIGHBOUR: 'it returns false'. Refute it at one input. -/
def fnExactLineTextWrong : ChangeSpec := { name := "fnExactLineText", fn := fun _ => fun
  | [d1, d2] => { results := [.lit (.bool false)], args := [d1, d2] }
  | _ => none }
def FnExactLineTextWrongFalsely : Prop := fnExactLineTextRow.holds Try.pinned (OpenSpec.ofChange fnExactLineTextWrong)

/-- 'laws.FnExactLineWaits': WHATEVER THE INPUT: true; the input reads as it did. -/
def fnExactLineWaitsSpec : ChangeSpec := { name := "fnExactLineWaits", fn := fun _ => fun
  | [d1, d2] => { results := [.lit (.bool true)], args := [d1, d2] }
  | _ => none }
def fnExactLineWaitsRow : OpenClaim := { program := "ytoapfcnpmpggcab", sum := "49c999042d75b9d1f39ce1a1d7524ba43690ba43c62bb5fccddf571144bbe5c8", func := "loop.example/blockboxes/laws.FnExactLineWaits", spec := "fnExactLineWaits", unfollowed := true, recurses := true, apart := false }
def FnExactLineWaitsSaid : Prop := fnExactLineWaitsRow.holds Try.pinned (OpenSpec.ofChange fnExactLineWaitsSpec)

/-- ITS FALSE NEIGHBOUR: 'it returns false'. Refute it at one input. -/
def fnExactLineWaitsWrong : ChangeSpec := { name := "fnExactLineWaits", fn := fun _ => fun
  | [d1, d2] => { results := [.lit (.bool false)], args := [d1, d2] }
  | _ => none }
def FnExactLineWaitsWrongFalsely : Prop := fnExactLineWaitsRow.holds Try.pinned (OpenSpec.ofChange fnExactLineWaitsWrong)

/-- 'laws.FnExactLineIn': WHATEVER THE INPUT: true; the input reads as it did. -/
def fnExactLineInSpec : ChangeSpec := { name := "fnExactLineIn", fn := fun _ => fun
  | [d1, d2] => { results := [.lit (.bool true)], args := [d1, d2] }
  | _ => none }
def fnExactLineInRow : OpenClaim := { program := "ytoapfcnpmpggcab", sum := "49c999042d75b9d1f39ce1a1d7524ba43690ba43c62bb5fccddf571144bbe5c8", func := "loop.example/blockboxes/laws.FnExactLineIn", spec := "fnExactLineIn", unfollowed := true, recurses := true, apart := false }
def FnExactLineInSaid : Prop := fnExactLineInRow.holds Try.pinned (OpenSpec.ofChange fnExactLineInSpec)

/-- ITS FALSE NEIGHBOUR: 'it returns false'. Refute it at one input. -/
def fnExactLineInWrong : ChangeSpec := { name := "fnExactLineIn", fn := fun _ => fun
  | [d1, d2] => { results := [.lit (.bool false)], args := [d1, d2] }
  | _ => none }
def FnExactLineInWrongFalsely : Prop := fnExactLineInRow.holds Try.pinned (OpenSpec.ofChange fnExactLineInWrong)

/-- 'laws.FnExactLineOrder': WHATEVER THE INPUT: true; the input reads as it did. -/
def fnExactLineOrderSpec : ChangeSpec := { name := "fnExactLineOrder", fn := fun _ => fun
  | [d] => { results := [.lit (.bool true)], args := [d] }
  | _ => none }
def fnExactLineOrderRow : OpenClaim := { program := "ytoapfcnpmpggcab", sum := "49c999042d75b9d1f39ce1a1d7524ba43690ba43c62bb5fccddf571144bbe5c8", func := "loop.example/blockboxes/laws.FnExactLineOrder", spec := "fnExactLineOrder", unfollowed := true, recurses := true, apart := false }
def FnExactLineOrderSaid : Prop := fnExactLineOrderRow.holds Try.pinned (OpenSpec.ofChange fnExactLineOrderSpec)

/-- ITS FALSE NEIGHBOUR: 'it returns false'. Refute it at one input. -/
def fnExactLineOrderWrong : ChangeSpec := { name := "fnExactLineOrder", fn := fun _ => fun
  | [d] => { results := [.lit (.bool false)], args := [d] }
  | _ => none }
def FnExactLineOrderWrongFalsely : Prop := fnExactLineOrderRow.holds Try.pinned (OpenSpec.ofChange fnExactLineOrderWrong)

/- THE SECOND FORM. 'bulk': how many values and letters a reading holds, each counted each time it is reached (what is shared counts as often as it is met; a slice's spare places count too). A statement '..UptoSaid' is the law's where the arguments, and the package variables that the reading takes, are together of bulk at most 1048576: NARROWER than '..Said'. Prove '..Said' where nothing that the law and all that it calls make is longer than what came in: it says more and counts as full. Else prove '..UptoSaid'. A law counts once. -/
mutual
def uptoBulk {H : Type} : DataW H → Nat
  | .lit (.string bytes) => bytes.length + 1
  | .lit _ => 1
  | .nil => 1
  | .ptr d => uptoBulk d + 1
  | .slice elems spare => uptoBulkAll elems + uptoBulkAll spare + 1
  | .agg parts => uptoBulkAll parts + 1
  | .iface _ d => uptoBulk d + 1
  | .map entries => uptoBulkEntries entries + 1
  | .held _ => 1
def uptoBulkAll {H : Type} : List (DataW H) → Nat
  | [] => 0
  | d :: r => uptoBulk d + uptoBulkAll r
def uptoBulkEntries {H : Type} : List (Lit × DataW H) → Nat
  | [] => 0
  | x :: r => uptoBulkEntry x + uptoBulkEntries r
def uptoBulkEntry {H : Type} : Lit × DataW H → Nat
  | (.string bytes, d) => bytes.length + uptoBulk d + 1
  | (_, d) => uptoBulk d + 1
 end
def uptoSmall : (H : Type) → List (DataW H) → Bool := fun _ ds => decide (uptoBulkAll ds ≤ 1048576)
def OpenSpec.upto (s : _root_.Go.ChangeSpec) : _root_.Go.OpenSpec := { _root_.Go.OpenSpec.ofChange s with cond := some uptoSmall }

/-- 'laws.FnExactLineValid', WHERE WHAT IT READS IS OF BULK AT MOST 1048576: true; the input reads as it did. -/
def fnExactLineValidUptoRow : OpenClaim := { program := "ytoapfcnpmpggcab", sum := "49c999042d75b9d1f39ce1a1d7524ba43690ba43c62bb5fccddf571144bbe5c8", func := "loop.example/blockboxes/laws.FnExactLineValid", spec := "fnExactLineValid", unfollowed := true, recurses := true, apart := false, narrowed := true }
def FnExactLineValidUptoSaid : Prop := fnExactLineValidUptoRow.holds Try.pinned (OpenSpec.upto fnExactLineValidSpec)

/-- 'laws.FnExactLineNew', WHERE WHAT IT READS IS OF BULK AT MOST 1048576: true; the input reads as it did. -/
def fnExactLineNewUptoRow : OpenClaim := { program := "ytoapfcnpmpggcab", sum := "49c999042d75b9d1f39ce1a1d7524ba43690ba43c62bb5fccddf571144bbe5c8", func := "loop.example/blockboxes/laws.FnExactLineNew", spec := "fnExactLineNew", apart := false, narrowed := true }
def FnExactLineNewUptoSaid : Prop := fnExactLineNewUptoRow.holds Try.pinned (OpenSpec.upto fnExactLineNewSpec)

/-- 'laws.FnExactLineStep', WHERE WHAT IT READS IS OF BULK AT MOST 1048576: true; the input reads as it did. -/
def fnExactLineStepUptoRow : OpenClaim := { program := "ytoapfcnpmpggcab", sum := "49c999042d75b9d1f39ce1a1d7524ba43690ba43c62bb5fccddf571144bbe5c8", func := "loop.example/blockboxes/laws.FnExactLineStep", spec := "fnExactLineStep", unfollowed := true, recurses := true, apart := false, narrowed := true }
def FnExactLineStepUptoSaid : Prop := fnExactLineStepUptoRow.holds Try.pinned (OpenSpec.upto fnExactLineStepSpec)

/-- 'laws.FnExactLineRun', WHERE WHAT IT READS IS OF BULK AT MOST 1048576: true; the input reads as it did. -/
def fnExactLineRunUptoRow : OpenClaim := { program := "ytoapfcnpmpggcab", sum := "49c999042d75b9d1f39ce1a1d7524ba43690ba43c62bb5fccddf571144bbe5c8", func := "loop.example/blockboxes/laws.FnExactLineRun", spec := "fnExactLineRun", unfollowed := true, recurses := true, apart := false, narrowed := true }
def FnExactLineRunUptoSaid : Prop := fnExactLineRunUptoRow.holds Try.pinned (OpenSpec.upto fnExactLineRunSpec)

/-- 'laws.FnExactLineMoves', WHERE WHAT IT READS IS OF BULK AT MOST 1048576: true; the input reads as it did. -/
def fnExactLineMovesUptoRow : OpenClaim := { program := "ytoapfcnpmpggcab", sum := "49c999042d75b9d1f39ce1a1d7524ba43690ba43c62bb5fccddf571144bbe5c8", func := "loop.example/blockboxes/laws.FnExactLineMoves", spec := "fnExactLineMoves", unfollowed := true, recurses := true, apart := false, narrowed := true }
def FnExactLineMovesUptoSaid : Prop := fnExactLineMovesUptoRow.holds Try.pinned (OpenSpec.upto fnExactLineMovesSpec)

/-- 'laws.FnExactLineDone', WHERE WHAT IT READS IS OF BULK AT MOST 1048576: true; the input reads as it did. -/
def fnExactLineDoneUptoRow : OpenClaim := { program := "ytoapfcnpmpggcab", sum := "49c999042d75b9d1f39ce1a1d7524ba43690ba43c62bb5fccddf571144bbe5c8", func := "loop.example/blockboxes/laws.FnExactLineDone", spec := "fnExactLineDone", unfollowed := true, recurses := true, apart := false, narrowed := true }
def FnExactLineDoneUptoSaid : Prop := fnExactLineDoneUptoRow.holds Try.pinned (OpenSpec.upto fnExactLineDoneSpec)

/-- 'laws.FnExactLineLeft', WHERE WHAT IT READS IS OF BULK AT MOST 1048576: true; the input reads as it did. -/
def fnExactLineLeftUptoRow : OpenClaim := { program := "ytoapfcnpmpggcab", sum := "49c999042d75b9d1f39ce1a1d7524ba43690ba43c62bb5fccddf571144bbe5c8", func := "loop.example/blockboxes/laws.FnExactLineLeft", spec := "fnExactLineLeft", unfollowed := true, recurses := true, apart := false, narrowed := true }
def FnExactLineLeftUptoSaid : Prop := fnExactLineLeftUptoRow.holds Try.pinned (OpenSpec.upto fnExactLineLeftSpec)

/-- 'laws.FnExactLineFinish', WHERE WHAT IT READS IS OF BULK AT MOST 1048576: true; the input reads as it did. -/
def fnExactLineFinishUptoRow : OpenClaim := { program := "ytoapfcnpmpggcab", sum := "49c999042d75b9d1f39ce1a1d7524ba43690ba43c62bb5fccddf571144bbe5c8", func := "loop.example/blockboxes/laws.FnExactLineFinish", spec := "fnExactLineFinish", unfollowed := true, recurses := true, apart := false, narrowed := true }
def FnExactLineFinishUptoSaid : Prop := fnExactLineFinishUptoRow.holds Try.pinned (OpenSpec.upto fnExactLineFinishSpec)

/-- 'laws.FnExactLineText', WHERE WHAT IT READS IS OF BULK AT MOST 1048576: true; the input reads as it did. -/
def fnExactLineTextUptoRow : OpenClaim := { program := "ytoapfcnpmpggcab", sum := "49c999042d75b9d1f39ce1a1d7524ba43690ba43c62bb5fccddf571144bbe5c8", func := "loop.example/blockboxes/laws.FnExactLineText", spec := "fnExactLineText", inPlace := ["internal/abi.NoEscape"], apart := false, narrowed := true }
def FnExactLineTextUptoSaid : Prop := fnExactLineTextUptoRow.holds Try.pinned (OpenSpec.upto fnExactLineTextSpec)

/-- 'laws.FnExactLineWaits', WHERE WHAT IT READS IS OF BULK AT MOST 1048576: true; the input reads as it did. -/
def fnExactLineWaitsUptoRow : OpenClaim := { program := "ytoapfcnpmpggcab", sum := "49c999042d75b9d1f39ce1a1d7524ba43690ba43c62bb5fccddf571144bbe5c8", func := "loop.example/blockboxes/laws.FnExactLineWaits", spec := "fnExactLineWaits", unfollowed := true, recurses := true, apart := false, narrowed := true }
def FnExactLineWaitsUptoSaid : Prop := fnExactLineWaitsUptoRow.holds Try.pinned (OpenSpec.upto fnExactLineWaitsSpec)

/-- 'laws.FnExactLineIn', WHERE WHAT IT READS IS OF BULK AT MOST 1048576: true; the input reads as it did. -/
def fnExactLineInUptoRow : OpenClaim := { program := "ytoapfcnpmpggcab", sum := "49c999042d75b9d1f39ce1a1d7524ba43690ba43c62bb5fccddf571144bbe5c8", func := "loop.example/blockboxes/laws.FnExactLineIn", spec := "fnExactLineIn", unfollowed := true, recurses := true, apart := false, narrowed := true }
def FnExactLineInUptoSaid : Prop := fnExactLineInUptoRow.holds Try.pinned (OpenSpec.upto fnExactLineInSpec)

/-- 'laws.FnExactLineOrder', WHERE WHAT IT READS IS OF BULK AT MOST 1048576: true; the input reads as it did. -/
def fnExactLineOrderUptoRow : OpenClaim := { program := "ytoapfcnpmpggcab", sum := "49c999042d75b9d1f39ce1a1d7524ba43690ba43c62bb5fccddf571144bbe5c8", func := "loop.example/blockboxes/laws.FnExactLineOrder", spec := "fnExactLineOrder", unfollowed := true, recurses := true, apart := false, narrowed := true }
def FnExactLineOrderUptoSaid : Prop := fnExactLineOrderUptoRow.holds Try.pinned (OpenSpec.upto fnExactLineOrderSpec)

end Rows
end Go.Proofs.Ytoapfcnpmpggcab
