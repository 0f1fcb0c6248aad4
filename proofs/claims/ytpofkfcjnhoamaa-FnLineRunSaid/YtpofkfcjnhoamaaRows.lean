/-
  No cell of these rows narrows 'for every input' (looked for: loops, veiled, ifaces, maps, wideKeys, modest, calm, conditions, laid).
  DERIVED. THE GIVEN ROWS OF THIS SEAT. 6 by the template 'for every input the law returns true; each argument reads behind the call as it read before'; 0 by the template 'total and deterministic' (their statements: YtpofkfcjnhoamaaTotals.lean).
  GIVEN WITH THE SEED: the statements are not yours to turn. If you find one false, say at which input.
  Laid BY PROGRAM, IN A SANDBOX (cutbox-rows.mjs): the forced cells as the released guide's own fill.sh prints them over the translation f0fe980938ceb992… (all of the seat's roots in one cut). By AI agents, Wed Nov 11 2026. No macro, syntax, notation, axiom, sorry.
-/
import Derived.Test.YtpofkfcjnhoamaaChecked
import GoSem.Claim
import GoSem.ClaimJoined
import GoSem.ClaimMapViews
import Derived.JoinedTies
import Derived.KernelRfl
namespace Go.Proofs.Ytpofkfcjnhoamaa
/- THE CELL 'sum', in the pinned program and in every row, IS THE sha256 OF THE DUMP (.gsa) THAT YtpofkfcjnhoamaaProg.lean LOADS. Nothing in Lean hashes anything: it is a label: what it is worth is what the hold of that sum in a sandbox is worth. -/
noncomputable def Try.pinned : Pinned := { name := "ytpofkfcjnhoamaa", sum := "f0fe980938ceb992fb83925d14fd1844090034941e0b234de4893a3735035b8b", checked := Try.checked }
namespace Rows
def none {H : Type} : Left H := { results := [], args := [] }

/-- 'laws.FnLine': WHATEVER THE INPUT: true; the input reads as it did. -/
def fnLineSpec : ChangeSpec := { name := "fnLine", fn := fun _ => fun
  | [d] => { results := [.lit (.bool true)], args := [d] }
  | _ => none }
def fnLineRow : OpenClaim := { program := "ytpofkfcjnhoamaa", sum := "f0fe980938ceb992fb83925d14fd1844090034941e0b234de4893a3735035b8b", func := "loop.example/blockboxes/laws.FnLine", spec := "fnLine", unfollowed := true, recurses := true, apart := false }
def FnLineSaid : Prop := fnLineRow.holds Try.pinned (OpenSpec.ofChange fnLineSpec)

/-- ITS FALSE NEIGHBOUR: 'it returns false'. Refute it at one input. -/
def fnLineWrong : ChangeSpec := { name := "fnLine", fn := fun _ => fun
  | [d] => { results := [.lit (.bool false)], args := [d] }
  | _ => none }
def FnLineWrongFalsely : Prop := fnLineRow.holds Try.pinned (OpenSpec.ofChange fnLineWrong)

/-- 'laws.FnLineWaits': WHATEVER THE INPUT: true; the input reads as it did. -/
def fnLineWaitsSpec : ChangeSpec := { name := "fnLineWaits", fn := fun _ => fun
  | [d] => { results := [.lit (.bool true)], args := [d] }
  | _ => none }
def fnLineWaitsRow : OpenClaim := { program := "ytpofkfcjnhoamaa", sum := "f0fe980938ceb992fb83925d14fd1844090034941e0b234de4893a3735035b8b", func := "loop.example/blockboxes/laws.FnLineWaits", spec := "fnLineWaits", unfollowed := true, recurses := true, apart := false }
def FnLineWaitsSaid : Prop := fnLineWaitsRow.holds Try.pinned (OpenSpec.ofChange fnLineWaitsSpec)

/-- ITS FALSE NEIGHBOUR: 'it returns false'. Refute it at one input. -/
def fnLineWaitsWrong : ChangeSpec := { name := "fnLineWaits", fn := fun _ => fun
  | [d] => { results := [.lit (.bool false)], args := [d] }
  | _ => none }
def FnLineWaitsWrongFalsely : Prop := fnLineWaitsRow.holds Try.pinned (OpenSpec.ofChange fnLineWaitsWrong)

/-- 'laws.FnLineStep': WHATEVER THE INPUT: true; the input reads as it did. -/
def fnLineStepSpec : ChangeSpec := { name := "fnLineStep", fn := fun _ => fun
  | [d] => { results := [.lit (.bool true)], args := [d] }
  | _ => none }
def fnLineStepRow : OpenClaim := { program := "ytpofkfcjnhoamaa", sum := "f0fe980938ceb992fb83925d14fd1844090034941e0b234de4893a3735035b8b", func := "loop.example/blockboxes/laws.FnLineStep", spec := "fnLineStep", unfollowed := true, recurses := true, apart := false }
def FnLineStepSaid : Prop := fnLineStepRow.holds Try.pinned (OpenSpec.ofChange fnLineStepSpec)

/-- ITS FALSE NEIGHBOUR: 'it returns false'. Refute it at one input. -/
def fnLineStepWrong : ChangeSpec := { name := "fnLineStep", fn := fun _ => fun
  | [d] => { results := [.lit (.bool false)], args := [d] }
  | _ => none }
def FnLineStepWrongFalsely : Prop := fnLineStepRow.holds Try.pinned (OpenSpec.ofChange fnLineStepWrong)

/-- 'laws.FnLineRun': WHATEVER THE INPUT: true; the input reads as it did. -/
def fnLineRunSpec : ChangeSpec := { name := "fnLineRun", fn := fun _ => fun
  | [d] => { results := [.lit (.bool true)], args := [d] }
  | _ => none }
def fnLineRunRow : OpenClaim := { program := "ytpofkfcjnhoamaa", sum := "f0fe980938ceb992fb83925d14fd1844090034941e0b234de4893a3735035b8b", func := "loop.example/blockboxes/laws.FnLineRun", spec := "fnLineRun", inPlace := ["internal/abi.NoEscape"], unfollowed := true, recurses := true, apart := false }
def FnLineRunSaid : Prop := fnLineRunRow.holds Try.pinned (OpenSpec.ofChange fnLineRunSpec)

/-- ITS FALSE NEIGHBOUR: 'it returns false'. Refute it at one input. -/
def fnLineRunWrong : ChangeSpec := { name := "fnLineRun", fn := fun _ => fun
  | [d] => { results := [.lit (.bool false)], args := [d] }
  | _ => none }
def FnLineRunWrongFalsely : Prop := fnLineRunRow.holds Try.pinned (OpenSpec.ofChange fnLineRunWrong)

/-- 'laws.FnLineMoves': WHATEVER THE INPUT: true; the input reads as it did. -/
def fnLineMovesSpec : ChangeSpec := { name := "fnLineMoves", fn := fun _ => fun
  | [d1, d2] => { results := [.lit (.bool true)], args := [d1, d2] }
  | _ => none }
def fnLineMovesRow : OpenClaim := { program := "ytpofkfcjnhoamaa", sum := "f0fe980938ceb992fb83925d14fd1844090034941e0b234de4893a3735035b8b", func := "loop.example/blockboxes/laws.FnLineMoves", spec := "fnLineMoves", unfollowed := true, recurses := true, apart := false }
def FnLineMovesSaid : Prop := fnLineMovesRow.holds Try.pinned (OpenSpec.ofChange fnLineMovesSpec)

/-- ITS FALSE NEIGHBOUR: 'it returns false'. Refute it at one input. -/
def fnLineMovesWrong : ChangeSpec := { name := "fnLineMoves", fn := fun _ => fun
  | [d1, d2] => { results := [.lit (.bool false)], args := [d1, d2] }
  | _ => none }
def FnLineMovesWrongFalsely : Prop := fnLineMovesRow.holds Try.pinned (OpenSpec.ofChange fnLineMovesWrong)

/-- 'laws.FnExactLineMoves': WHATEVER THE INPUT: true; the input reads as it did. -/
def fnExactLineMovesSpec : ChangeSpec := { name := "fnExactLineMoves", fn := fun _ => fun
  | [d] => { results := [.lit (.bool true)], args := [d] }
  | _ => none }
def fnExactLineMovesRow : OpenClaim := { program := "ytpofkfcjnhoamaa", sum := "f0fe980938ceb992fb83925d14fd1844090034941e0b234de4893a3735035b8b", func := "loop.example/blockboxes/laws.FnExactLineMoves", spec := "fnExactLineMoves", unfollowed := true, recurses := true, apart := false }
def FnExactLineMovesSaid : Prop := fnExactLineMovesRow.holds Try.pinned (OpenSpec.ofChange fnExactLineMovesSpec)

/-- ITS FALSE NEIGHBOUR: 'it returns false'. Refute it at one input. -/
def fnExactLineMovesWrong : ChangeSpec := { name := "fnExactLineMoves", fn := fun _ => fun
  | [d] => { results := [.lit (.bool false)], args := [d] }
  | _ => none }
def FnExactLineMovesWrongFalsely : Prop := fnExactLineMovesRow.holds Try.pinned (OpenSpec.ofChange fnExactLineMovesWrong)

/- THE SECOND FORM. 'bulk': how many values and letters a reading holds, each counted each time it is reached (what is shared counts as often as it is met; a slice's spare places count too). A statement '..UptoSaid' is the law's where the arguments, and the package variables that the reading takes, are together of bulk at most 1048576: NARROWER than '..Said'. Prove '..Said' where nothing that the law and all that it calls make is longer than what came in: it says more and counts as full. Else prove '..UptoSaid'. A law counts once. -/
mutual
def uptoBulk {H : Type} : DataW H → Nat
  | .lit (.string bytes) => bytes.length + 1
  | .lit _ => 1
  | .nil => 1
  | .ptr d => uptoBulk d + 1
  | .slice elems spare => uptoBulkAll elems + uptoBulkAll spare + 1
  | .agg parts => uptoBulkAll parts + 1
  | .iface _ d => uptoBulk d + 1
  | .map entries => uptoBulkEntries entries + 1
  | .held _ => 1
def uptoBulkAll {H : Type} : List (DataW H) → Nat
  | [] => 0
  | d :: r => uptoBulk d + uptoBulkAll r
def uptoBulkEntries {H : Type} : List (Lit × DataW H) → Nat
  | [] => 0
  | x :: r => uptoBulkEntry x + uptoBulkEntries r
def uptoBulkEntry {H : Type} : Lit × DataW H → Nat
  | (.string bytes, d) => bytes.length + uptoBulk d + 1
  | (_, d) => uptoBulk d + 1
 end
def uptoSmall : (H : Type) → List (DataW H) → Bool := fun _ ds => decide (uptoBulkAll ds ≤ 1048576)
def OpenSpec.upto (s : _root_.Go.ChangeSpec) : _root_.Go.OpenSpec := { _root_.Go.OpenSpec.ofChange s with cond := some uptoSmall }

/-- 'laws.FnLine', WHERE WHAT IT READS IS OF BULK AT MOST 1048576: true; the input reads as it did. -/
def fnLineUptoRow : OpenClaim := { program := "ytpofkfcjnhoamaa", sum := "f0fe980938ceb992fb83925d14fd1844090034941e0b234de4893a3735035b8b", func := "loop.example/blockboxes/laws.FnLine", spec := "fnLine", unfollowed := true, recurses := true, apart := false, narrowed := true }
def FnLineUptoSaid : Prop := fnLineUptoRow.holds Try.pinned (OpenSpec.upto fnLineSpec)

/-- 'laws.FnLineWaits', WHERE WHAT IT READS IS OF BULK AT MOST 1048576: true; the input reads as it did. -/
def fnLineWaitsUptoRow : OpenClaim := { program := "ytpofkfcjnhoamaa", sum := "f0fe980938ceb992fb83925d14fd1844090034941e0b234de4893a3735035b8b", func := "loop.example/blockboxes/laws.FnLineWaits", spec := "fnLineWaits", unfollowed := true, recurses := true, apart := false, narrowed := true }
def FnLineWaitsUptoSaid : Prop := fnLineWaitsUptoRow.holds Try.pinned (OpenSpec.upto fnLineWaitsSpec)

/-- 'laws.FnLineStep', WHERE WHAT IT READS IS OF BULK AT MOST 1048576: true; the input reads as it did. -/
def fnLineStepUptoRow : OpenClaim := { program := "ytpofkfcjnhoamaa", sum := "f0fe980938ceb992fb83925d14fd1844090034941e0b234de4893a3735035b8b", func := "loop.example/blockboxes/laws.FnLineStep", spec := "fnLineStep", unfollowed := true, recurses := true, apart := false, narrowed := true }
def FnLineStepUptoSaid : Prop := fnLineStepUptoRow.holds Try.pinned (OpenSpec.upto fnLineStepSpec)

/-- 'laws.FnLineRun', WHERE WHAT IT READS IS OF BULK AT MOST 1048576: true; the input reads as it did. -/
def fnLineRunUptoRow : OpenClaim := { program := "ytpofkfcjnhoamaa", sum := "f0fe980938ceb992fb83925d14fd1844090034941e0b234de4893a3735035b8b", func := "loop.example/blockboxes/laws.FnLineRun", spec := "fnLineRun", inPlace := ["internal/abi.NoEscape"], unfollowed := true, recurses := true, apart := false, narrowed := true }
def FnLineRunUptoSaid : Prop := fnLineRunUptoRow.holds Try.pinned (OpenSpec.upto fnLineRunSpec)

/-- 'laws.FnLineMoves', WHERE WHAT IT READS IS OF BULK AT MOST 1048576: true; the input reads as it did. -/
def fnLineMovesUptoRow : OpenClaim := { program := "ytpofkfcjnhoamaa", sum := "f0fe980938ceb992fb83925d14fd1844090034941e0b234de4893a3735035b8b", func := "loop.example/blockboxes/laws.FnLineMoves", spec := "fnLineMoves", unfollowed := true, recurses := true, apart := false, narrowed := true }
def FnLineMovesUptoSaid : Prop := fnLineMovesUptoRow.holds Try.pinned (OpenSpec.upto fnLineMovesSpec)

/-- 'laws.FnExactLineMoves', WHERE WHAT IT READS IS OF BULK AT MOST 1048576: true; the input reads as it did. -/
def fnExactLineMovesUptoRow : OpenClaim := { program := "ytpofkfcjnhoamaa", sum := "f0fe980938ceb992fb83925d14fd1844090034941e0b234de4893a3735035b8b", func := "loop.example/blockboxes/laws.FnExactLineMoves", spec := "fnExactLineMoves", unfollowed := true, recurses := true, apart := false, narrowed := true }
def FnExactLineMovesUptoSaid : Prop := fnExactLineMovesUptoRow.holds Try.pinned (OpenSpec.upto fnExactLineMovesSpec)

end Rows
end Go.Proofs.Ytpofkfcjnhoamaa
