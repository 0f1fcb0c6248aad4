/-
  No cell of these rows narrows 'for every input' (looked for: loops, veiled, ifaces, maps, wideKeys, modest, calm, conditions, laid).
  DERIVED. THE GIVEN ROWS OF THIS SEAT. 12 by the template 'for every input the law returns true; each argument reads behind the call as it read before'; 0 by the template 'total and deterministic' (their statements: YtifiomeiebammaaTotals.lean).
  GIVEN WITH THE SEED: the statements are not yours to turn. If you find one false, say at which input.
  Laid BY PROGRAM, IN A SANDBOX (cutbox-rows.mjs): the forced cells as the released guide's own fill.sh prints them over the translation 9fa4b77d2ad3f956… (all of the seat's roots in one cut). By AI agents, Wed Nov 11 2026. No macro, syntax, notation, axiom, sorry.
-/
import Derived.Test.YtifiomeiebammaaChecked
import GoSem.Claim
import GoSem.ClaimJoined
import GoSem.ClaimMapViews
import Derived.JoinedTies
import Derived.KernelRfl
namespace Go.Proofs.Ytifiomeiebammaa
/- THE CELL 'sum', in the pinned program and in every row, IS THE sha256 OF THE DUMP (.gsa) THAT YtifiomeiebammaaProg.lean LOADS. Nothing in Lean hashes anything: it is a label: what it is worth is what the hold of that sum in a sandbox is worth. -/
noncomputable def Try.pinned : Pinned := { name := "ytifiomeiebammaa", sum := "9fa4b77d2ad3f956423f34e18bafb46b2a989f8e37b711c382a19deffada4ace", checked := Try.checked }
namespace Rows
def none {H : Type} : Left H := { results := [], args := [] }

/-- 'laws.FnPathStands': WHATEVER THE INPUT: true; the input reads as it did. -/
def fnPathStandsSpec : ChangeSpec := { name := "fnPathStands", fn := fun _ => fun
  | [d] => { results := [.lit (.bool true)], args := [d] }
  | _ => none }
def fnPathStandsRow : OpenClaim := { program := "ytifiomeiebammaa", sum := "9fa4b77d2ad3f956423f34e18bafb46b2a989f8e37b711c382a19deffada4ace", func := "loop.example/blockboxes/laws.FnPathStands", spec := "fnPathStands", unfollowed := true, recurses := true, apart := false }
def FnPathStandsSaid : Prop := fnPathStandsRow.holds Try.pinned (OpenSpec.ofChange fnPathStandsSpec)

/-- ITS FALSE NEIGHBOUR: 'it returns false'. Refute it at one input. -/
def fnPathStandsWrong : ChangeSpec := { name := "fnPathStands", fn := fun _ => fun
  | [d] => { results := [.lit (.bool false)], args := [d] }
  | _ => none }
def FnPathStandsWrongFalsely : Prop := fnPathStandsRow.holds Try.pinned (OpenSpec.ofChange fnPathStandsWrong)

/-- 'laws.FnExactPathValid': WHATEVER THE INPUT: true; the input reads as it did. -/
def fnExactPathValidSpec : ChangeSpec := { name := "fnExactPathValid", fn := fun _ => fun
  | [d1, d2] => { results := [.lit (.bool true)], args := [d1, d2] }
  | _ => none }
def fnExactPathValidRow : OpenClaim := { program := "ytifiomeiebammaa", sum := "9fa4b77d2ad3f956423f34e18bafb46b2a989f8e37b711c382a19deffada4ace", func := "loop.example/blockboxes/laws.FnExactPathValid", spec := "fnExactPathValid", apart := false }
def FnExactPathValidSaid : Prop := fnExactPathValidRow.holds Try.pinned (OpenSpec.ofChange fnExactPathValidSpec)

/-- ITS FALSE NEIGHBOUR: 'it returns false'. Refute it at one input. -/
def fnExactPathValidWrong : ChangeSpec := { name := "fnExactPathValid", fn := fun _ => fun
  | [d1, d2] => { results := [.lit (.bool false)], args := [d1, d2] }
  | _ => none }
def FnExactPathValidWrongFalsely : Prop := fnExactPathValidRow.holds Try.pinned (OpenSpec.ofChange fnExactPathValidWrong)

/-- 'laws.FnExactPathLate': WHATEVER THE INPUT: true; the input reads as it did. -/
def fnExactPathLateSpec : ChangeSpec := { name := "fnExactPathLate", fn := fun _ => fun
  | [d1, d2, d3] => { results := [.lit (.bool true)], args := [d1, d2, d3] }
  | _ => none }
def fnExactPathLateRow : OpenClaim := { program := "ytifiomeiebammaa", sum := "9fa4b77d2ad3f956423f34e18bafb46b2a989f8e37b711c382a19deffada4ace", func := "loop.example/blockboxes/laws.FnExactPathLate", spec := "fnExactPathLate", apart := false }
def FnExactPathLateSaid : Prop := fnExactPathLateRow.holds Try.pinned (OpenSpec.ofChange fnExactPathLateSpec)

/-- ITS FALSE NEIGHBOUR: 'it returns false'. Refute it at one input. -/
def fnExactPathLateWrong : ChangeSpec := { name := "fnExactPathLate", fn := fun _ => fun
  | [d1, d2, d3] => { results := [.lit (.bool false)], args := [d1, d2, d3] }
  | _ => none }
def FnExactPathLateWrongFalsely : Prop := fnExactPathLateRow.holds Try.pinned (OpenSpec.ofChange fnExactPathLateWrong)

/-- 'laws.FnExactPathStands': WHATEVER THE INPUT: true; the input reads as it did. -/
def fnExactPathStandsSpec : ChangeSpec := { name := "fnExactPathStands", fn := fun _ => fun
  | [d1, d2] => { results := [.lit (.bool true)], args := [d1, d2] }
  | _ => none }
def fnExactPathStandsRow : OpenClaim := { program := "ytifiomeiebammaa", sum := "9fa4b77d2ad3f956423f34e18bafb46b2a989f8e37b711c382a19deffada4ace", func := "loop.example/blockboxes/laws.FnExactPathStands", spec := "fnExactPathStands", apart := false }
def FnExactPathStandsSaid : Prop := fnExactPathStandsRow.holds Try.pinned (OpenSpec.ofChange fnExactPathStandsSpec)

/-- ITS FALSE NEIGHBOUR: 'it returns false'. Refute it at one input. -/
def fnExactPathStandsWrong : ChangeSpec := { name := "fnExactPathStands", fn := fun _ => fun
  | [d1, d2] => { results := [.lit (.bool false)], args := [d1, d2] }
  | _ => none }
def FnExactPathStandsWrongFalsely : Prop := fnExactPathStandsRow.holds Try.pinned (OpenSpec.ofChange fnExactPathStandsWrong)

/-- 'laws.FnExactPathClash': WHATEVER THE INPUT: true; the input reads as it did. -/
def fnExactPathClashSpec : ChangeSpec := { name := "fnExactPathClash", fn := fun _ => fun
  | [d1, d2, d3] => { results := [.lit (.bool true)], args := [d1, d2, d3] }
  | _ => none }
def fnExactPathClashRow : OpenClaim := { program := "ytifiomeiebammaa", sum := "9fa4b77d2ad3f956423f34e18bafb46b2a989f8e37b711c382a19deffada4ace", func := "loop.example/blockboxes/laws.FnExactPathClash", spec := "fnExactPathClash", apart := false }
def FnExactPathClashSaid : Prop := fnExactPathClashRow.holds Try.pinned (OpenSpec.ofChange fnExactPathClashSpec)

/-- ITS FALSE NEIGHBOUR: 'it returns false'. Refute it at one input. -/
def fnExactPathClashWrong : ChangeSpec := { name := "fnExactPathClash", fn := fun _ => fun
  | [d1, d2, d3] => { results := [.lit (.bool false)], args := [d1, d2, d3] }
  | _ => none }
def FnExactPathClashWrongFalsely : Prop := fnExactPathClashRow.holds Try.pinned (OpenSpec.ofChange fnExactPathClashWrong)

/-- 'laws.FnExactPathsValid': WHATEVER THE INPUT: true; the input reads as it did. -/
def fnExactPathsValidSpec : ChangeSpec := { name := "fnExactPathsValid", fn := fun _ => fun
  | [d1, d2] => { results := [.lit (.bool true)], args := [d1, d2] }
  | _ => none }
def fnExactPathsValidRow : OpenClaim := { program := "ytifiomeiebammaa", sum := "9fa4b77d2ad3f956423f34e18bafb46b2a989f8e37b711c382a19deffada4ace", func := "loop.example/blockboxes/laws.FnExactPathsValid", spec := "fnExactPathsValid", apart := false }
def FnExactPathsValidSaid : Prop := fnExactPathsValidRow.holds Try.pinned (OpenSpec.ofChange fnExactPathsValidSpec)

/-- ITS FALSE NEIGHBOUR: 'it returns false'. Refute it at one input. -/
def fnExactPathsValidWrong : ChangeSpec := { name := "fnExactPathsValid", fn := fun _ => fun
  | [d1, d2] => { results := [.lit (.bool false)], args := [d1, d2] }
  | _ => none }
def FnExactPathsValidWrongFalsely : Prop := fnExactPathsValidRow.holds Try.pinned (OpenSpec.ofChange fnExactPathsValidWrong)

/-- 'laws.FnExactPathsPasses': WHATEVER THE INPUT: true; the input reads as it did. -/
def fnExactPathsPassesSpec : ChangeSpec := { name := "fnExactPathsPasses", fn := fun _ => fun
  | [d1, d2] => { results := [.lit (.bool true)], args := [d1, d2] }
  | _ => none }
def fnExactPathsPassesRow : OpenClaim := { program := "ytifiomeiebammaa", sum := "9fa4b77d2ad3f956423f34e18bafb46b2a989f8e37b711c382a19deffada4ace", func := "loop.example/blockboxes/laws.FnExactPathsPasses", spec := "fnExactPathsPasses", apart := false }
def FnExactPathsPassesSaid : Prop := fnExactPathsPassesRow.holds Try.pinned (OpenSpec.ofChange fnExactPathsPassesSpec)

/-- ITS FALSE NEIGHBOUR: 'it returns false'. Refute it at one input. -/
def fnExactPathsPassesWrong : ChangeSpec := { name := "fnExactPathsPasses", fn := fun _ => fun
  | [d1, d2] => { results := [.lit (.bool false)], args := [d1, d2] }
  | _ => none }
def FnExactPathsPassesWrongFalsely : Prop := fnExactPathsPassesRow.holds Try.pinned (OpenSpec.ofChange fnExactPathsPassesWrong)

/-- 'laws.FnExactPathsBusy': WHATEVER THE INPUT: true; the input reads as it did. -/
def fnExactPathsBusySpec : ChangeSpec := { name := "fnExactPathsBusy", fn := fun _ => fun
  | [d1, d2, d3] => { results := [.lit (.bool true)], args := [d1, d2, d3] }
  | _ => none }
def fnExactPathsBusyRow : OpenClaim := { program := "ytifiomeiebammaa", sum := "9fa4b77d2ad3f956423f34e18bafb46b2a989f8e37b711c382a19deffada4ace", func := "loop.example/blockboxes/laws.FnExactPathsBusy", spec := "fnExactPathsBusy", apart := false }
def FnExactPathsBusySaid : Prop := fnExactPathsBusyRow.holds Try.pinned (OpenSpec.ofChange fnExactPathsBusySpec)

/-- ITS FALSE NEIGHBOUR: 'it returns false'. Refute it at one input. -/
def fnExactPathsBusyWrong : ChangeSpec := { name := "fnExactPathsBusy", fn := fun _ => fun
  | [d1, d2, d3] => { results := [.lit (.bool false)], args := [d1, d2, d3] }
  | _ => none }
def FnExactPathsBusyWrongFalsely : Prop := fnExactPathsBusyRow.holds Try.pinned (OpenSpec.ofChange fnExactPathsBusyWrong)

/-- 'laws.FnExactPathsFree': WHATEVER THE INPUT: true; the input reads as it did. -/
def fnExactPathsFreeSpec : ChangeSpec := { name := "fnExactPathsFree", fn := fun _ => fun
  | [d1, d2, d3, d4, d5] => { results := [.lit (.bool true)], args := [d1, d2, d3, d4, d5] }
  | _ => none }
def fnExactPathsFreeRow : OpenClaim := { program := "ytifiomeiebammaa", sum := "9fa4b77d2ad3f956423f34e18bafb46b2a989f8e37b711c382a19deffada4ace", func := "loop.example/blockboxes/laws.FnExactPathsFree", spec := "fnExactPathsFree", unfollowed := true, recurses := true, apart := false }
def FnExactPathsFreeSaid : Prop := fnExactPathsFreeRow.holds Try.pinned (OpenSpec.ofChange fnExactPathsFreeSpec)

/-- ITS FALSE NEIGHBOUR: 'it returns false'. Refute it at one input. -/
def fnExactPathsFreeWrong : ChangeSpec := { name := "fnExactPathsFree", fn := fun _ => fun
  | [d1, d2, d3, d4, d5] => { results := [.lit (.bool false)], args := [d1, d2, d3, d4, d5] }
  | _ => none }
def FnExactPathsFreeWrongFalsely : Prop := fnExactPathsFreeRow.holds Try.pinned (OpenSpec.ofChange fnExactPathsFreeWrong)

/-- 'laws.FnExactPathRun': WHATEVER THE INPUT: true; the input reads as it did. -/
def fnExactPathRunSpec : ChangeSpec := { name := "fnExactPathRun", fn := fun _ => fun
  | [d1, d2] => { results := [.lit (.bool true)], args := [d1, d2] }
  | _ => none }
def fnExactPathRunRow : OpenClaim := { program := "ytifiomeiebammaa", sum := "9fa4b77d2ad3f956423f34e18bafb46b2a989f8e37b711c382a19deffada4ace", func := "loop.example/blockboxes/laws.FnExactPathRun", spec := "fnExactPathRun", unfollowed := true, recurses := true, apart := false }
def FnExactPathRunSaid : Prop := fnExactPathRunRow.holds Try.pinned (OpenSpec.ofChange fnExactPathRunSpec)

/-- ITS FALSE NEIGHBOUR: 'it returns false'. Refute it at one input. -/
def fnExactPathRunWrong : ChangeSpec := { name := "fnExactPathRun", fn := fun _ => fun
  | [d1, d2] => { results := [.lit (.bool false)], args := [d1, d2] }
  | _ => none }
def FnExactPathRunWrongFalsely : Prop := fnExactPathRunRow.holds Try.pinned (OpenSpec.ofChange fnExactPathRunWrong)

/-- 'laws.FnExactPathsFit': WHATEVER THE INPUT: true; the input reads as it did. -/
def fnExactPathsFitSpec : ChangeSpec := { name := "fnExactPathsFit", fn := fun _ => fun
  | [d1, d2, d3, d4] => { results := [.lit (.bool true)], args := [d1, d2, d3, d4] }
  | _ => none }
def fnExactPathsFitRow : OpenClaim := { program := "ytifiomeiebammaa", sum := "9fa4b77d2ad3f956423f34e18bafb46b2a989f8e37b711c382a19deffada4ace", func := "loop.example/blockboxes/laws.FnExactPathsFit", spec := "fnExactPathsFit", unfollowed := true, recurses := true, apart := false }
def FnExactPathsFitSaid : Prop := fnExactPathsFitRow.holds Try.pinned (OpenSpec.ofChange fnExactPathsFitSpec)

/-- ITS FALSE NEIGHBOUR: 'it returns false'. Refute it at one input. -/
def fnExactPathsFitWrong : ChangeSpec := { name := "fnExactPathsFit", fn := fun _ => fun
  | [d1, d2, d3, d4] => { results := [.lit (.bool false)], args := [d1, d2, d3, d4] }
  | _ => none }
def FnExactPathsFitWrongFalsely : Prop := fnExactPathsFitRow.holds Try.pinned (OpenSpec.ofChange fnExactPathsFitWrong)

/-- 'laws.FnExactPathsAdd': WHATEVER THE INPUT: true; the input reads as it did. -/
def fnExactPathsAddSpec : ChangeSpec := { name := "fnExactPathsAdd", fn := fun _ => fun
  | [d1, d2, d3, d4] => { results := [.lit (.bool true)], args := [d1, d2, d3, d4] }
  | _ => none }
def fnExactPathsAddRow : OpenClaim := { program := "ytifiomeiebammaa", sum := "9fa4b77d2ad3f956423f34e18bafb46b2a989f8e37b711c382a19deffada4ace", func := "loop.example/blockboxes/laws.FnExactPathsAdd", spec := "fnExactPathsAdd", unfollowed := true, recurses := true, apart := false }
def FnExactPathsAddSaid : Prop := fnExactPathsAddRow.holds Try.pinned (OpenSpec.ofChange fnExactPathsAddSpec)

/-- ITS FALSE NEIGHBOUR: 'it returns false'. Refute it at one input. -/
def fnExactPathsAddWrong : ChangeSpec := { name := "fnExactPathsAdd", fn := fun _ => fun
  | [d1, d2, d3, d4] => { results := [.lit (.bool false)], args := [d1, d2, d3, d4] }
  | _ => none }
def FnExactPathsAddWrongFalsely : Prop := fnExactPathsAddRow.holds Try.pinned (OpenSpec.ofChange fnExactPathsAddWrong)

/- THE SECOND FORM. 'bulk': how many values and letters a reading holds, each counted each time it is reached (what is shared counts as often as it is met; a slice's spare places count too). A statement '..UptoSaid' is the law's where the arguments, and the package variables that the reading takes, are together of bulk at most 1048576: NARROWER than '..Said'. Prove '..Said' where nothing that the law and all that it calls make is longer than what came in: it says more and counts as full. Else prove '..UptoSaid'. A law counts once. -/
mutual
def uptoBulk {H : Type} : DataW H → Nat
  | .lit (.string bytes) => bytes.length + 1
  | .lit _ => 1
  | .nil => 1
  | .ptr d => uptoBulk d + 1
  | .slice elems spare => uptoBulkAll elems + uptoBulkAll spare + 1
  | .agg parts => uptoBulkAll parts + 1
  | .iface _ d => uptoBulk d + 1
  | .map entries => uptoBulkEntries entries + 1
  | .held _ => 1
def uptoBulkAll {H : Type} : List (DataW H) → Nat
  | [] => 0
  | d :: r => uptoBulk d + uptoBulkAll r
def uptoBulkEntries {H : Type} : List (Lit × DataW H) → Nat
  | [] => 0
  | x :: r => uptoBulkEntry x + uptoBulkEntries r
def uptoBulkEntry {H : Type} : Lit × DataW H → Nat
  | (.string bytes, d) => bytes.length + uptoBulk d + 1
  | (_, d) => uptoBulk d + 1
 end
def uptoSmall : (H : Type) → List (DataW H) → Bool := fun _ ds => decide (uptoBulkAll ds ≤ 1048576)
def OpenSpec.upto (s : _root_.Go.ChangeSpec) : _root_.Go.OpenSpec := { _root_.Go.OpenSpec.ofChange s with cond := some uptoSmall }

/-- 'laws.FnPathStands', WHERE WHAT IT READS IS OF BULK AT MOST 1048576: true; the input reads as it did. -/
def fnPathStandsUptoRow : OpenClaim := { program := "ytifiomeiebammaa", sum := "9fa4b77d2ad3f956423f34e18bafb46b2a989f8e37b711c382a19deffada4ace", func := "loop.example/blockboxes/laws.FnPathStands", spec := "fnPathStands", unfollowed := true, recurses := true, apart := false, narrowed := true }
def FnPathStandsUptoSaid : Prop := fnPathStandsUptoRow.holds Try.pinned (OpenSpec.upto fnPathStandsSpec)

/-- 'laws.FnExactPathValid', WHERE WHAT IT READS IS OF BULK AT MOST 1048576: true; the input reads as it did. -/
def fnExactPathValidUptoRow : OpenClaim := { program := "ytifiomeiebammaa", sum := "9fa4b77d2ad3f956423f34e18bafb46b2a989f8e37b711c382a19deffada4ace", func := "loop.example/blockboxes/laws.FnExactPathValid", spec := "fnExactPathValid", apart := false, narrowed := true }
def FnExactPathValidUptoSaid : Prop := fnExactPathValidUptoRow.holds Try.pinned (OpenSpec.upto fnExactPathValidSpec)

/-- 'laws.FnExactPathLate', WHERE WHAT IT READS IS OF BULK AT MOST 1048576: true; the input reads as it did. -/
def fnExactPathLateUptoRow : OpenClaim := { program := "ytifiomeiebammaa", sum := "9fa4b77d2ad3f956423f34e18bafb46b2a989f8e37b711c382a19deffada4ace", func := "loop.example/blockboxes/laws.FnExactPathLate", spec := "fnExactPathLate", apart := false, narrowed := true }
def FnExactPathLateUptoSaid : Prop := fnExactPathLateUptoRow.holds Try.pinned (OpenSpec.upto fnExactPathLateSpec)

/-- 'laws.FnExactPathStands', WHERE WHAT IT READS IS OF BULK AT MOST 1048576: true; the input reads as it did. -/
def fnExactPathStandsUptoRow : OpenClaim := { program := "ytifiomeiebammaa", sum := "9fa4b77d2ad3f956423f34e18bafb46b2a989f8e37b711c382a19deffada4ace", func := "loop.example/blockboxes/laws.FnExactPathStands", spec := "fnExactPathStands", apart := false, narrowed := true }
def FnExactPathStandsUptoSaid : Prop := fnExactPathStandsUptoRow.holds Try.pinned (OpenSpec.upto fnExactPathStandsSpec)

/-- 'laws.FnExactPathClash', WHERE WHAT IT READS IS OF BULK AT MOST 1048576: true; the input reads as it did. -/
def fnExactPathClashUptoRow : OpenClaim := { program := "ytifiomeiebammaa", sum := "9fa4b77d2ad3f956423f34e18bafb46b2a989f8e37b711c382a19deffada4ace", func := "loop.example/blockboxes/laws.FnExactPathClash", spec := "fnExactPathClash", apart := false, narrowed := true }
def FnExactPathClashUptoSaid : Prop := fnExactPathClashUptoRow.holds Try.pinned (OpenSpec.upto fnExactPathClashSpec)

/-- 'laws.FnExactPathsValid', WHERE WHAT IT READS IS OF BULK AT MOST 1048576: true; the input reads as it did. -/
def fnExactPathsValidUptoRow : OpenClaim := { program := "ytifiomeiebammaa", sum := "9fa4b77d2ad3f956423f34e18bafb46b2a989f8e37b711c382a19deffada4ace", func := "loop.example/blockboxes/laws.FnExactPathsValid", spec := "fnExactPathsValid", apart := false, narrowed := true }
def FnExactPathsValidUptoSaid : Prop := fnExactPathsValidUptoRow.holds Try.pinned (OpenSpec.upto fnExactPathsValidSpec)

/-- 'laws.FnExactPathsPasses', WHERE WHAT IT READS IS OF BULK AT MOST 1048576: true; the input reads as it did. -/
def fnExactPathsPassesUptoRow : OpenClaim := { program := "ytifiomeiebammaa", sum := "9fa4b77d2ad3f956423f34e18bafb46b2a989f8e37b711c382a19deffada4ace", func := "loop.example/blockboxes/laws.FnExactPathsPasses", spec := "fnExactPathsPasses", apart := false, narrowed := true }
def FnExactPathsPassesUptoSaid : Prop := fnExactPathsPassesUptoRow.holds Try.pinned (OpenSpec.upto fnExactPathsPassesSpec)

/-- 'laws.FnExactPathsBusy', WHERE WHAT IT READS IS OF BULK AT MOST 1048576: true; the input reads as it did. -/
def fnExactPathsBusyUptoRow : OpenClaim := { program := "ytifiomeiebammaa", sum := "9fa4b77d2ad3f956423f34e18bafb46b2a989f8e37b711c382a19deffada4ace", func := "loop.example/blockboxes/laws.FnExactPathsBusy", spec := "fnExactPathsBusy", apart := false, narrowed := true }
def FnExactPathsBusyUptoSaid : Prop := fnExactPathsBusyUptoRow.holds Try.pinned (OpenSpec.upto fnExactPathsBusySpec)

/-- 'laws.FnExactPathsFree', WHERE WHAT IT READS IS OF BULK AT MOST 1048576: true; the input reads as it did. -/
def fnExactPathsFreeUptoRow : OpenClaim := { program := "ytifiomeiebammaa", sum := "9fa4b77d2ad3f956423f34e18bafb46b2a989f8e37b711c382a19deffada4ace", func := "loop.example/blockboxes/laws.FnExactPathsFree", spec := "fnExactPathsFree", unfollowed := true, recurses := true, apart := false, narrowed := true }
def FnExactPathsFreeUptoSaid : Prop := fnExactPathsFreeUptoRow.holds Try.pinned (OpenSpec.upto fnExactPathsFreeSpec)

/-- 'laws.FnExactPathRun', WHERE WHAT IT READS IS OF BULK AT MOST 1048576: true; the input reads as it did. -/
def fnExactPathRunUptoRow : OpenClaim := { program := "ytifiomeiebammaa", sum := "9fa4b77d2ad3f956423f34e18bafb46b2a989f8e37b711c382a19deffada4ace", func := "loop.example/blockboxes/laws.FnExactPathRun", spec := "fnExactPathRun", unfollowed := true, recurses := true, apart := false, narrowed := true }
def FnExactPathRunUptoSaid : Prop := fnExactPathRunUptoRow.holds Try.pinned (OpenSpec.upto fnExactPathRunSpec)

/-- 'laws.FnExactPathsFit', WHERE WHAT IT READS IS OF BULK AT MOST 1048576: true; the input reads as it did. -/
def fnExactPathsFitUptoRow : OpenClaim := { program := "ytifiomeiebammaa", sum := "9fa4b77d2ad3f956423f34e18bafb46b2a989f8e37b711c382a19deffada4ace", func := "loop.example/blockboxes/laws.FnExactPathsFit", spec := "fnExactPathsFit", unfollowed := true, recurses := true, apart := false, narrowed := true }
def FnExactPathsFitUptoSaid : Prop := fnExactPathsFitUptoRow.holds Try.pinned (OpenSpec.upto fnExactPathsFitSpec)

/-- 'laws.FnExactPathsAdd', WHERE WHAT IT READS IS OF BULK AT MOST 1048576: true; the input reads as it did. -/
def fnExactPathsAddUptoRow : OpenClaim := { program := "ytifiomeiebammaa", sum := "9fa4b77d2ad3f956423f34e18bafb46b2a989f8e37b711c382a19deffada4ace", func := "loop.example/blockboxes/laws.FnExactPathsAdd", spec := "fnExactPathsAdd", unfollowed := true, recurses := true, apart := false, narrowed := true }
def FnExactPathsAddUptoSaid : Prop := fnExactPathsAddUptoRow.holds Try.pinned (OpenSpec.upto fnExactPathsAddSpec)

end Rows
end Go.Proofs.Ytifiomeiebammaa
