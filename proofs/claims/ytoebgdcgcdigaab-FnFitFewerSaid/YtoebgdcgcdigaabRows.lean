/-
  No cell of these rows narrows 'for every input' (looked for: loops, veiled, ifaces, maps, wideKeys, modest, calm, conditions, laid).
  DERIVED. THE GIVEN ROWS OF THIS SEAT. 5 by the template 'for every input the law returns true; each argument reads behind the call as it read before'; 0 by the template 'total and deterministic' (their statements: YtoebgdcgcdigaabTotals.lean).
  GIVEN WITH THE SEED: the statements are not yours to turn. If you find one false, say at which input.
  Laid BY PROGRAM, IN A SANDBOX (cutbox-rows.mjs): the forced cells as the released guide's own fill.sh prints them over the translation 1cfddc5b3c2d547b… (all of the seat's roots in one cut). By AI agents, Wed Nov 11 2026. No macro, syntax, notation, axiom, sorry.
-/
import Derived.Test.YtoebgdcgcdigaabChecked
import GoSem.Claim
import GoSem.ClaimJoined
import GoSem.ClaimMapViews
import Derived.JoinedTies
import Derived.KernelRfl
namespace Go.Proofs.Ytoebgdcgcdigaab
/- THE CELL 'sum', in the pinned program and in every row, IS THE sha256 OF THE DUMP (.gsa) THAT YtoebgdcgcdigaabProg.lean LOADS. Nothing in Lean hashes anything: it is a label: what it is worth is what the hold of that sum in a sandbox is worth. -/
noncomputable def Try.pinned : Pinned := { name := "ytoebgdcgcdigaab", sum := "1cfddc5b3c2d547b9cd825587563e3d5247d126dad444787424d6705630f7aac", checked := Try.checked }
namespace Rows
def none {H : Type} : Left H := { results := [], args := [] }

/-- 'laws.FnPasses': WHATEVER THE INPUT: true; the input reads as it did. -/
def fnPassesSpec : ChangeSpec := { name := "fnPasses", fn := fun _ => fun
  | [d] => { results := [.lit (.bool true)], args := [d] }
  | _ => none }
def fnPassesRow : OpenClaim := { program := "ytoebgdcgcdigaab", sum := "1cfddc5b3c2d547b9cd825587563e3d5247d126dad444787424d6705630f7aac", func := "loop.example/blockboxes/laws.FnPasses", spec := "fnPasses", unfollowed := true, recurses := true, apart := false }
def FnPassesSaid : Prop := fnPassesRow.holds Try.pinned (OpenSpec.ofChange fnPassesSpec)

/-- ITS FALSE NEIGHBOUR: 'it returns false'. Refute it at one input. -/
def fnPassesWrong : ChangeSpec := { name := "fnPasses", fn := fun _ => fun
  | [d] => { results := [.lit (.bool false)], args := [d] }
  | _ => none }
def FnPassesWrongFalsely : Prop := fnPassesRow.holds Try.pinned (OpenSpec.ofChange fnPassesWrong)

/-- 'laws.FnFree': WHATEVER THE INPUT: true; the input reads as it did. -/
def fnFreeSpec : ChangeSpec := { name := "fnFree", fn := fun _ => fun
  | [d] => { results := [.lit (.bool true)], args := [d] }
  | _ => none }
def fnFreeRow : OpenClaim := { program := "ytoebgdcgcdigaab", sum := "1cfddc5b3c2d547b9cd825587563e3d5247d126dad444787424d6705630f7aac", func := "loop.example/blockboxes/laws.FnFree", spec := "fnFree", unfollowed := true, recurses := true, apart := false }
def FnFreeSaid : Prop := fnFreeRow.holds Try.pinned (OpenSpec.ofChange fnFreeSpec)

/-- ITS FALSE NEIGHBOUR: 'it returns false'. Refute it at one input. -/
def fnFreeWrong : ChangeSpec := { name := "fnFree", fn := fun _ => fun
  | [d] => { results := [.lit (.bool false)], args := [d] }
  | _ => none }
def FnFreeWrongFalsely : Prop := fnFreeRow.holds Try.pinned (OpenSpec.ofChange fnFreeWrong)

/-- 'laws.FnFit': WHATEVER THE INPUT: true; the input reads as it did. -/
def fnFitSpec : ChangeSpec := { name := "fnFit", fn := fun _ => fun
  | [d1, d2] => { results := [.lit (.bool true)], args := [d1, d2] }
  | _ => none }
def fnFitRow : OpenClaim := { program := "ytoebgdcgcdigaab", sum := "1cfddc5b3c2d547b9cd825587563e3d5247d126dad444787424d6705630f7aac", func := "loop.example/blockboxes/laws.FnFit", spec := "fnFit", unfollowed := true, recurses := true, apart := false }
def FnFitSaid : Prop := fnFitRow.holds Try.pinned (OpenSpec.ofChange fnFitSpec)

/-- ITS FALSE NEIGHBOUR: 'it returns false'. Refute it at one input. -/
def fnFitWrong : ChangeSpec := { name := "fnFit", fn := fun _ => fun
  | [d1, d2] => { results := [.lit (.bool false)], args := [d1, d2] }
  | _ => none }
def FnFitWrongFalsely : Prop := fnFitRow.holds Try.pinned (OpenSpec.ofChange fnFitWrong)

/-- 'laws.FnFitFewer': WHATEVER THE INPUT: true; the input reads as it did. -/
def fnFitFewerSpec : ChangeSpec := { name := "fnFitFewer", fn := fun _ => fun
  | [d1, d2] => { results := [.lit (.bool true)], args := [d1, d2] }
  | _ => none }
def fnFitFewerRow : OpenClaim := { program := "ytoebgdcgcdigaab", sum := "1cfddc5b3c2d547b9cd825587563e3d5247d126dad444787424d6705630f7aac", func := "loop.example/blockboxes/laws.FnFitFewer", spec := "fnFitFewer", unfollowed := true, recurses := true, apart := false }
def FnFitFewerSaid : Prop := fnFitFewerRow.holds Try.pinned (OpenSpec.ofChange fnFitFewerSpec)

/-- ITS FALSE NEIGHBOUR: 'it returns false'. Refute it at one input. -/
def fnFitFewerWrong : ChangeSpec := { name := "fnFitFewer", fn := fun _ => fun
  | [d1, d2] => { results := [.lit (.bool false)], args := [d1, d2] }
  | _ => none }
def FnFitFewerWrongFalsely : Prop := fnFitFewerRow.holds Try.pinned (OpenSpec.ofChange fnFitFewerWrong)

/-- 'laws.FnAddPath': WHATEVER THE INPUT: true; the input reads as it did. -/
def fnAddPathSpec : ChangeSpec := { name := "fnAddPath", fn := fun _ => fun
  | [d] => { results := [.lit (.bool true)], args := [d] }
  | _ => none }
def fnAddPathRow : OpenClaim := { program := "ytoebgdcgcdigaab", sum := "1cfddc5b3c2d547b9cd825587563e3d5247d126dad444787424d6705630f7aac", func := "loop.example/blockboxes/laws.FnAddPath", spec := "fnAddPath", unfollowed := true, recurses := true, apart := false }
def FnAddPathSaid : Prop := fnAddPathRow.holds Try.pinned (OpenSpec.ofChange fnAddPathSpec)

/-- ITS FALSE NEIGHBOUR: 'it returns false'. Refute it at one input. -/
def fnAddPathWrong : ChangeSpec := { name := "fnAddPath", fn := fun _ => fun
  | [d] => { results := [.lit (.bool false)], args := [d] }
  | _ => none }
def FnAddPathWrongFalsely : Prop := fnAddPathRow.holds Try.pinned (OpenSpec.ofChange fnAddPathWrong)

/- THE SECOND FORM. 'bulk': how many values and letters a reading holds, each counted each time it is reached (what is shared counts as often as it is met; a slice's spare places count too). A statement '..UptoSaid' is the law's where the arguments, and the package variables that the reading takes, are together of bulk at most 1048576: NARROWER than '..Said'. Prove '..Said' where nothing that the law and all that it calls make is longer than what came in: it says more and counts as full. Else prove '..UptoSaid'. A law counts once. -/
mutual
def uptoBulk {H : Type} : DataW H → Nat
  | .lit (.string bytes) => bytes.length + 1
  | .lit _ => 1
  | .nil => 1
  | .ptr d => uptoBulk d + 1
  | .slice elems spare => uptoBulkAll elems + uptoBulkAll spare + 1
  | .agg parts => uptoBulkAll parts + 1
  | .iface _ d => uptoBulk d + 1
  | .map entries => uptoBulkEntries entries + 1
  | .held _ => 1
def uptoBulkAll {H : Type} : List (DataW H) → Nat
  | [] => 0
  | d :: r => uptoBulk d + uptoBulkAll r
def uptoBulkEntries {H : Type} : List (Lit × DataW H) → Nat
  | [] => 0
  | x :: r => uptoBulkEntry x + uptoBulkEntries r
def uptoBulkEntry {H : Type} : Lit × DataW H → Nat
  | (.string bytes, d) => bytes.length + uptoBulk d + 1
  | (_, d) => uptoBulk d + 1
 end
def uptoSmall : (H : Type) → List (DataW H) → Bool := fun _ ds => decide (uptoBulkAll ds ≤ 1048576)
def OpenSpec.upto (s : _root_.Go.ChangeSpec) : _root_.Go.OpenSpec := { _root_.Go.OpenSpec.ofChange s with cond := some uptoSmall }

/-- 'laws.FnPasses', WHERE WHAT IT READS IS OF BULK AT MOST 1048576: true; the input reads as it did. -/
def fnPassesUptoRow : OpenClaim := { program := "ytoebgdcgcdigaab", sum := "1cfddc5b3c2d547b9cd825587563e3d5247d126dad444787424d6705630f7aac", func := "loop.example/blockboxes/laws.FnPasses", spec := "fnPasses", unfollowed := true, recurses := true, apart := false, narrowed := true }
def FnPassesUptoSaid : Prop := fnPassesUptoRow.holds Try.pinned (OpenSpec.upto fnPassesSpec)

/-- 'laws.FnFree', WHERE WHAT IT READS IS OF BULK AT MOST 1048576: true; the input reads as it did. -/
def fnFreeUptoRow : OpenClaim := { program := "ytoebgdcgcdigaab", sum := "1cfddc5b3c2d547b9cd825587563e3d5247d126dad444787424d6705630f7aac", func := "loop.example/blockboxes/laws.FnFree", spec := "fnFree", unfollowed := true, recurses := true, apart := false, narrowed := true }
def FnFreeUptoSaid : Prop := fnFreeUptoRow.holds Try.pinned (OpenSpec.upto fnFreeSpec)

/-- 'laws.FnFit', WHERE WHAT IT READS IS OF BULK AT MOST 1048576: true; the input reads as it did. -/
def fnFitUptoRow : OpenClaim := { program := "ytoebgdcgcdigaab", sum := "1cfddc5b3c2d547b9cd825587563e3d5247d126dad444787424d6705630f7aac", func := "loop.example/blockboxes/laws.FnFit", spec := "fnFit", unfollowed := true, recurses := true, apart := false, narrowed := true }
def FnFitUptoSaid : Prop := fnFitUptoRow.holds Try.pinned (OpenSpec.upto fnFitSpec)

/-- 'laws.FnFitFewer', WHERE WHAT IT READS IS OF BULK AT MOST 1048576: true; the input reads as it did. -/
def fnFitFewerUptoRow : OpenClaim := { program := "ytoebgdcgcdigaab", sum := "1cfddc5b3c2d547b9cd825587563e3d5247d126dad444787424d6705630f7aac", func := "loop.example/blockboxes/laws.FnFitFewer", spec := "fnFitFewer", unfollowed := true, recurses := true, apart := false, narrowed := true }
def FnFitFewerUptoSaid : Prop := fnFitFewerUptoRow.holds Try.pinned (OpenSpec.upto fnFitFewerSpec)

/-- 'laws.FnAddPath', WHERE WHAT IT READS IS OF BULK AT MOST 1048576: true; the input reads as it did. -/
def fnAddPathUptoRow : OpenClaim := { program := "ytoebgdcgcdigaab", sum := "1cfddc5b3c2d547b9cd825587563e3d5247d126dad444787424d6705630f7aac", func := "loop.example/blockboxes/laws.FnAddPath", spec := "fnAddPath", unfollowed := true, recurses := true, apart := false, narrowed := true }
def FnAddPathUptoSaid : Prop := fnAddPathUptoRow.holds Try.pinned (OpenSpec.upto fnAddPathSpec)

end Rows
end Go.Proofs.Ytoebgdcgcdigaab
