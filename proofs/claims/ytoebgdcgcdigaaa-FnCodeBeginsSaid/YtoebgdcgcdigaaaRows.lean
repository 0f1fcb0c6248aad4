/-
  No cell of these rows narrows 'for every input' (looked for: loops, veiled, ifaces, maps, wideKeys, modest, calm, conditions, laid).
  DERIVED. THE GIVEN ROWS OF THIS SEAT. 10 by the template 'for every input the law returns true; each argument reads behind the call as it read before'; 0 by the template 'total and deterministic' (their statements: YtoebgdcgcdigaaaTotals.lean).
  GIVEN WITH THE SEED: the statements are not yours to turn. If you find one false, say at which input.
  Laid BY PROGRAM, IN A SANDBOX (cutbox-rows.mjs): the forced cells as the released guide's own fill.sh prints them over the translation 87572e309c4a9250… (all of the seat's roots in one cut). By AI agents, Wed Nov 11 2026. No macro, syntax, notation, axiom, sorry.
-/
import Derived.Test.YtoebgdcgcdigaaaChecked
import GoSem.Claim
import GoSem.ClaimJoined
import GoSem.ClaimMapViews
import Derived.JoinedTies
import Derived.KernelRfl
namespace Go.Proofs.Ytoebgdcgcdigaaa
/- THE CELL 'sum', in the pinned program and in every row, IS THE sha256 OF THE DUMP (.gsa) THAT YtoebgdcgcdigaaaProg.lean LOADS. Nothing in Lean hashes anything: it is a label: what it is worth is what the hold of that sum in a sandbox is worth. -/
noncomputable def Try.pinned : Pinned := { name := "ytoebgdcgcdigaaa", sum := "87572e309c4a9250cf929e631b99ead2709d6bc5cd390c3c085710dc0d4ced9a", checked := Try.checked }
namespace Rows
def none {H : Type} : Left H := { results := [], args := [] }

/-- 'laws.FnCodeBegins': WHATEVER THE INPUT: true; the input reads as it did. -/
def fnCodeBeginsSpec : ChangeSpec := { name := "fnCodeBegins", fn := fun _ => fun
  | [d] => { results := [.lit (.bool true)], args := [d] }
  | _ => none }
def fnCodeBeginsRow : OpenClaim := { program := "ytoebgdcgcdigaaa", sum := "87572e309c4a9250cf929e631b99ead2709d6bc5cd390c3c085710dc0d4ced9a", func := "loop.example/blockboxes/laws.FnCodeBegins", spec := "fnCodeBegins", inPlace := ["internal/abi.NoEscape"], apart := false }
def FnCodeBeginsSaid : Prop := fnCodeBeginsRow.holds Try.pinned (OpenSpec.ofChange fnCodeBeginsSpec)

/-- ITS FALSE NEIGHBOUR: 'it returns false'. Refute it at one input. -/
def fnCodeBeginsWrong : ChangeSpec := { name := "fnCodeBegins", fn := fun _ => fun
  | [d] => { results := [.lit (.bool false)], args := [d] }
  | _ => none }
def FnCodeBeginsWrongFalsely : Prop := fnCodeBeginsRow.holds Try.pinned (OpenSpec.ofChange fnCodeBeginsWrong)

/-- 'laws.FnCodeBack': WHATEVER THE INPUT: true; the input reads as it did. -/
def fnCodeBackSpec : ChangeSpec := { name := "fnCodeBack", fn := fun _ => fun
  | [d] => { results := [.lit (.bool true)], args := [d] }
  | _ => none }
def fnCodeBackRow : OpenClaim := { program := "ytoebgdcgcdigaaa", sum := "87572e309c4a9250cf929e631b99ead2709d6bc5cd390c3c085710dc0d4ced9a", func := "loop.example/blockboxes/laws.FnCodeBack", spec := "fnCodeBack", inPlace := ["internal/abi.NoEscape"], apart := false }
def FnCodeBackSaid : Prop := fnCodeBackRow.holds Try.pinned (OpenSpec.ofChange fnCodeBackSpec)

/-- ITS FALSE NEIGHBOUR: 'it returns false'. Refute it at one input. -/
def fnCodeBackWrong : ChangeSpec := { name := "fnCodeBack", fn := fun _ => fun
  | [d] => { results := [.lit (.bool false)], args := [d] }
  | _ => none }
def FnCodeBackWrongFalsely : Prop := fnCodeBackRow.holds Try.pinned (OpenSpec.ofChange fnCodeBackWrong)

/-- 'laws.FnBookClear': WHATEVER THE INPUT: true; the input reads as it did. -/
def fnBookClearSpec : ChangeSpec := { name := "fnBookClear", fn := fun _ => fun
  | [d1, d2] => { results := [.lit (.bool true)], args := [d1, d2] }
  | _ => none }
def fnBookClearRow : OpenClaim := { program := "ytoebgdcgcdigaaa", sum := "87572e309c4a9250cf929e631b99ead2709d6bc5cd390c3c085710dc0d4ced9a", func := "loop.example/blockboxes/laws.FnBookClear", spec := "fnBookClear", inPlace := ["internal/abi.NoEscape"], unfollowed := true, recurses := true, apart := false }
def FnBookClearSaid : Prop := fnBookClearRow.holds Try.pinned (OpenSpec.ofChange fnBookClearSpec)

/-- ITS FALSE NEIGHBOUR: 'it returns false'. Refute it at one input. -/
def fnBookClearWrong : ChangeSpec := { name := "fnBookClear", fn := fun _ => fun
  | [d1, d2] => { results := [.lit (.bool false)], args := [d1, d2] }
  | _ => none }
def FnBookClearWrongFalsely : Prop := fnBookClearRow.holds Try.pinned (OpenSpec.ofChange fnBookClearWrong)

/-- 'laws.FnBookFind': WHATEVER THE INPUT: true; the input reads as it did. -/
def fnBookFindSpec : ChangeSpec := { name := "fnBookFind", fn := fun _ => fun
  | [d] => { results := [.lit (.bool true)], args := [d] }
  | _ => none }
def fnBookFindRow : OpenClaim := { program := "ytoebgdcgcdigaaa", sum := "87572e309c4a9250cf929e631b99ead2709d6bc5cd390c3c085710dc0d4ced9a", func := "loop.example/blockboxes/laws.FnBookFind", spec := "fnBookFind", inPlace := ["internal/abi.NoEscape"], apart := false }
def FnBookFindSaid : Prop := fnBookFindRow.holds Try.pinned (OpenSpec.ofChange fnBookFindSpec)

/-- ITS FALSE NEIGHBOUR: 'it returns false'. Refute it at one input. -/
def fnBookFindWrong : ChangeSpec := { name := "fnBookFind", fn := fun _ => fun
  | [d] => { results := [.lit (.bool false)], args := [d] }
  | _ => none }
def FnBookFindWrongFalsely : Prop := fnBookFindRow.holds Try.pinned (OpenSpec.ofChange fnBookFindWrong)

/-- 'laws.FnBookRing': WHATEVER THE INPUT: true; the input reads as it did. -/
def fnBookRingSpec : ChangeSpec := { name := "fnBookRing", fn := fun _ => fun
  | [d1, d2] => { results := [.lit (.bool true)], args := [d1, d2] }
  | _ => none }
def fnBookRingRow : OpenClaim := { program := "ytoebgdcgcdigaaa", sum := "87572e309c4a9250cf929e631b99ead2709d6bc5cd390c3c085710dc0d4ced9a", func := "loop.example/blockboxes/laws.FnBookRing", spec := "fnBookRing", inPlace := ["internal/abi.NoEscape"], apart := false }
def FnBookRingSaid : Prop := fnBookRingRow.holds Try.pinned (OpenSpec.ofChange fnBookRingSpec)

/-- ITS FALSE NEIGHBOUR: 'it returns false'. Refute it at one input. -/
def fnBookRingWrong : ChangeSpec := { name := "fnBookRing", fn := fun _ => fun
  | [d1, d2] => { results := [.lit (.bool false)], args := [d1, d2] }
  | _ => none }
def FnBookRingWrongFalsely : Prop := fnBookRingRow.holds Try.pinned (OpenSpec.ofChange fnBookRingWrong)

/-- 'laws.FnBookRead': WHATEVER THE INPUT: true; the input reads as it did. -/
def fnBookReadSpec : ChangeSpec := { name := "fnBookRead", fn := fun _ => fun
  | [d] => { results := [.lit (.bool true)], args := [d] }
  | _ => none }
def fnBookReadRow : OpenClaim := { program := "ytoebgdcgcdigaaa", sum := "87572e309c4a9250cf929e631b99ead2709d6bc5cd390c3c085710dc0d4ced9a", func := "loop.example/blockboxes/laws.FnBookRead", spec := "fnBookRead", inPlace := ["internal/abi.NoEscape"], apart := false }
def FnBookReadSaid : Prop := fnBookReadRow.holds Try.pinned (OpenSpec.ofChange fnBookReadSpec)

/-- ITS FALSE NEIGHBOUR: 'it returns false'. Refute it at one input. -/
def fnBookReadWrong : ChangeSpec := { name := "fnBookRead", fn := fun _ => fun
  | [d] => { results := [.lit (.bool false)], args := [d] }
  | _ => none }
def FnBookReadWrongFalsely : Prop := fnBookReadRow.holds Try.pinned (OpenSpec.ofChange fnBookReadWrong)

/-- 'laws.FnPathRun': WHATEVER THE INPUT: true; the input reads as it did. -/
def fnPathRunSpec : ChangeSpec := { name := "fnPathRun", fn := fun _ => fun
  | [d] => { results := [.lit (.bool true)], args := [d] }
  | _ => none }
def fnPathRunRow : OpenClaim := { program := "ytoebgdcgcdigaaa", sum := "87572e309c4a9250cf929e631b99ead2709d6bc5cd390c3c085710dc0d4ced9a", func := "loop.example/blockboxes/laws.FnPathRun", spec := "fnPathRun", unfollowed := true, recurses := true, apart := false }
def FnPathRunSaid : Prop := fnPathRunRow.holds Try.pinned (OpenSpec.ofChange fnPathRunSpec)

/-- ITS FALSE NEIGHBOUR: 'it returns false'. Refute it at one input. -/
def fnPathRunWrong : ChangeSpec := { name := "fnPathRun", fn := fun _ => fun
  | [d] => { results := [.lit (.bool false)], args := [d] }
  | _ => none }
def FnPathRunWrongFalsely : Prop := fnPathRunRow.holds Try.pinned (OpenSpec.ofChange fnPathRunWrong)

/-- 'laws.FnPathLate': WHATEVER THE INPUT: true; the input reads as it did. -/
def fnPathLateSpec : ChangeSpec := { name := "fnPathLate", fn := fun _ => fun
  | [d] => { results := [.lit (.bool true)], args := [d] }
  | _ => none }
def fnPathLateRow : OpenClaim := { program := "ytoebgdcgcdigaaa", sum := "87572e309c4a9250cf929e631b99ead2709d6bc5cd390c3c085710dc0d4ced9a", func := "loop.example/blockboxes/laws.FnPathLate", spec := "fnPathLate", apart := false }
def FnPathLateSaid : Prop := fnPathLateRow.holds Try.pinned (OpenSpec.ofChange fnPathLateSpec)

/-- ITS FALSE NEIGHBOUR: 'it returns false'. Refute it at one input. -/
def fnPathLateWrong : ChangeSpec := { name := "fnPathLate", fn := fun _ => fun
  | [d] => { results := [.lit (.bool false)], args := [d] }
  | _ => none }
def FnPathLateWrongFalsely : Prop := fnPathLateRow.holds Try.pinned (OpenSpec.ofChange fnPathLateWrong)

/-- 'laws.FnPathClash': WHATEVER THE INPUT: true; the input reads as it did. -/
def fnPathClashSpec : ChangeSpec := { name := "fnPathClash", fn := fun _ => fun
  | [d] => { results := [.lit (.bool true)], args := [d] }
  | _ => none }
def fnPathClashRow : OpenClaim := { program := "ytoebgdcgcdigaaa", sum := "87572e309c4a9250cf929e631b99ead2709d6bc5cd390c3c085710dc0d4ced9a", func := "loop.example/blockboxes/laws.FnPathClash", spec := "fnPathClash", apart := false }
def FnPathClashSaid : Prop := fnPathClashRow.holds Try.pinned (OpenSpec.ofChange fnPathClashSpec)

/-- ITS FALSE NEIGHBOUR: 'it returns false'. Refute it at one input. -/
def fnPathClashWrong : ChangeSpec := { name := "fnPathClash", fn := fun _ => fun
  | [d] => { results := [.lit (.bool false)], args := [d] }
  | _ => none }
def FnPathClashWrongFalsely : Prop := fnPathClashRow.holds Try.pinned (OpenSpec.ofChange fnPathClashWrong)

/-- 'laws.FnPaths': WHATEVER THE INPUT: true; the input reads as it did. -/
def fnPathsSpec : ChangeSpec := { name := "fnPaths", fn := fun _ => fun
  | [d1, d2] => { results := [.lit (.bool true)], args := [d1, d2] }
  | _ => none }
def fnPathsRow : OpenClaim := { program := "ytoebgdcgcdigaaa", sum := "87572e309c4a9250cf929e631b99ead2709d6bc5cd390c3c085710dc0d4ced9a", func := "loop.example/blockboxes/laws.FnPaths", spec := "fnPaths", apart := false }
def FnPathsSaid : Prop := fnPathsRow.holds Try.pinned (OpenSpec.ofChange fnPathsSpec)

/-- ITS FALSE NEIGHBOUR: 'it returns false'. Refute it at one input. -/
def fnPathsWrong : ChangeSpec := { name := "fnPaths", fn := fun _ => fun
  | [d1, d2] => { results := [.lit (.bool false)], args := [d1, d2] }
  | _ => none }
def FnPathsWrongFalsely : Prop := fnPathsRow.holds Try.pinned (OpenSpec.ofChange fnPathsWrong)

/- THE SECOND FORM. 'bulk': how many values and letters a reading holds, each counted each time it is reached (what is shared counts as often as it is met; a slice's spare places count too). A statement '..UptoSaid' is the law's where the arguments, and the package variables that the reading takes, are together of bulk at most 1048576: NARROWER than '..Said'. Prove '..Said' where nothing that the law and all that it calls make is longer than what came in: it says more and counts as full. Else prove '..UptoSaid'. A law counts once. -/
mutual
def uptoBulk {H : Type} : DataW H → Nat
  | .lit (.string bytes) => bytes.length + 1
  | .lit _ => 1
  | .nil => 1
  | .ptr d => uptoBulk d + 1
  | .slice elems spare => uptoBulkAll elems + uptoBulkAll spare + 1
  | .agg parts => uptoBulkAll parts + 1
  | .iface _ d => uptoBulk d + 1
  | .map entries => uptoBulkEntries entries + 1
  | .held _ => 1
def uptoBulkAll {H : Type} : List (DataW H) → Nat
  | [] => 0
  | d :: r => uptoBulk d + uptoBulkAll r
def uptoBulkEntries {H : Type} : List (Lit × DataW H) → Nat
  | [] => 0
  | x :: r => uptoBulkEntry x + uptoBulkEntries r
def uptoBulkEntry {H : Type} : Lit × DataW H → Nat
  | (.string bytes, d) => bytes.length + uptoBulk d + 1
  | (_, d) => uptoBulk d + 1
 end
def uptoSmall : (H : Type) → List (DataW H) → Bool := fun _ ds => decide (uptoBulkAll ds ≤ 1048576)
def OpenSpec.upto (s : _root_.Go.ChangeSpec) : _root_.Go.OpenSpec := { _root_.Go.OpenSpec.ofChange s with cond := some uptoSmall }

/-- 'laws.FnCodeBegins', WHERE WHAT IT READS IS OF BULK AT MOST 1048576: true; the input reads as it did. -/
def fnCodeBeginsUptoRow : OpenClaim := { program := "ytoebgdcgcdigaaa", sum := "87572e309c4a9250cf929e631b99ead2709d6bc5cd390c3c085710dc0d4ced9a", func := "loop.example/blockboxes/laws.FnCodeBegins", spec := "fnCodeBegins", inPlace := ["internal/abi.NoEscape"], apart := false, narrowed := true }
def FnCodeBeginsUptoSaid : Prop := fnCodeBeginsUptoRow.holds Try.pinned (OpenSpec.upto fnCodeBeginsSpec)

/-- 'laws.FnCodeBack', WHERE WHAT IT READS IS OF BULK AT MOST 1048576: true; the input reads as it did. -/
def fnCodeBackUptoRow : OpenClaim := { program := "ytoebgdcgcdigaaa", sum := "87572e309c4a9250cf929e631b99ead2709d6bc5cd390c3c085710dc0d4ced9a", func := "loop.example/blockboxes/laws.FnCodeBack", spec := "fnCodeBack", inPlace := ["internal/abi.NoEscape"], apart := false, narrowed := true }
def FnCodeBackUptoSaid : Prop := fnCodeBackUptoRow.holds Try.pinned (OpenSpec.upto fnCodeBackSpec)

/-- 'laws.FnBookClear', WHERE WHAT IT READS IS OF BULK AT MOST 1048576: true; the input reads as it did. -/
def fnBookClearUptoRow : OpenClaim := { program := "ytoebgdcgcdigaaa", sum := "87572e309c4a9250cf929e631b99ead2709d6bc5cd390c3c085710dc0d4ced9a", func := "loop.example/blockboxes/laws.FnBookClear", spec := "fnBookClear", inPlace := ["internal/abi.NoEscape"], unfollowed := true, recurses := true, apart := false, narrowed := true }
def FnBookClearUptoSaid : Prop := fnBookClearUptoRow.holds Try.pinned (OpenSpec.upto fnBookClearSpec)

/-- 'laws.FnBookFind', WHERE WHAT IT READS IS OF BULK AT MOST 1048576: true; the input reads as it did. -/
def fnBookFindUptoRow : OpenClaim := { program := "ytoebgdcgcdigaaa", sum := "87572e309c4a9250cf929e631b99ead2709d6bc5cd390c3c085710dc0d4ced9a", func := "loop.example/blockboxes/laws.FnBookFind", spec := "fnBookFind", inPlace := ["internal/abi.NoEscape"], apart := false, narrowed := true }
def FnBookFindUptoSaid : Prop := fnBookFindUptoRow.holds Try.pinned (OpenSpec.upto fnBookFindSpec)

/-- 'laws.FnBookRing', WHERE WHAT IT READS IS OF BULK AT MOST 1048576: true; the input reads as it did. -/
def fnBookRingUptoRow : OpenClaim := { program := "ytoebgdcgcdigaaa", sum := "87572e309c4a9250cf929e631b99ead2709d6bc5cd390c3c085710dc0d4ced9a", func := "loop.example/blockboxes/laws.FnBookRing", spec := "fnBookRing", inPlace := ["internal/abi.NoEscape"], apart := false, narrowed := true }
def FnBookRingUptoSaid : Prop := fnBookRingUptoRow.holds Try.pinned (OpenSpec.upto fnBookRingSpec)

/-- 'laws.FnBookRead', WHERE WHAT IT READS IS OF BULK AT MOST 1048576: true; the input reads as it did. -/
def fnBookReadUptoRow : OpenClaim := { program := "ytoebgdcgcdigaaa", sum := "87572e309c4a9250cf929e631b99ead2709d6bc5cd390c3c085710dc0d4ced9a", func := "loop.example/blockboxes/laws.FnBookRead", spec := "fnBookRead", inPlace := ["internal/abi.NoEscape"], apart := false, narrowed := true }
def FnBookReadUptoSaid : Prop := fnBookReadUptoRow.holds Try.pinned (OpenSpec.upto fnBookReadSpec)

/-- 'laws.FnPathRun', WHERE WHAT IT READS IS OF BULK AT MOST 1048576: true; the input reads as it did. -/
def fnPathRunUptoRow : OpenClaim := { program := "ytoebgdcgcdigaaa", sum := "87572e309c4a9250cf929e631b99ead2709d6bc5cd390c3c085710dc0d4ced9a", func := "loop.example/blockboxes/laws.FnPathRun", spec := "fnPathRun", unfollowed := true, recurses := true, apart := false, narrowed := true }
def FnPathRunUptoSaid : Prop := fnPathRunUptoRow.holds Try.pinned (OpenSpec.upto fnPathRunSpec)

/-- 'laws.FnPathLate', WHERE WHAT IT READS IS OF BULK AT MOST 1048576: true; the input reads as it did. -/
def fnPathLateUptoRow : OpenClaim := { program := "ytoebgdcgcdigaaa", sum := "87572e309c4a9250cf929e631b99ead2709d6bc5cd390c3c085710dc0d4ced9a", func := "loop.example/blockboxes/laws.FnPathLate", spec := "fnPathLate", apart := false, narrowed := true }
def FnPathLateUptoSaid : Prop := fnPathLateUptoRow.holds Try.pinned (OpenSpec.upto fnPathLateSpec)

/-- 'laws.FnPathClash', WHERE WHAT IT READS IS OF BULK AT MOST 1048576: true; the input reads as it did. -/
def fnPathClashUptoRow : OpenClaim := { program := "ytoebgdcgcdigaaa", sum := "87572e309c4a9250cf929e631b99ead2709d6bc5cd390c3c085710dc0d4ced9a", func := "loop.example/blockboxes/laws.FnPathClash", spec := "fnPathClash", apart := false, narrowed := true }
def FnPathClashUptoSaid : Prop := fnPathClashUptoRow.holds Try.pinned (OpenSpec.upto fnPathClashSpec)

/-- 'laws.FnPaths', WHERE WHAT IT READS IS OF BULK AT MOST 1048576: true; the input reads as it did. -/
def fnPathsUptoRow : OpenClaim := { program := "ytoebgdcgcdigaaa", sum := "87572e309c4a9250cf929e631b99ead2709d6bc5cd390c3c085710dc0d4ced9a", func := "loop.example/blockboxes/laws.FnPaths", spec := "fnPaths", apart := false, narrowed := true }
def FnPathsUptoSaid : Prop := fnPathsUptoRow.holds Try.pinned (OpenSpec.upto fnPathsSpec)

end Rows
end Go.Proofs.Ytoebgdcgcdigaaa
