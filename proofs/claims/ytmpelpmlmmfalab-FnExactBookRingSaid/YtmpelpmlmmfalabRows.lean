/-
  No cell of these rows narrows 'for every input' (looked for: loops, veiled, ifaces, maps, wideKeys, modest, calm, conditions, laid).
  DERIVED. THE GIVEN ROWS OF THIS SEAT. 7 by the template 'for every input the law returns true; each argument reads behind the call as it read before'; 0 by the template 'total and deterministic' (their statements: YtmpelpmlmmfalabTotals.lean).
  GIVEN WITH THE SEED: the statements are not yours to turn. If you find one false, say at which input.
  Laid BY PROGRAM, IN A SANDBOX (cutbox-rows.mjs): the forced cells as the released guide's own fill.sh prints them over the translation 397ebf0509c9bc9a… (all of the seat's roots in one cut). By AI agents, Wed Nov 11 2026. No macro, syntax, notation, axiom, sorry.
-/
import Derived.Test.YtmpelpmlmmfalabChecked
import GoSem.Claim
import GoSem.ClaimJoined
import GoSem.ClaimMapViews
import Derived.JoinedTies
import Derived.KernelRfl
namespace Go.Proofs.Ytmpelpmlmmfalab
/- THE CELL 'sum', in the pinned program and in every row, IS THE sha256 OF THE DUMP (.gsa) THAT YtmpelpmlmmfalabProg.lean LOADS. Nothing in Lean hashes anything: it is a label: what it is worth is what the hold of that sum in a sandbox is worth. -/
noncomputable def Try.pinned : Pinned := { name := "ytmpelpmlmmfalab", sum := "397ebf0509c9bc9a4f1516e6f25ed14ae574d9dadfdd57f6c4d50e82f7e316ca", checked := Try.checked }
namespace Rows
def none {H : Type} : Left H := { results := [], args := [] }

/-- 'laws.FnExactCodeNth': WHATEVER THE INPUT: true; the input reads as it did. -/
def fnExactCodeNthSpec : ChangeSpec := { name := "fnExactCodeNth", fn := fun _ => fun
  | [d1, d2] => { results := [.lit (.bool true)], args := [d1, d2] }
  | _ => none }
def fnExactCodeNthRow : OpenClaim := { program := "ytmpelpmlmmfalab", sum := "397ebf0509c9bc9a4f1516e6f25ed14ae574d9dadfdd57f6c4d50e82f7e316ca", func := "loop.example/blockboxes/laws.FnExactCodeNth", spec := "fnExactCodeNth", recurses := true, apart := false }
def FnExactCodeNthSaid : Prop := fnExactCodeNthRow.holds Try.pinned (OpenSpec.ofChange fnExactCodeNthSpec)

/-- ITS FALSE NEIGHBOUR: 'it returns false'. Refute it at one input. -/
def fnExactCodeNthWrong : ChangeSpec := { name := "fnExactCodeNth", fn := fun _ => fun
  | [d1, d2] => { results := [.lit (.bool false)], args := [d1, d2] }
  | _ => none }
def FnExactCodeNthWrongFalsely : Prop := fnExactCodeNthRow.holds Try.pinned (OpenSpec.ofChange fnExactCodeNthWrong)

/-- 'laws.FnExactBookValid': WHATEVER THE INPUT: true; the input reads as it did. -/
def fnExactBookValidSpec : ChangeSpec := { name := "fnExactBookValid", fn := fun _ => fun
  | [d] => { results := [.lit (.bool true)], args := [d] }
  | _ => none }
def fnExactBookValidRow : OpenClaim := { program := "ytmpelpmlmmfalab", sum := "397ebf0509c9bc9a4f1516e6f25ed14ae574d9dadfdd57f6c4d50e82f7e316ca", func := "loop.example/blockboxes/laws.FnExactBookValid", spec := "fnExactBookValid", inPlace := ["internal/abi.NoEscape"], apart := false }
def FnExactBookValidSaid : Prop := fnExactBookValidRow.holds Try.pinned (OpenSpec.ofChange fnExactBookValidSpec)

/-- ITS FALSE NEIGHBOUR: 'it returns false'. Refute it at one input. -/
def fnExactBookValidWrong : ChangeSpec := { name := "fnExactBookValid", fn := fun _ => fun
  | [d] => { results := [.lit (.bool false)], args := [d] }
  | _ => none }
def FnExactBookValidWrongFalsely : Prop := fnExactBookValidRow.holds Try.pinned (OpenSpec.ofChange fnExactBookValidWrong)

/-- 'laws.FnExactBookClear': WHATEVER THE INPUT: true; the input reads as it did. -/
def fnExactBookClearSpec : ChangeSpec := { name := "fnExactBookClear", fn := fun _ => fun
  | [d] => { results := [.lit (.bool true)], args := [d] }
  | _ => none }
def fnExactBookClearRow : OpenClaim := { program := "ytmpelpmlmmfalab", sum := "397ebf0509c9bc9a4f1516e6f25ed14ae574d9dadfdd57f6c4d50e82f7e316ca", func := "loop.example/blockboxes/laws.FnExactBookClear", spec := "fnExactBookClear", inPlace := ["internal/abi.NoEscape"], unfollowed := true, recurses := true, apart := false }
def FnExactBookClearSaid : Prop := fnExactBookClearRow.holds Try.pinned (OpenSpec.ofChange fnExactBookClearSpec)

/-- ITS FALSE NEIGHBOUR: 'it returns false'. Refute it at one input. -/
def fnExactBookClearWrong : ChangeSpec := { name := "fnExactBookClear", fn := fun _ => fun
  | [d] => { results := [.lit (.bool false)], args := [d] }
  | _ => none }
def FnExactBookClearWrongFalsely : Prop := fnExactBookClearRow.holds Try.pinned (OpenSpec.ofChange fnExactBookClearWrong)

/-- 'laws.FnExactBookFind': WHATEVER THE INPUT: true; the input reads as it did. -/
def fnExactBookFindSpec : ChangeSpec := { name := "fnExactBookFind", fn := fun _ => fun
  | [d1, d2] => { results := [.lit (.bool true)], args := [d1, d2] }
  | _ => none }
def fnExactBookFindRow : OpenClaim := { program := "ytmpelpmlmmfalab", sum := "397ebf0509c9bc9a4f1516e6f25ed14ae574d9dadfdd57f6c4d50e82f7e316ca", func := "loop.example/blockboxes/laws.FnExactBookFind", spec := "fnExactBookFind", inPlace := ["internal/abi.NoEscape"], apart := false }
def FnExactBookFindSaid : Prop := fnExactBookFindRow.holds Try.pinned (OpenSpec.ofChange fnExactBookFindSpec)

/-- ITS FALSE NEIGHBOUR: 'it returns false'. Refute it at one input. -/
def fnExactBookFindWrong : ChangeSpec := { name := "fnExactBookFind", fn := fun _ => fun
  | [d1, d2] => { results := [.lit (.bool false)], args := [d1, d2] }
  | _ => none }
def FnExactBookFindWrongFalsely : Prop := fnExactBookFindRow.holds Try.pinned (OpenSpec.ofChange fnExactBookFindWrong)

/-- 'laws.FnExactBookRing': WHATEVER THE INPUT: true; the input reads as it did. -/
def fnExactBookRingSpec : ChangeSpec := { name := "fnExactBookRing", fn := fun _ => fun
  | [d1, d2] => { results := [.lit (.bool true)], args := [d1, d2] }
  | _ => none }
def fnExactBookRingRow : OpenClaim := { program := "ytmpelpmlmmfalab", sum := "397ebf0509c9bc9a4f1516e6f25ed14ae574d9dadfdd57f6c4d50e82f7e316ca", func := "loop.example/blockboxes/laws.FnExactBookRing", spec := "fnExactBookRing", inPlace := ["internal/abi.NoEscape"], apart := false }
def FnExactBookRingSaid : Prop := fnExactBookRingRow.holds Try.pinned (OpenSpec.ofChange fnExactBookRingSpec)

/-- ITS FALSE NEIGHBOUR: 'it returns false'. Refute it at one input. -/
def fnExactBookRingWrong : ChangeSpec := { name := "fnExactBookRing", fn := fun _ => fun
  | [d1, d2] => { results := [.lit (.bool false)], args := [d1, d2] }
  | _ => none }
def FnExactBookRingWrongFalsely : Prop := fnExactBookRingRow.holds Try.pinned (OpenSpec.ofChange fnExactBookRingWrong)

/-- 'laws.FnExactBookReadings': WHATEVER THE INPUT: true; the input reads as it did. -/
def fnExactBookReadingsSpec : ChangeSpec := { name := "fnExactBookReadings", fn := fun _ => fun
  | [d1, d2] => { results := [.lit (.bool true)], args := [d1, d2] }
  | _ => none }
def fnExactBookReadingsRow : OpenClaim := { program := "ytmpelpmlmmfalab", sum := "397ebf0509c9bc9a4f1516e6f25ed14ae574d9dadfdd57f6c4d50e82f7e316ca", func := "loop.example/blockboxes/laws.FnExactBookReadings", spec := "fnExactBookReadings", inPlace := ["internal/abi.NoEscape"], apart := false }
def FnExactBookReadingsSaid : Prop := fnExactBookReadingsRow.holds Try.pinned (OpenSpec.ofChange fnExactBookReadingsSpec)

/-- ITS FALSE NEIGHBOUR: 'it returns false'. Refute it at one input. -/
def fnExactBookReadingsWrong : ChangeSpec := { name := "fnExactBookReadings", fn := fun _ => fun
  | [d1, d2] => { results := [.lit (.bool false)], args := [d1, d2] }
  | _ => none }
def FnExactBookReadingsWrongFalsely : Prop := fnExactBookReadingsRow.holds Try.pinned (OpenSpec.ofChange fnExactBookReadingsWrong)

/-- 'laws.FnExactBookRead': WHATEVER THE INPUT: true; the input reads as it did. -/
def fnExactBookReadSpec : ChangeSpec := { name := "fnExactBookRead", fn := fun _ => fun
  | [d1, d2] => { results := [.lit (.bool true)], args := [d1, d2] }
  | _ => none }
def fnExactBookReadRow : OpenClaim := { program := "ytmpelpmlmmfalab", sum := "397ebf0509c9bc9a4f1516e6f25ed14ae574d9dadfdd57f6c4d50e82f7e316ca", func := "loop.example/blockboxes/laws.FnExactBookRead", spec := "fnExactBookRead", inPlace := ["internal/abi.NoEscape"], apart := false }
def FnExactBookReadSaid : Prop := fnExactBookReadRow.holds Try.pinned (OpenSpec.ofChange fnExactBookReadSpec)

/-- ITS FALSE NEIGHBOUR: 'it returns false'. Refute it at one input. -/
def fnExactBookReadWrong : ChangeSpec := { name := "fnExactBookRead", fn := fun _ => fun
  | [d1, d2] => { results := [.lit (.bool false)], args := [d1, d2] }
  | _ => none }
def FnExactBookReadWrongFalsely : Prop := fnExactBookReadRow.holds Try.pinned (OpenSpec.ofChange fnExactBookReadWrong)

/- THE SECOND FORM. 'bulk': how many values and letters a reading holds, each counted each time it is reached (what is shared counts as often as it is met; a slice's spare places count too). A statement '..UptoSaid' is the law's where the arguments, and the package variables that the reading takes, are together of bulk at most 1048576: NARROWER than '..Said'. Prove '..Said' where nothing that the law and all that it calls make is longer than what came in: it says more and counts as full. Else prove '..UptoSaid'. A law counts once. -/
mutual
def uptoBulk {H : Type} : DataW H → Nat
  | .lit (.string bytes) => bytes.length + 1
  | .lit _ => 1
  | .nil => 1
  | .ptr d => uptoBulk d + 1
  | .slice elems spare => uptoBulkAll elems + uptoBulkAll spare + 1
  | .agg parts => uptoBulkAll parts + 1
  | .iface _ d => uptoBulk d + 1
  | .map entries => uptoBulkEntries entries + 1
  | .held _ => 1
def uptoBulkAll {H : Type} : List (DataW H) → Nat
  | [] => 0
  | d :: r => uptoBulk d + uptoBulkAll r
def uptoBulkEntries {H : Type} : List (Lit × DataW H) → Nat
  | [] => 0
  | x :: r => uptoBulkEntry x + uptoBulkEntries r
def uptoBulkEntry {H : Type} : Lit × DataW H → Nat
  | (.string bytes, d) => bytes.length + uptoBulk d + 1
  | (_, d) => uptoBulk d + 1
 end
def uptoSmall : (H : Type) → List (DataW H) → Bool := fun _ ds => decide (uptoBulkAll ds ≤ 1048576)
def OpenSpec.upto (s : _root_.Go.ChangeSpec) : _root_.Go.OpenSpec := { _root_.Go.OpenSpec.ofChange s with cond := some uptoSmall }

/-- 'laws.FnExactCodeNth', WHERE WHAT IT READS IS OF BULK AT MOST 1048576: true; the input reads as it did. -/
def fnExactCodeNthUptoRow : OpenClaim := { program := "ytmpelpmlmmfalab", sum := "397ebf0509c9bc9a4f1516e6f25ed14ae574d9dadfdd57f6c4d50e82f7e316ca", func := "loop.example/blockboxes/laws.FnExactCodeNth", spec := "fnExactCodeNth", recurses := true, apart := false, narrowed := true }
def FnExactCodeNthUptoSaid : Prop := fnExactCodeNthUptoRow.holds Try.pinned (OpenSpec.upto fnExactCodeNthSpec)

/-- 'laws.FnExactBookValid', WHERE WHAT IT READS IS OF BULK AT MOST 1048576: true; the input reads as it did. -/
def fnExactBookValidUptoRow : OpenClaim := { program := "ytmpelpmlmmfalab", sum := "397ebf0509c9bc9a4f1516e6f25ed14ae574d9dadfdd57f6c4d50e82f7e316ca", func := "loop.example/blockboxes/laws.FnExactBookValid", spec := "fnExactBookValid", inPlace := ["internal/abi.NoEscape"], apart := false, narrowed := true }
def FnExactBookValidUptoSaid : Prop := fnExactBookValidUptoRow.holds Try.pinned (OpenSpec.upto fnExactBookValidSpec)

/-- 'laws.FnExactBookClear', WHERE WHAT IT READS IS OF BULK AT MOST 1048576: true; the input reads as it did. -/
def fnExactBookClearUptoRow : OpenClaim := { program := "ytmpelpmlmmfalab", sum := "397ebf0509c9bc9a4f1516e6f25ed14ae574d9dadfdd57f6c4d50e82f7e316ca", func := "loop.example/blockboxes/laws.FnExactBookClear", spec := "fnExactBookClear", inPlace := ["internal/abi.NoEscape"], unfollowed := true, recurses := true, apart := false, narrowed := true }
def FnExactBookClearUptoSaid : Prop := fnExactBookClearUptoRow.holds Try.pinned (OpenSpec.upto fnExactBookClearSpec)

/-- 'laws.FnExactBookFind', WHERE WHAT IT READS IS OF BULK AT MOST 1048576: true; the input reads as it did. -/
def fnExactBookFindUptoRow : OpenClaim := { program := "ytmpelpmlmmfalab", sum := "397ebf0509c9bc9a4f1516e6f25ed14ae574d9dadfdd57f6c4d50e82f7e316ca", func := "loop.example/blockboxes/laws.FnExactBookFind", spec := "fnExactBookFind", inPlace := ["internal/abi.NoEscape"], apart := false, narrowed := true }
def FnExactBookFindUptoSaid : Prop := fnExactBookFindUptoRow.holds Try.pinned (OpenSpec.upto fnExactBookFindSpec)

/-- 'laws.FnExactBookRing', WHERE WHAT IT READS IS OF BULK AT MOST 1048576: true; the input reads as it did. -/
def fnExactBookRingUptoRow : OpenClaim := { program := "ytmpelpmlmmfalab", sum := "397ebf0509c9bc9a4f1516e6f25ed14ae574d9dadfdd57f6c4d50e82f7e316ca", func := "loop.example/blockboxes/laws.FnExactBookRing", spec := "fnExactBookRing", inPlace := ["internal/abi.NoEscape"], apart := false, narrowed := true }
def FnExactBookRingUptoSaid : Prop := fnExactBookRingUptoRow.holds Try.pinned (OpenSpec.upto fnExactBookRingSpec)

/-- 'laws.FnExactBookReadings', WHERE WHAT IT READS IS OF BULK AT MOST 1048576: true; the input reads as it did. -/
def fnExactBookReadingsUptoRow : OpenClaim := { program := "ytmpelpmlmmfalab", sum := "397ebf0509c9bc9a4f1516e6f25ed14ae574d9dadfdd57f6c4d50e82f7e316ca", func := "loop.example/blockboxes/laws.FnExactBookReadings", spec := "fnExactBookReadings", inPlace := ["internal/abi.NoEscape"], apart := false, narrowed := true }
def FnExactBookReadingsUptoSaid : Prop := fnExactBookReadingsUptoRow.holds Try.pinned (OpenSpec.upto fnExactBookReadingsSpec)

/-- 'laws.FnExactBookRead', WHERE WHAT IT READS IS OF BULK AT MOST 1048576: true; the input reads as it did. -/
def fnExactBookReadUptoRow : OpenClaim := { program := "ytmpelpmlmmfalab", sum := "397ebf0509c9bc9a4f1516e6f25ed14ae574d9dadfdd57f6c4d50e82f7e316ca", func := "loop.example/blockboxes/laws.FnExactBookRead", spec := "fnExactBookRead", inPlace := ["internal/abi.NoEscape"], apart := false, narrowed := true }
def FnExactBookReadUptoSaid : Prop := fnExactBookReadUptoRow.holds Try.pinned (OpenSpec.upto fnExactBookReadSpec)

end Rows
end Go.Proofs.Ytmpelpmlmmfalab
