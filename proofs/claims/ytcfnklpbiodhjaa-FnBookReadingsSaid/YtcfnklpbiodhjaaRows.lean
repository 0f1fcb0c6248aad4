/-
  No cell of these rows narrows 'for every input' (looked for: loops, veiled, ifaces, maps, wideKeys, modest, calm, conditions, laid).
  DERIVED. THE GIVEN ROWS OF THIS SEAT. 3 by the template 'for every input the law returns true; each argument reads behind the call as it read before'; 0 by the template 'total and deterministic' (their statements: YtcfnklpbiodhjaaTotals.lean).
  GIVEN WITH THE SEED: the statements are not yours to turn. If you find one false, say at which input.
  Laid BY PROGRAM, IN A SANDBOX (cutbox-rows.mjs): the forced cells as the released guide's own fill.sh prints them over the translation e059a7914c33bf93… (all of the seat's roots in one cut). By AI agents, Wed Nov 11 2026. No macro, syntax, notation, axiom, sorry.
-/
import Derived.Test.YtcfnklpbiodhjaaChecked
import GoSem.Claim
import GoSem.ClaimJoined
import GoSem.ClaimMapViews
import Derived.JoinedTies
import Derived.KernelRfl
namespace Go.Proofs.Ytcfnklpbiodhjaa
/- THE CELL 'sum', in the pinned program and in every row, IS THE sha256 OF THE DUMP (.gsa) THAT YtcfnklpbiodhjaaProg.lean LOADS. Nothing in Lean hashes anything: it is a label: what it is worth is what the hold of that sum in a sandbox is worth. -/
noncomputable def Try.pinned : Pinned := { name := "ytcfnklpbiodhjaa", sum := "e059a7914c33bf93146ac45f80283415240e4733b59df532591abb6f1d4e66d8", checked := Try.checked }
namespace Rows
def none {H : Type} : Left H := { results := [], args := [] }

/-- 'laws.FnBookReadings': WHATEVER THE INPUT: true; the input reads as it did. -/
def fnBookReadingsSpec : ChangeSpec := { name := "fnBookReadings", fn := fun _ => fun
  | [d] => { results := [.lit (.bool true)], args := [d] }
  | _ => none }
def fnBookReadingsRow : OpenClaim := { program := "ytcfnklpbiodhjaa", sum := "e059a7914c33bf93146ac45f80283415240e4733b59df532591abb6f1d4e66d8", func := "loop.example/blockboxes/laws.FnBookReadings", spec := "fnBookReadings", inPlace := ["internal/abi.NoEscape"], unfollowed := true, recurses := true, apart := false }
def FnBookReadingsSaid : Prop := fnBookReadingsRow.holds Try.pinned (OpenSpec.ofChange fnBookReadingsSpec)

/-- ITS FALSE NEIGHBOUR: 'it returns false'. Refute it at one input. -/
def fnBookReadingsWrong : ChangeSpec := { name := "fnBookReadings", fn := fun _ => fun
  | [d] => { results := [.lit (.bool false)], args := [d] }
  | _ => none }
def FnBookReadingsWrongFalsely : Prop := fnBookReadingsRow.holds Try.pinned (OpenSpec.ofChange fnBookReadingsWrong)

/-- 'laws.FnExactBookReadings': WHATEVER THE INPUT: true; the input reads as it did. -/
def fnExactBookReadingsSpec : ChangeSpec := { name := "fnExactBookReadings", fn := fun _ => fun
  | [d1, d2] => { results := [.lit (.bool true)], args := [d1, d2] }
  | _ => none }
def fnExactBookReadingsRow : OpenClaim := { program := "ytcfnklpbiodhjaa", sum := "e059a7914c33bf93146ac45f80283415240e4733b59df532591abb6f1d4e66d8", func := "loop.example/blockboxes/laws.FnExactBookReadings", spec := "fnExactBookReadings", inPlace := ["internal/abi.NoEscape"], apart := false }
def FnExactBookReadingsSaid : Prop := fnExactBookReadingsRow.holds Try.pinned (OpenSpec.ofChange fnExactBookReadingsSpec)

/-- ITS FALSE NEIGHBOUR: 'it returns false'. Refute it at one input. -/
def fnExactBookReadingsWrong : ChangeSpec := { name := "fnExactBookReadings", fn := fun _ => fun
  | [d1, d2] => { results := [.lit (.bool false)], args := [d1, d2] }
  | _ => none }
def FnExactBookReadingsWrongFalsely : Prop := fnExactBookReadingsRow.holds Try.pinned (OpenSpec.ofChange fnExactBookReadingsWrong)

/-- 'laws.FnExactBookRead': WHATEVER THE INPUT: true; the input reads as it did. -/
def fnExactBookReadSpec : ChangeSpec := { name := "fnExactBookRead", fn := fun _ => fun
  | [d1, d2] => { results := [.lit (.bool true)], args := [d1, d2] }
  | _ => none }
def fnExactBookReadRow : OpenClaim := { program := "ytcfnklpbiodhjaa", sum := "e059a7914c33bf93146ac45f80283415240e4733b59df532591abb6f1d4e66d8", func := "loop.example/blockboxes/laws.FnExactBookRead", spec := "fnExactBookRead", inPlace := ["internal/abi.NoEscape"], apart := false }
def FnExactBookReadSaid : Prop := fnExactBookReadRow.holds Try.pinned (OpenSpec.ofChange fnExactBookReadSpec)

/-- ITS FALSE NEIGHBOUR: 'it returns false'. Refute it at one input. -/
def fnExactBookReadWrong : ChangeSpec := { name := "fnExactBookRead", fn := fun _ => fun
  | [d1, d2] => { results := [.lit (.bool false)], args := [d1, d2] }
  | _ => none }
def FnExactBookReadWrongFalsely : Prop := fnExactBookReadRow.holds Try.pinned (OpenSpec.ofChange fnExactBookReadWrong)

/- THE SECOND FORM. 'bulk': how many values and letters a reading holds, each counted each time it is reached (what is shared counts as often as it is met; a slice's spare places count too). A statement '..UptoSaid' is the law's where the arguments, and the package variables that the reading takes, are together of bulk at most 1048576: NARROWER than '..Said'. Prove '..Said' where nothing that the law and all that it calls make is longer than what came in: it says more and counts as full. Else prove '..UptoSaid'. A law counts once. -/
mutual
def uptoBulk {H : Type} : DataW H → Nat
  | .lit (.string bytes) => bytes.length + 1
  | .lit _ => 1
  | .nil => 1
  | .ptr d => uptoBulk d + 1
  | .slice elems spare => uptoBulkAll elems + uptoBulkAll spare + 1
  | .agg parts => uptoBulkAll parts + 1
  | .iface _ d => uptoBulk d + 1
  | .map entries => uptoBulkEntries entries + 1
  | .held _ => 1
def uptoBulkAll {H : Type} : List (DataW H) → Nat
  | [] => 0
  | d :: r => uptoBulk d + uptoBulkAll r
def uptoBulkEntries {H : Type} : List (Lit × DataW H) → Nat
  | [] => 0
  | x :: r => uptoBulkEntry x + uptoBulkEntries r
def uptoBulkEntry {H : Type} : Lit × DataW H → Nat
  | (.string bytes, d) => bytes.length + uptoBulk d + 1
  | (_, d) => uptoBulk d + 1
 end
def uptoSmall : (H : Type) → List (DataW H) → Bool := fun _ ds => decide (uptoBulkAll ds ≤ 1048576)
def OpenSpec.upto (s : _root_.Go.ChangeSpec) : _root_.Go.OpenSpec := { _root_.Go.OpenSpec.ofChange s with cond := some uptoSmall }

/-- 'laws.FnBookReadings', WHERE WHAT IT READS IS OF BULK AT MOST 1048576: true; the input reads as it did. -/
def fnBookReadingsUptoRow : OpenClaim := { program := "ytcfnklpbiodhjaa", sum := "e059a7914c33bf93146ac45f80283415240e4733b59df532591abb6f1d4e66d8", func := "loop.example/blockboxes/laws.FnBookReadings", spec := "fnBookReadings", inPlace := ["internal/abi.NoEscape"], unfollowed := true, recurses := true, apart := false, narrowed := true }
def FnBookReadingsUptoSaid : Prop := fnBookReadingsUptoRow.holds Try.pinned (OpenSpec.upto fnBookReadingsSpec)

/-- 'laws.FnExactBookReadings', WHERE WHAT IT READS IS OF BULK AT MOST 1048576: true; the input reads as it did. -/
def fnExactBookReadingsUptoRow : OpenClaim := { program := "ytcfnklpbiodhjaa", sum := "e059a7914c33bf93146ac45f80283415240e4733b59df532591abb6f1d4e66d8", func := "loop.example/blockboxes/laws.FnExactBookReadings", spec := "fnExactBookReadings", inPlace := ["internal/abi.NoEscape"], apart := false, narrowed := true }
def FnExactBookReadingsUptoSaid : Prop := fnExactBookReadingsUptoRow.holds Try.pinned (OpenSpec.upto fnExactBookReadingsSpec)

/-- 'laws.FnExactBookRead', WHERE WHAT IT READS IS OF BULK AT MOST 1048576: true; the input reads as it did. -/
def fnExactBookReadUptoRow : OpenClaim := { program := "ytcfnklpbiodhjaa", sum := "e059a7914c33bf93146ac45f80283415240e4733b59df532591abb6f1d4e66d8", func := "loop.example/blockboxes/laws.FnExactBookRead", spec := "fnExactBookRead", inPlace := ["internal/abi.NoEscape"], apart := false, narrowed := true }
def FnExactBookReadUptoSaid : Prop := fnExactBookReadUptoRow.holds Try.pinned (OpenSpec.upto fnExactBookReadSpec)

end Rows
end Go.Proofs.Ytcfnklpbiodhjaa
