/-
  No cell of these rows narrows 'for every input' (looked for: loops, veiled, ifaces, maps, wideKeys, modest, calm, conditions, laid).
  DERIVED. THE GIVEN ROWS OF THIS SEAT. 4 by the template 'for every input the law returns true; each argument reads behind the call as it read before'; 0 by the template 'total and deterministic' (their statements: YtbpifchlmmdnaabTotals.lean).
  GIVEN WITH THE SEED: the statements are not yours to turn. If you find one false, say at which input.
  Laid BY PROGRAM, IN A SANDBOX (cutbox-rows.mjs): the forced cells as the released guide's own fill.sh prints them over the translation bcb2f880f4f1f4d5… (all of the seat's roots in one cut). By AI agents, Wed Nov 11 2026. No macro, syntax, notation, axiom, sorry.
-/
import Derived.Test.YtbpifchlmmdnaabChecked
import GoSem.Claim
import GoSem.ClaimJoined
import GoSem.ClaimMapViews
import Derived.JoinedTies
import Derived.KernelRfl
namespace Go.Proofs.Ytbpifchlmmdnaab
/- THE CELL 'sum', in the pinned program and in every row, IS THE sha256 OF THE DUMP (.gsa) THAT YtbpifchlmmdnaabProg.lean LOADS. Nothing in Lean hashes anything: it is a label: what it is worth is what the hold of that sum in a sandbox is worth. -/
noncomputable def Try.pinned : Pinned := { name := "ytbpifchlmmdnaab", sum := "bcb2f880f4f1f4d5905c5bf4534b9c6422f5dfceb038643dfe7f2efaabadcf87", checked := Try.checked }
namespace Rows
def none {H : Type} : Left H := { results := [], args := [] }

/-- 'laws.FnGap': WHATEVER THE INPUT: true; the input reads as it did. -/
def fnGapSpec : ChangeSpec := { name := "fnGap", fn := fun _ => fun
  | [d] => { results := [.lit (.bool true)], args := [d] }
  | _ => none }
def fnGapRow : OpenClaim := { program := "ytbpifchlmmdnaab", sum := "bcb2f880f4f1f4d5905c5bf4534b9c6422f5dfceb038643dfe7f2efaabadcf87", func := "loop.example/blockboxes/laws.FnGap", spec := "fnGap", unfollowed := true, recurses := true, apart := false }
def FnGapSaid : Prop := fnGapRow.holds Try.pinned (OpenSpec.ofChange fnGapSpec)

/-- ITS FALSE NEIGHBOUR: 'it returns false'. Refute it at one input. -/
def fnGapWrong : ChangeSpec := { name := "fnGap", fn := fun _ => fun
  | [d] => { results := [.lit (.bool false)], args := [d] }
  | _ => none }
def FnGapWrongFalsely : Prop := fnGapRow.holds Try.pinned (OpenSpec.ofChange fnGapWrong)

/-- 'laws.FnExactPathsOrder': WHATEVER THE INPUT: true; the input reads as it did. -/
def fnExactPathsOrderSpec : ChangeSpec := { name := "fnExactPathsOrder", fn := fun _ => fun
  | [d1, d2, d3] => { results := [.lit (.bool true)], args := [d1, d2, d3] }
  | _ => none }
def fnExactPathsOrderRow : OpenClaim := { program := "ytbpifchlmmdnaab", sum := "bcb2f880f4f1f4d5905c5bf4534b9c6422f5dfceb038643dfe7f2efaabadcf87", func := "loop.example/blockboxes/laws.FnExactPathsOrder", spec := "fnExactPathsOrder", unfollowed := true, recurses := true, apart := false }
def FnExactPathsOrderSaid : Prop := fnExactPathsOrderRow.holds Try.pinned (OpenSpec.ofChange fnExactPathsOrderSpec)

/-- ITS FALSE NEIGHBOUR: 'it returns false'. Refute it at one input. -/
def fnExactPathsOrderWrong : ChangeSpec := { name := "fnExactPathsOrder", fn := fun _ => fun
  | [d1, d2, d3] => { results := [.lit (.bool false)], args := [d1, d2, d3] }
  | _ => none }
def FnExactPathsOrderWrongFalsely : Prop := fnExactPathsOrderRow.holds Try.pinned (OpenSpec.ofChange fnExactPathsOrderWrong)

/-- 'laws.FnExactPathsGap': WHATEVER THE INPUT: true; the input reads as it did. -/
def fnExactPathsGapSpec : ChangeSpec := { name := "fnExactPathsGap", fn := fun _ => fun
  | [d1, d2, d3] => { results := [.lit (.bool true)], args := [d1, d2, d3] }
  | _ => none }
def fnExactPathsGapRow : OpenClaim := { program := "ytbpifchlmmdnaab", sum := "bcb2f880f4f1f4d5905c5bf4534b9c6422f5dfceb038643dfe7f2efaabadcf87", func := "loop.example/blockboxes/laws.FnExactPathsGap", spec := "fnExactPathsGap", unfollowed := true, recurses := true, apart := false }
def FnExactPathsGapSaid : Prop := fnExactPathsGapRow.holds Try.pinned (OpenSpec.ofChange fnExactPathsGapSpec)

/-- ITS FALSE NEIGHBOUR: 'it returns false'. Refute it at one input. -/
def fnExactPathsGapWrong : ChangeSpec := { name := "fnExactPathsGap", fn := fun _ => fun
  | [d1, d2, d3] => { results := [.lit (.bool false)], args := [d1, d2, d3] }
  | _ => none }
def FnExactPathsGapWrongFalsely : Prop := fnExactPathsGapRow.holds Try.pinned (OpenSpec.ofChange fnExactPathsGapWrong)

/-- 'laws.FnExactPathsAdd': WHATEVER THE INPUT: true; the input reads as it did. -/
def fnExactPathsAddSpec : ChangeSpec := { name := "fnExactPathsAdd", fn := fun _ => fun
  | [d1, d2, d3, d4] => { results := [.lit (.bool true)], args := [d1, d2, d3, d4] }
  | _ => none }
def fnExactPathsAddRow : OpenClaim := { program := "ytbpifchlmmdnaab", sum := "bcb2f880f4f1f4d5905c5bf4534b9c6422f5dfceb038643dfe7f2efaabadcf87", func := "loop.example/blockboxes/laws.FnExactPathsAdd", spec := "fnExactPathsAdd", unfollowed := true, recurses := true, apart := false }
def FnExactPathsAddSaid : Prop := fnExactPathsAddRow.holds Try.pinned (OpenSpec.ofChange fnExactPathsAddSpec)

/-- ITS FALSE NEIGHBOUR: 'it returns false'. Refute it at one input. -/
def fnExactPathsAddWrong : ChangeSpec := { name := "fnExactPathsAdd", fn := fun _ => fun
  | [d1, d2, d3, d4] => { results := [.lit (.bool false)], args := [d1, d2, d3, d4] }
  | _ => none }
def FnExactPathsAddWrongFalsely : Prop := fnExactPathsAddRow.holds Try.pinned (OpenSpec.ofChange fnExactPathsAddWrong)

/- THE SECOND FORM. 'bulk': how many values and letters a reading holds, each counted each time it is reached (what is shared counts as often as it is met; a slice's spare places count too). A statement '..UptoSaid' is the law's where the arguments, and the package variables that the reading takes, are together of bulk at most 1048576: NARROWER than '..Said'. Prove '..Said' where nothing that the law and all that it calls make is longer than what came in: it says more and counts as full. Else prove '..UptoSaid'. A law counts once. -/
mutual
def uptoBulk {H : Type} : DataW H → Nat
  | .lit (.string bytes) => bytes.length + 1
  | .lit _ => 1
  | .nil => 1
  | .ptr d => uptoBulk d + 1
  | .slice elems spare => uptoBulkAll elems + uptoBulkAll spare + 1
  | .agg parts => uptoBulkAll parts + 1
  | .iface _ d => uptoBulk d + 1
  | .map entries => uptoBulkEntries entries + 1
  | .held _ => 1
def uptoBulkAll {H : Type} : List (DataW H) → Nat
  | [] => 0
  | d :: r => uptoBulk d + uptoBulkAll r
def uptoBulkEntries {H : Type} : List (Lit × DataW H) → Nat
  | [] => 0
  | x :: r => uptoBulkEntry x + uptoBulkEntries r
def uptoBulkEntry {H : Type} : Lit × DataW H → Nat
  | (.string bytes, d) => bytes.length + uptoBulk d + 1
  | (_, d) => uptoBulk d + 1
 end
def uptoSmall : (H : Type) → List (DataW H) → Bool := fun _ ds => decide (uptoBulkAll ds ≤ 1048576)
def OpenSpec.upto (s : _root_.Go.ChangeSpec) : _root_.Go.OpenSpec := { _root_.Go.OpenSpec.ofChange s with cond := some uptoSmall }

/-- 'laws.FnGap', WHERE WHAT IT READS IS OF BULK AT MOST 1048576: true; the input reads as it did. -/
def fnGapUptoRow : OpenClaim := { program := "ytbpifchlmmdnaab", sum := "bcb2f880f4f1f4d5905c5bf4534b9c6422f5dfceb038643dfe7f2efaabadcf87", func := "loop.example/blockboxes/laws.FnGap", spec := "fnGap", unfollowed := true, recurses := true, apart := false, narrowed := true }
def FnGapUptoSaid : Prop := fnGapUptoRow.holds Try.pinned (OpenSpec.upto fnGapSpec)

/-- 'laws.FnExactPathsOrder', WHERE WHAT IT READS IS OF BULK AT MOST 1048576: true; the input reads as it did. -/
def fnExactPathsOrderUptoRow : OpenClaim := { program := "ytbpifchlmmdnaab", sum := "bcb2f880f4f1f4d5905c5bf4534b9c6422f5dfceb038643dfe7f2efaabadcf87", func := "loop.example/blockboxes/laws.FnExactPathsOrder", spec := "fnExactPathsOrder", unfollowed := true, recurses := true, apart := false, narrowed := true }
def FnExactPathsOrderUptoSaid : Prop := fnExactPathsOrderUptoRow.holds Try.pinned (OpenSpec.upto fnExactPathsOrderSpec)

/-- 'laws.FnExactPathsGap', WHERE WHAT IT READS IS OF BULK AT MOST 1048576: true; the input reads as it did. -/
def fnExactPathsGapUptoRow : OpenClaim := { program := "ytbpifchlmmdnaab", sum := "bcb2f880f4f1f4d5905c5bf4534b9c6422f5dfceb038643dfe7f2efaabadcf87", func := "loop.example/blockboxes/laws.FnExactPathsGap", spec := "fnExactPathsGap", unfollowed := true, recurses := true, apart := false, narrowed := true }
def FnExactPathsGapUptoSaid : Prop := fnExactPathsGapUptoRow.holds Try.pinned (OpenSpec.upto fnExactPathsGapSpec)

/-- 'laws.FnExactPathsAdd', WHERE WHAT IT READS IS OF BULK AT MOST 1048576: true; the input reads as it did. -/
def fnExactPathsAddUptoRow : OpenClaim := { program := "ytbpifchlmmdnaab", sum := "bcb2f880f4f1f4d5905c5bf4534b9c6422f5dfceb038643dfe7f2efaabadcf87", func := "loop.example/blockboxes/laws.FnExactPathsAdd", spec := "fnExactPathsAdd", unfollowed := true, recurses := true, apart := false, narrowed := true }
def FnExactPathsAddUptoSaid : Prop := fnExactPathsAddUptoRow.holds Try.pinned (OpenSpec.upto fnExactPathsAddSpec)

end Rows
end Go.Proofs.Ytbpifchlmmdnaab
