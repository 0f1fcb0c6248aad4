/-
  No cell of these rows narrows 'for every input' (looked for: loops, veiled, ifaces, maps, wideKeys, modest, calm, conditions, laid).
  DERIVED. THE GIVEN ROWS OF THIS SEAT. 3 by the template 'for every input the law returns true; each argument reads behind the call as it read before'; 0 by the template 'total and deterministic' (their statements: YthjodagbgmpbhaaTotals.lean).
  GIVEN WITH THE SEED: the statements are not yours to turn. If you find one false, say at which input.
  Laid BY PROGRAM, IN A SANDBOX (cutbox-rows.mjs): the forced cells as the released guide's own fill.sh prints them over the translation f93dc0dc5667e167… (all of the seat's roots in one cut). By AI agents, Wed Nov 11 2026. No macro, syntax, notation, axiom, sorry.
-/
import Derived.Test.YthjodagbgmpbhaaChecked
import GoSem.Claim
import GoSem.ClaimJoined
import GoSem.ClaimMapViews
import Derived.JoinedTies
import Derived.KernelRfl
namespace Go.Proofs.Ythjodagbgmpbhaa
/- THE CELL 'sum', in the pinned program and in every row, IS THE sha256 OF THE DUMP (.gsa) THAT YthjodagbgmpbhaaProg.lean LOADS. Nothing in Lean hashes anything: it is a label: what it is worth is what the hold of that sum in a sandbox is worth. -/
noncomputable def Try.pinned : Pinned := { name := "ythjodagbgmpbhaa", sum := "f93dc0dc5667e167182456909a3148677fb7b1437e753f3d5db054075092db6f", checked := Try.checked }
namespace Rows
def none {H : Type} : Left H := { results := [], args := [] }

/-- 'laws.FnTokenStep': WHATEVER THE INPUT: true; the input reads as it did. -/
def fnTokenStepSpec : ChangeSpec := { name := "fnTokenStep", fn := fun _ => fun
  | [d] => { results := [.lit (.bool true)], args := [d] }
  | _ => none }
def fnTokenStepRow : OpenClaim := { program := "ythjodagbgmpbhaa", sum := "f93dc0dc5667e167182456909a3148677fb7b1437e753f3d5db054075092db6f", func := "loop.example/blockboxes/laws.FnTokenStep", spec := "fnTokenStep", plainKeys := false, apart := false }
def FnTokenStepSaid : Prop := fnTokenStepRow.holds Try.pinned (OpenSpec.ofChange fnTokenStepSpec)

/-- ITS FALSE NEIGHBOUR: 'it returns false'. Refute it at one input. -/
def fnTokenStepWrong : ChangeSpec := { name := "fnTokenStep", fn := fun _ => fun
  | [d] => { results := [.lit (.bool false)], args := [d] }
  | _ => none }
def FnTokenStepWrongFalsely : Prop := fnTokenStepRow.holds Try.pinned (OpenSpec.ofChange fnTokenStepWrong)

/-- 'laws.FnTokenRun': WHATEVER THE INPUT: true; the input reads as it did. -/
def fnTokenRunSpec : ChangeSpec := { name := "fnTokenRun", fn := fun _ => fun
  | [d1, d2] => { results := [.lit (.bool true)], args := [d1, d2] }
  | _ => none }
def fnTokenRunRow : OpenClaim := { program := "ythjodagbgmpbhaa", sum := "f93dc0dc5667e167182456909a3148677fb7b1437e753f3d5db054075092db6f", func := "loop.example/blockboxes/laws.FnTokenRun", spec := "fnTokenRun", plainKeys := false, apart := false }
def FnTokenRunSaid : Prop := fnTokenRunRow.holds Try.pinned (OpenSpec.ofChange fnTokenRunSpec)

/-- ITS FALSE NEIGHBOUR: 'it returns false'. Refute it at one input. -/
def fnTokenRunWrong : ChangeSpec := { name := "fnTokenRun", fn := fun _ => fun
  | [d1, d2] => { results := [.lit (.bool false)], args := [d1, d2] }
  | _ => none }
def FnTokenRunWrongFalsely : Prop := fnTokenRunRow.holds Try.pinned (OpenSpec.ofChange fnTokenRunWrong)

/-- 'laws.FnTokenMany': WHATEVER THE INPUT: true; the input reads as it did. -/
def fnTokenManySpec : ChangeSpec := { name := "fnTokenMany", fn := fun _ => fun
  | [d] => { results := [.lit (.bool true)], args := [d] }
  | _ => none }
def fnTokenManyRow : OpenClaim := { program := "ythjodagbgmpbhaa", sum := "f93dc0dc5667e167182456909a3148677fb7b1437e753f3d5db054075092db6f", func := "loop.example/blockboxes/laws.FnTokenMany", spec := "fnTokenMany", recurses := true, plainKeys := false, apart := false }
def FnTokenManySaid : Prop := fnTokenManyRow.holds Try.pinned (OpenSpec.ofChange fnTokenManySpec)

/-- ITS FALSE NEIGHBOUR: 'it returns false'. Refute it at one input. -/
def fnTokenManyWrong : ChangeSpec := { name := "fnTokenMany", fn := fun _ => fun
  | [d] => { results := [.lit (.bool false)], args := [d] }
  | _ => none }
def FnTokenManyWrongFalsely : Prop := fnTokenManyRow.holds Try.pinned (OpenSpec.ofChange fnTokenManyWrong)

/- THE SECOND FORM. 'bulk': how many values and letters a reading holds, each counted each time it is reached (what is shared counts as often as it is met; a slice's spare places count too). A statement '..UptoSaid' is the law's where the arguments, and the package variables that the reading takes, are together of bulk at most 1048576: NARROWER than '..Said'. Prove '..Said' where nothing that the law and all that it calls make is longer than what came in: it says more and counts as full. Else prove '..UptoSaid'. A law counts once. -/
mutual
def uptoBulk {H : Type} : DataW H → Nat
  | .lit (.string bytes) => bytes.length + 1
  | .lit _ => 1
  | .nil => 1
  | .ptr d => uptoBulk d + 1
  | .slice elems spare => uptoBulkAll elems + uptoBulkAll spare + 1
  | .agg parts => uptoBulkAll parts + 1
  | .iface _ d => uptoBulk d + 1
  | .map entries => uptoBulkEntries entries + 1
  | .held _ => 1
def uptoBulkAll {H : Type} : List (DataW H) → Nat
  | [] => 0
  | d :: r => uptoBulk d + uptoBulkAll r
def uptoBulkEntries {H : Type} : List (Lit × DataW H) → Nat
  | [] => 0
  | x :: r => uptoBulkEntry x + uptoBulkEntries r
def uptoBulkEntry {H : Type} : Lit × DataW H → Nat
  | (.string bytes, d) => bytes.length + uptoBulk d + 1
  | (_, d) => uptoBulk d + 1
 end
def uptoSmall : (H : Type) → List (DataW H) → Bool := fun _ ds => decide (uptoBulkAll ds ≤ 1048576)
def OpenSpec.upto (s : _root_.Go.ChangeSpec) : _root_.Go.OpenSpec := { _root_.Go.OpenSpec.ofChange s with cond := some uptoSmall }

/-- 'laws.FnTokenStep', WHERE WHAT IT READS IS OF BULK AT MOST 1048576: true; the input reads as it did. -/
def fnTokenStepUptoRow : OpenClaim := { program := "ythjodagbgmpbhaa", sum := "f93dc0dc5667e167182456909a3148677fb7b1437e753f3d5db054075092db6f", func := "loop.example/blockboxes/laws.FnTokenStep", spec := "fnTokenStep", plainKeys := false, apart := false, narrowed := true }
def FnTokenStepUptoSaid : Prop := fnTokenStepUptoRow.holds Try.pinned (OpenSpec.upto fnTokenStepSpec)

/-- 'laws.FnTokenRun', WHERE WHAT IT READS IS OF BULK AT MOST 1048576: true; the input reads as it did. -/
def fnTokenRunUptoRow : OpenClaim := { program := "ythjodagbgmpbhaa", sum := "f93dc0dc5667e167182456909a3148677fb7b1437e753f3d5db054075092db6f", func := "loop.example/blockboxes/laws.FnTokenRun", spec := "fnTokenRun", plainKeys := false, apart := false, narrowed := true }
def FnTokenRunUptoSaid : Prop := fnTokenRunUptoRow.holds Try.pinned (OpenSpec.upto fnTokenRunSpec)

/-- 'laws.FnTokenMany', WHERE WHAT IT READS IS OF BULK AT MOST 1048576: true; the input reads as it did. -/
def fnTokenManyUptoRow : OpenClaim := { program := "ythjodagbgmpbhaa", sum := "f93dc0dc5667e167182456909a3148677fb7b1437e753f3d5db054075092db6f", func := "loop.example/blockboxes/laws.FnTokenMany", spec := "fnTokenMany", recurses := true, plainKeys := false, apart := false, narrowed := true }
def FnTokenManyUptoSaid : Prop := fnTokenManyUptoRow.holds Try.pinned (OpenSpec.upto fnTokenManySpec)

end Rows
end Go.Proofs.Ythjodagbgmpbhaa
