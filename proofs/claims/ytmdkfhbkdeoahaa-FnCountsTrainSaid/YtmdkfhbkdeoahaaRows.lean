/-
  No cell of these rows narrows 'for every input' (looked for: loops, veiled, ifaces, maps, wideKeys, modest, calm, conditions, laid).
  DERIVED. THE GIVEN ROWS OF THIS SEAT. 5 by the template 'for every input the law returns true; each argument reads behind the call as it read before'; 0 by the template 'total and deterministic' (their statements: YtmdkfhbkdeoahaaTotals.lean).
  GIVEN WITH THE SEED: the statements are not yours to turn. If you find one false, say at which input.
  Laid BY PROGRAM, IN A SANDBOX (cutbox-rows.mjs): the forced cells as the released guide's own fill.sh prints them over the translation a0d2ff2624962185… (all of the seat's roots in one cut). By AI agents, Wed Nov 11 2026. No macro, syntax, notation, axiom, sorry.
-/
import Derived.Test.YtmdkfhbkdeoahaaChecked
import GoSem.Claim
import GoSem.ClaimJoined
import GoSem.ClaimMapViews
import Derived.JoinedTies
import Derived.KernelRfl
namespace Go.Proofs.Ytmdkfhbkdeoahaa
/- THE CELL 'sum', in the pinned program and in every row, IS THE sha256 OF THE DUMP (.gsa) THAT YtmdkfhbkdeoahaaProg.lean LOADS. Nothing in Lean hashes anything: it is a label: what it is worth is what the hold of that sum in a sandbox is worth. -/
noncomputable def Try.pinned : Pinned := { name := "ytmdkfhbkdeoahaa", sum := "a0d2ff2624962185edbea767e790c181376e4b66b4b1c896bf57885e6ca8d2f2", checked := Try.checked }
namespace Rows
def none {H : Type} : Left H := { results := [], args := [] }

/-- 'laws.FnPulse': WHATEVER THE INPUT: true; the input reads as it did. -/
def fnPulseSpec : ChangeSpec := { name := "fnPulse", fn := fun _ => fun
  | [d] => { results := [.lit (.bool true)], args := [d] }
  | _ => none }
def fnPulseRow : OpenClaim := { program := "ytmdkfhbkdeoahaa", sum := "a0d2ff2624962185edbea767e790c181376e4b66b4b1c896bf57885e6ca8d2f2", func := "loop.example/blockboxes/laws.FnPulse", spec := "fnPulse", apart := false }
def FnPulseSaid : Prop := fnPulseRow.holds Try.pinned (OpenSpec.ofChange fnPulseSpec)

/-- ITS FALSE NEIGHBOUR: 'it returns false'. Refute it at one input. -/
def fnPulseWrong : ChangeSpec := { name := "fnPulse", fn := fun _ => fun
  | [d] => { results := [.lit (.bool false)], args := [d] }
  | _ => none }
def FnPulseWrongFalsely : Prop := fnPulseRow.holds Try.pinned (OpenSpec.ofChange fnPulseWrong)

/-- 'laws.FnCountsRun': WHATEVER THE INPUT: true; the input reads as it did. -/
def fnCountsRunSpec : ChangeSpec := { name := "fnCountsRun", fn := fun _ => fun
  | [d1, d2] => { results := [.lit (.bool true)], args := [d1, d2] }
  | _ => none }
def fnCountsRunRow : OpenClaim := { program := "ytmdkfhbkdeoahaa", sum := "a0d2ff2624962185edbea767e790c181376e4b66b4b1c896bf57885e6ca8d2f2", func := "loop.example/blockboxes/laws.FnCountsRun", spec := "fnCountsRun", apart := false }
def FnCountsRunSaid : Prop := fnCountsRunRow.holds Try.pinned (OpenSpec.ofChange fnCountsRunSpec)

/-- ITS FALSE NEIGHBOUR: 'it returns false'. Refute it at one input. -/
def fnCountsRunWrong : ChangeSpec := { name := "fnCountsRun", fn := fun _ => fun
  | [d1, d2] => { results := [.lit (.bool false)], args := [d1, d2] }
  | _ => none }
def FnCountsRunWrongFalsely : Prop := fnCountsRunRow.holds Try.pinned (OpenSpec.ofChange fnCountsRunWrong)

/-- 'laws.FnCountsClear': WHATEVER THE INPUT: true; the input reads as it did. -/
def fnCountsClearSpec : ChangeSpec := { name := "fnCountsClear", fn := fun _ => fun
  | [d1, d2] => { results := [.lit (.bool true)], args := [d1, d2] }
  | _ => none }
def fnCountsClearRow : OpenClaim := { program := "ytmdkfhbkdeoahaa", sum := "a0d2ff2624962185edbea767e790c181376e4b66b4b1c896bf57885e6ca8d2f2", func := "loop.example/blockboxes/laws.FnCountsClear", spec := "fnCountsClear", apart := false }
def FnCountsClearSaid : Prop := fnCountsClearRow.holds Try.pinned (OpenSpec.ofChange fnCountsClearSpec)

/-- ITS FALSE NEIGHBOUR: 'it returns false'. Refute it at one input. -/
def fnCountsClearWrong : ChangeSpec := { name := "fnCountsClear", fn := fun _ => fun
  | [d1, d2] => { results := [.lit (.bool false)], args := [d1, d2] }
  | _ => none }
def FnCountsClearWrongFalsely : Prop := fnCountsClearRow.holds Try.pinned (OpenSpec.ofChange fnCountsClearWrong)

/-- 'laws.FnCountsNet': WHATEVER THE INPUT: true; the input reads as it did. -/
def fnCountsNetSpec : ChangeSpec := { name := "fnCountsNet", fn := fun _ => fun
  | [d] => { results := [.lit (.bool true)], args := [d] }
  | _ => none }
def fnCountsNetRow : OpenClaim := { program := "ytmdkfhbkdeoahaa", sum := "a0d2ff2624962185edbea767e790c181376e4b66b4b1c896bf57885e6ca8d2f2", func := "loop.example/blockboxes/laws.FnCountsNet", spec := "fnCountsNet", apart := false }
def FnCountsNetSaid : Prop := fnCountsNetRow.holds Try.pinned (OpenSpec.ofChange fnCountsNetSpec)

/-- ITS FALSE NEIGHBOUR: 'it returns false'. Refute it at one input. -/
def fnCountsNetWrong : ChangeSpec := { name := "fnCountsNet", fn := fun _ => fun
  | [d] => { results := [.lit (.bool false)], args := [d] }
  | _ => none }
def FnCountsNetWrongFalsely : Prop := fnCountsNetRow.holds Try.pinned (OpenSpec.ofChange fnCountsNetWrong)

/-- 'laws.FnCountsTrain': WHATEVER THE INPUT: true; the input reads as it did. -/
def fnCountsTrainSpec : ChangeSpec := { name := "fnCountsTrain", fn := fun _ => fun
  | [d1, d2] => { results := [.lit (.bool true)], args := [d1, d2] }
  | _ => none }
def fnCountsTrainRow : OpenClaim := { program := "ytmdkfhbkdeoahaa", sum := "a0d2ff2624962185edbea767e790c181376e4b66b4b1c896bf57885e6ca8d2f2", func := "loop.example/blockboxes/laws.FnCountsTrain", spec := "fnCountsTrain", apart := false }
def FnCountsTrainSaid : Prop := fnCountsTrainRow.holds Try.pinned (OpenSpec.ofChange fnCountsTrainSpec)

/-- ITS FALSE NEIGHBOUR: 'it returns false'. Refute it at one input. -/
def fnCountsTrainWrong : ChangeSpec := { name := "fnCountsTrain", fn := fun _ => fun
  | [d1, d2] => { results := [.lit (.bool false)], args := [d1, d2] }
  | _ => none }
def FnCountsTrainWrongFalsely : Prop := fnCountsTrainRow.holds Try.pinned (OpenSpec.ofChange fnCountsTrainWrong)

/- THE SECOND FORM. 'bulk': how many values and letters a reading holds, each counted each time it is reached (what is shared counts as often as it is met; a slice's spare places count too). A statement '..UptoSaid' is the law's where the arguments, and the package variables that the reading takes, are together of bulk at most 1048576: NARROWER than '..Said'. Prove '..Said' where nothing that the law and all that it calls make is longer than what came in: it says more and counts as full. Else prove '..UptoSaid'. A law counts once. -/
mutual
def uptoBulk {H : Type} : DataW H → Nat
  | .lit (.string bytes) => bytes.length + 1
  | .lit _ => 1
  | .nil => 1
  | .ptr d => uptoBulk d + 1
  | .slice elems spare => uptoBulkAll elems + uptoBulkAll spare + 1
  | .agg parts => uptoBulkAll parts + 1
  | .iface _ d => uptoBulk d + 1
  | .map entries => uptoBulkEntries entries + 1
  | .held _ => 1
def uptoBulkAll {H : Type} : List (DataW H) → Nat
  | [] => 0
  | d :: r => uptoBulk d + uptoBulkAll r
def uptoBulkEntries {H : Type} : List (Lit × DataW H) → Nat
  | [] => 0
  | x :: r => uptoBulkEntry x + uptoBulkEntries r
def uptoBulkEntry {H : Type} : Lit × DataW H → Nat
  | (.string bytes, d) => bytes.length + uptoBulk d + 1
  | (_, d) => uptoBulk d + 1
 end
def uptoSmall : (H : Type) → List (DataW H) → Bool := fun _ ds => decide (uptoBulkAll ds ≤ 1048576)
def OpenSpec.upto (s : _root_.Go.ChangeSpec) : _root_.Go.OpenSpec := { _root_.Go.OpenSpec.ofChange s with cond := some uptoSmall }

/-- 'laws.FnPulse', WHERE WHAT IT READS IS OF BULK AT MOST 1048576: true; the input reads as it did. -/
def fnPulseUptoRow : OpenClaim := { program := "ytmdkfhbkdeoahaa", sum := "a0d2ff2624962185edbea767e790c181376e4b66b4b1c896bf57885e6ca8d2f2", func := "loop.example/blockboxes/laws.FnPulse", spec := "fnPulse", apart := false, narrowed := true }
def FnPulseUptoSaid : Prop := fnPulseUptoRow.holds Try.pinned (OpenSpec.upto fnPulseSpec)

/-- 'laws.FnCountsRun', WHERE WHAT IT READS IS OF BULK AT MOST 1048576: true; the input reads as it did. -/
def fnCountsRunUptoRow : OpenClaim := { program := "ytmdkfhbkdeoahaa", sum := "a0d2ff2624962185edbea767e790c181376e4b66b4b1c896bf57885e6ca8d2f2", func := "loop.example/blockboxes/laws.FnCountsRun", spec := "fnCountsRun", apart := false, narrowed := true }
def FnCountsRunUptoSaid : Prop := fnCountsRunUptoRow.holds Try.pinned (OpenSpec.upto fnCountsRunSpec)

/-- 'laws.FnCountsClear', WHERE WHAT IT READS IS OF BULK AT MOST 1048576: true; the input reads as it did. -/
def fnCountsClearUptoRow : OpenClaim := { program := "ytmdkfhbkdeoahaa", sum := "a0d2ff2624962185edbea767e790c181376e4b66b4b1c896bf57885e6ca8d2f2", func := "loop.example/blockboxes/laws.FnCountsClear", spec := "fnCountsClear", apart := false, narrowed := true }
def FnCountsClearUptoSaid : Prop := fnCountsClearUptoRow.holds Try.pinned (OpenSpec.upto fnCountsClearSpec)

/-- 'laws.FnCountsNet', WHERE WHAT IT READS IS OF BULK AT MOST 1048576: true; the input reads as it did. -/
def fnCountsNetUptoRow : OpenClaim := { program := "ytmdkfhbkdeoahaa", sum := "a0d2ff2624962185edbea767e790c181376e4b66b4b1c896bf57885e6ca8d2f2", func := "loop.example/blockboxes/laws.FnCountsNet", spec := "fnCountsNet", apart := false, narrowed := true }
def FnCountsNetUptoSaid : Prop := fnCountsNetUptoRow.holds Try.pinned (OpenSpec.upto fnCountsNetSpec)

/-- 'laws.FnCountsTrain', WHERE WHAT IT READS IS OF BULK AT MOST 1048576: true; the input reads as it did. -/
def fnCountsTrainUptoRow : OpenClaim := { program := "ytmdkfhbkdeoahaa", sum := "a0d2ff2624962185edbea767e790c181376e4b66b4b1c896bf57885e6ca8d2f2", func := "loop.example/blockboxes/laws.FnCountsTrain", spec := "fnCountsTrain", apart := false, narrowed := true }
def FnCountsTrainUptoSaid : Prop := fnCountsTrainUptoRow.holds Try.pinned (OpenSpec.upto fnCountsTrainSpec)

end Rows
end Go.Proofs.Ytmdkfhbkdeoahaa
