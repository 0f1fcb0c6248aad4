/-
  No cell of these rows narrows 'for every input' (looked for: loops, veiled, ifaces, maps, wideKeys, modest, calm, conditions, laid).
  DERIVED. THE GIVEN ROWS OF THIS SEAT. 7 by the template 'for every input the law returns true; each argument reads behind the call as it read before'; 0 by the template 'total and deterministic' (their statements: YtckdfcfgjdgklaaTotals.lean).
  GIVEN WITH THE SEED: the statements are not yours to turn. If you find one false, say at which input.
  Laid BY PROGRAM, IN A SANDBOX (cutbox-rows.mjs): the forced cells as the released guide's own fill.sh prints them over the translation 44a8e174d0291d6a… (all of the seat's roots in one cut). By AI agents, Wed Nov 11 2026. No macro, syntax, notation, axiom, sorry.
-/
import Derived.Test.YtckdfcfgjdgklaaChecked
import GoSem.Claim
import GoSem.ClaimJoined
import GoSem.ClaimMapViews
import Derived.JoinedTies
import Derived.KernelRfl
namespace Go.Proofs.Ytckdfcfgjdgklaa
/- THE CELL 'sum', in the pinned program and in every row, IS THE sha256 OF THE DUMP (.gsa) THAT YtckdfcfgjdgklaaProg.lean LOADS. Nothing in Lean hashes anything: it is a label: what it is worth is what the hold of that sum in a sandbox is worth. -/
noncomputable def Try.pinned : Pinned := { name := "ytckdfcfgjdgklaa", sum := "44a8e174d0291d6aae234f69296c1780ca339fdcae8981c8be17d006be5c0146", checked := Try.checked }
namespace Rows
def none {H : Type} : Left H := { results := [], args := [] }

/-- 'laws.FnExactTrackRun': WHATEVER THE INPUT: true; the input reads as it did. -/
def fnExactTrackRunSpec : ChangeSpec := { name := "fnExactTrackRun", fn := fun _ => fun
  | [d1, d2] => { results := [.lit (.bool true)], args := [d1, d2] }
  | _ => none }
def fnExactTrackRunRow : OpenClaim := { program := "ytckdfcfgjdgklaa", sum := "44a8e174d0291d6aae234f69296c1780ca339fdcae8981c8be17d006be5c0146", func := "loop.example/blockboxes/laws.FnExactTrackRun", spec := "fnExactTrackRun", inPlace := ["internal/abi.NoEscape"], apart := false }
def FnExactTrackRunSaid : Prop := fnExactTrackRunRow.holds Try.pinned (OpenSpec.ofChange fnExactTrackRunSpec)

/-- ITS FALSE NEIGHBOUR: 'it returns false'. Refute it at one input. -/
def fnExactTrackRunWrong : ChangeSpec := { name := "fnExactTrackRun", fn := fun _ => fun
  | [d1, d2] => { results := [.lit (.bool false)], args := [d1, d2] }
  | _ => none }
def FnExactTrackRunWrongFalsely : Prop := fnExactTrackRunRow.holds Try.pinned (OpenSpec.ofChange fnExactTrackRunWrong)

/-- 'laws.FnExactCountsValid': WHATEVER THE INPUT: true; the input reads as it did. -/
def fnExactCountsValidSpec : ChangeSpec := { name := "fnExactCountsValid", fn := fun _ => fun
  | [d] => { results := [.lit (.bool true)], args := [d] }
  | _ => none }
def fnExactCountsValidRow : OpenClaim := { program := "ytckdfcfgjdgklaa", sum := "44a8e174d0291d6aae234f69296c1780ca339fdcae8981c8be17d006be5c0146", func := "loop.example/blockboxes/laws.FnExactCountsValid", spec := "fnExactCountsValid", apart := false }
def FnExactCountsValidSaid : Prop := fnExactCountsValidRow.holds Try.pinned (OpenSpec.ofChange fnExactCountsValidSpec)

/-- ITS FALSE NEIGHBOUR: 'it returns false'. Refute it at one input. -/
def fnExactCountsValidWrong : ChangeSpec := { name := "fnExactCountsValid", fn := fun _ => fun
  | [d] => { results := [.lit (.bool false)], args := [d] }
  | _ => none }
def FnExactCountsValidWrongFalsely : Prop := fnExactCountsValidRow.holds Try.pinned (OpenSpec.ofChange fnExactCountsValidWrong)

/-- 'laws.FnExactCountsPulse': WHATEVER THE INPUT: true; the input reads as it did. -/
def fnExactCountsPulseSpec : ChangeSpec := { name := "fnExactCountsPulse", fn := fun _ => fun
  | [d1, d2] => { results := [.lit (.bool true)], args := [d1, d2] }
  | _ => none }
def fnExactCountsPulseRow : OpenClaim := { program := "ytckdfcfgjdgklaa", sum := "44a8e174d0291d6aae234f69296c1780ca339fdcae8981c8be17d006be5c0146", func := "loop.example/blockboxes/laws.FnExactCountsPulse", spec := "fnExactCountsPulse", apart := false }
def FnExactCountsPulseSaid : Prop := fnExactCountsPulseRow.holds Try.pinned (OpenSpec.ofChange fnExactCountsPulseSpec)

/-- ITS FALSE NEIGHBOUR: 'it returns false'. Refute it at one input. -/
def fnExactCountsPulseWrong : ChangeSpec := { name := "fnExactCountsPulse", fn := fun _ => fun
  | [d1, d2] => { results := [.lit (.bool false)], args := [d1, d2] }
  | _ => none }
def FnExactCountsPulseWrongFalsely : Prop := fnExactCountsPulseRow.holds Try.pinned (OpenSpec.ofChange fnExactCountsPulseWrong)

/-- 'laws.FnExactCountsRun': WHATEVER THE INPUT: true; the input reads as it did. -/
def fnExactCountsRunSpec : ChangeSpec := { name := "fnExactCountsRun", fn := fun _ => fun
  | [d1, d2] => { results := [.lit (.bool true)], args := [d1, d2] }
  | _ => none }
def fnExactCountsRunRow : OpenClaim := { program := "ytckdfcfgjdgklaa", sum := "44a8e174d0291d6aae234f69296c1780ca339fdcae8981c8be17d006be5c0146", func := "loop.example/blockboxes/laws.FnExactCountsRun", spec := "fnExactCountsRun", apart := false }
def FnExactCountsRunSaid : Prop := fnExactCountsRunRow.holds Try.pinned (OpenSpec.ofChange fnExactCountsRunSpec)

/-- ITS FALSE NEIGHBOUR: 'it returns false'. Refute it at one input. -/
def fnExactCountsRunWrong : ChangeSpec := { name := "fnExactCountsRun", fn := fun _ => fun
  | [d1, d2] => { results := [.lit (.bool false)], args := [d1, d2] }
  | _ => none }
def FnExactCountsRunWrongFalsely : Prop := fnExactCountsRunRow.holds Try.pinned (OpenSpec.ofChange fnExactCountsRunWrong)

/-- 'laws.FnExactCountsClear': WHATEVER THE INPUT: true; the input reads as it did. -/
def fnExactCountsClearSpec : ChangeSpec := { name := "fnExactCountsClear", fn := fun _ => fun
  | [d] => { results := [.lit (.bool true)], args := [d] }
  | _ => none }
def fnExactCountsClearRow : OpenClaim := { program := "ytckdfcfgjdgklaa", sum := "44a8e174d0291d6aae234f69296c1780ca339fdcae8981c8be17d006be5c0146", func := "loop.example/blockboxes/laws.FnExactCountsClear", spec := "fnExactCountsClear", apart := false }
def FnExactCountsClearSaid : Prop := fnExactCountsClearRow.holds Try.pinned (OpenSpec.ofChange fnExactCountsClearSpec)

/-- ITS FALSE NEIGHBOUR: 'it returns false'. Refute it at one input. -/
def fnExactCountsClearWrong : ChangeSpec := { name := "fnExactCountsClear", fn := fun _ => fun
  | [d] => { results := [.lit (.bool false)], args := [d] }
  | _ => none }
def FnExactCountsClearWrongFalsely : Prop := fnExactCountsClearRow.holds Try.pinned (OpenSpec.ofChange fnExactCountsClearWrong)

/-- 'laws.FnExactCountsNet': WHATEVER THE INPUT: true; the input reads as it did. -/
def fnExactCountsNetSpec : ChangeSpec := { name := "fnExactCountsNet", fn := fun _ => fun
  | [d1, d2] => { results := [.lit (.bool true)], args := [d1, d2] }
  | _ => none }
def fnExactCountsNetRow : OpenClaim := { program := "ytckdfcfgjdgklaa", sum := "44a8e174d0291d6aae234f69296c1780ca339fdcae8981c8be17d006be5c0146", func := "loop.example/blockboxes/laws.FnExactCountsNet", spec := "fnExactCountsNet", apart := false }
def FnExactCountsNetSaid : Prop := fnExactCountsNetRow.holds Try.pinned (OpenSpec.ofChange fnExactCountsNetSpec)

/-- ITS FALSE NEIGHBOUR: 'it returns false'. Refute it at one input. -/
def fnExactCountsNetWrong : ChangeSpec := { name := "fnExactCountsNet", fn := fun _ => fun
  | [d1, d2] => { results := [.lit (.bool false)], args := [d1, d2] }
  | _ => none }
def FnExactCountsNetWrongFalsely : Prop := fnExactCountsNetRow.holds Try.pinned (OpenSpec.ofChange fnExactCountsNetWrong)

/-- 'laws.FnExactCountsTrain': WHATEVER THE INPUT: true; the input reads as it did. -/
def fnExactCountsTrainSpec : ChangeSpec := { name := "fnExactCountsTrain", fn := fun _ => fun
  | [d1, d2] => { results := [.lit (.bool true)], args := [d1, d2] }
  | _ => none }
def fnExactCountsTrainRow : OpenClaim := { program := "ytckdfcfgjdgklaa", sum := "44a8e174d0291d6aae234f69296c1780ca339fdcae8981c8be17d006be5c0146", func := "loop.example/blockboxes/laws.FnExactCountsTrain", spec := "fnExactCountsTrain", apart := false }
def FnExactCountsTrainSaid : Prop := fnExactCountsTrainRow.holds Try.pinned (OpenSpec.ofChange fnExactCountsTrainSpec)

/-- ITS FALSE NEIGHBOUR: 'it returns false'. Refute it at one input. -/
def fnExactCountsTrainWrong : ChangeSpec := { name := "fnExactCountsTrain", fn := fun _ => fun
  | [d1, d2] => { results := [.lit (.bool false)], args := [d1, d2] }
  | _ => none }
def FnExactCountsTrainWrongFalsely : Prop := fnExactCountsTrainRow.holds Try.pinned (OpenSpec.ofChange fnExactCountsTrainWrong)

/- THE SECOND FORM. 'bulk': how many values and letters a reading holds, each counted each time it is reached (what is shared counts as often as it is met; a slice's spare places count too). A statement '..UptoSaid' is the law's where the arguments, and the package variables that the reading takes, are together of bulk at most 1048576: NARROWER than '..Said'. Prove '..Said' where nothing that the law and all that it calls make is longer than what came in: it says more and counts as full. Else prove '..UptoSaid'. A law counts once. -/
mutual
def uptoBulk {H : Type} : DataW H → Nat
  | .lit (.string bytes) => bytes.length + 1
  | .lit _ => 1
  | .nil => 1
  | .ptr d => uptoBulk d + 1
  | .slice elems spare => uptoBulkAll elems + uptoBulkAll spare + 1
  | .agg parts => uptoBulkAll parts + 1
  | .iface _ d => uptoBulk d + 1
  | .map entries => uptoBulkEntries entries + 1
  | .held _ => 1
def uptoBulkAll {H : Type} : List (DataW H) → Nat
  | [] => 0
  | d :: r => uptoBulk d + uptoBulkAll r
def uptoBulkEntries {H : Type} : List (Lit × DataW H) → Nat
  | [] => 0
  | x :: r => uptoBulkEntry x + uptoBulkEntries r
def uptoBulkEntry {H : Type} : Lit × DataW H → Nat
  | (.string bytes, d) => bytes.length + uptoBulk d + 1
  | (_, d) => uptoBulk d + 1
 end
def uptoSmall : (H : Type) → List (DataW H) → Bool := fun _ ds => decide (uptoBulkAll ds ≤ 1048576)
def OpenSpec.upto (s : _root_.Go.ChangeSpec) : _root_.Go.OpenSpec := { _root_.Go.OpenSpec.ofChange s with cond := some uptoSmall }

/-- 'laws.FnExactTrackRun', WHERE WHAT IT READS IS OF BULK AT MOST 1048576: true; the input reads as it did. -/
def fnExactTrackRunUptoRow : OpenClaim := { program := "ytckdfcfgjdgklaa", sum := "44a8e174d0291d6aae234f69296c1780ca339fdcae8981c8be17d006be5c0146", func := "loop.example/blockboxes/laws.FnExactTrackRun", spec := "fnExactTrackRun", inPlace := ["internal/abi.NoEscape"], apart := false, narrowed := true }
def FnExactTrackRunUptoSaid : Prop := fnExactTrackRunUptoRow.holds Try.pinned (OpenSpec.upto fnExactTrackRunSpec)

/-- 'laws.FnExactCountsValid', WHERE WHAT IT READS IS OF BULK AT MOST 1048576: true; the input reads as it did. -/
def fnExactCountsValidUptoRow : OpenClaim := { program := "ytckdfcfgjdgklaa", sum := "44a8e174d0291d6aae234f69296c1780ca339fdcae8981c8be17d006be5c0146", func := "loop.example/blockboxes/laws.FnExactCountsValid", spec := "fnExactCountsValid", apart := false, narrowed := true }
def FnExactCountsValidUptoSaid : Prop := fnExactCountsValidUptoRow.holds Try.pinned (OpenSpec.upto fnExactCountsValidSpec)

/-- 'laws.FnExactCountsPulse', WHERE WHAT IT READS IS OF BULK AT MOST 1048576: true; the input reads as it did. -/
def fnExactCountsPulseUptoRow : OpenClaim := { program := "ytckdfcfgjdgklaa", sum := "44a8e174d0291d6aae234f69296c1780ca339fdcae8981c8be17d006be5c0146", func := "loop.example/blockboxes/laws.FnExactCountsPulse", spec := "fnExactCountsPulse", apart := false, narrowed := true }
def FnExactCountsPulseUptoSaid : Prop := fnExactCountsPulseUptoRow.holds Try.pinned (OpenSpec.upto fnExactCountsPulseSpec)

/-- 'laws.FnExactCountsRun', WHERE WHAT IT READS IS OF BULK AT MOST 1048576: true; the input reads as it did. -/
def fnExactCountsRunUptoRow : OpenClaim := { program := "ytckdfcfgjdgklaa", sum := "44a8e174d0291d6aae234f69296c1780ca339fdcae8981c8be17d006be5c0146", func := "loop.example/blockboxes/laws.FnExactCountsRun", spec := "fnExactCountsRun", apart := false, narrowed := true }
def FnExactCountsRunUptoSaid : Prop := fnExactCountsRunUptoRow.holds Try.pinned (OpenSpec.upto fnExactCountsRunSpec)

/-- 'laws.FnExactCountsClear', WHERE WHAT IT READS IS OF BULK AT MOST 1048576: true; the input reads as it did. -/
def fnExactCountsClearUptoRow : OpenClaim := { program := "ytckdfcfgjdgklaa", sum := "44a8e174d0291d6aae234f69296c1780ca339fdcae8981c8be17d006be5c0146", func := "loop.example/blockboxes/laws.FnExactCountsClear", spec := "fnExactCountsClear", apart := false, narrowed := true }
def FnExactCountsClearUptoSaid : Prop := fnExactCountsClearUptoRow.holds Try.pinned (OpenSpec.upto fnExactCountsClearSpec)

/-- 'laws.FnExactCountsNet', WHERE WHAT IT READS IS OF BULK AT MOST 1048576: true; the input reads as it did. -/
def fnExactCountsNetUptoRow : OpenClaim := { program := "ytckdfcfgjdgklaa", sum := "44a8e174d0291d6aae234f69296c1780ca339fdcae8981c8be17d006be5c0146", func := "loop.example/blockboxes/laws.FnExactCountsNet", spec := "fnExactCountsNet", apart := false, narrowed := true }
def FnExactCountsNetUptoSaid : Prop := fnExactCountsNetUptoRow.holds Try.pinned (OpenSpec.upto fnExactCountsNetSpec)

/-- 'laws.FnExactCountsTrain', WHERE WHAT IT READS IS OF BULK AT MOST 1048576: true; the input reads as it did. -/
def fnExactCountsTrainUptoRow : OpenClaim := { program := "ytckdfcfgjdgklaa", sum := "44a8e174d0291d6aae234f69296c1780ca339fdcae8981c8be17d006be5c0146", func := "loop.example/blockboxes/laws.FnExactCountsTrain", spec := "fnExactCountsTrain", apart := false, narrowed := true }
def FnExactCountsTrainUptoSaid : Prop := fnExactCountsTrainUptoRow.holds Try.pinned (OpenSpec.upto fnExactCountsTrainSpec)

end Rows
end Go.Proofs.Ytckdfcfgjdgklaa
