/-
  No cell of these rows narrows 'for every input' (looked for: loops, veiled, ifaces, maps, wideKeys, modest, calm, conditions, laid).
  DERIVED. THE GIVEN ROWS OF THIS SEAT. 10 by the template 'for every input the law returns true; each argument reads behind the call as it read before'; 0 by the template 'total and deterministic' (their statements: YtchnaceihmepkaaTotals.lean).
  GIVEN WITH THE SEED: the statements are not yours to turn. If you find one false, say at which input.
  Laid BY PROGRAM, IN A SANDBOX (cutbox-rows.mjs): the forced cells as the released guide's own fill.sh prints them over the translation 001c3ace56199ebb… (all of the seat's roots in one cut). By AI agents, Wed Nov 11 2026. No macro, syntax, notation, axiom, sorry.
-/
import Derived.Test.YtchnaceihmepkaaChecked
import GoSem.Claim
import GoSem.ClaimJoined
import GoSem.ClaimMapViews
import Derived.JoinedTies
import Derived.KernelRfl
namespace Go.Proofs.Ytchnaceihmepkaa
/- THE CELL 'sum', in the pinned program and in every row, IS THE sha256 OF THE DUMP (.gsa) THAT YtchnaceihmepkaaProg.lean LOADS. Nothing in Lean hashes anything: it is a label: what it is worth is what the hold of that sum in a sandbox is worth. -/
noncomputable def Try.pinned : Pinned := { name := "ytchnaceihmepkaa", sum := "001c3ace56199ebbd0bd66bdde61d2f0d8b32fc8bede9edb3ce91ccdac5f8a6a", checked := Try.checked }
namespace Rows
def none {H : Type} : Left H := { results := [], args := [] }

/-- 'laws.FnStarts': WHATEVER THE INPUT: true; the input reads as it did. -/
def fnStartsSpec : ChangeSpec := { name := "fnStarts", fn := fun _ => fun
  | [d] => { results := [.lit (.bool true)], args := [d] }
  | _ => none }
def fnStartsRow : OpenClaim := { program := "ytchnaceihmepkaa", sum := "001c3ace56199ebbd0bd66bdde61d2f0d8b32fc8bede9edb3ce91ccdac5f8a6a", func := "loop.example/blockboxes/laws.FnStarts", spec := "fnStarts", inPlace := ["internal/bytealg.CountString", "internal/bytealg.IndexByteString", "internal/bytealg.IndexString"], recurses := true, named := ["internal/bytealg.MaxLen"], apart := false }
def FnStartsSaid : Prop := fnStartsRow.holds Try.pinned (OpenSpec.ofChange fnStartsSpec)

/-- ITS FALSE NEIGHBOUR: 'it returns false'. Refute it at one input. -/
def fnStartsWrong : ChangeSpec := { name := "fnStarts", fn := fun _ => fun
  | [d] => { results := [.lit (.bool false)], args := [d] }
  | _ => none }
def FnStartsWrongFalsely : Prop := fnStartsRow.holds Try.pinned (OpenSpec.ofChange fnStartsWrong)

/-- 'laws.FnWait': WHATEVER THE INPUT: true; the input reads as it did. -/
def fnWaitSpec : ChangeSpec := { name := "fnWait", fn := fun _ => fun
  | [d] => { results := [.lit (.bool true)], args := [d] }
  | _ => none }
def fnWaitRow : OpenClaim := { program := "ytchnaceihmepkaa", sum := "001c3ace56199ebbd0bd66bdde61d2f0d8b32fc8bede9edb3ce91ccdac5f8a6a", func := "loop.example/blockboxes/laws.FnWait", spec := "fnWait", inPlace := ["internal/bytealg.CountString", "internal/bytealg.IndexByteString", "internal/bytealg.IndexString"], unfollowed := true, recurses := true, named := ["internal/bytealg.MaxLen"], apart := false }
def FnWaitSaid : Prop := fnWaitRow.holds Try.pinned (OpenSpec.ofChange fnWaitSpec)

/-- ITS FALSE NEIGHBOUR: 'it returns false'. Refute it at one input. -/
def fnWaitWrong : ChangeSpec := { name := "fnWait", fn := fun _ => fun
  | [d] => { results := [.lit (.bool false)], args := [d] }
  | _ => none }
def FnWaitWrongFalsely : Prop := fnWaitRow.holds Try.pinned (OpenSpec.ofChange fnWaitWrong)

/-- 'laws.FnSingleEnd': WHATEVER THE INPUT: true; the input reads as it did. -/
def fnSingleEndSpec : ChangeSpec := { name := "fnSingleEnd", fn := fun _ => fun
  | [d] => { results := [.lit (.bool true)], args := [d] }
  | _ => none }
def fnSingleEndRow : OpenClaim := { program := "ytchnaceihmepkaa", sum := "001c3ace56199ebbd0bd66bdde61d2f0d8b32fc8bede9edb3ce91ccdac5f8a6a", func := "loop.example/blockboxes/laws.FnSingleEnd", spec := "fnSingleEnd", inPlace := ["internal/bytealg.CountString", "internal/bytealg.IndexByteString", "internal/bytealg.IndexString"], recurses := true, named := ["internal/bytealg.MaxLen"], apart := false }
def FnSingleEndSaid : Prop := fnSingleEndRow.holds Try.pinned (OpenSpec.ofChange fnSingleEndSpec)

/-- ITS FALSE NEIGHBOUR: 'it returns false'. Refute it at one input. -/
def fnSingleEndWrong : ChangeSpec := { name := "fnSingleEnd", fn := fun _ => fun
  | [d] => { results := [.lit (.bool false)], args := [d] }
  | _ => none }
def FnSingleEndWrongFalsely : Prop := fnSingleEndRow.holds Try.pinned (OpenSpec.ofChange fnSingleEndWrong)

/-- 'laws.FnBest': WHATEVER THE INPUT: true; the input reads as it did. -/
def fnBestSpec : ChangeSpec := { name := "fnBest", fn := fun _ => fun
  | [d] => { results := [.lit (.bool true)], args := [d] }
  | _ => none }
def fnBestRow : OpenClaim := { program := "ytchnaceihmepkaa", sum := "001c3ace56199ebbd0bd66bdde61d2f0d8b32fc8bede9edb3ce91ccdac5f8a6a", func := "loop.example/blockboxes/laws.FnBest", spec := "fnBest", inPlace := ["internal/bytealg.CountString", "internal/bytealg.IndexByteString", "internal/bytealg.IndexString"], unfollowed := true, recurses := true, named := ["internal/bytealg.MaxLen"], apart := false }
def FnBestSaid : Prop := fnBestRow.holds Try.pinned (OpenSpec.ofChange fnBestSpec)

/-- ITS FALSE NEIGHBOUR: 'it returns false'. Refute it at one input. -/
def fnBestWrong : ChangeSpec := { name := "fnBest", fn := fun _ => fun
  | [d] => { results := [.lit (.bool false)], args := [d] }
  | _ => none }
def FnBestWrongFalsely : Prop := fnBestRow.holds Try.pinned (OpenSpec.ofChange fnBestWrong)

/-- 'laws.FnSoon': WHATEVER THE INPUT: true; the input reads as it did. -/
def fnSoonSpec : ChangeSpec := { name := "fnSoon", fn := fun _ => fun
  | [d] => { results := [.lit (.bool true)], args := [d] }
  | _ => none }
def fnSoonRow : OpenClaim := { program := "ytchnaceihmepkaa", sum := "001c3ace56199ebbd0bd66bdde61d2f0d8b32fc8bede9edb3ce91ccdac5f8a6a", func := "loop.example/blockboxes/laws.FnSoon", spec := "fnSoon", inPlace := ["internal/bytealg.CountString", "internal/bytealg.IndexByteString", "internal/bytealg.IndexString"], unfollowed := true, recurses := true, named := ["internal/bytealg.MaxLen"], apart := false }
def FnSoonSaid : Prop := fnSoonRow.holds Try.pinned (OpenSpec.ofChange fnSoonSpec)

/-- ITS FALSE NEIGHBOUR: 'it returns false'. Refute it at one input. -/
def fnSoonWrong : ChangeSpec := { name := "fnSoon", fn := fun _ => fun
  | [d] => { results := [.lit (.bool false)], args := [d] }
  | _ => none }
def FnSoonWrongFalsely : Prop := fnSoonRow.holds Try.pinned (OpenSpec.ofChange fnSoonWrong)

/-- 'laws.FnSingleMany': WHATEVER THE INPUT: true; the input reads as it did. -/
def fnSingleManySpec : ChangeSpec := { name := "fnSingleMany", fn := fun _ => fun
  | [d] => { results := [.lit (.bool true)], args := [d] }
  | _ => none }
def fnSingleManyRow : OpenClaim := { program := "ytchnaceihmepkaa", sum := "001c3ace56199ebbd0bd66bdde61d2f0d8b32fc8bede9edb3ce91ccdac5f8a6a", func := "loop.example/blockboxes/laws.FnSingleMany", spec := "fnSingleMany", unfollowed := true, recurses := true, apart := false }
def FnSingleManySaid : Prop := fnSingleManyRow.holds Try.pinned (OpenSpec.ofChange fnSingleManySpec)

/-- ITS FALSE NEIGHBOUR: 'it returns false'. Refute it at one input. -/
def fnSingleManyWrong : ChangeSpec := { name := "fnSingleMany", fn := fun _ => fun
  | [d] => { results := [.lit (.bool false)], args := [d] }
  | _ => none }
def FnSingleManyWrongFalsely : Prop := fnSingleManyRow.holds Try.pinned (OpenSpec.ofChange fnSingleManyWrong)

/-- 'laws.FnSingleNth': WHATEVER THE INPUT: true; the input reads as it did. -/
def fnSingleNthSpec : ChangeSpec := { name := "fnSingleNth", fn := fun _ => fun
  | [d] => { results := [.lit (.bool true)], args := [d] }
  | _ => none }
def fnSingleNthRow : OpenClaim := { program := "ytchnaceihmepkaa", sum := "001c3ace56199ebbd0bd66bdde61d2f0d8b32fc8bede9edb3ce91ccdac5f8a6a", func := "loop.example/blockboxes/laws.FnSingleNth", spec := "fnSingleNth", inPlace := ["internal/bytealg.CountString", "internal/bytealg.IndexByteString", "internal/bytealg.IndexString"], unfollowed := true, recurses := true, named := ["internal/bytealg.MaxLen"], apart := false }
def FnSingleNthSaid : Prop := fnSingleNthRow.holds Try.pinned (OpenSpec.ofChange fnSingleNthSpec)

/-- ITS FALSE NEIGHBOUR: 'it returns false'. Refute it at one input. -/
def fnSingleNthWrong : ChangeSpec := { name := "fnSingleNth", fn := fun _ => fun
  | [d] => { results := [.lit (.bool false)], args := [d] }
  | _ => none }
def FnSingleNthWrongFalsely : Prop := fnSingleNthRow.holds Try.pinned (OpenSpec.ofChange fnSingleNthWrong)

/-- 'laws.FnSingleTurn': WHATEVER THE INPUT: true; the input reads as it did. -/
def fnSingleTurnSpec : ChangeSpec := { name := "fnSingleTurn", fn := fun _ => fun
  | [d] => { results := [.lit (.bool true)], args := [d] }
  | _ => none }
def fnSingleTurnRow : OpenClaim := { program := "ytchnaceihmepkaa", sum := "001c3ace56199ebbd0bd66bdde61d2f0d8b32fc8bede9edb3ce91ccdac5f8a6a", func := "loop.example/blockboxes/laws.FnSingleTurn", spec := "fnSingleTurn", inPlace := ["internal/bytealg.CountString", "internal/bytealg.IndexByteString", "internal/bytealg.IndexString"], unfollowed := true, recurses := true, named := ["internal/bytealg.MaxLen"], apart := false }
def FnSingleTurnSaid : Prop := fnSingleTurnRow.holds Try.pinned (OpenSpec.ofChange fnSingleTurnSpec)

/-- ITS FALSE NEIGHBOUR: 'it returns false'. Refute it at one input. -/
def fnSingleTurnWrong : ChangeSpec := { name := "fnSingleTurn", fn := fun _ => fun
  | [d] => { results := [.lit (.bool false)], args := [d] }
  | _ => none }
def FnSingleTurnWrongFalsely : Prop := fnSingleTurnRow.holds Try.pinned (OpenSpec.ofChange fnSingleTurnWrong)

/-- 'laws.FnSingleLater': WHATEVER THE INPUT: true; the input reads as it did. -/
def fnSingleLaterSpec : ChangeSpec := { name := "fnSingleLater", fn := fun _ => fun
  | [d] => { results := [.lit (.bool true)], args := [d] }
  | _ => none }
def fnSingleLaterRow : OpenClaim := { program := "ytchnaceihmepkaa", sum := "001c3ace56199ebbd0bd66bdde61d2f0d8b32fc8bede9edb3ce91ccdac5f8a6a", func := "loop.example/blockboxes/laws.FnSingleLater", spec := "fnSingleLater", inPlace := ["internal/bytealg.CountString", "internal/bytealg.IndexByteString", "internal/bytealg.IndexString"], unfollowed := true, recurses := true, named := ["internal/bytealg.MaxLen"], apart := false }
def FnSingleLaterSaid : Prop := fnSingleLaterRow.holds Try.pinned (OpenSpec.ofChange fnSingleLaterSpec)

/-- ITS FALSE NEIGHBOUR: 'it returns false'. Refute it at one input. -/
def fnSingleLaterWrong : ChangeSpec := { name := "fnSingleLater", fn := fun _ => fun
  | [d] => { results := [.lit (.bool false)], args := [d] }
  | _ => none }
def FnSingleLaterWrongFalsely : Prop := fnSingleLaterRow.holds Try.pinned (OpenSpec.ofChange fnSingleLaterWrong)

/-- 'laws.FnSingleFirst': WHATEVER THE INPUT: true; the input reads as it did. -/
def fnSingleFirstSpec : ChangeSpec := { name := "fnSingleFirst", fn := fun _ => fun
  | [d] => { results := [.lit (.bool true)], args := [d] }
  | _ => none }
def fnSingleFirstRow : OpenClaim := { program := "ytchnaceihmepkaa", sum := "001c3ace56199ebbd0bd66bdde61d2f0d8b32fc8bede9edb3ce91ccdac5f8a6a", func := "loop.example/blockboxes/laws.FnSingleFirst", spec := "fnSingleFirst", inPlace := ["internal/abi.NoEscape", "internal/bytealg.CountString", "internal/bytealg.IndexByteString", "internal/bytealg.IndexString"], unfollowed := true, recurses := true, named := ["internal/bytealg.MaxLen"], apart := false }
def FnSingleFirstSaid : Prop := fnSingleFirstRow.holds Try.pinned (OpenSpec.ofChange fnSingleFirstSpec)

/-- ITS FALSE NEIGHBOUR: 'it returns false'. Refute it at one input. -/
def fnSingleFirstWrong : ChangeSpec := { name := "fnSingleFirst", fn := fun _ => fun
  | [d] => { results := [.lit (.bool false)], args := [d] }
  | _ => none }
def FnSingleFirstWrongFalsely : Prop := fnSingleFirstRow.holds Try.pinned (OpenSpec.ofChange fnSingleFirstWrong)

/- THE SECOND FORM. 'bulk': how many values and letters a reading holds, each counted each time it is reached (what is shared counts as often as it is met; a slice's spare places count too). A statement '..UptoSaid' is the law's where the arguments, and the package variables that the reading takes, are together of bulk at most 1048576: NARROWER than '..Said'. Prove '..Said' where nothing that the law and all that it calls make is longer than what came in: it says more and counts as full. Else prove '..UptoSaid'. A law counts once. -/
mutual
def uptoBulk {H : Type} : DataW H → Nat
  | .lit (.string bytes) => bytes.length + 1
  | .lit _ => 1
  | .nil => 1
  | .ptr d => uptoBulk d + 1
  | .slice elems spare => uptoBulkAll elems + uptoBulkAll spare + 1
  | .agg parts => uptoBulkAll parts + 1
  | .iface _ d => uptoBulk d + 1
  | .map entries => uptoBulkEntries entries + 1
  | .held _ => 1
def uptoBulkAll {H : Type} : List (DataW H) → Nat
  | [] => 0
  | d :: r => uptoBulk d + uptoBulkAll r
def uptoBulkEntries {H : Type} : List (Lit × DataW H) → Nat
  | [] => 0
  | x :: r => uptoBulkEntry x + uptoBulkEntries r
def uptoBulkEntry {H : Type} : Lit × DataW H → Nat
  | (.string bytes, d) => bytes.length + uptoBulk d + 1
  | (_, d) => uptoBulk d + 1
 end
def uptoSmall : (H : Type) → List (DataW H) → Bool := fun _ ds => decide (uptoBulkAll ds ≤ 1048576)
def OpenSpec.upto (s : _root_.Go.ChangeSpec) : _root_.Go.OpenSpec := { _root_.Go.OpenSpec.ofChange s with cond := some uptoSmall }

/-- 'laws.FnStarts', WHERE WHAT IT READS IS OF BULK AT MOST 1048576: true; the input reads as it did. -/
def fnStartsUptoRow : OpenClaim := { program := "ytchnaceihmepkaa", sum := "001c3ace56199ebbd0bd66bdde61d2f0d8b32fc8bede9edb3ce91ccdac5f8a6a", func := "loop.example/blockboxes/laws.FnStarts", spec := "fnStarts", inPlace := ["internal/bytealg.CountString", "internal/bytealg.IndexByteString", "internal/bytealg.IndexString"], recurses := true, named := ["internal/bytealg.MaxLen"], apart := false, narrowed := true }
def FnStartsUptoSaid : Prop := fnStartsUptoRow.holds Try.pinned (OpenSpec.upto fnStartsSpec)

/-- 'laws.FnWait', WHERE WHAT IT READS IS OF BULK AT MOST 1048576: true; the input reads as it did. -/
def fnWaitUptoRow : OpenClaim := { program := "ytchnaceihmepkaa", sum := "001c3ace56199ebbd0bd66bdde61d2f0d8b32fc8bede9edb3ce91ccdac5f8a6a", func := "loop.example/blockboxes/laws.FnWait", spec := "fnWait", inPlace := ["internal/bytealg.CountString", "internal/bytealg.IndexByteString", "internal/bytealg.IndexString"], unfollowed := true, recurses := true, named := ["internal/bytealg.MaxLen"], apart := false, narrowed := true }
def FnWaitUptoSaid : Prop := fnWaitUptoRow.holds Try.pinned (OpenSpec.upto fnWaitSpec)

/-- 'laws.FnSingleEnd', WHERE WHAT IT READS IS OF BULK AT MOST 1048576: true; the input reads as it did. -/
def fnSingleEndUptoRow : OpenClaim := { program := "ytchnaceihmepkaa", sum := "001c3ace56199ebbd0bd66bdde61d2f0d8b32fc8bede9edb3ce91ccdac5f8a6a", func := "loop.example/blockboxes/laws.FnSingleEnd", spec := "fnSingleEnd", inPlace := ["internal/bytealg.CountString", "internal/bytealg.IndexByteString", "internal/bytealg.IndexString"], recurses := true, named := ["internal/bytealg.MaxLen"], apart := false, narrowed := true }
def FnSingleEndUptoSaid : Prop := fnSingleEndUptoRow.holds Try.pinned (OpenSpec.upto fnSingleEndSpec)

/-- 'laws.FnBest', WHERE WHAT IT READS IS OF BULK AT MOST 1048576: true; the input reads as it did. -/
def fnBestUptoRow : OpenClaim := { program := "ytchnaceihmepkaa", sum := "001c3ace56199ebbd0bd66bdde61d2f0d8b32fc8bede9edb3ce91ccdac5f8a6a", func := "loop.example/blockboxes/laws.FnBest", spec := "fnBest", inPlace := ["internal/bytealg.CountString", "internal/bytealg.IndexByteString", "internal/bytealg.IndexString"], unfollowed := true, recurses := true, named := ["internal/bytealg.MaxLen"], apart := false, narrowed := true }
def FnBestUptoSaid : Prop := fnBestUptoRow.holds Try.pinned (OpenSpec.upto fnBestSpec)

/-- 'laws.FnSoon', WHERE WHAT IT READS IS OF BULK AT MOST 1048576: true; the input reads as it did. -/
def fnSoonUptoRow : OpenClaim := { program := "ytchnaceihmepkaa", sum := "001c3ace56199ebbd0bd66bdde61d2f0d8b32fc8bede9edb3ce91ccdac5f8a6a", func := "loop.example/blockboxes/laws.FnSoon", spec := "fnSoon", inPlace := ["internal/bytealg.CountString", "internal/bytealg.IndexByteString", "internal/bytealg.IndexString"], unfollowed := true, recurses := true, named := ["internal/bytealg.MaxLen"], apart := false, narrowed := true }
def FnSoonUptoSaid : Prop := fnSoonUptoRow.holds Try.pinned (OpenSpec.upto fnSoonSpec)

/-- 'laws.FnSingleMany', WHERE WHAT IT READS IS OF BULK AT MOST 1048576: true; the input reads as it did. -/
def fnSingleManyUptoRow : OpenClaim := { program := "ytchnaceihmepkaa", sum := "001c3ace56199ebbd0bd66bdde61d2f0d8b32fc8bede9edb3ce91ccdac5f8a6a", func := "loop.example/blockboxes/laws.FnSingleMany", spec := "fnSingleMany", unfollowed := true, recurses := true, apart := false, narrowed := true }
def FnSingleManyUptoSaid : Prop := fnSingleManyUptoRow.holds Try.pinned (OpenSpec.upto fnSingleManySpec)

/-- 'laws.FnSingleNth', WHERE WHAT IT READS IS OF BULK AT MOST 1048576: true; the input reads as it did. -/
def fnSingleNthUptoRow : OpenClaim := { program := "ytchnaceihmepkaa", sum := "001c3ace56199ebbd0bd66bdde61d2f0d8b32fc8bede9edb3ce91ccdac5f8a6a", func := "loop.example/blockboxes/laws.FnSingleNth", spec := "fnSingleNth", inPlace := ["internal/bytealg.CountString", "internal/bytealg.IndexByteString", "internal/bytealg.IndexString"], unfollowed := true, recurses := true, named := ["internal/bytealg.MaxLen"], apart := false, narrowed := true }
def FnSingleNthUptoSaid : Prop := fnSingleNthUptoRow.holds Try.pinned (OpenSpec.upto fnSingleNthSpec)

/-- 'laws.FnSingleTurn', WHERE WHAT IT READS IS OF BULK AT MOST 1048576: true; the input reads as it did. -/
def fnSingleTurnUptoRow : OpenClaim := { program := "ytchnaceihmepkaa", sum := "001c3ace56199ebbd0bd66bdde61d2f0d8b32fc8bede9edb3ce91ccdac5f8a6a", func := "loop.example/blockboxes/laws.FnSingleTurn", spec := "fnSingleTurn", inPlace := ["internal/bytealg.CountString", "internal/bytealg.IndexByteString", "internal/bytealg.IndexString"], unfollowed := true, recurses := true, named := ["internal/bytealg.MaxLen"], apart := false, narrowed := true }
def FnSingleTurnUptoSaid : Prop := fnSingleTurnUptoRow.holds Try.pinned (OpenSpec.upto fnSingleTurnSpec)

/-- 'laws.FnSingleLater', WHERE WHAT IT READS IS OF BULK AT MOST 1048576: true; the input reads as it did. -/
def fnSingleLaterUptoRow : OpenClaim := { program := "ytchnaceihmepkaa", sum := "001c3ace56199ebbd0bd66bdde61d2f0d8b32fc8bede9edb3ce91ccdac5f8a6a", func := "loop.example/blockboxes/laws.FnSingleLater", spec := "fnSingleLater", inPlace := ["internal/bytealg.CountString", "internal/bytealg.IndexByteString", "internal/bytealg.IndexString"], unfollowed := true, recurses := true, named := ["internal/bytealg.MaxLen"], apart := false, narrowed := true }
def FnSingleLaterUptoSaid : Prop := fnSingleLaterUptoRow.holds Try.pinned (OpenSpec.upto fnSingleLaterSpec)

/-- 'laws.FnSingleFirst', WHERE WHAT IT READS IS OF BULK AT MOST 1048576: true; the input reads as it did. -/
def fnSingleFirstUptoRow : OpenClaim := { program := "ytchnaceihmepkaa", sum := "001c3ace56199ebbd0bd66bdde61d2f0d8b32fc8bede9edb3ce91ccdac5f8a6a", func := "loop.example/blockboxes/laws.FnSingleFirst", spec := "fnSingleFirst", inPlace := ["internal/abi.NoEscape", "internal/bytealg.CountString", "internal/bytealg.IndexByteString", "internal/bytealg.IndexString"], unfollowed := true, recurses := true, named := ["internal/bytealg.MaxLen"], apart := false, narrowed := true }
def FnSingleFirstUptoSaid : Prop := fnSingleFirstUptoRow.holds Try.pinned (OpenSpec.upto fnSingleFirstSpec)

end Rows
end Go.Proofs.Ytchnaceihmepkaa
