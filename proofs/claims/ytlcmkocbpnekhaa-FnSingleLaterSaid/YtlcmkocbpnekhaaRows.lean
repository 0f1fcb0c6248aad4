/-
  No cell of these rows narrows 'for every input' (looked for: loops, veiled, ifaces, maps, wideKeys, modest, calm, conditions, laid).
  DERIVED. THE GIVEN ROWS OF THIS SEAT. 7 by the template 'for every input the law returns true; each argument reads behind the call as it read before'; 0 by the template 'total and deterministic' (their statements: YtlcmkocbpnekhaaTotals.lean).
  GIVEN WITH THE SEED: the statements are not yours to turn. If you find one false, say at which input.
  Laid BY PROGRAM, IN A SANDBOX (cutbox-rows.mjs): the forced cells as the released guide's own fill.sh prints them over the translation 1bb4a8d856b2a1f8… (all of the seat's roots in one cut). By AI agents, Wed Nov 11 2026. No macro, syntax, notation, axiom, sorry.
-/
import Derived.Test.YtlcmkocbpnekhaaChecked
import GoSem.Claim
import GoSem.ClaimJoined
import GoSem.ClaimMapViews
import Derived.JoinedTies
import Derived.KernelRfl
namespace Go.Proofs.Ytlcmkocbpnekhaa
/- THE CELL 'sum', in the pinned program and in every row, IS THE sha256 OF THE DUMP (.gsa) THAT YtlcmkocbpnekhaaProg.lean LOADS. Nothing in Lean hashes anything: it is a label: what it is worth is what the hold of that sum in a sandbox is worth. -/
noncomputable def Try.pinned : Pinned := { name := "ytlcmkocbpnekhaa", sum := "1bb4a8d856b2a1f815ccbb4abc860e09754ea6af7dda55cd9eecf5a5a848c350", checked := Try.checked }
namespace Rows
def none {H : Type} : Left H := { results := [], args := [] }

/-- 'laws.FnStarts': WHATEVER THE INPUT: true; the input reads as it did. -/
def fnStartsSpec : ChangeSpec := { name := "fnStarts", fn := fun _ => fun
  | [d] => { results := [.lit (.bool true)], args := [d] }
  | _ => none }
def fnStartsRow : OpenClaim := { program := "ytlcmkocbpnekhaa", sum := "1bb4a8d856b2a1f815ccbb4abc860e09754ea6af7dda55cd9eecf5a5a848c350", func := "loop.example/blockboxes/laws.FnStarts", spec := "fnStarts", inPlace := ["internal/bytealg.CountString", "internal/bytealg.IndexByteString", "internal/bytealg.IndexString"], recurses := true, named := ["internal/bytealg.MaxLen"], apart := false }
def FnStartsSaid : Prop := fnStartsRow.holds Try.pinned (OpenSpec.ofChange fnStartsSpec)

/-- ITS FALSE NEIGHBOUR: 'it returns false'. Refute it at one input. -/
def fnStartsWrong : ChangeSpec := { name := "fnStarts", fn := fun _ => fun
  | [d] => { results := [.lit (.bool false)], args := [d] }
  | _ => none }
def FnStartsWrongFalsely : Prop := fnStartsRow.holds Try.pinned (OpenSpec.ofChange fnStartsWrong)

/-- 'laws.FnSingleNth': WHATEVER THE INPUT: true; the input reads as it did. -/
def fnSingleNthSpec : ChangeSpec := { name := "fnSingleNth", fn := fun _ => fun
  | [d] => { results := [.lit (.bool true)], args := [d] }
  | _ => none }
def fnSingleNthRow : OpenClaim := { program := "ytlcmkocbpnekhaa", sum := "1bb4a8d856b2a1f815ccbb4abc860e09754ea6af7dda55cd9eecf5a5a848c350", func := "loop.example/blockboxes/laws.FnSingleNth", spec := "fnSingleNth", inPlace := ["internal/bytealg.CountString", "internal/bytealg.IndexByteString", "internal/bytealg.IndexString"], unfollowed := true, recurses := true, named := ["internal/bytealg.MaxLen"], apart := false }
def FnSingleNthSaid : Prop := fnSingleNthRow.holds Try.pinned (OpenSpec.ofChange fnSingleNthSpec)

/-- ITS FALSE NEIGHBOUR: 'it returns false'. Refute it at one input. -/
def fnSingleNthWrong : ChangeSpec := { name := "fnSingleNth", fn := fun _ => fun
  | [d] => { results := [.lit (.bool false)], args := [d] }
  | _ => none }
def FnSingleNthWrongFalsely : Prop := fnSingleNthRow.holds Try.pinned (OpenSpec.ofChange fnSingleNthWrong)

/-- 'laws.FnSingleTurn': WHATEVER THE INPUT: true; the input reads as it did. -/
def fnSingleTurnSpec : ChangeSpec := { name := "fnSingleTurn", fn := fun _ => fun
  | [d] => { results := [.lit (.bool true)], args := [d] }
  | _ => none }
def fnSingleTurnRow : OpenClaim := { program := "ytlcmkocbpnekhaa", sum := "1bb4a8d856b2a1f815ccbb4abc860e09754ea6af7dda55cd9eecf5a5a848c350", func := "loop.example/blockboxes/laws.FnSingleTurn", spec := "fnSingleTurn", inPlace := ["internal/bytealg.CountString", "internal/bytealg.IndexByteString", "internal/bytealg.IndexString"], unfollowed := true, recurses := true, named := ["internal/bytealg.MaxLen"], apart := false }
def FnSingleTurnSaid : Prop := fnSingleTurnRow.holds Try.pinned (OpenSpec.ofChange fnSingleTurnSpec)

/-- ITS FALSE NEIGHBOUR: 'it returns false'. Refute it at one input. -/
def fnSingleTurnWrong : ChangeSpec := { name := "fnSingleTurn", fn := fun _ => fun
  | [d] => { results := [.lit (.bool false)], args := [d] }
  | _ => none }
def FnSingleTurnWrongFalsely : Prop := fnSingleTurnRow.holds Try.pinned (OpenSpec.ofChange fnSingleTurnWrong)

/-- 'laws.FnSingleLater': WHATEVER THE INPUT: true; the input reads as it did. -/
def fnSingleLaterSpec : ChangeSpec := { name := "fnSingleLater", fn := fun _ => fun
  | [d] => { results := [.lit (.bool true)], args := [d] }
  | _ => none }
def fnSingleLaterRow : OpenClaim := { program := "ytlcmkocbpnekhaa", sum := "1bb4a8d856b2a1f815ccbb4abc860e09754ea6af7dda55cd9eecf5a5a848c350", func := "loop.example/blockboxes/laws.FnSingleLater", spec := "fnSingleLater", inPlace := ["internal/bytealg.CountString", "internal/bytealg.IndexByteString", "internal/bytealg.IndexString"], unfollowed := true, recurses := true, named := ["internal/bytealg.MaxLen"], apart := false }
def FnSingleLaterSaid : Prop := fnSingleLaterRow.holds Try.pinned (OpenSpec.ofChange fnSingleLaterSpec)

/-- ITS FALSE NEIGHBOUR: 'it returns false'. Refute it at one input. -/
def fnSingleLaterWrong : ChangeSpec := { name := "fnSingleLater", fn := fun _ => fun
  | [d] => { results := [.lit (.bool false)], args := [d] }
  | _ => none }
def FnSingleLaterWrongFalsely : Prop := fnSingleLaterRow.holds Try.pinned (OpenSpec.ofChange fnSingleLaterWrong)

/-- 'laws.FnSingleFirst': WHATEVER THE INPUT: true; the input reads as it did. -/
def fnSingleFirstSpec : ChangeSpec := { name := "fnSingleFirst", fn := fun _ => fun
  | [d] => { results := [.lit (.bool true)], args := [d] }
  | _ => none }
def fnSingleFirstRow : OpenClaim := { program := "ytlcmkocbpnekhaa", sum := "1bb4a8d856b2a1f815ccbb4abc860e09754ea6af7dda55cd9eecf5a5a848c350", func := "loop.example/blockboxes/laws.FnSingleFirst", spec := "fnSingleFirst", inPlace := ["internal/abi.NoEscape", "internal/bytealg.CountString", "internal/bytealg.IndexByteString", "internal/bytealg.IndexString"], unfollowed := true, recurses := true, named := ["internal/bytealg.MaxLen"], apart := false }
def FnSingleFirstSaid : Prop := fnSingleFirstRow.holds Try.pinned (OpenSpec.ofChange fnSingleFirstSpec)

/-- ITS FALSE NEIGHBOUR: 'it returns false'. Refute it at one input. -/
def fnSingleFirstWrong : ChangeSpec := { name := "fnSingleFirst", fn := fun _ => fun
  | [d] => { results := [.lit (.bool false)], args := [d] }
  | _ => none }
def FnSingleFirstWrongFalsely : Prop := fnSingleFirstRow.holds Try.pinned (OpenSpec.ofChange fnSingleFirstWrong)

/-- 'laws.FnExactSingleTurn': WHATEVER THE INPUT: true; the input reads as it did. -/
def fnExactSingleTurnSpec : ChangeSpec := { name := "fnExactSingleTurn", fn := fun _ => fun
  | [d] => { results := [.lit (.bool true)], args := [d] }
  | _ => none }
def fnExactSingleTurnRow : OpenClaim := { program := "ytlcmkocbpnekhaa", sum := "1bb4a8d856b2a1f815ccbb4abc860e09754ea6af7dda55cd9eecf5a5a848c350", func := "loop.example/blockboxes/laws.FnExactSingleTurn", spec := "fnExactSingleTurn", apart := false }
def FnExactSingleTurnSaid : Prop := fnExactSingleTurnRow.holds Try.pinned (OpenSpec.ofChange fnExactSingleTurnSpec)

/-- ITS FALSE NEIGHBOUR: 'it returns false'. Refute it at one input. -/
def fnExactSingleTurnWrong : ChangeSpec := { name := "fnExactSingleTurn", fn := fun _ => fun
  | [d] => { results := [.lit (.bool false)], args := [d] }
  | _ => none }
def FnExactSingleTurnWrongFalsely : Prop := fnExactSingleTurnRow.holds Try.pinned (OpenSpec.ofChange fnExactSingleTurnWrong)

/-- 'laws.FnExactSingleLater': WHATEVER THE INPUT: true; the input reads as it did. -/
def fnExactSingleLaterSpec : ChangeSpec := { name := "fnExactSingleLater", fn := fun _ => fun
  | [d1, d2] => { results := [.lit (.bool true)], args := [d1, d2] }
  | _ => none }
def fnExactSingleLaterRow : OpenClaim := { program := "ytlcmkocbpnekhaa", sum := "1bb4a8d856b2a1f815ccbb4abc860e09754ea6af7dda55cd9eecf5a5a848c350", func := "loop.example/blockboxes/laws.FnExactSingleLater", spec := "fnExactSingleLater", apart := false }
def FnExactSingleLaterSaid : Prop := fnExactSingleLaterRow.holds Try.pinned (OpenSpec.ofChange fnExactSingleLaterSpec)

/-- ITS FALSE NEIGHBOUR: 'it returns false'. Refute it at one input. -/
def fnExactSingleLaterWrong : ChangeSpec := { name := "fnExactSingleLater", fn := fun _ => fun
  | [d1, d2] => { results := [.lit (.bool false)], args := [d1, d2] }
  | _ => none }
def FnExactSingleLaterWrongFalsely : Prop := fnExactSingleLaterRow.holds Try.pinned (OpenSpec.ofChange fnExactSingleLaterWrong)

/- THE SECOND FORM. 'bulk': how many values and letters a reading holds, each counted each time it is reached (what is shared counts as often as it is met; a slice's spare places count too). A statement '..UptoSaid' is the law's where the arguments, and the package variables that the reading takes, are together of bulk at most 1048576: NARROWER than '..Said'. Prove '..Said' where nothing that the law and all that it calls make is longer than what came in: it says more and counts as full. Else prove '..UptoSaid'. A law counts once. -/
mutual
def uptoBulk {H : Type} : DataW H → Nat
  | .lit (.string bytes) => bytes.length + 1
  | .lit _ => 1
  | .nil => 1
  | .ptr d => uptoBulk d + 1
  | .slice elems spare => uptoBulkAll elems + uptoBulkAll spare + 1
  | .agg parts => uptoBulkAll parts + 1
  | .iface _ d => uptoBulk d + 1
  | .map entries => uptoBulkEntries entries + 1
  | .held _ => 1
def uptoBulkAll {H : Type} : List (DataW H) → Nat
  | [] => 0
  | d :: r => uptoBulk d + uptoBulkAll r
def uptoBulkEntries {H : Type} : List (Lit × DataW H) → Nat
  | [] => 0
  | x :: r => uptoBulkEntry x + uptoBulkEntries r
def uptoBulkEntry {H : Type} : Lit × DataW H → Nat
  | (.string bytes, d) => bytes.length + uptoBulk d + 1
  | (_, d) => uptoBulk d + 1
 end
def uptoSmall : (H : Type) → List (DataW H) → Bool := fun _ ds => decide (uptoBulkAll ds ≤ 1048576)
def OpenSpec.upto (s : _root_.Go.ChangeSpec) : _root_.Go.OpenSpec := { _root_.Go.OpenSpec.ofChange s with cond := some uptoSmall }

/-- 'laws.FnStarts', WHERE WHAT IT READS IS OF BULK AT MOST 1048576: true; the input reads as it did. -/
def fnStartsUptoRow : OpenClaim := { program := "ytlcmkocbpnekhaa", sum := "1bb4a8d856b2a1f815ccbb4abc860e09754ea6af7dda55cd9eecf5a5a848c350", func := "loop.example/blockboxes/laws.FnStarts", spec := "fnStarts", inPlace := ["internal/bytealg.CountString", "internal/bytealg.IndexByteString", "internal/bytealg.IndexString"], recurses := true, named := ["internal/bytealg.MaxLen"], apart := false, narrowed := true }
def FnStartsUptoSaid : Prop := fnStartsUptoRow.holds Try.pinned (OpenSpec.upto fnStartsSpec)

/-- 'laws.FnSingleNth', WHERE WHAT IT READS IS OF BULK AT MOST 1048576: true; the input reads as it did. -/
def fnSingleNthUptoRow : OpenClaim := { program := "ytlcmkocbpnekhaa", sum := "1bb4a8d856b2a1f815ccbb4abc860e09754ea6af7dda55cd9eecf5a5a848c350", func := "loop.example/blockboxes/laws.FnSingleNth", spec := "fnSingleNth", inPlace := ["internal/bytealg.CountString", "internal/bytealg.IndexByteString", "internal/bytealg.IndexString"], unfollowed := true, recurses := true, named := ["internal/bytealg.MaxLen"], apart := false, narrowed := true }
def FnSingleNthUptoSaid : Prop := fnSingleNthUptoRow.holds Try.pinned (OpenSpec.upto fnSingleNthSpec)

/-- 'laws.FnSingleTurn', WHERE WHAT IT READS IS OF BULK AT MOST 1048576: true; the input reads as it did. -/
def fnSingleTurnUptoRow : OpenClaim := { program := "ytlcmkocbpnekhaa", sum := "1bb4a8d856b2a1f815ccbb4abc860e09754ea6af7dda55cd9eecf5a5a848c350", func := "loop.example/blockboxes/laws.FnSingleTurn", spec := "fnSingleTurn", inPlace := ["internal/bytealg.CountString", "internal/bytealg.IndexByteString", "internal/bytealg.IndexString"], unfollowed := true, recurses := true, named := ["internal/bytealg.MaxLen"], apart := false, narrowed := true }
def FnSingleTurnUptoSaid : Prop := fnSingleTurnUptoRow.holds Try.pinned (OpenSpec.upto fnSingleTurnSpec)

/-- 'laws.FnSingleLater', WHERE WHAT IT READS IS OF BULK AT MOST 1048576: true; the input reads as it did. -/
def fnSingleLaterUptoRow : OpenClaim := { program := "ytlcmkocbpnekhaa", sum := "1bb4a8d856b2a1f815ccbb4abc860e09754ea6af7dda55cd9eecf5a5a848c350", func := "loop.example/blockboxes/laws.FnSingleLater", spec := "fnSingleLater", inPlace := ["internal/bytealg.CountString", "internal/bytealg.IndexByteString", "internal/bytealg.IndexString"], unfollowed := true, recurses := true, named := ["internal/bytealg.MaxLen"], apart := false, narrowed := true }
def FnSingleLaterUptoSaid : Prop := fnSingleLaterUptoRow.holds Try.pinned (OpenSpec.upto fnSingleLaterSpec)

/-- 'laws.FnSingleFirst', WHERE WHAT IT READS IS OF BULK AT MOST 1048576: true; the input reads as it did. -/
def fnSingleFirstUptoRow : OpenClaim := { program := "ytlcmkocbpnekhaa", sum := "1bb4a8d856b2a1f815ccbb4abc860e09754ea6af7dda55cd9eecf5a5a848c350", func := "loop.example/blockboxes/laws.FnSingleFirst", spec := "fnSingleFirst", inPlace := ["internal/abi.NoEscape", "internal/bytealg.CountString", "internal/bytealg.IndexByteString", "internal/bytealg.IndexString"], unfollowed := true, recurses := true, named := ["internal/bytealg.MaxLen"], apart := false, narrowed := true }
def FnSingleFirstUptoSaid : Prop := fnSingleFirstUptoRow.holds Try.pinned (OpenSpec.upto fnSingleFirstSpec)

/-- 'laws.FnExactSingleTurn', WHERE WHAT IT READS IS OF BULK AT MOST 1048576: true; the input reads as it did. -/
def fnExactSingleTurnUptoRow : OpenClaim := { program := "ytlcmkocbpnekhaa", sum := "1bb4a8d856b2a1f815ccbb4abc860e09754ea6af7dda55cd9eecf5a5a848c350", func := "loop.example/blockboxes/laws.FnExactSingleTurn", spec := "fnExactSingleTurn", apart := false, narrowed := true }
def FnExactSingleTurnUptoSaid : Prop := fnExactSingleTurnUptoRow.holds Try.pinned (OpenSpec.upto fnExactSingleTurnSpec)

/-- 'laws.FnExactSingleLater', WHERE WHAT IT READS IS OF BULK AT MOST 1048576: true; the input reads as it did. -/
def fnExactSingleLaterUptoRow : OpenClaim := { program := "ytlcmkocbpnekhaa", sum := "1bb4a8d856b2a1f815ccbb4abc860e09754ea6af7dda55cd9eecf5a5a848c350", func := "loop.example/blockboxes/laws.FnExactSingleLater", spec := "fnExactSingleLater", apart := false, narrowed := true }
def FnExactSingleLaterUptoSaid : Prop := fnExactSingleLaterUptoRow.holds Try.pinned (OpenSpec.upto fnExactSingleLaterSpec)

end Rows
end Go.Proofs.Ytlcmkocbpnekhaa
