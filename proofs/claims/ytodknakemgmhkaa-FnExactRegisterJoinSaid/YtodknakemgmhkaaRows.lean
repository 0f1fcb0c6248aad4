/-
  No cell of these rows narrows 'for every input' (looked for: loops, veiled, ifaces, maps, wideKeys, modest, calm, conditions, laid).
  DERIVED. THE GIVEN ROWS OF THIS SEAT. 13 by the template 'for every input the law returns true; each argument reads behind the call as it read before'; 0 by the template 'total and deterministic' (their statements: YtodknakemgmhkaaTotals.lean).
  GIVEN WITH THE SEED: the statements are not yours to turn. If you find one false, say at which input.
  Laid BY PROGRAM, IN A SANDBOX (cutbox-rows.mjs): the forced cells as the released guide's own fill.sh prints them over the translation ddf333470e23512d… (all of the seat's roots in one cut). By AI agents, Wed Nov 11 2026. No macro, syntax, notation, axiom, sorry.
-/
import Derived.Test.YtodknakemgmhkaaChecked
import GoSem.Claim
import GoSem.ClaimJoined
import GoSem.ClaimMapViews
import Derived.JoinedTies
import Derived.KernelRfl
namespace Go.Proofs.Ytodknakemgmhkaa
/- THE CELL 'sum', in the pinned program and in every row, IS THE sha256 OF THE DUMP (.gsa) THAT YtodknakemgmhkaaProg.lean LOADS. Nothing in Lean hashes anything: it is a label: what it is worth is what the hold of that sum in a sandbox is worth. -/
noncomputable def Try.pinned : Pinned := { name := "ytodknakemgmhkaa", sum := "ddf333470e23512d2c6598157646dc565d00eaf48e5e729c8b56a19b395228b4", checked := Try.checked }
namespace Rows
def none {H : Type} : Left H := { results := [], args := [] }

/-- 'laws.FnExactRegisterValid': WHATEVER THE INPUT: true; the input reads as it did. -/
def fnExactRegisterValidSpec : ChangeSpec := { name := "fnExactRegisterValid", fn := fun _ => fun
  | [d] => { results := [.lit (.bool true)], args := [d] }
  | _ => none }
def fnExactRegisterValidRow : OpenClaim := { program := "ytodknakemgmhkaa", sum := "ddf333470e23512d2c6598157646dc565d00eaf48e5e729c8b56a19b395228b4", func := "loop.example/blockboxes/laws.FnExactRegisterValid", spec := "fnExactRegisterValid", inPlace := ["internal/bytealg.IndexByteString", "internal/bytealg.IndexString"], unfollowed := true, recurses := true, named := ["internal/bytealg.MaxLen"], apart := false }
def FnExactRegisterValidSaid : Prop := fnExactRegisterValidRow.holds Try.pinned (OpenSpec.ofChange fnExactRegisterValidSpec)

/-- ITS FALSE NEIGHBOUR: 'it returns false'. Refute it at one input. -/
def fnExactRegisterValidWrong : ChangeSpec := { name := "fnExactRegisterValid", fn := fun _ => fun
  | [d] => { results := [.lit (.bool false)], args := [d] }
  | _ => none }
def FnExactRegisterValidWrongFalsely : Prop := fnExactRegisterValidRow.holds Try.pinned (OpenSpec.ofChange fnExactRegisterValidWrong)

/-- 'laws.FnExactRegisterText': WHATEVER THE INPUT: true; the input reads as it did. -/
def fnExactRegisterTextSpec : ChangeSpec := { name := "fnExactRegisterText", fn := fun _ => fun
  | [d] => { results := [.lit (.bool true)], args := [d] }
  | _ => none }
def fnExactRegisterTextRow : OpenClaim := { program := "ytodknakemgmhkaa", sum := "ddf333470e23512d2c6598157646dc565d00eaf48e5e729c8b56a19b395228b4", func := "loop.example/blockboxes/laws.FnExactRegisterText", spec := "fnExactRegisterText", inPlace := ["internal/bytealg.IndexByteString", "internal/bytealg.IndexString", "internal/abi.NoEscape"], unfollowed := true, recurses := true, named := ["internal/bytealg.MaxLen"], apart := false }
def FnExactRegisterTextSaid : Prop := fnExactRegisterTextRow.holds Try.pinned (OpenSpec.ofChange fnExactRegisterTextSpec)

/-- ITS FALSE NEIGHBOUR: 'it returns false'. Refute it at one input. -/
def fnExactRegisterTextWrong : ChangeSpec := { name := "fnExactRegisterText", fn := fun _ => fun
  | [d] => { results := [.lit (.bool false)], args := [d] }
  | _ => none }
def FnExactRegisterTextWrongFalsely : Prop := fnExactRegisterTextRow.holds Try.pinned (OpenSpec.ofChange fnExactRegisterTextWrong)

/-- 'laws.FnExactRegisterSound': WHATEVER THE INPUT: true; the input reads as it did. -/
def fnExactRegisterSoundSpec : ChangeSpec := { name := "fnExactRegisterSound", fn := fun _ => fun
  | [d] => { results := [.lit (.bool true)], args := [d] }
  | _ => none }
def fnExactRegisterSoundRow : OpenClaim := { program := "ytodknakemgmhkaa", sum := "ddf333470e23512d2c6598157646dc565d00eaf48e5e729c8b56a19b395228b4", func := "loop.example/blockboxes/laws.FnExactRegisterSound", spec := "fnExactRegisterSound", inPlace := ["internal/bytealg.IndexByteString", "internal/bytealg.IndexString", "internal/abi.NoEscape"], unfollowed := true, recurses := true, named := ["internal/bytealg.MaxLen"], apart := false }
def FnExactRegisterSoundSaid : Prop := fnExactRegisterSoundRow.holds Try.pinned (OpenSpec.ofChange fnExactRegisterSoundSpec)

/-- ITS FALSE NEIGHBOUR: 'it returns false'. Refute it at one input. -/
def fnExactRegisterSoundWrong : ChangeSpec := { name := "fnExactRegisterSound", fn := fun _ => fun
  | [d] => { results := [.lit (.bool false)], args := [d] }
  | _ => none }
def FnExactRegisterSoundWrongFalsely : Prop := fnExactRegisterSoundRow.holds Try.pinned (OpenSpec.ofChange fnExactRegisterSoundWrong)

/-- 'laws.FnExactRegisterOffset': WHATEVER THE INPUT: true; the input reads as it did. -/
def fnExactRegisterOffsetSpec : ChangeSpec := { name := "fnExactRegisterOffset", fn := fun _ => fun
  | [d1, d2, d3] => { results := [.lit (.bool true)], args := [d1, d2, d3] }
  | _ => none }
def fnExactRegisterOffsetRow : OpenClaim := { program := "ytodknakemgmhkaa", sum := "ddf333470e23512d2c6598157646dc565d00eaf48e5e729c8b56a19b395228b4", func := "loop.example/blockboxes/laws.FnExactRegisterOffset", spec := "fnExactRegisterOffset", inPlace := ["internal/bytealg.IndexByteString", "internal/bytealg.IndexString", "internal/abi.NoEscape"], unfollowed := true, recurses := true, named := ["internal/bytealg.MaxLen"], apart := false }
def FnExactRegisterOffsetSaid : Prop := fnExactRegisterOffsetRow.holds Try.pinned (OpenSpec.ofChange fnExactRegisterOffsetSpec)

/-- ITS FALSE NEIGHBOUR: 'it returns false'. Refute it at one input. -/
def fnExactRegisterOffsetWrong : ChangeSpec := { name := "fnExactRegisterOffset", fn := fun _ => fun
  | [d1, d2, d3] => { results := [.lit (.bool false)], args := [d1, d2, d3] }
  | _ => none }
def FnExactRegisterOffsetWrongFalsely : Prop := fnExactRegisterOffsetRow.holds Try.pinned (OpenSpec.ofChange fnExactRegisterOffsetWrong)

/-- 'laws.FnExactRegisterSlack': WHATEVER THE INPUT: true; the input reads as it did. -/
def fnExactRegisterSlackSpec : ChangeSpec := { name := "fnExactRegisterSlack", fn := fun _ => fun
  | [d1, d2] => { results := [.lit (.bool true)], args := [d1, d2] }
  | _ => none }
def fnExactRegisterSlackRow : OpenClaim := { program := "ytodknakemgmhkaa", sum := "ddf333470e23512d2c6598157646dc565d00eaf48e5e729c8b56a19b395228b4", func := "loop.example/blockboxes/laws.FnExactRegisterSlack", spec := "fnExactRegisterSlack", inPlace := ["internal/bytealg.IndexByteString", "internal/bytealg.IndexString", "internal/abi.NoEscape"], unfollowed := true, recurses := true, named := ["internal/bytealg.MaxLen"], apart := false }
def FnExactRegisterSlackSaid : Prop := fnExactRegisterSlackRow.holds Try.pinned (OpenSpec.ofChange fnExactRegisterSlackSpec)

/-- ITS FALSE NEIGHBOUR: 'it returns false'. Refute it at one input. -/
def fnExactRegisterSlackWrong : ChangeSpec := { name := "fnExactRegisterSlack", fn := fun _ => fun
  | [d1, d2] => { results := [.lit (.bool false)], args := [d1, d2] }
  | _ => none }
def FnExactRegisterSlackWrongFalsely : Prop := fnExactRegisterSlackRow.holds Try.pinned (OpenSpec.ofChange fnExactRegisterSlackWrong)

/-- 'laws.FnExactRegisterBlock': WHATEVER THE INPUT: true; the input reads as it did. -/
def fnExactRegisterBlockSpec : ChangeSpec := { name := "fnExactRegisterBlock", fn := fun _ => fun
  | [d1, d2] => { results := [.lit (.bool true)], args := [d1, d2] }
  | _ => none }
def fnExactRegisterBlockRow : OpenClaim := { program := "ytodknakemgmhkaa", sum := "ddf333470e23512d2c6598157646dc565d00eaf48e5e729c8b56a19b395228b4", func := "loop.example/blockboxes/laws.FnExactRegisterBlock", spec := "fnExactRegisterBlock", inPlace := ["internal/bytealg.IndexByteString", "internal/bytealg.IndexString", "internal/abi.NoEscape"], unfollowed := true, recurses := true, named := ["internal/bytealg.MaxLen"], apart := false }
def FnExactRegisterBlockSaid : Prop := fnExactRegisterBlockRow.holds Try.pinned (OpenSpec.ofChange fnExactRegisterBlockSpec)

/-- ITS FALSE NEIGHBOUR: 'it returns false'. Refute it at one input. -/
def fnExactRegisterBlockWrong : ChangeSpec := { name := "fnExactRegisterBlock", fn := fun _ => fun
  | [d1, d2] => { results := [.lit (.bool false)], args := [d1, d2] }
  | _ => none }
def FnExactRegisterBlockWrongFalsely : Prop := fnExactRegisterBlockRow.holds Try.pinned (OpenSpec.ofChange fnExactRegisterBlockWrong)

/-- 'laws.FnExactRegisterUntil': WHATEVER THE INPUT: true; the input reads as it did. -/
def fnExactRegisterUntilSpec : ChangeSpec := { name := "fnExactRegisterUntil", fn := fun _ => fun
  | [d1, d2] => { results := [.lit (.bool true)], args := [d1, d2] }
  | _ => none }
def fnExactRegisterUntilRow : OpenClaim := { program := "ytodknakemgmhkaa", sum := "ddf333470e23512d2c6598157646dc565d00eaf48e5e729c8b56a19b395228b4", func := "loop.example/blockboxes/laws.FnExactRegisterUntil", spec := "fnExactRegisterUntil", inPlace := ["internal/bytealg.IndexByteString", "internal/bytealg.IndexString"], unfollowed := true, recurses := true, named := ["internal/bytealg.MaxLen"], apart := false }
def FnExactRegisterUntilSaid : Prop := fnExactRegisterUntilRow.holds Try.pinned (OpenSpec.ofChange fnExactRegisterUntilSpec)

/-- ITS FALSE NEIGHBOUR: 'it returns false'. Refute it at one input. -/
def fnExactRegisterUntilWrong : ChangeSpec := { name := "fnExactRegisterUntil", fn := fun _ => fun
  | [d1, d2] => { results := [.lit (.bool false)], args := [d1, d2] }
  | _ => none }
def FnExactRegisterUntilWrongFalsely : Prop := fnExactRegisterUntilRow.holds Try.pinned (OpenSpec.ofChange fnExactRegisterUntilWrong)

/-- 'laws.FnExactRegisterTrains': WHATEVER THE INPUT: true; the input reads as it did. -/
def fnExactRegisterTrainsSpec : ChangeSpec := { name := "fnExactRegisterTrains", fn := fun _ => fun
  | [d] => { results := [.lit (.bool true)], args := [d] }
  | _ => none }
def fnExactRegisterTrainsRow : OpenClaim := { program := "ytodknakemgmhkaa", sum := "ddf333470e23512d2c6598157646dc565d00eaf48e5e729c8b56a19b395228b4", func := "loop.example/blockboxes/laws.FnExactRegisterTrains", spec := "fnExactRegisterTrains", inPlace := ["internal/bytealg.IndexByteString", "internal/bytealg.IndexString", "internal/abi.NoEscape"], unfollowed := true, recurses := true, named := ["internal/bytealg.MaxLen"], apart := false }
def FnExactRegisterTrainsSaid : Prop := fnExactRegisterTrainsRow.holds Try.pinned (OpenSpec.ofChange fnExactRegisterTrainsSpec)

/-- ITS FALSE NEIGHBOUR: 'it returns false'. Refute it at one input. -/
def fnExactRegisterTrainsWrong : ChangeSpec := { name := "fnExactRegisterTrains", fn := fun _ => fun
  | [d] => { results := [.lit (.bool false)], args := [d] }
  | _ => none }
def FnExactRegisterTrainsWrongFalsely : Prop := fnExactRegisterTrainsRow.holds Try.pinned (OpenSpec.ofChange fnExactRegisterTrainsWrong)

/-- 'laws.FnExactRegisterMissing': WHATEVER THE INPUT: true; the input reads as it did. -/
def fnExactRegisterMissingSpec : ChangeSpec := { name := "fnExactRegisterMissing", fn := fun _ => fun
  | [d1, d2, d3] => { results := [.lit (.bool true)], args := [d1, d2, d3] }
  | _ => none }
def fnExactRegisterMissingRow : OpenClaim := { program := "ytodknakemgmhkaa", sum := "ddf333470e23512d2c6598157646dc565d00eaf48e5e729c8b56a19b395228b4", func := "loop.example/blockboxes/laws.FnExactRegisterMissing", spec := "fnExactRegisterMissing", inPlace := ["internal/bytealg.IndexByteString", "internal/bytealg.IndexString", "internal/abi.NoEscape"], unfollowed := true, recurses := true, named := ["internal/bytealg.MaxLen"], apart := false }
def FnExactRegisterMissingSaid : Prop := fnExactRegisterMissingRow.holds Try.pinned (OpenSpec.ofChange fnExactRegisterMissingSpec)

/-- ITS FALSE NEIGHBOUR: 'it returns false'. Refute it at one input. -/
def fnExactRegisterMissingWrong : ChangeSpec := { name := "fnExactRegisterMissing", fn := fun _ => fun
  | [d1, d2, d3] => { results := [.lit (.bool false)], args := [d1, d2, d3] }
  | _ => none }
def FnExactRegisterMissingWrongFalsely : Prop := fnExactRegisterMissingRow.holds Try.pinned (OpenSpec.ofChange fnExactRegisterMissingWrong)

/-- 'laws.FnExactRegisterLate': WHATEVER THE INPUT: true; the input reads as it did. -/
def fnExactRegisterLateSpec : ChangeSpec := { name := "fnExactRegisterLate", fn := fun _ => fun
  | [d1, d2] => { results := [.lit (.bool true)], args := [d1, d2] }
  | _ => none }
def fnExactRegisterLateRow : OpenClaim := { program := "ytodknakemgmhkaa", sum := "ddf333470e23512d2c6598157646dc565d00eaf48e5e729c8b56a19b395228b4", func := "loop.example/blockboxes/laws.FnExactRegisterLate", spec := "fnExactRegisterLate", inPlace := ["internal/bytealg.IndexByteString", "internal/bytealg.IndexString"], unfollowed := true, recurses := true, named := ["internal/bytealg.MaxLen"], apart := false }
def FnExactRegisterLateSaid : Prop := fnExactRegisterLateRow.holds Try.pinned (OpenSpec.ofChange fnExactRegisterLateSpec)

/-- ITS FALSE NEIGHBOUR: 'it returns false'. Refute it at one input. -/
def fnExactRegisterLateWrong : ChangeSpec := { name := "fnExactRegisterLate", fn := fun _ => fun
  | [d1, d2] => { results := [.lit (.bool false)], args := [d1, d2] }
  | _ => none }
def FnExactRegisterLateWrongFalsely : Prop := fnExactRegisterLateRow.holds Try.pinned (OpenSpec.ofChange fnExactRegisterLateWrong)

/-- 'laws.FnExactRegisterJoin': WHATEVER THE INPUT: true; the input reads as it did. -/
def fnExactRegisterJoinSpec : ChangeSpec := { name := "fnExactRegisterJoin", fn := fun _ => fun
  | [d1, d2] => { results := [.lit (.bool true)], args := [d1, d2] }
  | _ => none }
def fnExactRegisterJoinRow : OpenClaim := { program := "ytodknakemgmhkaa", sum := "ddf333470e23512d2c6598157646dc565d00eaf48e5e729c8b56a19b395228b4", func := "loop.example/blockboxes/laws.FnExactRegisterJoin", spec := "fnExactRegisterJoin", inPlace := ["internal/bytealg.IndexByteString", "internal/bytealg.IndexString"], unfollowed := true, recurses := true, named := ["internal/bytealg.MaxLen"], apart := false }
def FnExactRegisterJoinSaid : Prop := fnExactRegisterJoinRow.holds Try.pinned (OpenSpec.ofChange fnExactRegisterJoinSpec)

/-- ITS FALSE NEIGHBOUR: 'it returns false'. Refute it at one input. -/
def fnExactRegisterJoinWrong : ChangeSpec := { name := "fnExactRegisterJoin", fn := fun _ => fun
  | [d1, d2] => { results := [.lit (.bool false)], args := [d1, d2] }
  | _ => none }
def FnExactRegisterJoinWrongFalsely : Prop := fnExactRegisterJoinRow.holds Try.pinned (OpenSpec.ofChange fnExactRegisterJoinWrong)

/-- 'laws.FnExactRegisterOf': WHATEVER THE INPUT: true; the input reads as it did. -/
def fnExactRegisterOfSpec : ChangeSpec := { name := "fnExactRegisterOf", fn := fun _ => fun
  | [d1, d2, d3] => { results := [.lit (.bool true)], args := [d1, d2, d3] }
  | _ => none }
def fnExactRegisterOfRow : OpenClaim := { program := "ytodknakemgmhkaa", sum := "ddf333470e23512d2c6598157646dc565d00eaf48e5e729c8b56a19b395228b4", func := "loop.example/blockboxes/laws.FnExactRegisterOf", spec := "fnExactRegisterOf", inPlace := ["internal/bytealg.IndexByteString", "internal/bytealg.IndexString"], unfollowed := true, recurses := true, named := ["internal/bytealg.MaxLen"], apart := false }
def FnExactRegisterOfSaid : Prop := fnExactRegisterOfRow.holds Try.pinned (OpenSpec.ofChange fnExactRegisterOfSpec)

/-- ITS FALSE NEIGHBOUR: 'it returns false'. Refute it at one input. -/
def fnExactRegisterOfWrong : ChangeSpec := { name := "fnExactRegisterOf", fn := fun _ => fun
  | [d1, d2, d3] => { results := [.lit (.bool false)], args := [d1, d2, d3] }
  | _ => none }
def FnExactRegisterOfWrongFalsely : Prop := fnExactRegisterOfRow.holds Try.pinned (OpenSpec.ofChange fnExactRegisterOfWrong)

/-- 'laws.FnExactRegisterFix': WHATEVER THE INPUT: true; the input reads as it did. -/
def fnExactRegisterFixSpec : ChangeSpec := { name := "fnExactRegisterFix", fn := fun _ => fun
  | [d] => { results := [.lit (.bool true)], args := [d] }
  | _ => none }
def fnExactRegisterFixRow : OpenClaim := { program := "ytodknakemgmhkaa", sum := "ddf333470e23512d2c6598157646dc565d00eaf48e5e729c8b56a19b395228b4", func := "loop.example/blockboxes/laws.FnExactRegisterFix", spec := "fnExactRegisterFix", inPlace := ["internal/bytealg.IndexByteString", "internal/bytealg.IndexString", "internal/abi.NoEscape"], unfollowed := true, recurses := true, named := ["internal/bytealg.MaxLen"], apart := false }
def FnExactRegisterFixSaid : Prop := fnExactRegisterFixRow.holds Try.pinned (OpenSpec.ofChange fnExactRegisterFixSpec)

/-- ITS FALSE NEIGHBOUR: 'it returns false'. Refute it at one input. -/
def fnExactRegisterFixWrong : ChangeSpec := { name := "fnExactRegisterFix", fn := fun _ => fun
  | [d] => { results := [.lit (.bool false)], args := [d] }
  | _ => none }
def FnExactRegisterFixWrongFalsely : Prop := fnExactRegisterFixRow.holds Try.pinned (OpenSpec.ofChange fnExactRegisterFixWrong)

/- THE SECOND FORM. 'bulk': how many values and letters a reading holds, each counted each time it is reached (what is shared counts as often as it is met; a slice's spare places count too). A statement '..UptoSaid' is the law's where the arguments, and the package variables that the reading takes, are together of bulk at most 1048576: NARROWER than '..Said'. Prove '..Said' where nothing that the law and all that it calls make is longer than what came in: it says more and counts as full. Else prove '..UptoSaid'. A law counts once. -/
mutual
def uptoBulk {H : Type} : DataW H → Nat
  | .lit (.string bytes) => bytes.length + 1
  | .lit _ => 1
  | .nil => 1
  | .ptr d => uptoBulk d + 1
  | .slice elems spare => uptoBulkAll elems + uptoBulkAll spare + 1
  | .agg parts => uptoBulkAll parts + 1
  | .iface _ d => uptoBulk d + 1
  | .map entries => uptoBulkEntries entries + 1
  | .held _ => 1
def uptoBulkAll {H : Type} : List (DataW H) → Nat
  | [] => 0
  | d :: r => uptoBulk d + uptoBulkAll r
def uptoBulkEntries {H : Type} : List (Lit × DataW H) → Nat
  | [] => 0
  | x :: r => uptoBulkEntry x + uptoBulkEntries r
def uptoBulkEntry {H : Type} : Lit × DataW H → Nat
  | (.string bytes, d) => bytes.length + uptoBulk d + 1
  | (_, d) => uptoBulk d + 1
 end
def uptoSmall : (H : Type) → List (DataW H) → Bool := fun _ ds => decide (uptoBulkAll ds ≤ 1048576)
def OpenSpec.upto (s : _root_.Go.ChangeSpec) : _root_.Go.OpenSpec := { _root_.Go.OpenSpec.ofChange s with cond := some uptoSmall }

/-- 'laws.FnExactRegisterValid', WHERE WHAT IT READS IS OF BULK AT MOST 1048576: true; the input reads as it did. -/
def fnExactRegisterValidUptoRow : OpenClaim := { program := "ytodknakemgmhkaa", sum := "ddf333470e23512d2c6598157646dc565d00eaf48e5e729c8b56a19b395228b4", func := "loop.example/blockboxes/laws.FnExactRegisterValid", spec := "fnExactRegisterValid", inPlace := ["internal/bytealg.IndexByteString", "internal/bytealg.IndexString"], unfollowed := true, recurses := true, named := ["internal/bytealg.MaxLen"], apart := false, narrowed := true }
def FnExactRegisterValidUptoSaid : Prop := fnExactRegisterValidUptoRow.holds Try.pinned (OpenSpec.upto fnExactRegisterValidSpec)

/-- 'laws.FnExactRegisterText', WHERE WHAT IT READS IS OF BULK AT MOST 1048576: true; the input reads as it did. -/
def fnExactRegisterTextUptoRow : OpenClaim := { program := "ytodknakemgmhkaa", sum := "ddf333470e23512d2c6598157646dc565d00eaf48e5e729c8b56a19b395228b4", func := "loop.example/blockboxes/laws.FnExactRegisterText", spec := "fnExactRegisterText", inPlace := ["internal/bytealg.IndexByteString", "internal/bytealg.IndexString", "internal/abi.NoEscape"], unfollowed := true, recurses := true, named := ["internal/bytealg.MaxLen"], apart := false, narrowed := true }
def FnExactRegisterTextUptoSaid : Prop := fnExactRegisterTextUptoRow.holds Try.pinned (OpenSpec.upto fnExactRegisterTextSpec)

/-- 'laws.FnExactRegisterSound', WHERE WHAT IT READS IS OF BULK AT MOST 1048576: true; the input reads as it did. -/
def fnExactRegisterSoundUptoRow : OpenClaim := { program := "ytodknakemgmhkaa", sum := "ddf333470e23512d2c6598157646dc565d00eaf48e5e729c8b56a19b395228b4", func := "loop.example/blockboxes/laws.FnExactRegisterSound", spec := "fnExactRegisterSound", inPlace := ["internal/bytealg.IndexByteString", "internal/bytealg.IndexString", "internal/abi.NoEscape"], unfollowed := true, recurses := true, named := ["internal/bytealg.MaxLen"], apart := false, narrowed := true }
def FnExactRegisterSoundUptoSaid : Prop := fnExactRegisterSoundUptoRow.holds Try.pinned (OpenSpec.upto fnExactRegisterSoundSpec)

/-- 'laws.FnExactRegisterOffset', WHERE WHAT IT READS IS OF BULK AT MOST 1048576: true; the input reads as it did. -/
def fnExactRegisterOffsetUptoRow : OpenClaim := { program := "ytodknakemgmhkaa", sum := "ddf333470e23512d2c6598157646dc565d00eaf48e5e729c8b56a19b395228b4", func := "loop.example/blockboxes/laws.FnExactRegisterOffset", spec := "fnExactRegisterOffset", inPlace := ["internal/bytealg.IndexByteString", "internal/bytealg.IndexString", "internal/abi.NoEscape"], unfollowed := true, recurses := true, named := ["internal/bytealg.MaxLen"], apart := false, narrowed := true }
def FnExactRegisterOffsetUptoSaid : Prop := fnExactRegisterOffsetUptoRow.holds Try.pinned (OpenSpec.upto fnExactRegisterOffsetSpec)

/-- 'laws.FnExactRegisterSlack', WHERE WHAT IT READS IS OF BULK AT MOST 1048576: true; the input reads as it did. -/
def fnExactRegisterSlackUptoRow : OpenClaim := { program := "ytodknakemgmhkaa", sum := "ddf333470e23512d2c6598157646dc565d00eaf48e5e729c8b56a19b395228b4", func := "loop.example/blockboxes/laws.FnExactRegisterSlack", spec := "fnExactRegisterSlack", inPlace := ["internal/bytealg.IndexByteString", "internal/bytealg.IndexString", "internal/abi.NoEscape"], unfollowed := true, recurses := true, named := ["internal/bytealg.MaxLen"], apart := false, narrowed := true }
def FnExactRegisterSlackUptoSaid : Prop := fnExactRegisterSlackUptoRow.holds Try.pinned (OpenSpec.upto fnExactRegisterSlackSpec)

/-- 'laws.FnExactRegisterBlock', WHERE WHAT IT READS IS OF BULK AT MOST 1048576: true; the input reads as it did. -/
def fnExactRegisterBlockUptoRow : OpenClaim := { program := "ytodknakemgmhkaa", sum := "ddf333470e23512d2c6598157646dc565d00eaf48e5e729c8b56a19b395228b4", func := "loop.example/blockboxes/laws.FnExactRegisterBlock", spec := "fnExactRegisterBlock", inPlace := ["internal/bytealg.IndexByteString", "internal/bytealg.IndexString", "internal/abi.NoEscape"], unfollowed := true, recurses := true, named := ["internal/bytealg.MaxLen"], apart := false, narrowed := true }
def FnExactRegisterBlockUptoSaid : Prop := fnExactRegisterBlockUptoRow.holds Try.pinned (OpenSpec.upto fnExactRegisterBlockSpec)

/-- 'laws.FnExactRegisterUntil', WHERE WHAT IT READS IS OF BULK AT MOST 1048576: true; the input reads as it did. -/
def fnExactRegisterUntilUptoRow : OpenClaim := { program := "ytodknakemgmhkaa", sum := "ddf333470e23512d2c6598157646dc565d00eaf48e5e729c8b56a19b395228b4", func := "loop.example/blockboxes/laws.FnExactRegisterUntil", spec := "fnExactRegisterUntil", inPlace := ["internal/bytealg.IndexByteString", "internal/bytealg.IndexString"], unfollowed := true, recurses := true, named := ["internal/bytealg.MaxLen"], apart := false, narrowed := true }
def FnExactRegisterUntilUptoSaid : Prop := fnExactRegisterUntilUptoRow.holds Try.pinned (OpenSpec.upto fnExactRegisterUntilSpec)

/-- 'laws.FnExactRegisterTrains', WHERE WHAT IT READS IS OF BULK AT MOST 1048576: true; the input reads as it did. -/
def fnExactRegisterTrainsUptoRow : OpenClaim := { program := "ytodknakemgmhkaa", sum := "ddf333470e23512d2c6598157646dc565d00eaf48e5e729c8b56a19b395228b4", func := "loop.example/blockboxes/laws.FnExactRegisterTrains", spec := "fnExactRegisterTrains", inPlace := ["internal/bytealg.IndexByteString", "internal/bytealg.IndexString", "internal/abi.NoEscape"], unfollowed := true, recurses := true, named := ["internal/bytealg.MaxLen"], apart := false, narrowed := true }
def FnExactRegisterTrainsUptoSaid : Prop := fnExactRegisterTrainsUptoRow.holds Try.pinned (OpenSpec.upto fnExactRegisterTrainsSpec)

/-- 'laws.FnExactRegisterMissing', WHERE WHAT IT READS IS OF BULK AT MOST 1048576: true; the input reads as it did. -/
def fnExactRegisterMissingUptoRow : OpenClaim := { program := "ytodknakemgmhkaa", sum := "ddf333470e23512d2c6598157646dc565d00eaf48e5e729c8b56a19b395228b4", func := "loop.example/blockboxes/laws.FnExactRegisterMissing", spec := "fnExactRegisterMissing", inPlace := ["internal/bytealg.IndexByteString", "internal/bytealg.IndexString", "internal/abi.NoEscape"], unfollowed := true, recurses := true, named := ["internal/bytealg.MaxLen"], apart := false, narrowed := true }
def FnExactRegisterMissingUptoSaid : Prop := fnExactRegisterMissingUptoRow.holds Try.pinned (OpenSpec.upto fnExactRegisterMissingSpec)

/-- 'laws.FnExactRegisterLate', WHERE WHAT IT READS IS OF BULK AT MOST 1048576: true; the input reads as it did. -/
def fnExactRegisterLateUptoRow : OpenClaim := { program := "ytodknakemgmhkaa", sum := "ddf333470e23512d2c6598157646dc565d00eaf48e5e729c8b56a19b395228b4", func := "loop.example/blockboxes/laws.FnExactRegisterLate", spec := "fnExactRegisterLate", inPlace := ["internal/bytealg.IndexByteString", "internal/bytealg.IndexString"], unfollowed := true, recurses := true, named := ["internal/bytealg.MaxLen"], apart := false, narrowed := true }
def FnExactRegisterLateUptoSaid : Prop := fnExactRegisterLateUptoRow.holds Try.pinned (OpenSpec.upto fnExactRegisterLateSpec)

/-- 'laws.FnExactRegisterJoin', WHERE WHAT IT READS IS OF BULK AT MOST 1048576: true; the input reads as it did. -/
def fnExactRegisterJoinUptoRow : OpenClaim := { program := "ytodknakemgmhkaa", sum := "ddf333470e23512d2c6598157646dc565d00eaf48e5e729c8b56a19b395228b4", func := "loop.example/blockboxes/laws.FnExactRegisterJoin", spec := "fnExactRegisterJoin", inPlace := ["internal/bytealg.IndexByteString", "internal/bytealg.IndexString"], unfollowed := true, recurses := true, named := ["internal/bytealg.MaxLen"], apart := false, narrowed := true }
def FnExactRegisterJoinUptoSaid : Prop := fnExactRegisterJoinUptoRow.holds Try.pinned (OpenSpec.upto fnExactRegisterJoinSpec)

/-- 'laws.FnExactRegisterOf', WHERE WHAT IT READS IS OF BULK AT MOST 1048576: true; the input reads as it did. -/
def fnExactRegisterOfUptoRow : OpenClaim := { program := "ytodknakemgmhkaa", sum := "ddf333470e23512d2c6598157646dc565d00eaf48e5e729c8b56a19b395228b4", func := "loop.example/blockboxes/laws.FnExactRegisterOf", spec := "fnExactRegisterOf", inPlace := ["internal/bytealg.IndexByteString", "internal/bytealg.IndexString"], unfollowed := true, recurses := true, named := ["internal/bytealg.MaxLen"], apart := false, narrowed := true }
def FnExactRegisterOfUptoSaid : Prop := fnExactRegisterOfUptoRow.holds Try.pinned (OpenSpec.upto fnExactRegisterOfSpec)

/-- 'laws.FnExactRegisterFix', WHERE WHAT IT READS IS OF BULK AT MOST 1048576: true; the input reads as it did. -/
def fnExactRegisterFixUptoRow : OpenClaim := { program := "ytodknakemgmhkaa", sum := "ddf333470e23512d2c6598157646dc565d00eaf48e5e729c8b56a19b395228b4", func := "loop.example/blockboxes/laws.FnExactRegisterFix", spec := "fnExactRegisterFix", inPlace := ["internal/bytealg.IndexByteString", "internal/bytealg.IndexString", "internal/abi.NoEscape"], unfollowed := true, recurses := true, named := ["internal/bytealg.MaxLen"], apart := false, narrowed := true }
def FnExactRegisterFixUptoSaid : Prop := fnExactRegisterFixUptoRow.holds Try.pinned (OpenSpec.upto fnExactRegisterFixSpec)

end Rows
end Go.Proofs.Ytodknakemgmhkaa
