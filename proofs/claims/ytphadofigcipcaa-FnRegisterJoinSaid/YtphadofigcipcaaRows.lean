/-
  No cell of these rows narrows 'for every input' (looked for: loops, veiled, ifaces, maps, wideKeys, modest, calm, conditions, laid).
  DERIVED. THE GIVEN ROWS OF THIS SEAT. 11 by the template 'for every input the law returns true; each argument reads behind the call as it read before'; 0 by the template 'total and deterministic' (their statements: YtphadofigcipcaaTotals.lean).
  GIVEN WITH THE SEED: the statements are not yours to turn. If you find one false, say at which input.
  Laid BY PROGRAM, IN A SANDBOX (cutbox-rows.mjs): the forced cells as the released guide's own fill.sh prints them over the translation 43031237f557b5af… (all of the seat's roots in one cut). By AI agents, Wed Nov 11 2026. No macro, syntax, notation, axiom, sorry.
-/
import Derived.Test.YtphadofigcipcaaChecked
import GoSem.Claim
import GoSem.ClaimJoined
import GoSem.ClaimMapViews
import Derived.JoinedTies
import Derived.KernelRfl
namespace Go.Proofs.Ytphadofigcipcaa
/- THE CELL 'sum', in the pinned program and in every row, IS THE sha256 OF THE DUMP (.gsa) THAT YtphadofigcipcaaProg.lean LOADS. Nothing in Lean hashes anything: it is a label: what it is worth is what the hold of that sum in a sandbox is worth. -/
noncomputable def Try.pinned : Pinned := { name := "ytphadofigcipcaa", sum := "43031237f557b5af1500873100a8616dbdc7b562beac73f2d2080d4f04f25f9c", checked := Try.checked }
namespace Rows
def none {H : Type} : Left H := { results := [], args := [] }

/-- 'laws.FnOffset': WHATEVER THE INPUT: true; the input reads as it did. -/
def fnOffsetSpec : ChangeSpec := { name := "fnOffset", fn := fun _ => fun
  | [d] => { results := [.lit (.bool true)], args := [d] }
  | _ => none }
def fnOffsetRow : OpenClaim := { program := "ytphadofigcipcaa", sum := "43031237f557b5af1500873100a8616dbdc7b562beac73f2d2080d4f04f25f9c", func := "loop.example/blockboxes/laws.FnOffset", spec := "fnOffset", inPlace := ["internal/bytealg.IndexByteString", "internal/bytealg.IndexString", "internal/abi.NoEscape"], unfollowed := true, recurses := true, named := ["internal/bytealg.MaxLen"], apart := false }
def FnOffsetSaid : Prop := fnOffsetRow.holds Try.pinned (OpenSpec.ofChange fnOffsetSpec)

/-- ITS FALSE NEIGHBOUR: 'it returns false'. Refute it at one input. -/
def fnOffsetWrong : ChangeSpec := { name := "fnOffset", fn := fun _ => fun
  | [d] => { results := [.lit (.bool false)], args := [d] }
  | _ => none }
def FnOffsetWrongFalsely : Prop := fnOffsetRow.holds Try.pinned (OpenSpec.ofChange fnOffsetWrong)

/-- 'laws.FnOffsetLate': WHATEVER THE INPUT: true; the input reads as it did. -/
def fnOffsetLateSpec : ChangeSpec := { name := "fnOffsetLate", fn := fun _ => fun
  | [d] => { results := [.lit (.bool true)], args := [d] }
  | _ => none }
def fnOffsetLateRow : OpenClaim := { program := "ytphadofigcipcaa", sum := "43031237f557b5af1500873100a8616dbdc7b562beac73f2d2080d4f04f25f9c", func := "loop.example/blockboxes/laws.FnOffsetLate", spec := "fnOffsetLate", inPlace := ["internal/bytealg.IndexByteString", "internal/bytealg.IndexString", "internal/abi.NoEscape"], unfollowed := true, recurses := true, named := ["internal/bytealg.MaxLen"], apart := false }
def FnOffsetLateSaid : Prop := fnOffsetLateRow.holds Try.pinned (OpenSpec.ofChange fnOffsetLateSpec)

/-- ITS FALSE NEIGHBOUR: 'it returns false'. Refute it at one input. -/
def fnOffsetLateWrong : ChangeSpec := { name := "fnOffsetLate", fn := fun _ => fun
  | [d] => { results := [.lit (.bool false)], args := [d] }
  | _ => none }
def FnOffsetLateWrongFalsely : Prop := fnOffsetLateRow.holds Try.pinned (OpenSpec.ofChange fnOffsetLateWrong)

/-- 'laws.FnSlack': WHATEVER THE INPUT: true; the input reads as it did. -/
def fnSlackSpec : ChangeSpec := { name := "fnSlack", fn := fun _ => fun
  | [d] => { results := [.lit (.bool true)], args := [d] }
  | _ => none }
def fnSlackRow : OpenClaim := { program := "ytphadofigcipcaa", sum := "43031237f557b5af1500873100a8616dbdc7b562beac73f2d2080d4f04f25f9c", func := "loop.example/blockboxes/laws.FnSlack", spec := "fnSlack", inPlace := ["internal/bytealg.IndexByteString", "internal/bytealg.IndexString", "internal/abi.NoEscape"], unfollowed := true, recurses := true, named := ["internal/bytealg.MaxLen"], apart := false }
def FnSlackSaid : Prop := fnSlackRow.holds Try.pinned (OpenSpec.ofChange fnSlackSpec)

/-- ITS FALSE NEIGHBOUR: 'it returns false'. Refute it at one input. -/
def fnSlackWrong : ChangeSpec := { name := "fnSlack", fn := fun _ => fun
  | [d] => { results := [.lit (.bool false)], args := [d] }
  | _ => none }
def FnSlackWrongFalsely : Prop := fnSlackRow.holds Try.pinned (OpenSpec.ofChange fnSlackWrong)

/-- 'laws.FnRegisterUntil': WHATEVER THE INPUT: true; the input reads as it did. -/
def fnRegisterUntilSpec : ChangeSpec := { name := "fnRegisterUntil", fn := fun _ => fun
  | [d] => { results := [.lit (.bool true)], args := [d] }
  | _ => none }
def fnRegisterUntilRow : OpenClaim := { program := "ytphadofigcipcaa", sum := "43031237f557b5af1500873100a8616dbdc7b562beac73f2d2080d4f04f25f9c", func := "loop.example/blockboxes/laws.FnRegisterUntil", spec := "fnRegisterUntil", inPlace := ["internal/bytealg.IndexByteString", "internal/bytealg.IndexString"], unfollowed := true, recurses := true, named := ["internal/bytealg.MaxLen"], apart := false }
def FnRegisterUntilSaid : Prop := fnRegisterUntilRow.holds Try.pinned (OpenSpec.ofChange fnRegisterUntilSpec)

/-- ITS FALSE NEIGHBOUR: 'it returns false'. Refute it at one input. -/
def fnRegisterUntilWrong : ChangeSpec := { name := "fnRegisterUntil", fn := fun _ => fun
  | [d] => { results := [.lit (.bool false)], args := [d] }
  | _ => none }
def FnRegisterUntilWrongFalsely : Prop := fnRegisterUntilRow.holds Try.pinned (OpenSpec.ofChange fnRegisterUntilWrong)

/-- 'laws.FnRegisterTrains': WHATEVER THE INPUT: true; the input reads as it did. -/
def fnRegisterTrainsSpec : ChangeSpec := { name := "fnRegisterTrains", fn := fun _ => fun
  | [d] => { results := [.lit (.bool true)], args := [d] }
  | _ => none }
def fnRegisterTrainsRow : OpenClaim := { program := "ytphadofigcipcaa", sum := "43031237f557b5af1500873100a8616dbdc7b562beac73f2d2080d4f04f25f9c", func := "loop.example/blockboxes/laws.FnRegisterTrains", spec := "fnRegisterTrains", inPlace := ["internal/bytealg.IndexByteString", "internal/bytealg.IndexString", "internal/abi.NoEscape"], unfollowed := true, recurses := true, named := ["internal/bytealg.MaxLen"], apart := false }
def FnRegisterTrainsSaid : Prop := fnRegisterTrainsRow.holds Try.pinned (OpenSpec.ofChange fnRegisterTrainsSpec)

/-- ITS FALSE NEIGHBOUR: 'it returns false'. Refute it at one input. -/
def fnRegisterTrainsWrong : ChangeSpec := { name := "fnRegisterTrains", fn := fun _ => fun
  | [d] => { results := [.lit (.bool false)], args := [d] }
  | _ => none }
def FnRegisterTrainsWrongFalsely : Prop := fnRegisterTrainsRow.holds Try.pinned (OpenSpec.ofChange fnRegisterTrainsWrong)

/-- 'laws.FnMissing': WHATEVER THE INPUT: true; the input reads as it did. -/
def fnMissingSpec : ChangeSpec := { name := "fnMissing", fn := fun _ => fun
  | [d] => { results := [.lit (.bool true)], args := [d] }
  | _ => none }
def fnMissingRow : OpenClaim := { program := "ytphadofigcipcaa", sum := "43031237f557b5af1500873100a8616dbdc7b562beac73f2d2080d4f04f25f9c", func := "loop.example/blockboxes/laws.FnMissing", spec := "fnMissing", inPlace := ["internal/bytealg.IndexByteString", "internal/bytealg.IndexString", "internal/abi.NoEscape"], unfollowed := true, recurses := true, named := ["internal/bytealg.MaxLen"], apart := false }
def FnMissingSaid : Prop := fnMissingRow.holds Try.pinned (OpenSpec.ofChange fnMissingSpec)

/-- ITS FALSE NEIGHBOUR: 'it returns false'. Refute it at one input. -/
def fnMissingWrong : ChangeSpec := { name := "fnMissing", fn := fun _ => fun
  | [d] => { results := [.lit (.bool false)], args := [d] }
  | _ => none }
def FnMissingWrongFalsely : Prop := fnMissingRow.holds Try.pinned (OpenSpec.ofChange fnMissingWrong)

/-- 'laws.FnLateBack': WHATEVER THE INPUT: true; the input reads as it did. -/
def fnLateBackSpec : ChangeSpec := { name := "fnLateBack", fn := fun _ => fun
  | [d] => { results := [.lit (.bool true)], args := [d] }
  | _ => none }
def fnLateBackRow : OpenClaim := { program := "ytphadofigcipcaa", sum := "43031237f557b5af1500873100a8616dbdc7b562beac73f2d2080d4f04f25f9c", func := "loop.example/blockboxes/laws.FnLateBack", spec := "fnLateBack", inPlace := ["internal/bytealg.IndexByteString", "internal/bytealg.IndexString", "internal/abi.NoEscape"], unfollowed := true, recurses := true, named := ["internal/bytealg.MaxLen"], apart := false }
def FnLateBackSaid : Prop := fnLateBackRow.holds Try.pinned (OpenSpec.ofChange fnLateBackSpec)

/-- ITS FALSE NEIGHBOUR: 'it returns false'. Refute it at one input. -/
def fnLateBackWrong : ChangeSpec := { name := "fnLateBack", fn := fun _ => fun
  | [d] => { results := [.lit (.bool false)], args := [d] }
  | _ => none }
def FnLateBackWrongFalsely : Prop := fnLateBackRow.holds Try.pinned (OpenSpec.ofChange fnLateBackWrong)

/-- 'laws.FnRegisterJoin': WHATEVER THE INPUT: true; the input reads as it did. -/
def fnRegisterJoinSpec : ChangeSpec := { name := "fnRegisterJoin", fn := fun _ => fun
  | [d] => { results := [.lit (.bool true)], args := [d] }
  | _ => none }
def fnRegisterJoinRow : OpenClaim := { program := "ytphadofigcipcaa", sum := "43031237f557b5af1500873100a8616dbdc7b562beac73f2d2080d4f04f25f9c", func := "loop.example/blockboxes/laws.FnRegisterJoin", spec := "fnRegisterJoin", inPlace := ["internal/bytealg.IndexByteString", "internal/bytealg.IndexString", "internal/abi.NoEscape"], unfollowed := true, recurses := true, named := ["internal/bytealg.MaxLen"], apart := false }
def FnRegisterJoinSaid : Prop := fnRegisterJoinRow.holds Try.pinned (OpenSpec.ofChange fnRegisterJoinSpec)

/-- ITS FALSE NEIGHBOUR: 'it returns false'. Refute it at one input. -/
def fnRegisterJoinWrong : ChangeSpec := { name := "fnRegisterJoin", fn := fun _ => fun
  | [d] => { results := [.lit (.bool false)], args := [d] }
  | _ => none }
def FnRegisterJoinWrongFalsely : Prop := fnRegisterJoinRow.holds Try.pinned (OpenSpec.ofChange fnRegisterJoinWrong)

/-- 'laws.FnRegisterOf': WHATEVER THE INPUT: true; the input reads as it did. -/
def fnRegisterOfSpec : ChangeSpec := { name := "fnRegisterOf", fn := fun _ => fun
  | [d] => { results := [.lit (.bool true)], args := [d] }
  | _ => none }
def fnRegisterOfRow : OpenClaim := { program := "ytphadofigcipcaa", sum := "43031237f557b5af1500873100a8616dbdc7b562beac73f2d2080d4f04f25f9c", func := "loop.example/blockboxes/laws.FnRegisterOf", spec := "fnRegisterOf", inPlace := ["internal/bytealg.IndexByteString", "internal/bytealg.IndexString", "internal/abi.NoEscape"], unfollowed := true, recurses := true, named := ["internal/bytealg.MaxLen"], apart := false }
def FnRegisterOfSaid : Prop := fnRegisterOfRow.holds Try.pinned (OpenSpec.ofChange fnRegisterOfSpec)

/-- ITS FALSE NEIGHBOUR: 'it returns false'. Refute it at one input. -/
def fnRegisterOfWrong : ChangeSpec := { name := "fnRegisterOf", fn := fun _ => fun
  | [d] => { results := [.lit (.bool false)], args := [d] }
  | _ => none }
def FnRegisterOfWrongFalsely : Prop := fnRegisterOfRow.holds Try.pinned (OpenSpec.ofChange fnRegisterOfWrong)

/-- 'laws.FnRegisterLine': WHATEVER THE INPUT: true; the input reads as it did. -/
def fnRegisterLineSpec : ChangeSpec := { name := "fnRegisterLine", fn := fun _ => fun
  | [d] => { results := [.lit (.bool true)], args := [d] }
  | _ => none }
def fnRegisterLineRow : OpenClaim := { program := "ytphadofigcipcaa", sum := "43031237f557b5af1500873100a8616dbdc7b562beac73f2d2080d4f04f25f9c", func := "loop.example/blockboxes/laws.FnRegisterLine", spec := "fnRegisterLine", inPlace := ["internal/bytealg.IndexByteString", "internal/bytealg.IndexString", "internal/abi.NoEscape"], unfollowed := true, recurses := true, named := ["internal/bytealg.MaxLen"], apart := false }
def FnRegisterLineSaid : Prop := fnRegisterLineRow.holds Try.pinned (OpenSpec.ofChange fnRegisterLineSpec)

/-- ITS FALSE NEIGHBOUR: 'it returns false'. Refute it at one input. -/
def fnRegisterLineWrong : ChangeSpec := { name := "fnRegisterLine", fn := fun _ => fun
  | [d] => { results := [.lit (.bool false)], args := [d] }
  | _ => none }
def FnRegisterLineWrongFalsely : Prop := fnRegisterLineRow.holds Try.pinned (OpenSpec.ofChange fnRegisterLineWrong)

/-- 'laws.FnRegisterFix': WHATEVER THE INPUT: true; the input reads as it did. -/
def fnRegisterFixSpec : ChangeSpec := { name := "fnRegisterFix", fn := fun _ => fun
  | [d] => { results := [.lit (.bool true)], args := [d] }
  | _ => none }
def fnRegisterFixRow : OpenClaim := { program := "ytphadofigcipcaa", sum := "43031237f557b5af1500873100a8616dbdc7b562beac73f2d2080d4f04f25f9c", func := "loop.example/blockboxes/laws.FnRegisterFix", spec := "fnRegisterFix", inPlace := ["internal/bytealg.IndexByteString", "internal/bytealg.IndexString", "internal/abi.NoEscape"], unfollowed := true, recurses := true, named := ["internal/bytealg.MaxLen"], apart := false }
def FnRegisterFixSaid : Prop := fnRegisterFixRow.holds Try.pinned (OpenSpec.ofChange fnRegisterFixSpec)

/-- ITS FALSE NEIGHBOUR: 'it returns false'. Refute it at one input. -/
def fnRegisterFixWrong : ChangeSpec := { name := "fnRegisterFix", fn := fun _ => fun
  | [d] => { results := [.lit (.bool false)], args := [d] }
  | _ => none }
def FnRegisterFixWrongFalsely : Prop := fnRegisterFixRow.holds Try.pinned (OpenSpec.ofChange fnRegisterFixWrong)

/- THE SECOND FORM. 'bulk': how many values and letters a reading holds, each counted each time it is reached (what is shared counts as often as it is met; a slice's spare places count too). A statement '..UptoSaid' is the law's where the arguments, and the package variables that the reading takes, are together of bulk at most 1048576: NARROWER than '..Said'. Prove '..Said' where nothing that the law and all that it calls make is longer than what came in: it says more and counts as full. Else prove '..UptoSaid'. A law counts once. -/
mutual
def uptoBulk {H : Type} : DataW H → Nat
  | .lit (.string bytes) => bytes.length + 1
  | .lit _ => 1
  | .nil => 1
  | .ptr d => uptoBulk d + 1
  | .slice elems spare => uptoBulkAll elems + uptoBulkAll spare + 1
  | .agg parts => uptoBulkAll parts + 1
  | .iface _ d => uptoBulk d + 1
  | .map entries => uptoBulkEntries entries + 1
  | .held _ => 1
def uptoBulkAll {H : Type} : List (DataW H) → Nat
  | [] => 0
  | d :: r => uptoBulk d + uptoBulkAll r
def uptoBulkEntries {H : Type} : List (Lit × DataW H) → Nat
  | [] => 0
  | x :: r => uptoBulkEntry x + uptoBulkEntries r
def uptoBulkEntry {H : Type} : Lit × DataW H → Nat
  | (.string bytes, d) => bytes.length + uptoBulk d + 1
  | (_, d) => uptoBulk d + 1
 end
def uptoSmall : (H : Type) → List (DataW H) → Bool := fun _ ds => decide (uptoBulkAll ds ≤ 1048576)
def OpenSpec.upto (s : _root_.Go.ChangeSpec) : _root_.Go.OpenSpec := { _root_.Go.OpenSpec.ofChange s with cond := some uptoSmall }

/-- 'laws.FnOffset', WHERE WHAT IT READS IS OF BULK AT MOST 1048576: true; the input reads as it did. -/
def fnOffsetUptoRow : OpenClaim := { program := "ytphadofigcipcaa", sum := "43031237f557b5af1500873100a8616dbdc7b562beac73f2d2080d4f04f25f9c", func := "loop.example/blockboxes/laws.FnOffset", spec := "fnOffset", inPlace := ["internal/bytealg.IndexByteString", "internal/bytealg.IndexString", "internal/abi.NoEscape"], unfollowed := true, recurses := true, named := ["internal/bytealg.MaxLen"], apart := false, narrowed := true }
def FnOffsetUptoSaid : Prop := fnOffsetUptoRow.holds Try.pinned (OpenSpec.upto fnOffsetSpec)

/-- 'laws.FnOffsetLate', WHERE WHAT IT READS IS OF BULK AT MOST 1048576: true; the input reads as it did. -/
def fnOffsetLateUptoRow : OpenClaim := { program := "ytphadofigcipcaa", sum := "43031237f557b5af1500873100a8616dbdc7b562beac73f2d2080d4f04f25f9c", func := "loop.example/blockboxes/laws.FnOffsetLate", spec := "fnOffsetLate", inPlace := ["internal/bytealg.IndexByteString", "internal/bytealg.IndexString", "internal/abi.NoEscape"], unfollowed := true, recurses := true, named := ["internal/bytealg.MaxLen"], apart := false, narrowed := true }
def FnOffsetLateUptoSaid : Prop := fnOffsetLateUptoRow.holds Try.pinned (OpenSpec.upto fnOffsetLateSpec)

/-- 'laws.FnSlack', WHERE WHAT IT READS IS OF BULK AT MOST 1048576: true; the input reads as it did. -/
def fnSlackUptoRow : OpenClaim := { program := "ytphadofigcipcaa", sum := "43031237f557b5af1500873100a8616dbdc7b562beac73f2d2080d4f04f25f9c", func := "loop.example/blockboxes/laws.FnSlack", spec := "fnSlack", inPlace := ["internal/bytealg.IndexByteString", "internal/bytealg.IndexString", "internal/abi.NoEscape"], unfollowed := true, recurses := true, named := ["internal/bytealg.MaxLen"], apart := false, narrowed := true }
def FnSlackUptoSaid : Prop := fnSlackUptoRow.holds Try.pinned (OpenSpec.upto fnSlackSpec)

/-- 'laws.FnRegisterUntil', WHERE WHAT IT READS IS OF BULK AT MOST 1048576: true; the input reads as it did. -/
def fnRegisterUntilUptoRow : OpenClaim := { program := "ytphadofigcipcaa", sum := "43031237f557b5af1500873100a8616dbdc7b562beac73f2d2080d4f04f25f9c", func := "loop.example/blockboxes/laws.FnRegisterUntil", spec := "fnRegisterUntil", inPlace := ["internal/bytealg.IndexByteString", "internal/bytealg.IndexString"], unfollowed := true, recurses := true, named := ["internal/bytealg.MaxLen"], apart := false, narrowed := true }
def FnRegisterUntilUptoSaid : Prop := fnRegisterUntilUptoRow.holds Try.pinned (OpenSpec.upto fnRegisterUntilSpec)

/-- 'laws.FnRegisterTrains', WHERE WHAT IT READS IS OF BULK AT MOST 1048576: true; the input reads as it did. -/
def fnRegisterTrainsUptoRow : OpenClaim := { program := "ytphadofigcipcaa", sum := "43031237f557b5af1500873100a8616dbdc7b562beac73f2d2080d4f04f25f9c", func := "loop.example/blockboxes/laws.FnRegisterTrains", spec := "fnRegisterTrains", inPlace := ["internal/bytealg.IndexByteString", "internal/bytealg.IndexString", "internal/abi.NoEscape"], unfollowed := true, recurses := true, named := ["internal/bytealg.MaxLen"], apart := false, narrowed := true }
def FnRegisterTrainsUptoSaid : Prop := fnRegisterTrainsUptoRow.holds Try.pinned (OpenSpec.upto fnRegisterTrainsSpec)

/-- 'laws.FnMissing', WHERE WHAT IT READS IS OF BULK AT MOST 1048576: true; the input reads as it did. -/
def fnMissingUptoRow : OpenClaim := { program := "ytphadofigcipcaa", sum := "43031237f557b5af1500873100a8616dbdc7b562beac73f2d2080d4f04f25f9c", func := "loop.example/blockboxes/laws.FnMissing", spec := "fnMissing", inPlace := ["internal/bytealg.IndexByteString", "internal/bytealg.IndexString", "internal/abi.NoEscape"], unfollowed := true, recurses := true, named := ["internal/bytealg.MaxLen"], apart := false, narrowed := true }
def FnMissingUptoSaid : Prop := fnMissingUptoRow.holds Try.pinned (OpenSpec.upto fnMissingSpec)

/-- 'laws.FnLateBack', WHERE WHAT IT READS IS OF BULK AT MOST 1048576: true; the input reads as it did. -/
def fnLateBackUptoRow : OpenClaim := { program := "ytphadofigcipcaa", sum := "43031237f557b5af1500873100a8616dbdc7b562beac73f2d2080d4f04f25f9c", func := "loop.example/blockboxes/laws.FnLateBack", spec := "fnLateBack", inPlace := ["internal/bytealg.IndexByteString", "internal/bytealg.IndexString", "internal/abi.NoEscape"], unfollowed := true, recurses := true, named := ["internal/bytealg.MaxLen"], apart := false, narrowed := true }
def FnLateBackUptoSaid : Prop := fnLateBackUptoRow.holds Try.pinned (OpenSpec.upto fnLateBackSpec)

/-- 'laws.FnRegisterJoin', WHERE WHAT IT READS IS OF BULK AT MOST 1048576: true; the input reads as it did. -/
def fnRegisterJoinUptoRow : OpenClaim := { program := "ytphadofigcipcaa", sum := "43031237f557b5af1500873100a8616dbdc7b562beac73f2d2080d4f04f25f9c", func := "loop.example/blockboxes/laws.FnRegisterJoin", spec := "fnRegisterJoin", inPlace := ["internal/bytealg.IndexByteString", "internal/bytealg.IndexString", "internal/abi.NoEscape"], unfollowed := true, recurses := true, named := ["internal/bytealg.MaxLen"], apart := false, narrowed := true }
def FnRegisterJoinUptoSaid : Prop := fnRegisterJoinUptoRow.holds Try.pinned (OpenSpec.upto fnRegisterJoinSpec)

/-- 'laws.FnRegisterOf', WHERE WHAT IT READS IS OF BULK AT MOST 1048576: true; the input reads as it did. -/
def fnRegisterOfUptoRow : OpenClaim := { program := "ytphadofigcipcaa", sum := "43031237f557b5af1500873100a8616dbdc7b562beac73f2d2080d4f04f25f9c", func := "loop.example/blockboxes/laws.FnRegisterOf", spec := "fnRegisterOf", inPlace := ["internal/bytealg.IndexByteString", "internal/bytealg.IndexString", "internal/abi.NoEscape"], unfollowed := true, recurses := true, named := ["internal/bytealg.MaxLen"], apart := false, narrowed := true }
def FnRegisterOfUptoSaid : Prop := fnRegisterOfUptoRow.holds Try.pinned (OpenSpec.upto fnRegisterOfSpec)

/-- 'laws.FnRegisterLine', WHERE WHAT IT READS IS OF BULK AT MOST 1048576: true; the input reads as it did. -/
def fnRegisterLineUptoRow : OpenClaim := { program := "ytphadofigcipcaa", sum := "43031237f557b5af1500873100a8616dbdc7b562beac73f2d2080d4f04f25f9c", func := "loop.example/blockboxes/laws.FnRegisterLine", spec := "fnRegisterLine", inPlace := ["internal/bytealg.IndexByteString", "internal/bytealg.IndexString", "internal/abi.NoEscape"], unfollowed := true, recurses := true, named := ["internal/bytealg.MaxLen"], apart := false, narrowed := true }
def FnRegisterLineUptoSaid : Prop := fnRegisterLineUptoRow.holds Try.pinned (OpenSpec.upto fnRegisterLineSpec)

/-- 'laws.FnRegisterFix', WHERE WHAT IT READS IS OF BULK AT MOST 1048576: true; the input reads as it did. -/
def fnRegisterFixUptoRow : OpenClaim := { program := "ytphadofigcipcaa", sum := "43031237f557b5af1500873100a8616dbdc7b562beac73f2d2080d4f04f25f9c", func := "loop.example/blockboxes/laws.FnRegisterFix", spec := "fnRegisterFix", inPlace := ["internal/bytealg.IndexByteString", "internal/bytealg.IndexString", "internal/abi.NoEscape"], unfollowed := true, recurses := true, named := ["internal/bytealg.MaxLen"], apart := false, narrowed := true }
def FnRegisterFixUptoSaid : Prop := fnRegisterFixUptoRow.holds Try.pinned (OpenSpec.upto fnRegisterFixSpec)

end Rows
end Go.Proofs.Ytphadofigcipcaa
