/-
  No cell of these rows narrows 'for every input' (looked for: loops, veiled, ifaces, maps, wideKeys, modest, calm, conditions, laid).
  DERIVED. THE GIVEN ROWS OF THIS SEAT. 11 by the template 'for every input the law returns true; each argument reads behind the call as it read before'; 0 by the template 'total and deterministic' (their statements: YtmpelpmlmmfalaaTotals.lean).
  GIVEN WITH THE SEED: the statements are not yours to turn. If you find one false, say at which input.
  Laid BY PROGRAM, IN A SANDBOX (cutbox-rows.mjs): the forced cells as the released guide's own fill.sh prints them over the translation 8cb6e49f7f6eef35… (all of the seat's roots in one cut). By AI agents, Wed Nov 11 2026. No macro, syntax, notation, axiom, sorry.
-/
import Derived.Test.YtmpelpmlmmfalaaChecked
import GoSem.Claim
import GoSem.ClaimJoined
import GoSem.ClaimMapViews
import Derived.JoinedTies
import Derived.KernelRfl
namespace Go.Proofs.Ytmpelpmlmmfalaa
/- THE CELL 'sum', in the pinned program and in every row, IS THE sha256 OF THE DUMP (.gsa) THAT YtmpelpmlmmfalaaProg.lean LOADS. Nothing in Lean hashes anything: it is a label: what it is worth is what the hold of that sum in a sandbox is worth. -/
noncomputable def Try.pinned : Pinned := { name := "ytmpelpmlmmfalaa", sum := "8cb6e49f7f6eef35705db89bfe0a76ea607e4a0d599e261b95acb3dc0b637b8d", checked := Try.checked }
namespace Rows
def none {H : Type} : Left H := { results := [], args := [] }

/-- 'laws.FnCodeMany': WHATEVER THE INPUT: true; the input reads as it did. -/
def fnCodeManySpec : ChangeSpec := { name := "fnCodeMany", fn := fun _ => fun
  | [d] => { results := [.lit (.bool true)], args := [d] }
  | _ => none }
def fnCodeManyRow : OpenClaim := { program := "ytmpelpmlmmfalaa", sum := "8cb6e49f7f6eef35705db89bfe0a76ea607e4a0d599e261b95acb3dc0b637b8d", func := "loop.example/blockboxes/laws.FnCodeMany", spec := "fnCodeMany", inPlace := ["internal/abi.NoEscape"], recurses := true, apart := false }
def FnCodeManySaid : Prop := fnCodeManyRow.holds Try.pinned (OpenSpec.ofChange fnCodeManySpec)

/-- ITS FALSE NEIGHBOUR: 'it returns false'. Refute it at one input. -/
def fnCodeManyWrong : ChangeSpec := { name := "fnCodeMany", fn := fun _ => fun
  | [d] => { results := [.lit (.bool false)], args := [d] }
  | _ => none }
def FnCodeManyWrongFalsely : Prop := fnCodeManyRow.holds Try.pinned (OpenSpec.ofChange fnCodeManyWrong)

/-- 'laws.FnCodeRank': WHATEVER THE INPUT: true; the input reads as it did. -/
def fnCodeRankSpec : ChangeSpec := { name := "fnCodeRank", fn := fun _ => fun
  | [d] => { results := [.lit (.bool true)], args := [d] }
  | _ => none }
def fnCodeRankRow : OpenClaim := { program := "ytmpelpmlmmfalaa", sum := "8cb6e49f7f6eef35705db89bfe0a76ea607e4a0d599e261b95acb3dc0b637b8d", func := "loop.example/blockboxes/laws.FnCodeRank", spec := "fnCodeRank", inPlace := ["internal/abi.NoEscape"], recurses := true, apart := false }
def FnCodeRankSaid : Prop := fnCodeRankRow.holds Try.pinned (OpenSpec.ofChange fnCodeRankSpec)

/-- ITS FALSE NEIGHBOUR: 'it returns false'. Refute it at one input. -/
def fnCodeRankWrong : ChangeSpec := { name := "fnCodeRank", fn := fun _ => fun
  | [d] => { results := [.lit (.bool false)], args := [d] }
  | _ => none }
def FnCodeRankWrongFalsely : Prop := fnCodeRankRow.holds Try.pinned (OpenSpec.ofChange fnCodeRankWrong)

/-- 'laws.FnCodeNth': WHATEVER THE INPUT: true; the input reads as it did. -/
def fnCodeNthSpec : ChangeSpec := { name := "fnCodeNth", fn := fun _ => fun
  | [d] => { results := [.lit (.bool true)], args := [d] }
  | _ => none }
def fnCodeNthRow : OpenClaim := { program := "ytmpelpmlmmfalaa", sum := "8cb6e49f7f6eef35705db89bfe0a76ea607e4a0d599e261b95acb3dc0b637b8d", func := "loop.example/blockboxes/laws.FnCodeNth", spec := "fnCodeNth", inPlace := ["internal/abi.NoEscape"], recurses := true, apart := false }
def FnCodeNthSaid : Prop := fnCodeNthRow.holds Try.pinned (OpenSpec.ofChange fnCodeNthSpec)

/-- ITS FALSE NEIGHBOUR: 'it returns false'. Refute it at one input. -/
def fnCodeNthWrong : ChangeSpec := { name := "fnCodeNth", fn := fun _ => fun
  | [d] => { results := [.lit (.bool false)], args := [d] }
  | _ => none }
def FnCodeNthWrongFalsely : Prop := fnCodeNthRow.holds Try.pinned (OpenSpec.ofChange fnCodeNthWrong)

/-- 'laws.FnBookReadings': WHATEVER THE INPUT: true; the input reads as it did. -/
def fnBookReadingsSpec : ChangeSpec := { name := "fnBookReadings", fn := fun _ => fun
  | [d] => { results := [.lit (.bool true)], args := [d] }
  | _ => none }
def fnBookReadingsRow : OpenClaim := { program := "ytmpelpmlmmfalaa", sum := "8cb6e49f7f6eef35705db89bfe0a76ea607e4a0d599e261b95acb3dc0b637b8d", func := "loop.example/blockboxes/laws.FnBookReadings", spec := "fnBookReadings", inPlace := ["internal/abi.NoEscape"], unfollowed := true, recurses := true, apart := false }
def FnBookReadingsSaid : Prop := fnBookReadingsRow.holds Try.pinned (OpenSpec.ofChange fnBookReadingsSpec)

/-- ITS FALSE NEIGHBOUR: 'it returns false'. Refute it at one input. -/
def fnBookReadingsWrong : ChangeSpec := { name := "fnBookReadings", fn := fun _ => fun
  | [d] => { results := [.lit (.bool false)], args := [d] }
  | _ => none }
def FnBookReadingsWrongFalsely : Prop := fnBookReadingsRow.holds Try.pinned (OpenSpec.ofChange fnBookReadingsWrong)

/-- 'laws.FnExactCodeValid': WHATEVER THE INPUT: true; the input reads as it did. -/
def fnExactCodeValidSpec : ChangeSpec := { name := "fnExactCodeValid", fn := fun _ => fun
  | [d] => { results := [.lit (.bool true)], args := [d] }
  | _ => none }
def fnExactCodeValidRow : OpenClaim := { program := "ytmpelpmlmmfalaa", sum := "8cb6e49f7f6eef35705db89bfe0a76ea607e4a0d599e261b95acb3dc0b637b8d", func := "loop.example/blockboxes/laws.FnExactCodeValid", spec := "fnExactCodeValid", inPlace := ["internal/abi.NoEscape"], apart := false }
def FnExactCodeValidSaid : Prop := fnExactCodeValidRow.holds Try.pinned (OpenSpec.ofChange fnExactCodeValidSpec)

/-- ITS FALSE NEIGHBOUR: 'it returns false'. Refute it at one input. -/
def fnExactCodeValidWrong : ChangeSpec := { name := "fnExactCodeValid", fn := fun _ => fun
  | [d] => { results := [.lit (.bool false)], args := [d] }
  | _ => none }
def FnExactCodeValidWrongFalsely : Prop := fnExactCodeValidRow.holds Try.pinned (OpenSpec.ofChange fnExactCodeValidWrong)

/-- 'laws.FnExactCodeText': WHATEVER THE INPUT: true; the input reads as it did. -/
def fnExactCodeTextSpec : ChangeSpec := { name := "fnExactCodeText", fn := fun _ => fun
  | [d] => { results := [.lit (.bool true)], args := [d] }
  | _ => none }
def fnExactCodeTextRow : OpenClaim := { program := "ytmpelpmlmmfalaa", sum := "8cb6e49f7f6eef35705db89bfe0a76ea607e4a0d599e261b95acb3dc0b637b8d", func := "loop.example/blockboxes/laws.FnExactCodeText", spec := "fnExactCodeText", inPlace := ["internal/abi.NoEscape"], recurses := true, apart := false }
def FnExactCodeTextSaid : Prop := fnExactCodeTextRow.holds Try.pinned (OpenSpec.ofChange fnExactCodeTextSpec)

/-- ITS FALSE NEIGHBOUR: 'it returns false'. Refute it at one input. -/
def fnExactCodeTextWrong : ChangeSpec := { name := "fnExactCodeText", fn := fun _ => fun
  | [d] => { results := [.lit (.bool false)], args := [d] }
  | _ => none }
def FnExactCodeTextWrongFalsely : Prop := fnExactCodeTextRow.holds Try.pinned (OpenSpec.ofChange fnExactCodeTextWrong)

/-- 'laws.FnExactCodeBeats': WHATEVER THE INPUT: true; the input reads as it did. -/
def fnExactCodeBeatsSpec : ChangeSpec := { name := "fnExactCodeBeats", fn := fun _ => fun
  | [d] => { results := [.lit (.bool true)], args := [d] }
  | _ => none }
def fnExactCodeBeatsRow : OpenClaim := { program := "ytmpelpmlmmfalaa", sum := "8cb6e49f7f6eef35705db89bfe0a76ea607e4a0d599e261b95acb3dc0b637b8d", func := "loop.example/blockboxes/laws.FnExactCodeBeats", spec := "fnExactCodeBeats", inPlace := ["internal/abi.NoEscape"], apart := false }
def FnExactCodeBeatsSaid : Prop := fnExactCodeBeatsRow.holds Try.pinned (OpenSpec.ofChange fnExactCodeBeatsSpec)

/-- ITS FALSE NEIGHBOUR: 'it returns false'. Refute it at one input. -/
def fnExactCodeBeatsWrong : ChangeSpec := { name := "fnExactCodeBeats", fn := fun _ => fun
  | [d] => { results := [.lit (.bool false)], args := [d] }
  | _ => none }
def FnExactCodeBeatsWrongFalsely : Prop := fnExactCodeBeatsRow.holds Try.pinned (OpenSpec.ofChange fnExactCodeBeatsWrong)

/-- 'laws.FnExactCodeBegins': WHATEVER THE INPUT: true; the input reads as it did. -/
def fnExactCodeBeginsSpec : ChangeSpec := { name := "fnExactCodeBegins", fn := fun _ => fun
  | [d1, d2] => { results := [.lit (.bool true)], args := [d1, d2] }
  | _ => none }
def fnExactCodeBeginsRow : OpenClaim := { program := "ytmpelpmlmmfalaa", sum := "8cb6e49f7f6eef35705db89bfe0a76ea607e4a0d599e261b95acb3dc0b637b8d", func := "loop.example/blockboxes/laws.FnExactCodeBegins", spec := "fnExactCodeBegins", inPlace := ["internal/abi.NoEscape"], apart := false }
def FnExactCodeBeginsSaid : Prop := fnExactCodeBeginsRow.holds Try.pinned (OpenSpec.ofChange fnExactCodeBeginsSpec)

/-- ITS FALSE NEIGHBOUR: 'it returns false'. Refute it at one input. -/
def fnExactCodeBeginsWrong : ChangeSpec := { name := "fnExactCodeBegins", fn := fun _ => fun
  | [d1, d2] => { results := [.lit (.bool false)], args := [d1, d2] }
  | _ => none }
def FnExactCodeBeginsWrongFalsely : Prop := fnExactCodeBeginsRow.holds Try.pinned (OpenSpec.ofChange fnExactCodeBeginsWrong)

/-- 'laws.FnExactCodeBack': WHATEVER THE INPUT: true; the input reads as it did. -/
def fnExactCodeBackSpec : ChangeSpec := { name := "fnExactCodeBack", fn := fun _ => fun
  | [d] => { results := [.lit (.bool true)], args := [d] }
  | _ => none }
def fnExactCodeBackRow : OpenClaim := { program := "ytmpelpmlmmfalaa", sum := "8cb6e49f7f6eef35705db89bfe0a76ea607e4a0d599e261b95acb3dc0b637b8d", func := "loop.example/blockboxes/laws.FnExactCodeBack", spec := "fnExactCodeBack", inPlace := ["internal/abi.NoEscape"], apart := false }
def FnExactCodeBackSaid : Prop := fnExactCodeBackRow.holds Try.pinned (OpenSpec.ofChange fnExactCodeBackSpec)

/-- ITS FALSE NEIGHBOUR: 'it returns false'. Refute it at one input. -/
def fnExactCodeBackWrong : ChangeSpec := { name := "fnExactCodeBack", fn := fun _ => fun
  | [d] => { results := [.lit (.bool false)], args := [d] }
  | _ => none }
def FnExactCodeBackWrongFalsely : Prop := fnExactCodeBackRow.holds Try.pinned (OpenSpec.ofChange fnExactCodeBackWrong)

/-- 'laws.FnExactCodeMany': WHATEVER THE INPUT: true; the input reads as it did. -/
def fnExactCodeManySpec : ChangeSpec := { name := "fnExactCodeMany", fn := fun _ => fun
  | [d] => { results := [.lit (.bool true)], args := [d] }
  | _ => none }
def fnExactCodeManyRow : OpenClaim := { program := "ytmpelpmlmmfalaa", sum := "8cb6e49f7f6eef35705db89bfe0a76ea607e4a0d599e261b95acb3dc0b637b8d", func := "loop.example/blockboxes/laws.FnExactCodeMany", spec := "fnExactCodeMany", recurses := true, apart := false }
def FnExactCodeManySaid : Prop := fnExactCodeManyRow.holds Try.pinned (OpenSpec.ofChange fnExactCodeManySpec)

/-- ITS FALSE NEIGHBOUR: 'it returns false'. Refute it at one input. -/
def fnExactCodeManyWrong : ChangeSpec := { name := "fnExactCodeMany", fn := fun _ => fun
  | [d] => { results := [.lit (.bool false)], args := [d] }
  | _ => none }
def FnExactCodeManyWrongFalsely : Prop := fnExactCodeManyRow.holds Try.pinned (OpenSpec.ofChange fnExactCodeManyWrong)

/-- 'laws.FnExactCodeRank': WHATEVER THE INPUT: true; the input reads as it did. -/
def fnExactCodeRankSpec : ChangeSpec := { name := "fnExactCodeRank", fn := fun _ => fun
  | [d] => { results := [.lit (.bool true)], args := [d] }
  | _ => none }
def fnExactCodeRankRow : OpenClaim := { program := "ytmpelpmlmmfalaa", sum := "8cb6e49f7f6eef35705db89bfe0a76ea607e4a0d599e261b95acb3dc0b637b8d", func := "loop.example/blockboxes/laws.FnExactCodeRank", spec := "fnExactCodeRank", inPlace := ["internal/abi.NoEscape"], recurses := true, apart := false }
def FnExactCodeRankSaid : Prop := fnExactCodeRankRow.holds Try.pinned (OpenSpec.ofChange fnExactCodeRankSpec)

/-- ITS FALSE NEIGHBOUR: 'it returns false'. Refute it at one input. -/
def fnExactCodeRankWrong : ChangeSpec := { name := "fnExactCodeRank", fn := fun _ => fun
  | [d] => { results := [.lit (.bool false)], args := [d] }
  | _ => none }
def FnExactCodeRankWrongFalsely : Prop := fnExactCodeRankRow.holds Try.pinned (OpenSpec.ofChange fnExactCodeRankWrong)

/- THE SECOND FORM. 'bulk': how many values and letters a reading holds, each counted each time it is reached (what is shared counts as often as it is met; a slice's spare places count too). A statement '..UptoSaid' is the law's where the arguments, and the package variables that the reading takes, are together of bulk at most 1048576: NARROWER than '..Said'. Prove '..Said' where nothing that the law and all that it calls make is longer than what came in: it says more and counts as full. Else prove '..UptoSaid'. A law counts once. -/
mutual
def uptoBulk {H : Type} : DataW H → Nat
  | .lit (.string bytes) => bytes.length + 1
  | .lit _ => 1
  | .nil => 1
  | .ptr d => uptoBulk d + 1
  | .slice elems spare => uptoBulkAll elems + uptoBulkAll spare + 1
  | .agg parts => uptoBulkAll parts + 1
  | .iface _ d => uptoBulk d + 1
  | .map entries => uptoBulkEntries entries + 1
  | .held _ => 1
def uptoBulkAll {H : Type} : List (DataW H) → Nat
  | [] => 0
  | d :: r => uptoBulk d + uptoBulkAll r
def uptoBulkEntries {H : Type} : List (Lit × DataW H) → Nat
  | [] => 0
  | x :: r => uptoBulkEntry x + uptoBulkEntries r
def uptoBulkEntry {H : Type} : Lit × DataW H → Nat
  | (.string bytes, d) => bytes.length + uptoBulk d + 1
  | (_, d) => uptoBulk d + 1
 end
def uptoSmall : (H : Type) → List (DataW H) → Bool := fun _ ds => decide (uptoBulkAll ds ≤ 1048576)
def OpenSpec.upto (s : _root_.Go.ChangeSpec) : _root_.Go.OpenSpec := { _root_.Go.OpenSpec.ofChange s with cond := some uptoSmall }

/-- 'laws.FnCodeMany', WHERE WHAT IT READS IS OF BULK AT MOST 1048576: true; the input reads as it did. -/
def fnCodeManyUptoRow : OpenClaim := { program := "ytmpelpmlmmfalaa", sum := "8cb6e49f7f6eef35705db89bfe0a76ea607e4a0d599e261b95acb3dc0b637b8d", func := "loop.example/blockboxes/laws.FnCodeMany", spec := "fnCodeMany", inPlace := ["internal/abi.NoEscape"], recurses := true, apart := false, narrowed := true }
def FnCodeManyUptoSaid : Prop := fnCodeManyUptoRow.holds Try.pinned (OpenSpec.upto fnCodeManySpec)

/-- 'laws.FnCodeRank', WHERE WHAT IT READS IS OF BULK AT MOST 1048576: true; the input reads as it did. -/
def fnCodeRankUptoRow : OpenClaim := { program := "ytmpelpmlmmfalaa", sum := "8cb6e49f7f6eef35705db89bfe0a76ea607e4a0d599e261b95acb3dc0b637b8d", func := "loop.example/blockboxes/laws.FnCodeRank", spec := "fnCodeRank", inPlace := ["internal/abi.NoEscape"], recurses := true, apart := false, narrowed := true }
def FnCodeRankUptoSaid : Prop := fnCodeRankUptoRow.holds Try.pinned (OpenSpec.upto fnCodeRankSpec)

/-- 'laws.FnCodeNth', WHERE WHAT IT READS IS OF BULK AT MOST 1048576: true; the input reads as it did. -/
def fnCodeNthUptoRow : OpenClaim := { program := "ytmpelpmlmmfalaa", sum := "8cb6e49f7f6eef35705db89bfe0a76ea607e4a0d599e261b95acb3dc0b637b8d", func := "loop.example/blockboxes/laws.FnCodeNth", spec := "fnCodeNth", inPlace := ["internal/abi.NoEscape"], recurses := true, apart := false, narrowed := true }
def FnCodeNthUptoSaid : Prop := fnCodeNthUptoRow.holds Try.pinned (OpenSpec.upto fnCodeNthSpec)

/-- 'laws.FnBookReadings', WHERE WHAT IT READS IS OF BULK AT MOST 1048576: true; the input reads as it did. -/
def fnBookReadingsUptoRow : OpenClaim := { program := "ytmpelpmlmmfalaa", sum := "8cb6e49f7f6eef35705db89bfe0a76ea607e4a0d599e261b95acb3dc0b637b8d", func := "loop.example/blockboxes/laws.FnBookReadings", spec := "fnBookReadings", inPlace := ["internal/abi.NoEscape"], unfollowed := true, recurses := true, apart := false, narrowed := true }
def FnBookReadingsUptoSaid : Prop := fnBookReadingsUptoRow.holds Try.pinned (OpenSpec.upto fnBookReadingsSpec)

/-- 'laws.FnExactCodeValid', WHERE WHAT IT READS IS OF BULK AT MOST 1048576: true; the input reads as it did. -/
def fnExactCodeValidUptoRow : OpenClaim := { program := "ytmpelpmlmmfalaa", sum := "8cb6e49f7f6eef35705db89bfe0a76ea607e4a0d599e261b95acb3dc0b637b8d", func := "loop.example/blockboxes/laws.FnExactCodeValid", spec := "fnExactCodeValid", inPlace := ["internal/abi.NoEscape"], apart := false, narrowed := true }
def FnExactCodeValidUptoSaid : Prop := fnExactCodeValidUptoRow.holds Try.pinned (OpenSpec.upto fnExactCodeValidSpec)

/-- 'laws.FnExactCodeText', WHERE WHAT IT READS IS OF BULK AT MOST 1048576: true; the input reads as it did. -/
def fnExactCodeTextUptoRow : OpenClaim := { program := "ytmpelpmlmmfalaa", sum := "8cb6e49f7f6eef35705db89bfe0a76ea607e4a0d599e261b95acb3dc0b637b8d", func := "loop.example/blockboxes/laws.FnExactCodeText", spec := "fnExactCodeText", inPlace := ["internal/abi.NoEscape"], recurses := true, apart := false, narrowed := true }
def FnExactCodeTextUptoSaid : Prop := fnExactCodeTextUptoRow.holds Try.pinned (OpenSpec.upto fnExactCodeTextSpec)

/-- 'laws.FnExactCodeBeats', WHERE WHAT IT READS IS OF BULK AT MOST 1048576: true; the input reads as it did. -/
def fnExactCodeBeatsUptoRow : OpenClaim := { program := "ytmpelpmlmmfalaa", sum := "8cb6e49f7f6eef35705db89bfe0a76ea607e4a0d599e261b95acb3dc0b637b8d", func := "loop.example/blockboxes/laws.FnExactCodeBeats", spec := "fnExactCodeBeats", inPlace := ["internal/abi.NoEscape"], apart := false, narrowed := true }
def FnExactCodeBeatsUptoSaid : Prop := fnExactCodeBeatsUptoRow.holds Try.pinned (OpenSpec.upto fnExactCodeBeatsSpec)

/-- 'laws.FnExactCodeBegins', WHERE WHAT IT READS IS OF BULK AT MOST 1048576: true; the input reads as it did. -/
def fnExactCodeBeginsUptoRow : OpenClaim := { program := "ytmpelpmlmmfalaa", sum := "8cb6e49f7f6eef35705db89bfe0a76ea607e4a0d599e261b95acb3dc0b637b8d", func := "loop.example/blockboxes/laws.FnExactCodeBegins", spec := "fnExactCodeBegins", inPlace := ["internal/abi.NoEscape"], apart := false, narrowed := true }
def FnExactCodeBeginsUptoSaid : Prop := fnExactCodeBeginsUptoRow.holds Try.pinned (OpenSpec.upto fnExactCodeBeginsSpec)

/-- 'laws.FnExactCodeBack', WHERE WHAT IT READS IS OF BULK AT MOST 1048576: true; the input reads as it did. -/
def fnExactCodeBackUptoRow : OpenClaim := { program := "ytmpelpmlmmfalaa", sum := "8cb6e49f7f6eef35705db89bfe0a76ea607e4a0d599e261b95acb3dc0b637b8d", func := "loop.example/blockboxes/laws.FnExactCodeBack", spec := "fnExactCodeBack", inPlace := ["internal/abi.NoEscape"], apart := false, narrowed := true }
def FnExactCodeBackUptoSaid : Prop := fnExactCodeBackUptoRow.holds Try.pinned (OpenSpec.upto fnExactCodeBackSpec)

/-- 'laws.FnExactCodeMany', WHERE WHAT IT READS IS OF BULK AT MOST 1048576: true; the input reads as it did. -/
def fnExactCodeManyUptoRow : OpenClaim := { program := "ytmpelpmlmmfalaa", sum := "8cb6e49f7f6eef35705db89bfe0a76ea607e4a0d599e261b95acb3dc0b637b8d", func := "loop.example/blockboxes/laws.FnExactCodeMany", spec := "fnExactCodeMany", recurses := true, apart := false, narrowed := true }
def FnExactCodeManyUptoSaid : Prop := fnExactCodeManyUptoRow.holds Try.pinned (OpenSpec.upto fnExactCodeManySpec)

/-- 'laws.FnExactCodeRank', WHERE WHAT IT READS IS OF BULK AT MOST 1048576: true; the input reads as it did. -/
def fnExactCodeRankUptoRow : OpenClaim := { program := "ytmpelpmlmmfalaa", sum := "8cb6e49f7f6eef35705db89bfe0a76ea607e4a0d599e261b95acb3dc0b637b8d", func := "loop.example/blockboxes/laws.FnExactCodeRank", spec := "fnExactCodeRank", inPlace := ["internal/abi.NoEscape"], recurses := true, apart := false, narrowed := true }
def FnExactCodeRankUptoSaid : Prop := fnExactCodeRankUptoRow.holds Try.pinned (OpenSpec.upto fnExactCodeRankSpec)

end Rows
end Go.Proofs.Ytmpelpmlmmfalaa
