/-
  No cell of these rows narrows 'for every input' (looked for: loops, veiled, ifaces, maps, wideKeys, modest, calm, conditions, laid).
  DERIVED. THE GIVEN ROWS OF THIS SEAT. 12 by the template 'for every input the law returns true; each argument reads behind the call as it read before'; 0 by the template 'total and deterministic' (their statements: YtcihbeejnboofaaTotals.lean).
  GIVEN WITH THE SEED: the statements are not yours to turn. If you find one false, say at which input.
  Laid BY PROGRAM, IN A SANDBOX (cutbox-rows.mjs): the forced cells as the released guide's own fill.sh prints them over the translation 232822469d8dfc7d… (all of the seat's roots in one cut). By AI agents, Wed Nov 11 2026. No macro, syntax, notation, axiom, sorry.
-/
import Derived.Test.YtcihbeejnboofaaChecked
import GoSem.Claim
import GoSem.ClaimJoined
import GoSem.ClaimMapViews
import Derived.JoinedTies
import Derived.KernelRfl
namespace Go.Proofs.Ytcihbeejnboofaa
/- THE CELL 'sum', in the pinned program and in every row, IS THE sha256 OF THE DUMP (.gsa) THAT YtcihbeejnboofaaProg.lean LOADS. Nothing in Lean hashes anything: it is a label: what it is worth is what the hold of that sum in a sandbox is worth. -/
noncomputable def Try.pinned : Pinned := { name := "ytcihbeejnboofaa", sum := "232822469d8dfc7da48d35579f88ab34e786d4a7c804d43c2c704e21178ce903", checked := Try.checked }
namespace Rows
def none {H : Type} : Left H := { results := [], args := [] }

/-- 'laws.FnExactSingleValid': WHATEVER THE INPUT: true; the input reads as it did. -/
def fnExactSingleValidSpec : ChangeSpec := { name := "fnExactSingleValid", fn := fun _ => fun
  | [d] => { results := [.lit (.bool true)], args := [d] }
  | _ => none }
def fnExactSingleValidRow : OpenClaim := { program := "ytcihbeejnboofaa", sum := "232822469d8dfc7da48d35579f88ab34e786d4a7c804d43c2c704e21178ce903", func := "loop.example/blockboxes/laws.FnExactSingleValid", spec := "fnExactSingleValid", apart := false }
def FnExactSingleValidSaid : Prop := fnExactSingleValidRow.holds Try.pinned (OpenSpec.ofChange fnExactSingleValidSpec)

/-- ITS FALSE NEIGHBOUR: 'it returns false'. Refute it at one input. -/
def fnExactSingleValidWrong : ChangeSpec := { name := "fnExactSingleValid", fn := fun _ => fun
  | [d] => { results := [.lit (.bool false)], args := [d] }
  | _ => none }
def FnExactSingleValidWrongFalsely : Prop := fnExactSingleValidRow.holds Try.pinned (OpenSpec.ofChange fnExactSingleValidWrong)

/-- 'laws.FnExactSingleStarts': WHATEVER THE INPUT: true; the input reads as it did. -/
def fnExactSingleStartsSpec : ChangeSpec := { name := "fnExactSingleStarts", fn := fun _ => fun
  | [d1, d2] => { results := [.lit (.bool true)], args := [d1, d2] }
  | _ => none }
def fnExactSingleStartsRow : OpenClaim := { program := "ytcihbeejnboofaa", sum := "232822469d8dfc7da48d35579f88ab34e786d4a7c804d43c2c704e21178ce903", func := "loop.example/blockboxes/laws.FnExactSingleStarts", spec := "fnExactSingleStarts", inPlace := ["internal/bytealg.CountString", "internal/bytealg.IndexByteString", "internal/bytealg.IndexString"], named := ["internal/bytealg.MaxLen"], apart := false }
def FnExactSingleStartsSaid : Prop := fnExactSingleStartsRow.holds Try.pinned (OpenSpec.ofChange fnExactSingleStartsSpec)

/-- ITS FALSE NEIGHBOUR: 'it returns false'. Refute it at one input. -/
def fnExactSingleStartsWrong : ChangeSpec := { name := "fnExactSingleStarts", fn := fun _ => fun
  | [d1, d2] => { results := [.lit (.bool false)], args := [d1, d2] }
  | _ => none }
def FnExactSingleStartsWrongFalsely : Prop := fnExactSingleStartsRow.holds Try.pinned (OpenSpec.ofChange fnExactSingleStartsWrong)

/-- 'laws.FnExactSingleWait': WHATEVER THE INPUT: true; the input reads as it did. -/
def fnExactSingleWaitSpec : ChangeSpec := { name := "fnExactSingleWait", fn := fun _ => fun
  | [d1, d2] => { results := [.lit (.bool true)], args := [d1, d2] }
  | _ => none }
def fnExactSingleWaitRow : OpenClaim := { program := "ytcihbeejnboofaa", sum := "232822469d8dfc7da48d35579f88ab34e786d4a7c804d43c2c704e21178ce903", func := "loop.example/blockboxes/laws.FnExactSingleWait", spec := "fnExactSingleWait", inPlace := ["internal/bytealg.CountString", "internal/bytealg.IndexByteString", "internal/bytealg.IndexString"], named := ["internal/bytealg.MaxLen"], apart := false }
def FnExactSingleWaitSaid : Prop := fnExactSingleWaitRow.holds Try.pinned (OpenSpec.ofChange fnExactSingleWaitSpec)

/-- ITS FALSE NEIGHBOUR: 'it returns false'. Refute it at one input. -/
def fnExactSingleWaitWrong : ChangeSpec := { name := "fnExactSingleWait", fn := fun _ => fun
  | [d1, d2] => { results := [.lit (.bool false)], args := [d1, d2] }
  | _ => none }
def FnExactSingleWaitWrongFalsely : Prop := fnExactSingleWaitRow.holds Try.pinned (OpenSpec.ofChange fnExactSingleWaitWrong)

/-- 'laws.FnExactSingleEnd': WHATEVER THE INPUT: true; the input reads as it did. -/
def fnExactSingleEndSpec : ChangeSpec := { name := "fnExactSingleEnd", fn := fun _ => fun
  | [d1, d2] => { results := [.lit (.bool true)], args := [d1, d2] }
  | _ => none }
def fnExactSingleEndRow : OpenClaim := { program := "ytcihbeejnboofaa", sum := "232822469d8dfc7da48d35579f88ab34e786d4a7c804d43c2c704e21178ce903", func := "loop.example/blockboxes/laws.FnExactSingleEnd", spec := "fnExactSingleEnd", inPlace := ["internal/bytealg.CountString", "internal/bytealg.IndexByteString", "internal/bytealg.IndexString"], named := ["internal/bytealg.MaxLen"], apart := false }
def FnExactSingleEndSaid : Prop := fnExactSingleEndRow.holds Try.pinned (OpenSpec.ofChange fnExactSingleEndSpec)

/-- ITS FALSE NEIGHBOUR: 'it returns false'. Refute it at one input. -/
def fnExactSingleEndWrong : ChangeSpec := { name := "fnExactSingleEnd", fn := fun _ => fun
  | [d1, d2] => { results := [.lit (.bool false)], args := [d1, d2] }
  | _ => none }
def FnExactSingleEndWrongFalsely : Prop := fnExactSingleEndRow.holds Try.pinned (OpenSpec.ofChange fnExactSingleEndWrong)

/-- 'laws.FnExactSingleBest': WHATEVER THE INPUT: true; the input reads as it did. -/
def fnExactSingleBestSpec : ChangeSpec := { name := "fnExactSingleBest", fn := fun _ => fun
  | [d] => { results := [.lit (.bool true)], args := [d] }
  | _ => none }
def fnExactSingleBestRow : OpenClaim := { program := "ytcihbeejnboofaa", sum := "232822469d8dfc7da48d35579f88ab34e786d4a7c804d43c2c704e21178ce903", func := "loop.example/blockboxes/laws.FnExactSingleBest", spec := "fnExactSingleBest", inPlace := ["internal/bytealg.CountString", "internal/bytealg.IndexByteString", "internal/bytealg.IndexString"], unfollowed := true, recurses := true, named := ["internal/bytealg.MaxLen"], apart := false }
def FnExactSingleBestSaid : Prop := fnExactSingleBestRow.holds Try.pinned (OpenSpec.ofChange fnExactSingleBestSpec)

/-- ITS FALSE NEIGHBOUR: 'it returns false'. Refute it at one input. -/
def fnExactSingleBestWrong : ChangeSpec := { name := "fnExactSingleBest", fn := fun _ => fun
  | [d] => { results := [.lit (.bool false)], args := [d] }
  | _ => none }
def FnExactSingleBestWrongFalsely : Prop := fnExactSingleBestRow.holds Try.pinned (OpenSpec.ofChange fnExactSingleBestWrong)

/-- 'laws.FnExactSingleSoon': WHATEVER THE INPUT: true; the input reads as it did. -/
def fnExactSingleSoonSpec : ChangeSpec := { name := "fnExactSingleSoon", fn := fun _ => fun
  | [d] => { results := [.lit (.bool true)], args := [d] }
  | _ => none }
def fnExactSingleSoonRow : OpenClaim := { program := "ytcihbeejnboofaa", sum := "232822469d8dfc7da48d35579f88ab34e786d4a7c804d43c2c704e21178ce903", func := "loop.example/blockboxes/laws.FnExactSingleSoon", spec := "fnExactSingleSoon", inPlace := ["internal/bytealg.CountString", "internal/bytealg.IndexByteString", "internal/bytealg.IndexString"], unfollowed := true, recurses := true, named := ["internal/bytealg.MaxLen"], apart := false }
def FnExactSingleSoonSaid : Prop := fnExactSingleSoonRow.holds Try.pinned (OpenSpec.ofChange fnExactSingleSoonSpec)

/-- ITS FALSE NEIGHBOUR: 'it returns false'. Refute it at one input. -/
def fnExactSingleSoonWrong : ChangeSpec := { name := "fnExactSingleSoon", fn := fun _ => fun
  | [d] => { results := [.lit (.bool false)], args := [d] }
  | _ => none }
def FnExactSingleSoonWrongFalsely : Prop := fnExactSingleSoonRow.holds Try.pinned (OpenSpec.ofChange fnExactSingleSoonWrong)

/-- 'laws.FnExactSingleMany': WHATEVER THE INPUT: true; the input reads as it did. -/
def fnExactSingleManySpec : ChangeSpec := { name := "fnExactSingleMany", fn := fun _ => fun
  | [d] => { results := [.lit (.bool true)], args := [d] }
  | _ => none }
def fnExactSingleManyRow : OpenClaim := { program := "ytcihbeejnboofaa", sum := "232822469d8dfc7da48d35579f88ab34e786d4a7c804d43c2c704e21178ce903", func := "loop.example/blockboxes/laws.FnExactSingleMany", spec := "fnExactSingleMany", unfollowed := true, recurses := true, apart := false }
def FnExactSingleManySaid : Prop := fnExactSingleManyRow.holds Try.pinned (OpenSpec.ofChange fnExactSingleManySpec)

/-- ITS FALSE NEIGHBOUR: 'it returns false'. Refute it at one input. -/
def fnExactSingleManyWrong : ChangeSpec := { name := "fnExactSingleMany", fn := fun _ => fun
  | [d] => { results := [.lit (.bool false)], args := [d] }
  | _ => none }
def FnExactSingleManyWrongFalsely : Prop := fnExactSingleManyRow.holds Try.pinned (OpenSpec.ofChange fnExactSingleManyWrong)

/-- 'laws.FnExactSingleNth': WHATEVER THE INPUT: true; the input reads as it did. -/
def fnExactSingleNthSpec : ChangeSpec := { name := "fnExactSingleNth", fn := fun _ => fun
  | [d1, d2] => { results := [.lit (.bool true)], args := [d1, d2] }
  | _ => none }
def fnExactSingleNthRow : OpenClaim := { program := "ytcihbeejnboofaa", sum := "232822469d8dfc7da48d35579f88ab34e786d4a7c804d43c2c704e21178ce903", func := "loop.example/blockboxes/laws.FnExactSingleNth", spec := "fnExactSingleNth", unfollowed := true, recurses := true, apart := false }
def FnExactSingleNthSaid : Prop := fnExactSingleNthRow.holds Try.pinned (OpenSpec.ofChange fnExactSingleNthSpec)

/-- ITS FALSE NEIGHBOUR: 'it returns false'. Refute it at one input. -/
def fnExactSingleNthWrong : ChangeSpec := { name := "fnExactSingleNth", fn := fun _ => fun
  | [d1, d2] => { results := [.lit (.bool false)], args := [d1, d2] }
  | _ => none }
def FnExactSingleNthWrongFalsely : Prop := fnExactSingleNthRow.holds Try.pinned (OpenSpec.ofChange fnExactSingleNthWrong)

/-- 'laws.FnExactSingleRank': WHATEVER THE INPUT: true; the input reads as it did. -/
def fnExactSingleRankSpec : ChangeSpec := { name := "fnExactSingleRank", fn := fun _ => fun
  | [d1, d2] => { results := [.lit (.bool true)], args := [d1, d2] }
  | _ => none }
def fnExactSingleRankRow : OpenClaim := { program := "ytcihbeejnboofaa", sum := "232822469d8dfc7da48d35579f88ab34e786d4a7c804d43c2c704e21178ce903", func := "loop.example/blockboxes/laws.FnExactSingleRank", spec := "fnExactSingleRank", inPlace := ["internal/bytealg.CountString", "internal/bytealg.IndexByteString", "internal/bytealg.IndexString"], unfollowed := true, recurses := true, named := ["internal/bytealg.MaxLen"], apart := false }
def FnExactSingleRankSaid : Prop := fnExactSingleRankRow.holds Try.pinned (OpenSpec.ofChange fnExactSingleRankSpec)

/-- ITS FALSE NEIGHBOUR: 'it returns false'. Refute it at one input. -/
def fnExactSingleRankWrong : ChangeSpec := { name := "fnExactSingleRank", fn := fun _ => fun
  | [d1, d2] => { results := [.lit (.bool false)], args := [d1, d2] }
  | _ => none }
def FnExactSingleRankWrongFalsely : Prop := fnExactSingleRankRow.holds Try.pinned (OpenSpec.ofChange fnExactSingleRankWrong)

/-- 'laws.FnExactSingleTurn': WHATEVER THE INPUT: true; the input reads as it did. -/
def fnExactSingleTurnSpec : ChangeSpec := { name := "fnExactSingleTurn", fn := fun _ => fun
  | [d] => { results := [.lit (.bool true)], args := [d] }
  | _ => none }
def fnExactSingleTurnRow : OpenClaim := { program := "ytcihbeejnboofaa", sum := "232822469d8dfc7da48d35579f88ab34e786d4a7c804d43c2c704e21178ce903", func := "loop.example/blockboxes/laws.FnExactSingleTurn", spec := "fnExactSingleTurn", apart := false }
def FnExactSingleTurnSaid : Prop := fnExactSingleTurnRow.holds Try.pinned (OpenSpec.ofChange fnExactSingleTurnSpec)

/-- ITS FALSE NEIGHBOUR: 'it returns false'. Refute it at one input. -/
def fnExactSingleTurnWrong : ChangeSpec := { name := "fnExactSingleTurn", fn := fun _ => fun
  | [d] => { results := [.lit (.bool false)], args := [d] }
  | _ => none }
def FnExactSingleTurnWrongFalsely : Prop := fnExactSingleTurnRow.holds Try.pinned (OpenSpec.ofChange fnExactSingleTurnWrong)

/-- 'laws.FnExactSingleLater': WHATEVER THE INPUT: true; the input reads as it did. -/
def fnExactSingleLaterSpec : ChangeSpec := { name := "fnExactSingleLater", fn := fun _ => fun
  | [d1, d2] => { results := [.lit (.bool true)], args := [d1, d2] }
  | _ => none }
def fnExactSingleLaterRow : OpenClaim := { program := "ytcihbeejnboofaa", sum := "232822469d8dfc7da48d35579f88ab34e786d4a7c804d43c2c704e21178ce903", func := "loop.example/blockboxes/laws.FnExactSingleLater", spec := "fnExactSingleLater", apart := false }
def FnExactSingleLaterSaid : Prop := fnExactSingleLaterRow.holds Try.pinned (OpenSpec.ofChange fnExactSingleLaterSpec)

/-- ITS FALSE NEIGHBOUR: 'it returns false'. Refute it at one input. -/
def fnExactSingleLaterWrong : ChangeSpec := { name := "fnExactSingleLater", fn := fun _ => fun
  | [d1, d2] => { results := [.lit (.bool false)], args := [d1, d2] }
  | _ => none }
def FnExactSingleLaterWrongFalsely : Prop := fnExactSingleLaterRow.holds Try.pinned (OpenSpec.ofChange fnExactSingleLaterWrong)

/-- 'laws.FnExactSingleFirst': WHATEVER THE INPUT: true; the input reads as it did. -/
def fnExactSingleFirstSpec : ChangeSpec := { name := "fnExactSingleFirst", fn := fun _ => fun
  | [d] => { results := [.lit (.bool true)], args := [d] }
  | _ => none }
def fnExactSingleFirstRow : OpenClaim := { program := "ytcihbeejnboofaa", sum := "232822469d8dfc7da48d35579f88ab34e786d4a7c804d43c2c704e21178ce903", func := "loop.example/blockboxes/laws.FnExactSingleFirst", spec := "fnExactSingleFirst", inPlace := ["internal/abi.NoEscape"], apart := false }
def FnExactSingleFirstSaid : Prop := fnExactSingleFirstRow.holds Try.pinned (OpenSpec.ofChange fnExactSingleFirstSpec)

/-- ITS FALSE NEIGHBOUR: 'it returns false'. Refute it at one input. -/
def fnExactSingleFirstWrong : ChangeSpec := { name := "fnExactSingleFirst", fn := fun _ => fun
  | [d] => { results := [.lit (.bool false)], args := [d] }
  | _ => none }
def FnExactSingleFirstWrongFalsely : Prop := fnExactSingleFirstRow.holds Try.pinned (OpenSpec.ofChange fnExactSingleFirstWrong)

/- THE SECOND FORM. 'bulk': how many values and letters a reading holds, each counted each time it is reached (what is shared counts as often as it is met; a slice's spare places count too). A statement '..UptoSaid' is the law's where the arguments, and the package variables that the reading takes, are together of bulk at most 1048576: NARROWER than '..Said'. Prove '..Said' where nothing that the law and all that it calls make is longer than what came in: it says more and counts as full. Else prove '..UptoSaid'. A law counts once. -/
mutual
def uptoBulk {H : Type} : DataW H → Nat
  | .lit (.string bytes) => bytes.length + 1
  | .lit _ => 1
  | .nil => 1
  | .ptr d => uptoBulk d + 1
  | .slice elems spare => uptoBulkAll elems + uptoBulkAll spare + 1
  | .agg parts => uptoBulkAll parts + 1
  | .iface _ d => uptoBulk d + 1
  | .map entries => uptoBulkEntries entries + 1
  | .held _ => 1
def uptoBulkAll {H : Type} : List (DataW H) → Nat
  | [] => 0
  | d :: r => uptoBulk d + uptoBulkAll r
def uptoBulkEntries {H : Type} : List (Lit × DataW H) → Nat
  | [] => 0
  | x :: r => uptoBulkEntry x + uptoBulkEntries r
def uptoBulkEntry {H : Type} : Lit × DataW H → Nat
  | (.string bytes, d) => bytes.length + uptoBulk d + 1
  | (_, d) => uptoBulk d + 1
 end
def uptoSmall : (H : Type) → List (DataW H) → Bool := fun _ ds => decide (uptoBulkAll ds ≤ 1048576)
def OpenSpec.upto (s : _root_.Go.ChangeSpec) : _root_.Go.OpenSpec := { _root_.Go.OpenSpec.ofChange s with cond := some uptoSmall }

/-- 'laws.FnExactSingleValid', WHERE WHAT IT READS IS OF BULK AT MOST 1048576: true; the input reads as it did. -/
def fnExactSingleValidUptoRow : OpenClaim := { program := "ytcihbeejnboofaa", sum := "232822469d8dfc7da48d35579f88ab34e786d4a7c804d43c2c704e21178ce903", func := "loop.example/blockboxes/laws.FnExactSingleValid", spec := "fnExactSingleValid", apart := false, narrowed := true }
def FnExactSingleValidUptoSaid : Prop := fnExactSingleValidUptoRow.holds Try.pinned (OpenSpec.upto fnExactSingleValidSpec)

/-- 'laws.FnExactSingleStarts', WHERE WHAT IT READS IS OF BULK AT MOST 1048576: true; the input reads as it did. -/
def fnExactSingleStartsUptoRow : OpenClaim := { program := "ytcihbeejnboofaa", sum := "232822469d8dfc7da48d35579f88ab34e786d4a7c804d43c2c704e21178ce903", func := "loop.example/blockboxes/laws.FnExactSingleStarts", spec := "fnExactSingleStarts", inPlace := ["internal/bytealg.CountString", "internal/bytealg.IndexByteString", "internal/bytealg.IndexString"], named := ["internal/bytealg.MaxLen"], apart := false, narrowed := true }
def FnExactSingleStartsUptoSaid : Prop := fnExactSingleStartsUptoRow.holds Try.pinned (OpenSpec.upto fnExactSingleStartsSpec)

/-- 'laws.FnExactSingleWait', WHERE WHAT IT READS IS OF BULK AT MOST 1048576: true; the input reads as it did. -/
def fnExactSingleWaitUptoRow : OpenClaim := { program := "ytcihbeejnboofaa", sum := "232822469d8dfc7da48d35579f88ab34e786d4a7c804d43c2c704e21178ce903", func := "loop.example/blockboxes/laws.FnExactSingleWait", spec := "fnExactSingleWait", inPlace := ["internal/bytealg.CountString", "internal/bytealg.IndexByteString", "internal/bytealg.IndexString"], named := ["internal/bytealg.MaxLen"], apart := false, narrowed := true }
def FnExactSingleWaitUptoSaid : Prop := fnExactSingleWaitUptoRow.holds Try.pinned (OpenSpec.upto fnExactSingleWaitSpec)

/-- 'laws.FnExactSingleEnd', WHERE WHAT IT READS IS OF BULK AT MOST 1048576: true; the input reads as it did. -/
def fnExactSingleEndUptoRow : OpenClaim := { program := "ytcihbeejnboofaa", sum := "232822469d8dfc7da48d35579f88ab34e786d4a7c804d43c2c704e21178ce903", func := "loop.example/blockboxes/laws.FnExactSingleEnd", spec := "fnExactSingleEnd", inPlace := ["internal/bytealg.CountString", "internal/bytealg.IndexByteString", "internal/bytealg.IndexString"], named := ["internal/bytealg.MaxLen"], apart := false, narrowed := true }
def FnExactSingleEndUptoSaid : Prop := fnExactSingleEndUptoRow.holds Try.pinned (OpenSpec.upto fnExactSingleEndSpec)

/-- 'laws.FnExactSingleBest', WHERE WHAT IT READS IS OF BULK AT MOST 1048576: true; the input reads as it did. -/
def fnExactSingleBestUptoRow : OpenClaim := { program := "ytcihbeejnboofaa", sum := "232822469d8dfc7da48d35579f88ab34e786d4a7c804d43c2c704e21178ce903", func := "loop.example/blockboxes/laws.FnExactSingleBest", spec := "fnExactSingleBest", inPlace := ["internal/bytealg.CountString", "internal/bytealg.IndexByteString", "internal/bytealg.IndexString"], unfollowed := true, recurses := true, named := ["internal/bytealg.MaxLen"], apart := false, narrowed := true }
def FnExactSingleBestUptoSaid : Prop := fnExactSingleBestUptoRow.holds Try.pinned (OpenSpec.upto fnExactSingleBestSpec)

/-- 'laws.FnExactSingleSoon', WHERE WHAT IT READS IS OF BULK AT MOST 1048576: true; the input reads as it did. -/
def fnExactSingleSoonUptoRow : OpenClaim := { program := "ytcihbeejnboofaa", sum := "232822469d8dfc7da48d35579f88ab34e786d4a7c804d43c2c704e21178ce903", func := "loop.example/blockboxes/laws.FnExactSingleSoon", spec := "fnExactSingleSoon", inPlace := ["internal/bytealg.CountString", "internal/bytealg.IndexByteString", "internal/bytealg.IndexString"], unfollowed := true, recurses := true, named := ["internal/bytealg.MaxLen"], apart := false, narrowed := true }
def FnExactSingleSoonUptoSaid : Prop := fnExactSingleSoonUptoRow.holds Try.pinned (OpenSpec.upto fnExactSingleSoonSpec)

/-- 'laws.FnExactSingleMany', WHERE WHAT IT READS IS OF BULK AT MOST 1048576: true; the input reads as it did. -/
def fnExactSingleManyUptoRow : OpenClaim := { program := "ytcihbeejnboofaa", sum := "232822469d8dfc7da48d35579f88ab34e786d4a7c804d43c2c704e21178ce903", func := "loop.example/blockboxes/laws.FnExactSingleMany", spec := "fnExactSingleMany", unfollowed := true, recurses := true, apart := false, narrowed := true }
def FnExactSingleManyUptoSaid : Prop := fnExactSingleManyUptoRow.holds Try.pinned (OpenSpec.upto fnExactSingleManySpec)

/-- 'laws.FnExactSingleNth', WHERE WHAT IT READS IS OF BULK AT MOST 1048576: true; the input reads as it did. -/
def fnExactSingleNthUptoRow : OpenClaim := { program := "ytcihbeejnboofaa", sum := "232822469d8dfc7da48d35579f88ab34e786d4a7c804d43c2c704e21178ce903", func := "loop.example/blockboxes/laws.FnExactSingleNth", spec := "fnExactSingleNth", unfollowed := true, recurses := true, apart := false, narrowed := true }
def FnExactSingleNthUptoSaid : Prop := fnExactSingleNthUptoRow.holds Try.pinned (OpenSpec.upto fnExactSingleNthSpec)

/-- 'laws.FnExactSingleRank', WHERE WHAT IT READS IS OF BULK AT MOST 1048576: true; the input reads as it did. -/
def fnExactSingleRankUptoRow : OpenClaim := { program := "ytcihbeejnboofaa", sum := "232822469d8dfc7da48d35579f88ab34e786d4a7c804d43c2c704e21178ce903", func := "loop.example/blockboxes/laws.FnExactSingleRank", spec := "fnExactSingleRank", inPlace := ["internal/bytealg.CountString", "internal/bytealg.IndexByteString", "internal/bytealg.IndexString"], unfollowed := true, recurses := true, named := ["internal/bytealg.MaxLen"], apart := false, narrowed := true }
def FnExactSingleRankUptoSaid : Prop := fnExactSingleRankUptoRow.holds Try.pinned (OpenSpec.upto fnExactSingleRankSpec)

/-- 'laws.FnExactSingleTurn', WHERE WHAT IT READS IS OF BULK AT MOST 1048576: true; the input reads as it did. -/
def fnExactSingleTurnUptoRow : OpenClaim := { program := "ytcihbeejnboofaa", sum := "232822469d8dfc7da48d35579f88ab34e786d4a7c804d43c2c704e21178ce903", func := "loop.example/blockboxes/laws.FnExactSingleTurn", spec := "fnExactSingleTurn", apart := false, narrowed := true }
def FnExactSingleTurnUptoSaid : Prop := fnExactSingleTurnUptoRow.holds Try.pinned (OpenSpec.upto fnExactSingleTurnSpec)

/-- 'laws.FnExactSingleLater', WHERE WHAT IT READS IS OF BULK AT MOST 1048576: true; the input reads as it did. -/
def fnExactSingleLaterUptoRow : OpenClaim := { program := "ytcihbeejnboofaa", sum := "232822469d8dfc7da48d35579f88ab34e786d4a7c804d43c2c704e21178ce903", func := "loop.example/blockboxes/laws.FnExactSingleLater", spec := "fnExactSingleLater", apart := false, narrowed := true }
def FnExactSingleLaterUptoSaid : Prop := fnExactSingleLaterUptoRow.holds Try.pinned (OpenSpec.upto fnExactSingleLaterSpec)

/-- 'laws.FnExactSingleFirst', WHERE WHAT IT READS IS OF BULK AT MOST 1048576: true; the input reads as it did. -/
def fnExactSingleFirstUptoRow : OpenClaim := { program := "ytcihbeejnboofaa", sum := "232822469d8dfc7da48d35579f88ab34e786d4a7c804d43c2c704e21178ce903", func := "loop.example/blockboxes/laws.FnExactSingleFirst", spec := "fnExactSingleFirst", inPlace := ["internal/abi.NoEscape"], apart := false, narrowed := true }
def FnExactSingleFirstUptoSaid : Prop := fnExactSingleFirstUptoRow.holds Try.pinned (OpenSpec.upto fnExactSingleFirstSpec)

end Rows
end Go.Proofs.Ytcihbeejnboofaa
