/-
  NARROWER THAN 'FOR EVERY INPUT', by the rows' own cells (each row's printed sentence says how): FnExactDirectionsValid: laid · FnExactTokenTrains: laid · FnExactTokenNeeds: laid · FnExactTokenCarry: laid · FnExactDirectionsTurn: laid · FnExactDirectionsChanges: laid · FnExactStaffRun: laid · FnExactStaffKinds: laid · FnExactStaffMany: laid.
  DERIVED. THE GIVEN ROWS OF THIS SEAT. 9 by the template 'for every input the law returns true; each argument reads behind the call as it read before'; 0 by the template 'total and deterministic' (their statements: YtlheikmipljbaaaDoorTotals.lean).
  GIVEN WITH THE SEED: the statements are not yours to turn. If you find one false, say at which input.
  Laid BY PROGRAM, IN A SANDBOX (cutbox-rows.mjs): the forced cells as the released guide's own fill.sh prints them over the translation 2b7117629d964ede… (all of the seat's roots in one cut). By AI agents, Wed Nov 11 2026. No macro, syntax, notation, axiom, sorry.
-/
import Derived.Test.YtlheikmipljbaaaDoorChecked
import GoSem.PinnedTables
import GoSem.Claim
import GoSem.ClaimJoined
import GoSem.ClaimMapViews
import Derived.JoinedTies
import Derived.KernelRfl
namespace Go.Proofs.YtlheikmipljbaaaDoor
/- THE CELL 'sum', in the pinned program and in every row, IS THE sha256 OF THE DUMP (.gsa) THAT YtlheikmipljbaaaDoorProg.lean LOADS. Nothing in Lean hashes anything: it is a label: what it is worth is what the hold of that sum in a sandbox is worth. -/
noncomputable def Tryd.pinned : Pinned := { name := "ytlheikmipljbaaadoor", sum := "2b7117629d964ede0ffe8a0b3ab7f04a3c2aedde62ab6c7c107f958bf7083fd3", checked := Tryd.checked }
namespace Rows
def none {H : Type} : Left H := { results := [], args := [] }

/- WHAT THE LISTED PACKAGE-LEVEL VARIABLES READ AS WHEN THE CALL BEGINS. Each datum BY PROGRAM (the guide's laid-datum.mjs) off the statement by which the dump's own 'gosem.cut.vars' lays the variable. In a bare row this is a premise. The card (YtlheikmipljbaaaDoorCards.lean) ties it to the program's text. -/
def laid_unicode_utf8_acceptRanges {H : Type} : DataW H := .agg [.agg [.lit (.int .u8 128), .lit (.int .u8 191)], .agg [.lit (.int .u8 160), .lit (.int .u8 191)], .agg [.lit (.int .u8 128), .lit (.int .u8 159)], .agg [.lit (.int .u8 144), .lit (.int .u8 191)], .agg [.lit (.int .u8 128), .lit (.int .u8 143)], .agg [.lit (.int .u8 0), .lit (.int .u8 0)], .agg [.lit (.int .u8 0), .lit (.int .u8 0)], .agg [.lit (.int .u8 0), .lit (.int .u8 0)], .agg [.lit (.int .u8 0), .lit (.int .u8 0)], .agg [.lit (.int .u8 0), .lit (.int .u8 0)], .agg [.lit (.int .u8 0), .lit (.int .u8 0)], .agg [.lit (.int .u8 0), .lit (.int .u8 0)], .agg [.lit (.int .u8 0), .lit (.int .u8 0)], .agg [.lit (.int .u8 0), .lit (.int .u8 0)], .agg [.lit (.int .u8 0), .lit (.int .u8 0)], .agg [.lit (.int .u8 0), .lit (.int .u8 0)]]
/-- One of Go's own tables, pinned by name: the form's constant. -/
def laid_unicode_utf8_first : DataW Unit := Go.Pinned.utf8First

/-- 'laws.FnExactDirectionsValid': WHATEVER THE INPUT: true; the input reads as it did. -/
def fnExactDirectionsValidSpec : ChangeSpec := { name := "fnExactDirectionsValid", fn := fun _ => fun
  | [d] => { results := [.lit (.bool true)], args := [d] }
  | _ => none }
def fnExactDirectionsValidRow : OpenClaim := { program := "ytlheikmipljbaaadoor", sum := "2b7117629d964ede0ffe8a0b3ab7f04a3c2aedde62ab6c7c107f958bf7083fd3", func := "loop.example/blockboxes/laws.FnExactDirectionsValid", spec := "fnExactDirectionsValid", inPlace := ["internal/bytealg.IndexByteString", "internal/bytealg.IndexString"], named := ["unicode/utf8.first", "unicode/utf8.acceptRanges", "internal/bytealg.MaxLen"], apart := false, laid := [("unicode/utf8.acceptRanges", laid_unicode_utf8_acceptRanges), ("unicode/utf8.first", laid_unicode_utf8_first)] }
def FnExactDirectionsValidSaid : Prop := fnExactDirectionsValidRow.holds Tryd.pinned (OpenSpec.ofChange fnExactDirectionsValidSpec)

/-- ITS FALSE NEIGHBOUR: 'it returns false'. Refute it at one input. -/
def fnExactDirectionsValidWrong : ChangeSpec := { name := "fnExactDirectionsValid", fn := fun _ => fun
  | [d] => { results := [.lit (.bool false)], args := [d] }
  | _ => none }
def FnExactDirectionsValidWrongFalsely : Prop := fnExactDirectionsValidRow.holds Tryd.pinned (OpenSpec.ofChange fnExactDirectionsValidWrong)

/-- 'laws.FnExactTokenTrains': WHATEVER THE INPUT: true; the input reads as it did. -/
def fnExactTokenTrainsSpec : ChangeSpec := { name := "fnExactTokenTrains", fn := fun _ => fun
  | [d] => { results := [.lit (.bool true)], args := [d] }
  | _ => none }
def fnExactTokenTrainsRow : OpenClaim := { program := "ytlheikmipljbaaadoor", sum := "2b7117629d964ede0ffe8a0b3ab7f04a3c2aedde62ab6c7c107f958bf7083fd3", func := "loop.example/blockboxes/laws.FnExactTokenTrains", spec := "fnExactTokenTrains", inPlace := ["internal/bytealg.IndexByteString", "internal/bytealg.IndexString", "sync/atomic.LoadUint32", "(*internal/sync.Mutex).Lock", "internal/race.Disable", "sync/atomic.CompareAndSwapInt32", "internal/race.Enable", "internal/race.Acquire", "(*internal/sync.Mutex).lockSlow", "internal/sync.runtime_canSpin", "internal/sync.runtime_doSpin", "internal/sync.throw", "internal/sync.runtime_nanotime", "internal/sync.runtime_SemacquireMutex", "sync/atomic.AddInt32", "(*internal/sync.Mutex).Unlock", "internal/race.ReleaseMerge", "(*internal/sync.Mutex).unlockSlow", "internal/sync.fatal", "internal/sync.runtime_Semrelease", "sync/atomic.StoreUint32"], unfollowed := true, recurses := true, named := ["unicode/utf8.first", "unicode/utf8.acceptRanges", "internal/bytealg.MaxLen"], apart := false, laid := [("unicode/utf8.acceptRanges", laid_unicode_utf8_acceptRanges), ("unicode/utf8.first", laid_unicode_utf8_first)] }
def FnExactTokenTrainsSaid : Prop := fnExactTokenTrainsRow.holds Tryd.pinned (OpenSpec.ofChange fnExactTokenTrainsSpec)

/-- ITS FALSE NEIGHBOUR: 'it returns false'. Refute it at one input. -/
def fnExactTokenTrainsWrong : ChangeSpec := { name := "fnExactTokenTrains", fn := fun _ => fun
  | [d] => { results := [.lit (.bool false)], args := [d] }
  | _ => none }
def FnExactTokenTrainsWrongFalsely : Prop := fnExactTokenTrainsRow.holds Tryd.pinned (OpenSpec.ofChange fnExactTokenTrainsWrong)

/-- 'laws.FnExactTokenNeeds': WHATEVER THE INPUT: true; the input reads as it did. -/
def fnExactTokenNeedsSpec : ChangeSpec := { name := "fnExactTokenNeeds", fn := fun _ => fun
  | [d] => { results := [.lit (.bool true)], args := [d] }
  | _ => none }
def fnExactTokenNeedsRow : OpenClaim := { program := "ytlheikmipljbaaadoor", sum := "2b7117629d964ede0ffe8a0b3ab7f04a3c2aedde62ab6c7c107f958bf7083fd3", func := "loop.example/blockboxes/laws.FnExactTokenNeeds", spec := "fnExactTokenNeeds", inPlace := ["internal/bytealg.IndexByteString", "internal/bytealg.IndexString"], named := ["unicode/utf8.first", "unicode/utf8.acceptRanges", "internal/bytealg.MaxLen"], apart := false, laid := [("unicode/utf8.acceptRanges", laid_unicode_utf8_acceptRanges), ("unicode/utf8.first", laid_unicode_utf8_first)] }
def FnExactTokenNeedsSaid : Prop := fnExactTokenNeedsRow.holds Tryd.pinned (OpenSpec.ofChange fnExactTokenNeedsSpec)

/-- ITS FALSE NEIGHBOUR: 'it returns false'. Refute it at one input. -/
def fnExactTokenNeedsWrong : ChangeSpec := { name := "fnExactTokenNeeds", fn := fun _ => fun
  | [d] => { results := [.lit (.bool false)], args := [d] }
  | _ => none }
def FnExactTokenNeedsWrongFalsely : Prop := fnExactTokenNeedsRow.holds Tryd.pinned (OpenSpec.ofChange fnExactTokenNeedsWrong)

/-- 'laws.FnExactTokenCarry': WHATEVER THE INPUT: true; the input reads as it did. -/
def fnExactTokenCarrySpec : ChangeSpec := { name := "fnExactTokenCarry", fn := fun _ => fun
  | [d1, d2] => { results := [.lit (.bool true)], args := [d1, d2] }
  | _ => none }
def fnExactTokenCarryRow : OpenClaim := { program := "ytlheikmipljbaaadoor", sum := "2b7117629d964ede0ffe8a0b3ab7f04a3c2aedde62ab6c7c107f958bf7083fd3", func := "loop.example/blockboxes/laws.FnExactTokenCarry", spec := "fnExactTokenCarry", inPlace := ["internal/bytealg.IndexByteString", "internal/bytealg.IndexString"], named := ["unicode/utf8.first", "unicode/utf8.acceptRanges", "internal/bytealg.MaxLen"], apart := false, laid := [("unicode/utf8.acceptRanges", laid_unicode_utf8_acceptRanges), ("unicode/utf8.first", laid_unicode_utf8_first)] }
def FnExactTokenCarrySaid : Prop := fnExactTokenCarryRow.holds Tryd.pinned (OpenSpec.ofChange fnExactTokenCarrySpec)

/-- ITS FALSE NEIGHBOUR: 'it returns false'. Refute it at one input. -/
def fnExactTokenCarryWrong : ChangeSpec := { name := "fnExactTokenCarry", fn := fun _ => fun
  | [d1, d2] => { results := [.lit (.bool false)], args := [d1, d2] }
  | _ => none }
def FnExactTokenCarryWrongFalsely : Prop := fnExactTokenCarryRow.holds Tryd.pinned (OpenSpec.ofChange fnExactTokenCarryWrong)

/-- 'laws.FnExactDirectionsTurn': WHATEVER THE INPUT: true; the input reads as it did. -/
def fnExactDirectionsTurnSpec : ChangeSpec := { name := "fnExactDirectionsTurn", fn := fun _ => fun
  | [d] => { results := [.lit (.bool true)], args := [d] }
  | _ => none }
def fnExactDirectionsTurnRow : OpenClaim := { program := "ytlheikmipljbaaadoor", sum := "2b7117629d964ede0ffe8a0b3ab7f04a3c2aedde62ab6c7c107f958bf7083fd3", func := "loop.example/blockboxes/laws.FnExactDirectionsTurn", spec := "fnExactDirectionsTurn", inPlace := ["internal/bytealg.IndexByteString", "internal/bytealg.IndexString", "sync/atomic.LoadUint32", "(*internal/sync.Mutex).Lock", "internal/race.Disable", "sync/atomic.CompareAndSwapInt32", "internal/race.Enable", "internal/race.Acquire", "(*internal/sync.Mutex).lockSlow", "internal/sync.runtime_canSpin", "internal/sync.runtime_doSpin", "internal/sync.throw", "internal/sync.runtime_nanotime", "internal/sync.runtime_SemacquireMutex", "sync/atomic.AddInt32", "(*internal/sync.Mutex).Unlock", "internal/race.ReleaseMerge", "(*internal/sync.Mutex).unlockSlow", "internal/sync.fatal", "internal/sync.runtime_Semrelease", "sync/atomic.StoreUint32"], unfollowed := true, recurses := true, named := ["unicode/utf8.first", "unicode/utf8.acceptRanges", "internal/bytealg.MaxLen"], apart := false, laid := [("unicode/utf8.acceptRanges", laid_unicode_utf8_acceptRanges), ("unicode/utf8.first", laid_unicode_utf8_first)] }
def FnExactDirectionsTurnSaid : Prop := fnExactDirectionsTurnRow.holds Tryd.pinned (OpenSpec.ofChange fnExactDirectionsTurnSpec)

/-- ITS FALSE NEIGHBOUR: 'it returns false'. Refute it at one input. -/
def fnExactDirectionsTurnWrong : ChangeSpec := { name := "fnExactDirectionsTurn", fn := fun _ => fun
  | [d] => { results := [.lit (.bool false)], args := [d] }
  | _ => none }
def FnExactDirectionsTurnWrongFalsely : Prop := fnExactDirectionsTurnRow.holds Tryd.pinned (OpenSpec.ofChange fnExactDirectionsTurnWrong)

/-- 'laws.FnExactDirectionsChanges': WHATEVER THE INPUT: true; the input reads as it did. -/
def fnExactDirectionsChangesSpec : ChangeSpec := { name := "fnExactDirectionsChanges", fn := fun _ => fun
  | [d] => { results := [.lit (.bool true)], args := [d] }
  | _ => none }
def fnExactDirectionsChangesRow : OpenClaim := { program := "ytlheikmipljbaaadoor", sum := "2b7117629d964ede0ffe8a0b3ab7f04a3c2aedde62ab6c7c107f958bf7083fd3", func := "loop.example/blockboxes/laws.FnExactDirectionsChanges", spec := "fnExactDirectionsChanges", inPlace := ["internal/bytealg.IndexByteString", "internal/bytealg.IndexString", "internal/bytealg.CountString"], named := ["unicode/utf8.first", "unicode/utf8.acceptRanges", "internal/bytealg.MaxLen"], apart := false, laid := [("unicode/utf8.acceptRanges", laid_unicode_utf8_acceptRanges), ("unicode/utf8.first", laid_unicode_utf8_first)] }
def FnExactDirectionsChangesSaid : Prop := fnExactDirectionsChangesRow.holds Tryd.pinned (OpenSpec.ofChange fnExactDirectionsChangesSpec)

/-- ITS FALSE NEIGHBOUR: 'it returns false'. Refute it at one input. -/
def fnExactDirectionsChangesWrong : ChangeSpec := { name := "fnExactDirectionsChanges", fn := fun _ => fun
  | [d] => { results := [.lit (.bool false)], args := [d] }
  | _ => none }
def FnExactDirectionsChangesWrongFalsely : Prop := fnExactDirectionsChangesRow.holds Tryd.pinned (OpenSpec.ofChange fnExactDirectionsChangesWrong)

/-- 'laws.FnExactStaffRun': WHATEVER THE INPUT: true; the input reads as it did. -/
def fnExactStaffRunSpec : ChangeSpec := { name := "fnExactStaffRun", fn := fun _ => fun
  | [d1, d2, d3] => { results := [.lit (.bool true)], args := [d1, d2, d3] }
  | _ => none }
def fnExactStaffRunRow : OpenClaim := { program := "ytlheikmipljbaaadoor", sum := "2b7117629d964ede0ffe8a0b3ab7f04a3c2aedde62ab6c7c107f958bf7083fd3", func := "loop.example/blockboxes/laws.FnExactStaffRun", spec := "fnExactStaffRun", inPlace := ["internal/bytealg.IndexByteString", "internal/bytealg.IndexString"], named := ["unicode/utf8.first", "unicode/utf8.acceptRanges", "internal/bytealg.MaxLen"], apart := false, laid := [("unicode/utf8.acceptRanges", laid_unicode_utf8_acceptRanges), ("unicode/utf8.first", laid_unicode_utf8_first)] }
def FnExactStaffRunSaid : Prop := fnExactStaffRunRow.holds Tryd.pinned (OpenSpec.ofChange fnExactStaffRunSpec)

/-- ITS FALSE NEIGHBOUR: 'it returns false'. Refute it at one input. -/
def fnExactStaffRunWrong : ChangeSpec := { name := "fnExactStaffRun", fn := fun _ => fun
  | [d1, d2, d3] => { results := [.lit (.bool false)], args := [d1, d2, d3] }
  | _ => none }
def FnExactStaffRunWrongFalsely : Prop := fnExactStaffRunRow.holds Tryd.pinned (OpenSpec.ofChange fnExactStaffRunWrong)

/-- 'laws.FnExactStaffKinds': WHATEVER THE INPUT: true; the input reads as it did. -/
def fnExactStaffKindsSpec : ChangeSpec := { name := "fnExactStaffKinds", fn := fun _ => fun
  | [d1, d2] => { results := [.lit (.bool true)], args := [d1, d2] }
  | _ => none }
def fnExactStaffKindsRow : OpenClaim := { program := "ytlheikmipljbaaadoor", sum := "2b7117629d964ede0ffe8a0b3ab7f04a3c2aedde62ab6c7c107f958bf7083fd3", func := "loop.example/blockboxes/laws.FnExactStaffKinds", spec := "fnExactStaffKinds", inPlace := ["internal/abi.NoEscape", "internal/bytealg.IndexByteString", "internal/bytealg.IndexString"], named := ["unicode/utf8.first", "unicode/utf8.acceptRanges", "internal/bytealg.MaxLen"], apart := false, laid := [("unicode/utf8.acceptRanges", laid_unicode_utf8_acceptRanges), ("unicode/utf8.first", laid_unicode_utf8_first)] }
def FnExactStaffKindsSaid : Prop := fnExactStaffKindsRow.holds Tryd.pinned (OpenSpec.ofChange fnExactStaffKindsSpec)

/-- ITS FALSE NEIGHBOUR: 'it returns false'. Refute it at one input. -/
def fnExactStaffKindsWrong : ChangeSpec := { name := "fnExactStaffKinds", fn := fun _ => fun
  | [d1, d2] => { results := [.lit (.bool false)], args := [d1, d2] }
  | _ => none }
def FnExactStaffKindsWrongFalsely : Prop := fnExactStaffKindsRow.holds Tryd.pinned (OpenSpec.ofChange fnExactStaffKindsWrong)

/-- 'laws.FnExactStaffMany': WHATEVER THE INPUT: true; the input reads as it did. -/
def fnExactStaffManySpec : ChangeSpec := { name := "fnExactStaffMany", fn := fun _ => fun
  | [d1, d2] => { results := [.lit (.bool true)], args := [d1, d2] }
  | _ => none }
def fnExactStaffManyRow : OpenClaim := { program := "ytlheikmipljbaaadoor", sum := "2b7117629d964ede0ffe8a0b3ab7f04a3c2aedde62ab6c7c107f958bf7083fd3", func := "loop.example/blockboxes/laws.FnExactStaffMany", spec := "fnExactStaffMany", inPlace := ["internal/bytealg.IndexByteString", "internal/bytealg.IndexString", "internal/abi.NoEscape"], named := ["unicode/utf8.first", "unicode/utf8.acceptRanges", "internal/bytealg.MaxLen"], apart := false, laid := [("unicode/utf8.acceptRanges", laid_unicode_utf8_acceptRanges), ("unicode/utf8.first", laid_unicode_utf8_first)] }
def FnExactStaffManySaid : Prop := fnExactStaffManyRow.holds Tryd.pinned (OpenSpec.ofChange fnExactStaffManySpec)

/-- ITS FALSE NEIGHBOUR: 'it returns false'. Refute it at one input. -/
def fnExactStaffManyWrong : ChangeSpec := { name := "fnExactStaffMany", fn := fun _ => fun
  | [d1, d2] => { results := [.lit (.bool false)], args := [d1, d2] }
  | _ => none }
def FnExactStaffManyWrongFalsely : Prop := fnExactStaffManyRow.holds Tryd.pinned (OpenSpec.ofChange fnExactStaffManyWrong)

/- THE SECOND FORM. 'bulk': how many values and letters a reading holds, each counted each time it is reached (what is shared counts as often as it is met; a slice's spare places count too). A statement '..UptoSaid' is the law's where the arguments, and the package variables that the reading takes, are together of bulk at most 1048576: NARROWER than '..Said'. Prove '..Said' where nothing that the law and all that it calls make is longer than what came in: it says more and counts as full. Else prove '..UptoSaid'. A law counts once. -/
mutual
def uptoBulk {H : Type} : DataW H → Nat
  | .lit (.string bytes) => bytes.length + 1
  | .lit _ => 1
  | .nil => 1
  | .ptr d => uptoBulk d + 1
  | .slice elems spare => uptoBulkAll elems + uptoBulkAll spare + 1
  | .agg parts => uptoBulkAll parts + 1
  | .iface _ d => uptoBulk d + 1
  | .map entries => uptoBulkEntries entries + 1
  | .held _ => 1
def uptoBulkAll {H : Type} : List (DataW H) → Nat
  | [] => 0
  | d :: r => uptoBulk d + uptoBulkAll r
def uptoBulkEntries {H : Type} : List (Lit × DataW H) → Nat
  | [] => 0
  | x :: r => uptoBulkEntry x + uptoBulkEntries r
def uptoBulkEntry {H : Type} : Lit × DataW H → Nat
  | (.string bytes, d) => bytes.length + uptoBulk d + 1
  | (_, d) => uptoBulk d + 1
 end
def uptoSmall : (H : Type) → List (DataW H) → Bool := fun _ ds => decide (uptoBulkAll ds ≤ 1048576)
def OpenSpec.upto (s : _root_.Go.ChangeSpec) : _root_.Go.OpenSpec := { _root_.Go.OpenSpec.ofChange s with cond := some uptoSmall }

/-- 'laws.FnExactDirectionsValid', WHERE WHAT IT READS IS OF BULK AT MOST 1048576: true; the input reads as it did. -/
def fnExactDirectionsValidUptoRow : OpenClaim := { program := "ytlheikmipljbaaadoor", sum := "2b7117629d964ede0ffe8a0b3ab7f04a3c2aedde62ab6c7c107f958bf7083fd3", func := "loop.example/blockboxes/laws.FnExactDirectionsValid", spec := "fnExactDirectionsValid", inPlace := ["internal/bytealg.IndexByteString", "internal/bytealg.IndexString"], named := ["unicode/utf8.first", "unicode/utf8.acceptRanges", "internal/bytealg.MaxLen"], apart := false, laid := [("unicode/utf8.acceptRanges", laid_unicode_utf8_acceptRanges), ("unicode/utf8.first", laid_unicode_utf8_first)], narrowed := true }
def FnExactDirectionsValidUptoSaid : Prop := fnExactDirectionsValidUptoRow.holds Tryd.pinned (OpenSpec.upto fnExactDirectionsValidSpec)

/-- 'laws.FnExactTokenTrains', WHERE WHAT IT READS IS OF BULK AT MOST 1048576: true; the input reads as it did. -/
def fnExactTokenTrainsUptoRow : OpenClaim := { program := "ytlheikmipljbaaadoor", sum := "2b7117629d964ede0ffe8a0b3ab7f04a3c2aedde62ab6c7c107f958bf7083fd3", func := "loop.example/blockboxes/laws.FnExactTokenTrains", spec := "fnExactTokenTrains", inPlace := ["internal/bytealg.IndexByteString", "internal/bytealg.IndexString", "sync/atomic.LoadUint32", "(*internal/sync.Mutex).Lock", "internal/race.Disable", "sync/atomic.CompareAndSwapInt32", "internal/race.Enable", "internal/race.Acquire", "(*internal/sync.Mutex).lockSlow", "internal/sync.runtime_canSpin", "internal/sync.runtime_doSpin", "internal/sync.throw", "internal/sync.runtime_nanotime", "internal/sync.runtime_SemacquireMutex", "sync/atomic.AddInt32", "(*internal/sync.Mutex).Unlock", "internal/race.ReleaseMerge", "(*internal/sync.Mutex).unlockSlow", "internal/sync.fatal", "internal/sync.runtime_Semrelease", "sync/atomic.StoreUint32"], unfollowed := true, recurses := true, named := ["unicode/utf8.first", "unicode/utf8.acceptRanges", "internal/bytealg.MaxLen"], apart := false, laid := [("unicode/utf8.acceptRanges", laid_unicode_utf8_acceptRanges), ("unicode/utf8.first", laid_unicode_utf8_first)], narrowed := true }
def FnExactTokenTrainsUptoSaid : Prop := fnExactTokenTrainsUptoRow.holds Tryd.pinned (OpenSpec.upto fnExactTokenTrainsSpec)

/-- 'laws.FnExactTokenNeeds', WHERE WHAT IT READS IS OF BULK AT MOST 1048576: true; the input reads as it did. -/
def fnExactTokenNeedsUptoRow : OpenClaim := { program := "ytlheikmipljbaaadoor", sum := "2b7117629d964ede0ffe8a0b3ab7f04a3c2aedde62ab6c7c107f958bf7083fd3", func := "loop.example/blockboxes/laws.FnExactTokenNeeds", spec := "fnExactTokenNeeds", inPlace := ["internal/bytealg.IndexByteString", "internal/bytealg.IndexString"], named := ["unicode/utf8.first", "unicode/utf8.acceptRanges", "internal/bytealg.MaxLen"], apart := false, laid := [("unicode/utf8.acceptRanges", laid_unicode_utf8_acceptRanges), ("unicode/utf8.first", laid_unicode_utf8_first)], narrowed := true }
def FnExactTokenNeedsUptoSaid : Prop := fnExactTokenNeedsUptoRow.holds Tryd.pinned (OpenSpec.upto fnExactTokenNeedsSpec)

/-- 'laws.FnExactTokenCarry', WHERE WHAT IT READS IS OF BULK AT MOST 1048576: true; the input reads as it did. -/
def fnExactTokenCarryUptoRow : OpenClaim := { program := "ytlheikmipljbaaadoor", sum := "2b7117629d964ede0ffe8a0b3ab7f04a3c2aedde62ab6c7c107f958bf7083fd3", func := "loop.example/blockboxes/laws.FnExactTokenCarry", spec := "fnExactTokenCarry", inPlace := ["internal/bytealg.IndexByteString", "internal/bytealg.IndexString"], named := ["unicode/utf8.first", "unicode/utf8.acceptRanges", "internal/bytealg.MaxLen"], apart := false, laid := [("unicode/utf8.acceptRanges", laid_unicode_utf8_acceptRanges), ("unicode/utf8.first", laid_unicode_utf8_first)], narrowed := true }
def FnExactTokenCarryUptoSaid : Prop := fnExactTokenCarryUptoRow.holds Tryd.pinned (OpenSpec.upto fnExactTokenCarrySpec)

/-- 'laws.FnExactDirectionsTurn', WHERE WHAT IT READS IS OF BULK AT MOST 1048576: true; the input reads as it did. -/
def fnExactDirectionsTurnUptoRow : OpenClaim := { program := "ytlheikmipljbaaadoor", sum := "2b7117629d964ede0ffe8a0b3ab7f04a3c2aedde62ab6c7c107f958bf7083fd3", func := "loop.example/blockboxes/laws.FnExactDirectionsTurn", spec := "fnExactDirectionsTurn", inPlace := ["internal/bytealg.IndexByteString", "internal/bytealg.IndexString", "sync/atomic.LoadUint32", "(*internal/sync.Mutex).Lock", "internal/race.Disable", "sync/atomic.CompareAndSwapInt32", "internal/race.Enable", "internal/race.Acquire", "(*internal/sync.Mutex).lockSlow", "internal/sync.runtime_canSpin", "internal/sync.runtime_doSpin", "internal/sync.throw", "internal/sync.runtime_nanotime", "internal/sync.runtime_SemacquireMutex", "sync/atomic.AddInt32", "(*internal/sync.Mutex).Unlock", "internal/race.ReleaseMerge", "(*internal/sync.Mutex).unlockSlow", "internal/sync.fatal", "internal/sync.runtime_Semrelease", "sync/atomic.StoreUint32"], unfollowed := true, recurses := true, named := ["unicode/utf8.first", "unicode/utf8.acceptRanges", "internal/bytealg.MaxLen"], apart := false, laid := [("unicode/utf8.acceptRanges", laid_unicode_utf8_acceptRanges), ("unicode/utf8.first", laid_unicode_utf8_first)], narrowed := true }
def FnExactDirectionsTurnUptoSaid : Prop := fnExactDirectionsTurnUptoRow.holds Tryd.pinned (OpenSpec.upto fnExactDirectionsTurnSpec)

/-- 'laws.FnExactDirectionsChanges', WHERE WHAT IT READS IS OF BULK AT MOST 1048576: true; the input reads as it did. -/
def fnExactDirectionsChangesUptoRow : OpenClaim := { program := "ytlheikmipljbaaadoor", sum := "2b7117629d964ede0ffe8a0b3ab7f04a3c2aedde62ab6c7c107f958bf7083fd3", func := "loop.example/blockboxes/laws.FnExactDirectionsChanges", spec := "fnExactDirectionsChanges", inPlace := ["internal/bytealg.IndexByteString", "internal/bytealg.IndexString", "internal/bytealg.CountString"], named := ["unicode/utf8.first", "unicode/utf8.acceptRanges", "internal/bytealg.MaxLen"], apart := false, laid := [("unicode/utf8.acceptRanges", laid_unicode_utf8_acceptRanges), ("unicode/utf8.first", laid_unicode_utf8_first)], narrowed := true }
def FnExactDirectionsChangesUptoSaid : Prop := fnExactDirectionsChangesUptoRow.holds Tryd.pinned (OpenSpec.upto fnExactDirectionsChangesSpec)

/-- 'laws.FnExactStaffRun', WHERE WHAT IT READS IS OF BULK AT MOST 1048576: true; the input reads as it did. -/
def fnExactStaffRunUptoRow : OpenClaim := { program := "ytlheikmipljbaaadoor", sum := "2b7117629d964ede0ffe8a0b3ab7f04a3c2aedde62ab6c7c107f958bf7083fd3", func := "loop.example/blockboxes/laws.FnExactStaffRun", spec := "fnExactStaffRun", inPlace := ["internal/bytealg.IndexByteString", "internal/bytealg.IndexString"], named := ["unicode/utf8.first", "unicode/utf8.acceptRanges", "internal/bytealg.MaxLen"], apart := false, laid := [("unicode/utf8.acceptRanges", laid_unicode_utf8_acceptRanges), ("unicode/utf8.first", laid_unicode_utf8_first)], narrowed := true }
def FnExactStaffRunUptoSaid : Prop := fnExactStaffRunUptoRow.holds Tryd.pinned (OpenSpec.upto fnExactStaffRunSpec)

/-- 'laws.FnExactStaffKinds', WHERE WHAT IT READS IS OF BULK AT MOST 1048576: true; the input reads as it did. -/
def fnExactStaffKindsUptoRow : OpenClaim := { program := "ytlheikmipljbaaadoor", sum := "2b7117629d964ede0ffe8a0b3ab7f04a3c2aedde62ab6c7c107f958bf7083fd3", func := "loop.example/blockboxes/laws.FnExactStaffKinds", spec := "fnExactStaffKinds", inPlace := ["internal/abi.NoEscape", "internal/bytealg.IndexByteString", "internal/bytealg.IndexString"], named := ["unicode/utf8.first", "unicode/utf8.acceptRanges", "internal/bytealg.MaxLen"], apart := false, laid := [("unicode/utf8.acceptRanges", laid_unicode_utf8_acceptRanges), ("unicode/utf8.first", laid_unicode_utf8_first)], narrowed := true }
def FnExactStaffKindsUptoSaid : Prop := fnExactStaffKindsUptoRow.holds Tryd.pinned (OpenSpec.upto fnExactStaffKindsSpec)

/-- 'laws.FnExactStaffMany', WHERE WHAT IT READS IS OF BULK AT MOST 1048576: true; the input reads as it did. -/
def fnExactStaffManyUptoRow : OpenClaim := { program := "ytlheikmipljbaaadoor", sum := "2b7117629d964ede0ffe8a0b3ab7f04a3c2aedde62ab6c7c107f958bf7083fd3", func := "loop.example/blockboxes/laws.FnExactStaffMany", spec := "fnExactStaffMany", inPlace := ["internal/bytealg.IndexByteString", "internal/bytealg.IndexString", "internal/abi.NoEscape"], named := ["unicode/utf8.first", "unicode/utf8.acceptRanges", "internal/bytealg.MaxLen"], apart := false, laid := [("unicode/utf8.acceptRanges", laid_unicode_utf8_acceptRanges), ("unicode/utf8.first", laid_unicode_utf8_first)], narrowed := true }
def FnExactStaffManyUptoSaid : Prop := fnExactStaffManyUptoRow.holds Tryd.pinned (OpenSpec.upto fnExactStaffManySpec)

end Rows
end Go.Proofs.YtlheikmipljbaaaDoor
