/-
  No cell of these rows narrows 'for every input' (looked for: loops, veiled, ifaces, maps, wideKeys, modest, calm, conditions, laid).
  DERIVED. THE GIVEN ROWS OF THIS SEAT. 4 by the template 'for every input the law returns true; each argument reads behind the call as it read before'; 0 by the template 'total and deterministic' (their statements: YtlheikmipljbaaaTotals.lean).
  GIVEN WITH THE SEED: the statements are not yours to turn. If you find one false, say at which input.
  Laid BY PROGRAM, IN A SANDBOX (cutbox-rows.mjs): the forced cells as the released guide's own fill.sh prints them over the translation 7883267e575de060… (all of the seat's roots in one cut). By AI agents, Wed Nov 11 2026. No macro, syntax, notation, axiom, sorry.
-/
import Derived.Test.YtlheikmipljbaaaChecked
import GoSem.Claim
import GoSem.ClaimJoined
import GoSem.ClaimMapViews
import Derived.JoinedTies
import Derived.KernelRfl
namespace Go.Proofs.Ytlheikmipljbaaa
/- THE CELL 'sum', in the pinned program and in every row, IS THE sha256 OF THE DUMP (.gsa) THAT YtlheikmipljbaaaProg.lean LOADS. Nothing in Lean hashes anything: it is a label: what it is worth is what the hold of that sum in a sandbox is worth. -/
noncomputable def Try.pinned : Pinned := { name := "ytlheikmipljbaaa", sum := "7883267e575de060d49a0478f2cf557784e36f42ef5b5d9e8d8fc56524e1acb0", checked := Try.checked }
namespace Rows
def none {H : Type} : Left H := { results := [], args := [] }

/-- 'laws.FnExactTokenValid': WHATEVER THE INPUT: true; the input reads as it did. -/
def fnExactTokenValidSpec : ChangeSpec := { name := "fnExactTokenValid", fn := fun _ => fun
  | [d] => { results := [.lit (.bool true)], args := [d] }
  | _ => none }
def fnExactTokenValidRow : OpenClaim := { program := "ytlheikmipljbaaa", sum := "7883267e575de060d49a0478f2cf557784e36f42ef5b5d9e8d8fc56524e1acb0", func := "loop.example/blockboxes/laws.FnExactTokenValid", spec := "fnExactTokenValid", plainKeys := false, apart := false }
def FnExactTokenValidSaid : Prop := fnExactTokenValidRow.holds Try.pinned (OpenSpec.ofChange fnExactTokenValidSpec)

/-- ITS FALSE NEIGHBOUR: 'it returns false'. Refute it at one input. -/
def fnExactTokenValidWrong : ChangeSpec := { name := "fnExactTokenValid", fn := fun _ => fun
  | [d] => { results := [.lit (.bool false)], args := [d] }
  | _ => none }
def FnExactTokenValidWrongFalsely : Prop := fnExactTokenValidRow.holds Try.pinned (OpenSpec.ofChange fnExactTokenValidWrong)

/-- 'laws.FnExactTokenStep': WHATEVER THE INPUT: true; the input reads as it did. -/
def fnExactTokenStepSpec : ChangeSpec := { name := "fnExactTokenStep", fn := fun _ => fun
  | [d1, d2] => { results := [.lit (.bool true)], args := [d1, d2] }
  | _ => none }
def fnExactTokenStepRow : OpenClaim := { program := "ytlheikmipljbaaa", sum := "7883267e575de060d49a0478f2cf557784e36f42ef5b5d9e8d8fc56524e1acb0", func := "loop.example/blockboxes/laws.FnExactTokenStep", spec := "fnExactTokenStep", plainKeys := false, apart := false }
def FnExactTokenStepSaid : Prop := fnExactTokenStepRow.holds Try.pinned (OpenSpec.ofChange fnExactTokenStepSpec)

/-- ITS FALSE NEIGHBOUR: 'it returns false'. Refute it at one input. -/
def fnExactTokenStepWrong : ChangeSpec := { name := "fnExactTokenStep", fn := fun _ => fun
  | [d1, d2] => { results := [.lit (.bool false)], args := [d1, d2] }
  | _ => none }
def FnExactTokenStepWrongFalsely : Prop := fnExactTokenStepRow.holds Try.pinned (OpenSpec.ofChange fnExactTokenStepWrong)

/-- 'laws.FnExactTokenRun': WHATEVER THE INPUT: true; the input reads as it did. -/
def fnExactTokenRunSpec : ChangeSpec := { name := "fnExactTokenRun", fn := fun _ => fun
  | [d1, d2] => { results := [.lit (.bool true)], args := [d1, d2] }
  | _ => none }
def fnExactTokenRunRow : OpenClaim := { program := "ytlheikmipljbaaa", sum := "7883267e575de060d49a0478f2cf557784e36f42ef5b5d9e8d8fc56524e1acb0", func := "loop.example/blockboxes/laws.FnExactTokenRun", spec := "fnExactTokenRun", plainKeys := false, apart := false }
def FnExactTokenRunSaid : Prop := fnExactTokenRunRow.holds Try.pinned (OpenSpec.ofChange fnExactTokenRunSpec)

/-- ITS FALSE NEIGHBOUR: 'it returns false'. Refute it at one input. -/
def fnExactTokenRunWrong : ChangeSpec := { name := "fnExactTokenRun", fn := fun _ => fun
  | [d1, d2] => { results := [.lit (.bool false)], args := [d1, d2] }
  | _ => none }
def FnExactTokenRunWrongFalsely : Prop := fnExactTokenRunRow.holds Try.pinned (OpenSpec.ofChange fnExactTokenRunWrong)

/-- 'laws.FnExactTokenMany': WHATEVER THE INPUT: true; the input reads as it did. -/
def fnExactTokenManySpec : ChangeSpec := { name := "fnExactTokenMany", fn := fun _ => fun
  | [d1, d2] => { results := [.lit (.bool true)], args := [d1, d2] }
  | _ => none }
def fnExactTokenManyRow : OpenClaim := { program := "ytlheikmipljbaaa", sum := "7883267e575de060d49a0478f2cf557784e36f42ef5b5d9e8d8fc56524e1acb0", func := "loop.example/blockboxes/laws.FnExactTokenMany", spec := "fnExactTokenMany", recurses := true, plainKeys := false, apart := false }
def FnExactTokenManySaid : Prop := fnExactTokenManyRow.holds Try.pinned (OpenSpec.ofChange fnExactTokenManySpec)

/-- ITS FALSE NEIGHBOUR: 'it returns false'. Refute it at one input. -/
def fnExactTokenManyWrong : ChangeSpec := { name := "fnExactTokenMany", fn := fun _ => fun
  | [d1, d2] => { results := [.lit (.bool false)], args := [d1, d2] }
  | _ => none }
def FnExactTokenManyWrongFalsely : Prop := fnExactTokenManyRow.holds Try.pinned (OpenSpec.ofChange fnExactTokenManyWrong)

/- THE SECOND FORM. 'bulk': how many values and letters a reading holds, each counted each time it is reached (what is shared counts as often as it is met; a slice's spare places count too). A statement '..UptoSaid' is the law's where the arguments, and the package variables that the reading takes, are together of bulk at most 1048576: NARROWER than '..Said'. Prove '..Said' where nothing that the law and all that it calls make is longer than what came in: it says more and counts as full. Else prove '..UptoSaid'. A law counts once. -/
mutual
def uptoBulk {H : Type} : DataW H → Nat
  | .lit (.string bytes) => bytes.length + 1
  | .lit _ => 1
  | .nil => 1
  | .ptr d => uptoBulk d + 1
  | .slice elems spare => uptoBulkAll elems + uptoBulkAll spare + 1
  | .agg parts => uptoBulkAll parts + 1
  | .iface _ d => uptoBulk d + 1
  | .map entries => uptoBulkEntries entries + 1
  | .held _ => 1
def uptoBulkAll {H : Type} : List (DataW H) → Nat
  | [] => 0
  | d :: r => uptoBulk d + uptoBulkAll r
def uptoBulkEntries {H : Type} : List (Lit × DataW H) → Nat
  | [] => 0
  | x :: r => uptoBulkEntry x + uptoBulkEntries r
def uptoBulkEntry {H : Type} : Lit × DataW H → Nat
  | (.string bytes, d) => bytes.length + uptoBulk d + 1
  | (_, d) => uptoBulk d + 1
 end
def uptoSmall : (H : Type) → List (DataW H) → Bool := fun _ ds => decide (uptoBulkAll ds ≤ 1048576)
def OpenSpec.upto (s : _root_.Go.ChangeSpec) : _root_.Go.OpenSpec := { _root_.Go.OpenSpec.ofChange s with cond := some uptoSmall }

/-- 'laws.FnExactTokenValid', WHERE WHAT IT READS IS OF BULK AT MOST 1048576: true; the input reads as it did. -/
def fnExactTokenValidUptoRow : OpenClaim := { program := "ytlheikmipljbaaa", sum := "7883267e575de060d49a0478f2cf557784e36f42ef5b5d9e8d8fc56524e1acb0", func := "loop.example/blockboxes/laws.FnExactTokenValid", spec := "fnExactTokenValid", plainKeys := false, apart := false, narrowed := true }
def FnExactTokenValidUptoSaid : Prop := fnExactTokenValidUptoRow.holds Try.pinned (OpenSpec.upto fnExactTokenValidSpec)

/-- 'laws.FnExactTokenStep', WHERE WHAT IT READS IS OF BULK AT MOST 1048576: true; the input reads as it did. -/
def fnExactTokenStepUptoRow : OpenClaim := { program := "ytlheikmipljbaaa", sum := "7883267e575de060d49a0478f2cf557784e36f42ef5b5d9e8d8fc56524e1acb0", func := "loop.example/blockboxes/laws.FnExactTokenStep", spec := "fnExactTokenStep", plainKeys := false, apart := false, narrowed := true }
def FnExactTokenStepUptoSaid : Prop := fnExactTokenStepUptoRow.holds Try.pinned (OpenSpec.upto fnExactTokenStepSpec)

/-- 'laws.FnExactTokenRun', WHERE WHAT IT READS IS OF BULK AT MOST 1048576: true; the input reads as it did. -/
def fnExactTokenRunUptoRow : OpenClaim := { program := "ytlheikmipljbaaa", sum := "7883267e575de060d49a0478f2cf557784e36f42ef5b5d9e8d8fc56524e1acb0", func := "loop.example/blockboxes/laws.FnExactTokenRun", spec := "fnExactTokenRun", plainKeys := false, apart := false, narrowed := true }
def FnExactTokenRunUptoSaid : Prop := fnExactTokenRunUptoRow.holds Try.pinned (OpenSpec.upto fnExactTokenRunSpec)

/-- 'laws.FnExactTokenMany', WHERE WHAT IT READS IS OF BULK AT MOST 1048576: true; the input reads as it did. -/
def fnExactTokenManyUptoRow : OpenClaim := { program := "ytlheikmipljbaaa", sum := "7883267e575de060d49a0478f2cf557784e36f42ef5b5d9e8d8fc56524e1acb0", func := "loop.example/blockboxes/laws.FnExactTokenMany", spec := "fnExactTokenMany", recurses := true, plainKeys := false, apart := false, narrowed := true }
def FnExactTokenManyUptoSaid : Prop := fnExactTokenManyUptoRow.holds Try.pinned (OpenSpec.upto fnExactTokenManySpec)

end Rows
end Go.Proofs.Ytlheikmipljbaaa
