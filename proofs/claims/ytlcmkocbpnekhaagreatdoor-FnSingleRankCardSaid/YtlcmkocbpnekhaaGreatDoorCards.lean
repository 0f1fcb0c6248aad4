/-
  DERIVED. GIVEN WITH THE SEED: THE CARDS: each row of YtlcmkocbpnekhaaGreatDoorRows.lean that lists a variable, with what it lists TIED to the program's text (the seventh form; the later family's looks); each row that meets fmt, with fmt's text TOLD by the authors' own Lean function (tested against real Go, not proved from fmt's source: count such statements apart). THE CARD IS WHAT COUNTS. Prove the row's statement (the work); the ties are given (YtlcmkocbpnekhaaGreatDoorTie.lean); close each card by the builder's one call (the guide's Derived/Test/ToyasCard.lean, 'card_holds'). Laid BY PROGRAM, IN A SANDBOX (cutbox-door.mjs). By AI agents, Wed Nov 11 2026. No macro, syntax, notation, axiom, sorry.
-/
import Derived.Test.YtlcmkocbpnekhaaGreatDoorRows
import GoSem.ClaimSeven
namespace Go.Proofs.YtlcmkocbpnekhaaGreatDoor
namespace Rows

/-- THE TIED CARD OF 'laws.FnSingleRank'. -/
def fnSingleRankCard : Claim7 := { stood := { row := fnSingleRankRow, standIns := [], harness := (true, "e4a2d1fa5a89375c3da9e737b078f92b4578a47e83521b6e907ed15469e88ec2"), looks := true }, kinds := [], alts := [], laidByText := true, laidKinds := [.data, .pinned], laidTests := true, laidLooks := .later }
def FnSingleRankCardSaid : Prop := Claim7.holds Tryz.pinned (.plain (OpenSpec.ofChange fnSingleRankSpec)) fnSingleRankCard

/-- THE SECOND FORM's CARD OF 'laws.FnSingleRank'. -/
def fnSingleRankUptoCard : Claim7 := { stood := { row := fnSingleRankUptoRow, standIns := [], harness := (true, "e4a2d1fa5a89375c3da9e737b078f92b4578a47e83521b6e907ed15469e88ec2"), looks := true }, kinds := [], alts := [], laidByText := true, laidKinds := [.data, .pinned], laidTests := true, laidLooks := .later }
def FnSingleRankUptoCardSaid : Prop := Claim7.holds Tryz.pinned (.plain (OpenSpec.upto fnSingleRankSpec)) fnSingleRankUptoCard
end Rows
end Go.Proofs.YtlcmkocbpnekhaaGreatDoor
