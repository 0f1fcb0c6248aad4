/-
  DERIVED. GIVEN WITH THE SEED: THE CARDS: each row of YtilkphehonilbaaDoorRows.lean that lists a variable, with what it lists TIED to the program's text (the seventh form; the later family's looks); each row that meets fmt, with fmt's text TOLD by the authors' own Lean function (tested against real Go, not proved from fmt's source: count such statements apart). THE CARD IS WHAT COUNTS. Prove the row's statement (the work); the ties are given (YtilkphehonilbaaDoorTie.lean); close each card by the builder's one call (the guide's Derived/Test/ToyasCard.lean, 'card_holds'). Laid BY PROGRAM, IN A SANDBOX (cutbox-door.mjs). By AI agents, Wed Nov 11 2026. No macro, syntax, notation, axiom, sorry.
-/
import Derived.Test.YtilkphehonilbaaDoorRows
import GoSem.ClaimSeven
namespace Go.Proofs.YtilkphehonilbaaDoor
namespace Rows

/-- THE TIED CARD OF 'laws.FnTrackTurn'. -/
def fnTrackTurnCard : Claim7 := { stood := { row := fnTrackTurnRow, standIns := [], harness := (true, "43951fc71a92b78b6c121e53df8cc3e42112b87fdd45d31bb3ae16b9168cf7bf"), looks := false }, kinds := [], alts := [], laidByText := true, laidKinds := [.data, .data, .data, .pinned], laidTests := true, laidLooks := .later }
def FnTrackTurnCardSaid : Prop := Claim7.holds Tryd.pinned (.plain (OpenSpec.ofChange fnTrackTurnSpec)) fnTrackTurnCard

/-- THE TIED CARD OF 'laws.FnTrackRun'. -/
def fnTrackRunCard : Claim7 := { stood := { row := fnTrackRunRow, standIns := [], harness := (true, "43951fc71a92b78b6c121e53df8cc3e42112b87fdd45d31bb3ae16b9168cf7bf"), looks := false }, kinds := [], alts := [], laidByText := true, laidKinds := [.data, .data, .data, .pinned], laidTests := true, laidLooks := .later }
def FnTrackRunCardSaid : Prop := Claim7.holds Tryd.pinned (.plain (OpenSpec.ofChange fnTrackRunSpec)) fnTrackRunCard

/-- THE TIED CARD OF 'laws.FnTrackWay'. -/
def fnTrackWayCard : Claim7 := { stood := { row := fnTrackWayRow, standIns := [], harness := (true, "43951fc71a92b78b6c121e53df8cc3e42112b87fdd45d31bb3ae16b9168cf7bf"), looks := false }, kinds := [], alts := [], laidByText := true, laidKinds := [.data, .pinned], laidTests := true, laidLooks := .later }
def FnTrackWayCardSaid : Prop := Claim7.holds Tryd.pinned (.plain (OpenSpec.ofChange fnTrackWaySpec)) fnTrackWayCard

/-- THE TIED CARD OF 'laws.FnTrackWayWalk'. -/
def fnTrackWayWalkCard : Claim7 := { stood := { row := fnTrackWayWalkRow, standIns := [], harness := (true, "43951fc71a92b78b6c121e53df8cc3e42112b87fdd45d31bb3ae16b9168cf7bf"), looks := false }, kinds := [], alts := [], laidByText := true, laidKinds := [.data, .data, .data, .pinned], laidTests := true, laidLooks := .later }
def FnTrackWayWalkCardSaid : Prop := Claim7.holds Tryd.pinned (.plain (OpenSpec.ofChange fnTrackWayWalkSpec)) fnTrackWayWalkCard

/-- THE TIED CARD OF 'laws.FnTurnedPassed'. -/
def fnTurnedPassedCard : Claim7 := { stood := { row := fnTurnedPassedRow, standIns := [], harness := (true, "43951fc71a92b78b6c121e53df8cc3e42112b87fdd45d31bb3ae16b9168cf7bf"), looks := false }, kinds := [], alts := [], laidByText := true, laidKinds := [.data, .data, .data, .pinned], laidTests := true, laidLooks := .later }
def FnTurnedPassedCardSaid : Prop := Claim7.holds Tryd.pinned (.plain (OpenSpec.ofChange fnTurnedPassedSpec)) fnTurnedPassedCard

/-- THE TIED CARD OF 'laws.FnExactTrackWay'. -/
def fnExactTrackWayCard : Claim7 := { stood := { row := fnExactTrackWayRow, standIns := [], harness := (true, "43951fc71a92b78b6c121e53df8cc3e42112b87fdd45d31bb3ae16b9168cf7bf"), looks := false }, kinds := [], alts := [], laidByText := true, laidKinds := [.data, .pinned], laidTests := true, laidLooks := .later }
def FnExactTrackWayCardSaid : Prop := Claim7.holds Tryd.pinned (.plain (OpenSpec.ofChange fnExactTrackWaySpec)) fnExactTrackWayCard

/-- THE SECOND FORM's CARD OF 'laws.FnTrackTurn'. -/
def fnTrackTurnUptoCard : Claim7 := { stood := { row := fnTrackTurnUptoRow, standIns := [], harness := (true, "43951fc71a92b78b6c121e53df8cc3e42112b87fdd45d31bb3ae16b9168cf7bf"), looks := false }, kinds := [], alts := [], laidByText := true, laidKinds := [.data, .data, .data, .pinned], laidTests := true, laidLooks := .later }
def FnTrackTurnUptoCardSaid : Prop := Claim7.holds Tryd.pinned (.plain (OpenSpec.upto fnTrackTurnSpec)) fnTrackTurnUptoCard

/-- THE SECOND FORM's CARD OF 'laws.FnTrackRun'. -/
def fnTrackRunUptoCard : Claim7 := { stood := { row := fnTrackRunUptoRow, standIns := [], harness := (true, "43951fc71a92b78b6c121e53df8cc3e42112b87fdd45d31bb3ae16b9168cf7bf"), looks := false }, kinds := [], alts := [], laidByText := true, laidKinds := [.data, .data, .data, .pinned], laidTests := true, laidLooks := .later }
def FnTrackRunUptoCardSaid : Prop := Claim7.holds Tryd.pinned (.plain (OpenSpec.upto fnTrackRunSpec)) fnTrackRunUptoCard

/-- THE SECOND FORM's CARD OF 'laws.FnTrackWay'. -/
def fnTrackWayUptoCard : Claim7 := { stood := { row := fnTrackWayUptoRow, standIns := [], harness := (true, "43951fc71a92b78b6c121e53df8cc3e42112b87fdd45d31bb3ae16b9168cf7bf"), looks := false }, kinds := [], alts := [], laidByText := true, laidKinds := [.data, .pinned], laidTests := true, laidLooks := .later }
def FnTrackWayUptoCardSaid : Prop := Claim7.holds Tryd.pinned (.plain (OpenSpec.upto fnTrackWaySpec)) fnTrackWayUptoCard

/-- THE SECOND FORM's CARD OF 'laws.FnTrackWayWalk'. -/
def fnTrackWayWalkUptoCard : Claim7 := { stood := { row := fnTrackWayWalkUptoRow, standIns := [], harness := (true, "43951fc71a92b78b6c121e53df8cc3e42112b87fdd45d31bb3ae16b9168cf7bf"), looks := false }, kinds := [], alts := [], laidByText := true, laidKinds := [.data, .data, .data, .pinned], laidTests := true, laidLooks := .later }
def FnTrackWayWalkUptoCardSaid : Prop := Claim7.holds Tryd.pinned (.plain (OpenSpec.upto fnTrackWayWalkSpec)) fnTrackWayWalkUptoCard

/-- THE SECOND FORM's CARD OF 'laws.FnTurnedPassed'. -/
def fnTurnedPassedUptoCard : Claim7 := { stood := { row := fnTurnedPassedUptoRow, standIns := [], harness := (true, "43951fc71a92b78b6c121e53df8cc3e42112b87fdd45d31bb3ae16b9168cf7bf"), looks := false }, kinds := [], alts := [], laidByText := true, laidKinds := [.data, .data, .data, .pinned], laidTests := true, laidLooks := .later }
def FnTurnedPassedUptoCardSaid : Prop := Claim7.holds Tryd.pinned (.plain (OpenSpec.upto fnTurnedPassedSpec)) fnTurnedPassedUptoCard

/-- THE SECOND FORM's CARD OF 'laws.FnExactTrackWay'. -/
def fnExactTrackWayUptoCard : Claim7 := { stood := { row := fnExactTrackWayUptoRow, standIns := [], harness := (true, "43951fc71a92b78b6c121e53df8cc3e42112b87fdd45d31bb3ae16b9168cf7bf"), looks := false }, kinds := [], alts := [], laidByText := true, laidKinds := [.data, .pinned], laidTests := true, laidLooks := .later }
def FnExactTrackWayUptoCardSaid : Prop := Claim7.holds Tryd.pinned (.plain (OpenSpec.upto fnExactTrackWaySpec)) fnExactTrackWayUptoCard
end Rows
end Go.Proofs.YtilkphehonilbaaDoor
