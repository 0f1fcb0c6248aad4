/-
  DERIVED. GIVEN WITH THE SEED: THE CARDS: each row of YtmdkfhbkdeoahaaDoorRows.lean that lists a variable, with what it lists TIED to the program's text (the seventh form; the later family's looks); each row that meets fmt, with fmt's text TOLD by the authors' own Lean function (tested against real Go, not proved from fmt's source: count such statements apart). THE CARD IS WHAT COUNTS. Prove the row's statement (the work); the ties are given (YtmdkfhbkdeoahaaDoorTie.lean); close each card by the builder's one call (the guide's Derived/Test/ToyasCard.lean, 'card_holds'). Laid BY PROGRAM, IN A SANDBOX (cutbox-door.mjs). By AI agents, Wed Nov 11 2026. No macro, syntax, notation, axiom, sorry.
-/
import Derived.Test.YtmdkfhbkdeoahaaDoorRows
import GoSem.ClaimSeven
namespace Go.Proofs.YtmdkfhbkdeoahaaDoor
namespace Rows

/-- THE TIED CARD OF 'laws.FnTrackStep'. -/
def fnTrackStepCard : Claim7 := { stood := { row := fnTrackStepRow, standIns := [], harness := (true, "7b49ea8b61829ad8915aee6b8e88d4118ff3012fc1289881f4e74d4151b6efc2"), looks := false }, kinds := [], alts := [], laidByText := true, laidKinds := [.data, .pinned], laidTests := true, laidLooks := .later }
def FnTrackStepCardSaid : Prop := Claim7.holds Tryd.pinned (.plain (OpenSpec.ofChange fnTrackStepSpec)) fnTrackStepCard

/-- THE TIED CARD OF 'laws.FnTrackNext'. -/
def fnTrackNextCard : Claim7 := { stood := { row := fnTrackNextRow, standIns := [], harness := (true, "7b49ea8b61829ad8915aee6b8e88d4118ff3012fc1289881f4e74d4151b6efc2"), looks := false }, kinds := [], alts := [], laidByText := true, laidKinds := [.data, .pinned], laidTests := true, laidLooks := .later }
def FnTrackNextCardSaid : Prop := Claim7.holds Tryd.pinned (.plain (OpenSpec.ofChange fnTrackNextSpec)) fnTrackNextCard

/-- THE TIED CARD OF 'laws.FnTrackTurn'. -/
def fnTrackTurnCard : Claim7 := { stood := { row := fnTrackTurnRow, standIns := [], harness := (true, "7b49ea8b61829ad8915aee6b8e88d4118ff3012fc1289881f4e74d4151b6efc2"), looks := false }, kinds := [], alts := [], laidByText := true, laidKinds := [.data, .data, .data, .pinned], laidTests := true, laidLooks := .later }
def FnTrackTurnCardSaid : Prop := Claim7.holds Tryd.pinned (.plain (OpenSpec.ofChange fnTrackTurnSpec)) fnTrackTurnCard

/-- THE TIED CARD OF 'laws.FnTrackBlocks'. -/
def fnTrackBlocksCard : Claim7 := { stood := { row := fnTrackBlocksRow, standIns := [], harness := (true, "7b49ea8b61829ad8915aee6b8e88d4118ff3012fc1289881f4e74d4151b6efc2"), looks := false }, kinds := [], alts := [], laidByText := true, laidKinds := [.data, .pinned], laidTests := true, laidLooks := .later }
def FnTrackBlocksCardSaid : Prop := Claim7.holds Tryd.pinned (.plain (OpenSpec.ofChange fnTrackBlocksSpec)) fnTrackBlocksCard

/-- THE TIED CARD OF 'laws.FnTrackRun'. -/
def fnTrackRunCard : Claim7 := { stood := { row := fnTrackRunRow, standIns := [], harness := (true, "7b49ea8b61829ad8915aee6b8e88d4118ff3012fc1289881f4e74d4151b6efc2"), looks := false }, kinds := [], alts := [], laidByText := true, laidKinds := [.data, .data, .data, .pinned], laidTests := true, laidLooks := .later }
def FnTrackRunCardSaid : Prop := Claim7.holds Tryd.pinned (.plain (OpenSpec.ofChange fnTrackRunSpec)) fnTrackRunCard

/-- THE TIED CARD OF 'laws.FnTrackWay'. -/
def fnTrackWayCard : Claim7 := { stood := { row := fnTrackWayRow, standIns := [], harness := (true, "7b49ea8b61829ad8915aee6b8e88d4118ff3012fc1289881f4e74d4151b6efc2"), looks := false }, kinds := [], alts := [], laidByText := true, laidKinds := [.data, .pinned], laidTests := true, laidLooks := .later }
def FnTrackWayCardSaid : Prop := Claim7.holds Tryd.pinned (.plain (OpenSpec.ofChange fnTrackWaySpec)) fnTrackWayCard

/-- THE TIED CARD OF 'laws.FnTrackWayWalk'. -/
def fnTrackWayWalkCard : Claim7 := { stood := { row := fnTrackWayWalkRow, standIns := [], harness := (true, "7b49ea8b61829ad8915aee6b8e88d4118ff3012fc1289881f4e74d4151b6efc2"), looks := false }, kinds := [], alts := [], laidByText := true, laidKinds := [.data, .data, .data, .pinned], laidTests := true, laidLooks := .later }
def FnTrackWayWalkCardSaid : Prop := Claim7.holds Tryd.pinned (.plain (OpenSpec.ofChange fnTrackWayWalkSpec)) fnTrackWayWalkCard

/-- THE TIED CARD OF 'laws.FnTurnedPassed'. -/
def fnTurnedPassedCard : Claim7 := { stood := { row := fnTurnedPassedRow, standIns := [], harness := (true, "7b49ea8b61829ad8915aee6b8e88d4118ff3012fc1289881f4e74d4151b6efc2"), looks := false }, kinds := [], alts := [], laidByText := true, laidKinds := [.data, .data, .data, .pinned], laidTests := true, laidLooks := .later }
def FnTurnedPassedCardSaid : Prop := Claim7.holds Tryd.pinned (.plain (OpenSpec.ofChange fnTurnedPassedSpec)) fnTurnedPassedCard

/-- THE SECOND FORM's CARD OF 'laws.FnTrackStep'. -/
def fnTrackStepUptoCard : Claim7 := { stood := { row := fnTrackStepUptoRow, standIns := [], harness := (true, "7b49ea8b61829ad8915aee6b8e88d4118ff3012fc1289881f4e74d4151b6efc2"), looks := false }, kinds := [], alts := [], laidByText := true, laidKinds := [.data, .pinned], laidTests := true, laidLooks := .later }
def FnTrackStepUptoCardSaid : Prop := Claim7.holds Tryd.pinned (.plain (OpenSpec.upto fnTrackStepSpec)) fnTrackStepUptoCard

/-- THE SECOND FORM's CARD OF 'laws.FnTrackNext'. -/
def fnTrackNextUptoCard : Claim7 := { stood := { row := fnTrackNextUptoRow, standIns := [], harness := (true, "7b49ea8b61829ad8915aee6b8e88d4118ff3012fc1289881f4e74d4151b6efc2"), looks := false }, kinds := [], alts := [], laidByText := true, laidKinds := [.data, .pinned], laidTests := true, laidLooks := .later }
def FnTrackNextUptoCardSaid : Prop := Claim7.holds Tryd.pinned (.plain (OpenSpec.upto fnTrackNextSpec)) fnTrackNextUptoCard

/-- THE SECOND FORM's CARD OF 'laws.FnTrackTurn'. -/
def fnTrackTurnUptoCard : Claim7 := { stood := { row := fnTrackTurnUptoRow, standIns := [], harness := (true, "7b49ea8b61829ad8915aee6b8e88d4118ff3012fc1289881f4e74d4151b6efc2"), looks := false }, kinds := [], alts := [], laidByText := true, laidKinds := [.data, .data, .data, .pinned], laidTests := true, laidLooks := .later }
def FnTrackTurnUptoCardSaid : Prop := Claim7.holds Tryd.pinned (.plain (OpenSpec.upto fnTrackTurnSpec)) fnTrackTurnUptoCard

/-- THE SECOND FORM's CARD OF 'laws.FnTrackBlocks'. -/
def fnTrackBlocksUptoCard : Claim7 := { stood := { row := fnTrackBlocksUptoRow, standIns := [], harness := (true, "7b49ea8b61829ad8915aee6b8e88d4118ff3012fc1289881f4e74d4151b6efc2"), looks := false }, kinds := [], alts := [], laidByText := true, laidKinds := [.data, .pinned], laidTests := true, laidLooks := .later }
def FnTrackBlocksUptoCardSaid : Prop := Claim7.holds Tryd.pinned (.plain (OpenSpec.upto fnTrackBlocksSpec)) fnTrackBlocksUptoCard

/-- THE SECOND FORM's CARD OF 'laws.FnTrackRun'. -/
def fnTrackRunUptoCard : Claim7 := { stood := { row := fnTrackRunUptoRow, standIns := [], harness := (true, "7b49ea8b61829ad8915aee6b8e88d4118ff3012fc1289881f4e74d4151b6efc2"), looks := false }, kinds := [], alts := [], laidByText := true, laidKinds := [.data, .data, .data, .pinned], laidTests := true, laidLooks := .later }
def FnTrackRunUptoCardSaid : Prop := Claim7.holds Tryd.pinned (.plain (OpenSpec.upto fnTrackRunSpec)) fnTrackRunUptoCard

/-- THE SECOND FORM's CARD OF 'laws.FnTrackWay'. -/
def fnTrackWayUptoCard : Claim7 := { stood := { row := fnTrackWayUptoRow, standIns := [], harness := (true, "7b49ea8b61829ad8915aee6b8e88d4118ff3012fc1289881f4e74d4151b6efc2"), looks := false }, kinds := [], alts := [], laidByText := true, laidKinds := [.data, .pinned], laidTests := true, laidLooks := .later }
def FnTrackWayUptoCardSaid : Prop := Claim7.holds Tryd.pinned (.plain (OpenSpec.upto fnTrackWaySpec)) fnTrackWayUptoCard

/-- THE SECOND FORM's CARD OF 'laws.FnTrackWayWalk'. -/
def fnTrackWayWalkUptoCard : Claim7 := { stood := { row := fnTrackWayWalkUptoRow, standIns := [], harness := (true, "7b49ea8b61829ad8915aee6b8e88d4118ff3012fc1289881f4e74d4151b6efc2"), looks := false }, kinds := [], alts := [], laidByText := true, laidKinds := [.data, .data, .data, .pinned], laidTests := true, laidLooks := .later }
def FnTrackWayWalkUptoCardSaid : Prop := Claim7.holds Tryd.pinned (.plain (OpenSpec.upto fnTrackWayWalkSpec)) fnTrackWayWalkUptoCard

/-- THE SECOND FORM's CARD OF 'laws.FnTurnedPassed'. -/
def fnTurnedPassedUptoCard : Claim7 := { stood := { row := fnTurnedPassedUptoRow, standIns := [], harness := (true, "7b49ea8b61829ad8915aee6b8e88d4118ff3012fc1289881f4e74d4151b6efc2"), looks := false }, kinds := [], alts := [], laidByText := true, laidKinds := [.data, .data, .data, .pinned], laidTests := true, laidLooks := .later }
def FnTurnedPassedUptoCardSaid : Prop := Claim7.holds Tryd.pinned (.plain (OpenSpec.upto fnTurnedPassedSpec)) fnTurnedPassedUptoCard
end Rows
end Go.Proofs.YtmdkfhbkdeoahaaDoor
