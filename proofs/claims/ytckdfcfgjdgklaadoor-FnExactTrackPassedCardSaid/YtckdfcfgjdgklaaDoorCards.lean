/-
  DERIVED. GIVEN WITH THE SEED: THE CARDS: each row of YtckdfcfgjdgklaaDoorRows.lean that lists a variable, with what it lists TIED to the program's text (the seventh form; the later family's looks); each row that meets fmt, with fmt's text TOLD by the authors' own Lean function (tested against real Go, not proved from fmt's source: count such statements apart). THE CARD IS WHAT COUNTS. Prove the row's statement (the work); the ties are given (YtckdfcfgjdgklaaDoorTie.lean); close each card by the builder's one call (the guide's Derived/Test/ToyasCard.lean, 'card_holds'). Laid BY PROGRAM, IN A SANDBOX (cutbox-door.mjs). By AI agents, Wed Nov 11 2026. No macro, syntax, notation, axiom, sorry.
-/
import Derived.Test.YtckdfcfgjdgklaaDoorRows
import GoSem.ClaimSeven
namespace Go.Proofs.YtckdfcfgjdgklaaDoor
namespace Rows

/-- THE TIED CARD OF 'laws.FnExactTrackValid'. -/
def fnExactTrackValidCard : Claim7 := { stood := { row := fnExactTrackValidRow, standIns := [], harness := (true, "d1d665dd0b38efc821c20988ac2bcce0e64474d050080726855cde3a77ab2864"), looks := false }, kinds := [], alts := [], laidByText := true, laidKinds := [.data, .pinned], laidTests := true, laidLooks := .later }
def FnExactTrackValidCardSaid : Prop := Claim7.holds Tryd.pinned (.plain (OpenSpec.ofChange fnExactTrackValidSpec)) fnExactTrackValidCard

/-- THE TIED CARD OF 'laws.FnExactTrackStep'. -/
def fnExactTrackStepCard : Claim7 := { stood := { row := fnExactTrackStepRow, standIns := [], harness := (true, "d1d665dd0b38efc821c20988ac2bcce0e64474d050080726855cde3a77ab2864"), looks := false }, kinds := [], alts := [], laidByText := true, laidKinds := [.data, .pinned], laidTests := true, laidLooks := .later }
def FnExactTrackStepCardSaid : Prop := Claim7.holds Tryd.pinned (.plain (OpenSpec.ofChange fnExactTrackStepSpec)) fnExactTrackStepCard

/-- THE TIED CARD OF 'laws.FnExactTrackNext'. -/
def fnExactTrackNextCard : Claim7 := { stood := { row := fnExactTrackNextRow, standIns := [], harness := (true, "d1d665dd0b38efc821c20988ac2bcce0e64474d050080726855cde3a77ab2864"), looks := false }, kinds := [], alts := [], laidByText := true, laidKinds := [.data, .pinned], laidTests := true, laidLooks := .later }
def FnExactTrackNextCardSaid : Prop := Claim7.holds Tryd.pinned (.plain (OpenSpec.ofChange fnExactTrackNextSpec)) fnExactTrackNextCard

/-- THE TIED CARD OF 'laws.FnExactTrackBlocks'. -/
def fnExactTrackBlocksCard : Claim7 := { stood := { row := fnExactTrackBlocksRow, standIns := [], harness := (true, "d1d665dd0b38efc821c20988ac2bcce0e64474d050080726855cde3a77ab2864"), looks := false }, kinds := [], alts := [], laidByText := true, laidKinds := [.data, .pinned], laidTests := true, laidLooks := .later }
def FnExactTrackBlocksCardSaid : Prop := Claim7.holds Tryd.pinned (.plain (OpenSpec.ofChange fnExactTrackBlocksSpec)) fnExactTrackBlocksCard

/-- THE TIED CARD OF 'laws.FnExactTrackWalk'. -/
def fnExactTrackWalkCard : Claim7 := { stood := { row := fnExactTrackWalkRow, standIns := [], harness := (true, "d1d665dd0b38efc821c20988ac2bcce0e64474d050080726855cde3a77ab2864"), looks := false }, kinds := [], alts := [], laidByText := true, laidKinds := [.data, .data, .data, .pinned], laidTests := true, laidLooks := .later }
def FnExactTrackWalkCardSaid : Prop := Claim7.holds Tryd.pinned (.plain (OpenSpec.ofChange fnExactTrackWalkSpec)) fnExactTrackWalkCard

/-- THE TIED CARD OF 'laws.FnExactTrackWay'. -/
def fnExactTrackWayCard : Claim7 := { stood := { row := fnExactTrackWayRow, standIns := [], harness := (true, "d1d665dd0b38efc821c20988ac2bcce0e64474d050080726855cde3a77ab2864"), looks := false }, kinds := [], alts := [], laidByText := true, laidKinds := [.data, .pinned], laidTests := true, laidLooks := .later }
def FnExactTrackWayCardSaid : Prop := Claim7.holds Tryd.pinned (.plain (OpenSpec.ofChange fnExactTrackWaySpec)) fnExactTrackWayCard

/-- THE TIED CARD OF 'laws.FnExactTrackTurn'. -/
def fnExactTrackTurnCard : Claim7 := { stood := { row := fnExactTrackTurnRow, standIns := [], harness := (true, "d1d665dd0b38efc821c20988ac2bcce0e64474d050080726855cde3a77ab2864"), looks := false }, kinds := [], alts := [], laidByText := true, laidKinds := [.data, .pinned], laidTests := true, laidLooks := .later }
def FnExactTrackTurnCardSaid : Prop := Claim7.holds Tryd.pinned (.plain (OpenSpec.ofChange fnExactTrackTurnSpec)) fnExactTrackTurnCard

/-- THE TIED CARD OF 'laws.FnExactTrackPassed'. -/
def fnExactTrackPassedCard : Claim7 := { stood := { row := fnExactTrackPassedRow, standIns := [], harness := (true, "d1d665dd0b38efc821c20988ac2bcce0e64474d050080726855cde3a77ab2864"), looks := false }, kinds := [], alts := [], laidByText := true, laidKinds := [.data, .data, .data, .pinned], laidTests := true, laidLooks := .later }
def FnExactTrackPassedCardSaid : Prop := Claim7.holds Tryd.pinned (.plain (OpenSpec.ofChange fnExactTrackPassedSpec)) fnExactTrackPassedCard

/-- THE SECOND FORM's CARD OF 'laws.FnExactTrackValid'. -/
def fnExactTrackValidUptoCard : Claim7 := { stood := { row := fnExactTrackValidUptoRow, standIns := [], harness := (true, "d1d665dd0b38efc821c20988ac2bcce0e64474d050080726855cde3a77ab2864"), looks := false }, kinds := [], alts := [], laidByText := true, laidKinds := [.data, .pinned], laidTests := true, laidLooks := .later }
def FnExactTrackValidUptoCardSaid : Prop := Claim7.holds Tryd.pinned (.plain (OpenSpec.upto fnExactTrackValidSpec)) fnExactTrackValidUptoCard

/-- THE SECOND FORM's CARD OF 'laws.FnExactTrackStep'. -/
def fnExactTrackStepUptoCard : Claim7 := { stood := { row := fnExactTrackStepUptoRow, standIns := [], harness := (true, "d1d665dd0b38efc821c20988ac2bcce0e64474d050080726855cde3a77ab2864"), looks := false }, kinds := [], alts := [], laidByText := true, laidKinds := [.data, .pinned], laidTests := true, laidLooks := .later }
def FnExactTrackStepUptoCardSaid : Prop := Claim7.holds Tryd.pinned (.plain (OpenSpec.upto fnExactTrackStepSpec)) fnExactTrackStepUptoCard

/-- THE SECOND FORM's CARD OF 'laws.FnExactTrackNext'. -/
def fnExactTrackNextUptoCard : Claim7 := { stood := { row := fnExactTrackNextUptoRow, standIns := [], harness := (true, "d1d665dd0b38efc821c20988ac2bcce0e64474d050080726855cde3a77ab2864"), looks := false }, kinds := [], alts := [], laidByText := true, laidKinds := [.data, .pinned], laidTests := true, laidLooks := .later }
def FnExactTrackNextUptoCardSaid : Prop := Claim7.holds Tryd.pinned (.plain (OpenSpec.upto fnExactTrackNextSpec)) fnExactTrackNextUptoCard

/-- THE SECOND FORM's CARD OF 'laws.FnExactTrackBlocks'. -/
def fnExactTrackBlocksUptoCard : Claim7 := { stood := { row := fnExactTrackBlocksUptoRow, standIns := [], harness := (true, "d1d665dd0b38efc821c20988ac2bcce0e64474d050080726855cde3a77ab2864"), looks := false }, kinds := [], alts := [], laidByText := true, laidKinds := [.data, .pinned], laidTests := true, laidLooks := .later }
def FnExactTrackBlocksUptoCardSaid : Prop := Claim7.holds Tryd.pinned (.plain (OpenSpec.upto fnExactTrackBlocksSpec)) fnExactTrackBlocksUptoCard

/-- THE SECOND FORM's CARD OF 'laws.FnExactTrackWalk'. -/
def fnExactTrackWalkUptoCard : Claim7 := { stood := { row := fnExactTrackWalkUptoRow, standIns := [], harness := (true, "d1d665dd0b38efc821c20988ac2bcce0e64474d050080726855cde3a77ab2864"), looks := false }, kinds := [], alts := [], laidByText := true, laidKinds := [.data, .data, .data, .pinned], laidTests := true, laidLooks := .later }
def FnExactTrackWalkUptoCardSaid : Prop := Claim7.holds Tryd.pinned (.plain (OpenSpec.upto fnExactTrackWalkSpec)) fnExactTrackWalkUptoCard

/-- THE SECOND FORM's CARD OF 'laws.FnExactTrackWay'. -/
def fnExactTrackWayUptoCard : Claim7 := { stood := { row := fnExactTrackWayUptoRow, standIns := [], harness := (true, "d1d665dd0b38efc821c20988ac2bcce0e64474d050080726855cde3a77ab2864"), looks := false }, kinds := [], alts := [], laidByText := true, laidKinds := [.data, .pinned], laidTests := true, laidLooks := .later }
def FnExactTrackWayUptoCardSaid : Prop := Claim7.holds Tryd.pinned (.plain (OpenSpec.upto fnExactTrackWaySpec)) fnExactTrackWayUptoCard

/-- THE SECOND FORM's CARD OF 'laws.FnExactTrackTurn'. -/
def fnExactTrackTurnUptoCard : Claim7 := { stood := { row := fnExactTrackTurnUptoRow, standIns := [], harness := (true, "d1d665dd0b38efc821c20988ac2bcce0e64474d050080726855cde3a77ab2864"), looks := false }, kinds := [], alts := [], laidByText := true, laidKinds := [.data, .pinned], laidTests := true, laidLooks := .later }
def FnExactTrackTurnUptoCardSaid : Prop := Claim7.holds Tryd.pinned (.plain (OpenSpec.upto fnExactTrackTurnSpec)) fnExactTrackTurnUptoCard

/-- THE SECOND FORM's CARD OF 'laws.FnExactTrackPassed'. -/
def fnExactTrackPassedUptoCard : Claim7 := { stood := { row := fnExactTrackPassedUptoRow, standIns := [], harness := (true, "d1d665dd0b38efc821c20988ac2bcce0e64474d050080726855cde3a77ab2864"), looks := false }, kinds := [], alts := [], laidByText := true, laidKinds := [.data, .data, .data, .pinned], laidTests := true, laidLooks := .later }
def FnExactTrackPassedUptoCardSaid : Prop := Claim7.holds Tryd.pinned (.plain (OpenSpec.upto fnExactTrackPassedSpec)) fnExactTrackPassedUptoCard
end Rows
end Go.Proofs.YtckdfcfgjdgklaaDoor
