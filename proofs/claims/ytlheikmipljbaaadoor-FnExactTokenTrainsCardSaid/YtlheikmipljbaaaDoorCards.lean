/-
  DERIVED. GIVEN WITH THE SEED: THE CARDS: each row of YtlheikmipljbaaaDoorRows.lean that lists a variable, with what it lists TIED to the program's text (the seventh form; the later family's looks); each row that meets fmt, with fmt's text TOLD by the authors' own Lean function (tested against real Go, not proved from fmt's source: count such statements apart). THE CARD IS WHAT COUNTS. Prove the row's statement (the work); the ties are given (YtlheikmipljbaaaDoorTie.lean); close each card by the builder's one call (the guide's Derived/Test/ToyasCard.lean, 'card_holds'). Laid BY PROGRAM, IN A SANDBOX (cutbox-door.mjs). By AI agents, Wed Nov 11 2026. No macro, syntax, notation, axiom, sorry.
-/
import Derived.Test.YtlheikmipljbaaaDoorRows
import GoSem.ClaimSeven
namespace Go.Proofs.YtlheikmipljbaaaDoor
namespace Rows

/-- THE TIED CARD OF 'laws.FnExactDirectionsValid'. -/
def fnExactDirectionsValidCard : Claim7 := { stood := { row := fnExactDirectionsValidRow, standIns := [], harness := (true, "beb5e95a43f220776c68f688e59a0ce27b08a8fc6d20cdaf82f7ab5f7a1847bb"), looks := true }, kinds := [], alts := [], laidByText := true, laidKinds := [.data, .pinned], laidTests := true, laidLooks := .later }
def FnExactDirectionsValidCardSaid : Prop := Claim7.holds Tryd.pinned (.plain (OpenSpec.ofChange fnExactDirectionsValidSpec)) fnExactDirectionsValidCard

/-- THE TIED CARD OF 'laws.FnExactTokenTrains'. -/
def fnExactTokenTrainsCard : Claim7 := { stood := { row := fnExactTokenTrainsRow, standIns := [], harness := (true, "beb5e95a43f220776c68f688e59a0ce27b08a8fc6d20cdaf82f7ab5f7a1847bb"), looks := true }, kinds := [], alts := [], laidByText := true, laidKinds := [.data, .pinned], laidTests := true, laidLooks := .later }
def FnExactTokenTrainsCardSaid : Prop := Claim7.holds Tryd.pinned (.plain (OpenSpec.ofChange fnExactTokenTrainsSpec)) fnExactTokenTrainsCard

/-- THE TIED CARD OF 'laws.FnExactTokenNeeds'. -/
def fnExactTokenNeedsCard : Claim7 := { stood := { row := fnExactTokenNeedsRow, standIns := [], harness := (true, "beb5e95a43f220776c68f688e59a0ce27b08a8fc6d20cdaf82f7ab5f7a1847bb"), looks := true }, kinds := [], alts := [], laidByText := true, laidKinds := [.data, .pinned], laidTests := true, laidLooks := .later }
def FnExactTokenNeedsCardSaid : Prop := Claim7.holds Tryd.pinned (.plain (OpenSpec.ofChange fnExactTokenNeedsSpec)) fnExactTokenNeedsCard

/-- THE TIED CARD OF 'laws.FnExactTokenCarry'. -/
def fnExactTokenCarryCard : Claim7 := { stood := { row := fnExactTokenCarryRow, standIns := [], harness := (true, "beb5e95a43f220776c68f688e59a0ce27b08a8fc6d20cdaf82f7ab5f7a1847bb"), looks := true }, kinds := [], alts := [], laidByText := true, laidKinds := [.data, .pinned], laidTests := true, laidLooks := .later }
def FnExactTokenCarryCardSaid : Prop := Claim7.holds Tryd.pinned (.plain (OpenSpec.ofChange fnExactTokenCarrySpec)) fnExactTokenCarryCard

/-- THE TIED CARD OF 'laws.FnExactDirectionsTurn'. -/
def fnExactDirectionsTurnCard : Claim7 := { stood := { row := fnExactDirectionsTurnRow, standIns := [], harness := (true, "beb5e95a43f220776c68f688e59a0ce27b08a8fc6d20cdaf82f7ab5f7a1847bb"), looks := true }, kinds := [], alts := [], laidByText := true, laidKinds := [.data, .pinned], laidTests := true, laidLooks := .later }
def FnExactDirectionsTurnCardSaid : Prop := Claim7.holds Tryd.pinned (.plain (OpenSpec.ofChange fnExactDirectionsTurnSpec)) fnExactDirectionsTurnCard

/-- THE TIED CARD OF 'laws.FnExactDirectionsChanges'. -/
def fnExactDirectionsChangesCard : Claim7 := { stood := { row := fnExactDirectionsChangesRow, standIns := [], harness := (true, "beb5e95a43f220776c68f688e59a0ce27b08a8fc6d20cdaf82f7ab5f7a1847bb"), looks := true }, kinds := [], alts := [], laidByText := true, laidKinds := [.data, .pinned], laidTests := true, laidLooks := .later }
def FnExactDirectionsChangesCardSaid : Prop := Claim7.holds Tryd.pinned (.plain (OpenSpec.ofChange fnExactDirectionsChangesSpec)) fnExactDirectionsChangesCard

/-- THE TIED CARD OF 'laws.FnExactStaffRun'. -/
def fnExactStaffRunCard : Claim7 := { stood := { row := fnExactStaffRunRow, standIns := [], harness := (true, "beb5e95a43f220776c68f688e59a0ce27b08a8fc6d20cdaf82f7ab5f7a1847bb"), looks := true }, kinds := [], alts := [], laidByText := true, laidKinds := [.data, .pinned], laidTests := true, laidLooks := .later }
def FnExactStaffRunCardSaid : Prop := Claim7.holds Tryd.pinned (.plain (OpenSpec.ofChange fnExactStaffRunSpec)) fnExactStaffRunCard

/-- THE TIED CARD OF 'laws.FnExactStaffKinds'. -/
def fnExactStaffKindsCard : Claim7 := { stood := { row := fnExactStaffKindsRow, standIns := [], harness := (true, "beb5e95a43f220776c68f688e59a0ce27b08a8fc6d20cdaf82f7ab5f7a1847bb"), looks := true }, kinds := [], alts := [], laidByText := true, laidKinds := [.data, .pinned], laidTests := true, laidLooks := .later }
def FnExactStaffKindsCardSaid : Prop := Claim7.holds Tryd.pinned (.plain (OpenSpec.ofChange fnExactStaffKindsSpec)) fnExactStaffKindsCard

/-- THE TIED CARD OF 'laws.FnExactStaffMany'. -/
def fnExactStaffManyCard : Claim7 := { stood := { row := fnExactStaffManyRow, standIns := [], harness := (true, "beb5e95a43f220776c68f688e59a0ce27b08a8fc6d20cdaf82f7ab5f7a1847bb"), looks := true }, kinds := [], alts := [], laidByText := true, laidKinds := [.data, .pinned], laidTests := true, laidLooks := .later }
def FnExactStaffManyCardSaid : Prop := Claim7.holds Tryd.pinned (.plain (OpenSpec.ofChange fnExactStaffManySpec)) fnExactStaffManyCard

/-- THE SECOND FORM's CARD OF 'laws.FnExactDirectionsValid'. -/
def fnExactDirectionsValidUptoCard : Claim7 := { stood := { row := fnExactDirectionsValidUptoRow, standIns := [], harness := (true, "beb5e95a43f220776c68f688e59a0ce27b08a8fc6d20cdaf82f7ab5f7a1847bb"), looks := true }, kinds := [], alts := [], laidByText := true, laidKinds := [.data, .pinned], laidTests := true, laidLooks := .later }
def FnExactDirectionsValidUptoCardSaid : Prop := Claim7.holds Tryd.pinned (.plain (OpenSpec.upto fnExactDirectionsValidSpec)) fnExactDirectionsValidUptoCard

/-- THE SECOND FORM's CARD OF 'laws.FnExactTokenTrains'. -/
def fnExactTokenTrainsUptoCard : Claim7 := { stood := { row := fnExactTokenTrainsUptoRow, standIns := [], harness := (true, "beb5e95a43f220776c68f688e59a0ce27b08a8fc6d20cdaf82f7ab5f7a1847bb"), looks := true }, kinds := [], alts := [], laidByText := true, laidKinds := [.data, .pinned], laidTests := true, laidLooks := .later }
def FnExactTokenTrainsUptoCardSaid : Prop := Claim7.holds Tryd.pinned (.plain (OpenSpec.upto fnExactTokenTrainsSpec)) fnExactTokenTrainsUptoCard

/-- THE SECOND FORM's CARD OF 'laws.FnExactTokenNeeds'. -/
def fnExactTokenNeedsUptoCard : Claim7 := { stood := { row := fnExactTokenNeedsUptoRow, standIns := [], harness := (true, "beb5e95a43f220776c68f688e59a0ce27b08a8fc6d20cdaf82f7ab5f7a1847bb"), looks := true }, kinds := [], alts := [], laidByText := true, laidKinds := [.data, .pinned], laidTests := true, laidLooks := .later }
def FnExactTokenNeedsUptoCardSaid : Prop := Claim7.holds Tryd.pinned (.plain (OpenSpec.upto fnExactTokenNeedsSpec)) fnExactTokenNeedsUptoCard

/-- THE SECOND FORM's CARD OF 'laws.FnExactTokenCarry'. -/
def fnExactTokenCarryUptoCard : Claim7 := { stood := { row := fnExactTokenCarryUptoRow, standIns := [], harness := (true, "beb5e95a43f220776c68f688e59a0ce27b08a8fc6d20cdaf82f7ab5f7a1847bb"), looks := true }, kinds := [], alts := [], laidByText := true, laidKinds := [.data, .pinned], laidTests := true, laidLooks := .later }
def FnExactTokenCarryUptoCardSaid : Prop := Claim7.holds Tryd.pinned (.plain (OpenSpec.upto fnExactTokenCarrySpec)) fnExactTokenCarryUptoCard

/-- THE SECOND FORM's CARD OF 'laws.FnExactDirectionsTurn'. -/
def fnExactDirectionsTurnUptoCard : Claim7 := { stood := { row := fnExactDirectionsTurnUptoRow, standIns := [], harness := (true, "beb5e95a43f220776c68f688e59a0ce27b08a8fc6d20cdaf82f7ab5f7a1847bb"), looks := true }, kinds := [], alts := [], laidByText := true, laidKinds := [.data, .pinned], laidTests := true, laidLooks := .later }
def FnExactDirectionsTurnUptoCardSaid : Prop := Claim7.holds Tryd.pinned (.plain (OpenSpec.upto fnExactDirectionsTurnSpec)) fnExactDirectionsTurnUptoCard

/-- THE SECOND FORM's CARD OF 'laws.FnExactDirectionsChanges'. -/
def fnExactDirectionsChangesUptoCard : Claim7 := { stood := { row := fnExactDirectionsChangesUptoRow, standIns := [], harness := (true, "beb5e95a43f220776c68f688e59a0ce27b08a8fc6d20cdaf82f7ab5f7a1847bb"), looks := true }, kinds := [], alts := [], laidByText := true, laidKinds := [.data, .pinned], laidTests := true, laidLooks := .later }
def FnExactDirectionsChangesUptoCardSaid : Prop := Claim7.holds Tryd.pinned (.plain (OpenSpec.upto fnExactDirectionsChangesSpec)) fnExactDirectionsChangesUptoCard

/-- THE SECOND FORM's CARD OF 'laws.FnExactStaffRun'. -/
def fnExactStaffRunUptoCard : Claim7 := { stood := { row := fnExactStaffRunUptoRow, standIns := [], harness := (true, "beb5e95a43f220776c68f688e59a0ce27b08a8fc6d20cdaf82f7ab5f7a1847bb"), looks := true }, kinds := [], alts := [], laidByText := true, laidKinds := [.data, .pinned], laidTests := true, laidLooks := .later }
def FnExactStaffRunUptoCardSaid : Prop := Claim7.holds Tryd.pinned (.plain (OpenSpec.upto fnExactStaffRunSpec)) fnExactStaffRunUptoCard

/-- THE SECOND FORM's CARD OF 'laws.FnExactStaffKinds'. -/
def fnExactStaffKindsUptoCard : Claim7 := { stood := { row := fnExactStaffKindsUptoRow, standIns := [], harness := (true, "beb5e95a43f220776c68f688e59a0ce27b08a8fc6d20cdaf82f7ab5f7a1847bb"), looks := true }, kinds := [], alts := [], laidByText := true, laidKinds := [.data, .pinned], laidTests := true, laidLooks := .later }
def FnExactStaffKindsUptoCardSaid : Prop := Claim7.holds Tryd.pinned (.plain (OpenSpec.upto fnExactStaffKindsSpec)) fnExactStaffKindsUptoCard

/-- THE SECOND FORM's CARD OF 'laws.FnExactStaffMany'. -/
def fnExactStaffManyUptoCard : Claim7 := { stood := { row := fnExactStaffManyUptoRow, standIns := [], harness := (true, "beb5e95a43f220776c68f688e59a0ce27b08a8fc6d20cdaf82f7ab5f7a1847bb"), looks := true }, kinds := [], alts := [], laidByText := true, laidKinds := [.data, .pinned], laidTests := true, laidLooks := .later }
def FnExactStaffManyUptoCardSaid : Prop := Claim7.holds Tryd.pinned (.plain (OpenSpec.upto fnExactStaffManySpec)) fnExactStaffManyUptoCard
end Rows
end Go.Proofs.YtlheikmipljbaaaDoor
