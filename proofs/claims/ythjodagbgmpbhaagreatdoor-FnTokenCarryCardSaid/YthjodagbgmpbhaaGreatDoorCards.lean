/-
  DERIVED. GIVEN WITH THE SEED: THE CARDS: each row of YthjodagbgmpbhaaGreatDoorRows.lean that lists a variable, with what it lists TIED to the program's text (the seventh form; the later family's looks); each row that meets fmt, with fmt's text TOLD by the authors' own Lean function (tested against real Go, not proved from fmt's source: count such statements apart). THE CARD IS WHAT COUNTS. Prove the row's statement (the work); the ties are given (YthjodagbgmpbhaaGreatDoorTie.lean); close each card by the builder's one call (the guide's Derived/Test/ToyasCard.lean, 'card_holds'). Laid BY PROGRAM, IN A SANDBOX (cutbox-door.mjs). By AI agents, Wed Nov 11 2026. No macro, syntax, notation, axiom, sorry.
-/
import Derived.Test.YthjodagbgmpbhaaGreatDoorRows
import GoSem.ClaimSeven
namespace Go.Proofs.YthjodagbgmpbhaaGreatDoor
namespace Rows

/-- THE TIED CARD OF 'laws.FnTokenTrains'. -/
def fnTokenTrainsCard : Claim7 := { stood := { row := fnTokenTrainsRow, standIns := [], harness := (true, "da0bbe49e90244b4bca7299c92c945dd380898e5a765bea53879b2c96e4deed0"), looks := true }, kinds := [], alts := [], laidByText := true, laidKinds := [.data, .pinned], laidTests := true, laidLooks := .later }
def FnTokenTrainsCardSaid : Prop := Claim7.holds Tryz.pinned (.plain (OpenSpec.ofChange fnTokenTrainsSpec)) fnTokenTrainsCard

/-- THE TIED CARD OF 'laws.FnTokenNeeds'. -/
def fnTokenNeedsCard : Claim7 := { stood := { row := fnTokenNeedsRow, standIns := [], harness := (true, "da0bbe49e90244b4bca7299c92c945dd380898e5a765bea53879b2c96e4deed0"), looks := true }, kinds := [], alts := [], laidByText := true, laidKinds := [.data, .pinned], laidTests := true, laidLooks := .later }
def FnTokenNeedsCardSaid : Prop := Claim7.holds Tryz.pinned (.plain (OpenSpec.ofChange fnTokenNeedsSpec)) fnTokenNeedsCard

/-- THE TIED CARD OF 'laws.FnTokenCarry'. -/
def fnTokenCarryCard : Claim7 := { stood := { row := fnTokenCarryRow, standIns := [], harness := (true, "da0bbe49e90244b4bca7299c92c945dd380898e5a765bea53879b2c96e4deed0"), looks := true }, kinds := [], alts := [], laidByText := true, laidKinds := [.data, .pinned], laidTests := true, laidLooks := .later }
def FnTokenCarryCardSaid : Prop := Claim7.holds Tryz.pinned (.plain (OpenSpec.ofChange fnTokenCarrySpec)) fnTokenCarryCard

/-- THE TIED CARD OF 'laws.FnDirections'. -/
def fnDirectionsCard : Claim7 := { stood := { row := fnDirectionsRow, standIns := [], harness := (true, "da0bbe49e90244b4bca7299c92c945dd380898e5a765bea53879b2c96e4deed0"), looks := true }, kinds := [], alts := [], laidByText := true, laidKinds := [.data, .pinned], laidTests := true, laidLooks := .later }
def FnDirectionsCardSaid : Prop := Claim7.holds Tryz.pinned (.plain (OpenSpec.ofChange fnDirectionsSpec)) fnDirectionsCard

/-- THE TIED CARD OF 'laws.FnStaffRun'. -/
def fnStaffRunCard : Claim7 := { stood := { row := fnStaffRunRow, standIns := [], harness := (true, "da0bbe49e90244b4bca7299c92c945dd380898e5a765bea53879b2c96e4deed0"), looks := true }, kinds := [], alts := [], laidByText := true, laidKinds := [.data, .pinned], laidTests := true, laidLooks := .later }
def FnStaffRunCardSaid : Prop := Claim7.holds Tryz.pinned (.plain (OpenSpec.ofChange fnStaffRunSpec)) fnStaffRunCard

/-- THE SECOND FORM's CARD OF 'laws.FnTokenTrains'. -/
def fnTokenTrainsUptoCard : Claim7 := { stood := { row := fnTokenTrainsUptoRow, standIns := [], harness := (true, "da0bbe49e90244b4bca7299c92c945dd380898e5a765bea53879b2c96e4deed0"), looks := true }, kinds := [], alts := [], laidByText := true, laidKinds := [.data, .pinned], laidTests := true, laidLooks := .later }
def FnTokenTrainsUptoCardSaid : Prop := Claim7.holds Tryz.pinned (.plain (OpenSpec.upto fnTokenTrainsSpec)) fnTokenTrainsUptoCard

/-- THE SECOND FORM's CARD OF 'laws.FnTokenNeeds'. -/
def fnTokenNeedsUptoCard : Claim7 := { stood := { row := fnTokenNeedsUptoRow, standIns := [], harness := (true, "da0bbe49e90244b4bca7299c92c945dd380898e5a765bea53879b2c96e4deed0"), looks := true }, kinds := [], alts := [], laidByText := true, laidKinds := [.data, .pinned], laidTests := true, laidLooks := .later }
def FnTokenNeedsUptoCardSaid : Prop := Claim7.holds Tryz.pinned (.plain (OpenSpec.upto fnTokenNeedsSpec)) fnTokenNeedsUptoCard

/-- THE SECOND FORM's CARD OF 'laws.FnTokenCarry'. -/
def fnTokenCarryUptoCard : Claim7 := { stood := { row := fnTokenCarryUptoRow, standIns := [], harness := (true, "da0bbe49e90244b4bca7299c92c945dd380898e5a765bea53879b2c96e4deed0"), looks := true }, kinds := [], alts := [], laidByText := true, laidKinds := [.data, .pinned], laidTests := true, laidLooks := .later }
def FnTokenCarryUptoCardSaid : Prop := Claim7.holds Tryz.pinned (.plain (OpenSpec.upto fnTokenCarrySpec)) fnTokenCarryUptoCard

/-- THE SECOND FORM's CARD OF 'laws.FnDirections'. -/
def fnDirectionsUptoCard : Claim7 := { stood := { row := fnDirectionsUptoRow, standIns := [], harness := (true, "da0bbe49e90244b4bca7299c92c945dd380898e5a765bea53879b2c96e4deed0"), looks := true }, kinds := [], alts := [], laidByText := true, laidKinds := [.data, .pinned], laidTests := true, laidLooks := .later }
def FnDirectionsUptoCardSaid : Prop := Claim7.holds Tryz.pinned (.plain (OpenSpec.upto fnDirectionsSpec)) fnDirectionsUptoCard

/-- THE SECOND FORM's CARD OF 'laws.FnStaffRun'. -/
def fnStaffRunUptoCard : Claim7 := { stood := { row := fnStaffRunUptoRow, standIns := [], harness := (true, "da0bbe49e90244b4bca7299c92c945dd380898e5a765bea53879b2c96e4deed0"), looks := true }, kinds := [], alts := [], laidByText := true, laidKinds := [.data, .pinned], laidTests := true, laidLooks := .later }
def FnStaffRunUptoCardSaid : Prop := Claim7.holds Tryz.pinned (.plain (OpenSpec.upto fnStaffRunSpec)) fnStaffRunUptoCard
end Rows
end Go.Proofs.YthjodagbgmpbhaaGreatDoor
