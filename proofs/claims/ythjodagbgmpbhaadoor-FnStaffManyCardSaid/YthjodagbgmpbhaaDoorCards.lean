/-
  DERIVED. GIVEN WITH THE SEED: THE CARDS: each row of YthjodagbgmpbhaaDoorRows.lean that lists a variable, with what it lists TIED to the program's text (the seventh form; the later family's looks); each row that meets fmt, with fmt's text TOLD by the authors' own Lean function (tested against real Go, not proved from fmt's source: count such statements apart). THE CARD IS WHAT COUNTS. Prove the row's statement (the work); the ties are given (YthjodagbgmpbhaaDoorTie.lean); close each card by the builder's one call (the guide's Derived/Test/ToyasCard.lean, 'card_holds'). Laid BY PROGRAM, IN A SANDBOX (cutbox-door.mjs). By AI agents, Wed Nov 11 2026. No macro, syntax, notation, axiom, sorry.
-/
import Derived.Test.YthjodagbgmpbhaaDoorRows
import GoSem.ClaimSeven
namespace Go.Proofs.YthjodagbgmpbhaaDoor
namespace Rows

/-- THE TIED CARD OF 'laws.FnChanges'. -/
def fnChangesCard : Claim7 := { stood := { row := fnChangesRow, standIns := [], harness := (true, "2a762c24dd630722956f2c9f187e3d279803ba83d04c81186cfe00238cb52aa4"), looks := false }, kinds := [], alts := [], laidByText := true, laidKinds := [.data, .pinned], laidTests := true, laidLooks := .later }
def FnChangesCardSaid : Prop := Claim7.holds Tryd.pinned (.plain (OpenSpec.ofChange fnChangesSpec)) fnChangesCard

/-- THE TIED CARD OF 'laws.FnStaffKinds'. -/
def fnStaffKindsCard : Claim7 := { stood := { row := fnStaffKindsRow, standIns := [], harness := (true, "2a762c24dd630722956f2c9f187e3d279803ba83d04c81186cfe00238cb52aa4"), looks := false }, kinds := [], alts := [], laidByText := true, laidKinds := [.data, .pinned], laidTests := true, laidLooks := .later }
def FnStaffKindsCardSaid : Prop := Claim7.holds Tryd.pinned (.plain (OpenSpec.ofChange fnStaffKindsSpec)) fnStaffKindsCard

/-- THE TIED CARD OF 'laws.FnStaffMany'. -/
def fnStaffManyCard : Claim7 := { stood := { row := fnStaffManyRow, standIns := [], harness := (true, "2a762c24dd630722956f2c9f187e3d279803ba83d04c81186cfe00238cb52aa4"), looks := false }, kinds := [], alts := [], laidByText := true, laidKinds := [.data, .pinned], laidTests := true, laidLooks := .later }
def FnStaffManyCardSaid : Prop := Claim7.holds Tryd.pinned (.plain (OpenSpec.ofChange fnStaffManySpec)) fnStaffManyCard

/-- THE SECOND FORM's CARD OF 'laws.FnChanges'. -/
def fnChangesUptoCard : Claim7 := { stood := { row := fnChangesUptoRow, standIns := [], harness := (true, "2a762c24dd630722956f2c9f187e3d279803ba83d04c81186cfe00238cb52aa4"), looks := false }, kinds := [], alts := [], laidByText := true, laidKinds := [.data, .pinned], laidTests := true, laidLooks := .later }
def FnChangesUptoCardSaid : Prop := Claim7.holds Tryd.pinned (.plain (OpenSpec.upto fnChangesSpec)) fnChangesUptoCard

/-- THE SECOND FORM's CARD OF 'laws.FnStaffKinds'. -/
def fnStaffKindsUptoCard : Claim7 := { stood := { row := fnStaffKindsUptoRow, standIns := [], harness := (true, "2a762c24dd630722956f2c9f187e3d279803ba83d04c81186cfe00238cb52aa4"), looks := false }, kinds := [], alts := [], laidByText := true, laidKinds := [.data, .pinned], laidTests := true, laidLooks := .later }
def FnStaffKindsUptoCardSaid : Prop := Claim7.holds Tryd.pinned (.plain (OpenSpec.upto fnStaffKindsSpec)) fnStaffKindsUptoCard

/-- THE SECOND FORM's CARD OF 'laws.FnStaffMany'. -/
def fnStaffManyUptoCard : Claim7 := { stood := { row := fnStaffManyUptoRow, standIns := [], harness := (true, "2a762c24dd630722956f2c9f187e3d279803ba83d04c81186cfe00238cb52aa4"), looks := false }, kinds := [], alts := [], laidByText := true, laidKinds := [.data, .pinned], laidTests := true, laidLooks := .later }
def FnStaffManyUptoCardSaid : Prop := Claim7.holds Tryd.pinned (.plain (OpenSpec.upto fnStaffManySpec)) fnStaffManyUptoCard
end Rows
end Go.Proofs.YthjodagbgmpbhaaDoor
