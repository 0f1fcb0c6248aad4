/-
  DERIVED. GIVEN WITH THE SEED: THE CARDS: each row of YtlcmkocbpnekhaaDoorRows.lean that lists a variable, with what it lists TIED to the program's text (the seventh form; the later family's looks); each row that meets fmt, with fmt's text TOLD by the authors' own Lean function (tested against real Go, not proved from fmt's source: count such statements apart). THE CARD IS WHAT COUNTS. Prove the row's statement (the work); the ties are given (YtlcmkocbpnekhaaDoorTie.lean); close each card by the builder's one call (the guide's Derived/Test/ToyasCard.lean, 'card_holds'). Laid BY PROGRAM, IN A SANDBOX (cutbox-door.mjs). By AI agents, Wed Nov 11 2026. No macro, syntax, notation, axiom, sorry.
-/
import Derived.Test.YtlcmkocbpnekhaaDoorRows
import GoSem.ClaimSeven
namespace Go.Proofs.YtlcmkocbpnekhaaDoor
namespace Rows

/-- THE TIED CARD OF 'laws.FnSingleTokens'. -/
def fnSingleTokensCard : Claim7 := { stood := { row := fnSingleTokensRow, standIns := [], harness := (true, "4b561ca4b26857628638d47a331bb63ba6ec63a650b36387fa0c64a03d0e4d46"), looks := false }, kinds := [], alts := [], laidByText := true, laidKinds := [.data, .pinned], laidTests := true, laidLooks := .later }
def FnSingleTokensCardSaid : Prop := Claim7.holds Tryd.pinned (.plain (OpenSpec.ofChange fnSingleTokensSpec)) fnSingleTokensCard

/-- THE SECOND FORM's CARD OF 'laws.FnSingleTokens'. -/
def fnSingleTokensUptoCard : Claim7 := { stood := { row := fnSingleTokensUptoRow, standIns := [], harness := (true, "4b561ca4b26857628638d47a331bb63ba6ec63a650b36387fa0c64a03d0e4d46"), looks := false }, kinds := [], alts := [], laidByText := true, laidKinds := [.data, .pinned], laidTests := true, laidLooks := .later }
def FnSingleTokensUptoCardSaid : Prop := Claim7.holds Tryd.pinned (.plain (OpenSpec.upto fnSingleTokensSpec)) fnSingleTokensUptoCard
end Rows
end Go.Proofs.YtlcmkocbpnekhaaDoor
