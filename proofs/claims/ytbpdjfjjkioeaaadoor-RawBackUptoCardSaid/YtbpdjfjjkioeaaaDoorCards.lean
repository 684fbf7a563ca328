/-
  DERIVED. GIVEN WITH THE SEED: THE CARDS: each row of YtbpdjfjjkioeaaaDoorRows.lean that lists a variable, with what it lists TIED to the program's text (the seventh form; the later family's looks); each row that meets fmt, with fmt's text TOLD by the authors' own Lean function (tested against real Go, not proved from fmt's source: count such statements apart). THE CARD IS WHAT COUNTS. Prove the row's statement (the work); the ties are given (YtbpdjfjjkioeaaaDoorTie.lean); close each card by the builder's one call (the guide's Derived/Test/ToyasCard.lean, 'card_holds'). Laid BY PROGRAM, IN A SANDBOX (cutbox-door.mjs). By AI agents, Wed Nov 11 2026. No macro, syntax, notation, axiom, sorry.
-/
import Derived.Test.YtbpdjfjjkioeaaaDoorRows
import GoSem.ClaimSeven
namespace Go.Proofs.YtbpdjfjjkioeaaaDoor
namespace Rows

/-- THE TIED CARD OF 'inquestlaw02.RawBack'. -/
def rawBackCard : Claim7 := { stood := { row := rawBackRow, standIns := [], harness := (true, "ea02de2e9880c815a4367de2270950ffd2f51c510d7961b77ed9e1688abb2e81"), looks := false }, kinds := [], alts := [], laidByText := true, laidKinds := [.data, .data, .data], laidTests := true, laidLooks := .later }
def RawBackCardSaid : Prop := Claim7.holds Tryd.pinned (.plain (OpenSpec.ofChange rawBackSpec)) rawBackCard

/-- THE SECOND FORM's CARD OF 'inquestlaw02.RawBack'. -/
def rawBackUptoCard : Claim7 := { stood := { row := rawBackUptoRow, standIns := [], harness := (true, "ea02de2e9880c815a4367de2270950ffd2f51c510d7961b77ed9e1688abb2e81"), looks := false }, kinds := [], alts := [], laidByText := true, laidKinds := [.data, .data, .data], laidTests := true, laidLooks := .later }
def RawBackUptoCardSaid : Prop := Claim7.holds Tryd.pinned (.plain (OpenSpec.upto rawBackSpec)) rawBackUptoCard
end Rows
end Go.Proofs.YtbpdjfjjkioeaaaDoor
