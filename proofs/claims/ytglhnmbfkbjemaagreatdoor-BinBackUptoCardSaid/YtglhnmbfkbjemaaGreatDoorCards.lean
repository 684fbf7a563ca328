/-
  DERIVED. GIVEN WITH THE SEED: THE CARDS: each row of YtglhnmbfkbjemaaGreatDoorRows.lean that lists a variable, with what it lists TIED to the program's text (the seventh form; the later family's looks); each row that meets fmt, with fmt's text TOLD by the authors' own Lean function (tested against real Go, not proved from fmt's source: count such statements apart). THE CARD IS WHAT COUNTS. Prove the row's statement (the work); the ties are given (YtglhnmbfkbjemaaGreatDoorTie.lean); close each card by the builder's one call (the guide's Derived/Test/ToyasCard.lean, 'card_holds'). Laid BY PROGRAM, IN A SANDBOX (cutbox-door.mjs). By AI agents, Wed Nov 11 2026. No macro, syntax, notation, axiom, sorry.
-/
import Derived.Test.YtglhnmbfkbjemaaGreatDoorRows
import GoSem.ClaimSeven
namespace Go.Proofs.YtglhnmbfkbjemaaGreatDoor
namespace Rows

/-- THE TIED CARD OF 'inquestlaw04.BinBack'. -/
def binBackCard : Claim7 := { stood := { row := binBackRow, standIns := [], harness := (true, "32a769d636648b6bae03b98786cb46dd8a2c217df4cc21d2c7475c51a744d9a0"), looks := true }, kinds := [], alts := [], laidByText := true, laidKinds := [.data, .data, .data], laidTests := true, laidLooks := .later }
def BinBackCardSaid : Prop := Claim7.holds Tryz.pinned (.plain (OpenSpec.ofChange binBackSpec)) binBackCard

/-- THE SECOND FORM's CARD OF 'inquestlaw04.BinBack'. -/
def binBackUptoCard : Claim7 := { stood := { row := binBackUptoRow, standIns := [], harness := (true, "32a769d636648b6bae03b98786cb46dd8a2c217df4cc21d2c7475c51a744d9a0"), looks := true }, kinds := [], alts := [], laidByText := true, laidKinds := [.data, .data, .data], laidTests := true, laidLooks := .later }
def BinBackUptoCardSaid : Prop := Claim7.holds Tryz.pinned (.plain (OpenSpec.upto binBackSpec)) binBackUptoCard
end Rows
end Go.Proofs.YtglhnmbfkbjemaaGreatDoor
