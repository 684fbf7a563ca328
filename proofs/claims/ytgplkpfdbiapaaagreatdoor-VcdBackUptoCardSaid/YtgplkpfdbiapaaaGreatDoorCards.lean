/-
  DERIVED. GIVEN WITH THE SEED: THE CARDS: each row of YtgplkpfdbiapaaaGreatDoorRows.lean that lists a variable, with what it lists TIED to the program's text (the seventh form; the later family's looks); each row that meets fmt, with fmt's text TOLD by the authors' own Lean function (tested against real Go, not proved from fmt's source: count such statements apart). THE CARD IS WHAT COUNTS. Prove the row's statement (the work); the ties are given (YtgplkpfdbiapaaaGreatDoorTie.lean); close each card by the builder's one call (the guide's Derived/Test/ToyasCard.lean, 'card_holds'). Laid BY PROGRAM, IN A SANDBOX (cutbox-door.mjs). By AI agents, Wed Nov 11 2026. No macro, syntax, notation, axiom, sorry.
-/
import Derived.Test.YtgplkpfdbiapaaaGreatDoorRows
import GoSem.ClaimSeven
namespace Go.Proofs.YtgplkpfdbiapaaaGreatDoor
namespace Rows

/-- THE TIED CARD OF 'inquestlaw10.VcdBack'. -/
def vcdBackCard : Claim7 := { stood := { row := vcdBackRow, standIns := [], harness := (true, "bb1780a57230bf8fe786c0914b2eb5ec635f7d777842a9896de694419e645afe"), looks := true }, kinds := [], alts := [], laidByText := true, laidKinds := [.data, .data, .data, .data, .sentinel, .sentinel, .data, .pinned], laidTests := true, laidLooks := .later }
def VcdBackCardSaid : Prop := Claim7.holds Tryz.pinned (.plain (OpenSpec.ofChange vcdBackSpec)) vcdBackCard

/-- THE TIED CARD OF 'inquestlaw10.VcdLoose'. -/
def vcdLooseCard : Claim7 := { stood := { row := vcdLooseRow, standIns := [], harness := (true, "bb1780a57230bf8fe786c0914b2eb5ec635f7d777842a9896de694419e645afe"), looks := true }, kinds := [], alts := [], laidByText := true, laidKinds := [.data, .data, .data, .data, .sentinel, .sentinel, .data, .pinned], laidTests := true, laidLooks := .later }
def VcdLooseCardSaid : Prop := Claim7.holds Tryz.pinned (.plain (OpenSpec.ofChange vcdLooseSpec)) vcdLooseCard

/-- THE SECOND FORM's CARD OF 'inquestlaw10.VcdBack'. -/
def vcdBackUptoCard : Claim7 := { stood := { row := vcdBackUptoRow, standIns := [], harness := (true, "bb1780a57230bf8fe786c0914b2eb5ec635f7d777842a9896de694419e645afe"), looks := true }, kinds := [], alts := [], laidByText := true, laidKinds := [.data, .data, .data, .data, .sentinel, .sentinel, .data, .pinned], laidTests := true, laidLooks := .later }
def VcdBackUptoCardSaid : Prop := Claim7.holds Tryz.pinned (.plain (OpenSpec.upto vcdBackSpec)) vcdBackUptoCard

/-- THE SECOND FORM's CARD OF 'inquestlaw10.VcdLoose'. -/
def vcdLooseUptoCard : Claim7 := { stood := { row := vcdLooseUptoRow, standIns := [], harness := (true, "bb1780a57230bf8fe786c0914b2eb5ec635f7d777842a9896de694419e645afe"), looks := true }, kinds := [], alts := [], laidByText := true, laidKinds := [.data, .data, .data, .data, .sentinel, .sentinel, .data, .pinned], laidTests := true, laidLooks := .later }
def VcdLooseUptoCardSaid : Prop := Claim7.holds Tryz.pinned (.plain (OpenSpec.upto vcdLooseSpec)) vcdLooseUptoCard
end Rows
end Go.Proofs.YtgplkpfdbiapaaaGreatDoor
