/-
  DERIVED. GIVEN WITH THE SEED: THE CARDS: each row of YtglhnmbfkbjemaaDoorRows.lean that lists a variable, with what it lists TIED to the program's text (the seventh form; the later family's looks); each row that meets fmt, with fmt's text TOLD by the authors' own Lean function (tested against real Go, not proved from fmt's source: count such statements apart). THE CARD IS WHAT COUNTS. Prove the row's statement (the work); the ties are given (YtglhnmbfkbjemaaDoorTie.lean); close each card by the builder's one call (the guide's Derived/Test/ToyasCard.lean, 'card_holds'). Laid BY PROGRAM, IN A SANDBOX (cutbox-door.mjs). By AI agents, Wed Nov 11 2026. No macro, syntax, notation, axiom, sorry.
-/
import Derived.Test.YtglhnmbfkbjemaaDoorRows
import GoSem.ClaimSeven
namespace Go.Proofs.YtglhnmbfkbjemaaDoor
namespace Rows

/-- THE TIED CARD OF 'inquestlaw04.BinOnce'. -/
def binOnceCard : Claim7 := { stood := { row := binOnceRow, standIns := [], harness := (true, "95edb04ffe1de198cb125e3d354c99895bc7618b98eb50d85d6171802f0fa29a"), looks := false }, kinds := [], alts := [], laidByText := true, laidKinds := [.data, .data, .data], laidTests := true, laidLooks := .later }
def BinOnceCardSaid : Prop := Claim7.holds Tryd.pinned (.plain (OpenSpec.ofChange binOnceSpec)) binOnceCard

/-- THE SECOND FORM's CARD OF 'inquestlaw04.BinOnce'. -/
def binOnceUptoCard : Claim7 := { stood := { row := binOnceUptoRow, standIns := [], harness := (true, "95edb04ffe1de198cb125e3d354c99895bc7618b98eb50d85d6171802f0fa29a"), looks := false }, kinds := [], alts := [], laidByText := true, laidKinds := [.data, .data, .data], laidTests := true, laidLooks := .later }
def BinOnceUptoCardSaid : Prop := Claim7.holds Tryd.pinned (.plain (OpenSpec.upto binOnceSpec)) binOnceUptoCard
end Rows
end Go.Proofs.YtglhnmbfkbjemaaDoor
