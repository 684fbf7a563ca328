/-
  DERIVED. GIVEN WITH THE SEED: THE CARDS: each row of YtpjaghjdgmhcjaaDoorRows.lean that lists a variable, with what it lists TIED to the program's text (the seventh form; the later family's looks); each row that meets fmt, with fmt's text TOLD by the authors' own Lean function (tested against real Go, not proved from fmt's source: count such statements apart). THE CARD IS WHAT COUNTS. Prove the row's statement (the work); the ties are given (YtpjaghjdgmhcjaaDoorTie.lean); close each card by the builder's one call (the guide's Derived/Test/ToyasCard.lean, 'card_holds'). Laid BY PROGRAM, IN A SANDBOX (cutbox-door.mjs). By AI agents, Wed Nov 11 2026. No macro, syntax, notation, axiom, sorry.
-/
import Derived.Test.YtpjaghjdgmhcjaaDoorRows
import GoSem.ClaimSeven
namespace Go.Proofs.YtpjaghjdgmhcjaaDoor
namespace Rows

/-- THE TIED CARD OF 'inquestlaw01.LexTells'. -/
def lexTellsCard : Claim7 := { stood := { row := lexTellsRow, standIns := [], harness := (true, "3b7f2e1270753ddbc9082851fc1654471871a12cf0081033c91907eda5963b09"), looks := false }, kinds := [], alts := [], laidByText := true, laidKinds := [.data, .data, .data], laidTests := true, laidLooks := .later }
def LexTellsCardSaid : Prop := Claim7.holds Tryd.pinned (.plain (OpenSpec.ofChange lexTellsSpec)) lexTellsCard

/-- THE TIED CARD OF 'inquestlaw01.LexBack'. -/
def lexBackCard : Claim7 := { stood := { row := lexBackRow, standIns := [], harness := (true, "3b7f2e1270753ddbc9082851fc1654471871a12cf0081033c91907eda5963b09"), looks := false }, kinds := [], alts := [], laidByText := true, laidKinds := [.data, .data, .data], laidTests := true, laidLooks := .later }
def LexBackCardSaid : Prop := Claim7.holds Tryd.pinned (.plain (OpenSpec.ofChange lexBackSpec)) lexBackCard

/-- THE TIED CARD OF 'inquestlaw01.LexOnce'. -/
def lexOnceCard : Claim7 := { stood := { row := lexOnceRow, standIns := [], harness := (true, "3b7f2e1270753ddbc9082851fc1654471871a12cf0081033c91907eda5963b09"), looks := false }, kinds := [], alts := [], laidByText := true, laidKinds := [.data, .data, .data], laidTests := true, laidLooks := .later }
def LexOnceCardSaid : Prop := Claim7.holds Tryd.pinned (.plain (OpenSpec.ofChange lexOnceSpec)) lexOnceCard

/-- THE SECOND FORM's CARD OF 'inquestlaw01.LexTells'. -/
def lexTellsUptoCard : Claim7 := { stood := { row := lexTellsUptoRow, standIns := [], harness := (true, "3b7f2e1270753ddbc9082851fc1654471871a12cf0081033c91907eda5963b09"), looks := false }, kinds := [], alts := [], laidByText := true, laidKinds := [.data, .data, .data], laidTests := true, laidLooks := .later }
def LexTellsUptoCardSaid : Prop := Claim7.holds Tryd.pinned (.plain (OpenSpec.upto lexTellsSpec)) lexTellsUptoCard

/-- THE SECOND FORM's CARD OF 'inquestlaw01.LexBack'. -/
def lexBackUptoCard : Claim7 := { stood := { row := lexBackUptoRow, standIns := [], harness := (true, "3b7f2e1270753ddbc9082851fc1654471871a12cf0081033c91907eda5963b09"), looks := false }, kinds := [], alts := [], laidByText := true, laidKinds := [.data, .data, .data], laidTests := true, laidLooks := .later }
def LexBackUptoCardSaid : Prop := Claim7.holds Tryd.pinned (.plain (OpenSpec.upto lexBackSpec)) lexBackUptoCard

/-- THE SECOND FORM's CARD OF 'inquestlaw01.LexOnce'. -/
def lexOnceUptoCard : Claim7 := { stood := { row := lexOnceUptoRow, standIns := [], harness := (true, "3b7f2e1270753ddbc9082851fc1654471871a12cf0081033c91907eda5963b09"), looks := false }, kinds := [], alts := [], laidByText := true, laidKinds := [.data, .data, .data], laidTests := true, laidLooks := .later }
def LexOnceUptoCardSaid : Prop := Claim7.holds Tryd.pinned (.plain (OpenSpec.upto lexOnceSpec)) lexOnceUptoCard
end Rows
end Go.Proofs.YtpjaghjdgmhcjaaDoor
