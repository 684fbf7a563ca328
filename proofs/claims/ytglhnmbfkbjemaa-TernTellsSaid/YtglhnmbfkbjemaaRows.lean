/-
  No cell of these rows narrows 'for every input' (looked for: loops, veiled, ifaces, maps, wideKeys, modest, calm, conditions, laid).
  DERIVED. THE GIVEN ROWS OF THIS SEAT. 3 by the template 'for every input the law returns true; each argument reads behind the call as it read before'; 0 by the template 'total and deterministic' (their statements: YtglhnmbfkbjemaaTotals.lean).
  GIVEN WITH THE SEED: the statements are not yours to turn. If you find one false, say at which input.
  Laid BY PROGRAM, IN A SANDBOX (cutbox-rows.mjs): the forced cells as the released guide's own fill.sh prints them over the translation d47cdfaa7cd0fafe… (all of the seat's roots in one cut). By AI agents, Wed Nov 11 2026. No macro, syntax, notation, axiom, sorry.
-/
import Derived.Test.YtglhnmbfkbjemaaChecked
import GoSem.Claim
import GoSem.ClaimJoined
import GoSem.ClaimMapViews
import Derived.JoinedTies
import Derived.KernelRfl
namespace Go.Proofs.Ytglhnmbfkbjemaa
/- THE CELL 'sum', in the pinned program and in every row, IS THE sha256 OF THE DUMP (.gsa) THAT YtglhnmbfkbjemaaProg.lean LOADS. Nothing in Lean hashes anything: it is a label: what it is worth is what the hold of that sum in a sandbox is worth. -/
noncomputable def Try.pinned : Pinned := { name := "ytglhnmbfkbjemaa", sum := "d47cdfaa7cd0fafe6e23f7bcb9efaea3d8ad06530334934fab92c91de3dc2d0c", checked := Try.checked }
namespace Rows
def none {H : Type} : Left H := { results := [], args := [] }

/-- 'inquestlaw06.TernTells': WHATEVER THE INPUT: true; the input reads as it did. -/
def ternTellsSpec : ChangeSpec := { name := "ternTells", fn := fun _ => fun
  | [d1, d2, d3, d4, d5, d6] => { results := [.lit (.bool true)], args := [d1, d2, d3, d4, d5, d6] }
  | _ => none }
def ternTellsRow : OpenClaim := { program := "ytglhnmbfkbjemaa", sum := "d47cdfaa7cd0fafe6e23f7bcb9efaea3d8ad06530334934fab92c91de3dc2d0c", func := "inquest/inquestlaw06.TernTells", spec := "ternTells", apart := false }
def TernTellsSaid : Prop := ternTellsRow.holds Try.pinned (OpenSpec.ofChange ternTellsSpec)

/-- ITS FALSE NEIGHBOUR: 'it returns false'. Refute it at one input. -/
def ternTellsWrong : ChangeSpec := { name := "ternTells", fn := fun _ => fun
  | [d1, d2, d3, d4, d5, d6] => { results := [.lit (.bool false)], args := [d1, d2, d3, d4, d5, d6] }
  | _ => none }
def TernTellsWrongFalsely : Prop := ternTellsRow.holds Try.pinned (OpenSpec.ofChange ternTellsWrong)

/-- 'inquestlaw06.TernPlaces': WHATEVER THE INPUT: true; the input reads as it did. -/
def ternPlacesSpec : ChangeSpec := { name := "ternPlaces", fn := fun _ => fun
  | [d1, d2, d3, d4] => { results := [.lit (.bool true)], args := [d1, d2, d3, d4] }
  | _ => none }
def ternPlacesRow : OpenClaim := { program := "ytglhnmbfkbjemaa", sum := "d47cdfaa7cd0fafe6e23f7bcb9efaea3d8ad06530334934fab92c91de3dc2d0c", func := "inquest/inquestlaw06.TernPlaces", spec := "ternPlaces", apart := false }
def TernPlacesSaid : Prop := ternPlacesRow.holds Try.pinned (OpenSpec.ofChange ternPlacesSpec)

/-- ITS FALSE NEIGHBOUR: 'it returns false'. Refute it at one input. -/
def ternPlacesWrong : ChangeSpec := { name := "ternPlaces", fn := fun _ => fun
  | [d1, d2, d3, d4] => { results := [.lit (.bool false)], args := [d1, d2, d3, d4] }
  | _ => none }
def TernPlacesWrongFalsely : Prop := ternPlacesRow.holds Try.pinned (OpenSpec.ofChange ternPlacesWrong)

/-- 'inquestlaw06.TernWithin': WHATEVER THE INPUT: true; the input reads as it did. -/
def ternWithinSpec : ChangeSpec := { name := "ternWithin", fn := fun _ => fun
  | [d1, d2, d3, d4] => { results := [.lit (.bool true)], args := [d1, d2, d3, d4] }
  | _ => none }
def ternWithinRow : OpenClaim := { program := "ytglhnmbfkbjemaa", sum := "d47cdfaa7cd0fafe6e23f7bcb9efaea3d8ad06530334934fab92c91de3dc2d0c", func := "inquest/inquestlaw06.TernWithin", spec := "ternWithin", apart := false }
def TernWithinSaid : Prop := ternWithinRow.holds Try.pinned (OpenSpec.ofChange ternWithinSpec)

/-- ITS FALSE NEIGHBOUR: 'it returns false'. Refute it at one input. -/
def ternWithinWrong : ChangeSpec := { name := "ternWithin", fn := fun _ => fun
  | [d1, d2, d3, d4] => { results := [.lit (.bool false)], args := [d1, d2, d3, d4] }
  | _ => none }
def TernWithinWrongFalsely : Prop := ternWithinRow.holds Try.pinned (OpenSpec.ofChange ternWithinWrong)

/- THE SECOND FORM. 'bulk': how many values and letters a reading holds, each counted each time it is reached (what is shared counts as often as it is met; a slice's spare places count too). A statement '..UptoSaid' is the law's where the arguments, and the package variables that the reading takes, are together of bulk at most 1048576: NARROWER than '..Said'. Prove '..Said' where nothing that the law and all that it calls make is longer than what came in: it says more and counts as full. Else prove '..UptoSaid'. A law counts once. -/
mutual
def uptoBulk {H : Type} : DataW H → Nat
  | .lit (.string bytes) => bytes.length + 1
  | .lit _ => 1
  | .nil => 1
  | .ptr d => uptoBulk d + 1
  | .slice elems spare => uptoBulkAll elems + uptoBulkAll spare + 1
  | .agg parts => uptoBulkAll parts + 1
  | .iface _ d => uptoBulk d + 1
  | .map entries => uptoBulkEntries entries + 1
  | .held _ => 1
def uptoBulkAll {H : Type} : List (DataW H) → Nat
  | [] => 0
  | d :: r => uptoBulk d + uptoBulkAll r
def uptoBulkEntries {H : Type} : List (Lit × DataW H) → Nat
  | [] => 0
  | x :: r => uptoBulkEntry x + uptoBulkEntries r
def uptoBulkEntry {H : Type} : Lit × DataW H → Nat
  | (.string bytes, d) => bytes.length + uptoBulk d + 1
  | (_, d) => uptoBulk d + 1
 end
def uptoSmall : (H : Type) → List (DataW H) → Bool := fun _ ds => decide (uptoBulkAll ds ≤ 1048576)
def OpenSpec.upto (s : _root_.Go.ChangeSpec) : _root_.Go.OpenSpec := { _root_.Go.OpenSpec.ofChange s with cond := some uptoSmall }

/-- 'inquestlaw06.TernTells', WHERE WHAT IT READS IS OF BULK AT MOST 1048576: true; the input reads as it did. -/
def ternTellsUptoRow : OpenClaim := { program := "ytglhnmbfkbjemaa", sum := "d47cdfaa7cd0fafe6e23f7bcb9efaea3d8ad06530334934fab92c91de3dc2d0c", func := "inquest/inquestlaw06.TernTells", spec := "ternTells", apart := false, narrowed := true }
def TernTellsUptoSaid : Prop := ternTellsUptoRow.holds Try.pinned (OpenSpec.upto ternTellsSpec)

/-- 'inquestlaw06.TernPlaces', WHERE WHAT IT READS IS OF BULK AT MOST 1048576: true; the input reads as it did. -/
def ternPlacesUptoRow : OpenClaim := { program := "ytglhnmbfkbjemaa", sum := "d47cdfaa7cd0fafe6e23f7bcb9efaea3d8ad06530334934fab92c91de3dc2d0c", func := "inquest/inquestlaw06.TernPlaces", spec := "ternPlaces", apart := false, narrowed := true }
def TernPlacesUptoSaid : Prop := ternPlacesUptoRow.holds Try.pinned (OpenSpec.upto ternPlacesSpec)

/-- 'inquestlaw06.TernWithin', WHERE WHAT IT READS IS OF BULK AT MOST 1048576: true; the input reads as it did. -/
def ternWithinUptoRow : OpenClaim := { program := "ytglhnmbfkbjemaa", sum := "d47cdfaa7cd0fafe6e23f7bcb9efaea3d8ad06530334934fab92c91de3dc2d0c", func := "inquest/inquestlaw06.TernWithin", spec := "ternWithin", apart := false, narrowed := true }
def TernWithinUptoSaid : Prop := ternWithinUptoRow.holds Try.pinned (OpenSpec.upto ternWithinSpec)

end Rows
end Go.Proofs.Ytglhnmbfkbjemaa
