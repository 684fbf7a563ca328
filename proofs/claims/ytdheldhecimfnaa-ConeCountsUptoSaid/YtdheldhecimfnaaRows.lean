/-
  No cell of these rows narrows 'for every input' (looked for: loops, veiled, ifaces, maps, wideKeys, modest, calm, conditions, laid).
  DERIVED. THE GIVEN ROWS OF THIS SEAT. 3 by the template 'for every input the law returns true; each argument reads behind the call as it read before'; 0 by the template 'total and deterministic' (their statements: YtdheldhecimfnaaTotals.lean).
  GIVEN WITH THE SEED: the statements are not yours to turn. If you find one false, say at which input.
  Laid BY PROGRAM, IN A SANDBOX (cutbox-rows.mjs): the forced cells as the released guide's own fill.sh prints them over the translation 11b509ff7645f5e8… (all of the seat's roots in one cut). By AI agents, Wed Nov 11 2026. No macro, syntax, notation, axiom, sorry.
-/
import Derived.Test.YtdheldhecimfnaaChecked
import GoSem.Claim
import GoSem.ClaimJoined
import GoSem.ClaimMapViews
import Derived.JoinedTies
import Derived.KernelRfl
namespace Go.Proofs.Ytdheldhecimfnaa
/- THE CELL 'sum', in the pinned program and in every row, IS THE sha256 OF THE DUMP (.gsa) THAT YtdheldhecimfnaaProg.lean LOADS. Nothing in Lean hashes anything: it is a label: what it is worth is what the hold of that sum in a sandbox is worth. -/
noncomputable def Try.pinned : Pinned := { name := "ytdheldhecimfnaa", sum := "11b509ff7645f5e87e7ba1567c9ba3a0533aa7eb714770c3ebc9d56936c98b0c", checked := Try.checked }
namespace Rows
def none {H : Type} : Left H := { results := [], args := [] }

/-- 'inquestlaw09.ConeTells': WHATEVER THE INPUT: true; the input reads as it did. -/
def coneTellsSpec : ChangeSpec := { name := "coneTells", fn := fun _ => fun
  | [d1, d2, d3, d4, d5] => { results := [.lit (.bool true)], args := [d1, d2, d3, d4, d5] }
  | _ => none }
def coneTellsRow : OpenClaim := { program := "ytdheldhecimfnaa", sum := "11b509ff7645f5e87e7ba1567c9ba3a0533aa7eb714770c3ebc9d56936c98b0c", func := "inquest/inquestlaw09.ConeTells", spec := "coneTells", unfollowed := true, recurses := true, apart := false }
def ConeTellsSaid : Prop := coneTellsRow.holds Try.pinned (OpenSpec.ofChange coneTellsSpec)

/-- ITS FALSE NEIGHBOUR: 'it returns false'. Refute it at one input. -/
def coneTellsWrong : ChangeSpec := { name := "coneTells", fn := fun _ => fun
  | [d1, d2, d3, d4, d5] => { results := [.lit (.bool false)], args := [d1, d2, d3, d4, d5] }
  | _ => none }
def ConeTellsWrongFalsely : Prop := coneTellsRow.holds Try.pinned (OpenSpec.ofChange coneTellsWrong)

/-- 'inquestlaw09.ConeCounts': WHATEVER THE INPUT: true; the input reads as it did. -/
def coneCountsSpec : ChangeSpec := { name := "coneCounts", fn := fun _ => fun
  | [d1, d2, d3] => { results := [.lit (.bool true)], args := [d1, d2, d3] }
  | _ => none }
def coneCountsRow : OpenClaim := { program := "ytdheldhecimfnaa", sum := "11b509ff7645f5e87e7ba1567c9ba3a0533aa7eb714770c3ebc9d56936c98b0c", func := "inquest/inquestlaw09.ConeCounts", spec := "coneCounts", unfollowed := true, recurses := true, apart := false }
def ConeCountsSaid : Prop := coneCountsRow.holds Try.pinned (OpenSpec.ofChange coneCountsSpec)

/-- ITS FALSE NEIGHBOUR: 'it returns false'. Refute it at one input. -/
def coneCountsWrong : ChangeSpec := { name := "coneCounts", fn := fun _ => fun
  | [d1, d2, d3] => { results := [.lit (.bool false)], args := [d1, d2, d3] }
  | _ => none }
def ConeCountsWrongFalsely : Prop := coneCountsRow.holds Try.pinned (OpenSpec.ofChange coneCountsWrong)

/-- 'inquestlaw09.ConeGrows': WHATEVER THE INPUT: true; the input reads as it did. -/
def coneGrowsSpec : ChangeSpec := { name := "coneGrows", fn := fun _ => fun
  | [d1, d2, d3, d4, d5] => { results := [.lit (.bool true)], args := [d1, d2, d3, d4, d5] }
  | _ => none }
def coneGrowsRow : OpenClaim := { program := "ytdheldhecimfnaa", sum := "11b509ff7645f5e87e7ba1567c9ba3a0533aa7eb714770c3ebc9d56936c98b0c", func := "inquest/inquestlaw09.ConeGrows", spec := "coneGrows", unfollowed := true, recurses := true, apart := false }
def ConeGrowsSaid : Prop := coneGrowsRow.holds Try.pinned (OpenSpec.ofChange coneGrowsSpec)

/-- ITS FALSE NEIGHBOUR: 'it returns false'. Refute it at one input. -/
def coneGrowsWrong : ChangeSpec := { name := "coneGrows", fn := fun _ => fun
  | [d1, d2, d3, d4, d5] => { results := [.lit (.bool false)], args := [d1, d2, d3, d4, d5] }
  | _ => none }
def ConeGrowsWrongFalsely : Prop := coneGrowsRow.holds Try.pinned (OpenSpec.ofChange coneGrowsWrong)

/- THE SECOND FORM. 'bulk': how many values and letters a reading holds, each counted each time it is reached (what is shared counts as often as it is met; a slice's spare places count too). A statement '..UptoSaid' is the law's where the arguments, and the package variables that the reading takes, are together of bulk at most 1048576: NARROWER than '..Said'. Prove '..Said' where nothing that the law and all that it calls make is longer than what came in: it says more and counts as full. Else prove '..UptoSaid'. A law counts once. -/
mutual
def uptoBulk {H : Type} : DataW H → Nat
  | .lit (.string bytes) => bytes.length + 1
  | .lit _ => 1
  | .nil => 1
  | .ptr d => uptoBulk d + 1
  | .slice elems spare => uptoBulkAll elems + uptoBulkAll spare + 1
  | .agg parts => uptoBulkAll parts + 1
  | .iface _ d => uptoBulk d + 1
  | .map entries => uptoBulkEntries entries + 1
  | .held _ => 1
def uptoBulkAll {H : Type} : List (DataW H) → Nat
  | [] => 0
  | d :: r => uptoBulk d + uptoBulkAll r
def uptoBulkEntries {H : Type} : List (Lit × DataW H) → Nat
  | [] => 0
  | x :: r => uptoBulkEntry x + uptoBulkEntries r
def uptoBulkEntry {H : Type} : Lit × DataW H → Nat
  | (.string bytes, d) => bytes.length + uptoBulk d + 1
  | (_, d) => uptoBulk d + 1
 end
def uptoSmall : (H : Type) → List (DataW H) → Bool := fun _ ds => decide (uptoBulkAll ds ≤ 1048576)
def OpenSpec.upto (s : _root_.Go.ChangeSpec) : _root_.Go.OpenSpec := { _root_.Go.OpenSpec.ofChange s with cond := some uptoSmall }

/-- 'inquestlaw09.ConeTells', WHERE WHAT IT READS IS OF BULK AT MOST 1048576: true; the input reads as it did. -/
def coneTellsUptoRow : OpenClaim := { program := "ytdheldhecimfnaa", sum := "11b509ff7645f5e87e7ba1567c9ba3a0533aa7eb714770c3ebc9d56936c98b0c", func := "inquest/inquestlaw09.ConeTells", spec := "coneTells", unfollowed := true, recurses := true, apart := false, narrowed := true }
def ConeTellsUptoSaid : Prop := coneTellsUptoRow.holds Try.pinned (OpenSpec.upto coneTellsSpec)

/-- 'inquestlaw09.ConeCounts', WHERE WHAT IT READS IS OF BULK AT MOST 1048576: true; the input reads as it did. -/
def coneCountsUptoRow : OpenClaim := { program := "ytdheldhecimfnaa", sum := "11b509ff7645f5e87e7ba1567c9ba3a0533aa7eb714770c3ebc9d56936c98b0c", func := "inquest/inquestlaw09.ConeCounts", spec := "coneCounts", unfollowed := true, recurses := true, apart := false, narrowed := true }
def ConeCountsUptoSaid : Prop := coneCountsUptoRow.holds Try.pinned (OpenSpec.upto coneCountsSpec)

/-- 'inquestlaw09.ConeGrows', WHERE WHAT IT READS IS OF BULK AT MOST 1048576: true; the input reads as it did. -/
def coneGrowsUptoRow : OpenClaim := { program := "ytdheldhecimfnaa", sum := "11b509ff7645f5e87e7ba1567c9ba3a0533aa7eb714770c3ebc9d56936c98b0c", func := "inquest/inquestlaw09.ConeGrows", spec := "coneGrows", unfollowed := true, recurses := true, apart := false, narrowed := true }
def ConeGrowsUptoSaid : Prop := coneGrowsUptoRow.holds Try.pinned (OpenSpec.upto coneGrowsSpec)

end Rows
end Go.Proofs.Ytdheldhecimfnaa
