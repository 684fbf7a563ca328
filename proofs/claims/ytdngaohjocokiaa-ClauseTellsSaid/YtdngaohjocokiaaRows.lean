/-
  No cell of these rows narrows 'for every input' (looked for: loops, veiled, ifaces, maps, wideKeys, modest, calm, conditions, laid).
  DERIVED. THE GIVEN ROWS OF THIS SEAT. 3 by the template 'for every input the law returns true; each argument reads behind the call as it read before'; 0 by the template 'total and deterministic' (their statements: YtdngaohjocokiaaTotals.lean).
  GIVEN WITH THE SEED: the statements are not yours to turn. If you find one false, say at which input.
  Laid BY PROGRAM, IN A SANDBOX (cutbox-rows.mjs): the forced cells as the released guide's own fill.sh prints them over the translation 95236c7bca46370a… (all of the seat's roots in one cut). By AI agents, Wed Nov 11 2026. No macro, syntax, notation, axiom, sorry.
-/
import Derived.Test.YtdngaohjocokiaaChecked
import GoSem.Claim
import GoSem.ClaimJoined
import GoSem.ClaimMapViews
import Derived.JoinedTies
import Derived.KernelRfl
namespace Go.Proofs.Ytdngaohjocokiaa
/- THE CELL 'sum', in the pinned program and in every row, IS THE sha256 OF THE DUMP (.gsa) THAT YtdngaohjocokiaaProg.lean LOADS. Nothing in Lean hashes anything: it is a label: what it is worth is what the hold of that sum in a sandbox is worth. -/
noncomputable def Try.pinned : Pinned := { name := "ytdngaohjocokiaa", sum := "95236c7bca46370a47e8f5d832333eb19fbe8ec49e469cc3394c0b9def55bb54", checked := Try.checked }
namespace Rows
def none {H : Type} : Left H := { results := [], args := [] }

/-- 'inquestlaw11.ClauseTells': WHATEVER THE INPUT: true; the input reads as it did. -/
def clauseTellsSpec : ChangeSpec := { name := "clauseTells", fn := fun _ => fun
  | [d1, d2, d3, d4] => { results := [.lit (.bool true)], args := [d1, d2, d3, d4] }
  | _ => none }
def clauseTellsRow : OpenClaim := { program := "ytdngaohjocokiaa", sum := "95236c7bca46370a47e8f5d832333eb19fbe8ec49e469cc3394c0b9def55bb54", func := "inquest/inquestlaw11.ClauseTells", spec := "clauseTells", unfollowed := true, recurses := true, apart := false }
def ClauseTellsSaid : Prop := clauseTellsRow.holds Try.pinned (OpenSpec.ofChange clauseTellsSpec)

/-- ITS FALSE NEIGHBOUR: 'it returns false'. Refute it at one input. -/
def clauseTellsWrong : ChangeSpec := { name := "clauseTells", fn := fun _ => fun
  | [d1, d2, d3, d4] => { results := [.lit (.bool false)], args := [d1, d2, d3, d4] }
  | _ => none }
def ClauseTellsWrongFalsely : Prop := clauseTellsRow.holds Try.pinned (OpenSpec.ofChange clauseTellsWrong)

/-- 'inquestlaw11.ClauseMust': WHATEVER THE INPUT: true; the input reads as it did. -/
def clauseMustSpec : ChangeSpec := { name := "clauseMust", fn := fun _ => fun
  | [d1, d2, d3] => { results := [.lit (.bool true)], args := [d1, d2, d3] }
  | _ => none }
def clauseMustRow : OpenClaim := { program := "ytdngaohjocokiaa", sum := "95236c7bca46370a47e8f5d832333eb19fbe8ec49e469cc3394c0b9def55bb54", func := "inquest/inquestlaw11.ClauseMust", spec := "clauseMust", unfollowed := true, recurses := true, apart := false }
def ClauseMustSaid : Prop := clauseMustRow.holds Try.pinned (OpenSpec.ofChange clauseMustSpec)

/-- ITS FALSE NEIGHBOUR: 'it returns false'. Refute it at one input. -/
def clauseMustWrong : ChangeSpec := { name := "clauseMust", fn := fun _ => fun
  | [d1, d2, d3] => { results := [.lit (.bool false)], args := [d1, d2, d3] }
  | _ => none }
def ClauseMustWrongFalsely : Prop := clauseMustRow.holds Try.pinned (OpenSpec.ofChange clauseMustWrong)

/-- 'inquestlaw11.ClauseOrder': WHATEVER THE INPUT: true; the input reads as it did. -/
def clauseOrderSpec : ChangeSpec := { name := "clauseOrder", fn := fun _ => fun
  | [d1, d2] => { results := [.lit (.bool true)], args := [d1, d2] }
  | _ => none }
def clauseOrderRow : OpenClaim := { program := "ytdngaohjocokiaa", sum := "95236c7bca46370a47e8f5d832333eb19fbe8ec49e469cc3394c0b9def55bb54", func := "inquest/inquestlaw11.ClauseOrder", spec := "clauseOrder", unfollowed := true, recurses := true, apart := false }
def ClauseOrderSaid : Prop := clauseOrderRow.holds Try.pinned (OpenSpec.ofChange clauseOrderSpec)

/-- ITS FALSE NEIGHBOUR: 'it returns false'. Refute it at one input. -/
def clauseOrderWrong : ChangeSpec := { name := "clauseOrder", fn := fun _ => fun
  | [d1, d2] => { results := [.lit (.bool false)], args := [d1, d2] }
  | _ => none }
def ClauseOrderWrongFalsely : Prop := clauseOrderRow.holds Try.pinned (OpenSpec.ofChange clauseOrderWrong)

/- THE SECOND FORM. 'bulk': how many values and letters a reading holds, each counted each time it is reached (what is shared counts as often as it is met; a slice's spare places count too). A statement '..UptoSaid' is the law's where the arguments, and the package variables that the reading takes, are together of bulk at most 1048576: NARROWER than '..Said'. Prove '..Said' where nothing that the law and all that it calls make is longer than what came in: it says more and counts as full. Else prove '..UptoSaid'. A law counts once. -/
mutual
def uptoBulk {H : Type} : DataW H → Nat
  | .lit (.string bytes) => bytes.length + 1
  | .lit _ => 1
  | .nil => 1
  | .ptr d => uptoBulk d + 1
  | .slice elems spare => uptoBulkAll elems + uptoBulkAll spare + 1
  | .agg parts => uptoBulkAll parts + 1
  | .iface _ d => uptoBulk d + 1
  | .map entries => uptoBulkEntries entries + 1
  | .held _ => 1
def uptoBulkAll {H : Type} : List (DataW H) → Nat
  | [] => 0
  | d :: r => uptoBulk d + uptoBulkAll r
def uptoBulkEntries {H : Type} : List (Lit × DataW H) → Nat
  | [] => 0
  | x :: r => uptoBulkEntry x + uptoBulkEntries r
def uptoBulkEntry {H : Type} : Lit × DataW H → Nat
  | (.string bytes, d) => bytes.length + uptoBulk d + 1
  | (_, d) => uptoBulk d + 1
 end
def uptoSmall : (H : Type) → List (DataW H) → Bool := fun _ ds => decide (uptoBulkAll ds ≤ 1048576)
def OpenSpec.upto (s : _root_.Go.ChangeSpec) : _root_.Go.OpenSpec := { _root_.Go.OpenSpec.ofChange s with cond := some uptoSmall }

/-- 'inquestlaw11.ClauseTells', WHERE WHAT IT READS IS OF BULK AT MOST 1048576: true; the input reads as it did. -/
def clauseTellsUptoRow : OpenClaim := { program := "ytdngaohjocokiaa", sum := "95236c7bca46370a47e8f5d832333eb19fbe8ec49e469cc3394c0b9def55bb54", func := "inquest/inquestlaw11.ClauseTells", spec := "clauseTells", unfollowed := true, recurses := true, apart := false, narrowed := true }
def ClauseTellsUptoSaid : Prop := clauseTellsUptoRow.holds Try.pinned (OpenSpec.upto clauseTellsSpec)

/-- 'inquestlaw11.ClauseMust', WHERE WHAT IT READS IS OF BULK AT MOST 1048576: true; the input reads as it did. -/
def clauseMustUptoRow : OpenClaim := { program := "ytdngaohjocokiaa", sum := "95236c7bca46370a47e8f5d832333eb19fbe8ec49e469cc3394c0b9def55bb54", func := "inquest/inquestlaw11.ClauseMust", spec := "clauseMust", unfollowed := true, recurses := true, apart := false, narrowed := true }
def ClauseMustUptoSaid : Prop := clauseMustUptoRow.holds Try.pinned (OpenSpec.upto clauseMustSpec)

/-- 'inquestlaw11.ClauseOrder', WHERE WHAT IT READS IS OF BULK AT MOST 1048576: true; the input reads as it did. -/
def clauseOrderUptoRow : OpenClaim := { program := "ytdngaohjocokiaa", sum := "95236c7bca46370a47e8f5d832333eb19fbe8ec49e469cc3394c0b9def55bb54", func := "inquest/inquestlaw11.ClauseOrder", spec := "clauseOrder", unfollowed := true, recurses := true, apart := false, narrowed := true }
def ClauseOrderUptoSaid : Prop := clauseOrderUptoRow.holds Try.pinned (OpenSpec.upto clauseOrderSpec)

end Rows
end Go.Proofs.Ytdngaohjocokiaa
