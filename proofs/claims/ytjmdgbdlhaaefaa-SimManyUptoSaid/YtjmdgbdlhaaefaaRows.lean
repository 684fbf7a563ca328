/-
  No cell of these rows narrows 'for every input' (looked for: loops, veiled, ifaces, maps, wideKeys, modest, calm, conditions, laid).
  DERIVED. THE GIVEN ROWS OF THIS SEAT. 3 by the template 'for every input the law returns true; each argument reads behind the call as it read before'; 0 by the template 'total and deterministic' (their statements: YtjmdgbdlhaaefaaTotals.lean).
  GIVEN WITH THE SEED: the statements are not yours to turn. If you find one false, say at which input.
  Laid BY PROGRAM, IN A SANDBOX (cutbox-rows.mjs): the forced cells as the released guide's own fill.sh prints them over the translation 1d4b16e126aabbed… (all of the seat's roots in one cut). By AI agents, Wed Nov 11 2026. No macro, syntax, notation, axiom, sorry.
-/
import Derived.Test.YtjmdgbdlhaaefaaChecked
import GoSem.Claim
import GoSem.ClaimJoined
import GoSem.ClaimMapViews
import Derived.JoinedTies
import Derived.KernelRfl
namespace Go.Proofs.Ytjmdgbdlhaaefaa
/- THE CELL 'sum', in the pinned program and in every row, IS THE sha256 OF THE DUMP (.gsa) THAT YtjmdgbdlhaaefaaProg.lean LOADS. Nothing in Lean hashes anything: it is a label: what it is worth is what the hold of that sum in a sandbox is worth. -/
noncomputable def Try.pinned : Pinned := { name := "ytjmdgbdlhaaefaa", sum := "1d4b16e126aabbed2c86e46347dd2bf0dca861fc87768676f86cc82c5f55b4e9", checked := Try.checked }
namespace Rows
def none {H : Type} : Left H := { results := [], args := [] }

/-- 'inquestlaw07.SimTells': WHATEVER THE INPUT: true; the input reads as it did. -/
def simTellsSpec : ChangeSpec := { name := "simTells", fn := fun _ => fun
  | [d1, d2, d3, d4, d5] => { results := [.lit (.bool true)], args := [d1, d2, d3, d4, d5] }
  | _ => none }
def simTellsRow : OpenClaim := { program := "ytjmdgbdlhaaefaa", sum := "1d4b16e126aabbed2c86e46347dd2bf0dca861fc87768676f86cc82c5f55b4e9", func := "inquest/inquestlaw07.SimTells", spec := "simTells", unfollowed := true, recurses := true, apart := false }
def SimTellsSaid : Prop := simTellsRow.holds Try.pinned (OpenSpec.ofChange simTellsSpec)

/-- ITS FALSE NEIGHBOUR: 'it returns false'. Refute it at one input. -/
def simTellsWrong : ChangeSpec := { name := "simTells", fn := fun _ => fun
  | [d1, d2, d3, d4, d5] => { results := [.lit (.bool false)], args := [d1, d2, d3, d4, d5] }
  | _ => none }
def SimTellsWrongFalsely : Prop := simTellsRow.holds Try.pinned (OpenSpec.ofChange simTellsWrong)

/-- 'inquestlaw07.SimMany': WHATEVER THE INPUT: true; the input reads as it did. -/
def simManySpec : ChangeSpec := { name := "simMany", fn := fun _ => fun
  | [d1, d2, d3, d4] => { results := [.lit (.bool true)], args := [d1, d2, d3, d4] }
  | _ => none }
def simManyRow : OpenClaim := { program := "ytjmdgbdlhaaefaa", sum := "1d4b16e126aabbed2c86e46347dd2bf0dca861fc87768676f86cc82c5f55b4e9", func := "inquest/inquestlaw07.SimMany", spec := "simMany", unfollowed := true, recurses := true, apart := false }
def SimManySaid : Prop := simManyRow.holds Try.pinned (OpenSpec.ofChange simManySpec)

/-- ITS FALSE NEIGHBOUR: 'it returns false'. Refute it at one input. -/
def simManyWrong : ChangeSpec := { name := "simMany", fn := fun _ => fun
  | [d1, d2, d3, d4] => { results := [.lit (.bool false)], args := [d1, d2, d3, d4] }
  | _ => none }
def SimManyWrongFalsely : Prop := simManyRow.holds Try.pinned (OpenSpec.ofChange simManyWrong)

/-- 'inquestlaw07.SimSure': WHATEVER THE INPUT: true; the input reads as it did. -/
def simSureSpec : ChangeSpec := { name := "simSure", fn := fun _ => fun
  | [d1, d2, d3] => { results := [.lit (.bool true)], args := [d1, d2, d3] }
  | _ => none }
def simSureRow : OpenClaim := { program := "ytjmdgbdlhaaefaa", sum := "1d4b16e126aabbed2c86e46347dd2bf0dca861fc87768676f86cc82c5f55b4e9", func := "inquest/inquestlaw07.SimSure", spec := "simSure", unfollowed := true, recurses := true, apart := false }
def SimSureSaid : Prop := simSureRow.holds Try.pinned (OpenSpec.ofChange simSureSpec)

/-- ITS FALSE NEIGHBOUR: 'it returns false'. Refute it at one input. -/
def simSureWrong : ChangeSpec := { name := "simSure", fn := fun _ => fun
  | [d1, d2, d3] => { results := [.lit (.bool false)], args := [d1, d2, d3] }
  | _ => none }
def SimSureWrongFalsely : Prop := simSureRow.holds Try.pinned (OpenSpec.ofChange simSureWrong)

/- THE SECOND FORM. 'bulk': how many values and letters a reading holds, each counted each time it is reached (what is shared counts as often as it is met; a slice's spare places count too). A statement '..UptoSaid' is the law's where the arguments, and the package variables that the reading takes, are together of bulk at most 1048576: NARROWER than '..Said'. Prove '..Said' where nothing that the law and all that it calls make is longer than what came in: it says more and counts as full. Else prove '..UptoSaid'. A law counts once. -/
mutual
def uptoBulk {H : Type} : DataW H → Nat
  | .lit (.string bytes) => bytes.length + 1
  | .lit _ => 1
  | .nil => 1
  | .ptr d => uptoBulk d + 1
  | .slice elems spare => uptoBulkAll elems + uptoBulkAll spare + 1
  | .agg parts => uptoBulkAll parts + 1
  | .iface _ d => uptoBulk d + 1
  | .map entries => uptoBulkEntries entries + 1
  | .held _ => 1
def uptoBulkAll {H : Type} : List (DataW H) → Nat
  | [] => 0
  | d :: r => uptoBulk d + uptoBulkAll r
def uptoBulkEntries {H : Type} : List (Lit × DataW H) → Nat
  | [] => 0
  | x :: r => uptoBulkEntry x + uptoBulkEntries r
def uptoBulkEntry {H : Type} : Lit × DataW H → Nat
  | (.string bytes, d) => bytes.length + uptoBulk d + 1
  | (_, d) => uptoBulk d + 1
 end
def uptoSmall : (H : Type) → List (DataW H) → Bool := fun _ ds => decide (uptoBulkAll ds ≤ 1048576)
def OpenSpec.upto (s : _root_.Go.ChangeSpec) : _root_.Go.OpenSpec := { _root_.Go.OpenSpec.ofChange s with cond := some uptoSmall }

/-- 'inquestlaw07.SimTells', WHERE WHAT IT READS IS OF BULK AT MOST 1048576: true; the input reads as it did. -/
def simTellsUptoRow : OpenClaim := { program := "ytjmdgbdlhaaefaa", sum := "1d4b16e126aabbed2c86e46347dd2bf0dca861fc87768676f86cc82c5f55b4e9", func := "inquest/inquestlaw07.SimTells", spec := "simTells", unfollowed := true, recurses := true, apart := false, narrowed := true }
def SimTellsUptoSaid : Prop := simTellsUptoRow.holds Try.pinned (OpenSpec.upto simTellsSpec)

/-- 'inquestlaw07.SimMany', WHERE WHAT IT READS IS OF BULK AT MOST 1048576: true; the input reads as it did. -/
def simManyUptoRow : OpenClaim := { program := "ytjmdgbdlhaaefaa", sum := "1d4b16e126aabbed2c86e46347dd2bf0dca861fc87768676f86cc82c5f55b4e9", func := "inquest/inquestlaw07.SimMany", spec := "simMany", unfollowed := true, recurses := true, apart := false, narrowed := true }
def SimManyUptoSaid : Prop := simManyUptoRow.holds Try.pinned (OpenSpec.upto simManySpec)

/-- 'inquestlaw07.SimSure', WHERE WHAT IT READS IS OF BULK AT MOST 1048576: true; the input reads as it did. -/
def simSureUptoRow : OpenClaim := { program := "ytjmdgbdlhaaefaa", sum := "1d4b16e126aabbed2c86e46347dd2bf0dca861fc87768676f86cc82c5f55b4e9", func := "inquest/inquestlaw07.SimSure", spec := "simSure", unfollowed := true, recurses := true, apart := false, narrowed := true }
def SimSureUptoSaid : Prop := simSureUptoRow.holds Try.pinned (OpenSpec.upto simSureSpec)

end Rows
end Go.Proofs.Ytjmdgbdlhaaefaa
