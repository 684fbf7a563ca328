/- A region of a function's body, taken out by its number. -/
import Derived.Test.YtkbdebdhebphpaaNTwo
namespace Go.Proofs.Ytkbdebdhebphpaa
open Go
def findRegion (n : Nat) : Code → Option Code
  | .region k o d => if k = n then some (.region k o d) else none
  | .seq a b => match findRegion n a with
    | some c => some c
    | none => findRegion n b
  | .block _ c => findRegion n c
  | .scope c => findRegion n c
  | .loop c => findRegion n c
  | .cond _ a b => match findRegion n a with
    | some c => some c
    | none => findRegion n b
  | _ => none
end Go.Proofs.Ytkbdebdhebphpaa
