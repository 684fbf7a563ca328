/- inquestref00.Bytes, by its contract. -/
import Derived.Test.YtkbdebdhebphpaaLib
import Derived.Test.YtkbdebdhebphpaaRows
namespace Go.Proofs.Ytkbdebdhebphpaa
open Go Go.RowKit

set_option maxRecDepth 100000 in
set_option maxHeartbeats 400000 in
theorem bytes_any (bs cs : List UInt8) (a a' : Option Addr) (n c n' c' : Nat) (w : World) (h : Sees w a n c (bs.map bv)) (h' : Sees w a' n' c' (cs.map bv)) :
    Calls Try.prog 52 #[.slice a n c, .slice a' n' c'] w fun e w' => e = .returned (.bool (bs == cs)) ∧ w = w' := by
  have q1 := h.str (P := Try.prog) 27 5 9 Try.underlying27 Try.underlying5 Try.underlying9
  have q2 := h'.str (P := Try.prog) 27 5 9 Try.underlying27 Try.underlying5 Try.underlying9
  clear h h'
  go_enter Try.func52, Try.ntmps52
  go_wp2
  go_ret
  exact ⟨by simp [str], rfl⟩
end Go.Proofs.Ytkbdebdhebphpaa
