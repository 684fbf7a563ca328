/- inquestref00.Bytes, by its contract. -/
import Derived.Test.YtkimhlomadmnkaaDoorLib
import Derived.Test.YtkimhlomadmnkaaDoorRows
namespace Go.Proofs.YtkimhlomadmnkaaDoor
open Go Go.RowKit

set_option maxRecDepth 100000 in
set_option maxHeartbeats 400000 in
theorem bytes_any (bs cs : List UInt8) (a a' : Option Addr) (n c n' c' : Nat) (w : World) (h : Sees w a n c (bs.map bv)) (h' : Sees w a' n' c' (cs.map bv)) :
    Calls Tryd.prog 17 #[.slice a n c, .slice a' n' c'] w fun e w' => e = .returned (.bool (bs == cs)) ∧ w = w' := by
  have q1 := h.str (P := Tryd.prog) 22 5 9 Tryd.underlying22 Tryd.underlying5 Tryd.underlying9
  have q2 := h'.str (P := Tryd.prog) 22 5 9 Tryd.underlying22 Tryd.underlying5 Tryd.underlying9
  clear h h'
  go_enter Tryd.func17, Tryd.ntmps17
  go_wp2
  go_ret
  exact ⟨by simp [str], rfl⟩
end Go.Proofs.YtkimhlomadmnkaaDoor
