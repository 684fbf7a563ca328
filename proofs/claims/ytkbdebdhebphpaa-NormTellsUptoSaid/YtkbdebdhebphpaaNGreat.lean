/- The law's 'great', by its contract. -/
import Derived.Test.YtkbdebdhebphpaaNTrace
namespace Go.Proofs.Ytkbdebdhebphpaa
open Go Go.RowKit Go.Joins

def greatC (c : NormC) : Bool := decide (4000 < c.lats.length + c.gates.length + c.outs.length + c.bads.length + c.cons.length)
set_option maxRecDepth 100000 in
theorem great3_any (c : NormC) (s : CSlots) (w : World) (h : SeesCir w s c) (hs : s.small) :
    Calls Try.prog 7 #[cirV c.ins s] w fun e w' => e = .returned (.bool (greatC c)) ∧ Below w.heap.size w w' := by
  obtain ⟨a1, n1, c1, a2, n2, c2, a3, n3, c3, a4, n4, c4, a5, n5, c5⟩ := s
  obtain ⟨hs1, hs2, hs3, hs4, hs5⟩ := hs
  simp only at hs1 hs2 hs3 hs4 hs5
  have l1 : c.lats.length = n1 := h.s1.1
  have l2 : c.gates.length = n2 := h.s2.1
  have l3 : c.outs.length = n3 := h.s3.lenMap
  have l4 : c.bads.length = n4 := h.s4.lenMap
  have l5 : c.cons.length = n5 := h.s5.lenMap
  have e : decide ((4000 : Int) < (n1 : Int) + n2 + n3 + n4 + n5) = greatC c := by
    unfold greatC
    rw [l1, l2, l3, l4, l5]
    apply decide_eq_decide.2
    omega
  have E := Lib.hid e
  obtain ⟨z, hz⟩ : ∃ z, z = c.ins := ⟨_, rfl⟩
  rw [← hz]
  clear hz e l1 l2 l3 l4 l5 h
  unfold cirV
  go_enter Try.func7, Try.ntmps7
  go_wp2
  go_ret
  exact ⟨congrArg (fun b => Ending.returned (.bool b)) E.out, ext_alloc _ _⟩
end Go.Proofs.Ytkbdebdhebphpaa
