/- norm.Raw and norm.Of, as a law that writes over what they answer needs them. -/
import Derived.Test.YtkbdebdhebphpaaNMut
namespace Go.Proofs.Ytkbdebdhebphpaa
open Go Go.RowKit Go.Joins

def rawCells9 (m : Nat) (s : Slots) : Array Value := #[.int .u32 m, .slice s.a1 s.n1 s.c1, .slice s.a2 s.n2 s.c2, .slice s.a3 s.n3 s.c3, .slice s.a4 s.n4 s.c4, .slice s.a5 s.n5 s.c5, .slice s.a6 s.n6 s.c6]
theorem raw3_own (c : NormC) (s : CSlots) (w : World) (h : SeesCir w s c) (hs : s.small) (hlo : -9223372036854775808 ≤ c.ins) (hhi : c.ins < 9223372036854775808) (hw : Wide c) :
    Calls Try.prog 9 #[.agg (cirCells c.ins s)] w fun e w' => ∃ (m : Nat) (s9 : Slots) (e0 : Int), e = .returned (.tuple #[.agg (rawCells9 m s9), .int .i64 e0]) ∧ (∃ xs, Row isU32 w' w.heap.size 33 (.slice s9.a3 s9.n3 s9.c3) s9.n3 xs) ∧ (∃ xs, Row isU32 w' w.heap.size 33 (.slice s9.a4 s9.n4 s9.c4) s9.n4 xs) ∧ s9.n3 ≤ 1048576 ∧ s9.n4 ≤ 1048576 ∧ Below w.heap.size w w' := by
  refine (raw3_any c s w h hs hlo hhi hw).mono fun e w' ⟨hb, hcase⟩ => ?_
  rcases hcase with ⟨hm, s9, he, _, h3, h4⟩ | ⟨_, he⟩
  · have q3 := (row_sees_slice h3).1
    have q4 := (row_sees_slice h4).1
    have hl := (mayC_iff.1 hm).lens
    exact ⟨_, s9, 0, he, ⟨_, by rw [q3]; exact q3 ▸ h3⟩, ⟨_, by rw [q4]; exact q4 ▸ h4⟩, by omega, by omega, hb⟩
  · exact ⟨0, ⟨none, 0, 0, none, 0, 0, none, 0, 0, none, 0, 0, none, 0, 0, none, 0, 0⟩, 2, he, ⟨[], Row.nil _ _ _ _⟩, ⟨[], Row.nil _ _ _ _⟩, Nat.zero_le _, Nat.zero_le _, hb⟩

/-- The circuit that Of answers, an empty one where it answers an error. -/
def ofC (r : RawC) : NormC := match ofS r with | .ok c => c | .error _ => ⟨0, [], [], [], [], []⟩
theorem ofC_small (r : RawC) : (ofC r).lats.length ≤ 1048576 ∧ (ofC r).gates.length ≤ 1048576 ∧ (ofC r).outs.length ≤ 1048576 ∧ (ofC r).bads.length ≤ 1048576 ∧ (ofC r).cons.length ≤ 1048576 := by
  unfold ofC
  cases h : ofS r with
  | error er => simp
  | ok c =>
    have hm := of_mayC h
    have hf := hm.few
    have hl := hm.lens
    unfold varsN at hf
    simp only
    omega
theorem OwnCir.small {w : World} {base : Nat} {s : CSlots} {c : NormC} (h : OwnCir w base s c) (h1 : c.lats.length ≤ 1048576 ∧ c.gates.length ≤ 1048576 ∧ c.outs.length ≤ 1048576 ∧ c.bads.length ≤ 1048576 ∧ c.cons.length ≤ 1048576) : s.small := by
  have q := h.sees
  have e1 := q.s1.1
  have e2 := q.s2.1
  have e3 := q.s3.lenMap
  have e4 := q.s4.lenMap
  have e5 := q.s5.lenMap
  exact ⟨by omega, by omega, by omega, by omega, by omega⟩
theorem OwnTr.small {w : World} {base : Nat} {s : TSlots} {t : TraceC} (h : OwnTr w base s t) {w0 : World} {s0 : TSlots} (h0 : SeesTr w0 s0 t) (hs : s0.small) : s.small := by
  have q := h.sees
  have e1 := q.s1.lenMap
  have e1' := h0.s1.lenMap
  have e2 := q.s2.n_eq
  have e2' := h0.s2.n_eq
  refine ⟨by have := hs.n1; omega, by have := hs.n2; omega, fun x hx => ?_⟩
  obtain ⟨j, hj, rfl⟩ := List.getElem_of_mem hx
  have hl := h.len
  have a1 := (q.s2.each j (by omega)).lenMap
  have a2 := (h0.s2.each j (by omega)).lenMap
  have hj0 : j < s0.ss.length := by rw [h0.s2.len]; omega
  have a3 := hs.each (s0.ss.getD j slc0) (getD_mem hj0)
  have a4 : s.ss.getD j slc0 = s.ss[j] := by simp [List.getD, List.getElem?_eq_getElem hj]
  rw [a4] at a1
  omega
theorem of_own (r : RawC) (s : Slots) (w : World) (h : SeesRaw w s r) (hf : s.small) :
    Calls Try.prog 24 #[.agg (rawCells9 r.max s)] w fun e w' => ∃ (s' : CSlots) (e0 : Int), e = .returned (.tuple #[.agg (cirCells (ofC r).ins s'), .int .i64 e0]) ∧ OwnCir w' w.heap.size s' (ofC r) ∧ Below w.heap.size w w' := by
  refine (of_any r s w h hf).mono fun e w' ⟨hb, hcase⟩ => ?_
  unfold ofC
  rcases hcase with ⟨c, s', h1, he, ho⟩ | ⟨er, h1, _, he⟩
  · rw [h1]
    exact ⟨s', 0, he, ho, hb⟩
  · rw [h1]
    exact ⟨⟨none, 0, 0, none, 0, 0, none, 0, 0, none, 0, 0, none, 0, 0⟩, er, he, ⟨own2_nil _ _ _ _, own2_nil _ _ _ _, Row.nil _ _ _ _, Row.nil _ _ _ _, Row.nil _ _ _ _⟩, hb⟩
end Go.Proofs.Ytkbdebdhebphpaa
