/- raw.section at latches and gates, by its contract, and the functions that it answers. -/
import Derived.Test.YtbpdjfjjkioeaaaDoorRawSect
namespace Go.Proofs.YtbpdjfjjkioeaaaDoor
open Go Go.RowKit Go.Joins

theorem info_lat : (Tryd.prog.info? 42).map (fun i => (i.zero, i.size, i.bytes)) = some (some (.agg #[.int .u32 0, .int .u32 0, .int .u32 0]), 3, 12) := by kernel_rfl
theorem info_gate : (Tryd.prog.info? 45).map (fun i => (i.zero, i.size, i.bytes)) = some (some (.agg #[.int .u32 0, .int .u32 0, .int .u32 0]), 3, 12) := by kernel_rfl

/-- The value owns a row of three-cell elements. -/
def own3 (T : TypeId) (w : World) (base : Nat) (v : Value) (xs : List Tri) : Prop := w.ownsRow base T 3 v xs.length (triCs xs)
section
variable {w w' : World} {base : Nat} {e : TypeId} {v : Value} {n : Nat} {xs : List Value}
theorem owns_below (h : w.ownsRow base e 3 v n xs) (hb : Below w.heap.size w w') : w'.ownsRow base e 3 v n xs := by
  refine ⟨h.1, ?_⟩
  rcases h.2 with h2 | ⟨g, cap, cur, hv, hg, hh, r⟩
  · exact .inl h2
  · exact .inr ⟨g, cap, cur, hv, hg, heap_below hh hb, r⟩
theorem owns_other (h : w.ownsRow base e 3 v n xs) (hk : ∀ k, v.ownBlock = some k → w'.heap[k]? = w.heap[k]?) : w'.ownsRow base e 3 v n xs := by
  refine ⟨h.1, ?_⟩
  rcases h.2 with h2 | ⟨g, cap, cur, rfl, hg, hh, r⟩
  · exact .inl h2
  · exact .inr ⟨g, cap, cur, rfl, hg, (hk g rfl).trans hh, r⟩
theorem owns_notown (h : w.ownsRow base e 3 v n xs) {D : Nat} {C : Array Value} {t : TypeId} {fr : Nat × Nat} (hD : w.heap[D]? = some (.cells C t fr)) (ht : t ≠ e) : v.ownBlock ≠ some D := by
  rcases h.2 with ⟨rfl, _⟩ | ⟨g, cap, cur, rfl, _, hg, _⟩
  · intro e; cases e
  · intro he
    have : g = D := by simpa [Value.ownBlock] using he
    subst this
    rw [hg] at hD
    cases hD
    exact ht rfl
theorem but_owns {w3 w4 : World} {R : Nat} (h : w.grownBy w3 (some R)) (hrow : w3.ownsRow w.heap.size e 3 v n xs) (hg : w3.grownBy w4 v.ownBlock) : w.grownBy w4 (some R) :=
  ⟨hg.os.trans h.os, hg.tape.trans h.tape, hg.output.trans h.output, Nat.le_trans h.size hg.size, fun b hb hr => (hg.block b (Nat.lt_of_lt_of_le hb h.size) (fun e => by have := (hrow.lt b e.symm).1; omega)).trans (h.block b hb hr)⟩
end
theorem own3_nil (T : TypeId) (w : World) (base : Nat) : own3 T w base (.slice none 0 0) [] := ⟨rfl, .inl ⟨rfl, rfl⟩⟩
theorem own3_below {T : TypeId} {w w' : World} {base : Nat} {v : Value} {xs : List Tri} (h : own3 T w base v xs) (hb : Below w.heap.size w w') : own3 T w' base v xs := owns_below h hb
theorem own3_sees {T : TypeId} {w : World} {base : Nat} {v : Value} {xs : List Tri} (h : own3 T w base v xs) : ∃ a c, v = .slice a xs.length c ∧ Sees3 w a xs.length c xs := by
  rcases h.2 with ⟨rfl, h0⟩ | ⟨g, cap, cur, rfl, _, hg, hnc, hm, hcs, ht⟩
  · have : xs = [] := List.eq_nil_of_length_eq_zero h0
    subst this
    exact ⟨none, 0, rfl, Sees3.nil w⟩
  · refine ⟨_, cap, rfl, rfl, hnc, ⟨?_, by omega, (fun e => by cases e), fun _ => ⟨g, 0, rfl, heap_lt hg, fun j hj => ?_⟩⟩⟩
    · have := h.1; omega
    · rw [Nat.zero_add, cell_of_row w g j cur T (0, 0) hg, ← ht, List.getElem?_take_of_lt (by omega)]
      simp
theorem own3_form {T : TypeId} {w : World} {base : Nat} {v : Value} {xs : List Tri} (h : own3 T w base v xs) : ∃ a c, v = .slice a xs.length c := by
  obtain ⟨a, c, e, _⟩ := own3_sees h
  exact ⟨a, c, e⟩

set_option maxRecDepth 100000 in
theorem section_lat (R f count most : Nat) (item : FuncId) (w : World) :
    Calls Tryd.prog 27 #[.pointer (some ⟨R, f, .none⟩), .int .u32 count, .func (.func item) #[] #[], .int .u32 most] w fun e w' =>
      e = .returned (.func (.func 44) #[] #[.pointer (some ⟨w.heap.size + 1, 0, .none⟩), .pointer (some ⟨w.heap.size + 2, 0, .none⟩), .pointer (some ⟨w.heap.size + 3, 0, .none⟩), .pointer (some ⟨w.heap.size, 0, .none⟩)]) ∧
      (R < w.heap.size → SecW w.heap.size R f count most item w') ∧ Below w.heap.size w w' := by
  go_enter Tryd.func27, Tryd.ntmps27
  go_wp2
  go_ret
  refine ⟨rfl, fun hR => ⟨?_, ?_, ?_, ?_, hR⟩, ext_trans (ext_alloc _ _) (ext_trans (ext_alloc _ _) (ext_trans (ext_alloc _ _) (ext_alloc _ _)))⟩
  · exact cell_old (cell_old (cell_old (cell_new _ _ _ _ _ _ _ rfl rfl)))
  · exact cell_old (cell_old (cell_new _ _ _ _ _ _ _ (by simp) rfl))
  · exact cell_old (cell_new _ _ _ _ _ _ _ (by simp) rfl)
  · exact cell_new _ _ _ _ _ _ _ (by simp) rfl

set_option maxRecDepth 100000 in
theorem section_gate (R f count most : Nat) (item : FuncId) (w : World) :
    Calls Tryd.prog 29 #[.pointer (some ⟨R, f, .none⟩), .int .u32 count, .func (.func item) #[] #[], .int .u32 most] w fun e w' =>
      e = .returned (.func (.func 45) #[] #[.pointer (some ⟨w.heap.size + 1, 0, .none⟩), .pointer (some ⟨w.heap.size + 2, 0, .none⟩), .pointer (some ⟨w.heap.size + 3, 0, .none⟩), .pointer (some ⟨w.heap.size, 0, .none⟩)]) ∧
      (R < w.heap.size → SecW w.heap.size R f count most item w') ∧ Below w.heap.size w w' := by
  go_enter Tryd.func29, Tryd.ntmps29
  go_wp2
  go_ret
  refine ⟨rfl, fun hR => ⟨?_, ?_, ?_, ?_, hR⟩, ext_trans (ext_alloc _ _) (ext_trans (ext_alloc _ _) (ext_trans (ext_alloc _ _) (ext_alloc _ _)))⟩
  · exact cell_old (cell_old (cell_old (cell_new _ _ _ _ _ _ _ rfl rfl)))
  · exact cell_old (cell_old (cell_new _ _ _ _ _ _ _ (by simp) rfl))
  · exact cell_old (cell_new _ _ _ _ _ _ _ (by simp) rfl)
  · exact cell_new _ _ _ _ _ _ _ (by simp) rfl

theorem sect_end3 {T : TypeId} {item : List UInt8 → Nat → Except Int Tri} {R f most count k : Nat} {CR : Array Value} {bs r2 : List UInt8} {w w2 w3 w4 : World} {v v4 : Value} {xs : List Tri} {x : Tri} {a0 a4 : Option Addr} {c4 n4 : Nat} {L L4 : List Value} (hnx : Sofar item most count bs (xs ++ [x]) r2) (hs4 : Sees w2 a4 r2.length c4 (r2.map bv)) (hbt2 : w.grownBy w2 (some R))
    (hbk : a4.map Addr.block = a0.map Addr.block) (hbt3 : w.grownBy w3 (some R)) (hrw : w3.ownsRow w.heap.size T 3 v k L) (hg4 : w3.grownBy w4 v.ownBlock) (hr4 : w4.ownsRow w.heap.size T 3 v4 n4 L4)
    (hh4 : w4.heap[R]? = some (.cells (CR.setIfInBounds f v) 27 (0, 0))) (hn4 : n4 = (xs ++ [x]).length) (hl4 : L4 = triCs (xs ++ [x])) (hlow : ∀ b, a0.map Addr.block = some b → b < w.heap.size ∧ b ≠ R) (hR : R < w.heap.size) (hle : r2.length ≤ bs.length) :
    SectI item (own3 T) a0 R f most count CR bs w (w4.setCell ⟨R, f, .none⟩ v4) v4 (xs ++ [x]) r2 a4 c4 := by
  subst hn4; subst hl4
  have hb4 := but_owns hbt3 hrw hg4
  have hb5 := but_set (f := f) (v := v4) hb4
  refine ⟨hnx, sees_old hs4 hbt2 hb5 (by rw [hbk]; exact hlow), hbk, ?_, ?_, hb5, hle⟩
  · refine owns_other hr4 fun k hk => ?_
    exact Below.heap_setCell w4 ⟨R, f, .none⟩ v4 k (fun e => by have := (hr4.lt k hk).1; have e' : k = R := e; omega)
  · have := block_setCell hh4 (i := f) v4
    rw [set_set] at this
    exact this

end Go.Proofs.YtbpdjfjjkioeaaaDoor
