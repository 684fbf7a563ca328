/- Cells of the call's own rows are written over: what stays. -/
import Derived.Test.YtkbdebdhebphpaaNTwo
import Derived.Test.YtkbdebdhebphpaaNRaw
namespace Go.Proofs.Ytkbdebdhebphpaa
open Go Go.RowKit Go.Joins

theorem block_type {w : World} {g : Nat} {C D : Array Value} {T U : TypeId} {f1 f2 : Nat × Nat} (h1 : w.heap[g]? = some (.cells C T f1)) (h2 : w.heap[g]? = some (.cells D U f2)) : T = U := by
  rw [h1] at h2; cases h2; rfl
theorem setCell_at (w : World) (g k D : Nat) (u : Value) (h : D ≠ g) : (w.setCell ⟨g, k, none⟩ u).heap[D]? = w.heap[D]? := Below.heap_setCell w ⟨g, k, none⟩ u D h
/-- A row whose cell, or another one's, is written over. -/
theorem Row.write {ok : Value → Prop} {w : World} {base : Nat} {e : TypeId} {v : Value} {n : Nat} {xs : List Value} (h : Row ok w base e v n xs) (g k : Nat) {u : Value} (hu : ok u) : ∃ ys, Row ok (w.setCell ⟨g, k, none⟩ u) base e v n ys := by
  by_cases hg : v.ownBlock = some g
  · rcases h.2 with ⟨rfl, _⟩ | ⟨g', cap, cur, rfl, hb, hh, hn, hc, hs, ht, ho⟩
    · cases hg
    · have : g' = g := by simpa [Value.ownBlock] using hg
      subst this
      refine ⟨(cur.setIfInBounds k u).toList.take n, by simp; omega, .inr ⟨g', cap, cur.setIfInBounds k u, rfl, hb, block_setCell hh (i := k) u, hn, hc, by simp [hs], rfl, fun x hx => ?_⟩⟩
      rw [Array.toList_setIfInBounds] at hx
      rcases List.mem_or_eq_of_mem_set hx with h | rfl
      · exact ho x h
      · exact hu
  · exact ⟨xs, h.other fun q hq => setCell_at w g k q u (fun e => hg (by rw [hq, e]))⟩
theorem Row.write_other {ok : Value → Prop} {w : World} {base : Nat} {e : TypeId} {v : Value} {n : Nat} {xs : List Value} (h : Row ok w base e v n xs) {g k : Nat} {u : Value} {C : Array Value} {T : TypeId} (hg : w.heap[g]? = some (.cells C T (0, 0))) (ht : T ≠ e) : Row ok (w.setCell ⟨g, k, none⟩ u) base e v n xs :=
  h.other fun q hq => setCell_at w g k q u (fun e => h.not_own hg ht (by rw [hq, e]))
theorem owns_write_other {w : World} {base s : Nat} {e : TypeId} {v : Value} {n : Nat} {xs : List Value} (h : w.ownsRow base e s v n xs) {g k : Nat} {u : Value} {C : Array Value} {T : TypeId} (hg : w.heap[g]? = some (.cells C T (0, 0))) (ht : T ≠ e) : (w.setCell ⟨g, k, none⟩ u).ownsRow base e s v n xs :=
  ownsN_other h fun q hq => setCell_at w g k q u (fun e => ownsN_notown h hg ht (by rw [hq, e]))
/-- A row that is not empty. -/
theorem Row.blockAt {ok : Value → Prop} {w : World} {base : Nat} {e : TypeId} {a : Option Addr} {n c : Nat} {xs : List Value} (h : Row ok w base e (.slice a n c) n xs) (h0 : 0 < n) :
    ∃ g cur, a = some ⟨g, 0, none⟩ ∧ base ≤ g ∧ w.heap[g]? = some (.cells cur e (0, 0)) ∧ n ≤ cur.size ∧ ∀ u ∈ cur.toList, ok u := by
  rcases h.2 with ⟨he, rfl⟩ | ⟨g, cap, cur, he, hb, hh, hn, hc, hs, ht, ho⟩
  · omega
  · cases he
    exact ⟨g, cur, rfl, hb, hh, by omega, ho⟩
theorem isU32_cell {w : World} {g k : Nat} {cur : Array Value} {e : TypeId} (hh : w.heap[g]? = some (.cells cur e (0, 0))) (hk : k < cur.size) (ho : ∀ u ∈ cur.toList, isU32 u) : ∃ x : Nat, x < 4294967296 ∧ w.cell? ⟨g, k, none⟩ = some (.int .u32 x) := by
  obtain ⟨x, hx, he⟩ := ho cur[k] (by simp)
  exact ⟨x, hx, by rw [cell_of_block hh, Array.getElem?_eq_getElem hk, he]; rfl⟩
theorem isByte_cell {w : World} {g k : Nat} {cur : Array Value} {e : TypeId} (hh : w.heap[g]? = some (.cells cur e (0, 0))) (hk : k < cur.size) (ho : ∀ u ∈ cur.toList, isByte u) : ∃ x : Nat, x < 256 ∧ w.cell? ⟨g, k, none⟩ = some (.int .u8 x) := by
  obtain ⟨x, he⟩ := ho cur[k] (by simp)
  exact ⟨x.toNat, x.toNat_lt, by rw [cell_of_block hh, Array.getElem?_eq_getElem hk, he]; rfl⟩
theorem wrap_u32 (x : Nat) : ∃ y : Nat, y < 4294967296 ∧ IntKind.u32.wrap ((x : Int) + 1) = (y : Int) := by
  refine ⟨(x + 1) % 4294967296, by omega, ?_⟩
  rw [IntKind.wrap_u32]; omega
theorem wrap_u8 (x : Nat) : ∃ y : Nat, y < 256 ∧ IntKind.u8.wrap ((x : Int) + 1) = (y : Int) := by
  refine ⟨(x + 1) % 256, by omega, ?_⟩
  rw [IntKind.wrap_u8]; omega
theorem isByte_nat {y : Nat} (h : y < 256) : isByte (.int .u8 y) := ⟨UInt8.ofNat y, by unfold bv; congr 1; rw [UInt8.toNat_ofNat']; omega⟩
theorem OwnCir.low {w w' : World} {base g : Nat} {s : CSlots} {c : NormC} (h : OwnCir w base s c) (hg : g < base) (hk : ∀ D, D ≠ g → w'.heap[D]? = w.heap[D]?) : OwnCir w' base s c := by
  have row : ∀ {v : Value} {n : Nat} {xs : List Value}, Row isU32 w base 33 v n xs → Row isU32 w' base 33 v n xs := fun hr => hr.other fun k hk' => hk k (by have := (hr.own.lt k hk').1; omega)
  exact ⟨ownsN_other h.o1 fun k hk' => hk k (by have := (World.ownsRow.lt h.o1 k hk').1; omega), ownsN_other h.o2 fun k hk' => hk k (by have := (World.ownsRow.lt h.o2 k hk').1; omega), row h.o3, row h.o4, row h.o5⟩

/-- What holds while s.Outputs, s.Bads, d.Outputs are written over. -/
structure EX (b : World) (G9 G11 : Nat) (C9 C11 : Array Value) (v3 v4 vd : Value) (n3 n4 nd : Nat) (Bu : Nat) (su : CSlots) (cu : NormC) (G13 : Nat) (w : World) : Prop where
  box9 : w.heap[G9]? = some (.cells C9 37 (0, 0))
  box11 : w.heap[G11]? = some (.cells C11 26 (0, 0))
  box13 : w.heap[G13]? = some (.cells (cirCells cu.ins su) 26 (0, 0))
  r3 : ∃ xs, Row isU32 w b.heap.size 33 v3 n3 xs
  r4 : ∃ xs, Row isU32 w b.heap.size 33 v4 n4 xs
  rd : ∃ xs, Row isU32 w b.heap.size 33 vd nd xs
  l3 : ∀ g, v3.ownBlock = some g → g < Bu
  l4 : ∀ g, v4.ownBlock = some g → g < Bu
  ld : ∀ g, vd.ownBlock = some g → g < Bu
  ou : OwnCir w Bu su cu
  bel : Below b.heap.size b w
theorem EX.step {b : World} {G9 G11 : Nat} {C9 C11 : Array Value} {v3 v4 vd : Value} {n3 n4 nd : Nat} {Bu : Nat} {su : CSlots} {cu : NormC} {G13 : Nat} {w : World} (h : EX b G9 G11 C9 C11 v3 v4 vd n3 n4 nd Bu su cu G13 w) {g k y : Nat} {cur : Array Value}
    (hg : w.heap[g]? = some (.cells cur 33 (0, 0))) (hlo : b.heap.size ≤ g) (hhi : g < Bu) (hy : y < 4294967296) : EX b G9 G11 C9 C11 v3 v4 vd n3 n4 nd Bu su cu G13 (w.setCell ⟨g, k, none⟩ (.int .u32 y)) := by
  have hu : isU32 (.int .u32 y) := ⟨y, hy, rfl⟩
  obtain ⟨x3, e3⟩ := h.r3
  obtain ⟨x4, e4⟩ := h.r4
  obtain ⟨xd, ed⟩ := h.rd
  have ne : ∀ {D : Nat} {C : Array Value} {T : TypeId}, w.heap[D]? = some (.cells C T (0, 0)) → T ≠ 33 → D ≠ g := fun hD ht e => ht (by subst e; exact block_type hD hg)
  exact ⟨(setCell_at w g k G9 _ (ne h.box9 (by decide))).trans h.box9, (setCell_at w g k G11 _ (ne h.box11 (by decide))).trans h.box11, (setCell_at w g k G13 _ (ne h.box13 (by decide))).trans h.box13, e3.write g k hu, e4.write g k hu, ed.write g k hu, h.l3, h.l4, h.ld, h.ou.low hhi (fun D hD => setCell_at w g k D _ hD), h.bel.setCell (p := ⟨g, k, none⟩) hlo _⟩

theorem prCs_set (K : Nat → Value) : ∀ (l : List (Nat × Nat)) (k y : Nat), k < l.length → (prCs K l).set (2 * k) (nv32 y) = prCs K (l.set k (y, (l.getD k (0, 0)).2))
  | [], k, y, h => by simp at h
  | p :: r, 0, y, _ => by simp [prCs]
  | p :: r, k + 1, y, h => by
    have ih := prCs_set K r k y (by simpa using h)
    rw [prCs, show 2 * (k + 1) = 2 * k + 1 + 1 by omega, List.set_cons_succ, List.set_cons_succ, ih]
    simp [prCs]
theorem own2_block {K : Nat → Value} {T : TypeId} {w : World} {base : Nat} {a : Option Addr} {n c : Nat} {l : List (Nat × Nat)} (h : own2 K T w base (.slice a n c) l) (h0 : 0 < n) :
    l.length = n ∧ ∃ g cur, a = some ⟨g, 0, none⟩ ∧ base ≤ g ∧ w.heap[g]? = some (.cells cur T (0, 0)) ∧ ∀ k, k < n → w.cell? ⟨g, k * 2, none⟩ = some (.int .u32 ((l.getD k (0, 0)).1 : Nat)) := by
  have hs := own2_sees_slice h
  have hl := hs.1
  refine ⟨hl, ?_⟩
  rcases h.2 with ⟨he, hz⟩ | ⟨g, cap, cur, he, hb, hh, _⟩
  · omega
  · cases he
    exact ⟨g, cur, rfl, hb, hh, fun k hk => by have := (hs.cells k hk (0, 0)).1; simpa [nv32] using this⟩
theorem own2_write {K : Nat → Value} {T : TypeId} {w : World} {base g n c : Nat} {l : List (Nat × Nat)} (h : own2 K T w base (.slice (some ⟨g, 0, none⟩) n c) l) {k y : Nat} (hk : k < n) :
    own2 K T (w.setCell ⟨g, k * 2, none⟩ (.int .u32 y)) base (.slice (some ⟨g, 0, none⟩) n c) (l.set k (y, (l.getD k (0, 0)).2)) := by
  have hl := (own2_sees_slice h).1
  rcases h.2 with ⟨he, hz⟩ | ⟨g', cap, cur, he, hb, hh, hn, hc, hs, ht⟩
  · cases he
  · cases he
    unfold own2
    rw [List.length_set]
    refine ⟨by rw [prCs_len, List.length_set]; omega, .inr ⟨g, c, cur.setIfInBounds (k * 2) (.int .u32 y), by rw [hl], hb, block_setCell hh (i := k * 2) _, hn, hc, by simp [hs], ?_⟩⟩
    rw [Array.toList_setIfInBounds, List.take_set, ht, Nat.mul_comm k 2]
    exact prCs_set K l k y (by omega)

/-- What holds while z and w are written over. -/
structure EZ (b : World) (G18 G19 F : Nat) (z bad : Int) (s : CSlots) (t : TSlots) (w : World) : Prop where
  box18 : w.heap[G18]? = some (.cells (cirCells z s) 26 (0, 0))
  box19 : w.heap[G19]? = some (.cells (trCells bad t) 30 (0, 0))
  lat : ∃ l, own2 nv8 61 w b.heap.size (.slice s.a1 s.n1 s.c1) l
  gate : ∃ l, own2 nv32 56 w b.heap.size (.slice s.a2 s.n2 s.c2) l
  bads : ∃ xs, Row isU32 w b.heap.size 33 (.slice s.a4 s.n4 s.c4) s.n4 xs
  init : ∃ xs, Row isByte w b.heap.size 5 (.slice t.a1 t.n1 t.c1) t.n1 xs
  a2 : t.a2 = some ⟨F, 0, none⟩
  fr : w.heap[F]? = some (.cells (t.ss.map slV).toArray 27 (0, 0))
  rows : ∀ j, j < t.n2 → ∃ xs, Row isByte w b.heap.size 5 (slV (t.ss.getD j slc0)) (t.ss.getD j slc0).2.1 xs
  bel : Below b.heap.size b w
section
variable {b : World} {G18 G19 F : Nat} {z bad : Int} {s : CSlots} {t : TSlots} {w : World} {g k y : Nat} {cur : Array Value}
theorem EZ.ne {T : TypeId} (hg : w.heap[g]? = some (.cells cur T (0, 0))) {D : Nat} {C : Array Value} {U : TypeId} (hD : w.heap[D]? = some (.cells C U (0, 0))) (ht : U ≠ T) : D ≠ g := fun e => ht (by subst e; exact block_type hD hg)
theorem EZ.step32 (h : EZ b G18 G19 F z bad s t w) (hg : w.heap[g]? = some (.cells cur 33 (0, 0))) (hlo : b.heap.size ≤ g) (hy : y < 4294967296) : EZ b G18 G19 F z bad s t (w.setCell ⟨g, k, none⟩ (.int .u32 y)) := by
  obtain ⟨l1, e1⟩ := h.lat
  obtain ⟨l2, e2⟩ := h.gate
  obtain ⟨x4, e4⟩ := h.bads
  obtain ⟨xi, ei⟩ := h.init
  refine ⟨(setCell_at w g k G18 _ (EZ.ne hg h.box18 (by decide))).trans h.box18, (setCell_at w g k G19 _ (EZ.ne hg h.box19 (by decide))).trans h.box19, ⟨l1, owns_write_other e1 hg (by decide)⟩, ⟨l2, owns_write_other e2 hg (by decide)⟩, e4.write g k ⟨y, hy, rfl⟩, ⟨xi, ei.write_other hg (by decide)⟩, h.a2, (setCell_at w g k F _ (EZ.ne hg h.fr (by decide))).trans h.fr, fun j hj => ?_, h.bel.setCell (p := ⟨g, k, none⟩) hlo _⟩
  obtain ⟨xs, e⟩ := h.rows j hj
  exact ⟨xs, e.write_other hg (by decide)⟩
theorem EZ.step8 (h : EZ b G18 G19 F z bad s t w) (hg : w.heap[g]? = some (.cells cur 5 (0, 0))) (hlo : b.heap.size ≤ g) (hy : y < 256) : EZ b G18 G19 F z bad s t (w.setCell ⟨g, k, none⟩ (.int .u8 y)) := by
  obtain ⟨l1, e1⟩ := h.lat
  obtain ⟨l2, e2⟩ := h.gate
  obtain ⟨x4, e4⟩ := h.bads
  obtain ⟨xi, ei⟩ := h.init
  refine ⟨(setCell_at w g k G18 _ (EZ.ne hg h.box18 (by decide))).trans h.box18, (setCell_at w g k G19 _ (EZ.ne hg h.box19 (by decide))).trans h.box19, ⟨l1, owns_write_other e1 hg (by decide)⟩, ⟨l2, owns_write_other e2 hg (by decide)⟩, ⟨x4, e4.write_other hg (by decide)⟩, ei.write g k (isByte_nat hy), h.a2, (setCell_at w g k F _ (EZ.ne hg h.fr (by decide))).trans h.fr, fun j hj => ?_, h.bel.setCell (p := ⟨g, k, none⟩) hlo _⟩
  obtain ⟨xs, e⟩ := h.rows j hj
  exact e.write g k (isByte_nat hy)
theorem EZ.stepLat (h : EZ b G18 G19 F z bad s t w) (hs : s.a1 = some ⟨g, 0, none⟩) (hg : w.heap[g]? = some (.cells cur 61 (0, 0))) (hlo : b.heap.size ≤ g) (hk : k < s.n1) : EZ b G18 G19 F z bad s t (w.setCell ⟨g, k * 2, none⟩ (.int .u32 y)) := by
  obtain ⟨l1, e1⟩ := h.lat
  obtain ⟨l2, e2⟩ := h.gate
  obtain ⟨x4, e4⟩ := h.bads
  obtain ⟨xi, ei⟩ := h.init
  have e' : ∃ l, own2 nv8 61 (w.setCell ⟨g, k * 2, none⟩ (.int .u32 y)) b.heap.size (.slice s.a1 s.n1 s.c1) l := by
    rw [hs] at e1 ⊢
    exact ⟨_, own2_write e1 hk⟩
  refine ⟨(setCell_at w g _ G18 _ (EZ.ne hg h.box18 (by decide))).trans h.box18, (setCell_at w g _ G19 _ (EZ.ne hg h.box19 (by decide))).trans h.box19, e', ⟨l2, owns_write_other e2 hg (by decide)⟩, ⟨x4, e4.write_other hg (by decide)⟩, ⟨xi, ei.write_other hg (by decide)⟩, h.a2, (setCell_at w g _ F _ (EZ.ne hg h.fr (by decide))).trans h.fr, fun j hj => ?_, h.bel.setCell (p := ⟨g, k * 2, none⟩) hlo _⟩
  obtain ⟨xs, e⟩ := h.rows j hj
  exact ⟨xs, e.write_other hg (by decide)⟩
theorem EZ.stepGate (h : EZ b G18 G19 F z bad s t w) (hs : s.a2 = some ⟨g, 0, none⟩) (hg : w.heap[g]? = some (.cells cur 56 (0, 0))) (hlo : b.heap.size ≤ g) (hk : k < s.n2) : EZ b G18 G19 F z bad s t (w.setCell ⟨g, k * 2, none⟩ (.int .u32 y)) := by
  obtain ⟨l1, e1⟩ := h.lat
  obtain ⟨l2, e2⟩ := h.gate
  obtain ⟨x4, e4⟩ := h.bads
  obtain ⟨xi, ei⟩ := h.init
  have e' : ∃ l, own2 nv32 56 (w.setCell ⟨g, k * 2, none⟩ (.int .u32 y)) b.heap.size (.slice s.a2 s.n2 s.c2) l := by
    rw [hs] at e2 ⊢
    exact ⟨_, own2_write e2 hk⟩
  refine ⟨(setCell_at w g _ G18 _ (EZ.ne hg h.box18 (by decide))).trans h.box18, (setCell_at w g _ G19 _ (EZ.ne hg h.box19 (by decide))).trans h.box19, ⟨l1, owns_write_other e1 hg (by decide)⟩, e', ⟨x4, e4.write_other hg (by decide)⟩, ⟨xi, ei.write_other hg (by decide)⟩, h.a2, (setCell_at w g _ F _ (EZ.ne hg h.fr (by decide))).trans h.fr, fun j hj => ?_, h.bel.setCell (p := ⟨g, k * 2, none⟩) hlo _⟩
  obtain ⟨xs, e⟩ := h.rows j hj
  exact ⟨xs, e.write_other hg (by decide)⟩
end
theorem EZ.of {b : World} {z bad : Int} {c : NormC} {t : TraceC} {G18 G19 : Nat} {s : CSlots} {sy : TSlots} {w : World} (h : Two b z bad c t G18 G19 s sy w) : ∃ F, EZ b G18 G19 F z bad s sy w := by
  obtain ⟨F, f1, f2, f3⟩ := h.ot.blk
  have e4 := (row_sees_slice h.oc.o4).1
  have e1 := (row_sees_slice h.ot.o1).1
  refine ⟨F, h.cir, h.tr, ⟨_, h.oc.o1⟩, ⟨_, h.oc.o2⟩, ⟨_, by rw [e4]; exact e4 ▸ h.oc.o4⟩, ⟨_, by rw [e1]; exact e1 ▸ h.ot.o1⟩, f2, f3, fun j hj => ?_, h.bel⟩
  have hr := h.ot.rows j (by rw [← h.ot.n2]; exact hj)
  have e := (row_sees_slice hr).1
  exact ⟨_, by rw [e]; exact hr⟩
end Go.Proofs.Ytkbdebdhebphpaa
