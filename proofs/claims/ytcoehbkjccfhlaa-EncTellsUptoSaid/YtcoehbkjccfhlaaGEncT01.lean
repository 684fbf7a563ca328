/- Package norm, on plain lists: what defines, what is referred to, the order of gates, the circuit of a raw circuit. -/
import Derived.Test.YtcoehbkjccfhlaaGEncT00
import Derived.Test.YtcoehbkjccfhlaaRows
import Derived.BigQuiet
import Derived.Deep.AppendLies
import Derived.Deep.QuietTactic
import Derived.Deep.RegionLaw
import Derived.Deep.RegionWith
import Derived.KernelRfl
import Derived.Laws.EntriesVeiled
import Derived.Lib.ConvBytes
import Derived.Lib.Hide
import Derived.Lib.SlBytesRow
import Derived.Lib.SmallJoins
import Derived.Shelf.Bytes.SlSmallAll
import Derived.WalkKit
import Derived.WalkLawsBesides
import Derived.WalkSpells
/- The base for package norm: numbers, three-cell elements, raw circuits as values, blocks by their whole content. -/
namespace Go.Proofs.Ytcoehbkjccfhlaa
open Go Go.RowKit Go.Joins

theorem info_u32 : (Try.prog.info? 31).map (fun i => (i.zero, i.size, i.bytes)) = some (some (.int .u32 0), 1, 4) := by kernel_rfl

/-- A number's cell. -/
def nv32 (n : Nat) : Value := .int .u32 (n : Int)
/-- A cell that holds a number of 32 bits. -/
def isU32 (u : Value) : Prop := ∃ n : Nat, n < 4294967296 ∧ u = nv32 n

theorem size_u32 : ∀ w, (sizeOf 31).run Try.prog w = .ok 1 w := fun w => by
  obtain ⟨i0, hi, hz0, hz1, hz2⟩ := info_parts info_u32
  simp [sizeOf, typeInfo, hi, hz1]

theorem Sees.num {w : World} {b off n c : Nat} {xs : List Nat} (h : Sees w (some ⟨b, off, .none⟩) n c (xs.map nv32)) (j : Nat) (hj : j < n) : w.cell? ⟨b, off + j, .none⟩ = some (.int .u32 (xs.getD j 0 : Nat)) := by
  have hl : xs.length = n := by have := h.len; simpa using this
  rw [(h.cell j hj).2]
  simp [nv32, List.getD, List.getElem?_eq_getElem (show j < xs.length by omega)]

/-- A latch or a gate, as three numbers. -/
abbrev Tri := Nat × Nat × Nat
/-- A raw circuit. -/
structure RawC where
  max : Nat
  ins : List Nat
  lats : List Tri
  outs : List Nat
  bads : List Nat
  cons : List Nat
  gates : List Tri
deriving DecidableEq

def above (m x : Nat) : Bool := decide (2 * m + 1 < x)
def mayReset (t : Tri) : Bool := decide (t.2.2 ≤ 1) || decide (t.2.2 = t.1)
def badLatch (m : Nat) (t : Tri) : Bool := above m t.1 || above m t.2.1 || !mayReset t
def badGate (m : Nat) (t : Tri) : Bool := above m t.1 || above m t.2.1 || above m t.2.2
def badList (m : Nat) (l : List Nat) : Bool := decide (1024 < l.length) || l.any (above m)
/-- Is it valid? -/
def mayRaw (r : RawC) : Bool :=
  !(decide (16384 < r.max) || decide (r.max < r.ins.length + r.lats.length + r.gates.length)) &&
  (!badList r.max r.outs && (!badList r.max r.bads && (!badList r.max r.cons &&
  ((!r.ins.any (above r.max)) && ((!r.lats.any (badLatch r.max)) && (!r.gates.any (badGate r.max)))))))


theorem ext_trans {a b c : World} (h : Below a.heap.size a b) (k : Below b.heap.size b c) : Below a.heap.size a c := h.trans (k.mono h.size)
theorem ext_alloc (w : World) (o : Obj) : Below w.heap.size w (w.alloc o) := (Below.refl _ _).alloc (Nat.le_refl _) _
theorem ext_drewN (w : World) (q : Nat) : Below w.heap.size w (w.drewN q) := ⟨rfl, rfl, rfl, Nat.le_refl _, fun _ _ => rfl⟩
theorem ext_behind {w w' : World} {o : Obj} (k : Below (w.alloc o).heap.size (w.alloc o) w') : Below w.heap.size w w' := ext_trans (ext_alloc w o) k

/-- A literal's row. -/
theorem sees_lit (w : World) (e : TypeId) (fr : Nat × Nat) (C : Array Value) (xs : List Value) (n : Nat) (hC : C = xs.toArray) (hn : xs.length = n) : Sees (w.alloc (.cells C e fr)) (some ⟨w.heap.size, 0, none⟩) n n xs := by
  subst hC
  refine ⟨hn, Nat.le_refl _, (fun e => by cases e), fun _ => ⟨w.heap.size, 0, rfl, by simp, fun j hj => ?_⟩⟩
  rw [World.cell?_alloc_mark]
  simp

/-- The cells of three numbers. -/
def triC (t : Tri) : List Value := [nv32 t.1, nv32 t.2.1, nv32 t.2.2]
def triCs : List Tri → List Value
  | [] => []
  | t :: r => triC t ++ triCs r
theorem triCs_len : ∀ l : List Tri, (triCs l).length = 3 * l.length
  | [] => rfl
  | t :: r => by rw [triCs, List.length_append, triCs_len r]; simp [triC]; omega
theorem triCs_append : ∀ a b : List Tri, triCs (a ++ b) = triCs a ++ triCs b
  | [], b => rfl
  | t :: a, b => by rw [List.cons_append, triCs, triCs, triCs_append a b, List.append_assoc]

/-- The slice (a, n, c) of three-cell elements reads as these. -/
def Sees3 (w : World) (a : Option Addr) (n c : Nat) (l : List Tri) : Prop := l.length = n ∧ n ≤ c ∧ Sees w a (3 * n) (3 * c) (triCs l)
theorem Sees3.below {w w' : World} {a : Option Addr} {n c : Nat} {l : List Tri} (h : Sees3 w a n c l) (hb : Below w.heap.size w w') : Sees3 w' a n c l := ⟨h.1, h.2.1, h.2.2.below hb⟩
theorem Sees3.nil (w : World) : Sees3 w none 0 0 [] := ⟨rfl, Nat.le_refl _, Sees.nil _ _ _ (fun _ => rfl)⟩
theorem Sees3.addr {w : World} {a : Option Addr} {n c : Nat} {l : List Tri} (h : Sees3 w a n c l) (h0 : 0 < n) : ∃ b off, a = some ⟨b, off, .none⟩ ∧ b < w.heap.size := h.2.2.addr (by omega)

theorem triCs_at : ∀ (l : List Tri) (k : Nat) (d : Tri), k < l.length → (triCs l)[3 * k]? = some (nv32 (l.getD k d).1) ∧ (triCs l)[3 * k + 1]? = some (nv32 (l.getD k d).2.1) ∧ (triCs l)[3 * k + 2]? = some (nv32 (l.getD k d).2.2)
  | [], k, _, h => by simp at h
  | t :: r, 0, d, _ => by simp [triCs, triC]
  | t :: r, k + 1, d, h => by
    have ih := triCs_at r k d (by simpa using h)
    have e1 : 3 * (k + 1) = 3 * k + 3 := by omega
    have e2 : 3 * (k + 1) + 1 = 3 * k + 1 + 3 := by omega
    have e3 : 3 * (k + 1) + 2 = 3 * k + 2 + 3 := by omega
    have el : ∀ i, (triCs (t :: r))[i + 3]? = (triCs r)[i]? := fun i => by
      rw [triCs, List.getElem?_append_right (by simp [triC])]; simp [triC]
    rw [e2, e3, e1, el, el, el]
    simpa using ih

theorem Sees3.cells {w : World} {b off n c : Nat} {l : List Tri} (h : Sees3 w (some ⟨b, off, .none⟩) n c l) (k : Nat) (hk : k < n) (d : Tri) :
    w.cell? ⟨b, off + k * 3, .none⟩ = some (nv32 (l.getD k d).1) ∧ w.cell? ⟨b, off + k * 3 + 1, .none⟩ = some (nv32 (l.getD k d).2.1) ∧ w.cell? ⟨b, off + k * 3 + 2, .none⟩ = some (nv32 (l.getD k d).2.2) := by
  have ht := triCs_at l k d (by rw [h.1]; exact hk)
  have e1 : off + k * 3 = off + 3 * k := by omega
  have e2 : off + k * 3 + 1 = off + (3 * k + 1) := by omega
  have e3 : off + k * 3 + 2 = off + (3 * k + 2) := by omega
  rw [e2, e3, e1]
  exact ⟨((h.2.2.cell (3 * k) (by omega)).2).trans ht.1, ((h.2.2.cell (3 * k + 1) (by omega)).2).trans ht.2.1, ((h.2.2.cell (3 * k + 2) (by omega)).2).trans ht.2.2⟩

/-- The six lists of a raw circuit, as slices. -/
structure Slots where
  a1 : Option Addr
  n1 : Nat
  c1 : Nat
  a2 : Option Addr
  n2 : Nat
  c2 : Nat
  a3 : Option Addr
  n3 : Nat
  c3 : Nat
  a4 : Option Addr
  n4 : Nat
  c4 : Nat
  a5 : Option Addr
  n5 : Nat
  c5 : Nat
  a6 : Option Addr
  n6 : Nat
  c6 : Nat

/-- The slots read as r's lists. -/
structure SeesRaw (w : World) (s : Slots) (r : RawC) : Prop where
  s1 : Sees w s.a1 s.n1 s.c1 (r.ins.map nv32)
  s2 : Sees3 w s.a2 s.n2 s.c2 r.lats
  s3 : Sees w s.a3 s.n3 s.c3 (r.outs.map nv32)
  s4 : Sees w s.a4 s.n4 s.c4 (r.bads.map nv32)
  s5 : Sees w s.a5 s.n5 s.c5 (r.cons.map nv32)
  s6 : Sees3 w s.a6 s.n6 s.c6 r.gates
theorem SeesRaw.below {w w' : World} {s : Slots} {r : RawC} (h : SeesRaw w s r) (hb : Below w.heap.size w w') : SeesRaw w' s r :=
  ⟨h.s1.below hb, h.s2.below hb, h.s3.below hb, h.s4.below hb, h.s5.below hb, h.s6.below hb⟩

/-- A list's length. -/
theorem Sees.lenMap {α : Type} {f : α → Value} {w : World} {a : Option Addr} {n c : Nat} {xs : List α} (h : Sees w a n c (xs.map f)) : xs.length = n := by have := h.len; simpa using this
/-- A block of another type is not a row's own. -/
theorem Row.not_own {ok : Value → Prop} {w : World} {base : Nat} {e : TypeId} {v : Value} {n : Nat} {xs : List Value} (h : Row ok w base e v n xs) {D : Nat} {C : Array Value} {t : TypeId} {fr : Nat × Nat}
    (hD : w.heap[D]? = some (.cells C t fr)) (ht : t ≠ e) : v.ownBlock ≠ some D := by
  rcases h.2 with ⟨rfl, _⟩ | ⟨g, cap, cur, rfl, _, hg, _⟩
  · intro e; cases e
  · intro he
    have : g = D := by simpa [Value.ownBlock] using he
    subst this
    rw [hg] at hD
    cases hD
    exact ht rfl
theorem Row.other {ok : Value → Prop} {w w' : World} {base : Nat} {e : TypeId} {v : Value} {n : Nat} {xs : List Value} (h : Row ok w base e v n xs) (hk : ∀ k, v.ownBlock = some k → w'.heap[k]? = w.heap[k]?) : Row ok w' base e v n xs := by
  refine ⟨h.1, ?_⟩
  rcases h.2 with h2 | ⟨g, cap, cur, rfl, hb, hg, r⟩
  · exact .inl h2
  · exact .inr ⟨g, cap, cur, rfl, hb, (hk g rfl).trans hg, r⟩

theorem heap_lt {w : World} {D : Nat} {o : Obj} (h : w.heap[D]? = some o) : D < w.heap.size := (Array.getElem?_eq_some_iff.1 h).1
theorem heap_below {w w' : World} {D : Nat} {o : Obj} (h : w.heap[D]? = some o) (hb : Below w.heap.size w w') : w'.heap[D]? = some o := (hb.block D (heap_lt h)).trans h
theorem heap_grown {w w' : World} {D : Nat} {o : Obj} {row : Option Nat} (h : w.heap[D]? = some o) (hg : w.grownBy w' row) (hr : row ≠ some D) : w'.heap[D]? = some o := (hg.block D (heap_lt h) (fun e => hr e.symm)).trans h

theorem Row.made_at {ok : Value → Prop} {w : World} {base : Nat} {e : TypeId} (cur : Array Value) (m g cp : Nat) (xs : List Value) (hg : g = w.heap.size) (hcp : cp = cur.size) (hx : xs = cur.toList.take m) (hb : base ≤ w.heap.size) (hm : cur.size ≤ maxLen) (hn : m ≤ cur.size) (ho : ∀ u ∈ cur.toList, ok u) :
    Row ok (w.alloc (.cells cur e)) base e (.slice (some ⟨g, 0, none⟩) m cp) m xs := by
  subst hg; subst hcp; subst hx; exact Row.made cur m hb hm hn ho
theorem heap_new (w : World) (o : Obj) (g : Nat) (hg : g = w.heap.size) : (w.alloc o).heap[g]? = some o := by subst hg; exact heap_alloc_new _ _
theorem take_snocN (l : List Nat) (k : Nat) (h : k < l.length) : l.take (k + 1) = l.take k ++ [l.getD k 0] := by
  rw [List.take_succ_eq_append_getElem h]
  simp [List.getD, List.getElem?_eq_getElem h]
def iv (n : Nat) : Value := .int .i64 (n : Int)
def isI64 (u : Value) : Prop := ∃ n : Nat, u = iv n
/-- The value owns a row of three-cell elements. -/
def own3 (T : TypeId) (w : World) (base : Nat) (v : Value) (xs : List Tri) : Prop := w.ownsRow base T 3 v xs.length (triCs xs)
section
variable {w w' : World} {base : Nat} {e : TypeId} {v : Value} {n : Nat} {xs : List Value}
theorem owns_below (h : w.ownsRow base e 3 v n xs) (hb : Below w.heap.size w w') : w'.ownsRow base e 3 v n xs := by
  refine ⟨h.1, ?_⟩
  rcases h.2 with h2 | ⟨g, cap, cur, hv, hg, hh, r⟩
  · exact .inl h2
  · exact .inr ⟨g, cap, cur, hv, hg, heap_below hh hb, r⟩
theorem owns_other (h : w.ownsRow base e 3 v n xs) (hk : ∀ k, v.ownBlock = some k → w'.heap[k]? = w.heap[k]?) : w'.ownsRow base e 3 v n xs := by
  refine ⟨h.1, ?_⟩
  rcases h.2 with h2 | ⟨g, cap, cur, rfl, hg, hh, r⟩
  · exact .inl h2
  · exact .inr ⟨g, cap, cur, rfl, hg, (hk g rfl).trans hh, r⟩
theorem owns_notown (h : w.ownsRow base e 3 v n xs) {D : Nat} {C : Array Value} {t : TypeId} {fr : Nat × Nat} (hD : w.heap[D]? = some (.cells C t fr)) (ht : t ≠ e) : v.ownBlock ≠ some D := by
  rcases h.2 with ⟨rfl, _⟩ | ⟨g, cap, cur, rfl, _, hg, _⟩
  · intro e; cases e
  · intro he
    have : g = D := by simpa [Value.ownBlock] using he
    subst this
    rw [hg] at hD
    cases hD
    exact ht rfl
theorem but_owns {w3 w4 : World} {R : Nat} (h : w.grownBy w3 (some R)) (hrow : w3.ownsRow w.heap.size e 3 v n xs) (hg : w3.grownBy w4 v.ownBlock) : w.grownBy w4 (some R) :=
  ⟨hg.os.trans h.os, hg.tape.trans h.tape, hg.output.trans h.output, Nat.le_trans h.size hg.size, fun b hb hr => (hg.block b (Nat.lt_of_lt_of_le hb h.size) (fun e => by have := (hrow.lt b e.symm).1; omega)).trans (h.block b hb hr)⟩
end
theorem own3_nil (T : TypeId) (w : World) (base : Nat) : own3 T w base (.slice none 0 0) [] := ⟨rfl, .inl ⟨rfl, rfl⟩⟩
theorem own3_below {T : TypeId} {w w' : World} {base : Nat} {v : Value} {xs : List Tri} (h : own3 T w base v xs) (hb : Below w.heap.size w w') : own3 T w' base v xs := owns_below h hb
theorem own3_sees {T : TypeId} {w : World} {base : Nat} {v : Value} {xs : List Tri} (h : own3 T w base v xs) : ∃ a c, v = .slice a xs.length c ∧ Sees3 w a xs.length c xs := by
  rcases h.2 with ⟨rfl, h0⟩ | ⟨g, cap, cur, rfl, _, hg, hnc, hm, hcs, ht⟩
  · have : xs = [] := List.eq_nil_of_length_eq_zero h0
    subst this
    exact ⟨none, 0, rfl, Sees3.nil w⟩
  · refine ⟨_, cap, rfl, rfl, hnc, ⟨?_, by omega, (fun e => by cases e), fun _ => ⟨g, 0, rfl, heap_lt hg, fun j hj => ?_⟩⟩⟩
    · have := h.1; omega
    · rw [Nat.zero_add, cell_of_row w g j cur T (0, 0) hg, ← ht, List.getElem?_take_of_lt (by omega)]
      simp
theorem own3_form {T : TypeId} {w : World} {base : Nat} {v : Value} {xs : List Tri} (h : own3 T w base v xs) : ∃ a c, v = .slice a xs.length c := by
  obtain ⟨a, c, e, _⟩ := own3_sees h
  exact ⟨a, c, e⟩

theorem raw_set {X : World} {g : Nat} {C : Array Value} {t : TypeId} (h : X.heap[g]? = some (.cells C t (0, 0))) (hC : C.size = 7) (u0 u1 u2 u3 u4 u5 u6 : Value) :
    (((((((X.setCell ⟨g, 0, .none⟩ u0).setCell ⟨g, 1, .none⟩ u1).setCell ⟨g, 2, .none⟩ u2).setCell ⟨g, 3, .none⟩ u3).setCell ⟨g, 4, .none⟩ u4).setCell ⟨g, 5, .none⟩ u5).setCell ⟨g, 6, .none⟩ u6).heap[g]? = some (.cells #[u0, u1, u2, u3, u4, u5, u6] t (0, 0)) := by
  obtain ⟨l⟩ := C
  match l, hC with
  | [_, _, _, _, _, _, _], _ =>
    have h0 := block_setCell h (i := 0) u0
    have h1 := block_setCell h0 (i := 1) u1
    have h2 := block_setCell h1 (i := 2) u2
    have h3 := block_setCell h2 (i := 3) u3
    have h4 := block_setCell h3 (i := 4) u4
    have h5 := block_setCell h4 (i := 5) u5
    have h6 := block_setCell h5 (i := 6) u6
    simpa using h6

theorem set7 {B : Nat} {w X : World} (g : Nat) (hg : B ≤ g) (h : Below B w X) {u0 u1 u2 u3 u4 u5 u6 : Value} :
    Below B w (((((((X.setCell ⟨g, 0, .none⟩ u0).setCell ⟨g, 1, .none⟩ u1).setCell ⟨g, 2, .none⟩ u2).setCell ⟨g, 3, .none⟩ u3).setCell ⟨g, 4, .none⟩ u4).setCell ⟨g, 5, .none⟩ u5).setCell ⟨g, 6, .none⟩ u6) :=
  ((((((h.setCell hg _).setCell hg _).setCell hg _).setCell hg _).setCell hg _).setCell hg _).setCell hg _

end Go.Proofs.Ytcoehbkjccfhlaa
/- Rows of elements of any size, that are owned. -/
namespace Go.Proofs.Ytcoehbkjccfhlaa
open Go Go.RowKit Go.Joins

section
variable {w w' : World} {base k : Nat} {e : TypeId} {v : Value} {n : Nat} {xs : List Value}
theorem ownsN_below (h : w.ownsRow base e k v n xs) (hb : Below w.heap.size w w') : w'.ownsRow base e k v n xs := by
  refine ⟨h.1, ?_⟩
  rcases h.2 with h2 | ⟨g, cap, cur, hv, hg, hh, r⟩
  · exact .inl h2
  · exact .inr ⟨g, cap, cur, hv, hg, heap_below hh hb, r⟩
theorem ownsN_base {base' : Nat} (h : w.ownsRow base e k v n xs) (hb : base' ≤ base) : w.ownsRow base' e k v n xs := by
  refine ⟨h.1, ?_⟩
  rcases h.2 with h2 | ⟨g, cap, cur, hv, hg, r⟩
  · exact .inl h2
  · exact .inr ⟨g, cap, cur, hv, Nat.le_trans hb hg, r⟩
theorem ownsN_form (h : w.ownsRow base e k v n xs) : ∃ a c, v = .slice a n c := by
  rcases h.2 with ⟨rfl, rfl⟩ | ⟨g, cap, cur, rfl, _⟩
  · exact ⟨_, _, rfl⟩
  · exact ⟨_, _, rfl⟩
theorem ownsN_notown (h : w.ownsRow base e k v n xs) {D : Nat} {C : Array Value} {t : TypeId} {fr : Nat × Nat} (hD : w.heap[D]? = some (.cells C t fr)) (ht : t ≠ e) : v.ownBlock ≠ some D := by
  rcases h.2 with ⟨rfl, _⟩ | ⟨g, cap, cur, rfl, _, hg, _⟩
  · intro e; cases e
  · intro he
    have : g = D := by simpa [Value.ownBlock] using he
    subst this
    rw [hg] at hD
    cases hD
    exact ht rfl
theorem ownsN_nil (w : World) (base : Nat) (e : TypeId) (k : Nat) : w.ownsRow base e k (.slice none 0 0) 0 [] := ⟨by simp, .inl ⟨rfl, rfl⟩⟩
theorem ownsN_low (h : w.ownsRow base e k v n xs) (hg : w.grownBy w' v.ownBlock) (hb : base ≤ w.heap.size) : Below base w w' :=
  (Below.refl base w).grown hg hb (fun k hk => (h.lt k hk).1)
end
end Go.Proofs.Ytcoehbkjccfhlaa
namespace Go.Proofs.Ytcoehbkjccfhlaa
open Go Go.RowKit

/-- A circuit: latches and gates as pairs. -/
structure NormC where
  ins : Int
  lats : List (Nat × Nat)
  gates : List (Nat × Nat)
  outs : List Nat
  bads : List Nat
  cons : List Nat
deriving DecidableEq

def gate1 (t : Tri) : List Nat := [t.2.1, t.2.2]
/-- The literals that r defines. -/
def ownsL (r : RawC) : List Nat := r.ins ++ (r.lats.map (·.1) ++ r.gates.map (·.1))
/-- The literals that r makes use of. -/
def refsL (r : RawC) : List Nat := (r.outs ++ (r.bads ++ r.cons)) ++ (r.lats.map (·.2.1) ++ r.gates.flatMap gate1)
/-- Which variables are defined, if each is once and no literal is odd. -/
def defsF : List Bool → List Nat → Option (List Bool)
  | d, [] => some d
  | d, x :: r => if x % 2 = 1 then none else if d.getD (x / 2) false = true then none else defsF (d.set (x / 2) true) r
def defs0 (m : Nat) : List Bool := (List.replicate (m + 1) false).set 0 true
def defsS (r : RawC) : Option (List Bool) := defsF (defs0 r.max) (ownsL r)
def missing (d : List Bool) (x : Nat) : Bool := !d.getD (x / 2) false

/-- Is v a gate's variable? -/
def isG (gs : List Tri) (v : Nat) : Bool := gs.any (fun g => g.1 / 2 == v)
/-- Has a literal to wait for a gate that is not among the numbered ones? -/
def waitsFor (gs : List Tri) (nd : List Nat) (x : Nat) : Nat := if isG gs (x / 2) = true then (if nd.contains (x / 2) = true then 0 else 1) else 0
def gAt (gs : List Tri) (i : Nat) : Tri := gs.getD i (0, 0, 0)
def varAt (gs : List Tri) (i : Nat) : Nat := (gAt gs i).1 / 2
def wt (gs : List Tri) (nd : List Nat) (i : Nat) : Nat := waitsFor gs nd (gAt gs i).2.1 + waitsFor gs nd (gAt gs i).2.2
def readyB (gs : List Tri) (nd : List Nat) (i : Nat) : Bool := !nd.contains (varAt gs i) && decide (wt gs nd i = 0)
/-- The first gate that can be numbered comes next. -/
def orderF (gs : List Tri) : Nat → List Nat → List Tri
  | 0, _ => []
  | f + 1, nd => match (List.range gs.length).find? (readyB gs nd) with
    | none => []
    | some i => gAt gs i :: orderF gs f (nd ++ [varAt gs i])
def inOrderS (gs : List Tri) : List Tri := orderF gs gs.length []

/-- The new literal of each variable. -/
def toF : List Nat → Nat → List Nat → List Nat
  | t, _, [] => t
  | t, i, x :: r => toF (t.set (x / 2) (2 * (1 + i))) (i + 1) r
def toS (r : RawC) : List Nat := toF (List.replicate (r.max + 1) 0) 0 (ownsL r)
def nowS (t : List Nat) (x : Nat) : Nat := t.getD (x / 2) 0 + x % 2
def resetS (l : Tri) : Nat := if l.2.2 = l.1 then 2 else l.2.2 % 256
def latS3 (t : List Nat) (l : Tri) : Nat × Nat := (nowS t l.2.1, resetS l)
def gateS3 (t : List Nat) (g : Tri) : Nat × Nat := (max (nowS t g.2.1) (nowS t g.2.2), min (nowS t g.2.1) (nowS t g.2.2))
def renumS (r : RawC) : NormC := ⟨r.ins.length, r.lats.map (latS3 (toS r)), r.gates.map (gateS3 (toS r)), r.outs.map (nowS (toS r)), r.bads.map (nowS (toS r)), r.cons.map (nowS (toS r))⟩

/-- What Of answers. -/
def ofS (r : RawC) : Except Int NormC :=
  if mayRaw r = false then .error 2 else
  match defsS r with
  | none => .error 8
  | some d => if (refsL r).any (missing d) = true then .error 7 else
    if (inOrderS r.gates).length < r.gates.length then .error 9 else .ok (renumS { r with gates := inOrderS r.gates })

-- the chapter's examples
example : ofS ⟨3, [6], [], [], [], [], [(2, 4, 6), (4, 7, 6)]⟩ = .ok ⟨1, [], [(3, 2), (4, 2)], [], [], []⟩ := by rfl
example : ofS ⟨2, [], [], [], [], [], [(2, 4, 1), (4, 2, 1)]⟩ = .error 9 := by rfl
example : ofS ⟨2, [], [], [], [], [], [(2, 4, 1)]⟩ = .error 7 := by rfl
example : ofS ⟨2, [2], [], [], [], [], [(2, 1, 1)]⟩ = .error 8 := by rfl
example : ofS ⟨1, [3], [], [], [], [], []⟩ = .error 8 := by rfl
example : ofS ⟨1, [0], [], [], [], [], []⟩ = .error 8 := by rfl
end Go.Proofs.Ytcoehbkjccfhlaa
