/- A circuit as a value: its lists are slices that read as its numbers; two-cell elements. -/
import Derived.Test.YtgplkpfdbiapaaaGreatDoorNBase
import Derived.Test.YtgplkpfdbiapaaaGreatDoorRows
import Derived.BigQuiet
import Derived.Deep.AppendLies
import Derived.Deep.QuietTactic
import Derived.Deep.RegionLaw
import Derived.Deep.RegionWith
import Derived.KernelRfl
import Derived.Laws.EntriesVeiled
import Derived.Lib.ConvBytes
import Derived.Lib.Hide
import Derived.Lib.SlBytesRow
import Derived.Lib.SmallJoins
import Derived.Shelf.Bytes.SlSmallAll
import Derived.WalkKit
import Derived.WalkLawsBesides
import Derived.WalkSpells
import Derived.Test.YtgplkpfdbiapaaaGreatDoorLib
import Derived.Test.YtgplkpfdbiapaaaGreatDoorOwn
/- raw.May, by its contract. -/
namespace Go.Proofs.YtgplkpfdbiapaaaGreatDoor
open Go Go.RowKit Go.Joins

theorem bcell {W w1 : World} (hb : Below W.heap.size W w1) : (∀ b o, b < W.heap.size → w1.cell? ⟨b, o, none⟩ = W.cell? ⟨b, o, none⟩) ∧ (∀ b o, b < W.heap.size → w1.frozen? ⟨b, o, none⟩ = W.frozen? ⟨b, o, none⟩) :=
  ⟨fun b o h => hb.cell (p := ⟨b, o, none⟩) h, fun b o h => hb.frozen (p := ⟨b, o, none⟩) h⟩

/-- The longest a list can be. -/
def lenMax : Nat := 140737488355328
/-- All lists are short enough. -/
def Slots.fit (s : Slots) : Prop := s.n1 ≤ lenMax ∧ s.n2 ≤ lenMax ∧ s.n3 ≤ lenMax ∧ s.n4 ≤ lenMax ∧ s.n5 ≤ lenMax ∧ s.n6 ≤ lenMax
/-- A raw circuit's value. -/
def rawV (m : Nat) (s : Slots) : Value := .agg #[.int .u32 m, .slice s.a1 s.n1 s.c1, .slice s.a2 s.n2 s.c2, .slice s.a3 s.n3 s.c3, .slice s.a4 s.n4 s.c4, .slice s.a5 s.n5 s.c5, .slice s.a6 s.n6 s.c6]

theorem cell_new (w : World) (C : Array Value) (t : TypeId) (fr : Nat × Nat) (g k : Nat) (v : Value) (hg : g = w.heap.size) (h : C[k]? = some v) : (w.alloc (.cells C t fr)).cell? ⟨g, k, .none⟩ = some v := by
  subst hg; rw [World.cell?_alloc_mark]; exact h
theorem cell_lt {w : World} {b o : Nat} {v : Value} (h : w.cell? ⟨b, o, .none⟩ = some v) : b < w.heap.size := World.block_lt_of_cell? w ⟨b, o, .none⟩ h
theorem cell_below {w w' : World} {b o : Nat} {v : Value} (h : w.cell? ⟨b, o, .none⟩ = some v) (hb : Below w.heap.size w w') : w'.cell? ⟨b, o, .none⟩ = some v := (hb.cell (p := ⟨b, o, .none⟩) (cell_lt h)).trans h
theorem cell_old {w : World} {b o : Nat} {v : Value} {x : Obj} (h : w.cell? ⟨b, o, .none⟩ = some v) : (w.alloc x).cell? ⟨b, o, .none⟩ = some v := cell_below h (ext_alloc _ _)
end Go.Proofs.YtgplkpfdbiapaaaGreatDoor
/- Package norm, on plain lists: what defines, what is referred to, the order of gates, the circuit of a raw circuit. -/
namespace Go.Proofs.YtgplkpfdbiapaaaGreatDoor
open Go Go.RowKit

/-- A circuit: latches and gates as pairs. -/
structure NormC where
  ins : Int
  lats : List (Nat × Nat)
  gates : List (Nat × Nat)
  outs : List Nat
  bads : List Nat
  cons : List Nat
deriving DecidableEq

def gate1 (t : Tri) : List Nat := [t.2.1, t.2.2]
/-- The literals that r defines. -/
def ownsL (r : RawC) : List Nat := r.ins ++ (r.lats.map (·.1) ++ r.gates.map (·.1))
/-- The literals that r makes use of. -/
def refsL (r : RawC) : List Nat := (r.outs ++ (r.bads ++ r.cons)) ++ (r.lats.map (·.2.1) ++ r.gates.flatMap gate1)
/-- Which variables are defined, if each is once and no literal is odd. -/
def defsF : List Bool → List Nat → Option (List Bool)
  | d, [] => some d
  | d, x :: r => if x % 2 = 1 then none else if d.getD (x / 2) false = true then none else defsF (d.set (x / 2) true) r
def defs0 (m : Nat) : List Bool := (List.replicate (m + 1) false).set 0 true
def defsS (r : RawC) : Option (List Bool) := defsF (defs0 r.max) (ownsL r)
def missing (d : List Bool) (x : Nat) : Bool := !d.getD (x / 2) false

/-- Is v a gate's variable? -/
def isG (gs : List Tri) (v : Nat) : Bool := gs.any (fun g => g.1 / 2 == v)
/-- Has a literal to wait for a gate that is not among the numbered ones? -/
def waitsFor (gs : List Tri) (nd : List Nat) (x : Nat) : Nat := if isG gs (x / 2) = true then (if nd.contains (x / 2) = true then 0 else 1) else 0
def gAt (gs : List Tri) (i : Nat) : Tri := gs.getD i (0, 0, 0)
def varAt (gs : List Tri) (i : Nat) : Nat := (gAt gs i).1 / 2
def wt (gs : List Tri) (nd : List Nat) (i : Nat) : Nat := waitsFor gs nd (gAt gs i).2.1 + waitsFor gs nd (gAt gs i).2.2
def readyB (gs : List Tri) (nd : List Nat) (i : Nat) : Bool := !nd.contains (varAt gs i) && decide (wt gs nd i = 0)
/-- The first gate that can be numbered comes next. -/
def orderF (gs : List Tri) : Nat → List Nat → List Tri
  | 0, _ => []
  | f + 1, nd => match (List.range gs.length).find? (readyB gs nd) with
    | none => []
    | some i => gAt gs i :: orderF gs f (nd ++ [varAt gs i])
def inOrderS (gs : List Tri) : List Tri := orderF gs gs.length []

/-- The new literal of each variable. -/
def toF : List Nat → Nat → List Nat → List Nat
  | t, _, [] => t
  | t, i, x :: r => toF (t.set (x / 2) (2 * (1 + i))) (i + 1) r
def toS (r : RawC) : List Nat := toF (List.replicate (r.max + 1) 0) 0 (ownsL r)
def nowS (t : List Nat) (x : Nat) : Nat := t.getD (x / 2) 0 + x % 2
def resetS (l : Tri) : Nat := if l.2.2 = l.1 then 2 else l.2.2 % 256
def latS3 (t : List Nat) (l : Tri) : Nat × Nat := (nowS t l.2.1, resetS l)
def gateS3 (t : List Nat) (g : Tri) : Nat × Nat := (max (nowS t g.2.1) (nowS t g.2.2), min (nowS t g.2.1) (nowS t g.2.2))
def renumS (r : RawC) : NormC := ⟨r.ins.length, r.lats.map (latS3 (toS r)), r.gates.map (gateS3 (toS r)), r.outs.map (nowS (toS r)), r.bads.map (nowS (toS r)), r.cons.map (nowS (toS r))⟩

/-- What Of answers. -/
def ofS (r : RawC) : Except Int NormC :=
  if mayRaw r = false then .error 2 else
  match defsS r with
  | none => .error 8
  | some d => if (refsL r).any (missing d) = true then .error 7 else
    if (inOrderS r.gates).length < r.gates.length then .error 9 else .ok (renumS { r with gates := inOrderS r.gates })

-- the chapter's examples
example : ofS ⟨3, [6], [], [], [], [], [(2, 4, 6), (4, 7, 6)]⟩ = .ok ⟨1, [], [(3, 2), (4, 2)], [], [], []⟩ := by rfl
example : ofS ⟨2, [], [], [], [], [], [(2, 4, 1), (4, 2, 1)]⟩ = .error 9 := by rfl
example : ofS ⟨2, [], [], [], [], [], [(2, 4, 1)]⟩ = .error 7 := by rfl
example : ofS ⟨2, [2], [], [], [], [], [(2, 1, 1)]⟩ = .error 8 := by rfl
example : ofS ⟨1, [3], [], [], [], [], []⟩ = .error 8 := by rfl
example : ofS ⟨1, [0], [], [], [], [], []⟩ = .error 8 := by rfl
end Go.Proofs.YtgplkpfdbiapaaaGreatDoor
/- Rows of elements of any size, that are owned. -/
namespace Go.Proofs.YtgplkpfdbiapaaaGreatDoor
open Go Go.RowKit Go.Joins

section
variable {w w' : World} {base k : Nat} {e : TypeId} {v : Value} {n : Nat} {xs : List Value}
theorem ownsN_below (h : w.ownsRow base e k v n xs) (hb : Below w.heap.size w w') : w'.ownsRow base e k v n xs := by
  refine ⟨h.1, ?_⟩
  rcases h.2 with h2 | ⟨g, cap, cur, hv, hg, hh, r⟩
  · exact .inl h2
  · exact .inr ⟨g, cap, cur, hv, hg, heap_below hh hb, r⟩
theorem ownsN_base {base' : Nat} (h : w.ownsRow base e k v n xs) (hb : base' ≤ base) : w.ownsRow base' e k v n xs := by
  refine ⟨h.1, ?_⟩
  rcases h.2 with h2 | ⟨g, cap, cur, hv, hg, r⟩
  · exact .inl h2
  · exact .inr ⟨g, cap, cur, hv, Nat.le_trans hb hg, r⟩
theorem ownsN_form (h : w.ownsRow base e k v n xs) : ∃ a c, v = .slice a n c := by
  rcases h.2 with ⟨rfl, rfl⟩ | ⟨g, cap, cur, rfl, _⟩
  · exact ⟨_, _, rfl⟩
  · exact ⟨_, _, rfl⟩
theorem ownsN_notown (h : w.ownsRow base e k v n xs) {D : Nat} {C : Array Value} {t : TypeId} {fr : Nat × Nat} (hD : w.heap[D]? = some (.cells C t fr)) (ht : t ≠ e) : v.ownBlock ≠ some D := by
  rcases h.2 with ⟨rfl, _⟩ | ⟨g, cap, cur, rfl, _, hg, _⟩
  · intro e; cases e
  · intro he
    have : g = D := by simpa [Value.ownBlock] using he
    subst this
    rw [hg] at hD
    cases hD
    exact ht rfl
theorem ownsN_nil (w : World) (base : Nat) (e : TypeId) (k : Nat) : w.ownsRow base e k (.slice none 0 0) 0 [] := ⟨by simp, .inl ⟨rfl, rfl⟩⟩
theorem ownsN_low (h : w.ownsRow base e k v n xs) (hg : w.grownBy w' v.ownBlock) (hb : base ≤ w.heap.size) : Below base w w' :=
  (Below.refl base w).grown hg hb (fun k hk => (h.lt k hk).1)
end
end Go.Proofs.YtgplkpfdbiapaaaGreatDoor
namespace Go.Proofs.YtgplkpfdbiapaaaGreatDoor
open Go Go.RowKit Go.Joins

def nv8 (n : Nat) : Value := .int .u8 (n : Int)
/-- The cells of pairs. -/
def prCs (K : Nat → Value) : List (Nat × Nat) → List Value
  | [] => []
  | p :: r => nv32 p.1 :: K p.2 :: prCs K r
theorem prCs_len (K : Nat → Value) : ∀ l, (prCs K l).length = 2 * l.length
  | [] => rfl
  | p :: r => by rw [prCs, List.length_cons, List.length_cons, prCs_len K r, List.length_cons]; omega
theorem prCs_append (K : Nat → Value) : ∀ a b, prCs K (a ++ b) = prCs K a ++ prCs K b
  | [], b => rfl
  | p :: a, b => by rw [List.cons_append, prCs, prCs, prCs_append K a b]; rfl
theorem prCs_at (K : Nat → Value) : ∀ (l : List (Nat × Nat)) (k : Nat) (d : Nat × Nat), k < l.length → (prCs K l)[2 * k]? = some (nv32 (l.getD k d).1) ∧ (prCs K l)[2 * k + 1]? = some (K (l.getD k d).2)
  | [], k, _, h => by simp at h
  | p :: r, 0, d, _ => by simp [prCs]
  | p :: r, k + 1, d, h => by
    have ih := prCs_at K r k d (by simpa using h)
    have el : ∀ i, (prCs K (p :: r))[i + 2]? = (prCs K r)[i]? := fun i => by simp [prCs]
    rw [show 2 * (k + 1) + 1 = 2 * k + 1 + 2 by omega, show 2 * (k + 1) = 2 * k + 2 by omega, el, el]
    simpa using ih

/-- The slice (a, n, c) of two-cell elements reads as these. -/
def Sees2 (K : Nat → Value) (w : World) (a : Option Addr) (n c : Nat) (l : List (Nat × Nat)) : Prop := l.length = n ∧ n ≤ c ∧ Sees w a (2 * n) (2 * c) (prCs K l)
theorem Sees2.below {K : Nat → Value} {w w' : World} {a : Option Addr} {n c : Nat} {l : List (Nat × Nat)} (h : Sees2 K w a n c l) (hb : Below w.heap.size w w') : Sees2 K w' a n c l := ⟨h.1, h.2.1, h.2.2.below hb⟩
theorem Sees2.nil (K : Nat → Value) (w : World) : Sees2 K w none 0 0 [] := ⟨rfl, Nat.le_refl _, Sees.nil _ _ _ (fun _ => rfl)⟩
theorem Sees2.addr {K : Nat → Value} {w : World} {a : Option Addr} {n c : Nat} {l : List (Nat × Nat)} (h : Sees2 K w a n c l) (h0 : 0 < n) : ∃ b off, a = some ⟨b, off, .none⟩ ∧ b < w.heap.size := h.2.2.addr (by omega)
theorem Sees2.cells {K : Nat → Value} {w : World} {b off n c : Nat} {l : List (Nat × Nat)} (h : Sees2 K w (some ⟨b, off, .none⟩) n c l) (k : Nat) (hk : k < n) (d : Nat × Nat) :
    w.cell? ⟨b, off + k * 2, .none⟩ = some (nv32 (l.getD k d).1) ∧ w.cell? ⟨b, off + k * 2 + 1, .none⟩ = some (K (l.getD k d).2) := by
  have ht := prCs_at K l k d (by rw [h.1]; exact hk)
  rw [show off + k * 2 = off + 2 * k by omega, show off + 2 * k + 1 = off + (2 * k + 1) by omega]
  exact ⟨((h.2.2.cell (2 * k) (by omega)).2).trans ht.1, ((h.2.2.cell (2 * k + 1) (by omega)).2).trans ht.2⟩

/-- The value owns a row of two-cell elements. -/
def own2 (K : Nat → Value) (T : TypeId) (w : World) (base : Nat) (v : Value) (xs : List (Nat × Nat)) : Prop := w.ownsRow base T 2 v xs.length (prCs K xs)
theorem own2_nil (K : Nat → Value) (T : TypeId) (w : World) (base : Nat) : own2 K T w base (.slice none 0 0) [] := ⟨rfl, .inl ⟨rfl, rfl⟩⟩
theorem own2_form {K : Nat → Value} {T : TypeId} {w : World} {base : Nat} {v : Value} {xs : List (Nat × Nat)} (h : own2 K T w base v xs) : ∃ a c, v = .slice a xs.length c := ownsN_form h
theorem own2_sees {K : Nat → Value} {T : TypeId} {w : World} {base : Nat} {v : Value} {xs : List (Nat × Nat)} (h : own2 K T w base v xs) : ∃ a c, v = .slice a xs.length c ∧ Sees2 K w a xs.length c xs := by
  rcases h.2 with ⟨rfl, h0⟩ | ⟨g, cap, cur, rfl, _, hg, hnc, hm, hcs, ht⟩
  · have : xs = [] := List.eq_nil_of_length_eq_zero h0
    subst this
    exact ⟨none, 0, rfl, Sees2.nil K w⟩
  · refine ⟨_, cap, rfl, rfl, hnc, ⟨?_, by omega, (fun e => by cases e), fun _ => ⟨g, 0, rfl, heap_lt hg, fun j hj => ?_⟩⟩⟩
    · have := h.1; omega
    · rw [Nat.zero_add, cell_of_row w g j cur T (0, 0) hg, ← ht, List.getElem?_take_of_lt (by omega)]
      simp
theorem own2_below {K : Nat → Value} {T : TypeId} {w w' : World} {base : Nat} {v : Value} {xs : List (Nat × Nat)} (h : own2 K T w base v xs) (hb : Below w.heap.size w w') : own2 K T w' base v xs := ownsN_below h hb

/-- The five lists of a circuit, as slices: latches, gates, outputs, bads, constraints. -/
structure CSlots where
  a1 : Option Addr
  n1 : Nat
  c1 : Nat
  a2 : Option Addr
  n2 : Nat
  c2 : Nat
  a3 : Option Addr
  n3 : Nat
  c3 : Nat
  a4 : Option Addr
  n4 : Nat
  c4 : Nat
  a5 : Option Addr
  n5 : Nat
  c5 : Nat
/-- A circuit's value. -/
def cirV (ins : Int) (s : CSlots) : Value := .agg #[.int .i64 ins, .slice s.a1 s.n1 s.c1, .slice s.a2 s.n2 s.c2, .slice s.a3 s.n3 s.c3, .slice s.a4 s.n4 s.c4, .slice s.a5 s.n5 s.c5]
def zeroCir : Value := .agg #[.int .i64 0, .slice none 0 0, .slice none 0 0, .slice none 0 0, .slice none 0 0, .slice none 0 0]
/-- The slots read as c's lists. -/
structure SeesCir (w : World) (s : CSlots) (c : NormC) : Prop where
  s1 : Sees2 nv8 w s.a1 s.n1 s.c1 c.lats
  s2 : Sees2 nv32 w s.a2 s.n2 s.c2 c.gates
  s3 : Sees w s.a3 s.n3 s.c3 (c.outs.map nv32)
  s4 : Sees w s.a4 s.n4 s.c4 (c.bads.map nv32)
  s5 : Sees w s.a5 s.n5 s.c5 (c.cons.map nv32)
theorem SeesCir.below {w w' : World} {s : CSlots} {c : NormC} (h : SeesCir w s c) (hb : Below w.heap.size w w') : SeesCir w' s c :=
  ⟨h.s1.below hb, h.s2.below hb, h.s3.below hb, h.s4.below hb, h.s5.below hb⟩
/-- The slots own rows that read so. -/
structure OwnCir (w : World) (base : Nat) (s : CSlots) (c : NormC) : Prop where
  o1 : own2 nv8 61 w base (.slice s.a1 s.n1 s.c1) c.lats
  o2 : own2 nv32 100 w base (.slice s.a2 s.n2 s.c2) c.gates
  o3 : Row isU32 w base 42 (.slice s.a3 s.n3 s.c3) c.outs.length (c.outs.map nv32)
  o4 : Row isU32 w base 42 (.slice s.a4 s.n4 s.c4) c.bads.length (c.bads.map nv32)
  o5 : Row isU32 w base 42 (.slice s.a5 s.n5 s.c5) c.cons.length (c.cons.map nv32)
theorem row_sees_slice {ok : Value → Prop} {w : World} {base : Nat} {e : TypeId} {a : Option Addr} {n c m : Nat} {xs : List Value} (h : Row ok w base e (.slice a n c) m xs) : n = m ∧ Sees w a n c xs := by
  obtain ⟨a', c', e, _, hs⟩ := h.sees
  cases e
  exact ⟨rfl, hs⟩
theorem own2_sees_slice {K : Nat → Value} {T : TypeId} {w : World} {base : Nat} {a : Option Addr} {n c : Nat} {xs : List (Nat × Nat)} (h : own2 K T w base (.slice a n c) xs) : Sees2 K w a n c xs := by
  obtain ⟨a', c', e, hs⟩ := own2_sees h
  cases e
  exact hs
theorem OwnCir.sees {w : World} {base : Nat} {s : CSlots} {c : NormC} (h : OwnCir w base s c) : SeesCir w s c :=
  ⟨own2_sees_slice h.o1, own2_sees_slice h.o2, (row_sees_slice h.o3).2, (row_sees_slice h.o4).2, (row_sees_slice h.o5).2⟩
theorem OwnCir.below {w w' : World} {base : Nat} {s : CSlots} {c : NormC} (h : OwnCir w base s c) (hb : Below w.heap.size w w') : OwnCir w' base s c :=
  ⟨own2_below h.o1 hb, own2_below h.o2 hb, h.o3.below hb, h.o4.below hb, h.o5.below hb⟩

theorem info_latch : (Tryz.prog.info? 61).map (fun i => (i.zero, i.size, i.bytes)) = some (some (.agg #[.int .u32 0, .int .u8 0]), 2, 8) := by kernel_rfl
theorem info_cgate : (Tryz.prog.info? 100).map (fun i => (i.zero, i.size, i.bytes)) = some (some (.agg #[.int .u32 0, .int .u32 0]), 2, 8) := by kernel_rfl

theorem toF_len : ∀ (l : List Nat) (t : List Nat) (i : Nat), (toF t i l).length = t.length
  | [], _, _ => rfl
  | x :: r, t, i => by rw [toF, toF_len r]; simp
theorem toF_le : ∀ (l : List Nat) (t : List Nat) (i b : Nat), (∀ k, t.getD k 0 ≤ b) → 2 * (i + l.length) ≤ b → ∀ k, (toF t i l).getD k 0 ≤ b
  | [], _, _, _, h, _, k => h k
  | x :: r, t, i, b, h, hb, k => by
    rw [toF]
    refine toF_le r _ (i + 1) b (fun k => ?_) (by simp at hb; omega) k
    by_cases e : x / 2 = k
    · subst e
      by_cases hl : x / 2 < t.length
      · simp only [List.length_cons] at hb
        simp [List.getD, hl]; omega
      · simp [List.getD, hl]
    · have := h k
      simpa [List.getD, List.getElem?_set, e] using this

theorem cir_set {X : World} {g : Nat} {C : Array Value} {t : TypeId} (h : X.heap[g]? = some (.cells C t (0, 0))) (hC : C.size = 6) (u0 u1 u2 u3 u4 u5 : Value) :
    ((((((X.setCell ⟨g, 0, .none⟩ u0).setCell ⟨g, 1, .none⟩ u1).setCell ⟨g, 2, .none⟩ u2).setCell ⟨g, 3, .none⟩ u3).setCell ⟨g, 4, .none⟩ u4).setCell ⟨g, 5, .none⟩ u5).heap[g]? = some (.cells #[u0, u1, u2, u3, u4, u5] t (0, 0)) := by
  obtain ⟨l⟩ := C
  match l, hC with
  | [_, _, _, _, _, _], _ =>
    have h0 := block_setCell h (i := 0) u0
    have h1 := block_setCell h0 (i := 1) u1
    have h2 := block_setCell h1 (i := 2) u2
    have h3 := block_setCell h2 (i := 3) u3
    have h4 := block_setCell h3 (i := 4) u4
    have h5 := block_setCell h4 (i := 5) u5
    simpa using h5
theorem set6 {B : Nat} {w X : World} (g : Nat) (hg : B ≤ g) (h : Below B w X) {u0 u1 u2 u3 u4 u5 : Value} :
    Below B w ((((((X.setCell ⟨g, 0, .none⟩ u0).setCell ⟨g, 1, .none⟩ u1).setCell ⟨g, 2, .none⟩ u2).setCell ⟨g, 3, .none⟩ u3).setCell ⟨g, 4, .none⟩ u4).setCell ⟨g, 5, .none⟩ u5) :=
  (((((h.setCell hg _).setCell hg _).setCell hg _).setCell hg _).setCell hg _).setCell hg _
theorem set6_other {X : World} (g D : Nat) (hD : D ≠ g) (u0 u1 u2 u3 u4 u5 : Value) :
    ((((((X.setCell ⟨g, 0, .none⟩ u0).setCell ⟨g, 1, .none⟩ u1).setCell ⟨g, 2, .none⟩ u2).setCell ⟨g, 3, .none⟩ u3).setCell ⟨g, 4, .none⟩ u4).setCell ⟨g, 5, .none⟩ u5).heap[D]? = X.heap[D]? := by
  rw [Below.heap_setCell _ ⟨g, 5, .none⟩ _ D hD, Below.heap_setCell _ ⟨g, 4, .none⟩ _ D hD, Below.heap_setCell _ ⟨g, 3, .none⟩ _ D hD, Below.heap_setCell _ ⟨g, 2, .none⟩ _ D hD, Below.heap_setCell _ ⟨g, 1, .none⟩ _ D hD, Below.heap_setCell _ ⟨g, 0, .none⟩ _ D hD]
end Go.Proofs.YtgplkpfdbiapaaaGreatDoor
