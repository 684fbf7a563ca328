/- slices.Clone of numbers, and norm.owns, by their contracts. -/
import Derived.Test.YtcoehbkjccfhlaaGEncT00
import Derived.Test.YtcoehbkjccfhlaaGEncT01
import Derived.Test.YtcoehbkjccfhlaaRows
import Derived.BigQuiet
import Derived.Deep.AppendLies
import Derived.Deep.QuietTactic
import Derived.Deep.RegionLaw
import Derived.Deep.RegionWith
import Derived.KernelRfl
import Derived.Laws.EntriesVeiled
import Derived.Lib.ConvBytes
import Derived.Lib.Hide
import Derived.Lib.SlBytesRow
import Derived.Lib.SmallJoins
import Derived.Shelf.Bytes.SlSmallAll
import Derived.WalkKit
import Derived.WalkLawsBesides
import Derived.WalkSpells
import Derived.Maps.AppendAt
/- A circuit as a value: its lists are slices that read as its numbers; two-cell elements. -/
namespace Go.Proofs.Ytcoehbkjccfhlaa
open Go Go.RowKit Go.Joins

def nv8 (n : Nat) : Value := .int .u8 (n : Int)
/-- The cells of pairs. -/
def prCs (K : Nat → Value) : List (Nat × Nat) → List Value
  | [] => []
  | p :: r => nv32 p.1 :: K p.2 :: prCs K r
theorem prCs_len (K : Nat → Value) : ∀ l, (prCs K l).length = 2 * l.length
  | [] => rfl
  | p :: r => by rw [prCs, List.length_cons, List.length_cons, prCs_len K r, List.length_cons]; omega
theorem prCs_append (K : Nat → Value) : ∀ a b, prCs K (a ++ b) = prCs K a ++ prCs K b
  | [], b => rfl
  | p :: a, b => by rw [List.cons_append, prCs, prCs, prCs_append K a b]; rfl
theorem prCs_at (K : Nat → Value) : ∀ (l : List (Nat × Nat)) (k : Nat) (d : Nat × Nat), k < l.length → (prCs K l)[2 * k]? = some (nv32 (l.getD k d).1) ∧ (prCs K l)[2 * k + 1]? = some (K (l.getD k d).2)
  | [], k, _, h => by simp at h
  | p :: r, 0, d, _ => by simp [prCs]
  | p :: r, k + 1, d, h => by
    have ih := prCs_at K r k d (by simpa using h)
    have el : ∀ i, (prCs K (p :: r))[i + 2]? = (prCs K r)[i]? := fun i => by simp [prCs]
    rw [show 2 * (k + 1) + 1 = 2 * k + 1 + 2 by omega, show 2 * (k + 1) = 2 * k + 2 by omega, el, el]
    simpa using ih

/-- The slice (a, n, c) of two-cell elements reads as these. -/
def Sees2 (K : Nat → Value) (w : World) (a : Option Addr) (n c : Nat) (l : List (Nat × Nat)) : Prop := l.length = n ∧ n ≤ c ∧ Sees w a (2 * n) (2 * c) (prCs K l)
theorem Sees2.below {K : Nat → Value} {w w' : World} {a : Option Addr} {n c : Nat} {l : List (Nat × Nat)} (h : Sees2 K w a n c l) (hb : Below w.heap.size w w') : Sees2 K w' a n c l := ⟨h.1, h.2.1, h.2.2.below hb⟩
theorem Sees2.nil (K : Nat → Value) (w : World) : Sees2 K w none 0 0 [] := ⟨rfl, Nat.le_refl _, Sees.nil _ _ _ (fun _ => rfl)⟩
theorem Sees2.addr {K : Nat → Value} {w : World} {a : Option Addr} {n c : Nat} {l : List (Nat × Nat)} (h : Sees2 K w a n c l) (h0 : 0 < n) : ∃ b off, a = some ⟨b, off, .none⟩ ∧ b < w.heap.size := h.2.2.addr (by omega)
theorem Sees2.cells {K : Nat → Value} {w : World} {b off n c : Nat} {l : List (Nat × Nat)} (h : Sees2 K w (some ⟨b, off, .none⟩) n c l) (k : Nat) (hk : k < n) (d : Nat × Nat) :
    w.cell? ⟨b, off + k * 2, .none⟩ = some (nv32 (l.getD k d).1) ∧ w.cell? ⟨b, off + k * 2 + 1, .none⟩ = some (K (l.getD k d).2) := by
  have ht := prCs_at K l k d (by rw [h.1]; exact hk)
  rw [show off + k * 2 = off + 2 * k by omega, show off + 2 * k + 1 = off + (2 * k + 1) by omega]
  exact ⟨((h.2.2.cell (2 * k) (by omega)).2).trans ht.1, ((h.2.2.cell (2 * k + 1) (by omega)).2).trans ht.2⟩

/-- The value owns a row of two-cell elements. -/
def own2 (K : Nat → Value) (T : TypeId) (w : World) (base : Nat) (v : Value) (xs : List (Nat × Nat)) : Prop := w.ownsRow base T 2 v xs.length (prCs K xs)
theorem own2_nil (K : Nat → Value) (T : TypeId) (w : World) (base : Nat) : own2 K T w base (.slice none 0 0) [] := ⟨rfl, .inl ⟨rfl, rfl⟩⟩
theorem own2_form {K : Nat → Value} {T : TypeId} {w : World} {base : Nat} {v : Value} {xs : List (Nat × Nat)} (h : own2 K T w base v xs) : ∃ a c, v = .slice a xs.length c := ownsN_form h
theorem own2_sees {K : Nat → Value} {T : TypeId} {w : World} {base : Nat} {v : Value} {xs : List (Nat × Nat)} (h : own2 K T w base v xs) : ∃ a c, v = .slice a xs.length c ∧ Sees2 K w a xs.length c xs := by
  rcases h.2 with ⟨rfl, h0⟩ | ⟨g, cap, cur, rfl, _, hg, hnc, hm, hcs, ht⟩
  · have : xs = [] := List.eq_nil_of_length_eq_zero h0
    subst this
    exact ⟨none, 0, rfl, Sees2.nil K w⟩
  · refine ⟨_, cap, rfl, rfl, hnc, ⟨?_, by omega, (fun e => by cases e), fun _ => ⟨g, 0, rfl, heap_lt hg, fun j hj => ?_⟩⟩⟩
    · have := h.1; omega
    · rw [Nat.zero_add, cell_of_row w g j cur T (0, 0) hg, ← ht, List.getElem?_take_of_lt (by omega)]
      simp
theorem own2_below {K : Nat → Value} {T : TypeId} {w w' : World} {base : Nat} {v : Value} {xs : List (Nat × Nat)} (h : own2 K T w base v xs) (hb : Below w.heap.size w w') : own2 K T w' base v xs := ownsN_below h hb

/-- The five lists of a circuit, as slices: latches, gates, outputs, bads, constraints. -/
structure CSlots where
  a1 : Option Addr
  n1 : Nat
  c1 : Nat
  a2 : Option Addr
  n2 : Nat
  c2 : Nat
  a3 : Option Addr
  n3 : Nat
  c3 : Nat
  a4 : Option Addr
  n4 : Nat
  c4 : Nat
  a5 : Option Addr
  n5 : Nat
  c5 : Nat
/-- A circuit's value. -/
def cirV (ins : Int) (s : CSlots) : Value := .agg #[.int .i64 ins, .slice s.a1 s.n1 s.c1, .slice s.a2 s.n2 s.c2, .slice s.a3 s.n3 s.c3, .slice s.a4 s.n4 s.c4, .slice s.a5 s.n5 s.c5]
def zeroCir : Value := .agg #[.int .i64 0, .slice none 0 0, .slice none 0 0, .slice none 0 0, .slice none 0 0, .slice none 0 0]
/-- The slots read as c's lists. -/
structure SeesCir (w : World) (s : CSlots) (c : NormC) : Prop where
  s1 : Sees2 nv8 w s.a1 s.n1 s.c1 c.lats
  s2 : Sees2 nv32 w s.a2 s.n2 s.c2 c.gates
  s3 : Sees w s.a3 s.n3 s.c3 (c.outs.map nv32)
  s4 : Sees w s.a4 s.n4 s.c4 (c.bads.map nv32)
  s5 : Sees w s.a5 s.n5 s.c5 (c.cons.map nv32)
theorem SeesCir.below {w w' : World} {s : CSlots} {c : NormC} (h : SeesCir w s c) (hb : Below w.heap.size w w') : SeesCir w' s c :=
  ⟨h.s1.below hb, h.s2.below hb, h.s3.below hb, h.s4.below hb, h.s5.below hb⟩
/-- The slots own rows that read so. -/
structure OwnCir (w : World) (base : Nat) (s : CSlots) (c : NormC) : Prop where
  o1 : own2 nv8 63 w base (.slice s.a1 s.n1 s.c1) c.lats
  o2 : own2 nv32 65 w base (.slice s.a2 s.n2 s.c2) c.gates
  o3 : Row isU32 w base 31 (.slice s.a3 s.n3 s.c3) c.outs.length (c.outs.map nv32)
  o4 : Row isU32 w base 31 (.slice s.a4 s.n4 s.c4) c.bads.length (c.bads.map nv32)
  o5 : Row isU32 w base 31 (.slice s.a5 s.n5 s.c5) c.cons.length (c.cons.map nv32)
theorem row_sees_slice {ok : Value → Prop} {w : World} {base : Nat} {e : TypeId} {a : Option Addr} {n c m : Nat} {xs : List Value} (h : Row ok w base e (.slice a n c) m xs) : n = m ∧ Sees w a n c xs := by
  obtain ⟨a', c', e, _, hs⟩ := h.sees
  cases e
  exact ⟨rfl, hs⟩
theorem own2_sees_slice {K : Nat → Value} {T : TypeId} {w : World} {base : Nat} {a : Option Addr} {n c : Nat} {xs : List (Nat × Nat)} (h : own2 K T w base (.slice a n c) xs) : Sees2 K w a n c xs := by
  obtain ⟨a', c', e, hs⟩ := own2_sees h
  cases e
  exact hs
theorem OwnCir.sees {w : World} {base : Nat} {s : CSlots} {c : NormC} (h : OwnCir w base s c) : SeesCir w s c :=
  ⟨own2_sees_slice h.o1, own2_sees_slice h.o2, (row_sees_slice h.o3).2, (row_sees_slice h.o4).2, (row_sees_slice h.o5).2⟩
theorem OwnCir.below {w w' : World} {base : Nat} {s : CSlots} {c : NormC} (h : OwnCir w base s c) (hb : Below w.heap.size w w') : OwnCir w' base s c :=
  ⟨own2_below h.o1 hb, own2_below h.o2 hb, h.o3.below hb, h.o4.below hb, h.o5.below hb⟩

theorem info_latch : (Try.prog.info? 63).map (fun i => (i.zero, i.size, i.bytes)) = some (some (.agg #[.int .u32 0, .int .u8 0]), 2, 8) := by kernel_rfl
theorem info_cgate : (Try.prog.info? 65).map (fun i => (i.zero, i.size, i.bytes)) = some (some (.agg #[.int .u32 0, .int .u32 0]), 2, 8) := by kernel_rfl

theorem toF_len : ∀ (l : List Nat) (t : List Nat) (i : Nat), (toF t i l).length = t.length
  | [], _, _ => rfl
  | x :: r, t, i => by rw [toF, toF_len r]; simp
theorem toF_le : ∀ (l : List Nat) (t : List Nat) (i b : Nat), (∀ k, t.getD k 0 ≤ b) → 2 * (i + l.length) ≤ b → ∀ k, (toF t i l).getD k 0 ≤ b
  | [], _, _, _, h, _, k => h k
  | x :: r, t, i, b, h, hb, k => by
    rw [toF]
    refine toF_le r _ (i + 1) b (fun k => ?_) (by simp at hb; omega) k
    by_cases e : x / 2 = k
    · subst e
      by_cases hl : x / 2 < t.length
      · simp only [List.length_cons] at hb
        simp [List.getD, hl]; omega
      · simp [List.getD, hl]
    · have := h k
      simpa [List.getD, List.getElem?_set, e] using this

theorem cir_set {X : World} {g : Nat} {C : Array Value} {t : TypeId} (h : X.heap[g]? = some (.cells C t (0, 0))) (hC : C.size = 6) (u0 u1 u2 u3 u4 u5 : Value) :
    ((((((X.setCell ⟨g, 0, .none⟩ u0).setCell ⟨g, 1, .none⟩ u1).setCell ⟨g, 2, .none⟩ u2).setCell ⟨g, 3, .none⟩ u3).setCell ⟨g, 4, .none⟩ u4).setCell ⟨g, 5, .none⟩ u5).heap[g]? = some (.cells #[u0, u1, u2, u3, u4, u5] t (0, 0)) := by
  obtain ⟨l⟩ := C
  match l, hC with
  | [_, _, _, _, _, _], _ =>
    have h0 := block_setCell h (i := 0) u0
    have h1 := block_setCell h0 (i := 1) u1
    have h2 := block_setCell h1 (i := 2) u2
    have h3 := block_setCell h2 (i := 3) u3
    have h4 := block_setCell h3 (i := 4) u4
    have h5 := block_setCell h4 (i := 5) u5
    simpa using h5
theorem set6 {B : Nat} {w X : World} (g : Nat) (hg : B ≤ g) (h : Below B w X) {u0 u1 u2 u3 u4 u5 : Value} :
    Below B w ((((((X.setCell ⟨g, 0, .none⟩ u0).setCell ⟨g, 1, .none⟩ u1).setCell ⟨g, 2, .none⟩ u2).setCell ⟨g, 3, .none⟩ u3).setCell ⟨g, 4, .none⟩ u4).setCell ⟨g, 5, .none⟩ u5) :=
  (((((h.setCell hg _).setCell hg _).setCell hg _).setCell hg _).setCell hg _).setCell hg _
theorem set6_other {X : World} (g D : Nat) (hD : D ≠ g) (u0 u1 u2 u3 u4 u5 : Value) :
    ((((((X.setCell ⟨g, 0, .none⟩ u0).setCell ⟨g, 1, .none⟩ u1).setCell ⟨g, 2, .none⟩ u2).setCell ⟨g, 3, .none⟩ u3).setCell ⟨g, 4, .none⟩ u4).setCell ⟨g, 5, .none⟩ u5).heap[D]? = X.heap[D]? := by
  rw [Below.heap_setCell _ ⟨g, 5, .none⟩ _ D hD, Below.heap_setCell _ ⟨g, 4, .none⟩ _ D hD, Below.heap_setCell _ ⟨g, 3, .none⟩ _ D hD, Below.heap_setCell _ ⟨g, 2, .none⟩ _ D hD, Below.heap_setCell _ ⟨g, 1, .none⟩ _ D hD, Below.heap_setCell _ ⟨g, 0, .none⟩ _ D hD]
end Go.Proofs.Ytcoehbkjccfhlaa
/- Traces as values: a list of values, and lists of lists of values. -/
namespace Go.Proofs.Ytcoehbkjccfhlaa
open Go Go.RowKit Go.Joins

/-- A circuit's slots are of a size that can be. -/
structure CSlots.small (s : CSlots) : Prop where
  n1 : s.n1 ≤ 1048576
  n2 : s.n2 ≤ 1048576
  n3 : s.n3 ≤ 1048576
  n4 : s.n4 ≤ 1048576
  n5 : s.n5 ≤ 1048576

/-- A trace. -/
structure TraceC where
  bad : Int
  init : List UInt8
  frames : List (List UInt8)
deriving DecidableEq

/-- A slice's parts. -/
abbrev Slc := Option Addr × Nat × Nat
def slV (s : Slc) : Value := .slice s.1 s.2.1 s.2.2
def slc0 : Slc := (none, 0, 0)
/-- The slice (a, n, c) of slices reads as these lists. -/
structure SeesF (w : World) (a : Option Addr) (n c : Nat) (ss : List Slc) (fs : List (List UInt8)) : Prop where
  row : Sees w a n c (ss.map slV)
  len : ss.length = fs.length
  each : ∀ k, k < fs.length → Sees w (ss.getD k slc0).1 (ss.getD k slc0).2.1 (ss.getD k slc0).2.2 ((fs.getD k []).map bv)
theorem SeesF.below {w w' : World} {a : Option Addr} {n c : Nat} {ss : List Slc} {fs : List (List UInt8)} (h : SeesF w a n c ss fs) (hb : Below w.heap.size w w') : SeesF w' a n c ss fs :=
  ⟨h.row.below hb, h.len, fun k hk => (h.each k hk).below hb⟩
theorem SeesF.n_eq {w : World} {a : Option Addr} {n c : Nat} {ss : List Slc} {fs : List (List UInt8)} (h : SeesF w a n c ss fs) : fs.length = n := h.len.symm.trans h.row.lenMap
theorem SeesF.cellAt {w : World} {b off n c : Nat} {ss : List Slc} {fs : List (List UInt8)} (h : SeesF w (some ⟨b, off, .none⟩) n c ss fs) (j : Nat) (hj : j < n) :
    w.cell? ⟨b, off + j, .none⟩ = some (.slice (ss.getD j slc0).1 (ss.getD j slc0).2.1 (ss.getD j slc0).2.2) := by
  have hl : ss.length = n := h.row.lenMap
  rw [(h.row.cell j hj).2]
  simp [slV, List.getD, List.getElem?_eq_getElem (show j < ss.length by omega)]

/-- A trace's slots. -/
structure TSlots where
  a1 : Option Addr
  n1 : Nat
  c1 : Nat
  a2 : Option Addr
  n2 : Nat
  c2 : Nat
  ss : List Slc
def traceV (bad : Int) (s : TSlots) : Value := .agg #[.int .i64 bad, .slice s.a1 s.n1 s.c1, .slice s.a2 s.n2 s.c2]
structure SeesTr (w : World) (s : TSlots) (t : TraceC) : Prop where
  s1 : Sees w s.a1 s.n1 s.c1 (t.init.map bv)
  s2 : SeesF w s.a2 s.n2 s.c2 s.ss t.frames
theorem SeesTr.below {w w' : World} {s : TSlots} {t : TraceC} (h : SeesTr w s t) (hb : Below w.heap.size w w') : SeesTr w' s t := ⟨h.s1.below hb, h.s2.below hb⟩
/-- The slots' sizes can be. -/
structure TSlots.small (s : TSlots) : Prop where
  n1 : s.n1 ≤ 1048576
  n2 : s.n2 ≤ 1048576
  each : ∀ x ∈ s.ss, x.2.1 ≤ 1048576
end Go.Proofs.Ytcoehbkjccfhlaa
/- container/heap at package norm's queue, by contracts. -/
namespace Go.Proofs.Ytcoehbkjccfhlaa
open Go Go.RowKit Go.Joins

/-- What a call on the queue keeps. -/
structure QKeep (q : Nat) (w w' : World) : Prop where
  low : Below q w w'
  oth : ∀ D C t fr, w.heap[D]? = some (.cells C t fr) → D ≠ q → t ≠ 3 → w'.heap[D]? = some (.cells C t fr)
theorem QKeep.refl (q : Nat) (w : World) : QKeep q w w := ⟨Below.refl _ _, fun _ _ _ _ h _ _ => h⟩
theorem QKeep.trans {q : Nat} {a b c : World} (h : QKeep q a b) (k : QKeep q b c) : QKeep q a c := ⟨h.low.trans k.low, fun D C t fr hD h1 h2 => k.oth D C t fr (h.oth D C t fr hD h1 h2) h1 h2⟩
section
variable (n q : Nat) (w : World)
variable (v : Value) (h : w.cell? ⟨q, 0, .none⟩ = some v)
include h
theorem load_k {α : Type} (k : Value → Sem α) : (Sem.load .plain ⟨q, 0, .none⟩ k).run Try.prog w = (k v).run Try.prog w := by
  simp only [Sem.run, h]
end

theorem QKeep.drewN (q : Nat) (w : World) (n : Nat) (hq : q < w.heap.size) : QKeep q w (w.drewN n) := ⟨(ext_drewN w n).mono (Nat.le_of_lt hq), fun _ _ _ _ hD _ _ => hD⟩
/-- A number's cell, in a row. -/
theorem Sees.int {w : World} {b off n c : Nat} {xs : List Nat} (h : Sees w (some ⟨b, off, .none⟩) n c (xs.map iv)) (j : Nat) (hj : j < n) : w.cell? ⟨b, off + j, .none⟩ = some (.int .i64 (xs.getD j 0 : Nat)) := by
  have hl : xs.length = n := by have := h.len; simpa using this
  rw [(h.cell j hj).2]
  simp [iv, List.getD, List.getElem?_eq_getElem (show j < xs.length by omega)]

theorem Row.set {ok : Value → Prop} {w : World} {base : Nat} {e : TypeId} {g n cap : Nat} {xs : List Value} (h : Row ok w base e (.slice (some ⟨g, 0, .none⟩) n cap) n xs) (i : Nat) (u : Value) (hu : ok u) :
    Row ok (w.setCell ⟨g, i, .none⟩ u) base e (.slice (some ⟨g, 0, .none⟩) n cap) n (xs.set i u) := by
  refine ⟨by simpa using h.1, ?_⟩
  rcases h.2 with ⟨h1, _⟩ | ⟨g', cap', cur, he, hb, hg, hn, hm, hs, ht, ha⟩
  · cases h1
  · cases he
    refine .inr ⟨g, cap, _, rfl, hb, block_setCell hg (i := i) u, hn, hm, by simpa using hs, ?_, ?_⟩
    · rw [Array.toList_setIfInBounds, List.take_set, ht]
    · intro x hx
      rw [Array.toList_setIfInBounds] at hx
      rcases List.mem_or_eq_of_mem_set hx with hx | hx
      · exact ha x hx
      · rw [hx]; exact hu
theorem Row.unfrozen {ok : Value → Prop} {w : World} {base : Nat} {e : TypeId} {g n cap : Nat} {xs : List Value} (h : Row ok w base e (.slice (some ⟨g, 0, .none⟩) n cap) n xs) (k : Nat) : w.frozen? ⟨g, k, .none⟩ = false := by
  rcases h.2 with ⟨h1, _⟩ | ⟨g', cap', cur, he, hb, hg, _⟩
  · cases h1
  · cases he; exact unfrozen_of_block hg k
theorem Row.block {ok : Value → Prop} {w : World} {base : Nat} {e : TypeId} {g n cap : Nat} {xs : List Value} (h : Row ok w base e (.slice (some ⟨g, 0, .none⟩) n cap) n xs) : base ≤ g ∧ ∃ cur, w.heap[g]? = some (.cells cur e (0, 0)) := by
  rcases h.2 with ⟨h1, _⟩ | ⟨g', cap', cur, he, hb, hg, _⟩
  · cases h1
  · cases he; exact ⟨hb, cur, hg⟩
theorem Row.addr {ok : Value → Prop} {w : World} {base : Nat} {e : TypeId} {v : Value} {n : Nat} {xs : List Value} (h : Row ok w base e v n xs) (h0 : 0 < n) : ∃ g cap, v = .slice (some ⟨g, 0, .none⟩) n cap ∧ n ≤ cap := by
  rcases h.2 with ⟨_, h1⟩ | ⟨g', cap', cur, he, hb, hg, hn, _⟩
  · omega
  · exact ⟨g', cap', he, hn⟩

theorem iv_get (l : List Nat) (i : Nat) (x : Nat) : (l.map iv).set i (iv x) = (l.set i x).map iv := by rw [List.map_set]

end Go.Proofs.Ytcoehbkjccfhlaa
namespace Go.Proofs.Ytcoehbkjccfhlaa
open Go Go.RowKit Go.Joins


/-- The value of a raw circuit's box. -/
def rawCells (m : Nat) (s : Slots) : Array Value := #[.int .u32 m, .slice s.a1 s.n1 s.c1, .slice s.a2 s.n2 s.c2, .slice s.a3 s.n3 s.c3, .slice s.a4 s.n4 s.c4, .slice s.a5 s.n5 s.c5, .slice s.a6 s.n6 s.c6]
/-- The lists' lengths, as of a valid raw circuit. -/
structure Slots.small (s : Slots) : Prop where
  n1 : s.n1 ≤ 1048576
  n2 : s.n2 ≤ 1048576
  n3 : s.n3 ≤ 1048576
  n4 : s.n4 ≤ 1048576
  n5 : s.n5 ≤ 1048576
  n6 : s.n6 ≤ 1048576

theorem map_take_snoc {α : Type} (f : Tri → α) (l : List Tri) (k : Nat) (h : k < l.length) : (l.take (k + 1)).map f = (l.take k).map f ++ [f (l.getD k (0, 0, 0))] := by
  rw [List.take_succ_eq_append_getElem h, List.map_append]
  congr 1
  simp [List.getD, List.getElem?_eq_getElem h]

end Go.Proofs.Ytcoehbkjccfhlaa
