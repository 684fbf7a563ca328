/- A circuit as a value: its lists are slices that read as its numbers; two-cell elements. -/
import Derived.Test.YtionibckeicncaaLib
import Derived.Test.YtionibckeicncaaOwn
import Derived.Test.YtionibckeicncaaNBase
import Derived.Test.YtionibckeicncaaNOwnsN
import Derived.Test.YtionibckeicncaaNSpec
import Derived.Test.YtionibckeicncaaRows
import Derived.BigQuiet
import Derived.Deep.AppendLies
import Derived.Deep.QuietTactic
import Derived.Deep.RegionLaw
import Derived.Deep.RegionWith
import Derived.KernelRfl
import Derived.Laws.EntriesVeiled
import Derived.Lib.ConvBytes
import Derived.Lib.Hide
import Derived.Lib.SlBytesRow
import Derived.Lib.SmallJoins
import Derived.Shelf.Bytes.SlSmallAll
import Derived.WalkKit
import Derived.WalkLawsBesides
import Derived.WalkSpells
namespace Go.Proofs.Ytionibckeicncaa
open Go Go.RowKit Go.Joins

def nv8 (n : Nat) : Value := .int .u8 (n : Int)
/-- The cells of pairs. -/
def prCs (K : Nat → Value) : List (Nat × Nat) → List Value
  | [] => []
  | p :: r => nv32 p.1 :: K p.2 :: prCs K r
theorem prCs_len (K : Nat → Value) : ∀ l, (prCs K l).length = 2 * l.length
  | [] => rfl
  | p :: r => by rw [prCs, List.length_cons, List.length_cons, prCs_len K r, List.length_cons]; omega
theorem prCs_append (K : Nat → Value) : ∀ a b, prCs K (a ++ b) = prCs K a ++ prCs K b
  | [], b => rfl
  | p :: a, b => by rw [List.cons_append, prCs, prCs, prCs_append K a b]; rfl
theorem prCs_at (K : Nat → Value) : ∀ (l : List (Nat × Nat)) (k : Nat) (d : Nat × Nat), k < l.length → (prCs K l)[2 * k]? = some (nv32 (l.getD k d).1) ∧ (prCs K l)[2 * k + 1]? = some (K (l.getD k d).2)
  | [], k, _, h => by simp at h
  | p :: r, 0, d, _ => by simp [prCs]
  | p :: r, k + 1, d, h => by
    have ih := prCs_at K r k d (by simpa using h)
    have el : ∀ i, (prCs K (p :: r))[i + 2]? = (prCs K r)[i]? := fun i => by simp [prCs]
    rw [show 2 * (k + 1) + 1 = 2 * k + 1 + 2 by omega, show 2 * (k + 1) = 2 * k + 2 by omega, el, el]
    simpa using ih

/-- The slice (a, n, c) of two-cell elements reads as these. -/
def Sees2 (K : Nat → Value) (w : World) (a : Option Addr) (n c : Nat) (l : List (Nat × Nat)) : Prop := l.length = n ∧ n ≤ c ∧ Sees w a (2 * n) (2 * c) (prCs K l)
theorem Sees2.below {K : Nat → Value} {w w' : World} {a : Option Addr} {n c : Nat} {l : List (Nat × Nat)} (h : Sees2 K w a n c l) (hb : Below w.heap.size w w') : Sees2 K w' a n c l := ⟨h.1, h.2.1, h.2.2.below hb⟩
theorem Sees2.nil (K : Nat → Value) (w : World) : Sees2 K w none 0 0 [] := ⟨rfl, Nat.le_refl _, Sees.nil _ _ _ (fun _ => rfl)⟩
theorem Sees2.addr {K : Nat → Value} {w : World} {a : Option Addr} {n c : Nat} {l : List (Nat × Nat)} (h : Sees2 K w a n c l) (h0 : 0 < n) : ∃ b off, a = some ⟨b, off, .none⟩ ∧ b < w.heap.size := h.2.2.addr (by omega)
theorem Sees2.cells {K : Nat → Value} {w : World} {b off n c : Nat} {l : List (Nat × Nat)} (h : Sees2 K w (some ⟨b, off, .none⟩) n c l) (k : Nat) (hk : k < n) (d : Nat × Nat) :
    w.cell? ⟨b, off + k * 2, .none⟩ = some (nv32 (l.getD k d).1) ∧ w.cell? ⟨b, off + k * 2 + 1, .none⟩ = some (K (l.getD k d).2) := by
  have ht := prCs_at K l k d (by rw [h.1]; exact hk)
  rw [show off + k * 2 = off + 2 * k by omega, show off + 2 * k + 1 = off + (2 * k + 1) by omega]
  exact ⟨((h.2.2.cell (2 * k) (by omega)).2).trans ht.1, ((h.2.2.cell (2 * k + 1) (by omega)).2).trans ht.2⟩

/-- The value owns a row of two-cell elements. -/
def own2 (K : Nat → Value) (T : TypeId) (w : World) (base : Nat) (v : Value) (xs : List (Nat × Nat)) : Prop := w.ownsRow base T 2 v xs.length (prCs K xs)
theorem own2_nil (K : Nat → Value) (T : TypeId) (w : World) (base : Nat) : own2 K T w base (.slice none 0 0) [] := ⟨rfl, .inl ⟨rfl, rfl⟩⟩
theorem own2_form {K : Nat → Value} {T : TypeId} {w : World} {base : Nat} {v : Value} {xs : List (Nat × Nat)} (h : own2 K T w base v xs) : ∃ a c, v = .slice a xs.length c := ownsN_form h
theorem own2_sees {K : Nat → Value} {T : TypeId} {w : World} {base : Nat} {v : Value} {xs : List (Nat × Nat)} (h : own2 K T w base v xs) : ∃ a c, v = .slice a xs.length c ∧ Sees2 K w a xs.length c xs := by
  rcases h.2 with ⟨rfl, h0⟩ | ⟨g, cap, cur, rfl, _, hg, hnc, hm, hcs, ht⟩
  · have : xs = [] := List.eq_nil_of_length_eq_zero h0
    subst this
    exact ⟨none, 0, rfl, Sees2.nil K w⟩
  · refine ⟨_, cap, rfl, rfl, hnc, ⟨?_, by omega, (fun e => by cases e), fun _ => ⟨g, 0, rfl, heap_lt hg, fun j hj => ?_⟩⟩⟩
    · have := h.1; omega
    · rw [Nat.zero_add, cell_of_row w g j cur T (0, 0) hg, ← ht, List.getElem?_take_of_lt (by omega)]
      simp
theorem own2_below {K : Nat → Value} {T : TypeId} {w w' : World} {base : Nat} {v : Value} {xs : List (Nat × Nat)} (h : own2 K T w base v xs) (hb : Below w.heap.size w w') : own2 K T w' base v xs := ownsN_below h hb

/-- The five lists of a circuit, as slices: latches, gates, outputs, bads, constraints. -/
structure CSlots where
  a1 : Option Addr
  n1 : Nat
  c1 : Nat
  a2 : Option Addr
  n2 : Nat
  c2 : Nat
  a3 : Option Addr
  n3 : Nat
  c3 : Nat
  a4 : Option Addr
  n4 : Nat
  c4 : Nat
  a5 : Option Addr
  n5 : Nat
  c5 : Nat
/-- A circuit's value. -/
def cirV (ins : Int) (s : CSlots) : Value := .agg #[.int .i64 ins, .slice s.a1 s.n1 s.c1, .slice s.a2 s.n2 s.c2, .slice s.a3 s.n3 s.c3, .slice s.a4 s.n4 s.c4, .slice s.a5 s.n5 s.c5]
def zeroCir : Value := .agg #[.int .i64 0, .slice none 0 0, .slice none 0 0, .slice none 0 0, .slice none 0 0, .slice none 0 0]
/-- The slots read as c's lists. -/
structure SeesCir (w : World) (s : CSlots) (c : NormC) : Prop where
  s1 : Sees2 nv8 w s.a1 s.n1 s.c1 c.lats
  s2 : Sees2 nv32 w s.a2 s.n2 s.c2 c.gates
  s3 : Sees w s.a3 s.n3 s.c3 (c.outs.map nv32)
  s4 : Sees w s.a4 s.n4 s.c4 (c.bads.map nv32)
  s5 : Sees w s.a5 s.n5 s.c5 (c.cons.map nv32)
theorem SeesCir.below {w w' : World} {s : CSlots} {c : NormC} (h : SeesCir w s c) (hb : Below w.heap.size w w') : SeesCir w' s c :=
  ⟨h.s1.below hb, h.s2.below hb, h.s3.below hb, h.s4.below hb, h.s5.below hb⟩
theorem row_sees_slice {ok : Value → Prop} {w : World} {base : Nat} {e : TypeId} {a : Option Addr} {n c m : Nat} {xs : List Value} (h : Row ok w base e (.slice a n c) m xs) : n = m ∧ Sees w a n c xs := by
  obtain ⟨a', c', e, _, hs⟩ := h.sees
  cases e
  exact ⟨rfl, hs⟩
theorem own2_sees_slice {K : Nat → Value} {T : TypeId} {w : World} {base : Nat} {a : Option Addr} {n c : Nat} {xs : List (Nat × Nat)} (h : own2 K T w base (.slice a n c) xs) : Sees2 K w a n c xs := by
  obtain ⟨a', c', e, hs⟩ := own2_sees h
  cases e
  exact hs
theorem toF_len : ∀ (l : List Nat) (t : List Nat) (i : Nat), (toF t i l).length = t.length
  | [], _, _ => rfl
  | x :: r, t, i => by rw [toF, toF_len r]; simp
theorem toF_le : ∀ (l : List Nat) (t : List Nat) (i b : Nat), (∀ k, t.getD k 0 ≤ b) → 2 * (i + l.length) ≤ b → ∀ k, (toF t i l).getD k 0 ≤ b
  | [], _, _, _, h, _, k => h k
  | x :: r, t, i, b, h, hb, k => by
    rw [toF]
    refine toF_le r _ (i + 1) b (fun k => ?_) (by simp at hb; omega) k
    by_cases e : x / 2 = k
    · subst e
      by_cases hl : x / 2 < t.length
      · simp only [List.length_cons] at hb
        simp [List.getD, hl]; omega
      · simp [List.getD, hl]
    · have := h k
      simpa [List.getD, List.getElem?_set, e] using this

theorem cir_set {X : World} {g : Nat} {C : Array Value} {t : TypeId} (h : X.heap[g]? = some (.cells C t (0, 0))) (hC : C.size = 6) (u0 u1 u2 u3 u4 u5 : Value) :
    ((((((X.setCell ⟨g, 0, .none⟩ u0).setCell ⟨g, 1, .none⟩ u1).setCell ⟨g, 2, .none⟩ u2).setCell ⟨g, 3, .none⟩ u3).setCell ⟨g, 4, .none⟩ u4).setCell ⟨g, 5, .none⟩ u5).heap[g]? = some (.cells #[u0, u1, u2, u3, u4, u5] t (0, 0)) := by
  obtain ⟨l⟩ := C
  match l, hC with
  | [_, _, _, _, _, _], _ =>
    have h0 := block_setCell h (i := 0) u0
    have h1 := block_setCell h0 (i := 1) u1
    have h2 := block_setCell h1 (i := 2) u2
    have h3 := block_setCell h2 (i := 3) u3
    have h4 := block_setCell h3 (i := 4) u4
    have h5 := block_setCell h4 (i := 5) u5
    simpa using h5
theorem set6 {B : Nat} {w X : World} (g : Nat) (hg : B ≤ g) (h : Below B w X) {u0 u1 u2 u3 u4 u5 : Value} :
    Below B w ((((((X.setCell ⟨g, 0, .none⟩ u0).setCell ⟨g, 1, .none⟩ u1).setCell ⟨g, 2, .none⟩ u2).setCell ⟨g, 3, .none⟩ u3).setCell ⟨g, 4, .none⟩ u4).setCell ⟨g, 5, .none⟩ u5) :=
  (((((h.setCell hg _).setCell hg _).setCell hg _).setCell hg _).setCell hg _).setCell hg _
theorem set6_other {X : World} (g D : Nat) (hD : D ≠ g) (u0 u1 u2 u3 u4 u5 : Value) :
    ((((((X.setCell ⟨g, 0, .none⟩ u0).setCell ⟨g, 1, .none⟩ u1).setCell ⟨g, 2, .none⟩ u2).setCell ⟨g, 3, .none⟩ u3).setCell ⟨g, 4, .none⟩ u4).setCell ⟨g, 5, .none⟩ u5).heap[D]? = X.heap[D]? := by
  rw [Below.heap_setCell _ ⟨g, 5, .none⟩ _ D hD, Below.heap_setCell _ ⟨g, 4, .none⟩ _ D hD, Below.heap_setCell _ ⟨g, 3, .none⟩ _ D hD, Below.heap_setCell _ ⟨g, 2, .none⟩ _ D hD, Below.heap_setCell _ ⟨g, 1, .none⟩ _ D hD, Below.heap_setCell _ ⟨g, 0, .none⟩ _ D hD]
end Go.Proofs.Ytionibckeicncaa
