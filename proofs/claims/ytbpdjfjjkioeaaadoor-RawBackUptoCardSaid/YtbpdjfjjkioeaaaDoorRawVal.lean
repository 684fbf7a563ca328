/- A raw circuit as a value: its lists are slices that read as its numbers. -/
import Derived.Test.YtbpdjfjjkioeaaaDoorRawSpec
namespace Go.Proofs.YtbpdjfjjkioeaaaDoor
open Go Go.RowKit

theorem ext_trans {a b c : World} (h : Below a.heap.size a b) (k : Below b.heap.size b c) : Below a.heap.size a c := h.trans (k.mono h.size)
theorem ext_alloc (w : World) (o : Obj) : Below w.heap.size w (w.alloc o) := (Below.refl _ _).alloc (Nat.le_refl _) _
theorem ext_drewN (w : World) (q : Nat) : Below w.heap.size w (w.drewN q) := ⟨rfl, rfl, rfl, Nat.le_refl _, fun _ _ => rfl⟩
theorem ext_behind {w w' : World} {o : Obj} (k : Below (w.alloc o).heap.size (w.alloc o) w') : Below w.heap.size w w' := ext_trans (ext_alloc w o) k

/-- A literal's row. -/
theorem sees_lit (w : World) (e : TypeId) (fr : Nat × Nat) (C : Array Value) (xs : List Value) (n : Nat) (hC : C = xs.toArray) (hn : xs.length = n) : Sees (w.alloc (.cells C e fr)) (some ⟨w.heap.size, 0, none⟩) n n xs := by
  subst hC
  refine ⟨hn, Nat.le_refl _, (fun e => by cases e), fun _ => ⟨w.heap.size, 0, rfl, by simp, fun j hj => ?_⟩⟩
  rw [World.cell?_alloc_mark]
  simp

/-- The cells of three numbers. -/
def triC (t : Tri) : List Value := [nv32 t.1, nv32 t.2.1, nv32 t.2.2]
def triCs : List Tri → List Value
  | [] => []
  | t :: r => triC t ++ triCs r
theorem triCs_len : ∀ l : List Tri, (triCs l).length = 3 * l.length
  | [] => rfl
  | t :: r => by rw [triCs, List.length_append, triCs_len r]; simp [triC]; omega
theorem triCs_append : ∀ a b : List Tri, triCs (a ++ b) = triCs a ++ triCs b
  | [], b => rfl
  | t :: a, b => by rw [List.cons_append, triCs, triCs, triCs_append a b, List.append_assoc]

/-- The slice (a, n, c) of three-cell elements reads as these. -/
def Sees3 (w : World) (a : Option Addr) (n c : Nat) (l : List Tri) : Prop := l.length = n ∧ n ≤ c ∧ Sees w a (3 * n) (3 * c) (triCs l)
theorem Sees3.below {w w' : World} {a : Option Addr} {n c : Nat} {l : List Tri} (h : Sees3 w a n c l) (hb : Below w.heap.size w w') : Sees3 w' a n c l := ⟨h.1, h.2.1, h.2.2.below hb⟩
theorem Sees3.nil (w : World) : Sees3 w none 0 0 [] := ⟨rfl, Nat.le_refl _, Sees.nil _ _ _ (fun _ => rfl)⟩
theorem Sees3.addr {w : World} {a : Option Addr} {n c : Nat} {l : List Tri} (h : Sees3 w a n c l) (h0 : 0 < n) : ∃ b off, a = some ⟨b, off, .none⟩ ∧ b < w.heap.size := h.2.2.addr (by omega)

theorem triCs_at : ∀ (l : List Tri) (k : Nat) (d : Tri), k < l.length → (triCs l)[3 * k]? = some (nv32 (l.getD k d).1) ∧ (triCs l)[3 * k + 1]? = some (nv32 (l.getD k d).2.1) ∧ (triCs l)[3 * k + 2]? = some (nv32 (l.getD k d).2.2)
  | [], k, _, h => by simp at h
  | t :: r, 0, d, _ => by simp [triCs, triC]
  | t :: r, k + 1, d, h => by
    have ih := triCs_at r k d (by simpa using h)
    have e1 : 3 * (k + 1) = 3 * k + 3 := by omega
    have e2 : 3 * (k + 1) + 1 = 3 * k + 1 + 3 := by omega
    have e3 : 3 * (k + 1) + 2 = 3 * k + 2 + 3 := by omega
    have el : ∀ i, (triCs (t :: r))[i + 3]? = (triCs r)[i]? := fun i => by
      rw [triCs, List.getElem?_append_right (by simp [triC])]; simp [triC]
    rw [e2, e3, e1, el, el, el]
    simpa using ih

theorem Sees3.cells {w : World} {b off n c : Nat} {l : List Tri} (h : Sees3 w (some ⟨b, off, .none⟩) n c l) (k : Nat) (hk : k < n) (d : Tri) :
    w.cell? ⟨b, off + k * 3, .none⟩ = some (nv32 (l.getD k d).1) ∧ w.cell? ⟨b, off + k * 3 + 1, .none⟩ = some (nv32 (l.getD k d).2.1) ∧ w.cell? ⟨b, off + k * 3 + 2, .none⟩ = some (nv32 (l.getD k d).2.2) := by
  have ht := triCs_at l k d (by rw [h.1]; exact hk)
  have e1 : off + k * 3 = off + 3 * k := by omega
  have e2 : off + k * 3 + 1 = off + (3 * k + 1) := by omega
  have e3 : off + k * 3 + 2 = off + (3 * k + 2) := by omega
  rw [e2, e3, e1]
  exact ⟨((h.2.2.cell (3 * k) (by omega)).2).trans ht.1, ((h.2.2.cell (3 * k + 1) (by omega)).2).trans ht.2.1, ((h.2.2.cell (3 * k + 2) (by omega)).2).trans ht.2.2⟩

/-- The six lists of a raw circuit, as slices. -/
structure Slots where
  a1 : Option Addr
  n1 : Nat
  c1 : Nat
  a2 : Option Addr
  n2 : Nat
  c2 : Nat
  a3 : Option Addr
  n3 : Nat
  c3 : Nat
  a4 : Option Addr
  n4 : Nat
  c4 : Nat
  a5 : Option Addr
  n5 : Nat
  c5 : Nat
  a6 : Option Addr
  n6 : Nat
  c6 : Nat

/-- The slots read as r's lists. -/
structure SeesRaw (w : World) (s : Slots) (r : RawC) : Prop where
  s1 : Sees w s.a1 s.n1 s.c1 (r.ins.map nv32)
  s2 : Sees3 w s.a2 s.n2 s.c2 r.lats
  s3 : Sees w s.a3 s.n3 s.c3 (r.outs.map nv32)
  s4 : Sees w s.a4 s.n4 s.c4 (r.bads.map nv32)
  s5 : Sees w s.a5 s.n5 s.c5 (r.cons.map nv32)
  s6 : Sees3 w s.a6 s.n6 s.c6 r.gates
theorem SeesRaw.below {w w' : World} {s : Slots} {r : RawC} (h : SeesRaw w s r) (hb : Below w.heap.size w w') : SeesRaw w' s r :=
  ⟨h.s1.below hb, h.s2.below hb, h.s3.below hb, h.s4.below hb, h.s5.below hb, h.s6.below hb⟩

/-- A list's length. -/
theorem Sees.lenMap {α : Type} {f : α → Value} {w : World} {a : Option Addr} {n c : Nat} {xs : List α} (h : Sees w a n c (xs.map f)) : xs.length = n := by have := h.len; simpa using this
end Go.Proofs.YtbpdjfjjkioeaaaDoor
