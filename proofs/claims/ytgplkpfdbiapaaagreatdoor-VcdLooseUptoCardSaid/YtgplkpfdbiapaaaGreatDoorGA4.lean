/- norm.CopyTrace, by its contract. -/
import Derived.Test.YtgplkpfdbiapaaaGreatDoorLib
import Derived.Test.YtgplkpfdbiapaaaGreatDoorOwn
import Derived.Test.YtgplkpfdbiapaaaGreatDoorNBase
import Derived.Test.YtgplkpfdbiapaaaGreatDoorNHeap
import Derived.Test.YtgplkpfdbiapaaaGreatDoorRows
import Derived.BigQuiet
import Derived.Deep.AppendLies
import Derived.Deep.QuietTactic
import Derived.Deep.RegionLaw
import Derived.Deep.RegionWith
import Derived.KernelRfl
import Derived.Laws.EntriesVeiled
import Derived.Lib.ConvBytes
import Derived.Lib.Hide
import Derived.Lib.SlBytesRow
import Derived.Lib.SmallJoins
import Derived.Shelf.Bytes.SlSmallAll
import Derived.WalkKit
import Derived.WalkLawsBesides
import Derived.WalkSpells
import Derived.Maps.AppendAt
import Derived.Test.YtgplkpfdbiapaaaGreatDoorGA1
import Derived.Test.YtgplkpfdbiapaaaGreatDoorGA3
import Derived.Deep.RegionHeld3
import Derived.Laws.Tables
import Derived.Lib.AppendStr
/- The queue's own Push and Pop, and the library's. -/
namespace Go.Proofs.YtgplkpfdbiapaaaGreatDoor
open Go Go.RowKit Go.Joins

theorem info_int : (Tryz.prog.info? 3).map (fun i => (i.zero, i.size, i.bytes)) = some (some (.int .i64 0), 1, 8) := by kernel_rfl
theorem size_int : ∀ w, (sizeOf 3).run Tryz.prog w = .ok 1 w := fun w => by
  obtain ⟨i0, hi, hz0, hz1, hz2⟩ := info_parts info_int
  simp [sizeOf, typeInfo, hi, hz1]
theorem sees_new1 (w : World) (e : TypeId) (u : Value) : Sees (w.alloc (.cells #[u] e)) (some ⟨w.heap.size, 0, none⟩) 1 1 [u] := sees_lit w e (0, 0) #[u] [u] 1 rfl rfl

theorem Row.take {ok : Value → Prop} {w : World} {base : Nat} {e : TypeId} {g n cap : Nat} {xs : List Value} (h : Row ok w base e (.slice (some ⟨g, 0, .none⟩) n cap) n xs) (m : Nat) (hm : m ≤ n) :
    Row ok w base e (.slice (some ⟨g, 0, .none⟩) m cap) m (xs.take m) := by
  have hl := h.1
  refine ⟨by simp; omega, ?_⟩
  rcases h.2 with ⟨h1, _⟩ | ⟨g', cap', cur, he, hb, hg, hn, hc, hs, ht, ha⟩
  · cases h1
  · cases he
    exact .inr ⟨g, cap, cur, rfl, hb, hg, by omega, hc, hs, by rw [← ht, List.take_take, Nat.min_eq_left hm], ha⟩
theorem sliced_upto (g m c : Nat) : sliced (some ⟨g, 0, .none⟩) 0 m c 1 = .slice (some ⟨g, 0, .none⟩) m c := by
  simp [sliced, Addr.add]

end Go.Proofs.YtgplkpfdbiapaaaGreatDoor
/- slices.Clone of numbers, and norm.owns, by their contracts. -/
namespace Go.Proofs.YtgplkpfdbiapaaaGreatDoor
open Go Go.RowKit Go.Joins


/-- The value of a raw circuit's box. -/
def rawCells (m : Nat) (s : Slots) : Array Value := #[.int .u32 m, .slice s.a1 s.n1 s.c1, .slice s.a2 s.n2 s.c2, .slice s.a3 s.n3 s.c3, .slice s.a4 s.n4 s.c4, .slice s.a5 s.n5 s.c5, .slice s.a6 s.n6 s.c6]
/-- The lists' lengths, as of a valid raw circuit. -/
structure Slots.small (s : Slots) : Prop where
  n1 : s.n1 ≤ 1048576
  n2 : s.n2 ≤ 1048576
  n3 : s.n3 ≤ 1048576
  n4 : s.n4 ≤ 1048576
  n5 : s.n5 ≤ 1048576
  n6 : s.n6 ≤ 1048576

theorem map_take_snoc {α : Type} (f : Tri → α) (l : List Tri) (k : Nat) (h : k < l.length) : (l.take (k + 1)).map f = (l.take k).map f ++ [f (l.getD k (0, 0, 0))] := by
  rw [List.take_succ_eq_append_getElem h, List.map_append]
  congr 1
  simp [List.getD, List.getElem?_eq_getElem h]

end Go.Proofs.YtgplkpfdbiapaaaGreatDoor
/- The numbers of a circuit's lists are of 32 bits. -/
namespace Go.Proofs.YtgplkpfdbiapaaaGreatDoor
open Go Go.RowKit Go.Joins
/-- The numbers of a circuit's lists are of 32 bits, resets of 8. -/
structure Wide (c : NormC) : Prop where
  lats : ∀ p ∈ c.lats, p.1 < 4294967296 ∧ p.2 < 256
  gates : ∀ p ∈ c.gates, p.1 < 4294967296 ∧ p.2 < 4294967296
  outs : ∀ x ∈ c.outs, x < 4294967296
  bads : ∀ x ∈ c.bads, x < 4294967296
  cons : ∀ x ∈ c.cons, x < 4294967296
end Go.Proofs.YtgplkpfdbiapaaaGreatDoor
/- Cells by a function of the place. -/
namespace Go.Proofs.YtgplkpfdbiapaaaGreatDoor
open Go Go.RowKit

/-- N cells, by a function of their places. -/
def fcells (N : Nat) (f : Nat → Value) : Array Value := ((List.range N).map f).toArray
theorem fcells_get (N : Nat) (f : Nat → Value) (i : Nat) (h : i < N) : (fcells N f)[i]? = some (f i) := by
  simp [fcells, h]
theorem fcells_set (N : Nat) (f : Nat → Value) (i : Nat) (x : Value) : (fcells N f).setIfInBounds i x = fcells N (fun j => if j = i then x else f j) := by
  apply Array.ext_getElem?
  intro j
  rw [Array.getElem?_setIfInBounds]
  by_cases h : j < N
  · rw [fcells_get N f j h, fcells_get N (fun j => if j = i then x else f j) j h]
    by_cases e : i = j
    · subst e; simp [fcells, h]
    · rw [if_neg e, if_neg (fun h => e h.symm)]
  · have e1 : ∀ g : Nat → Value, (fcells N g)[j]? = none := fun g => by simp [fcells]; omega
    rw [e1, e1]
    split
    · rw [if_neg (by simp [fcells]; omega)]
    · rfl
theorem fcells_congr {N : Nat} {f g : Nat → Value} (h : ∀ i, i < N → f i = g i) : fcells N f = fcells N g := by
  unfold fcells
  congr 1
  exact List.map_congr_left (fun i hi => h i (List.mem_range.1 hi))
theorem fcells_size (N : Nat) (f : Nat → Value) : (fcells N f).size = N := by simp [fcells]
theorem fcells_zero (N : Nat) (z : Value) : zeros z N = fcells N (fun _ => z) := by
  apply Array.ext_getElem?
  intro j
  by_cases h : j < N
  · rw [fcells_get N _ j h]; simp [zeros, h]
  · simp [zeros, fcells, h]
end Go.Proofs.YtgplkpfdbiapaaaGreatDoor
namespace Go.Proofs.YtgplkpfdbiapaaaGreatDoor
open Go Go.RowKit Go.Joins

/-- A trace's slots own what they read. -/
structure OwnTr (w : World) (base : Nat) (s : TSlots) (t : TraceC) : Prop where
  o1 : Row isByte w base 5 (.slice s.a1 s.n1 s.c1) t.init.length (t.init.map bv)
  blk : ∃ F, base ≤ F ∧ s.a2 = some ⟨F, 0, none⟩ ∧ w.heap[F]? = some (.cells (s.ss.map slV).toArray 27 (0, 0))
  n2 : s.n2 = t.frames.length
  c2 : s.c2 = t.frames.length
  len : s.ss.length = t.frames.length
  rows : ∀ j, j < t.frames.length → Row isByte w base 5 (slV (s.ss.getD j slc0)) (t.frames.getD j []).length ((t.frames.getD j []).map bv)
theorem OwnTr.below {w w' : World} {base : Nat} {s : TSlots} {t : TraceC} (h : OwnTr w base s t) (hb : Below w.heap.size w w') : OwnTr w' base s t := by
  obtain ⟨F, h1, h2, h3⟩ := h.blk
  exact ⟨h.o1.below hb, ⟨F, h1, h2, heap_below h3 hb⟩, h.n2, h.c2, h.len, fun j hj => (h.rows j hj).below hb⟩
theorem OwnTr.sees {w : World} {base : Nat} {s : TSlots} {t : TraceC} (h : OwnTr w base s t) : SeesTr w s t := by
  obtain ⟨F, h1, h2, h3⟩ := h.blk
  refine ⟨(row_sees_slice h.o1).2, ⟨?_, h.len, fun k hk => (row_sees_slice (h.rows k hk)).2⟩⟩
  have hn := h.n2
  have hc := h.c2
  have hl := h.len
  rw [h2]
  refine ⟨by simp; omega, by omega, (fun e => by cases e), fun _ => ⟨F, 0, rfl, heap_lt h3, fun j hj => ?_⟩⟩
  rw [cell_of_block h3]
  simp

theorem set3_other {X : World} (g D : Nat) (hD : D ≠ g) (u0 u1 u2 : Value) : (((X.setCell ⟨g, 0, .none⟩ u0).setCell ⟨g, 1, .none⟩ u1).setCell ⟨g, 2, .none⟩ u2).heap[D]? = X.heap[D]? := by
  rw [Below.heap_setCell _ ⟨g, 2, .none⟩ _ D hD, Below.heap_setCell _ ⟨g, 1, .none⟩ _ D hD, Below.heap_setCell _ ⟨g, 0, .none⟩ _ D hD]
theorem cell_set3t {w : World} {G b k : Nat} {v u0 u1 u2 : Value} (h : w.cell? ⟨b, k, none⟩ = some v) (hne : b ≠ G) :
    (((w.setCell ⟨G, 0, .none⟩ u0).setCell ⟨G, 1, .none⟩ u1).setCell ⟨G, 2, .none⟩ u2).cell? ⟨b, k, none⟩ = some v := by
  have ne : ∀ j, (⟨G, j, none⟩ : Addr) ≠ ⟨b, k, none⟩ := fun j e => hne (by cases e; rfl)
  rw [World.cell?_setCell_other _ _ _ _ (ne 2), World.cell?_setCell_other _ _ _ _ (ne 1), World.cell?_setCell_other _ _ _ _ (ne 0)]
  exact h
theorem tri_set_t {X : World} {g : Nat} {C : Array Value} {t : TypeId} (h : X.heap[g]? = some (.cells C t (0, 0))) (hC : C.size = 3) (u0 u1 u2 : Value) :
    (((X.setCell ⟨g, 0, .none⟩ u0).setCell ⟨g, 1, .none⟩ u1).setCell ⟨g, 2, .none⟩ u2).heap[g]? = some (.cells #[u0, u1, u2] t (0, 0)) := by
  obtain ⟨l⟩ := C
  match l, hC with
  | [_, _, _], _ =>
    have h0 := block_setCell h (i := 0) u0
    have h1 := block_setCell h0 (i := 1) u1
    have h2 := block_setCell h1 (i := 2) u2
    simpa using h2
theorem set3_t {B : Nat} {w X : World} (g : Nat) (hg : B ≤ g) (h : Below B w X) {u0 u1 u2 : Value} : Below B w (((X.setCell ⟨g, 0, .none⟩ u0).setCell ⟨g, 1, .none⟩ u1).setCell ⟨g, 2, .none⟩ u2) := ((h.setCell hg _).setCell hg _).setCell hg _

theorem OwnTr.set3 {w : World} {base G B : Nat} {s : TSlots} {t : TraceC} (h : OwnTr w base s t) (hG : G < base) (hB : B ≤ base) {u0 u1 u2 : Value} :
    OwnTr (((w.setCell ⟨G, 0, .none⟩ u0).setCell ⟨G, 1, .none⟩ u1).setCell ⟨G, 2, .none⟩ u2) B s t := by
  obtain ⟨F, h1, h2, h3⟩ := h.blk
  have row : ∀ {v : Value} {n : Nat} {xs : List Value}, Row isByte w base 5 v n xs → Row isByte (((w.setCell ⟨G, 0, .none⟩ u0).setCell ⟨G, 1, .none⟩ u1).setCell ⟨G, 2, .none⟩ u2) B 5 v n xs := fun hr =>
    Row.base_le (hr.other fun q hq => set3_other G q (by have := (hr.own.lt q hq).1; omega) _ _ _) hB
  exact ⟨row h.o1, ⟨F, Nat.le_trans hB h1, h2, (set3_other G F (by omega) _ _ _).trans h3⟩, h.n2, h.c2, h.len, fun j hj => row (h.rows j hj)⟩

theorem info_u8s : (Tryz.prog.info? 27).map (fun i => (i.zero, i.size, i.bytes)) = some (some (.slice none 0 0), 1, 24) := by kernel_rfl

/-- What lies in memory while CopyTrace goes on: F is the new frames' block. -/
structure CtInv (w1 : World) (F n : Nat) (fs : List (List UInt8)) (k : Nat) (ss : List Slc) (w : World) : Prop where
  len : ss.length = k
  blk : w.heap[F]? = some (.cells (fcells n (fun j => slV (ss.getD j slc0))) 27 (0, 0))
  rows : ∀ j, j < k → Row isByte w w1.heap.size 5 (slV (ss.getD j slc0)) (fs.getD j []).length ((fs.getD j []).map bv)
  but : But2 w1.heap.size F F w1 w
theorem CtInv.step {w1 : World} {F n : Nat} {fs : List (List UInt8)} {k : Nat} {ss : List Slc} {w w2 : World} {s : Slc} (h : CtInv w1 F n fs k ss w) (hF : F < w1.heap.size) (hb : Below w.heap.size w w2) (hr : Row isByte w2 w.heap.size 5 (slV s) (fs.getD k []).length ((fs.getD k []).map bv)) :
    CtInv w1 F n fs (k + 1) (ss ++ [s]) (w2.setCell ⟨F, k, none⟩ (slV s)) := by
  have hlen := h.len
  have hs := h.but.size
  have row : ∀ {v : Value} {m : Nat} {xs : List Value}, Row isByte w2 w1.heap.size 5 v m xs → Row isByte (w2.setCell ⟨F, k, none⟩ (slV s)) w1.heap.size 5 v m xs := fun hr =>
    hr.other fun q hq => Below.heap_setCell w2 ⟨F, k, none⟩ _ q (show q ≠ F from fun e => by have := (hr.own.lt q hq).1; omega)
  refine ⟨by simp [hlen], ?_, fun j hj => ?_, ?_⟩
  · have h1 := block_setCell (heap_below h.blk hb) (i := k) (slV s)
    rw [fcells_set] at h1
    rw [h1]
    congr 2
    refine fcells_congr fun j _ => ?_
    by_cases e : j = k
    · rw [if_pos e, e, ← hlen]; simp
    · rw [if_neg e]
      by_cases e2 : j < ss.length
      · simp [List.getD, List.getElem?_append_left e2]
      · have e3 : ss.length < j := by omega
        simp [List.getD, List.getElem?_append_right (Nat.le_of_lt e3), List.getElem?_eq_none (Nat.le_of_lt e3), show ¬ j - ss.length = 0 by omega]
  · by_cases e : j = k
    · subst e
      have e1 : (ss ++ [s]).getD j slc0 = s := by rw [← hlen]; simp
      rw [e1]
      exact row (hr.base_le hs)
    · have e1 : (ss ++ [s]).getD j slc0 = ss.getD j slc0 := by simp [List.getD, List.getElem?_append_left (show j < ss.length by omega)]
      rw [e1]
      exact row ((h.rows j (by omega)).below hb)
  · have h1 : But2 w1.heap.size F F w1 w2 := h.but.trans (But2.of_below (hb.mono hs))
    refine ⟨h1.os, h1.tape, h1.output, by have := h1.size; simpa using this, fun D d1 d2 d3 => ?_⟩
    rw [Below.heap_setCell w2 ⟨F, k, none⟩ _ D d2]
    exact h1.block D d1 d2 d3

end Go.Proofs.YtgplkpfdbiapaaaGreatDoor
