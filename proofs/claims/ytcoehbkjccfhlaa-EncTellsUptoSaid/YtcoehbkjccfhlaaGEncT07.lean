/- Package enc on plain lists: the clause literals, the clauses of an unrolling, each with the gate that it is of. -/
import Derived.Test.YtcoehbkjccfhlaaGEncT00
import Derived.Test.YtcoehbkjccfhlaaGEncT06
import Derived.Test.YtcoehbkjccfhlaaGEncT01
import Derived.Test.YtcoehbkjccfhlaaGEncT02
import Derived.Test.YtcoehbkjccfhlaaGEncT05
import Derived.Test.YtcoehbkjccfhlaaRows
import Derived.BigQuiet
import Derived.Deep.AppendLies
import Derived.Deep.QuietTactic
import Derived.Deep.RegionHeld3
import Derived.Deep.RegionLaw
import Derived.Deep.RegionWith
import Derived.KernelRfl
import Derived.Laws.EntriesVeiled
import Derived.Laws.Tables
import Derived.Lib.AppendStr
import Derived.Lib.ConvBytes
import Derived.Lib.Hide
import Derived.Lib.SlBytesRow
import Derived.Lib.SmallJoins
import Derived.Maps.AppendAt
import Derived.Shelf.Bytes.SlSmallAll
import Derived.WalkKit
import Derived.WalkLawsBesides
import Derived.WalkSpells
import Derived.Deep.CutRange
/- norm.CopyTrace, by its contract. -/
namespace Go.Proofs.Ytcoehbkjccfhlaa
open Go Go.RowKit Go.Joins

/-- A trace's slots own what they read. -/
structure OwnTr (w : World) (base : Nat) (s : TSlots) (t : TraceC) : Prop where
  o1 : Row isByte w base 5 (.slice s.a1 s.n1 s.c1) t.init.length (t.init.map bv)
  blk : ∃ F, base ≤ F ∧ s.a2 = some ⟨F, 0, none⟩ ∧ w.heap[F]? = some (.cells (s.ss.map slV).toArray 27 (0, 0))
  n2 : s.n2 = t.frames.length
  c2 : s.c2 = t.frames.length
  len : s.ss.length = t.frames.length
  rows : ∀ j, j < t.frames.length → Row isByte w base 5 (slV (s.ss.getD j slc0)) (t.frames.getD j []).length ((t.frames.getD j []).map bv)
theorem OwnTr.below {w w' : World} {base : Nat} {s : TSlots} {t : TraceC} (h : OwnTr w base s t) (hb : Below w.heap.size w w') : OwnTr w' base s t := by
  obtain ⟨F, h1, h2, h3⟩ := h.blk
  exact ⟨h.o1.below hb, ⟨F, h1, h2, heap_below h3 hb⟩, h.n2, h.c2, h.len, fun j hj => (h.rows j hj).below hb⟩
theorem OwnTr.sees {w : World} {base : Nat} {s : TSlots} {t : TraceC} (h : OwnTr w base s t) : SeesTr w s t := by
  obtain ⟨F, h1, h2, h3⟩ := h.blk
  refine ⟨(row_sees_slice h.o1).2, ⟨?_, h.len, fun k hk => (row_sees_slice (h.rows k hk)).2⟩⟩
  have hn := h.n2
  have hc := h.c2
  have hl := h.len
  rw [h2]
  refine ⟨by simp; omega, by omega, (fun e => by cases e), fun _ => ⟨F, 0, rfl, heap_lt h3, fun j hj => ?_⟩⟩
  rw [cell_of_block h3]
  simp

theorem set3_other {X : World} (g D : Nat) (hD : D ≠ g) (u0 u1 u2 : Value) : (((X.setCell ⟨g, 0, .none⟩ u0).setCell ⟨g, 1, .none⟩ u1).setCell ⟨g, 2, .none⟩ u2).heap[D]? = X.heap[D]? := by
  rw [Below.heap_setCell _ ⟨g, 2, .none⟩ _ D hD, Below.heap_setCell _ ⟨g, 1, .none⟩ _ D hD, Below.heap_setCell _ ⟨g, 0, .none⟩ _ D hD]
theorem cell_set3t {w : World} {G b k : Nat} {v u0 u1 u2 : Value} (h : w.cell? ⟨b, k, none⟩ = some v) (hne : b ≠ G) :
    (((w.setCell ⟨G, 0, .none⟩ u0).setCell ⟨G, 1, .none⟩ u1).setCell ⟨G, 2, .none⟩ u2).cell? ⟨b, k, none⟩ = some v := by
  have ne : ∀ j, (⟨G, j, none⟩ : Addr) ≠ ⟨b, k, none⟩ := fun j e => hne (by cases e; rfl)
  rw [World.cell?_setCell_other _ _ _ _ (ne 2), World.cell?_setCell_other _ _ _ _ (ne 1), World.cell?_setCell_other _ _ _ _ (ne 0)]
  exact h
theorem tri_set_t {X : World} {g : Nat} {C : Array Value} {t : TypeId} (h : X.heap[g]? = some (.cells C t (0, 0))) (hC : C.size = 3) (u0 u1 u2 : Value) :
    (((X.setCell ⟨g, 0, .none⟩ u0).setCell ⟨g, 1, .none⟩ u1).setCell ⟨g, 2, .none⟩ u2).heap[g]? = some (.cells #[u0, u1, u2] t (0, 0)) := by
  obtain ⟨l⟩ := C
  match l, hC with
  | [_, _, _], _ =>
    have h0 := block_setCell h (i := 0) u0
    have h1 := block_setCell h0 (i := 1) u1
    have h2 := block_setCell h1 (i := 2) u2
    simpa using h2
theorem set3_t {B : Nat} {w X : World} (g : Nat) (hg : B ≤ g) (h : Below B w X) {u0 u1 u2 : Value} : Below B w (((X.setCell ⟨g, 0, .none⟩ u0).setCell ⟨g, 1, .none⟩ u1).setCell ⟨g, 2, .none⟩ u2) := ((h.setCell hg _).setCell hg _).setCell hg _

theorem OwnTr.set3 {w : World} {base G B : Nat} {s : TSlots} {t : TraceC} (h : OwnTr w base s t) (hG : G < base) (hB : B ≤ base) {u0 u1 u2 : Value} :
    OwnTr (((w.setCell ⟨G, 0, .none⟩ u0).setCell ⟨G, 1, .none⟩ u1).setCell ⟨G, 2, .none⟩ u2) B s t := by
  obtain ⟨F, h1, h2, h3⟩ := h.blk
  have row : ∀ {v : Value} {n : Nat} {xs : List Value}, Row isByte w base 5 v n xs → Row isByte (((w.setCell ⟨G, 0, .none⟩ u0).setCell ⟨G, 1, .none⟩ u1).setCell ⟨G, 2, .none⟩ u2) B 5 v n xs := fun hr =>
    Row.base_le (hr.other fun q hq => set3_other G q (by have := (hr.own.lt q hq).1; omega) _ _ _) hB
  exact ⟨row h.o1, ⟨F, Nat.le_trans hB h1, h2, (set3_other G F (by omega) _ _ _).trans h3⟩, h.n2, h.c2, h.len, fun j hj => row (h.rows j hj)⟩

theorem info_u8s : (Try.prog.info? 27).map (fun i => (i.zero, i.size, i.bytes)) = some (some (.slice none 0 0), 1, 24) := by kernel_rfl

/-- What lies in memory while CopyTrace goes on: F is the new frames' block. -/
structure CtInv (w1 : World) (F n : Nat) (fs : List (List UInt8)) (k : Nat) (ss : List Slc) (w : World) : Prop where
  len : ss.length = k
  blk : w.heap[F]? = some (.cells (fcells n (fun j => slV (ss.getD j slc0))) 27 (0, 0))
  rows : ∀ j, j < k → Row isByte w w1.heap.size 5 (slV (ss.getD j slc0)) (fs.getD j []).length ((fs.getD j []).map bv)
  but : But2 w1.heap.size F F w1 w
theorem CtInv.step {w1 : World} {F n : Nat} {fs : List (List UInt8)} {k : Nat} {ss : List Slc} {w w2 : World} {s : Slc} (h : CtInv w1 F n fs k ss w) (hF : F < w1.heap.size) (hb : Below w.heap.size w w2) (hr : Row isByte w2 w.heap.size 5 (slV s) (fs.getD k []).length ((fs.getD k []).map bv)) :
    CtInv w1 F n fs (k + 1) (ss ++ [s]) (w2.setCell ⟨F, k, none⟩ (slV s)) := by
  have hlen := h.len
  have hs := h.but.size
  have row : ∀ {v : Value} {m : Nat} {xs : List Value}, Row isByte w2 w1.heap.size 5 v m xs → Row isByte (w2.setCell ⟨F, k, none⟩ (slV s)) w1.heap.size 5 v m xs := fun hr =>
    hr.other fun q hq => Below.heap_setCell w2 ⟨F, k, none⟩ _ q (show q ≠ F from fun e => by have := (hr.own.lt q hq).1; omega)
  refine ⟨by simp [hlen], ?_, fun j hj => ?_, ?_⟩
  · have h1 := block_setCell (heap_below h.blk hb) (i := k) (slV s)
    rw [fcells_set] at h1
    rw [h1]
    congr 2
    refine fcells_congr fun j _ => ?_
    by_cases e : j = k
    · rw [if_pos e, e, ← hlen]; simp
    · rw [if_neg e]
      by_cases e2 : j < ss.length
      · simp [List.getD, List.getElem?_append_left e2]
      · have e3 : ss.length < j := by omega
        simp [List.getD, List.getElem?_append_right (Nat.le_of_lt e3), List.getElem?_eq_none (Nat.le_of_lt e3), show ¬ j - ss.length = 0 by omega]
  · by_cases e : j = k
    · subst e
      have e1 : (ss ++ [s]).getD j slc0 = s := by rw [← hlen]; simp
      rw [e1]
      exact row (hr.base_le hs)
    · have e1 : (ss ++ [s]).getD j slc0 = ss.getD j slc0 := by simp [List.getD, List.getElem?_append_left (show j < ss.length by omega)]
      rw [e1]
      exact row ((h.rows j (by omega)).below hb)
  · have h1 : But2 w1.heap.size F F w1 w2 := h.but.trans (But2.of_below (hb.mono hs))
    refine ⟨h1.os, h1.tape, h1.output, by have := h1.size; simpa using this, fun D d1 d2 d3 => ?_⟩
    rw [Below.heap_setCell w2 ⟨F, k, none⟩ _ D d2]
    exact h1.block D d1 d2 d3

end Go.Proofs.Ytcoehbkjccfhlaa
/- norm.CopyTrace once more: the lists of the copy lie apart from each other. -/
namespace Go.Proofs.Ytcoehbkjccfhlaa
open Go Go.RowKit Go.Joins

/-- No two of these slices lie in one row. -/
def ApartL (L : List Slc) : Prop := ∀ i j, i < j → j < L.length → ∀ g, (slV (L.getD i slc0)).ownBlock = some g → (slV (L.getD j slc0)).ownBlock ≠ some g
theorem apart_cons {x : Slc} {L : List Slc} (h1 : ∀ j, j < L.length → ∀ g, (slV x).ownBlock = some g → (slV (L.getD j slc0)).ownBlock ≠ some g) (h2 : ApartL L) : ApartL (x :: L) := by
  intro i j hij hj g hg
  obtain ⟨j, rfl⟩ : ∃ j', j = j' + 1 := ⟨j - 1, by omega⟩
  rw [List.getD_cons_succ]
  cases i with
  | zero => exact h1 j (by simpa using hj) g (by simpa using hg)
  | succ i =>
    rw [List.getD_cons_succ] at hg
    exact h2 i j (by omega) (by simpa using hj) g hg

/-- What lies in memory while CopyTrace goes on: F is the new frames' block. -/
structure CtInv2 (w1 : World) (F n : Nat) (fs : List (List UInt8)) (k : Nat) (ss : List Slc) (w : World) : Prop where
  len : ss.length = k
  blk : w.heap[F]? = some (.cells (fcells n (fun j => slV (ss.getD j slc0))) 27 (0, 0))
  rows : ∀ j, j < k → Row isByte w w1.heap.size 5 (slV (ss.getD j slc0)) (fs.getD j []).length ((fs.getD j []).map bv)
  but : But2 w1.heap.size F F w1 w
  sep : ∀ i j, i < j → j < k → ∀ g, (slV (ss.getD i slc0)).ownBlock = some g → (slV (ss.getD j slc0)).ownBlock ≠ some g
theorem CtInv2.step {w1 : World} {F n : Nat} {fs : List (List UInt8)} {k : Nat} {ss : List Slc} {w w2 : World} {s : Slc} (h : CtInv2 w1 F n fs k ss w) (hF : F < w1.heap.size) (hb : Below w.heap.size w w2) (hr : Row isByte w2 w.heap.size 5 (slV s) (fs.getD k []).length ((fs.getD k []).map bv)) :
    CtInv2 w1 F n fs (k + 1) (ss ++ [s]) (w2.setCell ⟨F, k, none⟩ (slV s)) := by
  have hlen := h.len
  have hs := h.but.size
  have row : ∀ {v : Value} {m : Nat} {xs : List Value}, Row isByte w2 w1.heap.size 5 v m xs → Row isByte (w2.setCell ⟨F, k, none⟩ (slV s)) w1.heap.size 5 v m xs := fun hr =>
    hr.other fun q hq => Below.heap_setCell w2 ⟨F, k, none⟩ _ q (show q ≠ F from fun e => by have := (hr.own.lt q hq).1; omega)
  refine ⟨by simp [hlen], ?_, fun j hj => ?_, ?_, fun i j hij hj g hg hg2 => ?_⟩
  · have h1 := block_setCell (heap_below h.blk hb) (i := k) (slV s)
    rw [fcells_set] at h1
    rw [h1]
    congr 2
    refine fcells_congr fun j _ => ?_
    by_cases e : j = k
    · rw [if_pos e, e, ← hlen]; simp
    · rw [if_neg e]
      by_cases e2 : j < ss.length
      · simp [List.getD, List.getElem?_append_left e2]
      · have e3 : ss.length < j := by omega
        simp [List.getD, List.getElem?_append_right (Nat.le_of_lt e3), List.getElem?_eq_none (Nat.le_of_lt e3), show ¬ j - ss.length = 0 by omega]
  · by_cases e : j = k
    · subst e
      have e1 : (ss ++ [s]).getD j slc0 = s := by rw [← hlen]; simp
      rw [e1]
      exact row (hr.base_le hs)
    · have e1 : (ss ++ [s]).getD j slc0 = ss.getD j slc0 := by simp [List.getD, List.getElem?_append_left (show j < ss.length by omega)]
      rw [e1]
      exact row ((h.rows j (by omega)).below hb)
  · have h1 : But2 w1.heap.size F F w1 w2 := h.but.trans (But2.of_below (hb.mono hs))
    refine ⟨h1.os, h1.tape, h1.output, by have := h1.size; simpa using this, fun D d1 d2 d3 => ?_⟩
    rw [Below.heap_setCell w2 ⟨F, k, none⟩ _ D d2]
    exact h1.block D d1 d2 d3
  · have ei : (ss ++ [s]).getD i slc0 = ss.getD i slc0 := by simp [List.getD, List.getElem?_append_left (show i < ss.length by omega)]
    rw [ei] at hg
    by_cases e : j = k
    · subst e
      have e1 : (ss ++ [s]).getD j slc0 = s := by rw [← hlen]; simp
      rw [e1] at hg2
      have h1 := ((h.rows i (by omega)).own.lt g hg).2
      have h2 := (hr.own.lt g hg2).1
      omega
    · have e1 : (ss ++ [s]).getD j slc0 = ss.getD j slc0 := by simp [List.getD, List.getElem?_append_left (show j < ss.length by omega)]
      rw [e1] at hg2
      exact h.sep i j hij (by omega) g hg hg2

end Go.Proofs.Ytcoehbkjccfhlaa
/- Circuits on plain lists: validity, their raw circuits, traces that fit. -/
namespace Go.Proofs.Ytcoehbkjccfhlaa
open Go Go.RowKit

def varsN (c : NormC) : Nat := c.ins.toNat + c.lats.length + c.gates.length
def badLat2 (m : Nat) (p : Nat × Nat) : Bool := above m p.1 || decide (2 < p.2)
def badGate2 (f : Nat) (g : Nat × Nat) : Bool := decide (g.1 < g.2) || decide (2 * f ≤ g.1)
def badGates : Nat → List (Nat × Nat) → Bool
  | _, [] => false
  | f, g :: r => badGate2 f g || badGates (f + 1) r
/-- May a circuit's numbers of inputs, latches, gates be? -/
def tooMany (c : NormC) : Bool := decide (c.ins < 0) || decide (16384 - c.ins < ((c.lats.length + c.gates.length : Nat) : Int))
/-- Is a circuit valid? -/
def mayC (c : NormC) : Bool :=
  !tooMany c && (!badList (varsN c) c.outs && (!badList (varsN c) c.bads && (!badList (varsN c) c.cons &&
  (!c.lats.any (badLat2 (varsN c)) && !badGates (1 + c.ins.toNat + c.lats.length) c.gates))))

theorem badGates_at : ∀ (l : List (Nat × Nat)) (f : Nat), badGates f l = true ↔ ∃ k, k < l.length ∧ badGate2 (f + k) (l.getD k (0, 0)) = true
  | [], f => by simp [badGates]
  | g :: r, f => by
    rw [badGates, Bool.or_eq_true, badGates_at r (f + 1)]
    constructor
    · rintro (h | ⟨k, hk, h⟩)
      · exact ⟨0, by simp, by simpa using h⟩
      · exact ⟨k + 1, by simpa using hk, by rw [show f + (k + 1) = f + 1 + k by omega]; simpa using h⟩
    · rintro ⟨k, hk, h⟩
      cases k with
      | zero => exact Or.inl (by simpa using h)
      | succ k => exact Or.inr ⟨k, by simpa using hk, by rw [show f + 1 + k = f + (k + 1) by omega]; simpa using h⟩
theorem badGates_no {l : List (Nat × Nat)} {f : Nat} : badGates f l = false ↔ ∀ k, k < l.length → badGate2 (f + k) (l.getD k (0, 0)) = false := by
  constructor
  · intro h k hk
    cases hb : badGate2 (f + k) (l.getD k (0, 0)) with
    | false => rfl
    | true => have := (badGates_at l f).2 ⟨k, hk, hb⟩; rw [h] at this; cases this
  · intro h
    cases hb : badGates f l with
    | false => rfl
    | true =>
      obtain ⟨k, hk, h2⟩ := (badGates_at l f).1 hb
      rw [h k hk] at h2; cases h2

/-- A latch, a gate, as the raw circuit has them. -/
def latR (v : Nat) (p : Nat × Nat) : Tri := (2 * v, p.1, if p.2 = 2 then 2 * v else p.2)
def gateR (v : Nat) (p : Nat × Nat) : Tri := (2 * v, p.1, p.2)
def upFrom {α : Type} (f : Nat → Nat × Nat → α) (b : Nat) (l : List (Nat × Nat)) : List α := (List.range l.length).map fun i => f (b + i) (l.getD i (0, 0))
theorem upFrom_len {α : Type} (f : Nat → Nat × Nat → α) (b : Nat) (l : List (Nat × Nat)) : (upFrom f b l).length = l.length := by simp [upFrom]
theorem upFrom_at {α : Type} (f : Nat → Nat × Nat → α) (b : Nat) (l : List (Nat × Nat)) (k : Nat) (d : α) (hk : k < l.length) : (upFrom f b l).getD k d = f (b + k) (l.getD k (0, 0)) := by
  simp [upFrom, List.getD, hk]
theorem upFrom_take {α : Type} (f : Nat → Nat × Nat → α) (b : Nat) (l : List (Nat × Nat)) (k : Nat) (hk : k < l.length) : (upFrom f b l).take (k + 1) = (upFrom f b l).take k ++ [f (b + k) (l.getD k (0, 0))] := by
  rw [List.take_succ_eq_append_getElem (by rw [upFrom_len]; exact hk)]
  congr 1
  simp [upFrom]
/-- The raw circuit of a circuit. -/
def rawS (c : NormC) : RawC :=
  ⟨varsN c, (List.range c.ins.toNat).map fun i => 2 * (1 + i), upFrom latR (1 + c.ins.toNat) c.lats, c.outs, c.bads, c.cons, upFrom gateR (1 + c.ins.toNat + c.lats.length) c.gates⟩

/-- Are these so many values? -/
def valsOk (l : List UInt8) (many : Int) : Bool := decide ((l.length : Int) = many) && !l.any (fun u => decide (2 < u.toNat))
/-- Does a latch begin as it may? -/
def initOk (c : NormC) (t : TraceC) : Bool := (List.range c.lats.length).all fun i => decide ((c.lats.getD i (0, 0)).2 = 2) || decide ((t.init.getD i 0).toNat = (c.lats.getD i (0, 0)).2)
def fitsS (c : NormC) (t : TraceC) : Bool :=
  mayC c && (!(decide (t.bad < 0) || decide ((c.bads.length : Int) ≤ t.bad)) && (valsOk t.init c.lats.length && (initOk c t && (decide (1 ≤ t.frames.length) && (decide (t.frames.length ≤ 256) && t.frames.all (fun f => valsOk f c.ins))))))

structure MayC (c : NormC) : Prop where
  pos : 0 ≤ c.ins
  few : varsN c ≤ 16384
  lens : c.outs.length ≤ 1024 ∧ c.bads.length ≤ 1024 ∧ c.cons.length ≤ 1024
  outs : ∀ x ∈ c.outs, x ≤ 2 * varsN c + 1
  bads : ∀ x ∈ c.bads, x ≤ 2 * varsN c + 1
  cons : ∀ x ∈ c.cons, x ≤ 2 * varsN c + 1
  lats : ∀ p ∈ c.lats, p.1 ≤ 2 * varsN c + 1 ∧ p.2 ≤ 2
  gates : ∀ k, k < c.gates.length → (c.gates.getD k (0, 0)).2 ≤ (c.gates.getD k (0, 0)).1 ∧ (c.gates.getD k (0, 0)).1 < 2 * (1 + c.ins.toNat + c.lats.length + k)
theorem mayC_iff {c : NormC} : mayC c = true ↔ MayC c := by
  have hb : ∀ l : List Nat, badList (varsN c) l = false ↔ l.length ≤ 1024 ∧ ∀ x ∈ l, x ≤ 2 * varsN c + 1 := fun l => by
    simp only [badList, Bool.or_eq_false_iff, decide_eq_false_iff_not, List.any_eq_false, above, decide_eq_true_eq]
    exact ⟨fun h => ⟨by omega, fun x hx => by have := h.2 x hx; omega⟩, fun h => ⟨by omega, fun x hx => by have := h.2 x hx; omega⟩⟩
  have hl : c.lats.any (badLat2 (varsN c)) = false ↔ ∀ p ∈ c.lats, p.1 ≤ 2 * varsN c + 1 ∧ p.2 ≤ 2 := by
    simp only [List.any_eq_false, badLat2, above, Bool.or_eq_true, decide_eq_true_eq, not_or]
    exact ⟨fun h p hp => by have := h p hp; omega, fun h p hp => by have := h p hp; omega⟩
  have hg : badGates (1 + c.ins.toNat + c.lats.length) c.gates = false ↔ ∀ k, k < c.gates.length → (c.gates.getD k (0, 0)).2 ≤ (c.gates.getD k (0, 0)).1 ∧ (c.gates.getD k (0, 0)).1 < 2 * (1 + c.ins.toNat + c.lats.length + k) := by
    rw [badGates_no]
    simp only [badGate2, Bool.or_eq_false_iff, decide_eq_false_iff_not]
    exact ⟨fun h k hk => by have := h k hk; omega, fun h k hk => by have := h k hk; omega⟩
  have ht : tooMany c = false ↔ 0 ≤ c.ins ∧ varsN c ≤ 16384 := by
    simp only [tooMany, Bool.or_eq_false_iff, decide_eq_false_iff_not, varsN]
    omega
  unfold mayC
  simp only [Bool.and_eq_true, Bool.not_eq_true']
  rw [ht, hb, hb, hb, hl, hg]
  constructor
  · rintro ⟨⟨h1, h2⟩, ⟨h3, h4⟩, ⟨h5, h6⟩, ⟨h7, h8⟩, h9, h10⟩
    exact ⟨h1, h2, ⟨h3, h5, h7⟩, h4, h6, h8, h9, h10⟩
  · rintro ⟨h1, h2, ⟨h3, h5, h7⟩, h4, h6, h8, h9, h10⟩
    exact ⟨⟨h1, h2⟩, ⟨h3, h4⟩, ⟨h5, h6⟩, ⟨h7, h8⟩, h9, h10⟩
end Go.Proofs.Ytcoehbkjccfhlaa
namespace Go.Proofs.Ytcoehbkjccfhlaa
open Go Go.RowKit Go.Joins

/-- The clause variable of a variable in a frame. -/
def spotE (V v f : Nat) : Nat := 1 + f * V + v
def absE (V x f : Nat) : Int := if x / 2 = 0 then -1 else ((spotE V (x / 2) f : Nat) : Int)
/-- The clause literal of a literal in a frame. -/
def litE (V x f : Nat) : Int := if x % 2 = 1 then -(absE V x f) else absE V x f
/-- What g tells of 0, 1 .., one behind the other. -/
def upE {α : Type} (g : Nat → List α) (k : Nat) : List α := (List.range k).flatMap g
theorem upE_zero {α : Type} (g : Nat → List α) : upE g 0 = [] := rfl
theorem upE_succ {α : Type} (g : Nat → List α) (k : Nat) : upE g (k + 1) = upE g k ++ g k := by simp [upE, List.range_succ, List.flatMap_append]
theorem upE_len {α : Type} (g : Nat → List α) (m : Nat) : ∀ k, (∀ i, i < k → (g i).length ≤ m) → (upE g k).length ≤ k * m
  | 0, _ => by simp [upE_zero]
  | k + 1, h => by
    rw [upE_succ, List.length_append, Nat.succ_mul]
    have := upE_len g m k (fun i hi => h i (by omega))
    have := h k (by omega)
    omega
theorem upE_congr {α : Type} {g g' : Nat → List α} : ∀ k, (∀ i, i < k → g i = g' i) → upE g k = upE g' k
  | 0, _ => rfl
  | k + 1, h => by rw [upE_succ, upE_succ, upE_congr k (fun i hi => h i (by omega)), h k (by omega)]
theorem upE_mem {α : Type} {g : Nat → List α} {k : Nat} {x : α} : x ∈ upE g k ↔ ∃ i, i < k ∧ x ∈ g i := by
  simp [upE, List.mem_flatMap]
/-- A clause, with the gate that it is of (-1: of none). -/
abbrev TCl := Int × List Int
def firstLatE (c : NormC) : Nat := 1 + c.ins.toNat
def firstGateE (c : NormC) : Nat := 1 + c.ins.toNat + c.lats.length
def resetE (c : NormC) (i : Nat) : List TCl :=
  if (c.lats.getD i (0, 0)).2 = 0 then [(-1, [-((spotE (varsN c) (firstLatE c + i) 0 : Nat) : Int)])]
  else if (c.lats.getD i (0, 0)).2 = 1 then [(-1, [((spotE (varsN c) (firstLatE c + i) 0 : Nat) : Int)])] else []
def nextE (c : NormC) (f i : Nat) : List TCl :=
  [(-1, [-((spotE (varsN c) (firstLatE c + i) f : Nat) : Int), litE (varsN c) (c.lats.getD i (0, 0)).1 (f - 1)]),
   (-1, [((spotE (varsN c) (firstLatE c + i) f : Nat) : Int), -(litE (varsN c) (c.lats.getD i (0, 0)).1 (f - 1))])]
def gateE (c : NormC) (f i : Nat) : List TCl :=
  [((i : Int), [-((spotE (varsN c) (firstGateE c + i) f : Nat) : Int), litE (varsN c) (c.gates.getD i (0, 0)).1 f]),
   ((i : Int), [-((spotE (varsN c) (firstGateE c + i) f : Nat) : Int), litE (varsN c) (c.gates.getD i (0, 0)).2 f]),
   ((i : Int), [((spotE (varsN c) (firstGateE c + i) f : Nat) : Int), -(litE (varsN c) (c.gates.getD i (0, 0)).1 f), -(litE (varsN c) (c.gates.getD i (0, 0)).2 f)])]
def latsE (c : NormC) (f : Nat) : List TCl := if f = 0 then upE (resetE c) c.lats.length else upE (nextE c f) c.lats.length
def frameE (c : NormC) (f : Nat) : List TCl := latsE c f ++ upE (gateE c f) c.gates.length
/-- All clauses of an unrolling. -/
def allE (c : NormC) (nf : Nat) : List TCl := (-1, [1]) :: upE (frameE c) nf
theorem allE_succ (c : NormC) (k : Nat) : allE c (k + 1) = allE c k ++ latsE c k ++ upE (gateE c k) c.gates.length := by
  simp [allE, upE_succ, frameE]
theorem resetE_len (c : NormC) (i : Nat) : (resetE c i).length ≤ 1 := by unfold resetE; split; simp; split <;> simp
theorem latsE_len (c : NormC) (f k : Nat) : (if f = 0 then upE (resetE c) k else upE (nextE c f) k).length ≤ 2 * k := by
  split
  · have := upE_len (resetE c) 2 k (fun i _ => Nat.le_trans (resetE_len c i) (by omega)); omega
  · have := upE_len (nextE c f) 2 k (fun i _ => by simp [nextE]); omega
theorem frameE_len (c : NormC) (f : Nat) (h : varsN c ≤ 16384) : (frameE c f).length ≤ 49152 := by
  have h1 := latsE_len c f c.lats.length
  have h2 := upE_len (gateE c f) 3 c.gates.length (fun i _ => by simp [gateE])
  unfold frameE
  rw [List.length_append]
  unfold latsE
  unfold varsN at h
  omega
theorem allE_len (c : NormC) (k : Nat) (h : varsN c ≤ 16384) : (allE c k).length ≤ 1 + k * 49152 := by
  have := upE_len (frameE c) 49152 k (fun i _ => frameE_len c i h)
  unfold allE
  rw [List.length_cons]
  omega
/-- A clause as it is; with its switch. -/
def bareE (t : TCl) : List Int := t.2
def withE (first : Nat) (t : TCl) : List Int := if t.1 = -1 then t.2 else t.2 ++ [(first : Int) + t.1]
/-- How many clauses there are. -/
def fixedE (c : NormC) (k : Nat) : Nat := ((c.lats.take k).filter (fun p => decide (p.2 ≠ 2))).length
def manyE (c : NormC) (nf : Nat) : Nat := 1 + 2 * c.lats.length * (nf - 1) + 3 * c.gates.length * nf + fixedE c c.lats.length
theorem fixedE_succ (c : NormC) (k : Nat) (hk : k < c.lats.length) : fixedE c (k + 1) = fixedE c k + if (c.lats.getD k (0, 0)).2 = 2 then 0 else 1 := by
  unfold fixedE
  rw [List.take_succ_eq_append_getElem hk, List.filter_append, List.length_append]
  congr 1
  simp only [List.getD, List.getElem?_eq_getElem hk, Option.getD_some, List.filter_cons, List.filter_nil]
  by_cases h : c.lats[k].2 = 2 <;> simp [h]
theorem fixedE_le (c : NormC) (k : Nat) : fixedE c k ≤ c.lats.length := by
  unfold fixedE
  exact Nat.le_trans (List.length_filter_le _ _) (by simp; omega)
/-- May there be so many frames? -/
def framesOk (z : Int) : Bool := decide (1 ≤ z) && decide (z ≤ 256)
def ofOk (c : NormC) (z : Int) : Bool := framesOk z && mayC c
theorem spotE_lt {V v f : Nat} (hV : V ≤ 16384) (hv : v ≤ V) (hf : f ≤ 256) : spotE V v f ≤ 4300000 ∧ f * V ≤ 4194304 := by
  have : f * V ≤ 256 * 16384 := Nat.mul_le_mul hf hV
  unfold spotE
  omega
theorem absE_small {V x f : Nat} (hV : V ≤ 16384) (hx : x ≤ 2 * V + 1) (hf : f ≤ 256) : -1 ≤ absE V x f ∧ absE V x f ≤ 4300000 := by
  have := spotE_lt hV (show x / 2 ≤ V by omega) hf
  unfold absE
  split <;> omega
theorem litE_small {V x f : Nat} (hV : V ≤ 16384) (hx : x ≤ 2 * V + 1) (hf : f ≤ 256) : -4300000 ≤ litE V x f ∧ litE V x f ≤ 4300000 := by
  have := absE_small hV hx hf
  unfold litE
  split <;> omega
/-- An unrolling as a value. -/
def uV (ins : Int) (s : CSlots) (V nf : Nat) : Value := .agg #[.int .i64 ins, .slice s.a1 s.n1 s.c1, .slice s.a2 s.n2 s.c2, .slice s.a3 s.n3 s.c3, .slice s.a4 s.n4 s.c4, .slice s.a5 s.n5 s.c5, .int .i64 (V : Int), .int .i64 (nf : Int)]
/-- Its cells. -/
def uC (ins : Int) (s : CSlots) (V nf : Nat) : Array Value := #[.int .i64 ins, .slice s.a1 s.n1 s.c1, .slice s.a2 s.n2 s.c2, .slice s.a3 s.n3 s.c3, .slice s.a4 s.n4 s.c4, .slice s.a5 s.n5 s.c5, .int .i64 (V : Int), .int .i64 (nf : Int)]
end Go.Proofs.Ytcoehbkjccfhlaa
