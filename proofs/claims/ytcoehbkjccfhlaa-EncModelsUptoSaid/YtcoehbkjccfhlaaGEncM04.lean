/- sim: the run of single values as an iterator, by its contract. -/
import Derived.Test.YtcoehbkjccfhlaaGEncM00
import Derived.Test.YtcoehbkjccfhlaaGEncM03
import Derived.Test.YtcoehbkjccfhlaaGEncM01
import Derived.Test.YtcoehbkjccfhlaaRows
import Derived.BigQuiet
import Derived.Deep.AppendLies
import Derived.Deep.QuietTactic
import Derived.Deep.RegionHeld3
import Derived.Deep.RegionLaw
import Derived.Deep.RegionWith
import Derived.KernelRfl
import Derived.Laws.EntriesVeiled
import Derived.Laws.Tables
import Derived.Lib.AppendStr
import Derived.Lib.ConvBytes
import Derived.Lib.Hide
import Derived.Lib.SlBytesRow
import Derived.Lib.SmallJoins
import Derived.Maps.AppendAt
import Derived.Shelf.Bytes.SlSmallAll
import Derived.WalkKit
import Derived.WalkLawsBesides
import Derived.WalkSpells
import Derived.RangeFuncCalls
import Derived.RangeFuncLeaves
import Derived.RangeFuncWrites
import Derived.Deep.CutRange
import Derived.Laws.Bits64b
import Derived.Laws.BitsAllLaws
import Derived.Laws.BitsLemmas
import Derived.Lib.AppendZeros
import Derived.LoopIn
import Derived.LoopNIn
import Derived.OwnWalkIn
import Derived.RangeFuncBox
import Derived.RangeFuncNested
import Derived.Shelf.Abstract
import Derived.Shelf.RegionOpen
import Derived.Sort.CutIn
import Derived.Stop.RegionWithIn
import Derived.TacticsInMore
/- norm.CopyTrace, by its contract. -/
namespace Go.Proofs.Ytcoehbkjccfhlaa
open Go Go.RowKit Go.Joins

/-- A trace's slots own what they read. -/
structure OwnTr (w : World) (base : Nat) (s : TSlots) (t : TraceC) : Prop where
  o1 : Row isByte w base 5 (.slice s.a1 s.n1 s.c1) t.init.length (t.init.map bv)
  blk : ∃ F, base ≤ F ∧ s.a2 = some ⟨F, 0, none⟩ ∧ w.heap[F]? = some (.cells (s.ss.map slV).toArray 27 (0, 0))
  n2 : s.n2 = t.frames.length
  c2 : s.c2 = t.frames.length
  len : s.ss.length = t.frames.length
  rows : ∀ j, j < t.frames.length → Row isByte w base 5 (slV (s.ss.getD j slc0)) (t.frames.getD j []).length ((t.frames.getD j []).map bv)
theorem OwnTr.below {w w' : World} {base : Nat} {s : TSlots} {t : TraceC} (h : OwnTr w base s t) (hb : Below w.heap.size w w') : OwnTr w' base s t := by
  obtain ⟨F, h1, h2, h3⟩ := h.blk
  exact ⟨h.o1.below hb, ⟨F, h1, h2, heap_below h3 hb⟩, h.n2, h.c2, h.len, fun j hj => (h.rows j hj).below hb⟩
theorem OwnTr.sees {w : World} {base : Nat} {s : TSlots} {t : TraceC} (h : OwnTr w base s t) : SeesTr w s t := by
  obtain ⟨F, h1, h2, h3⟩ := h.blk
  refine ⟨(row_sees_slice h.o1).2, ⟨?_, h.len, fun k hk => (row_sees_slice (h.rows k hk)).2⟩⟩
  have hn := h.n2
  have hc := h.c2
  have hl := h.len
  rw [h2]
  refine ⟨by simp; omega, by omega, (fun e => by cases e), fun _ => ⟨F, 0, rfl, heap_lt h3, fun j hj => ?_⟩⟩
  rw [cell_of_block h3]
  simp

theorem set3_other {X : World} (g D : Nat) (hD : D ≠ g) (u0 u1 u2 : Value) : (((X.setCell ⟨g, 0, .none⟩ u0).setCell ⟨g, 1, .none⟩ u1).setCell ⟨g, 2, .none⟩ u2).heap[D]? = X.heap[D]? := by
  rw [Below.heap_setCell _ ⟨g, 2, .none⟩ _ D hD, Below.heap_setCell _ ⟨g, 1, .none⟩ _ D hD, Below.heap_setCell _ ⟨g, 0, .none⟩ _ D hD]
theorem cell_set3t {w : World} {G b k : Nat} {v u0 u1 u2 : Value} (h : w.cell? ⟨b, k, none⟩ = some v) (hne : b ≠ G) :
    (((w.setCell ⟨G, 0, .none⟩ u0).setCell ⟨G, 1, .none⟩ u1).setCell ⟨G, 2, .none⟩ u2).cell? ⟨b, k, none⟩ = some v := by
  have ne : ∀ j, (⟨G, j, none⟩ : Addr) ≠ ⟨b, k, none⟩ := fun j e => hne (by cases e; rfl)
  rw [World.cell?_setCell_other _ _ _ _ (ne 2), World.cell?_setCell_other _ _ _ _ (ne 1), World.cell?_setCell_other _ _ _ _ (ne 0)]
  exact h
theorem tri_set_t {X : World} {g : Nat} {C : Array Value} {t : TypeId} (h : X.heap[g]? = some (.cells C t (0, 0))) (hC : C.size = 3) (u0 u1 u2 : Value) :
    (((X.setCell ⟨g, 0, .none⟩ u0).setCell ⟨g, 1, .none⟩ u1).setCell ⟨g, 2, .none⟩ u2).heap[g]? = some (.cells #[u0, u1, u2] t (0, 0)) := by
  obtain ⟨l⟩ := C
  match l, hC with
  | [_, _, _], _ =>
    have h0 := block_setCell h (i := 0) u0
    have h1 := block_setCell h0 (i := 1) u1
    have h2 := block_setCell h1 (i := 2) u2
    simpa using h2
theorem set3_t {B : Nat} {w X : World} (g : Nat) (hg : B ≤ g) (h : Below B w X) {u0 u1 u2 : Value} : Below B w (((X.setCell ⟨g, 0, .none⟩ u0).setCell ⟨g, 1, .none⟩ u1).setCell ⟨g, 2, .none⟩ u2) := ((h.setCell hg _).setCell hg _).setCell hg _

theorem OwnTr.set3 {w : World} {base G B : Nat} {s : TSlots} {t : TraceC} (h : OwnTr w base s t) (hG : G < base) (hB : B ≤ base) {u0 u1 u2 : Value} :
    OwnTr (((w.setCell ⟨G, 0, .none⟩ u0).setCell ⟨G, 1, .none⟩ u1).setCell ⟨G, 2, .none⟩ u2) B s t := by
  obtain ⟨F, h1, h2, h3⟩ := h.blk
  have row : ∀ {v : Value} {n : Nat} {xs : List Value}, Row isByte w base 5 v n xs → Row isByte (((w.setCell ⟨G, 0, .none⟩ u0).setCell ⟨G, 1, .none⟩ u1).setCell ⟨G, 2, .none⟩ u2) B 5 v n xs := fun hr =>
    Row.base_le (hr.other fun q hq => set3_other G q (by have := (hr.own.lt q hq).1; omega) _ _ _) hB
  exact ⟨row h.o1, ⟨F, Nat.le_trans hB h1, h2, (set3_other G F (by omega) _ _ _).trans h3⟩, h.n2, h.c2, h.len, fun j hj => row (h.rows j hj)⟩

theorem info_u8s : (Try.prog.info? 27).map (fun i => (i.zero, i.size, i.bytes)) = some (some (.slice none 0 0), 1, 24) := by kernel_rfl

/-- What lies in memory while CopyTrace goes on: F is the new frames' block. -/
structure CtInv (w1 : World) (F n : Nat) (fs : List (List UInt8)) (k : Nat) (ss : List Slc) (w : World) : Prop where
  len : ss.length = k
  blk : w.heap[F]? = some (.cells (fcells n (fun j => slV (ss.getD j slc0))) 27 (0, 0))
  rows : ∀ j, j < k → Row isByte w w1.heap.size 5 (slV (ss.getD j slc0)) (fs.getD j []).length ((fs.getD j []).map bv)
  but : But2 w1.heap.size F F w1 w
theorem CtInv.step {w1 : World} {F n : Nat} {fs : List (List UInt8)} {k : Nat} {ss : List Slc} {w w2 : World} {s : Slc} (h : CtInv w1 F n fs k ss w) (hF : F < w1.heap.size) (hb : Below w.heap.size w w2) (hr : Row isByte w2 w.heap.size 5 (slV s) (fs.getD k []).length ((fs.getD k []).map bv)) :
    CtInv w1 F n fs (k + 1) (ss ++ [s]) (w2.setCell ⟨F, k, none⟩ (slV s)) := by
  have hlen := h.len
  have hs := h.but.size
  have row : ∀ {v : Value} {m : Nat} {xs : List Value}, Row isByte w2 w1.heap.size 5 v m xs → Row isByte (w2.setCell ⟨F, k, none⟩ (slV s)) w1.heap.size 5 v m xs := fun hr =>
    hr.other fun q hq => Below.heap_setCell w2 ⟨F, k, none⟩ _ q (show q ≠ F from fun e => by have := (hr.own.lt q hq).1; omega)
  refine ⟨by simp [hlen], ?_, fun j hj => ?_, ?_⟩
  · have h1 := block_setCell (heap_below h.blk hb) (i := k) (slV s)
    rw [fcells_set] at h1
    rw [h1]
    congr 2
    refine fcells_congr fun j _ => ?_
    by_cases e : j = k
    · rw [if_pos e, e, ← hlen]; simp
    · rw [if_neg e]
      by_cases e2 : j < ss.length
      · simp [List.getD, List.getElem?_append_left e2]
      · have e3 : ss.length < j := by omega
        simp [List.getD, List.getElem?_append_right (Nat.le_of_lt e3), List.getElem?_eq_none (Nat.le_of_lt e3), show ¬ j - ss.length = 0 by omega]
  · by_cases e : j = k
    · subst e
      have e1 : (ss ++ [s]).getD j slc0 = s := by rw [← hlen]; simp
      rw [e1]
      exact row (hr.base_le hs)
    · have e1 : (ss ++ [s]).getD j slc0 = ss.getD j slc0 := by simp [List.getD, List.getElem?_append_left (show j < ss.length by omega)]
      rw [e1]
      exact row ((h.rows j (by omega)).below hb)
  · have h1 : But2 w1.heap.size F F w1 w2 := h.but.trans (But2.of_below (hb.mono hs))
    refine ⟨h1.os, h1.tape, h1.output, by have := h1.size; simpa using this, fun D d1 d2 d3 => ?_⟩
    rw [Below.heap_setCell w2 ⟨F, k, none⟩ _ D d2]
    exact h1.block D d1 d2 d3

end Go.Proofs.Ytcoehbkjccfhlaa
/- Words of 64 values, each 0, 1 or X, as two numbers of 64 bits, on plain numbers: what the package tern answers, and its laws place by place. -/
namespace Go.Proofs.Ytcoehbkjccfhlaa
open Go

/-- 2^64 - 1. -/
abbrev full : Nat := 18446744073709551615
theorem full_bit (j : Nat) : full.testBit j = decide (j < 64) := Nat.testBit_two_pow_sub_one 64 j
theorem clear_bit (i j : Nat) (hi : i < 64) : (full - 2 ^ i).testBit j = (decide (j < 64) && decide (j ≠ i)) := by
  have h : full - 2 ^ i = 2 ^ 64 - (2 ^ i + 1) := by unfold full; omega
  rw [h, Nat.testBit_two_pow_sub_succ (Nat.pow_lt_pow_right (by omega) hi), Nat.testBit_two_pow]
  by_cases e : i = j
  · subst e; simp
  · have e' : ¬ j = i := fun h => e h.symm
    simp [e, e']
theorem not_bit (n j : Nat) (hn : n < 18446744073709551616) : (full - n).testBit j = (decide (j < 64) && !n.testBit j) := by
  have h : full - n = 2 ^ 64 - (n + 1) := by unfold full; omega
  rw [h, Nat.testBit_two_pow_sub_succ (by omega)]
theorem big_bit {n : Nat} (hn : n < 18446744073709551616) {j : Nat} (hj : 64 ≤ j) : n.testBit j = false :=
  Nat.testBit_lt_two_pow (Nat.lt_of_lt_of_le hn (Nat.pow_le_pow_right (n := 2) (by omega) hj))
theorem one_bit (b : Bool) (i j : Nat) : (b.toNat * 2 ^ i).testBit j = (b && decide (i = j)) := by
  cases b
  · simp
  · simp [Nat.testBit_two_pow]
theorem eq_of_bits {a b : Nat} (ha : a < 18446744073709551616) (hb : b < 18446744073709551616) (h : ∀ j, j < 64 → a.testBit j = b.testBit j) : a = b := by
  apply Nat.eq_of_testBit_eq
  intro j
  by_cases hj : j < 64
  · exact h j hj
  · rw [big_bit ha (by omega), big_bit hb (by omega)]
theorem and_lt {a b : Nat} (ha : a < 18446744073709551616) : a &&& b < 18446744073709551616 := Nat.lt_of_le_of_lt Nat.and_le_left ha
theorem or_lt {a b : Nat} (ha : a < 18446744073709551616) (hb : b < 18446744073709551616) : a ||| b < 18446744073709551616 := Nat.or_lt_two_pow (n := 64) ha hb
theorem pow_lt {i : Nat} (hi : i < 64) : 2 ^ i < 18446744073709551616 := Nat.pow_lt_pow_right (n := 64) (a := 2) (by omega) hi
theorem oneb_lt (b : Bool) {i : Nat} (hi : i < 64) : b.toNat * 2 ^ i < 18446744073709551616 := by
  have := pow_lt hi
  cases b <;> simp <;> omega

/-- A word: what may be 0, what may be 1. -/
abbrev W2 := Nat × Nat
def W2.in (w : W2) : Prop := w.1 < 18446744073709551616 ∧ w.2 < 18446744073709551616
def wv (w : W2) : Value := .agg #[.int .u64 (w.1 : Int), .int .u64 (w.2 : Int)]

/-- May. -/
def mayW (w : W2) : Bool := decide (w.1 ||| w.2 = full)
theorem mayW_iff {w : W2} (hw : w.in) : mayW w = true ↔ ∀ j, j < 64 → w.1.testBit j = true ∨ w.2.testBit j = true := by
  unfold mayW
  rw [decide_eq_true_iff]
  constructor
  · intro h j hj
    have := congrArg (fun n => n.testBit j) h
    simp only [full_bit, Nat.testBit_or, decide_eq_true hj] at this
    simpa using this
  · intro h
    apply eq_of_bits (or_lt hw.1 hw.2) (by unfold full; omega)
    intro j hj
    rw [Nat.testBit_or, full_bit, decide_eq_true hj]
    simpa using h j hj

/-- The value at a place. -/
def atW (w : W2) (i : Nat) : Nat := if w.2.testBit i = false then 0 else if w.1.testBit i = false then 1 else 2
theorem atW_le (w : W2) (i : Nat) : atW w i ≤ 2 := by unfold atW; split <;> (try split) <;> omega
/-- What may be 0, what may be 1, of a value. -/
def bz (v : Nat) : Bool := decide (v ≠ 1)
def bo (v : Nat) : Bool := decide (v ≠ 0)
theorem at_bits {w : W2} (hw : w.in) (hm : mayW w = true) {i : Nat} (hi : i < 64) : w.1.testBit i = bz (atW w i) ∧ w.2.testBit i = bo (atW w i) := by
  have h := (mayW_iff hw).1 hm i hi
  unfold atW bz bo
  cases h1 : w.1.testBit i <;> cases h2 : w.2.testBit i <;> simp [h1, h2] at h ⊢

/-- One bit put. -/
def putB (n i : Nat) (b : Bool) : Nat := (n &&& (full - 2 ^ i)) ||| b.toNat * 2 ^ i
theorem putB_lt {n i : Nat} {b : Bool} (hn : n < 18446744073709551616) (hi : i < 64) : putB n i b < 18446744073709551616 := or_lt (and_lt hn) (oneb_lt b hi)
theorem putB_bit {n i : Nat} {b : Bool} (hi : i < 64) {j : Nat} (hj : j < 64) : (putB n i b).testBit j = if i = j then b else n.testBit j := by
  unfold putB
  rw [Nat.testBit_or, Nat.testBit_and, clear_bit i j hi, one_bit, decide_eq_true hj]
  by_cases e : i = j
  · subst e; simp
  · have e' : ¬ j = i := fun h => e h.symm
    simp [e, e']
/-- With, of a place and a value that are. -/
def putW (w : W2) (i v : Nat) : W2 := (putB w.1 i (bz v), putB w.2 i (bo v))
theorem putW_in {w : W2} (hw : w.in) {i v : Nat} (hi : i < 64) : (putW w i v).in := ⟨putB_lt hw.1 hi, putB_lt hw.2 hi⟩
theorem bz_bo (v : Nat) : bz v = true ∨ bo v = true := by
  unfold bz bo
  simp
  omega
theorem putW_may {w : W2} (hw : w.in) (hm : mayW w = true) {i v : Nat} (hi : i < 64) : mayW (putW w i v) = true := by
  rw [mayW_iff (putW_in hw hi)]
  intro j hj
  show (putB _ _ _).testBit j = true ∨ (putB _ _ _).testBit j = true
  rw [putB_bit hi hj, putB_bit hi hj]
  by_cases e : i = j
  · simp only [e, if_true]; exact bz_bo v
  · simp only [e, if_false]; exact (mayW_iff hw).1 hm j hj
theorem atW_put {w : W2} {i v : Nat} (hi : i < 64) (hv : v ≤ 2) : atW (putW w i v) i = v := by
  unfold atW putW
  rw [putB_bit hi hi, putB_bit hi hi, if_pos rfl, if_pos rfl]
  rcases (show v = 0 ∨ v = 1 ∨ v = 2 by omega) with rfl | rfl | rfl <;> rfl
theorem W2.ext {a b : W2} (ha : a.in) (hb : b.in) (h : ∀ j, j < 64 → a.1.testBit j = b.1.testBit j ∧ a.2.testBit j = b.2.testBit j) : a = b :=
  Prod.ext (eq_of_bits ha.1 hb.1 fun j hj => (h j hj).1) (eq_of_bits ha.2 hb.2 fun j hj => (h j hj).2)
theorem put_back {w : W2} (hw : w.in) (hm : mayW w = true) {i v : Nat} (hi : i < 64) : putW (putW w i v) i (atW w i) = w := by
  refine W2.ext (putW_in (putW_in hw hi) hi) hw fun j hj => ?_
  show (putB (putB _ _ _) _ _).testBit j = _ ∧ (putB (putB _ _ _) _ _).testBit j = _
  rw [putB_bit hi hj, putB_bit hi hj, putB_bit hi hj, putB_bit hi hj]
  have h := at_bits hw hm hi
  by_cases e : i = j
  · subst e; simp only [if_true]; exact ⟨h.1.symm, h.2.symm⟩
  · simp [e]

/-- All values 0. -/
def zeroW : W2 := (full, 0)
def notW (w : W2) : W2 := if mayW w = true then (w.2, w.1) else zeroW
def andW (a b : W2) : W2 := if mayW a = true ∧ mayW b = true then (a.1 ||| b.1, a.2 &&& b.2) else zeroW
def withinW (a b : W2) : Nat := if mayW a = true ∧ mayW b = true then full &&& (full - ((a.1 &&& (full - b.1)) ||| (a.2 &&& (full - b.2)))) else 0
/-- Not1, And1. -/
def not1 (v : Nat) : Nat := if v = 0 then 1 else if v = 1 then 0 else 2
def and1 (a b : Nat) : Nat := if a = 0 ∨ b = 0 then 0 else if a = 1 ∧ b = 1 then 1 else 2

theorem zeroW_in : zeroW.in := ⟨by unfold zeroW full; omega, by unfold zeroW; omega⟩
theorem notW_in {w : W2} (hw : w.in) : (notW w).in := by unfold notW; split; exact ⟨hw.2, hw.1⟩; exact zeroW_in
theorem andW_in {a b : W2} (ha : a.in) (hb : b.in) : (andW a b).in := by unfold andW; split; exact ⟨or_lt ha.1 hb.1, and_lt ha.2⟩; exact zeroW_in
theorem zeroW_may : mayW zeroW = true := by decide
theorem notW_may {w : W2} (hm : mayW w = true) : mayW (notW w) = true := by
  unfold notW; rw [if_pos hm]
  unfold mayW at hm ⊢
  rw [decide_eq_true_iff] at hm ⊢
  show w.2 ||| w.1 = full
  rw [Nat.or_comm]; exact hm
theorem andW_may {a b : W2} (ha : a.in) (hb : b.in) (hma : mayW a = true) (hmb : mayW b = true) : mayW (andW a b) = true := by
  rw [mayW_iff (andW_in ha hb)]
  intro j hj
  unfold andW
  rw [if_pos ⟨hma, hmb⟩]
  simp only [Nat.testBit_or, Nat.testBit_and]
  have h1 := (mayW_iff ha).1 hma j hj
  have h2 := (mayW_iff hb).1 hmb j hj
  revert h1 h2
  cases a.1.testBit j <;> cases a.2.testBit j <;> cases b.1.testBit j <;> cases b.2.testBit j <;> simp
theorem at_not {w : W2} (hw : w.in) (hm : mayW w = true) {k : Nat} (hk : k < 64) : atW (notW w) k = not1 (atW w k) := by
  have h := (mayW_iff hw).1 hm k hk
  unfold notW; rw [if_pos hm]
  unfold atW not1
  cases h1 : w.1.testBit k <;> cases h2 : w.2.testBit k <;> simp [h1, h2] at h ⊢
theorem at_and {a b : W2} (ha : a.in) (hb : b.in) (hma : mayW a = true) (hmb : mayW b = true) {k : Nat} (hk : k < 64) : atW (andW a b) k = and1 (atW a k) (atW b k) := by
  have h1 := (mayW_iff ha).1 hma k hk
  have h2 := (mayW_iff hb).1 hmb k hk
  unfold andW; rw [if_pos ⟨hma, hmb⟩]
  unfold atW and1
  simp only [Nat.testBit_or, Nat.testBit_and]
  cases q1 : a.1.testBit k <;> cases q2 : a.2.testBit k <;> cases q3 : b.1.testBit k <;> cases q4 : b.2.testBit k <;> simp [q1, q2, q3, q4] at h1 h2 ⊢

theorem withinW_lt (a b : W2) : withinW a b < 18446744073709551616 := by
  unfold withinW; split
  · exact and_lt (by unfold full; omega)
  · omega
theorem within_bit {a b : W2} (ha : a.in) (hb : b.in) (hma : mayW a = true) (hmb : mayW b = true) {j : Nat} (hj : j < 64) :
    (withinW a b).testBit j = (!(a.1.testBit j && !b.1.testBit j) && !(a.2.testBit j && !b.2.testBit j)) := by
  unfold withinW; rw [if_pos ⟨hma, hmb⟩, Nat.testBit_and, full_bit, not_bit _ _ (or_lt (and_lt ha.1) (and_lt ha.2)), Nat.testBit_or, Nat.testBit_and, Nat.testBit_and, not_bit _ _ hb.1, not_bit _ _ hb.2, decide_eq_true hj]
  cases a.1.testBit j <;> cases a.2.testBit j <;> cases b.1.testBit j <;> cases b.2.testBit j <;> rfl
theorem within_self {a : W2} (ha : a.in) (hm : mayW a = true) : withinW a a = full := by
  refine eq_of_bits (withinW_lt a a) (by unfold full; omega) fun j hj => ?_
  rw [within_bit ha ha hm hm hj, full_bit, decide_eq_true hj]
  cases a.1.testBit j <;> cases a.2.testBit j <;> rfl
theorem not_not {a : W2} (hm : mayW a = true) : notW (notW a) = a := by
  have h := notW_may hm
  have e : notW a = (a.2, a.1) := by unfold notW; rw [if_pos hm]
  unfold notW at h ⊢
  rw [if_pos hm] at h ⊢
  rw [if_pos h]
theorem within_not {a b : W2} (ha : a.in) (hb : b.in) (hma : mayW a = true) (hmb : mayW b = true) : withinW a b &&& (full - withinW (notW a) (notW b)) = 0 := by
  refine eq_of_bits (and_lt (withinW_lt a b)) (by omega) fun j hj => ?_
  rw [Nat.testBit_and, not_bit _ _ (withinW_lt _ _), within_bit ha hb hma hmb hj, within_bit (notW_in ha) (notW_in hb) (notW_may hma) (notW_may hmb) hj]
  unfold notW; rw [if_pos hma, if_pos hmb, decide_eq_true hj]
  cases a.1.testBit j <;> cases a.2.testBit j <;> cases b.1.testBit j <;> cases b.2.testBit j <;> simp
theorem within_and {a b c d : W2} (ha : a.in) (hb : b.in) (hc : c.in) (hd : d.in) (hma : mayW a = true) (hmb : mayW b = true) (hmc : mayW c = true) (hmd : mayW d = true) :
    (withinW a b &&& withinW c d) &&& (full - withinW (andW a c) (andW b d)) = 0 := by
  refine eq_of_bits (and_lt (and_lt (withinW_lt a b))) (by omega) fun j hj => ?_
  rw [Nat.testBit_and, Nat.testBit_and, not_bit _ _ (withinW_lt _ _), within_bit ha hb hma hmb hj, within_bit hc hd hmc hmd hj, within_bit (andW_in ha hc) (andW_in hb hd) (andW_may ha hc hma hmc) (andW_may hb hd hmb hmd) hj]
  unfold andW; rw [if_pos ⟨hma, hmc⟩, if_pos ⟨hmb, hmd⟩, decide_eq_true hj]
  simp only [Nat.testBit_or, Nat.testBit_and]
  cases a.1.testBit j <;> cases a.2.testBit j <;> cases b.1.testBit j <;> cases b.2.testBit j <;> cases c.1.testBit j <;> cases c.2.testBit j <;> cases d.1.testBit j <;> cases d.2.testBit j <;> simp
theorem within_back {a b : W2} (ha : a.in) (hb : b.in) (hma : mayW a = true) (hmb : mayW b = true) {k : Nat} (hk : k < 64) (h : (withinW a b &&& withinW b a).testBit k = true) : atW a k = atW b k := by
  rw [Nat.testBit_and, within_bit ha hb hma hmb hk, within_bit hb ha hmb hma hk] at h
  have h1 := (mayW_iff ha).1 hma k hk
  have h2 := (mayW_iff hb).1 hmb k hk
  unfold atW
  cases q1 : a.1.testBit k <;> cases q2 : a.2.testBit k <;> cases q3 : b.1.testBit k <;> cases q4 : b.2.testBit k <;> simp [q1, q2, q3, q4] at h h1 h2 ⊢
end Go.Proofs.Ytcoehbkjccfhlaa
/- Package sim, on plain lists: the values of a frame, the run, the verdict; over single values and over words alike. -/
namespace Go.Proofs.Ytcoehbkjccfhlaa
open Go Go.RowKit

/-- A kind of values. -/
structure Kd (V : Type) where
  z : V
  nt : V → V
  an : V → V → V

section
variable {V : Type} (k : Kd V)
/-- The value of a literal. -/
def Kd.val (vars : List V) (lit : Nat) : V := if lit % 2 = 1 then k.nt (vars.getD (lit / 2) k.z) else vars.getD (lit / 2) k.z
/-- The gates' values, one behind the other. -/
def Kd.gates : List (Nat × Nat) → List V → List V
  | [], vars => vars
  | g :: r, vars => Kd.gates r (vars ++ [k.an (k.val vars g.1) (k.val vars g.2)])
/-- The values of a frame. -/
def Kd.vars (c : NormC) (state inputs : List V) : List V := k.gates c.gates (k.z :: (inputs ++ state))
/-- The latches' next values. -/
def Kd.next (c : NormC) (vars : List V) : List V := c.lats.map fun l => k.val vars l.1
/-- The run. -/
def Kd.run (c : NormC) : List V → List (List V) → List (List V)
  | _, [] => []
  | st, f :: r => k.vars c st f :: Kd.run c (k.next c (k.vars c st f)) r
/-- The constraints of a frame. -/
def Kd.cons (vars : List V) (a : V) (l : List Nat) : V := l.foldl (fun a x => k.an a (k.val vars x)) a
/-- What all frames so far say, and what the last one says of the bad literal. -/
def Kd.sum (c : NormC) (bad : Nat) (p : V × V) (l : List (List V)) : V × V := l.foldl (fun p vars => (k.cons vars p.1 c.cons, k.val vars (c.bads.getD bad 0))) p
def Kd.verdict (c : NormC) (bad : Nat) (st : List V) (fs : List (List V)) : V := let p := k.sum c bad (k.nt k.z, k.z) (k.run c st fs); k.an p.1 p.2

theorem Kd.gates_len : ∀ (l : List (Nat × Nat)) (vars : List V), (k.gates l vars).length = vars.length + l.length
  | [], vars => rfl
  | g :: r, vars => by rw [Kd.gates, Kd.gates_len r]; simp; omega
theorem Kd.vars_len (c : NormC) (st ins : List V) : (k.vars c st ins).length = 1 + (ins.length + st.length) + c.gates.length := by
  unfold Kd.vars; rw [Kd.gates_len]; simp; omega
theorem Kd.next_len (c : NormC) (vars : List V) : (k.next c vars).length = c.lats.length := by unfold Kd.next; simp
theorem Kd.run_len (c : NormC) : ∀ (fs : List (List V)) (st : List V), (k.run c st fs).length = fs.length
  | [], st => rfl
  | f :: r, st => by rw [Kd.run, List.length_cons, Kd.run_len c r]; rfl
theorem Kd.gates_snoc : ∀ (l : List (Nat × Nat)) (g : Nat × Nat) (vars : List V), k.gates (l ++ [g]) vars = k.gates l vars ++ [k.an (k.val (k.gates l vars) g.1) (k.val (k.gates l vars) g.2)]
  | [], g, vars => rfl
  | h :: r, g, vars => by rw [List.cons_append, Kd.gates, Kd.gates_snoc r g]; rfl
/-- The latches behind some frames. -/
def Kd.after (c : NormC) : List V → List (List V) → List V
  | st, [] => st
  | st, f :: r => Kd.after c (k.next c (k.vars c st f)) r
theorem Kd.after_snoc (c : NormC) : ∀ (l : List (List V)) (f : List V) (st : List V), k.after c st (l ++ [f]) = k.next c (k.vars c (k.after c st l) f)
  | [], f, st => rfl
  | g :: r, f, st => by rw [List.cons_append, Kd.after, Kd.after_snoc c r f]; rfl
theorem Kd.run_snoc (c : NormC) : ∀ (l : List (List V)) (f : List V) (st : List V), k.run c st (l ++ [f]) = k.run c st l ++ [k.vars c (k.after c st l) f]
  | [], f, st => rfl
  | g :: r, f, st => by rw [List.cons_append, Kd.run, Kd.run_snoc c r f]; rfl
theorem Kd.sum_snoc (c : NormC) (bad : Nat) (p : V × V) (l : List (List V)) (vars : List V) : k.sum c bad p (l ++ [vars]) = (k.cons vars (k.sum c bad p l).1 c.cons, k.val vars (c.bads.getD bad 0)) := by
  unfold Kd.sum; rw [List.foldl_append]; rfl
theorem Kd.cons_snoc (vars : List V) (a : V) (l : List Nat) (x : Nat) : k.cons vars a (l ++ [x]) = k.an (k.cons vars a l) (k.val vars x) := by
  unfold Kd.cons; rw [List.foldl_append]; rfl
theorem Kd.after_len (c : NormC) : ∀ (fs : List (List V)) (st : List V), st.length = c.lats.length → (k.after c st fs).length = c.lats.length
  | [], st, h => h
  | f :: r, st, _ => by rw [Kd.after]; exact Kd.after_len c r _ (k.next_len c _)
end

/-- Single values. -/
def k1 : Kd UInt8 := ⟨0, fun v => UInt8.ofNat (not1 v.toNat), fun a b => UInt8.ofNat (and1 a.toNat b.toNat)⟩
theorem not1_le (v : Nat) : not1 v ≤ 2 := by unfold not1; split <;> (try split) <;> omega
theorem and1_le (a b : Nat) : and1 a b ≤ 2 := by unfold and1; split <;> (try split) <;> omega
theorem bv_not (v : UInt8) : bv (k1.nt v) = .int .u8 ((not1 v.toNat : Nat) : Int) := by
  have := not1_le v.toNat
  show Value.int .u8 ((UInt8.ofNat (not1 v.toNat)).toNat : Int) = _
  rw [UInt8.toNat_ofNat', Nat.mod_eq_of_lt (by omega)]
theorem bv_and (a b : UInt8) : bv (k1.an a b) = .int .u8 ((and1 a.toNat b.toNat : Nat) : Int) := by
  have := and1_le a.toNat b.toNat
  show Value.int .u8 ((UInt8.ofNat (and1 a.toNat b.toNat)).toNat : Int) = _
  rw [UInt8.toNat_ofNat', Nat.mod_eq_of_lt (by omega)]
/-- Words. -/
def kw : Kd W2 := ⟨zeroW, notW, andW⟩
end Go.Proofs.Ytcoehbkjccfhlaa
/- A range over a function whose body never leaves early, the iterator handing over slices in memory: the law of the statement. No function of the program is named here. -/
namespace Go.Proofs.Ytcoehbkjccfhlaa
open Go Go.RowKit Go.Joins

/-- Below base nothing has turned; nor any block of cells, but for those of type T and g1 and g2. -/
structure Kpt (base : Nat) (T : TypeId) (g1 g2 : Nat) (W W' : World) : Prop where
  low : Below base W W'
  mid : ∀ D C t fr, W.heap[D]? = some (.cells C t fr) → t ≠ T → D ≠ g1 → D ≠ g2 → W'.heap[D]? = some (.cells C t fr)
theorem Kpt.trans {base : Nat} {T : TypeId} {g1 g2 : Nat} {A B C : World} (h : Kpt base T g1 g2 A B) (k : Kpt base T g1 g2 B C) : Kpt base T g1 g2 A C :=
  ⟨h.low.trans k.low, fun D X t fr hD ht h1 h2 => k.mid D X t fr (h.mid D X t fr hD ht h1 h2) ht h1 h2⟩
theorem Kpt.below {base : Nat} {T : TypeId} {g1 g2 : Nat} {A B : World} (h : Below A.heap.size A B) (hb : base ≤ A.heap.size) : Kpt base T g1 g2 A B :=
  ⟨h.mono hb, fun _ _ _ _ hD _ _ _ => heap_below hD h⟩
theorem Kpt.put {base : Nat} {T : TypeId} {g1 g2 : Nat} (W : World) (l : Nat) (o o' : Obj) (hl : base ≤ l) (h : W.heap[l]? = some o) (ho : o.isCells = false) : Kpt base T g1 g2 W (W.putObj l o') :=
  ⟨(Below.refl _ W).grown (grownBy_putObj' W l o') (by have := (Array.getElem?_eq_some_iff.1 h).1; omega) (fun k e => by cases e; exact hl), fun D C t fr hD _ _ _ => by
    have : D ≠ l := fun e => by subst e; rw [h] at hD; cases hD; cases ho
    exact (World.putObj_heap_other this).trans hD⟩
theorem Kpt.set {base : Nat} {T : TypeId} {g1 g2 : Nat} (W : World) (p : Addr) (u : Value) (hp : base ≤ p.block) (hg : p.block = g1 ∨ p.block = g2) : Kpt base T g1 g2 W (W.setCell p u) :=
  ⟨(Below.refl _ W).setCell hp u, fun D C t fr hD _ h1 h2 => (Below.heap_setCell W p u D (by rcases hg with h | h <;> (rw [h]; assumption))).trans hD⟩

theorem keepsFrom_below {B : Nat} {W W' : World} (h : Below W.heap.size W W') : KeepsFrom B W W' := ⟨h.size, fun k _ _ hk _ => (h.block k (Array.getElem?_eq_some_iff.1 hk).1).trans hk⟩

/-- Abides new memory. -/
def News (I : Nat → World → Prop) : Prop := ∀ k A B, I k A → Below A.heap.size A B → I k B
/-- Abides the turn of what is no cells, from B on. -/
def Puts {β : Type} (B : Nat) (I : β → World → Prop) : Prop := ∀ k A l o o', I k A → B ≤ l → A.heap[l]? = some o → o.isCells = false → I k (A.putObj l o')

/-- What a round that goes on comes to. -/
def goesOn (B : Nat) (Kp : World → World → Prop) (R : World → Prop) (W : World) : Exit → Act → World → Prop
  | .normal, _, W' => KeepsFrom B W W' ∧ Kp W W' ∧ R W'
  | _, _, _ => False

section
variable {P : Program}
/-- What an iterator promises: N rounds, each goes on; the k-th is handed what E says. -/
def Iterates (P : Program) (gf : Nat) (lb : Array Value) (E : Nat → Array Value → World → Prop) (Kp : World → World → Prop) (N : Nat) (w : World) : Prop :=
  ∀ (l : Nat) (J : Nat → World → Prop) (W : World), News J →
    (∀ k xs W1, k < N → J k W1 → E k xs W1 → YieldAt Fence.wide 0 P l xs W1 fun e W' => e = .returned (.bool true) ∧ J (k + 1) W' ∧ Kp W1 W') →
    Below w.heap.size w W → J 0 W →
    CallsIn Fence.wide 0 P gf (#[.func (.yield l) #[] #[]] ++ lb) W fun e W' => (∃ v, e = .returned v) ∧ J N W'

theorem wp_rangeFunc {g : Operand} {ps : Array Tmp} {assign body : Code} {Q : Exit → Act → World → Prop} {a : Act} {w : World}
    {gf : Nat} {lb : Array Value} (hg : a.eval g = .func (.func gf) #[] lb) (eg : ∀ args w, (callFunc gf args).run P w = .ok (.enter gf args) w)
    {E : Nat → Array Value → World → Prop} {Kp : World → World → Prop} {N : Nat} (hseq : Iterates P gf lb E Kp N w)
    (hKt : ∀ {A B C : World}, Kp A B → Kp B C → Kp A C) (hKb : ∀ (W : World) (l : Nat) (o o' : Obj), w.heap.size ≤ l → W.heap[l]? = some o → o.isCells = false → Kp W (W.putObj l o'))
    (hps : ∀ k xs W, E k xs W → xs.size = ps.size) (hE : ∀ k, Puts w.heap.size (E k))
    (I : Nat → World → Prop) (hN : News I) (hP : Puts w.heap.size I) (h0 : I 0 w) (a₁ : Array Value → Act)
    (hassign : ∀ (l k : Nat) (xs : Array Value) (W : World) (K : Act → World → Prop), E k xs W → K (a₁ xs) W →
      assign.wpIn (Fence.wide.inRound l) 0 P (Exit.then K (fun _ _ _ => False)) { tmps := (ps.zip xs).foldl (fun t (p, v) => t.setIfInBounds p v) a.tmps, defers := [] } W)
    (hbody : ∀ (l k : Nat) (xs : Array Value) (W : World), k < N → I k W → E k xs W → body.wpIn (Fence.wide.inRound l) 0 P (goesOn w.heap.size Kp (I (k + 1)) W) (a₁ xs) W)
    (hdone : ∀ (D : Nat) (W : World), w.heap.size ≤ D → I N W → W.heap[D]? = some (.deferred (some [])) → Q .normal { a with defers := { target := .collected D, args := #[] } :: a.defers } W) :
    (Code.rangeFunc g ps assign body).wpIn Fence.wide 0 P Q a w := by
  refine wpIn_rangeFunc ?_
  intro fn hfn
  obtain ⟨rec, hrec⟩ : ∃ rec : LoopState → Option Code → Loop, rec = fun st pe => { state := st, pending := pe, fn, tmps := a.tmps, params := ps, assign, body, defers := w.heap.size } := ⟨_, rfl⟩
  obtain ⟨W1, hW1⟩ : ∃ W1, (w.alloc (.deferred (some []))).alloc (.loop (rec .ready none)) = W1 := ⟨_, rfl⟩
  have hL1 : W1.heap[w.heap.size + 1]? = some (.loop (rec .ready none)) := by
    rw [← hW1]; have := World.alloc_heap_new (w.alloc (.deferred (some []))) (.loop (rec .ready none)); rwa [World.size_alloc] at this
  have hK1 : W1.heap[w.heap.size]? = some (.deferred (some [])) := by
    rw [← hW1]; exact (Below.heap_alloc _ _ _ (by simp)).trans (World.alloc_heap_new w _)
  have hb1 : Below w.heap.size w W1 := by rw [← hW1]; exact ext_trans (ext_alloc _ _) (ext_alloc _ _)
  have hI1 : I 0 W1 := hN _ _ _ h0 hb1
  refine ⟨w.heap.size + 1, [{ target := .collected w.heap.size, args := #[] }], W1, { target := .fn (.func gf) lb, args := #[.func (.yield (w.heap.size + 1)) #[] #[]] }, W1, gf,
    #[.func (.yield (w.heap.size + 1)) #[] #[]] ++ lb, W1, ?_, ?_, ?_, ?_, fun h => by simp [Fence.wide] at h, ?_⟩
  · rw [← hW1, hrec]; exact run_enterLoop_outer _ _ _ _ _
  · simp only [resolve, hg]
    simp [go_sem]
  · intro f' _; exact trivial
  · simp [invoke, go_sem, eg]
  · refine (hseq (w.heap.size + 1)
      (fun k W => I k W ∧ W.heap[w.heap.size + 1]? = some (.loop (rec .ready none)) ∧ W.heap[w.heap.size]? = some (.deferred (some [])))
      W1 (fun k A B hs hb => ⟨hN k A B hs.1 hb, heap_below hs.2.1 hb, heap_below hs.2.2 hb⟩) ?_ hb1 ⟨hI1, hL1, hK1⟩).mono ?_
    · rintro k xs W hkN ⟨hi, hl, hk⟩ he
      have hlt : w.heap.size + 1 < W.heap.size := (Array.getElem?_eq_some_iff.1 hl).1
      have hy := run_yield (P := P) (args := xs) hl (by rw [hrec]; exact hps k xs W he)
      rw [hrec] at hy
      refine ⟨fn, _, assign, body, hy, roundIn_of_wpIn hfn (hassign _ k xs W _ he ⟨_, run_beginRound hl (by rw [hrec]), ?_⟩)⟩
      have hl2 : (W.putObj (w.heap.size + 1) (.loop { rec .ready none with state := .busy })).heap[w.heap.size + 1]? = some (.loop { rec .ready none with state := .busy }) := World.putObj_heap_same hlt
      have hk2 : (W.putObj (w.heap.size + 1) (.loop { rec .ready none with state := .busy })).heap[w.heap.size]? = some (.deferred (some [])) := (World.putObj_heap_other (by omega)).trans hk
      have hw2 : Kp W (W.putObj (w.heap.size + 1) (.loop { rec .ready none with state := .busy })) := hKb _ _ _ _ (by omega) hl rfl
      refine wpIn_mono (hbody _ k xs _ hkN (hP k W _ _ _ hi (by omega) hl rfl) (hE k xs W _ _ _ he (by omega) hl rfl)) ?_
      rintro e a3 W3 hp
      cases e with
      | normal =>
        obtain ⟨hk3, hkp3, hi3⟩ := hp
        have hl3 := hk3.same _ _ (by omega) hl2 rfl
        have hd3 := hk3.same _ _ (Nat.le_refl _) hk2 rfl
        have hr := run_endRound (P := P) none hl3
        rw [hrec] at hr
        have hl3' := hl3
        rw [hrec] at hl3'
        refine ⟨_, _, hr, rfl, ⟨hP _ _ _ _ _ hi3 (by omega) hl3 rfl, ?_, (World.putObj_heap_other (by omega)).trans hd3⟩, hKt (hKt hw2 hkp3) (hKb _ _ _ _ (by omega) hl3 rfl)⟩
        rw [World.putObj_heap_same (Array.getElem?_eq_some_iff.1 hl3).1, hrec]
        rfl
      | ret => exact hp.elim
      | exit id => exact hp.elim
      | goto t => exact hp.elim
      | panic ch => exact hp.elim
      | outgrown => exact hp.elim
    · rintro e W2 ⟨⟨v, rfl⟩, hi, hl, hk⟩
      exact ⟨none, _, by have := run_endLoop (P := P) hl (by rw [hrec]; simp); rw [hrec] at this; exact this, hdone _ _ (Nat.le_refl _) (hP _ _ _ _ _ hi (by omega) hl rfl) ((World.putObj_heap_other (by omega)).trans hk)⟩
end
end Go.Proofs.Ytcoehbkjccfhlaa
namespace Go.Proofs.Ytcoehbkjccfhlaa
open Go Go.RowKit Go.Joins
attribute [local go_sem] Oper.semAt_some

/-- A slice of bytes that lies in old memory, or in a row of its own from B on. -/
def StOk (base B : Nat) (W : World) (a : Option Addr) (n c : Nat) (xs : List Value) : Prop :=
  Sees W a n c xs ∧ ((0 < n → ∀ b off, a = some ⟨b, off, none⟩ → b < base) ∨ Row isByte W B 5 (.slice a n c) n xs)
theorem StOk.below {base B : Nat} {W W' : World} {a : Option Addr} {n c : Nat} {xs : List Value} (h : StOk base B W a n c xs) (hb : Below W.heap.size W W') : StOk base B W' a n c xs :=
  ⟨h.1.below hb, h.2.imp id (fun h => h.below hb)⟩
theorem StOk.kpt {base B g1 g2 : Nat} {T : TypeId} {W W' : World} {a : Option Addr} {n c : Nat} {xs : List Value} (h : StOk base B W a n c xs) (hk : Kpt base T g1 g2 W W') (hT : 5 ≠ T) (h1 : g1 < B) (h2 : g2 < B) : StOk base B W' a n c xs := by
  rcases h.2 with h3 | h3
  · refine ⟨⟨h.1.len, h.1.cap, h.1.nilc, fun h0 => ?_⟩, .inl h3⟩
    obtain ⟨b, off, e, hlt, hc⟩ := h.1.real h0
    have hb := h3 h0 b off e
    exact ⟨b, off, e, Nat.lt_of_lt_of_le hlt hk.low.size, fun j hj => (hk.low.cell (p := ⟨b, off + j, none⟩) hb).trans (hc j hj)⟩
  · have h4 : Row isByte W' B 5 (.slice a n c) n xs := h3.other fun q hq => by
      obtain ⟨hl, rest⟩ := h3
      rcases rest with ⟨e, _⟩ | ⟨g, cap, cur, e, hg, hh, _⟩
      · rw [e] at hq; cases hq
      · rw [e] at hq
        have : g = q := by simpa [Value.ownBlock] using hq
        subst this
        exact (hk.mid g cur _ _ hh hT (by omega) (by omega)).trans hh.symm
    exact ⟨(row_sees_slice h4).2, .inr h4⟩

/-- What the k-th round is handed. -/
def ElemAt (B : Nat) (V : Nat → List UInt8) (k : Nat) (xs : Array Value) (W : World) : Prop :=
  ∃ a cp, xs = #[.slice a (V k).length cp] ∧ Row isByte W B 5 (.slice a (V k).length cp) (V k).length ((V k).map bv)
theorem elem_puts (B : Nat) (V : Nat → List UInt8) (N : Nat) (k : Nat) : Puts N (ElemAt B V k) := by
  rintro xs A l o o' ⟨a, cp, e, hr⟩ _ hl ho
  refine ⟨a, cp, e, hr.other fun q hq => ?_⟩
  rcases hr.2 with ⟨h1, _⟩ | ⟨g, cap, cur, h1, _, h2, _⟩
  · rw [h1] at hq; cases hq
  · rw [h1] at hq
    have : g = q := by simpa [Value.ownBlock] using hq
    subst this
    exact World.putObj_heap_other (fun e => by subst e; rw [hl] at h2; cases h2; cases ho)

/-- The values of the k-th frame. -/
def varsAt (c : NormC) (t : TraceC) (k : Nat) : List UInt8 := k1.vars c (k1.after c t.init (t.frames.take k)) (t.frames.getD k [])

end Go.Proofs.Ytcoehbkjccfhlaa
