/- Cells by a function of the place. -/
import Derived.Test.YtcoehbkjccfhlaaGEncT00
import Derived.Test.YtcoehbkjccfhlaaGEncT01
import Derived.Test.YtcoehbkjccfhlaaRows
import Derived.BigQuiet
import Derived.Deep.AppendLies
import Derived.Deep.QuietTactic
import Derived.Deep.RegionLaw
import Derived.Deep.RegionWith
import Derived.KernelRfl
import Derived.Laws.EntriesVeiled
import Derived.Lib.ConvBytes
import Derived.Lib.Hide
import Derived.Lib.SlBytesRow
import Derived.Lib.SmallJoins
import Derived.Shelf.Bytes.SlSmallAll
import Derived.WalkKit
import Derived.WalkLawsBesides
import Derived.WalkSpells
/- Lists of ints, and lists of such lists, as slices. -/
namespace Go.Proofs.Ytcoehbkjccfhlaa
open Go Go.RowKit Go.Joins

theorem info_int : (Try.prog.info? 3).map (fun i => (i.zero, i.size, i.bytes)) = some (some (.int .i64 0), 1, 8) := by kernel_rfl
theorem info_ints : (Try.prog.info? 45).map (fun i => (i.zero, i.size, i.bytes)) = some (some (.slice none 0 0), 1, 24) := by kernel_rfl
theorem size_int : ∀ w, (sizeOf 3).run Try.prog w = .ok 1 w := fun w => by
  obtain ⟨i0, hi, hz0, hz1, hz2⟩ := info_parts info_int
  simp [sizeOf, typeInfo, hi, hz1]
/-- The cells of ints. -/
def zvs (L : List Int) : List Value := L.map (Value.int .i64)
theorem zvs_len (L : List Int) : (zvs L).length = L.length := by simp [zvs]
theorem Sees.zlen {w : World} {a : Option Addr} {n c : Nat} {L : List Int} (h : Sees w a n c (zvs L)) : L.length = n := by have := h.len; rw [zvs_len] at this; exact this
theorem Sees.z_at {w : World} {b off n c : Nat} {L : List Int} (h : Sees w (some ⟨b, off, .none⟩) n c (zvs L)) (j : Nat) (hj : j < n) : w.cell? ⟨b, off + j, .none⟩ = some (.int .i64 (L.getD j 0)) := by
  have hl := h.zlen
  rw [(h.cell j hj).2]
  simp [zvs, List.getD, List.getElem?_eq_getElem (show j < L.length by omega)]
def isZ (u : Value) : Prop := ∃ z : Int, u = .int .i64 z
theorem isZ_zvs (L : List Int) : ∀ u ∈ zvs L, isZ u := fun u hu => by
  obtain ⟨z, _, rfl⟩ := List.mem_map.1 hu
  exact ⟨z, rfl⟩
theorem zvs_one (L : List Int) : ∀ u ∈ zvs L, u.oneCell' = true := fun u hu => by
  obtain ⟨z, _, rfl⟩ := List.mem_map.1 hu
  rfl
theorem getD_memZ {L : List Int} {k : Nat} (h : k < L.length) : L.getD k 0 ∈ L := by simp [List.getD, List.getElem?_eq_getElem h]
theorem getD_memL {L : List (List Int)} {k : Nat} (h : k < L.length) : L.getD k [] ∈ L := by simp [List.getD, List.getElem?_eq_getElem h]

theorem getD_appL {α : Type} {l m : List α} {d : α} {i : Nat} (h : i < l.length) : (l ++ m).getD i d = l.getD i d := by simp only [List.getD]; rw [List.getElem?_append_left h]
theorem getD_appE {α : Type} {l : List α} {x d : α} : (l ++ [x]).getD l.length d = x := by simp [List.getD]

/-- A slice's parts. -/
abbrev ZSlc := Option Addr × Nat × Nat
def zsV (s : ZSlc) : Value := .slice s.1 s.2.1 s.2.2
def zs0 : ZSlc := (none, 0, 0)
/-- The slice (a, n, c) of slices reads as these lists of ints. -/
structure SeesZ (w : World) (a : Option Addr) (n c : Nat) (ss : List ZSlc) (L : List (List Int)) : Prop where
  row : Sees w a n c (ss.map zsV)
  len : ss.length = L.length
  each : ∀ k, k < L.length → Sees w (ss.getD k zs0).1 (ss.getD k zs0).2.1 (ss.getD k zs0).2.2 (zvs (L.getD k []))
theorem SeesZ.below {w w' : World} {a : Option Addr} {n c : Nat} {ss : List ZSlc} {L : List (List Int)} (h : SeesZ w a n c ss L) (hb : Below w.heap.size w w') : SeesZ w' a n c ss L :=
  ⟨h.row.below hb, h.len, fun k hk => (h.each k hk).below hb⟩
theorem SeesZ.zlen {w : World} {a : Option Addr} {n c : Nat} {ss : List ZSlc} {L : List (List Int)} (h : SeesZ w a n c ss L) : L.length = n := h.len.symm.trans h.row.lenMap
theorem SeesZ.cellAt {w : World} {b off n c : Nat} {ss : List ZSlc} {L : List (List Int)} (h : SeesZ w (some ⟨b, off, .none⟩) n c ss L) (j : Nat) (hj : j < n) :
    w.cell? ⟨b, off + j, .none⟩ = some (.slice (ss.getD j zs0).1 (ss.getD j zs0).2.1 (ss.getD j zs0).2.2) := by
  have hl : ss.length = n := h.row.lenMap
  rw [(h.row.cell j hj).2]
  simp [zsV, List.getD, List.getElem?_eq_getElem (show j < ss.length by omega)]
theorem SeesZ.nil (w : World) : SeesZ w none 0 0 [] [] := ⟨Sees.nil _ _ _ (fun _ => rfl), rfl, fun k hk => absurd hk (by simp)⟩
theorem SeesZ.addr {w : World} {a : Option Addr} {n c : Nat} {ss : List ZSlc} {L : List (List Int)} (h : SeesZ w a n c ss L) (h0 : 0 < n) : ∃ b off, a = some ⟨b, off, .none⟩ ∧ b < w.heap.size := h.row.addr h0
/-- The k-th of them. -/
theorem SeesZ.one {w : World} {a : Option Addr} {n c : Nat} {ss : List ZSlc} {L : List (List Int)} (h : SeesZ w a n c ss L) {k : Nat} (hk : k < n) : ∃ a' n' c', ss.getD k zs0 = (a', n', c') ∧ Sees w a' n' c' (zvs (L.getD k [])) :=
  ⟨_, _, _, rfl, h.each k (by rw [h.zlen]; exact hk)⟩
/-- All lists, and there are not too many: they are of a size that can be. -/
def SmallZ (L : List (List Int)) : Prop := ∀ c ∈ L, c.length ≤ 9223372036854775807

/-- slices.IndexFunc's answer. -/
def IdxQ {α : Type} (p : α → Bool) (l : List α) (w : World) (e : Ending) (w' : World) : Prop := ∃ z : Int, e = .returned (.int .i64 z) ∧ -1 ≤ z ∧ (0 ≤ z ↔ l.any p = true) ∧ Below w.heap.size w w'
theorem any_upto {α : Type} {p : α → Bool} {l : List α} {d : α} (h : ∀ j, j < l.length → p (l.getD j d) = false) : l.any p = false := by
  rw [List.any_eq_false]
  intro x hx
  obtain ⟨i, hi, rfl⟩ := List.getElem_of_mem hx
  have := h i hi
  simp only [List.getD, List.getElem?_eq_getElem hi, Option.getD_some] at this
  rw [this]; simp
theorem any_at {α : Type} {p : α → Bool} {l : List α} {d : α} {k : Nat} (hk : k < l.length) (h : p (l.getD k d) = true) : l.any p = true := by
  rw [List.any_eq_true]
  refine ⟨l[k], List.getElem_mem hk, ?_⟩
  simpa only [List.getD, List.getElem?_eq_getElem hk, Option.getD_some] using h
end Go.Proofs.Ytcoehbkjccfhlaa
/- Words of 64 values, each 0, 1 or X, as two numbers of 64 bits, on plain numbers: what the package tern answers, and its laws place by place. -/
namespace Go.Proofs.Ytcoehbkjccfhlaa
open Go

/-- 2^64 - 1. -/
abbrev full : Nat := 18446744073709551615
theorem full_bit (j : Nat) : full.testBit j = decide (j < 64) := Nat.testBit_two_pow_sub_one 64 j
theorem clear_bit (i j : Nat) (hi : i < 64) : (full - 2 ^ i).testBit j = (decide (j < 64) && decide (j ≠ i)) := by
  have h : full - 2 ^ i = 2 ^ 64 - (2 ^ i + 1) := by unfold full; omega
  rw [h, Nat.testBit_two_pow_sub_succ (Nat.pow_lt_pow_right (by omega) hi), Nat.testBit_two_pow]
  by_cases e : i = j
  · subst e; simp
  · have e' : ¬ j = i := fun h => e h.symm
    simp [e, e']
theorem not_bit (n j : Nat) (hn : n < 18446744073709551616) : (full - n).testBit j = (decide (j < 64) && !n.testBit j) := by
  have h : full - n = 2 ^ 64 - (n + 1) := by unfold full; omega
  rw [h, Nat.testBit_two_pow_sub_succ (by omega)]
theorem big_bit {n : Nat} (hn : n < 18446744073709551616) {j : Nat} (hj : 64 ≤ j) : n.testBit j = false :=
  Nat.testBit_lt_two_pow (Nat.lt_of_lt_of_le hn (Nat.pow_le_pow_right (n := 2) (by omega) hj))
theorem one_bit (b : Bool) (i j : Nat) : (b.toNat * 2 ^ i).testBit j = (b && decide (i = j)) := by
  cases b
  · simp
  · simp [Nat.testBit_two_pow]
theorem eq_of_bits {a b : Nat} (ha : a < 18446744073709551616) (hb : b < 18446744073709551616) (h : ∀ j, j < 64 → a.testBit j = b.testBit j) : a = b := by
  apply Nat.eq_of_testBit_eq
  intro j
  by_cases hj : j < 64
  · exact h j hj
  · rw [big_bit ha (by omega), big_bit hb (by omega)]
theorem and_lt {a b : Nat} (ha : a < 18446744073709551616) : a &&& b < 18446744073709551616 := Nat.lt_of_le_of_lt Nat.and_le_left ha
theorem or_lt {a b : Nat} (ha : a < 18446744073709551616) (hb : b < 18446744073709551616) : a ||| b < 18446744073709551616 := Nat.or_lt_two_pow (n := 64) ha hb
theorem pow_lt {i : Nat} (hi : i < 64) : 2 ^ i < 18446744073709551616 := Nat.pow_lt_pow_right (n := 64) (a := 2) (by omega) hi
theorem oneb_lt (b : Bool) {i : Nat} (hi : i < 64) : b.toNat * 2 ^ i < 18446744073709551616 := by
  have := pow_lt hi
  cases b <;> simp <;> omega

/-- A word: what may be 0, what may be 1. -/
abbrev W2 := Nat × Nat
def W2.in (w : W2) : Prop := w.1 < 18446744073709551616 ∧ w.2 < 18446744073709551616
def wv (w : W2) : Value := .agg #[.int .u64 (w.1 : Int), .int .u64 (w.2 : Int)]

/-- May. -/
def mayW (w : W2) : Bool := decide (w.1 ||| w.2 = full)
theorem mayW_iff {w : W2} (hw : w.in) : mayW w = true ↔ ∀ j, j < 64 → w.1.testBit j = true ∨ w.2.testBit j = true := by
  unfold mayW
  rw [decide_eq_true_iff]
  constructor
  · intro h j hj
    have := congrArg (fun n => n.testBit j) h
    simp only [full_bit, Nat.testBit_or, decide_eq_true hj] at this
    simpa using this
  · intro h
    apply eq_of_bits (or_lt hw.1 hw.2) (by unfold full; omega)
    intro j hj
    rw [Nat.testBit_or, full_bit, decide_eq_true hj]
    simpa using h j hj

/-- The value at a place. -/
def atW (w : W2) (i : Nat) : Nat := if w.2.testBit i = false then 0 else if w.1.testBit i = false then 1 else 2
theorem atW_le (w : W2) (i : Nat) : atW w i ≤ 2 := by unfold atW; split <;> (try split) <;> omega
/-- What may be 0, what may be 1, of a value. -/
def bz (v : Nat) : Bool := decide (v ≠ 1)
def bo (v : Nat) : Bool := decide (v ≠ 0)
theorem at_bits {w : W2} (hw : w.in) (hm : mayW w = true) {i : Nat} (hi : i < 64) : w.1.testBit i = bz (atW w i) ∧ w.2.testBit i = bo (atW w i) := by
  have h := (mayW_iff hw).1 hm i hi
  unfold atW bz bo
  cases h1 : w.1.testBit i <;> cases h2 : w.2.testBit i <;> simp [h1, h2] at h ⊢

/-- One bit put. -/
def putB (n i : Nat) (b : Bool) : Nat := (n &&& (full - 2 ^ i)) ||| b.toNat * 2 ^ i
theorem putB_lt {n i : Nat} {b : Bool} (hn : n < 18446744073709551616) (hi : i < 64) : putB n i b < 18446744073709551616 := or_lt (and_lt hn) (oneb_lt b hi)
theorem putB_bit {n i : Nat} {b : Bool} (hi : i < 64) {j : Nat} (hj : j < 64) : (putB n i b).testBit j = if i = j then b else n.testBit j := by
  unfold putB
  rw [Nat.testBit_or, Nat.testBit_and, clear_bit i j hi, one_bit, decide_eq_true hj]
  by_cases e : i = j
  · subst e; simp
  · have e' : ¬ j = i := fun h => e h.symm
    simp [e, e']
/-- With, of a place and a value that are. -/
def putW (w : W2) (i v : Nat) : W2 := (putB w.1 i (bz v), putB w.2 i (bo v))
theorem putW_in {w : W2} (hw : w.in) {i v : Nat} (hi : i < 64) : (putW w i v).in := ⟨putB_lt hw.1 hi, putB_lt hw.2 hi⟩
theorem bz_bo (v : Nat) : bz v = true ∨ bo v = true := by
  unfold bz bo
  simp
  omega
theorem putW_may {w : W2} (hw : w.in) (hm : mayW w = true) {i v : Nat} (hi : i < 64) : mayW (putW w i v) = true := by
  rw [mayW_iff (putW_in hw hi)]
  intro j hj
  show (putB _ _ _).testBit j = true ∨ (putB _ _ _).testBit j = true
  rw [putB_bit hi hj, putB_bit hi hj]
  by_cases e : i = j
  · simp only [e, if_true]; exact bz_bo v
  · simp only [e, if_false]; exact (mayW_iff hw).1 hm j hj
theorem atW_put {w : W2} {i v : Nat} (hi : i < 64) (hv : v ≤ 2) : atW (putW w i v) i = v := by
  unfold atW putW
  rw [putB_bit hi hi, putB_bit hi hi, if_pos rfl, if_pos rfl]
  rcases (show v = 0 ∨ v = 1 ∨ v = 2 by omega) with rfl | rfl | rfl <;> rfl
theorem W2.ext {a b : W2} (ha : a.in) (hb : b.in) (h : ∀ j, j < 64 → a.1.testBit j = b.1.testBit j ∧ a.2.testBit j = b.2.testBit j) : a = b :=
  Prod.ext (eq_of_bits ha.1 hb.1 fun j hj => (h j hj).1) (eq_of_bits ha.2 hb.2 fun j hj => (h j hj).2)
theorem put_back {w : W2} (hw : w.in) (hm : mayW w = true) {i v : Nat} (hi : i < 64) : putW (putW w i v) i (atW w i) = w := by
  refine W2.ext (putW_in (putW_in hw hi) hi) hw fun j hj => ?_
  show (putB (putB _ _ _) _ _).testBit j = _ ∧ (putB (putB _ _ _) _ _).testBit j = _
  rw [putB_bit hi hj, putB_bit hi hj, putB_bit hi hj, putB_bit hi hj]
  have h := at_bits hw hm hi
  by_cases e : i = j
  · subst e; simp only [if_true]; exact ⟨h.1.symm, h.2.symm⟩
  · simp [e]

/-- All values 0. -/
def zeroW : W2 := (full, 0)
def notW (w : W2) : W2 := if mayW w = true then (w.2, w.1) else zeroW
def andW (a b : W2) : W2 := if mayW a = true ∧ mayW b = true then (a.1 ||| b.1, a.2 &&& b.2) else zeroW
def withinW (a b : W2) : Nat := if mayW a = true ∧ mayW b = true then full &&& (full - ((a.1 &&& (full - b.1)) ||| (a.2 &&& (full - b.2)))) else 0
/-- Not1, And1. -/
def not1 (v : Nat) : Nat := if v = 0 then 1 else if v = 1 then 0 else 2
def and1 (a b : Nat) : Nat := if a = 0 ∨ b = 0 then 0 else if a = 1 ∧ b = 1 then 1 else 2

theorem zeroW_in : zeroW.in := ⟨by unfold zeroW full; omega, by unfold zeroW; omega⟩
theorem notW_in {w : W2} (hw : w.in) : (notW w).in := by unfold notW; split; exact ⟨hw.2, hw.1⟩; exact zeroW_in
theorem andW_in {a b : W2} (ha : a.in) (hb : b.in) : (andW a b).in := by unfold andW; split; exact ⟨or_lt ha.1 hb.1, and_lt ha.2⟩; exact zeroW_in
theorem zeroW_may : mayW zeroW = true := by decide
theorem notW_may {w : W2} (hm : mayW w = true) : mayW (notW w) = true := by
  unfold notW; rw [if_pos hm]
  unfold mayW at hm ⊢
  rw [decide_eq_true_iff] at hm ⊢
  show w.2 ||| w.1 = full
  rw [Nat.or_comm]; exact hm
theorem andW_may {a b : W2} (ha : a.in) (hb : b.in) (hma : mayW a = true) (hmb : mayW b = true) : mayW (andW a b) = true := by
  rw [mayW_iff (andW_in ha hb)]
  intro j hj
  unfold andW
  rw [if_pos ⟨hma, hmb⟩]
  simp only [Nat.testBit_or, Nat.testBit_and]
  have h1 := (mayW_iff ha).1 hma j hj
  have h2 := (mayW_iff hb).1 hmb j hj
  revert h1 h2
  cases a.1.testBit j <;> cases a.2.testBit j <;> cases b.1.testBit j <;> cases b.2.testBit j <;> simp
theorem at_not {w : W2} (hw : w.in) (hm : mayW w = true) {k : Nat} (hk : k < 64) : atW (notW w) k = not1 (atW w k) := by
  have h := (mayW_iff hw).1 hm k hk
  unfold notW; rw [if_pos hm]
  unfold atW not1
  cases h1 : w.1.testBit k <;> cases h2 : w.2.testBit k <;> simp [h1, h2] at h ⊢
theorem at_and {a b : W2} (ha : a.in) (hb : b.in) (hma : mayW a = true) (hmb : mayW b = true) {k : Nat} (hk : k < 64) : atW (andW a b) k = and1 (atW a k) (atW b k) := by
  have h1 := (mayW_iff ha).1 hma k hk
  have h2 := (mayW_iff hb).1 hmb k hk
  unfold andW; rw [if_pos ⟨hma, hmb⟩]
  unfold atW and1
  simp only [Nat.testBit_or, Nat.testBit_and]
  cases q1 : a.1.testBit k <;> cases q2 : a.2.testBit k <;> cases q3 : b.1.testBit k <;> cases q4 : b.2.testBit k <;> simp [q1, q2, q3, q4] at h1 h2 ⊢

theorem withinW_lt (a b : W2) : withinW a b < 18446744073709551616 := by
  unfold withinW; split
  · exact and_lt (by unfold full; omega)
  · omega
theorem within_bit {a b : W2} (ha : a.in) (hb : b.in) (hma : mayW a = true) (hmb : mayW b = true) {j : Nat} (hj : j < 64) :
    (withinW a b).testBit j = (!(a.1.testBit j && !b.1.testBit j) && !(a.2.testBit j && !b.2.testBit j)) := by
  unfold withinW; rw [if_pos ⟨hma, hmb⟩, Nat.testBit_and, full_bit, not_bit _ _ (or_lt (and_lt ha.1) (and_lt ha.2)), Nat.testBit_or, Nat.testBit_and, Nat.testBit_and, not_bit _ _ hb.1, not_bit _ _ hb.2, decide_eq_true hj]
  cases a.1.testBit j <;> cases a.2.testBit j <;> cases b.1.testBit j <;> cases b.2.testBit j <;> rfl
theorem within_self {a : W2} (ha : a.in) (hm : mayW a = true) : withinW a a = full := by
  refine eq_of_bits (withinW_lt a a) (by unfold full; omega) fun j hj => ?_
  rw [within_bit ha ha hm hm hj, full_bit, decide_eq_true hj]
  cases a.1.testBit j <;> cases a.2.testBit j <;> rfl
theorem not_not {a : W2} (hm : mayW a = true) : notW (notW a) = a := by
  have h := notW_may hm
  have e : notW a = (a.2, a.1) := by unfold notW; rw [if_pos hm]
  unfold notW at h ⊢
  rw [if_pos hm] at h ⊢
  rw [if_pos h]
theorem within_not {a b : W2} (ha : a.in) (hb : b.in) (hma : mayW a = true) (hmb : mayW b = true) : withinW a b &&& (full - withinW (notW a) (notW b)) = 0 := by
  refine eq_of_bits (and_lt (withinW_lt a b)) (by omega) fun j hj => ?_
  rw [Nat.testBit_and, not_bit _ _ (withinW_lt _ _), within_bit ha hb hma hmb hj, within_bit (notW_in ha) (notW_in hb) (notW_may hma) (notW_may hmb) hj]
  unfold notW; rw [if_pos hma, if_pos hmb, decide_eq_true hj]
  cases a.1.testBit j <;> cases a.2.testBit j <;> cases b.1.testBit j <;> cases b.2.testBit j <;> simp
theorem within_and {a b c d : W2} (ha : a.in) (hb : b.in) (hc : c.in) (hd : d.in) (hma : mayW a = true) (hmb : mayW b = true) (hmc : mayW c = true) (hmd : mayW d = true) :
    (withinW a b &&& withinW c d) &&& (full - withinW (andW a c) (andW b d)) = 0 := by
  refine eq_of_bits (and_lt (and_lt (withinW_lt a b))) (by omega) fun j hj => ?_
  rw [Nat.testBit_and, Nat.testBit_and, not_bit _ _ (withinW_lt _ _), within_bit ha hb hma hmb hj, within_bit hc hd hmc hmd hj, within_bit (andW_in ha hc) (andW_in hb hd) (andW_may ha hc hma hmc) (andW_may hb hd hmb hmd) hj]
  unfold andW; rw [if_pos ⟨hma, hmc⟩, if_pos ⟨hmb, hmd⟩, decide_eq_true hj]
  simp only [Nat.testBit_or, Nat.testBit_and]
  cases a.1.testBit j <;> cases a.2.testBit j <;> cases b.1.testBit j <;> cases b.2.testBit j <;> cases c.1.testBit j <;> cases c.2.testBit j <;> cases d.1.testBit j <;> cases d.2.testBit j <;> simp
theorem within_back {a b : W2} (ha : a.in) (hb : b.in) (hma : mayW a = true) (hmb : mayW b = true) {k : Nat} (hk : k < 64) (h : (withinW a b &&& withinW b a).testBit k = true) : atW a k = atW b k := by
  rw [Nat.testBit_and, within_bit ha hb hma hmb hk, within_bit hb ha hmb hma hk] at h
  have h1 := (mayW_iff ha).1 hma k hk
  have h2 := (mayW_iff hb).1 hmb k hk
  unfold atW
  cases q1 : a.1.testBit k <;> cases q2 : a.2.testBit k <;> cases q3 : b.1.testBit k <;> cases q4 : b.2.testBit k <;> simp [q1, q2, q3, q4] at h h1 h2 ⊢
end Go.Proofs.Ytcoehbkjccfhlaa
/- inquestref00.Bytes, by its contract. -/
namespace Go.Proofs.Ytcoehbkjccfhlaa
open Go Go.RowKit

set_option maxRecDepth 100000 in
set_option maxHeartbeats 400000 in
theorem bytes_any (bs cs : List UInt8) (a a' : Option Addr) (n c n' c' : Nat) (w : World) (h : Sees w a n c (bs.map bv)) (h' : Sees w a' n' c' (cs.map bv)) :
    Calls Try.prog 52 #[.slice a n c, .slice a' n' c'] w fun e w' => e = .returned (.bool (bs == cs)) ∧ w = w' := by
  have q1 := h.str (P := Try.prog) 27 5 9 Try.underlying27 Try.underlying5 Try.underlying9
  have q2 := h'.str (P := Try.prog) 27 5 9 Try.underlying27 Try.underlying5 Try.underlying9
  clear h h'
  go_enter Try.func52, Try.ntmps52
  go_wp2
  go_ret
  exact ⟨by simp [str], rfl⟩
end Go.Proofs.Ytcoehbkjccfhlaa
namespace Go.Proofs.Ytcoehbkjccfhlaa
open Go Go.RowKit

/-- N cells, by a function of their places. -/
def fcells (N : Nat) (f : Nat → Value) : Array Value := ((List.range N).map f).toArray
theorem fcells_get (N : Nat) (f : Nat → Value) (i : Nat) (h : i < N) : (fcells N f)[i]? = some (f i) := by
  simp [fcells, h]
theorem fcells_set (N : Nat) (f : Nat → Value) (i : Nat) (x : Value) : (fcells N f).setIfInBounds i x = fcells N (fun j => if j = i then x else f j) := by
  apply Array.ext_getElem?
  intro j
  rw [Array.getElem?_setIfInBounds]
  by_cases h : j < N
  · rw [fcells_get N f j h, fcells_get N (fun j => if j = i then x else f j) j h]
    by_cases e : i = j
    · subst e; simp [fcells, h]
    · rw [if_neg e, if_neg (fun h => e h.symm)]
  · have e1 : ∀ g : Nat → Value, (fcells N g)[j]? = none := fun g => by simp [fcells]; omega
    rw [e1, e1]
    split
    · rw [if_neg (by simp [fcells]; omega)]
    · rfl
theorem fcells_congr {N : Nat} {f g : Nat → Value} (h : ∀ i, i < N → f i = g i) : fcells N f = fcells N g := by
  unfold fcells
  congr 1
  exact List.map_congr_left (fun i hi => h i (List.mem_range.1 hi))
theorem fcells_size (N : Nat) (f : Nat → Value) : (fcells N f).size = N := by simp [fcells]
theorem fcells_zero (N : Nat) (z : Value) : zeros z N = fcells N (fun _ => z) := by
  apply Array.ext_getElem?
  intro j
  by_cases h : j < N
  · rw [fcells_get N _ j h]; simp [zeros, h]
  · simp [zeros, fcells, h]
end Go.Proofs.Ytcoehbkjccfhlaa
