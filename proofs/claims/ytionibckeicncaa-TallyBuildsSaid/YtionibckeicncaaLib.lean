/- Plain facts on worlds, slices and bytes: what a slice reads as ('Sees'), and how that is kept while new memory is made. No function of the program is named here. -/
import Derived.BigQuiet
import Derived.Deep.QuietTactic
import Derived.Deep.RegionWith
import Derived.Lib.ConvBytes
import Derived.Lib.Hide
import Derived.Lib.SlBytesRow
import Derived.Lib.SmallJoins
import Derived.Shelf.Bytes.SlSmallAll
import Derived.WalkKit
import Derived.WalkLawsBesides
import Derived.WalkSpells
namespace Go.Proofs.Ytionibckeicncaa
open Go Go.RowKit

/-- A byte's cell. -/
def bv (u : UInt8) : Value := .int .u8 (u.toNat : Int)
/-- The string of these bytes. -/
def str (l : List UInt8) : ByteArray := ⟨l.toArray⟩

/-- The slice (a, n, c) reads as the cells xs. -/
structure Sees (w : World) (a : Option Addr) (n c : Nat) (xs : List Value) : Prop where
  len : xs.length = n
  cap : n ≤ c
  nilc : a = none → c = 0
  real : 0 < n → ∃ b off, a = some ⟨b, off, none⟩ ∧ b < w.heap.size ∧ ∀ j, j < n → w.cell? ⟨b, off + j, none⟩ = xs[j]?

theorem Sees.nil (w : World) (c : Nat) (a : Option Addr) (h : a = none → c = 0) : Sees w a 0 c [] := ⟨rfl, Nat.zero_le _, h, fun h => absurd h (by omega)⟩

theorem Sees.below {w w' : World} {a : Option Addr} {n c : Nat} {xs : List Value} (h : Sees w a n c xs) (hb : Below w.heap.size w w') : Sees w' a n c xs := by
  refine ⟨h.len, h.cap, h.nilc, fun h0 => ?_⟩
  obtain ⟨b, off, e, hlt, hc⟩ := h.real h0
  exact ⟨b, off, e, Nat.lt_of_lt_of_le hlt hb.size, fun j hj => (hb.cell (p := ⟨b, off + j, .none⟩) hlt).trans (hc j hj)⟩

theorem Sees.owned {w : World} {base : Nat} {e : TypeId} {v : Value} {n : Nat} {xs : List Value} (h : w.ownsRow base e 1 v n xs) : ∃ a c, v = .slice a n c ∧ c ≤ maxLen ∧ Sees w a n c xs := by
  have hl : xs.length = n := by have := h.1; omega
  rcases h.2 with ⟨rfl, rfl⟩ | ⟨g, cap, cur, rfl, _, hg, hnc, hm, _, ht⟩
  · exact ⟨_, _, rfl, Nat.zero_le _, hl, Nat.le_refl _, fun _ => rfl, fun h => absurd h (by omega)⟩
  · refine ⟨_, _, rfl, hm, hl, hnc, (fun e => by cases e), fun _ => ⟨g, 0, rfl, (Array.getElem?_eq_some_iff.1 hg).1, fun j hj => ?_⟩⟩
    rw [Nat.zero_add, cell_of_row w g j cur e (0, 0) hg, ← ht, Nat.mul_one, List.getElem?_take_of_lt hj]
    simp

/-- 'string(b)'. -/
theorem Sees.str {P : Program} {w : World} {a : Option Addr} {n c : Nat} {bs : List UInt8} (h : Sees w a n c (bs.map bv)) (src e dst : TypeId)
    (hs : P.underlying src = some (.slice e)) (he : P.underlying e = some (.int .u8)) (hd : P.underlying dst = some .string) :
    (convert src dst (.slice a n c)).run P w = .ok (.string (str bs)) w := by
  have hl : bs.length = n := by have := h.len; simpa using this
  by_cases h0 : 0 < n
  · obtain ⟨b, off, rfl, _, hc⟩ := h.real h0
    have hB : Lib.Bytes w b off (Go.Proofs.Ytionibckeicncaa.str bs) := by
      intro i hi
      have hi' : i < bs.length := by simpa [Go.Proofs.Ytionibckeicncaa.str, ByteArray.size] using hi
      rw [hc i (by omega)]
      simp [Go.Proofs.Ytionibckeicncaa.str, bv, List.getElem?_eq_getElem hi', ByteArray.getElem_eq_getElem_data]
    have := Lib.run_convert_whole (P := P) w src e dst hs he hd b off _ hB c
    have hsz : (Go.Proofs.Ytionibckeicncaa.str bs).size = n := by simp [Go.Proofs.Ytionibckeicncaa.str, ByteArray.size, hl]
    rw [hsz] at this
    exact this
  · have hn : n = 0 := by omega
    subst hn
    have hb : bs = [] := List.eq_nil_of_length_eq_zero hl
    subst hb
    rw [run_convert_bytes_zero (P := P) w src e hs he a c dst hd]
    rfl


/-- A part of a slice: 's[i:i+m]' at its place. -/
theorem Sees.part {w : World} {b off n c : Nat} {xs : List Value} (h : Sees w (some ⟨b, off, none⟩) n c xs) (i m c' : Nat) (hi : i + m ≤ n) (hc' : m ≤ c') : Sees w (some ⟨b, off + i, none⟩) m c' ((xs.drop i).take m) := by
  have hl := h.len
  refine ⟨by simp; omega, hc', (fun e => by cases e), fun h0 => ?_⟩
  obtain ⟨b', off', e, hlt, hc⟩ := h.real (by omega)
  cases e
  refine ⟨b, off + i, rfl, hlt, fun j hj => ?_⟩
  rw [Nat.add_assoc, hc (i + j) (by omega), List.getElem?_take_of_lt hj, List.getElem?_drop]

theorem Sees.zero (w : World) (a : Option Addr) (c : Nat) (xs : List Value) (h : a = none → c = 0) (hx : xs = []) : Sees w a 0 c xs := by subst hx; exact Sees.nil w c a h

theorem Sees.cell {w : World} {b off n c : Nat} {xs : List Value} (h : Sees w (some ⟨b, off, .none⟩) n c xs) (j : Nat) (hj : j < n) : b < w.heap.size ∧ w.cell? ⟨b, off + j, .none⟩ = xs[j]? := by
  obtain ⟨b', off', e, hlt, hc⟩ := h.real (by omega)
  cases e
  exact ⟨hlt, hc j hj⟩

theorem Sees.byte {w : World} {b off n c : Nat} {bs : List UInt8} (h : Sees w (some ⟨b, off, .none⟩) n c (bs.map bv)) (j : Nat) (hj : j < n) : w.cell? ⟨b, off + j, .none⟩ = some (.int .u8 ((bs.getD j 0).toNat : Int)) := by
  have hl : bs.length = n := by have := h.len; simpa using this
  rw [(h.cell j hj).2]
  simp [bv, List.getD, List.getElem?_eq_getElem (show j < bs.length by omega)]

theorem Sees.addr {w : World} {a : Option Addr} {n c : Nat} {xs : List Value} (h : Sees w a n c xs) (h0 : 0 < n) : ∃ b off, a = some ⟨b, off, .none⟩ ∧ b < w.heap.size := by
  obtain ⟨b, off, e, hlt, _⟩ := h.real h0
  exact ⟨b, off, e, hlt⟩

theorem bv_one (bs : List UInt8) : ∀ u ∈ bs.map bv, u.oneCell' = true := by
  intro u hu
  obtain ⟨x, _, rfl⟩ := List.mem_map.1 hu
  rfl

/-- 's[l:m]': what it is, and what it reads as. -/
theorem Sees.cut {w : World} {a : Option Addr} {n c : Nat} {xs : List Value} (h : Sees w a n c xs) (l m : Nat) (hl : l ≤ m) (hm : m ≤ n) :
    ∃ a2, sliced a l m c 1 = .slice a2 (m - l) (c - l) ∧ Sees w a2 (m - l) (c - l) ((xs.take m).drop l) := by
  have hlen := h.len
  have hcap := h.cap
  refine ⟨_, rfl, by simp; omega, by omega, ?_, fun h0 => ?_⟩
  · intro e
    have ha : a = none := by
      split at e
      · exact e
      · simpa using e
    have := h.nilc ha
    omega
  · obtain ⟨b, off, rfl, hlt, hc⟩ := h.real (by omega)
    rw [if_neg (by omega), Nat.mul_one]
    have hadd : (⟨b, off, none⟩ : Addr).add l = ⟨b, off + l, none⟩ := by unfold Addr.add; split <;> simp_all
    refine ⟨b, off + l, by simp [hadd], hlt, fun j hj => ?_⟩
    rw [Nat.add_assoc, hc (l + j) (by omega), List.getElem?_drop, List.getElem?_take_of_lt (by omega)]

section
variable {P : Program} {t e : TypeId} (ht : P.underlying t = some (.slice e)) (hz : ∀ w, (sizeOf e).run P w = .ok 1 w)
include ht hz
theorem run_from (W : World) (a : Option Addr) (n c l : Nat) (z : Int) (hzl : z = (l : Int)) (hl : l ≤ n) :
    (Instr.slice t (.slice a n c) (some (.int .i64 z)) none none).run P W = .ok (sliced a l n c 1) W := by
  have he : P.elem t = e := by simp [Program.elem, ht]
  rw [run_slice_l W t a n c (by rw [he]; exact ht) .i64 z (by omega) (by omega), he, hz, hzl]
  simp [Result.andThen]
theorem run_upto (W : World) (a : Option Addr) (n c m : Nat) (z : Int) (hzl : z = (m : Int)) (hm : m ≤ c) :
    (Instr.slice t (.slice a n c) none (some (.int .i64 z)) none).run P W = .ok (sliced a 0 m c 1) W := by
  have he : P.elem t = e := by simp [Program.elem, ht]
  rw [run_slice_h W t a n c (by rw [he]; exact ht) .i64 z (by omega) (by omega), he, hz, hzl]
  simp [Result.andThen]
theorem run_part (W : World) (a : Option Addr) (n c l m : Nat) (y z : Int) (hyl : y = (l : Int)) (hzm : z = (m : Int)) (hl : l ≤ m) (hm : m ≤ c) :
    (Instr.slice t (.slice a n c) (some (.int .i64 y)) (some (.int .i64 z)) none).run P W = .ok (sliced a l m c 1) W := by
  have he : P.elem t = e := by simp [Program.elem, ht]
  rw [run_slice_lh W t a n c (by rw [he]; exact ht) .i64 .i64 y z (by omega) (by omega) (by omega), he, hz, hyl, hzm]
  simp [Result.andThen]
end

end Go.Proofs.Ytionibckeicncaa
