/- Lists of ints, and lists of such lists, as slices. -/
import Derived.Test.YtionibckeicncaaLib
import Derived.Test.YtionibckeicncaaNBase
import Derived.Test.YtionibckeicncaaRows
import Derived.BigQuiet
import Derived.Deep.AppendLies
import Derived.Deep.QuietTactic
import Derived.Deep.RegionLaw
import Derived.Deep.RegionWith
import Derived.KernelRfl
import Derived.Laws.EntriesVeiled
import Derived.Lib.ConvBytes
import Derived.Lib.Hide
import Derived.Lib.SlBytesRow
import Derived.Lib.SmallJoins
import Derived.Shelf.Bytes.SlSmallAll
import Derived.WalkKit
import Derived.WalkLawsBesides
import Derived.WalkSpells
namespace Go.Proofs.Ytionibckeicncaa
open Go Go.RowKit Go.Joins

theorem info_int : (Try.prog.info? 3).map (fun i => (i.zero, i.size, i.bytes)) = some (some (.int .i64 0), 1, 8) := by kernel_rfl
theorem info_ints : (Try.prog.info? 22).map (fun i => (i.zero, i.size, i.bytes)) = some (some (.slice none 0 0), 1, 24) := by kernel_rfl
theorem size_int : ∀ w, (sizeOf 3).run Try.prog w = .ok 1 w := fun w => by
  obtain ⟨i0, hi, hz0, hz1, hz2⟩ := info_parts info_int
  simp [sizeOf, typeInfo, hi, hz1]
/-- The cells of ints. -/
def zvs (L : List Int) : List Value := L.map (Value.int .i64)
theorem zvs_len (L : List Int) : (zvs L).length = L.length := by simp [zvs]
theorem Sees.zlen {w : World} {a : Option Addr} {n c : Nat} {L : List Int} (h : Sees w a n c (zvs L)) : L.length = n := by have := h.len; rw [zvs_len] at this; exact this
theorem Sees.z_at {w : World} {b off n c : Nat} {L : List Int} (h : Sees w (some ⟨b, off, .none⟩) n c (zvs L)) (j : Nat) (hj : j < n) : w.cell? ⟨b, off + j, .none⟩ = some (.int .i64 (L.getD j 0)) := by
  have hl := h.zlen
  rw [(h.cell j hj).2]
  simp [zvs, List.getD, List.getElem?_eq_getElem (show j < L.length by omega)]
def isZ (u : Value) : Prop := ∃ z : Int, u = .int .i64 z
theorem isZ_zvs (L : List Int) : ∀ u ∈ zvs L, isZ u := fun u hu => by
  obtain ⟨z, _, rfl⟩ := List.mem_map.1 hu
  exact ⟨z, rfl⟩
theorem zvs_one (L : List Int) : ∀ u ∈ zvs L, u.oneCell' = true := fun u hu => by
  obtain ⟨z, _, rfl⟩ := List.mem_map.1 hu
  rfl
theorem getD_memZ {L : List Int} {k : Nat} (h : k < L.length) : L.getD k 0 ∈ L := by simp [List.getD, List.getElem?_eq_getElem h]
theorem getD_memL {L : List (List Int)} {k : Nat} (h : k < L.length) : L.getD k [] ∈ L := by simp [List.getD, List.getElem?_eq_getElem h]

theorem getD_appL {α : Type} {l m : List α} {d : α} {i : Nat} (h : i < l.length) : (l ++ m).getD i d = l.getD i d := by simp only [List.getD]; rw [List.getElem?_append_left h]
theorem getD_appE {α : Type} {l : List α} {x d : α} : (l ++ [x]).getD l.length d = x := by simp [List.getD]

/-- A slice's parts. -/
abbrev ZSlc := Option Addr × Nat × Nat
def zsV (s : ZSlc) : Value := .slice s.1 s.2.1 s.2.2
def zs0 : ZSlc := (none, 0, 0)
/-- The slice (a, n, c) of slices reads as these lists of ints. -/
structure SeesZ (w : World) (a : Option Addr) (n c : Nat) (ss : List ZSlc) (L : List (List Int)) : Prop where
  row : Sees w a n c (ss.map zsV)
  len : ss.length = L.length
  each : ∀ k, k < L.length → Sees w (ss.getD k zs0).1 (ss.getD k zs0).2.1 (ss.getD k zs0).2.2 (zvs (L.getD k []))
theorem SeesZ.below {w w' : World} {a : Option Addr} {n c : Nat} {ss : List ZSlc} {L : List (List Int)} (h : SeesZ w a n c ss L) (hb : Below w.heap.size w w') : SeesZ w' a n c ss L :=
  ⟨h.row.below hb, h.len, fun k hk => (h.each k hk).below hb⟩
theorem SeesZ.zlen {w : World} {a : Option Addr} {n c : Nat} {ss : List ZSlc} {L : List (List Int)} (h : SeesZ w a n c ss L) : L.length = n := h.len.symm.trans h.row.lenMap
theorem SeesZ.cellAt {w : World} {b off n c : Nat} {ss : List ZSlc} {L : List (List Int)} (h : SeesZ w (some ⟨b, off, .none⟩) n c ss L) (j : Nat) (hj : j < n) :
    w.cell? ⟨b, off + j, .none⟩ = some (.slice (ss.getD j zs0).1 (ss.getD j zs0).2.1 (ss.getD j zs0).2.2) := by
  have hl : ss.length = n := h.row.lenMap
  rw [(h.row.cell j hj).2]
  simp [zsV, List.getD, List.getElem?_eq_getElem (show j < ss.length by omega)]
theorem SeesZ.nil (w : World) : SeesZ w none 0 0 [] [] := ⟨Sees.nil _ _ _ (fun _ => rfl), rfl, fun k hk => absurd hk (by simp)⟩
theorem SeesZ.addr {w : World} {a : Option Addr} {n c : Nat} {ss : List ZSlc} {L : List (List Int)} (h : SeesZ w a n c ss L) (h0 : 0 < n) : ∃ b off, a = some ⟨b, off, .none⟩ ∧ b < w.heap.size := h.row.addr h0
/-- The k-th of them. -/
theorem SeesZ.one {w : World} {a : Option Addr} {n c : Nat} {ss : List ZSlc} {L : List (List Int)} (h : SeesZ w a n c ss L) {k : Nat} (hk : k < n) : ∃ a' n' c', ss.getD k zs0 = (a', n', c') ∧ Sees w a' n' c' (zvs (L.getD k [])) :=
  ⟨_, _, _, rfl, h.each k (by rw [h.zlen]; exact hk)⟩
/-- All lists, and there are not too many: they are of a size that can be. -/
def SmallZ (L : List (List Int)) : Prop := ∀ c ∈ L, c.length ≤ 9223372036854775807

/-- slices.IndexFunc's answer. -/
def IdxQ {α : Type} (p : α → Bool) (l : List α) (w : World) (e : Ending) (w' : World) : Prop := ∃ z : Int, e = .returned (.int .i64 z) ∧ -1 ≤ z ∧ (0 ≤ z ↔ l.any p = true) ∧ Below w.heap.size w w'
theorem any_upto {α : Type} {p : α → Bool} {l : List α} {d : α} (h : ∀ j, j < l.length → p (l.getD j d) = false) : l.any p = false := by
  rw [List.any_eq_false]
  intro x hx
  obtain ⟨i, hi, rfl⟩ := List.getElem_of_mem hx
  have := h i hi
  simp only [List.getD, List.getElem?_eq_getElem hi, Option.getD_some] at this
  rw [this]; simp
theorem any_at {α : Type} {p : α → Bool} {l : List α} {d : α} {k : Nat} (hk : k < l.length) (h : p (l.getD k d) = true) : l.any p = true := by
  rw [List.any_eq_true]
  refine ⟨l[k], List.getElem_mem hk, ?_⟩
  simpa only [List.getD, List.getElem?_eq_getElem hk, Option.getD_some] using h
end Go.Proofs.Ytionibckeicncaa
