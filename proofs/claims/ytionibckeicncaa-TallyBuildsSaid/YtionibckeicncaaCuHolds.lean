/- clause.Holds and its two closures, by their contracts. -/
import Derived.Test.YtionibckeicncaaLib
import Derived.Test.YtionibckeicncaaNBase
import Derived.Test.YtionibckeicncaaCuMay
import Derived.Test.YtionibckeicncaaRows
import Derived.BigQuiet
import Derived.Deep.AppendLies
import Derived.Deep.QuietTactic
import Derived.Deep.RegionLaw
import Derived.Deep.RegionWith
import Derived.KernelRfl
import Derived.Laws.EntriesVeiled
import Derived.Lib.ConvBytes
import Derived.Lib.Hide
import Derived.Lib.SlBytesRow
import Derived.Lib.SmallJoins
import Derived.Shelf.Bytes.SlSmallAll
import Derived.WalkKit
import Derived.WalkLawsBesides
import Derived.WalkSpells
namespace Go.Proofs.Ytionibckeicncaa
open Go Go.RowKit Go.Joins

theorem Sees.b_at {w : World} {b off n c : Nat} {M : List Bool} (h : Sees w (some ⟨b, off, .none⟩) n c (M.map Value.bool)) (j : Nat) (hj : j < n) : w.cell? ⟨b, off + j, .none⟩ = some (.bool (M.getD j false)) := by
  have hl : M.length = n := h.lenMap
  rw [(h.cell j hj).2]
  simp [List.getD, List.getElem?_eq_getElem (show j < M.length by omega)]
/-- An int of 64 bits. -/
def InZ (x : Int) : Prop := -9223372036854775808 ≤ x ∧ x ≤ 9223372036854775807
theorem varW_cases {x : Int} (h : InZ x) : (0 < varW x ∧ varW x = (x.natAbs : Int) ∧ 0 < x.natAbs) ∨ (¬ 0 < varW x ∧ (x.natAbs = 0 ∨ 9223372036854775808 ≤ x.natAbs)) := by
  obtain ⟨h1, h2⟩ := h
  by_cases e : x = -9223372036854775808
  · subst e
    exact .inr ⟨by decide, .inr (by decide)⟩
  · rw [varW_in (by omega) h2]
    by_cases h0 : x = 0
    · subst h0; exact .inr ⟨by decide, .inl rfl⟩
    · exact .inl ⟨by omega, rfl, by omega⟩
/-- All are ints of 64 bits. -/
def AllInZ (L : List (List Int)) : Prop := ∀ c ∈ L, ∀ x ∈ c, InZ x
end Go.Proofs.Ytionibckeicncaa
