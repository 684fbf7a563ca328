/- raw.May, by its contract. -/
import Derived.Test.YtionibckeicncaaNBase
import Derived.Test.YtionibckeicncaaRows
import Derived.BigQuiet
import Derived.Deep.AppendLies
import Derived.Deep.QuietTactic
import Derived.Deep.RegionLaw
import Derived.Deep.RegionWith
import Derived.KernelRfl
import Derived.Laws.EntriesVeiled
import Derived.Lib.ConvBytes
import Derived.Lib.Hide
import Derived.Lib.SlBytesRow
import Derived.Lib.SmallJoins
import Derived.Shelf.Bytes.SlSmallAll
import Derived.WalkKit
import Derived.WalkLawsBesides
import Derived.WalkSpells
namespace Go.Proofs.Ytionibckeicncaa
open Go Go.RowKit Go.Joins

theorem bcell {W w1 : World} (hb : Below W.heap.size W w1) : (∀ b o, b < W.heap.size → w1.cell? ⟨b, o, none⟩ = W.cell? ⟨b, o, none⟩) ∧ (∀ b o, b < W.heap.size → w1.frozen? ⟨b, o, none⟩ = W.frozen? ⟨b, o, none⟩) :=
  ⟨fun b o h => hb.cell (p := ⟨b, o, none⟩) h, fun b o h => hb.frozen (p := ⟨b, o, none⟩) h⟩

/-- The longest a list can be. -/
def lenMax : Nat := 140737488355328
/-- All lists are short enough. -/
def Slots.fit (s : Slots) : Prop := s.n1 ≤ lenMax ∧ s.n2 ≤ lenMax ∧ s.n3 ≤ lenMax ∧ s.n4 ≤ lenMax ∧ s.n5 ≤ lenMax ∧ s.n6 ≤ lenMax
/-- A raw circuit's value. -/
def rawV (m : Nat) (s : Slots) : Value := .agg #[.int .u32 m, .slice s.a1 s.n1 s.c1, .slice s.a2 s.n2 s.c2, .slice s.a3 s.n3 s.c3, .slice s.a4 s.n4 s.c4, .slice s.a5 s.n5 s.c5, .slice s.a6 s.n6 s.c6]

theorem cell_new (w : World) (C : Array Value) (t : TypeId) (fr : Nat × Nat) (g k : Nat) (v : Value) (hg : g = w.heap.size) (h : C[k]? = some v) : (w.alloc (.cells C t fr)).cell? ⟨g, k, .none⟩ = some v := by
  subst hg; rw [World.cell?_alloc_mark]; exact h
theorem cell_lt {w : World} {b o : Nat} {v : Value} (h : w.cell? ⟨b, o, .none⟩ = some v) : b < w.heap.size := World.block_lt_of_cell? w ⟨b, o, .none⟩ h
theorem cell_below {w w' : World} {b o : Nat} {v : Value} (h : w.cell? ⟨b, o, .none⟩ = some v) (hb : Below w.heap.size w w') : w'.cell? ⟨b, o, .none⟩ = some v := (hb.cell (p := ⟨b, o, .none⟩) (cell_lt h)).trans h
theorem cell_old {w : World} {b o : Nat} {v : Value} {x : Obj} (h : w.cell? ⟨b, o, .none⟩ = some v) : (w.alloc x).cell? ⟨b, o, .none⟩ = some v := cell_below h (ext_alloc _ _)
end Go.Proofs.Ytionibckeicncaa
