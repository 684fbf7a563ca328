/- slices.Clone of numbers, and norm.owns, by their contracts. -/
import Derived.Test.YtgplkpfdbiapaaaGreatDoorNBase
import Derived.Test.YtgplkpfdbiapaaaGreatDoorRows
import Derived.BigQuiet
import Derived.Deep.AppendLies
import Derived.Deep.QuietTactic
import Derived.Deep.RegionLaw
import Derived.Deep.RegionWith
import Derived.KernelRfl
import Derived.Laws.EntriesVeiled
import Derived.Lib.ConvBytes
import Derived.Lib.Hide
import Derived.Lib.SlBytesRow
import Derived.Lib.SmallJoins
import Derived.Maps.AppendAt
import Derived.Shelf.Bytes.SlSmallAll
import Derived.WalkKit
import Derived.WalkLawsBesides
import Derived.WalkSpells
namespace Go.Proofs.YtgplkpfdbiapaaaGreatDoor
open Go Go.RowKit Go.Joins


/-- The value of a raw circuit's box. -/
def rawCells (m : Nat) (s : Slots) : Array Value := #[.int .u32 m, .slice s.a1 s.n1 s.c1, .slice s.a2 s.n2 s.c2, .slice s.a3 s.n3 s.c3, .slice s.a4 s.n4 s.c4, .slice s.a5 s.n5 s.c5, .slice s.a6 s.n6 s.c6]
/-- The lists' lengths, as of a valid raw circuit. -/
structure Slots.small (s : Slots) : Prop where
  n1 : s.n1 ≤ 1048576
  n2 : s.n2 ≤ 1048576
  n3 : s.n3 ≤ 1048576
  n4 : s.n4 ≤ 1048576
  n5 : s.n5 ≤ 1048576
  n6 : s.n6 ≤ 1048576

theorem map_take_snoc {α : Type} (f : Tri → α) (l : List Tri) (k : Nat) (h : k < l.length) : (l.take (k + 1)).map f = (l.take k).map f ++ [f (l.getD k (0, 0, 0))] := by
  rw [List.take_succ_eq_append_getElem h, List.map_append]
  congr 1
  simp [List.getD, List.getElem?_eq_getElem h]

end Go.Proofs.YtgplkpfdbiapaaaGreatDoor
