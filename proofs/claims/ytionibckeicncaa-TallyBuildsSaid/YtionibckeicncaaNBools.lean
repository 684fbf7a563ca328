/- Cells of bools. -/
import Derived.Test.YtionibckeicncaaOwn
import Derived.Test.YtionibckeicncaaRows
import Derived.BigQuiet
import Derived.Deep.AppendLies
import Derived.Deep.QuietTactic
import Derived.Deep.RegionLaw
import Derived.Deep.RegionWith
import Derived.KernelRfl
import Derived.Laws.EntriesVeiled
import Derived.Lib.ConvBytes
import Derived.Lib.Hide
import Derived.Lib.SlBytesRow
import Derived.Lib.SmallJoins
import Derived.Shelf.Bytes.SlSmallAll
import Derived.WalkKit
import Derived.WalkLawsBesides
import Derived.WalkSpells
namespace Go.Proofs.Ytionibckeicncaa
open Go Go.RowKit Go.Joins
theorem info_bool : (Try.prog.info? 4).map (fun i => (i.zero, i.size, i.bytes)) = some (some (.bool false), 1, 1) := by kernel_rfl
/-- Cells of bools. -/
def bcells (d : List Bool) : Array Value := (d.map Value.bool).toArray
theorem bcells_set (d : List Bool) (i : Nat) (b : Bool) : (bcells d).setIfInBounds i (.bool b) = bcells (d.set i b) := by
  apply Array.ext'
  simp [bcells]
theorem bcells_get (d : List Bool) (i : Nat) (h : i < d.length) : (bcells d)[i]? = some (.bool (d.getD i false)) := by
  simp [bcells, List.getD, List.getElem?_eq_getElem h]
theorem bcells_size (d : List Bool) : (bcells d).size = d.length := by simp [bcells]
theorem u32_and1 (x : Nat) (h : x < 4294967296) : bits BinOp.and IntKind.u32 (x : Int) 1 = ((x % 2 : Nat) : Int) :=
  bits_mask .u32 32 (by decide) (fun n h0 h1 => by rw [IntKind.wrap_u32]; omega) 1 (by decide) (x : Int) (by omega) (by omega)
theorem bcells_zero (m : Nat) : zeros (.bool false) m = bcells (List.replicate m false) := by
  simp [zeros, bcells]
end Go.Proofs.Ytionibckeicncaa
