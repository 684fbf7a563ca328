/- The tables of the library's that the rows list: what the list gives the walk, and a world in which it is met. -/
import Derived.Test.YtglhnmbfkbjemaaDoorPost
import Derived.Test.YtglhnmbfkbjemaaDoorWrite
import Derived.Test.YtglhnmbfkbjemaaDoorCards
import Derived.Test.YtglhnmbfkbjemaaDoorTie
namespace Go.Proofs.YtglhnmbfkbjemaaDoor
open Go Go.ChangeShapes Go.WideShapes Go.ChangeAt Go.RowKit

theorem gPow : Tryd.prog.globalNamed "internal/strconv.uint64pow10" = some 1 := by kernel_rfl
theorem gPowType : (Tryd.prog.globals[1]?).map (·.type) = some 134 := by kernel_rfl
theorem cellsPow : Tryd.prog.cellsOf 134 = 20 := by kernel_rfl
theorem cells64 : Tryd.prog.cellsOf 94 = 1 := by kernel_rfl

theorem tab_of {W : World} (h : laidMetH Tryd.prog Rows.binOnceRow.laid W) : Tab W :=
  Lib.tabIs_of_head (rest := []) gPow gPowType Tryd.underlying134 Tryd.underlying94 cells64 cellsPow (laidMet.tail (laidMet.tail h))

/-- The numbers of a table, as cells. -/
def tabCells (d : DataW Unit) : Array Value := match d with
  | .agg l => (l.map fun x => match x with | .lit (.int k n) => Value.int k n | _ => .int .u8 0).toArray
  | _ => #[]
/-- A block's cells, others. -/
def refill (C : Array Value) : Obj → Obj
  | .cells _ t frozen => .cells C t frozen
  | o => o
/-- A world for the witness: the settled one, the three tables holding what their initialisers lay. -/
noncomputable def laidWorld (os : Os) : World :=
  { World.holding Tryd.prog os ⟨#[], #[], []⟩ with heap := (((World.holding Tryd.prog os ⟨#[], #[], []⟩).heap.modify 1 (refill (tabCells Rows.laid_internal_strconv_uint64pow10))).modify
      2 (refill (tabCells Rows.laid_math_bits_deBruijn32tab))).modify 3 (refill (tabCells Rows.laid_math_bits_deBruijn64tab)) }
end Go.Proofs.YtglhnmbfkbjemaaDoor
