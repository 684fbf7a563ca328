/- The tables that the rows of wit list: what the list gives the walk, and a world in which it is met. -/
import Derived.Test.YtkimhlomadmnkaaDoorPost
import Derived.Test.YtkimhlomadmnkaaDoorWAppend
import Derived.Test.YtkimhlomadmnkaaDoorCards
import Derived.Test.YtkimhlomadmnkaaDoorTie
namespace Go.Proofs.YtkimhlomadmnkaaDoor
open Go Go.ChangeShapes Go.WideShapes Go.ChangeAt Go.RowKit

theorem gPow : Tryd.prog.globalNamed "internal/strconv.uint64pow10" = some 2 := by kernel_rfl
theorem gPowType : (Tryd.prog.globals[2]?).map (·.type) = some 163 := by kernel_rfl
theorem cellsPow : Tryd.prog.cellsOf 163 = 20 := by kernel_rfl
theorem cells64 : Tryd.prog.cellsOf 119 = 1 := by kernel_rfl

theorem tab_of {W : World} (h : laidMetH Tryd.prog Rows.witOnceRow.laid W) : Tab W :=
  Lib.tabIs_of_head (rest := _) gPow gPowType Tryd.underlying163 Tryd.underlying119 cells64 cellsPow (laidMet.tail (laidMet.tail h))

theorem gDigType : (Tryd.prog.globals[0]?).map (·.type) = some 122 := by kernel_rfl
theorem cellsDig : Tryd.prog.cellsOf 122 = 3 := by kernel_rfl
theorem cells8 : Tryd.prog.cellsOf 5 = 1 := by kernel_rfl
theorem digtab_of {W : World} (h : laidMetH Tryd.prog Rows.witOnceRow.laid W) : Dig W :=
  Lib.tabIs_of_head (rest := []) gDig gDigType Tryd.underlying122 Tryd.underlying5 cells8 cellsDig (laidMet.tail (laidMet.tail (laidMet.tail h)))

/-- The numbers of a table, as cells. -/
def tabCells (d : DataW Unit) : Array Value := match d with
  | .agg l => (l.map fun x => match x with | .lit (.int k n) => Value.int k n | _ => .int .u8 0).toArray
  | _ => #[]
/-- A block's cells, others. -/
def refill (C : Array Value) : Obj → Obj
  | .cells _ t frozen => .cells C t frozen
  | o => o
/-- A world for the witness: the settled one, the three tables holding what their initialisers lay. -/
noncomputable def laidHeap (h : Array Obj) : Array Obj :=
  let h1 := h.modify 2 (refill (tabCells Rows.laid_internal_strconv_uint64pow10))
  let h2 := h1.modify 3 (refill (tabCells Rows.laid_math_bits_deBruijn32tab))
  let h3 := h2.modify 4 (refill (tabCells Rows.laid_math_bits_deBruijn64tab))
  h3.modify 0 (refill (tabCells Rows.laid_inquest_wit_digits))
noncomputable def laidWorld (os : Os) : World :=
  { World.holding Tryd.prog os ⟨#[], #[], []⟩ with heap := laidHeap (World.holding Tryd.prog os ⟨#[], #[], []⟩).heap }
end Go.Proofs.YtkimhlomadmnkaaDoor
