/- The variables that the rows of vcd list: what the list gives the walk, and a world in which it is met. -/
import Derived.Test.YtgplkpfdbiapaaaGreatDoorNHeap
import Derived.Test.YtgplkpfdbiapaaaGreatDoorGG
import Derived.Test.YtgplkpfdbiapaaaGreatDoorVdWrite
import Derived.Test.YtgplkpfdbiapaaaGreatDoorCards
import Derived.Test.YtgplkpfdbiapaaaGreatDoorRows
import Derived.Test.YtgplkpfdbiapaaaGreatDoorShelf
import Derived.Test.YtgplkpfdbiapaaaGreatDoorShelf2
import Derived.Test.YtgplkpfdbiapaaaGreatDoorTie
import Derived.BigQuiet
import Derived.BigRegion
import Derived.Deep.AppendLies
import Derived.Deep.CutRange
import Derived.Deep.DeepHandedRow
import Derived.Deep.QuietTactic
import Derived.Deep.RegionHeld3
import Derived.Deep.RegionLaw
import Derived.Deep.RegionWith
import Derived.KernelRfl
import Derived.LaidMore
import Derived.Laws.Bits64b
import Derived.Laws.BitsAllLaws
import Derived.Laws.BitsLemmas
import Derived.Laws.CopyOwn
import Derived.Laws.EntriesVeiled
import Derived.Laws.IdiomCopy
import Derived.Laws.OwnMore
import Derived.Laws.Runes
import Derived.Laws.Tables
import Derived.Lay
import Derived.Lib.AppendIntMem
import Derived.Lib.AppendStr
import Derived.Lib.AppendZeros
import Derived.Lib.BufferWrite
import Derived.Lib.ConvBytes
import Derived.Lib.DecodeN
import Derived.Lib.Hide
import Derived.Lib.Index
import Derived.Lib.IndexEntry
import Derived.Lib.ItoaNum
import Derived.Lib.Join
import Derived.Lib.LaidTab
import Derived.Lib.LaidU8T
import Derived.Lib.MakeNoZero
import Derived.Lib.ParseIntBCases
import Derived.Lib.SlBytesRow
import Derived.Lib.SmallJoins
import Derived.LoopIn
import Derived.LoopNIn
import Derived.Maps.AppendAt
import Derived.Maps.Own
import Derived.Maps.OwnOps
import Derived.Maps.OwnSet
import Derived.OpenShut
import Derived.OrdersHeld
import Derived.OrdersIn
import Derived.OwnWalkIn
import Derived.PinnedBridge
import Derived.ProofKit
import Derived.RangeFuncBox
import Derived.RangeFuncCalls
import Derived.RangeFuncLeaves
import Derived.RangeFuncNested
import Derived.RangeFuncWrites
import Derived.Shelf.Abstract
import Derived.Shelf.Bytes.SlSmallAll
import Derived.Shelf.Pu.Lower
import Derived.Shelf.Pu.ToError
import Derived.Shelf.Pu.ToErrorRange
import Derived.Shelf.RegionOpen
import Derived.Shelf.Spec.DecodeRune
import Derived.Shelf.Unicode.DecodeSlow
import Derived.Shelf.Vars
import Derived.Sort.CutIn
import Derived.Stop.LaidErr
import Derived.Stop.RegionWithIn
import Derived.TacticsInMore
import Derived.WalkKit
import Derived.WalkLawsBesides
import Derived.WalkSpells
namespace Go.Proofs.YtgplkpfdbiapaaaGreatDoor
open Go Go.ChangeShapes Go.WideShapes Go.ChangeAt Go.RowKit Go.Lib Go.Shelf Go.WideElems

/-- The list is the same in both laws' rows. -/
noncomputable def laidV : List (String × DataW Unit) := Rows.vcdLooseRow.laid
theorem laid_back : Rows.vcdBackRow.laid = laidV := rfl
theorem laid_loose : Rows.vcdLooseRow.laid = laidV := rfl
theorem gPow : Tryz.prog.globalNamed "internal/strconv.uint64pow10" = some 2 := by kernel_rfl
theorem gPowType : (Tryz.prog.globals[2]?).map (·.type) = some 168 := by kernel_rfl
theorem cellsPow : Tryz.prog.cellsOf 168 = 20 := by kernel_rfl
theorem cells64 : Tryz.prog.cellsOf 129 = 1 := by kernel_rfl
theorem gDigV : Tryz.prog.globalNamed "inquest/vcd.digits" = some 0 := by kernel_rfl
theorem gDigType : (Tryz.prog.globals[0]?).map (·.type) = some 57 := by kernel_rfl
theorem cellsDig : Tryz.prog.cellsOf 57 = 3 := by kernel_rfl
theorem cells8 : Tryz.prog.cellsOf 5 = 1 := by kernel_rfl
theorem tab_of {W : World} (h : laidMet Tryz.prog laidV W) : TabV W :=
  Lib.tabIs_of_head (rest := _) gPow gPowType Tryz.underlying168 Tryz.underlying129 cells64 cellsPow (laidMet.tail (laidMet.tail h))
theorem vdig_of {W : World} (h : laidMet Tryz.prog laidV W) : DigEnv W := by
  have h1 := laidMet.tail (laidMet.tail (laidMet.tail (laidMet.tail (laidMet.tail (laidMet.tail h)))))
  have ht : Lib.TabIs Tryz.prog W "inquest/vcd.digits" .u8 [48, 49, 120] := Lib.tabIs_of_head (rest := _) gDigV gDigType Tryz.underlying57 Tryz.underlying5 cells8 cellsDig h1
  intro v hv
  rw [ht.cell gDigV v.toNat (by show v.toNat < 3; omega)]
  have : v = 0 ∨ v = 1 ∨ v = 2 := by
    have : v.toNat = 0 ∨ v.toNat = 1 ∨ v.toNat = 2 := by omega
    rcases this with h | h | h
    · exact Or.inl (UInt8.toNat_inj.1 h)
    · exact Or.inr (Or.inl (UInt8.toNat_inj.1 h))
    · exact Or.inr (Or.inr (UInt8.toNat_inj.1 h))
  rcases this with rfl | rfl | rfl <;> rfl
def renV : Go.Shelf.Ren := ⟨fun n => n, fun | 5 => 5 | 119 => 171 | 138 => 173 | 139 => 174 | n => n, fun | 3 => 3 | 4 => 4 | n => n⟩
theorem u8TypesV : U8Types Tryz.prog renV := ⟨Tryz.underlying5, Tryz.underlying171, Tryz.underlying173, Tryz.underlying174⟩
theorem u8ExtraV : U8Extra Tryz.prog renV := ⟨by kernel_rfl, by kernel_rfl, by kernel_rfl, by kernel_rfl, by kernel_rfl, by kernel_rfl, by kernel_rfl⟩
theorem accept_eq : (Rows.laid_unicode_utf8_acceptRanges : DataW Unit) = acceptData := by kernel_rfl
theorem utf_of {W : World} (h : laidMet Tryz.prog laidV W) : Lib.Utf8Tabs 3 4 W := by
  refine utf8Tabs_of_readsT u8TypesV u8ExtraV ?_ ?_
  · rw [← Go.Pinned.utf8First_eq]
    exact laidMet.reads h (by simp [laidV, Rows.vcdLooseRow, Rows.laid_unicode_utf8_first])
  · rw [← accept_eq]
    exact laidMet.reads h (by simp [laidV, Rows.vcdLooseRow])
theorem max_of {W : World} (h : W.ShapedOpen Tryz.prog) : ∃ m, W.cell? ⟨1, 0, none⟩ = some (.int .i64 m) :=
  cell_of_shapedOpen_int (t := 3) (zero := #[.int .i64 0]) h (by decide +kernel) (by kernel_rfl) rfl (by kernel_rfl) (by kernel_rfl) Tryz.underlying3
theorem gap_of {W : World} (h : laidMet Tryz.prog laidV W) (hs : W.ShapedOpen Tryz.prog) : GapEnv W := ⟨utf_of h, max_of hs⟩
theorem starV : "*" ++ "errors.errorString" = "*errors.errorString" := by decide
theorem err_rows (u : TypeId) (h : Tryz.prog.typeName? 3 u = some "*errors.errorString") : u = 190 :=
  typeName_ptr_named (nm := "errors.errorString") (by rw [starV]; kernel_rfl) (by kernel_rfl) (by decide) u (by rw [starV]; exact h)
theorem gSyn : Tryz.prog.globalNamed "strconv.ErrSyntax" = some 7 := by kernel_rfl
theorem gSynT : (Tryz.prog.globals[7]?).map (·.type) = some 92 := by kernel_rfl
theorem gRng : Tryz.prog.globalNamed "strconv.ErrRange" = some 8 := by kernel_rfl
theorem gRngT : (Tryz.prog.globals[8]?).map (·.type) = some 92 := by kernel_rfl
theorem cellsES : Tryz.prog.cellsOf 192 = 1 := by kernel_rfl
theorem cellsStr : Tryz.prog.cellsOf 9 = 1 := by kernel_rfl
theorem num_of {W : World} (h : laidMet Tryz.prog laidV W) : NumEnv W := by
  have h1 := laidMet.tail (laidMet.tail (laidMet.tail (laidMet.tail h)))
  have h2 := laidMet.tail h1
  obtain ⟨a1, s1, hv1, _⟩ := laid_sentinel h1 gRng gRngT Tryz.underlying92 err_rows Tryz.underlying190 Tryz.underlying192 rfl rfl Tryz.underlying9 cellsES cellsStr
  obtain ⟨a2, s2, hv2, _⟩ := laid_sentinel h2 gSyn gSynT Tryz.underlying92 err_rows Tryz.underlying190 Tryz.underlying192 rfl rfl Tryz.underlying9 cellsES cellsStr
  exact ⟨tab_of h, ⟨_, World.var?_cell gSyn hv2 0, Or.inr ⟨_, _, rfl⟩⟩, ⟨_, World.var?_cell gRng hv1 0, Or.inr ⟨_, _, rfl⟩⟩⟩
noncomputable def worldV (os : Os) : World := World.laidAll Tryz.prog os laidV
theorem metV (os : Os) (args : Array Value) : laidMet Tryz.prog laidV ((worldV os).forCall (fun _ _ => 0) ⟨#[], args, []⟩).memory := laidMet_laidAll args (by kernel_rfl) (by kernel_rfl)
theorem shapedV (os : Os) (args : Array Value) : ((worldV os).forCall (fun _ _ => 0) ⟨#[], args, []⟩).Shaped Tryz.prog := World.shaped_of_ZipB (by kernel_rfl) (by kernel_rfl)
theorem witnessV {H : Type} {enc : TypeId × Value → H} {f : FuncId} {fn : Func} {s : OpenSpec} {conds : List PathCond} {laid : List (String × DataW Unit)} (os : Os) (args : Array Value)
    (hok : Input.okWideB Tryz.checked.prog ((worldV os).forCall (fun _ _ => 0) ⟨#[], args, []⟩) f ⟨#[], args, []⟩ = true)
    (hrow : s.preRow enc Tryz.checked.prog fn conds false laid ((worldV os).forCall (fun _ _ => 0) ⟨#[], args, []⟩).memory args) :
    ∃ (w : World) (tape : Tape) (i : Input), w.os = os ∧ (w.forCall tape i).Shaped Tryz.checked.prog ∧ i.vars = [] ∧ Input.okWide Tryz.checked.prog (w.forCall tape i) .any w.heap.size f i ∧
      s.preRow enc Tryz.checked.prog fn conds false laid (w.forCall tape i).memory i.args ∧ ({} : Assume).holds Tryz.checked.prog (lone (Frame.enter Tryz.checked.prog f i.args .normal) [] (w.forCall tape i)) :=
  ⟨worldV os, fun _ _ => 0, ⟨#[], args, []⟩, World.laidAll_os _ _ _, shapedV os args, (Input.okWide_of_okWideB (base := 0) hok).1, (Input.okWide_of_okWideB hok).2, hrow, by
    simp only [Assume.holds]
    exact ⟨by simp, by simp, (fun h => by cases h), by simp, by simp⟩⟩
set_option maxRecDepth 100000 in
/-- A []byte that came in has no more room than a slice can have. -/
theorem u8s_cap {H : Type} {enc : TypeId × Value → H} {W : World} {a : Option Addr} {n c : Nat} {d : DataW H} {p : List MemPlace}
    (h : DataW.Trod enc Tryz.prog W 0 (fun _ => true) true 27 (.slice a n c) d p) : c ≤ maxLen := by
  obtain ⟨fuel, hf⟩ := h
  rcases open_ints Tryz.underlying27 Tryz.underlying5 (by kernel_rfl) hf with ⟨hcs, hx⟩ | ⟨a, len', cap', zs, hcs, _, hl, hm, hz, hx, hcell, hwz⟩
  · simp [Value.cells] at hcs
    obtain ⟨rfl, rfl, rfl⟩ := hcs
    exact Nat.zero_le _
  · simp [Value.cells] at hcs
    obtain ⟨rfl, rfl, rfl⟩ := hcs
    exact hm
theorem plainV (W : World) (h : laidMetH Tryz.prog laidV W) : laidMet Tryz.prog laidV W := h
end Go.Proofs.YtgplkpfdbiapaaaGreatDoor
