/- Traces as values: a list of values, and lists of lists of values. -/
import Derived.Test.YtionibckeicncaaLib
import Derived.Test.YtionibckeicncaaNBase
import Derived.Test.YtionibckeicncaaNVal
import Derived.Test.YtionibckeicncaaRows
import Derived.BigQuiet
import Derived.Deep.AppendLies
import Derived.Deep.QuietTactic
import Derived.Deep.RegionLaw
import Derived.Deep.RegionWith
import Derived.KernelRfl
import Derived.Laws.EntriesVeiled
import Derived.Lib.ConvBytes
import Derived.Lib.Hide
import Derived.Lib.SlBytesRow
import Derived.Lib.SmallJoins
import Derived.Shelf.Bytes.SlSmallAll
import Derived.WalkKit
import Derived.WalkLawsBesides
import Derived.WalkSpells
namespace Go.Proofs.Ytionibckeicncaa
open Go Go.RowKit Go.Joins

/-- A circuit's slots are of a size that can be. -/
structure CSlots.small (s : CSlots) : Prop where
  n1 : s.n1 ≤ 1048576
  n2 : s.n2 ≤ 1048576
  n3 : s.n3 ≤ 1048576
  n4 : s.n4 ≤ 1048576
  n5 : s.n5 ≤ 1048576

/-- A trace. -/
structure TraceC where
  bad : Int
  init : List UInt8
  frames : List (List UInt8)
deriving DecidableEq

/-- A slice's parts. -/
abbrev Slc := Option Addr × Nat × Nat
def slV (s : Slc) : Value := .slice s.1 s.2.1 s.2.2
def slc0 : Slc := (none, 0, 0)
/-- The slice (a, n, c) of slices reads as these lists. -/
structure SeesF (w : World) (a : Option Addr) (n c : Nat) (ss : List Slc) (fs : List (List UInt8)) : Prop where
  row : Sees w a n c (ss.map slV)
  len : ss.length = fs.length
  each : ∀ k, k < fs.length → Sees w (ss.getD k slc0).1 (ss.getD k slc0).2.1 (ss.getD k slc0).2.2 ((fs.getD k []).map bv)
theorem SeesF.below {w w' : World} {a : Option Addr} {n c : Nat} {ss : List Slc} {fs : List (List UInt8)} (h : SeesF w a n c ss fs) (hb : Below w.heap.size w w') : SeesF w' a n c ss fs :=
  ⟨h.row.below hb, h.len, fun k hk => (h.each k hk).below hb⟩
theorem SeesF.n_eq {w : World} {a : Option Addr} {n c : Nat} {ss : List Slc} {fs : List (List UInt8)} (h : SeesF w a n c ss fs) : fs.length = n := h.len.symm.trans h.row.lenMap
theorem SeesF.cellAt {w : World} {b off n c : Nat} {ss : List Slc} {fs : List (List UInt8)} (h : SeesF w (some ⟨b, off, .none⟩) n c ss fs) (j : Nat) (hj : j < n) :
    w.cell? ⟨b, off + j, .none⟩ = some (.slice (ss.getD j slc0).1 (ss.getD j slc0).2.1 (ss.getD j slc0).2.2) := by
  have hl : ss.length = n := h.row.lenMap
  rw [(h.row.cell j hj).2]
  simp [slV, List.getD, List.getElem?_eq_getElem (show j < ss.length by omega)]

/-- A trace's slots. -/
structure TSlots where
  a1 : Option Addr
  n1 : Nat
  c1 : Nat
  a2 : Option Addr
  n2 : Nat
  c2 : Nat
  ss : List Slc
def traceV (bad : Int) (s : TSlots) : Value := .agg #[.int .i64 bad, .slice s.a1 s.n1 s.c1, .slice s.a2 s.n2 s.c2]
structure SeesTr (w : World) (s : TSlots) (t : TraceC) : Prop where
  s1 : Sees w s.a1 s.n1 s.c1 (t.init.map bv)
  s2 : SeesF w s.a2 s.n2 s.c2 s.ss t.frames
theorem SeesTr.below {w w' : World} {s : TSlots} {t : TraceC} (h : SeesTr w s t) (hb : Below w.heap.size w w') : SeesTr w' s t := ⟨h.s1.below hb, h.s2.below hb⟩
/-- The slots' sizes can be. -/
structure TSlots.small (s : TSlots) : Prop where
  n1 : s.n1 ≤ 1048576
  n2 : s.n2 ≤ 1048576
  each : ∀ x ∈ s.ss, x.2.1 ≤ 1048576
end Go.Proofs.Ytionibckeicncaa
