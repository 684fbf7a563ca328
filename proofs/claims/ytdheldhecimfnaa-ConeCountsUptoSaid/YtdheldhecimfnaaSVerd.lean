/- sim: the verdict over single values, by its contract. -/
import Derived.Test.YtdheldhecimfnaaNBase
import Derived.Test.YtdheldhecimfnaaNSpec
import Derived.Test.YtdheldhecimfnaaNTrace
import Derived.Test.YtdheldhecimfnaaNCirc
import Derived.Test.YtdheldhecimfnaaNHeap
import Derived.Test.YtdheldhecimfnaaNHeap2
import Derived.Test.YtdheldhecimfnaaTBits
import Derived.Test.YtdheldhecimfnaaSSpec
import Derived.Test.YtdheldhecimfnaaSRange
import Derived.Test.YtdheldhecimfnaaSRun
import Derived.Test.YtdheldhecimfnaaRows
import Derived.BigQuiet
import Derived.Deep.AppendLies
import Derived.Deep.CutRange
import Derived.Deep.QuietTactic
import Derived.Deep.RegionHeld3
import Derived.Deep.RegionLaw
import Derived.Deep.RegionWith
import Derived.KernelRfl
import Derived.Laws.Bits64b
import Derived.Laws.BitsAllLaws
import Derived.Laws.BitsLemmas
import Derived.Laws.EntriesVeiled
import Derived.Laws.Tables
import Derived.Lib.AppendStr
import Derived.Lib.AppendZeros
import Derived.Lib.ConvBytes
import Derived.Lib.Hide
import Derived.Lib.SlBytesRow
import Derived.Lib.SmallJoins
import Derived.LoopIn
import Derived.LoopNIn
import Derived.Maps.AppendAt
import Derived.OrdersHeld
import Derived.OrdersIn
import Derived.OwnWalkIn
import Derived.RangeFuncBox
import Derived.RangeFuncCalls
import Derived.RangeFuncLeaves
import Derived.RangeFuncNested
import Derived.RangeFuncWrites
import Derived.Shelf.Abstract
import Derived.Shelf.Bytes.SlSmallAll
import Derived.Shelf.RegionOpen
import Derived.Sort.CutIn
import Derived.Stop.RegionWithIn
import Derived.TacticsInMore
import Derived.WalkKit
import Derived.WalkLawsBesides
import Derived.WalkSpells
namespace Go.Proofs.Ytdheldhecimfnaa
open Go Go.RowKit Go.Joins
attribute [local go_sem] Oper.semAt_some

theorem keep4 {w w' : World} {a0 a1 a2 a3 : Addr} {v0 v1 v2 v3 : Value} (h : w.cell? a0 = some v0 ∧ w.cell? a1 = some v1 ∧ w.cell? a2 = some v2 ∧ w.cell? a3 = some v3) (hb : Below w.heap.size w w') : w'.cell? a0 = some v0 ∧ w'.cell? a1 = some v1 ∧ w'.cell? a2 = some v2 ∧ w'.cell? a3 = some v3 := by
  obtain ⟨h0, h1, h2, h3⟩ := h
  have one : ∀ {a : Addr} {v : Value}, w.cell? a = some v → w'.cell? a = some v := fun {a v} h => (hb.cell (World.block_lt_of_cell? _ _ h)).trans h
  exact ⟨one h0, one h1, one h2, one h3⟩
theorem keep6 {w w' : World} {a0 a1 a2 a3 a4 a5 : Addr} {v0 v1 v2 v3 v4 v5 : Value} (h : w.cell? a0 = some v0 ∧ w.cell? a1 = some v1 ∧ w.cell? a2 = some v2 ∧ w.cell? a3 = some v3 ∧ w.cell? a4 = some v4 ∧ w.cell? a5 = some v5) (hb : Below w.heap.size w w') :
    w'.cell? a0 = some v0 ∧ w'.cell? a1 = some v1 ∧ w'.cell? a2 = some v2 ∧ w'.cell? a3 = some v3 ∧ w'.cell? a4 = some v4 ∧ w'.cell? a5 = some v5 := by
  obtain ⟨h0, h1, h2, h3, h4, h5⟩ := h
  have one : ∀ {a : Addr} {v : Value}, w.cell? a = some v → w'.cell? a = some v := fun {a v} h => (hb.cell (World.block_lt_of_cell? _ _ h)).trans h
  exact ⟨one h0, one h1, one h2, one h3, one h4, one h5⟩
theorem keep2 {w w' : World} {a0 a1 : Addr} {v0 v1 : Value} (h : w.cell? a0 = some v0 ∧ w.cell? a1 = some v1) (hb : Below w.heap.size w w') : w'.cell? a0 = some v0 ∧ w'.cell? a1 = some v1 :=
  ⟨(hb.cell (World.block_lt_of_cell? _ _ h.1)).trans h.1, (hb.cell (World.block_lt_of_cell? _ _ h.2)).trans h.2⟩

theorem two_boxes (W : World) (x y : Value) (T : TypeId) : ((W.alloc (.cells #[x] T)).alloc (.cells #[y] T)).drew.heap[W.heap.size]? = some (.cells #[x] T (0, 0)) ∧ ((W.alloc (.cells #[x] T)).alloc (.cells #[y] T)).drew.heap[W.heap.size + 1]? = some (.cells #[y] T (0, 0)) ∧
    Below W.heap.size W ((W.alloc (.cells #[x] T)).alloc (.cells #[y] T)).drew :=
  ⟨heap_below (w := W.alloc (.cells #[x] T)) (heap_new _ _ _ rfl) ((ext_alloc _ _).drew), heap_new (W.alloc (.cells #[x] T)) (.cells #[y] T) _ (by simp), (ext_trans (ext_alloc _ _) (ext_alloc _ _)).drew⟩
theorem Kpt.weaken {base : Nat} {T : TypeId} {g1 g2 : Nat} {A B : World} (h : Kpt base T g1 g1 A B) : Kpt base T g1 g2 A B ∧ Kpt base T g2 g1 A B :=
  ⟨⟨h.low, fun D X t fr hD ht h1 _ => h.mid D X t fr hD ht h1 h1⟩, ⟨h.low, fun D X t fr hD ht _ h1 => h.mid D X t fr hD ht h1 h1⟩⟩
theorem box_set {W : World} {g : Nat} {T : TypeId} {v : Value} (h : W.heap[g]? = some (.cells #[v] T (0, 0))) (u : Value) : (W.setCell ⟨g, 0, none⟩ u).heap[g]? = some (.cells #[u] T (0, 0)) := by
  have h1 := block_setCell h (i := 0) u
  simpa using h1
/-- New memory, then a store into a box. -/
theorem box_step {base B g : Nat} {T : TypeId} {W1 W2 : World} (u : Value) (hb : Below W1.heap.size W1 W2) (h1 : base ≤ W1.heap.size) (h2 : base ≤ g) : Kpt base T g g W1 (W2.setCell ⟨g, 0, none⟩ u) ∧ KeepsFrom B W1 (W2.setCell ⟨g, 0, none⟩ u) :=
  ⟨(Kpt.below hb h1).trans (Kpt.set W2 ⟨g, 0, none⟩ u h2 (.inl rfl)), (keepsFrom_below hb).trans ((KeepsOthers.setCell _ _ _).from _)⟩
theorem varsAt_len (c : NormC) (t : TraceC) (hi : t.init.length = c.lats.length) (hf : ∀ k, k < t.frames.length → ((t.frames.getD k []).length : Int) = c.ins) (k : Nat) (hk : k < t.frames.length) : (varsAt c t k).length = 1 + varsN c := by
  have h1 := hf k hk
  have h2 := k1.after_len c (t.frames.take k) t.init hi
  unfold varsAt
  rw [Kd.vars_len, h2]
  unfold varsN
  omega
theorem put_cells {A : World} {l D : Nat} {o o' : Obj} {C : Array Value} {T : TypeId} {fr : Nat × Nat} (hl : A.heap[l]? = some o) (ho : o.isCells = false) (hD : A.heap[D]? = some (.cells C T fr)) : (A.putObj l o').heap[D]? = some (.cells C T fr) :=
  (World.putObj_heap_other (fun e => by subst e; rw [hl] at hD; cases hD; cases ho)).trans hD
end Go.Proofs.Ytdheldhecimfnaa
