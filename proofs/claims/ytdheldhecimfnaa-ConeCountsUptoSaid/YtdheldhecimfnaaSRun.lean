/- sim: the run of single values as an iterator, by its contract. -/
import Derived.Test.YtdheldhecimfnaaLib
import Derived.Test.YtdheldhecimfnaaOwn
import Derived.Test.YtdheldhecimfnaaOwnStr
import Derived.Test.YtdheldhecimfnaaNBase
import Derived.Test.YtdheldhecimfnaaNSpec
import Derived.Test.YtdheldhecimfnaaNVal
import Derived.Test.YtdheldhecimfnaaNTrace
import Derived.Test.YtdheldhecimfnaaNHeap2
import Derived.Test.YtdheldhecimfnaaSSpec
import Derived.Test.YtdheldhecimfnaaSRange
import Derived.Test.YtdheldhecimfnaaRows
import Derived.BigQuiet
import Derived.Deep.AppendLies
import Derived.Deep.CutRange
import Derived.Deep.QuietTactic
import Derived.Deep.RegionHeld3
import Derived.Deep.RegionLaw
import Derived.Deep.RegionWith
import Derived.KernelRfl
import Derived.Laws.Bits64b
import Derived.Laws.BitsAllLaws
import Derived.Laws.BitsLemmas
import Derived.Laws.EntriesVeiled
import Derived.Laws.Tables
import Derived.Lib.AppendStr
import Derived.Lib.AppendZeros
import Derived.Lib.ConvBytes
import Derived.Lib.Hide
import Derived.Lib.SlBytesRow
import Derived.Lib.SmallJoins
import Derived.LoopIn
import Derived.LoopNIn
import Derived.Maps.AppendAt
import Derived.OwnWalkIn
import Derived.RangeFuncBox
import Derived.RangeFuncCalls
import Derived.RangeFuncLeaves
import Derived.RangeFuncNested
import Derived.RangeFuncWrites
import Derived.Shelf.Abstract
import Derived.Shelf.Bytes.SlSmallAll
import Derived.Shelf.RegionOpen
import Derived.Sort.CutIn
import Derived.Stop.RegionWithIn
import Derived.TacticsInMore
import Derived.WalkKit
import Derived.WalkLawsBesides
import Derived.WalkSpells
namespace Go.Proofs.Ytdheldhecimfnaa
open Go Go.RowKit Go.Joins
attribute [local go_sem] Oper.semAt_some

/-- A slice of bytes that lies in old memory, or in a row of its own from B on. -/
def StOk (base B : Nat) (W : World) (a : Option Addr) (n c : Nat) (xs : List Value) : Prop :=
  Sees W a n c xs ∧ ((0 < n → ∀ b off, a = some ⟨b, off, none⟩ → b < base) ∨ Row isByte W B 5 (.slice a n c) n xs)
theorem StOk.below {base B : Nat} {W W' : World} {a : Option Addr} {n c : Nat} {xs : List Value} (h : StOk base B W a n c xs) (hb : Below W.heap.size W W') : StOk base B W' a n c xs :=
  ⟨h.1.below hb, h.2.imp id (fun h => h.below hb)⟩
theorem StOk.kpt {base B g1 g2 : Nat} {T : TypeId} {W W' : World} {a : Option Addr} {n c : Nat} {xs : List Value} (h : StOk base B W a n c xs) (hk : Kpt base T g1 g2 W W') (hT : 5 ≠ T) (h1 : g1 < B) (h2 : g2 < B) : StOk base B W' a n c xs := by
  rcases h.2 with h3 | h3
  · refine ⟨⟨h.1.len, h.1.cap, h.1.nilc, fun h0 => ?_⟩, .inl h3⟩
    obtain ⟨b, off, e, hlt, hc⟩ := h.1.real h0
    have hb := h3 h0 b off e
    exact ⟨b, off, e, Nat.lt_of_lt_of_le hlt hk.low.size, fun j hj => (hk.low.cell (p := ⟨b, off + j, none⟩) hb).trans (hc j hj)⟩
  · have h4 : Row isByte W' B 5 (.slice a n c) n xs := h3.other fun q hq => by
      obtain ⟨hl, rest⟩ := h3
      rcases rest with ⟨e, _⟩ | ⟨g, cap, cur, e, hg, hh, _⟩
      · rw [e] at hq; cases hq
      · rw [e] at hq
        have : g = q := by simpa [Value.ownBlock] using hq
        subst this
        exact (hk.mid g cur _ _ hh hT (by omega) (by omega)).trans hh.symm
    exact ⟨(row_sees_slice h4).2, .inr h4⟩

/-- What the k-th round is handed. -/
def ElemAt (B : Nat) (V : Nat → List UInt8) (k : Nat) (xs : Array Value) (W : World) : Prop :=
  ∃ a cp, xs = #[.slice a (V k).length cp] ∧ Row isByte W B 5 (.slice a (V k).length cp) (V k).length ((V k).map bv)
theorem elem_puts (B : Nat) (V : Nat → List UInt8) (N : Nat) (k : Nat) : Puts N (ElemAt B V k) := by
  rintro xs A l o o' ⟨a, cp, e, hr⟩ _ hl ho
  refine ⟨a, cp, e, hr.other fun q hq => ?_⟩
  rcases hr.2 with ⟨h1, _⟩ | ⟨g, cap, cur, h1, _, h2, _⟩
  · rw [h1] at hq; cases hq
  · rw [h1] at hq
    have : g = q := by simpa [Value.ownBlock] using hq
    subst this
    exact World.putObj_heap_other (fun e => by subst e; rw [hl] at h2; cases h2; cases ho)

/-- The values of the k-th frame. -/
def varsAt (c : NormC) (t : TraceC) (k : Nat) : List UInt8 := k1.vars c (k1.after c t.init (t.frames.take k)) (t.frames.getD k [])

end Go.Proofs.Ytdheldhecimfnaa
