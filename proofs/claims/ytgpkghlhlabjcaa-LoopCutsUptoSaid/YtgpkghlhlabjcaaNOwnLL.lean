/- Owned lists of lists; owned traces. -/
import Derived.Test.YtgpkghlhlabjcaaLib
import Derived.Test.YtgpkghlhlabjcaaOwn
import Derived.Test.YtgpkghlhlabjcaaOwnStr
import Derived.Test.YtgpkghlhlabjcaaNBase
import Derived.Test.YtgpkghlhlabjcaaRawPred
import Derived.Test.YtgpkghlhlabjcaaNOwnsN
import Derived.Test.YtgpkghlhlabjcaaNStep
import Derived.Test.YtgpkghlhlabjcaaNVal
import Derived.Test.YtgpkghlhlabjcaaNTrace
import Derived.Test.YtgpkghlhlabjcaaNOwns
import Derived.Test.YtgpkghlhlabjcaaSRefCopy
import Derived.Test.YtgpkghlhlabjcaaRows
import Derived.BigQuiet
import Derived.Deep.AppendLies
import Derived.Deep.CutRange
import Derived.Deep.QuietTactic
import Derived.Deep.RegionHeld3
import Derived.Deep.RegionLaw
import Derived.Deep.RegionWith
import Derived.KernelRfl
import Derived.Laws.Bits64b
import Derived.Laws.BitsAllLaws
import Derived.Laws.BitsLemmas
import Derived.Laws.EntriesVeiled
import Derived.Laws.Tables
import Derived.Lib.AppendStr
import Derived.Lib.AppendZeros
import Derived.Lib.ConvBytes
import Derived.Lib.Hide
import Derived.Lib.SlBytesRow
import Derived.Lib.SmallJoins
import Derived.LoopIn
import Derived.LoopNIn
import Derived.Maps.AppendAt
import Derived.OrdersHeld
import Derived.OrdersIn
import Derived.OwnWalkIn
import Derived.RangeFuncBox
import Derived.RangeFuncCalls
import Derived.RangeFuncLeaves
import Derived.RangeFuncNested
import Derived.RangeFuncWrites
import Derived.Shelf.Abstract
import Derived.Shelf.Bytes.SlSmallAll
import Derived.Shelf.RegionOpen
import Derived.Sort.CutIn
import Derived.Stop.RegionWithIn
import Derived.TacticsInMore
import Derived.WalkKit
import Derived.WalkLawsBesides
import Derived.WalkSpells
namespace Go.Proofs.Ytgpkghlhlabjcaa
open Go Go.RowKit Go.Joins
/-- All lists are of a size that can be. -/
def smallF (ss : List Slc) : Prop := ∀ x ∈ ss, x.2.1 ≤ 1048576
/-- The slice (a, n, c) owns a row of slices that own what they read. -/
structure OwnLL (w : World) (base : Nat) (a : Option Addr) (n c : Nat) (ss : List Slc) (FL : List (List UInt8)) : Prop where
  len : FL.length = n
  lens : ss.length = n
  row : w.ownsRow base 27 1 (.slice a n c) n (ss.map slV)
  rows : ∀ j, j < n → Row isByte w base 5 (slV (ss.getD j slc0)) (FL.getD j []).length ((FL.getD j []).map bv)
theorem OwnLL.below {w w' : World} {base : Nat} {a : Option Addr} {n c : Nat} {ss : List Slc} {FL : List (List UInt8)} (h : OwnLL w base a n c ss FL) (hb : Below w.heap.size w w') : OwnLL w' base a n c ss FL :=
  ⟨h.len, h.lens, ownsN_below h.row hb, fun j hj => (h.rows j hj).below hb⟩
theorem OwnLL.sees {w : World} {base : Nat} {a : Option Addr} {n c : Nat} {ss : List Slc} {FL : List (List UInt8)} (h : OwnLL w base a n c ss FL) : SeesF w a n c ss FL :=
  ⟨(owns_sees_slice h.row).2, by rw [h.len, h.lens], fun k hk => (row_sees_slice (h.rows k (by rw [← h.len]; exact hk))).2⟩
theorem OwnLL.small {w : World} {base : Nat} {a : Option Addr} {n c : Nat} {ss : List Slc} {FL : List (List UInt8)} (h : OwnLL w base a n c ss FL) (hs : ∀ j, j < n → (FL.getD j []).length ≤ 1048576) : smallF ss := by
  refine all_of_getD (d := slc0) fun k hk => ?_
  have hk' : k < n := by rw [← h.lens]; exact hk
  have := (row_sees_slice (h.rows k hk')).1
  have h2 := hs k hk'
  omega
theorem OwnLL.base_le {w : World} {base b2 : Nat} {a : Option Addr} {n c : Nat} {ss : List Slc} {FL : List (List UInt8)} (h : OwnLL w base a n c ss FL) (hb : b2 ≤ base) : OwnLL w b2 a n c ss FL := by
  refine ⟨h.len, h.lens, ?_, fun j hj => (h.rows j hj).base_le hb⟩
  obtain ⟨hl, rest⟩ := h.row
  rcases rest with ⟨h2, h3⟩ | ⟨g, cap, cur, h2, hg, hh⟩
  · exact ⟨hl, .inl ⟨h2, h3⟩⟩
  · exact ⟨hl, .inr ⟨g, cap, cur, h2, Nat.le_trans hb hg, hh⟩⟩
theorem OwnLL.nil (w : World) (base : Nat) : OwnLL w base none 0 0 [] [] := ⟨rfl, rfl, ⟨rfl, .inl ⟨rfl, rfl⟩⟩, fun j hj => absurd hj (by omega)⟩
theorem OwnLL.move {w w' : World} {base B : Nat} {a : Option Addr} {n c : Nat} {ss : List Slc} {FL : List (List UInt8)} (h : OwnLL w base a n c ss FL) (hk : ∀ D, base ≤ D → w'.heap[D]? = w.heap[D]?) (hB : B ≤ base) : OwnLL w' B a n c ss FL := by
  refine OwnLL.base_le ⟨h.len, h.lens, ownsN_other h.row fun q hq => hk q ?_, fun j hj => (h.rows j hj).other fun q hq => hk q ((h.rows j hj).own.lt q hq).1⟩ hB
  obtain ⟨hl, rest⟩ := h.row
  rcases rest with ⟨h2, _⟩ | ⟨g, cap, cur, h2, hg, _⟩
  · rw [h2] at hq; cases hq
  · rw [h2] at hq
    have : g = q := by simpa [Value.ownBlock] using hq
    subst this
    exact hg
/-- A trace's slots own what they read; the frames' list may have room. -/
structure OwnTA (w : World) (base : Nat) (s : TSlots) (t : TraceC) : Prop where
  o1 : Row isByte w base 5 (.slice s.a1 s.n1 s.c1) t.init.length (t.init.map bv)
  ll : OwnLL w base s.a2 s.n2 s.c2 s.ss t.frames
theorem OwnTA.below {w w' : World} {base : Nat} {s : TSlots} {t : TraceC} (h : OwnTA w base s t) (hb : Below w.heap.size w w') : OwnTA w' base s t := ⟨h.o1.below hb, h.ll.below hb⟩
theorem OwnTA.sees {w : World} {base : Nat} {s : TSlots} {t : TraceC} (h : OwnTA w base s t) : SeesTr w s t := ⟨(row_sees_slice h.o1).2, h.ll.sees⟩
theorem OwnTA.move {w w' : World} {base B : Nat} {s : TSlots} {t : TraceC} (h : OwnTA w base s t) (hk : ∀ D, base ≤ D → w'.heap[D]? = w.heap[D]?) (hB : B ≤ base) : OwnTA w' B s t :=
  ⟨(h.o1.other fun q hq => hk q (h.o1.own.lt q hq).1).base_le hB, h.ll.move hk hB⟩
theorem ownTA_nil (w : World) (base : Nat) : OwnTA w base ⟨none, 0, 0, none, 0, 0, []⟩ ⟨0, [], []⟩ := ⟨⟨rfl, .inl ⟨rfl, rfl⟩⟩, OwnLL.nil _ _⟩
theorem tslots_nil : TSlots.small ⟨none, 0, 0, none, 0, 0, []⟩ := ⟨by simp, by simp, fun x hx => by cases hx⟩
theorem ownsN_base_le {w : World} {base b2 k : Nat} {e : TypeId} {v : Value} {n : Nat} {xs : List Value} (h : w.ownsRow base e k v n xs) (hb : b2 ≤ base) : w.ownsRow b2 e k v n xs := by
  obtain ⟨hl, rest⟩ := h
  rcases rest with ⟨h2, h3⟩ | ⟨g, cap, cur, h2, hg, hh⟩
  · exact ⟨hl, .inl ⟨h2, h3⟩⟩
  · exact ⟨hl, .inr ⟨g, cap, cur, h2, Nat.le_trans hb hg, hh⟩⟩
end Go.Proofs.Ytgpkghlhlabjcaa
