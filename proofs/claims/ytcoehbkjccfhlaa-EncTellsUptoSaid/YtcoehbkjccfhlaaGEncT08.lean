/- Owned lists of lists; owned traces. -/
import Derived.Test.YtcoehbkjccfhlaaGEncT00
import Derived.Test.YtcoehbkjccfhlaaGEncT06
import Derived.Test.YtcoehbkjccfhlaaGEncT01
import Derived.Test.YtcoehbkjccfhlaaGEncT02
import Derived.Test.YtcoehbkjccfhlaaGEncT07
import Derived.Test.YtcoehbkjccfhlaaRows
import Derived.BigQuiet
import Derived.Deep.AppendLies
import Derived.Deep.CutRange
import Derived.Deep.QuietTactic
import Derived.Deep.RegionHeld3
import Derived.Deep.RegionLaw
import Derived.Deep.RegionWith
import Derived.KernelRfl
import Derived.Laws.Bits64b
import Derived.Laws.BitsAllLaws
import Derived.Laws.BitsLemmas
import Derived.Laws.EntriesVeiled
import Derived.Laws.Tables
import Derived.Lib.AppendStr
import Derived.Lib.AppendZeros
import Derived.Lib.ConvBytes
import Derived.Lib.Hide
import Derived.Lib.SlBytesRow
import Derived.Lib.SmallJoins
import Derived.LoopIn
import Derived.LoopNIn
import Derived.Maps.AppendAt
import Derived.OrdersHeld
import Derived.OrdersIn
import Derived.OwnWalkIn
import Derived.RangeFuncBox
import Derived.RangeFuncCalls
import Derived.RangeFuncLeaves
import Derived.RangeFuncNested
import Derived.RangeFuncWrites
import Derived.Shelf.Abstract
import Derived.Shelf.Bytes.SlSmallAll
import Derived.Shelf.RegionOpen
import Derived.Sort.CutIn
import Derived.Stop.RegionWithIn
import Derived.TacticsInMore
import Derived.WalkKit
import Derived.WalkLawsBesides
import Derived.WalkSpells
/- The reference's CopyTrace, by its contract. -/
namespace Go.Proofs.Ytcoehbkjccfhlaa
open Go Go.RowKit Go.Joins

/-- A trace's slots own what they read; the list of frames is a row that may have room. -/
structure OwnT3 (w : World) (base : Nat) (s : TSlots) (t : TraceC) : Prop where
  o1 : Row isByte w base 5 (.slice s.a1 s.n1 s.c1) t.init.length (t.init.map bv)
  o2 : w.ownsRow base 27 1 (.slice s.a2 s.n2 s.c2) t.frames.length (s.ss.map slV)
  len : s.ss.length = t.frames.length
  rows : ∀ j, j < t.frames.length → Row isByte w base 5 (slV (s.ss.getD j slc0)) (t.frames.getD j []).length ((t.frames.getD j []).map bv)
  ap : ApartL ((s.a1, s.n1, s.c1) :: s.ss)
theorem OwnT3.below {w w' : World} {base : Nat} {s : TSlots} {t : TraceC} (h : OwnT3 w base s t) (hb : Below w.heap.size w w') : OwnT3 w' base s t :=
  ⟨h.o1.below hb, ownsN_below h.o2 hb, h.len, fun j hj => (h.rows j hj).below hb, h.ap⟩
theorem owns_sees_slice {w : World} {base : Nat} {e : TypeId} {a : Option Addr} {n c m : Nat} {xs : List Value} (h : w.ownsRow base e 1 (.slice a n c) m xs) : n = m ∧ Sees w a n c xs := by
  obtain ⟨a', c', e1, _, hs⟩ := Sees.owned h
  cases e1
  exact ⟨rfl, hs⟩
theorem OwnT3.sees {w : World} {base : Nat} {s : TSlots} {t : TraceC} (h : OwnT3 w base s t) : SeesTr w s t :=
  ⟨(row_sees_slice h.o1).2, ⟨(owns_sees_slice h.o2).2, h.len, fun k hk => (row_sees_slice (h.rows k hk)).2⟩⟩

/-- While the copy is made: k frames have been copied. -/
structure RcInv (w : World) (bad : Int) (F : List (List UInt8)) (I : List UInt8) (a1 : Option Addr) (n1 c1 : Nat) (a2 : Option Addr) (n2 c2 k : Nat) (W : World) (v : Value) (si : Slc) (ss : List Slc) : Prop where
  box : W.heap[w.heap.size + 1 + 1]? = some (.cells #[.int .i64 bad, slV si, v] 30 (0, 0))
  tb : W.heap[w.heap.size]? = some (.cells #[.int .i64 bad, .slice a1 n1 c1, .slice a2 n2 c2] 30 (0, 0))
  rb : W.heap[w.heap.size + 1]? = some (.cells #[.int .i64 0, .slice none 0 0, .slice none 0 0] 30 (0, 0))
  init : Row isByte W w.heap.size 5 (slV si) I.length (I.map bv)
  row : W.ownsRow w.heap.size 27 1 v k (ss.map slV)
  len : ss.length = k
  rows : ∀ j, j < k → Row isByte W w.heap.size 5 (slV (ss.getD j slc0)) (F.getD j []).length ((F.getD j []).map bv)
  ap : ApartL (si :: ss)
  low : Below w.heap.size w W

theorem OwnT3.set3 {w : World} {base G : Nat} {s : TSlots} {t : TraceC} {C : Array Value} {fr : Nat × Nat} {u0 u1 u2 : Value} (h : OwnT3 w base s t) (hG : w.heap[G]? = some (.cells C 30 fr)) : OwnT3 (((w.setCell ⟨G, 0, .none⟩ u0).setCell ⟨G, 1, .none⟩ u1).setCell ⟨G, 2, .none⟩ u2) base s t := by
  have row : ∀ {v : Value} {n : Nat} {xs : List Value}, Row isByte w base 5 v n xs → Row isByte (((w.setCell ⟨G, 0, .none⟩ u0).setCell ⟨G, 1, .none⟩ u1).setCell ⟨G, 2, .none⟩ u2) base 5 v n xs := fun hr =>
    hr.other fun q hq => set3_other G q (fun e => (hr.not_own hG (by decide)) (by rw [hq, e])) _ _ _
  exact ⟨row h.o1, ownsN_other h.o2 fun q hq => set3_other G q (fun e => (ownsN_notown h.o2 hG (by decide)) (by rw [hq, e])) _ _ _, h.len, fun j hj => row (h.rows j hj), h.ap⟩
theorem keep3c {w w' : World} {a0 a1 a2 : Addr} {v0 v1 v2 : Value} (h : w.cell? a0 = some v0 ∧ w.cell? a1 = some v1 ∧ w.cell? a2 = some v2) (hb : Below w.heap.size w w') : w'.cell? a0 = some v0 ∧ w'.cell? a1 = some v1 ∧ w'.cell? a2 = some v2 := by
  obtain ⟨h0, h1, h2⟩ := h
  have one : ∀ {a : Addr} {v : Value}, w.cell? a = some v → w'.cell? a = some v := fun {a v} h => (hb.cell (World.block_lt_of_cell? _ _ h)).trans h
  exact ⟨one h0, one h1, one h2⟩
theorem apart_snoc {L : List Slc} {x : Slc} (h : ApartL L) (h2 : ∀ j, j < L.length → ∀ g, (slV (L.getD j slc0)).ownBlock = some g → (slV x).ownBlock ≠ some g) : ApartL (L ++ [x]) := by
  intro i j hij hj g hg
  have hi : i < L.length := by simp at hj; omega
  have e1 : (L ++ [x]).getD i slc0 = L.getD i slc0 := by simp [List.getD, List.getElem?_append_left hi]
  rw [e1] at hg
  by_cases e : j < L.length
  · have e2 : (L ++ [x]).getD j slc0 = L.getD j slc0 := by simp [List.getD, List.getElem?_append_left e]
    rw [e2]; exact h i j hij e g hg
  · have e3 : j = L.length := by simp at hj; omega
    have e2 : (L ++ [x]).getD j slc0 = x := by rw [e3]; simp
    rw [e2]; exact h2 i hi g hg

end Go.Proofs.Ytcoehbkjccfhlaa
namespace Go.Proofs.Ytcoehbkjccfhlaa
open Go Go.RowKit Go.Joins
/-- All lists are of a size that can be. -/
def smallF (ss : List Slc) : Prop := ∀ x ∈ ss, x.2.1 ≤ 1048576
/-- The slice (a, n, c) owns a row of slices that own what they read. -/
structure OwnLL (w : World) (base : Nat) (a : Option Addr) (n c : Nat) (ss : List Slc) (FL : List (List UInt8)) : Prop where
  len : FL.length = n
  lens : ss.length = n
  row : w.ownsRow base 27 1 (.slice a n c) n (ss.map slV)
  rows : ∀ j, j < n → Row isByte w base 5 (slV (ss.getD j slc0)) (FL.getD j []).length ((FL.getD j []).map bv)
theorem OwnLL.below {w w' : World} {base : Nat} {a : Option Addr} {n c : Nat} {ss : List Slc} {FL : List (List UInt8)} (h : OwnLL w base a n c ss FL) (hb : Below w.heap.size w w') : OwnLL w' base a n c ss FL :=
  ⟨h.len, h.lens, ownsN_below h.row hb, fun j hj => (h.rows j hj).below hb⟩
theorem OwnLL.sees {w : World} {base : Nat} {a : Option Addr} {n c : Nat} {ss : List Slc} {FL : List (List UInt8)} (h : OwnLL w base a n c ss FL) : SeesF w a n c ss FL :=
  ⟨(owns_sees_slice h.row).2, by rw [h.len, h.lens], fun k hk => (row_sees_slice (h.rows k (by rw [← h.len]; exact hk))).2⟩
theorem OwnLL.small {w : World} {base : Nat} {a : Option Addr} {n c : Nat} {ss : List Slc} {FL : List (List UInt8)} (h : OwnLL w base a n c ss FL) (hs : ∀ j, j < n → (FL.getD j []).length ≤ 1048576) : smallF ss := by
  refine all_of_getD (d := slc0) fun k hk => ?_
  have hk' : k < n := by rw [← h.lens]; exact hk
  have := (row_sees_slice (h.rows k hk')).1
  have h2 := hs k hk'
  omega
theorem OwnLL.base_le {w : World} {base b2 : Nat} {a : Option Addr} {n c : Nat} {ss : List Slc} {FL : List (List UInt8)} (h : OwnLL w base a n c ss FL) (hb : b2 ≤ base) : OwnLL w b2 a n c ss FL := by
  refine ⟨h.len, h.lens, ?_, fun j hj => (h.rows j hj).base_le hb⟩
  obtain ⟨hl, rest⟩ := h.row
  rcases rest with ⟨h2, h3⟩ | ⟨g, cap, cur, h2, hg, hh⟩
  · exact ⟨hl, .inl ⟨h2, h3⟩⟩
  · exact ⟨hl, .inr ⟨g, cap, cur, h2, Nat.le_trans hb hg, hh⟩⟩
theorem OwnLL.nil (w : World) (base : Nat) : OwnLL w base none 0 0 [] [] := ⟨rfl, rfl, ⟨rfl, .inl ⟨rfl, rfl⟩⟩, fun j hj => absurd hj (by omega)⟩
theorem OwnLL.move {w w' : World} {base B : Nat} {a : Option Addr} {n c : Nat} {ss : List Slc} {FL : List (List UInt8)} (h : OwnLL w base a n c ss FL) (hk : ∀ D, base ≤ D → w'.heap[D]? = w.heap[D]?) (hB : B ≤ base) : OwnLL w' B a n c ss FL := by
  refine OwnLL.base_le ⟨h.len, h.lens, ownsN_other h.row fun q hq => hk q ?_, fun j hj => (h.rows j hj).other fun q hq => hk q ((h.rows j hj).own.lt q hq).1⟩ hB
  obtain ⟨hl, rest⟩ := h.row
  rcases rest with ⟨h2, _⟩ | ⟨g, cap, cur, h2, hg, _⟩
  · rw [h2] at hq; cases hq
  · rw [h2] at hq
    have : g = q := by simpa [Value.ownBlock] using hq
    subst this
    exact hg
/-- A trace's slots own what they read; the frames' list may have room. -/
structure OwnTA (w : World) (base : Nat) (s : TSlots) (t : TraceC) : Prop where
  o1 : Row isByte w base 5 (.slice s.a1 s.n1 s.c1) t.init.length (t.init.map bv)
  ll : OwnLL w base s.a2 s.n2 s.c2 s.ss t.frames
theorem OwnTA.below {w w' : World} {base : Nat} {s : TSlots} {t : TraceC} (h : OwnTA w base s t) (hb : Below w.heap.size w w') : OwnTA w' base s t := ⟨h.o1.below hb, h.ll.below hb⟩
theorem OwnTA.sees {w : World} {base : Nat} {s : TSlots} {t : TraceC} (h : OwnTA w base s t) : SeesTr w s t := ⟨(row_sees_slice h.o1).2, h.ll.sees⟩
theorem OwnTA.move {w w' : World} {base B : Nat} {s : TSlots} {t : TraceC} (h : OwnTA w base s t) (hk : ∀ D, base ≤ D → w'.heap[D]? = w.heap[D]?) (hB : B ≤ base) : OwnTA w' B s t :=
  ⟨(h.o1.other fun q hq => hk q (h.o1.own.lt q hq).1).base_le hB, h.ll.move hk hB⟩
theorem ownTA_nil (w : World) (base : Nat) : OwnTA w base ⟨none, 0, 0, none, 0, 0, []⟩ ⟨0, [], []⟩ := ⟨⟨rfl, .inl ⟨rfl, rfl⟩⟩, OwnLL.nil _ _⟩
theorem tslots_nil : TSlots.small ⟨none, 0, 0, none, 0, 0, []⟩ := ⟨by simp, by simp, fun x hx => by cases hx⟩
theorem ownsN_base_le {w : World} {base b2 k : Nat} {e : TypeId} {v : Value} {n : Nat} {xs : List Value} (h : w.ownsRow base e k v n xs) (hb : b2 ≤ base) : w.ownsRow b2 e k v n xs := by
  obtain ⟨hl, rest⟩ := h
  rcases rest with ⟨h2, h3⟩ | ⟨g, cap, cur, h2, hg, hh⟩
  · exact ⟨hl, .inl ⟨h2, h3⟩⟩
  · exact ⟨hl, .inr ⟨g, cap, cur, h2, Nat.le_trans hb hg, hh⟩⟩
end Go.Proofs.Ytcoehbkjccfhlaa
