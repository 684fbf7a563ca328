/- A region of a function's body, taken out by its number. -/
import Derived.Test.YtcoehbkjccfhlaaGEncM00
import Derived.Test.YtcoehbkjccfhlaaGEncM03
import Derived.Test.YtcoehbkjccfhlaaGEncM01
import Derived.Test.YtcoehbkjccfhlaaGEncM04
import Derived.Test.YtcoehbkjccfhlaaGEncM10
import Derived.Test.YtcoehbkjccfhlaaRows
import Derived.BigQuiet
import Derived.Deep.AppendLies
import Derived.Deep.CutRange
import Derived.Deep.QuietTactic
import Derived.Deep.RegionHeld3
import Derived.Deep.RegionLaw
import Derived.Deep.RegionWith
import Derived.KernelRfl
import Derived.Laws.Bits64b
import Derived.Laws.BitsAllLaws
import Derived.Laws.BitsLemmas
import Derived.Laws.EntriesVeiled
import Derived.Laws.Tables
import Derived.Lib.AppendStr
import Derived.Lib.AppendZeros
import Derived.Lib.ConvBytes
import Derived.Lib.Hide
import Derived.Lib.SlBytesRow
import Derived.Lib.SmallJoins
import Derived.LoopIn
import Derived.LoopNIn
import Derived.Maps.AppendAt
import Derived.OrdersHeld
import Derived.OrdersIn
import Derived.OwnWalkIn
import Derived.RangeFuncBox
import Derived.RangeFuncCalls
import Derived.RangeFuncLeaves
import Derived.RangeFuncNested
import Derived.RangeFuncWrites
import Derived.Shelf.Abstract
import Derived.Shelf.Bytes.SlSmallAll
import Derived.Shelf.RegionOpen
import Derived.Sort.CutIn
import Derived.Stop.RegionWithIn
import Derived.TacticsInMore
import Derived.WalkKit
import Derived.WalkLawsBesides
import Derived.WalkSpells
/- The reference's CopyTrace, by its contract. -/
namespace Go.Proofs.Ytcoehbkjccfhlaa
open Go Go.RowKit Go.Joins

/-- A trace's slots own what they read; the list of frames is a row that may have room. -/
structure OwnT3 (w : World) (base : Nat) (s : TSlots) (t : TraceC) : Prop where
  o1 : Row isByte w base 5 (.slice s.a1 s.n1 s.c1) t.init.length (t.init.map bv)
  o2 : w.ownsRow base 27 1 (.slice s.a2 s.n2 s.c2) t.frames.length (s.ss.map slV)
  len : s.ss.length = t.frames.length
  rows : ∀ j, j < t.frames.length → Row isByte w base 5 (slV (s.ss.getD j slc0)) (t.frames.getD j []).length ((t.frames.getD j []).map bv)
  ap : ApartL ((s.a1, s.n1, s.c1) :: s.ss)
theorem OwnT3.below {w w' : World} {base : Nat} {s : TSlots} {t : TraceC} (h : OwnT3 w base s t) (hb : Below w.heap.size w w') : OwnT3 w' base s t :=
  ⟨h.o1.below hb, ownsN_below h.o2 hb, h.len, fun j hj => (h.rows j hj).below hb, h.ap⟩
theorem owns_sees_slice {w : World} {base : Nat} {e : TypeId} {a : Option Addr} {n c m : Nat} {xs : List Value} (h : w.ownsRow base e 1 (.slice a n c) m xs) : n = m ∧ Sees w a n c xs := by
  obtain ⟨a', c', e1, _, hs⟩ := Sees.owned h
  cases e1
  exact ⟨rfl, hs⟩
theorem OwnT3.sees {w : World} {base : Nat} {s : TSlots} {t : TraceC} (h : OwnT3 w base s t) : SeesTr w s t :=
  ⟨(row_sees_slice h.o1).2, ⟨(owns_sees_slice h.o2).2, h.len, fun k hk => (row_sees_slice (h.rows k hk)).2⟩⟩

/-- While the copy is made: k frames have been copied. -/
structure RcInv (w : World) (bad : Int) (F : List (List UInt8)) (I : List UInt8) (a1 : Option Addr) (n1 c1 : Nat) (a2 : Option Addr) (n2 c2 k : Nat) (W : World) (v : Value) (si : Slc) (ss : List Slc) : Prop where
  box : W.heap[w.heap.size + 1 + 1]? = some (.cells #[.int .i64 bad, slV si, v] 30 (0, 0))
  tb : W.heap[w.heap.size]? = some (.cells #[.int .i64 bad, .slice a1 n1 c1, .slice a2 n2 c2] 30 (0, 0))
  rb : W.heap[w.heap.size + 1]? = some (.cells #[.int .i64 0, .slice none 0 0, .slice none 0 0] 30 (0, 0))
  init : Row isByte W w.heap.size 5 (slV si) I.length (I.map bv)
  row : W.ownsRow w.heap.size 27 1 v k (ss.map slV)
  len : ss.length = k
  rows : ∀ j, j < k → Row isByte W w.heap.size 5 (slV (ss.getD j slc0)) (F.getD j []).length ((F.getD j []).map bv)
  ap : ApartL (si :: ss)
  low : Below w.heap.size w W

theorem OwnT3.set3 {w : World} {base G : Nat} {s : TSlots} {t : TraceC} {C : Array Value} {fr : Nat × Nat} {u0 u1 u2 : Value} (h : OwnT3 w base s t) (hG : w.heap[G]? = some (.cells C 30 fr)) : OwnT3 (((w.setCell ⟨G, 0, .none⟩ u0).setCell ⟨G, 1, .none⟩ u1).setCell ⟨G, 2, .none⟩ u2) base s t := by
  have row : ∀ {v : Value} {n : Nat} {xs : List Value}, Row isByte w base 5 v n xs → Row isByte (((w.setCell ⟨G, 0, .none⟩ u0).setCell ⟨G, 1, .none⟩ u1).setCell ⟨G, 2, .none⟩ u2) base 5 v n xs := fun hr =>
    hr.other fun q hq => set3_other G q (fun e => (hr.not_own hG (by decide)) (by rw [hq, e])) _ _ _
  exact ⟨row h.o1, ownsN_other h.o2 fun q hq => set3_other G q (fun e => (ownsN_notown h.o2 hG (by decide)) (by rw [hq, e])) _ _ _, h.len, fun j hj => row (h.rows j hj), h.ap⟩
theorem keep3c {w w' : World} {a0 a1 a2 : Addr} {v0 v1 v2 : Value} (h : w.cell? a0 = some v0 ∧ w.cell? a1 = some v1 ∧ w.cell? a2 = some v2) (hb : Below w.heap.size w w') : w'.cell? a0 = some v0 ∧ w'.cell? a1 = some v1 ∧ w'.cell? a2 = some v2 := by
  obtain ⟨h0, h1, h2⟩ := h
  have one : ∀ {a : Addr} {v : Value}, w.cell? a = some v → w'.cell? a = some v := fun {a v} h => (hb.cell (World.block_lt_of_cell? _ _ h)).trans h
  exact ⟨one h0, one h1, one h2⟩
theorem apart_snoc {L : List Slc} {x : Slc} (h : ApartL L) (h2 : ∀ j, j < L.length → ∀ g, (slV (L.getD j slc0)).ownBlock = some g → (slV x).ownBlock ≠ some g) : ApartL (L ++ [x]) := by
  intro i j hij hj g hg
  have hi : i < L.length := by simp at hj; omega
  have e1 : (L ++ [x]).getD i slc0 = L.getD i slc0 := by simp [List.getD, List.getElem?_append_left hi]
  rw [e1] at hg
  by_cases e : j < L.length
  · have e2 : (L ++ [x]).getD j slc0 = L.getD j slc0 := by simp [List.getD, List.getElem?_append_left e]
    rw [e2]; exact h i j hij e g hg
  · have e3 : j = L.length := by simp at hj; omega
    have e2 : (L ++ [x]).getD j slc0 = x := by rw [e3]; simp
    rw [e2]; exact h2 i hi g hg

end Go.Proofs.Ytcoehbkjccfhlaa
/- Owned lists of lists; owned traces. -/
namespace Go.Proofs.Ytcoehbkjccfhlaa
open Go Go.RowKit Go.Joins
/-- All lists are of a size that can be. -/
def smallF (ss : List Slc) : Prop := ∀ x ∈ ss, x.2.1 ≤ 1048576
/-- The slice (a, n, c) owns a row of slices that own what they read. -/
structure OwnLL (w : World) (base : Nat) (a : Option Addr) (n c : Nat) (ss : List Slc) (FL : List (List UInt8)) : Prop where
  len : FL.length = n
  lens : ss.length = n
  row : w.ownsRow base 27 1 (.slice a n c) n (ss.map slV)
  rows : ∀ j, j < n → Row isByte w base 5 (slV (ss.getD j slc0)) (FL.getD j []).length ((FL.getD j []).map bv)
theorem OwnLL.below {w w' : World} {base : Nat} {a : Option Addr} {n c : Nat} {ss : List Slc} {FL : List (List UInt8)} (h : OwnLL w base a n c ss FL) (hb : Below w.heap.size w w') : OwnLL w' base a n c ss FL :=
  ⟨h.len, h.lens, ownsN_below h.row hb, fun j hj => (h.rows j hj).below hb⟩
theorem OwnLL.sees {w : World} {base : Nat} {a : Option Addr} {n c : Nat} {ss : List Slc} {FL : List (List UInt8)} (h : OwnLL w base a n c ss FL) : SeesF w a n c ss FL :=
  ⟨(owns_sees_slice h.row).2, by rw [h.len, h.lens], fun k hk => (row_sees_slice (h.rows k (by rw [← h.len]; exact hk))).2⟩
theorem OwnLL.small {w : World} {base : Nat} {a : Option Addr} {n c : Nat} {ss : List Slc} {FL : List (List UInt8)} (h : OwnLL w base a n c ss FL) (hs : ∀ j, j < n → (FL.getD j []).length ≤ 1048576) : smallF ss := by
  refine all_of_getD (d := slc0) fun k hk => ?_
  have hk' : k < n := by rw [← h.lens]; exact hk
  have := (row_sees_slice (h.rows k hk')).1
  have h2 := hs k hk'
  omega
theorem OwnLL.base_le {w : World} {base b2 : Nat} {a : Option Addr} {n c : Nat} {ss : List Slc} {FL : List (List UInt8)} (h : OwnLL w base a n c ss FL) (hb : b2 ≤ base) : OwnLL w b2 a n c ss FL := by
  refine ⟨h.len, h.lens, ?_, fun j hj => (h.rows j hj).base_le hb⟩
  obtain ⟨hl, rest⟩ := h.row
  rcases rest with ⟨h2, h3⟩ | ⟨g, cap, cur, h2, hg, hh⟩
  · exact ⟨hl, .inl ⟨h2, h3⟩⟩
  · exact ⟨hl, .inr ⟨g, cap, cur, h2, Nat.le_trans hb hg, hh⟩⟩
theorem OwnLL.nil (w : World) (base : Nat) : OwnLL w base none 0 0 [] [] := ⟨rfl, rfl, ⟨rfl, .inl ⟨rfl, rfl⟩⟩, fun j hj => absurd hj (by omega)⟩
theorem OwnLL.move {w w' : World} {base B : Nat} {a : Option Addr} {n c : Nat} {ss : List Slc} {FL : List (List UInt8)} (h : OwnLL w base a n c ss FL) (hk : ∀ D, base ≤ D → w'.heap[D]? = w.heap[D]?) (hB : B ≤ base) : OwnLL w' B a n c ss FL := by
  refine OwnLL.base_le ⟨h.len, h.lens, ownsN_other h.row fun q hq => hk q ?_, fun j hj => (h.rows j hj).other fun q hq => hk q ((h.rows j hj).own.lt q hq).1⟩ hB
  obtain ⟨hl, rest⟩ := h.row
  rcases rest with ⟨h2, _⟩ | ⟨g, cap, cur, h2, hg, _⟩
  · rw [h2] at hq; cases hq
  · rw [h2] at hq
    have : g = q := by simpa [Value.ownBlock] using hq
    subst this
    exact hg
/-- A trace's slots own what they read; the frames' list may have room. -/
structure OwnTA (w : World) (base : Nat) (s : TSlots) (t : TraceC) : Prop where
  o1 : Row isByte w base 5 (.slice s.a1 s.n1 s.c1) t.init.length (t.init.map bv)
  ll : OwnLL w base s.a2 s.n2 s.c2 s.ss t.frames
theorem OwnTA.below {w w' : World} {base : Nat} {s : TSlots} {t : TraceC} (h : OwnTA w base s t) (hb : Below w.heap.size w w') : OwnTA w' base s t := ⟨h.o1.below hb, h.ll.below hb⟩
theorem OwnTA.sees {w : World} {base : Nat} {s : TSlots} {t : TraceC} (h : OwnTA w base s t) : SeesTr w s t := ⟨(row_sees_slice h.o1).2, h.ll.sees⟩
theorem OwnTA.move {w w' : World} {base B : Nat} {s : TSlots} {t : TraceC} (h : OwnTA w base s t) (hk : ∀ D, base ≤ D → w'.heap[D]? = w.heap[D]?) (hB : B ≤ base) : OwnTA w' B s t :=
  ⟨(h.o1.other fun q hq => hk q (h.o1.own.lt q hq).1).base_le hB, h.ll.move hk hB⟩
theorem ownTA_nil (w : World) (base : Nat) : OwnTA w base ⟨none, 0, 0, none, 0, 0, []⟩ ⟨0, [], []⟩ := ⟨⟨rfl, .inl ⟨rfl, rfl⟩⟩, OwnLL.nil _ _⟩
theorem tslots_nil : TSlots.small ⟨none, 0, 0, none, 0, 0, []⟩ := ⟨by simp, by simp, fun x hx => by cases hx⟩
theorem ownsN_base_le {w : World} {base b2 k : Nat} {e : TypeId} {v : Value} {n : Nat} {xs : List Value} (h : w.ownsRow base e k v n xs) (hb : b2 ≤ base) : w.ownsRow b2 e k v n xs := by
  obtain ⟨hl, rest⟩ := h
  rcases rest with ⟨h2, h3⟩ | ⟨g, cap, cur, h2, hg, hh⟩
  · exact ⟨hl, .inl ⟨h2, h3⟩⟩
  · exact ⟨hl, .inr ⟨g, cap, cur, h2, Nat.le_trans hb hg, hh⟩⟩
end Go.Proofs.Ytcoehbkjccfhlaa
/- A region that draws its order and whose last operation waits for all others: that operation comes last, so the others may be gone through by themselves. No function of the program is named here. -/
namespace Go.Proofs.Ytcoehbkjccfhlaa
open Go

/-- What is asked behind the others: the last operation, then what was asked. -/
def LastQ (P : Program) (ops : Array Oper) (Q : Exit → Act → World → Prop) (m : Nat) : Exit → Act → World → Prop
  | .normal, a, w => wpOp P ops Q m (fun a' w' => Q .normal a' w') a w
  | e, a, w => Q e a w

theorem lastq_wp {P : Program} {ops : Array Oper} {Q : Exit → Act → World → Prop} {m : Nat} {o : Oper} {a : Act} {w : World} {K : Act → World → Prop} (h : o.wp P a w K (LastQ P ops Q m)) : o.wp P a w K Q := by
  unfold Oper.wp at *
  cases hr : (execOp a.eval o).run P w with
  | ok n w' => rw [hr] at h; cases n <;> exact h
  | halt x w' => rw [hr] at h; cases x <;> exact h

section
variable {P : Program} {md : Region.Mode} {front : Array Oper} {last : Oper} {Q : Exit → Act → World → Prop}

theorem push_front {α : Type} (xs : Array α) (x : α) (i : Nat) (h : i < xs.size) : (xs.push x)[i]? = xs[i]? := by
  rw [Array.getElem?_push]; rw [if_neg (by omega)]
theorem push_last {α : Type} (xs : Array α) (x : α) : (xs.push x)[xs.size]? = some x := by
  rw [Array.getElem?_push]; simp
theorem getD_push_lt (l : Array Bool) (b d : Bool) (i : Nat) (h : i < l.size) : (l.push b).getD i d = l.getD i d := by
  simp [Array.getD_eq_getD_getElem?, push_front l b i h]
theorem getD_push_eq (l : Array Bool) (b d : Bool) : (l.push b).getD l.size d = b := by
  simp [Array.getD_eq_getD_getElem?]
theorem set_push_lt (l : Array Bool) (b : Bool) (i : Nat) (h : i < l.size) : (l.push b).setIfInBounds i true = (l.setIfInBounds i true).push b := by
  apply Array.ext'
  rw [Array.toList_setIfInBounds, Array.toList_push, Array.toList_push, Array.toList_setIfInBounds, List.set_append_left _ _ (by simpa using h)]

/-- Where nothing may come up, all have come up. -/
theorem all_listed (hord : ∀ (j : Nat) (o : Oper), front[j]? = some o → ∀ e ∈ o.after, Region.binds md e = true → e.on < j) {listed : Array Bool} (hs : listed.size = front.size) (hr : Region.ready md front listed = []) : ∀ j, j < front.size → listed.getD j false = true := by
  intro j
  induction j using Nat.strongRecOn with
  | ind j ih =>
    intro hj
    cases h : listed.getD j false with
    | true => rfl
    | false =>
      exfalso
      have hm : j ∈ Region.ready md front listed := by
        rw [mem_ready]
        refine ⟨?_, front[j], Array.getElem?_eq_getElem hj, fun e he hb => ?_⟩
        · have hjl : j < listed.size := by omega
          simp [hjl] at h ⊢
          exact h
        · have := hord j _ (Array.getElem?_eq_getElem hj) e he hb
          exact ih e.on this (by omega)
      rw [hr] at hm
      cases hm

theorem peel (hg : ∀ (j : Nat) (o : Oper), front[j]? = some o → o.guard = none) (hord : ∀ (j : Nat) (o : Oper), front[j]? = some o → ∀ e ∈ o.after, Region.binds md e = true → e.on < j) (hlo : ∀ e ∈ last.after, Region.binds md e = true → e.on < front.size) (hl : ∀ i, i < front.size → ∃ e ∈ last.after, Region.binds md e = true ∧ e.on = i) :
    ∀ (fuel : Nat) (listed : Array Bool) (a : Act) (w : World), listed.size = front.size → wpAny P md front (LastQ P (front.push last) Q front.size) fuel listed a w → wpAny P md (front.push last) Q (fuel + 1) (listed.push false) a w := by
  -- who may come up
  have up : ∀ (listed : Array Bool), listed.size = front.size → ∀ i, i < front.size → (i ∈ Region.ready md (front.push last) (listed.push false) ↔ i ∈ Region.ready md front listed) := by
    intro listed hs i hi
    rw [mem_ready, mem_ready, getD_push_lt _ _ _ _ (by omega), push_front _ _ _ hi]
    constructor
    · rintro ⟨h0, o, ho, ha⟩
      exact ⟨h0, o, ho, fun e he hb => by have h1 := ha e he hb; rw [getD_push_lt _ _ _ _ (by have := hord i o ho e he hb; omega)] at h1; exact h1⟩
    · rintro ⟨h0, o, ho, ha⟩
      exact ⟨h0, o, ho, fun e he hb => by rw [getD_push_lt _ _ _ _ (by have := hord i o ho e he hb; omega)]; exact ha e he hb⟩
  have upLast : ∀ (listed : Array Bool), listed.size = front.size → (front.size ∈ Region.ready md (front.push last) (listed.push false) ↔ ∀ j, j < front.size → listed.getD j false = true) := by
    intro listed hs
    rw [mem_ready, ← hs, getD_push_eq, hs, push_last]
    constructor
    · rintro ⟨_, o, ho, ha⟩ j hj
      cases ho
      obtain ⟨e, he, hb, rfl⟩ := hl j hj
      have h1 := ha e he hb
      rw [getD_push_lt _ _ _ _ (by omega)] at h1
      exact h1
    · intro h
      exact ⟨rfl, last, rfl, fun e he hb => by have := hlo e he hb; rw [getD_push_lt _ _ _ _ (by omega)]; exact h _ this⟩
  have inOps : ∀ (listed : Array Bool) i, i ∈ Region.ready md (front.push last) (listed.push false) → i ≤ front.size := by
    intro listed i hi
    obtain ⟨_, o, ho, _⟩ := mem_ready.1 hi
    have := (Array.getElem?_eq_some_iff.1 ho).1
    simp at this
    omega
  -- behind the last one nothing is left
  have over : ∀ (listed : Array Bool), listed.size = front.size → (∀ j, j < front.size → listed.getD j false = true) → Region.ready md (front.push last) ((listed.push false).setIfInBounds front.size true) = [] := by
    intro listed hs ha
    cases hr : Region.ready md (front.push last) ((listed.push false).setIfInBounds front.size true) with
    | nil => rfl
    | cons i t =>
      exfalso
      have hi : i ∈ Region.ready md (front.push last) ((listed.push false).setIfInBounds front.size true) := by rw [hr]; simp
      obtain ⟨h0, o, ho, _⟩ := mem_ready.1 hi
      have hlt := (Array.getElem?_eq_some_iff.1 ho).1
      simp only [Array.size_push] at hlt
      by_cases e : i = front.size
      · subst e
        have : front.size < ((listed.push false).setIfInBounds front.size true).size := by simp; omega
        simp [hs] at h0
      · rw [getD_set_ne true (fun h => e h.symm), getD_push_lt _ _ _ _ (by omega)] at h0
        have h1 := ha i (by omega)
        have hil : i < listed.size := by omega
        simp [hil] at h0 h1
        rw [h0] at h1
        cases h1
  have fin : ∀ (fuel : Nat) (listed : Array Bool) (a : Act) (w : World), listed.size = front.size → (∀ j, j < front.size → listed.getD j false = true) → LastQ P (front.push last) Q front.size .normal a w → wpAny P md (front.push last) Q (fuel + 1) (listed.push false) a w := by
    intro fuel listed a w hs ha h
    refine ⟨fun hr => ?_, fun i hi => ?_⟩
    · have := (upLast listed hs).2 ha
      rw [hr] at this; cases this
    · have hle := inOps listed i hi
      by_cases e : i = front.size
      · subst e
        refine wpOp_mono (fun a' w' hq => ?_) h
        cases fuel with
        | zero => exact ⟨over listed hs ha, hq⟩
        | succ f => exact ⟨fun _ => hq, by rw [over listed hs ha]; simp⟩
      · exfalso
        have h1 := (up listed hs i (by omega)).1 hi
        obtain ⟨h0, _⟩ := mem_ready.1 h1
        have h2 := ha i (by omega)
        have hil : i < listed.size := by omega
        simp [hil] at h0 h2
        rw [h0] at h2
        cases h2
  intro fuel
  induction fuel with
  | zero => exact fun listed a w hs h => fin 0 listed a w hs (all_listed hord hs h.1) h.2
  | succ fuel ih =>
    intro listed a w hs h
    by_cases hr : Region.ready md front listed = []
    · exact fin (fuel + 1) listed a w hs (all_listed hord hs hr) (h.1 hr)
    · refine ⟨fun hr' => ?_, fun i hi => ?_⟩
      · obtain ⟨i, hi⟩ := List.exists_mem_of_ne_nil _ hr
        have hlt := (Array.getElem?_eq_some_iff.1 (mem_ready.1 hi).2.choose_spec.1).1
        have := (up listed hs i hlt).2 hi
        rw [hr'] at this; cases this
      · have hle := inOps listed i hi
        by_cases e : i = front.size
        · subst e
          exact absurd (by
            have ha := (upLast listed hs).1 hi
            cases hr2 : Region.ready md front listed with
            | nil => rfl
            | cons j t =>
              have hj : j ∈ Region.ready md front listed := by rw [hr2]; simp
              obtain ⟨h0, o, ho, _⟩ := mem_ready.1 hj
              have hjl : j < listed.size := by have := (Array.getElem?_eq_some_iff.1 ho).1; omega
              have h2 := ha j (by omega)
              simp [hjl] at h0 h2
              rw [h0] at h2
              cases h2) hr
        · have hlt : i < front.size := by omega
          have h1 := h.2 i ((up listed hs i hlt).1 hi)
          have ho : front[i]? = some front[i] := Array.getElem?_eq_getElem hlt
          have hgd := hg i _ ho
          have hw : ∀ y, Region.wanted front[i] y = true := fun y => by unfold Region.wanted; rw [hgd]
          unfold wpOp at h1 ⊢
          rw [push_front _ _ _ hlt]
          simp only [ho, hw, if_true] at h1 ⊢
          rw [set_push_lt _ _ _ (by omega)]
          rcases h1 with h1 | ⟨h1, h2⟩
          · exact Or.inl (Oper.wp_mono (fun a' w' hk => ih _ a' w' (by simpa using hs) hk) (lastq_wp h1))
          · exact Or.inr ⟨h1, h2⟩
/-- The conditions, as one test. -/
def peelB (md : Region.Mode) (front : Array Oper) (last : Oper) : Bool :=
  (List.range front.size).all (fun j => match front[j]? with | some o => o.guard.isNone && o.after.all (fun e => !Region.binds md e || decide (e.on < j)) | none => true) &&
  (last.after.all (fun e => !Region.binds md e || decide (e.on < front.size)) && (List.range front.size).all (fun i => last.after.any (fun e => Region.binds md e && (e.on == i))))
theorem any_peel {ops : Array Oper} {a : Act} {w : World} (ho : ops = front.push last) (hB : peelB .any front last = true)
    (h : wpAny P .any front (LastQ P ops Q front.size) front.size (Array.replicate front.size false) a w.drew) : wpAny P .any ops Q ops.size (Array.replicate ops.size false) a w.drew := by
  subst ho
  unfold peelB at hB
  rw [Bool.and_eq_true, Bool.and_eq_true, List.all_eq_true, List.all_eq_true, Array.all_eq_true_iff_forall_mem] at hB
  obtain ⟨h1, h2, h3⟩ := hB
  have key : ∀ (j : Nat) (o : Oper), front[j]? = some o → o.guard = none ∧ ∀ e ∈ o.after, Region.binds .any e = true → e.on < j := by
    intro j o ho
    have hlt := (Array.getElem?_eq_some_iff.1 ho).1
    have h4 := h1 j (List.mem_range.2 hlt)
    rw [ho] at h4
    simp only [Bool.and_eq_true, Option.isNone_iff_eq_none, Array.all_eq_true_iff_forall_mem] at h4
    refine ⟨h4.1, fun e he hb => ?_⟩
    have h5 := h4.2 e he
    rw [hb] at h5
    simpa using h5
  have h9 := peel (P := P) (md := .any) (front := front) (last := last) (Q := Q) (fun j o ho => (key j o ho).1) (fun j o ho => (key j o ho).2) (fun e he hb => by have h5 := h2 e he; rw [hb] at h5; simpa using h5) (fun i hi => by
    have h5 := h3 i (List.mem_range.2 hi)
    obtain ⟨e, he, hb⟩ := Array.any_eq_true'.1 h5
    rw [Bool.and_eq_true] at hb
    exact ⟨e, he, hb.1, by simpa using hb.2⟩) front.size (Array.replicate front.size false) a w.drew (by simp) h
  have e1 : (front.push last).size = front.size + 1 := by simp
  have e2 : Array.replicate (front.size + 1) false = (Array.replicate front.size false).push false := Array.replicate_succ
  rw [e1, e2]
  exact h9
theorem wp_region_peel {id : Nat} {ops : Array Oper} {a : Act} {w : World} (hm : P.follows .mixedOrders = true) (ho : ops = front.push last) (hB : peelB .any front last = true)
    (h : wpAny P .any front (LastQ P ops Q front.size) front.size (Array.replicate front.size false) a w.drew) : (Code.region id ops true).wp P Q a w :=
  wp_region_any hm (any_peel ho hB h)
/-- The last one peeled, by numbers. -/
theorem any_peelN {ops : Array Oper} {a : Act} {w : World} (n : Nat) (hn : ops.size = n + 1) (ho : ops[n]? = some last) (hB : peelB .any ops.pop last = true)
    (h : wpAny P .any ops.pop (LastQ P ops Q n) n (Array.replicate n false) a w.drew) : wpAny P .any ops Q ops.size (Array.replicate ops.size false) a w.drew := by
  have hs : ops.pop.size = n := by simp [hn]
  refine any_peel (front := ops.pop) (last := last) ?_ hB (by rw [hs]; exact h)
  apply Array.ext_getElem?
  intro i
  by_cases e : i < n
  · rw [push_front _ _ _ (by omega), Array.getElem?_pop, if_pos (by omega)]
  · by_cases e2 : i = n
    · subst e2
      have := push_last ops.pop last
      rw [hs] at this
      rw [this, ho]
    · rw [Array.getElem?_eq_none (by omega), Array.getElem?_eq_none (by simp; omega)]
theorem wp_region_peelN {id : Nat} {ops : Array Oper} {a : Act} {w : World} (n : Nat) (hm : P.follows .mixedOrders = true) (hn : ops.size = n + 1) (ho : ops[n]? = some last) (hB : peelB .any ops.pop last = true)
    (h : wpAny P .any ops.pop (LastQ P ops Q n) n (Array.replicate n false) a w.drew) : (Code.region id ops true).wp P Q a w :=
  wp_region_any hm (any_peelN n hn ho hB h)
end
end Go.Proofs.Ytcoehbkjccfhlaa
namespace Go.Proofs.Ytcoehbkjccfhlaa
open Go
def findRegion (n : Nat) : Code → Option Code
  | .region k o d => if k = n then some (.region k o d) else none
  | .seq a b => match findRegion n a with
    | some c => some c
    | none => findRegion n b
  | .block _ c => findRegion n c
  | .scope c => findRegion n c
  | .loop c => findRegion n c
  | .cond _ a b => match findRegion n a with
    | some c => some c
    | none => findRegion n b
  | _ => none
end Go.Proofs.Ytcoehbkjccfhlaa
