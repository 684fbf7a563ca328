/- What a run answers: rows of one length that a slice of slices reads as. -/
import Derived.Test.YtcoehbkjccfhlaaGEncM00
import Derived.Test.YtcoehbkjccfhlaaGEncM03
import Derived.Test.YtcoehbkjccfhlaaGEncM01
import Derived.Test.YtcoehbkjccfhlaaRows
import Derived.BigQuiet
import Derived.Deep.AppendLies
import Derived.Deep.QuietTactic
import Derived.Deep.RegionHeld3
import Derived.Deep.RegionLaw
import Derived.Deep.RegionWith
import Derived.KernelRfl
import Derived.Laws.EntriesVeiled
import Derived.Laws.Tables
import Derived.Lib.AppendStr
import Derived.Lib.ConvBytes
import Derived.Lib.Hide
import Derived.Lib.SlBytesRow
import Derived.Lib.SmallJoins
import Derived.Maps.AppendAt
import Derived.Shelf.Bytes.SlSmallAll
import Derived.WalkKit
import Derived.WalkLawsBesides
import Derived.WalkSpells
import Derived.Deep.CutRange
import Derived.Lib.AppendZeros
import Derived.Test.YtcoehbkjccfhlaaGEncM04
import Derived.Test.YtcoehbkjccfhlaaGEncM05
import Derived.Laws.Bits64b
import Derived.Laws.BitsAllLaws
import Derived.Laws.BitsLemmas
import Derived.LoopIn
import Derived.LoopNIn
import Derived.OrdersHeld
import Derived.OrdersIn
import Derived.OwnWalkIn
import Derived.RangeFuncBox
import Derived.RangeFuncCalls
import Derived.RangeFuncLeaves
import Derived.RangeFuncNested
import Derived.RangeFuncWrites
import Derived.Shelf.Abstract
import Derived.Shelf.RegionOpen
import Derived.Sort.CutIn
import Derived.Stop.RegionWithIn
import Derived.TacticsInMore
import Derived.Test.YtcoehbkjccfhlaaGEncM08
/- norm.CopyTrace once more: the lists of the copy lie apart from each other. -/
namespace Go.Proofs.Ytcoehbkjccfhlaa
open Go Go.RowKit Go.Joins

/-- No two of these slices lie in one row. -/
def ApartL (L : List Slc) : Prop := ∀ i j, i < j → j < L.length → ∀ g, (slV (L.getD i slc0)).ownBlock = some g → (slV (L.getD j slc0)).ownBlock ≠ some g
theorem apart_cons {x : Slc} {L : List Slc} (h1 : ∀ j, j < L.length → ∀ g, (slV x).ownBlock = some g → (slV (L.getD j slc0)).ownBlock ≠ some g) (h2 : ApartL L) : ApartL (x :: L) := by
  intro i j hij hj g hg
  obtain ⟨j, rfl⟩ : ∃ j', j = j' + 1 := ⟨j - 1, by omega⟩
  rw [List.getD_cons_succ]
  cases i with
  | zero => exact h1 j (by simpa using hj) g (by simpa using hg)
  | succ i =>
    rw [List.getD_cons_succ] at hg
    exact h2 i j (by omega) (by simpa using hj) g hg

/-- What lies in memory while CopyTrace goes on: F is the new frames' block. -/
structure CtInv2 (w1 : World) (F n : Nat) (fs : List (List UInt8)) (k : Nat) (ss : List Slc) (w : World) : Prop where
  len : ss.length = k
  blk : w.heap[F]? = some (.cells (fcells n (fun j => slV (ss.getD j slc0))) 27 (0, 0))
  rows : ∀ j, j < k → Row isByte w w1.heap.size 5 (slV (ss.getD j slc0)) (fs.getD j []).length ((fs.getD j []).map bv)
  but : But2 w1.heap.size F F w1 w
  sep : ∀ i j, i < j → j < k → ∀ g, (slV (ss.getD i slc0)).ownBlock = some g → (slV (ss.getD j slc0)).ownBlock ≠ some g
theorem CtInv2.step {w1 : World} {F n : Nat} {fs : List (List UInt8)} {k : Nat} {ss : List Slc} {w w2 : World} {s : Slc} (h : CtInv2 w1 F n fs k ss w) (hF : F < w1.heap.size) (hb : Below w.heap.size w w2) (hr : Row isByte w2 w.heap.size 5 (slV s) (fs.getD k []).length ((fs.getD k []).map bv)) :
    CtInv2 w1 F n fs (k + 1) (ss ++ [s]) (w2.setCell ⟨F, k, none⟩ (slV s)) := by
  have hlen := h.len
  have hs := h.but.size
  have row : ∀ {v : Value} {m : Nat} {xs : List Value}, Row isByte w2 w1.heap.size 5 v m xs → Row isByte (w2.setCell ⟨F, k, none⟩ (slV s)) w1.heap.size 5 v m xs := fun hr =>
    hr.other fun q hq => Below.heap_setCell w2 ⟨F, k, none⟩ _ q (show q ≠ F from fun e => by have := (hr.own.lt q hq).1; omega)
  refine ⟨by simp [hlen], ?_, fun j hj => ?_, ?_, fun i j hij hj g hg hg2 => ?_⟩
  · have h1 := block_setCell (heap_below h.blk hb) (i := k) (slV s)
    rw [fcells_set] at h1
    rw [h1]
    congr 2
    refine fcells_congr fun j _ => ?_
    by_cases e : j = k
    · rw [if_pos e, e, ← hlen]; simp
    · rw [if_neg e]
      by_cases e2 : j < ss.length
      · simp [List.getD, List.getElem?_append_left e2]
      · have e3 : ss.length < j := by omega
        simp [List.getD, List.getElem?_append_right (Nat.le_of_lt e3), List.getElem?_eq_none (Nat.le_of_lt e3), show ¬ j - ss.length = 0 by omega]
  · by_cases e : j = k
    · subst e
      have e1 : (ss ++ [s]).getD j slc0 = s := by rw [← hlen]; simp
      rw [e1]
      exact row (hr.base_le hs)
    · have e1 : (ss ++ [s]).getD j slc0 = ss.getD j slc0 := by simp [List.getD, List.getElem?_append_left (show j < ss.length by omega)]
      rw [e1]
      exact row ((h.rows j (by omega)).below hb)
  · have h1 : But2 w1.heap.size F F w1 w2 := h.but.trans (But2.of_below (hb.mono hs))
    refine ⟨h1.os, h1.tape, h1.output, by have := h1.size; simpa using this, fun D d1 d2 d3 => ?_⟩
    rw [Below.heap_setCell w2 ⟨F, k, none⟩ _ D d2]
    exact h1.block D d1 d2 d3
  · have ei : (ss ++ [s]).getD i slc0 = ss.getD i slc0 := by simp [List.getD, List.getElem?_append_left (show i < ss.length by omega)]
    rw [ei] at hg
    by_cases e : j = k
    · subst e
      have e1 : (ss ++ [s]).getD j slc0 = s := by rw [← hlen]; simp
      rw [e1] at hg2
      have h1 := ((h.rows i (by omega)).own.lt g hg).2
      have h2 := (hr.own.lt g hg2).1
      omega
    · have e1 : (ss ++ [s]).getD j slc0 = ss.getD j slc0 := by simp [List.getD, List.getElem?_append_left (show j < ss.length by omega)]
      rw [e1] at hg2
      exact h.sep i j hij (by omega) g hg hg2

end Go.Proofs.Ytcoehbkjccfhlaa
/- sim.Read, by its contract. -/
namespace Go.Proofs.Ytcoehbkjccfhlaa
open Go Go.RowKit Go.Joins

def zeroU (u : UInt8) : UInt8 := if u.toNat = 2 then 0 else u
def zeroL (l : List UInt8) : List UInt8 := l.map zeroU
def readT (t : TraceC) : TraceC := ⟨t.bad, zeroL t.init, t.frames.map zeroL⟩

theorem isByte_bv (u : UInt8) : isByte (bv u) := ⟨u, rfl⟩
/-- One cell of an own row written. -/
theorem Row.setAt {w : World} {base g n cap : Nat} {e : TypeId} {l : List UInt8} (h : Row isByte w base e (.slice (some ⟨g, 0, none⟩) n cap) n (l.map bv)) (i : Nat) (u : UInt8) :
    Row isByte (w.setCell ⟨g, i, none⟩ (bv u)) base e (.slice (some ⟨g, 0, none⟩) n cap) n ((l.set i u).map bv) := by
  obtain ⟨hl, h2⟩ := h
  rcases h2 with ⟨h2, _⟩ | ⟨g', cap', cur, h2, hg, hh, hn, hc, hs, ht, ho⟩
  · cases h2
  · cases h2
    refine ⟨by simpa using hl, .inr ⟨g, cap, cur.setIfInBounds i (bv u), rfl, hg, block_setCell hh (bv u), hn, hc, by simpa using hs, ?_, ?_⟩⟩
    · rw [Array.toList_setIfInBounds, List.take_set, ht, List.map_set]
    · intro x hx
      rw [Array.toList_setIfInBounds] at hx
      rcases List.mem_or_eq_of_mem_set hx with h | h
      · exact ho x h
      · rw [h]; exact isByte_bv u
theorem row_here {w : World} {base g n cap off : Nat} {e : TypeId} {xs : List Value} (h : Row isByte w base e (.slice (some ⟨g, off, none⟩) n cap) n xs) : off = 0 ∧ ∃ cur, w.heap[g]? = some (.cells cur e (0, 0)) := by
  rcases h.2 with ⟨h2, _⟩ | ⟨g', cap', cur, h2, hg, hh, _⟩
  · cases h2
  · cases h2; exact ⟨rfl, cur, hh⟩
theorem row_len {ok : Value → Prop} {w : World} {base : Nat} {e : TypeId} {a : Option Addr} {n c m : Nat} {xs : List Value} (h : Row ok w base e (.slice a n c) m xs) : m = n := by
  obtain ⟨_, _, e⟩ := h.form
  cases e
  rfl
/-- Rows that read as lists. -/
def RowsL (w : World) (base : Nat) (L : List Slc) (G : Nat → List UInt8) : Prop := ∀ j, j < L.length → Row isByte w base 5 (slV (L.getD j slc0)) (G j).length ((G j).map bv)
theorem RowsL.below {w w' : World} {base : Nat} {L : List Slc} {G : Nat → List UInt8} (h : RowsL w base L G) (hb : Below w.heap.size w w') : RowsL w' base L G := fun j hj => (h j hj).below hb
theorem RowsL.setAt {w : World} {base k g n cap : Nat} {L : List Slc} {G G' : Nat → List UInt8} (h : RowsL w base L G) (hap : ApartL L) (hk : k < L.length) (hx : L.getD k slc0 = (some ⟨g, 0, none⟩, n, cap)) (i : Nat) (u : UInt8)
    (hG : G' k = (G k).set i u) (hG2 : ∀ j, j ≠ k → G' j = G j) : RowsL (w.setCell ⟨g, i, none⟩ (bv u)) base L G' := by
  have hr := h k hk
  rw [hx] at hr
  have hn : n = (G k).length := by
    rcases hr.2 with ⟨h2, _⟩ | ⟨g', cap', cur, h2, _⟩
    · cases h2
    · simp only [slV] at h2; cases h2; rfl
  intro j hj
  by_cases e : j = k
  · subst e
    rw [hx, hG, List.length_set]
    subst hn
    exact Row.setAt hr i u
  · rw [hG2 j e]
    refine (h j hj).other fun q hq => Below.heap_setCell w ⟨g, i, none⟩ _ q (fun e2 => ?_)
    have hq2 : (slV (L.getD j slc0)).ownBlock = some g := by rw [hq, e2]
    have hg2 : (slV (L.getD k slc0)).ownBlock = some g := by rw [hx]; rfl
    rcases Nat.lt_or_gt_of_ne e with h | h
    · exact hap j k h hk g hq2 hg2
    · exact hap k j h hj g hg2 hq2
theorem RowsL.congr {w : World} {base : Nat} {L : List Slc} {G G' : Nat → List UInt8} (h : RowsL w base L G) (hG : ∀ j, j < L.length → G' j = G j) : RowsL w base L G' := fun j hj => by rw [hG j hj]; exact h j hj
/-- Blocks of cells that are no bytes are as they were. -/
def KeptNB (w w' : World) : Prop := ∀ (D : Nat) (C : Array Value) (T : TypeId) (fr : Nat × Nat), w.heap[D]? = some (.cells C T fr) → T ≠ 5 → w'.heap[D]? = some (.cells C T fr)
theorem KeptNB.refl (w : World) : KeptNB w w := fun _ _ _ _ h _ => h
theorem KeptNB.set {w w' : World} (h : KeptNB w w') {g i : Nat} {u : Value} {cur : Array Value} (hg : w'.heap[g]? = some (.cells cur 5 (0, 0))) : KeptNB w (w'.setCell ⟨g, i, none⟩ u) := fun D C T fr hD hT => by
  have h1 := h D C T fr hD hT
  exact (Below.heap_setCell w' ⟨g, i, none⟩ u D (fun e => by subst e; rw [hg] at h1; cases h1; exact hT rfl)).trans h1
theorem KeptNB.row {w w' : World} (h : KeptNB w w') {ok : Value → Prop} {base : Nat} {e : TypeId} {v : Value} {n : Nat} {xs : List Value} (hr : Row ok w base e v n xs) (he : e ≠ 5) : Row ok w' base e v n xs :=
  hr.other fun q hq => by
    rcases hr.2 with ⟨h2, _⟩ | ⟨g', cap', cur, h2, _, hh, _⟩
    · rw [h2] at hq; cases hq
    · rw [h2] at hq
      have : g' = q := by simpa [Value.ownBlock] using hq
      subst this
      exact (h g' cur e _ hh he).trans hh.symm
theorem zeroL_len (l : List UInt8) : (zeroL l).length = l.length := by simp [zeroL]
/-- What a list holds when i of its values have been read. -/
def zeroI (l : List UInt8) (i : Nat) : List UInt8 := zeroL (l.take i) ++ l.drop i
theorem zeroI_len (l : List UInt8) (i : Nat) : (zeroI l i).length = l.length := by simp [zeroI, zeroL]; omega
theorem zeroI_zero (l : List UInt8) : zeroI l 0 = l := by simp [zeroI, zeroL]
theorem zeroI_all (l : List UInt8) : zeroI l l.length = zeroL l := by simp [zeroI, zeroL]
theorem zeroI_at (l : List UInt8) (i : Nat) (h : i < l.length) : (zeroI l i).getD i 0 = l.getD i 0 := by
  have e : (zeroL (l.take i)).length = i := by simp [zeroL]; omega
  simp [zeroI, List.getD, List.getElem?_append_right (Nat.le_of_eq e), e, List.getElem?_drop]
theorem zeroI_step (l : List UInt8) (i : Nat) (h : i < l.length) : zeroI l (i + 1) = (zeroI l i).set i (zeroU (l.getD i 0)) := by
  have e : (zeroL (l.take i)).length = i := by simp [zeroL]; omega
  have hg : l.getD i 0 = l[i] := by simp [List.getD, List.getElem?_eq_getElem h]
  unfold zeroI
  rw [List.set_append_right _ _ (Nat.le_of_eq e), e, Nat.sub_self, List.drop_eq_getElem_cons h, List.set_cons_zero, List.take_add_one, List.getElem?_eq_getElem h, hg]
  simp only [zeroL, List.map_append, Option.toList_some, List.map_cons, List.map_nil, List.append_assoc, List.cons_append, List.nil_append]
theorem zeroI_keep (l : List UInt8) (i : Nat) (h : i < l.length) (h2 : zeroU (l.getD i 0) = l.getD i 0) : zeroI l (i + 1) = zeroI l i := by
  rw [zeroI_step l i h, h2, ← zeroI_at l i h]
  have hl : i < (zeroI l i).length := by rw [zeroI_len]; exact h
  simp [List.getD, List.getElem?_eq_getElem hl]

end Go.Proofs.Ytcoehbkjccfhlaa
/- sim.Fails, by its contract. -/
namespace Go.Proofs.Ytcoehbkjccfhlaa
open Go Go.RowKit Go.Joins

theorem zeroU_le (u : UInt8) (h : u.toNat ≤ 2) : (zeroU u).toNat ≤ 1 := by
  unfold zeroU
  split
  · exact Nat.zero_le _
  · omega
theorem zeroL_getD (l : List UInt8) (i : Nat) : (zeroL l).getD i 0 = zeroU (l.getD i 0) := by
  by_cases h : i < l.length
  · simp [zeroL, List.getD, List.getElem?_eq_getElem h]
  · simp [zeroL, List.getD, List.getElem?_eq_none (Nat.le_of_not_lt h)]; rfl
theorem readT_frame (t : TraceC) (k : Nat) : (readT t).frames.getD k [] = zeroL (t.frames.getD k []) := by
  by_cases h : k < t.frames.length
  · simp [readT, List.getD, List.getElem?_eq_getElem h]
  · simp [readT, List.getD, List.getElem?_eq_none (Nat.le_of_not_lt h), zeroL]
theorem FitsC.read {c : NormC} {t : TraceC} (h : FitsC c t) : FitsC c (readT t) := by
  refine ⟨h.may, h.pos, h.bad, by show (zeroL t.init).length = _; rw [zeroL_len]; exact h.init, fun u hu => ?_, fun i hi => ?_, by show 1 ≤ (t.frames.map zeroL).length; rw [List.length_map]; exact h.one, by show (t.frames.map zeroL).length ≤ 256; rw [List.length_map]; exact h.few, fun k hk => ?_, fun f hf u hu => ?_⟩
  · obtain ⟨x, hx, rfl⟩ := List.mem_map.1 hu
    have := zeroU_le x (h.inits x hx); omega
  · rcases h.resets i hi with h1 | h1
    · exact .inl h1
    · by_cases e : (c.lats.getD i (0, 0)).2 = 2
      · exact .inl e
      · refine .inr ?_
        show ((zeroL t.init).getD i 0).toNat = _
        rw [zeroL_getD]
        unfold zeroU
        rw [if_neg (by omega)]
        exact h1
  · rw [readT_frame, zeroL_len]
    exact h.frames k (by simpa [readT] using hk)
  · obtain ⟨g, hg, rfl⟩ := List.mem_map.1 hf
    obtain ⟨x, hx, rfl⟩ := List.mem_map.1 hu
    have := zeroU_le x (h.values g hg x hx); omega

/-- What Fails answers. -/
def failsE (c : NormC) (t : TraceC) : Ending := if fitsS c t = true then .returned (.tuple #[.bool (decide ((k1.verdict c t.bad.toNat (readT t).init (readT t).frames).toNat = 1)), .int .i64 0]) else .returned (.tuple #[.bool false, .int .i64 2])

end Go.Proofs.Ytcoehbkjccfhlaa
/- sim: the verdict over single values, by its contract. -/
namespace Go.Proofs.Ytcoehbkjccfhlaa
open Go Go.RowKit Go.Joins
attribute [local go_sem] Oper.semAt_some

theorem keep4 {w w' : World} {a0 a1 a2 a3 : Addr} {v0 v1 v2 v3 : Value} (h : w.cell? a0 = some v0 ∧ w.cell? a1 = some v1 ∧ w.cell? a2 = some v2 ∧ w.cell? a3 = some v3) (hb : Below w.heap.size w w') : w'.cell? a0 = some v0 ∧ w'.cell? a1 = some v1 ∧ w'.cell? a2 = some v2 ∧ w'.cell? a3 = some v3 := by
  obtain ⟨h0, h1, h2, h3⟩ := h
  have one : ∀ {a : Addr} {v : Value}, w.cell? a = some v → w'.cell? a = some v := fun {a v} h => (hb.cell (World.block_lt_of_cell? _ _ h)).trans h
  exact ⟨one h0, one h1, one h2, one h3⟩
theorem keep6 {w w' : World} {a0 a1 a2 a3 a4 a5 : Addr} {v0 v1 v2 v3 v4 v5 : Value} (h : w.cell? a0 = some v0 ∧ w.cell? a1 = some v1 ∧ w.cell? a2 = some v2 ∧ w.cell? a3 = some v3 ∧ w.cell? a4 = some v4 ∧ w.cell? a5 = some v5) (hb : Below w.heap.size w w') :
    w'.cell? a0 = some v0 ∧ w'.cell? a1 = some v1 ∧ w'.cell? a2 = some v2 ∧ w'.cell? a3 = some v3 ∧ w'.cell? a4 = some v4 ∧ w'.cell? a5 = some v5 := by
  obtain ⟨h0, h1, h2, h3, h4, h5⟩ := h
  have one : ∀ {a : Addr} {v : Value}, w.cell? a = some v → w'.cell? a = some v := fun {a v} h => (hb.cell (World.block_lt_of_cell? _ _ h)).trans h
  exact ⟨one h0, one h1, one h2, one h3, one h4, one h5⟩
theorem keep2 {w w' : World} {a0 a1 : Addr} {v0 v1 : Value} (h : w.cell? a0 = some v0 ∧ w.cell? a1 = some v1) (hb : Below w.heap.size w w') : w'.cell? a0 = some v0 ∧ w'.cell? a1 = some v1 :=
  ⟨(hb.cell (World.block_lt_of_cell? _ _ h.1)).trans h.1, (hb.cell (World.block_lt_of_cell? _ _ h.2)).trans h.2⟩

theorem two_boxes (W : World) (x y : Value) (T : TypeId) : ((W.alloc (.cells #[x] T)).alloc (.cells #[y] T)).drew.heap[W.heap.size]? = some (.cells #[x] T (0, 0)) ∧ ((W.alloc (.cells #[x] T)).alloc (.cells #[y] T)).drew.heap[W.heap.size + 1]? = some (.cells #[y] T (0, 0)) ∧
    Below W.heap.size W ((W.alloc (.cells #[x] T)).alloc (.cells #[y] T)).drew :=
  ⟨heap_below (w := W.alloc (.cells #[x] T)) (heap_new _ _ _ rfl) ((ext_alloc _ _).drew), heap_new (W.alloc (.cells #[x] T)) (.cells #[y] T) _ (by simp), (ext_trans (ext_alloc _ _) (ext_alloc _ _)).drew⟩
theorem Kpt.weaken {base : Nat} {T : TypeId} {g1 g2 : Nat} {A B : World} (h : Kpt base T g1 g1 A B) : Kpt base T g1 g2 A B ∧ Kpt base T g2 g1 A B :=
  ⟨⟨h.low, fun D X t fr hD ht h1 _ => h.mid D X t fr hD ht h1 h1⟩, ⟨h.low, fun D X t fr hD ht _ h1 => h.mid D X t fr hD ht h1 h1⟩⟩
theorem box_set {W : World} {g : Nat} {T : TypeId} {v : Value} (h : W.heap[g]? = some (.cells #[v] T (0, 0))) (u : Value) : (W.setCell ⟨g, 0, none⟩ u).heap[g]? = some (.cells #[u] T (0, 0)) := by
  have h1 := block_setCell h (i := 0) u
  simpa using h1
/-- New memory, then a store into a box. -/
theorem box_step {base B g : Nat} {T : TypeId} {W1 W2 : World} (u : Value) (hb : Below W1.heap.size W1 W2) (h1 : base ≤ W1.heap.size) (h2 : base ≤ g) : Kpt base T g g W1 (W2.setCell ⟨g, 0, none⟩ u) ∧ KeepsFrom B W1 (W2.setCell ⟨g, 0, none⟩ u) :=
  ⟨(Kpt.below hb h1).trans (Kpt.set W2 ⟨g, 0, none⟩ u h2 (.inl rfl)), (keepsFrom_below hb).trans ((KeepsOthers.setCell _ _ _).from _)⟩
theorem varsAt_len (c : NormC) (t : TraceC) (hi : t.init.length = c.lats.length) (hf : ∀ k, k < t.frames.length → ((t.frames.getD k []).length : Int) = c.ins) (k : Nat) (hk : k < t.frames.length) : (varsAt c t k).length = 1 + varsN c := by
  have h1 := hf k hk
  have h2 := k1.after_len c (t.frames.take k) t.init hi
  unfold varsAt
  rw [Kd.vars_len, h2]
  unfold varsN
  omega
theorem put_cells {A : World} {l D : Nat} {o o' : Obj} {C : Array Value} {T : TypeId} {fr : Nat × Nat} (hl : A.heap[l]? = some o) (ho : o.isCells = false) (hD : A.heap[D]? = some (.cells C T fr)) : (A.putObj l o').heap[D]? = some (.cells C T fr) :=
  (World.putObj_heap_other (fun e => by subst e; rw [hl] at hD; cases hD; cases ho)).trans hD
end Go.Proofs.Ytcoehbkjccfhlaa
namespace Go.Proofs.Ytcoehbkjccfhlaa
open Go Go.RowKit Go.Joins
theorem keep9 {w w' : World} {a0 a1 a2 a3 a4 a5 a6 a7 a8 : Addr} {v0 v1 v2 v3 v4 v5 v6 v7 v8 : Value} (h : w.cell? a0 = some v0 ∧ w.cell? a1 = some v1 ∧ w.cell? a2 = some v2 ∧ w.cell? a3 = some v3 ∧ w.cell? a4 = some v4 ∧ w.cell? a5 = some v5 ∧ w.cell? a6 = some v6 ∧ w.cell? a7 = some v7 ∧ w.cell? a8 = some v8) (hb : Below w.heap.size w w') : w'.cell? a0 = some v0 ∧ w'.cell? a1 = some v1 ∧ w'.cell? a2 = some v2 ∧ w'.cell? a3 = some v3 ∧ w'.cell? a4 = some v4 ∧ w'.cell? a5 = some v5 ∧ w'.cell? a6 = some v6 ∧ w'.cell? a7 = some v7 ∧ w'.cell? a8 = some v8 := by
  obtain ⟨h0, h1, h2, h3, h4, h5, h6, h7, h8⟩ := h
  have one : ∀ {a : Addr} {v : Value}, w.cell? a = some v → w'.cell? a = some v := fun {a v} h => (hb.cell (World.block_lt_of_cell? _ _ h)).trans h
  exact ⟨one h0, one h1, one h2, one h3, one h4, one h5, one h6, one h7, one h8⟩
/-- Rows of one length that a slice of slices reads as. -/
structure RowsB (w : World) (b o n c : Nat) (ss : List Slc) (N : Nat) (F : Nat → List UInt8) : Prop where
  list : Sees w (some ⟨b, o, none⟩) n c (ss.map slV)
  len : ss.length = n
  rows : ∀ j, j < n → ∃ rb ro rc, ss.getD j slc0 = (some ⟨rb, ro, none⟩, N, rc) ∧ Sees w (some ⟨rb, ro, none⟩) N rc ((F j).map bv)
theorem RowsB.below {w w' : World} {b o n c : Nat} {ss : List Slc} {N : Nat} {F : Nat → List UInt8} (h : RowsB w b o n c ss N F) (hb : Below w.heap.size w w') : RowsB w' b o n c ss N F :=
  ⟨h.list.below hb, h.len, fun j hj => by
    obtain ⟨rb, ro, rc, e, hs⟩ := h.rows j hj
    exact ⟨rb, ro, rc, e, hs.below hb⟩⟩
theorem RowsB.at {w : World} {b o n c : Nat} {ss : List Slc} {N : Nat} {F : Nat → List UInt8} (h : RowsB w b o n c ss N F) (k : Nat) (hk : k < n) :
    ∃ rb ro rc, w.cell? ⟨b, o + k, none⟩ = some (.slice (some ⟨rb, ro, none⟩) N rc) ∧ (∀ m, m < N → w.cell? ⟨rb, ro + m, none⟩ = some (.int .u8 (((F k).getD m 0).toNat : Int))) := by
  obtain ⟨rb, ro, rc, e, hs⟩ := h.rows k hk
  refine ⟨rb, ro, rc, ?_, fun m hm => hs.byte m hm⟩
  rw [(h.list.cell k hk).2, List.getElem?_map, List.getElem?_eq_getElem (show k < ss.length by rw [h.len]; exact hk)]
  have : ss[k]'(by rw [h.len]; exact hk) = ss.getD k slc0 := by simp [List.getD, List.getElem?_eq_getElem (show k < ss.length by rw [h.len]; exact hk)]
  rw [this, e]; rfl
theorem runpost_yes {c : NormC} {t : TraceC} {w w' : World} {e : Ending} (hF : FitsC c t) (h : RunPost c t w e w') :
    ∃ b o cc ss, e = .returned (.tuple #[.slice (some ⟨b, o, none⟩) t.frames.length cc, .int .i64 0]) ∧ RowsB w' b o t.frames.length cc ss (1 + varsN c) (varsAt c t) ∧ Below w.heap.size w w' := by
  obtain ⟨h1, _, hb⟩ := h
  obtain ⟨v, ss, e1, hl, ho, hr⟩ := h1 (fits_iff.2 hF)
  obtain ⟨a, cc, rfl, _, hs⟩ := Sees.owned ho
  obtain ⟨b, o, rfl, _⟩ := hs.addr (by have := hF.one; omega)
  refine ⟨b, o, cc, ss, e1, ⟨hs, hl, fun j hj => ?_⟩, hb⟩
  have h2 := hr j hj
  have hlen := varsAt_len c t hF.init hF.frames j hj
  rw [hlen] at h2
  obtain ⟨x, hx⟩ : ∃ x : Slc, x = ss.getD j slc0 := ⟨_, rfl⟩
  rw [← hx] at h2 ⊢
  obtain ⟨xa, xn, xc⟩ := x
  unfold slV at h2
  simp only at h2
  obtain ⟨e2, h3⟩ := row_sees_slice h2
  subst e2
  obtain ⟨rb, ro, e3, _⟩ := h3.addr (by omega)
  subst e3
  exact ⟨rb, ro, xc, rfl, h3⟩
end Go.Proofs.Ytcoehbkjccfhlaa
