/- The law's own examples hold. -/
import Derived.Test.YtjmdgbdlhaaefaaRows
import Derived.BigQuiet
import Derived.Deep.QuietTactic
import Derived.Deep.RegionWith
import Derived.Lib.AppendStr
import Derived.Lib.ConvBytes
import Derived.Lib.Hide
import Derived.Lib.SlBytesRow
import Derived.Lib.SmallJoins
import Derived.Shelf.Bytes.SlSmallAll
import Derived.WalkKit
import Derived.WalkLawsBesides
import Derived.WalkSpells
import Derived.Test.YtjmdgbdlhaaefaaLib
import Derived.Test.YtjmdgbdlhaaefaaOwn
import Derived.Test.YtjmdgbdlhaaefaaOwnStr
import Derived.Test.YtjmdgbdlhaaefaaNBase
import Derived.Test.YtjmdgbdlhaaefaaShelf
import Derived.Deep.AppendLies
import Derived.Deep.RegionLaw
import Derived.KernelRfl
import Derived.Laws.EntriesVeiled
import Derived.Lib.SlBytesConst
import Derived.Test.YtjmdgbdlhaaefaaNTrace
import Derived.Test.YtjmdgbdlhaaefaaRawPred
import Derived.Test.YtjmdgbdlhaaefaaRawMay
import Derived.Test.YtjmdgbdlhaaefaaNStep
import Derived.Test.YtjmdgbdlhaaefaaFCells
import Derived.Test.YtjmdgbdlhaaefaaNClone2
import Derived.Test.YtjmdgbdlhaaefaaNCopyTr
import Derived.Deep.RegionHeld3
import Derived.Laws.Tables
import Derived.Maps.AppendAt
import Derived.Test.YtjmdgbdlhaaefaaNHeap
import Derived.Test.YtjmdgbdlhaaefaaNHeap2
import Derived.Lib.AppendZeros
import Derived.Test.YtjmdgbdlhaaefaaNVal
import Derived.Deep.CutRange
import Derived.Test.YtjmdgbdlhaaefaaNSpec
import Derived.Test.YtjmdgbdlhaaefaaNCirc
import Derived.Test.YtjmdgbdlhaaefaaNOwns
import Derived.Test.YtjmdgbdlhaaefaaNFits
import Derived.Test.YtjmdgbdlhaaefaaTBits
import Derived.Test.YtjmdgbdlhaaefaaSSpec
import Derived.Test.YtjmdgbdlhaaefaaSVal
import Derived.Test.YtjmdgbdlhaaefaaSRun
import Derived.Test.YtjmdgbdlhaaefaaSVerd
import Derived.Test.YtjmdgbdlhaaefaaSSurely
import Derived.Laws.Bits64b
import Derived.Laws.BitsAllLaws
import Derived.Laws.BitsLemmas
import Derived.LoopIn
import Derived.LoopNIn
import Derived.OrdersHeld
import Derived.OrdersIn
import Derived.OwnWalkIn
import Derived.RangeFuncBox
import Derived.RangeFuncCalls
import Derived.RangeFuncLeaves
import Derived.RangeFuncNested
import Derived.RangeFuncWrites
import Derived.Shelf.Abstract
import Derived.Shelf.RegionOpen
import Derived.Sort.CutIn
import Derived.Stop.RegionWithIn
import Derived.TacticsInMore
import Derived.Test.YtjmdgbdlhaaefaaRowStep
import Derived.Test.YtjmdgbdlhaaefaaNOwnsN
import Derived.Test.YtjmdgbdlhaaefaaNPeel
import Derived.Test.YtjmdgbdlhaaefaaNMayC
import Derived.Test.YtjmdgbdlhaaefaaSFrame
import Derived.Test.YtjmdgbdlhaaefaaSVals
import Derived.Test.YtjmdgbdlhaaefaaSRFrame
import Derived.BigRegion
import Derived.Test.YtjmdgbdlhaaefaaSRunF
/- bytes.Clone, by its contract: a copy in new memory. -/
namespace Go.Proofs.Ytjmdgbdlhaaefaa
open Go Go.RowKit

theorem info_u8 : (Try.prog.info? 5).map (fun i => (i.zero, i.size, i.bytes)) = some (some (.int .u8 0), 1, 1) := by kernel_rfl

end Go.Proofs.Ytjmdgbdlhaaefaa
/- lex.Line, by its contract. -/
namespace Go.Proofs.Ytjmdgbdlhaaefaa
open Go Go.RowKit

/-- A line: how many bytes are ahead of the first byte 10. -/
def ahead (bs : List UInt8) : Nat := (bs.takeWhile (fun u => u != 10)).length

theorem ahead_at (bs : List UInt8) (k : Nat) (hk : k < bs.length) (hno : ∀ m, m < k → bs.getD m 0 ≠ 10) (h10 : bs.getD k 0 = 10) : ahead bs = k := by
  induction bs generalizing k with
  | nil => simp at hk
  | cons x r ih =>
    cases k with
    | zero => simp [List.getD] at h10; simp [ahead, h10]
    | succ k =>
      have h0 : x ≠ 10 := by have := hno 0 (by omega); simpa [List.getD] using this
      have := ih k (by simpa using hk) (fun m hm => by have := hno (m + 1) (by omega); simpa [List.getD] using this) (by simpa [List.getD] using h10)
      unfold ahead at this ⊢
      rw [List.takeWhile_cons]
      simp [h0, this]

theorem ahead_none (bs : List UInt8) (hno : ∀ m, m < bs.length → bs.getD m 0 ≠ 10) : ahead bs = bs.length := by
  induction bs with
  | nil => rfl
  | cons x r ih =>
    have h0 : x ≠ 10 := by have := hno 0 (by simp); simpa [List.getD] using this
    have := ih (fun m hm => by have := hno (m + 1) (by simpa using hm); simpa [List.getD] using this)
    unfold ahead at this ⊢
    rw [List.takeWhile_cons]
    simp [h0, this]

/-- What Line answers: the line and what is behind it, both new, or ErrShort. -/
def LinePost (bs : List UInt8) (n : Nat) (w : World) (e : Ending) (w' : World) : Prop :=
  (ahead bs < n ∧ ∃ v1 v2, e = .returned (.tuple #[v1, v2, .int .i64 0]) ∧ Row isByte w' w.heap.size 5 v1 (ahead bs) ((bs.take (ahead bs)).map bv) ∧
    Row isByte w' w.heap.size 5 v2 (n - (ahead bs + 1)) ((bs.drop (ahead bs + 1)).map bv) ∧ Below w.heap.size w w') ∨
  (ahead bs = n ∧ e = .returned (.tuple #[.slice none 0 0, .slice none 0 0, .int .i64 4]) ∧ Below w.heap.size w w')

theorem size_u8 : ∀ w, (sizeOf 5).run Try.prog w = .ok 1 w := fun w => by
  obtain ⟨i0, hi, hz0, hz1, hz2⟩ := info_parts info_u8
  simp [sizeOf, typeInfo, hi, hz1]

end Go.Proofs.Ytjmdgbdlhaaefaa
/- inquestref00.Lent, Burn and Back, by their contracts. -/
namespace Go.Proofs.Ytjmdgbdlhaaefaa
open Go Go.RowKit Go.Joins

/-- Block g is a row of cap bytes; all else is as it was. -/
structure Turned (w wr : World) (g cap : Nat) : Prop where
  row : ∃ cur, wr.heap[g]? = some (.cells cur 5 (0, 0)) ∧ cur.size = cap ∧ ∀ u ∈ cur.toList, isByte u
  rest : ∀ j, j ≠ g → wr.heap[j]? = w.heap[j]?
  size : w.heap.size ≤ wr.heap.size
  os : wr.os = w.os
  tape : wr.tape = w.tape
  output : wr.output = w.output

theorem Turned.store {w wr : World} {g cap k : Nat} (h : Turned w wr g cap) (u : Value) (hu : isByte u) : Turned w (wr.setCell ⟨g, k, none⟩ u) g cap := by
  obtain ⟨cur, hh, hs, hc⟩ := h.row
  refine ⟨⟨_, block_setCell hh u, by rw [Array.size_setIfInBounds, hs], fun x hx => ?_⟩, fun j hj => ?_, ?_, h.os, h.tape, h.output⟩
  · rw [Array.toList_setIfInBounds] at hx
    rcases List.mem_or_eq_of_mem_set hx with hx | rfl
    · exact hc x hx
    · exact hu
  · rw [Below.heap_setCell _ _ _ _ hj]; exact h.rest j hj
  · exact Nat.le_trans h.size (by simp [World.setCell])

/-- What Burn does: below the row's base nothing turns, and a row of bytes stays one. -/
structure Burnt (w w' : World) (base : Nat) : Prop where
  below : Below base w w'
  rows : ∀ (b : Nat) (v : Value) (n : Nat) (xs : List Value), Row isByte w b 5 v n xs → ∃ ys, Row isByte w' b 5 v n ys
  other : ∀ (D : Nat) (C : Array Value) (T : TypeId) (fr : Nat × Nat), w.heap[D]? = some (.cells C T fr) → T ≠ 5 → w'.heap[D]? = some (.cells C T fr)

theorem Turned.burnt {w w' : World} {g cap base : Nat} (h : Turned w w' g cap) (hb : base ≤ g) (h0 : ∃ cur fr, w.heap[g]? = some (.cells cur 5 fr) ∧ cur.size = cap) : Burnt w w' base := by
  refine ⟨⟨h.os, h.tape, h.output, h.size, fun k hk => h.rest k (by omega)⟩, fun b v n xs hr => ?_, fun D C T fr hD hT => ?_⟩
  · obtain ⟨h1, h2⟩ := hr
    rcases h2 with ⟨rfl, rfl⟩ | ⟨g', c', cur, rfl, hg, hh, hn, hc, hs, ht, ho⟩
    · exact ⟨[], Row.nil _ _ _ _⟩
    · by_cases he : g' = g
      · subst he
        obtain ⟨cur', hh', hs', hc'⟩ := h.row
        obtain ⟨cur0, fr, e0, hs0⟩ := h0
        rw [hh] at e0
        cases e0
        exact ⟨cur'.toList.take n, by simp; omega, .inr ⟨g', c', cur', rfl, hg, hh', hn, hc, by omega, rfl, hc'⟩⟩
      · exact ⟨xs, h1, .inr ⟨g', c', cur, rfl, hg, by rw [h.rest g' he]; exact hh, hn, hc, hs, ht, ho⟩⟩
  · obtain ⟨cur0, fr0, e0, _⟩ := h0
    rw [h.rest D (fun e => by subst e; rw [hD] at e0; cases e0; exact hT rfl)]; exact hD

theorem isByte_of (z : Int) (h0 : 0 ≤ z) (h1 : z < 256) : isByte (.int .u8 z) := by
  refine ⟨UInt8.ofNat z.toNat, ?_⟩
  unfold bv
  congr 1
  rw [UInt8.toNat_ofNat']
  omega
theorem isByte_val {u : Value} (h : isByte u) : ∃ x : Nat, x < 256 ∧ u = .int .u8 (x : Int) := by
  obtain ⟨b, rfl⟩ := h
  exact ⟨b.toNat, UInt8.toNat_lt b, rfl⟩

set_option maxRecDepth 100000 in
set_option maxHeartbeats 1600000 in
theorem burn_any (xs : List Value) (v : Value) (n base : Nat) (w : World) (h : Row isByte w base 5 v n xs) :
    Calls Try.prog 20 #[v] w fun e w' => e = .returned (.tuple #[]) ∧ Burnt w w' base := by
  rcases h with ⟨hlen, ⟨rfl, rfl⟩ | ⟨g, cap, cur, rfl, hg, hh, hnc, hcm, hs, ht, ho⟩⟩
  · clear hlen
    go_enter Try.func20, Try.ntmps20
    go_wp2
    go_loop [2] (fun i => i = .int .i64 0) (fun _ => 0)
    case atStart => rfl
    case round =>
      obtain rfl := hrel
      go_wp2
      go_end0
      exact ⟨rfl, Below.refl _ _, fun b v n xs h => ⟨xs, h⟩, fun D C T fr hD _ => hD⟩
  · have HT0 : Hid (Turned w w g cap) := ⟨⟨cur, hh, hs, ho⟩, fun _ _ => rfl, Nat.le_refl _, rfl, rfl, rfl⟩
    have HH : Hid (∃ cur fr, w.heap[g]? = some (.cells cur 5 fr) ∧ cur.size = cap) := ⟨cur, _, hh, hs⟩
    have hc63 : cap ≤ 9223372036854775807 := by unfold maxLen at hcm; omega
    have q1 := fun W => run_upto (P := Try.prog) Try.underlying27 size_u8 W (some ⟨g, 0, none⟩) n cap cap (cap : Int) rfl (Nat.le_refl _)
    have q2 : sliced (some ⟨g, 0, none⟩) 0 cap cap 1 = .slice (some ⟨g, 0, none⟩) cap cap := by
      unfold sliced
      by_cases h0 : cap = 0
      · subst h0; simp
      · rw [if_neg h0]; simp [Addr.add]
    simp only [q2] at q1
    clear hlen hh hs ht ho hcm q2
    go_enter Try.func20, Try.ntmps20
    go_wp2
    go_loopw [2] (fun i wr => ∃ k : Nat, k ≤ cap ∧ i = .int .i64 k ∧ Hid (Turned w wr g cap)) (fun i _ => cap - (intOf i).toNat)
    case atStart => exact ⟨0, Nat.zero_le _, rfl, HT0⟩
    case round =>
      obtain ⟨k, hk, rfl, hT⟩ := hrel
      by_cases hlt : k < cap
      · obtain ⟨cur', hh', hs', hc'⟩ := hT.out.row
        obtain ⟨x, hx, ex⟩ := isByte_val (hc' (cur'[k]'(by omega)) (by simp))
        have hcx : wr.cell? ⟨g, k, none⟩ = some (.int .u8 (x : Int)) := by rw [cell_of_block hh' k, Array.getElem?_eq_getElem (by omega), ex]
        have hfz := unfrozen_of_block hh' k
        clear hh' hs' hc' ex
        by_cases hw : x + 101 < 256
        · go_wp2
          go_roundw
          case rel => exact ⟨k + 1, by omega, by go_num, hT.out.store _ (isByte_of _ (by omega) (by omega))⟩
          case measure => simp [intOf]; omega
        · have hwr : IntKind.u8.wrap ((x : Int) + 101) = (x : Int) - 155 := by unfold IntKind.wrap; simp [IntKind.bits, IntKind.signed]; omega
          go_wp2
          go_roundw
          case rel => exact ⟨k + 1, by omega, by go_num, hT.out.store _ (isByte_of _ (by omega) (by omega))⟩
          case measure => simp [intOf]; omega
      · go_wp2
        go_end0
        exact ⟨rfl, hT.out.burnt hg HH.out⟩

end Go.Proofs.Ytjmdgbdlhaaefaa
/- inquestref00.Bytes, by its contract. -/
namespace Go.Proofs.Ytjmdgbdlhaaefaa
open Go Go.RowKit

set_option maxRecDepth 100000 in
set_option maxHeartbeats 400000 in
theorem bytes_any (bs cs : List UInt8) (a a' : Option Addr) (n c n' c' : Nat) (w : World) (h : Sees w a n c (bs.map bv)) (h' : Sees w a' n' c' (cs.map bv)) :
    Calls Try.prog 11 #[.slice a n c, .slice a' n' c'] w fun e w' => e = .returned (.bool (bs == cs)) ∧ w = w' := by
  have q1 := h.str (P := Try.prog) 27 5 9 Try.underlying27 Try.underlying5 Try.underlying9
  have q2 := h'.str (P := Try.prog) 27 5 9 Try.underlying27 Try.underlying5 Try.underlying9
  clear h h'
  go_enter Try.func11, Try.ntmps11
  go_wp2
  go_ret
  exact ⟨by simp [str], rfl⟩
end Go.Proofs.Ytjmdgbdlhaaefaa
/- inquestref00.Tables, inquestref03.SameTrace: are two traces the same? -/
namespace Go.Proofs.Ytjmdgbdlhaaefaa
open Go Go.RowKit Go.Joins

theorem info_tab : (Try.prog.info? 27).map (fun i => (i.zero, i.size, i.bytes)) = some (some (.slice none 0 0), 1, 24) := by kernel_rfl
theorem size_tab : ∀ w, (sizeOf 27).run Try.prog w = .ok 1 w := fun w => by
  obtain ⟨i0, hi, hz0, hz1, hz2⟩ := info_parts info_tab
  simp [sizeOf, typeInfo, hi, hz1]
theorem Sees.slice_at {w : World} {b off n c : Nat} {ss : List Slc} (h : Sees w (some ⟨b, off, .none⟩) n c (ss.map slV)) (j : Nat) (hj : j < n) :
    w.cell? ⟨b, off + j, .none⟩ = some (.slice (ss.getD j slc0).1 (ss.getD j slc0).2.1 (ss.getD j slc0).2.2) := by
  have hl : ss.length = n := h.lenMap
  rw [(h.cell j hj).2]
  simp [slV, List.getD, List.getElem?_eq_getElem (show j < ss.length by omega)]
theorem bytes_at (bs cs : List UInt8) (a a' : Option Addr) (n c n' c' : Nat) (w : World) (h : Sees w a n c (bs.map bv)) (h' : Sees w a' n' c' (cs.map bv)) :
    Calls Try.prog 11 #[.slice a n c, .slice a' n' c'] w fun e w' => e = .returned (.bool (decide (bs = cs))) ∧ w' = w := by
  refine (bytes_any bs cs a a' n c n' c' w h h').mono fun e w' hp => ?_
  obtain ⟨h1, rfl⟩ := hp
  exact ⟨by rw [show decide (bs = cs) = (bs == cs) by by_cases e : bs = cs <;> simp [e]]; exact h1, rfl⟩

/-- Where k lines have been held against each other. -/
structure TabI (w : World) (ss ss' : List Slc) (fs gs : List (List UInt8)) (n k : Nat) (a1 : Option Addr) (c1 : Nat) (a2 : Option Addr) (c2 : Nat) (wr : World) : Prop where
  s1 : Sees wr a1 (n - k) c1 ((ss.drop k).map slV)
  s2 : Sees wr a2 (n - k) c2 ((ss'.drop k).map slV)
  eq : ∀ j, j < k → fs.getD j [] = gs.getD j []
  bel : Below w.heap.size w wr
def slenT : Value → Nat | .slice _ m _ => m | _ => 0

set_option maxRecDepth 100000 in
set_option maxHeartbeats 1600000 in
theorem tables_any (fs gs : List (List UInt8)) (ss ss' : List Slc) (a a' : Option Addr) (n c n' c' : Nat) (w : World) (h : SeesF w a n c ss fs) (h' : SeesF w a' n' c' ss' gs) (hn : n ≤ 1048576) :
    Calls Try.prog 16 #[.slice a n c, .slice a' n' c'] w fun e w' => e = .returned (.bool (decide (fs = gs))) ∧ Below w.heap.size w w' := by
  have hl := h.n_eq
  have hl' := h'.n_eq
  obtain ⟨q, hq⟩ : ∃ q, q = decide (fs = gs) := ⟨_, rfl⟩
  have NO : fs ≠ gs → q = false := fun h => by rw [hq]; simpa using h
  rw [← hq]
  by_cases hne : n = n'
  · subst hne
    have YES : (∀ j, j < n → fs.getD j [] = gs.getD j []) → q = true := fun h => by
      rw [hq, decide_eq_true_eq]
      apply List.ext_getElem (by omega)
      intro i h1 h2
      have := h i (by omega)
      simpa [List.getD, List.getElem?_eq_getElem h1, List.getElem?_eq_getElem h2] using this
    have H := Lib.hid h
    have H' := Lib.hid h'
    have HL := Lib.hid hl
    have HL' := Lib.hid hl'
    have HNO := Lib.hid NO
    have HYES := Lib.hid YES
    clear h h' hl hl' NO YES hq
    go_enter Try.func16, Try.ntmps16
    go_wp2
    go_loopw [0, 1] (fun a b wr => ∃ (k : Nat) (a1 : Option Addr) (c1 : Nat) (a2 : Option Addr) (c2 : Nat), k ≤ n ∧ a = .slice a1 (n - k) c1 ∧ b = .slice a2 (n - k) c2 ∧ Hid (TabI w ss ss' fs gs n k a1 c1 a2 c2 wr))
      (fun a _ _ => slenT a)
    case atStart => exact ⟨0, _, _, _, _, Nat.zero_le _, rfl, rfl, ⟨H.out.row, H'.out.row, fun j hj => absurd hj (by omega), Below.refl _ _⟩⟩
    case round =>
      obtain ⟨k, a1, c1, a2, c2, hk, rfl, rfl, hI⟩ := hrel
      obtain ⟨s1, s2, heq, hbel⟩ := hI.out
      clear hI
      by_cases hlt : k < n
      · obtain ⟨b1, o1, rfl, _⟩ := s1.addr (by omega)
        obtain ⟨b2, o2, rfl, _⟩ := s2.addr (by omega)
        obtain ⟨x, hx⟩ : ∃ x : Slc, x = ss.getD k slc0 := ⟨_, rfl⟩
        obtain ⟨y, hy⟩ : ∃ y : Slc, y = ss'.getD k slc0 := ⟨_, rfl⟩
        have hsx := (H.out.below hbel).each k (by rw [HL.out]; exact hlt)
        have hsy := (H'.out.below hbel).each k (by rw [HL'.out]; exact hlt)
        rw [← hx] at hsx
        rw [← hy] at hsy
        have hc1 : wr.cell? ⟨b1, o1, none⟩ = some (.slice x.1 x.2.1 x.2.2) := by
          have := s1.slice_at 0 (by omega)
          rw [hx, ← show (ss.drop k).getD 0 slc0 = ss.getD k slc0 by simp [List.getD]]
          exact this
        have hc2 : wr.cell? ⟨b2, o2, none⟩ = some (.slice y.1 y.2.1 y.2.2) := by
          have := s2.slice_at 0 (by omega)
          rw [hy, ← show (ss'.drop k).getD 0 slc0 = ss'.getD k slc0 by simp [List.getD]]
          exact this
        obtain ⟨xa, xn, xc⟩ := x
        obtain ⟨ya, yn, yc⟩ := y
        simp only at hsx hsy hc1 hc2
        obtain ⟨p, hp⟩ : ∃ p, p = decide (fs.getD k [] = gs.getD k []) := ⟨_, rfl⟩
        have HCALL : Hid (∀ m, Calls Try.prog 11 #[.slice xa xn xc, .slice ya yn yc] (wr.drewN m) fun e w' => e = .returned (.bool p) ∧ w' = wr.drewN m) := fun m => by
          rw [hp]
          exact bytes_at _ _ xa ya xn xc yn yc (wr.drewN m) (hsx.below (ext_drewN wr m)) (hsy.below (ext_drewN wr m))
        obtain ⟨a3, ec3, see3⟩ := s1.cut 1 (n - k) (by omega) (Nat.le_refl _)
        obtain ⟨a4, ec4, see4⟩ := s2.cut 1 (n - k) (by omega) (Nat.le_refl _)
        have q1 := fun W => (run_from (P := Try.prog) Try.underlying28 size_tab W (some ⟨b1, o1, none⟩) (n - k) c1 1 1 rfl (by omega)).trans (congrArg (fun v => Result.ok v W) ec3)
        have q2 := fun W => (run_from (P := Try.prog) Try.underlying28 size_tab W (some ⟨b2, o2, none⟩) (n - k) c2 1 1 rfl (by omega)).trans (congrArg (fun v => Result.ok v W) ec4)
        have S3 : Hid (Sees wr a3 (n - (k + 1)) (c1 - 1) ((ss.drop (k + 1)).map slV)) := by
          have e : (List.map slV (ss.drop k)).take (n - k) = List.map slV (ss.drop k) := List.take_of_length_le (by rw [s1.len]; exact Nat.le_refl _)
          rw [e, ← List.map_drop, List.drop_drop] at see3
          exact see3
        have S4 : Hid (Sees wr a4 (n - (k + 1)) (c2 - 1) ((ss'.drop (k + 1)).map slV)) := by
          have e : (List.map slV (ss'.drop k)).take (n - k) = List.map slV (ss'.drop k) := List.take_of_length_le (by rw [s2.len]; exact Nat.le_refl _)
          rw [e, ← List.map_drop, List.drop_drop] at see4
          exact see4
        have HP := Lib.hid hp
        have HBL := Lib.hid hbel
        have HEQ := Lib.hid heq
        have hpos : (0 : Int) < ((n - k : Nat) : Int) := by omega
        clear ec3 ec4 see3 see4 hx hy hp heq s1 s2 hsx hsy hbel
        cases p with
        | true =>
          go_wp2
          go_quiet ((go_at_call 11; exact Calls.quiet_of_same (HCALL.out _)))
          go_wp2
          go_quiet (fail)
          go_wp2
          go_roundw
          case rel =>
            refine ⟨k + 1, _, _, _, _, by omega, rfl, rfl, ⟨S3.out.below (ext_trans (ext_drewN _ _) (ext_drewN _ _)), S4.out.below (ext_trans (ext_drewN _ _) (ext_drewN _ _)), fun j hj => ?_, ext_trans HBL.out (ext_trans (ext_drewN _ _) (ext_drewN _ _))⟩⟩
            rcases Nat.lt_or_ge j k with h | h
            · exact HEQ.out j h
            · have : j = k := by omega
              subst this
              exact of_decide_eq_true HP.out.symm
          case measure => simp [slenT]; omega
        | false =>
          have HF : Hid (q = false) := HNO.out fun e => by
            have := HP.out
            rw [e] at this
            simp at this
          go_wp2
          go_quiet ((go_at_call 11; exact Calls.quiet_of_same (HCALL.out _)))
          go_wp2
          go_ret
          exact ⟨by rw [HF.out]; rfl, ext_trans HBL.out (ext_drewN _ _)⟩
      · have hkn : k = n := by omega
        subst hkn
        have HT : Hid (q = true) := HYES.out heq
        have HBL := Lib.hid hbel
        clear heq s1 s2 hbel
        go_wp2
        go_ret
        exact ⟨by rw [HT.out]; rfl, HBL.out⟩
  · have hb : ((n : Int) != (n' : Int)) = true := by simp; omega
    have hb' : ((n : Int) == (n' : Int)) = false := by simp; omega
    have HF : Hid (q = false) := NO fun e => hne (by rw [← hl, ← hl', e])
    clear h h' hl hl' NO hq hne
    go_enter Try.func16, Try.ntmps16
    go_wp2
    go_ret
    exact ⟨by rw [HF.out]; rfl, Below.refl _ _⟩

set_option maxRecDepth 100000 in
set_option maxHeartbeats 1600000 in
theorem sametr_any (t u : TraceC) (s s' : TSlots) (w : World) (h : SeesTr w s t) (h' : SeesTr w s' u) (hs : s.small) (hb1 : -9223372036854775808 ≤ t.bad ∧ t.bad < 9223372036854775808) (hb2 : -9223372036854775808 ≤ u.bad ∧ u.bad < 9223372036854775808) :
    Calls Try.prog 17 #[traceV t.bad s, traceV u.bad s'] w fun e w' => e = .returned (.bool (decide (t = u))) ∧ Below w.heap.size w w' := by
  obtain ⟨a1, n1, c1, a2, n2, c2, ss⟩ := s
  obtain ⟨a1', n1', c1', a2', n2', c2', ss'⟩ := s'
  obtain ⟨z, init, fs⟩ := t
  obtain ⟨z', init', fs'⟩ := u
  have hn2 := hs.n2
  simp only at hn2 hb1 hb2
  obtain ⟨q, hq⟩ : ∃ q, q = decide ((⟨z, init, fs⟩ : TraceC) = ⟨z', init', fs'⟩) := ⟨_, rfl⟩
  have hiff : q = (decide (z = z') && (decide (init = init') && decide (fs = fs'))) := by
    rw [hq]
    by_cases e1 : z = z' <;> by_cases e2 : init = init' <;> by_cases e3 : fs = fs' <;> simp [e1, e2, e3]
  rw [← hq]
  have EB : Hid (∀ W, Below w.heap.size w W → Calls Try.prog 11 #[.slice a1 n1 c1, .slice a1' n1' c1'] W fun e w' => e = .returned (.bool (decide (init = init'))) ∧ w' = W) := fun W hb => bytes_at _ _ a1 a1' n1 c1 n1' c1' W (h.s1.below hb) (h'.s1.below hb)
  have ET : Hid (∀ W, Below w.heap.size w W → Calls Try.prog 16 #[.slice a2 n2 c2, .slice a2' n2' c2'] W fun e w' => e = .returned (.bool (decide (fs = fs'))) ∧ Below W.heap.size W w') := fun W hb => tables_any fs fs' ss ss' a2 a2' n2 c2 n2' c2' W (h.s2.below hb) (h'.s2.below hb) hn2
  obtain ⟨q2, hq2⟩ : ∃ q, q = decide (init = init') := ⟨_, rfl⟩
  obtain ⟨q3, hq3⟩ : ∃ q, q = decide (fs = fs') := ⟨_, rfl⟩
  rw [← hq2] at EB hiff
  rw [← hq3] at ET hiff
  have HI := Lib.hid hiff
  clear hq hq2 hq3 hiff h h' hs
  unfold traceV
  by_cases h0 : z = z'
  case neg =>
    have e0 : (z == z') = false := by simpa using h0
    have HF : Hid (q = false) := by show _ = _; rw [HI.out]; simp [h0]
    clear h0
    go_enter Try.func17, Try.ntmps17
    go_wp2
    go_ret
    exact ⟨by rw [HF.out]; rfl, ext_trans (ext_alloc _ _) (ext_alloc _ _)⟩
  subst h0
  have HQ : Hid (q = (q2 && q3)) := by show _ = _; rw [HI.out]; simp
  clear HI
  go_enter Try.func17, Try.ntmps17
  go_wp2_with fail
  refine (EB.out _ (ext_trans (ext_alloc _ _) (ext_alloc _ _))).mono ?_
  rintro e W1 ⟨rfl, rfl⟩
  cases q2 with
  | false =>
    go_wp2
    go_ret
    exact ⟨by rw [HQ.out]; rfl, ext_trans (ext_alloc _ _) (ext_alloc _ _)⟩
  | true =>
    go_wp2_with fail
    refine (ET.out _ (ext_trans (ext_alloc _ _) (ext_alloc _ _))).mono ?_
    rintro e W2 ⟨rfl, hb⟩
    have HB := Lib.hid (ext_trans (ext_trans (ext_alloc _ _) (ext_alloc _ _)) hb)
    clear hb
    go_wp2
    go_ret
    exact ⟨by rw [HQ.out]; simp, HB.out⟩
end Go.Proofs.Ytjmdgbdlhaaefaa
/- norm.CopyTrace once more: the lists of the copy lie apart from each other. -/
namespace Go.Proofs.Ytjmdgbdlhaaefaa
open Go Go.RowKit Go.Joins

/-- No two of these slices lie in one row. -/
def ApartL (L : List Slc) : Prop := ∀ i j, i < j → j < L.length → ∀ g, (slV (L.getD i slc0)).ownBlock = some g → (slV (L.getD j slc0)).ownBlock ≠ some g
theorem apart_cons {x : Slc} {L : List Slc} (h1 : ∀ j, j < L.length → ∀ g, (slV x).ownBlock = some g → (slV (L.getD j slc0)).ownBlock ≠ some g) (h2 : ApartL L) : ApartL (x :: L) := by
  intro i j hij hj g hg
  obtain ⟨j, rfl⟩ : ∃ j', j = j' + 1 := ⟨j - 1, by omega⟩
  rw [List.getD_cons_succ]
  cases i with
  | zero => exact h1 j (by simpa using hj) g (by simpa using hg)
  | succ i =>
    rw [List.getD_cons_succ] at hg
    exact h2 i j (by omega) (by simpa using hj) g hg

/-- What lies in memory while CopyTrace goes on: F is the new frames' block. -/
structure CtInv2 (w1 : World) (F n : Nat) (fs : List (List UInt8)) (k : Nat) (ss : List Slc) (w : World) : Prop where
  len : ss.length = k
  blk : w.heap[F]? = some (.cells (fcells n (fun j => slV (ss.getD j slc0))) 27 (0, 0))
  rows : ∀ j, j < k → Row isByte w w1.heap.size 5 (slV (ss.getD j slc0)) (fs.getD j []).length ((fs.getD j []).map bv)
  but : But2 w1.heap.size F F w1 w
  sep : ∀ i j, i < j → j < k → ∀ g, (slV (ss.getD i slc0)).ownBlock = some g → (slV (ss.getD j slc0)).ownBlock ≠ some g
theorem CtInv2.step {w1 : World} {F n : Nat} {fs : List (List UInt8)} {k : Nat} {ss : List Slc} {w w2 : World} {s : Slc} (h : CtInv2 w1 F n fs k ss w) (hF : F < w1.heap.size) (hb : Below w.heap.size w w2) (hr : Row isByte w2 w.heap.size 5 (slV s) (fs.getD k []).length ((fs.getD k []).map bv)) :
    CtInv2 w1 F n fs (k + 1) (ss ++ [s]) (w2.setCell ⟨F, k, none⟩ (slV s)) := by
  have hlen := h.len
  have hs := h.but.size
  have row : ∀ {v : Value} {m : Nat} {xs : List Value}, Row isByte w2 w1.heap.size 5 v m xs → Row isByte (w2.setCell ⟨F, k, none⟩ (slV s)) w1.heap.size 5 v m xs := fun hr =>
    hr.other fun q hq => Below.heap_setCell w2 ⟨F, k, none⟩ _ q (show q ≠ F from fun e => by have := (hr.own.lt q hq).1; omega)
  refine ⟨by simp [hlen], ?_, fun j hj => ?_, ?_, fun i j hij hj g hg hg2 => ?_⟩
  · have h1 := block_setCell (heap_below h.blk hb) (i := k) (slV s)
    rw [fcells_set] at h1
    rw [h1]
    congr 2
    refine fcells_congr fun j _ => ?_
    by_cases e : j = k
    · rw [if_pos e, e, ← hlen]; simp
    · rw [if_neg e]
      by_cases e2 : j < ss.length
      · simp [List.getD, List.getElem?_append_left e2]
      · have e3 : ss.length < j := by omega
        simp [List.getD, List.getElem?_append_right (Nat.le_of_lt e3), List.getElem?_eq_none (Nat.le_of_lt e3), show ¬ j - ss.length = 0 by omega]
  · by_cases e : j = k
    · subst e
      have e1 : (ss ++ [s]).getD j slc0 = s := by rw [← hlen]; simp
      rw [e1]
      exact row (hr.base_le hs)
    · have e1 : (ss ++ [s]).getD j slc0 = ss.getD j slc0 := by simp [List.getD, List.getElem?_append_left (show j < ss.length by omega)]
      rw [e1]
      exact row ((h.rows j (by omega)).below hb)
  · have h1 : But2 w1.heap.size F F w1 w2 := h.but.trans (But2.of_below (hb.mono hs))
    refine ⟨h1.os, h1.tape, h1.output, by have := h1.size; simpa using this, fun D d1 d2 d3 => ?_⟩
    rw [Below.heap_setCell w2 ⟨F, k, none⟩ _ D d2]
    exact h1.block D d1 d2 d3
  · have ei : (ss ++ [s]).getD i slc0 = ss.getD i slc0 := by simp [List.getD, List.getElem?_append_left (show i < ss.length by omega)]
    rw [ei] at hg
    by_cases e : j = k
    · subst e
      have e1 : (ss ++ [s]).getD j slc0 = s := by rw [← hlen]; simp
      rw [e1] at hg2
      have h1 := ((h.rows i (by omega)).own.lt g hg).2
      have h2 := (hr.own.lt g hg2).1
      omega
    · have e1 : (ss ++ [s]).getD j slc0 = ss.getD j slc0 := by simp [List.getD, List.getElem?_append_left (show j < ss.length by omega)]
      rw [e1] at hg2
      exact h.sep i j hij (by omega) g hg hg2

set_option maxRecDepth 100000 in
set_option maxHeartbeats 3200000 in
theorem copytr2_any (t : TraceC) (s : TSlots) (w : World) (h : SeesTr w s t) (hs : s.small) :
    Calls Try.prog 46 #[traceV t.bad s] w fun e w' => ∃ s', e = .returned (traceV t.bad s') ∧ OwnTr w' w.heap.size s' t ∧ ApartL ((s'.a1, s'.n1, s'.c1) :: s'.ss) ∧ Below w.heap.size w w' := by
  obtain ⟨i0, hi, hz0, hz1, hz2⟩ := info_parts info_u8s
  obtain ⟨a1, n1, c1, a2, n2, c2, ss⟩ := s
  obtain ⟨hs1, hs2, hs3⟩ := hs
  simp only at hs1 hs2 hs3
  obtain ⟨bad, init, fs⟩ := t
  obtain ⟨q1, q2⟩ := h
  simp only at q1 q2
  have hn2 := q2.n_eq
  have hn1 : init.length = n1 := by have := q1.len; simpa using this
  have HSL : Hid (∀ k, k < n2 → (ss.getD k slc0).2.1 ≤ 1048576) := fun k hk => hs3 _ (getD_mem (by rw [q2.len, hn2]; exact hk))
  have H1 := Lib.hid q1
  have H2 := Lib.hid q2
  have HN1 := Lib.hid hn1
  have HN2 := Lib.hid hn2
  clear q1 q2 hn1 hn2 hs3
  have mk := fun W => run_make_n (P := Try.prog) Try.underlying28 hi hz0 hz1 hz2 rfl n2 (by omega) (by omega) W
  rw [fcells_zero] at mk
  unfold traceV
  go_enter Try.func46, Try.ntmps46
  go_wp2_with fail
  generalize hW : World.alloc (World.alloc (World.alloc w _) _) _ = W1
  have B1 : Below w.heap.size w W1 := by subst hW; exact ext_trans (ext_alloc _ _) (ext_trans (ext_alloc _ _) (ext_alloc _ _))
  have hX : W1.heap[w.heap.size]? = some (.cells #[.int .i64 bad, .slice a1 n1 c1, .slice a2 n2 c2] 30 (0, 0)) := by
    subst hW; exact heap_below (heap_below (heap_new _ _ _ rfl) (ext_alloc _ _)) (ext_alloc _ _)
  have hR : W1.heap[w.heap.size + 1]? = some (.cells #[.int .i64 0, .slice none 0 0, .slice none 0 0] 30 (0, 0)) := by
    subst hW; exact heap_below (heap_new _ _ _ (by simp)) (ext_alloc _ _)
  have hF : W1.heap[w.heap.size + 1 + 1]? = some (.cells (fcells n2 (fun _ => .slice none 0 0)) 27 (0, 0)) := by
    subst hW; exact heap_new _ _ _ (by simp)
  clear hW mk
  have hFlt := heap_lt hF
  obtain ⟨F, hFF⟩ : ∃ F, F = w.heap.size + 1 + 1 := ⟨_, rfl⟩
  rw [← hFF] at hF hFlt ⊢
  have hF1 : w.heap.size + 1 < F := by omega
  have HI : Hid (CtInv2 W1 F n2 fs 0 [] W1) := by
    refine ⟨rfl, ?_, fun j hj => absurd hj (by omega), But2.refl _ _ _ _, fun i j _ hj => absurd hj (by omega)⟩
    rw [hF]
    congr 2
  have HX := Lib.hid hX
  have HR := Lib.hid hR
  have HB := Lib.hid B1
  clear hX hR hF B1 hFF
  go_loopw [13] (fun i wr => ∃ (k : Nat) (ss' : List Slc), k ≤ n2 ∧ i = .int .i64 k ∧ Hid (CtInv2 W1 F n2 fs k ss' wr))
    (fun i _ => n2 - (intOf i).toNat)
  case atStart => exact ⟨0, [], Nat.zero_le _, rfl, HI.out⟩
  case round =>
    clear HI
    obtain ⟨k, ss', hk, rfl, hI⟩ := hrel
    by_cases hlt : k < n2
    · have hbw : Below w.heap.size w wr := HB.out.trans (hI.out.but.low (by omega) (by omega) (by omega))
      obtain ⟨b, off, rfl, _⟩ := H2.out.row.addr (show 0 < n2 by omega)
      have hcx := (H2.out.below hbw).cellAt k hlt
      have hsee := (H2.out.below hbw).each k (by rw [HN2.out]; exact hlt)
      have hsl := HSL.out k hlt
      obtain ⟨sk, hsk⟩ : ∃ sk, sk = ss.getD k slc0 := ⟨_, rfl⟩
      rw [← hsk] at hcx hsee hsl
      obtain ⟨ak, nk, ck⟩ := sk
      simp only at hcx hsee hsl
      have W1' : IntKind.i64.wrap ((k : Int) + 1) = (k : Int) + 1 := IntWalk.i64_in _ (by omega)
      have HCL := Lib.hid (clone_u8 (fs.getD k []) ak nk ck wr hsee (by omega))
      have hnk : (fs.getD k []).length = nk := hsee.lenMap
      have HNK := Lib.hid hnk
      clear hsk hsee hbw hnk
      go_wp2_with fail
      refine HCL.out.mono ?_
      rintro e s1 ⟨v, rfl, hrow, b1⟩
      obtain ⟨ev, fv, rfl⟩ := hrow.form
      have hcF := (cell_of_block (heap_below hI.out.blk b1) k).trans (fcells_get _ _ _ hlt)
      have hfF := unfrozen_of_block (heap_below hI.out.blk b1) k
      have hnil : ss'.getD k slc0 = slc0 := by simp [List.getD, List.getElem?_eq_none (show ss'.length ≤ k by rw [hI.out.len]; exact Nat.le_refl _)]
      rw [hnil] at hcF
      have hcF2 : s1.cell? ⟨F, k, none⟩ = some (.slice none 0 0) := hcF
      have HI2 := Lib.hid (hI.out.step (s := (ev, nk, fv)) hFlt b1 (by rw [HNK.out]; exact hrow))
      clear hI hrow b1 hcF hnil
      simp only [slV] at HI2
      go_wp2
      go_roundw
      case rel => exact ⟨k + 1, _, by omega, by go_num, HI2.out⟩
      case measure => simp [intOf]; omega
    · obtain rfl : n2 = k := by omega
      obtain ⟨wo, hwo⟩ : ∃ wo : World, wo = wr := ⟨_, rfl⟩
      subst hwo
      have hXo := hI.out.but.at HX.out (by omega) (by omega) (by omega)
      have hRo := hI.out.but.at HR.out (by omega) (by omega) (by omega)
      have hbo : Below w.heap.size w wo := HB.out.trans (hI.out.but.low (by omega) (by omega) (by omega))
      have p0 : wo.cell? ⟨w.heap.size, 0, none⟩ = some (.int .i64 bad) := cell_of_block hXo 0
      have p1 : wo.cell? ⟨w.heap.size, 1, none⟩ = some (.slice a1 n1 c1) := cell_of_block hXo 1
      have E1 : Hid (∀ W, Below wo.heap.size wo W → Calls Try.prog 71 #[.slice a1 n1 c1] W fun e w' => ∃ v, e = .returned v ∧ Row isByte w' W.heap.size 5 v n1 (init.map bv) ∧ Below W.heap.size W w') := fun W hb => clone_u8 init a1 n1 c1 W (H1.out.below (ext_trans hbo hb)) (by omega)
      have HRO := Lib.hid hRo
      have HBO := Lib.hid hbo
      have hlt2 : w.heap.size + 1 < wo.heap.size := heap_lt hRo
      have hlt3 : F < wo.heap.size := Nat.lt_of_lt_of_le hFlt hI.out.but.size
      clear hXo hRo hbo hlt hk
      go_wp2_with fail
      go_region_held3 (fun w' => w'.cell? ⟨w.heap.size, 0, none⟩ = some (.int .i64 bad) ∧ w'.cell? ⟨w.heap.size, 1, none⟩ = some (.slice a1 n1 c1))
        (first | with_reducible exact ⟨p0, p1⟩ | with_reducible exact ⟨cell_drew p0, cell_drew p1⟩ | with_reducible exact ⟨d1_0, d1_1⟩ | with_reducible exact ⟨cell_drew d1_0, cell_drew d1_1⟩ | with_reducible exact ⟨cell_set3t d1_0 (by omega), cell_set3t d1_1 (by omega)⟩ | with_reducible exact ⟨cell_row d1_0 (by omega), cell_row d1_1 (by omega)⟩ | go_keep)
        (first
          | (go_at_call 71; (with_reducible refine (E1.out _ (by first | with_reducible exact Below.refl _ wo | with_reducible exact (Below.refl _ wo).drew)).mono ?_); rintro e s1 ⟨v1, rfl, r1, b1⟩; have HB1 : Below wo.heap.size wo s1 := (by first | exact ext_trans (Below.refl _ wo) b1 | exact ext_trans ((Below.refl _ wo).drew) b1); have d1_0 := cell_below p0 HB1; have d1_1 := cell_below p1 HB1; have R1 := Lib.hid r1; obtain ⟨e1, f1, rfl⟩ := r1.form; have hz := heap_below HRO.out HB1; have z0 := cell_of_block hz 0; have y0 := unfrozen_of_block hz 0; have z1 := cell_of_block hz 1; have y1 := unfrozen_of_block hz 1; have z2 := cell_of_block hz 2; have y2 := unfrozen_of_block hz 2; have HZ := Lib.hid hz; clear hz r1 b1))
      have HQ := Lib.hid HB1
      have HNN : Hid (init.length = n1) := HN1.out
      go_wp2
      refine bodyPost_ret (v := traceV bad ⟨e1, n1, f1, some ⟨F, 0, none⟩, n2, n2, ss'⟩) ?_ rfl ?_
      · have h6 := tri_set_t HZ.out rfl (.int .i64 bad) (.slice e1 n1 f1) (.slice (some ⟨F, 0, none⟩) n2 n2)
        have g0 := cell_of_block h6 0
        have g1 := cell_of_block h6 1
        have g2 := cell_of_block h6 2
        simp [results, Try.results46, go_sem, g0, g1, g2]
        rfl
      · have hap : ApartL ((e1, n1, f1) :: ss') := by
          refine apart_cons (fun j hj g hg hg2 => ?_) (fun i j hij hj g hg => hI.out.sep i j hij (by rw [← hI.out.len]; exact hj) g hg)
          have h1 := (R1.out.own.lt g hg).1
          have h2 := ((hI.out.rows j (by rw [← hI.out.len]; exact hj)).own.lt g hg2).2
          exact absurd h1 (Nat.not_le_of_lt h2)
        refine ⟨_, rfl, ?_, hap, set3_t (w.heap.size + 1) (Nat.le_succ _) (ext_trans HBO.out HQ.out)⟩
        have hI' := hI.out
        have hb2 := hI'.but.size
        have hbase : w.heap.size + 1 < W1.heap.size := by omega
        refine OwnTr.set3 (base := w.heap.size + 2) (t := ⟨bad, init, fs⟩) ⟨?_, ⟨F, by omega, rfl, ?_⟩, HN2.out.symm, HN2.out.symm, by rw [hI'.len]; exact HN2.out.symm, fun j hj => ?_⟩ (by omega) (by omega)
        · rw [HNN.out]
          exact R1.out.base_le (show w.heap.size + 2 ≤ wo.heap.size by omega)
        · rw [heap_below hI'.blk HQ.out]
          congr 2
          apply Array.ext'
          apply List.ext_getElem
          · simp [fcells, hI'.len]
          · intro i h1 h2
            have hi1 : i < n2 := by simpa [fcells] using h1
            simp [fcells, List.getD, List.getElem?_eq_getElem (show i < ss'.length by rw [hI'.len]; exact hi1)]
        · exact ((hI'.rows j (by rw [← HN2.out]; exact hj)).below HQ.out).base_le (by omega)
end Go.Proofs.Ytjmdgbdlhaaefaa
/- slices.Grow of nothing, slices.Concat of two lists of slices, by their contracts. -/
namespace Go.Proofs.Ytjmdgbdlhaaefaa
open Go Go.RowKit Go.Joins

/-- A slice. -/
def isSl (u : Value) : Prop := ∃ s : Slc, u = slV s
theorem zero_isSl : isSl (.slice none 0 0) := ⟨slc0, rfl⟩
theorem isSl_all (l : List Slc) : ∀ u ∈ l.map slV, isSl u := by
  intro u hu
  obtain ⟨x, _, rfl⟩ := List.mem_map.1 hu
  exact ⟨x, rfl⟩
theorem slV_one (l : List Slc) : ∀ u ∈ l.map slV, u.oneCell' = true := by
  intro u hu
  obtain ⟨x, _, rfl⟩ := List.mem_map.1 hu
  rfl
theorem size_u8s : ∀ w, (sizeOf 27).run Try.prog w = .ok 1 w := fun w => by
  obtain ⟨i0, hi, hz0, hz1, hz2⟩ := info_parts info_u8s
  simp [sizeOf, typeInfo, hi, hz1]
set_option maxRecDepth 100000 in
theorem grow_sl (n : Nat) (w : World) (hn : n ≤ 1000000000) :
    Calls Try.prog 72 #[.slice none 0 0, .int .i64 n] w fun e w' => ∃ v, e = .returned v ∧ Row isSl w' w.heap.size 27 v 0 [] ∧ Below w.heap.size w w' := by
  obtain ⟨i0, hi, hz0, hz1, hz2⟩ := info_parts info_u8s
  have e1 : decide ((n : Int) < 0) = false := by simp
  have W1 : IntKind.i64.wrap ((n : Int) - 0) = (n : Int) := by rw [Int.sub_zero]; exact IntWalk.i64_in _ (by omega)
  by_cases h0 : n = 0
  · subst h0
    go_enter Try.func72, Try.ntmps72
    go_wp2
    go_ret
    exact ⟨_, rfl, Row.nil _ _ _ _, Below.refl _ _⟩
  · have e2 : decide ((0 : Int) < (n : Int)) = true := by simp; omega
    have hr := fun ty => Lib.run_append_nil_zeros (P := Try.prog) w 28 3 ty 27 i0 (.slice none 0 0) .i64 .i64 Try.underlying28 Try.underlying3 hi hz0 n (by omega) (by omega) (by omega) (by rw [hz2]; omega)
    have hge := grownCap_ge w n 0 27
    have hle := grownCap_le_maxLen w n 0 27 (by unfold maxLen; omega)
    obtain ⟨cp, hcp⟩ : ∃ cp, cp = grownCap w n 0 27 := ⟨_, rfl⟩
    obtain ⟨cells, hcells⟩ : ∃ cells, cells = Builtin.zeroCells (Value.slice none 0 0).cells n ++ Builtin.zeroCells (Value.slice none 0 0).cells (grownCap w n 0 27 - n) := ⟨_, rfl⟩
    have hsz : cells.size = cp := by
      rw [hcells, Array.size_append, size_zeroCells, size_zeroCells, hcp]
      simp [Value.cells]
      omega
    have hok : ∀ u ∈ cells.toList, isSl u := by
      intro u hu
      rw [hcells, Array.toList_append, List.mem_append] at hu
      rcases hu with hu | hu
      · rw [mem_zeroCells rfl hu]; exact zero_isSl
      · rw [mem_zeroCells rfl hu]; exact zero_isSl
    rw [← hcells, ← hcp] at hr
    rw [← hcp] at hge hle
    have HR : Hid (∀ ty, (Builtin.append_ #[28, 3] ty #[.slice none 0 0, .int .i64 n]).run Try.prog w = .ok (.slice (some ⟨w.heap.size, 0, none⟩) n cp) (w.drew.alloc (.cells cells 27))) := hr
    have HSZ := Lib.hid hsz
    have HOK := Lib.hid hok
    have sl := fun W => (run_upto (P := Try.prog) Try.underlying28 size_u8s W (some ⟨w.heap.size, 0, none⟩) n cp 0 0 rfl (by omega)).trans (congrArg (fun v => Result.ok v W) (sliced_upto w.heap.size 0 cp))
    clear hcp hcells hsz hok hr
    go_enter Try.func72, Try.ntmps72
    go_wp2_with (at_builtin; refine Lib.wpList_append_run _ rfl _ _ _ _ rfl _ _ rfl rfl _ _ (HR.out _) ?_)
    go_wp2
    go_ret
    refine ⟨_, rfl, ⟨rfl, .inr ⟨w.heap.size, cp, cells, rfl, Nat.le_refl _, heap_alloc_new w.drew _, Nat.zero_le _, hle, HSZ.out, rfl, HOK.out⟩⟩, ((Below.refl _ w).drew).alloc (Nat.le_refl _) _⟩

set_option maxRecDepth 100000 in
set_option maxHeartbeats 1600000 in
theorem concat2_any (xs ys : List Slc) (a1 a2 : Option Addr) (n1 c1 n2 c2 D : Nat) (w : World) (h1 : Sees w a1 n1 c1 (xs.map slV)) (h2 : Sees w a2 n2 c2 (ys.map slV))
    (hD : w.heap[D]? = some (.cells #[.slice a1 n1 c1, .slice a2 n2 c2] 28 (0, 0))) (b1 : n1 ≤ 1048576) (b2 : n2 ≤ 1048576) :
    Calls Try.prog 47 #[.slice (some ⟨D, 0, .none⟩) 2 2] w fun e w' => ∃ v, e = .returned v ∧ Row isSl w' w.heap.size 27 v (n1 + n2) ((xs ++ ys).map slV) ∧ Below w.heap.size w w' := by
  obtain ⟨i0, hi, hz0, hz1, hz2⟩ := info_parts info_u8s
  have q0 := cell_of_block hD 0
  have q1 := cell_of_block hD 1
  have X1 := Lib.hid (isSl_all xs)
  have X2 := Lib.hid (isSl_all ys)
  have H1 := Lib.hid h1
  have H2 := Lib.hid h2
  have HD := Lib.hid hD
  clear h1 h2 hD
  have W0 : IntKind.i64.wrap (0 + (n1 : Int)) = (n1 : Int) := by rw [Int.zero_add]; exact IntWalk.i64_in _ (by omega)
  have W1 : IntKind.i64.wrap ((n1 : Int) + (n2 : Int)) = (n1 : Int) + (n2 : Int) := IntWalk.i64_in _ (by omega)
  have e0 : decide ((n1 : Int) < 0) = false := by simp
  have e1 : decide ((n1 : Int) + (n2 : Int) < 0) = false := by simp; omega
  go_enter Try.func47, Try.ntmps47
  go_wp2
  refine wp_loop_rounds 3 ?_
  rw [rounds_succ]
  go_wp2
  rw [rounds_succ]
  go_wp2
  rw [rounds_succ]
  go_wp2_with fail
  rw [show (n1 : Int) + (n2 : Int) = ((n1 + n2 : Nat) : Int) by omega]
  refine (grow_sl (n1 + n2) w (by omega)).mono ?_
  rintro e V0 ⟨v0, rfl, hr0, hb0⟩
  clear W0 W1 e0 e1 q0 q1
  have R0 : Hid (Row isSl V0 w.heap.size 27 v0 0 ([] : List Value)) := hr0
  have B0 := Lib.hid hb0
  obtain ⟨va0, vc0, rfl⟩ := hr0.form
  have q0 := cell_of_block (heap_below HD.out hb0) 0
  clear hr0 hb0
  go_wp2
  refine wp_loop_rounds 3 ?_
  rw [rounds_succ]
  go_wp2_with (at_builtin; refine wpList_append_row isSl _ rfl _ _ 28 rfl w.heap.size 27 i0 (.slice none 0 0) 24 Try.underlying28 hi hz0 hz1 hz2 rfl zero_isSl _ _ _ rfl R0.out a1 n1 c1 (xs.map slV) rfl (H1.out.below B0.out) (slV_one _) X1.out ?c1 ?c2 ?c3 ?_)
  case c1 => unfold maxLen; omega
  case c2 => omega
  case c3 => exact B0.out.size
  intro v1 V1 hr1 hg1 _
  have hb1 : Below w.heap.size w V1 := B0.out.grown hg1 B0.out.size (fun k hk => (R0.out.own.lt k hk).1)
  have B1 := Lib.hid hb1
  obtain ⟨va1, vc1, rfl⟩ := hr1.form
  have R1 := Lib.hid hr1
  clear hg1 q0
  have q1 := cell_of_block (heap_below HD.out hb1) 1
  clear hr1 hb1
  go_wp2
  rw [rounds_succ]
  go_wp2_with (at_builtin; refine wpList_append_row isSl _ rfl _ _ 28 rfl w.heap.size 27 i0 (.slice none 0 0) 24 Try.underlying28 hi hz0 hz1 hz2 rfl zero_isSl _ _ _ rfl R1.out a2 n2 c2 (ys.map slV) rfl (H2.out.below B1.out) (slV_one _) X2.out ?c1 ?c2 ?c3 ?_)
  case c1 => unfold maxLen; omega
  case c2 => omega
  case c3 => exact B1.out.size
  intro v2 V2 hr2 hg2 _
  have hb2 : Below w.heap.size w V2 := B1.out.grown hg2 B1.out.size (fun k hk => (R1.out.own.lt k hk).1)
  have B2 := Lib.hid hb2
  obtain ⟨va2, vc2, rfl⟩ := hr2.form
  have R2 := Lib.hid hr2
  clear hg2 q1
  clear hr2 hb2
  go_wp2
  rw [rounds_succ]
  go_wp2
  go_ret
  refine ⟨_, rfl, ?_, B2.out⟩
  have h := R2.out
  rw [List.map_append]
  exact h
end Go.Proofs.Ytjmdgbdlhaaefaa
/- sim.Read, by its contract. -/
namespace Go.Proofs.Ytjmdgbdlhaaefaa
open Go Go.RowKit Go.Joins

def zeroU (u : UInt8) : UInt8 := if u.toNat = 2 then 0 else u
def zeroL (l : List UInt8) : List UInt8 := l.map zeroU
def readT (t : TraceC) : TraceC := ⟨t.bad, zeroL t.init, t.frames.map zeroL⟩

theorem isByte_bv (u : UInt8) : isByte (bv u) := ⟨u, rfl⟩
/-- One cell of an own row written. -/
theorem Row.setAt {w : World} {base g n cap : Nat} {e : TypeId} {l : List UInt8} (h : Row isByte w base e (.slice (some ⟨g, 0, none⟩) n cap) n (l.map bv)) (i : Nat) (u : UInt8) :
    Row isByte (w.setCell ⟨g, i, none⟩ (bv u)) base e (.slice (some ⟨g, 0, none⟩) n cap) n ((l.set i u).map bv) := by
  obtain ⟨hl, h2⟩ := h
  rcases h2 with ⟨h2, _⟩ | ⟨g', cap', cur, h2, hg, hh, hn, hc, hs, ht, ho⟩
  · cases h2
  · cases h2
    refine ⟨by simpa using hl, .inr ⟨g, cap, cur.setIfInBounds i (bv u), rfl, hg, block_setCell hh (bv u), hn, hc, by simpa using hs, ?_, ?_⟩⟩
    · rw [Array.toList_setIfInBounds, List.take_set, ht, List.map_set]
    · intro x hx
      rw [Array.toList_setIfInBounds] at hx
      rcases List.mem_or_eq_of_mem_set hx with h | h
      · exact ho x h
      · rw [h]; exact isByte_bv u
theorem row_here {w : World} {base g n cap off : Nat} {e : TypeId} {xs : List Value} (h : Row isByte w base e (.slice (some ⟨g, off, none⟩) n cap) n xs) : off = 0 ∧ ∃ cur, w.heap[g]? = some (.cells cur e (0, 0)) := by
  rcases h.2 with ⟨h2, _⟩ | ⟨g', cap', cur, h2, hg, hh, _⟩
  · cases h2
  · cases h2; exact ⟨rfl, cur, hh⟩
theorem row_len {ok : Value → Prop} {w : World} {base : Nat} {e : TypeId} {a : Option Addr} {n c m : Nat} {xs : List Value} (h : Row ok w base e (.slice a n c) m xs) : m = n := by
  obtain ⟨_, _, e⟩ := h.form
  cases e
  rfl
/-- Rows that read as lists. -/
def RowsL (w : World) (base : Nat) (L : List Slc) (G : Nat → List UInt8) : Prop := ∀ j, j < L.length → Row isByte w base 5 (slV (L.getD j slc0)) (G j).length ((G j).map bv)
theorem RowsL.below {w w' : World} {base : Nat} {L : List Slc} {G : Nat → List UInt8} (h : RowsL w base L G) (hb : Below w.heap.size w w') : RowsL w' base L G := fun j hj => (h j hj).below hb
theorem RowsL.setAt {w : World} {base k g n cap : Nat} {L : List Slc} {G G' : Nat → List UInt8} (h : RowsL w base L G) (hap : ApartL L) (hk : k < L.length) (hx : L.getD k slc0 = (some ⟨g, 0, none⟩, n, cap)) (i : Nat) (u : UInt8)
    (hG : G' k = (G k).set i u) (hG2 : ∀ j, j ≠ k → G' j = G j) : RowsL (w.setCell ⟨g, i, none⟩ (bv u)) base L G' := by
  have hr := h k hk
  rw [hx] at hr
  have hn : n = (G k).length := by
    rcases hr.2 with ⟨h2, _⟩ | ⟨g', cap', cur, h2, _⟩
    · cases h2
    · simp only [slV] at h2; cases h2; rfl
  intro j hj
  by_cases e : j = k
  · subst e
    rw [hx, hG, List.length_set]
    subst hn
    exact Row.setAt hr i u
  · rw [hG2 j e]
    refine (h j hj).other fun q hq => Below.heap_setCell w ⟨g, i, none⟩ _ q (fun e2 => ?_)
    have hq2 : (slV (L.getD j slc0)).ownBlock = some g := by rw [hq, e2]
    have hg2 : (slV (L.getD k slc0)).ownBlock = some g := by rw [hx]; rfl
    rcases Nat.lt_or_gt_of_ne e with h | h
    · exact hap j k h hk g hq2 hg2
    · exact hap k j h hj g hg2 hq2
theorem RowsL.congr {w : World} {base : Nat} {L : List Slc} {G G' : Nat → List UInt8} (h : RowsL w base L G) (hG : ∀ j, j < L.length → G' j = G j) : RowsL w base L G' := fun j hj => by rw [hG j hj]; exact h j hj
/-- Blocks of cells that are no bytes are as they were. -/
def KeptNB (w w' : World) : Prop := ∀ (D : Nat) (C : Array Value) (T : TypeId) (fr : Nat × Nat), w.heap[D]? = some (.cells C T fr) → T ≠ 5 → w'.heap[D]? = some (.cells C T fr)
theorem KeptNB.refl (w : World) : KeptNB w w := fun _ _ _ _ h _ => h
theorem KeptNB.set {w w' : World} (h : KeptNB w w') {g i : Nat} {u : Value} {cur : Array Value} (hg : w'.heap[g]? = some (.cells cur 5 (0, 0))) : KeptNB w (w'.setCell ⟨g, i, none⟩ u) := fun D C T fr hD hT => by
  have h1 := h D C T fr hD hT
  exact (Below.heap_setCell w' ⟨g, i, none⟩ u D (fun e => by subst e; rw [hg] at h1; cases h1; exact hT rfl)).trans h1
theorem KeptNB.row {w w' : World} (h : KeptNB w w') {ok : Value → Prop} {base : Nat} {e : TypeId} {v : Value} {n : Nat} {xs : List Value} (hr : Row ok w base e v n xs) (he : e ≠ 5) : Row ok w' base e v n xs :=
  hr.other fun q hq => by
    rcases hr.2 with ⟨h2, _⟩ | ⟨g', cap', cur, h2, _, hh, _⟩
    · rw [h2] at hq; cases hq
    · rw [h2] at hq
      have : g' = q := by simpa [Value.ownBlock] using hq
      subst this
      exact (h g' cur e _ hh he).trans hh.symm
theorem zeroL_len (l : List UInt8) : (zeroL l).length = l.length := by simp [zeroL]
/-- What a list holds when i of its values have been read. -/
def zeroI (l : List UInt8) (i : Nat) : List UInt8 := zeroL (l.take i) ++ l.drop i
theorem zeroI_len (l : List UInt8) (i : Nat) : (zeroI l i).length = l.length := by simp [zeroI, zeroL]; omega
theorem zeroI_zero (l : List UInt8) : zeroI l 0 = l := by simp [zeroI, zeroL]
theorem zeroI_all (l : List UInt8) : zeroI l l.length = zeroL l := by simp [zeroI, zeroL]
theorem zeroI_at (l : List UInt8) (i : Nat) (h : i < l.length) : (zeroI l i).getD i 0 = l.getD i 0 := by
  have e : (zeroL (l.take i)).length = i := by simp [zeroL]; omega
  simp [zeroI, List.getD, List.getElem?_append_right (Nat.le_of_eq e), e, List.getElem?_drop]
theorem zeroI_step (l : List UInt8) (i : Nat) (h : i < l.length) : zeroI l (i + 1) = (zeroI l i).set i (zeroU (l.getD i 0)) := by
  have e : (zeroL (l.take i)).length = i := by simp [zeroL]; omega
  have hg : l.getD i 0 = l[i] := by simp [List.getD, List.getElem?_eq_getElem h]
  unfold zeroI
  rw [List.set_append_right _ _ (Nat.le_of_eq e), e, Nat.sub_self, List.drop_eq_getElem_cons h, List.set_cons_zero, List.take_add_one, List.getElem?_eq_getElem h, hg]
  simp only [zeroL, List.map_append, Option.toList_some, List.map_cons, List.map_nil, List.append_assoc, List.cons_append, List.nil_append]
theorem zeroI_keep (l : List UInt8) (i : Nat) (h : i < l.length) (h2 : zeroU (l.getD i 0) = l.getD i 0) : zeroI l (i + 1) = zeroI l i := by
  rw [zeroI_step l i h, h2, ← zeroI_at l i h]
  have hl : i < (zeroI l i).length := by rw [zeroI_len]; exact h
  simp [List.getD, List.getElem?_eq_getElem hl]

set_option maxRecDepth 100000 in
set_option maxHeartbeats 3200000 in
theorem read_any (t : TraceC) (s : TSlots) (w : World) (h : SeesTr w s t) (hs : s.small) :
    Calls Try.prog 18 #[traceV t.bad s] w fun e w' => ∃ s' : TSlots, e = .returned (traceV t.bad s') ∧ OwnTr w' w.heap.size s' (readT t) ∧ s'.small ∧ Below w.heap.size w w' := by
  have HCT := Lib.hid (fun W (hb : Below w.heap.size w W) => copytr2_any t s W (h.below hb) hs)
  have hn1 : t.init.length = s.n1 := h.s1.lenMap
  have hn2 := h.s2.n_eq
  have HSM := Lib.hid hs
  have HN := Lib.hid (And.intro hn1 (And.intro hn2 h.s2))
  clear h hn1 hn2
  obtain ⟨bad, hbad⟩ : ∃ bad, bad = t.bad := ⟨_, rfl⟩
  have HBAD := Lib.hid hbad
  unfold traceV at *
  rw [← hbad] at HCT ⊢
  clear hbad hs
  go_enter Try.func18, Try.ntmps18
  go_upto_region 1 with fail
  generalize hW : World.alloc (World.alloc w _) _ = W1
  have B1 : Below w.heap.size w W1 := by subst hW; exact ext_trans (ext_alloc _ _) (ext_alloc _ _)
  have hX : W1.heap[w.heap.size]? = some (.cells #[.int .i64 bad, .slice s.a1 s.n1 s.c1, .slice s.a2 s.n2 s.c2] 30 (0, 0)) := by subst hW; exact heap_below (heap_new _ _ _ rfl) (ext_alloc _ _)
  have hR : W1.heap[w.heap.size + 1]? = some (.cells #[.int .i64 0, .slice none 0 0, .slice none 0 0] 30 (0, 0)) := by subst hW; exact heap_new _ _ _ (by simp)
  have HB := Lib.hid B1
  have HX := Lib.hid hX
  have HR := Lib.hid hR
  clear hW B1 hX hR
  have p0 := cell_of_block HX.out 0
  have p1 := cell_of_block HX.out 1
  have p2 := cell_of_block HX.out 2
  go_wp2_with fail
  refine (HCT.out W1 HB.out).mono ?_
  rintro e W2 ⟨⟨a1, n1, c1, a2, n2, c2, ss⟩, rfl, ho, hap, hb⟩
  have HX2 := Lib.hid (heap_below HX.out hb)
  have HR2 := Lib.hid (heap_below HR.out hb)
  have HB2 := Lib.hid (ext_trans HB.out hb)
  have HLE := Lib.hid hb.size
  have HW1 := Lib.hid (And.intro HB.out.size (heap_lt HR.out))
  have HO := Lib.hid ho
  have HAP := Lib.hid hap
  have hq1 : n1 = t.init.length := (row_len ho.o1).symm
  have hq2 := ho.n2
  have hq3 := ho.len
  simp only at hq2 hq3
  have HQ := Lib.hid (And.intro hq1 (And.intro hq2 hq3))
  have hn2 : n2 ≤ 1048576 := by have := HN.out.2.1; have := HSM.out.n2; omega
  clear ho hap hb p0 p1 p2 HX HR HB HCT hq1 hq2 hq3
  go_upto_region 2 with fail
  generalize hW : World.alloc W2 _ = W3
  have B3 : Below W2.heap.size W2 W3 := by subst hW; exact ext_alloc _ _
  have hx3 : W3.heap[W2.heap.size]? = some (.cells #[.int .i64 bad, .slice a1 n1 c1, .slice a2 n2 c2] 30 (0, 0)) := by subst hW; exact heap_new _ _ _ rfl
  have HX3 := Lib.hid hx3
  have HB3 := Lib.hid B3
  clear hW B3 hx3
  have p1 := cell_of_block HX3.out 1
  have p2 := cell_of_block HX3.out 2
  have ne2 : ∀ o, (W3.alloc o).cell? ⟨W2.heap.size, 2, none⟩ = some (.slice a2 n2 c2) := fun o => cell_below p2 (ext_alloc _ o)
  go_wp2_with fail
  clear ne2
  generalize hW : World.alloc (World.alloc W3 _) _ = W4
  have B4 : Below W3.heap.size W3 W4 := by subst hW; exact ext_trans (ext_alloc _ _) (ext_alloc _ _)
  have hs4 : Sees W4 (some ⟨W3.heap.size, 0, none⟩) 1 1 ([(a1, n1, c1)].map slV) := by subst hW; exact (sees_one W3 (.slice a1 n1 c1) 27).below (ext_alloc _ _)
  have hD4 : W4.heap[W3.heap.size + 1]? = some (.cells #[.slice (some ⟨W3.heap.size, 0, none⟩) 1 1, .slice a2 n2 c2] 28 (0, 0)) := by subst hW; exact heap_new _ _ _ (by simp)
  have h2 : Sees W4 a2 n2 c2 (ss.map slV) := (HO.out.sees.s2.row.below HB3.out).below B4
  clear hW p1 p2
  refine (concat2_any [(a1, n1, c1)] ss (some ⟨W3.heap.size, 0, none⟩) a2 1 1 n2 c2 (W3.heap.size + 1) W4 hs4 h2 hD4 (by omega) hn2).mono ?_
  rintro e W5 ⟨v, rfl, hrow, hb5⟩
  obtain ⟨vr, cr, rfl⟩ := hrow.form
  have hb25 : Below W2.heap.size W2 W5 := ext_trans HB3.out (ext_trans B4 hb5)
  have HX5 := Lib.hid (heap_below HX3.out (ext_trans B4 hb5))
  have HR5 := Lib.hid (heap_below HR2.out hb25)
  have HB5 := Lib.hid (ext_trans HB2.out hb25)
  have HO5 := Lib.hid (HO.out.below hb25)
  have hls : ([(a1, n1, c1)] ++ ss) = (a1, n1, c1) :: ss := rfl
  rw [hls] at hrow
  obtain ⟨L, hL⟩ : ∃ L, L = (a1, n1, c1) :: ss := ⟨_, rfl⟩
  rw [← hL] at hrow HAP
  have hLl : L.length = 1 + n2 := by rw [hL, List.length_cons]; have := HQ.out.2.1; have := HQ.out.2.2; omega
  obtain ⟨G0, hG0⟩ : ∃ G0 : Nat → List UInt8, G0 = fun j => (t.init :: t.frames).getD j [] := ⟨_, rfl⟩
  have hrows : RowsL W5 W1.heap.size L G0 := by
    intro j hj
    rw [hL, hG0]
    cases j with
    | zero =>
      have h1 := HO5.out.o1
      exact h1
    | succ j =>
      have h1 := HO5.out.rows j (by rw [hL, List.length_cons] at hj; have := HQ.out.2.2; omega)
      exact h1
  have HROW := Lib.hid hrow
  have HROWS := Lib.hid hrows
  have HL := Lib.hid hL
  have HLL := Lib.hid hLl
  have HG0 := Lib.hid hG0
  have HLEN : Hid (∀ j, j < L.length → (L.getD j slc0).2.1 = (G0 j).length) := fun j hj =>
    (row_len (show Row isByte W5 W1.heap.size 5 (.slice (L.getD j slc0).1 (L.getD j slc0).2.1 (L.getD j slc0).2.2) _ _ from HROWS.out j hj)).symm
  clear hrow hrows hL hLl hG0 hb5 B4 hs4 hD4 h2 hb25 hls
  go_wp2_with fail
  go_loopw [18, 5, 6, 7] (fun i _ _ _ wr => ∃ k : Nat, k ≤ 1 + n2 ∧ i = .int .i64 k ∧ Hid (RowsL wr W1.heap.size L (fun j => if j < k then zeroL (G0 j) else G0 j)) ∧ Hid (KeptNB W5 wr) ∧ Hid (Below W1.heap.size W5 wr)) (fun i _ _ _ _ => (1 + n2) - (intOf i).toNat)
  case atStart => exact ⟨0, Nat.zero_le _, rfl, HROWS.out.congr (fun j _ => by simp), KeptNB.refl _, Below.refl _ _⟩
  case round =>
    obtain ⟨k, hk, rfl, hR, hK, hB⟩ := hrel
    by_cases hlt : k < 1 + n2
    · have hrw := hK.out.row HROW.out (by decide)
      obtain ⟨b, off, rfl, _⟩ := (row_sees_slice hrw).2.addr (by omega)
      have hcx := ((row_sees_slice hrw).2.cell k hlt).2
      rw [List.getElem?_map, List.getElem?_eq_getElem (show k < L.length by rw [HLL.out]; exact hlt)] at hcx
      have hgd : L[k]'(by rw [HLL.out]; exact hlt) = L.getD k slc0 := by simp [List.getD, List.getElem?_eq_getElem (show k < L.length by rw [HLL.out]; exact hlt)]
      rw [hgd] at hcx
      have hxl := HLEN.out k (by rw [HLL.out]; exact hlt)
      have hsmall : (G0 k).length ≤ 1048576 := by
        rw [HG0.out]
        cases k with
        | zero => have := HN.out.1; have := HSM.out.n1; simp only [List.getD_cons_zero]; omega
        | succ k =>
          simp only [List.getD_cons_succ]
          have h1 : k < t.frames.length := by have := HN.out.2.1; have := HQ.out.2.1; omega
          have h2 := (HN.out.2.2.each k h1).lenMap
          have h3 := HSM.out.each (s.ss.getD k slc0) (getD_mem (by rw [HN.out.2.2.len]; exact h1))
          omega
      obtain ⟨x, hx⟩ : ∃ x : Slc, x = L.getD k slc0 := ⟨_, rfl⟩
      rw [← hx] at hcx hxl
      obtain ⟨xa, xn, xc⟩ := x
      simp only [Option.map_some, slV] at hcx
      simp only at hxl
      have HXL := Lib.hid hxl
      have HXX := Lib.hid hx
      have W1' : IntKind.i64.wrap ((k : Int) + 1) = (k : Int) + 1 := IntWalk.i64_in _ (by omega)
      have hxs : xn ≤ 1048576 := by omega
      have hR0 : Hid (RowsL wr W1.heap.size L (fun j => if j < k then zeroL (G0 j) else if j = k then zeroI (G0 j) 0 else G0 j)) := hR.out.congr (fun j _ => by
        by_cases e : j < k
        · simp only [if_pos e]
        · by_cases e2 : j = k
          · simp only [if_neg e, if_pos e2, zeroI_zero]
          · simp only [if_neg e, if_neg e2])
      have HLT := Lib.hid hlt
      have e9 : decide ((k : Int) < 1 + (n2 : Int)) = true := by simp; omega
      have hI : (k : Int) < 1 + (n2 : Int) := by omega
      have hI2 : k < 1 + n2 := hlt
      clear hrw hgd hxl hx hsmall hR hlt
      go_wp2_with fail
      clear hcx e9 hI hI2
      go_loopw [24, 6, 7] (fun i _ _ wr2 => ∃ m : Nat, m ≤ xn ∧ i = .int .i64 m ∧ Hid (RowsL wr2 W1.heap.size L (fun j => if j < k then zeroL (G0 j) else if j = k then zeroI (G0 j) m else G0 j)) ∧ Hid (KeptNB W5 wr2) ∧ Hid (Below W1.heap.size W5 wr2)) (fun i _ _ _ => xn - (intOf i).toNat)
      case atStart => exact ⟨0, Nat.zero_le _, rfl, hR0.out, hK.out, hB.out⟩
      case round =>
        clear hR0 hK hB
        obtain ⟨m, hm, rfl, hR, hK, hB⟩ := hrel
        by_cases hlt : m < xn
        · have hkl : k < L.length := by rw [HLL.out]; exact HLT.out
          have hrk := hR.out k hkl
          simp only [if_neg (Nat.lt_irrefl k), if_true] at hrk
          rw [← HXX.out] at hrk
          rw [zeroI_len, ← HXL.out] at hrk
          unfold slV at hrk
          simp only at hrk
          obtain ⟨g, rfl⟩ : ∃ g, xa = some ⟨g, 0, none⟩ := by
            rcases hrk.2 with ⟨_, h2⟩ | ⟨g, cap, cur, h2, _⟩
            · omega
            · cases h2; exact ⟨g, rfl⟩
          obtain ⟨_, cur, hcur⟩ := row_here hrk
          have hby := (row_sees_slice hrk).2.byte m hlt
          rw [zeroI_at _ _ (by rw [← HXL.out]; exact hlt), Nat.zero_add] at hby
          have f1 := unfrozen_of_block hcur m
          have hset := fun (u : UInt8) (G' : Nat → List UInt8) => RowsL.setAt (G' := G') hR.out HAP.out hkl HXX.out.symm m u
          have hge : W1.heap.size ≤ g := by
            rcases hrk.2 with ⟨_, h2⟩ | ⟨g', cap, cur, h2, h3, _⟩
            · omega
            · cases h2; exact h3
          obtain ⟨u, hu⟩ : ∃ u, u = (G0 k).getD m 0 := ⟨_, rfl⟩
          obtain ⟨un, hun⟩ : ∃ un, un = u.toNat := ⟨_, rfl⟩
          rw [← hu, ← hun] at hby
          have HU := Lib.hid hu
          have HUN := Lib.hid hun
          have HSET := Lib.hid hset
          have HCUR := Lib.hid hcur
          have HGE := Lib.hid hge
          have hlg : m < (G0 k).length := by rw [← HXL.out]; exact hlt
          have HLG := Lib.hid hlg
          have W2' : IntKind.i64.wrap ((m : Int) + 1) = (m : Int) + 1 := IntWalk.i64_in _ (by omega)
          clear hrk hcur hset hu hun hge hlg hkl
          by_cases h2 : un = 2
          · have e2 : ((un : Int) == 2) = true := by simp; omega
            have HZ : Hid (zeroU ((G0 k).getD m 0) = 0) := by show _ = _; unfold zeroU; rw [← HU.out, ← HUN.out, if_pos h2]
            clear h2
            go_wp2
            go_roundw
            case rel =>
              refine ⟨m + 1, by omega, by go_num, ?_, hK.out.set HCUR.out, hB.out.setCell (p := ⟨g, m, none⟩) HGE.out _⟩
              refine HSET.out 0 _ ?_ (fun j hj => ?_)
              · simp only [if_neg (Nat.lt_irrefl k), if_true]
                rw [zeroI_step _ _ HLG.out, HZ.out]
              · by_cases e : j < k
                · simp only [if_pos e]
                · simp only [if_neg e, if_neg hj]
            case measure => simp [intOf]; omega
          · have e2 : ((un : Int) == 2) = false := by simp; omega
            have HZ : Hid (zeroU ((G0 k).getD m 0) = (G0 k).getD m 0) := by show _ = _; unfold zeroU; rw [← HU.out, ← HUN.out, if_neg h2]
            clear h2
            go_wp2
            go_roundw
            case rel =>
              refine ⟨m + 1, by omega, by go_num, hR.out.congr (fun j _ => ?_), hK.out, hB.out⟩
              by_cases e : j < k
              · simp only [if_pos e]
              · by_cases e2 : j = k
                · subst e2; simp only [if_neg e, if_true]; rw [zeroI_keep _ _ HLG.out HZ.out]
                · simp only [if_neg e, if_neg e2]
            case measure => simp [intOf]; omega
        · obtain rfl : xn = m := by omega
          go_wp2
          go_roundw
          case rel =>
            refine ⟨k + 1, by have := HLT.out; omega, by go_num, hR.out.congr (fun j _ => ?_), hK.out, hB.out⟩
            by_cases e : j < k
            · simp only [if_pos e, if_pos (show j < k + 1 by omega)]
            · by_cases e2 : j = k
              · subst e2; simp only [if_neg e, if_true, if_pos (Nat.lt_succ_self j)]; rw [HXL.out, zeroI_all]
              · simp only [if_neg e, if_neg e2, if_neg (show ¬ j < k + 1 by omega)]
          case measure => have := HLT.out; simp [intOf]; omega
    · obtain rfl : k = 1 + n2 := by omega
      have e9 : decide (((1 + n2 : Nat) : Int) < 1 + (n2 : Int)) = false := by simp
      have hx5 := hK.out _ _ _ _ HX5.out (by decide)
      have hr5 := hK.out _ _ _ _ HR5.out (by decide)
      have p0 : wr.cell? ⟨W2.heap.size, 0, none⟩ = some (.int .i64 bad) := cell_of_block hx5 0
      have p1 : wr.cell? ⟨W2.heap.size, 1, none⟩ = some (.slice a1 n1 c1) := cell_of_block hx5 1
      have p2 : wr.cell? ⟨W2.heap.size, 2, none⟩ = some (.slice a2 n2 c2) := cell_of_block hx5 2
      have z0 := cell_of_block hr5 0
      have z1 := cell_of_block hr5 1
      have z2 := cell_of_block hr5 2
      have y0 := unfrozen_of_block hr5 0
      have y1 := unfrozen_of_block hr5 1
      have y2 := unfrozen_of_block hr5 2
      have HR6 := Lib.hid hr5
      clear hx5 hr5 hlt hk
      go_wp2
      refine bodyPost_ret (v := traceV bad ⟨a1, n1, c1, a2, n2, c2, ss⟩) ?_ rfl ?_
      · have h6 := tri_set_t HR6.out rfl (.int .i64 bad) (.slice a1 n1 c1) (.slice a2 n2 c2)
        have g0 := cell_of_block h6 0
        have g1 := cell_of_block h6 1
        have g2 := cell_of_block h6 2
        simp [results, Try.results18, go_sem, g0, g1, g2]
        rfl
      · have hrr := HR6.out
        have hroot : ∀ D, D < W1.heap.size → wr.heap[D]? = W5.heap[D]? := hB.out.block
        have hG : RowsL wr W1.heap.size L (fun j => zeroL (G0 j)) := hR.out.congr (fun j hj => by rw [if_pos (by rw [← HLL.out]; exact hj)])
        have hle1 := HW1.out
        have hbw : Below w.heap.size w wr := HB5.out.trans (hB.out.mono (by omega))
        refine ⟨⟨a1, n1, c1, a2, n2, c2, ss⟩, rfl, ?_, ?_, set3_t (w.heap.size + 1) (Nat.le_succ _) hbw⟩
        · refine OwnTr.set3 (base := W1.heap.size) (G := w.heap.size + 1) (B := w.heap.size) (s := ⟨a1, n1, c1, a2, n2, c2, ss⟩) (t := readT t) ?_ (by omega) (by omega)
          obtain ⟨F, h1, h2, h3⟩ := HO5.out.blk
          refine ⟨?_, ⟨F, h1, h2, hK.out _ _ _ _ h3 (by decide)⟩, ?_, ?_, ?_, fun j hj => ?_⟩
          · have h4 := hG 0 (by rw [HLL.out]; omega)
            rw [HL.out, HG0.out] at h4
            exact h4
          · simp only [readT, List.length_map]; exact HO5.out.n2
          · simp only [readT, List.length_map]; exact HO5.out.c2
          · simp only [readT, List.length_map]; exact HO5.out.len
          · simp only [readT, List.length_map] at hj
            have h4 := hG (j + 1) (by rw [HLL.out]; have := HQ.out.2.1; omega)
            rw [HL.out, HG0.out] at h4
            simp only [List.getD_cons_succ] at h4
            have h5 : (readT t).frames.getD j [] = zeroL (t.frames.getD j []) := by simp [readT, List.getD, List.getElem?_eq_getElem hj]
            rw [h5]
            exact h4
        · refine ⟨?_, hn2, fun x hx => ?_⟩
          · have := HQ.out.1; have := HN.out.1; have := HSM.out.n1; simp only; omega
          · obtain ⟨j, hj, he⟩ := List.getElem_of_mem hx
            have h1 := HLEN.out (j + 1) (by rw [HLL.out]; have := HQ.out.2.1; have := HQ.out.2.2; simp only at hj; omega)
            rw [HL.out, HG0.out] at h1
            simp only [List.getD_cons_succ] at h1
            have h2 : ss.getD j slc0 = x := by simp only at hj he; simp [List.getD, List.getElem?_eq_getElem hj, he]
            rw [h2] at h1
            have hj2 : j < t.frames.length := by have := HQ.out.2.2; simp only at hj; omega
            have h3 := (HN.out.2.2.each j hj2).lenMap
            have h4 := HSM.out.each (s.ss.getD j slc0) (getD_mem (by rw [HN.out.2.2.len]; exact hj2))
            omega
end Go.Proofs.Ytjmdgbdlhaaefaa
/- sim.Fails, by its contract. -/
namespace Go.Proofs.Ytjmdgbdlhaaefaa
open Go Go.RowKit Go.Joins

theorem zeroU_le (u : UInt8) (h : u.toNat ≤ 2) : (zeroU u).toNat ≤ 1 := by
  unfold zeroU
  split
  · exact Nat.zero_le _
  · omega
theorem zeroL_getD (l : List UInt8) (i : Nat) : (zeroL l).getD i 0 = zeroU (l.getD i 0) := by
  by_cases h : i < l.length
  · simp [zeroL, List.getD, List.getElem?_eq_getElem h]
  · simp [zeroL, List.getD, List.getElem?_eq_none (Nat.le_of_not_lt h)]; rfl
theorem readT_frame (t : TraceC) (k : Nat) : (readT t).frames.getD k [] = zeroL (t.frames.getD k []) := by
  by_cases h : k < t.frames.length
  · simp [readT, List.getD, List.getElem?_eq_getElem h]
  · simp [readT, List.getD, List.getElem?_eq_none (Nat.le_of_not_lt h), zeroL]
theorem FitsC.read {c : NormC} {t : TraceC} (h : FitsC c t) : FitsC c (readT t) := by
  refine ⟨h.may, h.pos, h.bad, by show (zeroL t.init).length = _; rw [zeroL_len]; exact h.init, fun u hu => ?_, fun i hi => ?_, by show 1 ≤ (t.frames.map zeroL).length; rw [List.length_map]; exact h.one, by show (t.frames.map zeroL).length ≤ 256; rw [List.length_map]; exact h.few, fun k hk => ?_, fun f hf u hu => ?_⟩
  · obtain ⟨x, hx, rfl⟩ := List.mem_map.1 hu
    have := zeroU_le x (h.inits x hx); omega
  · rcases h.resets i hi with h1 | h1
    · exact .inl h1
    · by_cases e : (c.lats.getD i (0, 0)).2 = 2
      · exact .inl e
      · refine .inr ?_
        show ((zeroL t.init).getD i 0).toNat = _
        rw [zeroL_getD]
        unfold zeroU
        rw [if_neg (by omega)]
        exact h1
  · rw [readT_frame, zeroL_len]
    exact h.frames k (by simpa [readT] using hk)
  · obtain ⟨g, hg, rfl⟩ := List.mem_map.1 hf
    obtain ⟨x, hx, rfl⟩ := List.mem_map.1 hu
    have := zeroU_le x (h.values g hg x hx); omega

/-- What Fails answers. -/
def failsE (c : NormC) (t : TraceC) : Ending := if fitsS c t = true then .returned (.tuple #[.bool (decide ((k1.verdict c t.bad.toNat (readT t).init (readT t).frames).toNat = 1)), .int .i64 0]) else .returned (.tuple #[.bool false, .int .i64 2])

set_option maxRecDepth 100000 in
set_option maxHeartbeats 3200000 in
theorem fails_any (c : NormC) (t : TraceC) (s : CSlots) (st : TSlots) (w : World) (h : SeesCir w s c) (ht : SeesTr w st t) (hs : s.small) (hst : st.small) (hlo : -9223372036854775808 ≤ c.ins) (hhi : c.ins < 9223372036854775808) (hb1 : -9223372036854775808 ≤ t.bad ∧ t.bad < 9223372036854775808) :
    Calls Try.prog 21 #[cirV c.ins s, traceV t.bad st] w fun e w' => e = failsE c t ∧ Below w.heap.size w w' := by
  have HFIT := Lib.hid (fun W (hb : Below w.heap.size w W) => fits_any c t s st W (h.below hb) (ht.below hb) hs hst hlo hhi hb1)
  have HFC : Hid (fitsS c t = true → FitsC c t) := fits_iff.1
  have HE : Hid (failsE c t = if fitsS c t = true then .returned (.tuple #[.bool (decide ((k1.verdict c t.bad.toNat (readT t).init (readT t).frames).toNat = 1)), .int .i64 0]) else .returned (.tuple #[.bool false, .int .i64 2])) := rfl
  obtain ⟨q, hq⟩ : ∃ q, q = fitsS c t := ⟨_, rfl⟩
  rw [← hq] at HFIT HFC HE
  clear hq
  obtain ⟨E, hE⟩ : ∃ E, E = failsE c t := ⟨_, rfl⟩
  rw [← hE] at HE ⊢
  clear hE
  have HC := Lib.hid h
  have HT := Lib.hid ht
  clear h ht hlo hhi hb1
  unfold cirV traceV at *
  go_enter Try.func21, Try.ntmps21
  go_upto_region 1 with fail
  generalize hW : World.alloc (World.alloc w _) _ = W1
  have hb : Below w.heap.size w W1 := by subst hW; exact ext_trans (ext_alloc _ _) (ext_alloc _ _)
  have hx : W1.heap[w.heap.size]? = some (.cells #[.int .i64 c.ins, .slice s.a1 s.n1 s.c1, .slice s.a2 s.n2 s.c2, .slice s.a3 s.n3 s.c3, .slice s.a4 s.n4 s.c4, .slice s.a5 s.n5 s.c5] 26 (0, 0)) := by subst hW; exact heap_below (heap_new _ _ _ rfl) (ext_alloc _ _)
  have hy : W1.heap[w.heap.size + 1]? = some (.cells #[.int .i64 t.bad, .slice st.a1 st.n1 st.c1, .slice st.a2 st.n2 st.c2] 30 (0, 0)) := by subst hW; exact heap_new _ _ _ (by simp)
  have HB := Lib.hid hb
  have HX := Lib.hid hx
  have HY := Lib.hid hy
  clear hW hb hx hy
  have p0 := cell_of_block HX.out 0
  have p1 := cell_of_block HX.out 1
  have p2 := cell_of_block HX.out 2
  have p3 := cell_of_block HX.out 3
  have p4 := cell_of_block HX.out 4
  have p5 := cell_of_block HX.out 5
  have r0 := cell_of_block HY.out 0
  have r1 := cell_of_block HY.out 1
  have r2 := cell_of_block HY.out 2
  go_wp2_with fail
  refine (HFIT.out W1 HB.out).mono ?_
  rintro e W2 ⟨rfl, hb⟩
  have HX2 := Lib.hid (heap_below HX.out hb)
  have HY2 := Lib.hid (heap_below HY.out hb)
  have HB2 := Lib.hid (ext_trans HB.out hb)
  clear hb p0 p1 p2 p3 p4 p5 r0 r1 r2 HFIT HX HY HB
  cases q with
  | false =>
    go_wp2
    go_ret2
    exact ⟨by rw [HE.out]; rfl, HB2.out⟩
  | true =>
    have HF := Lib.hid (HFC.out rfl)
    obtain ⟨nb, hnb⟩ := Int.eq_ofNat_of_zero_le HF.out.pos
    have hbad : nb < c.bads.length := by have := HF.out.bad; rw [hnb] at this; simpa using this
    have hfr := HF.out.read
    have HVERD := fun (W : World) (tb : Nat) (st' : TSlots) (hb : Below w.heap.size w W) (ht' : SeesTr W st' (readT t)) (htb : W.heap[tb]? = some (.cells #[.int .i64 t.bad, .slice st'.a1 st'.n1 st'.c1, .slice st'.a2 st'.n2 st'.c2] 30 (0, 0))) => verdict_any c s (readT t) st' nb W (HC.out.below hb) ht' HF.out.may hs hfr.init hfr.frames hfr.few hbad tb htb
    have HREAD := fun W (hb : Below w.heap.size w W) => read_any t st W (HT.out.below hb) hst
    have hbn : t.bad.toNat = nb := by rw [hnb]; simp
    rw [hbn] at HE
    obtain ⟨bd, hbd⟩ : ∃ bd, bd = t.bad := ⟨_, rfl⟩
    unfold traceV at HREAD
    rw [← hbd] at HVERD HREAD HY2 hnb ⊢
    obtain ⟨RV, hRV⟩ : ∃ RV, RV = k1.verdict c nb (readT t).init (readT t).frames := ⟨_, rfl⟩
    rw [← hRV] at HVERD HE
    subst hnb
    have HSG : Hid (∀ W, Calls Try.prog 34 #[] W fun e w' => e = .returned (.agg #[.int .u8 0, .func (.func 62) #[] #[], .func (.func 63) #[] #[]]) ∧ Below W.heap.size W w') := single_any
    have HAL := Lib.hid (fun W st' => alone_any (nb : Int) st' W)
    have hrv : bv RV = .int .u8 (RV.toNat : Int) := rfl
    obtain ⟨nr, hnr⟩ : ∃ nr : Nat, nr = RV.toNat := ⟨_, rfl⟩
    rw [← hnr] at HE
    rw [hrv, ← hnr] at HVERD
    have hdec : ((nr : Int) == 1) = decide (nr = 1) := by rw [Bool.eq_iff_iff]; simp; omega
    unfold kv1 cirV at HVERD
    unfold traceV at HAL
    have HV := Lib.hid HVERD
    have HRD := Lib.hid HREAD
    have HS0 := Lib.hid (keep63 HX2.out HY2.out)
    clear HVERD HREAD hfr hRV hrv hnr hbn hbd hbad HFC
    go_wp2_with fail
    go_region_held3 (fun w' => w'.cell? ⟨w.heap.size, 0, none⟩ = some (.int .i64 c.ins) ∧ w'.cell? ⟨w.heap.size, 1, none⟩ = some (.slice s.a1 s.n1 s.c1) ∧ w'.cell? ⟨w.heap.size, 2, none⟩ = some (.slice s.a2 s.n2 s.c2) ∧ w'.cell? ⟨w.heap.size, 3, none⟩ = some (.slice s.a3 s.n3 s.c3) ∧ w'.cell? ⟨w.heap.size, 4, none⟩ = some (.slice s.a4 s.n4 s.c4) ∧ w'.cell? ⟨w.heap.size, 5, none⟩ = some (.slice s.a5 s.n5 s.c5) ∧ w'.cell? ⟨w.heap.size + 1, 0, none⟩ = some (.int .i64 (nb : Int)) ∧ w'.cell? ⟨w.heap.size + 1, 1, none⟩ = some (.slice st.a1 st.n1 st.c1) ∧ w'.cell? ⟨w.heap.size + 1, 2, none⟩ = some (.slice st.a2 st.n2 st.c2))
      (first | with_reducible exact HS0.out | with_reducible exact keep63 (heap_below HX2.out ((Below.refl _ W2).drew)) (heap_below HY2.out ((Below.refl _ W2).drew)) | with_reducible exact HS1.out | with_reducible exact HS2.out | with_reducible exact HS3.out | with_reducible exact HS4.out | go_keep)
      (first
        | (go_at_call 34; (with_reducible refine (HSG.out _).mono ?_); rintro e s1 ⟨rfl, b1⟩; have HB3 := Lib.hid (below_undrew b1); have HS1 := Lib.hid (keep63 (heap_below HX2.out HB3.out) (heap_below HY2.out HB3.out)); clear b1)
        | (go_at_call 18; (with_reducible refine (HRD.out _ (ext_trans HB2.out HB3.out)).mono ?_); rintro e s2 ⟨st', rfl, ho, hsm, b2⟩; have HO := Lib.hid ho; have HB4 := Lib.hid (ext_trans HB3.out b2); have HS2 := Lib.hid (keep63 (heap_below HX2.out HB4.out) (heap_below HY2.out HB4.out)); clear b2 ho hsm)
        | (go_at_call 45; (with_reducible refine (HAL.out _ _).mono ?_); rintro e s3 ⟨rfl, htb, b3⟩; have HTB := Lib.hid htb; have HO2 := Lib.hid (HO.out.below b3); have HB5 := Lib.hid (ext_trans HB4.out b3); have HS3 := Lib.hid (keep63 (heap_below HX2.out HB5.out) (heap_below HY2.out HB5.out)); clear b3 htb)
        | (go_at_call 49; (with_reducible refine (HV.out _ _ _ (ext_trans HB2.out HB5.out) HO2.out.sees HTB.out).mono ?_); rintro e s4 ⟨rfl, b4⟩; have HB6 := Lib.hid (ext_trans HB5.out b4); have HS4 := Lib.hid (keep63 (heap_below HX2.out HB6.out) (heap_below HY2.out HB6.out)); clear b4))
    all_goals go_wp2
    all_goals go_ret2
    all_goals exact ⟨by rw [HE.out]; rfl, ext_trans HB2.out HB6.out⟩
end Go.Proofs.Ytjmdgbdlhaaefaa
/- The reference's CopyTrace, by its contract. -/
namespace Go.Proofs.Ytjmdgbdlhaaefaa
open Go Go.RowKit Go.Joins

/-- A trace's slots own what they read; the list of frames is a row that may have room. -/
structure OwnT3 (w : World) (base : Nat) (s : TSlots) (t : TraceC) : Prop where
  o1 : Row isByte w base 5 (.slice s.a1 s.n1 s.c1) t.init.length (t.init.map bv)
  o2 : w.ownsRow base 27 1 (.slice s.a2 s.n2 s.c2) t.frames.length (s.ss.map slV)
  len : s.ss.length = t.frames.length
  rows : ∀ j, j < t.frames.length → Row isByte w base 5 (slV (s.ss.getD j slc0)) (t.frames.getD j []).length ((t.frames.getD j []).map bv)
  ap : ApartL ((s.a1, s.n1, s.c1) :: s.ss)
theorem OwnT3.below {w w' : World} {base : Nat} {s : TSlots} {t : TraceC} (h : OwnT3 w base s t) (hb : Below w.heap.size w w') : OwnT3 w' base s t :=
  ⟨h.o1.below hb, ownsN_below h.o2 hb, h.len, fun j hj => (h.rows j hj).below hb, h.ap⟩
theorem owns_sees_slice {w : World} {base : Nat} {e : TypeId} {a : Option Addr} {n c m : Nat} {xs : List Value} (h : w.ownsRow base e 1 (.slice a n c) m xs) : n = m ∧ Sees w a n c xs := by
  obtain ⟨a', c', e1, _, hs⟩ := Sees.owned h
  cases e1
  exact ⟨rfl, hs⟩
theorem OwnT3.sees {w : World} {base : Nat} {s : TSlots} {t : TraceC} (h : OwnT3 w base s t) : SeesTr w s t :=
  ⟨(row_sees_slice h.o1).2, ⟨(owns_sees_slice h.o2).2, h.len, fun k hk => (row_sees_slice (h.rows k hk)).2⟩⟩

/-- While the copy is made: k frames have been copied. -/
structure RcInv (w : World) (bad : Int) (F : List (List UInt8)) (I : List UInt8) (a1 : Option Addr) (n1 c1 : Nat) (a2 : Option Addr) (n2 c2 k : Nat) (W : World) (v : Value) (si : Slc) (ss : List Slc) : Prop where
  box : W.heap[w.heap.size + 1 + 1]? = some (.cells #[.int .i64 bad, slV si, v] 30 (0, 0))
  tb : W.heap[w.heap.size]? = some (.cells #[.int .i64 bad, .slice a1 n1 c1, .slice a2 n2 c2] 30 (0, 0))
  rb : W.heap[w.heap.size + 1]? = some (.cells #[.int .i64 0, .slice none 0 0, .slice none 0 0] 30 (0, 0))
  init : Row isByte W w.heap.size 5 (slV si) I.length (I.map bv)
  row : W.ownsRow w.heap.size 27 1 v k (ss.map slV)
  len : ss.length = k
  rows : ∀ j, j < k → Row isByte W w.heap.size 5 (slV (ss.getD j slc0)) (F.getD j []).length ((F.getD j []).map bv)
  ap : ApartL (si :: ss)
  low : Below w.heap.size w W

theorem OwnT3.set3 {w : World} {base G : Nat} {s : TSlots} {t : TraceC} {C : Array Value} {fr : Nat × Nat} {u0 u1 u2 : Value} (h : OwnT3 w base s t) (hG : w.heap[G]? = some (.cells C 30 fr)) : OwnT3 (((w.setCell ⟨G, 0, .none⟩ u0).setCell ⟨G, 1, .none⟩ u1).setCell ⟨G, 2, .none⟩ u2) base s t := by
  have row : ∀ {v : Value} {n : Nat} {xs : List Value}, Row isByte w base 5 v n xs → Row isByte (((w.setCell ⟨G, 0, .none⟩ u0).setCell ⟨G, 1, .none⟩ u1).setCell ⟨G, 2, .none⟩ u2) base 5 v n xs := fun hr =>
    hr.other fun q hq => set3_other G q (fun e => (hr.not_own hG (by decide)) (by rw [hq, e])) _ _ _
  exact ⟨row h.o1, ownsN_other h.o2 fun q hq => set3_other G q (fun e => (ownsN_notown h.o2 hG (by decide)) (by rw [hq, e])) _ _ _, h.len, fun j hj => row (h.rows j hj), h.ap⟩
theorem keep3c {w w' : World} {a0 a1 a2 : Addr} {v0 v1 v2 : Value} (h : w.cell? a0 = some v0 ∧ w.cell? a1 = some v1 ∧ w.cell? a2 = some v2) (hb : Below w.heap.size w w') : w'.cell? a0 = some v0 ∧ w'.cell? a1 = some v1 ∧ w'.cell? a2 = some v2 := by
  obtain ⟨h0, h1, h2⟩ := h
  have one : ∀ {a : Addr} {v : Value}, w.cell? a = some v → w'.cell? a = some v := fun {a v} h => (hb.cell (World.block_lt_of_cell? _ _ h)).trans h
  exact ⟨one h0, one h1, one h2⟩
theorem apart_snoc {L : List Slc} {x : Slc} (h : ApartL L) (h2 : ∀ j, j < L.length → ∀ g, (slV (L.getD j slc0)).ownBlock = some g → (slV x).ownBlock ≠ some g) : ApartL (L ++ [x]) := by
  intro i j hij hj g hg
  have hi : i < L.length := by simp at hj; omega
  have e1 : (L ++ [x]).getD i slc0 = L.getD i slc0 := by simp [List.getD, List.getElem?_append_left hi]
  rw [e1] at hg
  by_cases e : j < L.length
  · have e2 : (L ++ [x]).getD j slc0 = L.getD j slc0 := by simp [List.getD, List.getElem?_append_left e]
    rw [e2]; exact h i j hij e g hg
  · have e3 : j = L.length := by simp at hj; omega
    have e2 : (L ++ [x]).getD j slc0 = x := by rw [e3]; simp
    rw [e2]; exact h2 i hi g hg

set_option maxRecDepth 100000 in
set_option maxHeartbeats 6400000 in
theorem refcopy_any (t : TraceC) (s : TSlots) (w : World) (h : SeesTr w s t) (hs : s.small) :
    Calls Try.prog 8 #[traceV t.bad s] w fun e w' => ∃ s' : TSlots, e = .returned (traceV t.bad s') ∧ OwnT3 w' w.heap.size s' t ∧ s'.small ∧ Below w.heap.size w w' := by
  obtain ⟨i0, hi, hz0, hz1, hz2⟩ := info_parts info_byte
  obtain ⟨iS, hiS, hzS0, hzS1, hzS2⟩ := info_parts info_u8s
  obtain ⟨a1, n1, c1, a2, n2, c2, ss0⟩ := s
  obtain ⟨hs1, hs2, hs3⟩ := hs
  simp only at hs1 hs2 hs3
  obtain ⟨bad, init, fs⟩ := t
  obtain ⟨q1, q2⟩ := h
  simp only at q1 q2
  have hn2 := q2.n_eq
  have hn1 : init.length = n1 := q1.lenMap
  have H1 := Lib.hid q1
  have H2 := Lib.hid q2
  have HN1 := Lib.hid hn1
  have HN2 := Lib.hid hn2
  have HSL := Lib.hid hs3
  clear q1 q2 hn1 hn2 hs3
  unfold traceV
  go_enter Try.func8, Try.ntmps8
  go_upto_region 2 with fail
  generalize hW : World.alloc (World.alloc (World.alloc w _) _) _ = W1
  have B1 : Below w.heap.size w W1 := by subst hW; exact ext_trans (ext_alloc _ _) (ext_trans (ext_alloc _ _) (ext_alloc _ _))
  have hT : W1.heap[w.heap.size]? = some (.cells #[.int .i64 bad, .slice a1 n1 c1, .slice a2 n2 c2] 30 (0, 0)) := by subst hW; exact heap_below (heap_below (heap_new _ _ _ rfl) (ext_alloc _ _)) (ext_alloc _ _)
  have hR : W1.heap[w.heap.size + 1]? = some (.cells #[.int .i64 0, .slice none 0 0, .slice none 0 0] 30 (0, 0)) := by subst hW; exact heap_below (heap_new _ _ _ (by simp)) (ext_alloc _ _)
  have hX : W1.heap[w.heap.size + 1 + 1]? = some (.cells #[.int .i64 bad, .slice none 0 0, .slice none 0 0] 30 (0, 0)) := by subst hW; exact heap_new _ _ _ (by simp)
  clear hW
  have p1 := cell_of_block hT 1
  have p2 := cell_of_block hX 1
  have p3 := unfrozen_of_block hX 1
  have HB := Lib.hid B1
  have HT := Lib.hid hT
  have HR := Lib.hid hR
  have HX := Lib.hid hX
  clear B1 hT hR hX
  go_wp2_with (at_builtin; refine wpList_append_row isByte _ rfl _ _ 27 rfl w.heap.size 5 i0 (.int .u8 0) 1 Try.underlying27 hi hz0 hz1 hz2 rfl isByte_zero _ _ _ rfl (Row.nil _ _ _ _) a1 n1 c1 (init.map bv) rfl (H1.out.below HB.out) (bv_one _) (isByte_all _) (by unfold maxLen; omega) (by omega) HB.out.size ?_; intro v1 w1 r1 g1 _; obtain ⟨ia, ic, rfl⟩ := r1.form; have hb1 : Below W1.heap.size W1 w1 := (Below.refl _ W1).grown g1 (Nat.le_refl _) (fun k hk => by cases hk); have p4 := cell_of_block (heap_below HX.out hb1) 1; have p5 := unfrozen_of_block (heap_below HX.out hb1) 1)
  obtain ⟨si, hsi⟩ : ∃ si : Slc, si = (ia, 0 + n1, ic) := ⟨_, rfl⟩
  have hro : Row isByte w1 w.heap.size 5 (slV si) init.length (init.map bv) := by rw [hsi, HN1.out]; simpa [slV] using r1
  have hXX := block_setCell (heap_below HX.out hb1) (i := 1) (.slice ia (0 + n1) ic)
  generalize hW : World.setCell w1 _ _ = W2
  have hx2 : W2.heap[w.heap.size + 1 + 1]? = some (.cells #[.int .i64 bad, slV si, .slice none 0 0] 30 (0, 0)) := by
    subst hW; rw [hsi]; simpa [slV] using hXX
  have hne : ∀ D : Nat, D ≠ w.heap.size + 1 + 1 → W2.heap[D]? = w1.heap[D]? := fun D hD => by subst hW; exact Below.heap_setCell w1 ⟨w.heap.size + 1 + 1, 1, none⟩ _ D hD
  have hro2 : Row isByte W2 w.heap.size 5 (slV si) init.length (init.map bv) := hro.other fun q hq => hne q (fun e => (hro.not_own (heap_below HX.out hb1) (by decide)) (by rw [hq, e]))
  have hb2 : Below w.heap.size w W2 := by
    subst hW
    exact (ext_trans HB.out hb1).setCell (p := ⟨w.heap.size + 1 + 1, 1, none⟩) (by show w.heap.size ≤ w.heap.size + 1 + 1; omega) _
  have ht2 : W2.heap[w.heap.size]? = some (.cells #[.int .i64 bad, .slice a1 n1 c1, .slice a2 n2 c2] 30 (0, 0)) := (hne _ (by omega)).trans (heap_below HT.out hb1)
  have hr2 : W2.heap[w.heap.size + 1]? = some (.cells #[.int .i64 0, .slice none 0 0, .slice none 0 0] 30 (0, 0)) := (hne _ (by omega)).trans (heap_below HR.out hb1)
  have hlen2 : (si.2.1 : Nat) = init.length := (row_len (show Row isByte W2 w.heap.size 5 (.slice si.1 si.2.1 si.2.2) _ _ from hro2)).symm
  have HLEN2 := Lib.hid hlen2
  have HRO := Lib.hid hro2
  have HT2 := Lib.hid ht2
  have HR2 := Lib.hid hr2
  have HX2 := Lib.hid hx2
  have HB2 := Lib.hid hb2
  have HSI := Lib.hid hsi
  clear hW r1 g1 hb1 hro hXX hx2 hne hro2 hb2 ht2 hr2 hsi p1 p2 p3 p4 p5 HB HT HR HX hlen2
  go_wp2
  go_loopw [4, 5] (fun i _ wr => ∃ (k : Nat) (va : Option Addr) (vc : Nat) (ss : List Slc), k ≤ n2 ∧ i = .int .i64 k ∧ Hid (RcInv w bad fs init a1 n1 c1 a2 n2 c2 k wr (.slice va k vc) si ss)) (fun i _ _ => n2 - (intOf i).toNat)
  case atStart => exact ⟨0, none, 0, [], Nat.zero_le _, rfl, HX2.out, HT2.out, HR2.out, HRO.out, ⟨rfl, .inl ⟨rfl, rfl⟩⟩, rfl, fun j hj => absurd hj (by omega), (fun i j hij hj => by simp at hj; omega), HB2.out⟩
  case round =>
    clear HX2 HT2 HR2 HRO HB2
    obtain ⟨k, va, vc, ss, hk, rfl, hI⟩ := hrel
    have p1 := cell_of_block hI.out.tb 2
    by_cases hlt : k < n2
    · obtain ⟨bb, off, rfl, hbw⟩ := H2.out.row.addr (show 0 < n2 by omega)
      have hcx := (H2.out.below hI.out.low).cellAt k hlt
      have hsee := (H2.out.below hI.out.low).each k (by rw [HN2.out]; exact hlt)
      have hsl := HSL.out (ss0.getD k slc0) (getD_mem (by rw [H2.out.len, HN2.out]; exact hlt))
      obtain ⟨x, hx⟩ : ∃ x : Slc, x = ss0.getD k slc0 := ⟨_, rfl⟩
      rw [← hx] at hcx hsee hsl
      obtain ⟨xa, xn, xc⟩ := x
      simp only at hcx hsee hsl
      have HXN := Lib.hid hsl
      have HKN : Hid (k < n2 ∧ n2 ≤ 1048576) := ⟨hlt, hs2⟩
      have HSK := Lib.hid hsee
      have HBW := Lib.hid hbw
      have hI1 : ((k : Nat) : Int) < (n2 : Int) := by omega
      have hI2 : (0 : Int) ≤ (k : Int) := by omega
      have W1' : IntKind.i64.wrap ((k : Int) + 1) = (k : Int) + 1 := IntWalk.i64_in _ (by omega)
      have p0 : wr.cell? ⟨w.heap.size + 1 + 1, 2, none⟩ = some (.slice va k vc) := cell_of_block hI.out.box 2
      have p2 := hcx
      have hxl : xn = (fs.getD k []).length := hsee.lenMap.symm
      have HXL := Lib.hid hxl
      clear hx hcx hsee hsl hbw hxl
      go_upto_region 7 with fail
      have HS0 := Lib.hid (And.intro p0 (And.intro p1 p2))
      have HSD := Lib.hid (keep3c HS0.out ((Below.refl _ wr).drew))
      have HSK2 := Lib.hid (HSK.out.below ((Below.refl _ wr).drew))
      refine wp_region_noPanic ?_
      refine wp_region_peelN 12 (by kernel_rfl) rfl (by simp only [List.getElem?_toArray, List.getElem?_cons_zero, List.getElem?_cons_succ]; rfl) (by kernel_rfl) ?_
      simp only [List.pop_toArray, List.dropLast_cons_cons, List.dropLast_singleton]
      refine wpAny_of_held (S := fun w' => w'.cell? ⟨w.heap.size + 1 + 1, 2, none⟩ = some (.slice va k vc) ∧ w'.cell? ⟨w.heap.size, 2, none⟩ = some (.slice (some ⟨bb, off, none⟩) n2 c2) ∧ w'.cell? ⟨bb, off + k, none⟩ = some (.slice xa xn xc)) _ _ _ _ ?_
      refine wpAnyH_take (i := 0) (v := ?_) (by simp only [List.getElem?_toArray, List.getElem?_cons_zero]; rfl) (by kernel_rfl) (by kernel_rfl) (by kernel_rfl) (fun _ _ _ h => h) (Or.inl ⟨by rfl, ?_⟩) HSD.out ?_
      rotate_left
      · intro w hSw
        (try dsimp only at hSw)
        obtain ⟨q0_, q1_, q2_⟩ := hSw
        go_simp
        try with_reducible rfl
      try simp only [Act.put, List.setIfInBounds_toArray, List.set_cons_zero, List.set_cons_succ]
      refine wpAnyH_take (i := 1) (v := ?_) (by simp only [List.getElem?_toArray, List.getElem?_cons_zero, List.getElem?_cons_succ]; rfl) (by kernel_rfl) (by kernel_rfl) (by kernel_rfl) (fun _ _ _ h => h) (Or.inl ⟨by rfl, ?_⟩) HSD.out ?_
      rotate_left
      · intro w hSw
        (try dsimp only at hSw)
        obtain ⟨q0_, q1_, q2_⟩ := hSw
        go_simp
        try with_reducible rfl
      try simp only [Act.put, List.setIfInBounds_toArray, List.set_cons_zero, List.set_cons_succ]
      refine wpAnyH_take (i := 2) (v := ?_) (by simp only [List.getElem?_toArray, List.getElem?_cons_zero, List.getElem?_cons_succ]; rfl) (by kernel_rfl) (by kernel_rfl) (by kernel_rfl) (fun _ _ _ h => h) (Or.inl ⟨by rfl, ?_⟩) HSD.out ?_
      rotate_left
      · intro w hSw
        (try dsimp only at hSw)
        obtain ⟨q0_, q1_, q2_⟩ := hSw
        go_simp
        try with_reducible rfl
      try simp only [Act.put, List.setIfInBounds_toArray, List.set_cons_zero, List.set_cons_succ]
      refine wpAnyH_take (i := 3) (v := ?_) (by simp only [List.getElem?_toArray, List.getElem?_cons_zero, List.getElem?_cons_succ]; rfl) (by kernel_rfl) (by kernel_rfl) (by kernel_rfl) (fun _ _ _ h => h) (Or.inl ⟨by rfl, ?_⟩) HSD.out ?_
      rotate_left
      · intro w hSw
        (try dsimp only at hSw)
        obtain ⟨q0_, q1_, q2_⟩ := hSw
        go_simp
        try with_reducible rfl
      try simp only [Act.put, List.setIfInBounds_toArray, List.set_cons_zero, List.set_cons_succ]
      refine wpAnyH_take (i := 4) (v := ?_) (by simp only [List.getElem?_toArray, List.getElem?_cons_zero, List.getElem?_cons_succ]; rfl) (by kernel_rfl) (by kernel_rfl) (by kernel_rfl) (fun _ _ _ h => h) (Or.inl ⟨by rfl, ?_⟩) HSD.out ?_
      rotate_left
      · intro w hSw
        (try dsimp only at hSw)
        obtain ⟨q0_, q1_, q2_⟩ := hSw
        go_simp
        try with_reducible rfl
      try simp only [Act.put, List.setIfInBounds_toArray, List.set_cons_zero, List.set_cons_succ]
      refine wpAnyH_take (i := 5) (v := ?_) (by simp only [List.getElem?_toArray, List.getElem?_cons_zero, List.getElem?_cons_succ]; rfl) (by kernel_rfl) (by kernel_rfl) (by kernel_rfl) (fun _ _ _ h => h) (Or.inl ⟨by rfl, ?_⟩) HSD.out ?_
      rotate_left
      · intro w hSw
        (try dsimp only at hSw)
        obtain ⟨q0_, q1_, q2_⟩ := hSw
        go_simp
        try with_reducible rfl
      try simp only [Act.put, List.setIfInBounds_toArray, List.set_cons_zero, List.set_cons_succ]
      refine wpAnyH_take (i := 6) (v := ?_) (by simp only [List.getElem?_toArray, List.getElem?_cons_zero, List.getElem?_cons_succ]; rfl) (by kernel_rfl) (by kernel_rfl) (by kernel_rfl) (fun _ _ _ h => h) (Or.inl ⟨by rfl, ?_⟩) HSD.out ?_
      rotate_left
      · intro w hSw
        (try dsimp only at hSw)
        obtain ⟨q0_, q1_, q2_⟩ := hSw
        go_simp
        try with_reducible rfl
      try simp only [Act.put, List.setIfInBounds_toArray, List.set_cons_zero, List.set_cons_succ]
      refine wpAnyH_take (i := 7) (v := ?_) (by simp only [List.getElem?_toArray, List.getElem?_cons_zero, List.getElem?_cons_succ]; rfl) (by kernel_rfl) (by kernel_rfl) (by kernel_rfl) (fun _ _ _ h => h) (Or.inl ⟨by rfl, ?_⟩) HSD.out ?_
      rotate_left
      · intro w hSw
        (try dsimp only at hSw)
        obtain ⟨q0_, q1_, q2_⟩ := hSw
        go_simp
        try with_reducible rfl
      try simp only [Act.put, List.setIfInBounds_toArray, List.set_cons_zero, List.set_cons_succ]
      refine wpAnyH_ready (rs := [8]) (by kernel_rfl) (by simp) ?_
      refine AllReadyH.cons (by simp only [List.getElem?_toArray, List.getElem?_cons_zero, List.getElem?_cons_succ]; rfl) (fun K hK => ?_) AllReadyH.nil
      refine step_append_row isByte _ rfl _ _ 27 rfl wr.heap.size 5 i0 (.int .u8 0) 1 Try.underlying27 hi hz0 hz1 hz2 rfl isByte_zero _ _ _ (by simp [Act.eval]) (Row.nil _ _ _ _) xa xn xc ((fs.getD k []).map bv) (by simp [Act.eval]) HSK2.out (bv_one _) (isByte_all _) (by unfold maxLen; have := HXN.out; omega) (by have := HXN.out; omega) (Nat.le_refl _) ?_
      intro v3 w3 r3 g3
      rw [Nat.zero_add, List.nil_append] at r3
      obtain ⟨ea, ec, rfl⟩ := r3.form
      have hb3 : Below wr.heap.size wr w3 := ((Below.refl _ wr).drew).grown g3 (Nat.le_refl _) (fun k hk => by cases hk)
      have HB3 := Lib.hid hb3
      have R3 := Lib.hid r3
      have HS3 := Lib.hid (keep3c HS0.out hb3)
      clear r3 g3 hb3
      refine hK.out _ _ HS3.out (fun _ => ?_)
      clear hK K
      try simp only [Act.put, List.setIfInBounds_toArray, List.set_cons_zero, List.set_cons_succ]
      refine wpAnyH_ready (rs := [9]) (by kernel_rfl) (by simp) ?_
      refine AllReadyH.cons (by simp only [List.getElem?_toArray, List.getElem?_cons_zero, List.getElem?_cons_succ]; rfl) (fun K hK => ?_) AllReadyH.nil
      go_simp
      refine hK.out _ _ (keep3c HS3.out (ext_alloc _ _)) (fun _ => ?_)
      clear hK K
      try simp only [Act.put, List.setIfInBounds_toArray, List.set_cons_zero, List.set_cons_succ]
      have HB4 := Lib.hid (ext_trans HB3.out (ext_alloc w3 (.cells #[.slice ea xn ec] 27)))
      have HOW := Lib.hid (ownsN_below hI.out.row HB4.out)
      refine wpAnyH_ready (rs := [10]) (by kernel_rfl) (by simp) ?_
      refine AllReadyH.cons (by simp only [List.getElem?_toArray, List.getElem?_cons_zero, List.getElem?_cons_succ]; rfl) (fun K hK => ?_) AllReadyH.nil
      refine step_append_own_at rfl _ _ 28 rfl w.heap.size 27 iS (.slice none 0 0) 1 24 Try.underlying28 hiS hzS0 hzS1 hzS2 rfl (by decide) (.slice va k vc) k (ss.map slV) (by simp [Act.eval]) HOW.out ⟨w3.heap.size, 0, none⟩ 1 1 [.slice ea xn ec] (by simp [Act.eval]) rfl (cell_one_new _ _ _) (by simp [Value.oneCell']) (by unfold maxLen; have := HKN.out; omega) (by have := HKN.out; omega) (ext_trans hI.out.low HB4.out).size ?_
      intro v5 w5 r5 g5
      obtain ⟨fa, fc, rfl⟩ := ownsN_form r5
      have hx5 := heap_grown (heap_below hI.out.box HB4.out) g5 (ownsN_notown HOW.out (heap_below hI.out.box HB4.out) (by decide))
      have ht5 := heap_grown (heap_below hI.out.tb HB4.out) g5 (ownsN_notown HOW.out (heap_below hI.out.tb HB4.out) (by decide))
      have HS5 : Hid (w5.cell? ⟨w.heap.size + 1 + 1, 2, none⟩ = some (.slice va k vc) ∧ w5.cell? ⟨w.heap.size, 2, none⟩ = some (.slice (some ⟨bb, off, none⟩) n2 c2) ∧ w5.cell? ⟨bb, off + k, none⟩ = some (.slice xa xn xc)) := ⟨cell_of_block hx5 2, cell_of_block ht5 2, by rw [World.cell?_of_block (w := w3.alloc (.cells #[.slice ea xn ec] 27)) (g5.block bb (Nat.lt_of_lt_of_le HBW.out (Nat.le_trans hI.out.low.size HB4.out.size)) (fun e => by have := (HOW.out.lt bb e.symm).1; have := HBW.out; omega))]; exact (keep3c HS3.out (ext_alloc _ _)).2.2⟩
      have HX5 := Lib.hid hx5
      have HT5 := Lib.hid ht5
      have d1 := cell_of_block hx5 2
      have d2 := unfrozen_of_block hx5 2
      have HG5 := Lib.hid g5
      have R5 := Lib.hid r5
      clear r5 g5 hx5 ht5
      refine hK.out _ _ HS5.out (fun _ => ?_)
      clear hK K
      try simp only [Act.put, List.setIfInBounds_toArray, List.set_cons_zero, List.set_cons_succ]
      refine wpAnyH_take (i := 11) (v := ?_) (by simp only [List.getElem?_toArray, List.getElem?_cons_zero, List.getElem?_cons_succ]; rfl) (by kernel_rfl) (by kernel_rfl) (by kernel_rfl) (fun _ _ _ h => h) (Or.inl ⟨by rfl, ?_⟩) HS5.out ?_
      rotate_left
      · intro w hSw
        (try dsimp only at hSw)
        obtain ⟨q0_, q1_, q2_⟩ := hSw
        go_simp
        try with_reducible rfl
      try simp only [Act.put, List.setIfInBounds_toArray, List.set_cons_zero, List.set_cons_succ]
      refine wpAnyH_done (by kernel_rfl) ?_ _
      unfold LastQ wpOp
      simp only [List.getElem?_toArray, List.getElem?_cons_zero, List.getElem?_cons_succ]
      rw [if_pos (by rfl)]
      refine Or.inl ?_
      go_simp
      refine NoPanic.normal ?_
      clear p0 p1 p2 HS0 HSD HS3 HS5 d1 d2
      go_wp2
      go_roundw
      case rel =>
        refine ⟨k + 1, fa, fc, ss ++ [(ea, xn, ec)], by omega, by go_num, ?_⟩
        have hXX := block_setCell HX5.out (i := 2) (.slice fa (k + 1) fc)
        obtain ⟨W6, hW6⟩ : ∃ W6, W6 = w5.setCell ⟨w.heap.size + 1 + 1, 2, none⟩ (.slice fa (k + 1) fc) := ⟨_, rfl⟩
        rw [← hW6] at hXX ⊢
        have hne : ∀ D : Nat, D ≠ w.heap.size + 1 + 1 → W6.heap[D]? = w5.heap[D]? := fun D hD => by rw [hW6]; exact Below.heap_setCell w5 ⟨w.heap.size + 1 + 1, 2, none⟩ _ D hD
        obtain ⟨WA, hWA⟩ : ∃ WA, WA = w3.alloc (.cells #[.slice ea xn ec] 27) := ⟨_, rfl⟩
        have hg := HG5.out
        have hb4 := HB4.out
        have how := HOW.out
        rw [← hWA] at hg hb4 how
        have hb3A : Below w3.heap.size w3 WA := by rw [hWA]; exact ext_alloc _ _
        have hwle : w.heap.size ≤ wr.heap.size := hI.out.low.size
        have one : ∀ {y : Slc} {V : List UInt8}, Row isByte WA w.heap.size 5 (slV y) V.length (V.map bv) → Row isByte W6 w.heap.size 5 (slV y) V.length (V.map bv) := fun {y V} hy => by
          have h1 := row_grown hy how hg (by decide)
          exact h1.other fun q hq => hne q (fun e => (h1.not_own HX5.out (by decide)) (by rw [hq, e]))
        have hnew : Row isByte WA w.heap.size 5 (slV (ea, xn, ec)) (fs.getD k []).length ((fs.getD k []).map bv) := by
          have h1 := (R3.out.below hb3A).base_le hwle
          rw [HXL.out] at h1 ⊢
          exact h1
        have hbz : Below w.heap.size w WA := ext_trans hI.out.low hb4
        refine ⟨?_, (hne _ (by omega)).trans HT5.out, (hne _ (by omega)).trans (heap_grown (heap_below hI.out.rb hb4) hg (ownsN_notown how (heap_below hI.out.rb hb4) (by decide))), one (hI.out.init.below hb4), ?_, by simp [hI.out.len], fun j hj => ?_, ?_, ?_⟩
        · simpa using hXX
        · have h1 : w5.ownsRow w.heap.size 27 1 (.slice fa (k + 1) fc) (k + 1) ((ss ++ [(ea, xn, ec)]).map slV) := by simpa [slV] using R5.out
          exact ownsN_other h1 fun q hq => hne q (fun e => (ownsN_notown h1 HX5.out (by decide)) (by rw [hq, e]))
        · by_cases e : j = k
          · subst e
            have e1 : (ss ++ [(ea, xn, ec)]).getD j slc0 = (ea, xn, ec) := by rw [← hI.out.len]; simp
            rw [e1]
            exact one hnew
          · have e1 : (ss ++ [(ea, xn, ec)]).getD j slc0 = ss.getD j slc0 := by simp [List.getD, List.getElem?_append_left (show j < ss.length by rw [hI.out.len]; omega)]
            rw [e1]
            exact one ((hI.out.rows j (by omega)).below hb4)
        · have h1 := apart_snoc (x := (ea, xn, ec)) hI.out.ap (fun j hj g hg1 hg2 => ?_)
          · simpa using h1
          · have h3 := (R3.out.own.lt g hg2).1
            have h4 : g < wr.heap.size := by
              cases j with
              | zero => exact (hI.out.init.own.lt g hg1).2
              | succ j => exact ((hI.out.rows j (by rw [← hI.out.len]; simpa using hj)).own.lt g hg1).2
            omega
        · rw [hW6]
          exact (hbz.grown hg hbz.size (fun q hq => (how.lt q hq).1)).setCell (p := ⟨w.heap.size + 1 + 1, 2, none⟩) (by show w.heap.size ≤ w.heap.size + 1 + 1; omega) _
      case measure => simp [intOf]; omega
    · obtain rfl : k = n2 := by omega
      have z0 := cell_of_block hI.out.box 0
      have z1 := cell_of_block hI.out.box 1
      have z2 := cell_of_block hI.out.box 2
      obtain ⟨sa, sn, sc⟩ := si
      simp only [slV] at z1
      have z1' : wr.cell? ⟨w.heap.size + 1 + 1, 1, none⟩ = some (.slice sa sn sc) := z1
      have y0 := cell_of_block hI.out.rb 0
      have y1 := cell_of_block hI.out.rb 1
      have y2 := cell_of_block hI.out.rb 2
      have x0 := unfrozen_of_block hI.out.rb 0
      have x1 := unfrozen_of_block hI.out.rb 1
      have x2 := unfrozen_of_block hI.out.rb 2
      clear hlt hk z1
      go_wp2
      refine bodyPost_ret (v := traceV bad ⟨sa, sn, sc, va, k, vc, ss⟩) ?_ rfl ?_
      · have h6 := tri_set_t hI.out.rb rfl (.int .i64 bad) (.slice sa sn sc) (.slice va k vc)
        have g0 := cell_of_block h6 0
        have g1 := cell_of_block h6 1
        have g2 := cell_of_block h6 2
        simp [results, Try.results8, go_sem, g0, g1, g2]
        rfl
      · have hsn : sn = init.length := HLEN2.out
        have h1 := HN1.out
        have h2 := HN2.out
        refine ⟨⟨sa, sn, sc, va, k, vc, ss⟩, rfl, OwnT3.set3 ⟨hI.out.init, by rw [h2]; exact hI.out.row, by rw [h2]; exact hI.out.len, fun j hj => hI.out.rows j (by rw [← h2]; exact hj), hI.out.ap⟩ hI.out.rb, ⟨by show sn ≤ 1048576; omega, hs2, fun x hx => ?_⟩, set3_t (w.heap.size + 1) (Nat.le_succ _) hI.out.low⟩
        obtain ⟨j, hj, he⟩ := List.getElem_of_mem hx
        have h3 : ss.getD j slc0 = x := by simp [List.getD, List.getElem?_eq_getElem hj, he]
        have hjk : j < k := by rw [← hI.out.len]; exact hj
        have h4 := hI.out.rows j hjk
        rw [h3] at h4
        have h5 := row_len (show Row isByte wr w.heap.size 5 (.slice x.1 x.2.1 x.2.2) _ _ from h4)
        have h6 := (H2.out.each j (by rw [h2]; exact hjk)).lenMap
        have h7 := HSL.out (ss0.getD j slc0) (getD_mem (by rw [H2.out.len, h2]; exact hjk))
        omega
end Go.Proofs.Ytjmdgbdlhaaefaa
/- sim.Frame, by its contract. -/
namespace Go.Proofs.Ytjmdgbdlhaaefaa
open Go Go.RowKit Go.Joins

theorem keep6f {w w' : World} {a0 a1 a2 a3 a4 a5 : Addr} {v0 v1 v2 v3 v4 v5 : Value} (h : w.cell? a0 = some v0 ∧ w.cell? a1 = some v1 ∧ w.cell? a2 = some v2 ∧ w.cell? a3 = some v3 ∧ w.cell? a4 = some v4 ∧ w.cell? a5 = some v5) (hb : Below w.heap.size w w') :
    w'.cell? a0 = some v0 ∧ w'.cell? a1 = some v1 ∧ w'.cell? a2 = some v2 ∧ w'.cell? a3 = some v3 ∧ w'.cell? a4 = some v4 ∧ w'.cell? a5 = some v5 := by
  obtain ⟨h0, h1, h2, h3, h4, h5⟩ := h
  have one : ∀ {a : Addr} {v : Value}, w.cell? a = some v → w'.cell? a = some v := fun {a v} h => (hb.cell (World.block_lt_of_cell? _ _ h)).trans h
  exact ⟨one h0, one h1, one h2, one h3, one h4, one h5⟩

set_option maxRecDepth 100000 in
set_option maxHeartbeats 3200000 in
theorem simframe_any (c : NormC) (s : CSlots) (st ins : List UInt8) (a1 : Option Addr) (n1 c1 : Nat) (a2 : Option Addr) (n2 c2 : Nat) (w : World) (hc : SeesCir w s c) (hs : s.small)
    (h1 : Sees w a1 n1 c1 (st.map bv)) (h2 : Sees w a2 n2 c2 (ins.map bv)) (hn1 : n1 ≤ 1048576) (hn2 : n2 ≤ 1048576) (hlo : -9223372036854775808 ≤ c.ins) (hhi : c.ins < 9223372036854775808) :
    Calls Try.prog 9 #[cirV c.ins s, .slice a1 n1 c1, .slice a2 n2 c2] w (FrPost w (frameOk c st ins) (k1.vars c st ins) (k1.next c (k1.vars c st ins))) := by
  have HMAY := Lib.hid (fun W (hb : Below w.heap.size w W) => may3_any c s W (hc.below hb) hs hlo hhi)
  have HF1 := Lib.hid (fun W (hb : Below w.heap.size w W) => sarevals_any (c.lats.length : Int) st a1 n1 c1 hn1 W (h1.below hb))
  have HF2 := Lib.hid (fun W (hb : Below w.heap.size w W) => sarevals_any c.ins ins a2 n2 c2 hn2 W (h2.below hb))
  have HFR := Lib.hid (fun (hm : MayC c) (e1 : st.length = c.lats.length) (e2 : (ins.length : Int) = c.ins) W (hb : Below w.heap.size w W) => frame_any c hm s st ins a1 n1 c1 a2 n2 c2 W (hc.below hb) hs (h1.below hb) (h2.below hb) e1 e2)
  have HSG := Lib.hid single_any
  obtain ⟨b1, m1, d1, b2, m2, d2, b3, m3, d3, b4, m4, d4, b5, m5, d5⟩ := s
  have hla : c.lats.length = m1 := hc.s1.1
  rw [hla] at HF1
  have HLA := Lib.hid hla
  obtain ⟨ok, hok⟩ : ∃ ok, ok = frameOk c st ins := ⟨_, rfl⟩
  obtain ⟨qm, hqm⟩ : ∃ q, q = mayC c := ⟨_, rfl⟩
  obtain ⟨q1, hq1⟩ : ∃ q, q = valsOk st (m1 : Int) := ⟨_, rfl⟩
  obtain ⟨q2, hq2⟩ : ∃ q, q = valsOk ins c.ins := ⟨_, rfl⟩
  have HOK : Hid (ok = (qm && q1 && q2)) := by show _ = _; rw [hok, hqm, hq1, hq2, ← hla]; rfl
  rw [← hok]
  rw [← hqm] at HMAY
  rw [← hq1] at HF1
  rw [← hq2] at HF2
  have HQM := Lib.hid hqm
  have HQ1 := Lib.hid hq1
  have HQ2 := Lib.hid hq2
  clear hla hc h1 h2 hok hqm hq1 hq2 hlo hhi hs
  unfold cirV kv1 at *
  go_enter Try.func9, Try.ntmps9
  go_upto_region 1 with fail
  generalize hW : World.alloc w _ = W1
  have hb : Below w.heap.size w W1 := by subst hW; exact ext_alloc _ _
  have hx : W1.heap[w.heap.size]? = some (.cells #[.int .i64 c.ins, .slice b1 m1 d1, .slice b2 m2 d2, .slice b3 m3 d3, .slice b4 m4 d4, .slice b5 m5 d5] 26 (0, 0)) := by subst hW; exact heap_new _ _ _ rfl
  have HB := Lib.hid hb
  have HX := Lib.hid hx
  clear hW hb hx
  have p0 := cell_of_block HX.out 0
  have p1 := cell_of_block HX.out 1
  have p2 := cell_of_block HX.out 2
  have p3 := cell_of_block HX.out 3
  have p4 := cell_of_block HX.out 4
  have p5 := cell_of_block HX.out 5
  go_wp2_with fail
  refine (HMAY.out W1 HB.out).mono ?_
  rintro e W2 ⟨rfl, hb⟩
  have HX2 := Lib.hid (heap_below HX.out hb)
  have HB2 := Lib.hid (ext_trans HB.out hb)
  clear p0 p1 p2 p3 p4 p5 HX HB hb
  have p0 := cell_of_block HX2.out 0
  have p1 := cell_of_block HX2.out 1
  have p2 := cell_of_block HX2.out 2
  have p3 := cell_of_block HX2.out 3
  have p4 := cell_of_block HX2.out 4
  have p5 := cell_of_block HX2.out 5
  cases qm with
  | false =>
    have HO : Hid (ok = false) := by show _ = _; rw [HOK.out]; simp
    clear p0 p1 p2 p3 p4 p5
    go_wp2
    refine bodyPost_ret (v := .tuple #[.slice none 0 0, .slice none 0 0, .int .i64 2]) ?_ rfl ?_
    · simp [results, Try.results9, go_sem]
    · exact FrPost.no HO.out HB2.out
  | true =>
  go_wp2_with fail
  refine (HF1.out W2 HB2.out).mono ?_
  rintro e W3 ⟨rfl, hb⟩
  have HX3 := Lib.hid (heap_below HX2.out hb)
  have HB3 := Lib.hid (ext_trans HB2.out hb)
  clear p0 p1 p2 p3 p4 p5 HX2 HB2 hb
  have p0 := cell_of_block HX3.out 0
  have p1 := cell_of_block HX3.out 1
  have p2 := cell_of_block HX3.out 2
  have p3 := cell_of_block HX3.out 3
  have p4 := cell_of_block HX3.out 4
  have p5 := cell_of_block HX3.out 5
  cases q1 with
  | false =>
    have HO : Hid (ok = false) := by show _ = _; rw [HOK.out]; simp
    clear p0 p1 p2 p3 p4 p5
    go_wp2
    refine bodyPost_ret (v := .tuple #[.slice none 0 0, .slice none 0 0, .int .i64 2]) ?_ rfl ?_
    · simp [results, Try.results9, go_sem]
    · exact FrPost.no HO.out HB3.out
  | true =>
  go_wp2_with fail
  refine (HF2.out W3 HB3.out).mono ?_
  rintro e W4 ⟨rfl, hb⟩
  have HX4 := Lib.hid (heap_below HX3.out hb)
  have HB4 := Lib.hid (ext_trans HB3.out hb)
  clear p0 p1 p2 p3 p4 p5 HX3 HB3 hb
  have p0 := cell_of_block HX4.out 0
  have p1 := cell_of_block HX4.out 1
  have p2 := cell_of_block HX4.out 2
  have p3 := cell_of_block HX4.out 3
  have p4 := cell_of_block HX4.out 4
  have p5 := cell_of_block HX4.out 5
  cases q2 with
  | false =>
    have HO : Hid (ok = false) := by show _ = _; rw [HOK.out]; simp
    clear p0 p1 p2 p3 p4 p5
    go_wp2
    refine bodyPost_ret (v := .tuple #[.slice none 0 0, .slice none 0 0, .int .i64 2]) ?_ rfl ?_
    · simp [results, Try.results9, go_sem]
    · exact FrPost.no HO.out HB4.out
  | true =>
  have hmay := mayC_iff.1 HQM.out.symm
  obtain ⟨hl1, _⟩ := valsOk_iff.1 HQ1.out.symm
  obtain ⟨hl2, _⟩ := valsOk_iff.1 HQ2.out.symm
  have HFR2 := Lib.hid (HFR.out hmay (by rw [HLA.out]; omega) hl2)
  have HO : Hid (ok = true) := HOK.out
  have HS0 := Lib.hid (And.intro p0 (And.intro p1 (And.intro p2 (And.intro p3 (And.intro p4 p5)))))
  obtain ⟨VS, hVS⟩ : ∃ v, v = k1.vars c st ins := ⟨_, rfl⟩
  rw [← hVS] at HFR2 ⊢
  obtain ⟨NS, hNS⟩ : ∃ v, v = k1.next c VS := ⟨_, rfl⟩
  rw [← hNS] at HFR2 ⊢
  have HFP : Hid (∀ W e w', FramePost W VS NS e w' → ∃ a1 c1 a2 c2, e = .returned (.tuple #[.slice a1 VS.length c1, .slice a2 NS.length c2]) ∧ Row isByte w' W.heap.size 5 (.slice a1 VS.length c1) VS.length (VS.map bv) ∧ Row isByte w' W.heap.size 5 (.slice a2 NS.length c2) NS.length (NS.map bv) ∧ Below W.heap.size W w') := fun _ _ _ h => h
  have HVS := Lib.hid hVS
  have HNS := Lib.hid hNS
  clear hl1 hl2 hmay hVS hNS HFR HF1 HF2 HMAY p0 p1 p2 p3 p4 p5
  go_upto_region 3 with fail
  refine wp_region_noPanic ?_
  refine wp_region_held (S := fun w' => w'.cell? ⟨w.heap.size, 0, none⟩ = some (.int .i64 c.ins) ∧ w'.cell? ⟨w.heap.size, 1, none⟩ = some (.slice b1 m1 d1) ∧ w'.cell? ⟨w.heap.size, 2, none⟩ = some (.slice b2 m2 d2) ∧ w'.cell? ⟨w.heap.size, 3, none⟩ = some (.slice b3 m3 d3) ∧ w'.cell? ⟨w.heap.size, 4, none⟩ = some (.slice b4 m4 d4) ∧ w'.cell? ⟨w.heap.size, 5, none⟩ = some (.slice b5 m5 d5)) (by kernel_rfl) ?_
  generalize hY : ({ W4 with drawn := W4.drawn + 1 } : World) = Y0
  have hY0 : Below W4.heap.size W4 Y0 := by subst hY; exact (Below.refl _ _).drew
  have HSD := Lib.hid (keep6f HS0.out hY0)
  have HYB := Lib.hid (ext_trans HB4.out hY0)
  have HXY := Lib.hid (heap_below HX4.out hY0)
  clear hY0 hY
  refine wpAnyH_take (i := 1) (v := ?_) (by simp only [List.getElem?_toArray, List.getElem?_cons_zero, List.getElem?_cons_succ]; rfl) (by kernel_rfl) (by kernel_rfl) (by kernel_rfl) (fun _ _ _ h => h) (Or.inl ⟨by rfl, ?_⟩) HSD.out ?_
  rotate_left
  · intro w hSw
    (try dsimp only at hSw)
    obtain ⟨q0_, q1_, q2_, q3_, q4_, q5_⟩ := hSw
    go_simp
    try with_reducible rfl
  try simp only [Act.put, List.setIfInBounds_toArray, List.set_cons_zero, List.set_cons_succ]
  refine wpAnyH_take (i := 2) (v := ?_) (by simp only [List.getElem?_toArray, List.getElem?_cons_zero, List.getElem?_cons_succ]; rfl) (by kernel_rfl) (by kernel_rfl) (by kernel_rfl) (fun _ _ _ h => h) (Or.inl ⟨by rfl, ?_⟩) HSD.out ?_
  rotate_left
  · intro w hSw
    (try dsimp only at hSw)
    obtain ⟨q0_, q1_, q2_, q3_, q4_, q5_⟩ := hSw
    go_simp
    try with_reducible rfl
  try simp only [Act.put, List.setIfInBounds_toArray, List.set_cons_zero, List.set_cons_succ]
  refine wpAnyH_take (i := 3) (v := ?_) (by simp only [List.getElem?_toArray, List.getElem?_cons_zero, List.getElem?_cons_succ]; rfl) (by kernel_rfl) (by kernel_rfl) (by kernel_rfl) (fun _ _ _ h => h) (Or.inl ⟨by rfl, ?_⟩) HSD.out ?_
  rotate_left
  · intro w hSw
    (try dsimp only at hSw)
    obtain ⟨q0_, q1_, q2_, q3_, q4_, q5_⟩ := hSw
    go_simp
    try with_reducible rfl
  try simp only [Act.put, List.setIfInBounds_toArray, List.set_cons_zero, List.set_cons_succ]
  refine wpAnyH_ready (rs := [0]) (by kernel_rfl) (by simp) ?_
  refine AllReadyH.cons (by simp only [List.getElem?_toArray, List.getElem?_cons_zero]; rfl) (fun K hK => ?_) AllReadyH.nil
  go_simp
  refine (HSG.out _).mono ?_
  rintro e s1 ⟨rfl, b1⟩
  have HB5 := Lib.hid (ext_trans HYB.out b1)
  have HS5 := Lib.hid (keep6f HSD.out b1)
  clear b1
  refine hK.out _ _ HS5.out (fun _ => ?_)
  clear hK K
  try simp only [Act.put, List.setIfInBounds_toArray, List.set_cons_zero, List.set_cons_succ]
  refine wpAnyH_ready (rs := [4]) (by kernel_rfl) (by simp) ?_
  refine AllReadyH.cons (by simp only [List.getElem?_toArray, List.getElem?_cons_zero, List.getElem?_cons_succ]; rfl) (fun K hK => ?_) AllReadyH.nil
  go_simp
  refine (HFR2.out _ HB5.out).mono ?_
  rintro e s2 hp
  obtain ⟨x1, y1, x2, y2, rfl, r1, r2, b2⟩ := HFP.out _ _ _ hp
  have HR1 := Lib.hid (row_base r1 HB5.out.size)
  have HR2 := Lib.hid (row_base r2 HB5.out.size)
  have HB6 := Lib.hid (ext_trans HB5.out b2)
  have HS6 := Lib.hid (keep6f HS5.out b2)
  clear b2 r1 r2 hp
  refine hK.out _ _ HS6.out (fun _ => ?_)
  clear hK K
  try simp only [Act.put, List.setIfInBounds_toArray, List.set_cons_zero, List.set_cons_succ]
  refine wpAnyH_take (i := 5) (v := ?_) (by simp only [List.getElem?_toArray, List.getElem?_cons_zero, List.getElem?_cons_succ]; rfl) (by kernel_rfl) (by kernel_rfl) (by kernel_rfl) (fun _ _ _ h => h) (Or.inl ⟨by rfl, ?_⟩) HS6.out ?_
  rotate_left
  · intro w hSw
    (try dsimp only at hSw)
    obtain ⟨q0_, q1_, q2_, q3_, q4_, q5_⟩ := hSw
    go_simp
    try with_reducible rfl
  try simp only [Act.put, List.setIfInBounds_toArray, List.set_cons_zero, List.set_cons_succ]
  refine wpAnyH_take (i := 6) (v := ?_) (by simp only [List.getElem?_toArray, List.getElem?_cons_zero, List.getElem?_cons_succ]; rfl) (by kernel_rfl) (by kernel_rfl) (by kernel_rfl) (fun _ _ _ h => h) (Or.inl ⟨by rfl, ?_⟩) HS6.out ?_
  rotate_left
  · intro w hSw
    (try dsimp only at hSw)
    obtain ⟨q0_, q1_, q2_, q3_, q4_, q5_⟩ := hSw
    go_simp
    try with_reducible rfl
  try simp only [Act.put, List.setIfInBounds_toArray, List.set_cons_zero, List.set_cons_succ]
  refine wpAnyH_take (i := 7) (v := ?_) (by simp only [List.getElem?_toArray, List.getElem?_cons_zero, List.getElem?_cons_succ]; rfl) (by kernel_rfl) (by kernel_rfl) (by kernel_rfl) (fun _ _ _ h => h) (Or.inl ⟨by rfl, ?_⟩) HS6.out ?_
  rotate_left
  · intro w hSw
    (try dsimp only at hSw)
    obtain ⟨q0_, q1_, q2_, q3_, q4_, q5_⟩ := hSw
    go_simp
    try with_reducible rfl
  try simp only [Act.put, List.setIfInBounds_toArray, List.set_cons_zero, List.set_cons_succ]
  refine wpAnyH_take (i := 8) (v := ?_) (by simp only [List.getElem?_toArray, List.getElem?_cons_zero, List.getElem?_cons_succ]; rfl) (by kernel_rfl) (by kernel_rfl) (by kernel_rfl) (fun _ _ _ h => h) (Or.inl ⟨by rfl, ?_⟩) HS6.out ?_
  rotate_left
  · intro w hSw
    (try dsimp only at hSw)
    obtain ⟨q0_, q1_, q2_, q3_, q4_, q5_⟩ := hSw
    go_simp
    try with_reducible rfl
  try simp only [Act.put, List.setIfInBounds_toArray, List.set_cons_zero, List.set_cons_succ]
  refine wpAnyH_take (i := 9) (v := ?_) (by simp only [List.getElem?_toArray, List.getElem?_cons_zero, List.getElem?_cons_succ]; rfl) (by kernel_rfl) (by kernel_rfl) (by kernel_rfl) (fun _ _ _ h => h) (Or.inl ⟨by rfl, ?_⟩) HS6.out ?_
  rotate_left
  · intro w hSw
    (try dsimp only at hSw)
    obtain ⟨q0_, q1_, q2_, q3_, q4_, q5_⟩ := hSw
    go_simp
    try with_reducible rfl
  try simp only [Act.put, List.setIfInBounds_toArray, List.set_cons_zero, List.set_cons_succ]
  refine wpAnyH_done (by kernel_rfl) ?_ _
  refine NoPanic.normal ?_
  go_wp2
  refine bodyPost_ret (v := .tuple #[.slice x1 VS.length y1, .slice x2 NS.length y2, .int .i64 0]) ?_ rfl ?_
  · simp [results, Try.results9, go_sem]
  · rw [HO.out, ← HVS.out, ← HNS.out]
    refine ⟨(x1, VS.length, y1), (x2, NS.length, y2), rfl, ?_, ?_, HB6.out⟩
    · simp only [if_true]; exact HR1.out
    · simp only [if_true]; exact HR2.out
end Go.Proofs.Ytjmdgbdlhaaefaa
/- The law's great, and its own examples. -/
namespace Go.Proofs.Ytjmdgbdlhaaefaa
open Go Go.RowKit Go.Joins

theorem sees_cells {w : World} {g : Nat} {C : Array Value} {t : TypeId} {fr : Nat × Nat} (h : w.heap[g]? = some (.cells C t fr)) (xs : List Value) (n : Nat) (hC : C = xs.toArray) (hn : xs.length = n) : Sees w (some ⟨g, 0, none⟩) n n xs := by
  subst hC
  refine ⟨hn, Nat.le_refl _, (fun e => by cases e), fun _ => ⟨g, 0, rfl, heap_lt h, fun j hj => ?_⟩⟩
  rw [cell_of_block h]
  simp
def great7 (c : NormC) (t : TraceC) : Bool := decide (2000 < c.ins) || (decide (300 < c.lats.length) || (decide (300 < c.gates.length) || (decide (300 < c.cons.length) || decide (300 < t.frames.length))))
set_option maxRecDepth 100000 in
set_option maxHeartbeats 3200000 in
theorem great7_any (c : NormC) (t : TraceC) (s : CSlots) (st : TSlots) (w : World) (h : SeesCir w s c) (ht : SeesTr w st t) :
    Calls Try.prog 6 #[cirV c.ins s, traceV t.bad st] w fun e w' => e = .returned (.bool (great7 c t)) ∧ Below w.heap.size w w' := by
  obtain ⟨a1, n1, c1, a2, n2, c2, a3, n3, c3, a4, n4, c4, a5, n5, c5⟩ := s
  obtain ⟨b1, m1, d1, b2, m2, d2, ss⟩ := st
  have l1 : c.lats.length = n1 := h.s1.1
  have l2 : c.gates.length = n2 := h.s2.1
  have l5 : c.cons.length = n5 := h.s5.lenMap
  have l6 : t.frames.length = m2 := ht.s2.n_eq
  obtain ⟨z, hz⟩ : ∃ z, z = c.ins := ⟨_, rfl⟩
  obtain ⟨y, hy⟩ : ∃ y, y = t.bad := ⟨_, rfl⟩
  have HE : Hid (great7 c t = (decide (2000 < z) || (decide (300 < n1) || (decide (300 < n2) || (decide (300 < n5) || decide (300 < m2)))))) := by
    show _ = _; unfold great7; rw [l1, l2, l5, l6, ← hz]
  rw [← hz, ← hy]
  clear l1 l2 l5 l6 hz hy h ht
  unfold cirV traceV
  go_enter Try.func6, Try.ntmps6
  go_upto_region 1 with fail
  generalize hW : World.alloc (World.alloc w _) _ = W1
  have hb : Below w.heap.size w W1 := by subst hW; exact ext_trans (ext_alloc _ _) (ext_alloc _ _)
  have hx : W1.heap[w.heap.size]? = some (.cells #[.int .i64 z, .slice a1 n1 c1, .slice a2 n2 c2, .slice a3 n3 c3, .slice a4 n4 c4, .slice a5 n5 c5] 26 (0, 0)) := by subst hW; exact heap_below (heap_new _ _ _ rfl) (ext_alloc _ _)
  have ht : W1.heap[w.heap.size + 1]? = some (.cells #[.int .i64 y, .slice b1 m1 d1, .slice b2 m2 d2] 30 (0, 0)) := by subst hW; exact heap_new _ _ _ (by simp)
  have HB := Lib.hid hb
  have p0 := cell_of_block hx 0
  have p1 := cell_of_block hx 1
  have p2 := cell_of_block hx 2
  have p5 := cell_of_block hx 5
  have r2 := cell_of_block ht 2
  clear hW hb hx ht
  by_cases t1 : 2000 < z
  · have e1 : decide ((2000 : Int) < z) = true := by simpa using t1
    have HF : Hid (great7 c t = true) := by show _ = _; rw [HE.out, e1]; rfl
    go_wp2
    go_ret
    exact ⟨by rw [HF.out]; rfl, HB.out⟩
  have e1 : decide ((2000 : Int) < z) = false := by simpa using t1
  by_cases t2 : 300 < n1
  · have e2 : decide ((300 : Int) < (n1 : Int)) = true := by simp; omega
    have HF : Hid (great7 c t = true) := by show _ = _; rw [HE.out, decide_eq_true t2]; simp
    go_wp2
    go_ret
    exact ⟨by rw [HF.out]; rfl, HB.out⟩
  have e2 : decide ((300 : Int) < (n1 : Int)) = false := by simp; omega
  by_cases t3 : 300 < n2
  · have e3 : decide ((300 : Int) < (n2 : Int)) = true := by simp; omega
    have HF : Hid (great7 c t = true) := by show _ = _; rw [HE.out, decide_eq_true t3]; simp
    go_wp2
    go_ret
    exact ⟨by rw [HF.out]; rfl, HB.out⟩
  have e3 : decide ((300 : Int) < (n2 : Int)) = false := by simp; omega
  by_cases t4 : 300 < n5
  · have e4 : decide ((300 : Int) < (n5 : Int)) = true := by simp; omega
    have HF : Hid (great7 c t = true) := by show _ = _; rw [HE.out, decide_eq_true t4]; simp
    go_wp2
    go_ret
    exact ⟨by rw [HF.out]; rfl, HB.out⟩
  have e4 : decide ((300 : Int) < (n5 : Int)) = false := by simp; omega
  have e5 : decide ((300 : Int) < (m2 : Int)) = decide (300 < m2) := decide_eq_decide.2 (by omega)
  have HF : Hid (great7 c t = decide (300 < m2)) := by show _ = _; rw [HE.out, e1, decide_eq_false t2, decide_eq_false t3, decide_eq_false t4]; rfl
  obtain ⟨q, hq⟩ : ∃ q, q = decide (300 < m2) := ⟨_, rfl⟩
  rw [← hq] at e5 HF
  clear hq
  go_wp2
  go_ret
  exact ⟨by rw [HF.out]; rfl, HB.out⟩

/-- The circuit of the examples. -/
def oneC : NormC := ⟨1, [(2, 2)], [], [], [4], []⟩
def trC (a b c : UInt8) : TraceC := ⟨0, [a], [[b], [c]]⟩

set_option maxRecDepth 100000 in
theorem one_any (w : World) : Calls Try.prog 30 #[] w fun e w' => ∃ s : CSlots, e = .returned (cirV oneC.ins s) ∧ SeesCir w' s oneC ∧ s.small ∧ Below w.heap.size w w' := by
  go_enter Try.func30, Try.ntmps30
  go_wp2
  generalize hW : World.alloc (World.alloc (World.alloc w _) _) _ = W1
  have hb : Below w.heap.size w W1 := by subst hW; exact ext_trans (ext_alloc _ _) (ext_trans (ext_alloc _ _) (ext_alloc _ _))
  have h0 : W1.heap[w.heap.size]? = some (.cells #[.int .i64 1, .slice (some ⟨w.heap.size + 1, 0, none⟩) 1 1, .slice none 0 0, .slice none 0 0, .slice (some ⟨w.heap.size + 1 + 1, 0, none⟩) 1 1, .slice none 0 0] 26 (0, 0)) := by subst hW; exact heap_below (heap_below (heap_new _ _ _ rfl) (ext_alloc _ _)) (ext_alloc _ _)
  have h1 : W1.heap[w.heap.size + 1]? = some (.cells #[.int .u32 2, .int .u8 2] 75 (0, 0)) := by subst hW; exact heap_below (heap_new _ _ _ (by simp)) (ext_alloc _ _)
  have h2 : W1.heap[w.heap.size + 1 + 1]? = some (.cells #[.int .u32 4] 31 (0, 0)) := by subst hW; exact heap_new _ _ _ (by simp)
  clear hW
  obtain ⟨s, hs⟩ : ∃ s : CSlots, s = ⟨some ⟨w.heap.size + 1, 0, none⟩, 1, 1, none, 0, 0, none, 0, 0, some ⟨w.heap.size + 1 + 1, 0, none⟩, 1, 1, none, 0, 0⟩ := ⟨_, rfl⟩
  refine bodyPost_ret (v := cirV 1 s) ?_ rfl ?_
  · have g0 := cell_of_block h0 0
    have g1 := cell_of_block h0 1
    have g2 := cell_of_block h0 2
    have g3 := cell_of_block h0 3
    have g4 := cell_of_block h0 4
    have g5 := cell_of_block h0 5
    subst hs
    simp [results, Try.results30, go_sem, g0, g1, g2, g3, g4, g5]
    rfl
  · subst hs
    refine ⟨_, rfl, ⟨⟨rfl, Nat.le_refl _, ?_⟩, Sees2.nil _ _, Sees.nil _ _ _ (fun _ => rfl), ?_, Sees.nil _ _ _ (fun _ => rfl)⟩, ⟨by show (1 : Nat) ≤ 1048576; omega, Nat.zero_le _, Nat.zero_le _, by show (1 : Nat) ≤ 1048576; omega, Nat.zero_le _⟩, hb⟩
    · exact sees_cells h1 [.int .u32 2, .int .u8 2] 2 rfl rfl
    · exact sees_cells h2 [.int .u32 4] 1 rfl rfl

set_option maxRecDepth 100000 in
theorem trace_any (a b c : UInt8) (w : World) : Calls Try.prog 31 #[bv a, bv b, bv c] w fun e w' => ∃ s : TSlots, e = .returned (traceV 0 s) ∧ SeesTr w' s (trC a b c) ∧ s.small ∧ Below w.heap.size w w' := by
  unfold bv
  obtain ⟨x, hx⟩ : ∃ x, x = a.toNat := ⟨_, rfl⟩
  obtain ⟨y, hy⟩ : ∃ x, x = b.toNat := ⟨_, rfl⟩
  obtain ⟨z, hz⟩ : ∃ x, x = c.toNat := ⟨_, rfl⟩
  rw [← hx, ← hy, ← hz]
  have HX := Lib.hid (And.intro hx (And.intro hy hz))
  clear hx hy hz
  go_enter Try.func31, Try.ntmps31
  go_wp2
  generalize hW : World.alloc (World.alloc (World.alloc (World.alloc (World.alloc w _) _) _) _) _ = W1
  have hb : Below w.heap.size w W1 := by subst hW; exact ext_trans (ext_alloc _ _) (ext_trans (ext_alloc _ _) (ext_trans (ext_alloc _ _) (ext_trans (ext_alloc _ _) (ext_alloc _ _))))
  have h0 : W1.heap[w.heap.size]? = some (.cells #[.int .i64 0, .slice (some ⟨w.heap.size + 1, 0, none⟩) 1 1, .slice (some ⟨w.heap.size + 1 + 1 + 1 + 1, 0, none⟩) 2 2] 30 (0, 0)) := by subst hW; exact heap_below (heap_below (heap_below (heap_below (heap_new _ _ _ rfl) (ext_alloc _ _)) (ext_alloc _ _)) (ext_alloc _ _)) (ext_alloc _ _)
  have h1 : W1.heap[w.heap.size + 1]? = some (.cells #[.int .u8 (x : Int)] 5 (0, 0)) := by subst hW; exact heap_below (heap_below (heap_below (heap_new _ _ _ (by simp)) (ext_alloc _ _)) (ext_alloc _ _)) (ext_alloc _ _)
  have h2 : W1.heap[w.heap.size + 1 + 1]? = some (.cells #[.int .u8 (y : Int)] 5 (0, 0)) := by subst hW; exact heap_below (heap_below (heap_new _ _ _ (by simp)) (ext_alloc _ _)) (ext_alloc _ _)
  have h3 : W1.heap[w.heap.size + 1 + 1 + 1]? = some (.cells #[.int .u8 (z : Int)] 5 (0, 0)) := by subst hW; exact heap_below (heap_new _ _ _ (by simp)) (ext_alloc _ _)
  have h4 : W1.heap[w.heap.size + 1 + 1 + 1 + 1]? = some (.cells #[.slice (some ⟨w.heap.size + 1 + 1, 0, none⟩) 1 1, .slice (some ⟨w.heap.size + 1 + 1 + 1, 0, none⟩) 1 1] 27 (0, 0)) := by subst hW; exact heap_new _ _ _ (by simp)
  clear hW
  obtain ⟨s, hs⟩ : ∃ s : TSlots, s = ⟨some ⟨w.heap.size + 1, 0, none⟩, 1, 1, some ⟨w.heap.size + 1 + 1 + 1 + 1, 0, none⟩, 2, 2, [(some ⟨w.heap.size + 1 + 1, 0, none⟩, 1, 1), (some ⟨w.heap.size + 1 + 1 + 1, 0, none⟩, 1, 1)]⟩ := ⟨_, rfl⟩
  refine bodyPost_ret (v := traceV 0 s) ?_ rfl ?_
  · have g0 := cell_of_block h0 0
    have g1 := cell_of_block h0 1
    have g2 := cell_of_block h0 2
    subst hs
    simp [results, Try.results31, go_sem, g0, g1, g2]
    rfl
  · subst hs
    obtain ⟨hx, hy, hz⟩ := HX.out
    refine ⟨_, rfl, ⟨sees_cells h1 [bv a] 1 (by rw [hx]; rfl) rfl, ⟨sees_cells h4 _ 2 rfl rfl, rfl, fun k hk => ?_⟩⟩, ⟨by show (1 : Nat) ≤ 1048576; omega, by show (2 : Nat) ≤ 1048576; omega, fun v hv => ?_⟩, hb⟩
    · match k, hk with
      | 0, _ => exact sees_cells h2 [bv b] 1 (by rw [hy]; rfl) rfl
      | 1, _ => exact sees_cells h3 [bv c] 1 (by rw [hz]; rfl) rfl
      | k + 2, h => exact absurd h (by simp [trC])
    · simp only [List.mem_cons, List.not_mem_nil, or_false] at hv
      rcases hv with rfl | rfl <;> (show (1 : Nat) ≤ 1048576; omega)

theorem ex_fits : fitsS oneC (trC 0 1 2) = true := by kernel_rfl
theorem ex_v0 : varsAt oneC (trC 0 1 2) 0 = [0, 1, 0] := by kernel_rfl
theorem ex_v1 : varsAt oneC (trC 0 1 2) 1 = [0, 2, 1] := by kernel_rfl
theorem ex_f : failsE oneC (trC 0 1 2) = .returned (.tuple #[.bool true, .int .i64 0]) := by
  unfold failsE; rw [if_pos (by kernel_rfl)]; rfl
theorem ex_s1 : surelyE oneC (trC 0 1 2) = .returned (.tuple #[.int .u8 1, .int .i64 0]) := by
  unfold surelyE; rw [if_pos (by kernel_rfl)]; rfl
theorem ex_s2 : surelyE oneC (trC 2 0 0) = .returned (.tuple #[.int .u8 0, .int .i64 0]) := by
  unfold surelyE; rw [if_pos (by kernel_rfl)]; rfl
theorem ex_s3 : surelyE oneC (trC 2 2 2) = .returned (.tuple #[.int .u8 2, .int .i64 0]) := by
  unfold surelyE; rw [if_pos (by kernel_rfl)]; rfl
end Go.Proofs.Ytjmdgbdlhaaefaa
namespace Go.Proofs.Ytjmdgbdlhaaefaa
open Go Go.RowKit Go.Joins

set_option maxRecDepth 100000 in
set_option maxHeartbeats 6400000 in
theorem lives7_any (w : World) : Calls Try.prog 7 #[] w fun e w' => e = .returned (.bool true) ∧ Below w.heap.size w w' := by
  have HONE : Hid (∀ W, Calls Try.prog 30 #[] W fun e w' => ∃ s : CSlots, e = .returned (.agg #[.int .i64 1, .slice s.a1 s.n1 s.c1, .slice s.a2 s.n2 s.c2, .slice s.a3 s.n3 s.c3, .slice s.a4 s.n4 s.c4, .slice s.a5 s.n5 s.c5]) ∧ SeesCir w' s oneC ∧ s.small ∧ Below W.heap.size W w') := one_any
  have T1 : Hid (∀ W, Calls Try.prog 31 #[.int .u8 0, .int .u8 1, .int .u8 2] W fun e w' => ∃ s : TSlots, e = .returned (.agg #[.int .i64 0, .slice s.a1 s.n1 s.c1, .slice s.a2 s.n2 s.c2]) ∧ SeesTr w' s (trC 0 1 2) ∧ s.small ∧ Below W.heap.size W w') := trace_any 0 1 2
  have T2 : Hid (∀ W, Calls Try.prog 31 #[.int .u8 2, .int .u8 0, .int .u8 0] W fun e w' => ∃ s : TSlots, e = .returned (.agg #[.int .i64 0, .slice s.a1 s.n1 s.c1, .slice s.a2 s.n2 s.c2]) ∧ SeesTr w' s (trC 2 0 0) ∧ s.small ∧ Below W.heap.size W w') := trace_any 2 0 0
  have T3 : Hid (∀ W, Calls Try.prog 31 #[.int .u8 2, .int .u8 2, .int .u8 2] W fun e w' => ∃ s : TSlots, e = .returned (.agg #[.int .i64 0, .slice s.a1 s.n1 s.c1, .slice s.a2 s.n2 s.c2]) ∧ SeesTr w' s (trC 2 2 2) ∧ s.small ∧ Below W.heap.size W w') := trace_any 2 2 2
  go_enter Try.func7, Try.ntmps7
  go_wp2_with fail
  refine (HONE.out _).mono ?_
  rintro e X0 ⟨s0, rfl, hs0, hm0, bx0⟩
  go_wp2_with fail
  refine (T1.out _).mono ?_
  rintro e Y0 ⟨t0, rfl, ht0, hn0, by0⟩
  have HC0 := Lib.hid (hs0.below by0)
  have HT0 := Lib.hid ht0
  have HM0 := Lib.hid (And.intro hm0 hn0)
  skip
  have BY0 : Hid (Below w.heap.size w Y0) := ext_trans bx0 by0
  clear hs0 hm0 bx0 ht0 hn0 by0
  go_wp2_with fail
  refine (run_any2 oneC (trC 0 1 2) s0 t0 _ HC0.out HT0.out HM0.out.1 HM0.out.2 (by decide) (by decide) (by decide)).mono ?_
  rintro e Z0 ⟨h1, _, bz0⟩
  obtain ⟨v, ss, rfl, hl, ho, hr⟩ := h1 ex_fits
  obtain ⟨va, vc, rfl⟩ := ownsN_form ho
  have HR := Lib.hid (And.intro hl (And.intro ho hr))
  have BZ0 := Lib.hid (ext_trans BY0.out bz0)
  have CZ0 : Hid (Below Z0.heap.size Z0 Z0) := Below.refl _ _
  have HL2 : Hid ((trC 0 1 2).frames.length = 2) := rfl
  clear h1 hl ho hr bz0
  rw [HL2.out]
  go_wp2_with fail
  refine (HONE.out _).mono ?_
  rintro e X1 ⟨s1, rfl, hs1, hm1, bx1⟩
  go_wp2_with fail
  refine (T1.out _).mono ?_
  rintro e Y1 ⟨t1, rfl, ht1, hn1, by1⟩
  have HC1 := Lib.hid (hs1.below by1)
  have HT1 := Lib.hid ht1
  have HM1 := Lib.hid (And.intro hm1 hn1)
  have CY1 := Lib.hid (ext_trans CZ0.out (ext_trans bx1 by1))
  have BY1 : Hid (Below w.heap.size w Y1) := ext_trans BZ0.out (ext_trans bx1 by1)
  clear hs1 hm1 bx1 ht1 hn1 by1
  go_wp2_with fail
  refine (fails_any oneC (trC 0 1 2) s1 t1 _ HC1.out HT1.out HM1.out.1 HM1.out.2 (by decide) (by decide) (by decide)).mono ?_
  rintro e Z1 ⟨rfl, bz1⟩
  rw [ex_f]
  have BZ1 := Lib.hid (ext_trans BY1.out bz1)
  have CZ1 := Lib.hid (ext_trans CY1.out bz1)
  clear bz1
  go_wp2_with fail
  refine (HONE.out _).mono ?_
  rintro e X2 ⟨s2, rfl, hs2, hm2, bx2⟩
  go_wp2_with fail
  refine (T1.out _).mono ?_
  rintro e Y2 ⟨t2, rfl, ht2, hn2, by2⟩
  have HC2 := Lib.hid (hs2.below by2)
  have HT2 := Lib.hid ht2
  have HM2 := Lib.hid (And.intro hm2 hn2)
  have CY2 := Lib.hid (ext_trans CZ1.out (ext_trans bx2 by2))
  have BY2 : Hid (Below w.heap.size w Y2) := ext_trans BZ1.out (ext_trans bx2 by2)
  clear hs2 hm2 bx2 ht2 hn2 by2
  go_wp2_with fail
  refine (surely_any oneC (trC 0 1 2) s2 t2 _ HC2.out HT2.out HM2.out.1 HM2.out.2 (by decide) (by decide) (by decide)).mono ?_
  rintro e Z2 ⟨rfl, bz2⟩
  rw [ex_s1]
  have BZ2 := Lib.hid (ext_trans BY2.out bz2)
  have CZ2 := Lib.hid (ext_trans CY2.out bz2)
  clear bz2
  go_wp2_with fail
  refine (HONE.out _).mono ?_
  rintro e X3 ⟨s3, rfl, hs3, hm3, bx3⟩
  go_wp2_with fail
  refine (T2.out _).mono ?_
  rintro e Y3 ⟨t3, rfl, ht3, hn3, by3⟩
  have HC3 := Lib.hid (hs3.below by3)
  have HT3 := Lib.hid ht3
  have HM3 := Lib.hid (And.intro hm3 hn3)
  have CY3 := Lib.hid (ext_trans CZ2.out (ext_trans bx3 by3))
  have BY3 : Hid (Below w.heap.size w Y3) := ext_trans BZ2.out (ext_trans bx3 by3)
  clear hs3 hm3 bx3 ht3 hn3 by3
  go_wp2_with fail
  refine (surely_any oneC (trC 2 0 0) s3 t3 _ HC3.out HT3.out HM3.out.1 HM3.out.2 (by decide) (by decide) (by decide)).mono ?_
  rintro e Z3 ⟨rfl, bz3⟩
  rw [ex_s2]
  have BZ3 := Lib.hid (ext_trans BY3.out bz3)
  have CZ3 := Lib.hid (ext_trans CY3.out bz3)
  clear bz3
  go_wp2_with fail
  refine (HONE.out _).mono ?_
  rintro e X4 ⟨s4, rfl, hs4, hm4, bx4⟩
  go_wp2_with fail
  refine (T3.out _).mono ?_
  rintro e Y4 ⟨t4, rfl, ht4, hn4, by4⟩
  have HC4 := Lib.hid (hs4.below by4)
  have HT4 := Lib.hid ht4
  have HM4 := Lib.hid (And.intro hm4 hn4)
  have CY4 := Lib.hid (ext_trans CZ3.out (ext_trans bx4 by4))
  have BY4 : Hid (Below w.heap.size w Y4) := ext_trans BZ3.out (ext_trans bx4 by4)
  clear hs4 hm4 bx4 ht4 hn4 by4
  go_wp2_with fail
  refine (surely_any oneC (trC 2 2 2) s4 t4 _ HC4.out HT4.out HM4.out.1 HM4.out.2 (by decide) (by decide) (by decide)).mono ?_
  rintro e Z4 ⟨rfl, bz4⟩
  rw [ex_s3]
  have BZ4 := Lib.hid (ext_trans BY4.out bz4)
  have CZ4 := Lib.hid (ext_trans CY4.out bz4)
  clear bz4
  clear HONE T1 T2 T3
  go_wp2_with fail
  generalize hW : World.alloc (World.alloc (World.alloc Z4 _) _) _ = W1
  have hb : Below Z4.heap.size Z4 W1 := by subst hW; exact ext_trans (ext_alloc _ _) (ext_trans (ext_alloc _ _) (ext_alloc _ _))
  have h1 : W1.heap[Z4.heap.size]? = some (.cells #[.int .u8 0, .int .u8 1, .int .u8 0] 5 (0, 0)) := by subst hW; exact heap_below (heap_below (heap_new _ _ _ rfl) (ext_alloc _ _)) (ext_alloc _ _)
  have h2 : W1.heap[Z4.heap.size + 1]? = some (.cells #[.int .u8 0, .int .u8 2, .int .u8 1] 5 (0, 0)) := by subst hW; exact heap_below (heap_new _ _ _ (by simp)) (ext_alloc _ _)
  have h3 : W1.heap[Z4.heap.size + 1 + 1]? = some (.cells #[.slice (some ⟨Z4.heap.size, 0, none⟩) 3 3, .slice (some ⟨Z4.heap.size + 1, 0, none⟩) 3 3] 27 (0, 0)) := by subst hW; exact heap_new _ _ _ (by simp)
  clear hW
  have hf : SeesF W1 va 2 vc ss [[0, 1, 0], [0, 2, 1]] := by
    have hz := ext_trans CZ4.out hb
    obtain ⟨hl, ho, hr⟩ := HR.out
    refine ⟨(owns_sees_slice ho).2.below hz, hl, fun k hk => ?_⟩
    match k, hk with
    | 0, _ =>
      have h := hr 0 (by rw [HL2.out]; omega)
      rw [ex_v0] at h
      exact (row_sees_slice h).2.below hz
    | 1, _ =>
      have h := hr 1 (by rw [HL2.out]; omega)
      rw [ex_v1] at h
      exact (row_sees_slice h).2.below hz
    | k + 2, h => exact absurd h (by simp)
  have hg : SeesF W1 (some ⟨Z4.heap.size + 1 + 1, 0, none⟩) 2 2 [(some ⟨Z4.heap.size, 0, none⟩, 3, 3), (some ⟨Z4.heap.size + 1, 0, none⟩, 3, 3)] [[0, 1, 0], [0, 2, 1]] := by
    refine ⟨sees_cells h3 _ 2 rfl rfl, rfl, fun k hk => ?_⟩
    match k, hk with
    | 0, _ => exact sees_cells h1 [bv 0, bv 1, bv 0] 3 rfl rfl
    | 1, _ => exact sees_cells h2 [bv 0, bv 2, bv 1] 3 rfl rfl
    | k + 2, h => exact absurd h (by simp)
  have HB := Lib.hid (ext_trans BZ4.out hb)
  refine (tables_any _ _ ss _ va _ 2 vc 2 2 W1 hf hg (by omega)).mono ?_
  rintro e W2 ⟨rfl, hb2⟩
  have HB2 := Lib.hid (ext_trans HB.out hb2)
  clear h1 h2 h3 hf hg hb hb2
  go_wp2
  go_ret
  exact ⟨rfl, HB2.out⟩
end Go.Proofs.Ytjmdgbdlhaaefaa
