/- The law's great, and its own examples hold. -/
import Derived.Test.YtgpkghlhlabjcaaLib
import Derived.Test.YtgpkghlhlabjcaaRows
import Derived.BigQuiet
import Derived.Deep.QuietTactic
import Derived.Deep.RegionWith
import Derived.Lib.ConvBytes
import Derived.Lib.Hide
import Derived.Lib.SlBytesRow
import Derived.Lib.SmallJoins
import Derived.Shelf.Bytes.SlSmallAll
import Derived.WalkKit
import Derived.WalkLawsBesides
import Derived.WalkSpells
import Derived.Test.YtgpkghlhlabjcaaNBase
import Derived.Test.YtgpkghlhlabjcaaNTrace
import Derived.Deep.AppendLies
import Derived.Deep.RegionLaw
import Derived.KernelRfl
import Derived.Laws.EntriesVeiled
import Derived.Test.YtgpkghlhlabjcaaNSpec
import Derived.Test.YtgpkghlhlabjcaaNCirc
import Derived.Test.YtgpkghlhlabjcaaNHeap
import Derived.Test.YtgpkghlhlabjcaaSRun
import Derived.Test.YtgpkghlhlabjcaaSSurely
import Derived.Test.YtgpkghlhlabjcaaLpE
import Derived.Test.YtgpkghlhlabjcaaShelf
import Derived.Deep.CutRange
import Derived.Deep.RegionHeld3
import Derived.Laws.Bits64b
import Derived.Laws.BitsAllLaws
import Derived.Laws.BitsLemmas
import Derived.Laws.Tables
import Derived.Lib.AppendStr
import Derived.Lib.AppendZeros
import Derived.LoopIn
import Derived.LoopNIn
import Derived.Maps.AppendAt
import Derived.OrdersHeld
import Derived.OrdersIn
import Derived.OwnWalkIn
import Derived.RangeFuncBox
import Derived.RangeFuncCalls
import Derived.RangeFuncLeaves
import Derived.RangeFuncNested
import Derived.RangeFuncWrites
import Derived.Shelf.Abstract
import Derived.Shelf.RegionOpen
import Derived.Sort.CutIn
import Derived.Stop.RegionWithIn
import Derived.TacticsInMore
import Derived.Test.YtgpkghlhlabjcaaNVal
import Derived.Test.YtgpkghlhlabjcaaNOwns
import Derived.Test.YtgpkghlhlabjcaaTBits
import Derived.Test.YtgpkghlhlabjcaaLpA
import Derived.BigRegion
import Derived.Maps.Own
import Derived.Maps.OwnOps
import Derived.Maps.OwnSet
/- inquestref00.Bytes, by its contract. -/
namespace Go.Proofs.Ytgpkghlhlabjcaa
open Go Go.RowKit

set_option maxRecDepth 100000 in
set_option maxHeartbeats 400000 in
theorem bytes_any (bs cs : List UInt8) (a a' : Option Addr) (n c n' c' : Nat) (w : World) (h : Sees w a n c (bs.map bv)) (h' : Sees w a' n' c' (cs.map bv)) :
    Calls Try.prog 20 #[.slice a n c, .slice a' n' c'] w fun e w' => e = .returned (.bool (bs == cs)) ∧ w = w' := by
  have q1 := h.str (P := Try.prog) 27 5 9 Try.underlying27 Try.underlying5 Try.underlying9
  have q2 := h'.str (P := Try.prog) 27 5 9 Try.underlying27 Try.underlying5 Try.underlying9
  clear h h'
  go_enter Try.func20, Try.ntmps20
  go_wp2
  go_ret
  exact ⟨by simp [str], rfl⟩
end Go.Proofs.Ytgpkghlhlabjcaa
/- inquestref00.Tables, inquestref03.SameTrace: are two traces the same? -/
namespace Go.Proofs.Ytgpkghlhlabjcaa
open Go Go.RowKit Go.Joins

theorem info_tab : (Try.prog.info? 27).map (fun i => (i.zero, i.size, i.bytes)) = some (some (.slice none 0 0), 1, 24) := by kernel_rfl
theorem size_tab : ∀ w, (sizeOf 27).run Try.prog w = .ok 1 w := fun w => by
  obtain ⟨i0, hi, hz0, hz1, hz2⟩ := info_parts info_tab
  simp [sizeOf, typeInfo, hi, hz1]
theorem Sees.slice_at {w : World} {b off n c : Nat} {ss : List Slc} (h : Sees w (some ⟨b, off, .none⟩) n c (ss.map slV)) (j : Nat) (hj : j < n) :
    w.cell? ⟨b, off + j, .none⟩ = some (.slice (ss.getD j slc0).1 (ss.getD j slc0).2.1 (ss.getD j slc0).2.2) := by
  have hl : ss.length = n := h.lenMap
  rw [(h.cell j hj).2]
  simp [slV, List.getD, List.getElem?_eq_getElem (show j < ss.length by omega)]
theorem bytes_at (bs cs : List UInt8) (a a' : Option Addr) (n c n' c' : Nat) (w : World) (h : Sees w a n c (bs.map bv)) (h' : Sees w a' n' c' (cs.map bv)) :
    Calls Try.prog 20 #[.slice a n c, .slice a' n' c'] w fun e w' => e = .returned (.bool (decide (bs = cs))) ∧ w' = w := by
  refine (bytes_any bs cs a a' n c n' c' w h h').mono fun e w' hp => ?_
  obtain ⟨h1, rfl⟩ := hp
  exact ⟨by rw [show decide (bs = cs) = (bs == cs) by by_cases e : bs = cs <;> simp [e]]; exact h1, rfl⟩

/-- Where k lines have been held against each other. -/
structure TabI (w : World) (ss ss' : List Slc) (fs gs : List (List UInt8)) (n k : Nat) (a1 : Option Addr) (c1 : Nat) (a2 : Option Addr) (c2 : Nat) (wr : World) : Prop where
  s1 : Sees wr a1 (n - k) c1 ((ss.drop k).map slV)
  s2 : Sees wr a2 (n - k) c2 ((ss'.drop k).map slV)
  eq : ∀ j, j < k → fs.getD j [] = gs.getD j []
  bel : Below w.heap.size w wr
def slenT : Value → Nat | .slice _ m _ => m | _ => 0

set_option maxRecDepth 100000 in
set_option maxHeartbeats 1600000 in
theorem tables_any (fs gs : List (List UInt8)) (ss ss' : List Slc) (a a' : Option Addr) (n c n' c' : Nat) (w : World) (h : SeesF w a n c ss fs) (h' : SeesF w a' n' c' ss' gs) (hn : n ≤ 1048576) :
    Calls Try.prog 10 #[.slice a n c, .slice a' n' c'] w fun e w' => e = .returned (.bool (decide (fs = gs))) ∧ Below w.heap.size w w' := by
  have hl := h.n_eq
  have hl' := h'.n_eq
  obtain ⟨q, hq⟩ : ∃ q, q = decide (fs = gs) := ⟨_, rfl⟩
  have NO : fs ≠ gs → q = false := fun h => by rw [hq]; simpa using h
  rw [← hq]
  by_cases hne : n = n'
  · subst hne
    have YES : (∀ j, j < n → fs.getD j [] = gs.getD j []) → q = true := fun h => by
      rw [hq, decide_eq_true_eq]
      apply List.ext_getElem (by omega)
      intro i h1 h2
      have := h i (by omega)
      simpa [List.getD, List.getElem?_eq_getElem h1, List.getElem?_eq_getElem h2] using this
    have H := Lib.hid h
    have H' := Lib.hid h'
    have HL := Lib.hid hl
    have HL' := Lib.hid hl'
    have HNO := Lib.hid NO
    have HYES := Lib.hid YES
    clear h h' hl hl' NO YES hq
    go_enter Try.func10, Try.ntmps10
    go_wp2
    go_loopw [0, 1] (fun a b wr => ∃ (k : Nat) (a1 : Option Addr) (c1 : Nat) (a2 : Option Addr) (c2 : Nat), k ≤ n ∧ a = .slice a1 (n - k) c1 ∧ b = .slice a2 (n - k) c2 ∧ Hid (TabI w ss ss' fs gs n k a1 c1 a2 c2 wr))
      (fun a _ _ => slenT a)
    case atStart => exact ⟨0, _, _, _, _, Nat.zero_le _, rfl, rfl, ⟨H.out.row, H'.out.row, fun j hj => absurd hj (by omega), Below.refl _ _⟩⟩
    case round =>
      obtain ⟨k, a1, c1, a2, c2, hk, rfl, rfl, hI⟩ := hrel
      obtain ⟨s1, s2, heq, hbel⟩ := hI.out
      clear hI
      by_cases hlt : k < n
      · obtain ⟨b1, o1, rfl, _⟩ := s1.addr (by omega)
        obtain ⟨b2, o2, rfl, _⟩ := s2.addr (by omega)
        obtain ⟨x, hx⟩ : ∃ x : Slc, x = ss.getD k slc0 := ⟨_, rfl⟩
        obtain ⟨y, hy⟩ : ∃ y : Slc, y = ss'.getD k slc0 := ⟨_, rfl⟩
        have hsx := (H.out.below hbel).each k (by rw [HL.out]; exact hlt)
        have hsy := (H'.out.below hbel).each k (by rw [HL'.out]; exact hlt)
        rw [← hx] at hsx
        rw [← hy] at hsy
        have hc1 : wr.cell? ⟨b1, o1, none⟩ = some (.slice x.1 x.2.1 x.2.2) := by
          have := s1.slice_at 0 (by omega)
          rw [hx, ← show (ss.drop k).getD 0 slc0 = ss.getD k slc0 by simp [List.getD]]
          exact this
        have hc2 : wr.cell? ⟨b2, o2, none⟩ = some (.slice y.1 y.2.1 y.2.2) := by
          have := s2.slice_at 0 (by omega)
          rw [hy, ← show (ss'.drop k).getD 0 slc0 = ss'.getD k slc0 by simp [List.getD]]
          exact this
        obtain ⟨xa, xn, xc⟩ := x
        obtain ⟨ya, yn, yc⟩ := y
        simp only at hsx hsy hc1 hc2
        obtain ⟨p, hp⟩ : ∃ p, p = decide (fs.getD k [] = gs.getD k []) := ⟨_, rfl⟩
        have HCALL : Hid (∀ m, Calls Try.prog 20 #[.slice xa xn xc, .slice ya yn yc] (wr.drewN m) fun e w' => e = .returned (.bool p) ∧ w' = wr.drewN m) := fun m => by
          rw [hp]
          exact bytes_at _ _ xa ya xn xc yn yc (wr.drewN m) (hsx.below (ext_drewN wr m)) (hsy.below (ext_drewN wr m))
        obtain ⟨a3, ec3, see3⟩ := s1.cut 1 (n - k) (by omega) (Nat.le_refl _)
        obtain ⟨a4, ec4, see4⟩ := s2.cut 1 (n - k) (by omega) (Nat.le_refl _)
        have q1 := fun W => (run_from (P := Try.prog) Try.underlying28 size_tab W (some ⟨b1, o1, none⟩) (n - k) c1 1 1 rfl (by omega)).trans (congrArg (fun v => Result.ok v W) ec3)
        have q2 := fun W => (run_from (P := Try.prog) Try.underlying28 size_tab W (some ⟨b2, o2, none⟩) (n - k) c2 1 1 rfl (by omega)).trans (congrArg (fun v => Result.ok v W) ec4)
        have S3 : Hid (Sees wr a3 (n - (k + 1)) (c1 - 1) ((ss.drop (k + 1)).map slV)) := by
          have e : (List.map slV (ss.drop k)).take (n - k) = List.map slV (ss.drop k) := List.take_of_length_le (by rw [s1.len]; exact Nat.le_refl _)
          rw [e, ← List.map_drop, List.drop_drop] at see3
          exact see3
        have S4 : Hid (Sees wr a4 (n - (k + 1)) (c2 - 1) ((ss'.drop (k + 1)).map slV)) := by
          have e : (List.map slV (ss'.drop k)).take (n - k) = List.map slV (ss'.drop k) := List.take_of_length_le (by rw [s2.len]; exact Nat.le_refl _)
          rw [e, ← List.map_drop, List.drop_drop] at see4
          exact see4
        have HP := Lib.hid hp
        have HBL := Lib.hid hbel
        have HEQ := Lib.hid heq
        have hpos : (0 : Int) < ((n - k : Nat) : Int) := by omega
        clear ec3 ec4 see3 see4 hx hy hp heq s1 s2 hsx hsy hbel
        cases p with
        | true =>
          go_wp2
          go_quiet ((go_at_call 20; exact Calls.quiet_of_same (HCALL.out _)))
          go_wp2
          go_quiet (fail)
          go_wp2
          go_roundw
          case rel =>
            refine ⟨k + 1, _, _, _, _, by omega, rfl, rfl, ⟨S3.out.below (ext_trans (ext_drewN _ _) (ext_drewN _ _)), S4.out.below (ext_trans (ext_drewN _ _) (ext_drewN _ _)), fun j hj => ?_, ext_trans HBL.out (ext_trans (ext_drewN _ _) (ext_drewN _ _))⟩⟩
            rcases Nat.lt_or_ge j k with h | h
            · exact HEQ.out j h
            · have : j = k := by omega
              subst this
              exact of_decide_eq_true HP.out.symm
          case measure => simp [slenT]; omega
        | false =>
          have HF : Hid (q = false) := HNO.out fun e => by
            have := HP.out
            rw [e] at this
            simp at this
          go_wp2
          go_quiet ((go_at_call 20; exact Calls.quiet_of_same (HCALL.out _)))
          go_wp2
          go_ret
          exact ⟨by rw [HF.out]; rfl, ext_trans HBL.out (ext_drewN _ _)⟩
      · have hkn : k = n := by omega
        subst hkn
        have HT : Hid (q = true) := HYES.out heq
        have HBL := Lib.hid hbel
        clear heq s1 s2 hbel
        go_wp2
        go_ret
        exact ⟨by rw [HT.out]; rfl, HBL.out⟩
  · have hb : ((n : Int) != (n' : Int)) = true := by simp; omega
    have hb' : ((n : Int) == (n' : Int)) = false := by simp; omega
    have HF : Hid (q = false) := NO fun e => hne (by rw [← hl, ← hl', e])
    clear h h' hl hl' NO hq hne
    go_enter Try.func10, Try.ntmps10
    go_wp2
    go_ret
    exact ⟨by rw [HF.out]; rfl, Below.refl _ _⟩

set_option maxRecDepth 100000 in
set_option maxHeartbeats 1600000 in
theorem sametr_any (t u : TraceC) (s s' : TSlots) (w : World) (h : SeesTr w s t) (h' : SeesTr w s' u) (hs : s.small) (hb1 : -9223372036854775808 ≤ t.bad ∧ t.bad < 9223372036854775808) (hb2 : -9223372036854775808 ≤ u.bad ∧ u.bad < 9223372036854775808) :
    Calls Try.prog 16 #[traceV t.bad s, traceV u.bad s'] w fun e w' => e = .returned (.bool (decide (t = u))) ∧ Below w.heap.size w w' := by
  obtain ⟨a1, n1, c1, a2, n2, c2, ss⟩ := s
  obtain ⟨a1', n1', c1', a2', n2', c2', ss'⟩ := s'
  obtain ⟨z, init, fs⟩ := t
  obtain ⟨z', init', fs'⟩ := u
  have hn2 := hs.n2
  simp only at hn2 hb1 hb2
  obtain ⟨q, hq⟩ : ∃ q, q = decide ((⟨z, init, fs⟩ : TraceC) = ⟨z', init', fs'⟩) := ⟨_, rfl⟩
  have hiff : q = (decide (z = z') && (decide (init = init') && decide (fs = fs'))) := by
    rw [hq]
    by_cases e1 : z = z' <;> by_cases e2 : init = init' <;> by_cases e3 : fs = fs' <;> simp [e1, e2, e3]
  rw [← hq]
  have EB : Hid (∀ W, Below w.heap.size w W → Calls Try.prog 20 #[.slice a1 n1 c1, .slice a1' n1' c1'] W fun e w' => e = .returned (.bool (decide (init = init'))) ∧ w' = W) := fun W hb => bytes_at _ _ a1 a1' n1 c1 n1' c1' W (h.s1.below hb) (h'.s1.below hb)
  have ET : Hid (∀ W, Below w.heap.size w W → Calls Try.prog 10 #[.slice a2 n2 c2, .slice a2' n2' c2'] W fun e w' => e = .returned (.bool (decide (fs = fs'))) ∧ Below W.heap.size W w') := fun W hb => tables_any fs fs' ss ss' a2 a2' n2 c2 n2' c2' W (h.s2.below hb) (h'.s2.below hb) hn2
  obtain ⟨q2, hq2⟩ : ∃ q, q = decide (init = init') := ⟨_, rfl⟩
  obtain ⟨q3, hq3⟩ : ∃ q, q = decide (fs = fs') := ⟨_, rfl⟩
  rw [← hq2] at EB hiff
  rw [← hq3] at ET hiff
  have HI := Lib.hid hiff
  clear hq hq2 hq3 hiff h h' hs
  unfold traceV
  by_cases h0 : z = z'
  case neg =>
    have e0 : (z == z') = false := by simpa using h0
    have HF : Hid (q = false) := by show _ = _; rw [HI.out]; simp [h0]
    clear h0
    go_enter Try.func16, Try.ntmps16
    go_wp2
    go_ret
    exact ⟨by rw [HF.out]; rfl, ext_trans (ext_alloc _ _) (ext_alloc _ _)⟩
  subst h0
  have HQ : Hid (q = (q2 && q3)) := by show _ = _; rw [HI.out]; simp
  clear HI
  go_enter Try.func16, Try.ntmps16
  go_wp2_with fail
  refine (EB.out _ (ext_trans (ext_alloc _ _) (ext_alloc _ _))).mono ?_
  rintro e W1 ⟨rfl, rfl⟩
  cases q2 with
  | false =>
    go_wp2
    go_ret
    exact ⟨by rw [HQ.out]; rfl, ext_trans (ext_alloc _ _) (ext_alloc _ _)⟩
  | true =>
    go_wp2_with fail
    refine (ET.out _ (ext_trans (ext_alloc _ _) (ext_alloc _ _))).mono ?_
    rintro e W2 ⟨rfl, hb⟩
    have HB := Lib.hid (ext_trans (ext_trans (ext_alloc _ _) (ext_alloc _ _)) hb)
    clear hb
    go_wp2
    go_ret
    exact ⟨by rw [HQ.out]; simp, HB.out⟩
end Go.Proofs.Ytgpkghlhlabjcaa
/- The law's great, and its own examples. -/
namespace Go.Proofs.Ytgpkghlhlabjcaa
open Go Go.RowKit Go.Joins

theorem sees_cells {w : World} {g : Nat} {C : Array Value} {t : TypeId} {fr : Nat × Nat} (h : w.heap[g]? = some (.cells C t fr)) (xs : List Value) (n : Nat) (hC : C = xs.toArray) (hn : xs.length = n) : Sees w (some ⟨g, 0, none⟩) n n xs := by
  subst hC
  refine ⟨hn, Nat.le_refl _, (fun e => by cases e), fun _ => ⟨g, 0, rfl, heap_lt h, fun j hj => ?_⟩⟩
  rw [cell_of_block h]
  simp
def great7 (c : NormC) (t : TraceC) : Bool := decide (2000 < c.ins) || (decide (300 < c.lats.length) || (decide (300 < c.gates.length) || (decide (300 < c.cons.length) || decide (300 < t.frames.length))))
/-- The circuit of the examples. -/
def oneC : NormC := ⟨1, [(2, 2)], [], [], [4], []⟩
def trC (a b c : UInt8) : TraceC := ⟨0, [a], [[b], [c]]⟩

theorem ex_fits : fitsS oneC (trC 0 1 2) = true := by kernel_rfl
theorem ex_v0 : varsAt oneC (trC 0 1 2) 0 = [0, 1, 0] := by kernel_rfl
theorem ex_v1 : varsAt oneC (trC 0 1 2) 1 = [0, 2, 1] := by kernel_rfl
theorem ex_f : failsE oneC (trC 0 1 2) = .returned (.tuple #[.bool true, .int .i64 0]) := by
  unfold failsE; rw [if_pos (by kernel_rfl)]; rfl
theorem ex_s1 : surelyE oneC (trC 0 1 2) = .returned (.tuple #[.int .u8 1, .int .i64 0]) := by
  unfold surelyE; rw [if_pos (by kernel_rfl)]; rfl
theorem ex_s2 : surelyE oneC (trC 2 0 0) = .returned (.tuple #[.int .u8 0, .int .i64 0]) := by
  unfold surelyE; rw [if_pos (by kernel_rfl)]; rfl
theorem ex_s3 : surelyE oneC (trC 2 2 2) = .returned (.tuple #[.int .u8 2, .int .i64 0]) := by
  unfold surelyE; rw [if_pos (by kernel_rfl)]; rfl
end Go.Proofs.Ytgpkghlhlabjcaa
namespace Go.Proofs.Ytgpkghlhlabjcaa
open Go Go.RowKit Go.Joins

def great8 (c : NormC) (t : TraceC) : Bool := decide (2000 < c.ins) || (decide (300 < c.lats.length) || (decide (300 < c.gates.length) || (decide (300 < c.cons.length) || decide (300 < t.frames.length))))
set_option maxRecDepth 100000 in
set_option maxHeartbeats 3200000 in
theorem great8_any (c : NormC) (t : TraceC) (s : CSlots) (st : TSlots) (w : World) (h : SeesCir w s c) (ht : SeesTr w st t) :
    Calls Try.prog 5 #[cirV c.ins s, traceV t.bad st] w fun e w' => e = .returned (.bool (great8 c t)) ∧ Below w.heap.size w w' := by
  obtain ⟨a1, n1, c1, a2, n2, c2, a3, n3, c3, a4, n4, c4, a5, n5, c5⟩ := s
  obtain ⟨b1, m1, d1, b2, m2, d2, ss⟩ := st
  have l1 : c.lats.length = n1 := h.s1.1
  have l2 : c.gates.length = n2 := h.s2.1
  have l5 : c.cons.length = n5 := h.s5.lenMap
  have l6 : t.frames.length = m2 := ht.s2.n_eq
  obtain ⟨z, hz⟩ : ∃ z, z = c.ins := ⟨_, rfl⟩
  obtain ⟨y, hy⟩ : ∃ y, y = t.bad := ⟨_, rfl⟩
  have HE : Hid (great8 c t = (decide (2000 < z) || (decide (300 < n1) || (decide (300 < n2) || (decide (300 < n5) || decide (300 < m2)))))) := by
    show _ = _; unfold great8; rw [l1, l2, l5, l6, ← hz]
  rw [← hz, ← hy]
  clear l1 l2 l5 l6 hz hy h ht
  unfold cirV traceV
  go_enter Try.func5, Try.ntmps5
  go_upto_region 1 with fail
  generalize hW : World.alloc (World.alloc w _) _ = W1
  have hb : Below w.heap.size w W1 := by subst hW; exact ext_trans (ext_alloc _ _) (ext_alloc _ _)
  have hx : W1.heap[w.heap.size]? = some (.cells #[.int .i64 z, .slice a1 n1 c1, .slice a2 n2 c2, .slice a3 n3 c3, .slice a4 n4 c4, .slice a5 n5 c5] 26 (0, 0)) := by subst hW; exact heap_below (heap_new _ _ _ rfl) (ext_alloc _ _)
  have ht : W1.heap[w.heap.size + 1]? = some (.cells #[.int .i64 y, .slice b1 m1 d1, .slice b2 m2 d2] 30 (0, 0)) := by subst hW; exact heap_new _ _ _ (by simp)
  have HB := Lib.hid hb
  have p0 := cell_of_block hx 0
  have p1 := cell_of_block hx 1
  have p2 := cell_of_block hx 2
  have p5 := cell_of_block hx 5
  have r2 := cell_of_block ht 2
  clear hW hb hx ht
  by_cases t1 : 2000 < z
  · have e1 : decide ((2000 : Int) < z) = true := by simpa using t1
    have HF : Hid (great8 c t = true) := by show _ = _; rw [HE.out, e1]; rfl
    go_wp2
    go_ret
    exact ⟨by rw [HF.out]; rfl, HB.out⟩
  have e1 : decide ((2000 : Int) < z) = false := by simpa using t1
  by_cases t2 : 300 < n1
  · have e2 : decide ((300 : Int) < (n1 : Int)) = true := by simp; omega
    have HF : Hid (great8 c t = true) := by show _ = _; rw [HE.out, decide_eq_true t2]; simp
    go_wp2
    go_ret
    exact ⟨by rw [HF.out]; rfl, HB.out⟩
  have e2 : decide ((300 : Int) < (n1 : Int)) = false := by simp; omega
  by_cases t3 : 300 < n2
  · have e3 : decide ((300 : Int) < (n2 : Int)) = true := by simp; omega
    have HF : Hid (great8 c t = true) := by show _ = _; rw [HE.out, decide_eq_true t3]; simp
    go_wp2
    go_ret
    exact ⟨by rw [HF.out]; rfl, HB.out⟩
  have e3 : decide ((300 : Int) < (n2 : Int)) = false := by simp; omega
  by_cases t4 : 300 < n5
  · have e4 : decide ((300 : Int) < (n5 : Int)) = true := by simp; omega
    have HF : Hid (great8 c t = true) := by show _ = _; rw [HE.out, decide_eq_true t4]; simp
    go_wp2
    go_ret
    exact ⟨by rw [HF.out]; rfl, HB.out⟩
  have e4 : decide ((300 : Int) < (n5 : Int)) = false := by simp; omega
  have e5 : decide ((300 : Int) < (m2 : Int)) = decide (300 < m2) := decide_eq_decide.2 (by omega)
  have HF : Hid (great8 c t = decide (300 < m2)) := by show _ = _; rw [HE.out, e1, decide_eq_false t2, decide_eq_false t3, decide_eq_false t4]; rfl
  obtain ⟨q, hq⟩ : ∃ q, q = decide (300 < m2) := ⟨_, rfl⟩
  rw [← hq] at e5 HF
  clear hq
  go_wp2
  go_ret
  exact ⟨by rw [HF.out]; rfl, HB.out⟩

/-- The circuit and the trace of the examples. -/
def oneD : NormC := ⟨1, [(2, 0)], [], [], [4], []⟩
def trD : TraceC := ⟨0, [0], [[0], [0], [1], [1]]⟩
theorem ey_fits : fitsS oneD trD = true := by kernel_rfl
theorem ey_sts : statesO oneD trD = [[0], [0], [0], [1]] := by kernel_rfl
theorem ey_again : againE (statesO oneD trD) = .returned (.tuple #[.int .i64 0, .int .i64 2, .bool true]) := by kernel_rfl
theorem ey_cut : cutO oneD trD = (⟨0, [0], [[1], [1]]⟩, [2, 3], 0) := by kernel_rfl

set_option maxRecDepth 100000 in
set_option maxHeartbeats 6400000 in
theorem lives8_any (w : World) : Calls Try.prog 6 #[] w fun e w' => e = .returned (.bool true) ∧ Below w.heap.size w w' := by
  go_enter Try.func6, Try.ntmps6
  go_upto_region 3 with fail
  generalize hW : World.alloc (World.alloc (World.alloc (World.alloc (World.alloc (World.alloc (World.alloc (World.alloc (World.alloc (World.alloc w _) _) _) _) _) _) _) _) _) _ = W1
  have hb : Below w.heap.size w W1 := by subst hW; exact ext_trans (ext_alloc _ _) (ext_trans (ext_alloc _ _) (ext_trans (ext_alloc _ _) (ext_trans (ext_alloc _ _) (ext_trans (ext_alloc _ _) (ext_trans (ext_alloc _ _) (ext_trans (ext_alloc _ _) (ext_trans (ext_alloc _ _) (ext_trans (ext_alloc _ _) (ext_alloc _ _)))))))))
  have h0 : W1.heap[w.heap.size]? = some (.cells #[.int .u32 2, .int .u8 0] 51 (0, 0)) := by subst hW; exact heap_below (heap_below (heap_below (heap_below (heap_below (heap_below (heap_below (heap_below (heap_below (heap_new _ _ _ rfl) (ext_alloc _ _)) (ext_alloc _ _)) (ext_alloc _ _)) (ext_alloc _ _)) (ext_alloc _ _)) (ext_alloc _ _)) (ext_alloc _ _)) (ext_alloc _ _)) (ext_alloc _ _)
  have h1 : W1.heap[w.heap.size + 1]? = some (.cells #[.int .u32 4] 49 (0, 0)) := by subst hW; exact heap_below (heap_below (heap_below (heap_below (heap_below (heap_below (heap_below (heap_below (heap_new _ _ _ (by simp)) (ext_alloc _ _)) (ext_alloc _ _)) (ext_alloc _ _)) (ext_alloc _ _)) (ext_alloc _ _)) (ext_alloc _ _)) (ext_alloc _ _)) (ext_alloc _ _)
  have h2 : W1.heap[w.heap.size + 1 + 1]? = some (.cells #[.int .i64 1, .slice (some ⟨w.heap.size, 0, none⟩) 1 1, .slice none 0 0, .slice none 0 0, .slice (some ⟨w.heap.size + 1, 0, none⟩) 1 1, .slice none 0 0] 26 (0, 0)) := by subst hW; exact heap_below (heap_below (heap_below (heap_below (heap_below (heap_below (heap_below (heap_new _ _ _ (by simp)) (ext_alloc _ _)) (ext_alloc _ _)) (ext_alloc _ _)) (ext_alloc _ _)) (ext_alloc _ _)) (ext_alloc _ _)) (ext_alloc _ _)
  have h3 : W1.heap[w.heap.size + 1 + 1 + 1]? = some (.cells #[.int .u8 0] 5 (0, 0)) := by subst hW; exact heap_below (heap_below (heap_below (heap_below (heap_below (heap_below (heap_new _ _ _ (by simp)) (ext_alloc _ _)) (ext_alloc _ _)) (ext_alloc _ _)) (ext_alloc _ _)) (ext_alloc _ _)) (ext_alloc _ _)
  have h4 : W1.heap[w.heap.size + 1 + 1 + 1 + 1]? = some (.cells #[.int .u8 0] 5 (0, 0)) := by subst hW; exact heap_below (heap_below (heap_below (heap_below (heap_below (heap_new _ _ _ (by simp)) (ext_alloc _ _)) (ext_alloc _ _)) (ext_alloc _ _)) (ext_alloc _ _)) (ext_alloc _ _)
  have h5 : W1.heap[w.heap.size + 1 + 1 + 1 + 1 + 1]? = some (.cells #[.int .u8 0] 5 (0, 0)) := by subst hW; exact heap_below (heap_below (heap_below (heap_below (heap_new _ _ _ (by simp)) (ext_alloc _ _)) (ext_alloc _ _)) (ext_alloc _ _)) (ext_alloc _ _)
  have h6 : W1.heap[w.heap.size + 1 + 1 + 1 + 1 + 1 + 1]? = some (.cells #[.int .u8 1] 5 (0, 0)) := by subst hW; exact heap_below (heap_below (heap_below (heap_new _ _ _ (by simp)) (ext_alloc _ _)) (ext_alloc _ _)) (ext_alloc _ _)
  have h7 : W1.heap[w.heap.size + 1 + 1 + 1 + 1 + 1 + 1 + 1]? = some (.cells #[.int .u8 1] 5 (0, 0)) := by subst hW; exact heap_below (heap_below (heap_new _ _ _ (by simp)) (ext_alloc _ _)) (ext_alloc _ _)
  have h8 : W1.heap[w.heap.size + 1 + 1 + 1 + 1 + 1 + 1 + 1 + 1]? = some (.cells #[.slice (some ⟨w.heap.size + 1 + 1 + 1 + 1, 0, none⟩) 1 1, .slice (some ⟨w.heap.size + 1 + 1 + 1 + 1 + 1, 0, none⟩) 1 1, .slice (some ⟨w.heap.size + 1 + 1 + 1 + 1 + 1 + 1, 0, none⟩) 1 1, .slice (some ⟨w.heap.size + 1 + 1 + 1 + 1 + 1 + 1 + 1, 0, none⟩) 1 1] 27 (0, 0)) := by subst hW; exact heap_below (heap_new _ _ _ (by simp)) (ext_alloc _ _)
  have h9 : W1.heap[w.heap.size + 1 + 1 + 1 + 1 + 1 + 1 + 1 + 1 + 1]? = some (.cells #[.int .i64 0, .slice (some ⟨w.heap.size + 1 + 1 + 1, 0, none⟩) 1 1, .slice (some ⟨w.heap.size + 1 + 1 + 1 + 1 + 1 + 1 + 1 + 1, 0, none⟩) 4 4] 30 (0, 0)) := by subst hW; exact heap_new _ _ _ (by simp)
  clear hW
  obtain ⟨sC, hC⟩ : ∃ s : CSlots, s = ⟨some ⟨w.heap.size, 0, none⟩, 1, 1, none, 0, 0, none, 0, 0, some ⟨w.heap.size + 1, 0, none⟩, 1, 1, none, 0, 0⟩ := ⟨_, rfl⟩
  obtain ⟨sT, hT⟩ : ∃ s : TSlots, s = ⟨some ⟨w.heap.size + 1 + 1 + 1, 0, none⟩, 1, 1, some ⟨w.heap.size + 1 + 1 + 1 + 1 + 1 + 1 + 1 + 1, 0, none⟩, 4, 4, [(some ⟨w.heap.size + 1 + 1 + 1 + 1, 0, none⟩, 1, 1), (some ⟨w.heap.size + 1 + 1 + 1 + 1 + 1, 0, none⟩, 1, 1), (some ⟨w.heap.size + 1 + 1 + 1 + 1 + 1 + 1, 0, none⟩, 1, 1), (some ⟨w.heap.size + 1 + 1 + 1 + 1 + 1 + 1 + 1, 0, none⟩, 1, 1)]⟩ := ⟨_, rfl⟩
  have hsC : SeesCir W1 sC oneD := by
    subst hC
    refine ⟨⟨rfl, Nat.le_refl _, ?_⟩, Sees2.nil _ _, Sees.nil _ _ _ (fun _ => rfl), ?_, Sees.nil _ _ _ (fun _ => rfl)⟩
    · exact sees_cells h0 [.int .u32 2, .int .u8 0] 2 rfl rfl
    · exact sees_cells h1 [.int .u32 4] 1 rfl rfl
  have hmC : sC.small := by subst hC; exact ⟨by show (1 : Nat) ≤ 1048576; omega, Nat.zero_le _, Nat.zero_le _, by show (1 : Nat) ≤ 1048576; omega, Nat.zero_le _⟩
  have hsT : SeesTr W1 sT trD := by
    subst hT
    refine ⟨sees_cells h3 [bv 0] 1 rfl rfl, ⟨sees_cells h8 _ 4 rfl rfl, rfl, fun k hk => ?_⟩⟩
    match k, hk with
    | 0, _ => exact sees_cells h4 [bv 0] 1 rfl rfl
    | 1, _ => exact sees_cells h5 [bv 0] 1 rfl rfl
    | 2, _ => exact sees_cells h6 [bv 1] 1 rfl rfl
    | 3, _ => exact sees_cells h7 [bv 1] 1 rfl rfl
    | k + 4, h => exact absurd h (by simp [trD])
  have hmT : sT.small := by
    subst hT
    refine ⟨by show (1 : Nat) ≤ 1048576; omega, by show (4 : Nat) ≤ 1048576; omega, fun v hv => ?_⟩
    simp only [List.mem_cons, List.not_mem_nil, or_false] at hv
    rcases hv with rfl | rfl | rfl | rfl <;> (show (1 : Nat) ≤ 1048576; omega)
  have HSTS : Hid (∀ W, Below W1.heap.size W1 W → Calls Try.prog 8 #[.agg #[.int .i64 1, .slice (some ⟨w.heap.size, 0, none⟩) 1 1, .slice none 0 0, .slice none 0 0, .slice (some ⟨w.heap.size + 1, 0, none⟩) 1 1, .slice none 0 0], .agg #[.int .i64 0, .slice (some ⟨w.heap.size + 1 + 1 + 1, 0, none⟩) 1 1, .slice (some ⟨w.heap.size + 1 + 1 + 1 + 1 + 1 + 1 + 1 + 1, 0, none⟩) 4 4]] W fun e W' => ∃ (a : Option Addr) (cc : Nat) (ss : List Slc), e = .returned (.tuple #[.slice a 4 cc, .int .i64 0]) ∧ SeesF W' a 4 cc ss [[0], [0], [0], [1]] ∧ Below W.heap.size W W') := by
    intro W hb
    have h := states_any oneD trD sC sT W (hsC.below hb) (hsT.below hb) hmC hmT (by decide) (by decide) (by decide)
    rw [hC, hT] at h
    refine h.mono ?_
    rintro e W' ⟨a, n, cc, ss, h1, h2, h3⟩
    rw [ey_sts] at h2
    rw [ey_fits] at h1
    have hn : n = 4 := h2.len.symm
    subst hn
    exact ⟨a, cc, ss, h1, h2.sees, h3⟩
  have HAG : Hid (∀ W, Below W1.heap.size W1 W → Calls Try.prog 12 #[.agg #[.int .i64 1, .slice (some ⟨w.heap.size, 0, none⟩) 1 1, .slice none 0 0, .slice none 0 0, .slice (some ⟨w.heap.size + 1, 0, none⟩) 1 1, .slice none 0 0], .agg #[.int .i64 0, .slice (some ⟨w.heap.size + 1 + 1 + 1, 0, none⟩) 1 1, .slice (some ⟨w.heap.size + 1 + 1 + 1 + 1 + 1 + 1 + 1 + 1, 0, none⟩) 4 4]] W fun e W' => e = .returned (.tuple #[.int .i64 0, .int .i64 2, .bool true]) ∧ Below W.heap.size W W') := by
    intro W hb
    have h := again_any oneD trD sC sT W (hsC.below hb) (hsT.below hb) hmC hmT (by decide) (by decide) (by decide)
    rw [hC, hT, ey_again] at h
    exact h
  have HCU : Hid (∀ W, Below W1.heap.size W1 W → Calls Try.prog 14 #[.agg #[.int .i64 1, .slice (some ⟨w.heap.size, 0, none⟩) 1 1, .slice none 0 0, .slice none 0 0, .slice (some ⟨w.heap.size + 1, 0, none⟩) 1 1, .slice none 0 0], .agg #[.int .i64 0, .slice (some ⟨w.heap.size + 1 + 1 + 1, 0, none⟩) 1 1, .slice (some ⟨w.heap.size + 1 + 1 + 1 + 1 + 1 + 1 + 1 + 1, 0, none⟩) 4 4]] W fun e W' => ∃ (x : TSlots) (la : Option Addr) (lc : Nat), e = .returned (.tuple #[.agg #[.int .i64 0, .slice x.a1 x.n1 x.c1, .slice x.a2 x.n2 x.c2], .slice la 2 lc, .int .i64 0]) ∧ Sees W' la 2 lc ([2, 3].map iv) ∧ SeesF W' x.a2 x.n2 x.c2 x.ss [[1], [1]] ∧ Below W.heap.size W W') := by
    intro W hb
    have h := cut_any oneD trD sC sT W (hsC.below hb) (hsT.below hb) hmC hmT (by decide) (by decide) (by decide)
    rw [hC, hT] at h
    refine h.mono ?_
    rintro e W' ⟨x, la, lc, h1, h2, h3, _, h5⟩
    rw [ey_cut] at h1 h2 h3
    exact ⟨x, la, lc, h1, h2, h3.ll.sees, h5⟩
  have HX : Hid (W1.heap[w.heap.size + 1 + 1]? = some (.cells #[.int .i64 1, .slice (some ⟨w.heap.size, 0, none⟩) 1 1, .slice none 0 0, .slice none 0 0, .slice (some ⟨w.heap.size + 1, 0, none⟩) 1 1, .slice none 0 0] 26 (0, 0))) := h2
  have HY : Hid (W1.heap[w.heap.size + 1 + 1 + 1 + 1 + 1 + 1 + 1 + 1 + 1]? = some (.cells #[.int .i64 0, .slice (some ⟨w.heap.size + 1 + 1 + 1, 0, none⟩) 1 1, .slice (some ⟨w.heap.size + 1 + 1 + 1 + 1 + 1 + 1 + 1 + 1, 0, none⟩) 4 4] 30 (0, 0))) := h9
  have HB := Lib.hid hb
  clear hb h0 h1 h2 h3 h4 h5 h6 h7 h8 h9 hsC hmC hsT hmT hC hT
  have p0 := cell_of_block HX.out 0
  have p1 := cell_of_block HX.out 1
  have p2 := cell_of_block HX.out 2
  have p3 := cell_of_block HX.out 3
  have p4 := cell_of_block HX.out 4
  have p5 := cell_of_block HX.out 5
  have r0 := cell_of_block HY.out 0
  have r1 := cell_of_block HY.out 1
  have r2 := cell_of_block HY.out 2
  go_wp2_with fail
  refine (HSTS.out W1 (Below.refl _ _)).mono ?_
  rintro e W2 ⟨a, cc, ss, rfl, hsee, hb⟩
  have HX2 := Lib.hid (heap_below HX.out hb)
  have HY2 := Lib.hid (heap_below HY.out hb)
  have HB2 := Lib.hid hb
  have HS2 := Lib.hid hsee
  clear hsee
  clear p0 p1 p2 p3 p4 p5 r0 r1 r2 hb
  have p0 := cell_of_block HX2.out 0
  have p1 := cell_of_block HX2.out 1
  have p2 := cell_of_block HX2.out 2
  have p3 := cell_of_block HX2.out 3
  have p4 := cell_of_block HX2.out 4
  have p5 := cell_of_block HX2.out 5
  have r0 := cell_of_block HY2.out 0
  have r1 := cell_of_block HY2.out 1
  have r2 := cell_of_block HY2.out 2
  go_wp2_with fail
  refine (HAG.out W2 HB2.out).mono ?_
  rintro e W3 ⟨rfl, hb⟩
  have HX3 := Lib.hid (heap_below HX2.out hb)
  have HY3 := Lib.hid (heap_below HY2.out hb)
  have HB3 := Lib.hid (ext_trans HB2.out hb)
  have HS3 := Lib.hid (HS2.out.below hb)
  clear p0 p1 p2 p3 p4 p5 r0 r1 r2 hb
  have p0 := cell_of_block HX3.out 0
  have p1 := cell_of_block HX3.out 1
  have p2 := cell_of_block HX3.out 2
  have p3 := cell_of_block HX3.out 3
  have p4 := cell_of_block HX3.out 4
  have p5 := cell_of_block HX3.out 5
  have r0 := cell_of_block HY3.out 0
  have r1 := cell_of_block HY3.out 1
  have r2 := cell_of_block HY3.out 2
  go_wp2_with fail
  refine (HCU.out W3 HB3.out).mono ?_
  rintro e W4 ⟨x, la, lc, rfl, hl, hf, hb⟩
  have HB4 := Lib.hid (ext_trans HB.out (ext_trans HB3.out hb))
  have HS4 := Lib.hid (HS3.out.below hb)
  have HL4 := Lib.hid hl
  have HF4 := Lib.hid hf
  clear hl hf HSTS HAG HCU HX HY HX2 HY2 HX3 HY3 HB2 HB3 HS2 HS3
  clear p0 p1 p2 p3 p4 p5 r0 r1 r2 hb
  go_upto_region 6 with fail
  generalize hW : World.alloc W4 _ = W5
  have hp : W5.heap[W4.heap.size]? = some (.cells #[.int .i64 0, .slice x.a1 x.n1 x.c1, .slice x.a2 x.n2 x.c2] 30 (0, 0)) := by subst hW; exact heap_new _ _ _ rfl
  have hb : Below W4.heap.size W4 W5 := by subst hW; exact ext_alloc _ _
  have HP := Lib.hid hp
  have HB5 := Lib.hid (ext_trans HB4.out hb)
  have HS5 := Lib.hid (HS4.out.below hb)
  have HL5 := Lib.hid (HL4.out.below hb)
  have HF5 := Lib.hid (HF4.out.below hb)
  clear hW hp hb HB4 HS4 HL4 HF4
  go_wp2_with fail
  generalize hW : World.alloc (World.alloc (World.alloc (World.alloc (World.alloc W5 _) _) _) _) _ = W6
  have hb : Below W5.heap.size W5 W6 := by subst hW; exact ext_trans (ext_alloc _ _) (ext_trans (ext_alloc _ _) (ext_trans (ext_alloc _ _) (ext_trans (ext_alloc _ _) (ext_alloc _ _))))
  have h0 : W6.heap[W5.heap.size]? = some (.cells #[.int .u8 0] 5 (0, 0)) := by subst hW; exact heap_below (heap_below (heap_below (heap_below (heap_new _ _ _ rfl) (ext_alloc _ _)) (ext_alloc _ _)) (ext_alloc _ _)) (ext_alloc _ _)
  have h1 : W6.heap[W5.heap.size + 1]? = some (.cells #[.int .u8 0] 5 (0, 0)) := by subst hW; exact heap_below (heap_below (heap_below (heap_new _ _ _ (by simp)) (ext_alloc _ _)) (ext_alloc _ _)) (ext_alloc _ _)
  have h2 : W6.heap[W5.heap.size + 1 + 1]? = some (.cells #[.int .u8 0] 5 (0, 0)) := by subst hW; exact heap_below (heap_below (heap_new _ _ _ (by simp)) (ext_alloc _ _)) (ext_alloc _ _)
  have h3 : W6.heap[W5.heap.size + 1 + 1 + 1]? = some (.cells #[.int .u8 1] 5 (0, 0)) := by subst hW; exact heap_below (heap_new _ _ _ (by simp)) (ext_alloc _ _)
  have h4 : W6.heap[W5.heap.size + 1 + 1 + 1 + 1]? = some (.cells #[.slice (some ⟨W5.heap.size, 0, none⟩) 1 1, .slice (some ⟨W5.heap.size + 1, 0, none⟩) 1 1, .slice (some ⟨W5.heap.size + 1 + 1, 0, none⟩) 1 1, .slice (some ⟨W5.heap.size + 1 + 1 + 1, 0, none⟩) 1 1] 27 (0, 0)) := by subst hW; exact heap_new _ _ _ (by simp)
  have hT : SeesF W6 (some ⟨W5.heap.size + 1 + 1 + 1 + 1, 0, none⟩) 4 4 [(some ⟨W5.heap.size, 0, none⟩, 1, 1), (some ⟨W5.heap.size + 1, 0, none⟩, 1, 1), (some ⟨W5.heap.size + 1 + 1, 0, none⟩, 1, 1), (some ⟨W5.heap.size + 1 + 1 + 1, 0, none⟩, 1, 1)] [[0], [0], [0], [1]] := by
    refine ⟨sees_cells h4 _ 4 rfl rfl, rfl, fun k hk => ?_⟩
    match k, hk with
    | 0, _ => exact sees_cells h0 [bv 0] 1 rfl rfl
    | 1, _ => exact sees_cells h1 [bv 0] 1 rfl rfl
    | 2, _ => exact sees_cells h2 [bv 0] 1 rfl rfl
    | 3, _ => exact sees_cells h3 [bv 1] 1 rfl rfl
    | k + 4, h => exact absurd h (by simp)
  clear hW h0 h1 h2 h3 h4
  have h := tables_any [[0], [0], [0], [1]] [[0], [0], [0], [1]] _ _ _ _ _ _ _ _ W6 (HS5.out.below hb) hT (by omega)
  rw [show decide (([[0], [0], [0], [1]] : List (List UInt8)) = [[0], [0], [0], [1]]) = true from decide_eq_true rfl] at h
  have H := Lib.hid h
  have HB6 := Lib.hid (ext_trans HB5.out hb)
  have HP6 := Lib.hid (heap_below HP.out hb)
  have HL6 := Lib.hid (HL5.out.below hb)
  have HF6 := Lib.hid (HF5.out.below hb)
  clear h hb hT HB5 HP HL5 HF5 HS5
  refine H.out.mono ?_
  rintro e W7 ⟨rfl, hb⟩
  have HB7 := Lib.hid (ext_trans HB6.out hb)
  have HP7 := Lib.hid (heap_below HP6.out hb)
  have HL7 := Lib.hid (HL6.out.below hb)
  have HF7 := Lib.hid (HF6.out.below hb)
  clear hb HB6 HP6 HL6 HF6 H
  go_wp2_with fail
  generalize hW : World.alloc W7 _ = W8
  have hb : Below W7.heap.size W7 W8 := by subst hW; exact ext_alloc _ _
  have h0 : W8.heap[W7.heap.size]? = some (.cells #[.int .i64 2, .int .i64 3] 3 (0, 0)) := by subst hW; exact heap_new _ _ _ rfl
  have h := ints_any [2, 3] _ _ 2 _ _ W8 (HL7.out.below hb) (sees_cells h0 ([2, 3].map iv) 2 rfl rfl) (by omega)
  have H := Lib.hid h
  have HB8 := Lib.hid (ext_trans HB7.out hb)
  have HP8 := Lib.hid (heap_below HP7.out hb)
  have HF8 := Lib.hid (HF7.out.below hb)
  clear h hb hW h0 HB7 HP7 HL7 HF7
  refine H.out.mono ?_
  rintro e W9 ⟨rfl, hb⟩
  have HB9 := Lib.hid (ext_trans HB8.out hb)
  have HP9 := Lib.hid (heap_below HP8.out hb)
  have HF9 := Lib.hid (HF8.out.below hb)
  clear hb H HB8 HP8 HF8
  have g2 : W9.cell? ⟨W4.heap.size, 2, none⟩ = some (.slice x.a2 x.n2 x.c2) := cell_of_block HP9.out 2
  go_wp2_with fail
  generalize hW : World.alloc (World.alloc (World.alloc W9 _) _) _ = WA
  have hb : Below W9.heap.size W9 WA := by subst hW; exact ext_trans (ext_alloc _ _) (ext_trans (ext_alloc _ _) (ext_alloc _ _))
  have h0 : WA.heap[W9.heap.size]? = some (.cells #[.int .u8 1] 5 (0, 0)) := by subst hW; exact heap_below (heap_below (heap_new _ _ _ rfl) (ext_alloc _ _)) (ext_alloc _ _)
  have h1 : WA.heap[W9.heap.size + 1]? = some (.cells #[.int .u8 1] 5 (0, 0)) := by subst hW; exact heap_below (heap_new _ _ _ (by simp)) (ext_alloc _ _)
  have h2 : WA.heap[W9.heap.size + 1 + 1]? = some (.cells #[.slice (some ⟨W9.heap.size, 0, none⟩) 1 1, .slice (some ⟨W9.heap.size + 1, 0, none⟩) 1 1] 27 (0, 0)) := by subst hW; exact heap_new _ _ _ (by simp)
  have hT : SeesF WA (some ⟨W9.heap.size + 1 + 1, 0, none⟩) 2 2 [(some ⟨W9.heap.size, 0, none⟩, 1, 1), (some ⟨W9.heap.size + 1, 0, none⟩, 1, 1)] [[1], [1]] := by
    refine ⟨sees_cells h2 _ 2 rfl rfl, rfl, fun k hk => ?_⟩
    match k, hk with
    | 0, _ => exact sees_cells h0 [bv 1] 1 rfl rfl
    | 1, _ => exact sees_cells h1 [bv 1] 1 rfl rfl
    | k + 2, h => exact absurd h (by simp)
  clear hW h0 h1 h2
  have h := tables_any [[1], [1]] [[1], [1]] _ _ _ _ _ _ _ _ WA (HF9.out.below hb) hT (by have := HF9.out.n_eq; simp at this; omega)
  rw [show decide (([[1], [1]] : List (List UInt8)) = [[1], [1]]) = true from decide_eq_true rfl] at h
  have H := Lib.hid h
  have HBA := Lib.hid (ext_trans HB9.out hb)
  clear h hb hT g2 HB9 HP9 HF9
  refine H.out.mono ?_
  rintro e WB ⟨rfl, hb⟩
  have HBB := Lib.hid (ext_trans HBA.out hb)
  clear hb H HBA
  go_wp2
  go_ret
  exact ⟨rfl, HBB.out⟩
end Go.Proofs.Ytgpkghlhlabjcaa
