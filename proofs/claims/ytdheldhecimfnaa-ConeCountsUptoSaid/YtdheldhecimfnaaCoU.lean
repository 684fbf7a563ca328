/- The law ConeCounts, walked. -/
import Derived.Test.YtdheldhecimfnaaLib
import Derived.Test.YtdheldhecimfnaaNBase
import Derived.Test.YtdheldhecimfnaaNTrace
import Derived.Test.YtdheldhecimfnaaBytes
import Derived.Test.YtdheldhecimfnaaRows
import Derived.BigQuiet
import Derived.Deep.AppendLies
import Derived.Deep.QuietTactic
import Derived.Deep.RegionLaw
import Derived.Deep.RegionWith
import Derived.KernelRfl
import Derived.Laws.EntriesVeiled
import Derived.Lib.ConvBytes
import Derived.Lib.Hide
import Derived.Lib.SlBytesRow
import Derived.Lib.SmallJoins
import Derived.Shelf.Bytes.SlSmallAll
import Derived.WalkKit
import Derived.WalkLawsBesides
import Derived.WalkSpells
import Derived.Test.YtdheldhecimfnaaCnB
import Derived.Test.YtdheldhecimfnaaCnA
import Derived.Test.YtdheldhecimfnaaCoE
import Derived.Test.YtdheldhecimfnaaCoT
import Derived.Deep.RegionHeld3
import Derived.OrdersHeld
import Derived.Test.YtdheldhecimfnaaCoS
import Derived.Deep.CutRange
/- inquestref00.Tables, inquestref03.SameTrace: are two traces the same? -/
namespace Go.Proofs.Ytdheldhecimfnaa
open Go Go.RowKit Go.Joins

theorem info_tab : (Try.prog.info? 27).map (fun i => (i.zero, i.size, i.bytes)) = some (some (.slice none 0 0), 1, 24) := by kernel_rfl
theorem size_tab : ∀ w, (sizeOf 27).run Try.prog w = .ok 1 w := fun w => by
  obtain ⟨i0, hi, hz0, hz1, hz2⟩ := info_parts info_tab
  simp [sizeOf, typeInfo, hi, hz1]
theorem Sees.slice_at {w : World} {b off n c : Nat} {ss : List Slc} (h : Sees w (some ⟨b, off, .none⟩) n c (ss.map slV)) (j : Nat) (hj : j < n) :
    w.cell? ⟨b, off + j, .none⟩ = some (.slice (ss.getD j slc0).1 (ss.getD j slc0).2.1 (ss.getD j slc0).2.2) := by
  have hl : ss.length = n := h.lenMap
  rw [(h.cell j hj).2]
  simp [slV, List.getD, List.getElem?_eq_getElem (show j < ss.length by omega)]
theorem bytes_at (bs cs : List UInt8) (a a' : Option Addr) (n c n' c' : Nat) (w : World) (h : Sees w a n c (bs.map bv)) (h' : Sees w a' n' c' (cs.map bv)) :
    Calls Try.prog 40 #[.slice a n c, .slice a' n' c'] w fun e w' => e = .returned (.bool (decide (bs = cs))) ∧ w' = w := by
  refine (bytes_any bs cs a a' n c n' c' w h h').mono fun e w' hp => ?_
  obtain ⟨h1, rfl⟩ := hp
  exact ⟨by rw [show decide (bs = cs) = (bs == cs) by by_cases e : bs = cs <;> simp [e]]; exact h1, rfl⟩

/-- Where k lines have been held against each other. -/
structure TabI (w : World) (ss ss' : List Slc) (fs gs : List (List UInt8)) (n k : Nat) (a1 : Option Addr) (c1 : Nat) (a2 : Option Addr) (c2 : Nat) (wr : World) : Prop where
  s1 : Sees wr a1 (n - k) c1 ((ss.drop k).map slV)
  s2 : Sees wr a2 (n - k) c2 ((ss'.drop k).map slV)
  eq : ∀ j, j < k → fs.getD j [] = gs.getD j []
  bel : Below w.heap.size w wr
def slenT : Value → Nat | .slice _ m _ => m | _ => 0

set_option maxRecDepth 100000 in
set_option maxHeartbeats 1600000 in
theorem tables_any (fs gs : List (List UInt8)) (ss ss' : List Slc) (a a' : Option Addr) (n c n' c' : Nat) (w : World) (h : SeesF w a n c ss fs) (h' : SeesF w a' n' c' ss' gs) (hn : n ≤ 1048576) :
    Calls Try.prog 41 #[.slice a n c, .slice a' n' c'] w fun e w' => e = .returned (.bool (decide (fs = gs))) ∧ Below w.heap.size w w' := by
  have hl := h.n_eq
  have hl' := h'.n_eq
  obtain ⟨q, hq⟩ : ∃ q, q = decide (fs = gs) := ⟨_, rfl⟩
  have NO : fs ≠ gs → q = false := fun h => by rw [hq]; simpa using h
  rw [← hq]
  by_cases hne : n = n'
  · subst hne
    have YES : (∀ j, j < n → fs.getD j [] = gs.getD j []) → q = true := fun h => by
      rw [hq, decide_eq_true_eq]
      apply List.ext_getElem (by omega)
      intro i h1 h2
      have := h i (by omega)
      simpa [List.getD, List.getElem?_eq_getElem h1, List.getElem?_eq_getElem h2] using this
    have H := Lib.hid h
    have H' := Lib.hid h'
    have HL := Lib.hid hl
    have HL' := Lib.hid hl'
    have HNO := Lib.hid NO
    have HYES := Lib.hid YES
    clear h h' hl hl' NO YES hq
    go_enter Try.func41, Try.ntmps41
    go_wp2
    go_loopw [0, 1] (fun a b wr => ∃ (k : Nat) (a1 : Option Addr) (c1 : Nat) (a2 : Option Addr) (c2 : Nat), k ≤ n ∧ a = .slice a1 (n - k) c1 ∧ b = .slice a2 (n - k) c2 ∧ Hid (TabI w ss ss' fs gs n k a1 c1 a2 c2 wr))
      (fun a _ _ => slenT a)
    case atStart => exact ⟨0, _, _, _, _, Nat.zero_le _, rfl, rfl, ⟨H.out.row, H'.out.row, fun j hj => absurd hj (by omega), Below.refl _ _⟩⟩
    case round =>
      obtain ⟨k, a1, c1, a2, c2, hk, rfl, rfl, hI⟩ := hrel
      obtain ⟨s1, s2, heq, hbel⟩ := hI.out
      clear hI
      by_cases hlt : k < n
      · obtain ⟨b1, o1, rfl, _⟩ := s1.addr (by omega)
        obtain ⟨b2, o2, rfl, _⟩ := s2.addr (by omega)
        obtain ⟨x, hx⟩ : ∃ x : Slc, x = ss.getD k slc0 := ⟨_, rfl⟩
        obtain ⟨y, hy⟩ : ∃ y : Slc, y = ss'.getD k slc0 := ⟨_, rfl⟩
        have hsx := (H.out.below hbel).each k (by rw [HL.out]; exact hlt)
        have hsy := (H'.out.below hbel).each k (by rw [HL'.out]; exact hlt)
        rw [← hx] at hsx
        rw [← hy] at hsy
        have hc1 : wr.cell? ⟨b1, o1, none⟩ = some (.slice x.1 x.2.1 x.2.2) := by
          have := s1.slice_at 0 (by omega)
          rw [hx, ← show (ss.drop k).getD 0 slc0 = ss.getD k slc0 by simp [List.getD]]
          exact this
        have hc2 : wr.cell? ⟨b2, o2, none⟩ = some (.slice y.1 y.2.1 y.2.2) := by
          have := s2.slice_at 0 (by omega)
          rw [hy, ← show (ss'.drop k).getD 0 slc0 = ss'.getD k slc0 by simp [List.getD]]
          exact this
        obtain ⟨xa, xn, xc⟩ := x
        obtain ⟨ya, yn, yc⟩ := y
        simp only at hsx hsy hc1 hc2
        obtain ⟨p, hp⟩ : ∃ p, p = decide (fs.getD k [] = gs.getD k []) := ⟨_, rfl⟩
        have HCALL : Hid (∀ m, Calls Try.prog 40 #[.slice xa xn xc, .slice ya yn yc] (wr.drewN m) fun e w' => e = .returned (.bool p) ∧ w' = wr.drewN m) := fun m => by
          rw [hp]
          exact bytes_at _ _ xa ya xn xc yn yc (wr.drewN m) (hsx.below (ext_drewN wr m)) (hsy.below (ext_drewN wr m))
        obtain ⟨a3, ec3, see3⟩ := s1.cut 1 (n - k) (by omega) (Nat.le_refl _)
        obtain ⟨a4, ec4, see4⟩ := s2.cut 1 (n - k) (by omega) (Nat.le_refl _)
        have q1 := fun W => (run_from (P := Try.prog) Try.underlying28 size_tab W (some ⟨b1, o1, none⟩) (n - k) c1 1 1 rfl (by omega)).trans (congrArg (fun v => Result.ok v W) ec3)
        have q2 := fun W => (run_from (P := Try.prog) Try.underlying28 size_tab W (some ⟨b2, o2, none⟩) (n - k) c2 1 1 rfl (by omega)).trans (congrArg (fun v => Result.ok v W) ec4)
        have S3 : Hid (Sees wr a3 (n - (k + 1)) (c1 - 1) ((ss.drop (k + 1)).map slV)) := by
          have e : (List.map slV (ss.drop k)).take (n - k) = List.map slV (ss.drop k) := List.take_of_length_le (by rw [s1.len]; exact Nat.le_refl _)
          rw [e, ← List.map_drop, List.drop_drop] at see3
          exact see3
        have S4 : Hid (Sees wr a4 (n - (k + 1)) (c2 - 1) ((ss'.drop (k + 1)).map slV)) := by
          have e : (List.map slV (ss'.drop k)).take (n - k) = List.map slV (ss'.drop k) := List.take_of_length_le (by rw [s2.len]; exact Nat.le_refl _)
          rw [e, ← List.map_drop, List.drop_drop] at see4
          exact see4
        have HP := Lib.hid hp
        have HBL := Lib.hid hbel
        have HEQ := Lib.hid heq
        have hpos : (0 : Int) < ((n - k : Nat) : Int) := by omega
        clear ec3 ec4 see3 see4 hx hy hp heq s1 s2 hsx hsy hbel
        cases p with
        | true =>
          go_wp2
          go_quiet ((go_at_call 40; exact Calls.quiet_of_same (HCALL.out _)))
          go_wp2
          go_quiet (fail)
          go_wp2
          go_roundw
          case rel =>
            refine ⟨k + 1, _, _, _, _, by omega, rfl, rfl, ⟨S3.out.below (ext_trans (ext_drewN _ _) (ext_drewN _ _)), S4.out.below (ext_trans (ext_drewN _ _) (ext_drewN _ _)), fun j hj => ?_, ext_trans HBL.out (ext_trans (ext_drewN _ _) (ext_drewN _ _))⟩⟩
            rcases Nat.lt_or_ge j k with h | h
            · exact HEQ.out j h
            · have : j = k := by omega
              subst this
              exact of_decide_eq_true HP.out.symm
          case measure => simp [slenT]; omega
        | false =>
          have HF : Hid (q = false) := HNO.out fun e => by
            have := HP.out
            rw [e] at this
            simp at this
          go_wp2
          go_quiet ((go_at_call 40; exact Calls.quiet_of_same (HCALL.out _)))
          go_wp2
          go_ret
          exact ⟨by rw [HF.out]; rfl, ext_trans HBL.out (ext_drewN _ _)⟩
      · have hkn : k = n := by omega
        subst hkn
        have HT : Hid (q = true) := HYES.out heq
        have HBL := Lib.hid hbel
        clear heq s1 s2 hbel
        go_wp2
        go_ret
        exact ⟨by rw [HT.out]; rfl, HBL.out⟩
  · have hb : ((n : Int) != (n' : Int)) = true := by simp; omega
    have hb' : ((n : Int) == (n' : Int)) = false := by simp; omega
    have HF : Hid (q = false) := NO fun e => hne (by rw [← hl, ← hl', e])
    clear h h' hl hl' NO hq hne
    go_enter Try.func41, Try.ntmps41
    go_wp2
    go_ret
    exact ⟨by rw [HF.out]; rfl, Below.refl _ _⟩

set_option maxRecDepth 100000 in
set_option maxHeartbeats 1600000 in
theorem sametr_any (t u : TraceC) (s s' : TSlots) (w : World) (h : SeesTr w s t) (h' : SeesTr w s' u) (hs : s.small) (hb1 : -9223372036854775808 ≤ t.bad ∧ t.bad < 9223372036854775808) (hb2 : -9223372036854775808 ≤ u.bad ∧ u.bad < 9223372036854775808) :
    Calls Try.prog 18 #[traceV t.bad s, traceV u.bad s'] w fun e w' => e = .returned (.bool (decide (t = u))) ∧ Below w.heap.size w w' := by
  obtain ⟨a1, n1, c1, a2, n2, c2, ss⟩ := s
  obtain ⟨a1', n1', c1', a2', n2', c2', ss'⟩ := s'
  obtain ⟨z, init, fs⟩ := t
  obtain ⟨z', init', fs'⟩ := u
  have hn2 := hs.n2
  simp only at hn2 hb1 hb2
  obtain ⟨q, hq⟩ : ∃ q, q = decide ((⟨z, init, fs⟩ : TraceC) = ⟨z', init', fs'⟩) := ⟨_, rfl⟩
  have hiff : q = (decide (z = z') && (decide (init = init') && decide (fs = fs'))) := by
    rw [hq]
    by_cases e1 : z = z' <;> by_cases e2 : init = init' <;> by_cases e3 : fs = fs' <;> simp [e1, e2, e3]
  rw [← hq]
  have EB : Hid (∀ W, Below w.heap.size w W → Calls Try.prog 40 #[.slice a1 n1 c1, .slice a1' n1' c1'] W fun e w' => e = .returned (.bool (decide (init = init'))) ∧ w' = W) := fun W hb => bytes_at _ _ a1 a1' n1 c1 n1' c1' W (h.s1.below hb) (h'.s1.below hb)
  have ET : Hid (∀ W, Below w.heap.size w W → Calls Try.prog 41 #[.slice a2 n2 c2, .slice a2' n2' c2'] W fun e w' => e = .returned (.bool (decide (fs = fs'))) ∧ Below W.heap.size W w') := fun W hb => tables_any fs fs' ss ss' a2 a2' n2 c2 n2' c2' W (h.s2.below hb) (h'.s2.below hb) hn2
  obtain ⟨q2, hq2⟩ : ∃ q, q = decide (init = init') := ⟨_, rfl⟩
  obtain ⟨q3, hq3⟩ : ∃ q, q = decide (fs = fs') := ⟨_, rfl⟩
  rw [← hq2] at EB hiff
  rw [← hq3] at ET hiff
  have HI := Lib.hid hiff
  clear hq hq2 hq3 hiff h h' hs
  unfold traceV
  by_cases h0 : z = z'
  case neg =>
    have e0 : (z == z') = false := by simpa using h0
    have HF : Hid (q = false) := by show _ = _; rw [HI.out]; simp [h0]
    clear h0
    go_enter Try.func18, Try.ntmps18
    go_wp2
    go_ret
    exact ⟨by rw [HF.out]; rfl, ext_trans (ext_alloc _ _) (ext_alloc _ _)⟩
  subst h0
  have HQ : Hid (q = (q2 && q3)) := by show _ = _; rw [HI.out]; simp
  clear HI
  go_enter Try.func18, Try.ntmps18
  go_wp2_with fail
  refine (EB.out _ (ext_trans (ext_alloc _ _) (ext_alloc _ _))).mono ?_
  rintro e W1 ⟨rfl, rfl⟩
  cases q2 with
  | false =>
    go_wp2
    go_ret
    exact ⟨by rw [HQ.out]; rfl, ext_trans (ext_alloc _ _) (ext_alloc _ _)⟩
  | true =>
    go_wp2_with fail
    refine (ET.out _ (ext_trans (ext_alloc _ _) (ext_alloc _ _))).mono ?_
    rintro e W2 ⟨rfl, hb⟩
    have HB := Lib.hid (ext_trans (ext_trans (ext_alloc _ _) (ext_alloc _ _)) hb)
    clear hb
    go_wp2
    go_ret
    exact ⟨by rw [HQ.out]; simp, HB.out⟩
end Go.Proofs.Ytdheldhecimfnaa
namespace Go.Proofs.Ytdheldhecimfnaa
open Go Go.RowKit Go.Joins

def AnyV : Value → Prop := fun _ => True
theorem Row.ofOwns {w : World} {base : Nat} {e : TypeId} {v : Value} {n : Nat} {xs : List Value} (h : w.ownsRow base e 1 v n xs) : Row AnyV w base e v n xs := by
  refine ⟨by have := h.1; omega, ?_⟩
  rcases h.2 with h2 | ⟨g, cap, cur, hv, hg, hh, hn, hc, hs, ht⟩
  · exact .inl h2
  · exact .inr ⟨g, cap, cur, hv, hg, hh, hn, hc, by omega, by simpa using ht, fun _ _ => trivial⟩
/-- Where the law turns a value. -/
def cntQ (bits : List Bool) (u t : TraceC) (i0 j i : Nat) : Bool := decide ((rowG u j).getD i 0 = 2) && (!decide ((rowG t j).getD i 0 = 2) && bits.getD ((if j = 0 then 0 else t.init.length + (j - 1) * i0) + i) false)
theorem cntQ_ok (c : NormC) (ms : List (List Bool)) (bits : List Bool) (t : TraceC) (i0 : Nat) : QOk c ms (cntQ bits (freeT c t ms) t i0) t := by
  refine ⟨fun i hi h => ?_, fun f i hf hi h => ?_⟩
  · unfold cntQ at h
    simp only [Bool.and_eq_true, decide_eq_true_eq, Bool.not_eq_true', decide_eq_false_iff_not] at h
    exact ⟨h.1, h.2.1⟩
  · unfold cntQ at h
    simp only [Bool.and_eq_true, decide_eq_true_eq, Bool.not_eq_true', decide_eq_false_iff_not] at h
    exact ⟨h.1, h.2.1⟩
theorem cntQ_a {bits : List Bool} {u t : TraceC} {i0 j i : Nat} (h : (rowG u j).getD i 0 ≠ 2 ∨ (rowG t j).getD i 0 = 2) : cntQ bits u t i0 j i = false := by
  unfold cntQ
  rcases h with h | h
  · rw [decide_eq_false h]; rfl
  · rw [decide_eq_true h]; simp
theorem cntQ_b {bits : List Bool} {u t : TraceC} {i0 j i A : Nat} (h : (rowG u j).getD i 0 = 2) (h2 : (rowG t j).getD i 0 ≠ 2) (hA : A = (if j = 0 then 0 else t.init.length + (j - 1) * i0) + i) : cntQ bits u t i0 j i = bits.getD A false := by
  unfold cntQ
  rw [decide_eq_true h, decide_eq_false h2, ← hA]; rfl
theorem u8_two {b : UInt8} : b = 2 ↔ b.toNat = 2 := ⟨fun h => by rw [h]; rfl, fun h => UInt8.toNat_inj.1 (by rw [h]; rfl)⟩

/-- What lies in memory behind the copy: the boxes. -/
structure CtSt (z bad : Int) (s : CSlots) (st sx sy : TSlots) (w : World) (XB YB : Nat) (W : World) : Prop where
  cir : W.heap[w.heap.size]? = some (.cells (cirCells z s) 26 (0, 0))
  tr : W.heap[w.heap.size + 1]? = some (.cells #[.int .i64 bad, .slice st.a1 st.n1 st.c1, .slice st.a2 st.n2 st.c2] 30 (0, 0))
  xb : W.heap[XB]? = some (.cells #[.int .i64 bad, .slice sx.a1 sx.n1 sx.c1, .slice sx.a2 sx.n2 sx.c2] 30 (0, 0))
  yb : W.heap[YB]? = some (.cells #[.int .i64 bad, .slice sy.a1 sy.n1 sy.c1, .slice sy.a2 sy.n2 sy.c2] 30 (0, 0))

theorem CtSt.below {z bad : Int} {s : CSlots} {st sx sy : TSlots} {w : World} {XB YB : Nat} {W W' : World} (h : CtSt z bad s st sx sy w XB YB W) (hb : Below W.heap.size W W') : CtSt z bad s st sx sy w XB YB W' := ⟨heap_below h.cir hb, heap_below h.tr hb, heap_below h.xb hb, heap_below h.yb hb⟩
/-- The circuit's box and the trace's. -/
structure USt (z bad : Int) (s : CSlots) (st : TSlots) (w W : World) : Prop where
  low : Below w.heap.size w W
  cir : W.heap[w.heap.size]? = some (.cells (cirCells z s) 26 (0, 0))
  tr : W.heap[w.heap.size + 1]? = some (.cells #[.int .i64 bad, .slice st.a1 st.n1 st.c1, .slice st.a2 st.n2 st.c2] 30 (0, 0))
theorem USt.below {z bad : Int} {s : CSlots} {st : TSlots} {w W W' : World} (h : USt z bad s st w W) (hb : Below W.heap.size W W') : USt z bad s st w W' := ⟨ext_trans h.low hb, heap_below h.cir hb, heap_below h.tr hb⟩

set_option maxRecDepth 100000 in
set_option maxHeartbeats 12800000 in
theorem counts9_any (c : NormC) (t : TraceC) (bits : List Bool) (s : CSlots) (st : TSlots) (ba : Option Addr) (bn bc : Nat) (w : World) (h : SeesCir w s c) (ht : SeesTr w st t) (hbt : Sees w ba bn bc (bits.map Value.bool)) (hs : s.small) (hst : st.small) (hlo : -9223372036854775808 ≤ c.ins) (hhi : c.ins < 9223372036854775808) (hb1 : -9223372036854775808 ≤ t.bad ∧ t.bad < 9223372036854775808) (hbn : bn ≤ 1048576) (hw : Wide c) :
    Calls Try.prog 4 #[cirV c.ins s, traceV t.bad st, .slice ba bn bc] w fun e w' => e = .returned (.bool true) ∧ Below w.heap.size w w' := by
  have HGR := Lib.hid (fun W (hb : Below w.heap.size w W) => great9_any c t s st W (h.below hb) (ht.below hb))
  have HLV := Lib.hid lives9_any
  have HFREE := Lib.hid (fun W (hb : Below w.heap.size w W) => free9_any c t s st W (h.below hb) (ht.below hb) hs hst hlo hhi hb1)
  have HFIT := Lib.hid (fun W (hb : Below w.heap.size w W) => reffits_any c t s st W (h.below hb) (ht.below hb) hs hst hlo hhi hb1 hw)
  have HCP := Lib.hid (fun W (hb : Below w.heap.size w W) => refcopy_any t st W (ht.below hb) hst)
  have HFA := Lib.hid (fun W (u : TraceC) (su : TSlots) (hb : Below w.heap.size w W) (hu : SeesTr W su u) (hsu : su.small) (hub : u.bad = t.bad) => rfails_any c u s su W (h.below hb) hu hs hsu hlo hhi (by rw [hub]; exact hb1) hw)
  have HSU := Lib.hid (fun W (u : TraceC) (su : TSlots) (hb : Below w.heap.size w W) (hu : SeesTr W su u) (hsu : su.small) (hub : u.bad = t.bad) => rsurely_any c u s su W (h.below hb) hu hs hsu hlo hhi (by rw [hub]; exact hb1) hw)
  have HT := Lib.hid ht
  have HSTM := Lib.hid hst
  have HBT := Lib.hid hbt
  have HBL : Hid (bits.length = bn) := hbt.lenMap
  obtain ⟨z, hz⟩ : ∃ z, z = c.ins := ⟨_, rfl⟩
  have HZI := Lib.hid hz
  obtain ⟨bad, hbad⟩ : ∃ bad, bad = t.bad := ⟨_, rfl⟩
  have HBAD := Lib.hid hbad
  rw [← hz] at HFA HSU
  rw [← hz, ← hbad] at HGR HFREE HFIT ⊢
  rw [← hbad] at HCP
  obtain ⟨gq, hgq⟩ : ∃ q, q = great9 c t := ⟨_, rfl⟩
  rw [← hgq] at HGR
  clear hz hbad hgq h ht hbt hs hst hlo hhi hb1 hw
  unfold cirV traceV at *
  go_enter Try.func4, Try.ntmps4
  go_upto_region 1 with fail
  generalize hW : World.alloc (World.alloc w _) _ = W1
  have HS1 : Hid (USt z bad s st w W1) := ⟨by subst hW; exact ext_trans (ext_alloc _ _) (ext_alloc _ _), by subst hW; exact heap_below (heap_new _ _ _ rfl) (ext_alloc _ _), by subst hW; exact heap_new _ _ _ (by simp)⟩
  clear hW
  have p0 : W1.cell? ⟨w.heap.size, 0, none⟩ = some (.int .i64 z) := cell_of_block HS1.out.cir 0
  have p1 : W1.cell? ⟨w.heap.size, 1, none⟩ = some (.slice s.a1 s.n1 s.c1) := cell_of_block HS1.out.cir 1
  have p2 : W1.cell? ⟨w.heap.size, 2, none⟩ = some (.slice s.a2 s.n2 s.c2) := cell_of_block HS1.out.cir 2
  have p3 : W1.cell? ⟨w.heap.size, 3, none⟩ = some (.slice s.a3 s.n3 s.c3) := cell_of_block HS1.out.cir 3
  have p4 : W1.cell? ⟨w.heap.size, 4, none⟩ = some (.slice s.a4 s.n4 s.c4) := cell_of_block HS1.out.cir 4
  have p5 : W1.cell? ⟨w.heap.size, 5, none⟩ = some (.slice s.a5 s.n5 s.c5) := cell_of_block HS1.out.cir 5
  have t0 : W1.cell? ⟨w.heap.size + 1, 0, none⟩ = some (.int .i64 bad) := cell_of_block HS1.out.tr 0
  have t1 : W1.cell? ⟨w.heap.size + 1, 1, none⟩ = some (.slice st.a1 st.n1 st.c1) := cell_of_block HS1.out.tr 1
  have t2 : W1.cell? ⟨w.heap.size + 1, 2, none⟩ = some (.slice st.a2 st.n2 st.c2) := cell_of_block HS1.out.tr 2
  go_wp2_with fail
  refine (HGR.out W1 HS1.out.low).mono ?_
  rintro e W2 ⟨rfl, hb⟩
  have HS2 := Lib.hid (HS1.out.below hb)
  clear hb HS1 HGR p0 p1 p2 p3 p4 p5 t0 t1 t2
  cases gq with
  | true =>
    go_wp2_with fail
    refine (HLV.out W2).mono ?_
    rintro e W3 ⟨rfl, hb⟩
    have HB3 := Lib.hid (ext_trans HS2.out.low hb)
    clear hb
    go_wp2
    go_ret
    exact ⟨rfl, HB3.out⟩
  | false =>
  have p0 : W2.cell? ⟨w.heap.size, 0, none⟩ = some (.int .i64 z) := cell_of_block HS2.out.cir 0
  have p1 : W2.cell? ⟨w.heap.size, 1, none⟩ = some (.slice s.a1 s.n1 s.c1) := cell_of_block HS2.out.cir 1
  have p2 : W2.cell? ⟨w.heap.size, 2, none⟩ = some (.slice s.a2 s.n2 s.c2) := cell_of_block HS2.out.cir 2
  have p3 : W2.cell? ⟨w.heap.size, 3, none⟩ = some (.slice s.a3 s.n3 s.c3) := cell_of_block HS2.out.cir 3
  have p4 : W2.cell? ⟨w.heap.size, 4, none⟩ = some (.slice s.a4 s.n4 s.c4) := cell_of_block HS2.out.cir 4
  have p5 : W2.cell? ⟨w.heap.size, 5, none⟩ = some (.slice s.a5 s.n5 s.c5) := cell_of_block HS2.out.cir 5
  have t0 : W2.cell? ⟨w.heap.size + 1, 0, none⟩ = some (.int .i64 bad) := cell_of_block HS2.out.tr 0
  have t1 : W2.cell? ⟨w.heap.size + 1, 1, none⟩ = some (.slice st.a1 st.n1 st.c1) := cell_of_block HS2.out.tr 1
  have t2 : W2.cell? ⟨w.heap.size + 1, 2, none⟩ = some (.slice st.a2 st.n2 st.c2) := cell_of_block HS2.out.tr 2
  go_wp2_with fail
  refine (HFREE.out W2 HS2.out.low).mono ?_
  rintro e W3 he
  have HS2b := Lib.hid (HS2.out)
  clear HFREE p0 p1 p2 p3 p4 p5 t0 t1 t2
  rcases he with ⟨hq, rfl, hb⟩ | ⟨hq, ms, ⟨xa1, xn1, xc1, xa2, xn2, xc2, xss⟩, hfr, rfl, hse, hsm, hb⟩
  · have HS3 := Lib.hid (HS2.out.below hb)
    rw [hq] at HFIT
    clear hb HS2 HS2b hq
    unfold traceV
    go_upto_region 4 with fail
    generalize hW : World.alloc W3 _ = W4
    have hb2 : Below W3.heap.size W3 W4 := by subst hW; exact ext_alloc _ _
    have hob : W4.heap[W3.heap.size]? = some (.cells #[.int .i64 0, .slice none 0 0, .slice none 0 0] 30 (0, 0)) := by subst hW; exact heap_new _ _ _ rfl
    obtain ⟨XB, hXB⟩ : ∃ XB, XB = W3.heap.size := ⟨_, rfl⟩
    rw [← hXB] at hob ⊢
    have HXB := Lib.hid hob
    have HS4 := Lib.hid (HS3.out.below hb2)
    clear hW hb2 hob hXB HS3
    have p0 : W4.cell? ⟨w.heap.size, 0, none⟩ = some (.int .i64 z) := cell_of_block HS4.out.cir 0
    have p1 : W4.cell? ⟨w.heap.size, 1, none⟩ = some (.slice s.a1 s.n1 s.c1) := cell_of_block HS4.out.cir 1
    have p2 : W4.cell? ⟨w.heap.size, 2, none⟩ = some (.slice s.a2 s.n2 s.c2) := cell_of_block HS4.out.cir 2
    have p3 : W4.cell? ⟨w.heap.size, 3, none⟩ = some (.slice s.a3 s.n3 s.c3) := cell_of_block HS4.out.cir 3
    have p4 : W4.cell? ⟨w.heap.size, 4, none⟩ = some (.slice s.a4 s.n4 s.c4) := cell_of_block HS4.out.cir 4
    have p5 : W4.cell? ⟨w.heap.size, 5, none⟩ = some (.slice s.a5 s.n5 s.c5) := cell_of_block HS4.out.cir 5
    have t0 : W4.cell? ⟨w.heap.size + 1, 0, none⟩ = some (.int .i64 bad) := cell_of_block HS4.out.tr 0
    have t1 : W4.cell? ⟨w.heap.size + 1, 1, none⟩ = some (.slice st.a1 st.n1 st.c1) := cell_of_block HS4.out.tr 1
    have t2 : W4.cell? ⟨w.heap.size + 1, 2, none⟩ = some (.slice st.a2 st.n2 st.c2) := cell_of_block HS4.out.tr 2
    go_wp2_with fail
    refine (HFIT.out W4 HS4.out.low).mono ?_
    rintro e W5 ⟨rfl, hb⟩
    have HS5 := Lib.hid (HS4.out.below hb)
    have HXB5 := Lib.hid (heap_below HXB.out hb)
    have hnil : ∀ W, SeesTr W ⟨none, 0, 0, none, 0, 0, []⟩ ⟨0, [], []⟩ := fun W => ⟨Sees.nil _ _ _ (fun _ => rfl), ⟨Sees.nil _ _ _ (fun _ => rfl), rfl, fun k hk => absurd hk (by simp)⟩⟩
    have HSAM := Lib.hid (sametr_any ⟨0, [], []⟩ ⟨0, [], []⟩ ⟨none, 0, 0, none, 0, 0, []⟩ ⟨none, 0, 0, none, 0, 0, []⟩ W5 (hnil _) (hnil _) ⟨Nat.zero_le _, Nat.zero_le _, fun x hx => by cases hx⟩ (by simp) (by simp))
    rw [decide_eq_true rfl] at HSAM
    unfold traceV at HSAM
    clear hb hnil HS4 HXB p0 p1 p2 p3 p4 p5 t0 t1 t2
    have o0 := cell_of_block HXB5.out 0
    have o1 := cell_of_block HXB5.out 1
    have o2 := cell_of_block HXB5.out 2
    go_wp2_with fail
    refine HSAM.out.mono ?_
    rintro e W6 ⟨rfl, hb⟩
    have HB6 := Lib.hid (ext_trans HS5.out.low hb)
    clear hb HSAM o0 o1 o2
    go_wp2_with fail
    refine (HLV.out W6).mono ?_
    rintro e W7 ⟨rfl, hb⟩
    have HB7 := Lib.hid (ext_trans HB6.out hb)
    clear hb
    go_wp2
    go_ret
    exact ⟨rfl, HB7.out⟩
  have HF := Lib.hid (fits_iff.1 hq)
  have HFRM := Lib.hid hfr
  rw [hq] at HFIT
  have HS3 := Lib.hid (HS2.out.below hb)
  have hx1 : xn1 = (freeT c t ms).init.length := hse.s1.lenMap.symm
  have hx2 : xn2 = (freeT c t ms).frames.length := hse.s2.n_eq.symm
  have HI1 : Hid (t.init.length = st.n1) := HT.out.s1.lenMap
  have HN2 : Hid (t.frames.length = st.n2) := HT.out.s2.n_eq
  obtain rfl : xn1 = st.n1 := by rw [hx1, freeT_init, fillP_len]; exact HI1.out
  obtain rfl : xn2 = st.n2 := by rw [hx2, freeT_frames]; exact HN2.out
  have HTX := Lib.hid hse
  have HSMX := Lib.hid hsm
  obtain ⟨i, hii, hi2, hL, hG⟩ := insN HF.out.may
  have HII : Hid (c.ins = (i : Int)) := hii
  have HW : Hid (∀ f, f < st.n2 → (t.frames.getD f []).length = i) := fun f hf => by have := HF.out.frames f (by rw [HN2.out]; exact hf); omega
  have hn1s : st.n1 ≤ 16384 := by have h1 := HF.out.init; have h2 := HF.out.may.few; unfold varsN at h2; have := HI1.out; omega
  have hn2s : st.n2 ≤ 256 := by rw [← HN2.out]; exact HF.out.few
  clear hb hq hfr hse hsm hx1 hx2 HS2 HS2b hii hL hG
  unfold traceV
  rw [show t.bad = bad from HBAD.out.symm]
  go_upto_region 4 with fail
  generalize hW : World.alloc W3 _ = W4
  have hb2 : Below W3.heap.size W3 W4 := by subst hW; exact ext_alloc _ _
  have hob : W4.heap[W3.heap.size]? = some (.cells #[.int .i64 bad, .slice xa1 st.n1 xc1, .slice xa2 st.n2 xc2] 30 (0, 0)) := by subst hW; exact heap_new _ _ _ rfl
  obtain ⟨XB, hXB⟩ : ∃ XB, XB = W3.heap.size := ⟨_, rfl⟩
  rw [← hXB] at hob ⊢
  have HXB := Lib.hid hob
  have HS4 := Lib.hid (HS3.out.below hb2)
  have HTX4 := Lib.hid (HTX.out.below hb2)
  clear hW hb2 hob hXB HS3 HTX
  have p0 : W4.cell? ⟨w.heap.size, 0, none⟩ = some (.int .i64 z) := cell_of_block HS4.out.cir 0
  have p1 : W4.cell? ⟨w.heap.size, 1, none⟩ = some (.slice s.a1 s.n1 s.c1) := cell_of_block HS4.out.cir 1
  have p2 : W4.cell? ⟨w.heap.size, 2, none⟩ = some (.slice s.a2 s.n2 s.c2) := cell_of_block HS4.out.cir 2
  have p3 : W4.cell? ⟨w.heap.size, 3, none⟩ = some (.slice s.a3 s.n3 s.c3) := cell_of_block HS4.out.cir 3
  have p4 : W4.cell? ⟨w.heap.size, 4, none⟩ = some (.slice s.a4 s.n4 s.c4) := cell_of_block HS4.out.cir 4
  have p5 : W4.cell? ⟨w.heap.size, 5, none⟩ = some (.slice s.a5 s.n5 s.c5) := cell_of_block HS4.out.cir 5
  have t0 : W4.cell? ⟨w.heap.size + 1, 0, none⟩ = some (.int .i64 bad) := cell_of_block HS4.out.tr 0
  have t1 : W4.cell? ⟨w.heap.size + 1, 1, none⟩ = some (.slice st.a1 st.n1 st.c1) := cell_of_block HS4.out.tr 1
  have t2 : W4.cell? ⟨w.heap.size + 1, 2, none⟩ = some (.slice st.a2 st.n2 st.c2) := cell_of_block HS4.out.tr 2
  go_wp2_with fail
  refine (HFIT.out W4 HS4.out.low).mono ?_
  rintro e W5 ⟨rfl, hb⟩
  have HS5 := Lib.hid (HS4.out.below hb)
  have HXB5 := Lib.hid (heap_below HXB.out hb)
  have HTX5 := Lib.hid (HTX4.out.below hb)
  clear hb HS4 HXB HTX4 HFIT p0 p1 p2 p3 p4 p5 t0 t1 t2
  have t0 : W5.cell? ⟨w.heap.size + 1, 0, none⟩ = some (.int .i64 bad) := cell_of_block HS5.out.tr 0
  have t1 : W5.cell? ⟨w.heap.size + 1, 1, none⟩ = some (.slice st.a1 st.n1 st.c1) := cell_of_block HS5.out.tr 1
  have t2 : W5.cell? ⟨w.heap.size + 1, 2, none⟩ = some (.slice st.a2 st.n2 st.c2) := cell_of_block HS5.out.tr 2
  have o0 := cell_of_block HXB5.out 0
  have o1 := cell_of_block HXB5.out 1
  have o2 := cell_of_block HXB5.out 2
  go_wp2_with fail
  refine (HCP.out W5 HS5.out.low).mono ?_
  rintro e W6 ⟨⟨ya1, yn1, yc1, ya2, yn2, yc2, yss⟩, rfl, ho, hsm, hb⟩
  have hy1 : yn1 = t.init.length := (row_len ho.o1).symm
  have hy2 := (owns_sees_slice ho.o2).1
  have hy3 := ho.len
  simp only at hy2 hy3
  obtain rfl : yn1 = st.n1 := by rw [hy1]; exact HI1.out
  obtain rfl : yn2 = st.n2 := by rw [hy2]; exact HN2.out
  have HY3 : Hid (yss.length = st.n2) := by unfold Hid; rw [hy3]; exact HN2.out
  have HSMY := Lib.hid hsm
  obtain ⟨base, hbase⟩ : ∃ base, base = W5.heap.size := ⟨_, rfl⟩
  rw [← hbase] at ho
  have HO := Lib.hid ho
  have HLOWX : Hid (Below base W5 W6) := by unfold Hid; rw [hbase]; exact hb
  have HBW : Hid (w.heap.size ≤ base ∧ base ≤ W6.heap.size ∧ base ≤ W5.heap.size) := by have := HS5.out.low.size; have := hb.size; exact ⟨by omega, by omega, by omega⟩
  have HS6 := Lib.hid (HS5.out.below hb)
  have HXB6 := Lib.hid (heap_below HXB5.out hb)
  have HBE := Lib.hid hbase
  clear hb ho hsm hy1 hy2 hy3 hbase HXB5 HCP o0 o1 o2 t0 t1 t2
  go_upto_region 11 with fail
  generalize hW : World.alloc W6 _ = W7
  have hb2 : Below W6.heap.size W6 W7 := by subst hW; exact ext_alloc _ _
  have hob : W7.heap[W6.heap.size]? = some (.cells #[.int .i64 bad, .slice ya1 st.n1 yc1, .slice ya2 st.n2 yc2] 30 (0, 0)) := by subst hW; exact heap_new _ _ _ rfl
  obtain ⟨YB, hYB⟩ : ∃ YB, YB = W6.heap.size := ⟨_, rfl⟩
  rw [← hYB] at hob ⊢
  have HS7 := Lib.hid (HS6.out.below hb2)
  have HCT : Hid (CtSt z bad s st ⟨xa1, st.n1, xc1, xa2, st.n2, xc2, xss⟩ ⟨ya1, st.n1, yc1, ya2, st.n2, yc2, yss⟩ w XB YB W7) := ⟨HS7.out.cir, HS7.out.tr, heap_below HXB6.out hb2, hob⟩
  have HO7 := Lib.hid (HO.out.below hb2)
  have HB67 : Hid (W6.heap.size ≤ W7.heap.size) := hb2.size
  have HB57 : Hid (Below base W5 W7) := HLOWX.out.trans (hb2.mono HBW.out.2.1)
  have HL7 := Lib.hid HS7.out.low
  have HROWA : Hid (Row AnyV W7 base 27 (.slice ya2 st.n2 yc2) st.n2 (yss.map slV)) := by
    have := Row.ofOwns HO7.out.o2
    rw [HN2.out] at this
    exact this
  obtain ⟨Q, hQ⟩ : ∃ Q, Q = cntQ bits (freeT c t ms) t i := ⟨_, rfl⟩
  have HQ := Lib.hid hQ
  obtain ⟨L, hL⟩ : ∃ L, L = ((ya1, st.n1, yc1) :: yss : List Slc) := ⟨_, rfl⟩
  have hap : ApartL L := by rw [hL]; exact HO7.out.ap
  have HAP := Lib.hid hap
  have HLE := Lib.hid hL
  have HLL2 : Hid (L.length = st.n2 + 1) := by unfold Hid; rw [hL, List.length_cons, HY3.out]
  have HROWS : Hid (RowsL W7 base L (rowsI Q t 0)) := by
    intro j hj
    rw [HLE.out, rowsI_start]
    cases j with
    | zero => exact HO7.out.o1
    | succ j => exact HO7.out.rows j (by have := HLL2.out; have := HN2.out; omega)
  have HLEN : Hid (∀ j, j < st.n2 + 1 → (L.getD j slc0).2.1 = (rowG t j).length) := fun j hj => by
    have h1 := HROWS.out j (by rw [HLL2.out]; exact hj)
    rw [rowsI_start] at h1
    exact (row_len (show Row isByte W7 base 5 (.slice (L.getD j slc0).1 (L.getD j slc0).2.1 (L.getD j slc0).2.2) _ _ from h1)).symm
  clear hW hb2 hob hYB hQ hL hap HS6 HXB6 HO HLOWX HS7
  have x1 := cell_of_block HCT.out.xb 1
  go_wp2
  clear x1
  go_loopw [76, 11, 10] (fun iv _ av wr => ∃ k : Nat, k ≤ st.n1 ∧ iv = .int .i64 k ∧ av = .int .i64 k ∧ Hid (RowsL wr base L (rowsI Q t k)) ∧ Hid (KeptNB W7 wr) ∧ Hid (Below base W7 wr)) (fun iv _ _ _ => st.n1 - (intOf iv).toNat)
  case atStart => exact ⟨0, Nat.zero_le _, rfl, rfl, HROWS.out, KeptNB.refl _, Below.refl _ _⟩
  case round =>
    clear HROWS
    obtain ⟨k, hk, rfl, rfl, hR, hK, hB⟩ := hrel
    have HR := Lib.hid hR.out
    have HK := Lib.hid hK.out
    have HBB := Lib.hid hB.out
    have HLOW := Lib.hid (show Below w.heap.size w wr from HL7.out.trans (hB.out.mono HBW.out.1))
    have H5 := Lib.hid (show Below W5.heap.size W5 wr by rw [← HBE.out]; exact HB57.out.trans hB.out)
    clear hR hK hB
    have W2' : IntKind.i64.wrap ((k : Int) + 1) = (k : Int) + 1 := IntWalk.i64_in _ (by omega)
    by_cases hlt : k < st.n1
    · obtain ⟨xb, xo, hxa, _⟩ := HTX5.out.s1.addr (show 0 < st.n1 by omega)
      simp only at hxa
      subst hxa
      obtain ⟨tb, tq, hta, _⟩ := HT.out.s1.addr (show 0 < st.n1 by omega)
      have hxv := (HTX5.out.s1.below H5.out).byte k hlt
      have hts := HT.out.s1.below HLOW.out
      rw [hta] at hts
      have htv := hts.byte k hlt
      obtain ⟨a, ha⟩ : ∃ a, a = (freeT c t ms).init.getD k 0 := ⟨_, rfl⟩
      obtain ⟨b, hb⟩ : ∃ b, b = t.init.getD k 0 := ⟨_, rfl⟩
      rw [← ha] at hxv
      rw [← hb] at htv
      have hki : k < t.init.length := by rw [HI1.out]; exact hlt
      have hab : a = 2 ∨ a = b := by
        rw [ha, hb, free_init hki]
        split
        · exact .inl rfl
        · exact .inr rfl
      have hb2 : b.toNat ≤ 2 := by rw [hb]; exact HF.out.valI hki
      have HQA : Hid (a ≠ 2 ∨ b = 2 → Q 0 k = false) := fun hh => by rw [HQ.out]; exact cntQ_a (by rw [ha, hb] at hh; exact hh)
      have HQB : Hid (a = 2 → b ≠ 2 → Q 0 k = bits.getD k false) := fun h1 h2 => by rw [HQ.out]; exact cntQ_b (by rw [ha] at h1; exact h1) (by rw [hb] at h2; exact h2) (by rw [if_pos rfl, Nat.zero_add])
      have HKI := Lib.hid hki
      have HBV := Lib.hid hb
      obtain ⟨an, han⟩ : ∃ an, an = a.toNat := ⟨_, rfl⟩
      obtain ⟨tn, htn⟩ : ∃ tn, tn = b.toNat := ⟨_, rfl⟩
      rw [← han] at hxv
      rw [← htn] at htv
      have hab2 : an = 2 ∨ an = tn := by
        rcases hab with h | h
        · exact .inl (by rw [han, h]; rfl)
        · exact .inr (by rw [han, h, htn])
      have HA2 : Hid (a = 2 ↔ an = 2) := by unfold Hid; rw [han]; exact u8_two
      have HB2 : Hid (b = 2 ↔ tn = 2) := by unfold Hid; rw [htn]; exact u8_two
      have htn2 : tn ≤ 2 := by omega
      have HTN := Lib.hid htn
      have c1 : wr.cell? ⟨XB, 1, none⟩ = some (.slice (some ⟨xb, xo, none⟩) st.n1 xc1) := cell_of_block (HK.out _ _ _ _ HCT.out.xb (by decide)) 1
      have c2 : wr.cell? ⟨w.heap.size + 1, 1, none⟩ = some (.slice (some ⟨tb, tq, none⟩) st.n1 st.c1) := (cell_of_block (HK.out _ _ _ _ HCT.out.tr (by decide)) 1).trans (by rw [← hta]; rfl)
      have HS0 := Lib.hid (And.intro c1 (And.intro c2 (And.intro hxv htv)))
      have hkz : (0 : Int) ≤ (k : Int) := by omega
      have hkn : (k : Int) < (st.n1 : Int) := by omega
      clear c1 c2 hxv htv hts hta ha hb hab han htn hki
      go_upto_region 15 with fail
      refine wp_region_noPanic ?_
      refine wp_region_held (S := fun w' => w'.cell? ⟨XB, 1, none⟩ = some (.slice (some ⟨xb, xo, none⟩) st.n1 xc1) ∧ w'.cell? ⟨w.heap.size + 1, 1, none⟩ = some (.slice (some ⟨tb, tq, none⟩) st.n1 st.c1) ∧ w'.cell? ⟨xb, xo + k, none⟩ = some (.int .u8 (an : Int)) ∧ w'.cell? ⟨tb, tq + k, none⟩ = some (.int .u8 (tn : Int))) (by kernel_rfl) ?_
      generalize hYY : ({ wr with drawn := wr.drawn + 1 } : World) = Y0
      have hY0 : Below wr.heap.size wr Y0 := by subst hYY; exact (Below.refl _ _).drew
      have HY0 := Lib.hid hY0
      clear hYY hY0
      have HPY := Lib.hid (keep4 HS0.out HY0.out)
      have HR2 := Lib.hid (HR.out.below HY0.out)
      have HK2 := Lib.hid (HK.out.below HY0.out)
      have hbase : base ≤ wr.heap.size := Nat.le_trans (Nat.le_trans HBW.out.2.1 HB67.out) HBB.out.size
      have HBB2 := Lib.hid (HBB.out.trans (HY0.out.mono hbase))
      have HLOWY := Lib.hid (ext_trans HLOW.out HY0.out)
      clear HS0 HR HK HBB hbase HLOW H5
      refine wpAnyH_take (i := 0) (v := ?_) (by simp only [List.getElem?_toArray, List.getElem?_cons_zero]; rfl) (by kernel_rfl) (by kernel_rfl) (by kernel_rfl) (fun _ _ _ h => h) (Or.inl ⟨by rfl, ?_⟩) HPY.out ?_
      rotate_left
      · intro w hSw
        (try dsimp only at hSw)
        obtain ⟨q0_, q1_, q2_, q3_⟩ := hSw
        go_simp
        try with_reducible rfl
      try simp only [Act.put, List.setIfInBounds_toArray, List.set_cons_zero, List.set_cons_succ]
      refine wpAnyH_take (i := 1) (v := ?_) (by simp only [List.getElem?_toArray, List.getElem?_cons_zero, List.getElem?_cons_succ]; rfl) (by kernel_rfl) (by kernel_rfl) (by kernel_rfl) (fun _ _ _ h => h) (Or.inl ⟨by rfl, ?_⟩) HPY.out ?_
      rotate_left
      · intro w hSw
        (try dsimp only at hSw)
        obtain ⟨q0_, q1_, q2_, q3_⟩ := hSw
        go_simp
        try with_reducible rfl
      try simp only [Act.put, List.setIfInBounds_toArray, List.set_cons_zero, List.set_cons_succ]
      refine wpAnyH_take (i := 2) (v := ?_) (by simp only [List.getElem?_toArray, List.getElem?_cons_zero, List.getElem?_cons_succ]; rfl) (by kernel_rfl) (by kernel_rfl) (by kernel_rfl) (fun _ _ _ h => h) (Or.inl ⟨by rfl, ?_⟩) HPY.out ?_
      rotate_left
      · intro w hSw
        (try dsimp only at hSw)
        obtain ⟨q0_, q1_, q2_, q3_⟩ := hSw
        go_simp
        try with_reducible rfl
      try simp only [Act.put, List.setIfInBounds_toArray, List.set_cons_zero, List.set_cons_succ]
      refine wpAnyH_take (i := 3) (v := ?_) (by simp only [List.getElem?_toArray, List.getElem?_cons_zero, List.getElem?_cons_succ]; rfl) (by kernel_rfl) (by kernel_rfl) (by kernel_rfl) (fun _ _ _ h => h) (Or.inl ⟨by rfl, ?_⟩) HPY.out ?_
      rotate_left
      · intro w hSw
        (try dsimp only at hSw)
        obtain ⟨q0_, q1_, q2_, q3_⟩ := hSw
        go_simp
        try with_reducible rfl
      try simp only [Act.put, List.setIfInBounds_toArray, List.set_cons_zero, List.set_cons_succ]
      refine wpAnyH_take (i := 4) (v := ?_) (by simp only [List.getElem?_toArray, List.getElem?_cons_zero, List.getElem?_cons_succ]; rfl) (by kernel_rfl) (by kernel_rfl) (by kernel_rfl) (fun _ _ _ h => h) (Or.inl ⟨by rfl, ?_⟩) HPY.out ?_
      rotate_left
      · intro w hSw
        (try dsimp only at hSw)
        obtain ⟨q0_, q1_, q2_, q3_⟩ := hSw
        go_simp
        try with_reducible rfl
      try simp only [Act.put, List.setIfInBounds_toArray, List.set_cons_zero, List.set_cons_succ]
      refine wpAnyH_take (i := 5) (v := ?_) (by simp only [List.getElem?_toArray, List.getElem?_cons_zero, List.getElem?_cons_succ]; rfl) (by kernel_rfl) (by kernel_rfl) (by kernel_rfl) (fun _ _ _ h => h) (Or.inl ⟨by rfl, ?_⟩) HPY.out ?_
      rotate_left
      · intro w hSw
        (try dsimp only at hSw)
        obtain ⟨q0_, q1_, q2_, q3_⟩ := hSw
        go_simp
        try with_reducible rfl
      try simp only [Act.put, List.setIfInBounds_toArray, List.set_cons_zero, List.set_cons_succ]
      refine wpAnyH_take (i := 6) (v := ?_) (by simp only [List.getElem?_toArray, List.getElem?_cons_zero, List.getElem?_cons_succ]; rfl) (by kernel_rfl) (by kernel_rfl) (by kernel_rfl) (fun _ _ _ h => h) (Or.inl ⟨by rfl, ?_⟩) HPY.out ?_
      rotate_left
      · intro w hSw
        (try dsimp only at hSw)
        obtain ⟨q0_, q1_, q2_, q3_⟩ := hSw
        go_simp
        try with_reducible rfl
      try simp only [Act.put, List.setIfInBounds_toArray, List.set_cons_zero, List.set_cons_succ]
      refine wpAnyH_take (i := 7) (v := ?_) (by simp only [List.getElem?_toArray, List.getElem?_cons_zero, List.getElem?_cons_succ]; rfl) (by kernel_rfl) (by kernel_rfl) (by kernel_rfl) (fun _ _ _ h => h) (Or.inl ⟨by rfl, ?_⟩) HPY.out ?_
      rotate_left
      · intro w hSw
        (try dsimp only at hSw)
        obtain ⟨q0_, q1_, q2_, q3_⟩ := hSw
        go_simp
        try with_reducible rfl
      try simp only [Act.put, List.setIfInBounds_toArray, List.set_cons_zero, List.set_cons_succ]
      refine wpAnyH_take (i := 8) (v := ?_) (by simp only [List.getElem?_toArray, List.getElem?_cons_zero, List.getElem?_cons_succ]; rfl) (by kernel_rfl) (by kernel_rfl) (by kernel_rfl) (fun _ _ _ h => h) (Or.inl ⟨by rfl, ?_⟩) HPY.out ?_
      rotate_left
      · intro w hSw
        (try dsimp only at hSw)
        obtain ⟨q0_, q1_, q2_, q3_⟩ := hSw
        go_simp
        try with_reducible rfl
      try simp only [Act.put, List.setIfInBounds_toArray, List.set_cons_zero, List.set_cons_succ]
      refine wpAnyH_take (i := 9) (v := ?_) (by simp only [List.getElem?_toArray, List.getElem?_cons_zero, List.getElem?_cons_succ]; rfl) (by kernel_rfl) (by kernel_rfl) (by kernel_rfl) (fun _ _ _ h => h) (Or.inl ⟨by rfl, ?_⟩) HPY.out ?_
      rotate_left
      · intro w hSw
        (try dsimp only at hSw)
        obtain ⟨q0_, q1_, q2_, q3_⟩ := hSw
        go_simp
        try with_reducible rfl
      try simp only [Act.put, List.setIfInBounds_toArray, List.set_cons_zero, List.set_cons_succ]
      by_cases heq : an = tn
      · have HQ0 : Hid (Q 0 k = false) := HQA.out (by
          by_cases e : an = 2
          · exact .inr (HB2.out.2 (by omega))
          · exact .inl (fun h => e (HA2.out.1 h)))
        subst heq
        refine wpAnyH_take (i := 10) (v := ?_) (by simp only [List.getElem?_toArray, List.getElem?_cons_zero, List.getElem?_cons_succ]; rfl) (by kernel_rfl) (by kernel_rfl) (by kernel_rfl) (fun _ _ _ h => h) (Or.inl ⟨by rfl, ?_⟩) HPY.out ?_
        rotate_left
        · intro w hSw
          (try dsimp only at hSw)
          obtain ⟨q0_, q1_, q2_, q3_⟩ := hSw
          go_simp
          try with_reducible rfl
        try simp only [Act.put, List.setIfInBounds_toArray, List.set_cons_zero, List.set_cons_succ]
        refine wpAnyH_take (i := 11) (v := ?_) (by simp only [List.getElem?_toArray, List.getElem?_cons_zero, List.getElem?_cons_succ]; rfl) (by kernel_rfl) (by kernel_rfl) (by kernel_rfl) (fun _ _ _ h => h) (Or.inl ⟨by rfl, ?_⟩) HPY.out ?_
        rotate_left
        · intro w hSw
          (try dsimp only at hSw)
          obtain ⟨q0_, q1_, q2_, q3_⟩ := hSw
          go_simp
          try with_reducible rfl
        try simp only [Act.put, List.setIfInBounds_toArray, List.set_cons_zero, List.set_cons_succ]
        refine wpAnyH_take (i := 12) (v := undef) (by simp only [List.getElem?_toArray, List.getElem?_cons_zero, List.getElem?_cons_succ]; rfl) (by kernel_rfl) (by kernel_rfl) (by kernel_rfl) (fun _ _ _ h => h) (Or.inr ⟨by rfl, rfl⟩) HPY.out ?_
        try simp only [Act.put, List.setIfInBounds_toArray, List.set_cons_zero, List.set_cons_succ]
        refine wpAnyH_take (i := 13) (v := undef) (by simp only [List.getElem?_toArray, List.getElem?_cons_zero, List.getElem?_cons_succ]; rfl) (by kernel_rfl) (by kernel_rfl) (by kernel_rfl) (fun _ _ _ h => h) (Or.inr ⟨by rfl, rfl⟩) HPY.out ?_
        try simp only [Act.put, List.setIfInBounds_toArray, List.set_cons_zero, List.set_cons_succ]
        refine wpAnyH_take (i := 14) (v := undef) (by simp only [List.getElem?_toArray, List.getElem?_cons_zero, List.getElem?_cons_succ]; rfl) (by kernel_rfl) (by kernel_rfl) (by kernel_rfl) (fun _ _ _ h => h) (Or.inr ⟨by rfl, rfl⟩) HPY.out ?_
        try simp only [Act.put, List.setIfInBounds_toArray, List.set_cons_zero, List.set_cons_succ]
        refine wpAnyH_take (i := 15) (v := undef) (by simp only [List.getElem?_toArray, List.getElem?_cons_zero, List.getElem?_cons_succ]; rfl) (by kernel_rfl) (by kernel_rfl) (by kernel_rfl) (fun _ _ _ h => h) (Or.inr ⟨by rfl, rfl⟩) HPY.out ?_
        try simp only [Act.put, List.setIfInBounds_toArray, List.set_cons_zero, List.set_cons_succ]
        refine wpAnyH_take (i := 16) (v := undef) (by simp only [List.getElem?_toArray, List.getElem?_cons_zero, List.getElem?_cons_succ]; rfl) (by kernel_rfl) (by kernel_rfl) (by kernel_rfl) (fun _ _ _ h => h) (Or.inr ⟨by rfl, rfl⟩) HPY.out ?_
        try simp only [Act.put, List.setIfInBounds_toArray, List.set_cons_zero, List.set_cons_succ]
        refine wpAnyH_take (i := 17) (v := undef) (by simp only [List.getElem?_toArray, List.getElem?_cons_zero, List.getElem?_cons_succ]; rfl) (by kernel_rfl) (by kernel_rfl) (by kernel_rfl) (fun _ _ _ h => h) (Or.inr ⟨by rfl, rfl⟩) HPY.out ?_
        try simp only [Act.put, List.setIfInBounds_toArray, List.set_cons_zero, List.set_cons_succ]
        refine wpAnyH_take (i := 18) (v := ?_) (by simp only [List.getElem?_toArray, List.getElem?_cons_zero, List.getElem?_cons_succ]; rfl) (by kernel_rfl) (by kernel_rfl) (by kernel_rfl) (fun _ _ _ h => h) (Or.inl ⟨by rfl, ?_⟩) HPY.out ?_
        rotate_left
        · intro w hSw
          (try dsimp only at hSw)
          obtain ⟨q0_, q1_, q2_, q3_⟩ := hSw
          go_simp
          try with_reducible rfl
        try simp only [Act.put, List.setIfInBounds_toArray, List.set_cons_zero, List.set_cons_succ]
        refine wpAnyH_done (by kernel_rfl) ?_ _
        refine NoPanic.normal ?_
        obtain ⟨c1, c2, v1, v2⟩ := HPY.out
        by_cases e2 : an = 2
        · have f1 : ((an : Int) == 2) = true := by simp; omega
          go_wp2
          go_roundw
          case rel => exact ⟨k + 1, by omega, by go_num, by go_num, HR2.out.congr (fun j _ => rowsI_no k j HQ0.out), HK2.out, HBB2.out⟩
          case measure => simp [intOf]; omega
        · have f1 : ((an : Int) == 2) = false := by simp; omega
          go_wp2
          go_roundw
          case rel => exact ⟨k + 1, by omega, by go_num, by go_num, HR2.out.congr (fun j _ => rowsI_no k j HQ0.out), HK2.out, HBB2.out⟩
          case measure => simp [intOf]; omega
      · have ha2 : an = 2 := by omega
        have ht2 : tn ≠ 2 := by omega
        have HAA : Hid (a = 2) := HA2.out.2 ha2
        have HBBN : Hid (b ≠ 2) := fun e => ht2 (HB2.out.1 e)
        have f0 : ((an : Int) == (tn : Int)) = false := by simp; omega
        have f0b : ((an : Int) != (tn : Int)) = true := by simp; omega
        have f1b : ((an : Int) != 2) = false := by simp; omega
        have f2b : ((tn : Int) != 2) = true := by simp; omega
        have f1 : ((an : Int) == 2) = true := by simp; omega
        have f2 : ((tn : Int) == 2) = false := by simp; omega
        clear ha2 ht2 hab2
        refine wpAnyH_take (i := 10) (v := ?_) (by simp only [List.getElem?_toArray, List.getElem?_cons_zero, List.getElem?_cons_succ]; rfl) (by kernel_rfl) (by kernel_rfl) (by kernel_rfl) (fun _ _ _ h => h) (Or.inl ⟨by rfl, ?_⟩) HPY.out ?_
        rotate_left
        · intro w hSw
          (try dsimp only at hSw)
          obtain ⟨q0_, q1_, q2_, q3_⟩ := hSw
          go_simp
          try with_reducible rfl
        try simp only [Act.put, List.setIfInBounds_toArray, List.set_cons_zero, List.set_cons_succ]
        refine wpAnyH_take (i := 11) (v := ?_) (by simp only [List.getElem?_toArray, List.getElem?_cons_zero, List.getElem?_cons_succ]; rfl) (by kernel_rfl) (by kernel_rfl) (by kernel_rfl) (fun _ _ _ h => h) (Or.inl ⟨by rfl, ?_⟩) HPY.out ?_
        rotate_left
        · intro w hSw
          (try dsimp only at hSw)
          obtain ⟨q0_, q1_, q2_, q3_⟩ := hSw
          go_simp
          try with_reducible rfl
        try simp only [Act.put, List.setIfInBounds_toArray, List.set_cons_zero, List.set_cons_succ]
        refine wpAnyH_take (i := 12) (v := ?_) (by simp only [List.getElem?_toArray, List.getElem?_cons_zero, List.getElem?_cons_succ]; rfl) (by kernel_rfl) (by kernel_rfl) (by kernel_rfl) (fun _ _ _ h => h) (Or.inl ⟨by rfl, ?_⟩) HPY.out ?_
        rotate_left
        · intro w hSw
          (try dsimp only at hSw)
          obtain ⟨q0_, q1_, q2_, q3_⟩ := hSw
          go_simp
          try with_reducible rfl
        try simp only [Act.put, List.setIfInBounds_toArray, List.set_cons_zero, List.set_cons_succ]
        refine wpAnyH_take (i := 13) (v := ?_) (by simp only [List.getElem?_toArray, List.getElem?_cons_zero, List.getElem?_cons_succ]; rfl) (by kernel_rfl) (by kernel_rfl) (by kernel_rfl) (fun _ _ _ h => h) (Or.inl ⟨by rfl, ?_⟩) HPY.out ?_
        rotate_left
        · intro w hSw
          (try dsimp only at hSw)
          obtain ⟨q0_, q1_, q2_, q3_⟩ := hSw
          go_simp
          try with_reducible rfl
        try simp only [Act.put, List.setIfInBounds_toArray, List.set_cons_zero, List.set_cons_succ]
        refine wpAnyH_take (i := 14) (v := ?_) (by simp only [List.getElem?_toArray, List.getElem?_cons_zero, List.getElem?_cons_succ]; rfl) (by kernel_rfl) (by kernel_rfl) (by kernel_rfl) (fun _ _ _ h => h) (Or.inl ⟨by rfl, ?_⟩) HPY.out ?_
        rotate_left
        · intro w hSw
          (try dsimp only at hSw)
          obtain ⟨q0_, q1_, q2_, q3_⟩ := hSw
          go_simp
          try with_reducible rfl
        try simp only [Act.put, List.setIfInBounds_toArray, List.set_cons_zero, List.set_cons_succ]
        refine wpAnyH_take (i := 15) (v := ?_) (by simp only [List.getElem?_toArray, List.getElem?_cons_zero, List.getElem?_cons_succ]; rfl) (by kernel_rfl) (by kernel_rfl) (by kernel_rfl) (fun _ _ _ h => h) (Or.inl ⟨by rfl, ?_⟩) HPY.out ?_
        rotate_left
        · intro w hSw
          (try dsimp only at hSw)
          obtain ⟨q0_, q1_, q2_, q3_⟩ := hSw
          go_simp
          try with_reducible rfl
        try simp only [Act.put, List.setIfInBounds_toArray, List.set_cons_zero, List.set_cons_succ]
        refine wpAnyH_take (i := 16) (v := ?_) (by simp only [List.getElem?_toArray, List.getElem?_cons_zero, List.getElem?_cons_succ]; rfl) (by kernel_rfl) (by kernel_rfl) (by kernel_rfl) (fun _ _ _ h => h) (Or.inl ⟨by rfl, ?_⟩) HPY.out ?_
        rotate_left
        · intro w hSw
          (try dsimp only at hSw)
          obtain ⟨q0_, q1_, q2_, q3_⟩ := hSw
          go_simp
          try with_reducible rfl
        try simp only [Act.put, List.setIfInBounds_toArray, List.set_cons_zero, List.set_cons_succ]
        refine wpAnyH_take (i := 17) (v := ?_) (by simp only [List.getElem?_toArray, List.getElem?_cons_zero, List.getElem?_cons_succ]; rfl) (by kernel_rfl) (by kernel_rfl) (by kernel_rfl) (fun _ _ _ h => h) (Or.inl ⟨by rfl, ?_⟩) HPY.out ?_
        rotate_left
        · intro w hSw
          (try dsimp only at hSw)
          obtain ⟨q0_, q1_, q2_, q3_⟩ := hSw
          go_simp
          try with_reducible rfl
        try simp only [Act.put, List.setIfInBounds_toArray, List.set_cons_zero, List.set_cons_succ]
        refine wpAnyH_take (i := 18) (v := ?_) (by simp only [List.getElem?_toArray, List.getElem?_cons_zero, List.getElem?_cons_succ]; rfl) (by kernel_rfl) (by kernel_rfl) (by kernel_rfl) (fun _ _ _ h => h) (Or.inl ⟨by rfl, ?_⟩) HPY.out ?_
        rotate_left
        · intro w hSw
          (try dsimp only at hSw)
          obtain ⟨q0_, q1_, q2_, q3_⟩ := hSw
          go_simp
          try with_reducible rfl
        try simp only [Act.put, List.setIfInBounds_toArray, List.set_cons_zero, List.set_cons_succ]
        refine wpAnyH_done (by kernel_rfl) ?_ _
        refine NoPanic.normal ?_
        have HPZ := Lib.hid HPY.out
        obtain ⟨c1, c2, v1, v2⟩ := HPY.out
        by_cases hA : k < bn
        · obtain ⟨bb, bo, rfl, _⟩ := HBT.out.addr (show 0 < bn by omega)
          have hbv := (HBT.out.below HLOWY.out).bool_at k hA
          obtain ⟨q, hq⟩ : ∃ q, q = bits.getD k false := ⟨_, rfl⟩
          rw [← hq] at hbv
          have HQ1 : Hid (Q 0 k = q) := by unfold Hid; rw [HQB.out HAA.out HBBN.out, hq]
          have g1 : decide ((k : Int) < (bn : Int)) = true := by simp; omega
          have g2 : decide (k < bn) = true := by simpa using hA
          have hkb : (k : Int) < (bn : Int) := by omega
          clear hq
          cases q with
          | false =>
            go_wp2
            go_roundw
            case rel => exact ⟨k + 1, by omega, by go_num, by go_num, HR2.out.congr (fun j _ => rowsI_no k j HQ1.out), HK2.out, HBB2.out⟩
            case measure => simp [intOf]; omega
          | true =>
            have hkl : 0 < L.length := by rw [HLL2.out]; omega
            have hL0 : L.getD 0 slc0 = (ya1, st.n1, yc1) := by rw [HLE.out]; rfl
            have HR3 := Lib.hid (HR2.out.below ((Below.refl _ Y0).drew))
            have HK3 := Lib.hid (HK2.out.below ((Below.refl _ Y0).drew))
            have HBB3 := Lib.hid (HBB2.out.trans (((Below.refl Y0.heap.size Y0).drew).mono (Nat.le_trans (Nat.le_trans HBW.out.2.1 HB67.out) HBB2.out.size)))
            have hrk := HR3.out 0 hkl
            rw [hL0, rowsI_len, show (rowG t 0).length = st.n1 from HI1.out] at hrk
            unfold slV at hrk
            simp only at hrk
            obtain ⟨g, hg⟩ : ∃ g, ya1 = some ⟨g, 0, none⟩ := by
              rcases hrk.2 with ⟨_, h2⟩ | ⟨g, cap, cur, h2, _⟩
              · omega
              · cases h2; exact ⟨g, rfl⟩
            subst hg
            obtain ⟨_, cur, hcur⟩ := row_here hrk
            have hby := (row_sees_slice hrk).2.byte k hlt
            rw [Nat.zero_add, rowsI_here k HKI.out, ← HBV.out, ← HTN.out] at hby
            have d2 := unfrozen_of_block hcur k
            have hge : base ≤ g := by
              rcases hrk.2 with ⟨_, h2⟩ | ⟨g', cap, cur, h2, h3, _⟩
              · omega
              · cases h2; exact h3
            have HGE := Lib.hid hge
            have HCUR := Lib.hid hcur
            have HSET := Lib.hid (fun (u : UInt8) (G' : Nat → List UInt8) => RowsL.setAt (G' := G') HR3.out HAP.out hkl hL0 k u)
            have y1 := cell_of_block (HK3.out _ _ _ _ HCT.out.yb (by decide)) 1
            have HSD := Lib.hid (And.intro y1 hby)
            obtain ⟨fv, hfv⟩ : ∃ fv : Int, fv = ((1 - b).toNat : Int) := ⟨_, rfl⟩
            have HFV : Hid (Value.int .u8 fv = bv (1 - b)) := by unfold Hid; rw [hfv]; rfl
            have Wf : IntKind.u8.wrap ((1 : Int) - (tn : Int)) = fv := by
              have h1 := u8_flip (b := b) (by rw [← HTN.out]; exact htn2) HBBN.out
              rw [hfv, h1.2, ← HTN.out, IntKind.wrap_u8]
              have h2 := h1.2
              rw [← HTN.out] at h2
              omega
            clear hrk hcur hge hkl hL0 hfv y1
            go_upto_region 18 with fail
            refine wp_region_noPanic ?_
            refine wp_region_peelN 10 (by kernel_rfl) rfl (by simp only [List.getElem?_toArray, List.getElem?_cons_zero, List.getElem?_cons_succ]; rfl) (by kernel_rfl) ?_
            simp only [List.pop_toArray, List.dropLast_cons_cons, List.dropLast_singleton]
            refine wpAny_of_held (S := fun w' => w'.cell? ⟨YB, 1, none⟩ = some (.slice (some ⟨g, 0, none⟩) st.n1 yc1) ∧ w'.cell? ⟨g, k, none⟩ = some (.int .u8 (tn : Int))) _ _ _ _ ?_
            refine wpAnyH_take (i := 0) (v := ?_) (by simp only [List.getElem?_toArray, List.getElem?_cons_zero]; rfl) (by kernel_rfl) (by kernel_rfl) (by kernel_rfl) (fun _ _ _ h => h) (Or.inl ⟨by rfl, ?_⟩) HSD.out ?_
            rotate_left
            · intro w hSw
              (try dsimp only at hSw)
              obtain ⟨q0_, q1_⟩ := hSw
              go_simp
              try with_reducible rfl
            try simp only [Act.put, List.setIfInBounds_toArray, List.set_cons_zero, List.set_cons_succ]
            refine wpAnyH_take (i := 1) (v := ?_) (by simp only [List.getElem?_toArray, List.getElem?_cons_zero, List.getElem?_cons_succ]; rfl) (by kernel_rfl) (by kernel_rfl) (by kernel_rfl) (fun _ _ _ h => h) (Or.inl ⟨by rfl, ?_⟩) HSD.out ?_
            rotate_left
            · intro w hSw
              (try dsimp only at hSw)
              obtain ⟨q0_, q1_⟩ := hSw
              go_simp
              try with_reducible rfl
            try simp only [Act.put, List.setIfInBounds_toArray, List.set_cons_zero, List.set_cons_succ]
            refine wpAnyH_take (i := 2) (v := ?_) (by simp only [List.getElem?_toArray, List.getElem?_cons_zero, List.getElem?_cons_succ]; rfl) (by kernel_rfl) (by kernel_rfl) (by kernel_rfl) (fun _ _ _ h => h) (Or.inl ⟨by rfl, ?_⟩) HSD.out ?_
            rotate_left
            · intro w hSw
              (try dsimp only at hSw)
              obtain ⟨q0_, q1_⟩ := hSw
              go_simp
              try with_reducible rfl
            try simp only [Act.put, List.setIfInBounds_toArray, List.set_cons_zero, List.set_cons_succ]
            refine wpAnyH_take (i := 3) (v := ?_) (by simp only [List.getElem?_toArray, List.getElem?_cons_zero, List.getElem?_cons_succ]; rfl) (by kernel_rfl) (by kernel_rfl) (by kernel_rfl) (fun _ _ _ h => h) (Or.inl ⟨by rfl, ?_⟩) HSD.out ?_
            rotate_left
            · intro w hSw
              (try dsimp only at hSw)
              obtain ⟨q0_, q1_⟩ := hSw
              go_simp
              try with_reducible rfl
            try simp only [Act.put, List.setIfInBounds_toArray, List.set_cons_zero, List.set_cons_succ]
            refine wpAnyH_take (i := 4) (v := ?_) (by simp only [List.getElem?_toArray, List.getElem?_cons_zero, List.getElem?_cons_succ]; rfl) (by kernel_rfl) (by kernel_rfl) (by kernel_rfl) (fun _ _ _ h => h) (Or.inl ⟨by rfl, ?_⟩) HSD.out ?_
            rotate_left
            · intro w hSw
              (try dsimp only at hSw)
              obtain ⟨q0_, q1_⟩ := hSw
              go_simp
              try with_reducible rfl
            try simp only [Act.put, List.setIfInBounds_toArray, List.set_cons_zero, List.set_cons_succ]
            refine wpAnyH_take (i := 5) (v := ?_) (by simp only [List.getElem?_toArray, List.getElem?_cons_zero, List.getElem?_cons_succ]; rfl) (by kernel_rfl) (by kernel_rfl) (by kernel_rfl) (fun _ _ _ h => h) (Or.inl ⟨by rfl, ?_⟩) HSD.out ?_
            rotate_left
            · intro w hSw
              (try dsimp only at hSw)
              obtain ⟨q0_, q1_⟩ := hSw
              go_simp
              try with_reducible rfl
            try simp only [Act.put, List.setIfInBounds_toArray, List.set_cons_zero, List.set_cons_succ]
            refine wpAnyH_take (i := 6) (v := ?_) (by simp only [List.getElem?_toArray, List.getElem?_cons_zero, List.getElem?_cons_succ]; rfl) (by kernel_rfl) (by kernel_rfl) (by kernel_rfl) (fun _ _ _ h => h) (Or.inl ⟨by rfl, ?_⟩) HSD.out ?_
            rotate_left
            · intro w hSw
              (try dsimp only at hSw)
              obtain ⟨q0_, q1_⟩ := hSw
              go_simp
              try with_reducible rfl
            try simp only [Act.put, List.setIfInBounds_toArray, List.set_cons_zero, List.set_cons_succ]
            refine wpAnyH_take (i := 7) (v := ?_) (by simp only [List.getElem?_toArray, List.getElem?_cons_zero, List.getElem?_cons_succ]; rfl) (by kernel_rfl) (by kernel_rfl) (by kernel_rfl) (fun _ _ _ h => h) (Or.inl ⟨by rfl, ?_⟩) HSD.out ?_
            rotate_left
            · intro w hSw
              (try dsimp only at hSw)
              obtain ⟨q0_, q1_⟩ := hSw
              go_simp
              try with_reducible rfl
            try simp only [Act.put, List.setIfInBounds_toArray, List.set_cons_zero, List.set_cons_succ]
            refine wpAnyH_take (i := 8) (v := ?_) (by simp only [List.getElem?_toArray, List.getElem?_cons_zero, List.getElem?_cons_succ]; rfl) (by kernel_rfl) (by kernel_rfl) (by kernel_rfl) (fun _ _ _ h => h) (Or.inl ⟨by rfl, ?_⟩) HSD.out ?_
            rotate_left
            · intro w hSw
              (try dsimp only at hSw)
              obtain ⟨q0_, q1_⟩ := hSw
              go_simp
              try with_reducible rfl
            try simp only [Act.put, List.setIfInBounds_toArray, List.set_cons_zero, List.set_cons_succ]
            refine wpAnyH_take (i := 9) (v := ?_) (by simp only [List.getElem?_toArray, List.getElem?_cons_zero, List.getElem?_cons_succ]; rfl) (by kernel_rfl) (by kernel_rfl) (by kernel_rfl) (fun _ _ _ h => h) (Or.inl ⟨by rfl, ?_⟩) HSD.out ?_
            rotate_left
            · intro w hSw
              (try dsimp only at hSw)
              obtain ⟨q0_, q1_⟩ := hSw
              go_simp
              try with_reducible rfl
            try simp only [Act.put, List.setIfInBounds_toArray, List.set_cons_zero, List.set_cons_succ]
            refine wpAnyH_done (by kernel_rfl) ?_ _
            unfold LastQ wpOp
            simp only [List.getElem?_toArray, List.getElem?_cons_zero, List.getElem?_cons_succ]
            rw [if_pos (by rfl)]
            refine Or.inl ?_
            go_simp
            refine NoPanic.normal ?_
            go_wp2
            go_roundw
            case rel =>
              refine ⟨k + 1, by omega, by go_num, by go_num, ?_, HK3.out.set HCUR.out, HBB3.out.setCell (p := ⟨g, k, none⟩) HGE.out _⟩
              rw [HFV.out]
              exact HSET.out (1 - b) _ (by rw [HBV.out]; exact rowsI_yes k HQ1.out HKI.out) (fun j hj => rowsI_else _ _ j hj)
            case measure => simp [intOf]; omega
        · have HQ1 : Hid (Q 0 k = false) := by unfold Hid; rw [HQB.out HAA.out HBBN.out]; simp [List.getD, List.getElem?_eq_none (show bits.length ≤ k by rw [HBL.out]; omega)]
          have g1 : decide ((k : Int) < (bn : Int)) = false := by simp; omega
          have g2 : decide (k < bn) = false := by simpa using hA
          go_wp2
          go_roundw
          case rel => exact ⟨k + 1, by omega, by go_num, by go_num, HR2.out.congr (fun j _ => rowsI_no k j HQ1.out), HK2.out, HBB2.out⟩
          case measure => simp [intOf]; omega
    · obtain rfl : k = st.n1 := by omega
      have HRZ : Hid (RowsL wr base L (rowsF Q t 0 0)) := HR.out.congr (fun j _ => by rw [rowsF_start, HI1.out])
      have x2 := cell_of_block (HK.out _ _ _ _ HCT.out.xb (by decide)) 2
      clear HR HLOW H5 W2' hlt hk
      go_wp2
      clear x2
      go_loopw [140, 12, 10, 13] (fun iv _ av _ wr => ∃ (k A : Nat), k ≤ st.n2 ∧ iv = .int .i64 k ∧ av = .int .i64 A ∧ Hid (A = t.init.length + k * i) ∧ Hid (RowsL wr base L (rowsF Q t k 0)) ∧ Hid (KeptNB W7 wr) ∧ Hid (Below base W7 wr)) (fun iv _ _ _ _ => st.n2 - (intOf iv).toNat)
      case atStart => exact ⟨0, st.n1, Nat.zero_le _, rfl, rfl, by unfold Hid; rw [Nat.zero_mul, HI1.out]; rfl, HRZ.out, HK.out, HBB.out⟩
      case round =>
        clear HRZ HK HBB
        obtain ⟨k, A0, hk, rfl, rfl, hA0, hR, hK, hB⟩ := hrel
        have HA0 := Lib.hid hA0.out
        have HR := Lib.hid hR.out
        have HK := Lib.hid hK.out
        have HBB := Lib.hid hB.out
        have HLOW := Lib.hid (show Below w.heap.size w wr from HL7.out.trans (hB.out.mono HBW.out.1))
        have H5 := Lib.hid (show Below W5.heap.size W5 wr by rw [← HBE.out]; exact HB57.out.trans hB.out)
        clear hR hK hB hA0
        have W2' : IntKind.i64.wrap ((k : Int) + 1) = (k : Int) + 1 := IntWalk.i64_in _ (by omega)
        by_cases hlt : k < st.n2
        · have HA0B : Hid (A0 ≤ 5000000) := by
            have h1 := HA0.out
            have h2 := HI1.out
            have h3 : k * i ≤ 256 * 16384 := Nat.mul_le_mul (by omega) hi2
            unfold Hid
            omega
          have hkt : k < t.frames.length := by rw [HN2.out]; exact hlt
          obtain ⟨xb, xo, hxa, _⟩ := HTX5.out.s2.row.addr (show 0 < st.n2 by omega)
          simp only at hxa
          subst hxa
          obtain ⟨tb, tq, hta, _⟩ := HT.out.s2.row.addr (show 0 < st.n2 by omega)
          have hxc := (HTX5.out.s2.below H5.out).cellAt k hlt
          have HXE := Lib.hid (fun W (hb : Below W5.heap.size W5 W) => (HTX5.out.s2.below hb).each k (by rw [freeT_frames]; exact hkt))
          have HTE := Lib.hid (fun W (hb : Below w.heap.size w W) => (HT.out.s2.below hb).each k hkt)
          have hts := HT.out.s2.below HLOW.out
          rw [hta] at hts
          have htc := hts.cellAt k hlt
          simp only at hxc HXE
          obtain ⟨x, hx⟩ : ∃ x : Slc, x = xss.getD k slc0 := ⟨_, rfl⟩
          obtain ⟨tx, htx⟩ : ∃ x : Slc, x = st.ss.getD k slc0 := ⟨_, rfl⟩
          rw [← hx] at hxc HXE
          rw [← htx] at htc HTE
          obtain ⟨xra, xrn, xrc⟩ := x
          obtain ⟨tra, trn, trc⟩ := tx
          simp only at hxc htc HXE HTE
          have hxn : i = xrn := by
            have h1 := (HXE.out wr H5.out).lenMap
            rw [freeT_frame c t ms hkt, fillP_len, HW.out k hlt] at h1
            exact h1
          have htn : i = trn := by
            have h1 := (HTE.out wr HLOW.out).lenMap
            rw [HW.out k hlt] at h1
            exact h1
          subst hxn
          subst htn
          have c1 : wr.cell? ⟨XB, 2, none⟩ = some (.slice (some ⟨xb, xo, none⟩) st.n2 xc2) := cell_of_block (HK.out _ _ _ _ HCT.out.xb (by decide)) 2
          have c2 : wr.cell? ⟨w.heap.size + 1, 2, none⟩ = some (.slice (some ⟨tb, tq, none⟩) st.n2 st.c2) := (cell_of_block (HK.out _ _ _ _ HCT.out.tr (by decide)) 2).trans (by rw [← hta]; rfl)
          have HS0 := Lib.hid (And.intro c1 (And.intro c2 (And.intro hxc htc)))
          have HTA := Lib.hid hta
          have HX1 := Lib.hid hx
          have HTX1 := Lib.hid htx
          have hkz : (0 : Int) ≤ (k : Int) := by omega
          have hkn : (k : Int) < (st.n2 : Int) := by omega
          have HKT := Lib.hid hkt
          have HKL := Lib.hid hlt
          have HYL : Hid (L.getD (k + 1) slc0 = yss.getD k slc0) := by unfold Hid; rw [HLE.out]; simp
          have HYLN : Hid ((L.getD (k + 1) slc0).2.1 = i) := by
            unfold Hid
            rw [HLEN.out (k + 1) (by omega)]
            exact HW.out k hlt
          clear c1 c2 hxc htc hts hta hx htx hkt
          go_upto_region 24 with fail
          refine wp_region_noPanic ?_
          refine wp_region_held (S := fun w' => w'.cell? ⟨XB, 2, none⟩ = some (.slice (some ⟨xb, xo, none⟩) st.n2 xc2) ∧ w'.cell? ⟨w.heap.size + 1, 2, none⟩ = some (.slice (some ⟨tb, tq, none⟩) st.n2 st.c2) ∧ w'.cell? ⟨xb, xo + k, none⟩ = some (.slice xra i xrc) ∧ w'.cell? ⟨tb, tq + k, none⟩ = some (.slice tra i trc)) (by kernel_rfl) ?_
          generalize hYY : ({ wr with drawn := wr.drawn + 1 } : World) = Y0
          have hY0 : Below wr.heap.size wr Y0 := by subst hYY; exact (Below.refl _ _).drew
          have HY0 := Lib.hid hY0
          clear hYY hY0
          have HPY := Lib.hid (keep4 HS0.out HY0.out)
          have HR2 := Lib.hid (HR.out.below HY0.out)
          have HK2 := Lib.hid (HK.out.below HY0.out)
          have HBB2 := Lib.hid (HBB.out.trans (HY0.out.mono (Nat.le_trans (Nat.le_trans HBW.out.2.1 HB67.out) HBB.out.size)))
          clear HS0 HR HK HBB HLOW H5
          refine wpAnyH_take (i := 0) (v := ?_) (by simp only [List.getElem?_toArray, List.getElem?_cons_zero]; rfl) (by kernel_rfl) (by kernel_rfl) (by kernel_rfl) (fun _ _ _ h => h) (Or.inl ⟨by rfl, ?_⟩) HPY.out ?_
          rotate_left
          · intro w hSw
            (try dsimp only at hSw)
            obtain ⟨q0_, q1_, q2_, q3_⟩ := hSw
            go_simp
            try with_reducible rfl
          try simp only [Act.put, List.setIfInBounds_toArray, List.set_cons_zero, List.set_cons_succ]
          refine wpAnyH_take (i := 1) (v := ?_) (by simp only [List.getElem?_toArray, List.getElem?_cons_zero, List.getElem?_cons_succ]; rfl) (by kernel_rfl) (by kernel_rfl) (by kernel_rfl) (fun _ _ _ h => h) (Or.inl ⟨by rfl, ?_⟩) HPY.out ?_
          rotate_left
          · intro w hSw
            (try dsimp only at hSw)
            obtain ⟨q0_, q1_, q2_, q3_⟩ := hSw
            go_simp
            try with_reducible rfl
          try simp only [Act.put, List.setIfInBounds_toArray, List.set_cons_zero, List.set_cons_succ]
          refine wpAnyH_take (i := 2) (v := ?_) (by simp only [List.getElem?_toArray, List.getElem?_cons_zero, List.getElem?_cons_succ]; rfl) (by kernel_rfl) (by kernel_rfl) (by kernel_rfl) (fun _ _ _ h => h) (Or.inl ⟨by rfl, ?_⟩) HPY.out ?_
          rotate_left
          · intro w hSw
            (try dsimp only at hSw)
            obtain ⟨q0_, q1_, q2_, q3_⟩ := hSw
            go_simp
            try with_reducible rfl
          try simp only [Act.put, List.setIfInBounds_toArray, List.set_cons_zero, List.set_cons_succ]
          refine wpAnyH_take (i := 3) (v := ?_) (by simp only [List.getElem?_toArray, List.getElem?_cons_zero, List.getElem?_cons_succ]; rfl) (by kernel_rfl) (by kernel_rfl) (by kernel_rfl) (fun _ _ _ h => h) (Or.inl ⟨by rfl, ?_⟩) HPY.out ?_
          rotate_left
          · intro w hSw
            (try dsimp only at hSw)
            obtain ⟨q0_, q1_, q2_, q3_⟩ := hSw
            go_simp
            try with_reducible rfl
          try simp only [Act.put, List.setIfInBounds_toArray, List.set_cons_zero, List.set_cons_succ]
          refine wpAnyH_take (i := 4) (v := ?_) (by simp only [List.getElem?_toArray, List.getElem?_cons_zero, List.getElem?_cons_succ]; rfl) (by kernel_rfl) (by kernel_rfl) (by kernel_rfl) (fun _ _ _ h => h) (Or.inl ⟨by rfl, ?_⟩) HPY.out ?_
          rotate_left
          · intro w hSw
            (try dsimp only at hSw)
            obtain ⟨q0_, q1_, q2_, q3_⟩ := hSw
            go_simp
            try with_reducible rfl
          try simp only [Act.put, List.setIfInBounds_toArray, List.set_cons_zero, List.set_cons_succ]
          refine wpAnyH_take (i := 5) (v := ?_) (by simp only [List.getElem?_toArray, List.getElem?_cons_zero, List.getElem?_cons_succ]; rfl) (by kernel_rfl) (by kernel_rfl) (by kernel_rfl) (fun _ _ _ h => h) (Or.inl ⟨by rfl, ?_⟩) HPY.out ?_
          rotate_left
          · intro w hSw
            (try dsimp only at hSw)
            obtain ⟨q0_, q1_, q2_, q3_⟩ := hSw
            go_simp
            try with_reducible rfl
          try simp only [Act.put, List.setIfInBounds_toArray, List.set_cons_zero, List.set_cons_succ]
          refine wpAnyH_take (i := 6) (v := ?_) (by simp only [List.getElem?_toArray, List.getElem?_cons_zero, List.getElem?_cons_succ]; rfl) (by kernel_rfl) (by kernel_rfl) (by kernel_rfl) (fun _ _ _ h => h) (Or.inl ⟨by rfl, ?_⟩) HPY.out ?_
          rotate_left
          · intro w hSw
            (try dsimp only at hSw)
            obtain ⟨q0_, q1_, q2_, q3_⟩ := hSw
            go_simp
            try with_reducible rfl
          try simp only [Act.put, List.setIfInBounds_toArray, List.set_cons_zero, List.set_cons_succ]
          refine wpAnyH_take (i := 7) (v := ?_) (by simp only [List.getElem?_toArray, List.getElem?_cons_zero, List.getElem?_cons_succ]; rfl) (by kernel_rfl) (by kernel_rfl) (by kernel_rfl) (fun _ _ _ h => h) (Or.inl ⟨by rfl, ?_⟩) HPY.out ?_
          rotate_left
          · intro w hSw
            (try dsimp only at hSw)
            obtain ⟨q0_, q1_, q2_, q3_⟩ := hSw
            go_simp
            try with_reducible rfl
          try simp only [Act.put, List.setIfInBounds_toArray, List.set_cons_zero, List.set_cons_succ]
          refine wpAnyH_take (i := 8) (v := ?_) (by simp only [List.getElem?_toArray, List.getElem?_cons_zero, List.getElem?_cons_succ]; rfl) (by kernel_rfl) (by kernel_rfl) (by kernel_rfl) (fun _ _ _ h => h) (Or.inl ⟨by rfl, ?_⟩) HPY.out ?_
          rotate_left
          · intro w hSw
            (try dsimp only at hSw)
            obtain ⟨q0_, q1_, q2_, q3_⟩ := hSw
            go_simp
            try with_reducible rfl
          try simp only [Act.put, List.setIfInBounds_toArray, List.set_cons_zero, List.set_cons_succ]
          refine wpAnyH_take (i := 9) (v := ?_) (by simp only [List.getElem?_toArray, List.getElem?_cons_zero, List.getElem?_cons_succ]; rfl) (by kernel_rfl) (by kernel_rfl) (by kernel_rfl) (fun _ _ _ h => h) (Or.inl ⟨by rfl, ?_⟩) HPY.out ?_
          rotate_left
          · intro w hSw
            (try dsimp only at hSw)
            obtain ⟨q0_, q1_, q2_, q3_⟩ := hSw
            go_simp
            try with_reducible rfl
          try simp only [Act.put, List.setIfInBounds_toArray, List.set_cons_zero, List.set_cons_succ]
          refine wpAnyH_take (i := 10) (v := ?_) (by simp only [List.getElem?_toArray, List.getElem?_cons_zero, List.getElem?_cons_succ]; rfl) (by kernel_rfl) (by kernel_rfl) (by kernel_rfl) (fun _ _ _ h => h) (Or.inl ⟨by rfl, ?_⟩) HPY.out ?_
          rotate_left
          · intro w hSw
            (try dsimp only at hSw)
            obtain ⟨q0_, q1_, q2_, q3_⟩ := hSw
            go_simp
            try with_reducible rfl
          try simp only [Act.put, List.setIfInBounds_toArray, List.set_cons_zero, List.set_cons_succ]
          refine wpAnyH_take (i := 11) (v := ?_) (by simp only [List.getElem?_toArray, List.getElem?_cons_zero, List.getElem?_cons_succ]; rfl) (by kernel_rfl) (by kernel_rfl) (by kernel_rfl) (fun _ _ _ h => h) (Or.inl ⟨by rfl, ?_⟩) HPY.out ?_
          rotate_left
          · intro w hSw
            (try dsimp only at hSw)
            obtain ⟨q0_, q1_, q2_, q3_⟩ := hSw
            go_simp
            try with_reducible rfl
          try simp only [Act.put, List.setIfInBounds_toArray, List.set_cons_zero, List.set_cons_succ]
          refine wpAnyH_take (i := 12) (v := ?_) (by simp only [List.getElem?_toArray, List.getElem?_cons_zero, List.getElem?_cons_succ]; rfl) (by kernel_rfl) (by kernel_rfl) (by kernel_rfl) (fun _ _ _ h => h) (Or.inl ⟨by rfl, ?_⟩) HPY.out ?_
          rotate_left
          · intro w hSw
            (try dsimp only at hSw)
            obtain ⟨q0_, q1_, q2_, q3_⟩ := hSw
            go_simp
            try with_reducible rfl
          try simp only [Act.put, List.setIfInBounds_toArray, List.set_cons_zero, List.set_cons_succ]
          refine wpAnyH_done (by kernel_rfl) ?_ _
          refine NoPanic.normal ?_
          obtain ⟨c1, c2, v1, v2⟩ := HPY.out
          go_wp2_with fail
          clear c1 c2 v1 v2
          go_loopw [162, 13, 10] (fun iv _ av wr => ∃ (m A : Nat), m ≤ i ∧ iv = .int .i64 m ∧ av = .int .i64 A ∧ Hid (A = A0 + m) ∧ Hid (RowsL wr base L (rowsF Q t k m)) ∧ Hid (KeptNB W7 wr) ∧ Hid (Below base W7 wr)) (fun iv _ _ _ => i - (intOf iv).toNat)
          case atStart => exact ⟨0, A0, Nat.zero_le _, rfl, rfl, rfl, HR2.out, HK2.out, HBB2.out⟩
          case round =>
            clear HR2 HK2 HBB2 HPY HY0
            obtain ⟨m, A, hm, rfl, rfl, hA, hR, hK, hB⟩ := hrel
            have HAM := Lib.hid hA.out
            have HR := Lib.hid hR.out
            have HK := Lib.hid hK.out
            have HBB := Lib.hid hB.out
            have HLOW := Lib.hid (show Below w.heap.size w wr from HL7.out.trans (hB.out.mono HBW.out.1))
            have H5 := Lib.hid (show Below W5.heap.size W5 wr by rw [← HBE.out]; exact HB57.out.trans hB.out)
            clear hR hK hB hA
            have W3' : IntKind.i64.wrap ((m : Int) + 1) = (m : Int) + 1 := IntWalk.i64_in _ (by omega)
            have W4' : IntKind.i64.wrap ((A : Int) + 1) = (A : Int) + 1 := IntWalk.i64_in _ (by have := HAM.out; have := HA0B.out; omega)
            by_cases hml : m < i
            · have hmt : m < (t.frames.getD k []).length := by rw [HW.out k HKL.out]; exact hml
              have hxs := HXE.out wr H5.out
              have hts := HTE.out wr HLOW.out
              obtain ⟨xrb, xro, rfl, _⟩ := hxs.addr (show 0 < i by omega)
              obtain ⟨trb, tro, rfl, _⟩ := hts.addr (show 0 < i by omega)
              have hxv := hxs.byte m hml
              have htv := hts.byte m hml
              obtain ⟨a, ha⟩ : ∃ a, a = ((freeT c t ms).frames.getD k []).getD m 0 := ⟨_, rfl⟩
              obtain ⟨b, hb⟩ : ∃ b, b = (t.frames.getD k []).getD m 0 := ⟨_, rfl⟩
              rw [← ha] at hxv
              rw [← hb] at htv
              have hab : a = 2 ∨ a = b := by
                rw [ha, hb, free_frame HKT.out hmt]
                split
                · exact .inl rfl
                · exact .inr rfl
              have hb2 : b.toNat ≤ 2 := by rw [hb]; exact HF.out.valF HKT.out hmt
              have HQA : Hid (a ≠ 2 ∨ b = 2 → Q (k + 1) m = false) := fun hh => by rw [HQ.out]; exact cntQ_a (by rw [ha, hb] at hh; exact hh)
              have HQB : Hid (a = 2 → b ≠ 2 → Q (k + 1) m = bits.getD A false) := fun h1 h2 => by rw [HQ.out]; exact cntQ_b (by rw [ha] at h1; exact h1) (by rw [hb] at h2; exact h2) (by rw [if_neg (by omega), Nat.add_sub_cancel, HAM.out, HA0.out])
              have HMT : Hid (m < (rowG t (k + 1)).length) := hmt
              have HBV : Hid (b = (rowG t (k + 1)).getD m 0) := hb
              obtain ⟨an, han⟩ : ∃ an, an = a.toNat := ⟨_, rfl⟩
              obtain ⟨tn, htn⟩ : ∃ tn, tn = b.toNat := ⟨_, rfl⟩
              rw [← han] at hxv
              rw [← htn] at htv
              have hab2 : an = 2 ∨ an = tn := by
                rcases hab with h | h
                · exact .inl (by rw [han, h]; rfl)
                · exact .inr (by rw [han, h, htn])
              have HA2 : Hid (a = 2 ↔ an = 2) := by unfold Hid; rw [han]; exact u8_two
              have HB2 : Hid (b = 2 ↔ tn = 2) := by unfold Hid; rw [htn]; exact u8_two
              have htn2 : tn ≤ 2 := by omega
              have HTN := Lib.hid htn
              have hxc := (HTX5.out.s2.below H5.out).cellAt k HKL.out
              simp only at hxc
              rw [← HX1.out] at hxc
              simp only at hxc
              have hts2 := HT.out.s2.below HLOW.out
              rw [HTA.out] at hts2
              have htc := hts2.cellAt k HKL.out
              rw [← HTX1.out] at htc
              simp only at htc
              have c1 : wr.cell? ⟨XB, 2, none⟩ = some (.slice (some ⟨xb, xo, none⟩) st.n2 xc2) := cell_of_block (HK.out _ _ _ _ HCT.out.xb (by decide)) 2
              have c2 : wr.cell? ⟨w.heap.size + 1, 2, none⟩ = some (.slice (some ⟨tb, tq, none⟩) st.n2 st.c2) := (cell_of_block (HK.out _ _ _ _ HCT.out.tr (by decide)) 2).trans (by rw [← HTA.out]; rfl)
              have HS0 := Lib.hid (And.intro c1 (And.intro c2 (And.intro hxc (And.intro htc (And.intro hxv htv)))))
              have hmz : (0 : Int) ≤ (m : Int) := by omega
              have hmn : (m : Int) < (i : Int) := by omega
              clear c1 c2 hxc htc hts2 hxv htv hxs hts ha hb hab han htn hmt
              go_upto_region 29 with fail
              refine wp_region_noPanic ?_
              refine wp_region_held (S := fun w' => w'.cell? ⟨XB, 2, none⟩ = some (.slice (some ⟨xb, xo, none⟩) st.n2 xc2) ∧ w'.cell? ⟨w.heap.size + 1, 2, none⟩ = some (.slice (some ⟨tb, tq, none⟩) st.n2 st.c2) ∧ w'.cell? ⟨xb, xo + k, none⟩ = some (.slice (some ⟨xrb, xro, none⟩) i xrc) ∧ w'.cell? ⟨tb, tq + k, none⟩ = some (.slice (some ⟨trb, tro, none⟩) i trc) ∧ w'.cell? ⟨xrb, xro + m, none⟩ = some (.int .u8 (an : Int)) ∧ w'.cell? ⟨trb, tro + m, none⟩ = some (.int .u8 (tn : Int))) (by kernel_rfl) ?_
              generalize hYY : ({ wr with drawn := wr.drawn + 1 } : World) = Y0
              have hY0 : Below wr.heap.size wr Y0 := by subst hYY; exact (Below.refl _ _).drew
              have HY0 := Lib.hid hY0
              clear hYY hY0
              have HPY := Lib.hid (keep6 HS0.out HY0.out)
              have HR2 := Lib.hid (HR.out.below HY0.out)
              have HK2 := Lib.hid (HK.out.below HY0.out)
              have HBB2 := Lib.hid (HBB.out.trans (HY0.out.mono (Nat.le_trans (Nat.le_trans HBW.out.2.1 HB67.out) HBB.out.size)))
              have HLOWY := Lib.hid (ext_trans HLOW.out HY0.out)
              have HAN : Hid (A + 1 = A0 + (m + 1)) := by unfold Hid; rw [HAM.out]; rfl
              clear HS0 HR HK HBB HLOW H5
              refine wpAnyH_take (i := 0) (v := ?_) (by simp only [List.getElem?_toArray, List.getElem?_cons_zero]; rfl) (by kernel_rfl) (by kernel_rfl) (by kernel_rfl) (fun _ _ _ h => h) (Or.inl ⟨by rfl, ?_⟩) HPY.out ?_
              rotate_left
              · intro w hSw
                (try dsimp only at hSw)
                obtain ⟨q0_, q1_, q2_, q3_, q4_, q5_⟩ := hSw
                go_simp
                try with_reducible rfl
              try simp only [Act.put, List.setIfInBounds_toArray, List.set_cons_zero, List.set_cons_succ]
              refine wpAnyH_take (i := 1) (v := ?_) (by simp only [List.getElem?_toArray, List.getElem?_cons_zero, List.getElem?_cons_succ]; rfl) (by kernel_rfl) (by kernel_rfl) (by kernel_rfl) (fun _ _ _ h => h) (Or.inl ⟨by rfl, ?_⟩) HPY.out ?_
              rotate_left
              · intro w hSw
                (try dsimp only at hSw)
                obtain ⟨q0_, q1_, q2_, q3_, q4_, q5_⟩ := hSw
                go_simp
                try with_reducible rfl
              try simp only [Act.put, List.setIfInBounds_toArray, List.set_cons_zero, List.set_cons_succ]
              refine wpAnyH_take (i := 2) (v := ?_) (by simp only [List.getElem?_toArray, List.getElem?_cons_zero, List.getElem?_cons_succ]; rfl) (by kernel_rfl) (by kernel_rfl) (by kernel_rfl) (fun _ _ _ h => h) (Or.inl ⟨by rfl, ?_⟩) HPY.out ?_
              rotate_left
              · intro w hSw
                (try dsimp only at hSw)
                obtain ⟨q0_, q1_, q2_, q3_, q4_, q5_⟩ := hSw
                go_simp
                try with_reducible rfl
              try simp only [Act.put, List.setIfInBounds_toArray, List.set_cons_zero, List.set_cons_succ]
              refine wpAnyH_take (i := 3) (v := ?_) (by simp only [List.getElem?_toArray, List.getElem?_cons_zero, List.getElem?_cons_succ]; rfl) (by kernel_rfl) (by kernel_rfl) (by kernel_rfl) (fun _ _ _ h => h) (Or.inl ⟨by rfl, ?_⟩) HPY.out ?_
              rotate_left
              · intro w hSw
                (try dsimp only at hSw)
                obtain ⟨q0_, q1_, q2_, q3_, q4_, q5_⟩ := hSw
                go_simp
                try with_reducible rfl
              try simp only [Act.put, List.setIfInBounds_toArray, List.set_cons_zero, List.set_cons_succ]
              refine wpAnyH_take (i := 4) (v := ?_) (by simp only [List.getElem?_toArray, List.getElem?_cons_zero, List.getElem?_cons_succ]; rfl) (by kernel_rfl) (by kernel_rfl) (by kernel_rfl) (fun _ _ _ h => h) (Or.inl ⟨by rfl, ?_⟩) HPY.out ?_
              rotate_left
              · intro w hSw
                (try dsimp only at hSw)
                obtain ⟨q0_, q1_, q2_, q3_, q4_, q5_⟩ := hSw
                go_simp
                try with_reducible rfl
              try simp only [Act.put, List.setIfInBounds_toArray, List.set_cons_zero, List.set_cons_succ]
              refine wpAnyH_take (i := 5) (v := ?_) (by simp only [List.getElem?_toArray, List.getElem?_cons_zero, List.getElem?_cons_succ]; rfl) (by kernel_rfl) (by kernel_rfl) (by kernel_rfl) (fun _ _ _ h => h) (Or.inl ⟨by rfl, ?_⟩) HPY.out ?_
              rotate_left
              · intro w hSw
                (try dsimp only at hSw)
                obtain ⟨q0_, q1_, q2_, q3_, q4_, q5_⟩ := hSw
                go_simp
                try with_reducible rfl
              try simp only [Act.put, List.setIfInBounds_toArray, List.set_cons_zero, List.set_cons_succ]
              refine wpAnyH_take (i := 6) (v := ?_) (by simp only [List.getElem?_toArray, List.getElem?_cons_zero, List.getElem?_cons_succ]; rfl) (by kernel_rfl) (by kernel_rfl) (by kernel_rfl) (fun _ _ _ h => h) (Or.inl ⟨by rfl, ?_⟩) HPY.out ?_
              rotate_left
              · intro w hSw
                (try dsimp only at hSw)
                obtain ⟨q0_, q1_, q2_, q3_, q4_, q5_⟩ := hSw
                go_simp
                try with_reducible rfl
              try simp only [Act.put, List.setIfInBounds_toArray, List.set_cons_zero, List.set_cons_succ]
              refine wpAnyH_take (i := 7) (v := ?_) (by simp only [List.getElem?_toArray, List.getElem?_cons_zero, List.getElem?_cons_succ]; rfl) (by kernel_rfl) (by kernel_rfl) (by kernel_rfl) (fun _ _ _ h => h) (Or.inl ⟨by rfl, ?_⟩) HPY.out ?_
              rotate_left
              · intro w hSw
                (try dsimp only at hSw)
                obtain ⟨q0_, q1_, q2_, q3_, q4_, q5_⟩ := hSw
                go_simp
                try with_reducible rfl
              try simp only [Act.put, List.setIfInBounds_toArray, List.set_cons_zero, List.set_cons_succ]
              refine wpAnyH_take (i := 8) (v := ?_) (by simp only [List.getElem?_toArray, List.getElem?_cons_zero, List.getElem?_cons_succ]; rfl) (by kernel_rfl) (by kernel_rfl) (by kernel_rfl) (fun _ _ _ h => h) (Or.inl ⟨by rfl, ?_⟩) HPY.out ?_
              rotate_left
              · intro w hSw
                (try dsimp only at hSw)
                obtain ⟨q0_, q1_, q2_, q3_, q4_, q5_⟩ := hSw
                go_simp
                try with_reducible rfl
              try simp only [Act.put, List.setIfInBounds_toArray, List.set_cons_zero, List.set_cons_succ]
              refine wpAnyH_take (i := 9) (v := ?_) (by simp only [List.getElem?_toArray, List.getElem?_cons_zero, List.getElem?_cons_succ]; rfl) (by kernel_rfl) (by kernel_rfl) (by kernel_rfl) (fun _ _ _ h => h) (Or.inl ⟨by rfl, ?_⟩) HPY.out ?_
              rotate_left
              · intro w hSw
                (try dsimp only at hSw)
                obtain ⟨q0_, q1_, q2_, q3_, q4_, q5_⟩ := hSw
                go_simp
                try with_reducible rfl
              try simp only [Act.put, List.setIfInBounds_toArray, List.set_cons_zero, List.set_cons_succ]
              refine wpAnyH_take (i := 10) (v := ?_) (by simp only [List.getElem?_toArray, List.getElem?_cons_zero, List.getElem?_cons_succ]; rfl) (by kernel_rfl) (by kernel_rfl) (by kernel_rfl) (fun _ _ _ h => h) (Or.inl ⟨by rfl, ?_⟩) HPY.out ?_
              rotate_left
              · intro w hSw
                (try dsimp only at hSw)
                obtain ⟨q0_, q1_, q2_, q3_, q4_, q5_⟩ := hSw
                go_simp
                try with_reducible rfl
              try simp only [Act.put, List.setIfInBounds_toArray, List.set_cons_zero, List.set_cons_succ]
              refine wpAnyH_take (i := 11) (v := ?_) (by simp only [List.getElem?_toArray, List.getElem?_cons_zero, List.getElem?_cons_succ]; rfl) (by kernel_rfl) (by kernel_rfl) (by kernel_rfl) (fun _ _ _ h => h) (Or.inl ⟨by rfl, ?_⟩) HPY.out ?_
              rotate_left
              · intro w hSw
                (try dsimp only at hSw)
                obtain ⟨q0_, q1_, q2_, q3_, q4_, q5_⟩ := hSw
                go_simp
                try with_reducible rfl
              try simp only [Act.put, List.setIfInBounds_toArray, List.set_cons_zero, List.set_cons_succ]
              refine wpAnyH_take (i := 12) (v := ?_) (by simp only [List.getElem?_toArray, List.getElem?_cons_zero, List.getElem?_cons_succ]; rfl) (by kernel_rfl) (by kernel_rfl) (by kernel_rfl) (fun _ _ _ h => h) (Or.inl ⟨by rfl, ?_⟩) HPY.out ?_
              rotate_left
              · intro w hSw
                (try dsimp only at hSw)
                obtain ⟨q0_, q1_, q2_, q3_, q4_, q5_⟩ := hSw
                go_simp
                try with_reducible rfl
              try simp only [Act.put, List.setIfInBounds_toArray, List.set_cons_zero, List.set_cons_succ]
              refine wpAnyH_take (i := 13) (v := ?_) (by simp only [List.getElem?_toArray, List.getElem?_cons_zero, List.getElem?_cons_succ]; rfl) (by kernel_rfl) (by kernel_rfl) (by kernel_rfl) (fun _ _ _ h => h) (Or.inl ⟨by rfl, ?_⟩) HPY.out ?_
              rotate_left
              · intro w hSw
                (try dsimp only at hSw)
                obtain ⟨q0_, q1_, q2_, q3_, q4_, q5_⟩ := hSw
                go_simp
                try with_reducible rfl
              try simp only [Act.put, List.setIfInBounds_toArray, List.set_cons_zero, List.set_cons_succ]
              refine wpAnyH_take (i := 14) (v := ?_) (by simp only [List.getElem?_toArray, List.getElem?_cons_zero, List.getElem?_cons_succ]; rfl) (by kernel_rfl) (by kernel_rfl) (by kernel_rfl) (fun _ _ _ h => h) (Or.inl ⟨by rfl, ?_⟩) HPY.out ?_
              rotate_left
              · intro w hSw
                (try dsimp only at hSw)
                obtain ⟨q0_, q1_, q2_, q3_, q4_, q5_⟩ := hSw
                go_simp
                try with_reducible rfl
              try simp only [Act.put, List.setIfInBounds_toArray, List.set_cons_zero, List.set_cons_succ]
              refine wpAnyH_take (i := 15) (v := ?_) (by simp only [List.getElem?_toArray, List.getElem?_cons_zero, List.getElem?_cons_succ]; rfl) (by kernel_rfl) (by kernel_rfl) (by kernel_rfl) (fun _ _ _ h => h) (Or.inl ⟨by rfl, ?_⟩) HPY.out ?_
              rotate_left
              · intro w hSw
                (try dsimp only at hSw)
                obtain ⟨q0_, q1_, q2_, q3_, q4_, q5_⟩ := hSw
                go_simp
                try with_reducible rfl
              try simp only [Act.put, List.setIfInBounds_toArray, List.set_cons_zero, List.set_cons_succ]
              by_cases heq : an = tn
              · have HQ0 : Hid (Q (k + 1) m = false) := HQA.out (by
                  by_cases e : an = 2
                  · exact .inr (HB2.out.2 (by omega))
                  · exact .inl (fun h => e (HA2.out.1 h)))
                subst heq
                refine wpAnyH_take (i := 16) (v := ?_) (by simp only [List.getElem?_toArray, List.getElem?_cons_zero, List.getElem?_cons_succ]; rfl) (by kernel_rfl) (by kernel_rfl) (by kernel_rfl) (fun _ _ _ h => h) (Or.inl ⟨by rfl, ?_⟩) HPY.out ?_
                rotate_left
                · intro w hSw
                  (try dsimp only at hSw)
                  obtain ⟨q0_, q1_, q2_, q3_, q4_, q5_⟩ := hSw
                  go_simp
                  try with_reducible rfl
                try simp only [Act.put, List.setIfInBounds_toArray, List.set_cons_zero, List.set_cons_succ]
                refine wpAnyH_take (i := 17) (v := ?_) (by simp only [List.getElem?_toArray, List.getElem?_cons_zero, List.getElem?_cons_succ]; rfl) (by kernel_rfl) (by kernel_rfl) (by kernel_rfl) (fun _ _ _ h => h) (Or.inl ⟨by rfl, ?_⟩) HPY.out ?_
                rotate_left
                · intro w hSw
                  (try dsimp only at hSw)
                  obtain ⟨q0_, q1_, q2_, q3_, q4_, q5_⟩ := hSw
                  go_simp
                  try with_reducible rfl
                try simp only [Act.put, List.setIfInBounds_toArray, List.set_cons_zero, List.set_cons_succ]
                refine wpAnyH_take (i := 18) (v := undef) (by simp only [List.getElem?_toArray, List.getElem?_cons_zero, List.getElem?_cons_succ]; rfl) (by kernel_rfl) (by kernel_rfl) (by kernel_rfl) (fun _ _ _ h => h) (Or.inr ⟨by rfl, rfl⟩) HPY.out ?_
                try simp only [Act.put, List.setIfInBounds_toArray, List.set_cons_zero, List.set_cons_succ]
                refine wpAnyH_take (i := 19) (v := undef) (by simp only [List.getElem?_toArray, List.getElem?_cons_zero, List.getElem?_cons_succ]; rfl) (by kernel_rfl) (by kernel_rfl) (by kernel_rfl) (fun _ _ _ h => h) (Or.inr ⟨by rfl, rfl⟩) HPY.out ?_
                try simp only [Act.put, List.setIfInBounds_toArray, List.set_cons_zero, List.set_cons_succ]
                refine wpAnyH_take (i := 20) (v := undef) (by simp only [List.getElem?_toArray, List.getElem?_cons_zero, List.getElem?_cons_succ]; rfl) (by kernel_rfl) (by kernel_rfl) (by kernel_rfl) (fun _ _ _ h => h) (Or.inr ⟨by rfl, rfl⟩) HPY.out ?_
                try simp only [Act.put, List.setIfInBounds_toArray, List.set_cons_zero, List.set_cons_succ]
                refine wpAnyH_take (i := 21) (v := undef) (by simp only [List.getElem?_toArray, List.getElem?_cons_zero, List.getElem?_cons_succ]; rfl) (by kernel_rfl) (by kernel_rfl) (by kernel_rfl) (fun _ _ _ h => h) (Or.inr ⟨by rfl, rfl⟩) HPY.out ?_
                try simp only [Act.put, List.setIfInBounds_toArray, List.set_cons_zero, List.set_cons_succ]
                refine wpAnyH_take (i := 22) (v := undef) (by simp only [List.getElem?_toArray, List.getElem?_cons_zero, List.getElem?_cons_succ]; rfl) (by kernel_rfl) (by kernel_rfl) (by kernel_rfl) (fun _ _ _ h => h) (Or.inr ⟨by rfl, rfl⟩) HPY.out ?_
                try simp only [Act.put, List.setIfInBounds_toArray, List.set_cons_zero, List.set_cons_succ]
                refine wpAnyH_take (i := 23) (v := undef) (by simp only [List.getElem?_toArray, List.getElem?_cons_zero, List.getElem?_cons_succ]; rfl) (by kernel_rfl) (by kernel_rfl) (by kernel_rfl) (fun _ _ _ h => h) (Or.inr ⟨by rfl, rfl⟩) HPY.out ?_
                try simp only [Act.put, List.setIfInBounds_toArray, List.set_cons_zero, List.set_cons_succ]
                refine wpAnyH_take (i := 24) (v := undef) (by simp only [List.getElem?_toArray, List.getElem?_cons_zero, List.getElem?_cons_succ]; rfl) (by kernel_rfl) (by kernel_rfl) (by kernel_rfl) (fun _ _ _ h => h) (Or.inr ⟨by rfl, rfl⟩) HPY.out ?_
                try simp only [Act.put, List.setIfInBounds_toArray, List.set_cons_zero, List.set_cons_succ]
                refine wpAnyH_take (i := 25) (v := undef) (by simp only [List.getElem?_toArray, List.getElem?_cons_zero, List.getElem?_cons_succ]; rfl) (by kernel_rfl) (by kernel_rfl) (by kernel_rfl) (fun _ _ _ h => h) (Or.inr ⟨by rfl, rfl⟩) HPY.out ?_
                try simp only [Act.put, List.setIfInBounds_toArray, List.set_cons_zero, List.set_cons_succ]
                refine wpAnyH_take (i := 26) (v := undef) (by simp only [List.getElem?_toArray, List.getElem?_cons_zero, List.getElem?_cons_succ]; rfl) (by kernel_rfl) (by kernel_rfl) (by kernel_rfl) (fun _ _ _ h => h) (Or.inr ⟨by rfl, rfl⟩) HPY.out ?_
                try simp only [Act.put, List.setIfInBounds_toArray, List.set_cons_zero, List.set_cons_succ]
                refine wpAnyH_take (i := 27) (v := ?_) (by simp only [List.getElem?_toArray, List.getElem?_cons_zero, List.getElem?_cons_succ]; rfl) (by kernel_rfl) (by kernel_rfl) (by kernel_rfl) (fun _ _ _ h => h) (Or.inl ⟨by rfl, ?_⟩) HPY.out ?_
                rotate_left
                · intro w hSw
                  (try dsimp only at hSw)
                  obtain ⟨q0_, q1_, q2_, q3_, q4_, q5_⟩ := hSw
                  go_simp
                  try with_reducible rfl
                try simp only [Act.put, List.setIfInBounds_toArray, List.set_cons_zero, List.set_cons_succ]
                refine wpAnyH_done (by kernel_rfl) ?_ _
                refine NoPanic.normal ?_
                obtain ⟨c1, c2, v1, v2, v3, v4⟩ := HPY.out
                by_cases e2 : an = 2
                · have f1 : ((an : Int) == 2) = true := by simp; omega
                  go_wp2
                  go_roundw
                  case rel => exact ⟨m + 1, A + 1, by omega, by go_num, by go_num, HAN.out, HR2.out.congr (fun j _ => rowsF_no k m j HQ0.out), HK2.out, HBB2.out⟩
                  case measure => simp [intOf]; omega
                · have f1 : ((an : Int) == 2) = false := by simp; omega
                  go_wp2
                  go_roundw
                  case rel => exact ⟨m + 1, A + 1, by omega, by go_num, by go_num, HAN.out, HR2.out.congr (fun j _ => rowsF_no k m j HQ0.out), HK2.out, HBB2.out⟩
                  case measure => simp [intOf]; omega
              · have HAA : Hid (a = 2) := HA2.out.2 (by omega)
                have HBBN : Hid (b ≠ 2) := fun e => by have := HB2.out.1 e; omega
                have f0 : ((an : Int) == (tn : Int)) = false := by simp; omega
                have f0b : ((an : Int) != (tn : Int)) = true := by simp; omega
                have f1 : ((an : Int) == 2) = true := by simp; omega
                have f1b : ((an : Int) != 2) = false := by simp; omega
                have f2 : ((tn : Int) == 2) = false := by simp; omega
                have f2b : ((tn : Int) != 2) = true := by simp; omega
                clear hab2
                refine wpAnyH_take (i := 16) (v := ?_) (by simp only [List.getElem?_toArray, List.getElem?_cons_zero, List.getElem?_cons_succ]; rfl) (by kernel_rfl) (by kernel_rfl) (by kernel_rfl) (fun _ _ _ h => h) (Or.inl ⟨by rfl, ?_⟩) HPY.out ?_
                rotate_left
                · intro w hSw
                  (try dsimp only at hSw)
                  obtain ⟨q0_, q1_, q2_, q3_, q4_, q5_⟩ := hSw
                  go_simp
                  try with_reducible rfl
                try simp only [Act.put, List.setIfInBounds_toArray, List.set_cons_zero, List.set_cons_succ]
                refine wpAnyH_take (i := 17) (v := ?_) (by simp only [List.getElem?_toArray, List.getElem?_cons_zero, List.getElem?_cons_succ]; rfl) (by kernel_rfl) (by kernel_rfl) (by kernel_rfl) (fun _ _ _ h => h) (Or.inl ⟨by rfl, ?_⟩) HPY.out ?_
                rotate_left
                · intro w hSw
                  (try dsimp only at hSw)
                  obtain ⟨q0_, q1_, q2_, q3_, q4_, q5_⟩ := hSw
                  go_simp
                  try with_reducible rfl
                try simp only [Act.put, List.setIfInBounds_toArray, List.set_cons_zero, List.set_cons_succ]
                refine wpAnyH_take (i := 18) (v := ?_) (by simp only [List.getElem?_toArray, List.getElem?_cons_zero, List.getElem?_cons_succ]; rfl) (by kernel_rfl) (by kernel_rfl) (by kernel_rfl) (fun _ _ _ h => h) (Or.inl ⟨by rfl, ?_⟩) HPY.out ?_
                rotate_left
                · intro w hSw
                  (try dsimp only at hSw)
                  obtain ⟨q0_, q1_, q2_, q3_, q4_, q5_⟩ := hSw
                  go_simp
                  try with_reducible rfl
                try simp only [Act.put, List.setIfInBounds_toArray, List.set_cons_zero, List.set_cons_succ]
                refine wpAnyH_take (i := 19) (v := ?_) (by simp only [List.getElem?_toArray, List.getElem?_cons_zero, List.getElem?_cons_succ]; rfl) (by kernel_rfl) (by kernel_rfl) (by kernel_rfl) (fun _ _ _ h => h) (Or.inl ⟨by rfl, ?_⟩) HPY.out ?_
                rotate_left
                · intro w hSw
                  (try dsimp only at hSw)
                  obtain ⟨q0_, q1_, q2_, q3_, q4_, q5_⟩ := hSw
                  go_simp
                  try with_reducible rfl
                try simp only [Act.put, List.setIfInBounds_toArray, List.set_cons_zero, List.set_cons_succ]
                refine wpAnyH_take (i := 20) (v := ?_) (by simp only [List.getElem?_toArray, List.getElem?_cons_zero, List.getElem?_cons_succ]; rfl) (by kernel_rfl) (by kernel_rfl) (by kernel_rfl) (fun _ _ _ h => h) (Or.inl ⟨by rfl, ?_⟩) HPY.out ?_
                rotate_left
                · intro w hSw
                  (try dsimp only at hSw)
                  obtain ⟨q0_, q1_, q2_, q3_, q4_, q5_⟩ := hSw
                  go_simp
                  try with_reducible rfl
                try simp only [Act.put, List.setIfInBounds_toArray, List.set_cons_zero, List.set_cons_succ]
                refine wpAnyH_take (i := 21) (v := ?_) (by simp only [List.getElem?_toArray, List.getElem?_cons_zero, List.getElem?_cons_succ]; rfl) (by kernel_rfl) (by kernel_rfl) (by kernel_rfl) (fun _ _ _ h => h) (Or.inl ⟨by rfl, ?_⟩) HPY.out ?_
                rotate_left
                · intro w hSw
                  (try dsimp only at hSw)
                  obtain ⟨q0_, q1_, q2_, q3_, q4_, q5_⟩ := hSw
                  go_simp
                  try with_reducible rfl
                try simp only [Act.put, List.setIfInBounds_toArray, List.set_cons_zero, List.set_cons_succ]
                refine wpAnyH_take (i := 22) (v := ?_) (by simp only [List.getElem?_toArray, List.getElem?_cons_zero, List.getElem?_cons_succ]; rfl) (by kernel_rfl) (by kernel_rfl) (by kernel_rfl) (fun _ _ _ h => h) (Or.inl ⟨by rfl, ?_⟩) HPY.out ?_
                rotate_left
                · intro w hSw
                  (try dsimp only at hSw)
                  obtain ⟨q0_, q1_, q2_, q3_, q4_, q5_⟩ := hSw
                  go_simp
                  try with_reducible rfl
                try simp only [Act.put, List.setIfInBounds_toArray, List.set_cons_zero, List.set_cons_succ]
                refine wpAnyH_take (i := 23) (v := ?_) (by simp only [List.getElem?_toArray, List.getElem?_cons_zero, List.getElem?_cons_succ]; rfl) (by kernel_rfl) (by kernel_rfl) (by kernel_rfl) (fun _ _ _ h => h) (Or.inl ⟨by rfl, ?_⟩) HPY.out ?_
                rotate_left
                · intro w hSw
                  (try dsimp only at hSw)
                  obtain ⟨q0_, q1_, q2_, q3_, q4_, q5_⟩ := hSw
                  go_simp
                  try with_reducible rfl
                try simp only [Act.put, List.setIfInBounds_toArray, List.set_cons_zero, List.set_cons_succ]
                refine wpAnyH_take (i := 24) (v := ?_) (by simp only [List.getElem?_toArray, List.getElem?_cons_zero, List.getElem?_cons_succ]; rfl) (by kernel_rfl) (by kernel_rfl) (by kernel_rfl) (fun _ _ _ h => h) (Or.inl ⟨by rfl, ?_⟩) HPY.out ?_
                rotate_left
                · intro w hSw
                  (try dsimp only at hSw)
                  obtain ⟨q0_, q1_, q2_, q3_, q4_, q5_⟩ := hSw
                  go_simp
                  try with_reducible rfl
                try simp only [Act.put, List.setIfInBounds_toArray, List.set_cons_zero, List.set_cons_succ]
                refine wpAnyH_take (i := 25) (v := ?_) (by simp only [List.getElem?_toArray, List.getElem?_cons_zero, List.getElem?_cons_succ]; rfl) (by kernel_rfl) (by kernel_rfl) (by kernel_rfl) (fun _ _ _ h => h) (Or.inl ⟨by rfl, ?_⟩) HPY.out ?_
                rotate_left
                · intro w hSw
                  (try dsimp only at hSw)
                  obtain ⟨q0_, q1_, q2_, q3_, q4_, q5_⟩ := hSw
                  go_simp
                  try with_reducible rfl
                try simp only [Act.put, List.setIfInBounds_toArray, List.set_cons_zero, List.set_cons_succ]
                refine wpAnyH_take (i := 26) (v := ?_) (by simp only [List.getElem?_toArray, List.getElem?_cons_zero, List.getElem?_cons_succ]; rfl) (by kernel_rfl) (by kernel_rfl) (by kernel_rfl) (fun _ _ _ h => h) (Or.inl ⟨by rfl, ?_⟩) HPY.out ?_
                rotate_left
                · intro w hSw
                  (try dsimp only at hSw)
                  obtain ⟨q0_, q1_, q2_, q3_, q4_, q5_⟩ := hSw
                  go_simp
                  try with_reducible rfl
                try simp only [Act.put, List.setIfInBounds_toArray, List.set_cons_zero, List.set_cons_succ]
                refine wpAnyH_take (i := 27) (v := ?_) (by simp only [List.getElem?_toArray, List.getElem?_cons_zero, List.getElem?_cons_succ]; rfl) (by kernel_rfl) (by kernel_rfl) (by kernel_rfl) (fun _ _ _ h => h) (Or.inl ⟨by rfl, ?_⟩) HPY.out ?_
                rotate_left
                · intro w hSw
                  (try dsimp only at hSw)
                  obtain ⟨q0_, q1_, q2_, q3_, q4_, q5_⟩ := hSw
                  go_simp
                  try with_reducible rfl
                try simp only [Act.put, List.setIfInBounds_toArray, List.set_cons_zero, List.set_cons_succ]
                refine wpAnyH_done (by kernel_rfl) ?_ _
                refine NoPanic.normal ?_
                obtain ⟨c1, c2, v1, v2, v3, v4⟩ := HPY.out
                by_cases hA : A < bn
                · obtain ⟨bb, bo, rfl, _⟩ := HBT.out.addr (show 0 < bn by omega)
                  have hbv := (HBT.out.below HLOWY.out).bool_at A hA
                  obtain ⟨q, hq⟩ : ∃ q, q = bits.getD A false := ⟨_, rfl⟩
                  rw [← hq] at hbv
                  have HQ1 : Hid (Q (k + 1) m = q) := by unfold Hid; rw [HQB.out HAA.out HBBN.out, hq]
                  have g1 : decide ((A : Int) < (bn : Int)) = true := by simp; omega
                  have g2 : decide (A < bn) = true := by simpa using hA
                  have hkb : (A : Int) < (bn : Int) := by omega
                  have hkz2 : (0 : Int) ≤ (A : Int) := by omega
                  clear hq
                  cases q with
                  | false =>
                    go_wp2
                    go_roundw
                    case rel => exact ⟨m + 1, A + 1, by omega, by go_num, by go_num, HAN.out, HR2.out.congr (fun j _ => rowsF_no k m j HQ1.out), HK2.out, HBB2.out⟩
                    case measure => simp [intOf]; omega
                  | true =>
                    have hkl : k + 1 < L.length := by rw [HLL2.out]; have := HKL.out; omega
                    have HR3 := Lib.hid (HR2.out.below ((Below.refl _ Y0).drew))
                    have HK3 := Lib.hid (HK2.out.below ((Below.refl _ Y0).drew))
                    have HBB3 := Lib.hid (HBB2.out.trans (((Below.refl Y0.heap.size Y0).drew).mono (Nat.le_trans (Nat.le_trans HBW.out.2.1 HB67.out) HBB2.out.size)))
                    obtain ⟨yx, hyx⟩ : ∃ x : Slc, x = L.getD (k + 1) slc0 := ⟨_, rfl⟩
                    have hyn := HYLN.out
                    rw [← hyx] at hyn
                    obtain ⟨yra, yrn, yrc⟩ := yx
                    simp only at hyn
                    have hyn2 := hyn.symm
                    clear hyn
                    subst hyn2
                    have hrk := HR3.out (k + 1) hkl
                    rw [← hyx, rowsF_len, show (rowG t (k + 1)).length = i from HW.out k HKL.out] at hrk
                    unfold slV at hrk
                    simp only at hrk
                    obtain ⟨g, rfl⟩ : ∃ g, yra = some ⟨g, 0, none⟩ := by
                      rcases hrk.2 with ⟨_, h2⟩ | ⟨g, cap, cur, h2, _⟩
                      · omega
                      · cases h2; exact ⟨g, rfl⟩
                    obtain ⟨_, cur, hcur⟩ := row_here hrk
                    have hby := (row_sees_slice hrk).2.byte m hml
                    rw [Nat.zero_add, rowsF_here k m HMT.out, ← HBV.out, ← HTN.out] at hby
                    have d2 := unfrozen_of_block hcur m
                    have hge : base ≤ g := by
                      rcases hrk.2 with ⟨_, h2⟩ | ⟨g', cap, cur, h2, h3, _⟩
                      · omega
                      · cases h2; exact h3
                    have HGE := Lib.hid hge
                    have HCUR := Lib.hid hcur
                    have HSET := Lib.hid (fun (u : UInt8) (G' : Nat → List UInt8) => RowsL.setAt (G' := G') HR3.out HAP.out hkl hyx.symm m u)
                    obtain ⟨_, _, e', _, hsee⟩ := Sees.owned (HK3.out.row HROWA.out (by decide)).own
                    cases e'
                    obtain ⟨yb, yo, rfl, _⟩ := hsee.addr (show 0 < st.n2 by omega)
                    have hks : k < yss.length := by rw [HY3.out]; exact HKL.out
                    have hyc : Y0.drew.cell? ⟨yb, yo + k, none⟩ = some (.slice (some ⟨g, 0, none⟩) i yrc) := (hsee.cell k HKL.out).2.trans (by
                      rw [List.getElem?_map, List.getElem?_eq_getElem hks, Option.map_some, show yss[k] = yss.getD k slc0 by simp [List.getD, List.getElem?_eq_getElem hks], ← HYL.out, ← hyx]
                      rfl)
                    have y1 : Y0.drew.cell? ⟨YB, 2, none⟩ = some (.slice (some ⟨yb, yo, none⟩) st.n2 yc2) := cell_of_block (HK3.out _ _ _ _ HCT.out.yb (by decide)) 2
                    have HSD := Lib.hid (And.intro y1 (And.intro hyc hby))
                    obtain ⟨fv, hfv⟩ : ∃ fv : Int, fv = ((1 - b).toNat : Int) := ⟨_, rfl⟩
                    have HFV : Hid (Value.int .u8 fv = bv (1 - b)) := by unfold Hid; rw [hfv]; rfl
                    have Wf : IntKind.u8.wrap ((1 : Int) - (tn : Int)) = fv := by
                      have h1 := u8_flip (b := b) (by rw [← HTN.out]; exact htn2) HBBN.out
                      rw [hfv, h1.2, ← HTN.out, IntKind.wrap_u8]
                      have h2 := h1.2
                      rw [← HTN.out] at h2
                      omega
                    clear hrk hcur hge hkl hyx hfv y1 hyc hsee hks
                    go_upto_region 32 with fail
                    refine wp_region_noPanic ?_
                    refine wp_region_peelN 16 (by kernel_rfl) rfl (by simp only [List.getElem?_toArray, List.getElem?_cons_zero, List.getElem?_cons_succ]; rfl) (by kernel_rfl) ?_
                    simp only [List.pop_toArray, List.dropLast_cons_cons, List.dropLast_singleton]
                    refine wpAny_of_held (S := fun w' => w'.cell? ⟨YB, 2, none⟩ = some (.slice (some ⟨yb, yo, none⟩) st.n2 yc2) ∧ w'.cell? ⟨yb, yo + k, none⟩ = some (.slice (some ⟨g, 0, none⟩) i yrc) ∧ w'.cell? ⟨g, m, none⟩ = some (.int .u8 (tn : Int))) _ _ _ _ ?_
                    refine wpAnyH_take (i := 0) (v := ?_) (by simp only [List.getElem?_toArray, List.getElem?_cons_zero]; rfl) (by kernel_rfl) (by kernel_rfl) (by kernel_rfl) (fun _ _ _ h => h) (Or.inl ⟨by rfl, ?_⟩) HSD.out ?_
                    rotate_left
                    · intro w hSw
                      (try dsimp only at hSw)
                      obtain ⟨q0_, q1_, q2_⟩ := hSw
                      go_simp
                      try with_reducible rfl
                    try simp only [Act.put, List.setIfInBounds_toArray, List.set_cons_zero, List.set_cons_succ]
                    refine wpAnyH_take (i := 1) (v := ?_) (by simp only [List.getElem?_toArray, List.getElem?_cons_zero, List.getElem?_cons_succ]; rfl) (by kernel_rfl) (by kernel_rfl) (by kernel_rfl) (fun _ _ _ h => h) (Or.inl ⟨by rfl, ?_⟩) HSD.out ?_
                    rotate_left
                    · intro w hSw
                      (try dsimp only at hSw)
                      obtain ⟨q0_, q1_, q2_⟩ := hSw
                      go_simp
                      try with_reducible rfl
                    try simp only [Act.put, List.setIfInBounds_toArray, List.set_cons_zero, List.set_cons_succ]
                    refine wpAnyH_take (i := 2) (v := ?_) (by simp only [List.getElem?_toArray, List.getElem?_cons_zero, List.getElem?_cons_succ]; rfl) (by kernel_rfl) (by kernel_rfl) (by kernel_rfl) (fun _ _ _ h => h) (Or.inl ⟨by rfl, ?_⟩) HSD.out ?_
                    rotate_left
                    · intro w hSw
                      (try dsimp only at hSw)
                      obtain ⟨q0_, q1_, q2_⟩ := hSw
                      go_simp
                      try with_reducible rfl
                    try simp only [Act.put, List.setIfInBounds_toArray, List.set_cons_zero, List.set_cons_succ]
                    refine wpAnyH_take (i := 3) (v := ?_) (by simp only [List.getElem?_toArray, List.getElem?_cons_zero, List.getElem?_cons_succ]; rfl) (by kernel_rfl) (by kernel_rfl) (by kernel_rfl) (fun _ _ _ h => h) (Or.inl ⟨by rfl, ?_⟩) HSD.out ?_
                    rotate_left
                    · intro w hSw
                      (try dsimp only at hSw)
                      obtain ⟨q0_, q1_, q2_⟩ := hSw
                      go_simp
                      try with_reducible rfl
                    try simp only [Act.put, List.setIfInBounds_toArray, List.set_cons_zero, List.set_cons_succ]
                    refine wpAnyH_take (i := 4) (v := ?_) (by simp only [List.getElem?_toArray, List.getElem?_cons_zero, List.getElem?_cons_succ]; rfl) (by kernel_rfl) (by kernel_rfl) (by kernel_rfl) (fun _ _ _ h => h) (Or.inl ⟨by rfl, ?_⟩) HSD.out ?_
                    rotate_left
                    · intro w hSw
                      (try dsimp only at hSw)
                      obtain ⟨q0_, q1_, q2_⟩ := hSw
                      go_simp
                      try with_reducible rfl
                    try simp only [Act.put, List.setIfInBounds_toArray, List.set_cons_zero, List.set_cons_succ]
                    refine wpAnyH_take (i := 5) (v := ?_) (by simp only [List.getElem?_toArray, List.getElem?_cons_zero, List.getElem?_cons_succ]; rfl) (by kernel_rfl) (by kernel_rfl) (by kernel_rfl) (fun _ _ _ h => h) (Or.inl ⟨by rfl, ?_⟩) HSD.out ?_
                    rotate_left
                    · intro w hSw
                      (try dsimp only at hSw)
                      obtain ⟨q0_, q1_, q2_⟩ := hSw
                      go_simp
                      try with_reducible rfl
                    try simp only [Act.put, List.setIfInBounds_toArray, List.set_cons_zero, List.set_cons_succ]
                    refine wpAnyH_take (i := 6) (v := ?_) (by simp only [List.getElem?_toArray, List.getElem?_cons_zero, List.getElem?_cons_succ]; rfl) (by kernel_rfl) (by kernel_rfl) (by kernel_rfl) (fun _ _ _ h => h) (Or.inl ⟨by rfl, ?_⟩) HSD.out ?_
                    rotate_left
                    · intro w hSw
                      (try dsimp only at hSw)
                      obtain ⟨q0_, q1_, q2_⟩ := hSw
                      go_simp
                      try with_reducible rfl
                    try simp only [Act.put, List.setIfInBounds_toArray, List.set_cons_zero, List.set_cons_succ]
                    refine wpAnyH_take (i := 7) (v := ?_) (by simp only [List.getElem?_toArray, List.getElem?_cons_zero, List.getElem?_cons_succ]; rfl) (by kernel_rfl) (by kernel_rfl) (by kernel_rfl) (fun _ _ _ h => h) (Or.inl ⟨by rfl, ?_⟩) HSD.out ?_
                    rotate_left
                    · intro w hSw
                      (try dsimp only at hSw)
                      obtain ⟨q0_, q1_, q2_⟩ := hSw
                      go_simp
                      try with_reducible rfl
                    try simp only [Act.put, List.setIfInBounds_toArray, List.set_cons_zero, List.set_cons_succ]
                    refine wpAnyH_take (i := 8) (v := ?_) (by simp only [List.getElem?_toArray, List.getElem?_cons_zero, List.getElem?_cons_succ]; rfl) (by kernel_rfl) (by kernel_rfl) (by kernel_rfl) (fun _ _ _ h => h) (Or.inl ⟨by rfl, ?_⟩) HSD.out ?_
                    rotate_left
                    · intro w hSw
                      (try dsimp only at hSw)
                      obtain ⟨q0_, q1_, q2_⟩ := hSw
                      go_simp
                      try with_reducible rfl
                    try simp only [Act.put, List.setIfInBounds_toArray, List.set_cons_zero, List.set_cons_succ]
                    refine wpAnyH_take (i := 9) (v := ?_) (by simp only [List.getElem?_toArray, List.getElem?_cons_zero, List.getElem?_cons_succ]; rfl) (by kernel_rfl) (by kernel_rfl) (by kernel_rfl) (fun _ _ _ h => h) (Or.inl ⟨by rfl, ?_⟩) HSD.out ?_
                    rotate_left
                    · intro w hSw
                      (try dsimp only at hSw)
                      obtain ⟨q0_, q1_, q2_⟩ := hSw
                      go_simp
                      try with_reducible rfl
                    try simp only [Act.put, List.setIfInBounds_toArray, List.set_cons_zero, List.set_cons_succ]
                    refine wpAnyH_take (i := 10) (v := ?_) (by simp only [List.getElem?_toArray, List.getElem?_cons_zero, List.getElem?_cons_succ]; rfl) (by kernel_rfl) (by kernel_rfl) (by kernel_rfl) (fun _ _ _ h => h) (Or.inl ⟨by rfl, ?_⟩) HSD.out ?_
                    rotate_left
                    · intro w hSw
                      (try dsimp only at hSw)
                      obtain ⟨q0_, q1_, q2_⟩ := hSw
                      go_simp
                      try with_reducible rfl
                    try simp only [Act.put, List.setIfInBounds_toArray, List.set_cons_zero, List.set_cons_succ]
                    refine wpAnyH_take (i := 11) (v := ?_) (by simp only [List.getElem?_toArray, List.getElem?_cons_zero, List.getElem?_cons_succ]; rfl) (by kernel_rfl) (by kernel_rfl) (by kernel_rfl) (fun _ _ _ h => h) (Or.inl ⟨by rfl, ?_⟩) HSD.out ?_
                    rotate_left
                    · intro w hSw
                      (try dsimp only at hSw)
                      obtain ⟨q0_, q1_, q2_⟩ := hSw
                      go_simp
                      try with_reducible rfl
                    try simp only [Act.put, List.setIfInBounds_toArray, List.set_cons_zero, List.set_cons_succ]
                    refine wpAnyH_take (i := 12) (v := ?_) (by simp only [List.getElem?_toArray, List.getElem?_cons_zero, List.getElem?_cons_succ]; rfl) (by kernel_rfl) (by kernel_rfl) (by kernel_rfl) (fun _ _ _ h => h) (Or.inl ⟨by rfl, ?_⟩) HSD.out ?_
                    rotate_left
                    · intro w hSw
                      (try dsimp only at hSw)
                      obtain ⟨q0_, q1_, q2_⟩ := hSw
                      go_simp
                      try with_reducible rfl
                    try simp only [Act.put, List.setIfInBounds_toArray, List.set_cons_zero, List.set_cons_succ]
                    refine wpAnyH_take (i := 13) (v := ?_) (by simp only [List.getElem?_toArray, List.getElem?_cons_zero, List.getElem?_cons_succ]; rfl) (by kernel_rfl) (by kernel_rfl) (by kernel_rfl) (fun _ _ _ h => h) (Or.inl ⟨by rfl, ?_⟩) HSD.out ?_
                    rotate_left
                    · intro w hSw
                      (try dsimp only at hSw)
                      obtain ⟨q0_, q1_, q2_⟩ := hSw
                      go_simp
                      try with_reducible rfl
                    try simp only [Act.put, List.setIfInBounds_toArray, List.set_cons_zero, List.set_cons_succ]
                    refine wpAnyH_take (i := 14) (v := ?_) (by simp only [List.getElem?_toArray, List.getElem?_cons_zero, List.getElem?_cons_succ]; rfl) (by kernel_rfl) (by kernel_rfl) (by kernel_rfl) (fun _ _ _ h => h) (Or.inl ⟨by rfl, ?_⟩) HSD.out ?_
                    rotate_left
                    · intro w hSw
                      (try dsimp only at hSw)
                      obtain ⟨q0_, q1_, q2_⟩ := hSw
                      go_simp
                      try with_reducible rfl
                    try simp only [Act.put, List.setIfInBounds_toArray, List.set_cons_zero, List.set_cons_succ]
                    refine wpAnyH_take (i := 15) (v := ?_) (by simp only [List.getElem?_toArray, List.getElem?_cons_zero, List.getElem?_cons_succ]; rfl) (by kernel_rfl) (by kernel_rfl) (by kernel_rfl) (fun _ _ _ h => h) (Or.inl ⟨by rfl, ?_⟩) HSD.out ?_
                    rotate_left
                    · intro w hSw
                      (try dsimp only at hSw)
                      obtain ⟨q0_, q1_, q2_⟩ := hSw
                      go_simp
                      try with_reducible rfl
                    try simp only [Act.put, List.setIfInBounds_toArray, List.set_cons_zero, List.set_cons_succ]
                    refine wpAnyH_done (by kernel_rfl) ?_ _
                    unfold LastQ wpOp
                    simp only [List.getElem?_toArray, List.getElem?_cons_zero, List.getElem?_cons_succ]
                    rw [if_pos (by rfl)]
                    refine Or.inl ?_
                    go_simp
                    refine NoPanic.normal ?_
                    go_wp2
                    go_roundw
                    case rel =>
                      refine ⟨m + 1, A + 1, by omega, by go_num, by go_num, HAN.out, ?_, HK3.out.set HCUR.out, HBB3.out.setCell (p := ⟨g, m, none⟩) HGE.out _⟩
                      rw [HFV.out]
                      exact HSET.out (1 - b) _ (by rw [HBV.out]; exact rowsF_yes k m HQ1.out HMT.out) (fun j hj => rowsF_else k _ _ j hj)
                    case measure => simp [intOf]; omega
                · have HQ1 : Hid (Q (k + 1) m = false) := by unfold Hid; rw [HQB.out HAA.out HBBN.out]; simp [List.getD, List.getElem?_eq_none (show bits.length ≤ A by rw [HBL.out]; omega)]
                  have g1 : decide ((A : Int) < (bn : Int)) = false := by simp; omega
                  have g2 : decide (A < bn) = false := by simpa using hA
                  go_wp2
                  go_roundw
                  case rel => exact ⟨m + 1, A + 1, by omega, by go_num, by go_num, HAN.out, HR2.out.congr (fun j _ => rowsF_no k m j HQ1.out), HK2.out, HBB2.out⟩
                  case measure => simp [intOf]; omega
            · obtain rfl : m = i := by omega
              have HAE : Hid (A = t.init.length + (k + 1) * m) := by unfold Hid; rw [HAM.out, HA0.out, Nat.succ_mul]; omega
              go_wp2
              go_roundw
              case rel => exact ⟨k + 1, A, by have := HKL.out; omega, by go_num, rfl, HAE.out, HR.out.congr (fun j _ => rowsF_full k m j (HW.out k HKL.out)), HK.out, HBB.out⟩
              case measure => have := HKL.out; simp [intOf]; omega
        · obtain rfl : k = st.n2 := by omega
          have hqo : QOk c ms Q t := by rw [HQ.out]; exact cntQ_ok c ms bits t i
          have hfy0 := flip_fits HF.out hqo
          have hfx0 : FitsC c (freeT c t ms) := free_fits HF.out
          have hcs := counts_same HF.out hfy0 (flip_alike hqo) HFRM.out
          have hcx := counts_same HF.out hfx0 free_alike HFRM.out
          have hty : SeesTr wr ⟨ya1, st.n1, yc1, ya2, st.n2, yc2, yss⟩ (flipT Q t) := by
            refine OwnT3.sees (base := base) ⟨?_, ?_, ?_, fun j hj => ?_, HO7.out.ap⟩
            · have h4 := HR.out 0 (by rw [HLL2.out]; omega)
              rw [show L.getD 0 slc0 = (ya1, st.n1, yc1) by rw [HLE.out]; rfl, rowsF_init] at h4
              exact h4
            · rw [flipT_frames, HN2.out]; exact (HK.out.row HROWA.out (by decide)).own
            · rw [flipT_frames]; exact HO7.out.len
            · rw [flipT_frames] at hj
              have h4 := HR.out (j + 1) (by rw [HLL2.out]; have := HN2.out; omega)
              rw [show L.getD (j + 1) slc0 = yss.getD j slc0 by rw [HLE.out]; simp, rowsF_frame (by have := HN2.out; omega) hj] at h4
              exact h4
          have HTY := Lib.hid hty
          obtain ⟨fa, hfa⟩ : ∃ fa : Bool, failsE c t = .returned (.tuple #[.bool fa, .int .i64 0]) := ⟨_, by unfold failsE; rw [if_pos (fits_iff.2 HF.out)]⟩
          obtain ⟨sv, hsv⟩ : ∃ sv : Int, surelyE c t = .returned (.tuple #[.int .u8 sv, .int .i64 0]) := ⟨_, by unfold surelyE; rw [if_pos (fits_iff.2 HF.out)]; rfl⟩
          have hfy : failsE c (flipT Q t) = .returned (.tuple #[.bool fa, .int .i64 0]) := by rw [hcs.1]; exact hfa
          have hsy : surelyE c (flipT Q t) = .returned (.tuple #[.int .u8 sv, .int .i64 0]) := by
            unfold surelyE at hsv ⊢
            rw [if_pos (fits_iff.2 HF.out)] at hsv
            rw [if_pos (fits_iff.2 hfy0), hcs.2]; exact hsv
          have hsx : surelyE c (freeT c t ms) = .returned (.tuple #[.int .u8 sv, .int .i64 0]) := by
            unfold surelyE at hsv ⊢
            rw [if_pos (fits_iff.2 HF.out)] at hsv
            rw [if_pos (fits_iff.2 hfx0), hcx.2]; exact hsv
          have HC1 := Lib.hid (fun W (hb : Below wr.heap.size wr W) => HFA.out W t st (ext_trans HLOW.out hb) ((HT.out.below HLOW.out).below hb) HSTM.out rfl)
          have HC2 := Lib.hid (fun W (hb : Below wr.heap.size wr W) => HFA.out W (flipT Q t) ⟨ya1, st.n1, yc1, ya2, st.n2, yc2, yss⟩ (ext_trans HLOW.out hb) (HTY.out.below hb) HSMY.out rfl)
          have HC3 := Lib.hid (fun W (hb : Below wr.heap.size wr W) => HSU.out W t st (ext_trans HLOW.out hb) ((HT.out.below HLOW.out).below hb) HSTM.out rfl)
          have HC4 := Lib.hid (fun W (hb : Below wr.heap.size wr W) => HSU.out W (flipT Q t) ⟨ya1, st.n1, yc1, ya2, st.n2, yc2, yss⟩ (ext_trans HLOW.out hb) (HTY.out.below hb) HSMY.out rfl)
          have HC5 := Lib.hid (fun W (hb : Below wr.heap.size wr W) => HSU.out W (freeT c t ms) ⟨xa1, st.n1, xc1, xa2, st.n2, xc2, xss⟩ (ext_trans HLOW.out hb) ((HTX5.out.below H5.out).below hb) HSMX.out rfl)
          rw [hfa, ← HBAD.out] at HC1
          rw [hfy, show (flipT Q t).bad = bad from HBAD.out.symm] at HC2
          rw [hsv, ← HBAD.out] at HC3
          rw [hsy, show (flipT Q t).bad = bad from HBAD.out.symm] at HC4
          rw [hsx, show (freeT c t ms).bad = bad from HBAD.out.symm] at HC5
          have HCV0 : Hid (CtSt z bad s st ⟨xa1, st.n1, xc1, xa2, st.n2, xc2, xss⟩ ⟨ya1, st.n1, yc1, ya2, st.n2, yc2, yss⟩ w XB YB wr) := ⟨HK.out _ _ _ _ HCT.out.cir (by decide), HK.out _ _ _ _ HCT.out.tr (by decide), HK.out _ _ _ _ HCT.out.xb (by decide), HK.out _ _ _ _ HCT.out.yb (by decide)⟩
          have HB0 := Lib.hid (Below.refl wr.heap.size wr)
          clear hqo hfy0 hfx0 hcs hcx hty hfa hsv hfy hsy hsx HR HK HBB H5 hlt hk W2'
          have p0 : wr.cell? ⟨w.heap.size, 0, none⟩ = some (.int .i64 z) := cell_of_block HCV0.out.cir 0
          have p1 : wr.cell? ⟨w.heap.size, 1, none⟩ = some (.slice s.a1 s.n1 s.c1) := cell_of_block HCV0.out.cir 1
          have p2 : wr.cell? ⟨w.heap.size, 2, none⟩ = some (.slice s.a2 s.n2 s.c2) := cell_of_block HCV0.out.cir 2
          have p3 : wr.cell? ⟨w.heap.size, 3, none⟩ = some (.slice s.a3 s.n3 s.c3) := cell_of_block HCV0.out.cir 3
          have p4 : wr.cell? ⟨w.heap.size, 4, none⟩ = some (.slice s.a4 s.n4 s.c4) := cell_of_block HCV0.out.cir 4
          have p5 : wr.cell? ⟨w.heap.size, 5, none⟩ = some (.slice s.a5 s.n5 s.c5) := cell_of_block HCV0.out.cir 5
          have t0 : wr.cell? ⟨w.heap.size + 1, 0, none⟩ = some (.int .i64 bad) := cell_of_block HCV0.out.tr 0
          have t1 : wr.cell? ⟨w.heap.size + 1, 1, none⟩ = some (.slice st.a1 st.n1 st.c1) := cell_of_block HCV0.out.tr 1
          have t2 : wr.cell? ⟨w.heap.size + 1, 2, none⟩ = some (.slice st.a2 st.n2 st.c2) := cell_of_block HCV0.out.tr 2
          go_wp2_with fail
          refine (HC1.out wr HB0.out).mono ?_
          rintro e V1 ⟨rfl, hb⟩
          have HB1 := Lib.hid (ext_trans HB0.out hb)
          have HCV1 := Lib.hid (HCV0.out.below hb)
          clear hb p0 p1 p2 p3 p4 p5 t0 t1 t2
          have p0 : V1.cell? ⟨w.heap.size, 0, none⟩ = some (.int .i64 z) := cell_of_block HCV1.out.cir 0
          have p1 : V1.cell? ⟨w.heap.size, 1, none⟩ = some (.slice s.a1 s.n1 s.c1) := cell_of_block HCV1.out.cir 1
          have p2 : V1.cell? ⟨w.heap.size, 2, none⟩ = some (.slice s.a2 s.n2 s.c2) := cell_of_block HCV1.out.cir 2
          have p3 : V1.cell? ⟨w.heap.size, 3, none⟩ = some (.slice s.a3 s.n3 s.c3) := cell_of_block HCV1.out.cir 3
          have p4 : V1.cell? ⟨w.heap.size, 4, none⟩ = some (.slice s.a4 s.n4 s.c4) := cell_of_block HCV1.out.cir 4
          have p5 : V1.cell? ⟨w.heap.size, 5, none⟩ = some (.slice s.a5 s.n5 s.c5) := cell_of_block HCV1.out.cir 5
          have o0 := cell_of_block HCV1.out.yb 0
          have o1 := cell_of_block HCV1.out.yb 1
          have o2 := cell_of_block HCV1.out.yb 2
          go_wp2_with fail
          refine (HC2.out V1 HB1.out).mono ?_
          rintro e V2 ⟨rfl, hb⟩
          have HB2 := Lib.hid (ext_trans HB1.out hb)
          have HCV2 := Lib.hid (HCV1.out.below hb)
          clear hb p0 p1 p2 p3 p4 p5 o0 o1 o2
          have p0 : V2.cell? ⟨w.heap.size, 0, none⟩ = some (.int .i64 z) := cell_of_block HCV2.out.cir 0
          have p1 : V2.cell? ⟨w.heap.size, 1, none⟩ = some (.slice s.a1 s.n1 s.c1) := cell_of_block HCV2.out.cir 1
          have p2 : V2.cell? ⟨w.heap.size, 2, none⟩ = some (.slice s.a2 s.n2 s.c2) := cell_of_block HCV2.out.cir 2
          have p3 : V2.cell? ⟨w.heap.size, 3, none⟩ = some (.slice s.a3 s.n3 s.c3) := cell_of_block HCV2.out.cir 3
          have p4 : V2.cell? ⟨w.heap.size, 4, none⟩ = some (.slice s.a4 s.n4 s.c4) := cell_of_block HCV2.out.cir 4
          have p5 : V2.cell? ⟨w.heap.size, 5, none⟩ = some (.slice s.a5 s.n5 s.c5) := cell_of_block HCV2.out.cir 5
          have t0 : V2.cell? ⟨w.heap.size + 1, 0, none⟩ = some (.int .i64 bad) := cell_of_block HCV2.out.tr 0
          have t1 : V2.cell? ⟨w.heap.size + 1, 1, none⟩ = some (.slice st.a1 st.n1 st.c1) := cell_of_block HCV2.out.tr 1
          have t2 : V2.cell? ⟨w.heap.size + 1, 2, none⟩ = some (.slice st.a2 st.n2 st.c2) := cell_of_block HCV2.out.tr 2
          go_wp2_with fail
          refine (HC3.out V2 HB2.out).mono ?_
          rintro e V3 ⟨rfl, hb⟩
          have HB3 := Lib.hid (ext_trans HB2.out hb)
          have HCV3 := Lib.hid (HCV2.out.below hb)
          clear hb p0 p1 p2 p3 p4 p5 t0 t1 t2
          have p0 : V3.cell? ⟨w.heap.size, 0, none⟩ = some (.int .i64 z) := cell_of_block HCV3.out.cir 0
          have p1 : V3.cell? ⟨w.heap.size, 1, none⟩ = some (.slice s.a1 s.n1 s.c1) := cell_of_block HCV3.out.cir 1
          have p2 : V3.cell? ⟨w.heap.size, 2, none⟩ = some (.slice s.a2 s.n2 s.c2) := cell_of_block HCV3.out.cir 2
          have p3 : V3.cell? ⟨w.heap.size, 3, none⟩ = some (.slice s.a3 s.n3 s.c3) := cell_of_block HCV3.out.cir 3
          have p4 : V3.cell? ⟨w.heap.size, 4, none⟩ = some (.slice s.a4 s.n4 s.c4) := cell_of_block HCV3.out.cir 4
          have p5 : V3.cell? ⟨w.heap.size, 5, none⟩ = some (.slice s.a5 s.n5 s.c5) := cell_of_block HCV3.out.cir 5
          have o0 := cell_of_block HCV3.out.yb 0
          have o1 := cell_of_block HCV3.out.yb 1
          have o2 := cell_of_block HCV3.out.yb 2
          go_wp2_with fail
          refine (HC4.out V3 HB3.out).mono ?_
          rintro e V4 ⟨rfl, hb⟩
          have HB4 := Lib.hid (ext_trans HB3.out hb)
          have HCV4 := Lib.hid (HCV3.out.below hb)
          clear hb p0 p1 p2 p3 p4 p5 o0 o1 o2
          have p0 : V4.cell? ⟨w.heap.size, 0, none⟩ = some (.int .i64 z) := cell_of_block HCV4.out.cir 0
          have p1 : V4.cell? ⟨w.heap.size, 1, none⟩ = some (.slice s.a1 s.n1 s.c1) := cell_of_block HCV4.out.cir 1
          have p2 : V4.cell? ⟨w.heap.size, 2, none⟩ = some (.slice s.a2 s.n2 s.c2) := cell_of_block HCV4.out.cir 2
          have p3 : V4.cell? ⟨w.heap.size, 3, none⟩ = some (.slice s.a3 s.n3 s.c3) := cell_of_block HCV4.out.cir 3
          have p4 : V4.cell? ⟨w.heap.size, 4, none⟩ = some (.slice s.a4 s.n4 s.c4) := cell_of_block HCV4.out.cir 4
          have p5 : V4.cell? ⟨w.heap.size, 5, none⟩ = some (.slice s.a5 s.n5 s.c5) := cell_of_block HCV4.out.cir 5
          have o0 := cell_of_block HCV4.out.xb 0
          have o1 := cell_of_block HCV4.out.xb 1
          have o2 := cell_of_block HCV4.out.xb 2
          go_wp2_with fail
          refine (HC5.out V4 HB4.out).mono ?_
          rintro e V5 ⟨rfl, hb⟩
          have HB5 := Lib.hid (ext_trans HB4.out hb)
          have HCV5 := Lib.hid (HCV4.out.below hb)
          clear hb p0 p1 p2 p3 p4 p5 o0 o1 o2
          go_wp2_with fail
          refine (HLV.out V5).mono ?_
          rintro e V6 ⟨rfl, hb⟩
          have HB6 := Lib.hid (ext_trans HLOW.out (ext_trans HB5.out hb))
          clear hb
          go_wp2
          go_ret
          exact ⟨rfl, HB6.out⟩
end Go.Proofs.Ytdheldhecimfnaa
