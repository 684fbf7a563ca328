/- inquestref00.Tables, inquestref03.SameTrace: are two traces the same? -/
import Derived.Test.YtcoehbkjccfhlaaGEncM00
import Derived.Test.YtcoehbkjccfhlaaRows
import Derived.BigQuiet
import Derived.Deep.AppendLies
import Derived.Deep.QuietTactic
import Derived.Deep.RegionLaw
import Derived.Deep.RegionWith
import Derived.KernelRfl
import Derived.Laws.EntriesVeiled
import Derived.Lib.ConvBytes
import Derived.Lib.Hide
import Derived.Lib.SlBytesRow
import Derived.Lib.SmallJoins
import Derived.Shelf.Bytes.SlSmallAll
import Derived.WalkKit
import Derived.WalkLawsBesides
import Derived.WalkSpells
import Derived.Test.YtcoehbkjccfhlaaGEncM01
/- Cells of bools. -/
namespace Go.Proofs.Ytcoehbkjccfhlaa
open Go Go.RowKit Go.Joins
theorem info_bool : (Try.prog.info? 4).map (fun i => (i.zero, i.size, i.bytes)) = some (some (.bool false), 1, 1) := by kernel_rfl
/-- Cells of bools. -/
def bcells (d : List Bool) : Array Value := (d.map Value.bool).toArray
theorem bcells_set (d : List Bool) (i : Nat) (b : Bool) : (bcells d).setIfInBounds i (.bool b) = bcells (d.set i b) := by
  apply Array.ext'
  simp [bcells]
theorem bcells_get (d : List Bool) (i : Nat) (h : i < d.length) : (bcells d)[i]? = some (.bool (d.getD i false)) := by
  simp [bcells, List.getD, List.getElem?_eq_getElem h]
theorem bcells_size (d : List Bool) : (bcells d).size = d.length := by simp [bcells]
theorem u32_and1 (x : Nat) (h : x < 4294967296) : bits BinOp.and IntKind.u32 (x : Int) 1 = ((x % 2 : Nat) : Int) :=
  bits_mask .u32 32 (by decide) (fun n h0 h1 => by rw [IntKind.wrap_u32]; omega) 1 (by decide) (x : Int) (by omega) (by omega)
theorem bcells_zero (m : Nat) : zeros (.bool false) m = bcells (List.replicate m false) := by
  simp [zeros, bcells]
end Go.Proofs.Ytcoehbkjccfhlaa
/- inquestref00.Bytes, by its contract. -/
namespace Go.Proofs.Ytcoehbkjccfhlaa
open Go Go.RowKit

set_option maxRecDepth 100000 in
set_option maxHeartbeats 400000 in
theorem bytes_any (bs cs : List UInt8) (a a' : Option Addr) (n c n' c' : Nat) (w : World) (h : Sees w a n c (bs.map bv)) (h' : Sees w a' n' c' (cs.map bv)) :
    Calls Try.prog 52 #[.slice a n c, .slice a' n' c'] w fun e w' => e = .returned (.bool (bs == cs)) ∧ w = w' := by
  have q1 := h.str (P := Try.prog) 27 5 9 Try.underlying27 Try.underlying5 Try.underlying9
  have q2 := h'.str (P := Try.prog) 27 5 9 Try.underlying27 Try.underlying5 Try.underlying9
  clear h h'
  go_enter Try.func52, Try.ntmps52
  go_wp2
  go_ret
  exact ⟨by simp [str], rfl⟩
end Go.Proofs.Ytcoehbkjccfhlaa
namespace Go.Proofs.Ytcoehbkjccfhlaa
open Go Go.RowKit Go.Joins

theorem info_tab : (Try.prog.info? 27).map (fun i => (i.zero, i.size, i.bytes)) = some (some (.slice none 0 0), 1, 24) := by kernel_rfl
theorem size_tab : ∀ w, (sizeOf 27).run Try.prog w = .ok 1 w := fun w => by
  obtain ⟨i0, hi, hz0, hz1, hz2⟩ := info_parts info_tab
  simp [sizeOf, typeInfo, hi, hz1]
theorem Sees.slice_at {w : World} {b off n c : Nat} {ss : List Slc} (h : Sees w (some ⟨b, off, .none⟩) n c (ss.map slV)) (j : Nat) (hj : j < n) :
    w.cell? ⟨b, off + j, .none⟩ = some (.slice (ss.getD j slc0).1 (ss.getD j slc0).2.1 (ss.getD j slc0).2.2) := by
  have hl : ss.length = n := h.lenMap
  rw [(h.cell j hj).2]
  simp [slV, List.getD, List.getElem?_eq_getElem (show j < ss.length by omega)]
theorem bytes_at (bs cs : List UInt8) (a a' : Option Addr) (n c n' c' : Nat) (w : World) (h : Sees w a n c (bs.map bv)) (h' : Sees w a' n' c' (cs.map bv)) :
    Calls Try.prog 52 #[.slice a n c, .slice a' n' c'] w fun e w' => e = .returned (.bool (decide (bs = cs))) ∧ w' = w := by
  refine (bytes_any bs cs a a' n c n' c' w h h').mono fun e w' hp => ?_
  obtain ⟨h1, rfl⟩ := hp
  exact ⟨by rw [show decide (bs = cs) = (bs == cs) by by_cases e : bs = cs <;> simp [e]]; exact h1, rfl⟩

/-- Where k lines have been held against each other. -/
structure TabI (w : World) (ss ss' : List Slc) (fs gs : List (List UInt8)) (n k : Nat) (a1 : Option Addr) (c1 : Nat) (a2 : Option Addr) (c2 : Nat) (wr : World) : Prop where
  s1 : Sees wr a1 (n - k) c1 ((ss.drop k).map slV)
  s2 : Sees wr a2 (n - k) c2 ((ss'.drop k).map slV)
  eq : ∀ j, j < k → fs.getD j [] = gs.getD j []
  bel : Below w.heap.size w wr
def slenT : Value → Nat | .slice _ m _ => m | _ => 0

set_option maxRecDepth 100000 in
set_option maxHeartbeats 1600000 in
theorem tables_any (fs gs : List (List UInt8)) (ss ss' : List Slc) (a a' : Option Addr) (n c n' c' : Nat) (w : World) (h : SeesF w a n c ss fs) (h' : SeesF w a' n' c' ss' gs) (hn : n ≤ 1048576) :
    Calls Try.prog 53 #[.slice a n c, .slice a' n' c'] w fun e w' => e = .returned (.bool (decide (fs = gs))) ∧ Below w.heap.size w w' := by
  have hl := h.n_eq
  have hl' := h'.n_eq
  obtain ⟨q, hq⟩ : ∃ q, q = decide (fs = gs) := ⟨_, rfl⟩
  have NO : fs ≠ gs → q = false := fun h => by rw [hq]; simpa using h
  rw [← hq]
  by_cases hne : n = n'
  · subst hne
    have YES : (∀ j, j < n → fs.getD j [] = gs.getD j []) → q = true := fun h => by
      rw [hq, decide_eq_true_eq]
      apply List.ext_getElem (by omega)
      intro i h1 h2
      have := h i (by omega)
      simpa [List.getD, List.getElem?_eq_getElem h1, List.getElem?_eq_getElem h2] using this
    have H := Lib.hid h
    have H' := Lib.hid h'
    have HL := Lib.hid hl
    have HL' := Lib.hid hl'
    have HNO := Lib.hid NO
    have HYES := Lib.hid YES
    clear h h' hl hl' NO YES hq
    go_enter Try.func53, Try.ntmps53
    go_wp2
    go_loopw [0, 1] (fun a b wr => ∃ (k : Nat) (a1 : Option Addr) (c1 : Nat) (a2 : Option Addr) (c2 : Nat), k ≤ n ∧ a = .slice a1 (n - k) c1 ∧ b = .slice a2 (n - k) c2 ∧ Hid (TabI w ss ss' fs gs n k a1 c1 a2 c2 wr))
      (fun a _ _ => slenT a)
    case atStart => exact ⟨0, _, _, _, _, Nat.zero_le _, rfl, rfl, ⟨H.out.row, H'.out.row, fun j hj => absurd hj (by omega), Below.refl _ _⟩⟩
    case round =>
      obtain ⟨k, a1, c1, a2, c2, hk, rfl, rfl, hI⟩ := hrel
      obtain ⟨s1, s2, heq, hbel⟩ := hI.out
      clear hI
      by_cases hlt : k < n
      · obtain ⟨b1, o1, rfl, _⟩ := s1.addr (by omega)
        obtain ⟨b2, o2, rfl, _⟩ := s2.addr (by omega)
        obtain ⟨x, hx⟩ : ∃ x : Slc, x = ss.getD k slc0 := ⟨_, rfl⟩
        obtain ⟨y, hy⟩ : ∃ y : Slc, y = ss'.getD k slc0 := ⟨_, rfl⟩
        have hsx := (H.out.below hbel).each k (by rw [HL.out]; exact hlt)
        have hsy := (H'.out.below hbel).each k (by rw [HL'.out]; exact hlt)
        rw [← hx] at hsx
        rw [← hy] at hsy
        have hc1 : wr.cell? ⟨b1, o1, none⟩ = some (.slice x.1 x.2.1 x.2.2) := by
          have := s1.slice_at 0 (by omega)
          rw [hx, ← show (ss.drop k).getD 0 slc0 = ss.getD k slc0 by simp [List.getD]]
          exact this
        have hc2 : wr.cell? ⟨b2, o2, none⟩ = some (.slice y.1 y.2.1 y.2.2) := by
          have := s2.slice_at 0 (by omega)
          rw [hy, ← show (ss'.drop k).getD 0 slc0 = ss'.getD k slc0 by simp [List.getD]]
          exact this
        obtain ⟨xa, xn, xc⟩ := x
        obtain ⟨ya, yn, yc⟩ := y
        simp only at hsx hsy hc1 hc2
        obtain ⟨p, hp⟩ : ∃ p, p = decide (fs.getD k [] = gs.getD k []) := ⟨_, rfl⟩
        have HCALL : Hid (∀ m, Calls Try.prog 52 #[.slice xa xn xc, .slice ya yn yc] (wr.drewN m) fun e w' => e = .returned (.bool p) ∧ w' = wr.drewN m) := fun m => by
          rw [hp]
          exact bytes_at _ _ xa ya xn xc yn yc (wr.drewN m) (hsx.below (ext_drewN wr m)) (hsy.below (ext_drewN wr m))
        obtain ⟨a3, ec3, see3⟩ := s1.cut 1 (n - k) (by omega) (Nat.le_refl _)
        obtain ⟨a4, ec4, see4⟩ := s2.cut 1 (n - k) (by omega) (Nat.le_refl _)
        have q1 := fun W => (run_from (P := Try.prog) Try.underlying28 size_tab W (some ⟨b1, o1, none⟩) (n - k) c1 1 1 rfl (by omega)).trans (congrArg (fun v => Result.ok v W) ec3)
        have q2 := fun W => (run_from (P := Try.prog) Try.underlying28 size_tab W (some ⟨b2, o2, none⟩) (n - k) c2 1 1 rfl (by omega)).trans (congrArg (fun v => Result.ok v W) ec4)
        have S3 : Hid (Sees wr a3 (n - (k + 1)) (c1 - 1) ((ss.drop (k + 1)).map slV)) := by
          have e : (List.map slV (ss.drop k)).take (n - k) = List.map slV (ss.drop k) := List.take_of_length_le (by rw [s1.len]; exact Nat.le_refl _)
          rw [e, ← List.map_drop, List.drop_drop] at see3
          exact see3
        have S4 : Hid (Sees wr a4 (n - (k + 1)) (c2 - 1) ((ss'.drop (k + 1)).map slV)) := by
          have e : (List.map slV (ss'.drop k)).take (n - k) = List.map slV (ss'.drop k) := List.take_of_length_le (by rw [s2.len]; exact Nat.le_refl _)
          rw [e, ← List.map_drop, List.drop_drop] at see4
          exact see4
        have HP := Lib.hid hp
        have HBL := Lib.hid hbel
        have HEQ := Lib.hid heq
        have hpos : (0 : Int) < ((n - k : Nat) : Int) := by omega
        clear ec3 ec4 see3 see4 hx hy hp heq s1 s2 hsx hsy hbel
        cases p with
        | true =>
          go_wp2
          go_quiet ((go_at_call 52; exact Calls.quiet_of_same (HCALL.out _)))
          go_wp2
          go_quiet (fail)
          go_wp2
          go_roundw
          case rel =>
            refine ⟨k + 1, _, _, _, _, by omega, rfl, rfl, ⟨S3.out.below (ext_trans (ext_drewN _ _) (ext_drewN _ _)), S4.out.below (ext_trans (ext_drewN _ _) (ext_drewN _ _)), fun j hj => ?_, ext_trans HBL.out (ext_trans (ext_drewN _ _) (ext_drewN _ _))⟩⟩
            rcases Nat.lt_or_ge j k with h | h
            · exact HEQ.out j h
            · have : j = k := by omega
              subst this
              exact of_decide_eq_true HP.out.symm
          case measure => simp [slenT]; omega
        | false =>
          have HF : Hid (q = false) := HNO.out fun e => by
            have := HP.out
            rw [e] at this
            simp at this
          go_wp2
          go_quiet ((go_at_call 52; exact Calls.quiet_of_same (HCALL.out _)))
          go_wp2
          go_ret
          exact ⟨by rw [HF.out]; rfl, ext_trans HBL.out (ext_drewN _ _)⟩
      · have hkn : k = n := by omega
        subst hkn
        have HT : Hid (q = true) := HYES.out heq
        have HBL := Lib.hid hbel
        clear heq s1 s2 hbel
        go_wp2
        go_ret
        exact ⟨by rw [HT.out]; rfl, HBL.out⟩
  · have hb : ((n : Int) != (n' : Int)) = true := by simp; omega
    have hb' : ((n : Int) == (n' : Int)) = false := by simp; omega
    have HF : Hid (q = false) := NO fun e => hne (by rw [← hl, ← hl', e])
    clear h h' hl hl' NO hq hne
    go_enter Try.func53, Try.ntmps53
    go_wp2
    go_ret
    exact ⟨by rw [HF.out]; rfl, Below.refl _ _⟩

set_option maxRecDepth 100000 in
set_option maxHeartbeats 1600000 in
theorem sametr_any (t u : TraceC) (s s' : TSlots) (w : World) (h : SeesTr w s t) (h' : SeesTr w s' u) (hs : s.small) (hb1 : -9223372036854775808 ≤ t.bad ∧ t.bad < 9223372036854775808) (hb2 : -9223372036854775808 ≤ u.bad ∧ u.bad < 9223372036854775808) :
    Calls Try.prog 24 #[traceV t.bad s, traceV u.bad s'] w fun e w' => e = .returned (.bool (decide (t = u))) ∧ Below w.heap.size w w' := by
  obtain ⟨a1, n1, c1, a2, n2, c2, ss⟩ := s
  obtain ⟨a1', n1', c1', a2', n2', c2', ss'⟩ := s'
  obtain ⟨z, init, fs⟩ := t
  obtain ⟨z', init', fs'⟩ := u
  have hn2 := hs.n2
  simp only at hn2 hb1 hb2
  obtain ⟨q, hq⟩ : ∃ q, q = decide ((⟨z, init, fs⟩ : TraceC) = ⟨z', init', fs'⟩) := ⟨_, rfl⟩
  have hiff : q = (decide (z = z') && (decide (init = init') && decide (fs = fs'))) := by
    rw [hq]
    by_cases e1 : z = z' <;> by_cases e2 : init = init' <;> by_cases e3 : fs = fs' <;> simp [e1, e2, e3]
  rw [← hq]
  have EB : Hid (∀ W, Below w.heap.size w W → Calls Try.prog 52 #[.slice a1 n1 c1, .slice a1' n1' c1'] W fun e w' => e = .returned (.bool (decide (init = init'))) ∧ w' = W) := fun W hb => bytes_at _ _ a1 a1' n1 c1 n1' c1' W (h.s1.below hb) (h'.s1.below hb)
  have ET : Hid (∀ W, Below w.heap.size w W → Calls Try.prog 53 #[.slice a2 n2 c2, .slice a2' n2' c2'] W fun e w' => e = .returned (.bool (decide (fs = fs'))) ∧ Below W.heap.size W w') := fun W hb => tables_any fs fs' ss ss' a2 a2' n2 c2 n2' c2' W (h.s2.below hb) (h'.s2.below hb) hn2
  obtain ⟨q2, hq2⟩ : ∃ q, q = decide (init = init') := ⟨_, rfl⟩
  obtain ⟨q3, hq3⟩ : ∃ q, q = decide (fs = fs') := ⟨_, rfl⟩
  rw [← hq2] at EB hiff
  rw [← hq3] at ET hiff
  have HI := Lib.hid hiff
  clear hq hq2 hq3 hiff h h' hs
  unfold traceV
  by_cases h0 : z = z'
  case neg =>
    have e0 : (z == z') = false := by simpa using h0
    have HF : Hid (q = false) := by show _ = _; rw [HI.out]; simp [h0]
    clear h0
    go_enter Try.func24, Try.ntmps24
    go_wp2
    go_ret
    exact ⟨by rw [HF.out]; rfl, ext_trans (ext_alloc _ _) (ext_alloc _ _)⟩
  subst h0
  have HQ : Hid (q = (q2 && q3)) := by show _ = _; rw [HI.out]; simp
  clear HI
  go_enter Try.func24, Try.ntmps24
  go_wp2_with fail
  refine (EB.out _ (ext_trans (ext_alloc _ _) (ext_alloc _ _))).mono ?_
  rintro e W1 ⟨rfl, rfl⟩
  cases q2 with
  | false =>
    go_wp2
    go_ret
    exact ⟨by rw [HQ.out]; rfl, ext_trans (ext_alloc _ _) (ext_alloc _ _)⟩
  | true =>
    go_wp2_with fail
    refine (ET.out _ (ext_trans (ext_alloc _ _) (ext_alloc _ _))).mono ?_
    rintro e W2 ⟨rfl, hb⟩
    have HB := Lib.hid (ext_trans (ext_trans (ext_alloc _ _) (ext_alloc _ _)) hb)
    clear hb
    go_wp2
    go_ret
    exact ⟨by rw [HQ.out]; simp, HB.out⟩
end Go.Proofs.Ytcoehbkjccfhlaa
