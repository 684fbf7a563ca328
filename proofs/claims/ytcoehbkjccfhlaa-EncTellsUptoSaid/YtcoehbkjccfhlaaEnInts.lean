/- inquestref00.Ints of any two lists; inquestlaw14.lists of the same lists; inquestlaw14.great; by their contracts. -/
import Derived.Test.YtcoehbkjccfhlaaGEncT00
import Derived.Test.YtcoehbkjccfhlaaGEncT01
import Derived.Test.YtcoehbkjccfhlaaGEncT02
import Derived.Test.YtcoehbkjccfhlaaGEncT05
import Derived.Test.YtcoehbkjccfhlaaRows
import Derived.BigQuiet
import Derived.Deep.AppendLies
import Derived.Deep.CutRange
import Derived.Deep.QuietTactic
import Derived.Deep.RegionHeld3
import Derived.Deep.RegionLaw
import Derived.Deep.RegionWith
import Derived.KernelRfl
import Derived.Laws.EntriesVeiled
import Derived.Laws.Tables
import Derived.Lib.ConvBytes
import Derived.Lib.Hide
import Derived.Lib.SlBytesRow
import Derived.Lib.SmallJoins
import Derived.Maps.AppendAt
import Derived.Shelf.Bytes.SlSmallAll
import Derived.WalkKit
import Derived.WalkLawsBesides
import Derived.WalkSpells
namespace Go.Proofs.Ytcoehbkjccfhlaa
open Go Go.RowKit Go.Joins

theorem getD_memZ0 (L : List Int) (k : Nat) (h : k < L.length) : L[k]? = some (L.getD k 0) := by simp [List.getD, List.getElem?_eq_getElem h]
theorem take_eq_next {L L' : List Int} {k : Nat} (h : L.take k = L'.take k) (h1 : k < L.length) (h2 : k < L'.length) (e : L.getD k 0 = L'.getD k 0) : L.take (k + 1) = L'.take (k + 1) := by
  rw [List.take_succ_eq_append_getElem h1, List.take_succ_eq_append_getElem h2, h]
  simp only [List.getD, List.getElem?_eq_getElem h1, List.getElem?_eq_getElem h2, Option.getD_some] at e
  rw [e]
set_option maxRecDepth 100000 in
set_option maxHeartbeats 1600000 in
theorem ints14_any (L L' : List Int) (a a' : Option Addr) (n n' c c' : Nat) (w : World) (h : Sees w a n c (zvs L)) (h' : Sees w a' n' c' (zvs L')) (hn : n ≤ 100000000) (hn' : n' ≤ 100000000) :
    Calls Try.prog 21 #[.slice a n c, .slice a' n' c'] w fun e w' => e = .returned (.bool (decide (L = L'))) ∧ w' = w := by
  have H := Lib.hid h
  have H' := Lib.hid h'
  have hl := h.zlen
  have hl' := h'.zlen
  have HL := Lib.hid hl
  have HL' := Lib.hid hl'
  clear h h' hl hl'
  obtain ⟨r, hr⟩ : ∃ r, r = decide (L = L') := ⟨_, rfl⟩
  rw [← hr]
  have HR := Lib.hid hr
  clear hr
  go_enter Try.func21, Try.ntmps21
  go_wp2
  go_loopw [9, 5, 6] (fun i _ _ wr => ∃ k : Nat, k ≤ n ∧ i = .int .i64 k ∧ Hid (wr = w) ∧ Hid (k ≤ n' ∧ L.take k = L'.take k)) (fun i _ _ _ => n - (intOf i).toNat)
  case atStart => exact ⟨0, Nat.zero_le _, rfl, rfl, Nat.zero_le _, rfl⟩
  case round =>
    obtain ⟨k, hk, rfl, hw, hS⟩ := hrel
    obtain rfl := hw.out.symm
    clear hw
    by_cases hlt : k < n
    · obtain ⟨b1, o1, rfl, _⟩ := H.out.addr (show 0 < n by omega)
      have hc1 := H.out.z_at k hlt
      by_cases hlt2 : k < n'
      · obtain ⟨b2, o2, rfl, _⟩ := H'.out.addr (show 0 < n' by omega)
        have hc2 := H'.out.z_at k hlt2
        have hnx := fun (e : L.getD k 0 = L'.getD k 0) => take_eq_next hS.out.2 (by rw [HL.out]; exact hlt) (by rw [HL'.out]; exact hlt2) e
        have hno : L.getD k 0 ≠ L'.getD k 0 → r = false := fun e => by
          rw [HR.out]
          simp only [decide_eq_false_iff_not]
          intro e2
          exact e (by rw [e2])
        obtain ⟨x, hx⟩ : ∃ x, x = L.getD k 0 := ⟨_, rfl⟩
        obtain ⟨y, hy⟩ : ∃ y, y = L'.getD k 0 := ⟨_, rfl⟩
        rw [← hx] at hc1
        rw [← hy] at hc2
        rw [← hx, ← hy] at hnx hno
        have hI1 : ((k : Nat) : Int) < (n' : Int) := by omega
        have hI2 : (0 : Int) ≤ (k : Int) := by omega
        have hI3 : ((k : Nat) : Int) < (n : Int) := by omega
        have d1 : decide ((n' : Int) ≤ (k : Int)) = false := by simp; omega
        have d2 : decide (n' ≤ k) = false := by simp; omega
        have W1 : IntKind.i64.wrap ((k : Int) + 1) = (k : Int) + 1 := IntWalk.i64_in _ (by omega)
        by_cases e : x = y
        · subst e
          have HNX : Hid (k + 1 ≤ n' ∧ L.take (k + 1) = L'.take (k + 1)) := ⟨hlt2, hnx rfl⟩
          clear hx hy hnx hno hS
          go_wp2
          go_roundw
          case rel => exact ⟨k + 1, by omega, by go_num, trivial, HNX.out⟩
          case measure => simp [intOf]; omega
        · have HRF := Lib.hid (hno e)
          have e1 : (y == x) = false := by simp; exact fun h => e h.symm
          have e2 : (y != x) = true := by simp [bne, e1]
          clear hx hy hnx hno hS e
          go_wp2
          go_ret
          exact ⟨by rw [HRF.out]; rfl, rfl⟩
      · have HRF : Hid (r = false) := by
          show _ = _
          rw [HR.out]
          simp only [decide_eq_false_iff_not]
          intro e2
          have h1 := HL.out
          have h2 := HL'.out
          rw [e2] at h1
          omega
        have d1 : decide ((n' : Int) ≤ (k : Int)) = true := by simp; omega
        have d2 : decide (n' ≤ k) = true := by simp; omega
        have hI2 : (0 : Int) ≤ (k : Int) := by omega
        have hI3 : ((k : Nat) : Int) < (n : Int) := by omega
        clear hS
        go_wp2
        go_ret
        exact ⟨by rw [HRF.out]; rfl, rfl⟩
    · obtain rfl : n = k := by omega
      have HRE : Hid (r = decide (n = n')) := by
        show _ = _
        rw [HR.out]
        have h1 := HL.out
        have h2 := HL'.out
        have h3 := hS.out
        by_cases e : n = n'
        · have e2 : L = L' := by
            have := h3.2
            rwa [← h1, List.take_length, h1, e, ← h2, List.take_length] at this
          rw [decide_eq_true e2, decide_eq_true e]
        · have e2 : L ≠ L' := fun e2 => e (by rw [← h1, ← h2, e2])
          rw [decide_eq_false e2, decide_eq_false e]
      clear hS
      have e1 : ((n : Int) == (n' : Int)) = decide (n = n') := by rw [Bool.eq_iff_iff]; simp; omega
      have e2 : (n == n') = decide (n = n') := by rw [Bool.eq_iff_iff]; simp
      go_wp2
      go_ret
      exact ⟨by rw [HRE.out]; first | rfl | (congr 3; first | exact e1 | exact e2), rfl⟩

set_option maxRecDepth 100000 in
set_option maxHeartbeats 1600000 in
/-- The same lists twice. -/
theorem lists14_any (L : List (List Int)) (a a' : Option Addr) (n c c' : Nat) (ss ss' : List ZSlc) (w : World) (h : SeesZ w a n c ss L) (h' : SeesZ w a' n c' ss' L) (hn : n ≤ 100000000) (hL : ∀ l ∈ L, l.length ≤ 1000000) :
    Calls Try.prog 16 #[.slice a n c, .slice a' n c'] w fun e w' => e = .returned (.bool true) ∧ Below w.heap.size w w' := by
  have H := Lib.hid h
  have H' := Lib.hid h'
  have HL := Lib.hid h.zlen
  have HS := Lib.hid hL
  clear h h' hL
  go_enter Try.func16, Try.ntmps16
  go_wp2
  go_loopw [13] (fun i wr => ∃ k : Nat, k ≤ n ∧ i = .int .i64 k ∧ Hid (Below w.heap.size w wr)) (fun i _ => n - (intOf i).toNat)
  case atStart => exact ⟨0, Nat.zero_le _, rfl, Below.refl _ _⟩
  case round =>
    obtain ⟨k, hk, rfl, hB⟩ := hrel
    by_cases hlt : k < n
    · obtain ⟨b1, o1, rfl, _⟩ := H.out.addr (show 0 < n by omega)
      obtain ⟨b2, o2, rfl, _⟩ := H'.out.addr (show 0 < n by omega)
      have h1 := H.out.below hB.out
      have h2 := H'.out.below hB.out
      have hc1 := h1.cellAt k hlt
      have hc2 := h2.cellAt k hlt
      obtain ⟨sa, sn, sc, e1, hs1⟩ := h1.one hlt
      obtain ⟨ta, tn, tc, e2, hs2⟩ := h2.one hlt
      rw [e1] at hc1
      rw [e2] at hc2
      have hlen : (L.getD k []).length ≤ 1000000 := HS.out _ (getD_memL (by rw [HL.out]; exact hlt))
      have l1 := hs1.zlen
      have l2 := hs2.zlen
      have HCALL : Hid (∀ nq, Calls Try.prog 21 #[.slice sa sn sc, .slice ta tn tc] (wr.drewN nq) fun e w' => e = .returned (.bool true) ∧ w' = wr.drewN nq) := fun nq => by
        refine (ints14_any (L.getD k []) (L.getD k []) sa ta sn tn sc tc (wr.drewN nq) (hs1.below (ext_drewN _ _)) (hs2.below (ext_drewN _ _)) (by omega) (by omega)).mono ?_
        rintro e w' ⟨he, hw⟩
        exact ⟨by rw [he]; simp, hw⟩
      have hI1 : ((k : Nat) : Int) < (n : Int) := by omega
      have hI2 : (0 : Int) ≤ (k : Int) := by omega
      have W1 : IntKind.i64.wrap ((k : Int) + 1) = (k : Int) + 1 := IntWalk.i64_in _ (by omega)
      have HB := Lib.hid hB.out
      clear h1 h2 e1 e2 hs1 hs2 hlen l1 l2 hB
      simp only at hc1 hc2
      go_wp2_with fail
      go_quiet ((go_at_call 21; exact Calls.quiet_of_same (HCALL.out _)))
      rename_i nq
      have HB2 : Hid (Below w.heap.size w (wr.drewN nq)) := ext_trans HB.out (ext_drewN _ _)
      go_wp2
      go_roundw
      case rel => exact ⟨k + 1, by omega, by go_num, HB2.out⟩
      case measure => simp [intOf]; omega
    · obtain rfl : k = n := by omega
      go_wp2
      go_ret
      exact ⟨rfl, hB.out⟩
/-- More than is asked of here? -/
def great14 (c : NormC) (z : Int) : Bool := decide (200 < c.ins) || (decide (200 < c.lats.length) || (decide (200 < c.gates.length) || (decide (200 < c.cons.length) || decide (60 < z))))
set_option maxRecDepth 100000 in
set_option maxHeartbeats 1600000 in
theorem great14_any (c : NormC) (s : CSlots) (z : Int) (w : World) (h : SeesCir w s c) :
    Calls Try.prog 6 #[cirV c.ins s, .int .i64 z] w fun e w' => e = .returned (.bool (great14 c z)) ∧ Below w.heap.size w w' := by
  have l1 : c.lats.length = s.n1 := h.s1.1
  have l2 : c.gates.length = s.n2 := h.s2.1
  have l5 : c.cons.length = s.n5 := h.s5.lenMap
  obtain ⟨x, hx⟩ : ∃ x, x = c.ins := ⟨_, rfl⟩
  unfold great14
  rw [l1, l2, l5, ← hx]
  clear h l1 l2 l5 hx
  obtain ⟨a1, n1, c1, a2, n2, c2, a3, n3, c3, a4, n4, c4, a5, n5, c5⟩ := s
  unfold cirV
  by_cases hx : 200 < x
  · have e_x : decide ((200 : Int) < x) = true := by simp; omega
    clear hx
    simp only [e_x, Bool.true_or]
    go_enter Try.func6, Try.ntmps6
    go_wp2
    go_ret
    exact ⟨by first | rfl | simp, ext_alloc _ _⟩
  have e_x : decide ((200 : Int) < x) = false := by simp; omega
  clear hx
  by_cases hn1 : 200 < n1
  · have e_n1 : decide ((200 : Int) < (n1 : Int)) = true := by simp; omega
    have f_n1 : decide (200 < n1) = true := by simp; omega
    clear hn1
    simp only [e_x, f_n1, Bool.true_or, Bool.false_or]
    go_enter Try.func6, Try.ntmps6
    go_wp2
    go_ret
    exact ⟨by first | rfl | simp, ext_alloc _ _⟩
  have e_n1 : decide ((200 : Int) < (n1 : Int)) = false := by simp; omega
  have f_n1 : decide (200 < n1) = false := by simp; omega
  clear hn1
  by_cases hn2 : 200 < n2
  · have e_n2 : decide ((200 : Int) < (n2 : Int)) = true := by simp; omega
    have f_n2 : decide (200 < n2) = true := by simp; omega
    clear hn2
    simp only [e_x, f_n1, f_n2, Bool.true_or, Bool.false_or]
    go_enter Try.func6, Try.ntmps6
    go_wp2
    go_ret
    exact ⟨by first | rfl | simp, ext_alloc _ _⟩
  have e_n2 : decide ((200 : Int) < (n2 : Int)) = false := by simp; omega
  have f_n2 : decide (200 < n2) = false := by simp; omega
  clear hn2
  by_cases hn5 : 200 < n5
  · have e_n5 : decide ((200 : Int) < (n5 : Int)) = true := by simp; omega
    have f_n5 : decide (200 < n5) = true := by simp; omega
    clear hn5
    simp only [e_x, f_n1, f_n2, f_n5, Bool.true_or, Bool.false_or]
    go_enter Try.func6, Try.ntmps6
    go_wp2
    go_ret
    exact ⟨by first | rfl | simp, ext_alloc _ _⟩
  have e_n5 : decide ((200 : Int) < (n5 : Int)) = false := by simp; omega
  have f_n5 : decide (200 < n5) = false := by simp; omega
  clear hn5
  by_cases hz : 60 < z
  · have e_z : decide ((60 : Int) < z) = true := by simp; omega
    clear hz
    simp only [e_x, f_n1, f_n2, f_n5, e_z, Bool.false_or]
    go_enter Try.func6, Try.ntmps6
    go_wp2
    go_ret
    exact ⟨by first | rfl | simp, ext_alloc _ _⟩
  have e_z : decide ((60 : Int) < z) = false := by simp; omega
  clear hz
  simp only [e_x, f_n1, f_n2, f_n5, e_z, Bool.false_or]
  go_enter Try.func6, Try.ntmps6
  go_wp2
  go_ret
  exact ⟨by first | rfl | simp, ext_alloc _ _⟩
end Go.Proofs.Ytcoehbkjccfhlaa
