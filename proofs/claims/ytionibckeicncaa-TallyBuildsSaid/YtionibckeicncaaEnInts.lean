/- inquestref00.Ints of any two lists; inquestlaw14.lists of the same lists; inquestlaw14.great; by their contracts. -/
import Derived.Test.YtionibckeicncaaLib
import Derived.Test.YtionibckeicncaaNSpec
import Derived.Test.YtionibckeicncaaCuInts
import Derived.Test.YtionibckeicncaaRows
import Derived.BigQuiet
import Derived.Deep.AppendLies
import Derived.Deep.CutRange
import Derived.Deep.QuietTactic
import Derived.Deep.RegionHeld3
import Derived.Deep.RegionLaw
import Derived.Deep.RegionWith
import Derived.KernelRfl
import Derived.Laws.EntriesVeiled
import Derived.Laws.Tables
import Derived.Lib.ConvBytes
import Derived.Lib.Hide
import Derived.Lib.SlBytesRow
import Derived.Lib.SmallJoins
import Derived.Maps.AppendAt
import Derived.Shelf.Bytes.SlSmallAll
import Derived.WalkKit
import Derived.WalkLawsBesides
import Derived.WalkSpells
namespace Go.Proofs.Ytionibckeicncaa
open Go Go.RowKit Go.Joins

theorem getD_memZ0 (L : List Int) (k : Nat) (h : k < L.length) : L[k]? = some (L.getD k 0) := by simp [List.getD, List.getElem?_eq_getElem h]
theorem take_eq_next {L L' : List Int} {k : Nat} (h : L.take k = L'.take k) (h1 : k < L.length) (h2 : k < L'.length) (e : L.getD k 0 = L'.getD k 0) : L.take (k + 1) = L'.take (k + 1) := by
  rw [List.take_succ_eq_append_getElem h1, List.take_succ_eq_append_getElem h2, h]
  simp only [List.getD, List.getElem?_eq_getElem h1, List.getElem?_eq_getElem h2, Option.getD_some] at e
  rw [e]
set_option maxRecDepth 100000 in
set_option maxHeartbeats 1600000 in
theorem ints14_any (L L' : List Int) (a a' : Option Addr) (n n' c c' : Nat) (w : World) (h : Sees w a n c (zvs L)) (h' : Sees w a' n' c' (zvs L')) (hn : n ≤ 100000000) (hn' : n' ≤ 100000000) :
    Calls Try.prog 7 #[.slice a n c, .slice a' n' c'] w fun e w' => e = .returned (.bool (decide (L = L'))) ∧ w' = w := by
  have H := Lib.hid h
  have H' := Lib.hid h'
  have hl := h.zlen
  have hl' := h'.zlen
  have HL := Lib.hid hl
  have HL' := Lib.hid hl'
  clear h h' hl hl'
  obtain ⟨r, hr⟩ : ∃ r, r = decide (L = L') := ⟨_, rfl⟩
  rw [← hr]
  have HR := Lib.hid hr
  clear hr
  go_enter Try.func7, Try.ntmps7
  go_wp2
  go_loopw [9, 5, 6] (fun i _ _ wr => ∃ k : Nat, k ≤ n ∧ i = .int .i64 k ∧ Hid (wr = w) ∧ Hid (k ≤ n' ∧ L.take k = L'.take k)) (fun i _ _ _ => n - (intOf i).toNat)
  case atStart => exact ⟨0, Nat.zero_le _, rfl, rfl, Nat.zero_le _, rfl⟩
  case round =>
    obtain ⟨k, hk, rfl, hw, hS⟩ := hrel
    obtain rfl := hw.out.symm
    clear hw
    by_cases hlt : k < n
    · obtain ⟨b1, o1, rfl, _⟩ := H.out.addr (show 0 < n by omega)
      have hc1 := H.out.z_at k hlt
      by_cases hlt2 : k < n'
      · obtain ⟨b2, o2, rfl, _⟩ := H'.out.addr (show 0 < n' by omega)
        have hc2 := H'.out.z_at k hlt2
        have hnx := fun (e : L.getD k 0 = L'.getD k 0) => take_eq_next hS.out.2 (by rw [HL.out]; exact hlt) (by rw [HL'.out]; exact hlt2) e
        have hno : L.getD k 0 ≠ L'.getD k 0 → r = false := fun e => by
          rw [HR.out]
          simp only [decide_eq_false_iff_not]
          intro e2
          exact e (by rw [e2])
        obtain ⟨x, hx⟩ : ∃ x, x = L.getD k 0 := ⟨_, rfl⟩
        obtain ⟨y, hy⟩ : ∃ y, y = L'.getD k 0 := ⟨_, rfl⟩
        rw [← hx] at hc1
        rw [← hy] at hc2
        rw [← hx, ← hy] at hnx hno
        have hI1 : ((k : Nat) : Int) < (n' : Int) := by omega
        have hI2 : (0 : Int) ≤ (k : Int) := by omega
        have hI3 : ((k : Nat) : Int) < (n : Int) := by omega
        have d1 : decide ((n' : Int) ≤ (k : Int)) = false := by simp; omega
        have d2 : decide (n' ≤ k) = false := by simp; omega
        have W1 : IntKind.i64.wrap ((k : Int) + 1) = (k : Int) + 1 := IntWalk.i64_in _ (by omega)
        by_cases e : x = y
        · subst e
          have HNX : Hid (k + 1 ≤ n' ∧ L.take (k + 1) = L'.take (k + 1)) := ⟨hlt2, hnx rfl⟩
          clear hx hy hnx hno hS
          go_wp2
          go_roundw
          case rel => exact ⟨k + 1, by omega, by go_num, trivial, HNX.out⟩
          case measure => simp [intOf]; omega
        · have HRF := Lib.hid (hno e)
          have e1 : (y == x) = false := by simp; exact fun h => e h.symm
          have e2 : (y != x) = true := by simp [bne, e1]
          clear hx hy hnx hno hS e
          go_wp2
          go_ret
          exact ⟨by rw [HRF.out]; rfl, rfl⟩
      · have HRF : Hid (r = false) := by
          show _ = _
          rw [HR.out]
          simp only [decide_eq_false_iff_not]
          intro e2
          have h1 := HL.out
          have h2 := HL'.out
          rw [e2] at h1
          omega
        have d1 : decide ((n' : Int) ≤ (k : Int)) = true := by simp; omega
        have d2 : decide (n' ≤ k) = true := by simp; omega
        have hI2 : (0 : Int) ≤ (k : Int) := by omega
        have hI3 : ((k : Nat) : Int) < (n : Int) := by omega
        clear hS
        go_wp2
        go_ret
        exact ⟨by rw [HRF.out]; rfl, rfl⟩
    · obtain rfl : n = k := by omega
      have HRE : Hid (r = decide (n = n')) := by
        show _ = _
        rw [HR.out]
        have h1 := HL.out
        have h2 := HL'.out
        have h3 := hS.out
        by_cases e : n = n'
        · have e2 : L = L' := by
            have := h3.2
            rwa [← h1, List.take_length, h1, e, ← h2, List.take_length] at this
          rw [decide_eq_true e2, decide_eq_true e]
        · have e2 : L ≠ L' := fun e2 => e (by rw [← h1, ← h2, e2])
          rw [decide_eq_false e2, decide_eq_false e]
      clear hS
      have e1 : ((n : Int) == (n' : Int)) = decide (n = n') := by rw [Bool.eq_iff_iff]; simp; omega
      have e2 : (n == n') = decide (n = n') := by rw [Bool.eq_iff_iff]; simp
      go_wp2
      go_ret
      exact ⟨by rw [HRE.out]; first | rfl | (congr 3; first | exact e1 | exact e2), rfl⟩

/-- More than is asked of here? -/
def great14 (c : NormC) (z : Int) : Bool := decide (200 < c.ins) || (decide (200 < c.lats.length) || (decide (200 < c.gates.length) || (decide (200 < c.cons.length) || decide (60 < z))))
end Go.Proofs.Ytionibckeicncaa
