/- inquestref00.Bools, by its contract. -/
import Derived.Test.YtdheldhecimfnaaLib
import Derived.Test.YtdheldhecimfnaaNBase
import Derived.Test.YtdheldhecimfnaaCnNexts
import Derived.Test.YtdheldhecimfnaaRows
import Derived.BigQuiet
import Derived.Deep.AppendLies
import Derived.Deep.CutRange
import Derived.Deep.QuietTactic
import Derived.Deep.RegionHeld3
import Derived.Deep.RegionLaw
import Derived.Deep.RegionWith
import Derived.KernelRfl
import Derived.Laws.EntriesVeiled
import Derived.Laws.Tables
import Derived.Lib.AppendStr
import Derived.Lib.ConvBytes
import Derived.Lib.Hide
import Derived.Lib.SlBytesRow
import Derived.Lib.SmallJoins
import Derived.Maps.AppendAt
import Derived.OrdersHeld
import Derived.Shelf.Bytes.SlSmallAll
import Derived.WalkKit
import Derived.WalkLawsBesides
import Derived.WalkSpells
namespace Go.Proofs.Ytdheldhecimfnaa
open Go Go.RowKit Go.Joins

theorem eq_stepB {xs ys : List Bool} {k : Nat} (h : xs.take k = ys.take k) (hk : k < xs.length) (hk' : k < ys.length) (hx : xs.getD k false = ys.getD k false) : xs.take (k + 1) = ys.take (k + 1) := by
  rw [List.take_succ_eq_append_getElem hk, List.take_succ_eq_append_getElem hk', h]
  have : xs[k] = ys[k] := by simpa [List.getD, List.getElem?_eq_getElem hk, List.getElem?_eq_getElem hk'] using hx
  rw [this]
set_option maxRecDepth 100000 in
set_option maxHeartbeats 1600000 in
theorem bools_any (xs ys : List Bool) (a a' : Option Addr) (n c n' c' : Nat) (w : World) (h : Sees w a n c (xs.map Value.bool)) (h' : Sees w a' n' c' (ys.map Value.bool)) (hn : n ≤ 1000000000) :
    Calls Try.prog 10 #[.slice a n c, .slice a' n' c'] w fun e w' => e = .returned (.bool (decide (xs = ys))) ∧ w' = w := by
  have HL : Hid (xs.length = n) := h.lenMap
  have HL' : Hid (ys.length = n') := h'.lenMap
  have H := Lib.hid h
  have H' := Lib.hid h'
  obtain ⟨r, hr⟩ : ∃ r, r = decide (xs = ys) := ⟨_, rfl⟩
  have HR : Hid (r = decide (xs = ys)) := hr
  rw [← hr]
  clear h h' hr
  go_enter Try.func10, Try.ntmps10
  go_wp2
  go_loop [9, 5, 6] (fun iv _ _ => ∃ k : Nat, k ≤ n ∧ iv = .int .i64 k ∧ Hid (k ≤ n' ∧ xs.take k = ys.take k)) (fun iv _ _ => n - (intOf iv).toNat)
  case atStart => exact ⟨0, Nat.zero_le _, rfl, Nat.zero_le _, rfl⟩
  case round =>
    obtain ⟨k, hk, rfl, hI⟩ := hrel
    by_cases hlt : k < n
    · obtain ⟨b, off, rfl, _⟩ := H.out.addr (show 0 < n by omega)
      have c1 := H.out.bool_at k hlt
      obtain ⟨x, hx⟩ : ∃ x, x = xs.getD k false := ⟨_, rfl⟩
      rw [← hx] at c1
      by_cases hge : n' ≤ k
      · have e1 : decide ((n' : Int) ≤ (k : Int)) = true := by simp; omega
        have e1' : decide (n' ≤ k) = true := by simpa using hge
        have hF : r = false := by
          rw [HR.out]
          refine decide_eq_false fun e => ?_
          subst e
          have h1 := HL.out
          have h2 := HL'.out
          omega
        subst hF
        clear hx
        go_wp2
        go_ret
        exact ⟨rfl, rfl⟩
      · have e1 : decide ((n' : Int) ≤ (k : Int)) = false := by simp; omega
        have e1' : decide (n' ≤ k) = false := by simpa using hge
        have hlt' : k < n' := by omega
        obtain ⟨b', off', rfl, _⟩ := H'.out.addr (show 0 < n' by omega)
        have c2 := H'.out.bool_at k hlt'
        obtain ⟨y, hy⟩ : ∃ y, y = ys.getD k false := ⟨_, rfl⟩
        rw [← hy] at c2
        have HX := Lib.hid hx
        have HY := Lib.hid hy
        have W1 : IntKind.i64.wrap ((k : Int) + 1) = (k : Int) + 1 := IntWalk.i64_in _ (by omega)
        clear hx hy hge
        by_cases hxy : y = x
        · subst hxy
          have HN : Hid (k + 1 ≤ n' ∧ xs.take (k + 1) = ys.take (k + 1)) := ⟨hlt', eq_stepB hI.out.2 (by rw [HL.out]; exact hlt) (by rw [HL'.out]; exact hlt') (by rw [← HX.out, HY.out])⟩
          go_wp2
          go_round
          case rel => exact ⟨k + 1, by omega, by go_num, HN.out⟩
          case measure => simp [intOf]; omega
        · have hF : r = false := by
            rw [HR.out]
            refine decide_eq_false fun e => ?_
            subst e
            exact hxy (by rw [HX.out, HY.out])
          subst hF
          have e2 : (y != x) = true := by simpa using hxy
          have e3 : (y == x) = false := by simpa using hxy
          clear hxy
          go_wp2
          go_ret
          exact ⟨rfl, rfl⟩
    · obtain rfl : k = n := by omega
      have hR : r = decide ((k : Int) = (n' : Int)) := by
        rw [HR.out]
        apply decide_eq_decide.2
        constructor
        · intro e
          subst e
          have h1 := HL.out
          have h2 := HL'.out
          omega
        · intro e
          have h3 := hI.out.2
          rw [List.take_of_length_le (by rw [HL.out]; exact Nat.le_refl _), List.take_of_length_le (by rw [HL'.out]; omega)] at h3
          exact h3
      have HRR := Lib.hid hR
      clear hR
      go_wp2
      go_ret
      refine ⟨?_, rfl⟩
      rw [HRR.out]
      congr 2
end Go.Proofs.Ytdheldhecimfnaa
