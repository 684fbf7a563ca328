/- inquestlaw14.holds, by its contract. -/

import Derived.Test.YtcoehbkjccfhlaaGEncM00
import Derived.Test.YtcoehbkjccfhlaaGEncM01
import Derived.Test.YtcoehbkjccfhlaaGEncM03
import Derived.Test.YtcoehbkjccfhlaaEnFa
import Derived.Test.YtcoehbkjccfhlaaGEncM18
import Derived.Test.YtcoehbkjccfhlaaRows
import Derived.Test.YtcoehbkjccfhlaaGEncM05
import Derived.BigQuiet
import Derived.Deep.AppendLies
import Derived.Deep.CutRange
import Derived.Deep.QuietTactic
import Derived.Deep.RegionHeld3
import Derived.Deep.RegionLaw
import Derived.Deep.RegionWith
import Derived.KernelRfl
import Derived.Laws.EntriesVeiled
import Derived.Laws.Tables
import Derived.Lib.AppendStr
import Derived.Lib.AppendZeros
import Derived.Lib.ConvBytes
import Derived.Lib.Hide
import Derived.Lib.SlBytesRow
import Derived.Lib.SmallJoins
import Derived.Maps.AppendAt
import Derived.OrdersHeld
import Derived.Shelf.Bytes.SlSmallAll
import Derived.WalkKit
import Derived.WalkLawsBesides
import Derived.WalkSpells
namespace Go.Proofs.Ytcoehbkjccfhlaa
open Go Go.RowKit Go.Joins

/-- Does a literal hold in a model (a list of bools)? -/
def litB (bs : List Bool) (x : Int) : Bool := (decide (0 < x) && (decide (x < bs.length) && bs.getD x.toNat false)) || (decide (x < 0) && (decide (-x < bs.length) && !bs.getD (-x).toNat false))
theorem litB_eq {bs : List Bool} {x : Int} (h : -x < bs.length) : litB bs x = litM (fun s => bs.getD s false) x := by
  have hM : litM (fun s => bs.getD s false) x = ((decide (0 < x) && bs.getD x.toNat false) || (decide (x < 0) && !bs.getD (-x).toNat false)) := rfl
  rw [hM]
  unfold litB
  by_cases h1 : x < bs.length
  · rw [decide_eq_true h, decide_eq_true h1]; simp
  · have e : bs.getD x.toNat false = false := by rw [List.getD, List.getElem?_eq_none (by omega)]; rfl
    rw [decide_eq_true h, e]; simp
theorem sees_bool {w : World} {b off n c : Nat} {M : List Bool} (h : Sees w (some ⟨b, off, .none⟩) n c (M.map Value.bool)) (j : Nat) (hj : j < n) : w.cell? ⟨b, off + j, .none⟩ = some (.bool (M.getD j false)) := by
  have hl := h.lenMap
  rw [(h.cell j hj).2]
  simp [List.getD, List.getElem?_eq_getElem (show j < M.length by omega)]
set_option maxRecDepth 100000 in
set_option maxHeartbeats 3200000 in
theorem holds14_any (l : List Int) (bs : List Bool) (a : Option Addr) (n c : Nat) (am : Option Addr) (nm cm : Nat) (w : World) (h : Sees w a n c (zvs l)) (hm : Sees w am nm cm (bs.map Value.bool)) (hn : n ≤ 100000000) (hnm : nm ≤ 100000000) (hz : ∀ x ∈ l, x.natAbs ≤ 100000000) :
    Calls Try.prog 28 #[.slice a n c, .slice am nm cm] w fun e w' => e = .returned (.bool (l.any (litB bs))) ∧ w' = w := by
  have HS := Lib.hid h
  have HM := Lib.hid hm
  have HL := Lib.hid h.zlen
  have HZ := Lib.hid hz
  have HB : Hid (bs.length = nm) := hm.lenMap
  clear h hm hz
  go_enter Try.func28, Try.ntmps28
  go_wp2
  go_loopw [9] (fun i wr => ∃ k : Nat, k ≤ n ∧ i = .int .i64 k ∧ Hid (∀ j, j < k → litB bs (l.getD j 0) = false) ∧ Hid (wr = w)) (fun i _ => n - (intOf i).toNat)
  case atStart => exact ⟨0, Nat.zero_le _, rfl, (fun j hj => absurd hj (by omega)), rfl⟩
  case round =>
    obtain ⟨k, hk, rfl, hN, hw⟩ := hrel
    obtain rfl := hw.out.symm
    have HN := Lib.hid hN.out
    clear hw hN
    by_cases hlt : k < n
    · obtain ⟨b, off, rfl, _⟩ := HS.out.addr (show 0 < n by omega)
      have hc := HS.out.z_at k hlt
      have hmem : l.getD k 0 ∈ l := getD_memZ (by rw [HL.out]; exact hlt)
      have hyz := HZ.out _ hmem
      obtain ⟨y, hy⟩ : ∃ y, y = l.getD k 0 := ⟨_, rfl⟩
      rw [← hy] at hc hyz hmem
      have hI1 : ((k : Nat) : Int) < (n : Int) := by omega
      have hI2 : (0 : Int) ≤ (k : Int) := by omega
      have W1 : IntKind.i64.wrap ((k : Int) + 1) = (k : Int) + 1 := IntWalk.i64_in _ (by omega)
      have YES : Hid (litB bs y = true → l.any (litB bs) = true) := fun h => List.any_eq_true.2 ⟨y, hmem, h⟩
      have NO : Hid (litB bs y = false → ∀ j, j < k + 1 → litB bs (l.getD j 0) = false) := fun h j hj => by
        by_cases e : j = k
        · rw [e, ← hy]; exact h
        · exact HN.out j (by omega)
      clear hy hmem
      rcases Int.lt_trichotomy y 0 with h0 | h0 | h0
      · obtain ⟨s, hs⟩ := Int.eq_ofNat_of_zero_le (a := -y) (by omega)
        have hys : y = -(s : Int) := by omega
        have E : Hid (litB bs y = (decide (s < nm) && !bs.getD s false)) := by
          show _ = _
          unfold litB
          rw [hys, Int.neg_neg, decide_eq_true (show -(s : Int) < 0 by omega), decide_eq_false (show ¬ (0 : Int) < -(s : Int) by omega), HB.out]
          simp
        have d1 : decide (0 < y) = false := decide_eq_false (by omega)
        have d2 : decide (y < 0) = true := decide_eq_true h0
        have WN : IntKind.i64.wrap (-y) = (s : Int) := by rw [hys, Int.neg_neg]; exact IntWalk.i64_in _ (by omega)
        clear hys
        by_cases h1 : s < nm
        · obtain ⟨b2, o2, rfl, _⟩ := HM.out.addr (show 0 < nm by omega)
          have hcell := sees_bool HM.out s h1
          obtain ⟨q, hq⟩ : ∃ q, q = bs.getD s false := ⟨_, rfl⟩
          rw [← hq, decide_eq_true h1] at E
          rw [← hq] at hcell
          have I1 : (s : Int) < (nm : Int) := by omega
          have I0 : (0 : Int) ≤ (s : Int) := by omega
          clear hq h0 hs hyz
          cases q with
          | false =>
            have Y := Lib.hid (YES.out (by rw [E.out]; rfl))
            clear YES NO E
            go_wp2
            go_ret
            exact ⟨by rw [Y.out] <;> rfl, rfl⟩
          | true =>
            have Y := Lib.hid (NO.out (by rw [E.out]; rfl))
            clear YES NO E
            go_wp2
            go_roundw
            case rel => exact ⟨k + 1, by omega, by go_num, Y.out, trivial⟩
            case measure => simp [intOf]; omega
        · have d3 : decide ((s : Int) < (nm : Int)) = false := by simp; omega
          have d4 : decide (s < nm) = false := by simpa using h1
          rw [d4] at E
          have Y := Lib.hid (NO.out (by rw [E.out]; rfl))
          clear YES NO E h0 hs hyz h1
          go_wp2
          go_roundw
          case rel => exact ⟨k + 1, by omega, by go_num, Y.out, trivial⟩
          case measure => simp [intOf]; omega
      · subst h0
        have Y := Lib.hid (NO.out (by unfold litB; simp))
        clear YES NO hyz
        go_wp2
        go_roundw
        case rel => exact ⟨k + 1, by omega, by go_num, Y.out, trivial⟩
        case measure => simp [intOf]; omega
      · obtain ⟨s, rfl⟩ := Int.eq_ofNat_of_zero_le (a := y) (by omega)
        have s0 : 0 < s := by omega
        have E : Hid (litB bs (s : Int) = (decide (s < nm) && bs.getD s false)) := by
          show _ = _
          unfold litB
          rw [decide_eq_true h0, decide_eq_false (show ¬ (s : Int) < 0 by omega), HB.out]
          simp
        have d1 : decide ((0 : Int) < (s : Int)) = true := by simpa using s0
        have d1' : decide (0 < s) = true := by simpa using s0
        have d2 : decide ((s : Int) < 0) = false := by simp
        by_cases h1 : s < nm
        · obtain ⟨b2, o2, rfl, _⟩ := HM.out.addr (show 0 < nm by omega)
          have hcell := sees_bool HM.out s h1
          obtain ⟨q, hq⟩ : ∃ q, q = bs.getD s false := ⟨_, rfl⟩
          rw [← hq, decide_eq_true h1] at E
          rw [← hq] at hcell
          have I1 : (s : Int) < (nm : Int) := by omega
          have I0 : (0 : Int) ≤ (s : Int) := by omega
          clear hq h0 hyz
          cases q with
          | true =>
            have Y := Lib.hid (YES.out (by rw [E.out]; rfl))
            clear YES NO E
            go_wp2
            go_ret
            exact ⟨by rw [Y.out] <;> rfl, rfl⟩
          | false =>
            have Y := Lib.hid (NO.out (by rw [E.out]; rfl))
            clear YES NO E
            go_wp2
            go_roundw
            case rel => exact ⟨k + 1, by omega, by go_num, Y.out, trivial⟩
            case measure => simp [intOf]; omega
        · have d3 : decide ((s : Int) < (nm : Int)) = false := by simp; omega
          have d4 : decide (s < nm) = false := by simpa using h1
          rw [d4] at E
          have Y := Lib.hid (NO.out (by rw [E.out]; rfl))
          clear YES NO E h0 hyz h1
          go_wp2
          go_roundw
          case rel => exact ⟨k + 1, by omega, by go_num, Y.out, trivial⟩
          case measure => simp [intOf]; omega
    · obtain rfl : k = n := by omega
      have E2 : Hid (l.any (litB bs) = false) := any_upto (d := 0) fun j hj => HN.out j (by rw [← HL.out]; exact hj)
      go_wp2
      go_ret
      exact ⟨by rw [E2.out] <;> rfl, rfl⟩
/-- One literal as a clause. -/
theorem hold1_any (x : Int) (bs : List Bool) (am : Option Addr) (nm cm : Nat) (w : World) (hm : Sees w am nm cm (bs.map Value.bool)) (hnm : nm ≤ 100000000) (hz : x.natAbs ≤ 100000000) :
    Calls Try.prog 28 #[.slice (some ⟨w.heap.size, 0, none⟩) 1 1, .slice am nm cm] (w.alloc (.cells #[.int .i64 x] 3)) fun e w' => e = .returned (.bool (litB bs x)) ∧ w' = w.alloc (.cells #[.int .i64 x] 3) := by
  refine (holds14_any [x] bs _ 1 1 am nm cm _ (sees_oneI w x) (hm.below (ext_alloc _ _)) (by omega) hnm (fun y hy => by obtain rfl := List.mem_singleton.1 hy; exact hz)).mono ?_
  rintro e w' ⟨he, hw⟩
  exact ⟨by rw [he]; simp, hw⟩
end Go.Proofs.Ytcoehbkjccfhlaa
