/- The document's queue: Len, Next, down, Bump, Fade, by their contracts. -/
import Derived.Test.YthedgbdnidghnaaLib
import Derived.Test.YthedgbdnidghnaaNBase
import Derived.Test.YthedgbdnidghnaaQuPure
import Derived.Test.YthedgbdnidghnaaQuW
import Derived.Test.YthedgbdnidghnaaQuNext
import Derived.Test.YthedgbdnidghnaaQuRefW
import Derived.Test.YthedgbdnidghnaaRows
import Derived.ArgAppend
import Derived.BigQuiet
import Derived.Deep.AppendLies
import Derived.Deep.CutRange
import Derived.Deep.QuietTactic
import Derived.Deep.RegionHeld3
import Derived.Deep.RegionLaw
import Derived.Deep.RegionWith
import Derived.KernelRfl
import Derived.Laws.EntriesVeiled
import Derived.Lib.ConvBytes
import Derived.Lib.Hide
import Derived.Lib.SlBytesRow
import Derived.Lib.SmallJoins
import Derived.OrdersHeld
import Derived.Shelf.Bytes.SlSmallAll
import Derived.WalkKit
import Derived.WalkLawsBesides
import Derived.WalkSpells
namespace Go.Proofs.Ythedgbdnidghnaa
open Go Go.RowKit Go.Joins

theorem count_take {l : List Bool} {i : Nat} (hi : i < l.length) : (l.take (i + 1)).count true = (l.take i).count true + (if l.getD i false then 1 else 0) := by
  rw [List.take_succ_eq_append_getElem hi, List.count_append]
  have : l.getD i false = l[i] := by simp [List.getD, List.getElem?_eq_getElem hi]
  rw [this]
  cases l[i] <;> simp

section
variable {w w' : World} {p gs gw cs cw n : Nat} {r : RQ}

set_option maxRecDepth 100000 in
theorem rlen12_any (H : RW w p gs gw cs cw n r) : Calls Try.prog 25 #[.pointer (some ⟨p, 0, none⟩)] w fun e w' => e = .returned (.int .i64 (lenR r : Int)) ∧ w = w' := by
  have c1 := H.c1
  have nm := H.ok.nm
  have hlw := H.ok.lw
  have HW := Lib.hid H
  have HL : Hid ((r.wt.take (n + 1)).count true = lenR r) := by
    show _ = _; unfold lenR; rw [List.take_of_length_le (by omega)]
  have H1 : Hid ((r.wt.take 1).count true = 0) := by
    show _ = _
    have := count_take (l := r.wt) (i := 0) (by omega)
    rw [this, H.ok.w0]; simp
  have HS : Hid (∀ i, i ≤ n → (r.wt.take (i + 1)).count true = (r.wt.take i).count true + (if r.wt.getD i false then 1 else 0)) := fun i hi => count_take (by omega)
  clear H hlw
  go_enter Try.func25, Try.ntmps25
  go_wp2
  go_loopw [4, 3] (fun iv nv wr => ∃ (i c : Nat), iv = .int .i64 i ∧ nv = .int .i64 c ∧ 1 ≤ i ∧ i ≤ n + 1 ∧ c ≤ i ∧ Hid (c = (r.wt.take i).count true) ∧ w = wr) (fun iv _ _ => n + 1 - (intOf iv).toNat)
  case atStart => exact ⟨1, 0, rfl, rfl, by omega, by omega, by omega, H1.out.symm, rfl⟩
  case round =>
    obtain ⟨i, c, rfl, rfl, hi1, hi2, hci, hc, hww⟩ := hrel
    rw [← hww]
    clear hww
    by_cases hin : i < n + 1
    · have e1 : decide ((i : Int) < ((n + 1 : Nat) : Int)) = true := by simp; omega
      have e1n : decide (i < n + 1) = true := by simp; omega
      have e1c : decide ((i : Int) < (n : Int) + 1) = true := by simp; omega
      have cu := HW.out.celW (i := i) (by omega)
      have hs := HS.out i (by omega)
      have W1 : IntKind.i64.wrap ((i : Int) + 1) = (i : Int) + 1 := IntWalk.i64_in _ (by omega)
      have W2 : IntKind.i64.wrap ((c : Int) + 1) = (c : Int) + 1 := IntWalk.i64_in _ (by omega)
      have k1 : (i : Int) < ((n + 1 : Nat) : Int) := by omega
      have HIN := Lib.hid hin
      cases hb : r.wt.getD i false
      · rw [hb] at cu hs
        have HH : Hid (c = (r.wt.take (i + 1)).count true) := by show _ = _; rw [hs, hc.out]; simp
        clear hs hb hin
        go_wp2
        go_roundw
        case rel => exact ⟨i + 1, c, by go_num, rfl, by omega, by have := HIN.out; omega, by omega, HH.out, trivial⟩
        case measure => have := HIN.out; simp [intOf]; omega
      · rw [hb] at cu hs
        have HH : Hid (c + 1 = (r.wt.take (i + 1)).count true) := by show _ = _; rw [hs, hc.out]; simp
        clear hs hb hin
        go_wp2
        go_roundw
        case rel => exact ⟨i + 1, c + 1, by go_num, by go_num, by omega, by have := HIN.out; omega, by omega, HH.out, trivial⟩
        case measure => have := HIN.out; simp [intOf]; omega
    · have e1 : decide ((i : Int) < ((n + 1 : Nat) : Int)) = false := by simp; omega
      have e1n : decide (i < n + 1) = false := by simp; omega
      have e1c : decide ((i : Int) < (n : Int) + 1) = false := by simp; omega
      have HE : Hid (c = lenR r) := by
        show _ = _
        have : i = n + 1 := by omega
        rw [hc.out, this]; exact HL.out
      clear hin
      go_wp2
      go_ret
      refine ⟨?_, rfl⟩
      rw [← HE.out]; rfl

theorem best_succ (r : RQ) (k : Nat) : bestR r (k + 1) = if r.wt.getD (k + 1) false && (decide (bestR r k = 0) || decide (r.sc.getD (bestR r k) 0 < r.sc.getD (k + 1) 0)) then k + 1 else bestR r k := rfl
theorem best_le (r : RQ) : ∀ k, bestR r k ≤ k
  | 0 => Nat.le_refl _
  | k + 1 => by rw [best_succ]; split
                · exact Nat.le_refl _
                · exact Nat.le_succ_of_le (best_le r k)

set_option maxRecDepth 100000 in
set_option maxHeartbeats 1600000 in
theorem rnext12_any (H : RW w p gs gw cs cw n r) : Calls Try.prog 19 #[.pointer (some ⟨p, 0, none⟩)] w (RPost w p gs gw cs cw n (nextA r n) (nextV r n)) := by
  have nm := H.ok.nm
  have HW := Lib.hid H
  clear H
  go_enter Try.func19, Try.ntmps19
  go_wp2
  go_loopw [5, 4] (fun iv bv wr => ∃ (i b : Nat), iv = .int .i64 ((i : Int) + 1) ∧ bv = .int .i64 b ∧ i ≤ n ∧ b ≤ i ∧ Hid (b = bestR r i) ∧ Hid (RW wr p gs gw cs cw n r) ∧ Hid (Turn (Three p gs gw) w wr)) (fun iv _ _ => n + 1 - (intOf iv).toNat)
  case atStart => exact ⟨0, 0, rfl, rfl, by omega, by omega, rfl, HW.out, Turn.refl _ _⟩
  case round =>
    clear HW
    obtain ⟨i, b, rfl, rfl, hi, hbi, hb, hq, ht⟩ := hrel
    obtain ⟨j, hj⟩ : ∃ j, j = i + 1 := ⟨_, rfl⟩
    have E0 : (i : Int) + 1 = (j : Int) := by omega
    rw [E0]
    have c0 := hq.out.c0
    have c1 := hq.out.c1
    by_cases hin : j < n + 1
    · have e1 : decide ((j : Int) < ((n + 1 : Nat) : Int)) = true := by simp; omega
      have e1n : decide (j < n + 1) = true := by simp; omega
      have e1c : decide ((j : Int) < (n : Int) + 1) = true := by simp; omega
      have k1 : (j : Int) < ((n + 1 : Nat) : Int) := by omega
      have k2 : (b : Int) < ((n + 1 : Nat) : Int) := by omega
      have W1 : IntKind.i64.wrap ((j : Int) + 1) = (j : Int) + 1 := IntWalk.i64_in _ (by omega)
      have cj := hq.out.celW (i := j) (by omega)
      have sj := hq.out.celS (i := j) (by omega)
      have sb := hq.out.celS (i := b) (by omega)
      have hbs := best_succ r i
      rw [← hj, ← hb.out] at hbs
      have HJ := Lib.hid hj
      have HIN := Lib.hid hin
      have hjn : j ≤ n := by omega
      obtain ⟨x, hx⟩ : ∃ x, x = r.sc.getD j 0 := ⟨_, rfl⟩
      obtain ⟨y, hy⟩ : ∃ y, y = r.sc.getD b 0 := ⟨_, rfl⟩
      rw [← hx] at sj hbs
      rw [← hy] at sb hbs
      clear E0 hj hin hx hy
      cases hwj : r.wt.getD j false
      · rw [hwj] at cj hbs
        have HB : Hid (b = bestR r j) := by show _ = _; rw [hbs]; simp
        clear hbs hwj
        go_wp2
        go_quiet (fail)
        go_wp2
        go_roundw
        case rel => exact ⟨j, b, by go_num, rfl, hjn, by have := HJ.out; omega, HB.out, hq.out.drewN nq, ht.out.drewN nq⟩
        case measure => have := HIN.out; have := HJ.out; simp [intOf]; omega
      · rw [hwj] at cj hbs
        by_cases hb0 : b = 0
        · have f1 : ((b : Int) == 0) = true := by simp; omega
          have HB : Hid (j = bestR r j) := by show _ = _; rw [hbs]; simp [hb0]
          clear hbs hwj hb0
          go_wp2
          go_quiet (fail)
          go_wp2
          go_roundw
          case rel => exact ⟨j, j, by go_num, rfl, hjn, Nat.le_refl _, HB.out, hq.out.drewN nq, ht.out.drewN nq⟩
          case measure => have := HIN.out; have := HJ.out; simp [intOf]; omega
        · have f1 : ((b : Int) == 0) = false := by simp; omega
          by_cases hxy : y < x
          · have f2 : decide ((y : Int) < (x : Int)) = true := by simp; omega
            have f2n : decide (y < x) = true := by simp; omega
            have HB : Hid (j = bestR r j) := by show _ = _; rw [hbs]; simp [hb0, hxy]
            clear hbs hwj hb0 hxy
            go_wp2
            go_quiet (fail)
            go_wp2
            go_roundw
            case rel => exact ⟨j, j, by go_num, rfl, hjn, Nat.le_refl _, HB.out, hq.out.drewN nq, ht.out.drewN nq⟩
            case measure => have := HIN.out; have := HJ.out; simp [intOf]; omega
          · have f2 : decide ((y : Int) < (x : Int)) = false := by simp; omega
            have f2n : decide (y < x) = false := by simp; omega
            have HB : Hid (b = bestR r j) := by show _ = _; rw [hbs]; simp [hb0, hxy]
            clear hbs hwj hb0 hxy
            go_wp2
            go_quiet (fail)
            go_wp2
            go_roundw
            case rel => exact ⟨j, b, by go_num, rfl, hjn, by have := HJ.out; omega, HB.out, hq.out.drewN nq, ht.out.drewN nq⟩
            case measure => have := HIN.out; have := HJ.out; simp [intOf]; omega
    · have e1 : decide ((j : Int) < ((n + 1 : Nat) : Int)) = false := by simp; omega
      have e1n : decide (j < n + 1) = false := by simp; omega
      have e1c : decide ((j : Int) < (n : Int) + 1) = false := by simp; omega
      have HB : Hid (bestR r n = b) := by
        show _ = _
        have : i = n := by omega
        rw [hb.out, this]
      clear E0 hj hin
      by_cases hb0 : b = 0
      · have f1 : ((b : Int) == 0) = true := by simp; omega
        have HB0 : Hid (bestR r n = 0) := HB.out.trans hb0
        clear hb0
        go_wp2
        go_ret2
        refine ⟨?_, ?_, ht.out⟩
        · unfold nextA; rw [HB0.out]; rfl
        · unfold nextV; rw [HB0.out, if_pos rfl]; exact hq.out
      · have f1 : ((b : Int) == 0) = false := by simp; omega
        have cb := hq.out.celW (i := b) (by omega)
        have fw := hq.out.fw b
        have k2 : (b : Int) < ((n + 1 : Nat) : Int) := by omega
        have HQ := Lib.hid (hq.out.setW (r' := takeR r b) b false rfl rfl rfl (hq.out.ok.take (by omega)))
        have HT := Lib.hid (ht.out.setCell ⟨gw, b, none⟩ (Or.inr (Or.inr rfl)) (.bool false))
        have HB0 := Lib.hid hb0
        clear hb0
        go_wp2
        go_ret2
        refine ⟨?_, ?_, HT.out⟩
        · unfold nextA; rw [HB.out, show decide (b ≠ 0) = true by simpa using HB0.out]; rfl
        · unfold nextV; rw [HB.out, if_neg HB0.out]; exact HQ.out
end
end Go.Proofs.Ythedgbdnidghnaa
