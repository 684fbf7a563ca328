/- (*queue.Queue).lessen, by its contract. -/
import Derived.Test.YthedgbdnidghnaaNBase
import Derived.Test.YthedgbdnidghnaaQuPure
import Derived.Test.YthedgbdnidghnaaQuW
import Derived.Test.YthedgbdnidghnaaQuUp
import Derived.Test.YthedgbdnidghnaaQuDown
import Derived.Test.YthedgbdnidghnaaRows
import Derived.BigQuiet
import Derived.Deep.AppendLies
import Derived.Deep.QuietTactic
import Derived.Deep.RegionLaw
import Derived.Deep.RegionWith
import Derived.KernelRfl
import Derived.Laws.EntriesVeiled
import Derived.Lib.ConvBytes
import Derived.Lib.Hide
import Derived.Lib.SlBytesRow
import Derived.Lib.SmallJoins
import Derived.Shelf.Bytes.SlSmallAll
import Derived.WalkKit
import Derived.WalkLawsBesides
import Derived.WalkSpells
namespace Go.Proofs.Ythedgbdnidghnaa
open Go Go.RowKit Go.Joins

/-- The first i scores are divided. -/
def Part (sc l : List Nat) (i : Nat) : Prop := l.length = sc.length ∧ ∀ k, l.getD k 0 = if k < i then sc.getD k 0 / 16777216 else sc.getD k 0
theorem part_zero (sc : List Nat) : Part sc sc 0 := ⟨rfl, fun k => by rw [if_neg (by omega)]⟩
theorem part_step {sc l : List Nat} {i : Nat} (h : Part sc l i) (hi : i < sc.length) : Part sc (l.set i (l.getD i 0 / 16777216)) (i + 1) := by
  refine ⟨by simpa using h.1, fun k => ?_⟩
  have e0 := h.2 i
  have ek := h.2 k
  rw [if_neg (Nat.lt_irrefl _)] at e0
  rw [getD_setQ, e0, ek]
  by_cases e : k = i
  · subst e; rw [if_pos ⟨rfl, by rw [h.1]; exact hi⟩, if_pos (by omega)]
  · rw [if_neg (fun h => e h.1)]
    by_cases e2 : k < i
    · rw [if_pos e2, if_pos (by omega)]
    · rw [if_neg e2, if_neg (by omega)]
theorem part_end {sc l : List Nat} {n : Nat} (h : Part sc l n) (hn : n = sc.length) : l = sc.map (· / 16777216) := by
  apply List.ext_getElem (by simpa using h.1)
  intro k h1 h2
  have a := h.2 k
  rw [if_pos (by rw [hn, ← h.1]; exact h1)] at a
  have b := div_getD sc k
  rw [← a] at b
  simp only [List.getD, List.getElem?_eq_getElem h1, List.getElem?_eq_getElem h2] at b
  simpa using b.symm

section
variable {q s h a n st : Nat} {sc hp : List Nat} {m : Nat} {pl : List Int} {w : World} {wt : List Bool}

set_option maxRecDepth 100000 in
set_option maxHeartbeats 800000 in
theorem qlessen_any (H : QW w q s h a n st sc hp m pl) (HP : Pl n hp m pl wt 0) (hn : n ≤ 4194304) (hst : st ≤ 18446744073709551615) (hs : ∀ v, sc.getD v 0 ≤ 18446744073709551615) :
    Calls Try.prog 28 #[.pointer (some ⟨q, 0, none⟩)] w (UpPost w q s h a n (max (st / 16777216) 1) (sc.map (· / 16777216)) m wt 0 0) := by
  have hm := HP.mn
  have c1 := H.c1
  have H1 := Lib.hid H
  have H2 := Lib.hid HP
  have HS := Lib.hid hs
  have HST := Lib.hid hst
  have HB : Hid (∀ v, (sc.map (· / 16777216)).getD v 0 ≤ 18446744073709551615) := fun v => by rw [div_getD]; have := hs v; omega
  obtain ⟨sc', hsc'⟩ : ∃ sc', sc' = sc.map (· / 16777216) := ⟨_, rfl⟩
  obtain ⟨st', hst'⟩ : ∃ st', st' = max (st / 16777216) 1 := ⟨_, rfl⟩
  obtain ⟨hf, hhf⟩ : ∃ hf, hf = m / 2 := ⟨_, rfl⟩
  rw [← hsc'] at HB ⊢
  rw [← hst']
  have E1 : (m : Int) / 2 = (hf : Int) := by omega
  have E2 : max ((st : Int) / 16777216) 1 = (st' : Int) := by omega
  have W1 : IntKind.i64.wrap ((hf : Int) - 1) = (hf : Int) - 1 := IntWalk.i64_in _ (by omega)
  have HSC := Lib.hid hsc'
  have HST' := Lib.hid hst'
  have HHF := Lib.hid hhf
  clear H HP hs hst hsc' hst' hhf
  go_enter Try.func28, Try.ntmps28
  go_wp2
  go_loopw [9] (fun iv wr => ∃ (i : Nat) (l : List Nat), iv = .int .i64 i ∧ i ≤ n + 1 ∧ Hid (QW wr q s h a n st l hp m pl) ∧ Hid (Part sc l i) ∧ Hid (Turn (Four q s h a) w wr)) (fun iv _ => n + 1 - (intOf iv).toNat)
  case atStart => exact ⟨0, sc, rfl, by omega, H1.out, part_zero sc, Turn.refl _ _⟩
  case round =>
    obtain ⟨i, l, rfl, hi, hq, hp', ht⟩ := hrel
    by_cases hin : i < n + 1
    · have e1 : decide ((i : Int) < ((n + 1 : Nat) : Int)) = true := by simp; omega
      have e1n : decide (i < n + 1) = true := by simp; omega
      have e1c : decide ((i : Int) < (n : Int) + 1) = true := by simp; omega
      have c1' := hq.out.c1
      have cs := hq.out.cs (i := i) (by omega)
      obtain ⟨x, hx⟩ : ∃ x, x = l.getD i 0 := ⟨_, rfl⟩
      rw [← hx] at cs
      have fs := hq.out.fs i
      have k1 : (i : Int) < ((n + 1 : Nat) : Int) := by omega
      have W1 : IntKind.i64.wrap ((i : Int) + 1) = (i : Int) + 1 := IntWalk.i64_in _ (by omega)
      obtain ⟨x', hx'⟩ : ∃ x', x' = x / 16777216 := ⟨_, rfl⟩
      have X1 : (x : Int) / 16777216 = (x' : Int) := by omega
      have HX := Lib.hid hx
      have HX' := Lib.hid hx'
      have HIN := Lib.hid hin
      clear hx hx' hin
      go_wp2
      go_roundw
      case rel =>
        refine ⟨i + 1, l.set i x', by go_num, by have := HIN.out; omega, ?_, ?_, ?_⟩
        · exact hq.out.setS i _
        · show Part _ _ _
          rw [HX'.out, HX.out]
          exact part_step hp'.out (by have := H1.out.ls; have := HIN.out; omega)
        · exact ht.out.setCell ⟨s, i, none⟩ (Or.inr (Or.inl rfl)) _
      case measure => have := HIN.out; simp [intOf]; omega
    · have e1 : decide ((i : Int) < ((n + 1 : Nat) : Int)) = false := by simp; omega
      have e1n : decide (i < n + 1) = false := by simp; omega
      have e1c : decide ((i : Int) < (n : Int) + 1) = false := by simp; omega
      have hs2 : l = sc.map (· / 16777216) := part_end hp'.out (by have := H1.out.ls; omega)
      have hq2 := hq.out
      rw [hs2] at hq2
      rw [← HSC.out] at hq2
      have c0 := hq2.c0
      have fq := hq2.fq 0
      have HQ3 := Lib.hid (hq2.setSt st')
      have HT3 := Lib.hid (ht.out.setCell ⟨q, 0, none⟩ (Or.inl rfl) (.int .u64 (st' : Int)))
      have HQ2 := Lib.hid hq2
      have c2 := HQ3.out.c2
      clear hs2 hq2 hin hp' ht hq
      go_wp2
      obtain ⟨W3, hW3⟩ : ∃ W3, W3 = wr.setCell ⟨q, 0, none⟩ (.int .u64 (st' : Int)) := ⟨_, rfl⟩
      rw [← hW3] at HQ3 HT3 ⊢
      clear hW3 HQ2 c0 fq c2
      go_loopw [3] (fun iv wr => ∃ (z : Int) (hp' : List Nat) (pl' : List Int), iv = .int .i64 z ∧ -1 ≤ z ∧ z < m ∧ Hid (QW wr q s h a n st' sc' hp' m pl') ∧ Hid (Pl n hp' m pl' wt 0) ∧ Hid (HeapF (hpK sc' hp') m (z + 1).toNat) ∧ Hid (Turn (Four q s h a) w wr)) (fun iv _ => (intOf iv + 1).toNat)
      case atStart =>
        have hh := HHF.out
        refine ⟨_, hp, pl, rfl, by omega, by omega, HQ3.out, H2.out, ?_, HT3.out⟩
        show HeapF _ _ _
        rw [show ((hf : Int) - 1 + 1).toNat = m / 2 by omega]
        exact heap_half _ _
      case round =>
        obtain ⟨z, hp', pl', rfl, hz1, hz2, hq, hpl, hhe, ht⟩ := hrel
        by_cases hz : 0 ≤ z
        · obtain ⟨j, rfl⟩ := Int.eq_ofNat_of_zero_le hz
          have e2 : decide ((0 : Int) ≤ (j : Int)) = true := by simp
          have hjm : j < m := by omega
          have c2 := hq.out.c2
          obtain ⟨x, hx⟩ : ∃ x, x = hp'.getD j 0 := ⟨_, rfl⟩
          have ch := hq.out.ch (i := j) (by omega)
          rw [← hx] at ch
          have W2 : IntKind.i64.wrap ((j : Int) - 1) = (j : Int) - 1 := IntWalk.i64_in _ (by omega)
          have hd := down_round (sc := sc') (hp := hp') (m := m) (i := j) hhe.out
          have hhole := hpl.out.hole hjm hx.symm
          rw [← hx] at hd
          have HD := Lib.hid hd
          have HH := Lib.hid hhole
          clear hx hd hhole hz hz1
          go_wp2_with fail
          refine (qdown_any x j j hq.out HH.out HD.out (Nat.le_refl _) hn HB.out).mono ?_
          rintro e w2 ⟨rfl, hp2, pl2, hq2, hpl2, hh2, ht2⟩
          have HQ2 := Lib.hid hq2
          have HP2 := Lib.hid hpl2
          have HH2 := Lib.hid hh2
          have HT2 := Lib.hid (ht.out.trans ht2)
          clear hq2 hpl2 hh2 ht2 c2 ch
          go_wp2
          go_roundw
          case rel =>
            refine ⟨_, hp2, pl2, rfl, by omega, by omega, HQ2.out, HP2.out, ?_, HT2.out⟩
            show HeapF _ _ _
            rw [show ((j : Int) - 1 + 1).toNat = j by omega]
            exact HH2.out
          case measure => simp [intOf]
        · have e2 : decide ((0 : Int) ≤ z) = false := by simp; omega
          have HZ : Hid ((z + 1).toNat = 0) := by show _ = _; omega
          clear hz
          go_wp2
          go_end0
          refine ⟨rfl, hp', pl', hq.out, hpl.out, ?_, ht.out⟩
          have := hhe.out
          rw [HZ.out] at this
          exact this
end
end Go.Proofs.Ythedgbdnidghnaa
