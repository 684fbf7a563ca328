/- (*queue.Queue).up, by its contract. -/
import Derived.Test.YthedgbdnidghnaaNBase
import Derived.Test.YthedgbdnidghnaaQuPure
import Derived.Test.YthedgbdnidghnaaQuW
import Derived.Test.YthedgbdnidghnaaQuPut
import Derived.Test.YthedgbdnidghnaaRows
import Derived.BigQuiet
import Derived.Deep.AppendLies
import Derived.Deep.QuietTactic
import Derived.Deep.RegionLaw
import Derived.Deep.RegionWith
import Derived.KernelRfl
import Derived.Laws.EntriesVeiled
import Derived.Lib.ConvBytes
import Derived.Lib.Hide
import Derived.Lib.SlBytesRow
import Derived.Lib.SmallJoins
import Derived.Shelf.Bytes.SlSmallAll
import Derived.WalkKit
import Derived.WalkLawsBesides
import Derived.WalkSpells
namespace Go.Proofs.Ythedgbdnidghnaa
open Go Go.RowKit Go.Joins

section
variable {q s h a n st : Nat} {sc hp : List Nat} {m : Nat} {pl : List Int} {w : World} {wt : List Bool} {z : Nat}

/-- What up and down leave. -/
def UpPost (w : World) (q s h a n st : Nat) (sc : List Nat) (m : Nat) (wt : List Bool) (z lo : Nat) (e : Ending) (w' : World) : Prop :=
  e = .returned (.tuple #[]) ∧ ∃ hp' pl', QW w' q s h a n st sc hp' m pl' ∧ Pl n hp' m pl' wt z ∧ HeapF (hpK sc hp') m lo ∧ Turn (Four q s h a) w w'

set_option maxRecDepth 100000 in
theorem qup_any (v i0 : Nat) (H : QW w q s h a n st sc hp m pl) (HP : PlH n hp m pl wt z v i0) (HU : UpF (vwK sc hp v i0) m i0) (hn : n ≤ 4194304) (hs : ∀ v, sc.getD v 0 ≤ 18446744073709551615) :
    Calls Try.prog 27 #[.pointer (some ⟨q, 0, none⟩), .int .i32 v, .int .i64 i0] w (UpPost w q s h a n st sc m wt z 0) := by
  have hm := HP.mn
  have hi0 := HP.im
  have hv := HP.v2
  have H1 := Lib.hid H
  have H2 := Lib.hid HP
  have H3 := Lib.hid HU
  have HS := Lib.hid hs
  clear H HP HU hs
  go_enter Try.func27, Try.ntmps27
  go_wp2
  go_loopw [2] (fun iv wr => ∃ (i : Nat) (hp' : List Nat) (pl' : List Int), iv = .int .i64 i ∧ i < m ∧ Hid (QW wr q s h a n st sc hp' m pl') ∧ Hid (PlH n hp' m pl' wt z v i) ∧ Hid (UpF (vwK sc hp' v i) m i) ∧ Hid (Turn (Four q s h a) w wr)) (fun iv _ => (intOf iv).toNat)
  case atStart => exact ⟨i0, hp, pl, rfl, hi0, H1.out, H2.out, H3.out, Turn.refl _ _⟩
  case round =>
    clear H1 H2 H3
    obtain ⟨i, hp', pl', rfl, him, hq, hpl, hu, ht⟩ := hrel
    by_cases h0 : i = 0
    · have HZ := Lib.hid h0
      have e0 : decide ((0 : Int) < (i : Int)) = false := by simp; omega
      have e0n : decide (0 < i) = false := by simp; omega
      clear h0
      go_wp2_with fail
      refine (qput_any v i hq.out him hm hv hn).mono ?_
      rintro e w1 ⟨rfl, hq1, ht1⟩
      have HQ1 := Lib.hid hq1
      have HT1 := Lib.hid (ht.out.trans ht1)
      clear hq1 ht1
      go_wp2
      go_end0
      refine ⟨rfl, _, _, HQ1.out, hpl.out.fill, ?_, HT1.out⟩
      rw [vw_fill _ _ _ _ (by have := hpl.out.lh; omega)]
      have hu2 := hu.out
      rw [HZ.out] at hu2 ⊢
      exact upF_done0 hu2
    · obtain ⟨j, hj⟩ : ∃ j, j = (i - 1) / 2 := ⟨_, rfl⟩
      have W1 : IntKind.i64.wrap ((i : Int) - 1) = (i : Int) - 1 := IntWalk.i64_in _ (by omega)
      have e0 : wrap64 (((i : Int) - 1).tdiv 2) = (j : Int) := by
        rw [Int.tdiv_eq_ediv_of_nonneg (by omega), show ((i : Int) - 1) / 2 = (j : Int) by omega]
        unfold wrap64
        omega
      have e01 : ((i : Int) - 1) / 2 = (j : Int) := by omega
      have e1 : decide ((0 : Int) < (i : Int)) = true := by simp; omega
      have e1n : decide (0 < i) = true := by simp; omega
      have e2 : (j : Int) < (m : Int) := by omega
      obtain ⟨u, hu0⟩ : ∃ u, u = hp'.getD j 0 := ⟨_, rfl⟩
      have hjm : j < m := by omega
      have hji : j ≠ i := by omega
      have hun : u ≤ n := by rw [hu0]; exact (hpl.out.here j hjm hji).2.1
      have cj := hq.out.ch (i := j) (by omega)
      rw [← hu0] at cj
      have c2 := hq.out.c2
      have HI := Lib.hid hj
      have H0 := Lib.hid h0
      have HJ := Lib.hid hji
      have HU0 := Lib.hid hu0
      clear hj h0 hji hu0
      go_wp2_with fail
      refine (qahead_any v u hq.out hv hun hn HS.out).mono ?_
      rintro e w1 ⟨rfl, k, hk⟩
      have hq1 : QW w1 q s h a n st sc hp' m pl' := by rw [hk]; exact hq.out.drewN k
      have ht1 : Turn (Four q s h a) w w1 := by rw [hk]; exact ht.out.drewN k
      clear hk cj c2
      have cj := hq1.ch (i := j) (by omega)
      rw [← HU0.out] at cj
      have c2 := hq1.c2
      have HQ1 := Lib.hid hq1
      have HT1 := Lib.hid ht1
      clear hq1 ht1
      by_cases hlt : keyQ sc v < keyQ sc u
      · have d1 : ahd sc v u = true := by unfold ahd; simpa using hlt
        rw [d1]
        have HLT := Lib.hid hlt
        clear hlt d1
        go_wp2_with fail
        refine (qput_any u i HQ1.out him hm hun hn).mono ?_
        rintro e w2 ⟨rfl, hq2, ht2⟩
        have HQ2 := Lib.hid hq2
        have HT2 := Lib.hid (HT1.out.trans ht2)
        clear hq2 ht2 cj c2
        go_wp2
        go_roundw
        case rel =>
          have hlh := hpl.out.lh
          refine ⟨j, hp'.set i u, pl'.set u i, rfl, hjm, HQ2.out, ?_, ?_, HT2.out⟩
          · rw [HU0.out]; exact hpl.out.move hjm HJ.out
          · show UpF _ _ _
            rw [HU0.out, vw_move _ _ _ _ _ HJ.out (by omega)]
            have := upF_step hu.out (by have := H0.out; omega) him (by
              rw [← HI.out]
              unfold vwK
              rw [if_pos rfl, if_neg HJ.out, ← HU0.out]; exact HLT.out)
            rw [← HI.out] at this
            exact this
        case measure => have := HI.out; have := H0.out; simp [intOf]; omega
      · have d1 : ahd sc v u = false := by unfold ahd; simpa using hlt
        rw [d1]
        have HLT := Lib.hid hlt
        clear hlt d1 cj c2
        go_wp2_with fail
        refine (qput_any v i HQ1.out him hm hv hn).mono ?_
        rintro e w2 ⟨rfl, hq2, ht2⟩
        have HQ2 := Lib.hid hq2
        have HT2 := Lib.hid (HT1.out.trans ht2)
        clear hq2 ht2
        go_wp2
        go_end0
        refine ⟨rfl, _, _, HQ2.out, hpl.out.fill, ?_, HT2.out⟩
        rw [vw_fill _ _ _ _ (by have := hpl.out.lh; omega)]
        refine upF_done hu.out ?_
        rw [← HI.out]
        unfold vwK
        rw [if_pos rfl, if_neg HJ.out, ← HU0.out]
        have := HLT.out
        omega
end
end Go.Proofs.Ythedgbdnidghnaa
