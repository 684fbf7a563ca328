/- (*queue.Queue).down, by its contract. -/
import Derived.Test.YthedgbdnidghnaaNBase
import Derived.Test.YthedgbdnidghnaaQuPure
import Derived.Test.YthedgbdnidghnaaQuW
import Derived.Test.YthedgbdnidghnaaQuPut
import Derived.Test.YthedgbdnidghnaaQuUp
import Derived.Test.YthedgbdnidghnaaRows
import Derived.BigQuiet
import Derived.Deep.AppendLies
import Derived.Deep.QuietTactic
import Derived.Deep.RegionLaw
import Derived.Deep.RegionWith
import Derived.KernelRfl
import Derived.Laws.EntriesVeiled
import Derived.Lib.ConvBytes
import Derived.Lib.Hide
import Derived.Lib.SlBytesRow
import Derived.Lib.SmallJoins
import Derived.Shelf.Bytes.SlSmallAll
import Derived.WalkKit
import Derived.WalkLawsBesides
import Derived.WalkSpells
namespace Go.Proofs.Ythedgbdnidghnaa
open Go Go.RowKit Go.Joins

section
variable {q s h a n st : Nat} {sc hp : List Nat} {m : Nat} {pl : List Int} {w : World} {wt : List Bool} {z : Nat}

set_option maxRecDepth 100000 in
set_option maxHeartbeats 1600000 in
theorem qdown_any (v lo i0 : Nat) (H : QW w q s h a n st sc hp m pl) (HP : PlH n hp m pl wt z v i0) (HU : DownF (vwK sc hp v i0) m lo i0) (hlo : lo ≤ i0) (hn : n ≤ 4194304) (hs : ∀ v, sc.getD v 0 ≤ 18446744073709551615) :
    Calls Try.prog 29 #[.pointer (some ⟨q, 0, none⟩), .int .i32 v, .int .i64 i0] w (UpPost w q s h a n st sc m wt z lo) := by
  have hm := HP.mn
  have hi0 := HP.im
  have hv := HP.v2
  have H1 := Lib.hid H
  have H2 := Lib.hid HP
  have H3 := Lib.hid HU
  have HS := Lib.hid hs
  have HLO := Lib.hid hlo
  clear H HP HU hs hlo
  go_enter Try.func29, Try.ntmps29
  go_wp2
  go_loopw [2] (fun iv wr => ∃ (i : Nat) (hp' : List Nat) (pl' : List Int), iv = .int .i64 i ∧ i < m ∧ Hid (lo ≤ i) ∧ Hid (QW wr q s h a n st sc hp' m pl') ∧ Hid (PlH n hp' m pl' wt z v i) ∧ Hid (DownF (vwK sc hp' v i) m lo i) ∧ Hid (Turn (Four q s h a) w wr)) (fun iv _ => m - (intOf iv).toNat)
  case atStart => exact ⟨i0, hp, pl, rfl, hi0, HLO.out, H1.out, H2.out, H3.out, Turn.refl _ _⟩
  case round =>
    clear H1 H2 H3
    obtain ⟨i, hp', pl', rfl, him, hli, hq, hpl, hu, ht⟩ := hrel
    obtain ⟨x1, hx1⟩ : ∃ x1, x1 = 2 * i + 1 := ⟨_, rfl⟩
    obtain ⟨x2, hx2⟩ : ∃ x2, x2 = 2 * i + 2 := ⟨_, rfl⟩
    have W1 : IntKind.i64.wrap (2 * (i : Int)) = 2 * (i : Int) := IntWalk.i64_in _ (by omega)
    have W2 : IntKind.i64.wrap (2 * (i : Int) + 1) = (x1 : Int) := (IntWalk.i64_in _ (by omega)).trans (by omega)
    have W3 : IntKind.i64.wrap ((x1 : Int) + 1) = (x2 : Int) := (IntWalk.i64_in _ (by omega)).trans (by omega)
    have E1 : 2 * (i : Int) + 1 = (x1 : Int) := by omega
    have E2 : (x1 : Int) + 1 = (x2 : Int) := by omega
    have c2 := hq.out.c2
    by_cases hleaf : m ≤ x1
    · have e1 : decide ((m : Int) ≤ (x1 : Int)) = true := by simp; omega
      have e1n : decide (m ≤ x1) = true := by simp; omega
      have HX1 := Lib.hid hx1
      have HL := Lib.hid hleaf
      clear hx1 hx2 hleaf
      go_wp2_with fail
      refine (qput_any v i hq.out him hm hv hn).mono ?_
      rintro e w1 ⟨rfl, hq1, ht1⟩
      have HQ1 := Lib.hid hq1
      have HT1 := Lib.hid (ht.out.trans ht1)
      clear hq1 ht1
      go_wp2
      go_end0
      refine ⟨rfl, _, _, HQ1.out, hpl.out.fill, ?_, HT1.out⟩
      rw [vw_fill _ _ _ _ (by have := hpl.out.lh; omega)]
      exact downF_leaf hu.out (by have := HX1.out; have := HL.out; omega)
    · have e1 : decide ((m : Int) ≤ (x1 : Int)) = false := by simp; omega
      have e1n : decide (m ≤ x1) = false := by simp; omega
      have hm1 : x1 < m := by omega
      obtain ⟨y1, hy1⟩ : ∃ y1, y1 = hp'.getD x1 0 := ⟨_, rfl⟩
      have hy1n : y1 ≤ n := by rw [hy1]; exact (hpl.out.here x1 hm1 (by omega)).2.1
      have cy1 := hq.out.ch (i := x1) (by omega)
      rw [← hy1] at cy1
      have HX1 := Lib.hid hx1
      have HX2 := Lib.hid hx2
      have HY1 := Lib.hid hy1
      have k1 : (x1 : Int) < (m : Int) := by omega
      clear hleaf hx1 hx2 hy1
      by_cases hr : x2 < m
      · have e3 : decide ((x2 : Int) < (m : Int)) = true := by simp; omega
        have e3n : decide (x2 < m) = true := by simp; omega
        obtain ⟨y2, hy2⟩ : ∃ y2, y2 = hp'.getD x2 0 := ⟨_, rfl⟩
        have hy2n : y2 ≤ n := by rw [hy2]; exact (hpl.out.here x2 hr (by have := HX2.out; omega)).2.1
        have cy2 := hq.out.ch (i := x2) (by omega)
        rw [← hy2] at cy2
        have HY2 := Lib.hid hy2
        have k2 : (x2 : Int) < (m : Int) := by omega
        clear hr hy2
        by_cases hlt : keyQ sc y2 < keyQ sc y1
        · have d1 : ahd sc y2 y1 = true := by unfold ahd; simpa using hlt
          have HMIN : Hid (∀ k, 0 < k → k < m → (k - 1) / 2 = i → vwK sc hp' v i x2 ≤ vwK sc hp' v i k) := fun k h0 hk hp => by
            have := HX1.out; have := HX2.out
            unfold vwK
            rw [if_neg (by omega), if_neg (by omega), ← HY2.out]
            rcases (show k = x1 ∨ k = x2 by omega) with rfl | rfl
            · rw [← HY1.out]; omega
            · rw [← HY2.out]; omega
          have HA : Hid (∀ nq, Calls Try.prog 33 #[.pointer (some ⟨q, 0, none⟩), .int .i32 y2, .int .i32 y1] (wr.drewN nq) fun e w' => e = .returned (.bool true) ∧ ∃ k, w' = (wr.drewN nq).drewN k) := fun nq => by
            have := qahead_any y2 y1 (hq.out.drewN nq) hy2n hy1n hn HS.out
            rw [d1] at this; exact this
          clear hlt d1
          go_wp2
          go_quiet (first | (go_at_call 33; refine Calls.quiet_of (HA.out _)))
          have HQ0 := Lib.hid (hq.out.drewN nq)
          have HT0 := Lib.hid (ht.out.drewN nq)
          go_wp2_with fail
          refine (qahead_any y2 v HQ0.out hy2n hv hn HS.out).mono ?_
          rintro e w1 ⟨rfl, k, hk⟩
          have hq1 : QW w1 q s h a n st sc hp' m pl' := by rw [hk]; exact HQ0.out.drewN k
          have ht1 : Turn (Four q s h a) w w1 := by rw [hk]; exact HT0.out.drewN k
          clear hk cy2 c2
          have cy2 := hq1.ch (i := x2) (by omega)
          rw [← HY2.out] at cy2
          have c2 := hq1.c2
          have HQ1 := Lib.hid hq1
          have HT1 := Lib.hid ht1
          clear hq1 ht1
          by_cases hlt : keyQ sc y2 < keyQ sc v
          · have d1 : ahd sc y2 v = true := by unfold ahd; simpa using hlt
            rw [d1]
            have HLT := Lib.hid hlt
            clear hlt d1
            go_wp2_with fail
            refine (qput_any y2 i HQ1.out him hm hy2n hn).mono ?_
            rintro e w2 ⟨rfl, hq2, ht2⟩
            have HQ2 := Lib.hid hq2
            have HT2 := Lib.hid (HT1.out.trans ht2)
            clear hq2 ht2 cy2 c2
            go_wp2
            go_roundw
            case rel =>
              have hlh := hpl.out.lh
              have hne : x2 ≠ i := by have := HX2.out; omega
              refine ⟨x2, hp'.set i y2, pl'.set y2 i, rfl, by omega, ?_, HQ2.out, ?_, ?_, HT2.out⟩
              · show lo ≤ x2
                have := hli.out; have := HX2.out; omega
              · rw [HY2.out]; exact hpl.out.move (by omega) hne
              · show DownF _ _ _ _
                rw [HY2.out, vw_move _ _ _ _ _ hne (by omega)]
                refine downF_step hu.out hli.out (by have := HX2.out; omega) (by omega) (by have := HX2.out; omega) HMIN.out ?_
                unfold vwK
                rw [if_neg hne, if_pos rfl, ← HY2.out]; exact HLT.out
            case measure => have := HX2.out; simp [intOf]; omega
          · have d1 : ahd sc y2 v = false := by unfold ahd; simpa using hlt
            rw [d1]
            have HLT := Lib.hid hlt
            clear hlt d1 cy2 c2
            go_wp2_with fail
            refine (qput_any v i HQ1.out him hm hv hn).mono ?_
            rintro e w2 ⟨rfl, hq2, ht2⟩
            have HQ2 := Lib.hid hq2
            have HT2 := Lib.hid (HT1.out.trans ht2)
            clear hq2 ht2
            go_wp2
            go_end0
            have hne : x2 ≠ i := by have := HX2.out; omega
            refine ⟨rfl, _, _, HQ2.out, hpl.out.fill, ?_, HT2.out⟩
            rw [vw_fill _ _ _ _ (by have := hpl.out.lh; omega)]
            refine downF_done hu.out HMIN.out ?_
            unfold vwK
            rw [if_neg hne, if_pos rfl, ← HY2.out]
            have := HLT.out
            omega
        · have d1 : ahd sc y2 y1 = false := by unfold ahd; simpa using hlt
          have HMIN : Hid (∀ k, 0 < k → k < m → (k - 1) / 2 = i → vwK sc hp' v i x1 ≤ vwK sc hp' v i k) := fun k h0 hk hp => by
            have := HX1.out; have := HX2.out
            unfold vwK
            rw [if_neg (by omega), if_neg (by omega), ← HY1.out]
            rcases (show k = x1 ∨ k = x2 by omega) with rfl | rfl
            · rw [← HY1.out]; omega
            · rw [← HY2.out]; omega
          have HA : Hid (∀ nq, Calls Try.prog 33 #[.pointer (some ⟨q, 0, none⟩), .int .i32 y2, .int .i32 y1] (wr.drewN nq) fun e w' => e = .returned (.bool false) ∧ ∃ k, w' = (wr.drewN nq).drewN k) := fun nq => by
            have := qahead_any y2 y1 (hq.out.drewN nq) hy2n hy1n hn HS.out
            rw [d1] at this; exact this
          clear hlt d1
          go_wp2
          go_quiet (first | (go_at_call 33; refine Calls.quiet_of (HA.out _)))
          have HQ0 := Lib.hid (hq.out.drewN nq)
          have HT0 := Lib.hid (ht.out.drewN nq)
          go_wp2_with fail
          refine (qahead_any y1 v HQ0.out hy1n hv hn HS.out).mono ?_
          rintro e w1 ⟨rfl, k, hk⟩
          have hq1 : QW w1 q s h a n st sc hp' m pl' := by rw [hk]; exact HQ0.out.drewN k
          have ht1 : Turn (Four q s h a) w w1 := by rw [hk]; exact HT0.out.drewN k
          clear hk cy1 c2
          have cy1 := hq1.ch (i := x1) (by omega)
          rw [← HY1.out] at cy1
          have c2 := hq1.c2
          have HQ1 := Lib.hid hq1
          have HT1 := Lib.hid ht1
          clear hq1 ht1
          by_cases hlt : keyQ sc y1 < keyQ sc v
          · have d1 : ahd sc y1 v = true := by unfold ahd; simpa using hlt
            rw [d1]
            have HLT := Lib.hid hlt
            clear hlt d1
            go_wp2_with fail
            refine (qput_any y1 i HQ1.out him hm hy1n hn).mono ?_
            rintro e w2 ⟨rfl, hq2, ht2⟩
            have HQ2 := Lib.hid hq2
            have HT2 := Lib.hid (HT1.out.trans ht2)
            clear hq2 ht2 cy1 c2
            go_wp2
            go_roundw
            case rel =>
              have hlh := hpl.out.lh
              have hne : x1 ≠ i := by have := HX1.out; omega
              refine ⟨x1, hp'.set i y1, pl'.set y1 i, rfl, by omega, ?_, HQ2.out, ?_, ?_, HT2.out⟩
              · show lo ≤ x1
                have := hli.out; have := HX1.out; omega
              · rw [HY1.out]; exact hpl.out.move (by omega) hne
              · show DownF _ _ _ _
                rw [HY1.out, vw_move _ _ _ _ _ hne (by omega)]
                refine downF_step hu.out hli.out (by have := HX1.out; omega) (by omega) (by have := HX1.out; omega) HMIN.out ?_
                unfold vwK
                rw [if_neg hne, if_pos rfl, ← HY1.out]; exact HLT.out
            case measure => have := HX1.out; simp [intOf]; omega
          · have d1 : ahd sc y1 v = false := by unfold ahd; simpa using hlt
            rw [d1]
            have HLT := Lib.hid hlt
            clear hlt d1 cy1 c2
            go_wp2_with fail
            refine (qput_any v i HQ1.out him hm hv hn).mono ?_
            rintro e w2 ⟨rfl, hq2, ht2⟩
            have HQ2 := Lib.hid hq2
            have HT2 := Lib.hid (HT1.out.trans ht2)
            clear hq2 ht2
            go_wp2
            go_end0
            have hne : x1 ≠ i := by have := HX1.out; omega
            refine ⟨rfl, _, _, HQ2.out, hpl.out.fill, ?_, HT2.out⟩
            rw [vw_fill _ _ _ _ (by have := hpl.out.lh; omega)]
            refine downF_done hu.out HMIN.out ?_
            unfold vwK
            rw [if_neg hne, if_pos rfl, ← HY1.out]
            have := HLT.out
            omega
      · have e3 : decide ((x2 : Int) < (m : Int)) = false := by simp; omega
        have e3n : decide (x2 < m) = false := by simp; omega
        have HMIN : Hid (∀ k, 0 < k → k < m → (k - 1) / 2 = i → vwK sc hp' v i x1 ≤ vwK sc hp' v i k) := fun k h0 hk hp => by
          have := HX1.out; have := HX2.out
          have e : k = x1 := by omega
          rw [e]; exact Nat.le_refl _
        clear hr
        go_wp2
        go_quiet (fail)
        have HQ0 := Lib.hid (hq.out.drewN nq)
        have HT0 := Lib.hid (ht.out.drewN nq)
        go_wp2_with fail
        refine (qahead_any y1 v HQ0.out hy1n hv hn HS.out).mono ?_
        rintro e w1 ⟨rfl, k, hk⟩
        have hq1 : QW w1 q s h a n st sc hp' m pl' := by rw [hk]; exact HQ0.out.drewN k
        have ht1 : Turn (Four q s h a) w w1 := by rw [hk]; exact HT0.out.drewN k
        clear hk cy1 c2
        have cy1 := hq1.ch (i := x1) (by omega)
        rw [← HY1.out] at cy1
        have c2 := hq1.c2
        have HQ1 := Lib.hid hq1
        have HT1 := Lib.hid ht1
        clear hq1 ht1
        by_cases hlt : keyQ sc y1 < keyQ sc v
        · have d1 : ahd sc y1 v = true := by unfold ahd; simpa using hlt
          rw [d1]
          have HLT := Lib.hid hlt
          clear hlt d1
          go_wp2_with fail
          refine (qput_any y1 i HQ1.out him hm hy1n hn).mono ?_
          rintro e w2 ⟨rfl, hq2, ht2⟩
          have HQ2 := Lib.hid hq2
          have HT2 := Lib.hid (HT1.out.trans ht2)
          clear hq2 ht2 cy1 c2
          go_wp2
          go_roundw
          case rel =>
            have hlh := hpl.out.lh
            have hne : x1 ≠ i := by have := HX1.out; omega
            refine ⟨x1, hp'.set i y1, pl'.set y1 i, rfl, by omega, ?_, HQ2.out, ?_, ?_, HT2.out⟩
            · show lo ≤ x1
              have := hli.out; have := HX1.out; omega
            · rw [HY1.out]; exact hpl.out.move (by omega) hne
            · show DownF _ _ _ _
              rw [HY1.out, vw_move _ _ _ _ _ hne (by omega)]
              refine downF_step hu.out hli.out (by have := HX1.out; omega) (by omega) (by have := HX1.out; omega) HMIN.out ?_
              unfold vwK
              rw [if_neg hne, if_pos rfl, ← HY1.out]; exact HLT.out
          case measure => have := HX1.out; simp [intOf]; omega
        · have d1 : ahd sc y1 v = false := by unfold ahd; simpa using hlt
          rw [d1]
          have HLT := Lib.hid hlt
          clear hlt d1 cy1 c2
          go_wp2_with fail
          refine (qput_any v i HQ1.out him hm hv hn).mono ?_
          rintro e w2 ⟨rfl, hq2, ht2⟩
          have HQ2 := Lib.hid hq2
          have HT2 := Lib.hid (HT1.out.trans ht2)
          clear hq2 ht2
          go_wp2
          go_end0
          have hne : x1 ≠ i := by have := HX1.out; omega
          refine ⟨rfl, _, _, HQ2.out, hpl.out.fill, ?_, HT2.out⟩
          rw [vw_fill _ _ _ _ (by have := hpl.out.lh; omega)]
          refine downF_done hu.out HMIN.out ?_
          unfold vwK
          rw [if_neg hne, if_pos rfl, ← HY1.out]
          have := HLT.out
          omega
end
end Go.Proofs.Ythedgbdnidghnaa
