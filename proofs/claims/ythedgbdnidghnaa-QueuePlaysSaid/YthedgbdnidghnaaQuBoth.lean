/- inquestlaw12.same and both: the program's queue and the document's stay the same. -/
import Derived.Test.YthedgbdnidghnaaNBase
import Derived.Test.YthedgbdnidghnaaNStep
import Derived.Test.YthedgbdnidghnaaQuPure
import Derived.Test.YthedgbdnidghnaaQuW
import Derived.Test.YthedgbdnidghnaaQuOps
import Derived.Test.YthedgbdnidghnaaQuNext
import Derived.Test.YthedgbdnidghnaaQuLives
import Derived.Test.YthedgbdnidghnaaQuRefW
import Derived.Test.YthedgbdnidghnaaQuRefO
import Derived.Test.YthedgbdnidghnaaQuRefB
import Derived.Test.YthedgbdnidghnaaRows
import Derived.ArgAppend
import Derived.BigQuiet
import Derived.Deep.AppendLies
import Derived.Deep.CutRange
import Derived.Deep.QuietTactic
import Derived.Deep.RegionHeld3
import Derived.Deep.RegionLaw
import Derived.Deep.RegionWith
import Derived.KernelRfl
import Derived.Laws.EntriesVeiled
import Derived.Laws.Tables
import Derived.Lib.ConvBytes
import Derived.Lib.Hide
import Derived.Lib.SlBytesRow
import Derived.Lib.SmallJoins
import Derived.Maps.AppendAt
import Derived.OrdersHeld
import Derived.Shelf.Bytes.SlSmallAll
import Derived.WalkKit
import Derived.WalkLawsBesides
import Derived.WalkSpells
namespace Go.Proofs.Ythedgbdnidghnaa
open Go Go.RowKit Go.Joins

/-- Both queues are r, and lie apart. -/
structure J2 (w : World) (q s h a p gs gw cs cw n : Nat) (r : RQ) : Prop where
  q_ : QIs w q s h a n r
  r_ : RW w p gs gw cs cw n r
  d : ∀ D, Four q s h a D → ¬ Three p gs gw D
def Both (q s h a p gs gw D : Nat) : Prop := Four q s h a D ∨ Three p gs gw D

section
variable {w w' s1 s2 : World} {q s h a p gs gw cs cw n : Nat} {r r' : RQ}
theorem Turn.mono {F G : Nat → Prop} (H : Turn F w w') (h : ∀ D, F D → G D) : Turn G w w' := ⟨H.os, H.tape, H.output, H.size, fun D h1 h2 => H.block D h1 (fun k => h2 (h D k))⟩
theorem J2.below (H : J2 w q s h a p gs gw cs cw n r) (k : Below w.heap.size w w') : J2 w' q s h a p gs gw cs cw n r := ⟨H.q_.below k, H.r_.below k, H.d⟩
theorem J2.apart (H : J2 w q s h a p gs gw cs cw n r) : ¬ Four q s h a p ∧ ¬ Four q s h a gs ∧ ¬ Four q s h a gw := ⟨fun k => H.d _ k (.inl rfl), fun k => H.d _ k (.inr (.inl rfl)), fun k => H.d _ k (.inr (.inr rfl))⟩
theorem J2.other (H : J2 w q s h a p gs gw cs cw n r) (k : Turn (Four q s h a) w w') : RW w' p gs gw cs cw n r := H.r_.turn k H.apart.1 H.apart.2.1 H.apart.2.2
theorem J2.both (H : J2 w q s h a p gs gw cs cw n r) (hq : QIs s1 q s h a n r') (t1 : Turn (Four q s h a) w s1) (hr : RW s2 p gs gw cs cw n r') (t2 : Turn (Three p gs gw) s1 s2) :
    J2 s2 q s h a p gs gw cs cw n r' ∧ Turn (Both q s h a p gs gw) w s2 :=
  ⟨⟨hq.turn t2 (H.d q (.inl rfl)) (H.d s (.inr (.inl rfl))) (H.d h (.inr (.inr (.inl rfl)))) (H.d a (.inr (.inr (.inr rfl)))), hr, H.d⟩, (t1.mono fun _ k => .inl k).trans (t2.mono fun _ k => .inr k)⟩
theorem J2.lt (H : J2 w q s h a p gs gw cs cw n r) : ∀ D, Both q s h a p gs gw D → D < w.heap.size := fun D k => k.elim (H.q_.lt D) (H.r_.lt D)

set_option maxRecDepth 100000 in
set_option maxHeartbeats 800000 in
theorem same12_any (H : J2 w q s h a p gs gw cs cw n r) : Calls Try.prog 10 #[.pointer (some ⟨q, 0, none⟩), .pointer (some ⟨p, 0, none⟩)] w fun e w' => e = .returned (.bool true) ∧ w = w' := by
  have HQ := Lib.hid H.q_
  have HR := Lib.hid H.r_
  have nm := H.r_.ok.nm
  have c0 := H.r_.c0
  clear H
  go_enter Try.func10, Try.ntmps10
  go_wp2
  go_loopw [5] (fun iv wr => ∃ z : Int, iv = .int .i64 z ∧ -1 ≤ z ∧ z ≤ n + 2 ∧ w = wr) (fun iv _ => ((n : Int) + 2 - intOf iv).toNat)
  case atStart => exact ⟨-1, rfl, by omega, by omega, rfl⟩
  case round =>
    obtain ⟨z, rfl, hz1, hz2, hww⟩ := hrel
    rw [← hww]
    clear hww
    by_cases hin : z ≤ (n : Int) + 1
    · have e1 : decide (z ≤ (n : Int) + 1) = true := by simpa using hin
      have e1n : decide (z ≤ ((n + 1 : Nat) : Int)) = true := by simp; omega
      have W1 : IntKind.i64.wrap (z + 1) = z + 1 := IntWalk.i64_in _ (by omega)
      have HS1 := Lib.hid (qscoreI_any z HQ.out)
      have HS2 := Lib.hid (rscore_any z HR.out)
      have HW1 := Lib.hid (qwaitsI_any z HQ.out)
      have HW2 := Lib.hid (rwaits_any z HR.out)
      obtain ⟨sv, hsv⟩ : ∃ sv, sv = scoreR r.sc n z := ⟨_, rfl⟩
      obtain ⟨wv, hwv⟩ : ∃ wv, wv = waitsR r.wt n z := ⟨_, rfl⟩
      rw [← hsv] at HS1 HS2
      rw [← hwv] at HW1 HW2
      have HIN := Lib.hid hin
      clear hsv hwv hin
      go_wp2_with fail
      refine HS1.out.mono ?_
      rintro e w2 ⟨rfl, rfl⟩
      go_wp2_with fail
      refine HS2.out.mono ?_
      rintro e w2 ⟨rfl, rfl⟩
      go_wp2_with fail
      refine HW1.out.mono ?_
      rintro e w2 ⟨rfl, rfl⟩
      go_wp2_with fail
      refine HW2.out.mono ?_
      rintro e w2 ⟨rfl, rfl⟩
      go_wp2
      go_roundw
      case rel => exact ⟨z + 1, rfl, by omega, by have := HIN.out; omega, trivial⟩
      case measure => have := HIN.out; simp [intOf]; omega
    · have e1 : decide (z ≤ (n : Int) + 1) = false := by simpa using hin
      have e1n : decide (z ≤ ((n + 1 : Nat) : Int)) = false := by simp; omega
      have HL1 := Lib.hid (qlenI_any HQ.out)
      have HL2 := Lib.hid (rlen12_any HR.out)
      obtain ⟨ln, hln⟩ : ∃ ln, ln = lenR r := ⟨_, rfl⟩
      rw [← hln] at HL1 HL2
      clear hln hin
      go_wp2_with fail
      refine HL1.out.mono ?_
      rintro e w2 ⟨rfl, rfl⟩
      go_wp2_with fail
      refine HL2.out.mono ?_
      rintro e w2 ⟨rfl, rfl⟩
      go_wp2
      go_ret
      exact ⟨rfl, rfl⟩

/-- What both leaves. -/
def BothPost (w : World) (q s h a p gs gw cs cw n : Nat) (e : Ending) (w' : World) : Prop := e = .returned (.bool true) ∧ ∃ r', J2 w' q s h a p gs gw cs cw n r' ∧ Turn (Both q s h a p gs gw) w w'

set_option maxRecDepth 100000 in
set_option maxHeartbeats 3200000 in
theorem both12_any (d v : Int) (o : Nat) (ho : o < 65536) (H : J2 w q s h a p gs gw cs cw n r) :
    Calls Try.prog 9 #[.pointer (some ⟨q, 0, none⟩), .pointer (some ⟨p, 0, none⟩), .agg #[.int .i64 d, .int .i64 v, .int .u16 o]] w (BothPost w q s h a p gs gw cs cw n) := by
  obtain ⟨B, hBe⟩ : ∃ B, B = w.heap.size := ⟨_, rfl⟩
  have HL := Lib.hid H.lt
  have HF : Hid (¬ Four q s h a B) := fun k => by have := HL.out B (.inl k); omega
  have HF3 : Hid (¬ Three p gs gw B) := fun k => by have := HL.out B (.inr k); omega
  have HFB : Hid (¬ Both q s h a p gs gw B) := fun k => k.elim HF.out HF3.out
  have hB0 := heap_new w (.cells #[.int .i64 d, .int .i64 v, .int .u16 o] 34) B hBe
  have HJ0 := Lib.hid (H.below (ext_alloc w (.cells #[.int .i64 d, .int .i64 v, .int .u16 o] 34)))
  have HT0 : Hid (Turn (Both q s h a p gs gw) w (w.alloc (.cells #[.int .i64 d, .int .i64 v, .int .u16 o] 34))) := Turn.of_below (ext_alloc _ _)
  have b0 := (cell_of_block hB0 0).trans (show _ = some (Value.int .i64 d) from rfl)
  have HB0 := Lib.hid hB0
  have HBE := Lib.hid hBe
  clear H HL hBe hB0
  by_cases h0 : d = 0
  · have f0 : (d == 0) = true := by simpa using h0
    have HN1 := Lib.hid (qnext_any HJ0.out.q_)
    obtain ⟨b, hb⟩ : ∃ b, b = bestR r n := ⟨_, rfl⟩
    obtain ⟨t, ht⟩ : ∃ t, t = decide (bestR r n ≠ 0) := ⟨_, rfl⟩
    have HA : Hid (nextA r n = .tuple #[.int .i64 (b : Int), .bool t]) := by show _ = _; unfold nextA; rw [hb, ht]
    clear h0 hb ht
    rw [HA.out] at HN1
    rw [HBE.out] at b0
    go_enter Try.func9, Try.ntmps9
    go_wp2_with fail
    refine HN1.out.mono ?_
    rintro e w2 ⟨rfl, hq2, ht2⟩
    have HQ2 := Lib.hid hq2
    have HT2 := Lib.hid ht2
    have HN2 := Lib.hid (rnext12_any (HJ0.out.other ht2))
    rw [HA.out] at HN2
    clear hq2 ht2
    go_wp2_with fail
    refine HN2.out.mono ?_
    rintro e w3 ⟨rfl, hr3, ht3⟩
    have HE := Lib.hid (HJ0.out.both HQ2.out HT2.out hr3 ht3)
    clear hr3 ht3
    go_wp2
    go_ret
    exact ⟨by simp, _, HE.out.1, HT0.out.trans HE.out.2⟩
  · have f0 : (d == 0) = false := by simpa using h0
    rw [HBE.out] at b0
    obtain ⟨W1, hW1⟩ : ∃ W1, W1 = w.alloc (.cells #[.int .i64 d, .int .i64 v, .int .u16 o] 34) := ⟨_, rfl⟩
    have HW1 := Lib.hid hW1
    have hB : W1.heap[B]? = some (.cells #[.int .i64 d, .int .i64 v, .int .u16 o] 34 (0, 0)) := by rw [hW1]; exact HB0.out
    have p0 := (cell_of_block hB 1).trans (show _ = some (Value.int .i64 v) from rfl)
    rw [← hW1] at HJ0 HT0
    clear hW1 h0 HB0
    by_cases h1 : d = 1
    · have f1 : (d == 1) = true := by simpa using h1
      obtain ⟨c, hc⟩ : ∃ c, c = codeR n v := ⟨_, rfl⟩
      have E1 : Hid (∀ W, Below W1.heap.size W1 W → Calls Try.prog 17 #[.pointer (some ⟨q, 0, none⟩), .int .i64 v] W (QPost W q s h a n (.int .i64 c) (backV r n v))) := fun W hb => by rw [hc]; exact qback_any v (HJ0.out.q_.below hb)
      have E2 : Hid (∀ s1 W, Turn (Four q s h a) W1 s1 → Below s1.heap.size s1 W → Calls Try.prog 20 #[.pointer (some ⟨p, 0, none⟩), .int .i64 v] W (RPost W p gs gw cs cw n (.int .i64 c) (backV r n v))) := fun s1 W ht hb => by rw [hc]; exact rback_any v ((HJ0.out.other ht).below hb)
      clear h1 hc
      go_enter Try.func9, Try.ntmps9
      go_upto_region 7 with fail
      rw [← HW1.out, ← HBE.out]
      clear b0
      go_region_held3 (fun w' => w'.cell? ⟨B, 1, none⟩ = some (.int .i64 v))
        (first | with_reducible exact p0 | with_reducible exact cell_drew p0 | with_reducible exact d1 | with_reducible exact cell_drew d1 | with_reducible exact d2 | with_reducible exact cell_drew d2)
        (first
          | (go_at_call 17; (with_reducible refine (E1.out _ (by first | with_reducible exact Below.refl _ W1 | with_reducible exact (Below.refl _ W1).drew)).mono ?_); rintro e s1 ⟨rfl, hq1, ht1⟩; have hT1 : Turn (Four q s h a) W1 s1 := (by first | with_reducible exact ht1 | with_reducible exact (Turn.refl _ W1).drew.trans ht1); have HT1 := Lib.hid hT1; clear hT1; have d1 := (cell_of_block (HT1.out.at_ hB (HF.out)) 1).trans (show _ = some (Value.int .i64 v) from rfl); have HQ1 := Lib.hid hq1; clear hq1 ht1)
          | (go_at_call 20; (with_reducible refine (E2.out s1 _ HT1.out (by first | with_reducible exact Below.refl _ s1 | with_reducible exact (Below.refl _ s1).drew)).mono ?_); rintro e s2 ⟨rfl, hr2, ht2⟩; have hT2 : Turn (Three p gs gw) s1 s2 := (by first | with_reducible exact ht2 | with_reducible exact (Turn.refl _ s1).drew.trans ht2); have HT2 := Lib.hid hT2; clear hT2; have d2 := (cell_of_block (HT2.out.at_ (HT1.out.at_ hB (HF.out)) (HF3.out)) 1).trans (show _ = some (Value.int .i64 v) from rfl); have HR2 := Lib.hid hr2; clear hr2 ht2))
      have HE := Lib.hid (HJ0.out.both HQ1.out HT1.out HR2.out HT2.out)
      go_wp2
      go_ret
      exact ⟨by simp, _, HE.out.1, HT0.out.trans HE.out.2⟩
    · have f1 : (d == 1) = false := by simpa using h1
      clear h1
      obtain ⟨m, hm⟩ : ∃ m, m = o % 1000 := ⟨_, rfl⟩
      have hm2 : m < 1000 := by omega
      have X1 : (o : Int) % 1000 = (m : Int) := by omega
      have X2 : IntKind.u16.wrap (m : Int) = (m : Int) := IntWalk.u16_in _ (by omega)
      have X3 : IntKind.i64.wrap (m : Int) = (m : Int) := IntWalk.i64_in _ (by omega)
      clear hm
      by_cases h2 : d = 2
      · have f2 : (d == 2) = true := by simpa using h2
        clear h2
        go_enter Try.func9, Try.ntmps9
        go_wp2
        rw [← HW1.out, ← HBE.out]
        clear b0 p0
        obtain ⟨W0, hW0⟩ : ∃ W0, W0 = W1 := ⟨_, rfl⟩
        rw [← hW0] at HJ0 HT0 hB ⊢
        clear hW0 HW1 W1
        go_loopw [11] (fun iv wr => ∃ (i : Nat) (r2 : RQ), iv = .int .i64 i ∧ i ≤ m + 1 ∧ Hid (J2 wr q s h a p gs gw cs cw n r2) ∧ Hid (Turn (Both q s h a p gs gw) W0 wr)) (fun iv _ => m + 1 - (intOf iv).toNat)
        case atStart => exact ⟨0, r, rfl, by omega, HJ0.out, Turn.refl _ _⟩
        case round =>
          obtain ⟨i, r2, rfl, hi, hj, ht⟩ := hrel
          have hBr := ht.out.at_ hB HFB.out
          have b2 := (cell_of_block hBr 2).trans (show _ = some (Value.int .u16 (o : Int)) from rfl)
          by_cases hin : i ≤ m
          · have e1 : decide ((i : Int) ≤ (m : Int)) = true := by simp; omega
            have e1n : decide (i ≤ m) = true := by simp; omega
            have W2 : IntKind.i64.wrap ((i : Int) + 1) = (i : Int) + 1 := IntWalk.i64_in _ (by omega)
            obtain ⟨W1, hW1⟩ : ∃ W1, W1 = wr := ⟨_, rfl⟩
            have HJ1 : Hid (J2 W1 q s h a p gs gw cs cw n r2) := by rw [hW1]; exact hj.out
            have HT3 : Hid (Turn (Both q s h a p gs gw) W0 W1) := by rw [hW1]; exact ht.out
            have hB1 := hBr
            rw [← hW1] at hB1
            have p0 := (cell_of_block hB1 1).trans (show _ = some (Value.int .i64 v) from rfl)
            obtain ⟨c, hc⟩ : ∃ c, c = codeR n v := ⟨_, rfl⟩
            have E1 : Hid (∀ W, Below W1.heap.size W1 W → Calls Try.prog 11 #[.pointer (some ⟨q, 0, none⟩), .int .i64 v] W (QPost W q s h a n (.int .i64 c) (bumpV r2 n v))) := fun W hb => by rw [hc]; exact qbump_any v (HJ1.out.q_.below hb)
            have E2 : Hid (∀ s1 W, Turn (Four q s h a) W1 s1 → Below s1.heap.size s1 W → Calls Try.prog 21 #[.pointer (some ⟨p, 0, none⟩), .int .i64 v] W (RPost W p gs gw cs cw n (.int .i64 c) (bumpV r2 n v))) := fun s1 W ht hb => by rw [hc]; exact rbump12_any v ((HJ1.out.other ht).below hb)
            have HW1 := Lib.hid hW1
            have HIN := Lib.hid hin
            clear hc hW1 hj ht hin
            go_upto_region 12 with fail
            rw [← HW1.out]
            clear hBr b2
            go_region_held3 (fun w' => w'.cell? ⟨B, 1, none⟩ = some (.int .i64 v))
              (first | with_reducible exact p0 | with_reducible exact cell_drew p0 | with_reducible exact d1 | with_reducible exact cell_drew d1 | with_reducible exact d2 | with_reducible exact cell_drew d2)
              (first
                | (go_at_call 11; (with_reducible refine (E1.out _ (by first | with_reducible exact Below.refl _ W1 | with_reducible exact (Below.refl _ W1).drew)).mono ?_); rintro e s1 ⟨rfl, hq1, ht1⟩; have hT1 : Turn (Four q s h a) W1 s1 := (by first | with_reducible exact ht1 | with_reducible exact (Turn.refl _ W1).drew.trans ht1); have HT1 := Lib.hid hT1; clear hT1; have d1 := (cell_of_block (HT1.out.at_ hB1 (HF.out)) 1).trans (show _ = some (Value.int .i64 v) from rfl); have HQ1 := Lib.hid hq1; clear hq1 ht1)
                | (go_at_call 21; (with_reducible refine (E2.out s1 _ HT1.out (by first | with_reducible exact Below.refl _ s1 | with_reducible exact (Below.refl _ s1).drew)).mono ?_); rintro e s2 ⟨rfl, hr2, ht2⟩; have hT2 : Turn (Three p gs gw) s1 s2 := (by first | with_reducible exact ht2 | with_reducible exact (Turn.refl _ s1).drew.trans ht2); have HT2 := Lib.hid hT2; clear hT2; have d2 := (cell_of_block (HT2.out.at_ (HT1.out.at_ hB1 (HF.out)) (HF3.out)) 1).trans (show _ = some (Value.int .i64 v) from rfl); have HR2 := Lib.hid hr2; clear hr2 ht2))
            have HE := Lib.hid (HJ1.out.both HQ1.out HT1.out HR2.out HT2.out)
            go_wp2
            go_roundw
            case rel => exact ⟨i + 1, _, by go_num, by have := HIN.out; omega, HE.out.1, HT3.out.trans HE.out.2⟩
            case measure => have := HIN.out; simp [intOf]; omega
          · have e1 : decide ((i : Int) ≤ (m : Int)) = false := by simp; omega
            have e1n : decide (i ≤ m) = false := by simp; omega
            clear hin
            go_wp2
            go_ret
            exact ⟨rfl, _, hj.out, HT0.out.trans ht.out⟩
      · have f2 : (d == 2) = false := by simpa using h2
        clear h2
        go_enter Try.func9, Try.ntmps9
        go_wp2
        rw [← HW1.out, ← HBE.out]
        clear b0 p0
        obtain ⟨W0, hW0⟩ : ∃ W0, W0 = W1 := ⟨_, rfl⟩
        rw [← hW0] at HJ0 HT0 hB ⊢
        clear hW0 HW1 W1
        go_loopw [12] (fun iv wr => ∃ (i : Nat) (r2 : RQ), iv = .int .i64 i ∧ i ≤ m + 1 ∧ Hid (J2 wr q s h a p gs gw cs cw n r2) ∧ Hid (Turn (Both q s h a p gs gw) W0 wr)) (fun iv _ => m + 1 - (intOf iv).toNat)
        case atStart => exact ⟨0, r, rfl, by omega, HJ0.out, Turn.refl _ _⟩
        case round =>
          obtain ⟨i, r2, rfl, hi, hj, ht⟩ := hrel
          have hBr := ht.out.at_ hB HFB.out
          have b2 := (cell_of_block hBr 2).trans (show _ = some (Value.int .u16 (o : Int)) from rfl)
          by_cases hin : i ≤ m
          · have e1 : decide ((i : Int) ≤ (m : Int)) = true := by simp; omega
            have e1n : decide (i ≤ m) = true := by simp; omega
            have W2 : IntKind.i64.wrap ((i : Int) + 1) = (i : Int) + 1 := IntWalk.i64_in _ (by omega)
            have HIN := Lib.hid hin
            clear hin
            go_wp2_with fail
            refine (qfade_any hj.out.q_).mono ?_
            rintro e w2 ⟨rfl, hq2, ht2⟩
            have HQ2 := Lib.hid hq2
            have HT2 := Lib.hid ht2
            have HN2 := Lib.hid (rfade12_any (hj.out.other ht2))
            clear hq2 ht2 b2 hBr
            go_wp2_with fail
            refine HN2.out.mono ?_
            rintro e w3 ⟨rfl, hr3, ht3⟩
            have HE := Lib.hid (hj.out.both HQ2.out HT2.out hr3 ht3)
            clear hr3 ht3
            go_wp2
            go_roundw
            case rel => exact ⟨i + 1, _, by go_num, by have := HIN.out; omega, HE.out.1, ht.out.trans HE.out.2⟩
            case measure => have := HIN.out; simp [intOf]; omega
          · have e1 : decide ((i : Int) ≤ (m : Int)) = false := by simp; omega
            have e1n : decide (i ≤ m) = false := by simp; omega
            clear hin
            go_wp2
            go_ret
            exact ⟨rfl, _, hj.out, HT0.out.trans ht.out⟩
end
end Go.Proofs.Ythedgbdnidghnaa
