/- The law QueueFalls: taken one by one, those that wait come by falling scores. -/
import Derived.Test.YthedgbdnidghnaaLib
import Derived.Test.YthedgbdnidghnaaNBase
import Derived.Test.YthedgbdnidghnaaQuPure
import Derived.Test.YthedgbdnidghnaaQuW
import Derived.Test.YthedgbdnidghnaaQuOps
import Derived.Test.YthedgbdnidghnaaQuNext
import Derived.Test.YthedgbdnidghnaaQuNew
import Derived.Test.YthedgbdnidghnaaQuLives
import Derived.Test.YthedgbdnidghnaaRows
import Derived.ArgAppend
import Derived.BigQuiet
import Derived.Deep.AppendLies
import Derived.Deep.CutRange
import Derived.Deep.QuietTactic
import Derived.Deep.RegionHeld3
import Derived.Deep.RegionLaw
import Derived.Deep.RegionWith
import Derived.KernelRfl
import Derived.Laws.EntriesVeiled
import Derived.Lib.ConvBytes
import Derived.Lib.Hide
import Derived.Lib.SlBytesRow
import Derived.Lib.SmallJoins
import Derived.OrdersHeld
import Derived.Shelf.Bytes.SlSmallAll
import Derived.WalkKit
import Derived.WalkLawsBesides
import Derived.WalkSpells
namespace Go.Proofs.Ythedgbdnidghnaa
open Go Go.RowKit Go.Joins

/-- i have been taken, last the last of them (0: none). -/
structure FallI (r : RQ) (n i last : Nat) : Prop where
  len : lenR r + i = n
  ln : last ≤ n
  top : last ≠ 0 → ∀ u, 1 ≤ u → u ≤ n → r.wt.getD u false = true → keyQ r.sc last < keyQ r.sc u

structure FallS (r : RQ) (n i last v : Nat) : Prop where
  v1 : 1 ≤ v
  v2 : v ≤ n
  best : bestR r n = v
  next : FallI (takeR r v) n (i + 1) v
  off : waitsR (takeR r v).wt n (v : Int) = false
  fall : last ≠ 0 → r.sc.getD v 0 ≤ r.sc.getD last 0 ∧ (r.sc.getD v 0 = r.sc.getD last 0 → last < v)

theorem fall_step {r : RQ} {n i last : Nat} (ok : r.Ok n) (h : FallI r n i last) (hi : i < n) : ∃ v, FallS r n i last v := by
  have hl := h.len
  have hb := best_some ok (by omega)
  have hn := (best_spec ok n (Nat.le_refl _)).2 hb
  obtain ⟨v, hv⟩ : ∃ v, v = bestR r n := ⟨_, rfl⟩
  rw [← hv] at hn hb
  have hlw := ok.lw
  have v2 := hn.v2
  have nm := ok.nm
  refine ⟨v, hn.v1, hn.v2, hv.symm, ⟨?_, hn.v2, fun _ u h1 h2 h3 => ?_⟩, ?_, fun h0 => ?_⟩
  · show (r.wt.set v false).count true + (i + 1) = n
    rw [count_setF _ _ (by omega) hn.w]
    unfold lenR at hl; omega
  · have hne : u ≠ v := by
      intro e; subst e
      have : (takeR r u).wt.getD u false = false := getD_setE _ _ _ _ (by omega)
      rw [this] at h3; cases h3
    have h4 : (r.wt.set v false).getD u false = true := h3
    rw [getD_setN _ _ _ _ _ hne] at h4
    exact hn.least u h1 h2 h4 hne
  · unfold waitsR
    have : (takeR r v).wt.getD v false = false := getD_setE _ _ _ _ (by omega)
    rw [Int.toNat_natCast, this, Bool.and_false]
  · have := h.top h0 v hn.v1 hn.v2 hn.w
    have s1 := ok.sb v
    have s2 := ok.sb last
    have l2 := h.ln
    unfold keyQ at this
    omega
theorem fall_start (n : Nat) {r : RQ} (h : r.wt = (newR n).wt) : FallI r n 0 0 := by
  refine ⟨?_, by omega, fun h => absurd rfl h⟩
  unfold lenR; rw [h]; simp [newR]
theorem bump_wt (r : RQ) (n : Nat) (v : Int) : (bumpV r n v).wt = r.wt := by
  unfold bumpV bumpR
  split
  · split <;> rfl
  · rfl
theorem fade_wt (r : RQ) : (fadeR r).wt = r.wt := by
  unfold fadeR; split <;> rfl
theorem score_at {r : RQ} {n v : Nat} (h1 : 1 ≤ v) (h2 : v ≤ n) : scoreR r.sc n (v : Int) = r.sc.getD v 0 := by
  unfold scoreR; rw [has_of h1 h2, if_pos rfl, Int.toNat_natCast]

set_option maxRecDepth 100000 in
set_option maxHeartbeats 3200000 in
theorem falls_any (x f : Nat) (hx : x < 256) (hf : f < 256) (bs : List UInt8) (ba : Option Addr) (bn bc : Nat) (w : World) (hs : Sees w ba bn bc (bs.map bv)) :
    Calls Try.prog 4 #[.int .u8 x, .slice ba bn bc, .int .u8 f] w fun e w' => e = .returned (.bool true) ∧ Below w.heap.size w w' := by
  obtain ⟨n, hn⟩ : ∃ n, n = x % 200 := ⟨_, rfl⟩
  have hn2 : n < 200 := by omega
  have E1 : (x : Int) % 200 = (n : Int) := by omega
  have W1 : IntKind.u8.wrap (n : Int) = (n : Int) := IntWalk.u8_in _ (by omega)
  have W2 : IntKind.i64.wrap (n : Int) = (n : Int) := IntWalk.i64_in _ (by omega)
  obtain ⟨g, hg⟩ : ∃ g, g = f % 7 := ⟨_, rfl⟩
  have hg2 : g < 7 := by omega
  have E2 : (f : Int) % 7 = (g : Int) := by omega
  have W3 : IntKind.u8.wrap (g : Int) = (g : Int) := IntWalk.u8_in _ (by omega)
  have W4 : IntKind.i64.wrap (g : Int) = (g : Int) := IntWalk.i64_in _ (by omega)
  have HS := Lib.hid hs
  clear hs hn hg
  go_enter Try.func4, Try.ntmps4
  go_wp2_with fail
  refine (qnew_any n w).mono ?_
  intro e w1 h1
  obtain ⟨q, s, h, a, rfl, q1, b1, hF⟩ := NewPost.yes h1 (by omega)
  have LO : Hid (∀ w1 w2 : World, Below w.heap.size w w1 → Turn (Four q s h a) w1 w2 → Below w.heap.size w w2) := fun w1 w2 x y => x.trans (y.low x.size hF)
  have Q1 := Lib.hid q1
  have B1 := Lib.hid b1
  clear h1 q1 b1 hF
  go_wp2
  go_loopw [10] (fun iv wr => ∃ (i : Nat) (r : RQ), iv = .int .i64 i ∧ i ≤ 300 ∧ Hid (QIs wr q s h a n r) ∧ Hid (r.wt = (newR n).wt) ∧ Hid (Below w.heap.size w wr)) (fun iv _ => 300 - (intOf iv).toNat)
  case atStart => exact ⟨0, newR n, rfl, by omega, Q1.out, rfl, B1.out⟩
  case round =>
    clear Q1 B1
    obtain ⟨i, r, rfl, hi, hq, hw, hb⟩ := hrel
    by_cases h1 : i < bn
    · have e1 : decide ((i : Int) < (bn : Int)) = true := by simp; omega
      have e1n : decide (i < bn) = true := by simp; omega
      by_cases h2 : i < 300
      · have e2 : decide ((i : Int) < 300) = true := by simp; omega
        have e2n : decide (i < 300) = true := by simp; omega
        by_cases h3 : 0 < n
        · have e3 : decide ((0 : Int) < (n : Int)) = true := by simp; omega
          have e3n : decide (0 < n) = true := by simp; omega
          obtain ⟨b, off, rfl, _⟩ := HS.out.addr (by omega)
          have hc := (HS.out.below hb.out).byte i h1
          obtain ⟨y, hy⟩ : ∃ y, y = (bs.getD i 0).toNat := ⟨_, rfl⟩
          have hy2 : y < 256 := by rw [hy]; exact UInt8.toNat_lt _
          rw [← hy] at hc
          obtain ⟨m, hm⟩ : ∃ m, m = y % n := ⟨_, rfl⟩
          have hmn : m < n := by rw [hm]; exact Nat.mod_lt _ h3
          have E3 : (y : Int) % (n : Int) = (m : Int) := by rw [hm]; simp
          have E3t : (y : Int).tmod (n : Int) = (m : Int) := by rw [hm]; rfl
          obtain ⟨v, hv⟩ : ∃ v, v = 1 + m := ⟨_, rfl⟩
          have E4 : 1 + (m : Int) = (v : Int) := by omega
          have W5 : IntKind.i64.wrap (y : Int) = (y : Int) := IntWalk.i64_in _ (by omega)
          have W6 : IntKind.i64.wrap (m : Int) = (m : Int) := IntWalk.i64_in _ (by omega)
          have W7 : IntKind.i64.wrap (1 + (m : Int)) = (v : Int) := (IntWalk.i64_in _ (by omega)).trans (by omega)
          have W8 : IntKind.i64.wrap ((i : Int) + 1) = (i : Int) + 1 := IntWalk.i64_in _ (by omega)
          obtain ⟨j, hj⟩ : ∃ j, j = i % 7 := ⟨_, rfl⟩
          have E5 : (i : Int) % 7 = (j : Int) := by omega
          have W9 : IntKind.i64.wrap (j : Int) = (j : Int) := IntWalk.i64_in _ (by omega)
          have n0 : ((n : Int) == 0) = false := by simp; omega
          have n0' : ¬ (n : Int) = 0 := by omega
          have HCD : Hid (codeR n (v : Int) = 0) := by show _ = _; unfold codeR; rw [has_of (by omega) (by omega)]; rfl
          clear hy hm hv hj
          go_wp2_with fail
          refine (qbump_any v hq.out).mono ?_
          intro e w2 h2
          obtain ⟨rfl, q2, t2⟩ := h2
          rw [HCD.out]
          have Q2 := Lib.hid q2
          have B2 := Lib.hid (LO.out _ _ hb.out t2)
          have HW2 : Hid ((bumpV r n (v : Int)).wt = (newR n).wt) := (bump_wt r n v).trans hw.out
          clear q2 t2 hc hq hw hb
          by_cases hjg : j < g
          · have d1 : decide ((j : Int) < (g : Int)) = true := by simp; omega
            have d1n : decide (j < g) = true := by simp; omega
            clear hjg
            go_wp2_with fail
            refine (qfade_any Q2.out).mono ?_
            intro e w3 h3
            obtain ⟨rfl, q3, t3⟩ := h3
            have Q3 := Lib.hid q3
            have B3 := Lib.hid (LO.out _ _ B2.out t3)
            clear q3 t3
            go_wp2
            go_roundw
            case rel => exact ⟨i + 1, _, by go_num, by omega, Q3.out, (fade_wt _).trans HW2.out, B3.out⟩
            case measure => simp [intOf]; omega
          · have d1 : decide ((j : Int) < (g : Int)) = false := by simp; omega
            have d1n : decide (j < g) = false := by simp; omega
            clear hjg
            go_wp2
            go_roundw
            case rel => exact ⟨i + 1, _, by go_num, by omega, Q2.out, HW2.out, B2.out⟩
            case measure => simp [intOf]; omega
        · have e3 : decide ((0 : Int) < (n : Int)) = false := by simp; omega
          have e3n : decide (0 < n) = false := by simp; omega
          clear h1 h2 h3
          go_wp2
          have F0 : Hid (FallI r n 0 0) := fall_start n hw.out
          have Q2 := Lib.hid hq.out
          have B2 := Lib.hid hb.out
          clear hq hw hb
          go_loopw [12, 11] (fun iv lv wr => ∃ (i : Nat) (r : RQ) (last : Nat), iv = .int .i64 i ∧ lv = .int .i64 last ∧ i ≤ n ∧ Hid (QIs wr q s h a n r) ∧ Hid (FallI r n i last) ∧ Hid (Below w.heap.size w wr)) (fun iv _ _ => n - (intOf iv).toNat)
          case atStart => exact ⟨0, r, 0, rfl, rfl, by omega, Q2.out, F0.out, B2.out⟩
          case round =>
            clear Q2 B2 F0
            obtain ⟨i2, r2, last, rfl, rfl, hi2, hq, hI, hb⟩ := hrel
            by_cases hin : i2 < n
            · have e1 : decide ((i2 : Int) < (n : Int)) = true := by simp; omega
              have e1n : decide (i2 < n) = true := by simp; omega
              obtain ⟨v, hS⟩ := fall_step hq.out.ok hI.out hin
              have HS2 := Lib.hid hS
              have hv1 := hS.v1; have hv2 := hS.v2
              obtain ⟨k, hk⟩ : ∃ k, k = n - 1 - i2 := ⟨_, rfl⟩
              have WA : IntKind.i64.wrap ((n : Int) - 1) = (n : Int) - 1 := IntWalk.i64_in _ (by omega)
              have WB : IntKind.i64.wrap ((n : Int) - 1 - (i2 : Int)) = (k : Int) := (IntWalk.i64_in _ (by omega)).trans (by omega)
              have EB : (n : Int) - 1 - (i2 : Int) = (k : Int) := by omega
              have WC : IntKind.i64.wrap ((i2 : Int) + 1) = (i2 : Int) + 1 := IntWalk.i64_in _ (by omega)
              have HLK : Hid (lenR (takeR r2 v) = k) := by have := hS.next.len; show _ = _; omega
              have d1 : decide ((v : Int) < 1) = false := by simp; omega
              have d1n : decide (v < 1) = false := by simp; omega
              have d2 : decide ((n : Int) < (v : Int)) = false := by simp; omega
              have d2n : decide (n < v) = false := by simp; omega
              have HIN := Lib.hid hin
              clear hS hin hk
              go_wp2_with fail
              refine (qnext_any hq.out).mono ?_
              intro e w2 h2
              obtain ⟨rfl, q2, t2⟩ := h2.as (v' := .tuple #[.int .i64 (v : Int), .bool true]) (r' := takeR r2 v) (by unfold nextA; rw [HS2.out.best, show decide (v ≠ 0) = true by simp; omega]) (by unfold nextV; rw [HS2.out.best, if_neg (by omega)])
              have Q3 := Lib.hid q2
              have B3 := Lib.hid (LO.out _ _ hb.out t2)
              have HWT := Lib.hid (qwaitsI_any (v : Int) q2)
              rw [HS2.out.off] at HWT
              have HLE := Lib.hid (qlenI_any q2)
              rw [HLK.out] at HLE
              clear h2 q2 t2 hq hb
              go_wp2_with fail
              refine HWT.out.mono ?_
              rintro e w3 ⟨rfl, rfl⟩
              go_wp2_with fail
              refine HLE.out.mono ?_
              rintro e w3 ⟨rfl, rfl⟩
              by_cases hl : last = 0
              · have d3 : decide ((0 : Int) < (last : Int)) = false := by simp; omega
                have d3n : decide (0 < last) = false := by simp; omega
                clear hl
                go_wp2
                go_roundw
                case rel => exact ⟨i2 + 1, takeR r2 v, v, by go_num, rfl, by have := HIN.out; omega, Q3.out, HS2.out.next, B3.out⟩
                case measure => have := HIN.out; simp [intOf]; omega
              · have d3 : decide ((0 : Int) < (last : Int)) = true := by simp; omega
                have d3n : decide (0 < last) = true := by simp; omega
                have hln := hI.out.ln
                have hf := HS2.out.fall hl
                have SV := Lib.hid (qscoreI_any (v : Int) Q3.out)
                have SL := Lib.hid (qscoreI_any (last : Int) Q3.out)
                rw [score_at hv1 hv2] at SV
                rw [score_at (by omega) hln] at SL
                obtain ⟨sv, hsv⟩ : ∃ sv, sv = (takeR r2 v).sc.getD v 0 := ⟨_, rfl⟩
                obtain ⟨sl, hsl⟩ : ∃ sl, sl = (takeR r2 v).sc.getD last 0 := ⟨_, rfl⟩
                rw [← hsv] at SV
                rw [← hsl] at SL
                have f1 : sv ≤ sl := by rw [hsv, hsl]; exact hf.1
                have f2 : sv = sl → last < v := by rw [hsv, hsl]; exact hf.2
                have d4 : decide ((sl : Int) < (sv : Int)) = false := by simp; omega
                have d4n : decide (sl < sv) = false := by simp; omega
                have F2 := Lib.hid f2
                clear hl hf hsv hsl f1 f2
                go_wp2_with fail
                refine SV.out.mono ?_
                rintro e w4 ⟨rfl, rfl⟩
                go_wp2_with fail
                refine SL.out.mono ?_
                rintro e w4 ⟨rfl, rfl⟩
                go_wp2_with fail
                refine SV.out.mono ?_
                rintro e w4 ⟨rfl, rfl⟩
                go_wp2_with fail
                refine SL.out.mono ?_
                rintro e w4 ⟨rfl, rfl⟩
                by_cases hss : sv = sl
                · have hlt := F2.out hss
                  have d5 : decide ((v : Int) < (last : Int)) = false := by simp; omega
                  have d5n : decide (v < last) = false := by simp; omega
                  subst hss
                  clear hlt
                  go_wp2
                  go_roundw
                  case rel => exact ⟨i2 + 1, takeR r2 v, v, by go_num, rfl, by have := HIN.out; omega, Q3.out, HS2.out.next, B3.out⟩
                  case measure => have := HIN.out; simp [intOf]; omega
                · have d5 : ((sv : Int) == (sl : Int)) = false := by simp; omega
                  clear hss
                  go_wp2
                  go_roundw
                  case rel => exact ⟨i2 + 1, takeR r2 v, v, by go_num, rfl, by have := HIN.out; omega, Q3.out, HS2.out.next, B3.out⟩
                  case measure => have := HIN.out; simp [intOf]; omega
            · have e1 : decide ((i2 : Int) < (n : Int)) = false := by simp; omega
              have e1n : decide (i2 < n) = false := by simp; omega
              have hl0 : lenR r2 = 0 := by have := hI.out.len; omega
              have HB0 : Hid (bestR r2 n = 0) := best_none hq.out.ok hl0
              clear hin hl0
              go_wp2_with fail
              refine (qnext_any hq.out).mono ?_
              intro e w2 h2
              obtain ⟨rfl, q2, t2⟩ := h2.as (v' := .tuple #[.int .i64 0, .bool false]) (r' := r2) (by unfold nextA; rw [HB0.out]; rfl) (by unfold nextV; rw [HB0.out, if_pos rfl])
              have B3 := Lib.hid (LO.out _ _ hb.out t2)
              clear h2 q2 t2 hq hb
              go_wp2_with fail
              refine (lives12_any _).mono ?_
              rintro e w3 ⟨rfl, hb3⟩
              have B4 := Lib.hid (B3.out.trans (hb3.mono B3.out.size))
              clear hb3
              go_wp2
              go_ret
              exact ⟨rfl, B4.out⟩
      · have e2 : decide ((i : Int) < 300) = false := by simp; omega
        have e2n : decide (i < 300) = false := by simp; omega
        clear h1 h2
        go_wp2
        have F0 : Hid (FallI r n 0 0) := fall_start n hw.out
        have Q2 := Lib.hid hq.out
        have B2 := Lib.hid hb.out
        clear hq hw hb
        go_loopw [12, 11] (fun iv lv wr => ∃ (i : Nat) (r : RQ) (last : Nat), iv = .int .i64 i ∧ lv = .int .i64 last ∧ i ≤ n ∧ Hid (QIs wr q s h a n r) ∧ Hid (FallI r n i last) ∧ Hid (Below w.heap.size w wr)) (fun iv _ _ => n - (intOf iv).toNat)
        case atStart => exact ⟨0, r, 0, rfl, rfl, by omega, Q2.out, F0.out, B2.out⟩
        case round =>
          clear Q2 B2 F0
          obtain ⟨i2, r2, last, rfl, rfl, hi2, hq, hI, hb⟩ := hrel
          by_cases hin : i2 < n
          · have e1 : decide ((i2 : Int) < (n : Int)) = true := by simp; omega
            have e1n : decide (i2 < n) = true := by simp; omega
            obtain ⟨v, hS⟩ := fall_step hq.out.ok hI.out hin
            have HS2 := Lib.hid hS
            have hv1 := hS.v1; have hv2 := hS.v2
            obtain ⟨k, hk⟩ : ∃ k, k = n - 1 - i2 := ⟨_, rfl⟩
            have WA : IntKind.i64.wrap ((n : Int) - 1) = (n : Int) - 1 := IntWalk.i64_in _ (by omega)
            have WB : IntKind.i64.wrap ((n : Int) - 1 - (i2 : Int)) = (k : Int) := (IntWalk.i64_in _ (by omega)).trans (by omega)
            have EB : (n : Int) - 1 - (i2 : Int) = (k : Int) := by omega
            have WC : IntKind.i64.wrap ((i2 : Int) + 1) = (i2 : Int) + 1 := IntWalk.i64_in _ (by omega)
            have HLK : Hid (lenR (takeR r2 v) = k) := by have := hS.next.len; show _ = _; omega
            have d1 : decide ((v : Int) < 1) = false := by simp; omega
            have d1n : decide (v < 1) = false := by simp; omega
            have d2 : decide ((n : Int) < (v : Int)) = false := by simp; omega
            have d2n : decide (n < v) = false := by simp; omega
            have HIN := Lib.hid hin
            clear hS hin hk
            go_wp2_with fail
            refine (qnext_any hq.out).mono ?_
            intro e w2 h2
            obtain ⟨rfl, q2, t2⟩ := h2.as (v' := .tuple #[.int .i64 (v : Int), .bool true]) (r' := takeR r2 v) (by unfold nextA; rw [HS2.out.best, show decide (v ≠ 0) = true by simp; omega]) (by unfold nextV; rw [HS2.out.best, if_neg (by omega)])
            have Q3 := Lib.hid q2
            have B3 := Lib.hid (LO.out _ _ hb.out t2)
            have HWT := Lib.hid (qwaitsI_any (v : Int) q2)
            rw [HS2.out.off] at HWT
            have HLE := Lib.hid (qlenI_any q2)
            rw [HLK.out] at HLE
            clear h2 q2 t2 hq hb
            go_wp2_with fail
            refine HWT.out.mono ?_
            rintro e w3 ⟨rfl, rfl⟩
            go_wp2_with fail
            refine HLE.out.mono ?_
            rintro e w3 ⟨rfl, rfl⟩
            by_cases hl : last = 0
            · have d3 : decide ((0 : Int) < (last : Int)) = false := by simp; omega
              have d3n : decide (0 < last) = false := by simp; omega
              clear hl
              go_wp2
              go_roundw
              case rel => exact ⟨i2 + 1, takeR r2 v, v, by go_num, rfl, by have := HIN.out; omega, Q3.out, HS2.out.next, B3.out⟩
              case measure => have := HIN.out; simp [intOf]; omega
            · have d3 : decide ((0 : Int) < (last : Int)) = true := by simp; omega
              have d3n : decide (0 < last) = true := by simp; omega
              have hln := hI.out.ln
              have hf := HS2.out.fall hl
              have SV := Lib.hid (qscoreI_any (v : Int) Q3.out)
              have SL := Lib.hid (qscoreI_any (last : Int) Q3.out)
              rw [score_at hv1 hv2] at SV
              rw [score_at (by omega) hln] at SL
              obtain ⟨sv, hsv⟩ : ∃ sv, sv = (takeR r2 v).sc.getD v 0 := ⟨_, rfl⟩
              obtain ⟨sl, hsl⟩ : ∃ sl, sl = (takeR r2 v).sc.getD last 0 := ⟨_, rfl⟩
              rw [← hsv] at SV
              rw [← hsl] at SL
              have f1 : sv ≤ sl := by rw [hsv, hsl]; exact hf.1
              have f2 : sv = sl → last < v := by rw [hsv, hsl]; exact hf.2
              have d4 : decide ((sl : Int) < (sv : Int)) = false := by simp; omega
              have d4n : decide (sl < sv) = false := by simp; omega
              have F2 := Lib.hid f2
              clear hl hf hsv hsl f1 f2
              go_wp2_with fail
              refine SV.out.mono ?_
              rintro e w4 ⟨rfl, rfl⟩
              go_wp2_with fail
              refine SL.out.mono ?_
              rintro e w4 ⟨rfl, rfl⟩
              go_wp2_with fail
              refine SV.out.mono ?_
              rintro e w4 ⟨rfl, rfl⟩
              go_wp2_with fail
              refine SL.out.mono ?_
              rintro e w4 ⟨rfl, rfl⟩
              by_cases hss : sv = sl
              · have hlt := F2.out hss
                have d5 : decide ((v : Int) < (last : Int)) = false := by simp; omega
                have d5n : decide (v < last) = false := by simp; omega
                subst hss
                clear hlt
                go_wp2
                go_roundw
                case rel => exact ⟨i2 + 1, takeR r2 v, v, by go_num, rfl, by have := HIN.out; omega, Q3.out, HS2.out.next, B3.out⟩
                case measure => have := HIN.out; simp [intOf]; omega
              · have d5 : ((sv : Int) == (sl : Int)) = false := by simp; omega
                clear hss
                go_wp2
                go_roundw
                case rel => exact ⟨i2 + 1, takeR r2 v, v, by go_num, rfl, by have := HIN.out; omega, Q3.out, HS2.out.next, B3.out⟩
                case measure => have := HIN.out; simp [intOf]; omega
          · have e1 : decide ((i2 : Int) < (n : Int)) = false := by simp; omega
            have e1n : decide (i2 < n) = false := by simp; omega
            have hl0 : lenR r2 = 0 := by have := hI.out.len; omega
            have HB0 : Hid (bestR r2 n = 0) := best_none hq.out.ok hl0
            clear hin hl0
            go_wp2_with fail
            refine (qnext_any hq.out).mono ?_
            intro e w2 h2
            obtain ⟨rfl, q2, t2⟩ := h2.as (v' := .tuple #[.int .i64 0, .bool false]) (r' := r2) (by unfold nextA; rw [HB0.out]; rfl) (by unfold nextV; rw [HB0.out, if_pos rfl])
            have B3 := Lib.hid (LO.out _ _ hb.out t2)
            clear h2 q2 t2 hq hb
            go_wp2_with fail
            refine (lives12_any _).mono ?_
            rintro e w3 ⟨rfl, hb3⟩
            have B4 := Lib.hid (B3.out.trans (hb3.mono B3.out.size))
            clear hb3
            go_wp2
            go_ret
            exact ⟨rfl, B4.out⟩
    · have e1 : decide ((i : Int) < (bn : Int)) = false := by simp; omega
      have e1n : decide (i < bn) = false := by simp; omega
      clear h1
      go_wp2
      have F0 : Hid (FallI r n 0 0) := fall_start n hw.out
      have Q2 := Lib.hid hq.out
      have B2 := Lib.hid hb.out
      clear hq hw hb
      go_loopw [12, 11] (fun iv lv wr => ∃ (i : Nat) (r : RQ) (last : Nat), iv = .int .i64 i ∧ lv = .int .i64 last ∧ i ≤ n ∧ Hid (QIs wr q s h a n r) ∧ Hid (FallI r n i last) ∧ Hid (Below w.heap.size w wr)) (fun iv _ _ => n - (intOf iv).toNat)
      case atStart => exact ⟨0, r, 0, rfl, rfl, by omega, Q2.out, F0.out, B2.out⟩
      case round =>
        clear Q2 B2 F0
        obtain ⟨i2, r2, last, rfl, rfl, hi2, hq, hI, hb⟩ := hrel
        by_cases hin : i2 < n
        · have e1 : decide ((i2 : Int) < (n : Int)) = true := by simp; omega
          have e1n : decide (i2 < n) = true := by simp; omega
          obtain ⟨v, hS⟩ := fall_step hq.out.ok hI.out hin
          have HS2 := Lib.hid hS
          have hv1 := hS.v1; have hv2 := hS.v2
          obtain ⟨k, hk⟩ : ∃ k, k = n - 1 - i2 := ⟨_, rfl⟩
          have WA : IntKind.i64.wrap ((n : Int) - 1) = (n : Int) - 1 := IntWalk.i64_in _ (by omega)
          have WB : IntKind.i64.wrap ((n : Int) - 1 - (i2 : Int)) = (k : Int) := (IntWalk.i64_in _ (by omega)).trans (by omega)
          have EB : (n : Int) - 1 - (i2 : Int) = (k : Int) := by omega
          have WC : IntKind.i64.wrap ((i2 : Int) + 1) = (i2 : Int) + 1 := IntWalk.i64_in _ (by omega)
          have HLK : Hid (lenR (takeR r2 v) = k) := by have := hS.next.len; show _ = _; omega
          have d1 : decide ((v : Int) < 1) = false := by simp; omega
          have d1n : decide (v < 1) = false := by simp; omega
          have d2 : decide ((n : Int) < (v : Int)) = false := by simp; omega
          have d2n : decide (n < v) = false := by simp; omega
          have HIN := Lib.hid hin
          clear hS hin hk
          go_wp2_with fail
          refine (qnext_any hq.out).mono ?_
          intro e w2 h2
          obtain ⟨rfl, q2, t2⟩ := h2.as (v' := .tuple #[.int .i64 (v : Int), .bool true]) (r' := takeR r2 v) (by unfold nextA; rw [HS2.out.best, show decide (v ≠ 0) = true by simp; omega]) (by unfold nextV; rw [HS2.out.best, if_neg (by omega)])
          have Q3 := Lib.hid q2
          have B3 := Lib.hid (LO.out _ _ hb.out t2)
          have HWT := Lib.hid (qwaitsI_any (v : Int) q2)
          rw [HS2.out.off] at HWT
          have HLE := Lib.hid (qlenI_any q2)
          rw [HLK.out] at HLE
          clear h2 q2 t2 hq hb
          go_wp2_with fail
          refine HWT.out.mono ?_
          rintro e w3 ⟨rfl, rfl⟩
          go_wp2_with fail
          refine HLE.out.mono ?_
          rintro e w3 ⟨rfl, rfl⟩
          by_cases hl : last = 0
          · have d3 : decide ((0 : Int) < (last : Int)) = false := by simp; omega
            have d3n : decide (0 < last) = false := by simp; omega
            clear hl
            go_wp2
            go_roundw
            case rel => exact ⟨i2 + 1, takeR r2 v, v, by go_num, rfl, by have := HIN.out; omega, Q3.out, HS2.out.next, B3.out⟩
            case measure => have := HIN.out; simp [intOf]; omega
          · have d3 : decide ((0 : Int) < (last : Int)) = true := by simp; omega
            have d3n : decide (0 < last) = true := by simp; omega
            have hln := hI.out.ln
            have hf := HS2.out.fall hl
            have SV := Lib.hid (qscoreI_any (v : Int) Q3.out)
            have SL := Lib.hid (qscoreI_any (last : Int) Q3.out)
            rw [score_at hv1 hv2] at SV
            rw [score_at (by omega) hln] at SL
            obtain ⟨sv, hsv⟩ : ∃ sv, sv = (takeR r2 v).sc.getD v 0 := ⟨_, rfl⟩
            obtain ⟨sl, hsl⟩ : ∃ sl, sl = (takeR r2 v).sc.getD last 0 := ⟨_, rfl⟩
            rw [← hsv] at SV
            rw [← hsl] at SL
            have f1 : sv ≤ sl := by rw [hsv, hsl]; exact hf.1
            have f2 : sv = sl → last < v := by rw [hsv, hsl]; exact hf.2
            have d4 : decide ((sl : Int) < (sv : Int)) = false := by simp; omega
            have d4n : decide (sl < sv) = false := by simp; omega
            have F2 := Lib.hid f2
            clear hl hf hsv hsl f1 f2
            go_wp2_with fail
            refine SV.out.mono ?_
            rintro e w4 ⟨rfl, rfl⟩
            go_wp2_with fail
            refine SL.out.mono ?_
            rintro e w4 ⟨rfl, rfl⟩
            go_wp2_with fail
            refine SV.out.mono ?_
            rintro e w4 ⟨rfl, rfl⟩
            go_wp2_with fail
            refine SL.out.mono ?_
            rintro e w4 ⟨rfl, rfl⟩
            by_cases hss : sv = sl
            · have hlt := F2.out hss
              have d5 : decide ((v : Int) < (last : Int)) = false := by simp; omega
              have d5n : decide (v < last) = false := by simp; omega
              subst hss
              clear hlt
              go_wp2
              go_roundw
              case rel => exact ⟨i2 + 1, takeR r2 v, v, by go_num, rfl, by have := HIN.out; omega, Q3.out, HS2.out.next, B3.out⟩
              case measure => have := HIN.out; simp [intOf]; omega
            · have d5 : ((sv : Int) == (sl : Int)) = false := by simp; omega
              clear hss
              go_wp2
              go_roundw
              case rel => exact ⟨i2 + 1, takeR r2 v, v, by go_num, rfl, by have := HIN.out; omega, Q3.out, HS2.out.next, B3.out⟩
              case measure => have := HIN.out; simp [intOf]; omega
        · have e1 : decide ((i2 : Int) < (n : Int)) = false := by simp; omega
          have e1n : decide (i2 < n) = false := by simp; omega
          have hl0 : lenR r2 = 0 := by have := hI.out.len; omega
          have HB0 : Hid (bestR r2 n = 0) := best_none hq.out.ok hl0
          clear hin hl0
          go_wp2_with fail
          refine (qnext_any hq.out).mono ?_
          intro e w2 h2
          obtain ⟨rfl, q2, t2⟩ := h2.as (v' := .tuple #[.int .i64 0, .bool false]) (r' := r2) (by unfold nextA; rw [HB0.out]; rfl) (by unfold nextV; rw [HB0.out, if_pos rfl])
          have B3 := Lib.hid (LO.out _ _ hb.out t2)
          clear h2 q2 t2 hq hb
          go_wp2_with fail
          refine (lives12_any _).mono ?_
          rintro e w3 ⟨rfl, hb3⟩
          have B4 := Lib.hid (B3.out.trans (hb3.mono B3.out.size))
          clear hb3
          go_wp2
          go_ret
          exact ⟨rfl, B4.out⟩
end Go.Proofs.Ythedgbdnidghnaa
