/- The law EncTells. -/
import Derived.Test.YtcoehbkjccfhlaaGEncT00
import Derived.Test.YtcoehbkjccfhlaaGEncT06
import Derived.Test.YtcoehbkjccfhlaaGEncT01
import Derived.Test.YtcoehbkjccfhlaaGEncT02
import Derived.Test.YtcoehbkjccfhlaaGEncT07
import Derived.Test.YtcoehbkjccfhlaaGEncT03
import Derived.Test.YtcoehbkjccfhlaaGEncT05
import Derived.Test.YtcoehbkjccfhlaaGEncT14
import Derived.Test.YtcoehbkjccfhlaaEnLim
import Derived.Test.YtcoehbkjccfhlaaEnVL
import Derived.Test.YtcoehbkjccfhlaaEnFa
import Derived.Test.YtcoehbkjccfhlaaGEncT12
import Derived.Test.YtcoehbkjccfhlaaGEncT13
import Derived.Test.YtcoehbkjccfhlaaEnRA
import Derived.Test.YtcoehbkjccfhlaaGEncT15
import Derived.Test.YtcoehbkjccfhlaaGEncT19
import Derived.Test.YtcoehbkjccfhlaaRows
import Derived.BigQuiet
import Derived.Deep.AppendLies
import Derived.Deep.CutRange
import Derived.Deep.QuietTactic
import Derived.Deep.RegionHeld3
import Derived.Deep.RegionLaw
import Derived.Deep.RegionWith
import Derived.KernelRfl
import Derived.Laws.Bits64b
import Derived.Laws.BitsAllLaws
import Derived.Laws.BitsLemmas
import Derived.Laws.EntriesVeiled
import Derived.Laws.Tables
import Derived.Lib.AppendStr
import Derived.Lib.AppendZeros
import Derived.Lib.ConvBytes
import Derived.Lib.Hide
import Derived.Lib.SlBytesRow
import Derived.Lib.SmallJoins
import Derived.LoopIn
import Derived.LoopNIn
import Derived.Maps.AppendAt
import Derived.OrdersHeld
import Derived.OrdersIn
import Derived.OwnWalkIn
import Derived.RangeFuncBox
import Derived.RangeFuncCalls
import Derived.RangeFuncLeaves
import Derived.RangeFuncNested
import Derived.RangeFuncWrites
import Derived.Shelf.Abstract
import Derived.Shelf.Bytes.SlSmallAll
import Derived.Shelf.RegionOpen
import Derived.Sort.CutIn
import Derived.Stop.RegionWithIn
import Derived.TacticsInMore
import Derived.WalkKit
import Derived.WalkLawsBesides
import Derived.WalkSpells
import Derived.Test.YtcoehbkjccfhlaaGEncT08
import Derived.Test.YtcoehbkjccfhlaaEnCl
import Derived.Test.YtcoehbkjccfhlaaEnGv
import Derived.Test.YtcoehbkjccfhlaaEnInts
import Derived.Test.YtcoehbkjccfhlaaEnRl
import Derived.Test.YtcoehbkjccfhlaaEnLives
import Derived.Test.YtcoehbkjccfhlaaGEncT16
import Derived.Test.YtcoehbkjccfhlaaEnRB
import Derived.Test.YtcoehbkjccfhlaaGEncT18
import Derived.Test.YtcoehbkjccfhlaaEnRF
import Derived.Test.YtcoehbkjccfhlaaEnTr
/- inquestref14.Trace, by its contract. -/
namespace Go.Proofs.Ytcoehbkjccfhlaa
open Go Go.RowKit Go.Joins

theorem info_byte14 : (Try.prog.info? 5).map (fun i => (i.zero, i.size, i.bytes)) = some (some (.int .u8 0), 1, 1) := by kernel_rfl
set_option maxRecDepth 100000 in
set_option maxHeartbeats 12800000 in
theorem reftrace14_any (c : NormC) (bs : List Bool) (s : CSlots) (ma : Option Addr) (mn mc : Nat) (bad z : Int) (w : World) (h : SeesCir w s c) (hmo : Sees w ma mn mc (bs.map Value.bool)) (hs : s.small) (hlo : -9223372036854775808 ≤ c.ins) (hhi : c.ins < 9223372036854775808) (hw : Wide c) :
    Calls Try.prog 23 #[cirV c.ins s, .int .i64 bad, .int .i64 z, .slice ma mn mc] w (TrE c bad z bs w) := by
  obtain ⟨i0, hi0, hz0, hz1, hz2⟩ := info_parts info_byte14
  obtain ⟨iS, hiS, hzS0, hzS1, hzS2⟩ := info_parts info_u8s
  have HV := Lib.hid (fun W (hb : Below w.heap.size w W) => refvars14_any c s z W (h.below hb) hs hlo hhi hw)
  have HOF := Lib.hid (fun (ho : ofOk c z = true) (l f : Nat) (hl : l ≤ 2 * varsN c + 1) (hf : f ≤ 256) W (hb : Below w.heap.size w W) => refof14_any c s l f (ofOk_iff ho).1 hl hf W (h.below hb) hs hlo hhi hw)
  have HVL := Lib.hid (fun (i : Nat) (hi : i < mn) W (hb : Below w.heap.size w W) => value14_any bs ma mn mc i W (hmo.below hb) hi)
  have HOK := Lib.hid (fun (ho : ofOk c z = true) => ofOk_iff ho)
  have l4 : c.bads.length = s.n4 := h.s4.lenMap
  have l1 : c.lats.length = s.n1 := h.s1.1
  have HS1 := Lib.hid h.s1
  have hs1 : s.n1 ≤ 1048576 := hs.n1
  have HTO : Hid (trOk c bad z bs = (ofOk c z && ((decide (0 ≤ bad) && decide (bad < (s.n4 : Int))) && decide (1 + (1 + z.toNat * varsN c) ≤ mn)))) := by show _ = _; rw [← hmo.lenMap]; unfold trOk badOk; rw [l4]
  clear h hmo hs hlo hhi hw l4
  obtain ⟨a1, n1, c1, a2, n2, c2, a3, n3, c3, a4, n4, c4, a5, n5, c5⟩ := s
  simp only at HS1 HTO l1 hs1
  unfold TrE
  obtain ⟨MT, hMT⟩ : ∃ m, m = modT c bs bad z.toNat := ⟨_, rfl⟩
  rw [← hMT]
  have HMT0 := Lib.hid hMT
  clear hMT
  obtain ⟨tk, htk⟩ : ∃ b, b = trOk c bad z bs := ⟨_, rfl⟩
  rw [← htk]
  rw [← htk] at HTO
  obtain ⟨x, hx⟩ : ∃ x, x = c.ins := ⟨_, rfl⟩
  rw [← hx]
  rw [← hx] at HV HOF
  have HXI := Lib.hid hx
  clear hx htk
  unfold cirV at *
  go_enter Try.func23, Try.ntmps23
  go_upto_region 1 with fail
  generalize hW : World.alloc (World.alloc w _) _ = W1
  have hX : W1.heap[w.heap.size]? = some (.cells #[.int .i64 x, .slice a1 n1 c1, .slice a2 n2 c2, .slice a3 n3 c3, .slice a4 n4 c4, .slice a5 n5 c5] 26 (0, 0)) := by subst hW; exact heap_below (heap_new _ _ _ rfl) (ext_alloc _ _)
  have hR : W1.heap[w.heap.size + 1]? = some (.cells #[.int .i64 0, .slice none 0 0, .slice none 0 0] 30 (0, 0)) := by subst hW; exact heap_new _ _ _ (by simp)
  have hB : Below w.heap.size w W1 := by subst hW; exact ext_trans (ext_alloc _ _) (ext_alloc _ _)
  have HX1 := Lib.hid hX
  have HR1 := Lib.hid hR
  have HB1 := Lib.hid hB
  clear hW hX hR hB
  cases ho : ofOk c z with
  | false =>
    have HNO : Hid (tk = false) := by show _ = _; rw [HTO.out, ho]; rfl
    have hv : varsA c z = (0, 2) := by unfold varsA; rw [if_neg (by rw [ho]; simp)]
    rw [hv] at HV
    clear HOF HVL HOK HTO hv ho
    have p0 := cell_of_block HX1.out 0
    have p1 := cell_of_block HX1.out 1
    have p2 := cell_of_block HX1.out 2
    have p3 := cell_of_block HX1.out 3
    have p4 := cell_of_block HX1.out 4
    have p5 := cell_of_block HX1.out 5
    go_wp2_with fail
    refine (HV.out W1 HB1.out).mono ?_
    rintro e W2 ⟨rfl, hb⟩
    have HR2 := Lib.hid (heap_below HR1.out hb)
    have HB2 := Lib.hid (ext_trans HB1.out hb)
    clear hb HV HX1 HR1 HB1 p0 p1 p2 p3 p4 p5
    have y0 := cell_of_block HR2.out 0
    have y1 := cell_of_block HR2.out 1
    have y2 := cell_of_block HR2.out 2
    have x0 := unfrozen_of_block HR2.out 0
    have x1 := unfrozen_of_block HR2.out 1
    have x2 := unfrozen_of_block HR2.out 2
    go_wp2
    refine bodyPost_ret (v := .tuple #[.agg #[.int .i64 0, .slice none 0 0, .slice none 0 0], .int .i64 2]) ?_ rfl ?_
    · have h6 := tri_set_t HR2.out rfl (.int .i64 0) (.slice none 0 0) (.slice none 0 0)
      have g0 := cell_of_block h6 0
      have g1 := cell_of_block h6 1
      have g2 := cell_of_block h6 2
      simp [results, Try.results23, go_sem, g0, g1, g2]
      try rfl
    · exact ⟨set3_t (w.heap.size + 1) (Nat.le_succ _) HB2.out, Or.inr ⟨HNO.out, rfl⟩⟩
  | true =>
    obtain ⟨hM, hf1, hf2, hzz⟩ := HOK.out ho
    have hv : varsA c z = (1 + z.toNat * varsN c, 0) := by unfold varsA; rw [if_pos ho]
    rw [hv] at HV
    rw [ho, Bool.true_and] at HTO
    replace HOF := Lib.hid (HOF.out ho)
    clear ho hv HOK
    obtain ⟨nf, hnf⟩ : ∃ n, n = z.toNat := ⟨_, rfl⟩
    rw [← hnf] at hzz hf1 hf2 HV HTO HMT0
    subst hzz
    clear hnf
    obtain ⟨ii, hii⟩ := Int.eq_ofNat_of_zero_le hM.pos
    have hiv : x = (ii : Int) := HXI.out.trans hii
    subst hiv
    have hin : c.ins.toNat = ii := by rw [hii]; rfl
    have hfew := hM.few
    have hV1 : ii + n1 ≤ varsN c := by unfold varsN; rw [hin, l1]; omega
    have HP1 : Hid (∀ k, k < n1 → (c.lats.getD k (0, 0)).2 ≤ 2) := fun k hk => (hM.lats (c.lats.getD k (0, 0)) (getD_mem (by rw [l1]; exact hk))).2
    obtain ⟨V, hV⟩ : ∃ V, V = varsN c := ⟨_, rfl⟩
    rw [← hV] at HV HTO HOF hfew hV1
    have HIN : Hid (∀ k, initN c bs k = if (c.lats.getD k (0, 0)).2 = 2 then modV bs (spotE V (1 + ii + k) 0) else (c.lats.getD k (0, 0)).2) := fun k => by unfold initN firstLatE; rw [hin, ← hV]
    have HII : Hid (∀ f i, inN c bs f i = modV bs (spotE V (1 + i) f)) := fun f i => by unfold inN; rw [← hV]
    have HMT : Hid (MT = ⟨bad, u8l (initN c bs) n1, (List.range nf).map fun f => u8l (inN c bs f) ii⟩) := by show _ = _; rw [HMT0.out]; unfold modT; rw [l1, hin]
    have HIL : Hid (∀ k, k < n1 → initN c bs k ≤ 2) := fun k hk => initN_le hM bs k (by rw [l1]; exact hk)
    have hmul : nf * V ≤ 256 * 16384 := Nat.mul_le_mul hf2 hfew
    have HSP : Hid (∀ v f, v ≤ V → f < nf → spotE V v f ≤ 1 + nf * V) := fun v f hv hf => by
      have : (f + 1) * V ≤ nf * V := Nat.mul_le_mul_right _ (by omega)
      unfold spotE
      rw [Nat.add_mul] at this
      omega
    obtain ⟨p, hp⟩ : ∃ p, p = nf * V := ⟨_, rfl⟩
    rw [← hp] at HV HTO hmul HSP
    have WN : IntKind.i64.wrap (((1 + p : Nat) : Int) + 1) = ((1 + (1 + p) : Nat) : Int) := by rw [show (((1 + p : Nat) : Int) + 1) = ((1 + (1 + p) : Nat) : Int) by omega]; exact IntWalk.i64_in _ (by omega)
    obtain ⟨q1, hq1⟩ : ∃ q, q = 1 + p := ⟨_, rfl⟩
    obtain ⟨q, hq⟩ : ∃ q, q = 1 + (1 + p) := ⟨_, rfl⟩
    rw [← hq, ← hq1] at WN
    rw [← hq] at HTO
    rw [← hq1] at HV
    have HQP : Hid (q = 2 + p) := by show _ = _; omega
    clear hM hii hin hV hp hq1 hq HXI l1 HMT0
    have p0 := cell_of_block HX1.out 0
    have p1 := cell_of_block HX1.out 1
    have p2 := cell_of_block HX1.out 2
    have p3 := cell_of_block HX1.out 3
    have p4 := cell_of_block HX1.out 4
    have p5 := cell_of_block HX1.out 5
    go_wp2_with fail
    refine (HV.out W1 HB1.out).mono ?_
    rintro e W2 ⟨rfl, hb⟩
    have HX2 := Lib.hid (heap_below HX1.out hb)
    have HR2 := Lib.hid (heap_below HR1.out hb)
    have HB2 := Lib.hid (ext_trans HB1.out hb)
    clear hb HV HX1 HR1 HB1 p0 p1 p2 p3 p4 p5
    by_cases hb0 : bad < 0
    · have HNO : Hid (tk = false) := by show _ = _; rw [HTO.out, decide_eq_false (show ¬ 0 ≤ bad by omega)]; rfl
      have e1 : decide (bad < 0) = true := by simp; omega
      clear hb0 HTO HOF HVL HIN HII HMT HIL HSP HP1
      have y0 := cell_of_block HR2.out 0
      have y1 := cell_of_block HR2.out 1
      have y2 := cell_of_block HR2.out 2
      have x0 := unfrozen_of_block HR2.out 0
      have x1 := unfrozen_of_block HR2.out 1
      have x2 := unfrozen_of_block HR2.out 2
      go_wp2
      refine bodyPost_ret (v := .tuple #[.agg #[.int .i64 0, .slice none 0 0, .slice none 0 0], .int .i64 2]) ?_ rfl ?_
      · have h6 := tri_set_t HR2.out rfl (.int .i64 0) (.slice none 0 0) (.slice none 0 0)
        have g0 := cell_of_block h6 0
        have g1 := cell_of_block h6 1
        have g2 := cell_of_block h6 2
        simp [results, Try.results23, go_sem, g0, g1, g2]
        try rfl
      · exact ⟨set3_t (w.heap.size + 1) (Nat.le_succ _) HB2.out, Or.inr ⟨HNO.out, rfl⟩⟩
    · have e1 : decide (bad < 0) = false := by simp; omega
      have p4 := cell_of_block HX2.out 4
      by_cases hb1 : (n4 : Int) ≤ bad
      · have HNO : Hid (tk = false) := by show _ = _; rw [HTO.out, decide_eq_false (show ¬ bad < (n4 : Int) by omega)]; simp
        have e2 : decide ((n4 : Int) ≤ bad) = true := by simp; omega
        clear hb0 hb1 HTO HOF HVL HIN HII HMT HIL HSP HP1
        have y0 := cell_of_block HR2.out 0
        have y1 := cell_of_block HR2.out 1
        have y2 := cell_of_block HR2.out 2
        have x0 := unfrozen_of_block HR2.out 0
        have x1 := unfrozen_of_block HR2.out 1
        have x2 := unfrozen_of_block HR2.out 2
        go_wp2
        refine bodyPost_ret (v := .tuple #[.agg #[.int .i64 0, .slice none 0 0, .slice none 0 0], .int .i64 2]) ?_ rfl ?_
        · have h6 := tri_set_t HR2.out rfl (.int .i64 0) (.slice none 0 0) (.slice none 0 0)
          have g0 := cell_of_block h6 0
          have g1 := cell_of_block h6 1
          have g2 := cell_of_block h6 2
          simp [results, Try.results23, go_sem, g0, g1, g2]
          try rfl
        · exact ⟨set3_t (w.heap.size + 1) (Nat.le_succ _) HB2.out, Or.inr ⟨HNO.out, rfl⟩⟩
      · have e2 : decide ((n4 : Int) ≤ bad) = false := by simp; omega
        by_cases hb2 : mn < q
        · have HNO : Hid (tk = false) := by show _ = _; rw [HTO.out, decide_eq_false (show ¬ q ≤ mn by omega)]; simp
          have e3 : decide ((mn : Int) < (q : Int)) = true := by simp; omega
          have e4 : decide (mn < q) = true := by simp; omega
          clear hb0 hb1 hb2 HTO HOF HVL HIN HII HMT HIL HSP HP1
          have y0 := cell_of_block HR2.out 0
          have y1 := cell_of_block HR2.out 1
          have y2 := cell_of_block HR2.out 2
          have x0 := unfrozen_of_block HR2.out 0
          have x1 := unfrozen_of_block HR2.out 1
          have x2 := unfrozen_of_block HR2.out 2
          go_wp2
          refine bodyPost_ret (v := .tuple #[.agg #[.int .i64 0, .slice none 0 0, .slice none 0 0], .int .i64 2]) ?_ rfl ?_
          · have h6 := tri_set_t HR2.out rfl (.int .i64 0) (.slice none 0 0) (.slice none 0 0)
            have g0 := cell_of_block h6 0
            have g1 := cell_of_block h6 1
            have g2 := cell_of_block h6 2
            simp [results, Try.results23, go_sem, g0, g1, g2]
            try rfl
          · exact ⟨set3_t (w.heap.size + 1) (Nat.le_succ _) HB2.out, Or.inr ⟨HNO.out, rfl⟩⟩
        · have HYES : Hid (tk = true) := by show _ = _; rw [HTO.out, decide_eq_true (show 0 ≤ bad by omega), decide_eq_true (show bad < (n4 : Int) by omega), decide_eq_true (show q ≤ mn by omega)]; rfl
          have e3 : decide ((mn : Int) < (q : Int)) = false := by simp; omega
          have e4 : decide (mn < q) = false := by simp; omega
          have HPM : Hid (p + 2 ≤ mn) := by show _ ≤ _; have := HQP.out; omega
          clear hb0 hb1 hb2 HTO HQP
          go_upto_region 5 with fail
          clear e1 e2 e3 e4 p4 WN
          generalize hW : World.alloc W2 _ = W3
          obtain ⟨G, hG⟩ : ∃ G, G = W2.heap.size := ⟨_, rfl⟩
          have hT : TtI w G #[.int .i64 (ii : Int), .slice a1 n1 c1, .slice a2 n2 c2, .slice a3 n3 c3, .slice a4 n4 c4, .slice a5 n5 c5] bad (.slice none 0 0) (.slice none 0 0) W3 := by
            have hlt := heap_lt HR2.out
            subst hW
            subst hG
            exact ⟨heap_new W2 _ _ rfl, heap_below HX2.out (ext_alloc _ _), heap_below HR2.out (ext_alloc _ _), ext_trans HB2.out (ext_alloc _ _), hlt⟩
          have HT3 := Lib.hid hT
          rw [← hG]
          clear hW hT hG HX2 HR2 HB2
          go_wp2_with fail
          obtain ⟨IN, hIN⟩ : ∃ g, g = initN c bs := ⟨_, rfl⟩
          rw [← hIN] at HIN HIL HMT
          obtain ⟨FN, hFN⟩ : ∃ g, g = inN c bs := ⟨_, rfl⟩
          rw [← hFN] at HII HMT
          clear hIN hFN
          go_loopw [13] (fun ix wr => ∃ (k : Nat) (vi : Value), k ≤ n1 ∧ ix = .int .i64 k ∧ Hid (TtI w G #[.int .i64 (ii : Int), .slice a1 n1 c1, .slice a2 n2 c2, .slice a3 n3 c3, .slice a4 n4 c4, .slice a5 n5 c5] bad vi (.slice none 0 0) wr) ∧ Hid (Row isByte wr w.heap.size 5 vi (u8l IN k).length ((u8l IN k).map bv))) (fun ix _ => n1 - (intOf ix).toNat)
          case atStart => exact ⟨0, _, Nat.zero_le _, rfl, HT3.out, Row.nil _ _ _ _⟩
          case round =>
            obtain ⟨k, vi, hk, rfl, hT, hR⟩ := hrel
            have p1 := cell_of_block hT.out.cb 1
            by_cases hlt : k < n1
            · obtain ⟨b0, o0, rfl, hb0⟩ := HS1.out.addr (by omega)
              have hcx := (HS1.out.below hT.out.low).cells k hlt (0, 0)
              have hp2 := HP1.out k hlt
              have hin := HIN.out k
              have hil := HIL.out k hlt
              obtain ⟨pp, hp⟩ : ∃ p, p = c.lats.getD k (0, 0) := ⟨_, rfl⟩
              rw [← hp] at hcx hp2 hin
              obtain ⟨p1v, p2⟩ := pp
              obtain ⟨hcx1, hcx2⟩ := hcx
              simp only at hcx1 hcx2 hp2 hin
              unfold nv8 at hcx2
              obtain ⟨iv, hiv⟩ : ∃ v, v = IN k := ⟨_, rfl⟩
              rw [← hiv] at hin hil
              have HU : Hid (u8l IN (k + 1) = u8l IN k ++ [UInt8.ofNat iv]) := by show _ = _; rw [u8l_succ, hiv]
              obtain ⟨va, vc, hvi⟩ := hR.out.form
              subst hvi
              have hun : (u8l IN k).length = k := u8l_len _ _
              have HUN := Lib.hid hun
              obtain ⟨fv, hfv⟩ : ∃ n, n = 1 + ii + k := ⟨_, rfl⟩
              rw [← hfv] at hin
              have WA : IntKind.i64.wrap (1 + (ii : Int)) = 1 + (ii : Int) := IntWalk.i64_in _ (by omega)
              have WF : IntKind.i64.wrap (1 + (ii : Int) + (k : Int)) = (fv : Int) := by rw [show 1 + (ii : Int) + (k : Int) = (fv : Int) by omega]; exact IntWalk.i64_in _ (by omega)
              have WD : IntKind.i64.wrap (2 * (fv : Int)) = ((2 * fv : Nat) : Int) := by rw [show 2 * (fv : Int) = ((2 * fv : Nat) : Int) by omega]; exact IntWalk.i64_in _ (by omega)
              have WU : IntKind.u32.wrap ((2 * fv : Nat) : Int) = ((2 * fv : Nat) : Int) := by rw [IntKind.wrap_u32]; omega
              have WD2 : IntKind.i64.wrap (2 * (fv : Int)) = 2 * (fv : Int) := IntWalk.i64_in _ (by omega)
              have WU2 : IntKind.u32.wrap (2 * (fv : Int)) = 2 * (fv : Int) := by rw [IntKind.wrap_u32]; omega
              have W8 : IntKind.i64.wrap ((k : Int) + 1) = (k : Int) + 1 := IntWalk.i64_in _ (by omega)
              have I1 : ((k : Nat) : Int) < (n1 : Int) := by omega
              have I2 : (0 : Int) ≤ (k : Int) := by omega
              have HO1 := Lib.hid (fun W hb => HOF.out (2 * fv) 0 (by omega) (by omega) W hb)
              simp only [lit_even V fv 0 (by omega)] at HO1
              have hsp2 := HSP.out fv 0 (by omega) (by omega)
              obtain ⟨sp, hsp⟩ : ∃ n, n = spotE V fv 0 := ⟨_, rfl⟩
              simp only [← hsp] at HO1 hin hsp2
              have HVS := Lib.hid (fun W hb => HVL.out sp (by have := HPM.out; omega) W hb)
              have HV256 : Hid (iv < 256) := by show _ < _; omega
              have HT := Lib.hid hT.out
              have HR := Lib.hid hR.out
              have HHIN := Lib.hid hin
              have HP2 := Lib.hid hp2
              clear hcx1 hp2 hin hil hp hiv hun hfv hsp hsp2 hT hR hb0
              by_cases eq2 : p2 = 2
              · subst eq2
                have HMV : Hid (modV bs sp = iv) := by show _ = _; rw [HHIN.out, if_pos rfl]
                have pp0 := cell_of_block HT.out.cb 0
                have pp1 := cell_of_block HT.out.cb 1
                have pp2 := cell_of_block HT.out.cb 2
                have pp3 := cell_of_block HT.out.cb 3
                have pp4 := cell_of_block HT.out.cb 4
                have pp5 := cell_of_block HT.out.cb 5
                go_wp2_with fail
                refine (HO1.out wr HT.out.low).mono ?_
                rintro e W5 ⟨rfl, hb⟩
                have HT5 := Lib.hid (HT.out.below hb)
                have HR5 := Lib.hid (HR.out.below hb)
                clear hb hcx2 p1 pp0 pp1 pp2 pp3 pp4 pp5
                go_wp2_with fail
                refine (HVS.out W5 HT5.out.low).mono ?_
                rintro e W7 ⟨rfl, hb⟩
                rw [HMV.out]
                have HT7 := Lib.hid (HT5.out.below hb)
                have HR7 := Lib.hid (HR5.out.below hb)
                clear hb HT5 HR5 HT HR
                have HSEE : Hid (Sees (W7.alloc (.cells #[.int .u8 (iv : Int)] 5)) (some ⟨W7.heap.size, 0, none⟩) 1 1 ([UInt8.ofNat iv].map bv)) := by show Sees _ _ _ _ [bv (UInt8.ofNat iv)]; rw [bv_ofNat HV256.out]; exact sees_lit _ _ _ _ _ 1 rfl rfl
                have HRb := Lib.hid (HR7.out.below (ext_alloc W7 (.cells #[.int .u8 (iv : Int)] 5)))
                have HTb := Lib.hid (HT7.out.below (ext_alloc W7 (.cells #[.int .u8 (iv : Int)] 5)))
                have z1 := cell_of_block HT7.out.box 1
                go_wp2_with (at_builtin; refine wpList_append_row isByte _ rfl _ _ 27 rfl w.heap.size 5 i0 (.int .u8 0) 1 Try.underlying27 hi0 hz0 hz1 hz2 rfl isByte_zero _ _ _ rfl HRb.out (some ⟨W7.heap.size, 0, none⟩) 1 1 ([UInt8.ofNat iv].map bv) rfl HSEE.out (bv_one [UInt8.ofNat iv]) (isByte_all [UInt8.ofNat iv]) (by have := HUN.out; unfold maxLen; omega) (by have := HUN.out; omega) HTb.out.low.size ?_)
                intro v' w6 hr hg _
                obtain ⟨va2, vc2, hv'⟩ := hr.form
                subst hv'
                have HT6 := Lib.hid (HTb.out.grown HRb.out (by decide) (by decide) (Nat.le_refl _) hg)
                have HR6 := Lib.hid hr
                have d1 := cell_of_block HT6.out.box 1
                have d2 := unfrozen_of_block HT6.out.box 1
                clear hr hg z1
                go_wp2
                go_roundw
                case rel => exact ⟨k + 1, _, by omega, by go_num, HT6.out.set1 _, by have h9 := HT6.out.row HR6.out (by decide) 1 (.slice va2 ((u8l IN k).length + 1) vc2); show Row _ _ _ _ _ _ _; rw [HU.out, List.map_append, List.length_append]; exact h9⟩
                case measure => simp [intOf]; omega
              · have e1 : ((p2 : Int) == 2) = false := by simp; omega
                have e2 : (p2 == 2) = false := by simp; omega
                have hpi : iv = p2 := by rw [HHIN.out, if_neg eq2]
                clear HO1 HVS HHIN HP2
                subst hpi
                have HSEE : Hid (Sees (wr.alloc (.cells #[.int .u8 (iv : Int)] 5)) (some ⟨wr.heap.size, 0, none⟩) 1 1 ([UInt8.ofNat iv].map bv)) := by show Sees _ _ _ _ [bv (UInt8.ofNat iv)]; rw [bv_ofNat HV256.out]; exact sees_lit _ _ _ _ _ 1 rfl rfl
                have HRb := Lib.hid (HR.out.below (ext_alloc wr (.cells #[.int .u8 (iv : Int)] 5)))
                have HTb := Lib.hid (HT.out.below (ext_alloc wr (.cells #[.int .u8 (iv : Int)] 5)))
                have z1 := cell_of_block HT.out.box 1
                go_wp2_with (at_builtin; refine wpList_append_row isByte _ rfl _ _ 27 rfl w.heap.size 5 i0 (.int .u8 0) 1 Try.underlying27 hi0 hz0 hz1 hz2 rfl isByte_zero _ _ _ rfl HRb.out (some ⟨wr.heap.size, 0, none⟩) 1 1 ([UInt8.ofNat iv].map bv) rfl HSEE.out (bv_one [UInt8.ofNat iv]) (isByte_all [UInt8.ofNat iv]) (by have := HUN.out; unfold maxLen; omega) (by have := HUN.out; omega) HTb.out.low.size ?_)
                intro v' w6 hr hg _
                obtain ⟨va2, vc2, hv'⟩ := hr.form
                subst hv'
                have HT6 := Lib.hid (HTb.out.grown HRb.out (by decide) (by decide) (Nat.le_refl _) hg)
                have HR6 := Lib.hid hr
                have d1 := cell_of_block HT6.out.box 1
                have d2 := unfrozen_of_block HT6.out.box 1
                clear hr hg z1
                go_wp2
                go_roundw
                case rel => exact ⟨k + 1, _, by omega, by go_num, HT6.out.set1 _, by have h9 := HT6.out.row HR6.out (by decide) 1 (.slice va2 ((u8l IN k).length + 1) vc2); show Row _ _ _ _ _ _ _; rw [HU.out, List.map_append, List.length_append]; exact h9⟩
                case measure => simp [intOf]; omega
            · obtain rfl : n1 = k := by omega
              have HJ0 : Hid (TtJ w G #[.int .i64 (ii : Int), .slice a1 n1 c1, .slice a2 n2 c2, .slice a3 n3 c3, .slice a4 n4 c4, .slice a5 n5 c5] bad (u8l IN n1) ((List.range 0).map fun f => u8l (FN f) ii) vi (.slice none 0 0) [] wr) := ⟨hT.out, hR.out, Row.nil _ _ _ _, rfl, fun j hj => absurd hj (by simp)⟩
              clear hT hR HT3
              go_wp2_with fail
              clear p1
              go_loopw [15] (fun fx wr => ∃ (k : Nat) (vi vf : Value) (ss : List Slc), k ≤ nf ∧ fx = .int .i64 k ∧ Hid (TtJ w G #[.int .i64 (ii : Int), .slice a1 n1 c1, .slice a2 n2 c2, .slice a3 n3 c3, .slice a4 n4 c4, .slice a5 n5 c5] bad (u8l IN n1) ((List.range k).map fun f => u8l (FN f) ii) vi vf ss wr)) (fun fx _ => nf - (intOf fx).toNat)
              case atStart => exact ⟨0, _, _, _, Nat.zero_le _, rfl, HJ0.out⟩
              case round =>
                obtain ⟨k, vi, vf, ss, hk, rfl, hJ⟩ := hrel
                by_cases hlt : k < nf
                · have W8 : IntKind.i64.wrap ((k : Int) + 1) = (k : Int) + 1 := IntWalk.i64_in _ (by omega)
                  have HJ := Lib.hid hJ.out
                  have hss : ss.length = k := by rw [hJ.out.len]; simp
                  have HSS := Lib.hid hss
                  clear hJ hss HJ0
                  go_wp2_with fail
                  rename World => Wo
                  go_loopw [17, 16] (fun jx v wr => ∃ i : Nat, i ≤ ii ∧ jx = .int .i64 i ∧ Hid (Row isByte wr Wo.heap.size 5 v (u8l (FN k) i).length ((u8l (FN k) i).map bv)) ∧ Hid (Below Wo.heap.size Wo wr)) (fun jx _ _ => ii - (intOf jx).toNat)
                  case atStart => exact ⟨0, Nat.zero_le _, rfl, Row.nil _ _ _ _, Below.refl _ _⟩
                  case round =>
                    obtain ⟨i, hi, rfl, hR, hB⟩ := hrel
                    have hTI := (HJ.out.below hB.out).t
                    have pp0 := cell_of_block hTI.cb 0
                    have pp1 := cell_of_block hTI.cb 1
                    have pp2 := cell_of_block hTI.cb 2
                    have pp3 := cell_of_block hTI.cb 3
                    have pp4 := cell_of_block hTI.cb 4
                    have pp5 := cell_of_block hTI.cb 5
                    by_cases hlt2 : i < ii
                    · have hin := HII.out k i
                      obtain ⟨iv, hiv⟩ : ∃ v, v = FN k i := ⟨_, rfl⟩
                      rw [← hiv] at hin
                      have HU : Hid (u8l (FN k) (i + 1) = u8l (FN k) i ++ [UInt8.ofNat iv]) := by show _ = _; rw [u8l_succ, hiv]
                      obtain ⟨va, vc, hvi⟩ := hR.out.form
                      subst hvi
                      have hun : (u8l (FN k) i).length = i := u8l_len _ _
                      have HUN := Lib.hid hun
                      obtain ⟨fv, hfv⟩ : ∃ n, n = 1 + i := ⟨_, rfl⟩
                      rw [← hfv] at hin
                      have WF : IntKind.i64.wrap (1 + (i : Int)) = (fv : Int) := by rw [show 1 + (i : Int) = (fv : Int) by omega]; exact IntWalk.i64_in _ (by omega)
                      have WD : IntKind.i64.wrap (2 * (fv : Int)) = ((2 * fv : Nat) : Int) := by rw [show 2 * (fv : Int) = ((2 * fv : Nat) : Int) by omega]; exact IntWalk.i64_in _ (by omega)
                      have WU : IntKind.u32.wrap ((2 * fv : Nat) : Int) = ((2 * fv : Nat) : Int) := by rw [IntKind.wrap_u32]; omega
                      have WD2 : IntKind.i64.wrap (2 * (fv : Int)) = 2 * (fv : Int) := IntWalk.i64_in _ (by omega)
                      have WU2 : IntKind.u32.wrap (2 * (fv : Int)) = 2 * (fv : Int) := by rw [IntKind.wrap_u32]; omega
                      have W9 : IntKind.i64.wrap ((i : Int) + 1) = (i : Int) + 1 := IntWalk.i64_in _ (by omega)
                      have HO1 := Lib.hid (fun W hb => HOF.out (2 * fv) k (by omega) (by omega) W hb)
                      simp only [lit_even V fv k (by omega)] at HO1
                      have hsp2 := HSP.out fv k (by omega) hlt
                      obtain ⟨sp, hsp⟩ : ∃ n, n = spotE V fv k := ⟨_, rfl⟩
                      simp only [← hsp] at HO1 hin hsp2
                      have HVS := Lib.hid (fun W hb => HVL.out sp (by have := HPM.out; omega) W hb)
                      have hiv2 : iv ≤ 1 := by rw [hin]; exact modV_le _ _
                      have HV256 : Hid (iv < 256) := by show _ < _; omega
                      have HMV : Hid (modV bs sp = iv) := hin.symm
                      have HR := Lib.hid hR.out
                      have HB := Lib.hid hB.out
                      have HTl := Lib.hid hTI.low
                      clear hin hiv hiv2 hun hfv hsp hsp2 hR hB hTI
                      go_wp2_with fail
                      refine (HO1.out wr HTl.out).mono ?_
                      rintro e W5 ⟨rfl, hb⟩
                      have HB5 := Lib.hid hb
                      have HL5 := Lib.hid (ext_trans HTl.out hb)
                      clear hb pp0 pp1 pp2 pp3 pp4 pp5
                      go_wp2_with fail
                      refine (HVS.out W5 HL5.out).mono ?_
                      rintro e W7 ⟨rfl, hb⟩
                      rw [HMV.out]
                      have HB7 := Lib.hid (ext_trans HB5.out hb)
                      have HBo := Lib.hid (ext_trans HB.out HB7.out)
                      clear hb HB5 HL5
                      have HSEE : Hid (Sees (W7.alloc (.cells #[.int .u8 (iv : Int)] 5)) (some ⟨W7.heap.size, 0, none⟩) 1 1 ([UInt8.ofNat iv].map bv)) := by show Sees _ _ _ _ [bv (UInt8.ofNat iv)]; rw [bv_ofNat HV256.out]; exact sees_lit _ _ _ _ _ 1 rfl rfl
                      have HRb := Lib.hid (HR.out.below (ext_trans HB7.out (ext_alloc W7 (.cells #[.int .u8 (iv : Int)] 5))))
                      have HBb := Lib.hid (ext_trans HBo.out (ext_alloc W7 (.cells #[.int .u8 (iv : Int)] 5)))
                      go_wp2_with (at_builtin; refine wpList_append_row isByte _ rfl _ _ 27 rfl Wo.heap.size 5 i0 (.int .u8 0) 1 Try.underlying27 hi0 hz0 hz1 hz2 rfl isByte_zero _ _ _ rfl HRb.out (some ⟨W7.heap.size, 0, none⟩) 1 1 ([UInt8.ofNat iv].map bv) rfl HSEE.out (bv_one [UInt8.ofNat iv]) (isByte_all [UInt8.ofNat iv]) (by have := HUN.out; unfold maxLen; omega) (by have := HUN.out; omega) HBb.out.size ?_)
                      intro v' w6 hr hg _
                      have HR6 := Lib.hid hr
                      have HB6 := Lib.hid (HBb.out.grown hg HBb.out.size (fun j hj => (HRb.out.own.lt j hj).1))
                      clear hr hg
                      go_wp2
                      go_roundw
                      case rel => exact ⟨i + 1, by omega, by go_num, by show Row _ _ _ _ _ _ _; rw [HU.out, List.map_append, List.length_append]; exact HR6.out, HB6.out⟩
                      case measure => simp [intOf]; omega
                    · obtain rfl : i = ii := by omega
                      have HJ2 := Lib.hid (HJ.out.below hB.out)
                      have hrow := hR.out.base_le HJ.out.t.low.size
                      obtain ⟨va, vc, hvi⟩ := hR.out.form
                      subst hvi
                      obtain ⟨fa, fc, hvf⟩ := HJ2.out.row.form
                      subst hvf
                      have HLR := Lib.hid hrow
                      clear hrow hR hB hTI pp1 pp2 pp3 pp4 pp5
                      have z2 := cell_of_block HJ2.out.t.box 2
                      have HSEE : Hid (Sees (wr.alloc (.cells #[.slice va (u8l (FN k) i).length vc] 27)) (some ⟨wr.heap.size, 0, none⟩) 1 1 [slV (va, (u8l (FN k) i).length, vc)]) := sees_lit _ _ _ _ _ 1 rfl rfl
                      have HRb := Lib.hid (HJ2.out.row.below (ext_alloc wr (.cells #[.slice va (u8l (FN k) i).length vc] 27)))
                      have HBb := Lib.hid (ext_trans HJ2.out.t.low (ext_alloc wr (.cells #[.slice va (u8l (FN k) i).length vc] 27)))
                      have HLb := Lib.hid (HLR.out.below (ext_alloc wr (.cells #[.slice va (u8l (FN k) i).length vc] 27)))
                      go_wp2_with (at_builtin; refine wpList_append_row (fun _ => True) _ rfl _ _ 28 rfl w.heap.size 27 iS (.slice none 0 0) 24 Try.underlying28 hiS hzS0 hzS1 hzS2 rfl trivial _ _ _ rfl HRb.out (some ⟨wr.heap.size, 0, none⟩) 1 1 [slV (va, (u8l (FN k) i).length, vc)] rfl HSEE.out (by intro u hu; simp at hu; subst hu; rfl) (fun _ _ => trivial) (by have := HSS.out; unfold maxLen; omega) (by have := HSS.out; omega) HBb.out.size ?_)
                      intro v' w6 hr hg _
                      obtain ⟨va2, vc2, hv'⟩ := hr.form
                      subst hv'
                      have HM := Lib.hid (HJ2.out.more (ext_alloc wr (.cells #[.slice va (u8l (FN k) i).length vc] 27)) (s := (va, (u8l (FN k) i).length, vc)) (L := u8l (FN k) i) HLb.out hr hg)
                      have HT6 := Lib.hid ((HJ2.out.t.below (ext_alloc wr (.cells #[.slice va (u8l (FN k) i).length vc] 27))).grown HRb.out (by decide) (by decide) (Nat.le_refl _) hg)
                      have d1 := cell_of_block HT6.out.box 2
                      have d2 := unfrozen_of_block HT6.out.box 2
                      clear hr hg z2 pp0
                      go_wp2
                      go_roundw
                      case rel => exact ⟨k + 1, vi, _, _, by omega, by go_num, by have h9 := HM.out; show TtJ _ _ _ _ _ _ _ _ _ _; rw [List.range_succ, List.map_append]; exact h9⟩
                      case measure => simp [intOf]; omega
                · obtain rfl : nf = k := by omega
                  obtain ⟨va, vc, hvi⟩ := hJ.out.init.form
                  subst hvi
                  obtain ⟨fa, fc, hvf⟩ := hJ.out.row.form
                  subst hvf
                  have HJ := Lib.hid hJ.out
                  clear hJ HJ0
                  have hun : (u8l IN n1).length = n1 := u8l_len _ _
                  have HSE := Lib.hid HJ.out.sees
                  rw [hun] at HJ HSE
                  have hss : ss.length = nf := by rw [HJ.out.len]; simp
                  have HSS := Lib.hid hss
                  have HFW : Hid (∀ x ∈ ss, x.2.1 = ii) := by
                    intro x hx
                    obtain ⟨j, hj, he⟩ := List.getElem_of_mem hx
                    have h3 : ss.getD j slc0 = x := by simp [List.getD, List.getElem?_eq_getElem hj, he]
                    have hjk : j < ((List.range nf).map fun f => u8l (FN f) ii).length := by rw [← HJ.out.len]; exact hj
                    have h4 := HJ.out.rows j hjk
                    rw [h3] at h4
                    have h5 := row_len (show Row isByte wr w.heap.size 5 (.slice x.1 x.2.1 x.2.2) _ _ from h4)
                    have hjn : j < nf := by simpa using hjk
                    have h7 : (((List.range nf).map fun f => u8l (FN f) ii).getD j []).length = ii := by simp [List.getD, hjn, u8l_len]
                    omega
                  have g0 := cell_of_block HJ.out.t.box 0
                  have g1 := cell_of_block HJ.out.t.box 1
                  have g2 := cell_of_block HJ.out.t.box 2
                  have y0 := cell_of_block HJ.out.t.rb 0
                  have y1 := cell_of_block HJ.out.t.rb 1
                  have y2 := cell_of_block HJ.out.t.rb 2
                  have x0 := unfrozen_of_block HJ.out.t.rb 0
                  have x1 := unfrozen_of_block HJ.out.t.rb 1
                  have x2 := unfrozen_of_block HJ.out.t.rb 2
                  clear hss
                  go_wp2
                  refine bodyPost_ret (v := .tuple #[traceV bad ⟨va, n1, vc, fa, ss.length, fc, ss⟩, .int .i64 0]) ?_ rfl ?_
                  · have h6 := tri_set_t HJ.out.t.rb rfl (.int .i64 bad) (.slice va n1 vc) (.slice fa ss.length fc)
                    have k0 := cell_of_block h6 0
                    have k1 := cell_of_block h6 1
                    have k2 := cell_of_block h6 2
                    simp [results, Try.results23, go_sem, k0, k1, k2]
                    try rfl
                  · refine ⟨set3_t (w.heap.size + 1) (Nat.le_succ _) HJ.out.t.low, Or.inl ⟨HYES.out, ⟨va, n1, vc, fa, ss.length, fc, ss⟩, rfl, by rw [HMT.out]; exact HSE.out, ⟨hs1, by show ss.length ≤ _; rw [HSS.out]; omega, fun x hx => by rw [HFW.out x hx]; omega⟩⟩⟩
end Go.Proofs.Ytcoehbkjccfhlaa
namespace Go.Proofs.Ytcoehbkjccfhlaa
open Go Go.RowKit Go.Joins

theorem ints_same14 (L : List Int) (a a' : Option Addr) (n n' c c' : Nat) (w : World) (h : Sees w a n c (zvs L)) (h' : Sees w a' n' c' (zvs L)) (hn : L.length ≤ 100000000) :
    Calls Try.prog 21 #[.slice a n c, .slice a' n' c'] w fun e w' => e = .returned (.bool true) ∧ w' = w :=
  (ints14_any L L a a' n n' c c' w h h' (by rw [← h.zlen]; exact hn) (by rw [← h'.zlen]; exact hn)).mono fun _ _ ⟨h1, h2⟩ => ⟨by rw [h1]; simp, h2⟩
theorem trace_same14 (t : TraceC) (s s' : TSlots) (w : World) (h : SeesTr w s t) (h' : SeesTr w s' t) (hs : s.small) (hb : -9223372036854775808 ≤ t.bad ∧ t.bad < 9223372036854775808) :
    Calls Try.prog 24 #[traceV t.bad s, traceV t.bad s'] w fun e w' => e = .returned (.bool true) ∧ Below w.heap.size w w' :=
  (sametr_any t t s s' w h h' hs hb hb).mono fun _ _ ⟨h1, h2⟩ => ⟨by rw [h1]; simp, h2⟩
theorem zero_same14 (w : World) : Calls Try.prog 24 #[.agg #[.int .i64 0, .slice none 0 0, .slice none 0 0], .agg #[.int .i64 0, .slice none 0 0, .slice none 0 0]] w fun e w' => e = .returned (.bool true) ∧ Below w.heap.size w w' :=
  trace_same14 ⟨0, [], []⟩ ⟨none, 0, 0, none, 0, 0, []⟩ ⟨none, 0, 0, none, 0, 0, []⟩ w (ownTA_nil w 0).sees (ownTA_nil w 0).sees tslots_nil (by decide)
set_option maxRecDepth 100000 in
set_option maxHeartbeats 12800000 in
theorem tells_any14 (c : NormC) (t : TraceC) (bs : List Bool) (s : CSlots) (st : TSlots) (ma : Option Addr) (mn mc lit : Nat) (frame bad z : Int) (w : World) (h : SeesCir w s c) (ht : SeesTr w st t) (hmo : Sees w ma mn mc (bs.map Value.bool)) (hs : s.small) (hst : st.small) (hlo : -9223372036854775808 ≤ c.ins) (hhi : c.ins < 9223372036854775808) (hb1 : -9223372036854775808 ≤ t.bad ∧ t.bad < 9223372036854775808) (hb2 : -9223372036854775808 ≤ bad ∧ bad < 9223372036854775808) (hw : Wide c) (hlit : lit < 4294967296) :
    Calls Try.prog 3 #[cirV c.ins s, traceV t.bad st, .int .u32 (lit : Int), .int .i64 frame, .int .i64 bad, .int .i64 z, .slice ma mn mc] w fun e w' => e = .returned (.bool true) ∧ Below w.heap.size w w' := by
  have HGR := Lib.hid (fun W (hb : Below w.heap.size w W) => great14_any c s (min z 61) W (h.below hb))
  have HV1 := Lib.hid (fun W (hb : Below w.heap.size w W) => vars14_any c s z W (h.below hb) hs hlo hhi)
  have HV2 := Lib.hid (fun W (hb : Below w.heap.size w W) => refvars14_any c s z W (h.below hb) hs hlo hhi hw)
  have HL1 := Lib.hid (fun W (hb : Below w.heap.size w W) => lit14_any c s lit frame W (h.below hb) hs hlo hhi hlit)
  have HL2 := Lib.hid (fun W (hb : Below w.heap.size w W) => reflit14_any c s lit frame hlit W (h.below hb) hs hlo hhi hw)
  have HC1 := Lib.hid (fun W (hb : Below w.heap.size w W) => clauses14_any c s z W (h.below hb) hs hlo hhi)
  have HC2 := Lib.hid (fun W (hb : Below w.heap.size w W) => refCl_any c s z W (h.below hb) hs hlo hhi hw)
  have HR1 := Lib.hid (fun W (hb : Below w.heap.size w W) => relaxed14_any c s z W (h.below hb) hs hlo hhi)
  have HR2 := Lib.hid (fun W (hb : Below w.heap.size w W) => refRl_any c s z W (h.below hb) hs hlo hhi hw)
  have HF1 := Lib.hid (fun W (hb : Below w.heap.size w W) => fails14_any c s bad z W (h.below hb) hs hlo hhi)
  have HF2 := Lib.hid (fun W (hb : Below w.heap.size w W) => reffails14_any c s bad z W (h.below hb) hs hlo hhi hw)
  have HG1 := Lib.hid (fun W (hb : Below w.heap.size w W) => given14_any c t s st W (h.below hb) (ht.below hb) hs hst hlo hhi hb1)
  have HG2 := Lib.hid (fun W (hb : Below w.heap.size w W) => refgiven14_any c t s st W (h.below hb) (ht.below hb) hs hst hlo hhi hb1 hw)
  have HT1 := Lib.hid (fun W (hb : Below w.heap.size w W) => trace14_any c bs s ma mn mc bad z W (h.below hb) (hmo.below hb) hs hlo hhi)
  have HT2 := Lib.hid (fun W (hb : Below w.heap.size w W) => reftrace14_any c bs s ma mn mc bad z W (h.below hb) (hmo.below hb) hs hlo hhi hw)
  have QC := Lib.hid (clA_len c z)
  have QR := Lib.hid (rlA_len c z)
  have QF := Lib.hid (faA_len c bad z)
  have QG := Lib.hid (gvA_len c t)
  unfold ClE at HC1 HC2
  unfold RlE at HR1 HR2
  unfold FaE at HF1 HF2
  unfold GvE at HG1 HG2
  unfold TrE at HT1 HT2
  have HB2b := Lib.hid hb2
  clear h ht hmo hs hst hlo hhi hb1 hb2 hw hlit
  obtain ⟨RA, hRA⟩ : ∃ r, r = varsA c z := ⟨_, rfl⟩
  rw [← hRA] at HV1 HV2
  clear hRA
  obtain ⟨RB, hRB⟩ : ∃ r, r = litA c lit frame := ⟨_, rfl⟩
  rw [← hRB] at HL1 HL2
  clear hRB
  obtain ⟨RC, hRC⟩ : ∃ r, r = clA c z := ⟨_, rfl⟩
  rw [← hRC] at HC1 HC2 QC
  clear hRC
  obtain ⟨RD, hRD⟩ : ∃ r, r = rlA c z := ⟨_, rfl⟩
  rw [← hRD] at HR1 HR2 QR
  clear hRD
  obtain ⟨RE, hRE⟩ : ∃ r, r = faA c bad z := ⟨_, rfl⟩
  rw [← hRE] at HF1 HF2 QF
  clear hRE
  obtain ⟨RG, hRG⟩ : ∃ r, r = gvA c t := ⟨_, rfl⟩
  rw [← hRG] at HG1 HG2 QG
  clear hRG
  obtain ⟨A1, A2⟩ := RA
  obtain ⟨B1, B2⟩ := RB
  obtain ⟨C1, C2⟩ := RC
  obtain ⟨D1, D2, D3⟩ := RD
  obtain ⟨E1, E2⟩ := RE
  obtain ⟨G1, G2⟩ := RG
  simp only at HV1 HV2 HL1 HL2 HC1 HC2 HR1 HR2 HF1 HF2 HG1 HG2 QC QR QF QG
  obtain ⟨tk, htk⟩ : ∃ b, b = trOk c bad z bs := ⟨_, rfl⟩
  rw [← htk] at HT1 HT2
  have hmb : (modT c bs bad z.toNat).bad = bad := rfl
  obtain ⟨MT, hMT⟩ : ∃ m, m = modT c bs bad z.toNat := ⟨_, rfl⟩
  rw [← hMT] at HT1 HT2 hmb
  have HMB := Lib.hid hmb
  clear htk hMT hmb
  obtain ⟨g, hg⟩ : ∃ g, g = great14 c (min z 61) := ⟨_, rfl⟩
  rw [← hg] at HGR
  clear hg
  obtain ⟨x, hx⟩ : ∃ x, x = c.ins := ⟨_, rfl⟩
  obtain ⟨tb, htb⟩ : ∃ x, x = t.bad := ⟨_, rfl⟩
  rw [← hx, ← htb]
  rw [← hx] at HGR HV1 HV2 HL1 HL2 HC1 HC2 HR1 HR2 HF1 HF2 HG1 HG2 HT1 HT2
  rw [← htb] at HG1 HG2
  clear hx htb
  obtain ⟨a1, n1, c1, a2, n2, c2, a3, n3, c3, a4, n4, c4, a5, n5, c5⟩ := s
  obtain ⟨b1, m1, d1, b2, m2, d2, ss⟩ := st
  unfold cirV at *
  unfold traceV at HG1 HG2 ⊢
  simp only at HG1 HG2 ⊢
  go_enter Try.func3, Try.ntmps3
  go_upto_region 1 with fail
  generalize hW : World.alloc (World.alloc w _) _ = W1
  have hX : W1.heap[w.heap.size]? = some (.cells #[.int .i64 x, .slice a1 n1 c1, .slice a2 n2 c2, .slice a3 n3 c3, .slice a4 n4 c4, .slice a5 n5 c5] 26 (0, 0)) := by subst hW; exact heap_below (heap_new _ _ _ rfl) (ext_alloc _ _)
  have hY : W1.heap[w.heap.size + 1]? = some (.cells #[.int .i64 tb, .slice b1 m1 d1, .slice b2 m2 d2] 30 (0, 0)) := by subst hW; exact heap_new _ _ _ (by simp)
  have hb : Below w.heap.size w W1 := by subst hW; exact ext_trans (ext_alloc _ _) (ext_alloc _ _)
  have HX := Lib.hid hX
  have HY := Lib.hid hY
  have HB := Lib.hid hb
  clear hW hX hY hb
  obtain ⟨y, hy⟩ : ∃ y, y = min z 61 := ⟨_, rfl⟩
  have HMIN : Hid (∀ W, Below w.heap.size w W → Calls Try.prog 6 #[.agg #[.int .i64 x, .slice a1 n1 c1, .slice a2 n2 c2, .slice a3 n3 c3, .slice a4 n4 c4, .slice a5 n5 c5], .int .i64 (min z 61)] W fun e w' => e = .returned (.bool g) ∧ Below W.heap.size W w') := HGR
  clear HGR hy
  have p0 := cell_of_block HX.out 0
  have p1 := cell_of_block HX.out 1
  have p2 := cell_of_block HX.out 2
  have p3 := cell_of_block HX.out 3
  have p4 := cell_of_block HX.out 4
  have p5 := cell_of_block HX.out 5
  go_wp2_with fail
  refine (HMIN.out W1 HB.out).mono ?_
  rintro e W2 ⟨rfl, hb⟩
  replace HX := Lib.hid (heap_below HX.out hb)
  replace HY := Lib.hid (heap_below HY.out hb)
  replace HB := Lib.hid (ext_trans HB.out hb)
  clear hb HMIN p0 p1 p2 p3 p4 p5
  cases g with
  | true =>
    clear HV1 HV2 HL1 HL2 HC1 HC2 HR1 HR2 HF1 HF2 HG1 HG2 HT1 HT2
    go_wp2_with fail
    refine (lives14_any W2).mono ?_
    rintro e Wl ⟨rfl, hb⟩
    have HBl := Lib.hid (ext_trans HB.out hb)
    clear hb
    go_wp2
    go_ret
    exact ⟨rfl, HBl.out⟩
  | false =>
    have r2 := cell_of_block HY.out 2
    by_cases h60 : 60 < m2
    · have e1 : decide ((60 : Int) < (m2 : Int)) = true := by simp; omega
      have e2 : decide (60 < m2) = true := by simp; omega
      clear HV1 HV2 HL1 HL2 HC1 HC2 HR1 HR2 HF1 HF2 HG1 HG2 HT1 HT2
      go_wp2_with fail
      refine (lives14_any W2).mono ?_
      rintro e Wl ⟨rfl, hb⟩
      have HBl := Lib.hid (ext_trans HB.out hb)
      clear hb
      go_wp2
      go_ret
      exact ⟨rfl, HBl.out⟩
    · have e1 : decide ((60 : Int) < (m2 : Int)) = false := by simp; omega
      have e2 : decide (60 < m2) = false := by simp; omega
      by_cases hk : 100000 < mn
      · have e3 : decide ((100000 : Int) < (mn : Int)) = true := by simp; omega
        have e4 : decide (100000 < mn) = true := by simp; omega
        clear HV1 HV2 HL1 HL2 HC1 HC2 HR1 HR2 HF1 HF2 HG1 HG2 HT1 HT2
        go_wp2_with fail
        refine (lives14_any W2).mono ?_
        rintro e Wl ⟨rfl, hb⟩
        have HBl := Lib.hid (ext_trans HB.out hb)
        clear hb
        go_wp2
        go_ret
        exact ⟨rfl, HBl.out⟩
      · have e3 : decide ((100000 : Int) < (mn : Int)) = false := by simp; omega
        have e4 : decide (100000 < mn) = false := by simp; omega
        clear h60 hk
        have p0 := cell_of_block HX.out 0
        have p1 := cell_of_block HX.out 1
        have p2 := cell_of_block HX.out 2
        have p3 := cell_of_block HX.out 3
        have p4 := cell_of_block HX.out 4
        have p5 := cell_of_block HX.out 5
        go_wp2_with fail
        refine (HV1.out W2 HB.out).mono ?_
        rintro e W3 ⟨rfl, hb⟩
        replace HX := Lib.hid (heap_below HX.out hb)
        replace HY := Lib.hid (heap_below HY.out hb)
        replace HB := Lib.hid (ext_trans HB.out hb)
        clear hb HV1 p0 p1 p2 p3 p4 p5
        clear e1 e2 e3 e4 r2
        have p0 := cell_of_block HX.out 0
        have p1 := cell_of_block HX.out 1
        have p2 := cell_of_block HX.out 2
        have p3 := cell_of_block HX.out 3
        have p4 := cell_of_block HX.out 4
        have p5 := cell_of_block HX.out 5
        go_wp2_with fail
        refine (HV2.out W3 HB.out).mono ?_
        rintro e W4 ⟨rfl, hb⟩
        replace HX := Lib.hid (heap_below HX.out hb)
        replace HY := Lib.hid (heap_below HY.out hb)
        replace HB := Lib.hid (ext_trans HB.out hb)
        clear hb HV2 p0 p1 p2 p3 p4 p5
        have p0 := cell_of_block HX.out 0
        have p1 := cell_of_block HX.out 1
        have p2 := cell_of_block HX.out 2
        have p3 := cell_of_block HX.out 3
        have p4 := cell_of_block HX.out 4
        have p5 := cell_of_block HX.out 5
        go_wp2_with fail
        refine (HL1.out W4 HB.out).mono ?_
        rintro e W5 ⟨rfl, hb⟩
        replace HX := Lib.hid (heap_below HX.out hb)
        replace HY := Lib.hid (heap_below HY.out hb)
        replace HB := Lib.hid (ext_trans HB.out hb)
        clear hb HL1 p0 p1 p2 p3 p4 p5
        have p0 := cell_of_block HX.out 0
        have p1 := cell_of_block HX.out 1
        have p2 := cell_of_block HX.out 2
        have p3 := cell_of_block HX.out 3
        have p4 := cell_of_block HX.out 4
        have p5 := cell_of_block HX.out 5
        go_wp2_with fail
        refine (HL2.out W5 HB.out).mono ?_
        rintro e W6 ⟨rfl, hb⟩
        replace HX := Lib.hid (heap_below HX.out hb)
        replace HY := Lib.hid (heap_below HY.out hb)
        replace HB := Lib.hid (ext_trans HB.out hb)
        clear hb HL2 p0 p1 p2 p3 p4 p5
        have p0 := cell_of_block HX.out 0
        have p1 := cell_of_block HX.out 1
        have p2 := cell_of_block HX.out 2
        have p3 := cell_of_block HX.out 3
        have p4 := cell_of_block HX.out 4
        have p5 := cell_of_block HX.out 5
        go_wp2_with fail
        refine (HC1.out W6 HB.out).mono ?_
        rintro e W7 ⟨hb, ca, cn, ck, css, rfl, hsc⟩
        replace HX := Lib.hid (heap_below HX.out hb)
        replace HY := Lib.hid (heap_below HY.out hb)
        replace HB := Lib.hid (ext_trans HB.out hb)
        obtain rfl := hsc.zlen
        have SC1 := Lib.hid hsc
        clear hsc
        clear hb HC1 p0 p1 p2 p3 p4 p5
        have p0 := cell_of_block HX.out 0
        have p1 := cell_of_block HX.out 1
        have p2 := cell_of_block HX.out 2
        have p3 := cell_of_block HX.out 3
        have p4 := cell_of_block HX.out 4
        have p5 := cell_of_block HX.out 5
        go_wp2_with fail
        refine (HC2.out W7 HB.out).mono ?_
        rintro e W8 ⟨hb, ca2, cn2, ck2, css2, rfl, hsc⟩
        replace HX := Lib.hid (heap_below HX.out hb)
        replace HY := Lib.hid (heap_below HY.out hb)
        replace HB := Lib.hid (ext_trans HB.out hb)
        replace SC1 := Lib.hid (SC1.out.below hb)
        obtain rfl := hsc.zlen
        have SC2 := Lib.hid hsc
        clear hsc
        clear hb HC2 p0 p1 p2 p3 p4 p5
        have p0 := cell_of_block HX.out 0
        have p1 := cell_of_block HX.out 1
        have p2 := cell_of_block HX.out 2
        have p3 := cell_of_block HX.out 3
        have p4 := cell_of_block HX.out 4
        have p5 := cell_of_block HX.out 5
        go_wp2_with fail
        refine (HR1.out W8 HB.out).mono ?_
        rintro e W9 ⟨hb, da, dn, dk, dss, rfl, hsc⟩
        replace HX := Lib.hid (heap_below HX.out hb)
        replace HY := Lib.hid (heap_below HY.out hb)
        replace HB := Lib.hid (ext_trans HB.out hb)
        replace SC1 := Lib.hid (SC1.out.below hb)
        replace SC2 := Lib.hid (SC2.out.below hb)
        obtain rfl := hsc.zlen
        have SD1 := Lib.hid hsc
        clear hsc
        clear hb HR1 p0 p1 p2 p3 p4 p5
        have p0 := cell_of_block HX.out 0
        have p1 := cell_of_block HX.out 1
        have p2 := cell_of_block HX.out 2
        have p3 := cell_of_block HX.out 3
        have p4 := cell_of_block HX.out 4
        have p5 := cell_of_block HX.out 5
        go_wp2_with fail
        refine (HR2.out W9 HB.out).mono ?_
        rintro e W10 ⟨hb, da2, dn2, dk2, dss2, rfl, hsc⟩
        replace HX := Lib.hid (heap_below HX.out hb)
        replace HY := Lib.hid (heap_below HY.out hb)
        replace HB := Lib.hid (ext_trans HB.out hb)
        replace SC1 := Lib.hid (SC1.out.below hb)
        replace SC2 := Lib.hid (SC2.out.below hb)
        replace SD1 := Lib.hid (SD1.out.below hb)
        obtain rfl := hsc.zlen
        have SD2 := Lib.hid hsc
        clear hsc
        clear hb HR2 p0 p1 p2 p3 p4 p5
        go_wp2_with fail
        refine (lists14_any _ _ _ _ _ _ _ _ W10 SC1.out SC2.out QC.out.1 QC.out.2).mono ?_
        rintro e W11 ⟨rfl, hb⟩
        replace HX := Lib.hid (heap_below HX.out hb)
        replace HY := Lib.hid (heap_below HY.out hb)
        replace HB := Lib.hid (ext_trans HB.out hb)
        replace SD1 := Lib.hid (SD1.out.below hb)
        replace SD2 := Lib.hid (SD2.out.below hb)
        clear hb
        clear SC1 SC2 QC
        go_wp2_with fail
        refine (lists14_any _ _ _ _ _ _ _ _ W11 SD1.out SD2.out QR.out.1 QR.out.2).mono ?_
        rintro e W12 ⟨rfl, hb⟩
        replace HX := Lib.hid (heap_below HX.out hb)
        replace HY := Lib.hid (heap_below HY.out hb)
        replace HB := Lib.hid (ext_trans HB.out hb)
        clear hb
        clear SD1 SD2 QR
        have p0 := cell_of_block HX.out 0
        have p1 := cell_of_block HX.out 1
        have p2 := cell_of_block HX.out 2
        have p3 := cell_of_block HX.out 3
        have p4 := cell_of_block HX.out 4
        have p5 := cell_of_block HX.out 5
        go_wp2_with fail
        refine (HF1.out W12 HB.out).mono ?_
        rintro e W13 ⟨hb, fa, fn, fk, rfl, hsc⟩
        replace HX := Lib.hid (heap_below HX.out hb)
        replace HY := Lib.hid (heap_below HY.out hb)
        replace HB := Lib.hid (ext_trans HB.out hb)
        have SF1 := Lib.hid hsc
        clear hsc
        clear hb HF1 p0 p1 p2 p3 p4 p5
        have p0 := cell_of_block HX.out 0
        have p1 := cell_of_block HX.out 1
        have p2 := cell_of_block HX.out 2
        have p3 := cell_of_block HX.out 3
        have p4 := cell_of_block HX.out 4
        have p5 := cell_of_block HX.out 5
        go_wp2_with fail
        refine (HF2.out W13 HB.out).mono ?_
        rintro e W14 ⟨hb, fa2, fn2, fk2, rfl, hsc⟩
        replace HX := Lib.hid (heap_below HX.out hb)
        replace HY := Lib.hid (heap_below HY.out hb)
        replace HB := Lib.hid (ext_trans HB.out hb)
        replace SF1 := Lib.hid (SF1.out.below hb)
        have SF2 := Lib.hid hsc
        clear hsc
        clear hb HF2 p0 p1 p2 p3 p4 p5
        have p0 := cell_of_block HX.out 0
        have p1 := cell_of_block HX.out 1
        have p2 := cell_of_block HX.out 2
        have p3 := cell_of_block HX.out 3
        have p4 := cell_of_block HX.out 4
        have p5 := cell_of_block HX.out 5
        have r0 := cell_of_block HY.out 0
        have r1 := cell_of_block HY.out 1
        have r2 := cell_of_block HY.out 2
        go_wp2_with fail
        refine (HG1.out W14 HB.out).mono ?_
        rintro e W15 ⟨hb, ga, gn, gk, rfl, hsc⟩
        replace HX := Lib.hid (heap_below HX.out hb)
        replace HY := Lib.hid (heap_below HY.out hb)
        replace HB := Lib.hid (ext_trans HB.out hb)
        replace SF1 := Lib.hid (SF1.out.below hb)
        replace SF2 := Lib.hid (SF2.out.below hb)
        have SG1 := Lib.hid hsc
        clear hsc
        clear hb HG1 p0 p1 p2 p3 p4 p5 r0 r1 r2
        have p0 := cell_of_block HX.out 0
        have p1 := cell_of_block HX.out 1
        have p2 := cell_of_block HX.out 2
        have p3 := cell_of_block HX.out 3
        have p4 := cell_of_block HX.out 4
        have p5 := cell_of_block HX.out 5
        have r0 := cell_of_block HY.out 0
        have r1 := cell_of_block HY.out 1
        have r2 := cell_of_block HY.out 2
        go_wp2_with fail
        refine (HG2.out W15 HB.out).mono ?_
        rintro e W16 ⟨hb, ga2, gn2, gk2, rfl, hsc⟩
        replace HX := Lib.hid (heap_below HX.out hb)
        replace HY := Lib.hid (heap_below HY.out hb)
        replace HB := Lib.hid (ext_trans HB.out hb)
        replace SF1 := Lib.hid (SF1.out.below hb)
        replace SF2 := Lib.hid (SF2.out.below hb)
        replace SG1 := Lib.hid (SG1.out.below hb)
        have SG2 := Lib.hid hsc
        clear hsc
        clear hb HG2 p0 p1 p2 p3 p4 p5 r0 r1 r2
        go_wp2_with fail
        refine (ints_same14 _ _ _ _ _ _ _ W16 SF1.out SF2.out QF.out).mono ?_
        rintro e Wz ⟨rfl, hz⟩
        replace hz := hz.symm
        subst hz
        clear SF1 SF2 QF
        go_wp2_with fail
        refine (ints_same14 _ _ _ _ _ _ _ W16 SG1.out SG2.out QG.out).mono ?_
        rintro e Wz ⟨rfl, hz⟩
        replace hz := hz.symm
        subst hz
        clear SG1 SG2 QG
        have p0 := cell_of_block HX.out 0
        have p1 := cell_of_block HX.out 1
        have p2 := cell_of_block HX.out 2
        have p3 := cell_of_block HX.out 3
        have p4 := cell_of_block HX.out 4
        have p5 := cell_of_block HX.out 5
        go_wp2_with fail
        refine (HT1.out W16 HB.out).mono ?_
        rintro e W17 ⟨hb, hcase⟩
        replace HX := Lib.hid (heap_below HX.out hb)
        replace HY := Lib.hid (heap_below HY.out hb)
        replace HB := Lib.hid (ext_trans HB.out hb)
        clear hb HT1 p0 p1 p2 p3 p4 p5
        rcases hcase with ⟨hk, sa, rfl, hs1, hm1⟩ | ⟨hk, rfl⟩
        · have T1 := Lib.hid hs1
          have M1 := Lib.hid hm1
          clear hs1 hm1
          unfold traceV
          go_upto_region 22 with fail
          generalize hW : World.alloc W17 _ = V1
          obtain ⟨K1, hK1⟩ : ∃ k, k = W17.heap.size := ⟨_, rfl⟩
          have hu : V1.heap[K1]? = some (.cells #[.int .i64 bad, .slice sa.a1 sa.n1 sa.c1, .slice sa.a2 sa.n2 sa.c2] 30 (0, 0)) := by subst hW; rw [hK1]; exact heap_new _ _ _ rfl
          have hb : Below W17.heap.size W17 V1 := by subst hW; exact ext_alloc _ _
          have HU1 := Lib.hid hu
          replace HX := Lib.hid (heap_below HX.out hb)
          replace HY := Lib.hid (heap_below HY.out hb)
          replace HB := Lib.hid (ext_trans HB.out hb)
          replace T1 := Lib.hid (T1.out.below hb)
          rw [← hK1]
          clear hb hW hu hK1
          have p0 := cell_of_block HX.out 0
          have p1 := cell_of_block HX.out 1
          have p2 := cell_of_block HX.out 2
          have p3 := cell_of_block HX.out 3
          have p4 := cell_of_block HX.out 4
          have p5 := cell_of_block HX.out 5
          go_wp2_with fail
          refine (HT2.out V1 HB.out).mono ?_
          rintro e V2 ⟨hb, hcase⟩
          replace HX := Lib.hid (heap_below HX.out hb)
          replace HY := Lib.hid (heap_below HY.out hb)
          replace HB := Lib.hid (ext_trans HB.out hb)
          replace T1 := Lib.hid (T1.out.below hb)
          replace HU1 := Lib.hid (heap_below HU1.out hb)
          clear hb HT2 p0 p1 p2 p3 p4 p5
          obtain ⟨sb, rfl, hs2⟩ : ∃ st : TSlots, e = .returned (.tuple #[traceV bad st, .int .i64 0]) ∧ SeesTr V2 st MT := by
            rcases hcase with ⟨_, s2, h1, h2, _⟩ | ⟨h1, _⟩
            · exact ⟨s2, h1, h2⟩
            · rw [hk] at h1; cases h1
          have T2 := Lib.hid hs2
          clear hcase hs2 hk
          unfold traceV
          go_upto_region 23 with fail
          generalize hW : World.alloc V2 _ = V3
          obtain ⟨K2, hK2⟩ : ∃ k, k = V2.heap.size := ⟨_, rfl⟩
          have hu : V3.heap[K2]? = some (.cells #[.int .i64 bad, .slice sb.a1 sb.n1 sb.c1, .slice sb.a2 sb.n2 sb.c2] 30 (0, 0)) := by subst hW; rw [hK2]; exact heap_new _ _ _ rfl
          have hb : Below V2.heap.size V2 V3 := by subst hW; exact ext_alloc _ _
          have HU2 := Lib.hid hu
          replace HX := Lib.hid (heap_below HX.out hb)
          replace HY := Lib.hid (heap_below HY.out hb)
          replace HB := Lib.hid (ext_trans HB.out hb)
          replace T1 := Lib.hid (T1.out.below hb)
          replace T2 := Lib.hid (T2.out.below hb)
          replace HU1 := Lib.hid (heap_below HU1.out hb)
          rw [← hK2]
          clear hb hW hu hK2
          have u0 := cell_of_block HU1.out 0
          have u1 := cell_of_block HU1.out 1
          have u2 := cell_of_block HU1.out 2
          have q0 := cell_of_block HU2.out 0
          have q1 := cell_of_block HU2.out 1
          have q2 := cell_of_block HU2.out 2
          go_wp2_with fail
          have HSM := Lib.hid (trace_same14 MT sa sb V3 T1.out T2.out M1.out (by rw [HMB.out]; exact HB2b.out))
          rw [HMB.out] at HSM
          unfold traceV at HSM
          refine HSM.out.mono ?_
          rintro e V4 ⟨rfl, hb⟩
          replace HX := Lib.hid (heap_below HX.out hb)
          replace HY := Lib.hid (heap_below HY.out hb)
          replace HB := Lib.hid (ext_trans HB.out hb)
          clear hb u0 u1 u2 q0 q1 q2
          go_wp2_with fail
          refine (lives14_any V4).mono ?_
          rintro e Wl ⟨rfl, hb⟩
          have HBl := Lib.hid (ext_trans HB.out hb)
          clear hb
          go_wp2
          go_ret
          exact ⟨rfl, HBl.out⟩
        · go_upto_region 22 with fail
          generalize hW : World.alloc W17 _ = V1
          obtain ⟨K1, hK1⟩ : ∃ k, k = W17.heap.size := ⟨_, rfl⟩
          have hu : V1.heap[K1]? = some (.cells #[.int .i64 0, .slice none 0 0, .slice none 0 0] 30 (0, 0)) := by subst hW; rw [hK1]; exact heap_new _ _ _ rfl
          have hb : Below W17.heap.size W17 V1 := by subst hW; exact ext_alloc _ _
          have HU1 := Lib.hid hu
          replace HX := Lib.hid (heap_below HX.out hb)
          replace HY := Lib.hid (heap_below HY.out hb)
          replace HB := Lib.hid (ext_trans HB.out hb)
          rw [← hK1]
          clear hb hW hu hK1
          have p0 := cell_of_block HX.out 0
          have p1 := cell_of_block HX.out 1
          have p2 := cell_of_block HX.out 2
          have p3 := cell_of_block HX.out 3
          have p4 := cell_of_block HX.out 4
          have p5 := cell_of_block HX.out 5
          go_wp2_with fail
          refine (HT2.out V1 HB.out).mono ?_
          rintro e V2 ⟨hb, hcase⟩
          replace HX := Lib.hid (heap_below HX.out hb)
          replace HY := Lib.hid (heap_below HY.out hb)
          replace HB := Lib.hid (ext_trans HB.out hb)
          replace HU1 := Lib.hid (heap_below HU1.out hb)
          clear hb HT2 p0 p1 p2 p3 p4 p5
          obtain rfl : e = .returned (.tuple #[.agg #[.int .i64 0, .slice none 0 0, .slice none 0 0], .int .i64 2]) := by
            rcases hcase with ⟨h1, _⟩ | ⟨_, h1⟩
            · rw [hk] at h1; cases h1
            · exact h1
          clear hcase hk
          go_upto_region 23 with fail
          generalize hW : World.alloc V2 _ = V3
          obtain ⟨K2, hK2⟩ : ∃ k, k = V2.heap.size := ⟨_, rfl⟩
          have hu : V3.heap[K2]? = some (.cells #[.int .i64 0, .slice none 0 0, .slice none 0 0] 30 (0, 0)) := by subst hW; rw [hK2]; exact heap_new _ _ _ rfl
          have hb : Below V2.heap.size V2 V3 := by subst hW; exact ext_alloc _ _
          have HU2 := Lib.hid hu
          replace HX := Lib.hid (heap_below HX.out hb)
          replace HY := Lib.hid (heap_below HY.out hb)
          replace HB := Lib.hid (ext_trans HB.out hb)
          replace HU1 := Lib.hid (heap_below HU1.out hb)
          rw [← hK2]
          clear hb hW hu hK2
          have u0 := cell_of_block HU1.out 0
          have u1 := cell_of_block HU1.out 1
          have u2 := cell_of_block HU1.out 2
          have q0 := cell_of_block HU2.out 0
          have q1 := cell_of_block HU2.out 1
          have q2 := cell_of_block HU2.out 2
          go_wp2_with fail
          refine (zero_same14 V3).mono ?_
          rintro e V4 ⟨rfl, hb⟩
          replace HX := Lib.hid (heap_below HX.out hb)
          replace HY := Lib.hid (heap_below HY.out hb)
          replace HB := Lib.hid (ext_trans HB.out hb)
          clear hb u0 u1 u2 q0 q1 q2
          go_wp2_with fail
          refine (lives14_any V4).mono ?_
          rintro e Wl ⟨rfl, hb⟩
          have HBl := Lib.hid (ext_trans HB.out hb)
          clear hb
          go_wp2
          go_ret
          exact ⟨rfl, HBl.out⟩
end Go.Proofs.Ytcoehbkjccfhlaa
