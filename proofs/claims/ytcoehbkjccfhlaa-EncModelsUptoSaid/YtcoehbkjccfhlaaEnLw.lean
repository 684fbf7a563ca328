/- The law EncModels. -/
import Derived.Test.YtcoehbkjccfhlaaGEncM00
import Derived.Test.YtcoehbkjccfhlaaGEncM01
import Derived.Test.YtcoehbkjccfhlaaGEncM03
import Derived.Test.YtcoehbkjccfhlaaGEncM09
import Derived.Test.YtcoehbkjccfhlaaGEncM02
import Derived.Test.YtcoehbkjccfhlaaGEncM04
import Derived.Test.YtcoehbkjccfhlaaGEncM10
import Derived.Test.YtcoehbkjccfhlaaGEncM05
import Derived.Test.YtcoehbkjccfhlaaNRefFits
import Derived.Test.YtcoehbkjccfhlaaSRRun
import Derived.Test.YtcoehbkjccfhlaaGEncM11
import Derived.Test.YtcoehbkjccfhlaaGEncM14
import Derived.Test.YtcoehbkjccfhlaaGEncM15
import Derived.Test.YtcoehbkjccfhlaaGEncM12
import Derived.Test.YtcoehbkjccfhlaaGEncM17
import Derived.Test.YtcoehbkjccfhlaaEnFa
import Derived.Test.YtcoehbkjccfhlaaEnGv
import Derived.Test.YtcoehbkjccfhlaaEnHo
import Derived.Test.YtcoehbkjccfhlaaEnInts
import Derived.Test.YtcoehbkjccfhlaaEnLives
import Derived.Test.YtcoehbkjccfhlaaGEncM20
import Derived.Test.YtcoehbkjccfhlaaGEncM21
import Derived.Test.YtcoehbkjccfhlaaEnSw
import Derived.Test.YtcoehbkjccfhlaaGEncM22
import Derived.Test.YtcoehbkjccfhlaaEnTr
import Derived.Test.YtcoehbkjccfhlaaRows
import Derived.BigQuiet
import Derived.BigRegion
import Derived.Deep.AppendLies
import Derived.Deep.CutRange
import Derived.Deep.QuietTactic
import Derived.Deep.RegionHeld3
import Derived.Deep.RegionLaw
import Derived.Deep.RegionWith
import Derived.KernelRfl
import Derived.Laws.Bits64b
import Derived.Laws.BitsAllLaws
import Derived.Laws.BitsLemmas
import Derived.Laws.EntriesVeiled
import Derived.Laws.Tables
import Derived.Lib.AppendStr
import Derived.Lib.AppendZeros
import Derived.Lib.ConvBytes
import Derived.Lib.Hide
import Derived.Lib.SlBytesRow
import Derived.Lib.SmallJoins
import Derived.LoopIn
import Derived.LoopNIn
import Derived.Maps.AppendAt
import Derived.OrdersHeld
import Derived.OrdersIn
import Derived.OwnWalkIn
import Derived.RangeFuncBox
import Derived.RangeFuncCalls
import Derived.RangeFuncLeaves
import Derived.RangeFuncNested
import Derived.RangeFuncWrites
import Derived.Shelf.Abstract
import Derived.Shelf.Bytes.SlSmallAll
import Derived.Shelf.RegionOpen
import Derived.Sort.CutIn
import Derived.Stop.RegionWithIn
import Derived.TacticsInMore
import Derived.WalkKit
import Derived.WalkLawsBesides
import Derived.WalkSpells
namespace Go.Proofs.Ytcoehbkjccfhlaa
open Go Go.RowKit Go.Joins

theorem eq1_14 (y : Nat) : decide (y = 1) = (((y : Nat) : Int) == 1) := by
  rw [Bool.eq_iff_iff, decide_eq_true_eq, beq_iff_eq]
  omega
theorem info8_14 : (Try.prog.info? 5).map (fun i => (i.zero, i.size, i.bytes)) = some (some (.int .u8 0), 1, 1) := by kernel_rfl
theorem size8_14 : ∀ w, (sizeOf 5).run Try.prog w = .ok 1 w := fun w => by
  obtain ⟨i0, hi, hz0, hz1, hz2⟩ := info_parts info8_14
  simp [sizeOf, typeInfo, hi, hz1]
set_option maxRecDepth 100000 in
set_option maxHeartbeats 12800000 in
theorem models_any (c : NormC) (t : TraceC) (s : CSlots) (st : TSlots) (at_ : Nat) (w : World) (h : SeesCir w s c) (ht : SeesTr w st t) (hs : s.small) (hst : st.small) (hlo : -9223372036854775808 ≤ c.ins) (hhi : c.ins < 9223372036854775808) (hb1 : -9223372036854775808 ≤ t.bad ∧ t.bad < 9223372036854775808) (hw : Wide c) :
    Calls Try.prog 4 #[cirV c.ins s, traceV t.bad st, .int .u32 at_] w fun e w' => e = .returned (.bool true) ∧ Below w.heap.size w w' := by
  obtain ⟨i0, hi0, hz0, hz1, hz2⟩ := info_parts info_bool
  have HGR := Lib.hid (fun W (hb : Below w.heap.size w W) => great14_any c s 1 W (h.below hb))
  have HFT := Lib.hid (fun W (hb : Below w.heap.size w W) => reffits_any c t s st W (h.below hb) (ht.below hb) hs hst hlo hhi hb1 hw)
  have HRD := Lib.hid (fun W (hb : Below w.heap.size w W) => refread2_any t st W (ht.below hb) hst)
  have HRN := Lib.hid (fun (st' : TSlots) W (hb : Below w.heap.size w W) (ht' : SeesTr W st' (readT t)) (hs' : st'.small) => rrun_any c (readT t) s st' W (h.below hb) ht' hs hs' hlo hhi hb1 hw)
  have HCL := Lib.hid (fun (z : Int) W (hb : Below w.heap.size w W) => clauses14_any c s z W (h.below hb) hs hlo hhi)
  have HGV := Lib.hid (fun (st' : TSlots) W (hb : Below w.heap.size w W) (ht' : SeesTr W st' (readT t)) (hs' : st'.small) => given14_any c (readT t) s st' W (h.below hb) ht' hs hs' hlo hhi hb1)
  have HFA := Lib.hid (fun (z : Int) W (hb : Below w.heap.size w W) => fails14_any c s t.bad z W (h.below hb) hs hlo hhi)
  have HTR := Lib.hid (fun (z : Int) (bs : List Bool) (ma : Option Addr) (mn mc : Nat) W (hb : Below w.heap.size w W) (hm : Sees W ma mn mc (bs.map Value.bool)) => trace14_any c bs s ma mn mc t.bad z W (h.below hb) hm hs hlo hhi)
  have HSM := Lib.hid (fun (st1 st2 : TSlots) W (h1 : SeesTr W st1 (readT t)) (h2 : SeesTr W st2 (readT t)) (hs1 : st1.small) => sametr_any (readT t) (readT t) st1 st2 W h1 h2 hs1 hb1 hb1)
  have HRF := Lib.hid (fun (st' : TSlots) W (hb : Below w.heap.size w W) (ht' : SeesTr W st' (readT t)) (hs' : st'.small) => rfails_any c (readT t) s st' W (h.below hb) ht' hs hs' hlo hhi hb1 hw)
  have HFC : Hid (fitsS c t = true → FitsC c t) := fits_iff.1
  have l1 : c.lats.length = s.n1 := h.s1.1
  have l2 : c.gates.length = s.n2 := h.s2.1
  have lf : t.frames.length = st.n2 := ht.s2.n_eq
  have HL := Lib.hid (And.intro l1 (And.intro l2 lf))
  have HNO := Lib.hid (fun (hg : great14 c 1 = false) => great_no hg)
  have HMD := Lib.hid (fun (hf : FitsC c t) (hg : great14 c 1 = false) (hn : t.frames.length ≤ 20) => mdF hf.read (readT_noX hf) (readT_idem t) hg (by show (t.frames.map zeroL).length ≤ 20; rw [List.length_map]; exact hn))
  have HLO := Lib.hid (And.intro hlo hb1)
  obtain ⟨x, hx⟩ : ∃ x, x = c.ins := ⟨_, rfl⟩
  obtain ⟨bd, hbd⟩ : ∃ b, b = t.bad := ⟨_, rfl⟩
  have e1 : (readT t).bad = bd := hbd.symm
  have HTB := Lib.hid e1
  rw [e1] at HRN HGV HSM HRF
  rw [← hbd] at HFT HRD HFA HTR HLO ⊢
  rw [← hx] at HGR HFT HRN HCL HGV HFA HTR HRF HNO HLO ⊢
  have HX := Lib.hid hx
  obtain ⟨g, hg⟩ : ∃ g, g = great14 c 1 := ⟨_, rfl⟩
  obtain ⟨f, hf⟩ : ∃ f, f = fitsS c t := ⟨_, rfl⟩
  rw [← hg] at HGR HNO HMD
  rw [← hf] at HFT HFC
  clear h ht hs hst hlo hhi hb1 hw l1 l2 lf hx hbd e1 hg hf
  obtain ⟨a1, n1, c1, a2, n2, c2, a3, n3, c3, a4, n4, c4, a5, n5, c5⟩ := s
  obtain ⟨ta1, m1, tc1, ta2, m2, tc2, tss⟩ := st
  unfold cirV traceV at *
  simp only at *
  go_enter Try.func4, Try.ntmps4
  go_upto_region 1 with fail
  generalize hW : World.alloc (World.alloc w _) _ = W1
  have hb : Below w.heap.size w W1 := by subst hW; exact ext_trans (ext_alloc _ _) (ext_alloc _ _)
  have hX : W1.heap[w.heap.size]? = some (.cells #[.int .i64 x, .slice a1 n1 c1, .slice a2 n2 c2, .slice a3 n3 c3, .slice a4 n4 c4, .slice a5 n5 c5] 26 (0, 0)) := by subst hW; exact heap_below (heap_new _ _ _ rfl) (ext_alloc _ _)
  have hY : W1.heap[w.heap.size + 1]? = some (.cells #[.int .i64 bd, .slice ta1 m1 tc1, .slice ta2 m2 tc2] 30 (0, 0)) := by subst hW; exact heap_new _ _ _ (by simp)
  have HB := Lib.hid hb
  have HX1 := Lib.hid hX
  have HY1 := Lib.hid hY
  clear hW hb hX hY
  have p0 := cell_of_block HX1.out 0
  have p1 := cell_of_block HX1.out 1
  have p2 := cell_of_block HX1.out 2
  have p3 := cell_of_block HX1.out 3
  have p4 := cell_of_block HX1.out 4
  have p5 := cell_of_block HX1.out 5
  go_wp2_with fail
  refine (HGR.out W1 HB.out).mono ?_
  rintro e W2 ⟨rfl, hb⟩
  have HX2 := Lib.hid (heap_below HX1.out hb)
  have HY2 := Lib.hid (heap_below HY1.out hb)
  have HB2 := Lib.hid (ext_trans HB.out hb)
  clear hb p0 p1 p2 p3 p4 p5 HX1 HY1 HB HGR
  cases g with
  | true =>
    clear HFT HRD HRN HCL HGV HFA HTR HSM HRF
    go_wp2_with fail
    refine (lives14_any W2).mono ?_
    rintro e W3 ⟨rfl, hb⟩
    have HB3 := Lib.hid (ext_trans HB2.out hb)
    clear hb
    go_wp2
    go_ret
    exact ⟨rfl, HB3.out⟩
  | false =>
  obtain ⟨g1, g2, g3, _, _⟩ := HNO.out rfl
  have p0 := cell_of_block HX2.out 0
  have p1 := cell_of_block HX2.out 1
  have p2 := cell_of_block HX2.out 2
  have p3 := cell_of_block HX2.out 3
  have p4 := cell_of_block HX2.out 4
  have p5 := cell_of_block HX2.out 5
  have r0 := cell_of_block HY2.out 0
  have r1 := cell_of_block HY2.out 1
  have r2 := cell_of_block HY2.out 2
  have hn1 : n1 ≤ 200 := by rw [← HL.out.1]; exact g2
  have hn2 : n2 ≤ 200 := by rw [← HL.out.2.1]; exact g3
  have hx1 := HLO.out.1
  obtain ⟨y1, hy1⟩ : ∃ y : Nat, y = n2 + n1 := ⟨_, rfl⟩
  obtain ⟨y2, hy2⟩ : ∃ y : Int, y = (y1 : Int) + x := ⟨_, rfl⟩
  have w1 : IntKind.i64.wrap ((n2 : Int) + (n1 : Int)) = (y1 : Int) := by rw [show (n2 : Int) + (n1 : Int) = (y1 : Int) by omega]; exact IntWalk.i64_in _ (by omega)
  have w2 : IntKind.i64.wrap ((y1 : Int) + x) = y2 := by rw [← hy2]; exact IntWalk.i64_in _ (by omega)
  clear hy1 hy2 g1 g2 g3 hn1 hn2 hx1
  obtain ⟨o, ho⟩ : ∃ o, o = decide (60 < y2) := ⟨_, rfl⟩
  cases o with
  | true =>
    have d1 : decide (60 < y2) = true := ho.symm
    clear ho HFT HRD HRN HCL HGV HFA HTR HSM HRF
    go_wp2_with fail
    refine (lives14_any W2).mono ?_
    rintro e W3 ⟨rfl, hb⟩
    have HB3 := Lib.hid (ext_trans HB2.out hb)
    clear hb
    go_wp2
    go_ret
    exact ⟨rfl, HB3.out⟩
  | false =>
  have d1 : decide (60 < y2) = false := ho.symm
  clear ho
  by_cases hm : 20 < m2
  · have d2 : decide (20 < (m2 : Int)) = true := by simp; omega
    have d3 : decide (20 < m2) = true := by simpa using hm
    clear hm HFT HRD HRN HCL HGV HFA HTR HSM HRF
    go_wp2_with fail
    refine (lives14_any W2).mono ?_
    rintro e W3 ⟨rfl, hb⟩
    have HB3 := Lib.hid (ext_trans HB2.out hb)
    clear hb
    go_wp2
    go_ret
    exact ⟨rfl, HB3.out⟩
  have d2 : decide (20 < (m2 : Int)) = false := by simp; omega
  have d3 : decide (20 < m2) = false := by simpa using hm
  have HM := Lib.hid hm
  clear hm
  go_wp2_with fail
  refine (HFT.out W2 HB2.out).mono ?_
  rintro e W3 ⟨rfl, hb⟩
  have HX3 := Lib.hid (heap_below HX2.out hb)
  have HY3 := Lib.hid (heap_below HY2.out hb)
  have HB3 := Lib.hid (ext_trans HB2.out hb)
  clear hb p0 p1 p2 p3 p4 p5 r0 r1 r2 HX2 HY2 HB2 HFT w1 w2 d1 d2 d3
  cases f with
  | false =>
    clear HRD HRN HCL HGV HFA HTR HSM HRF
    go_wp2_with fail
    refine (lives14_any W3).mono ?_
    rintro e W4 ⟨rfl, hb⟩
    have HB4 := Lib.hid (ext_trans HB3.out hb)
    clear hb
    go_wp2
    go_ret
    exact ⟨rfl, HB4.out⟩
  | true =>
  have HF := Lib.hid (HFC.out rfl)
  have HD := Lib.hid (HMD.out HF.out trivial (by rw [HL.out.2.2]; exact Nat.le_of_not_lt HM.out))
  clear HFC HMD HNO
  have r0 := cell_of_block HY3.out 0
  have r1 := cell_of_block HY3.out 1
  have r2 := cell_of_block HY3.out 2
  go_wp2_with fail
  refine (HRD.out W3 HB3.out).mono ?_
  rintro e W4 ⟨st4, rfl, h4, hs4, hb⟩
  have HX4 := Lib.hid (heap_below HX3.out hb)
  have HY4 := Lib.hid (heap_below HY3.out hb)
  have HB4 := Lib.hid (ext_trans HB3.out hb)
  have hlt := heap_lt HY3.out
  have HT4 := Lib.hid h4
  have HS4 := Lib.hid hs4
  clear hb h4 hs4 r0 r1 r2 HX3 HB3 HRD
  obtain ⟨tb1, kk1, td1, tb2, kk2, td2, tss2⟩ := st4
  simp only at *
  have z0 := cell_of_block HY4.out 0
  have y0 := unfrozen_of_block HY4.out 0
  have z1 := cell_of_block HY4.out 1
  have y1 := unfrozen_of_block HY4.out 1
  have z2 := cell_of_block HY4.out 2
  have y2 := unfrozen_of_block HY4.out 2
  go_upto_region 4 with fail
  generalize hW : World.setCell (World.setCell (World.setCell W4 _ _) _ _) _ _ = W5
  have hx5 : W5.heap[w.heap.size]? = some (.cells #[.int .i64 x, .slice a1 n1 c1, .slice a2 n2 c2, .slice a3 n3 c3, .slice a4 n4 c4, .slice a5 n5 c5] 26 (0, 0)) := by subst hW; exact (set3_other (w.heap.size + 1) w.heap.size (by omega) _ _ _).trans HX4.out
  have hy5 : W5.heap[w.heap.size + 1]? = some (.cells #[.int .i64 bd, .slice tb1 kk1 td1, .slice tb2 kk2 td2] 30 (0, 0)) := by subst hW; exact tri_set_t HY4.out rfl _ _ _
  have hb5 : Below w.heap.size w W5 := by subst hW; exact set3_t (w.heap.size + 1) (by omega) HB4.out
  have ho5 : SeesTr W5 ⟨tb1, kk1, td1, tb2, kk2, td2, tss2⟩ (readT t) := by subst hW; exact (OwnTA.move HT4.out (fun D hD => set3_other (w.heap.size + 1) D (by omega) _ _ _) (Nat.le_refl _)).sees
  have HX5 := Lib.hid hx5
  have HY5 := Lib.hid hy5
  have HB5 := Lib.hid hb5
  have HT5 := Lib.hid ho5
  clear hW hx5 hy5 hb5 ho5 hlt z0 y0 z1 y1 z2 y2 HX4 HY4 HB4 HT4 HY3
  have HF2 := Lib.hid HF.out.read
  have p0 := cell_of_block HX5.out 0
  have p1 := cell_of_block HX5.out 1
  have p2 := cell_of_block HX5.out 2
  have p3 := cell_of_block HX5.out 3
  have p4 := cell_of_block HX5.out 4
  have p5 := cell_of_block HX5.out 5
  have r0 := cell_of_block HY5.out 0
  have r1 := cell_of_block HY5.out 1
  have r2 := cell_of_block HY5.out 2
  go_wp2_with fail
  refine (HRN.out ⟨tb1, kk1, td1, tb2, kk2, td2, tss2⟩ W5 HB5.out HT5.out HS4.out).mono ?_
  intro e W6 hp
  obtain ⟨rb, ro, rc, rss, rfl, hrows, hb⟩ := runpost_yes HF2.out hp
  have HX6 := Lib.hid (heap_below HX5.out hb)
  have HY6 := Lib.hid (heap_below HY5.out hb)
  have HB6 := Lib.hid (ext_trans HB5.out hb)
  have HT6 := Lib.hid (HT5.out.below hb)
  have HR6 := Lib.hid hrows
  clear hp hb hrows p0 p1 p2 p3 p4 p5 r0 r1 r2 HX5 HY5 HB5 HT5 HRN
  obtain ⟨T, hT⟩ : ∃ T, T = readT t := ⟨_, rfl⟩
  rw [← hT] at HGV HSM HRF HD HT6 HR6 HF2 ⊢
  obtain ⟨nf, hnf⟩ : ∃ n, n = T.frames.length := ⟨_, rfl⟩
  have hTb : T.bad = bd := by rw [hT]; exact HTB.out
  have hn20 : nf ≤ 20 := by rw [hnf, hT]; show (t.frames.map zeroL).length ≤ 20; rw [List.length_map, HL.out.2.2]; exact Nat.le_of_not_lt HM.out
  rw [← hnf] at HD HR6 ⊢
  obtain ⟨V, hV⟩ : ∃ V, V = varsN c := ⟨_, rfl⟩
  rw [← hV] at HR6
  have hV16 : V ≤ 16384 := by rw [hV]; exact HF2.out.may.few
  have hnV : nf * V ≤ 20 * 16384 := Nat.mul_le_mul hn20 hV16
  have HML : Hid (∀ k m, k < nf → m ≤ V → (modelTo c T k m).length ≤ 1000000) := fun k m hk hm => by
    rw [modelTo_len HF2.out (by rw [← hnf]; exact hk) (by rw [← hV]; exact hm), ← hV]
    have : k * V ≤ 20 * 16384 := Nat.mul_le_mul (by omega) hV16
    omega
  have HMN : Hid (∀ k m y, k < nf → m < V → y = ((varsAt c T k).getD (1 + m) 0).toNat → modelTo c T k (m + 1) = modelTo c T k m ++ [decide (y = 1)]) := fun k m y hk hm hy => modelTo_next HF2.out (by rw [← hnf]; exact hk) (by rw [← hV]; exact hm) hy
  have HMR : Hid (∀ k, k < nf → modelTo c T k V = modelTo c T (k + 1) 0) := fun k hk => by rw [hV]; exact modelTo_row HF2.out (by rw [← hnf]; exact hk)
  have HMZ : Hid (modelTo c T nf 0 = modelL c T) := by rw [hnf]; exact modelTo_done c T
  have HM0 : Hid (modelTo c T 0 0 = [false, true]) := modelTo_zero c T
  have HN20 := Lib.hid hn20
  have HV16 := Lib.hid hV16
  have HTB2 := Lib.hid hTb
  have HTT := Lib.hid hT
  have HNF := Lib.hid hnf
  have HVV := Lib.hid hV
  clear hT hnf hTb hn20 hV hV16 hnV
  go_wp2_with fail
  go_loopw [76, 9] (fun i mm wr => ∃ (k : Nat) (u : Value), k ≤ nf ∧ i = .int .i64 k ∧ mm = u ∧ Hid (Row isB14 wr W6.heap.size 4 u (modelTo c T k 0).length ((modelTo c T k 0).map Value.bool)) ∧ Hid (Below W6.heap.size W6 wr)) (fun i _ _ => nf - (intOf i).toNat)
  case atStart =>
    refine ⟨0, _, Nat.zero_le _, rfl, rfl, ?_, ext_alloc _ _⟩
    rw [HM0.out]
    exact Row.made_at _ 2 _ _ _ rfl rfl rfl (Nat.le_refl _) (by decide) (by decide) (by intro u hu; simp at hu; rcases hu with rfl | rfl; exact ⟨false, rfl⟩; exact ⟨true, rfl⟩)
  case round =>
    obtain ⟨k, u, hk, rfl, hu, hR, hB⟩ := hrel
    obtain rfl := hu.symm
    have HR := Lib.hid hR.out
    have HB := Lib.hid hB.out
    clear hR hB
    by_cases hlt : k < nf
    · have HRK := HR6.out.below HB.out
      obtain ⟨vb, vo, vc, e1, hs⟩ := HR6.out.rows k hlt
      have hc2 : wr.cell? ⟨rb, ro + k, none⟩ = some (.slice (some ⟨vb, vo, none⟩) (1 + V) vc) := by
        rw [(HRK.list.cell k hlt).2, List.getElem?_map, List.getElem?_eq_getElem (show k < rss.length by rw [HRK.len]; exact hlt)]
        have : rss[k]'(by rw [HRK.len]; exact hlt) = rss.getD k slc0 := by simp [List.getD, List.getElem?_eq_getElem (show k < rss.length by rw [HRK.len]; exact hlt)]
        rw [this, e1]; rfl
      obtain ⟨a9, ec9, hs9⟩ := hs.cut 1 (1 + V) (by omega) (Nat.le_refl _)
      rw [show 1 + V - 1 = V by omega] at ec9 hs9
      have qq := fun W => (run_from (P := Try.prog) Try.underlying27 size8_14 W (some ⟨vb, vo, none⟩) (1 + V) vc 1 (1 : Int) rfl (by omega)).trans (congrArg (fun v => Result.ok v W) ec9)
      have hs9' : Sees W6 a9 V (vc - 1) (((varsAt c T k).drop 1).map bv) := by
        have e2 := hs.len
        rw [List.take_of_length_le (by omega), ← List.map_drop] at hs9
        exact hs9
      have HS9 := Lib.hid hs9'
      have hI1 : ((k : Nat) : Int) < (nf : Int) := by omega
      have hI2 : (0 : Int) ≤ (k : Int) := by omega
      have W1 : IntKind.i64.wrap ((k : Int) + 1) = (k : Int) + 1 := IntWalk.i64_in _ (by have := HN20.out; omega)
      clear hs hs9 hs9' e1 ec9 HRK
      go_wp2_with fail
      clear qq hc2
      go_loopw [83, 9] (fun j mm wr => ∃ (m : Nat) (u : Value), m ≤ V ∧ j = .int .i64 m ∧ mm = u ∧ Hid (Row isB14 wr W6.heap.size 4 u (modelTo c T k m).length ((modelTo c T k m).map Value.bool)) ∧ Hid (Below W6.heap.size W6 wr)) (fun j _ _ => V - (intOf j).toNat)
      case atStart => exact ⟨0, _, Nat.zero_le _, rfl, rfl, HR.out, HB.out⟩
      case round =>
        clear HR HB
        obtain ⟨m, u, hm, rfl, hu, hR2, hB2⟩ := hrel
        obtain rfl := hu.symm
        by_cases hlt2 : m < V
        · have HR2 := Lib.hid hR2.out
          have HB2 := Lib.hid hB2.out
          have hsw := HS9.out.below HB2.out
          obtain ⟨vb9, vo9, rfl, _⟩ := hsw.addr (show 0 < V by omega)
          have hc := hsw.byte m hlt2
          obtain ⟨y, hy⟩ : ∃ y, y = (((varsAt c T k).drop 1).getD m 0).toNat := ⟨_, rfl⟩
          rw [← hy] at hc
          have hnx := HMN.out k m y hlt hlt2 (by rw [hy, Nat.add_comm 1 m]; simp [List.getD])
          have hln := HML.out k m hlt hm
          have hI1 : ((m : Nat) : Int) < (V : Int) := by omega
          have hI2 : (0 : Int) ≤ (m : Int) := by omega
          have W2 : IntKind.i64.wrap ((m : Int) + 1) = (m : Int) + 1 := IntWalk.i64_in _ (by have := HV16.out; omega)
          obtain ⟨X, hX⟩ : ∃ X, X = modelTo c T k m := ⟨_, rfl⟩
          rw [← hX] at hnx hln HR2
          rw [eq1_14] at hnx
          have HNX := Lib.hid hnx
          have HLN := Lib.hid hln
          clear hR2 hB2 hsw hy hnx hln hX
          go_wp2_with (at_builtin; refine wpList_append_row isB14 _ rfl _ _ 32 rfl W6.heap.size 4 i0 (.bool false) 1 Try.underlying32 hi0 hz0 hz1 hz2 rfl ⟨false, rfl⟩ u X.length (X.map Value.bool) rfl (HR2.out.below (ext_alloc _ _)) (some ⟨wr.heap.size, 0, none⟩) 1 1 ([((y : Int) == 1)].map Value.bool) rfl (sees_lit wr _ _ _ _ 1 rfl rfl) (one14_map _) (isB14_map _) ?c1 ?c2 ?c3 ?_)
          case c1 => have := HLN.out; unfold maxLen; omega
          case c2 => have := HLN.out; omega
          case c3 => have := HB2.out.size; simp; omega
          intro v2 w7 hr7 hg7 _
          have HB7 : Hid (Below W6.heap.size W6 w7) := (ext_trans HB2.out (ext_alloc wr (.cells #[.bool (((y : Int) == 1))] 4))).grown hg7 (ext_trans HB2.out (ext_alloc wr (.cells #[.bool (((y : Int) == 1))] 4))).size (fun j hj => (HR2.out.own.lt j hj).1)
          have HR7 : Hid (Row isB14 w7 W6.heap.size 4 v2 (modelTo c T k (m + 1)).length ((modelTo c T k (m + 1)).map Value.bool)) := by
            show Row _ _ _ _ _ _ _
            rw [HNX.out, List.length_append, List.map_append]
            exact hr7
          clear hr7 hg7
          go_wp2
          go_roundw
          case rel => exact ⟨m + 1, v2, by omega, by go_num, rfl, HR7.out, HB7.out⟩
          case measure => simp [intOf]; omega
        · obtain rfl : m = V := by omega
          have HR2 : Hid (Row isB14 wr W6.heap.size 4 u (modelTo c T (k + 1) 0).length ((modelTo c T (k + 1) 0).map Value.bool)) := by rw [← HMR.out k hlt]; exact hR2.out
          have HB2 := Lib.hid hB2.out
          clear hR2 hB2
          go_wp2
          go_roundw
          case rel => exact ⟨k + 1, u, by omega, by go_num, rfl, HR2.out, HB2.out⟩
          case measure => simp [intOf]; omega
    · have hkn : k = nf := by omega
      have hR2 := HR.out
      rw [hkn, HMZ.out] at hR2
      have HB7 := Lib.hid HB.out
      have d1 : decide ((k : Int) < (nf : Int)) = false := by simp; omega
      have d2 : decide (k < nf) = false := by simpa using hlt
      clear HR HB hkn hlt hk
      have hbs := HD.out.len
      obtain ⟨bs, hbse⟩ : ∃ b, b = modelL c T := ⟨_, rfl⟩
      obtain ⟨L, hLe⟩ : ∃ l, l = (allE c nf).map bareE := ⟨_, rfl⟩
      obtain ⟨G, hGe⟩ : ∃ l, l = givE c T := ⟨_, rfl⟩
      rw [← hbse, ← hLe, ← hGe] at HD
      rw [← hbse] at hR2 hbs
      obtain ⟨q, hq⟩ : ∃ q, q = decide ((k1.verdict c T.bad.toNat T.init T.frames).toNat = 1) := ⟨_, rfl⟩
      rw [← hq] at HD
      obtain ⟨U, hUe⟩ : ∃ l, l = mustE c T.bad.toNat nf := ⟨_, rfl⟩
      rw [← hUe] at HD
      clear hbse hLe hGe hq hUe
      obtain ⟨mg, mc, cur, hmu, hmg, hmh, hmn, hmc, hms, hmt, hmo⟩ : ∃ g cap cur, u = .slice (some ⟨g, 0, none⟩) bs.length cap ∧ W6.heap.size ≤ g ∧ wr.heap[g]? = some (.cells cur 4 (0, 0)) ∧ bs.length ≤ cap ∧ cap ≤ maxLen ∧ cur.size = cap ∧ cur.toList.take bs.length = bs.map Value.bool ∧ ∀ u ∈ cur.toList, isB14 u := by
        rcases hR2.2 with ⟨_, h0⟩ | h0
        · omega
        · exact h0
      subst hmu
      have HMROW := Lib.hid hR2
      have HMG := Lib.hid hmg
      have HBS := Lib.hid hbs
      obtain ⟨mn, hmne⟩ : ∃ n, n = bs.length := ⟨_, rfl⟩
      rw [← hmne] at HMROW HBS ⊢
      have HMNE := Lib.hid hmne
      have HX7 := Lib.hid (heap_below HX6.out HB7.out)
      have HY7 := Lib.hid (heap_below HY6.out HB7.out)
      have HB8 := Lib.hid (ext_trans HB6.out HB7.out)
      have HT7 := Lib.hid (HT6.out.below HB7.out)
      have p0 := cell_of_block HX7.out 0
      have p1 := cell_of_block HX7.out 1
      have p2 := cell_of_block HX7.out 2
      have p3 := cell_of_block HX7.out 3
      have p4 := cell_of_block HX7.out 4
      have p5 := cell_of_block HX7.out 5
      clear hR2 hbs hmg hmh hmn hmc hms hmt hmo hmne HX6 HY6 HT6 HML HMN HMR HMZ HM0 HR6
      go_wp2_with fail
      refine (HCL.out (nf : Int) wr HB8.out).mono ?_
      rintro e W9 ⟨hb, la, ln, lk, lss, rfl, hl⟩
      rw [HD.out.cl] at hl ⊢
      simp only at hl ⊢
      have HM8 := HMROW
      have HX8 := HX7
      have HY8 := HY7
      have HT8 := HT7
      have HX9 := Lib.hid (heap_below HX8.out hb)
      have HY9 := Lib.hid (heap_below HY8.out hb)
      have HB9 := Lib.hid (ext_trans HB8.out hb)
      have HT9 := Lib.hid (HT8.out.below hb)
      have HM9 := Lib.hid (HM8.out.below hb)
      have HL9 := Lib.hid hl
      clear hb HX8 HY8 HB8 HT8 HM8  p0 p1 p2 p3 p4 p5 hl HCL HX7 HY7 HT7 HMROW HB7
      have p0 := cell_of_block HX9.out 0
      have p1 := cell_of_block HX9.out 1
      have p2 := cell_of_block HX9.out 2
      have p3 := cell_of_block HX9.out 3
      have p4 := cell_of_block HX9.out 4
      have p5 := cell_of_block HX9.out 5
      have r0 := cell_of_block HY9.out 0
      have r1 := cell_of_block HY9.out 1
      have r2 := cell_of_block HY9.out 2
      go_wp2_with fail
      refine (HGV.out ⟨tb1, kk1, td1, tb2, kk2, td2, tss2⟩ W9 HB9.out HT9.out HS4.out).mono ?_
      rintro e W10 ⟨hb, ga, gn, gk, rfl, hl⟩
      rw [HD.out.gv] at hl ⊢
      simp only at hl ⊢
      have HX10 := Lib.hid (heap_below HX9.out hb)
      have HY10 := Lib.hid (heap_below HY9.out hb)
      have HB10 := Lib.hid (ext_trans HB9.out hb)
      have HT10 := Lib.hid (HT9.out.below hb)
      have HM10 := Lib.hid (HM9.out.below hb)
      have HL10 := Lib.hid (HL9.out.below hb)
      have HG10 := Lib.hid hl
      clear hb HX9 HY9 HB9 HT9 HM9 HL9 p0 p1 p2 p3 p4 p5 r0 r1 r2 hl HGV
      have p0 := cell_of_block HX10.out 0
      have p1 := cell_of_block HX10.out 1
      have p2 := cell_of_block HX10.out 2
      have p3 := cell_of_block HX10.out 3
      have p4 := cell_of_block HX10.out 4
      have p5 := cell_of_block HX10.out 5
      have r0 := cell_of_block HY10.out 0
      have r1 := cell_of_block HY10.out 1
      have r2 := cell_of_block HY10.out 2
      have hfa := HD.out.fa
      rw [HTB2.out] at hfa
      go_wp2_with fail
      refine (HFA.out (nf : Int) W10 HB10.out).mono ?_
      rintro e W11 ⟨hb, ua, un, uk, rfl, hl⟩
      rw [hfa] at hl ⊢
      simp only at hl ⊢
      have HX11 := Lib.hid (heap_below HX10.out hb)
      have HY11 := Lib.hid (heap_below HY10.out hb)
      have HB11 := Lib.hid (ext_trans HB10.out hb)
      have HT11 := Lib.hid (HT10.out.below hb)
      have HM11 := Lib.hid (HM10.out.below hb)
      have HL11 := Lib.hid (HL10.out.below hb)
      have HG11 := Lib.hid (HG10.out.below hb)
      have HU11 := Lib.hid hl
      clear hb HX10 HY10 HB10 HT10 HM10 HL10 HG10 p0 p1 p2 p3 p4 p5 r0 r1 r2 hl HFA hfa
      have p0 := cell_of_block HX11.out 0
      have p1 := cell_of_block HX11.out 1
      have p2 := cell_of_block HX11.out 2
      have p3 := cell_of_block HX11.out 3
      have p4 := cell_of_block HX11.out 4
      have p5 := cell_of_block HX11.out 5
      have r0 := cell_of_block HY11.out 0
      have r1 := cell_of_block HY11.out 1
      have r2 := cell_of_block HY11.out 2
      have hms := (row_sees_slice HM11.out).2
      go_wp2_with fail
      refine (HTR.out (nf : Int) bs (some ⟨mg, 0, none⟩) mn mc W11 HB11.out hms).mono ?_
      rintro e W12 ⟨hb, hres⟩
      have htr := HD.out.tr
      have hmd := HD.out.md
      rw [HTB2.out] at htr hmd
      rw [htr, Int.toNat_natCast, hmd] at hres
      rcases hres with ⟨_, stx, rfl, hsx, hsmx⟩ | ⟨h0, _⟩
      rotate_left
      · cases h0
      have HTX12 := Lib.hid hsx
      have HSX := Lib.hid hsmx
      clear htr hmd hms hsx hsmx
      have HX12 := Lib.hid (heap_below HX11.out hb)
      have HY12 := Lib.hid (heap_below HY11.out hb)
      have HB12 := Lib.hid (ext_trans HB11.out hb)
      have HT12 := Lib.hid (HT11.out.below hb)
      have HM12 := Lib.hid (HM11.out.below hb)
      have HL12 := Lib.hid (HL11.out.below hb)
      have HG12 := Lib.hid (HG11.out.below hb)
      have HU12 := Lib.hid (HU11.out.below hb)
      clear hb HX11 HY11 HB11 HT11 HM11 HL11 HG11 HU11 p0 p1 p2 p3 p4 p5 r0 r1 r2 HTR
      obtain ⟨xb1, xk1, xd1, xb2, xk2, xd2, xss⟩ := stx
      unfold traceV
      simp only at *
      go_upto_region 19 with fail
      generalize hW : World.alloc W12 _ = W13
      have hb : Below W12.heap.size W12 W13 := by subst hW; exact ext_alloc _ _
      have hz13 : W13.heap[W12.heap.size]? = some (.cells #[.int .i64 bd, .slice xb1 xk1 xd1, .slice xb2 xk2 xd2] 30 (0, 0)) := by subst hW; exact heap_new _ _ _ rfl
      have HZ13 := Lib.hid hz13
      have HTX13 := Lib.hid (HTX12.out.below hb)
      have HX13 := Lib.hid (heap_below HX12.out hb)
      have HY13 := Lib.hid (heap_below HY12.out hb)
      have HB13 := Lib.hid (ext_trans HB12.out hb)
      have HT13 := Lib.hid (HT12.out.below hb)
      have HM13 := Lib.hid (HM12.out.below hb)
      have HL13 := Lib.hid (HL12.out.below hb)
      have HG13 := Lib.hid (HG12.out.below hb)
      have HU13 := Lib.hid (HU12.out.below hb)
      clear hb HX12 HY12 HB12 HT12 HM12 HL12 HG12 HU12 hW hz13 HTX12
      have r0 := cell_of_block HY13.out 0
      have r1 := cell_of_block HY13.out 1
      have r2 := cell_of_block HY13.out 2
      have z0 := cell_of_block HZ13.out 0
      have z1 := cell_of_block HZ13.out 1
      have z2 := cell_of_block HZ13.out 2
      have HCS : Hid (Calls Try.prog 24 #[.agg #[.int .i64 bd, .slice xb1 xk1 xd1, .slice xb2 xk2 xd2], .agg #[.int .i64 bd, .slice tb1 kk1 td1, .slice tb2 kk2 td2]] W13 fun e w' => e = .returned (.bool true) ∧ Below W13.heap.size W13 w') := by
        refine (HSM.out ⟨xb1, xk1, xd1, xb2, xk2, xd2, xss⟩ ⟨tb1, kk1, td1, tb2, kk2, td2, tss2⟩ W13 HTX13.out HT13.out HSX.out).mono ?_
        rintro e w' ⟨he, hb⟩
        exact ⟨by rw [he]; simp, hb⟩
      go_wp2_with fail
      refine HCS.out.mono ?_
      rintro e W14 ⟨rfl, hb⟩
      have HX14 := Lib.hid (heap_below HX13.out hb)
      have HY14 := Lib.hid (heap_below HY13.out hb)
      have HB14 := Lib.hid (ext_trans HB13.out hb)
      have HT14 := Lib.hid (HT13.out.below hb)
      have HM14 := Lib.hid (HM13.out.below hb)
      have HL14 := Lib.hid (HL13.out.below hb)
      have HG14 := Lib.hid (HG13.out.below hb)
      have HU14 := Lib.hid (HU13.out.below hb)
      clear hb HX13 HY13 HB13 HT13 HM13 HL13 HG13 HU13 HZ13 HTX13 HCS HSM HSX r0 r1 r2 z0 z1 z2
      have HMS14 := Lib.hid (row_sees_slice HM14.out).2
      have hmn5 : mn ≤ 5000000 := by rw [HMNE.out]; exact HD.out.few
      have HMN5 := Lib.hid hmn5
      clear hmn5
      have hln1 : ln ≤ 13000000 := by rw [← HL14.out.zlen]; exact HD.out.n1
      have hgn1 : gn ≤ 5000000 := by rw [← HG14.out.zlen]; exact HD.out.n2
      have hun1 : un ≤ 5000000 := by rw [← HU14.out.zlen]; exact HD.out.n3
      have HNN := Lib.hid (And.intro hln1 (And.intro hgn1 hun1))
      clear hln1 hgn1 hun1
      go_wp2_with fail
      go_loop [148] (fun i => ∃ k : Nat, k ≤ ln ∧ i = .int .i64 k) (fun i => ln - (intOf i).toNat)
      case atStart => exact ⟨0, Nat.zero_le _, rfl⟩
      case round =>
        obtain ⟨j, hj, rfl⟩ := hrel
        by_cases hlt : j < ln
        · obtain ⟨lb, lo, rfl, _⟩ := HL14.out.addr (show 0 < ln by omega)
          have hc := HL14.out.cellAt j hlt
          obtain ⟨sa, sn, sc, e1, hs1⟩ := HL14.out.one hlt
          rw [e1] at hc
          simp only at hc
          have hmem : L.getD j [] ∈ L := getD_memL (by rw [HL14.out.zlen]; exact hlt)
          obtain ⟨l, hl⟩ : ∃ l, l = L.getD j [] := ⟨_, rfl⟩
          rw [← hl] at hs1 hmem
          have hr := HD.out.r1 l hmem
          have hall := HD.out.all1 l hmem
          have HCALL := Lib.hid (holds14_any l bs sa sn sc (some ⟨mg, 0, none⟩) mn mc W14 hs1 HMS14.out (by rw [← hs1.zlen]; have := hr.1; omega) (by have := HMN5.out; omega) hr.2)
          rw [hall] at HCALL
          have hI1 : ((j : Nat) : Int) < (ln : Int) := by omega
          have hI2 : (0 : Int) ≤ (j : Int) := by omega
          have W1 : IntKind.i64.wrap ((j : Int) + 1) = (j : Int) + 1 := IntWalk.i64_in _ (by have := HNN.out; omega)
          clear e1 hs1 hmem hl hr hall
          go_wp2_with fail
          refine HCALL.out.mono ?_
          rintro e w2 ⟨rfl, rfl⟩
          clear HCALL
          go_wp2
          go_round
          case rel => exact ⟨j + 1, by omega, by go_num⟩
          case measure => simp [intOf]; omega
        · have d1 : decide ((j : Int) < (ln : Int)) = false := by simp; omega
          have d2 : decide (j < ln) = false := by simpa using hlt
          clear hlt hj
          go_wp2_with fail
          clear d1 d2
          go_loopw [159] (fun i wr => ∃ k : Nat, k ≤ gn ∧ i = .int .i64 k ∧ Hid (Below W14.heap.size W14 wr)) (fun i _ => gn - (intOf i).toNat)
          case atStart => exact ⟨0, Nat.zero_le _, rfl, Below.refl _ _⟩
          case round =>
            obtain ⟨j, hj, rfl, hB⟩ := hrel
            have HQ := Lib.hid hB.out
            clear hB
            by_cases hlt : j < gn
            · have hg := HG14.out.below HQ.out
              obtain ⟨lb, lo, rfl, _⟩ := hg.addr (show 0 < gn by omega)
              have hc := hg.z_at j hlt
              have hmem : G.getD j 0 ∈ G := getD_memZ (by rw [hg.zlen]; exact hlt)
              obtain ⟨y, hy⟩ : ∃ y, y = G.getD j 0 := ⟨_, rfl⟩
              rw [← hy] at hc hmem
              have HCALL := Lib.hid (hold1_any y bs (some ⟨mg, 0, none⟩) mn mc wr (HMS14.out.below HQ.out) (by have := HMN5.out; omega) (HD.out.r2 y hmem))
              rw [HD.out.all2 y hmem] at HCALL
              have hI1 : ((j : Nat) : Int) < (gn : Int) := by omega
              have hI2 : (0 : Int) ≤ (j : Int) := by omega
              have W1 : IntKind.i64.wrap ((j : Int) + 1) = (j : Int) + 1 := IntWalk.i64_in _ (by have := HNN.out; omega)
              clear hg hmem hy
              go_wp2_with fail
              refine HCALL.out.mono ?_
              rintro e w2 ⟨rfl, rfl⟩
              have HQ2 : Hid (Below W14.heap.size W14 (wr.alloc (.cells #[.int .i64 y] 3))) := ext_trans HQ.out (ext_alloc _ _)
              clear HCALL
              go_wp2
              go_roundw
              case rel => exact ⟨j + 1, by omega, by go_num, HQ2.out⟩
              case measure => simp [intOf]; omega
            · have d1 : decide ((j : Int) < (gn : Int)) = false := by simp; omega
              have d2 : decide (j < gn) = false := by simpa using hlt
              clear hlt hj
              go_wp2_with fail
              clear d1 d2
              go_loopw [171, 24] (fun i a wr2 => ∃ k : Nat, k ≤ un ∧ i = .int .i64 k ∧ a = .bool ((U.take k).all (litB bs)) ∧ Hid (Below W14.heap.size W14 wr2)) (fun i _ _ => un - (intOf i).toNat)
              case atStart => exact ⟨0, Nat.zero_le _, rfl, by simp, HQ.out⟩
              case round =>
                clear HQ
                obtain ⟨j, hj, rfl, rfl, hB⟩ := hrel
                have HQ := Lib.hid hB.out
                clear hB
                by_cases hlt : j < un
                · have hg := HU14.out.below HQ.out
                  obtain ⟨lb, lo, rfl, _⟩ := hg.addr (show 0 < un by omega)
                  have hc := hg.z_at j hlt
                  have hul : j < U.length := by rw [hg.zlen]; exact hlt
                  have hmem : U.getD j 0 ∈ U := getD_memZ hul
                  have hnx : (U.take (j + 1)).all (litB bs) = ((U.take j).all (litB bs) && litB bs (U.getD j 0)) := by
                    rw [List.take_succ_eq_append_getElem hul, List.all_append]
                    simp [List.getD, List.getElem?_eq_getElem hul]
                  obtain ⟨y, hy⟩ : ∃ y, y = U.getD j 0 := ⟨_, rfl⟩
                  rw [← hy] at hc hmem hnx
                  have HCALL := Lib.hid (hold1_any y bs (some ⟨mg, 0, none⟩) mn mc wr (HMS14.out.below HQ.out) (by have := HMN5.out; omega) (HD.out.r3 y hmem))
                  have hI1 : ((j : Nat) : Int) < (un : Int) := by omega
                  have hI2 : (0 : Int) ≤ (j : Int) := by omega
                  have W1 : IntKind.i64.wrap ((j : Int) + 1) = (j : Int) + 1 := IntWalk.i64_in _ (by have := HNN.out; omega)
                  obtain ⟨A, hA⟩ : ∃ A, A = (U.take j).all (litB bs) := ⟨_, rfl⟩
                  rw [← hA] at hnx ⊢
                  have HNX := Lib.hid hnx
                  clear hg hmem hy hul hnx hA
                  cases A with
                  | false =>
                    have HN2 : Hid ((U.take (j + 1)).all (litB bs) = false) := by show _ = _; rw [HNX.out]; rfl
                    clear HCALL HNX
                    go_wp2
                    go_roundw
                    case rel => exact ⟨j + 1, by omega, by go_num, by rw [HN2.out], HQ.out⟩
                    case measure => simp [intOf]; omega
                  | true =>
                    have HN2 : Hid ((U.take (j + 1)).all (litB bs) = litB bs y) := by show _ = _; rw [HNX.out]; rfl
                    clear HNX
                    go_wp2_with fail
                    refine HCALL.out.mono ?_
                    rintro e w2 ⟨rfl, rfl⟩
                    have HQ2 : Hid (Below W14.heap.size W14 (wr.alloc (.cells #[.int .i64 y] 3))) := ext_trans HQ.out (ext_alloc _ _)
                    clear HCALL
                    go_wp2
                    go_roundw
                    case rel => exact ⟨j + 1, by omega, by go_num, by rw [HN2.out] <;> rfl, HQ2.out⟩
                    case measure => simp [intOf]; omega
                · obtain rfl : j = un := by omega
                  have hAl : (U.take j).all (litB bs) = q := by rw [List.take_of_length_le (by rw [HU14.out.zlen]; omega)]; exact HD.out.all3
                  rw [hAl]
                  have hb := HQ.out
                  have HX15 := Lib.hid (heap_below HX14.out hb)
                  have HY15 := Lib.hid (heap_below HY14.out hb)
                  have HB15 := Lib.hid (ext_trans HB14.out hb)
                  have HT15 := Lib.hid (HT14.out.below hb)
                  have HM15 := Lib.hid (HM14.out.below hb)
                  have HL15 := Lib.hid (HL14.out.below hb)
                  have HG15 := Lib.hid (HG14.out.below hb)
                  clear hb HX14 HY14 HB14 HT14 HM14 HL14 HG14 HU14 HMS14 HQ hAl hlt hj
                  have p0 := cell_of_block HX15.out 0
                  have p1 := cell_of_block HX15.out 1
                  have p2 := cell_of_block HX15.out 2
                  have p3 := cell_of_block HX15.out 3
                  have p4 := cell_of_block HX15.out 4
                  have p5 := cell_of_block HX15.out 5
                  have r0 := cell_of_block HY15.out 0
                  have r1 := cell_of_block HY15.out 1
                  have r2 := cell_of_block HY15.out 2
                  go_wp2_with fail
                  refine (HRF.out ⟨tb1, kk1, td1, tb2, kk2, td2, tss2⟩ wr HB15.out HT15.out HS4.out).mono ?_
                  rintro e W16 ⟨he, hb⟩
                  rw [HD.out.ver] at he
                  subst he
                  have HB16 := Lib.hid (ext_trans HB15.out hb)
                  have HM16 := Lib.hid (HM15.out.below hb)
                  have HL16 := Lib.hid (HL15.out.below hb)
                  have HG16 := Lib.hid (HG15.out.below hb)
                  clear hb HX15 HY15 HB15 HT15 HM15 HL15 HG15 p0 p1 p2 p3 p4 p5 r0 r1 r2 HRF
                  have dq : (q != q) = false := by cases q <;> rfl
                  obtain ⟨mm, hmm⟩ : ∃ m : Nat, m = mn - 1 := ⟨_, rfl⟩
                  have hmm1 : 1 ≤ mm := by have := HBS.out; omega
                  have hmm5 := HMN5.out
                  obtain ⟨r, hr⟩ : ∃ r : Nat, r = at_ % mm := ⟨_, rfl⟩
                  have hrm : r < mm := by rw [hr]; exact Nat.mod_lt _ (by omega)
                  obtain ⟨k, hk⟩ : ∃ k : Nat, k = 1 + r := ⟨_, rfl⟩
                  have w1 : IntKind.i64.wrap ((mn : Int) - 1) = (mm : Int) := by rw [show (mn : Int) - 1 = (mm : Int) by omega]; exact IntWalk.i64_in _ (by omega)
                  have w2 : IntKind.u32.wrap (mm : Int) = (mm : Int) := by rw [IntKind.wrap_u32]; omega
                  have w3 : Int.tmod (at_ : Int) (mm : Int) = (r : Int) := by rw [hr]; rfl
                  have w4 : IntKind.u32.wrap (r : Int) = (r : Int) := by rw [IntKind.wrap_u32]; omega
                  have w5 : IntKind.i64.wrap (r : Int) = (r : Int) := IntWalk.i64_in _ (by omega)
                  have w6 : IntKind.i64.wrap (1 + (r : Int)) = (k : Int) := by rw [show 1 + (r : Int) = (k : Int) by omega]; exact IntWalk.i64_in _ (by omega)
                  have hmm0 : ¬ (mm : Int) = 0 := by omega
                  have hkm : k < mn := by omega
                  have HK := Lib.hid (And.intro (show 1 ≤ k by omega) hkm)
                  clear hmm hr hk hrm hmm5 hmm1 hkm
                  have hms := (row_sees_slice HM16.out).2
                  have hck : W16.cell? ⟨mg, k, none⟩ = some (.bool (bs.getD k false)) := by
                    have := sees_bool hms k HK.out.2
                    rw [Nat.zero_add] at this
                    exact this
                  obtain ⟨cur, hcur⟩ : ∃ cur, W16.heap[mg]? = some (.cells cur 4 (0, 0)) := by
                    rcases HM16.out.2 with ⟨h0, _⟩ | ⟨g, cap, cur, h0, _, h1, _⟩
                    · cases h0
                    · cases h0
                      exact ⟨cur, h1⟩
                  have hfk := unfrozen_of_block hcur k
                  obtain ⟨v, hv⟩ : ∃ v, v = bs.getD k false := ⟨_, rfl⟩
                  rw [← hv] at hck
                  have HV := Lib.hid hv
                  have hI1 : (k : Int) < (mn : Int) := by have := HK.out.2; omega
                  have hI0 : (0 : Int) ≤ (k : Int) := by omega
                  clear hms hcur hv
                  go_upto_region 44 with fail
                  generalize hW : World.setCell W16 _ _ = W17
                  obtain ⟨bs2, hbs2⟩ : ∃ b, b = bs.set k (!v) := ⟨_, rfl⟩
                  have HM17 : Hid (Row isB14 W17 W6.heap.size 4 (.slice (some ⟨mg, 0, none⟩) mn mc) mn (bs2.map Value.bool)) := by subst hW; subst hbs2; exact bools_set HM16.out k (!v)
                  have HL17 : Hid (SeesZ W17 la ln lk lss L) := by subst hW; exact seesZ_set_bool HL16.out hck _
                  have HG17 : Hid (Sees W17 ga gn gk (zvs G)) := by subst hW; exact seesI_set_bool HG16.out hck _
                  have HB17 : Hid (Below w.heap.size w W17) := by subst hW; exact HB16.out.setCell (p := ⟨mg, k, none⟩) (Nat.le_trans HB6.out.size HMG.out) _
                  have HFL : Hid ((L.all (fun l => l.any (litB bs2)) && G.all (litB bs2)) = false) := by subst hbs2; rw [HV.out]; exact HD.out.flip k HK.out.1 (by rw [← HMNE.out]; exact HK.out.2)
                  have HMS17 := Lib.hid (row_sees_slice HM17.out).2
                  clear hW hbs2 hck hfk hI1 hI0 w1 w2 w3 w4 w5 w6 hmm0 dq HM16 HL16 HG16 HB16 HM17 HK HV
                  go_wp2_with fail
                  go_loop [210, 32] (fun i a => ∃ k : Nat, k ≤ ln ∧ i = .int .i64 k ∧ a = .bool (!(L.take k).all fun l => l.any (litB bs2))) (fun i _ => ln - (intOf i).toNat)
                  case atStart => exact ⟨0, Nat.zero_le _, rfl, by simp⟩
                  case round =>
                    obtain ⟨j, hj, rfl, rfl⟩ := hrel
                    by_cases hlt : j < ln
                    · obtain ⟨lb, lo, rfl, _⟩ := HL17.out.addr (show 0 < ln by omega)
                      have hc := HL17.out.cellAt j hlt
                      obtain ⟨sa, sn, sc, e1, hs1⟩ := HL17.out.one hlt
                      rw [e1] at hc
                      simp only at hc
                      have hll : j < L.length := by rw [HL17.out.zlen]; exact hlt
                      have hmem : L.getD j [] ∈ L := getD_memL hll
                      have hnx : (L.take (j + 1)).all (fun l => l.any (litB bs2)) = ((L.take j).all (fun l => l.any (litB bs2)) && (L.getD j []).any (litB bs2)) := by
                        rw [List.take_succ_eq_append_getElem hll, List.all_append]
                        simp [List.getD, List.getElem?_eq_getElem hll]
                      obtain ⟨l, hl⟩ : ∃ l, l = L.getD j [] := ⟨_, rfl⟩
                      rw [← hl] at hs1 hmem hnx
                      have hr := HD.out.r1 l hmem
                      have HCALL := Lib.hid (holds14_any l bs2 sa sn sc (some ⟨mg, 0, none⟩) mn mc W17 hs1 HMS17.out (by rw [← hs1.zlen]; have := hr.1; omega) (by have := HMN5.out; omega) hr.2)
                      obtain ⟨z, hz⟩ : ∃ z, z = l.any (litB bs2) := ⟨_, rfl⟩
                      rw [← hz] at HCALL hnx
                      obtain ⟨A, hA⟩ : ∃ A, A = (L.take j).all (fun l => l.any (litB bs2)) := ⟨_, rfl⟩
                      rw [← hA] at hnx ⊢
                      have HNX := Lib.hid hnx
                      have hI1 : ((j : Nat) : Int) < (ln : Int) := by omega
                      have hI2 : (0 : Int) ≤ (j : Int) := by omega
                      have W1 : IntKind.i64.wrap ((j : Int) + 1) = (j : Int) + 1 := IntWalk.i64_in _ (by have := HNN.out; omega)
                      clear e1 hs1 hmem hl hr hz hA hnx hll
                      cases A with
                      | false =>
                        have HN2 : Hid ((L.take (j + 1)).all (fun l => l.any (litB bs2)) = false) := by show _ = _; rw [HNX.out]; rfl
                        clear HCALL HNX
                        go_wp2
                        go_round
                        case rel => exact ⟨j + 1, by omega, by go_num, by rw [HN2.out] <;> rfl⟩
                        case measure => simp [intOf]; omega
                      | true =>
                        have HN2 : Hid ((L.take (j + 1)).all (fun l => l.any (litB bs2)) = z) := by show _ = _; rw [HNX.out]; rfl
                        clear HNX
                        go_wp2_with fail
                        refine HCALL.out.mono ?_
                        rintro e w2 ⟨rfl, rfl⟩
                        clear HCALL
                        go_wp2
                        go_round
                        case rel => exact ⟨j + 1, by omega, by go_num, by rw [HN2.out] <;> rfl⟩
                        case measure => simp [intOf]; omega
                    · have hAl : (L.take j).all (fun l => l.any (litB bs2)) = L.all (fun l => l.any (litB bs2)) := by rw [List.take_of_length_le (by rw [HL17.out.zlen]; omega)]
                      rw [hAl]
                      obtain ⟨A, hA⟩ : ∃ A, A = L.all (fun l => l.any (litB bs2)) := ⟨_, rfl⟩
                      rw [← hA] at HFL ⊢
                      have d1 : decide ((j : Int) < (ln : Int)) = false := by simp; omega
                      have d2 : decide (j < ln) = false := by simpa using hlt
                      clear hAl hA hlt hj
                      go_wp2_with fail
                      clear d1 d2
                      go_loopw [224, 32] (fun i a wr => ∃ k : Nat, k ≤ gn ∧ i = .int .i64 k ∧ a = .bool (!(A && (G.take k).all (litB bs2))) ∧ Hid (Below W17.heap.size W17 wr)) (fun i _ _ => gn - (intOf i).toNat)
                      case atStart => exact ⟨0, Nat.zero_le _, rfl, by simp, Below.refl _ _⟩
                      case round =>
                        obtain ⟨j, hj, rfl, rfl, hB⟩ := hrel
                        have HQ := Lib.hid hB.out
                        clear hB
                        by_cases hlt : j < gn
                        · have hg := HG17.out.below HQ.out
                          obtain ⟨lb, lo, rfl, _⟩ := hg.addr (show 0 < gn by omega)
                          have hc := hg.z_at j hlt
                          have hul : j < G.length := by rw [hg.zlen]; exact hlt
                          have hmem : G.getD j 0 ∈ G := getD_memZ hul
                          have hnx : (A && (G.take (j + 1)).all (litB bs2)) = ((A && (G.take j).all (litB bs2)) && litB bs2 (G.getD j 0)) := by
                            rw [List.take_succ_eq_append_getElem hul, List.all_append]
                            simp [List.getD, List.getElem?_eq_getElem hul, Bool.and_assoc]
                          obtain ⟨y, hy⟩ : ∃ y, y = G.getD j 0 := ⟨_, rfl⟩
                          rw [← hy] at hc hmem hnx
                          have HCALL := Lib.hid (hold1_any y bs2 (some ⟨mg, 0, none⟩) mn mc wr (HMS17.out.below HQ.out) (by have := HMN5.out; omega) (HD.out.r2 y hmem))
                          have hI1 : ((j : Nat) : Int) < (gn : Int) := by omega
                          have hI2 : (0 : Int) ≤ (j : Int) := by omega
                          have W1 : IntKind.i64.wrap ((j : Int) + 1) = (j : Int) + 1 := IntWalk.i64_in _ (by have := HNN.out; omega)
                          obtain ⟨z, hz⟩ : ∃ z, z = litB bs2 y := ⟨_, rfl⟩
                          rw [← hz] at HCALL hnx
                          obtain ⟨Y, hY⟩ : ∃ Y, Y = (A && (G.take j).all (litB bs2)) := ⟨_, rfl⟩
                          rw [← hY] at hnx ⊢
                          have HNX := Lib.hid hnx
                          clear hg hmem hy hul hnx hY hz
                          cases Y with
                          | false =>
                            have HN2 : Hid ((A && (G.take (j + 1)).all (litB bs2)) = false) := by show _ = _; rw [HNX.out]; rfl
                            clear HCALL HNX
                            go_wp2
                            go_roundw
                            case rel => exact ⟨j + 1, by omega, by go_num, by rw [HN2.out] <;> rfl, HQ.out⟩
                            case measure => simp [intOf]; omega
                          | true =>
                            have HN2 : Hid ((A && (G.take (j + 1)).all (litB bs2)) = z) := by show _ = _; rw [HNX.out]; rfl
                            clear HNX
                            go_wp2_with fail
                            refine HCALL.out.mono ?_
                            rintro e w2 ⟨rfl, rfl⟩
                            have HQ2 : Hid (Below W17.heap.size W17 (wr.alloc (.cells #[.int .i64 y] 3))) := ext_trans HQ.out (ext_alloc _ _)
                            clear HCALL
                            go_wp2
                            go_roundw
                            case rel => exact ⟨j + 1, by omega, by go_num, by rw [HN2.out] <;> rfl, HQ2.out⟩
                            case measure => simp [intOf]; omega
                        · have hAl : (A && (G.take j).all (litB bs2)) = false := by rw [List.take_of_length_le (by rw [HG17.out.zlen]; omega)]; exact HFL.out
                          rw [hAl]
                          have d1 : decide ((j : Int) < (gn : Int)) = false := by simp; omega
                          have d2 : decide (j < gn) = false := by simpa using hlt
                          have HBE := Lib.hid (ext_trans HB17.out HQ.out)
                          clear hAl hlt hj HQ
                          go_wp2_with fail
                          refine (lives14_any wr).mono ?_
                          rintro e W18 ⟨rfl, hb⟩
                          have HBF := Lib.hid (ext_trans HBE.out hb)
                          clear hb
                          go_wp2
                          go_ret
                          exact ⟨rfl, HBF.out⟩
end Go.Proofs.Ytcoehbkjccfhlaa
