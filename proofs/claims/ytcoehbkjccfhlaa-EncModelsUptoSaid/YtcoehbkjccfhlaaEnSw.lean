/- The law EncSwitches. -/
import Derived.Test.YtcoehbkjccfhlaaGEncM00
import Derived.Test.YtcoehbkjccfhlaaGEncM01
import Derived.Test.YtcoehbkjccfhlaaGEncM03
import Derived.Test.YtcoehbkjccfhlaaGEncM12
import Derived.Test.YtcoehbkjccfhlaaEnLim
import Derived.Test.YtcoehbkjccfhlaaEnVL
import Derived.Test.YtcoehbkjccfhlaaGEncM17
import Derived.Test.YtcoehbkjccfhlaaEnFa
import Derived.Test.YtcoehbkjccfhlaaEnInts
import Derived.Test.YtcoehbkjccfhlaaEnRl
import Derived.Test.YtcoehbkjccfhlaaEnLives
import Derived.Test.YtcoehbkjccfhlaaGEncM21
import Derived.Test.YtcoehbkjccfhlaaRows
import Derived.BigQuiet
import Derived.Deep.AppendLies
import Derived.Deep.CutRange
import Derived.Deep.QuietTactic
import Derived.Deep.RegionHeld3
import Derived.Deep.RegionLaw
import Derived.Deep.RegionWith
import Derived.KernelRfl
import Derived.Laws.EntriesVeiled
import Derived.Laws.Tables
import Derived.Lib.ConvBytes
import Derived.Lib.Hide
import Derived.Lib.SlBytesRow
import Derived.Lib.SmallJoins
import Derived.Maps.AppendAt
import Derived.OrdersHeld
import Derived.Shelf.Bytes.SlSmallAll
import Derived.WalkKit
import Derived.WalkLawsBesides
import Derived.WalkSpells
namespace Go.Proofs.Ytcoehbkjccfhlaa
open Go Go.RowKit Go.Joins

theorem great_no {c : NormC} {z : Int} (h : great14 c z = false) : c.ins ≤ 200 ∧ c.lats.length ≤ 200 ∧ c.gates.length ≤ 200 ∧ c.cons.length ≤ 200 ∧ z ≤ 60 := by
  unfold great14 at h
  simp only [Bool.or_eq_false_iff, decide_eq_false_iff_not] at h
  omega
/-- What the law stands on in its main case. -/
structure SwF (c : NormC) (z : Int) (nf V : Nat) (T : List TCl) (first : Nat) : Prop where
  nf1 : 1 ≤ nf ∧ nf ≤ 60
  few : c.gates.length ≤ 200
  fst : first = 2 + nf * V
  fle : first ≤ 5000000
  tag : ∀ t ∈ T, (t.1 = -1 ∨ ∃ g : Nat, g < c.gates.length ∧ t.1 = (g : Int)) ∧ t.2.length ≤ 3
  len : T.length ≤ 13000000
  cnt : ∀ j, j < c.gates.length → cntE T j = 3 * nf
  va : varsA c z = (1 + nf * V, 0)
  cl : clA c z = (T.map bareE, 0)
  rl : rlA c z = (T.map (withE first), first, 0)
theorem swF14 {c : NormC} {z : Int} (hg : great14 c (min z 61) = false) (ho : ofOk c z = true) : SwF c z z.toNat (varsN c) (allE c z.toNat) (2 + z.toNat * varsN c) := by
  obtain ⟨g1, g2, g3, g4, g5⟩ := great_no hg
  obtain ⟨hM, h1, h2, h3⟩ := ofOk_iff ho
  have hm := many_few (nf := z.toNat) g2 g3 (by omega)
  have hl := allE_len c z.toNat hM.few
  have hs := (spotE_lt (V := varsN c) (v := 0) (f := z.toNat) hM.few (by omega) h2).2
  refine ⟨⟨h1, by omega⟩, g3, rfl, by omega, allE_tag, by omega, fun j hj => cnt_all c j hj _, ?_, ?_, ?_⟩
  · unfold varsA; rw [if_pos ho]
  · unfold clA; rw [if_pos ho, if_pos hm]
  · unfold rlA; rw [if_pos ho, if_pos hm]
theorem swNo {c : NormC} {z : Int} (ho : ofOk c z = false) : varsA c z = (0, 2) ∧ clA c z = ([], 2) ∧ rlA c z = ([], 0, 2) := by
  refine ⟨?_, ?_, ?_⟩
  · unfold varsA; rw [if_neg (by rw [ho]; simp)]
  · unfold clA; rw [if_neg (by rw [ho]; simp)]
  · unfold rlA; rw [if_neg (by rw [ho]; simp)]

set_option maxRecDepth 100000 in
set_option maxHeartbeats 6400000 in
theorem switches_any (c : NormC) (s : CSlots) (z : Int) (w : World) (h : SeesCir w s c) (hs : s.small) (hlo : -9223372036854775808 ≤ c.ins) (hhi : c.ins < 9223372036854775808) :
    Calls Try.prog 5 #[cirV c.ins s, .int .i64 z] w fun e w' => e = .returned (.bool true) ∧ Below w.heap.size w w' := by
  obtain ⟨i0, hi0, hz0, hz1, hz2⟩ := info_parts info_int
  have HGR := Lib.hid (fun W (hb : Below w.heap.size w W) => great14_any c s (min z 61) W (h.below hb))
  have HCL := Lib.hid (fun W (hb : Below w.heap.size w W) => clauses14_any c s z W (h.below hb) hs hlo hhi)
  have HRL := Lib.hid (fun W (hb : Below w.heap.size w W) => relaxed14_any c s z W (h.below hb) hs hlo hhi)
  have HVA := Lib.hid (fun W (hb : Below w.heap.size w W) => vars14_any c s z W (h.below hb) hs hlo hhi)
  have YES := Lib.hid (fun (hg : great14 c (min z 61) = false) (ho : ofOk c z = true) => swF14 hg ho)
  have NO := Lib.hid (fun (ho : ofOk c z = false) => swNo ho)
  have hzn := fun (ho : ofOk c z = true) => (ofOk_iff ho).2.2.2
  have HZN := Lib.hid hzn
  have l2 : c.gates.length = s.n2 := h.s2.1
  have HL2 := Lib.hid l2
  unfold ClE at HCL
  unfold RlE at HRL
  obtain ⟨a1, n1, c1, a2, n2, c2, a3, n3, c3, a4, n4, c4, a5, n5, c5⟩ := s
  obtain ⟨x, hx⟩ : ∃ x, x = c.ins := ⟨_, rfl⟩
  rw [← hx]
  rw [← hx] at HGR HCL HRL HVA
  obtain ⟨g, hg⟩ : ∃ g, g = great14 c (min z 61) := ⟨_, rfl⟩
  rw [← hg] at HGR YES
  obtain ⟨o, ho⟩ : ∃ o, o = ofOk c z := ⟨_, rfl⟩
  rw [← ho] at YES NO HZN
  clear h hs hlo hhi hx hg ho l2 hzn
  simp only at HL2
  obtain ⟨y, hy⟩ : ∃ y, y = min z 61 := ⟨_, rfl⟩
  rw [← hy] at HGR
  have HY := Lib.hid hy
  clear hy
  unfold cirV at *
  go_enter Try.func5, Try.ntmps5
  go_upto_region 1 with fail
  generalize hW : World.alloc w _ = W1
  have hX : W1.heap[w.heap.size]? = some (.cells #[.int .i64 x, .slice a1 n1 c1, .slice a2 n2 c2, .slice a3 n3 c3, .slice a4 n4 c4, .slice a5 n5 c5] 26 (0, 0)) := by subst hW; exact heap_new _ _ _ rfl
  have hB : Below w.heap.size w W1 := by subst hW; exact ext_alloc _ _
  have HX1 := Lib.hid hX
  have HB1 := Lib.hid hB
  clear hW hX hB
  have p0 := cell_of_block HX1.out 0
  have p1 := cell_of_block HX1.out 1
  have p2 := cell_of_block HX1.out 2
  have p3 := cell_of_block HX1.out 3
  have p4 := cell_of_block HX1.out 4
  have p5 := cell_of_block HX1.out 5
  have HMIN : Hid (∀ W, Below w.heap.size w W → Calls Try.prog 6 #[.agg #[.int .i64 x, .slice a1 n1 c1, .slice a2 n2 c2, .slice a3 n3 c3, .slice a4 n4 c4, .slice a5 n5 c5], .int .i64 (min z 61)] W fun e w' => e = .returned (.bool g) ∧ Below W.heap.size W w') := fun W hb => by rw [← HY.out]; exact HGR.out W hb
  go_wp2_with fail
  refine (HMIN.out W1 HB1.out).mono ?_
  rintro e W2 ⟨rfl, hb⟩
  have HX2 := Lib.hid (heap_below HX1.out hb)
  have HB2 := Lib.hid (ext_trans HB1.out hb)
  clear hb p0 p1 p2 p3 p4 p5 HX1 HB1 HGR HMIN
  cases g with
  | true =>
    clear HCL HRL HVA YES NO
    go_wp2_with fail
    refine (lives14_any W2).mono ?_
    rintro e W3 ⟨rfl, hb⟩
    have HB3 := Lib.hid (ext_trans HB2.out hb)
    clear hb
    go_wp2
    go_ret
    exact ⟨rfl, HB3.out⟩
  | false =>
  have p0 := cell_of_block HX2.out 0
  have p1 := cell_of_block HX2.out 1
  have p2 := cell_of_block HX2.out 2
  have p3 := cell_of_block HX2.out 3
  have p4 := cell_of_block HX2.out 4
  have p5 := cell_of_block HX2.out 5
  go_wp2_with fail
  refine (HCL.out W2 HB2.out).mono ?_
  rintro e W3 ⟨hb, la, ln, lk, lss, rfl, hl⟩
  have HX3 := Lib.hid (heap_below HX2.out hb)
  have HB3 := Lib.hid (ext_trans HB2.out hb)
  have HL3 := Lib.hid hl
  clear hb hl p0 p1 p2 p3 p4 p5 HX2 HB2 HCL
  have p0 := cell_of_block HX3.out 0
  have p1 := cell_of_block HX3.out 1
  have p2 := cell_of_block HX3.out 2
  have p3 := cell_of_block HX3.out 3
  have p4 := cell_of_block HX3.out 4
  have p5 := cell_of_block HX3.out 5
  go_wp2_with fail
  refine (HRL.out W3 HB3.out).mono ?_
  rintro e W4 ⟨hb, ra, rn, rk, rss, rfl, hr⟩
  have HX4 := Lib.hid (heap_below HX3.out hb)
  have HB4 := Lib.hid (ext_trans HB3.out hb)
  have HL4 := Lib.hid (HL3.out.below hb)
  have HR4 := Lib.hid hr
  clear hb hr p0 p1 p2 p3 p4 p5 HX3 HB3 HL3 HRL
  have p0 := cell_of_block HX4.out 0
  have p1 := cell_of_block HX4.out 1
  have p2 := cell_of_block HX4.out 2
  have p3 := cell_of_block HX4.out 3
  have p4 := cell_of_block HX4.out 4
  have p5 := cell_of_block HX4.out 5
  go_wp2_with fail
  refine (HVA.out W4 HB4.out).mono ?_
  rintro e W5 ⟨rfl, hb⟩
  have HX5 := Lib.hid (heap_below HX4.out hb)
  have HB5 := Lib.hid (ext_trans HB4.out hb)
  have HL5 := Lib.hid (HL4.out.below hb)
  have HR5 := Lib.hid (HR4.out.below hb)
  clear hb p0 p1 p2 p3 p4 p5 HX4 HB4 HL4 HR4 HVA
  cases o with
  | false =>
    obtain ⟨e1, e2, e3⟩ := NO.out (by trivial)
    rw [e2] at HL5
    rw [e3] at HR5
    have lz := HL5.out.zlen
    have rz := HR5.out.zlen
    simp only [List.length_nil] at lz rz
    subst lz
    subst rz
    rw [e1, e2, e3]
    clear e1 e2 e3 YES NO HZN
    simp only
    go_wp2_with fail
    refine (lives14_any W5).mono ?_
    rintro e W6 ⟨rfl, hb⟩
    have HB6 := Lib.hid (ext_trans HB5.out hb)
    clear hb
    go_wp2
    go_ret
    exact ⟨rfl, HB6.out⟩
  | true =>
    have HF := Lib.hid (YES.out (by trivial) (by trivial))
    have hzz := HZN.out (by trivial)
    clear YES NO HZN
    obtain ⟨nf, hnf⟩ : ∃ n, n = z.toNat := ⟨_, rfl⟩
    rw [← hnf] at HF hzz
    subst hzz
    clear hnf HY
    obtain ⟨V, hV⟩ : ∃ V, V = varsN c := ⟨_, rfl⟩
    obtain ⟨TT, hT⟩ : ∃ T, T = allE c nf := ⟨_, rfl⟩
    rw [← hV, ← hT] at HF
    obtain ⟨first, hfirst⟩ : ∃ n, n = 2 + nf * V := ⟨_, rfl⟩
    rw [← hfirst] at HF
    clear hV hT hfirst
    have e1 := HF.out.va
    have e2 := HF.out.cl
    have e3 := HF.out.rl
    have ef := HF.out.fst
    rw [e2] at HL5
    rw [e3] at HR5
    rw [e1, e2, e3]
    clear e1 e2 e3
    simp only at HL5 HR5 ⊢
    have lz := HL5.out.zlen
    have rz := HR5.out.zlen
    rw [List.length_map] at lz rz
    have hrl : rn = ln := by rw [← lz, ← rz]
    subst hrl
    clear rz
    have hf5 := HF.out.fle
    have hlen := HF.out.len
    have hfew := HF.out.few
    have hnf1 := HF.out.nf1
    have hlnn : rn ≤ 13000000 := by omega
    have hn2 : n2 ≤ 200 := by rw [← HL2.out]; exact hfew
    obtain ⟨vn, hvn⟩ : ∃ n, n = 1 + nf * V := ⟨_, rfl⟩
    have hvn2 : first = vn + 1 := by omega
    rw [← hvn]
    have HFV := Lib.hid hvn2
    have HLZ := Lib.hid lz
    have mk := fun W => run_make_n (P := Try.prog) Try.underlying45 hi0 hz0 hz1 hz2 rfl n2 (by omega) (by omega) W
    rw [fcells_zero] at mk
    have W3f : IntKind.i64.wrap (3 * (nf : Int)) = ((3 * nf : Nat) : Int) := by rw [show 3 * (nf : Int) = ((3 * nf : Nat) : Int) by omega]; exact IntWalk.i64_in _ (by omega)
    have WV : IntKind.i64.wrap ((vn : Int) + 1) = (first : Int) := by rw [show (vn : Int) + 1 = (first : Int) by omega]; exact IntWalk.i64_in _ (by omega)
    have HFL5 : Hid (first ≤ 5000000) := hf5
    have HNF : Hid (1 ≤ nf ∧ nf ≤ 60) := hnf1
    clear hvn ef hvn2 lz hlen hfew hf5 hnf1
    have p0 := cell_of_block HX5.out 0
    have p1 := cell_of_block HX5.out 1
    have p2 := cell_of_block HX5.out 2
    have p3 := cell_of_block HX5.out 3
    have p4 := cell_of_block HX5.out 4
    have p5 := cell_of_block HX5.out 5
    go_upto_region 11 with fail
    generalize hW : World.alloc W5 _ = W6
    obtain ⟨S, hS⟩ : ∃ S, S = W5.heap.size := ⟨_, rfl⟩
    have hsn : W6.heap[S]? = some (.cells (fcells n2 (fun j => iv (cntE (TT.take 0) j))) 3 (0, 0)) := by subst hW; rw [hS, heap_new _ _ _ rfl]; congr 2
    have hb6 : Below W5.heap.size W5 W6 := by subst hW; exact ext_alloc _ _
    have HS6 := Lib.hid hsn
    have HB56 := Lib.hid hb6
    have HSS := Lib.hid hS
    rw [← hS]
    clear hW hsn hb6 p0 p1 p2 p3 p4 p5 hS mk
    go_wp2_with fail
    go_loopw [69] (fun i wr => ∃ k : Nat, k ≤ rn ∧ i = .int .i64 k ∧ Hid (wr.heap[S]? = some (.cells (fcells n2 (fun j => iv (cntE (TT.take k) j))) 3 (0, 0))) ∧ Hid (Below W5.heap.size W5 wr)) (fun i _ => rn - (intOf i).toNat)
    case atStart => exact ⟨0, Nat.zero_le _, rfl, HS6.out, HB56.out⟩
    case round =>
      obtain ⟨k, hk, rfl, hO, hB⟩ := hrel
      by_cases hlt : k < rn
      · have h1 := HL5.out.below hB.out
        have h2 := HR5.out.below hB.out
        obtain ⟨b1, o1, rfl, _⟩ := h1.addr (show 0 < rn by omega)
        obtain ⟨b2, o2, rfl, _⟩ := h2.addr (show 0 < rn by omega)
        have hc1 := h1.cellAt k hlt
        have hc2 := h2.cellAt k hlt
        obtain ⟨sa, sn, sc, e1, hs1⟩ := h1.one hlt
        obtain ⟨ta, tn, tc, e2, hs2⟩ := h2.one hlt
        rw [e1] at hc1
        rw [e2] at hc2
        simp only at hc1 hc2
        have hkT : k < TT.length := by rw [HLZ.out]; exact hlt
        rw [map_getD hkT (-1, [])] at hs1 hs2
        have htag := HF.out.tag (TT.getD k (-1, [])) (by simp [List.getD, List.getElem?_eq_getElem hkT])
        have hsnoc := fun j => cnt_snoc TT k j hkT (-1, [])
        have hcle := fun j => Nat.le_trans (cntE_le (TT.take k) j) (List.length_take_le k TT)
        obtain ⟨tt, htt⟩ : ∃ t, t = TT.getD k (-1, []) := ⟨_, rfl⟩
        rw [← htt] at hs1 hs2 htag
        simp only [← htt] at hsnoc
        obtain ⟨tg, tc2⟩ := tt
        simp only at htag hsnoc
        have hs1 : Sees wr sa sn sc (zvs tc2) := hs1
        have l1 := hs1.zlen
        have l3 := hs2.zlen
        have hI1 : ((k : Nat) : Int) < (rn : Int) := by omega
        have hI2 : (0 : Int) ≤ (k : Int) := by omega
        have HSN := Lib.hid hsnoc
        have HCE := Lib.hid hcle
        have HO := Lib.hid hO.out
        have HB := Lib.hid hB.out
        clear h1 h2 e1 e2 hsnoc hcle hO hB htt hkT
        rcases htag with ⟨htg | ⟨gg, hgg, htg⟩, hln3⟩
        · subst htg
          have hw : withE first (-1, tc2) = tc2 := by simp [withE]
          rw [hw] at hs2 l3
          obtain rfl : sn = tn := by omega
          have HI : Hid (∀ nq, Calls Try.prog 21 #[.slice sa sn sc, .slice ta sn tc] (wr.drewN nq) fun e w' => e = .returned (.bool true) ∧ w' = wr.drewN nq) := fun nq => by
            refine (ints14_any tc2 tc2 sa ta sn sn sc tc (wr.drewN nq) (hs1.below (ext_drewN _ _)) (hs2.below (ext_drewN _ _)) (by omega) (by omega)).mono ?_
            rintro e w' ⟨he, hw⟩
            exact ⟨by rw [he]; simp, hw⟩
          have HO2 : Hid (wr.heap[S]? = some (.cells (fcells n2 (fun j => iv (cntE (TT.take (k + 1)) j))) 3 (0, 0))) := by
            show _ = _
            rw [HO.out]
            congr 2
            refine fcells_congr fun j _ => ?_
            rw [HSN.out j, if_neg (by omega)]; rfl
          have W8 : IntKind.i64.wrap ((k : Int) + 1) = (k : Int) + 1 := IntWalk.i64_in _ (by omega)
          clear hs1 hs2 l1 l3 hw hln3 HO
          go_wp2_with fail
          go_quiet ((go_at_call 21; exact Calls.quiet_of_same (HI.out _)))
          rename_i nq
          have HB2 : Hid (Below W5.heap.size W5 (wr.drewN nq)) := ext_trans HB.out (ext_drewN _ _)
          have HO3 : Hid ((wr.drewN nq).heap[S]? = some (.cells (fcells n2 (fun j => iv (cntE (TT.take (k + 1)) j))) 3 (0, 0))) := HO2.out
          go_wp2
          go_roundw
          case rel => exact ⟨k + 1, by omega, by go_num, HO3.out, HB2.out⟩
          case measure => simp [intOf]; omega
        · subst htg
          rw [HL2.out] at hgg
          have hw : withE first ((gg : Int), tc2) = tc2 ++ [(first : Int) + (gg : Int)] := by unfold withE; rw [if_neg (by simp)]
          rw [hw] at hs2 l3
          have hl4 : tn = sn + 1 := by rw [← l3, ← l1, List.length_append]; rfl
          subst hl4
          obtain ⟨b3, o3, rfl, hb3⟩ := hs2.addr (by omega)
          have HI : Hid (∀ nq, Calls Try.prog 21 #[.slice sa sn sc, .slice (some ⟨b3, o3, none⟩) (sn + 1) tc] (wr.drewN nq) fun e w' => e = .returned (.bool false) ∧ w' = wr.drewN nq) := fun nq => by
            refine (ints14_any tc2 _ sa _ sn (sn + 1) sc tc (wr.drewN nq) (hs1.below (ext_drewN _ _)) (hs2.below (ext_drewN _ _)) (by omega) (by omega)).mono ?_
            rintro e w' ⟨he, hw⟩
            refine ⟨?_, hw⟩
            rw [he, decide_eq_false (fun e => by have := congrArg List.length e; simp at this)]
          obtain ⟨a9, ec9, hs9⟩ := hs2.cut 0 sn (Nat.zero_le _) (by omega)
          have htake : ((zvs (tc2 ++ [(first : Int) + (gg : Int)])).take sn).drop 0 = zvs tc2 := by rw [List.drop_zero, zvs_append, ← l1, ← zvs_len, List.take_left]
          rw [htake] at hs9
          simp only [Nat.sub_zero] at hs9 ec9
          have htcap := hs2.cap
          have qq := fun W => (run_upto (P := Try.prog) Try.underlying45 size_int W (some ⟨b3, o3, none⟩) (sn + 1) tc sn (sn : Int) rfl (by omega)).trans (congrArg (fun v => Result.ok v W) ec9)
          have HI9 : Hid (∀ W nq, Below wr.heap.size wr W → Calls Try.prog 21 #[.slice a9 sn tc, .slice sa sn sc] (W.drewN nq) fun e w' => e = .returned (.bool true) ∧ w' = W.drewN nq) := fun W nq hb => by
            refine (ints14_any tc2 tc2 a9 sa sn sn tc sc (W.drewN nq) ((hs9.below hb).below (ext_drewN _ _)) ((hs1.below hb).below (ext_drewN _ _)) (by omega) (by omega)).mono ?_
            rintro e w' ⟨he, hw⟩
            exact ⟨by rw [he]; simp, hw⟩
          have hcx : wr.cell? ⟨b3, o3 + sn, none⟩ = some (.int .i64 ((first : Int) + (gg : Int))) := by
            have h3 := hs2.z_at sn (by omega)
            rw [h3]
            congr 2
            rw [List.getD, List.getElem?_append_right (by omega), l1]
            simp
          have hf5 := HFL5.out
          have hcl := HCE.out gg
          have hco := (cell_of_block HO.out gg).trans (fcells_get _ _ _ hgg)
          have hfo := unfrozen_of_block HO.out gg
          unfold iv at hco
          obtain ⟨y, hy⟩ : ∃ y, y = first + gg := ⟨_, rfl⟩
          rw [show (first : Int) + (gg : Int) = (y : Int) by omega] at hcx
          have WK : IntKind.i64.wrap ((sn : Int) + 1) = (sn : Int) + 1 := IntWalk.i64_in _ (by omega)
          have W8 : IntKind.i64.wrap ((k : Int) + 1) = (k : Int) + 1 := IntWalk.i64_in _ (by omega)
          obtain ⟨fg, hfg⟩ : ∃ n, n = first + n2 := ⟨_, rfl⟩
          have WG : IntKind.i64.wrap ((first : Int) + (n2 : Int)) = (fg : Int) := by rw [show (first : Int) + (n2 : Int) = (fg : Int) by omega]; exact IntWalk.i64_in _ (by omega)
          have WY : IntKind.i64.wrap ((y : Int) - (first : Int)) = (gg : Int) := by rw [show (y : Int) - (first : Int) = (gg : Int) by omega]; exact IntWalk.i64_in _ (by omega)
          have d1 : decide ((y : Int) < (first : Int)) = false := by simp; omega
          have d2 : decide (y < first) = false := by simp; omega
          have d3 : decide ((fg : Int) ≤ (y : Int)) = false := by simp; omega
          have d4 : decide (fg ≤ y) = false := by simp; omega
          have hK1 : (0 : Int) ≤ (sn : Int) := by omega
          have hK2 : (sn : Int) < (sn : Int) + 1 := by omega
          have hG1 : (0 : Int) ≤ (gg : Int) := by omega
          have hG2 : (gg : Int) < (n2 : Int) := by omega
          obtain ⟨cn, hcn⟩ : ∃ n, n = cntE (TT.take k) gg := ⟨_, rfl⟩
          rw [← hcn] at hco hcl
          have WC : IntKind.i64.wrap ((cn : Int) + 1) = (cn : Int) + 1 := IntWalk.i64_in _ (by omega)
          have HCN := Lib.hid hcn
          have HGG : Hid (gg < n2) := hgg
          clear hs1 hs2 l1 l3 hw hln3 hs9 htake hy hfg hf5 hcl hcn hgg htcap ec9 hb3
          go_wp2_with fail
          go_quiet ((go_at_call 21; exact Calls.quiet_of_same (HI.out _)))
          rename_i nq
          generalize hWq : wr.drewN nq = Wq
          have HBq : Hid (Below wr.heap.size wr Wq) := by subst hWq; exact ext_drewN _ _
          have hc1q : Wq.cell? ⟨b1, o1 + k, none⟩ = some (.slice sa sn sc) := by subst hWq; exact hc1
          have hc2q : Wq.cell? ⟨b2, o2 + k, none⟩ = some (.slice (some ⟨b3, o3, none⟩) (sn + 1) tc) := by subst hWq; exact hc2
          have hcxq : Wq.cell? ⟨b3, o3 + sn, none⟩ = some (.int .i64 (y : Int)) := by subst hWq; exact hcx
          have hcoq : Wq.cell? ⟨S, gg, none⟩ = some (.int .i64 (cn : Int)) := by subst hWq; exact hco
          have hfoq : Wq.frozen? ⟨S, gg, none⟩ = false := by subst hWq; exact hfo
          have HOq : Hid (Wq.heap[S]? = some (.cells (fcells n2 (fun j => iv (cntE (TT.take k) j))) 3 (0, 0))) := by subst hWq; exact HO.out
          have HI9q : Hid (∀ nq, Calls Try.prog 21 #[.slice a9 sn tc, .slice sa sn sc] (Wq.drewN nq) fun e w' => e = .returned (.bool true) ∧ w' = Wq.drewN nq) := fun nq => HI9.out Wq nq HBq.out
          clear hWq hc1 hc2 hcx hco hfo HO HI HI9
          go_wp2_with fail
          go_quiet ((go_at_call 21; exact Calls.quiet_of_same (HI9q.out _)))
          generalize hWq : World.drewN Wq _ = Wz
          have HBz : Hid (Below wr.heap.size wr Wz) := by subst hWq; exact ext_trans HBq.out (ext_drewN _ _)
          have hc2z : Wz.cell? ⟨b2, o2 + k, none⟩ = some (.slice (some ⟨b3, o3, none⟩) (sn + 1) tc) := by subst hWq; exact hc2q
          have hcxz : Wz.cell? ⟨b3, o3 + sn, none⟩ = some (.int .i64 (y : Int)) := by subst hWq; exact hcxq
          have hcoz : Wz.cell? ⟨S, gg, none⟩ = some (.int .i64 (cn : Int)) := by subst hWq; exact hcoq
          have hfoz : Wz.frozen? ⟨S, gg, none⟩ = false := by subst hWq; exact hfoq
          have HOz : Hid (Wz.heap[S]? = some (.cells (fcells n2 (fun j => iv (cntE (TT.take k) j))) 3 (0, 0))) := by subst hWq; exact HOq.out
          clear hWq hc1q hc2q hcxq hcoq hfoq HOq HI9q qq
          have HO2 : Hid ((Wz.setCell ⟨S, gg, none⟩ (.int .i64 ((cn : Int) + 1))).heap[S]? = some (.cells (fcells n2 (fun j => iv (cntE (TT.take (k + 1)) j))) 3 (0, 0))) := by
            have h1 := block_setCell HOz.out (i := gg) (.int .i64 ((cn : Int) + 1))
            rw [fcells_set] at h1
            show _ = _
            rw [h1]
            congr 2
            refine fcells_congr fun j _ => ?_
            rw [HSN.out j]
            by_cases e : j = gg
            · subst e; rw [if_pos rfl, if_pos rfl, ← HCN.out]; unfold iv; simp
            · rw [if_neg e, if_neg (by omega)]; rfl
          have HB2 : Hid (Below W5.heap.size W5 (Wz.setCell ⟨S, gg, none⟩ (.int .i64 ((cn : Int) + 1)))) := (ext_trans HB.out HBz.out).setCell (p := ⟨S, gg, none⟩) (by rw [HSS.out]; exact Nat.le_refl _) _
          clear HOz
          go_wp2
          go_roundw
          case rel => exact ⟨k + 1, by omega, by go_num, HO2.out, HB2.out⟩
          case measure => simp [intOf]; omega
      · obtain rfl : rn = k := by omega
        have hO3 : wr.heap[S]? = some (.cells (fcells n2 (fun _ => iv (3 * nf))) 3 (0, 0)) := by
          rw [hO.out]
          congr 2
          refine fcells_congr fun j hj => ?_
          rw [← HLZ.out, List.take_length, HF.out.cnt j (by rw [HL2.out]; exact hj)]
        have HO3 := Lib.hid hO3
        have HB3 := Lib.hid hB.out
        clear hO hB hO3
        go_wp2_with fail
        go_loop [150] (fun i => ∃ j : Nat, j ≤ n2 ∧ i = .int .i64 j) (fun i => n2 - (intOf i).toNat)
        case atStart => exact ⟨0, Nat.zero_le _, rfl⟩
        case round =>
          obtain ⟨j, hj, rfl⟩ := hrel
          by_cases hlt2 : j < n2
          · have hco := (cell_of_block HO3.out j).trans (fcells_get _ _ _ hlt2)
            unfold iv at hco
            have hG1 : (0 : Int) ≤ (j : Int) := by omega
            have hG2 : (j : Int) < (n2 : Int) := by omega
            have W8 : IntKind.i64.wrap ((j : Int) + 1) = (j : Int) + 1 := IntWalk.i64_in _ (by have := HNF.out; omega)
            go_wp2
            go_round
            case rel => exact ⟨j + 1, by omega, by go_num⟩
            case measure => simp [intOf]; omega
          · obtain rfl : n2 = j := by omega
            have hBB := Lib.hid (ext_trans HB5.out HB3.out)
            go_wp2_with fail
            refine (lives14_any wr).mono ?_
            rintro e W9 ⟨rfl, hb⟩
            have HB9 := Lib.hid (ext_trans hBB.out hb)
            clear hb
            go_wp2
            go_ret
            exact ⟨rfl, HB9.out⟩
end Go.Proofs.Ytcoehbkjccfhlaa
