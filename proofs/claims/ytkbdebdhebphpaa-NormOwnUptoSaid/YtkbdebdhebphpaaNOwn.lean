/- The law NormOwn, by its walk. -/
import Derived.Test.YtkbdebdhebphpaaNLives
import Derived.Test.YtkbdebdhebphpaaNCopyTr
import Derived.Test.YtkbdebdhebphpaaNSameC
import Derived.Test.YtkbdebdhebphpaaNTab
import Derived.Test.YtkbdebdhebphpaaNGreat
import Derived.Test.YtkbdebdhebphpaaNWrap
import Derived.Test.YtkbdebdhebphpaaNOwnA
import Derived.Test.YtkbdebdhebphpaaNOwnB
namespace Go.Proofs.Ytkbdebdhebphpaa
open Go Go.RowKit Go.Joins

set_option maxRecDepth 100000 in
set_option maxHeartbeats 25600000 in
theorem own_any (c : NormC) (t : TraceC) (r : RawC) (sc : CSlots) (st : TSlots) (sr : Slots) (w : World) (hc : SeesCir w sc c) (ht : SeesTr w st t) (hr : SeesRaw w sr r) (hsc : sc.small) (hst : st.small) (hsr : sr.small)
    (hlo : -9223372036854775808 ≤ c.ins) (hhi : c.ins < 9223372036854775808) (hb1 : -9223372036854775808 ≤ t.bad ∧ t.bad < 9223372036854775808) (hw : Wide c) :
    Calls Try.prog 6 #[cirV c.ins sc, traceV t.bad st, rawV r.max sr] w fun e w' => e = .returned (.bool true) ∧ Below w.heap.size w w' := by
  have HG := Lib.hid (fun W (hb : Below w.heap.size w W) => great3_any c sc W (hc.below hb) hsc)
  have HCP := Lib.hid (fun W (hb : Below w.heap.size w W) => copy_any c sc W (hc.below hb) hsc hw)
  have HCT := Lib.hid (fun W (hb : Below w.heap.size w W) => copytr_any t st W (ht.below hb) hst)
  obtain ⟨a1, n1, c1, a2, n2, c2, a3, n3, c3, a4, n4, c4, a5, n5, c5⟩ := sc
  obtain ⟨b1, m1, d1, b2, m2, d2, ss⟩ := st
  obtain ⟨r1, k1, f1, r2, k2, f2, r3, k3, f3, r4, k4, f4, r5, k5, f5, r6, k6, f6⟩ := sr
  obtain ⟨z, hz⟩ : ∃ z, z = c.ins := ⟨_, rfl⟩
  obtain ⟨bad, hbad⟩ : ∃ z, z = t.bad := ⟨_, rfl⟩
  obtain ⟨rm, hrm⟩ : ∃ z, z = r.max := ⟨_, rfl⟩
  obtain ⟨q, hq⟩ : ∃ q, q = greatC c := ⟨_, rfl⟩
  rw [← hz] at HG HCP
  rw [← hq] at HG
  rw [← hbad] at HCT
  rw [← hz, ← hbad, ← hrm]
  have hm2 : m2 ≤ 1048576 := hst.n2
  have hk6 : k6 ≤ 1048576 := hsr.n6
  have HZ := Lib.hid hz
  have HBAD := Lib.hid hbad
  have HRM := Lib.hid hrm
  have HC := Lib.hid hc
  have HT := Lib.hid ht
  have HR := Lib.hid hr
  have HSC := Lib.hid hsc
  have HST := Lib.hid hst
  have HSR := Lib.hid hsr
  have HLO := Lib.hid hlo
  have HHI := Lib.hid hhi
  have HB12 := Lib.hid hb1
  have HWD := Lib.hid hw
  clear hz hbad hrm hc ht hr hsc hst hsr hlo hhi hb1 hw hq
  unfold cirV traceV rawV at *
  go_enter Try.func6, Try.ntmps6
  go_wp2_with fail
  generalize hW : World.alloc (World.alloc (World.alloc w _) _) _ = W0
  have B0 : Below w.heap.size w W0 := by subst hW; exact ext_trans (ext_alloc _ _) (ext_trans (ext_alloc _ _) (ext_alloc _ _))
  have x1 : W0.heap[w.heap.size]? = some (.cells #[.int .i64 z, .slice a1 n1 c1, .slice a2 n2 c2, .slice a3 n3 c3, .slice a4 n4 c4, .slice a5 n5 c5] 26 (0, 0)) := by subst hW; exact heap_below (heap_below (heap_new _ _ _ rfl) (ext_alloc _ _)) (ext_alloc _ _)
  have x2 : W0.heap[w.heap.size + 1]? = some (.cells #[.int .i64 bad, .slice b1 m1 d1, .slice b2 m2 d2] 30 (0, 0)) := by subst hW; exact heap_below (heap_new _ _ _ (by simp)) (ext_alloc _ _)
  have x3 : W0.heap[w.heap.size + 1 + 1]? = some (.cells #[.int .u32 rm, .slice r1 k1 f1, .slice r2 k2 f2, .slice r3 k3 f3, .slice r4 k4 f4, .slice r5 k5 f5, .slice r6 k6 f6] 37 (0, 0)) := by subst hW; exact heap_new _ _ _ (by simp)
  clear hW
  refine (HG.out W0 B0).mono ?_
  rintro e W1 ⟨rfl, hb⟩
  have X1 := Lib.hid (heap_below x1 hb)
  have X2 := Lib.hid (heap_below x2 hb)
  have X3 := Lib.hid (heap_below x3 hb)
  have HB1 := Lib.hid (ext_trans B0 hb)
  clear x1 x2 x3 B0 hb HG
  cases q with
  | true =>
    go_wp2_with fail
    refine (lives3_any W1).mono ?_
    rintro e W2 ⟨rfl, hb⟩
    have HB2 := Lib.hid (ext_trans HB1.out hb)
    clear hb
    go_wp2
    go_ret
    exact ⟨rfl, HB2.out⟩
  | false =>
  have p2 : W1.cell? ⟨w.heap.size + 1, 2, none⟩ = some (.slice b2 m2 d2) := cell_of_block X2.out 2
  by_cases ht1 : 300 < m2
  · have e1 : decide ((300 : Int) < (m2 : Int)) = true := by simp; omega
    go_wp2_with fail
    refine (lives3_any W1).mono ?_
    rintro e W2 ⟨rfl, hb⟩
    have HB2 := Lib.hid (ext_trans HB1.out hb)
    clear hb
    go_wp2
    go_ret
    exact ⟨rfl, HB2.out⟩
  have e1 : decide ((300 : Int) < (m2 : Int)) = false := by simp; omega
  have p6 : W1.cell? ⟨w.heap.size + 1 + 1, 6, none⟩ = some (.slice r6 k6 f6) := cell_of_block X3.out 6
  by_cases ht2 : 300 < k6
  · have e2 : decide ((300 : Int) < (k6 : Int)) = true := by simp; omega
    go_wp2_with fail
    refine (lives3_any W1).mono ?_
    rintro e W2 ⟨rfl, hb⟩
    have HB2 := Lib.hid (ext_trans HB1.out hb)
    clear hb
    go_wp2
    go_ret
    exact ⟨rfl, HB2.out⟩
  have e2 : decide ((300 : Int) < (k6 : Int)) = false := by simp; omega
  go_wp2_with fail
  clear p2 p6 e1 e2 ht1 ht2
  go_upto_region 3 with fail
  have HELDB : Hid (∀ W, Below W1.heap.size W1 W → (W.cell? ⟨w.heap.size, 0, none⟩ = some (.int .i64 z) ∧ W.cell? ⟨w.heap.size, 1, none⟩ = some (.slice a1 n1 c1) ∧ W.cell? ⟨w.heap.size, 2, none⟩ = some (.slice a2 n2 c2) ∧ W.cell? ⟨w.heap.size, 3, none⟩ = some (.slice a3 n3 c3) ∧ W.cell? ⟨w.heap.size, 4, none⟩ = some (.slice a4 n4 c4) ∧ W.cell? ⟨w.heap.size, 5, none⟩ = some (.slice a5 n5 c5) ∧ W.cell? ⟨w.heap.size + 1, 0, none⟩ = some (.int .i64 bad) ∧ W.cell? ⟨w.heap.size + 1, 1, none⟩ = some (.slice b1 m1 d1) ∧ W.cell? ⟨w.heap.size + 1, 2, none⟩ = some (.slice b2 m2 d2))) := fun W hb => ⟨cell_of_block (heap_below X1.out hb) 0, cell_of_block (heap_below X1.out hb) 1, cell_of_block (heap_below X1.out hb) 2, cell_of_block (heap_below X1.out hb) 3, cell_of_block (heap_below X1.out hb) 4, cell_of_block (heap_below X1.out hb) 5, cell_of_block (heap_below X2.out hb) 0, cell_of_block (heap_below X2.out hb) 1, cell_of_block (heap_below X2.out hb) 2⟩
  have E1 : Hid (∀ W, Below W1.heap.size W1 W → Calls Try.prog 22 #[.agg #[.int .i64 z, .slice a1 n1 c1, .slice a2 n2 c2, .slice a3 n3 c3, .slice a4 n4 c4, .slice a5 n5 c5]] W fun e w' => ∃ s' : CSlots, e = .returned (.agg #[.int .i64 z, .slice s'.a1 s'.n1 s'.c1, .slice s'.a2 s'.n2 s'.c2, .slice s'.a3 s'.n3 s'.c3, .slice s'.a4 s'.n4 s'.c4, .slice s'.a5 s'.n5 s'.c5]) ∧ OwnCir w' W.heap.size s' c ∧ Below W.heap.size W w') := fun W hb => HCP.out W (ext_trans HB1.out hb)
  have E2 : Hid (∀ W, Below W1.heap.size W1 W → Calls Try.prog 23 #[.agg #[.int .i64 bad, .slice b1 m1 d1, .slice b2 m2 d2]] W fun e w' => ∃ s' : TSlots, e = .returned (.agg #[.int .i64 bad, .slice s'.a1 s'.n1 s'.c1, .slice s'.a2 s'.n2 s'.c2]) ∧ OwnTr w' W.heap.size s' t ∧ Below W.heap.size W w') := fun W hb => HCT.out W (ext_trans HB1.out hb)
  have hw1 : w.heap.size + 1 + 1 < W1.heap.size := heap_lt X3.out
  go_cut [7, 8] from 43 (fun p7 p8 wx => ∃ (G7 G8 : Nat) (sx : CSlots) (sy : TSlots), p7 = .pointer (some ⟨G7, 0, .none⟩) ∧ p8 = .pointer (some ⟨G8, 0, .none⟩) ∧ Hid (Two W1 z bad c t G7 G8 sx sy wx))
  case first =>
    refine reg_NOwnA c t z bad w.heap.size (w.heap.size + 1) ⟨a1, n1, c1, a2, n2, c2, a3, n3, c3, a4, n4, c4, a5, n5, c5⟩ ⟨b1, m1, d1, b2, m2, d2, ss⟩ W1 HELDB E1 E2 _ _ ?_
    intro G7 G8 sx sy wx _ _ _ _ HTWx
    go_wp2_with fail
    go_meet
    exact ⟨_, _, _, _, rfl, rfl, HTWx⟩
  case rest =>
    obtain ⟨G7, G8, sx, sy, rfl, rfl, hTW⟩ := hcut
    obtain ⟨wa, hwa⟩ : ∃ wa : World, wa = wc := ⟨_, rfl⟩
    subst hwa
    have HTW := hTW
    clear hTW
    have hsxs : sx.small := HTW.out.oc.small ⟨by have := HSC.out.n1; have := HC.out.s1.1; simp only at *; omega, by have := HSC.out.n2; have := HC.out.s2.1; simp only at *; omega, by have := HSC.out.n3; have := HC.out.s3.lenMap; simp only at *; omega, by have := HSC.out.n4; have := HC.out.s4.lenMap; simp only at *; omega, by have := HSC.out.n5; have := HC.out.s5.lenMap; simp only at *; omega⟩
    have hsys : sy.small := HTW.out.ot.small HT.out HST.out
    have HSXS := Lib.hid hsxs
    have HSYS := Lib.hid hsys
    have hbw : Below w.heap.size w wa := ext_trans HB1.out HTW.out.bel
    have HBW := Lib.hid hbw
    have Y1 := Lib.hid (heap_below X1.out HTW.out.bel)
    have Y2 := Lib.hid (heap_below X2.out HTW.out.bel)
    have Y3 := Lib.hid (heap_below X3.out HTW.out.bel)
    obtain ⟨cu, hcu⟩ : ∃ cu, cu = ofC r := ⟨_, rfl⟩
    obtain ⟨iu, hiu⟩ : ∃ iu, iu = cu.ins := ⟨_, rfl⟩
    have HRAW : Hid (Calls Try.prog 9 #[.agg #[.int .i64 z, .slice sx.a1 sx.n1 sx.c1, .slice sx.a2 sx.n2 sx.c2, .slice sx.a3 sx.n3 sx.c3, .slice sx.a4 sx.n4 sx.c4, .slice sx.a5 sx.n5 sx.c5]] wa fun e w' => ∃ (m : Nat) (s9 : Slots) (e0 : Int), e = .returned (.tuple #[.agg #[.int .u32 m, .slice s9.a1 s9.n1 s9.c1, .slice s9.a2 s9.n2 s9.c2, .slice s9.a3 s9.n3 s9.c3, .slice s9.a4 s9.n4 s9.c4, .slice s9.a5 s9.n5 s9.c5, .slice s9.a6 s9.n6 s9.c6], .int .i64 e0]) ∧ (∃ xs, Row isU32 w' wa.heap.size 33 (.slice s9.a3 s9.n3 s9.c3) s9.n3 xs) ∧ (∃ xs, Row isU32 w' wa.heap.size 33 (.slice s9.a4 s9.n4 s9.c4) s9.n4 xs) ∧ s9.n3 ≤ 1048576 ∧ s9.n4 ≤ 1048576 ∧ Below wa.heap.size wa w') := by
      have h := raw3_own c sx wa HTW.out.oc.sees hsxs HLO.out HHI.out HWD.out
      rw [← HZ.out] at h
      exact h
    have HOF : Hid (∀ W, Below w.heap.size w W → Calls Try.prog 24 #[.agg #[.int .u32 rm, .slice r1 k1 f1, .slice r2 k2 f2, .slice r3 k3 f3, .slice r4 k4 f4, .slice r5 k5 f5, .slice r6 k6 f6]] W fun e w' => ∃ (s' : CSlots) (e0 : Int), e = .returned (.tuple #[.agg #[.int .i64 iu, .slice s'.a1 s'.n1 s'.c1, .slice s'.a2 s'.n2 s'.c2, .slice s'.a3 s'.n3 s'.c3, .slice s'.a4 s'.n4 s'.c4, .slice s'.a5 s'.n5 s'.c5], .int .i64 e0]) ∧ OwnCir w' W.heap.size s' cu ∧ Below W.heap.size W w') := fun W hb => by
      have h := of_own r ⟨r1, k1, f1, r2, k2, f2, r3, k3, f3, r4, k4, f4, r5, k5, f5, r6, k6, f6⟩ W (HR.out.below hb) HSR.out
      rw [← HRM.out, ← hcu, ← hiu] at h
      exact h
    have HCU := Lib.hid hcu
    have HIU := Lib.hid hiu
    clear hsxs hsys hbw hcu hiu E1 E2 HELDB
    have hw3 : w.heap.size + 1 + 1 < wa.heap.size := heap_lt Y3.out
    have p0 : wa.cell? ⟨G7, 0, none⟩ = some (.int .i64 z) := cell_of_block HTW.out.cir 0
    have p1 : wa.cell? ⟨G7, 1, none⟩ = some (.slice sx.a1 sx.n1 sx.c1) := cell_of_block HTW.out.cir 1
    have p2 : wa.cell? ⟨G7, 2, none⟩ = some (.slice sx.a2 sx.n2 sx.c2) := cell_of_block HTW.out.cir 2
    have p3 : wa.cell? ⟨G7, 3, none⟩ = some (.slice sx.a3 sx.n3 sx.c3) := cell_of_block HTW.out.cir 3
    have p4 : wa.cell? ⟨G7, 4, none⟩ = some (.slice sx.a4 sx.n4 sx.c4) := cell_of_block HTW.out.cir 4
    have p5 : wa.cell? ⟨G7, 5, none⟩ = some (.slice sx.a5 sx.n5 sx.c5) := cell_of_block HTW.out.cir 5
    go_wp2_with fail
    refine HRAW.out.mono ?_
    rintro e V1 ⟨m9, s9, e9, rfl, hr3, hr4, hn3, hn4, hb⟩
    have HB1c := Lib.hid hb
    have H3 := Lib.hid hr3
    have H4 := Lib.hid hr4
    have hw4 := Nat.lt_of_lt_of_le hw3 hb.size
    have hY3 := heap_below Y3.out hb
    clear p0 p1 p2 p3 p4 p5 hr3 hr4 hb HRAW
    have p0 : V1.cell? ⟨w.heap.size + 1 + 1, 0, none⟩ = some (.int .u32 rm) := cell_of_block hY3 0
    have p1 : V1.cell? ⟨w.heap.size + 1 + 1, 1, none⟩ = some (.slice r1 k1 f1) := cell_of_block hY3 1
    have p2 : V1.cell? ⟨w.heap.size + 1 + 1, 2, none⟩ = some (.slice r2 k2 f2) := cell_of_block hY3 2
    have p3 : V1.cell? ⟨w.heap.size + 1 + 1, 3, none⟩ = some (.slice r3 k3 f3) := cell_of_block hY3 3
    have p4 : V1.cell? ⟨w.heap.size + 1 + 1, 4, none⟩ = some (.slice r4 k4 f4) := cell_of_block hY3 4
    have p5 : V1.cell? ⟨w.heap.size + 1 + 1, 5, none⟩ = some (.slice r5 k5 f5) := cell_of_block hY3 5
    have p6 : V1.cell? ⟨w.heap.size + 1 + 1, 6, none⟩ = some (.slice r6 k6 f6) := cell_of_block hY3 6
    clear hY3
    go_wp2_with fail
    generalize hV : World.alloc V1 _ = U1
    have hb : Below V1.heap.size V1 U1 := by subst hV; exact ext_alloc _ _
    have B9 : Hid (U1.heap[V1.heap.size]? = some (.cells #[.int .u32 m9, .slice s9.a1 s9.n1 s9.c1, .slice s9.a2 s9.n2 s9.c2, .slice s9.a3 s9.n3 s9.c3, .slice s9.a4 s9.n4 s9.c4, .slice s9.a5 s9.n5 s9.c5, .slice s9.a6 s9.n6 s9.c6] 37 (0, 0))) := by show _ = _; subst hV; exact heap_new _ _ _ rfl
    have HU1 := Lib.hid (ext_trans HB1c.out hb)
    have HV1 := Lib.hid hb
    clear hV hb p0 p1 p2 p3 p4 p5 p6
    refine (HOF.out U1 (ext_trans HBW.out HU1.out)).mono ?_
    rintro e V2 ⟨sd, ed, rfl, hod, hb⟩
    have HOD := Lib.hid hod
    have HV2 := Lib.hid hb
    have HU1V2 := Lib.hid (ext_trans HU1.out hb)
    have hw5 := Nat.lt_of_lt_of_le hw3 HU1V2.out.size
    have hY3 := heap_below Y3.out HU1V2.out
    clear hod hb
    have p0 : V2.cell? ⟨w.heap.size + 1 + 1, 0, none⟩ = some (.int .u32 rm) := cell_of_block hY3 0
    have p1 : V2.cell? ⟨w.heap.size + 1 + 1, 1, none⟩ = some (.slice r1 k1 f1) := cell_of_block hY3 1
    have p2 : V2.cell? ⟨w.heap.size + 1 + 1, 2, none⟩ = some (.slice r2 k2 f2) := cell_of_block hY3 2
    have p3 : V2.cell? ⟨w.heap.size + 1 + 1, 3, none⟩ = some (.slice r3 k3 f3) := cell_of_block hY3 3
    have p4 : V2.cell? ⟨w.heap.size + 1 + 1, 4, none⟩ = some (.slice r4 k4 f4) := cell_of_block hY3 4
    have p5 : V2.cell? ⟨w.heap.size + 1 + 1, 5, none⟩ = some (.slice r5 k5 f5) := cell_of_block hY3 5
    have p6 : V2.cell? ⟨w.heap.size + 1 + 1, 6, none⟩ = some (.slice r6 k6 f6) := cell_of_block hY3 6
    clear hY3
    go_wp2_with fail
    generalize hV : World.alloc V2 _ = U2
    have hb : Below V2.heap.size V2 U2 := by subst hV; exact ext_alloc _ _
    have B11 : Hid (U2.heap[V2.heap.size]? = some (.cells #[.int .i64 iu, .slice sd.a1 sd.n1 sd.c1, .slice sd.a2 sd.n2 sd.c2, .slice sd.a3 sd.n3 sd.c3, .slice sd.a4 sd.n4 sd.c4, .slice sd.a5 sd.n5 sd.c5] 26 (0, 0))) := by show _ = _; subst hV; exact heap_new _ _ _ rfl
    have HU2 := Lib.hid (ext_trans HU1V2.out hb)
    have HV2U := Lib.hid hb
    clear hV hb p0 p1 p2 p3 p4 p5 p6
    refine (HOF.out U2 (ext_trans HBW.out HU2.out)).mono ?_
    rintro e V3 ⟨su, eu, rfl, hou, hb⟩
    have hb3 := ext_trans HU2.out hb
    have hbd := ext_trans HV2U.out hb
    have HEX : Hid (∀ U3 : World, Below V3.heap.size V3 U3 → U3.heap[V3.heap.size]? = some (.cells #[.int .i64 iu, .slice su.a1 su.n1 su.c1, .slice su.a2 su.n2 su.c2, .slice su.a3 su.n3 su.c3, .slice su.a4 su.n4 su.c4, .slice su.a5 su.n5 su.c5] 26 (0, 0)) → EX wa V1.heap.size V2.heap.size #[.int .u32 m9, .slice s9.a1 s9.n1 s9.c1, .slice s9.a2 s9.n2 s9.c2, .slice s9.a3 s9.n3 s9.c3, .slice s9.a4 s9.n4 s9.c4, .slice s9.a5 s9.n5 s9.c5, .slice s9.a6 s9.n6 s9.c6] #[.int .i64 iu, .slice sd.a1 sd.n1 sd.c1, .slice sd.a2 sd.n2 sd.c2, .slice sd.a3 sd.n3 sd.c3, .slice sd.a4 sd.n4 sd.c4, .slice sd.a5 sd.n5 sd.c5] (.slice s9.a3 s9.n3 s9.c3) (.slice s9.a4 s9.n4 s9.c4) (.slice sd.a3 sd.n3 sd.c3) s9.n3 s9.n4 sd.n3 U2.heap.size su cu V3.heap.size U3) := fun U3 hu h13 => by
      have b13 := ext_trans (ext_trans HV1.out HV2.out) (ext_trans hbd hu)
      have ed := (row_sees_slice HOD.out.o3).1
      obtain ⟨x3, e3⟩ := H3.out
      obtain ⟨x4, e4⟩ := H4.out
      refine ⟨heap_below B9.out (ext_trans HV2.out (ext_trans hbd hu)), heap_below B11.out (ext_trans hb hu), by unfold cirCells; rw [← HIU.out]; exact h13, ⟨x3, e3.below b13⟩, ⟨x4, e4.below b13⟩, ?_, ?_, ?_, ?_, (hou.below hu), ext_trans hb3 hu⟩
      · refine ⟨_, ((by rw [ed]; exact ed ▸ HOD.out.o3 : Row isU32 V2 U1.heap.size 33 (.slice sd.a3 sd.n3 sd.c3) sd.n3 _).below (ext_trans hbd hu)).base_le HU1.out.size⟩
      · intro g hg
        have h1 := (e3.own.lt g hg).2
        have h2 := (ext_trans HV1.out (ext_trans HV2.out HV2U.out)).size
        omega
      · intro g hg
        have h1 := (e4.own.lt g hg).2
        have h2 := (ext_trans HV1.out (ext_trans HV2.out HV2U.out)).size
        omega
      · intro g hg
        have h1 := (HOD.out.o3.own.lt g hg).2
        have h2 := HV2U.out.size
        omega
    have hnd : sd.n3 ≤ 1048576 := by
      have h1 := HOD.out.sees.s3.lenMap
      have h2 := (ofC_small r).2.2.1
      rw [← HCU.out] at h2
      omega
    have HV3 := Lib.hid hb3
    have hltV1 : V1.heap.size < V3.heap.size := by have h1 := heap_lt B9.out; have h2 := (ext_trans HV2.out (ext_trans HV2U.out hb)).size; omega
    have hltV2 : V2.heap.size < V3.heap.size := by have h1 := heap_lt B11.out; have h2 := hb.size; omega
    have q93 : V3.cell? ⟨V1.heap.size, 3, none⟩ = some (.slice s9.a3 s9.n3 s9.c3) := cell_of_block (heap_below B9.out (ext_trans HV2.out (ext_trans HV2U.out hb))) 3
    clear hou hb hb3 hbd
    go_wp2_with fail
    generalize hV : World.alloc V3 _ = U3
    have HI : Hid (EX wa V1.heap.size V2.heap.size #[.int .u32 m9, .slice s9.a1 s9.n1 s9.c1, .slice s9.a2 s9.n2 s9.c2, .slice s9.a3 s9.n3 s9.c3, .slice s9.a4 s9.n4 s9.c4, .slice s9.a5 s9.n5 s9.c5, .slice s9.a6 s9.n6 s9.c6] #[.int .i64 iu, .slice sd.a1 sd.n1 sd.c1, .slice sd.a2 sd.n2 sd.c2, .slice sd.a3 sd.n3 sd.c3, .slice sd.a4 sd.n4 sd.c4, .slice sd.a5 sd.n5 sd.c5] (.slice s9.a3 s9.n3 s9.c3) (.slice s9.a4 s9.n4 s9.c4) (.slice sd.a3 sd.n3 sd.c3) s9.n3 s9.n4 sd.n3 U2.heap.size su cu V3.heap.size U3) := by
      show EX _ _ _ _ _ _ _ _ _ _ _ _ _ _ _ _
      subst hV
      exact HEX.out _ (ext_alloc _ _) (heap_new _ _ _ rfl)
    clear hV q93 HEX
    go_loopw [65] (fun i wr => ∃ (k : Nat), k ≤ s9.n3 ∧ i = .int .i64 k ∧ Hid (EX wa V1.heap.size V2.heap.size #[.int .u32 m9, .slice s9.a1 s9.n1 s9.c1, .slice s9.a2 s9.n2 s9.c2, .slice s9.a3 s9.n3 s9.c3, .slice s9.a4 s9.n4 s9.c4, .slice s9.a5 s9.n5 s9.c5, .slice s9.a6 s9.n6 s9.c6] #[.int .i64 iu, .slice sd.a1 sd.n1 sd.c1, .slice sd.a2 sd.n2 sd.c2, .slice sd.a3 sd.n3 sd.c3, .slice sd.a4 sd.n4 sd.c4, .slice sd.a5 sd.n5 sd.c5] (.slice s9.a3 s9.n3 s9.c3) (.slice s9.a4 s9.n4 s9.c4) (.slice sd.a3 sd.n3 sd.c3) s9.n3 s9.n4 sd.n3 U2.heap.size su cu V3.heap.size wr))
      (fun i _ => s9.n3 - (intOf i).toNat)
    case atStart => exact ⟨0, Nat.zero_le _, rfl, HI.out⟩
    case round =>
      clear HI
      obtain ⟨k, hk, rfl, hI⟩ := hrel
      by_cases hlt : k < s9.n3
      · obtain ⟨xs, hrow⟩ := hI.out.r3
        obtain ⟨g, cur, ha, hbg, hh, hcur, hok⟩ := hrow.blockAt (by omega)
        obtain ⟨x, hx, hcell⟩ := isU32_cell hh (show k < cur.size by omega) hok
        obtain ⟨y, hy, hwr⟩ := wrap_u32 x
        have hfz := unfrozen_of_block hh k
        have hbox : wr.cell? ⟨V1.heap.size, 3, none⟩ = some (.slice s9.a3 s9.n3 s9.c3) := cell_of_block hI.out.box9 3
        rw [ha] at hbox
        have hgu := hI.out.l3 g (by rw [ha]; rfl)
        have HI2 := Lib.hid (hI.out.step (k := k) hh hbg hgu hy)
        have W1' : IntKind.i64.wrap ((k : Int) + 1) = (k : Int) + 1 := IntWalk.i64_in _ (by omega)
        clear hI hrow ha hh hok hbg hcur hgu
        go_wp2
        go_roundw
        case rel => exact ⟨k + 1, by omega, by go_num, HI2.out⟩
        case measure => simp [intOf]; omega
      · obtain rfl : k = s9.n3 := by omega
        obtain ⟨wo, hwo⟩ : ∃ wo : World, wo = wr := ⟨_, rfl⟩
        subst hwo
        have HI := hI
        clear hI hlt hk
        have q : wo.cell? ⟨V1.heap.size, 4, none⟩ = some (.slice s9.a4 s9.n4 s9.c4) := cell_of_block HI.out.box9 4
        have q3 : wo.cell? ⟨V1.heap.size, 3, none⟩ = some (.slice s9.a3 s9.n3 s9.c3) := cell_of_block HI.out.box9 3
        go_wp2
        clear q q3
        go_loopw [79] (fun i wr => ∃ (k : Nat), k ≤ s9.n4 ∧ i = .int .i64 k ∧ Hid (EX wa V1.heap.size V2.heap.size #[.int .u32 m9, .slice s9.a1 s9.n1 s9.c1, .slice s9.a2 s9.n2 s9.c2, .slice s9.a3 s9.n3 s9.c3, .slice s9.a4 s9.n4 s9.c4, .slice s9.a5 s9.n5 s9.c5, .slice s9.a6 s9.n6 s9.c6] #[.int .i64 iu, .slice sd.a1 sd.n1 sd.c1, .slice sd.a2 sd.n2 sd.c2, .slice sd.a3 sd.n3 sd.c3, .slice sd.a4 sd.n4 sd.c4, .slice sd.a5 sd.n5 sd.c5] (.slice s9.a3 s9.n3 s9.c3) (.slice s9.a4 s9.n4 s9.c4) (.slice sd.a3 sd.n3 sd.c3) s9.n3 s9.n4 sd.n3 U2.heap.size su cu V3.heap.size wr))
          (fun i _ => s9.n4 - (intOf i).toNat)
        case atStart => exact ⟨0, Nat.zero_le _, rfl, HI.out⟩
        case round =>
          clear HI
          obtain ⟨k, hk, rfl, hI⟩ := hrel
          by_cases hlt : k < s9.n4
          · obtain ⟨xs, hrow⟩ := hI.out.r4
            obtain ⟨g, cur, ha, hbg, hh, hcur, hok⟩ := hrow.blockAt (by omega)
            obtain ⟨x, hx, hcell⟩ := isU32_cell hh (show k < cur.size by omega) hok
            obtain ⟨y, hy, hwr⟩ := wrap_u32 x
            have hfz := unfrozen_of_block hh k
            have hbox : wr.cell? ⟨V1.heap.size, 4, none⟩ = some (.slice s9.a4 s9.n4 s9.c4) := cell_of_block hI.out.box9 4
            rw [ha] at hbox
            have hgu := hI.out.l4 g (by rw [ha]; rfl)
            have HI2 := Lib.hid (hI.out.step (k := k) hh hbg hgu hy)
            have W1' : IntKind.i64.wrap ((k : Int) + 1) = (k : Int) + 1 := IntWalk.i64_in _ (by omega)
            clear hI hrow ha hh hok hbg hcur hgu
            go_wp2
            go_roundw
            case rel => exact ⟨k + 1, by omega, by go_num, HI2.out⟩
            case measure => simp [intOf]; omega
          · obtain rfl : k = s9.n4 := by omega
            obtain ⟨wo, hwo⟩ : ∃ wo : World, wo = wr := ⟨_, rfl⟩
            subst hwo
            have HI := hI
            clear hI hlt hk
            have q : wo.cell? ⟨V2.heap.size, 3, none⟩ = some (.slice sd.a3 sd.n3 sd.c3) := cell_of_block HI.out.box11 3
            go_wp2
            clear q
            go_loopw [93] (fun i wr => ∃ (k : Nat), k ≤ sd.n3 ∧ i = .int .i64 k ∧ Hid (EX wa V1.heap.size V2.heap.size #[.int .u32 m9, .slice s9.a1 s9.n1 s9.c1, .slice s9.a2 s9.n2 s9.c2, .slice s9.a3 s9.n3 s9.c3, .slice s9.a4 s9.n4 s9.c4, .slice s9.a5 s9.n5 s9.c5, .slice s9.a6 s9.n6 s9.c6] #[.int .i64 iu, .slice sd.a1 sd.n1 sd.c1, .slice sd.a2 sd.n2 sd.c2, .slice sd.a3 sd.n3 sd.c3, .slice sd.a4 sd.n4 sd.c4, .slice sd.a5 sd.n5 sd.c5] (.slice s9.a3 s9.n3 s9.c3) (.slice s9.a4 s9.n4 s9.c4) (.slice sd.a3 sd.n3 sd.c3) s9.n3 s9.n4 sd.n3 U2.heap.size su cu V3.heap.size wr))
              (fun i _ => sd.n3 - (intOf i).toNat)
            case atStart => exact ⟨0, Nat.zero_le _, rfl, HI.out⟩
            case round =>
              clear HI
              obtain ⟨k, hk, rfl, hI⟩ := hrel
              by_cases hlt : k < sd.n3
              · obtain ⟨xs, hrow⟩ := hI.out.rd
                obtain ⟨g, cur, ha, hbg, hh, hcur, hok⟩ := hrow.blockAt (by omega)
                obtain ⟨x, hx, hcell⟩ := isU32_cell hh (show k < cur.size by omega) hok
                obtain ⟨y, hy, hwr⟩ := wrap_u32 x
                have hfz := unfrozen_of_block hh k
                have hbox : wr.cell? ⟨V2.heap.size, 3, none⟩ = some (.slice sd.a3 sd.n3 sd.c3) := cell_of_block hI.out.box11 3
                rw [ha] at hbox
                have hgu := hI.out.ld g (by rw [ha]; rfl)
                have HI2 := Lib.hid (hI.out.step (k := k) hh hbg hgu hy)
                have W1' : IntKind.i64.wrap ((k : Int) + 1) = (k : Int) + 1 := IntWalk.i64_in _ (by omega)
                clear hI hrow ha hh hok hbg hcur hgu
                go_wp2
                go_roundw
                case rel => exact ⟨k + 1, by omega, by go_num, HI2.out⟩
                case measure => simp [intOf]; omega
              · obtain rfl : k = sd.n3 := by omega
                obtain ⟨wo, hwo⟩ : ∃ wo : World, wo = wr := ⟨_, rfl⟩
                subst hwo
                have HI := hI
                clear hI hlt hk
                obtain ⟨W5, hW5⟩ : ∃ W5 : World, W5 = wo := ⟨_, rfl⟩
                subst hW5
                go_upto_region 22 with fail
                have hG7 := heap_lt HTW.out.cir
                have hG8 := heap_lt HTW.out.tr
                have HBC := Lib.hid HI.out.bel
                have HELDB : Hid (∀ W, Below W5.heap.size W5 W → (W.cell? ⟨G7, 0, none⟩ = some (.int .i64 z) ∧ W.cell? ⟨G7, 1, none⟩ = some (.slice sx.a1 sx.n1 sx.c1) ∧ W.cell? ⟨G7, 2, none⟩ = some (.slice sx.a2 sx.n2 sx.c2) ∧ W.cell? ⟨G7, 3, none⟩ = some (.slice sx.a3 sx.n3 sx.c3) ∧ W.cell? ⟨G7, 4, none⟩ = some (.slice sx.a4 sx.n4 sx.c4) ∧ W.cell? ⟨G7, 5, none⟩ = some (.slice sx.a5 sx.n5 sx.c5) ∧ W.cell? ⟨G8, 0, none⟩ = some (.int .i64 bad) ∧ W.cell? ⟨G8, 1, none⟩ = some (.slice sy.a1 sy.n1 sy.c1) ∧ W.cell? ⟨G8, 2, none⟩ = some (.slice sy.a2 sy.n2 sy.c2))) := fun W hb => ⟨cell_of_block (heap_below (heap_below HTW.out.cir HBC.out) hb) 0, cell_of_block (heap_below (heap_below HTW.out.cir HBC.out) hb) 1, cell_of_block (heap_below (heap_below HTW.out.cir HBC.out) hb) 2, cell_of_block (heap_below (heap_below HTW.out.cir HBC.out) hb) 3, cell_of_block (heap_below (heap_below HTW.out.cir HBC.out) hb) 4, cell_of_block (heap_below (heap_below HTW.out.cir HBC.out) hb) 5, cell_of_block (heap_below (heap_below HTW.out.tr HBC.out) hb) 0, cell_of_block (heap_below (heap_below HTW.out.tr HBC.out) hb) 1, cell_of_block (heap_below (heap_below HTW.out.tr HBC.out) hb) 2⟩
                have E1 : Hid (∀ W, Below W5.heap.size W5 W → Calls Try.prog 22 #[.agg #[.int .i64 z, .slice sx.a1 sx.n1 sx.c1, .slice sx.a2 sx.n2 sx.c2, .slice sx.a3 sx.n3 sx.c3, .slice sx.a4 sx.n4 sx.c4, .slice sx.a5 sx.n5 sx.c5]] W fun e w' => ∃ s' : CSlots, e = .returned (.agg #[.int .i64 z, .slice s'.a1 s'.n1 s'.c1, .slice s'.a2 s'.n2 s'.c2, .slice s'.a3 s'.n3 s'.c3, .slice s'.a4 s'.n4 s'.c4, .slice s'.a5 s'.n5 s'.c5]) ∧ OwnCir w' W.heap.size s' c ∧ Below W.heap.size W w') := fun W hb => by
                  have h := copy_any c sx W (HTW.out.oc.sees.below (ext_trans HBC.out hb)) HSXS.out HWD.out
                  rw [← HZ.out] at h
                  exact h
                have E2 : Hid (∀ W, Below W5.heap.size W5 W → Calls Try.prog 23 #[.agg #[.int .i64 bad, .slice sy.a1 sy.n1 sy.c1, .slice sy.a2 sy.n2 sy.c2]] W fun e w' => ∃ s' : TSlots, e = .returned (.agg #[.int .i64 bad, .slice s'.a1 s'.n1 s'.c1, .slice s'.a2 s'.n2 s'.c2]) ∧ OwnTr w' W.heap.size s' t ∧ Below W.heap.size W w') := fun W hb => by
                  have h := copytr_any t sy W (HTW.out.ot.sees.below (ext_trans HBC.out hb)) HSYS.out
                  rw [← HBAD.out] at h
                  exact h
                have hwc5 := HBC.out.size
                go_cut [18, 19] from 104 (fun p7 p8 wx => ∃ (G18 G19 : Nat) (sz : CSlots) (sw : TSlots), p7 = .pointer (some ⟨G18, 0, .none⟩) ∧ p8 = .pointer (some ⟨G19, 0, .none⟩) ∧ Hid (Two W5 z bad c t G18 G19 sz sw wx))
                case first =>
                  refine reg_NOwnB c t z bad G7 G8 sx sy W5 HELDB E1 E2 _ _ ?_
                  intro G18 G19 sz sw wx _ _ _ _ HTWx
                  go_wp2_with fail
                  go_meet
                  exact ⟨_, _, _, _, rfl, rfl, HTWx⟩
                case rest =>
                  obtain ⟨G18, G19, sz, sw, rfl, rfl, hTZ⟩ := hcut
                  have hszs : sz.small := hTZ.out.oc.small ⟨by have := HSC.out.n1; have := HC.out.s1.1; simp only at *; omega, by have := HSC.out.n2; have := HC.out.s2.1; simp only at *; omega, by have := HSC.out.n3; have := HC.out.s3.lenMap; simp only at *; omega, by have := HSC.out.n4; have := HC.out.s4.lenMap; simp only at *; omega, by have := HSC.out.n5; have := HC.out.s5.lenMap; simp only at *; omega⟩
                  have hsws : sw.small := hTZ.out.ot.small HT.out HST.out
                  have hz1 := hszs.n1
                  have hz2 := hszs.n2
                  have hz4 := hszs.n4
                  have hv1 := hsws.n1
                  have hv2 := hsws.n2
                  have HEACH : Hid (∀ k, k < sw.n2 → (sw.ss.getD k slc0).2.1 ≤ 1048576) := fun k hk => hsws.each _ (getD_mem (by rw [hTZ.out.ot.len, ← hTZ.out.ot.n2]; exact hk))
                  have HSSL : Hid (sw.ss.length = sw.n2) := by show _ = _; rw [hTZ.out.ot.len, hTZ.out.ot.n2]
                  obtain ⟨F, hEZ⟩ := EZ.of hTZ.out
                  have HOU := Lib.hid HI.out
                  have HI := Lib.hid hEZ
                  clear hszs hsws hTZ hEZ E1 E2 HELDB
                  have q : wc.cell? ⟨G18, 1, none⟩ = some (.slice sz.a1 sz.n1 sz.c1) := cell_of_block HI.out.box18 1
                  go_wp2
                  clear q
                  go_loopw [111] (fun i wr => ∃ (k : Nat), k ≤ sz.n1 ∧ i = .int .i64 k ∧ Hid (EZ W5 G18 G19 F z bad sz sw wr))
                    (fun i _ => sz.n1 - (intOf i).toNat)
                  case atStart => exact ⟨0, Nat.zero_le _, rfl, HI.out⟩
                  case round =>
                    clear HI
                    obtain ⟨k, hk, rfl, hI⟩ := hrel
                    by_cases hlt : k < sz.n1
                    · obtain ⟨l, hl⟩ := hI.out.lat
                      obtain ⟨hll, g, cur, ha, hbg, hh, hcs⟩ := own2_block hl (by omega)
                      have hcell := hcs k hlt
                      obtain ⟨x, hx⟩ : ∃ x, x = (l.getD k (0, 0)).1 := ⟨_, rfl⟩
                      rw [← hx] at hcell
                      obtain ⟨y, hy, hwr⟩ := wrap_u32 x
                      have hfz := unfrozen_of_block hh (k * 2)
                      have hbox : wr.cell? ⟨G18, 1, none⟩ = some (.slice sz.a1 sz.n1 sz.c1) := cell_of_block hI.out.box18 1
                      rw [ha] at hbox
                      have HI2 := Lib.hid (hI.out.stepLat (y := y) ha hh hbg hlt)
                      have W1' : IntKind.i64.wrap ((k : Int) + 1) = (k : Int) + 1 := IntWalk.i64_in _ (by omega)
                      clear hI hl hll ha hh hbg hcs hx
                      go_wp2
                      go_roundw
                      case rel => exact ⟨k + 1, by omega, by go_num, HI2.out⟩
                      case measure => simp [intOf]; omega
                    · obtain rfl : k = sz.n1 := by omega
                      obtain ⟨wo, hwo⟩ : ∃ wo : World, wo = wr := ⟨_, rfl⟩
                      subst hwo
                      have HI := hI
                      clear hI hlt hk
                      have q : wo.cell? ⟨G18, 2, none⟩ = some (.slice sz.a2 sz.n2 sz.c2) := cell_of_block HI.out.box18 2
                      go_wp2
                      clear q
                      go_loopw [127] (fun i wr => ∃ (k : Nat), k ≤ sz.n2 ∧ i = .int .i64 k ∧ Hid (EZ W5 G18 G19 F z bad sz sw wr))
                        (fun i _ => sz.n2 - (intOf i).toNat)
                      case atStart => exact ⟨0, Nat.zero_le _, rfl, HI.out⟩
                      case round =>
                        clear HI
                        obtain ⟨k, hk, rfl, hI⟩ := hrel
                        by_cases hlt : k < sz.n2
                        · obtain ⟨l, hl⟩ := hI.out.gate
                          obtain ⟨hll, g, cur, ha, hbg, hh, hcs⟩ := own2_block hl (by omega)
                          have hcell := hcs k hlt
                          obtain ⟨x, hx⟩ : ∃ x, x = (l.getD k (0, 0)).1 := ⟨_, rfl⟩
                          rw [← hx] at hcell
                          obtain ⟨y, hy, hwr⟩ := wrap_u32 x
                          have hfz := unfrozen_of_block hh (k * 2)
                          have hbox : wr.cell? ⟨G18, 2, none⟩ = some (.slice sz.a2 sz.n2 sz.c2) := cell_of_block hI.out.box18 2
                          rw [ha] at hbox
                          have HI2 := Lib.hid (hI.out.stepGate (y := y) ha hh hbg hlt)
                          have W1' : IntKind.i64.wrap ((k : Int) + 1) = (k : Int) + 1 := IntWalk.i64_in _ (by omega)
                          clear hI hl hll ha hh hbg hcs hx
                          go_wp2
                          go_roundw
                          case rel => exact ⟨k + 1, by omega, by go_num, HI2.out⟩
                          case measure => simp [intOf]; omega
                        · obtain rfl : k = sz.n2 := by omega
                          obtain ⟨wo, hwo⟩ : ∃ wo : World, wo = wr := ⟨_, rfl⟩
                          subst hwo
                          have HI := hI
                          clear hI hlt hk
                          have q : wo.cell? ⟨G18, 4, none⟩ = some (.slice sz.a4 sz.n4 sz.c4) := cell_of_block HI.out.box18 4
                          go_wp2
                          clear q
                          go_loopw [143] (fun i wr => ∃ (k : Nat), k ≤ sz.n4 ∧ i = .int .i64 k ∧ Hid (EZ W5 G18 G19 F z bad sz sw wr))
                            (fun i _ => sz.n4 - (intOf i).toNat)
                          case atStart => exact ⟨0, Nat.zero_le _, rfl, HI.out⟩
                          case round =>
                            clear HI
                            obtain ⟨k, hk, rfl, hI⟩ := hrel
                            by_cases hlt : k < sz.n4
                            · obtain ⟨xs, hrow⟩ := hI.out.bads
                              obtain ⟨g, cur, ha, hbg, hh, hcur, hok⟩ := hrow.blockAt (by omega)
                              obtain ⟨x, hx, hcell⟩ := isU32_cell hh (show k < cur.size by omega) hok
                              obtain ⟨y, hy, hwr⟩ := wrap_u32 x
                              have hfz := unfrozen_of_block hh k
                              have hbox : wr.cell? ⟨G18, 4, none⟩ = some (.slice sz.a4 sz.n4 sz.c4) := cell_of_block hI.out.box18 4
                              rw [ha] at hbox
                              have HI2 := Lib.hid (hI.out.step32 (k := k) hh hbg hy)
                              have W1' : IntKind.i64.wrap ((k : Int) + 1) = (k : Int) + 1 := IntWalk.i64_in _ (by omega)
                              clear hI hrow ha hh hok hbg hcur
                              go_wp2
                              go_roundw
                              case rel => exact ⟨k + 1, by omega, by go_num, HI2.out⟩
                              case measure => simp [intOf]; omega
                            · obtain rfl : k = sz.n4 := by omega
                              obtain ⟨wo, hwo⟩ : ∃ wo : World, wo = wr := ⟨_, rfl⟩
                              subst hwo
                              have HI := hI
                              clear hI hlt hk
                              have q : wo.cell? ⟨G19, 1, none⟩ = some (.slice sw.a1 sw.n1 sw.c1) := cell_of_block HI.out.box19 1
                              go_wp2
                              clear q
                              go_loopw [157] (fun i wr => ∃ (k : Nat), k ≤ sw.n1 ∧ i = .int .i64 k ∧ Hid (EZ W5 G18 G19 F z bad sz sw wr))
                                (fun i _ => sw.n1 - (intOf i).toNat)
                              case atStart => exact ⟨0, Nat.zero_le _, rfl, HI.out⟩
                              case round =>
                                clear HI
                                obtain ⟨k, hk, rfl, hI⟩ := hrel
                                by_cases hlt : k < sw.n1
                                · obtain ⟨xs, hrow⟩ := hI.out.init
                                  obtain ⟨g, cur, ha, hbg, hh, hcur, hok⟩ := hrow.blockAt (by omega)
                                  obtain ⟨x, hx, hcell⟩ := isByte_cell hh (show k < cur.size by omega) hok
                                  obtain ⟨y, hy, hwr⟩ := wrap_u8 x
                                  have hfz := unfrozen_of_block hh k
                                  have hbox : wr.cell? ⟨G19, 1, none⟩ = some (.slice sw.a1 sw.n1 sw.c1) := cell_of_block hI.out.box19 1
                                  rw [ha] at hbox
                                  have HI2 := Lib.hid (hI.out.step8 (k := k) hh hbg hy)
                                  have W1' : IntKind.i64.wrap ((k : Int) + 1) = (k : Int) + 1 := IntWalk.i64_in _ (by omega)
                                  clear hI hrow ha hh hok hbg hcur
                                  go_wp2
                                  go_roundw
                                  case rel => exact ⟨k + 1, by omega, by go_num, HI2.out⟩
                                  case measure => simp [intOf]; omega
                                · obtain rfl : k = sw.n1 := by omega
                                  obtain ⟨wo, hwo⟩ : ∃ wo : World, wo = wr := ⟨_, rfl⟩
                                  subst hwo
                                  have HI := hI
                                  clear hI hlt hk
                                  have q : wo.cell? ⟨G19, 2, none⟩ = some (.slice sw.a2 sw.n2 sw.c2) := cell_of_block HI.out.box19 2
                                  go_wp2
                                  clear q
                                  go_loopw [171] (fun i wr => ∃ (k : Nat), k ≤ sw.n2 ∧ i = .int .i64 k ∧ Hid (EZ W5 G18 G19 F z bad sz sw wr))
                                    (fun i _ => sw.n2 - (intOf i).toNat)
                                  case atStart => exact ⟨0, Nat.zero_le _, rfl, HI.out⟩
                                  case round =>
                                    clear HI
                                    obtain ⟨k, hk, rfl, hI⟩ := hrel
                                    by_cases hlt : k < sw.n2
                                    · have ha2 := hI.out.a2
                                      have hfr := hI.out.fr
                                      have hFk : wr.cell? ⟨F, k, none⟩ = some (slV (sw.ss.getD k slc0)) := by
                                        rw [cell_of_block hfr]
                                        simp [List.getD, List.getElem?_eq_getElem (show k < sw.ss.length by rw [HSSL.out]; exact hlt)]
                                      have hfn := HEACH.out k hlt
                                      have HROW : Hid (∀ W, EZ W5 G18 G19 F z bad sz sw W → ∃ xs, Row isByte W W5.heap.size 5 (slV (sw.ss.getD k slc0)) (sw.ss.getD k slc0).2.1 xs) := fun W h => h.rows k hlt
                                      have HFK : Hid (∀ W, EZ W5 G18 G19 F z bad sz sw W → W.cell? ⟨F, k, none⟩ = some (slV (sw.ss.getD k slc0))) := fun W h => by
                                        rw [cell_of_block h.fr]
                                        simp [List.getD, List.getElem?_eq_getElem (show k < sw.ss.length by rw [HSSL.out]; exact hlt)]
                                      obtain ⟨sl, hsl⟩ : ∃ sl, sl = sw.ss.getD k slc0 := ⟨_, rfl⟩
                                      rw [← hsl] at hFk hfn HROW HFK
                                      obtain ⟨fa, fn, fc⟩ := sl
                                      simp only [slV] at hFk hfn HROW HFK
                                      have hbox : wr.cell? ⟨G19, 2, none⟩ = some (.slice sw.a2 sw.n2 sw.c2) := cell_of_block hI.out.box19 2
                                      rw [ha2] at hbox
                                      have HI := Lib.hid hI.out
                                      have HA2 := Lib.hid ha2
                                      have W1' : IntKind.i64.wrap ((k : Int) + 1) = (k : Int) + 1 := IntWalk.i64_in _ (by omega)
                                      clear hI ha2 hfr hsl
                                      go_wp2
                                      clear hFk hbox
                                      obtain ⟨kk, hkk⟩ : ∃ kk, kk = k := ⟨_, rfl⟩
                                      obtain ⟨wo, hwo⟩ : ∃ wo : World, wo = wr := ⟨_, rfl⟩
                                      subst hwo
                                      go_loopw [180] (fun i wr => ∃ (j : Nat), j ≤ fn ∧ i = .int .i64 j ∧ Hid (EZ W5 G18 G19 F z bad sz sw wr))
                                        (fun i _ => fn - (intOf i).toNat)
                                      case atStart => exact ⟨0, Nat.zero_le _, rfl, HI.out⟩
                                      case round =>
                                        clear HI
                                        obtain ⟨j, hj, rfl, hI⟩ := hrel
                                        by_cases hjt : j < fn
                                        · obtain ⟨xs, hrow⟩ := HROW.out _ hI.out
                                          obtain ⟨g, cur, ha, hbg, hh, hcur, hok⟩ := hrow.blockAt (by omega)
                                          obtain ⟨x, hx, hcell⟩ := isByte_cell hh (show j < cur.size by omega) hok
                                          obtain ⟨y, hy, hwr⟩ := wrap_u8 x
                                          have hfz := unfrozen_of_block hh j
                                          have hbox : wr.cell? ⟨G19, 2, none⟩ = some (.slice sw.a2 sw.n2 sw.c2) := cell_of_block hI.out.box19 2
                                          rw [HA2.out] at hbox
                                          have hFk := HFK.out _ hI.out
                                          rw [ha] at hFk
                                          have HI2 := Lib.hid (hI.out.step8 (k := j) hh hbg hy)
                                          have W2' : IntKind.i64.wrap ((j : Int) + 1) = (j : Int) + 1 := IntWalk.i64_in _ (by omega)
                                          clear hI hrow ha hh hok hbg hcur hkk
                                          go_wp2
                                          go_roundw
                                          case rel => exact ⟨j + 1, by omega, by go_num, HI2.out⟩
                                          case measure => simp [intOf]; omega
                                        · obtain rfl : j = fn := by omega
                                          have HI2 := Lib.hid hI.out
                                          clear hI hkk
                                          go_wp2
                                          go_roundw
                                          case rel => exact ⟨k + 1, by omega, by go_num, HI2.out⟩
                                          case measure => simp [intOf]; omega
                                    · obtain rfl : k = sw.n2 := by omega
                                      obtain ⟨wo, hwo⟩ : ∃ wo : World, wo = wr := ⟨_, rfl⟩
                                      subst hwo
                                      have HI := hI
                                      clear hI hlt hk
                                      have hbc : Below wa.heap.size wa wo := ext_trans HBC.out HI.out.bel
                                      have HOU2 := Lib.hid (HOU.out.ou.below HI.out.bel)
                                      have B13 := Lib.hid (heap_below HOU.out.box13 HI.out.bel)
                                      have HBO := Lib.hid hbc
                                      have hw9 := Nat.lt_of_lt_of_le hw3 hbc.size
                                      have hY3 := heap_below Y3.out hbc
                                      clear hbc
                                      have p0 : wo.cell? ⟨w.heap.size + 1 + 1, 0, none⟩ = some (.int .u32 rm) := cell_of_block hY3 0
                                      have p1 : wo.cell? ⟨w.heap.size + 1 + 1, 1, none⟩ = some (.slice r1 k1 f1) := cell_of_block hY3 1
                                      have p2 : wo.cell? ⟨w.heap.size + 1 + 1, 2, none⟩ = some (.slice r2 k2 f2) := cell_of_block hY3 2
                                      have p3 : wo.cell? ⟨w.heap.size + 1 + 1, 3, none⟩ = some (.slice r3 k3 f3) := cell_of_block hY3 3
                                      have p4 : wo.cell? ⟨w.heap.size + 1 + 1, 4, none⟩ = some (.slice r4 k4 f4) := cell_of_block hY3 4
                                      have p5 : wo.cell? ⟨w.heap.size + 1 + 1, 5, none⟩ = some (.slice r5 k5 f5) := cell_of_block hY3 5
                                      have p6 : wo.cell? ⟨w.heap.size + 1 + 1, 6, none⟩ = some (.slice r6 k6 f6) := cell_of_block hY3 6
                                      clear hY3
                                      go_wp2_with fail
                                      refine (HOF.out wo (ext_trans HBW.out HBO.out)).mono ?_
                                      rintro e V9 ⟨sv, ev, rfl, hov, hb⟩
                                      have HOV := Lib.hid hov
                                      have HB9 := Lib.hid (ext_trans HBO.out hb)
                                      have HWV := Lib.hid hb
                                      clear hov hb p0 p1 p2 p3 p4 p5 p6
                                      have l7 : G7 < V9.heap.size := Nat.lt_of_lt_of_le (heap_lt HTW.out.cir) HB9.out.size
                                      have l0 : w.heap.size < V9.heap.size := Nat.lt_of_lt_of_le (heap_lt Y1.out) HB9.out.size
                                      have p0 : V9.cell? ⟨G7, 0, none⟩ = some (.int .i64 z) := cell_of_block (heap_below HTW.out.cir HB9.out) 0
                                      have p1 : V9.cell? ⟨G7, 1, none⟩ = some (.slice sx.a1 sx.n1 sx.c1) := cell_of_block (heap_below HTW.out.cir HB9.out) 1
                                      have p2 : V9.cell? ⟨G7, 2, none⟩ = some (.slice sx.a2 sx.n2 sx.c2) := cell_of_block (heap_below HTW.out.cir HB9.out) 2
                                      have p3 : V9.cell? ⟨G7, 3, none⟩ = some (.slice sx.a3 sx.n3 sx.c3) := cell_of_block (heap_below HTW.out.cir HB9.out) 3
                                      have p4 : V9.cell? ⟨G7, 4, none⟩ = some (.slice sx.a4 sx.n4 sx.c4) := cell_of_block (heap_below HTW.out.cir HB9.out) 4
                                      have p5 : V9.cell? ⟨G7, 5, none⟩ = some (.slice sx.a5 sx.n5 sx.c5) := cell_of_block (heap_below HTW.out.cir HB9.out) 5
                                      have q0 : V9.cell? ⟨w.heap.size, 0, none⟩ = some (.int .i64 z) := cell_of_block (heap_below Y1.out HB9.out) 0
                                      have q1 : V9.cell? ⟨w.heap.size, 1, none⟩ = some (.slice a1 n1 c1) := cell_of_block (heap_below Y1.out HB9.out) 1
                                      have q2 : V9.cell? ⟨w.heap.size, 2, none⟩ = some (.slice a2 n2 c2) := cell_of_block (heap_below Y1.out HB9.out) 2
                                      have q3 : V9.cell? ⟨w.heap.size, 3, none⟩ = some (.slice a3 n3 c3) := cell_of_block (heap_below Y1.out HB9.out) 3
                                      have q4 : V9.cell? ⟨w.heap.size, 4, none⟩ = some (.slice a4 n4 c4) := cell_of_block (heap_below Y1.out HB9.out) 4
                                      have q5 : V9.cell? ⟨w.heap.size, 5, none⟩ = some (.slice a5 n5 c5) := cell_of_block (heap_below Y1.out HB9.out) 5
                                      go_wp2_with fail
                                      generalize hV : World.alloc V9 _ = U9
                                      have hb : Below V9.heap.size V9 U9 := by subst hV; exact ext_alloc _ _
                                      have B26 : Hid (U9.heap[V9.heap.size]? = some (.cells #[.int .i64 iu, .slice sv.a1 sv.n1 sv.c1, .slice sv.a2 sv.n2 sv.c2, .slice sv.a3 sv.n3 sv.c3, .slice sv.a4 sv.n4 sv.c4, .slice sv.a5 sv.n5 sv.c5] 26 (0, 0))) := by show _ = _; subst hV; exact heap_new _ _ _ rfl
                                      have HU9 := Lib.hid (ext_trans HB9.out hb)
                                      have HVU := Lib.hid hb
                                      clear hV hb p0 p1 p2 p3 p4 p5 q0 q1 q2 q3 q4 q5 l7 l0
                                      have S1 : Hid (∀ W, Below wa.heap.size wa W → Calls Try.prog 16 #[.agg #[.int .i64 z, .slice sx.a1 sx.n1 sx.c1, .slice sx.a2 sx.n2 sx.c2, .slice sx.a3 sx.n3 sx.c3, .slice sx.a4 sx.n4 sx.c4, .slice sx.a5 sx.n5 sx.c5], .agg #[.int .i64 z, .slice a1 n1 c1, .slice a2 n2 c2, .slice a3 n3 c3, .slice a4 n4 c4, .slice a5 n5 c5]] W fun e w' => e = .returned (.bool true) ∧ Below W.heap.size W w') := fun W hb => by
                                        have h := samec_any c c sx ⟨a1, n1, c1, a2, n2, c2, a3, n3, c3, a4, n4, c4, a5, n5, c5⟩ W (HTW.out.oc.sees.below hb) (HC.out.below (ext_trans HBW.out hb)) HSXS.out HSC.out
                                        rw [← HZ.out] at h
                                        simpa [cirV] using h
                                      have S2 : Hid (∀ W, Below wa.heap.size wa W → Calls Try.prog 21 #[.agg #[.int .i64 bad, .slice sy.a1 sy.n1 sy.c1, .slice sy.a2 sy.n2 sy.c2], .agg #[.int .i64 bad, .slice b1 m1 d1, .slice b2 m2 d2]] W fun e w' => e = .returned (.bool true) ∧ Below W.heap.size W w') := fun W hb => by
                                        have h := sametr_any t t sy ⟨b1, m1, d1, b2, m2, d2, ss⟩ W (HTW.out.ot.sees.below hb) (HT.out.below (ext_trans HBW.out hb)) HSYS.out HB12.out HB12.out
                                        rw [← HBAD.out] at h
                                        simpa [traceV] using h
                                      have S3 : Hid (∀ W, Below U9.heap.size U9 W → Calls Try.prog 16 #[.agg #[.int .i64 iu, .slice su.a1 su.n1 su.c1, .slice su.a2 su.n2 su.c2, .slice su.a3 su.n3 su.c3, .slice su.a4 su.n4 su.c4, .slice su.a5 su.n5 su.c5], .agg #[.int .i64 iu, .slice sv.a1 sv.n1 sv.c1, .slice sv.a2 sv.n2 sv.c2, .slice sv.a3 sv.n3 sv.c3, .slice sv.a4 sv.n4 sv.c4, .slice sv.a5 sv.n5 sv.c5]] W fun e w' => e = .returned (.bool true) ∧ Below W.heap.size W w') := fun W hb => by
                                        have hsm := ofC_small r
                                        rw [← HCU.out] at hsm
                                        have h := samec_any cu cu su sv W (HOU2.out.sees.below (ext_trans HWV.out (ext_trans HVU.out hb))) (HOV.out.sees.below (ext_trans HVU.out hb)) (HOU2.out.small hsm) (HOV.out.small hsm)
                                        rw [← HIU.out] at h
                                        simpa [cirV] using h
                                      refine (S1.out U9 HU9.out).mono ?_
                                      rintro e T1 ⟨rfl, hb⟩
                                      have HT1 := Lib.hid (ext_trans HU9.out hb)
                                      have HU1T := Lib.hid hb
                                      clear hb
                                      have p0 : T1.cell? ⟨G8, 0, none⟩ = some (.int .i64 bad) := cell_of_block (heap_below HTW.out.tr HT1.out) 0
                                      have p1 : T1.cell? ⟨G8, 1, none⟩ = some (.slice sy.a1 sy.n1 sy.c1) := cell_of_block (heap_below HTW.out.tr HT1.out) 1
                                      have p2 : T1.cell? ⟨G8, 2, none⟩ = some (.slice sy.a2 sy.n2 sy.c2) := cell_of_block (heap_below HTW.out.tr HT1.out) 2
                                      have q0 : T1.cell? ⟨w.heap.size + 1, 0, none⟩ = some (.int .i64 bad) := cell_of_block (heap_below Y2.out HT1.out) 0
                                      have q1 : T1.cell? ⟨w.heap.size + 1, 1, none⟩ = some (.slice b1 m1 d1) := cell_of_block (heap_below Y2.out HT1.out) 1
                                      have q2 : T1.cell? ⟨w.heap.size + 1, 2, none⟩ = some (.slice b2 m2 d2) := cell_of_block (heap_below Y2.out HT1.out) 2
                                      go_wp2_with fail
                                      refine (S2.out T1 HT1.out).mono ?_
                                      rintro e T2 ⟨rfl, hb⟩
                                      have HT2 := Lib.hid (ext_trans HU1T.out hb)
                                      clear hb p0 p1 p2 q0 q1 q2
                                      have hB13 := heap_below B13.out (ext_trans HWV.out (ext_trans HVU.out HT2.out))
                                      unfold cirCells at hB13
                                      rw [← HIU.out] at hB13
                                      have hB26 := heap_below B26.out HT2.out
                                      have p0 : T2.cell? ⟨V3.heap.size, 0, none⟩ = some (.int .i64 iu) := cell_of_block hB13 0
                                      have p1 : T2.cell? ⟨V3.heap.size, 1, none⟩ = some (.slice su.a1 su.n1 su.c1) := cell_of_block hB13 1
                                      have p2 : T2.cell? ⟨V3.heap.size, 2, none⟩ = some (.slice su.a2 su.n2 su.c2) := cell_of_block hB13 2
                                      have p3 : T2.cell? ⟨V3.heap.size, 3, none⟩ = some (.slice su.a3 su.n3 su.c3) := cell_of_block hB13 3
                                      have p4 : T2.cell? ⟨V3.heap.size, 4, none⟩ = some (.slice su.a4 su.n4 su.c4) := cell_of_block hB13 4
                                      have p5 : T2.cell? ⟨V3.heap.size, 5, none⟩ = some (.slice su.a5 su.n5 su.c5) := cell_of_block hB13 5
                                      have q0 : T2.cell? ⟨V9.heap.size, 0, none⟩ = some (.int .i64 iu) := cell_of_block hB26 0
                                      have q1 : T2.cell? ⟨V9.heap.size, 1, none⟩ = some (.slice sv.a1 sv.n1 sv.c1) := cell_of_block hB26 1
                                      have q2 : T2.cell? ⟨V9.heap.size, 2, none⟩ = some (.slice sv.a2 sv.n2 sv.c2) := cell_of_block hB26 2
                                      have q3 : T2.cell? ⟨V9.heap.size, 3, none⟩ = some (.slice sv.a3 sv.n3 sv.c3) := cell_of_block hB26 3
                                      have q4 : T2.cell? ⟨V9.heap.size, 4, none⟩ = some (.slice sv.a4 sv.n4 sv.c4) := cell_of_block hB26 4
                                      have q5 : T2.cell? ⟨V9.heap.size, 5, none⟩ = some (.slice sv.a5 sv.n5 sv.c5) := cell_of_block hB26 5
                                      clear hB13 hB26
                                      go_wp2_with fail
                                      refine (S3.out T2 HT2.out).mono ?_
                                      rintro e T3 ⟨rfl, hb⟩
                                      have HT3 := Lib.hid (ext_trans HT2.out hb)
                                      clear hb p0 p1 p2 p3 p4 p5 q0 q1 q2 q3 q4 q5
                                      go_wp2_with fail
                                      refine (lives3_any T3).mono ?_
                                      rintro e T4 ⟨rfl, hb⟩
                                      have HT4 := Lib.hid (ext_trans (ext_trans HBW.out HU9.out) (ext_trans HT3.out hb))
                                      clear hb
                                      go_wp2
                                      go_ret
                                      exact ⟨rfl, HT4.out⟩
end Go.Proofs.Ytkbdebdhebphpaa
