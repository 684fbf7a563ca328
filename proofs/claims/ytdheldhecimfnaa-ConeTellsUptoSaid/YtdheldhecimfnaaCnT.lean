/- The reference's Free, by its contract. -/
import Derived.Test.YtdheldhecimfnaaLib
import Derived.Test.YtdheldhecimfnaaNBase
import Derived.Test.YtdheldhecimfnaaRawPred
import Derived.Test.YtdheldhecimfnaaNCirc
import Derived.Test.YtdheldhecimfnaaNHeap
import Derived.Test.YtdheldhecimfnaaRows
import Derived.Test.YtdheldhecimfnaaShelf
import Derived.BigQuiet
import Derived.Deep.AppendLies
import Derived.Deep.CutRange
import Derived.Deep.QuietTactic
import Derived.Deep.RegionHeld3
import Derived.Deep.RegionLaw
import Derived.Deep.RegionWith
import Derived.KernelRfl
import Derived.Laws.EntriesVeiled
import Derived.Laws.Tables
import Derived.Lib.AppendStr
import Derived.Lib.AppendZeros
import Derived.Lib.ConvBytes
import Derived.Lib.Hide
import Derived.Lib.SlBytesRow
import Derived.Lib.SmallJoins
import Derived.Maps.AppendAt
import Derived.OrdersHeld
import Derived.Shelf.Bytes.SlSmallAll
import Derived.WalkKit
import Derived.WalkLawsBesides
import Derived.WalkSpells
import Derived.Test.YtdheldhecimfnaaNSpec
import Derived.Test.YtdheldhecimfnaaNVal
import Derived.Test.YtdheldhecimfnaaNTrace
import Derived.Test.YtdheldhecimfnaaNOwns
import Derived.Test.YtdheldhecimfnaaNWide
import Derived.Test.YtdheldhecimfnaaNRefMay3
import Derived.Test.YtdheldhecimfnaaCnE
import Derived.Test.YtdheldhecimfnaaOwn
import Derived.Test.YtdheldhecimfnaaOwnStr
import Derived.Test.YtdheldhecimfnaaRowStep
import Derived.Test.YtdheldhecimfnaaNOwnsN
import Derived.Test.YtdheldhecimfnaaNStep
import Derived.Test.YtdheldhecimfnaaNPeel
import Derived.Test.YtdheldhecimfnaaTBits
import Derived.Test.YtdheldhecimfnaaNClone2
import Derived.Test.YtdheldhecimfnaaNCopyTr
import Derived.Laws.Bits64b
import Derived.Laws.BitsAllLaws
import Derived.Laws.BitsLemmas
import Derived.LoopIn
import Derived.LoopNIn
import Derived.OrdersIn
import Derived.OwnWalkIn
import Derived.RangeFuncBox
import Derived.RangeFuncCalls
import Derived.RangeFuncLeaves
import Derived.RangeFuncNested
import Derived.RangeFuncWrites
import Derived.Shelf.Abstract
import Derived.Shelf.RegionOpen
import Derived.Sort.CutIn
import Derived.Stop.RegionWithIn
import Derived.TacticsInMore
import Derived.Test.YtdheldhecimfnaaCnD
/- inquestref03.lits, .values, by their contracts. -/
namespace Go.Proofs.Ytdheldhecimfnaa
open Go Go.RowKit Go.Joins

set_option maxRecDepth 100000 in
theorem refvalues_any (many : Int) (l : List UInt8) (a : Option Addr) (n c : Nat) (hn : n ≤ 1048576) (w : World) (h : Sees w a n c (l.map bv)) :
    Calls Try.prog 42 #[.slice a n c, .int .i64 many] w fun e w' => e = .returned (.bool (valsOk l many)) ∧ w = w' := by
  have hl := h.lenMap
  obtain ⟨q, hq⟩ : ∃ q, q = valsOk l many := ⟨_, rfl⟩
  have NO : Hid (∀ k, k < n → 2 < (l.getD k 0).toNat → q = false) := fun k hk hb => by
    rw [hq]; unfold valsOk
    rw [show l.any (fun u => decide (2 < u.toNat)) = true from List.any_eq_true.2 ⟨_, getD_mem (by rw [hl]; exact hk), decide_eq_true hb⟩]; simp
  have YES : Hid ((∀ k, k < n → ¬ 2 < (l.getD k 0).toNat) → q = decide ((n : Int) = many)) := fun hh => by
    rw [hq]; unfold valsOk
    rw [hl, show l.any (fun u => decide (2 < u.toNat)) = false from any_none (all_of_getD (d := 0) (fun j hj => decide_eq_false (hh j (by rw [← hl]; exact hj))))]; simp
  have HS := Lib.hid h
  have HL := Lib.hid hl
  rw [← hq]
  clear hq h hl
  go_enter Try.func42, Try.ntmps42
  go_wp2
  go_loop [5] (fun i => ∃ k : Nat, k ≤ n ∧ i = .int .i64 k ∧ Hid (∀ j, j < k → ¬ 2 < (l.getD j 0).toNat)) (fun i => n - (intOf i).toNat)
  case atStart => exact ⟨0, Nat.zero_le _, rfl, fun j hj => absurd hj (by omega)⟩
  case round =>
    obtain ⟨k, hk, rfl, hno⟩ := hrel
    by_cases hlt : k < n
    · obtain ⟨b, off, rfl, hbw⟩ := HS.out.addr (by omega)
      have hcx := HS.out.byte k hlt
      have W1 : IntKind.i64.wrap ((k : Int) + 1) = (k : Int) + 1 := IntWalk.i64_in _ (by omega)
      obtain ⟨u, hu⟩ : ∃ u, u = (l.getD k 0).toNat := ⟨_, rfl⟩
      have hcx2 : w.cell? ⟨b, off + k, none⟩ = some (.int .u8 (u : Int)) := by rw [hu]; exact hcx
      have HU := Lib.hid hu
      clear hcx hu
      by_cases hq : 2 < u
      · have e1 : decide ((2 : Int) < (u : Int)) = true := by simp; omega
        have HQ : Hid (q = false) := NO.out k hlt (by rw [← HU.out]; exact hq)
        go_wp2
        go_ret
        exact ⟨by rw [HQ.out]; rfl, rfl⟩
      · have e1 : decide ((2 : Int) < (u : Int)) = false := by simp; omega
        have HQ := Lib.hid hq
        clear hq
        go_wp2
        go_round
        case rel =>
          refine ⟨k + 1, by omega, by go_num, fun j hj => ?_⟩
          rcases Nat.lt_or_ge j k with h | h
          · exact hno.out j h
          · have : j = k := by omega
            subst this
            rw [← HU.out]; exact HQ.out
        case measure => simp [intOf]; omega
    · have hkn : k = n := by omega
      subst hkn
      have Y := Lib.hid (YES.out hno.out)
      by_cases hq : (k : Int) = many
      · have e1 : ((k : Int) == many) = true := by simpa using hq
        have HQ := Lib.hid hq
        clear hq
        go_wp2
        go_ret
        exact ⟨by rw [Y.out]; have := HQ.out; simp [this], rfl⟩
      · have e1 : ((k : Int) == many) = false := by simpa using hq
        have e2 : ((k : Int) = many) = False := by simpa using hq
        have HQ := Lib.hid hq
        clear hq
        go_wp2
        go_ret
        exact ⟨by rw [Y.out]; have := HQ.out; simp [this], rfl⟩
end Go.Proofs.Ytdheldhecimfnaa
/- inquestref03.Fits, by its contract. -/
namespace Go.Proofs.Ytdheldhecimfnaa
open Go Go.RowKit Go.Joins

structure FitJ (c : NormC) (t : TraceC) (z bad : Int) (n1 n4 m1 m2 : Nat) (q qm qv : Bool) : Prop where
  no1 : qm = false → q = false
  no2 : bad < 0 → q = false
  no3 : (n4 : Int) ≤ bad → q = false
  nov : qv = false → q = false
  len : qv = true → m1 = n1
  no4 : ¬ 1 ≤ m2 → q = false
  no5 : ¬ m2 ≤ 256 → q = false
  nof : ∀ k, k < m2 → valsOk (t.frames.getD k []) z = false → q = false
  noi : ∀ k, k < n1 → (c.lats.getD k (0, 0)).2 ≠ 2 → (t.init.getD k 0).toNat ≠ (c.lats.getD k (0, 0)).2 → q = false
  yes : qm = true → ¬ bad < 0 → ¬ (n4 : Int) ≤ bad → qv = true → 1 ≤ m2 → m2 ≤ 256 → (∀ k, k < m2 → valsOk (t.frames.getD k []) z = true) → (∀ k, k < n1 → (c.lats.getD k (0, 0)).2 = 2 ∨ (t.init.getD k 0).toNat = (c.lats.getD k (0, 0)).2) → q = true
theorem fitJ_of (c : NormC) (t : TraceC) {n1 n4 m1 m2 : Nat} (l1 : c.lats.length = n1) (l4 : c.bads.length = n4) (lm : t.init.length = m1) (lf : t.frames.length = m2) : FitJ c t c.ins t.bad n1 n4 m1 m2 (fitsS c t) (mayC c) (valsOk t.init (n1 : Int)) := by
  have I := fitI_of c t l1 l4 lm lf
  refine ⟨I.no1, I.no2, I.no3, I.nov, I.len, fun h => ?_, fun h => ?_, fun k hk h => ?_, I.noi, fun h1 h2 h3 h4 h5 h6 h7 h8 => ?_⟩
  · unfold fitsS; rw [lf, decide_eq_false h]; simp
  · unfold fitsS; rw [lf, decide_eq_false h]; simp
  · have hf : t.frames.all (fun f => valsOk f c.ins) = false := by
      rw [List.all_eq_false]
      exact ⟨t.frames.getD k [], getD_mem (by rw [lf]; exact hk), by rw [h]; simp⟩
    unfold fitsS; rw [hf]; simp
  · rw [I.yes h1 h2 h3 h4 h8, decide_eq_true h5, decide_eq_true h6, any_noD (d := []) lf (fun k hk => by unfold wrongF; rw [h7 k hk]; rfl)]
    rfl

set_option maxRecDepth 100000 in
set_option maxHeartbeats 3200000 in
theorem reffits_any (c : NormC) (t : TraceC) (s : CSlots) (st : TSlots) (w : World) (h : SeesCir w s c) (ht : SeesTr w st t) (hs : s.small) (hst : st.small) (hlo : -9223372036854775808 ≤ c.ins) (hhi : c.ins < 9223372036854775808) (hb1 : -9223372036854775808 ≤ t.bad ∧ t.bad < 9223372036854775808) (hwd : Wide c) :
    Calls Try.prog 19 #[cirV c.ins s, traceV t.bad st] w fun e w' => e = .returned (.bool (fitsS c t)) ∧ Below w.heap.size w w' := by
  have HMAY := Lib.hid (fun W (hb : Below w.heap.size w W) => refmay3_any c s W (h.below hb) hs hlo hhi hwd)
  obtain ⟨a1, n1, c1, a2, n2, c2, a3, n3, c3, a4, n4, c4, a5, n5, c5⟩ := s
  obtain ⟨b1, m1, d1, b2, m2, d2, ss⟩ := st
  have FI := fitJ_of c t h.s1.1 h.s4.lenMap ht.s1.lenMap ht.s2.n_eq
  simp only at FI
  have hs1 : n1 ≤ 1048576 := hs.n1
  have hs4 : n4 ≤ 1048576 := hs.n4
  have hm1 : m1 ≤ 1048576 := hst.n1
  have hm2 : m2 ≤ 1048576 := hst.n2
  have HSS := Lib.hid hst.each
  have HLF := Lib.hid ht.s2.n_eq
  obtain ⟨z, hz⟩ : ∃ z, z = c.ins := ⟨_, rfl⟩
  obtain ⟨bad, hbad⟩ : ∃ z, z = t.bad := ⟨_, rfl⟩
  obtain ⟨q, hq⟩ : ∃ q, q = fitsS c t := ⟨_, rfl⟩
  obtain ⟨qm, hqm⟩ : ∃ q, q = mayC c := ⟨_, rfl⟩
  obtain ⟨qv, hqv⟩ : ∃ q, q = valsOk t.init (n1 : Int) := ⟨_, rfl⟩
  rw [← hz, ← hbad, ← hq, ← hqm, ← hqv] at FI
  rw [← hz, ← hqm] at HMAY
  have HVAL : Hid (∀ W, Below w.heap.size w W → Calls Try.prog 42 #[.slice b1 m1 d1, .int .i64 (n1 : Int)] W fun e w' => e = .returned (.bool qv) ∧ W = w') := fun W hb => by
    have h1 := refvalues_any (n1 : Int) t.init b1 m1 d1 hm1 W (ht.s1.below hb)
    rw [← hqv] at h1
    exact h1
  have HS := Lib.hid h
  have HT := Lib.hid ht
  have HFI := Lib.hid FI
  have hb2 := hb1.2
  have hb3 := hb1.1
  rw [← hbad] at hb2 hb3
  rw [← hz] at hlo hhi
  rw [← hz, ← hbad, ← hq]
  clear hz hbad hq hqm hqv FI h ht hs hst hb1
  unfold cirV traceV at *
  go_enter Try.func19, Try.ntmps19
  go_upto_region 1 with fail
  generalize hW : World.alloc (World.alloc w _) _ = W1
  have hb : Below w.heap.size w W1 := by subst hW; exact ext_trans (ext_alloc _ _) (ext_alloc _ _)
  have hx : W1.heap[w.heap.size]? = some (.cells #[.int .i64 z, .slice a1 n1 c1, .slice a2 n2 c2, .slice a3 n3 c3, .slice a4 n4 c4, .slice a5 n5 c5] 26 (0, 0)) := by subst hW; exact heap_below (heap_new _ _ _ rfl) (ext_alloc _ _)
  have hy : W1.heap[w.heap.size + 1]? = some (.cells #[.int .i64 bad, .slice b1 m1 d1, .slice b2 m2 d2] 30 (0, 0)) := by subst hW; exact heap_new _ _ _ (by simp)
  have HB := Lib.hid hb
  have HX := Lib.hid hx
  have HY := Lib.hid hy
  clear hW hb hx hy
  have p0 := cell_of_block HX.out 0
  have p1 := cell_of_block HX.out 1
  have p2 := cell_of_block HX.out 2
  have p3 := cell_of_block HX.out 3
  have p4 := cell_of_block HX.out 4
  have p5 := cell_of_block HX.out 5
  go_wp2_with fail
  refine (HMAY.out W1 HB.out).mono ?_
  rintro e W2 ⟨rfl, hb⟩
  have HX2 := Lib.hid (heap_below HX.out hb)
  have HY2 := Lib.hid (heap_below HY.out hb)
  have HB2 := Lib.hid (ext_trans HB.out hb)
  clear hb p0 p1 p2 p3 p4 p5 HMAY HX HY HB
  cases qm with
  | false =>
    have HF : Hid (q = false) := HFI.out.no1 rfl
    go_wp2
    go_ret
    exact ⟨by rw [HF.out]; rfl, HB2.out⟩
  | true =>
  have p4 := cell_of_block HX2.out 4
  have p1 := cell_of_block HX2.out 1
  have r0 := cell_of_block HY2.out 0
  have r1 := cell_of_block HY2.out 1
  have r2 := cell_of_block HY2.out 2
  by_cases t1 : bad < 0
  · have e1 : decide (bad < 0) = true := by simpa using t1
    have HF : Hid (q = false) := HFI.out.no2 t1
    go_wp2
    go_ret
    exact ⟨by rw [HF.out]; rfl, HB2.out⟩
  have e1 : decide (bad < 0) = false := by simpa using t1
  by_cases t2 : (n4 : Int) ≤ bad
  · have e2 : decide ((n4 : Int) ≤ bad) = true := by simpa using t2
    have HF : Hid (q = false) := HFI.out.no3 t2
    go_wp2
    go_ret
    exact ⟨by rw [HF.out]; rfl, HB2.out⟩
  have e2 : decide ((n4 : Int) ≤ bad) = false := by simpa using t2
  have T1 := Lib.hid t1
  have T2 := Lib.hid t2
  clear t1 t2
  go_wp2_with fail
  refine (HVAL.out W2 HB2.out).mono ?_
  rintro e W3 ⟨rfl, rfl⟩
  clear HVAL
  cases qv with
  | false =>
    have HF : Hid (q = false) := HFI.out.nov rfl
    go_wp2
    go_ret
    exact ⟨by rw [HF.out]; rfl, HB2.out⟩
  | true =>
  obtain rfl : m1 = n1 := HFI.out.len rfl
  by_cases t1 : 1 ≤ m2
  case neg =>
    have g1 : decide ((m2 : Int) < 1) = true := by simp; omega
    have HF : Hid (q = false) := HFI.out.no4 t1
    clear t1
    go_wp2
    go_ret
    exact ⟨by rw [HF.out]; rfl, HB2.out⟩
  have g1 : decide ((m2 : Int) < 1) = false := by simp; omega
  by_cases t2 : m2 ≤ 256
  case neg =>
    have g2 : decide ((256 : Int) < (m2 : Int)) = true := by simp; omega
    have HF : Hid (q = false) := HFI.out.no5 t2
    clear t1 t2
    go_wp2
    go_ret
    exact ⟨by rw [HF.out]; rfl, HB2.out⟩
  have g2 : decide ((256 : Int) < (m2 : Int)) = false := by simp; omega
  have T3 := Lib.hid t1
  have T4 := Lib.hid t2
  clear t1 t2
  go_upto_region 3 with fail
  clear e1 e2 g1 g2 p4 p1 r0 r1 r2
  go_wp2
  go_loopw [5] (fun i wr => ∃ k : Nat, k ≤ m2 ∧ i = .int .i64 k ∧ Hid (∀ j, j < k → valsOk (t.frames.getD j []) z = true) ∧ Hid (Below W2.heap.size W2 wr)) (fun i _ => m2 - (intOf i).toNat)
  case atStart => exact ⟨0, Nat.zero_le _, rfl, fun j hj => absurd hj (by omega), Below.refl _ _⟩
  case round =>
    obtain ⟨k, hk, rfl, hno, hB⟩ := hrel
    have r2 := cell_of_block (heap_below HY2.out hB.out) 2
    by_cases hlt : k < m2
    · have p0 := cell_of_block (heap_below HX2.out hB.out) 0
      obtain ⟨b, off, rfl, hbw⟩ := HT.out.s2.row.addr (show 0 < m2 by omega)
      have hcx := ((HT.out.below HB2.out).below hB.out).s2.cellAt k hlt
      have hsx := ((HT.out.below HB2.out).below hB.out).s2.each k (by rw [HLF.out]; exact hlt)
      have hsm := HSS.out (ss.getD k slc0) (getD_mem (by rw [HT.out.s2.len, HLF.out]; exact hlt))
      have hnof := HFI.out.nof k hlt
      obtain ⟨x, hx⟩ : ∃ x : Slc, x = ss.getD k slc0 := ⟨_, rfl⟩
      rw [← hx] at hcx hsx hsm
      clear hx
      obtain ⟨xa, xn, xc⟩ := x
      simp only at hcx hsx hsm
      have W1' : IntKind.i64.wrap ((k : Int) + 1) = (k : Int) + 1 := IntWalk.i64_in _ (by omega)
      obtain ⟨p, hp⟩ : ∃ q, q = valsOk (t.frames.getD k []) z := ⟨_, rfl⟩
      have HCALL : Hid (∀ n, Calls Try.prog 42 #[.slice xa xn xc, .int .i64 z] (wr.drewN n) fun e w' => e = .returned (.bool p) ∧ w' = wr.drewN n) := fun n => by
        have h1 := refvalues_any z (t.frames.getD k []) xa xn xc hsm (wr.drewN n) (hsx.below (ext_drewN wr n))
        rw [← hp] at h1
        exact h1.mono fun e w' ⟨h2, h3⟩ => ⟨h2, h3.symm⟩
      rw [← hp] at hnof
      have HNOF := Lib.hid hnof
      have STEP : Hid (p = true → ∀ j, j < k + 1 → valsOk (t.frames.getD j []) z = true) := fun hh j hj => by
        rcases Nat.lt_or_ge j k with h | h
        · exact hno.out j h
        · have : j = k := by omega
          subst this
          rw [← hp]; exact hh
      have HBB := Lib.hid hB.out
      clear hsx hnof hp hno hB
      cases p with
      | false =>
        have HF : Hid (q = false) := HNOF.out rfl
        go_wp2
        go_quiet ((go_at_call 42; exact Calls.quiet_of_same (HCALL.out _)))
        go_wp2
        go_ret
        exact ⟨by rw [HF.out]; rfl, ext_trans HB2.out (ext_trans HBB.out (ext_drewN _ _))⟩
      | true =>
        have HN := Lib.hid (STEP.out rfl)
        go_wp2
        go_quiet ((go_at_call 42; exact Calls.quiet_of_same (HCALL.out _)))
        go_wp2
        go_roundw
        case rel => exact ⟨k + 1, by omega, by go_num, HN.out, ext_trans HBB.out (ext_drewN _ _)⟩
        case measure => simp [intOf]; omega
    · obtain rfl : m2 = k := by omega
      obtain ⟨W4, hW4⟩ : ∃ W4 : World, W4 = wr := ⟨_, rfl⟩
      subst hW4
      have HNF := Lib.hid hno.out
      have HX4 := Lib.hid (heap_below HX2.out hB.out)
      have HY4 := Lib.hid (heap_below HY2.out hB.out)
      have HB4 := Lib.hid (ext_trans HB2.out hB.out)
      clear hno hB hlt hk
      go_wp2
      clear r2
      go_loopw [6] (fun i wr => ∃ k : Nat, k ≤ m1 ∧ i = .int .i64 k ∧ Hid (∀ j, j < k → (c.lats.getD j (0, 0)).2 = 2 ∨ (t.init.getD j 0).toNat = (c.lats.getD j (0, 0)).2) ∧ Hid (Below W4.heap.size W4 wr)) (fun i _ => m1 - (intOf i).toNat)
      case atStart => exact ⟨0, Nat.zero_le _, rfl, fun j hj => absurd hj (by omega), Below.refl _ _⟩
      case round =>
        obtain ⟨k, hk, rfl, hno, hB⟩ := hrel
        have r1 := cell_of_block (heap_below HY4.out hB.out) 1
        by_cases hlt : k < m1
        · have p1 := cell_of_block (heap_below HX4.out hB.out) 1
          obtain ⟨b, off, rfl, hbw⟩ := HS.out.s1.addr (show 0 < m1 by omega)
          obtain ⟨b', off', rfl, hbw'⟩ := HT.out.s1.addr (show 0 < m1 by omega)
          obtain ⟨qx, qy⟩ := ((HS.out.below HB4.out).s1.below hB.out).cells k hlt (0, 0)
          have hby := ((HT.out.below HB4.out).s1.below hB.out).byte k hlt
          have hnoi := HFI.out.noi k hlt
          obtain ⟨v, hv⟩ : ∃ v, v = (t.init.getD k 0).toNat := ⟨_, rfl⟩
          have hby2 : wr.cell? ⟨b', off' + k, none⟩ = some (.int .u8 (v : Int)) := by rw [hv]; exact hby
          obtain ⟨p, hp⟩ : ∃ t, t = c.lats.getD k (0, 0) := ⟨_, rfl⟩
          rw [← hp] at qx qy hnoi
          rw [← hv] at hnoi
          have STEP : Hid ((p.2 = 2 ∨ v = p.2) → ∀ j, j < k + 1 → (c.lats.getD j (0, 0)).2 = 2 ∨ (t.init.getD j 0).toNat = (c.lats.getD j (0, 0)).2) := fun hh j hj => by
            rcases Nat.lt_or_ge j k with h | h
            · exact hno.out j h
            · have : j = k := by omega
              subst this
              rw [← hp, ← hv]; exact hh
          clear hv hp hby hno
          obtain ⟨x, y⟩ := p
          simp only [nv32, nv8] at qx qy
          simp only at hnoi STEP
          have HNOI := Lib.hid hnoi
          have HBB := Lib.hid hB.out
          have W1' : IntKind.i64.wrap ((k : Int) + 1) = (k : Int) + 1 := IntWalk.i64_in _ (by omega)
          clear hnoi hB
          by_cases hy2 : y = 2
          · have f1 : ((y : Int) != 2) = false := by simp; omega
            have f2 : ((y : Int) == 2) = true := by simp; omega
            have HN := Lib.hid (STEP.out (Or.inl hy2))
            clear STEP hy2
            go_wp2
            go_quiet (fail)
            go_wp2
            go_roundw
            case rel =>
              rename_i nq
              exact ⟨k + 1, by omega, by go_num, HN.out, ext_trans HBB.out (ext_drewN _ nq)⟩
            case measure => simp [intOf]; omega
          · have f1 : ((y : Int) != 2) = true := by simp; omega
            have f2 : ((y : Int) == 2) = false := by simp; omega
            by_cases hvy : v = y
            · have f3 : ((y : Int) != (v : Int)) = false := by simp; omega
              have f4 : ((y : Int) == (v : Int)) = true := by simp; omega
              have HN := Lib.hid (STEP.out (Or.inr hvy))
              clear STEP hy2 hvy
              go_wp2
              go_quiet (fail)
              go_wp2
              go_roundw
              case rel =>
                rename_i nq
                exact ⟨k + 1, by omega, by go_num, HN.out, ext_trans HBB.out (ext_drewN _ nq)⟩
              case measure => simp [intOf]; omega
            · have f3 : ((y : Int) != (v : Int)) = true := by simp; omega
              have f4 : ((y : Int) == (v : Int)) = false := by simp; omega
              have HF : Hid (q = false) := HNOI.out hy2 hvy
              clear STEP hy2 hvy
              go_wp2
              go_quiet (fail)
              go_wp2
              go_ret
              rename_i nq
              exact ⟨by rw [HF.out]; rfl, ext_trans HB4.out (ext_trans HBB.out (ext_drewN _ nq))⟩
        · obtain rfl : m1 = k := by omega
          have HQ : Hid (q = true) := HFI.out.yes rfl (by have := T1.out; omega) (by have := T2.out; omega) rfl (by have := T3.out; omega) (by have := T4.out; omega) HNF.out hno.out
          have HBB := Lib.hid hB.out
          clear hno hB hlt hk
          go_wp2
          go_ret
          exact ⟨by rw [HQ.out]; rfl, ext_trans HB4.out HBB.out⟩
end Go.Proofs.Ytdheldhecimfnaa
/- The reference's CopyTrace, by its contract. -/
namespace Go.Proofs.Ytdheldhecimfnaa
open Go Go.RowKit Go.Joins

/-- A trace's slots own what they read; the list of frames is a row that may have room. -/
structure OwnT3 (w : World) (base : Nat) (s : TSlots) (t : TraceC) : Prop where
  o1 : Row isByte w base 5 (.slice s.a1 s.n1 s.c1) t.init.length (t.init.map bv)
  o2 : w.ownsRow base 27 1 (.slice s.a2 s.n2 s.c2) t.frames.length (s.ss.map slV)
  len : s.ss.length = t.frames.length
  rows : ∀ j, j < t.frames.length → Row isByte w base 5 (slV (s.ss.getD j slc0)) (t.frames.getD j []).length ((t.frames.getD j []).map bv)
  ap : ApartL ((s.a1, s.n1, s.c1) :: s.ss)
theorem OwnT3.below {w w' : World} {base : Nat} {s : TSlots} {t : TraceC} (h : OwnT3 w base s t) (hb : Below w.heap.size w w') : OwnT3 w' base s t :=
  ⟨h.o1.below hb, ownsN_below h.o2 hb, h.len, fun j hj => (h.rows j hj).below hb, h.ap⟩
theorem owns_sees_slice {w : World} {base : Nat} {e : TypeId} {a : Option Addr} {n c m : Nat} {xs : List Value} (h : w.ownsRow base e 1 (.slice a n c) m xs) : n = m ∧ Sees w a n c xs := by
  obtain ⟨a', c', e1, _, hs⟩ := Sees.owned h
  cases e1
  exact ⟨rfl, hs⟩
theorem OwnT3.sees {w : World} {base : Nat} {s : TSlots} {t : TraceC} (h : OwnT3 w base s t) : SeesTr w s t :=
  ⟨(row_sees_slice h.o1).2, ⟨(owns_sees_slice h.o2).2, h.len, fun k hk => (row_sees_slice (h.rows k hk)).2⟩⟩

/-- While the copy is made: k frames have been copied. -/
structure RcInv (w : World) (bad : Int) (F : List (List UInt8)) (I : List UInt8) (a1 : Option Addr) (n1 c1 : Nat) (a2 : Option Addr) (n2 c2 k : Nat) (W : World) (v : Value) (si : Slc) (ss : List Slc) : Prop where
  box : W.heap[w.heap.size + 1 + 1]? = some (.cells #[.int .i64 bad, slV si, v] 30 (0, 0))
  tb : W.heap[w.heap.size]? = some (.cells #[.int .i64 bad, .slice a1 n1 c1, .slice a2 n2 c2] 30 (0, 0))
  rb : W.heap[w.heap.size + 1]? = some (.cells #[.int .i64 0, .slice none 0 0, .slice none 0 0] 30 (0, 0))
  init : Row isByte W w.heap.size 5 (slV si) I.length (I.map bv)
  row : W.ownsRow w.heap.size 27 1 v k (ss.map slV)
  len : ss.length = k
  rows : ∀ j, j < k → Row isByte W w.heap.size 5 (slV (ss.getD j slc0)) (F.getD j []).length ((F.getD j []).map bv)
  ap : ApartL (si :: ss)
  low : Below w.heap.size w W

theorem OwnT3.set3 {w : World} {base G : Nat} {s : TSlots} {t : TraceC} {C : Array Value} {fr : Nat × Nat} {u0 u1 u2 : Value} (h : OwnT3 w base s t) (hG : w.heap[G]? = some (.cells C 30 fr)) : OwnT3 (((w.setCell ⟨G, 0, .none⟩ u0).setCell ⟨G, 1, .none⟩ u1).setCell ⟨G, 2, .none⟩ u2) base s t := by
  have row : ∀ {v : Value} {n : Nat} {xs : List Value}, Row isByte w base 5 v n xs → Row isByte (((w.setCell ⟨G, 0, .none⟩ u0).setCell ⟨G, 1, .none⟩ u1).setCell ⟨G, 2, .none⟩ u2) base 5 v n xs := fun hr =>
    hr.other fun q hq => set3_other G q (fun e => (hr.not_own hG (by decide)) (by rw [hq, e])) _ _ _
  exact ⟨row h.o1, ownsN_other h.o2 fun q hq => set3_other G q (fun e => (ownsN_notown h.o2 hG (by decide)) (by rw [hq, e])) _ _ _, h.len, fun j hj => row (h.rows j hj), h.ap⟩
theorem keep3c {w w' : World} {a0 a1 a2 : Addr} {v0 v1 v2 : Value} (h : w.cell? a0 = some v0 ∧ w.cell? a1 = some v1 ∧ w.cell? a2 = some v2) (hb : Below w.heap.size w w') : w'.cell? a0 = some v0 ∧ w'.cell? a1 = some v1 ∧ w'.cell? a2 = some v2 := by
  obtain ⟨h0, h1, h2⟩ := h
  have one : ∀ {a : Addr} {v : Value}, w.cell? a = some v → w'.cell? a = some v := fun {a v} h => (hb.cell (World.block_lt_of_cell? _ _ h)).trans h
  exact ⟨one h0, one h1, one h2⟩
theorem apart_snoc {L : List Slc} {x : Slc} (h : ApartL L) (h2 : ∀ j, j < L.length → ∀ g, (slV (L.getD j slc0)).ownBlock = some g → (slV x).ownBlock ≠ some g) : ApartL (L ++ [x]) := by
  intro i j hij hj g hg
  have hi : i < L.length := by simp at hj; omega
  have e1 : (L ++ [x]).getD i slc0 = L.getD i slc0 := by simp [List.getD, List.getElem?_append_left hi]
  rw [e1] at hg
  by_cases e : j < L.length
  · have e2 : (L ++ [x]).getD j slc0 = L.getD j slc0 := by simp [List.getD, List.getElem?_append_left e]
    rw [e2]; exact h i j hij e g hg
  · have e3 : j = L.length := by simp at hj; omega
    have e2 : (L ++ [x]).getD j slc0 = x := by rw [e3]; simp
    rw [e2]; exact h2 i hi g hg

set_option maxRecDepth 100000 in
set_option maxHeartbeats 6400000 in
theorem refcopy_any (t : TraceC) (s : TSlots) (w : World) (h : SeesTr w s t) (hs : s.small) :
    Calls Try.prog 15 #[traceV t.bad s] w fun e w' => ∃ s' : TSlots, e = .returned (traceV t.bad s') ∧ OwnT3 w' w.heap.size s' t ∧ s'.small ∧ Below w.heap.size w w' := by
  obtain ⟨i0, hi, hz0, hz1, hz2⟩ := info_parts info_byte
  obtain ⟨iS, hiS, hzS0, hzS1, hzS2⟩ := info_parts info_u8s
  obtain ⟨a1, n1, c1, a2, n2, c2, ss0⟩ := s
  obtain ⟨hs1, hs2, hs3⟩ := hs
  simp only at hs1 hs2 hs3
  obtain ⟨bad, init, fs⟩ := t
  obtain ⟨q1, q2⟩ := h
  simp only at q1 q2
  have hn2 := q2.n_eq
  have hn1 : init.length = n1 := q1.lenMap
  have H1 := Lib.hid q1
  have H2 := Lib.hid q2
  have HN1 := Lib.hid hn1
  have HN2 := Lib.hid hn2
  have HSL := Lib.hid hs3
  clear q1 q2 hn1 hn2 hs3
  unfold traceV
  go_enter Try.func15, Try.ntmps15
  go_upto_region 2 with fail
  generalize hW : World.alloc (World.alloc (World.alloc w _) _) _ = W1
  have B1 : Below w.heap.size w W1 := by subst hW; exact ext_trans (ext_alloc _ _) (ext_trans (ext_alloc _ _) (ext_alloc _ _))
  have hT : W1.heap[w.heap.size]? = some (.cells #[.int .i64 bad, .slice a1 n1 c1, .slice a2 n2 c2] 30 (0, 0)) := by subst hW; exact heap_below (heap_below (heap_new _ _ _ rfl) (ext_alloc _ _)) (ext_alloc _ _)
  have hR : W1.heap[w.heap.size + 1]? = some (.cells #[.int .i64 0, .slice none 0 0, .slice none 0 0] 30 (0, 0)) := by subst hW; exact heap_below (heap_new _ _ _ (by simp)) (ext_alloc _ _)
  have hX : W1.heap[w.heap.size + 1 + 1]? = some (.cells #[.int .i64 bad, .slice none 0 0, .slice none 0 0] 30 (0, 0)) := by subst hW; exact heap_new _ _ _ (by simp)
  clear hW
  have p1 := cell_of_block hT 1
  have p2 := cell_of_block hX 1
  have p3 := unfrozen_of_block hX 1
  have HB := Lib.hid B1
  have HT := Lib.hid hT
  have HR := Lib.hid hR
  have HX := Lib.hid hX
  clear B1 hT hR hX
  go_wp2_with (at_builtin; refine wpList_append_row isByte _ rfl _ _ 27 rfl w.heap.size 5 i0 (.int .u8 0) 1 Try.underlying27 hi hz0 hz1 hz2 rfl isByte_zero _ _ _ rfl (Row.nil _ _ _ _) a1 n1 c1 (init.map bv) rfl (H1.out.below HB.out) (bv_one _) (isByte_all _) (by unfold maxLen; omega) (by omega) HB.out.size ?_; intro v1 w1 r1 g1 _; obtain ⟨ia, ic, rfl⟩ := r1.form; have hb1 : Below W1.heap.size W1 w1 := (Below.refl _ W1).grown g1 (Nat.le_refl _) (fun k hk => by cases hk); have p4 := cell_of_block (heap_below HX.out hb1) 1; have p5 := unfrozen_of_block (heap_below HX.out hb1) 1)
  obtain ⟨si, hsi⟩ : ∃ si : Slc, si = (ia, 0 + n1, ic) := ⟨_, rfl⟩
  have hro : Row isByte w1 w.heap.size 5 (slV si) init.length (init.map bv) := by rw [hsi, HN1.out]; simpa [slV] using r1
  have hXX := block_setCell (heap_below HX.out hb1) (i := 1) (.slice ia (0 + n1) ic)
  generalize hW : World.setCell w1 _ _ = W2
  have hx2 : W2.heap[w.heap.size + 1 + 1]? = some (.cells #[.int .i64 bad, slV si, .slice none 0 0] 30 (0, 0)) := by
    subst hW; rw [hsi]; simpa [slV] using hXX
  have hne : ∀ D : Nat, D ≠ w.heap.size + 1 + 1 → W2.heap[D]? = w1.heap[D]? := fun D hD => by subst hW; exact Below.heap_setCell w1 ⟨w.heap.size + 1 + 1, 1, none⟩ _ D hD
  have hro2 : Row isByte W2 w.heap.size 5 (slV si) init.length (init.map bv) := hro.other fun q hq => hne q (fun e => (hro.not_own (heap_below HX.out hb1) (by decide)) (by rw [hq, e]))
  have hb2 : Below w.heap.size w W2 := by
    subst hW
    exact (ext_trans HB.out hb1).setCell (p := ⟨w.heap.size + 1 + 1, 1, none⟩) (by show w.heap.size ≤ w.heap.size + 1 + 1; omega) _
  have ht2 : W2.heap[w.heap.size]? = some (.cells #[.int .i64 bad, .slice a1 n1 c1, .slice a2 n2 c2] 30 (0, 0)) := (hne _ (by omega)).trans (heap_below HT.out hb1)
  have hr2 : W2.heap[w.heap.size + 1]? = some (.cells #[.int .i64 0, .slice none 0 0, .slice none 0 0] 30 (0, 0)) := (hne _ (by omega)).trans (heap_below HR.out hb1)
  have hlen2 : (si.2.1 : Nat) = init.length := (row_len (show Row isByte W2 w.heap.size 5 (.slice si.1 si.2.1 si.2.2) _ _ from hro2)).symm
  have HLEN2 := Lib.hid hlen2
  have HRO := Lib.hid hro2
  have HT2 := Lib.hid ht2
  have HR2 := Lib.hid hr2
  have HX2 := Lib.hid hx2
  have HB2 := Lib.hid hb2
  have HSI := Lib.hid hsi
  clear hW r1 g1 hb1 hro hXX hx2 hne hro2 hb2 ht2 hr2 hsi p1 p2 p3 p4 p5 HB HT HR HX hlen2
  go_wp2
  go_loopw [4, 5] (fun i _ wr => ∃ (k : Nat) (va : Option Addr) (vc : Nat) (ss : List Slc), k ≤ n2 ∧ i = .int .i64 k ∧ Hid (RcInv w bad fs init a1 n1 c1 a2 n2 c2 k wr (.slice va k vc) si ss)) (fun i _ _ => n2 - (intOf i).toNat)
  case atStart => exact ⟨0, none, 0, [], Nat.zero_le _, rfl, HX2.out, HT2.out, HR2.out, HRO.out, ⟨rfl, .inl ⟨rfl, rfl⟩⟩, rfl, fun j hj => absurd hj (by omega), (fun i j hij hj => by simp at hj; omega), HB2.out⟩
  case round =>
    clear HX2 HT2 HR2 HRO HB2
    obtain ⟨k, va, vc, ss, hk, rfl, hI⟩ := hrel
    have p1 := cell_of_block hI.out.tb 2
    by_cases hlt : k < n2
    · obtain ⟨bb, off, rfl, hbw⟩ := H2.out.row.addr (show 0 < n2 by omega)
      have hcx := (H2.out.below hI.out.low).cellAt k hlt
      have hsee := (H2.out.below hI.out.low).each k (by rw [HN2.out]; exact hlt)
      have hsl := HSL.out (ss0.getD k slc0) (getD_mem (by rw [H2.out.len, HN2.out]; exact hlt))
      obtain ⟨x, hx⟩ : ∃ x : Slc, x = ss0.getD k slc0 := ⟨_, rfl⟩
      rw [← hx] at hcx hsee hsl
      obtain ⟨xa, xn, xc⟩ := x
      simp only at hcx hsee hsl
      have HXN := Lib.hid hsl
      have HKN : Hid (k < n2 ∧ n2 ≤ 1048576) := ⟨hlt, hs2⟩
      have HSK := Lib.hid hsee
      have HBW := Lib.hid hbw
      have hI1 : ((k : Nat) : Int) < (n2 : Int) := by omega
      have hI2 : (0 : Int) ≤ (k : Int) := by omega
      have W1' : IntKind.i64.wrap ((k : Int) + 1) = (k : Int) + 1 := IntWalk.i64_in _ (by omega)
      have p0 : wr.cell? ⟨w.heap.size + 1 + 1, 2, none⟩ = some (.slice va k vc) := cell_of_block hI.out.box 2
      have p2 := hcx
      have hxl : xn = (fs.getD k []).length := hsee.lenMap.symm
      have HXL := Lib.hid hxl
      clear hx hcx hsee hsl hbw hxl
      go_upto_region 7 with fail
      have HS0 := Lib.hid (And.intro p0 (And.intro p1 p2))
      have HSD := Lib.hid (keep3c HS0.out ((Below.refl _ wr).drew))
      have HSK2 := Lib.hid (HSK.out.below ((Below.refl _ wr).drew))
      refine wp_region_noPanic ?_
      refine wp_region_peelN 12 (by kernel_rfl) rfl (by simp only [List.getElem?_toArray, List.getElem?_cons_zero, List.getElem?_cons_succ]; rfl) (by kernel_rfl) ?_
      simp only [List.pop_toArray, List.dropLast_cons_cons, List.dropLast_singleton]
      refine wpAny_of_held (S := fun w' => w'.cell? ⟨w.heap.size + 1 + 1, 2, none⟩ = some (.slice va k vc) ∧ w'.cell? ⟨w.heap.size, 2, none⟩ = some (.slice (some ⟨bb, off, none⟩) n2 c2) ∧ w'.cell? ⟨bb, off + k, none⟩ = some (.slice xa xn xc)) _ _ _ _ ?_
      refine wpAnyH_take (i := 0) (v := ?_) (by simp only [List.getElem?_toArray, List.getElem?_cons_zero]; rfl) (by kernel_rfl) (by kernel_rfl) (by kernel_rfl) (fun _ _ _ h => h) (Or.inl ⟨by rfl, ?_⟩) HSD.out ?_
      rotate_left
      · intro w hSw
        (try dsimp only at hSw)
        obtain ⟨q0_, q1_, q2_⟩ := hSw
        go_simp
        try with_reducible rfl
      try simp only [Act.put, List.setIfInBounds_toArray, List.set_cons_zero, List.set_cons_succ]
      refine wpAnyH_take (i := 1) (v := ?_) (by simp only [List.getElem?_toArray, List.getElem?_cons_zero, List.getElem?_cons_succ]; rfl) (by kernel_rfl) (by kernel_rfl) (by kernel_rfl) (fun _ _ _ h => h) (Or.inl ⟨by rfl, ?_⟩) HSD.out ?_
      rotate_left
      · intro w hSw
        (try dsimp only at hSw)
        obtain ⟨q0_, q1_, q2_⟩ := hSw
        go_simp
        try with_reducible rfl
      try simp only [Act.put, List.setIfInBounds_toArray, List.set_cons_zero, List.set_cons_succ]
      refine wpAnyH_take (i := 2) (v := ?_) (by simp only [List.getElem?_toArray, List.getElem?_cons_zero, List.getElem?_cons_succ]; rfl) (by kernel_rfl) (by kernel_rfl) (by kernel_rfl) (fun _ _ _ h => h) (Or.inl ⟨by rfl, ?_⟩) HSD.out ?_
      rotate_left
      · intro w hSw
        (try dsimp only at hSw)
        obtain ⟨q0_, q1_, q2_⟩ := hSw
        go_simp
        try with_reducible rfl
      try simp only [Act.put, List.setIfInBounds_toArray, List.set_cons_zero, List.set_cons_succ]
      refine wpAnyH_take (i := 3) (v := ?_) (by simp only [List.getElem?_toArray, List.getElem?_cons_zero, List.getElem?_cons_succ]; rfl) (by kernel_rfl) (by kernel_rfl) (by kernel_rfl) (fun _ _ _ h => h) (Or.inl ⟨by rfl, ?_⟩) HSD.out ?_
      rotate_left
      · intro w hSw
        (try dsimp only at hSw)
        obtain ⟨q0_, q1_, q2_⟩ := hSw
        go_simp
        try with_reducible rfl
      try simp only [Act.put, List.setIfInBounds_toArray, List.set_cons_zero, List.set_cons_succ]
      refine wpAnyH_take (i := 4) (v := ?_) (by simp only [List.getElem?_toArray, List.getElem?_cons_zero, List.getElem?_cons_succ]; rfl) (by kernel_rfl) (by kernel_rfl) (by kernel_rfl) (fun _ _ _ h => h) (Or.inl ⟨by rfl, ?_⟩) HSD.out ?_
      rotate_left
      · intro w hSw
        (try dsimp only at hSw)
        obtain ⟨q0_, q1_, q2_⟩ := hSw
        go_simp
        try with_reducible rfl
      try simp only [Act.put, List.setIfInBounds_toArray, List.set_cons_zero, List.set_cons_succ]
      refine wpAnyH_take (i := 5) (v := ?_) (by simp only [List.getElem?_toArray, List.getElem?_cons_zero, List.getElem?_cons_succ]; rfl) (by kernel_rfl) (by kernel_rfl) (by kernel_rfl) (fun _ _ _ h => h) (Or.inl ⟨by rfl, ?_⟩) HSD.out ?_
      rotate_left
      · intro w hSw
        (try dsimp only at hSw)
        obtain ⟨q0_, q1_, q2_⟩ := hSw
        go_simp
        try with_reducible rfl
      try simp only [Act.put, List.setIfInBounds_toArray, List.set_cons_zero, List.set_cons_succ]
      refine wpAnyH_take (i := 6) (v := ?_) (by simp only [List.getElem?_toArray, List.getElem?_cons_zero, List.getElem?_cons_succ]; rfl) (by kernel_rfl) (by kernel_rfl) (by kernel_rfl) (fun _ _ _ h => h) (Or.inl ⟨by rfl, ?_⟩) HSD.out ?_
      rotate_left
      · intro w hSw
        (try dsimp only at hSw)
        obtain ⟨q0_, q1_, q2_⟩ := hSw
        go_simp
        try with_reducible rfl
      try simp only [Act.put, List.setIfInBounds_toArray, List.set_cons_zero, List.set_cons_succ]
      refine wpAnyH_take (i := 7) (v := ?_) (by simp only [List.getElem?_toArray, List.getElem?_cons_zero, List.getElem?_cons_succ]; rfl) (by kernel_rfl) (by kernel_rfl) (by kernel_rfl) (fun _ _ _ h => h) (Or.inl ⟨by rfl, ?_⟩) HSD.out ?_
      rotate_left
      · intro w hSw
        (try dsimp only at hSw)
        obtain ⟨q0_, q1_, q2_⟩ := hSw
        go_simp
        try with_reducible rfl
      try simp only [Act.put, List.setIfInBounds_toArray, List.set_cons_zero, List.set_cons_succ]
      refine wpAnyH_ready (rs := [8]) (by kernel_rfl) (by simp) ?_
      refine AllReadyH.cons (by simp only [List.getElem?_toArray, List.getElem?_cons_zero, List.getElem?_cons_succ]; rfl) (fun K hK => ?_) AllReadyH.nil
      refine step_append_row isByte _ rfl _ _ 27 rfl wr.heap.size 5 i0 (.int .u8 0) 1 Try.underlying27 hi hz0 hz1 hz2 rfl isByte_zero _ _ _ (by simp [Act.eval]) (Row.nil _ _ _ _) xa xn xc ((fs.getD k []).map bv) (by simp [Act.eval]) HSK2.out (bv_one _) (isByte_all _) (by unfold maxLen; have := HXN.out; omega) (by have := HXN.out; omega) (Nat.le_refl _) ?_
      intro v3 w3 r3 g3
      rw [Nat.zero_add, List.nil_append] at r3
      obtain ⟨ea, ec, rfl⟩ := r3.form
      have hb3 : Below wr.heap.size wr w3 := ((Below.refl _ wr).drew).grown g3 (Nat.le_refl _) (fun k hk => by cases hk)
      have HB3 := Lib.hid hb3
      have R3 := Lib.hid r3
      have HS3 := Lib.hid (keep3c HS0.out hb3)
      clear r3 g3 hb3
      refine hK.out _ _ HS3.out (fun _ => ?_)
      clear hK K
      try simp only [Act.put, List.setIfInBounds_toArray, List.set_cons_zero, List.set_cons_succ]
      refine wpAnyH_ready (rs := [9]) (by kernel_rfl) (by simp) ?_
      refine AllReadyH.cons (by simp only [List.getElem?_toArray, List.getElem?_cons_zero, List.getElem?_cons_succ]; rfl) (fun K hK => ?_) AllReadyH.nil
      go_simp
      refine hK.out _ _ (keep3c HS3.out (ext_alloc _ _)) (fun _ => ?_)
      clear hK K
      try simp only [Act.put, List.setIfInBounds_toArray, List.set_cons_zero, List.set_cons_succ]
      have HB4 := Lib.hid (ext_trans HB3.out (ext_alloc w3 (.cells #[.slice ea xn ec] 27)))
      have HOW := Lib.hid (ownsN_below hI.out.row HB4.out)
      refine wpAnyH_ready (rs := [10]) (by kernel_rfl) (by simp) ?_
      refine AllReadyH.cons (by simp only [List.getElem?_toArray, List.getElem?_cons_zero, List.getElem?_cons_succ]; rfl) (fun K hK => ?_) AllReadyH.nil
      refine step_append_own_at rfl _ _ 28 rfl w.heap.size 27 iS (.slice none 0 0) 1 24 Try.underlying28 hiS hzS0 hzS1 hzS2 rfl (by decide) (.slice va k vc) k (ss.map slV) (by simp [Act.eval]) HOW.out ⟨w3.heap.size, 0, none⟩ 1 1 [.slice ea xn ec] (by simp [Act.eval]) rfl (cell_one_new _ _ _) (by simp [Value.oneCell']) (by unfold maxLen; have := HKN.out; omega) (by have := HKN.out; omega) (ext_trans hI.out.low HB4.out).size ?_
      intro v5 w5 r5 g5
      obtain ⟨fa, fc, rfl⟩ := ownsN_form r5
      have hx5 := heap_grown (heap_below hI.out.box HB4.out) g5 (ownsN_notown HOW.out (heap_below hI.out.box HB4.out) (by decide))
      have ht5 := heap_grown (heap_below hI.out.tb HB4.out) g5 (ownsN_notown HOW.out (heap_below hI.out.tb HB4.out) (by decide))
      have HS5 : Hid (w5.cell? ⟨w.heap.size + 1 + 1, 2, none⟩ = some (.slice va k vc) ∧ w5.cell? ⟨w.heap.size, 2, none⟩ = some (.slice (some ⟨bb, off, none⟩) n2 c2) ∧ w5.cell? ⟨bb, off + k, none⟩ = some (.slice xa xn xc)) := ⟨cell_of_block hx5 2, cell_of_block ht5 2, by rw [World.cell?_of_block (w := w3.alloc (.cells #[.slice ea xn ec] 27)) (g5.block bb (Nat.lt_of_lt_of_le HBW.out (Nat.le_trans hI.out.low.size HB4.out.size)) (fun e => by have := (HOW.out.lt bb e.symm).1; have := HBW.out; omega))]; exact (keep3c HS3.out (ext_alloc _ _)).2.2⟩
      have HX5 := Lib.hid hx5
      have HT5 := Lib.hid ht5
      have d1 := cell_of_block hx5 2
      have d2 := unfrozen_of_block hx5 2
      have HG5 := Lib.hid g5
      have R5 := Lib.hid r5
      clear r5 g5 hx5 ht5
      refine hK.out _ _ HS5.out (fun _ => ?_)
      clear hK K
      try simp only [Act.put, List.setIfInBounds_toArray, List.set_cons_zero, List.set_cons_succ]
      refine wpAnyH_take (i := 11) (v := ?_) (by simp only [List.getElem?_toArray, List.getElem?_cons_zero, List.getElem?_cons_succ]; rfl) (by kernel_rfl) (by kernel_rfl) (by kernel_rfl) (fun _ _ _ h => h) (Or.inl ⟨by rfl, ?_⟩) HS5.out ?_
      rotate_left
      · intro w hSw
        (try dsimp only at hSw)
        obtain ⟨q0_, q1_, q2_⟩ := hSw
        go_simp
        try with_reducible rfl
      try simp only [Act.put, List.setIfInBounds_toArray, List.set_cons_zero, List.set_cons_succ]
      refine wpAnyH_done (by kernel_rfl) ?_ _
      unfold LastQ wpOp
      simp only [List.getElem?_toArray, List.getElem?_cons_zero, List.getElem?_cons_succ]
      rw [if_pos (by rfl)]
      refine Or.inl ?_
      go_simp
      refine NoPanic.normal ?_
      clear p0 p1 p2 HS0 HSD HS3 HS5 d1 d2
      go_wp2
      go_roundw
      case rel =>
        refine ⟨k + 1, fa, fc, ss ++ [(ea, xn, ec)], by omega, by go_num, ?_⟩
        have hXX := block_setCell HX5.out (i := 2) (.slice fa (k + 1) fc)
        obtain ⟨W6, hW6⟩ : ∃ W6, W6 = w5.setCell ⟨w.heap.size + 1 + 1, 2, none⟩ (.slice fa (k + 1) fc) := ⟨_, rfl⟩
        rw [← hW6] at hXX ⊢
        have hne : ∀ D : Nat, D ≠ w.heap.size + 1 + 1 → W6.heap[D]? = w5.heap[D]? := fun D hD => by rw [hW6]; exact Below.heap_setCell w5 ⟨w.heap.size + 1 + 1, 2, none⟩ _ D hD
        obtain ⟨WA, hWA⟩ : ∃ WA, WA = w3.alloc (.cells #[.slice ea xn ec] 27) := ⟨_, rfl⟩
        have hg := HG5.out
        have hb4 := HB4.out
        have how := HOW.out
        rw [← hWA] at hg hb4 how
        have hb3A : Below w3.heap.size w3 WA := by rw [hWA]; exact ext_alloc _ _
        have hwle : w.heap.size ≤ wr.heap.size := hI.out.low.size
        have one : ∀ {y : Slc} {V : List UInt8}, Row isByte WA w.heap.size 5 (slV y) V.length (V.map bv) → Row isByte W6 w.heap.size 5 (slV y) V.length (V.map bv) := fun {y V} hy => by
          have h1 := row_grown hy how hg (by decide)
          exact h1.other fun q hq => hne q (fun e => (h1.not_own HX5.out (by decide)) (by rw [hq, e]))
        have hnew : Row isByte WA w.heap.size 5 (slV (ea, xn, ec)) (fs.getD k []).length ((fs.getD k []).map bv) := by
          have h1 := (R3.out.below hb3A).base_le hwle
          rw [HXL.out] at h1 ⊢
          exact h1
        have hbz : Below w.heap.size w WA := ext_trans hI.out.low hb4
        refine ⟨?_, (hne _ (by omega)).trans HT5.out, (hne _ (by omega)).trans (heap_grown (heap_below hI.out.rb hb4) hg (ownsN_notown how (heap_below hI.out.rb hb4) (by decide))), one (hI.out.init.below hb4), ?_, by simp [hI.out.len], fun j hj => ?_, ?_, ?_⟩
        · simpa using hXX
        · have h1 : w5.ownsRow w.heap.size 27 1 (.slice fa (k + 1) fc) (k + 1) ((ss ++ [(ea, xn, ec)]).map slV) := by simpa [slV] using R5.out
          exact ownsN_other h1 fun q hq => hne q (fun e => (ownsN_notown h1 HX5.out (by decide)) (by rw [hq, e]))
        · by_cases e : j = k
          · subst e
            have e1 : (ss ++ [(ea, xn, ec)]).getD j slc0 = (ea, xn, ec) := by rw [← hI.out.len]; simp
            rw [e1]
            exact one hnew
          · have e1 : (ss ++ [(ea, xn, ec)]).getD j slc0 = ss.getD j slc0 := by simp [List.getD, List.getElem?_append_left (show j < ss.length by rw [hI.out.len]; omega)]
            rw [e1]
            exact one ((hI.out.rows j (by omega)).below hb4)
        · have h1 := apart_snoc (x := (ea, xn, ec)) hI.out.ap (fun j hj g hg1 hg2 => ?_)
          · simpa using h1
          · have h3 := (R3.out.own.lt g hg2).1
            have h4 : g < wr.heap.size := by
              cases j with
              | zero => exact (hI.out.init.own.lt g hg1).2
              | succ j => exact ((hI.out.rows j (by rw [← hI.out.len]; simpa using hj)).own.lt g hg1).2
            omega
        · rw [hW6]
          exact (hbz.grown hg hbz.size (fun q hq => (how.lt q hq).1)).setCell (p := ⟨w.heap.size + 1 + 1, 2, none⟩) (by show w.heap.size ≤ w.heap.size + 1 + 1; omega) _
      case measure => simp [intOf]; omega
    · obtain rfl : k = n2 := by omega
      have z0 := cell_of_block hI.out.box 0
      have z1 := cell_of_block hI.out.box 1
      have z2 := cell_of_block hI.out.box 2
      obtain ⟨sa, sn, sc⟩ := si
      simp only [slV] at z1
      have z1' : wr.cell? ⟨w.heap.size + 1 + 1, 1, none⟩ = some (.slice sa sn sc) := z1
      have y0 := cell_of_block hI.out.rb 0
      have y1 := cell_of_block hI.out.rb 1
      have y2 := cell_of_block hI.out.rb 2
      have x0 := unfrozen_of_block hI.out.rb 0
      have x1 := unfrozen_of_block hI.out.rb 1
      have x2 := unfrozen_of_block hI.out.rb 2
      clear hlt hk z1
      go_wp2
      refine bodyPost_ret (v := traceV bad ⟨sa, sn, sc, va, k, vc, ss⟩) ?_ rfl ?_
      · have h6 := tri_set_t hI.out.rb rfl (.int .i64 bad) (.slice sa sn sc) (.slice va k vc)
        have g0 := cell_of_block h6 0
        have g1 := cell_of_block h6 1
        have g2 := cell_of_block h6 2
        simp [results, Try.results15, go_sem, g0, g1, g2]
        rfl
      · have hsn : sn = init.length := HLEN2.out
        have h1 := HN1.out
        have h2 := HN2.out
        refine ⟨⟨sa, sn, sc, va, k, vc, ss⟩, rfl, OwnT3.set3 ⟨hI.out.init, by rw [h2]; exact hI.out.row, by rw [h2]; exact hI.out.len, fun j hj => hI.out.rows j (by rw [← h2]; exact hj), hI.out.ap⟩ hI.out.rb, ⟨by show sn ≤ 1048576; omega, hs2, fun x hx => ?_⟩, set3_t (w.heap.size + 1) (Nat.le_succ _) hI.out.low⟩
        obtain ⟨j, hj, he⟩ := List.getElem_of_mem hx
        have h3 : ss.getD j slc0 = x := by simp [List.getD, List.getElem?_eq_getElem hj, he]
        have hjk : j < k := by rw [← hI.out.len]; exact hj
        have h4 := hI.out.rows j hjk
        rw [h3] at h4
        have h5 := row_len (show Row isByte wr w.heap.size 5 (.slice x.1 x.2.1 x.2.2) _ _ from h4)
        have h6 := (H2.out.each j (by rw [h2]; exact hjk)).lenMap
        have h7 := HSL.out (ss0.getD j slc0) (getD_mem (by rw [H2.out.len, h2]; exact hjk))
        omega
end Go.Proofs.Ytdheldhecimfnaa
namespace Go.Proofs.Ytdheldhecimfnaa
open Go Go.RowKit Go.Joins

theorem keep5 {w w' : World} {a0 a1 a2 a3 a4 : Addr} {v0 v1 v2 v3 v4 : Value} (h : w.cell? a0 = some v0 ∧ w.cell? a1 = some v1 ∧ w.cell? a2 = some v2 ∧ w.cell? a3 = some v3 ∧ w.cell? a4 = some v4) (hb : Below w.heap.size w w') :
    w'.cell? a0 = some v0 ∧ w'.cell? a1 = some v1 ∧ w'.cell? a2 = some v2 ∧ w'.cell? a3 = some v3 ∧ w'.cell? a4 = some v4 := by
  obtain ⟨h0, h1, h2, h3, h4⟩ := h
  have one : ∀ {a : Addr} {v : Value}, w.cell? a = some v → w'.cell? a = some v := fun {a v} h => (hb.cell (World.block_lt_of_cell? _ _ h)).trans h
  exact ⟨one h0, one h1, one h2, one h3, one h4⟩

set_option maxRecDepth 100000 in
set_option maxHeartbeats 12800000 in
theorem rfree_any (c : NormC) (t : TraceC) (s : CSlots) (st : TSlots) (w : World) (h : SeesCir w s c) (ht : SeesTr w st t) (hs : s.small) (hst : st.small) (hlo : -9223372036854775808 ≤ c.ins) (hhi : c.ins < 9223372036854775808) (hw : Wide c) (hb1 : -9223372036854775808 ≤ t.bad ∧ t.bad < 9223372036854775808) :
    Calls Try.prog 17 #[cirV c.ins s, traceV t.bad st] w (FreePost c t w) := by
  have HFIT := Lib.hid (fun W (hb : Below w.heap.size w W) => reffits_any c t s st W (h.below hb) (ht.below hb) hs hst hlo hhi hb1 hw)
  have HFR := Lib.hid (fun W (hb : Below w.heap.size w W) => rframes_any c t.bad (st.n2 : Int) s W (h.below hb) hs hlo hhi hw)
  have HCT := Lib.hid (fun W (hb : Below w.heap.size w W) => refcopy_any t st W (ht.below hb) hst)
  have PNO : Hid (fitsS c t = false → ∀ w', Below w.heap.size w w' → FreePost c t w (.returned (.tuple #[traceV 0 ⟨none, 0, 0, none, 0, 0, []⟩, .int .i64 2])) w') := fun hq w' hb => .inl ⟨hq, rfl, hb⟩
  have PYES : Hid (fitsS c t = true → ∀ w' ms s', IsFr c t.bad.toNat st.n2 ms → SeesTr w' s' (freeT c t ms) → s'.small → Below w.heap.size w w' → FreePost c t w (.returned (.tuple #[traceV t.bad s', .int .i64 0])) w') := fun hq w' ms s' h1 h2 h3 h4 => .inr ⟨hq, ms, s', by rw [ht.s2.n_eq]; exact h1, rfl, h2, h3, h4⟩
  have HQ : Hid (fitsS c t = true → FitsC c t) := fits_iff.1
  have HN2 : Hid (t.frames.length = st.n2) := ht.s2.n_eq
  have HFO : Hid (FitsC c t → frOk c t.bad (st.n2 : Int) = true) := fun hf => by
    have := hf.bad
    have := hf.pos
    have := hf.one
    have := hf.few
    have := HN2.out
    exact (frOk_cases c t.bad (st.n2 : Int)).2.2.2.2.2 (mayC_iff.2 hf.may) (by omega) (by omega) (by omega) (by omega)
  have HC := Lib.hid h
  have HSM := Lib.hid hs
  have HSTM := Lib.hid hst
  obtain ⟨z, hz⟩ : ∃ z, z = c.ins := ⟨_, rfl⟩
  have HZI := Lib.hid hz
  obtain ⟨bad, hbad⟩ : ∃ bad, bad = t.bad := ⟨_, rfl⟩
  have HBAD := Lib.hid hbad
  obtain ⟨q, hq⟩ : ∃ q, q = fitsS c t := ⟨_, rfl⟩
  rw [← hz, ← hbad, ← hq] at HFIT
  rw [← hz, ← hbad] at HFR
  rw [← hbad] at HCT HFO PYES
  rw [← hq] at PNO PYES HQ
  rw [← hz, ← hbad]
  clear hz hbad hq h ht hs hst hlo hhi hb1 hw
  unfold cirV traceV at *
  go_enter Try.func17, Try.ntmps17
  go_upto_region 1 with fail
  generalize hW : World.alloc (World.alloc (World.alloc w _) _) _ = W1
  have B1 : Below w.heap.size w W1 := by subst hW; exact ext_trans (ext_alloc _ _) (ext_trans (ext_alloc _ _) (ext_alloc _ _))
  have hX : W1.heap[w.heap.size]? = some (.cells #[.int .i64 z, .slice s.a1 s.n1 s.c1, .slice s.a2 s.n2 s.c2, .slice s.a3 s.n3 s.c3, .slice s.a4 s.n4 s.c4, .slice s.a5 s.n5 s.c5] 26 (0, 0)) := by subst hW; exact heap_below (heap_new _ _ _ rfl) (ext_trans (ext_alloc _ _) (ext_alloc _ _))
  have hY : W1.heap[w.heap.size + 1]? = some (.cells #[.int .i64 bad, .slice st.a1 st.n1 st.c1, .slice st.a2 st.n2 st.c2] 30 (0, 0)) := by subst hW; exact heap_below (heap_new _ _ _ (by simp)) (ext_alloc _ _)
  have hZ : W1.heap[w.heap.size + 1 + 1]? = some (.cells #[.int .i64 0, .slice none 0 0, .slice none 0 0] 30 (0, 0)) := by subst hW; exact heap_new _ _ _ (by simp)
  have HX := Lib.hid hX
  have HY := Lib.hid hY
  have HZ := Lib.hid hZ
  have HB := Lib.hid B1
  clear hW B1 hX hY hZ
  have p0 : W1.cell? ⟨w.heap.size, 0, none⟩ = some (.int .i64 z) := cell_of_block HX.out 0
  have p1 : W1.cell? ⟨w.heap.size, 1, none⟩ = some (.slice s.a1 s.n1 s.c1) := cell_of_block HX.out 1
  have p2 : W1.cell? ⟨w.heap.size, 2, none⟩ = some (.slice s.a2 s.n2 s.c2) := cell_of_block HX.out 2
  have p3 : W1.cell? ⟨w.heap.size, 3, none⟩ = some (.slice s.a3 s.n3 s.c3) := cell_of_block HX.out 3
  have p4 : W1.cell? ⟨w.heap.size, 4, none⟩ = some (.slice s.a4 s.n4 s.c4) := cell_of_block HX.out 4
  have p5 : W1.cell? ⟨w.heap.size, 5, none⟩ = some (.slice s.a5 s.n5 s.c5) := cell_of_block HX.out 5
  have t0 : W1.cell? ⟨w.heap.size + 1, 0, none⟩ = some (.int .i64 bad) := cell_of_block HY.out 0
  have t1 : W1.cell? ⟨w.heap.size + 1, 1, none⟩ = some (.slice st.a1 st.n1 st.c1) := cell_of_block HY.out 1
  have t2 : W1.cell? ⟨w.heap.size + 1, 2, none⟩ = some (.slice st.a2 st.n2 st.c2) := cell_of_block HY.out 2
  go_wp2_with fail
  refine (HFIT.out W1 HB.out).mono ?_
  rintro e W2 ⟨rfl, hb⟩
  have HX2 := Lib.hid (heap_below HX.out hb)
  have HY2 := Lib.hid (heap_below HY.out hb)
  have HZ2 := Lib.hid (heap_below HZ.out hb)
  have HB2 := Lib.hid (ext_trans HB.out hb)
  clear hb p0 p1 p2 p3 p4 p5 t0 t1 t2 HX HY HZ HB HFIT
  cases q with
  | false =>
    have HP := Lib.hid (PNO.out rfl)
    have z0 := cell_of_block HZ2.out 0
    have y0 := unfrozen_of_block HZ2.out 0
    have z1 := cell_of_block HZ2.out 1
    have y1 := unfrozen_of_block HZ2.out 1
    have z2 := cell_of_block HZ2.out 2
    have y2 := unfrozen_of_block HZ2.out 2
    go_wp2
    refine bodyPost_ret (v := .tuple #[traceV 0 ⟨none, 0, 0, none, 0, 0, []⟩, .int .i64 2]) ?_ rfl ?_
    · have h6 := tri_set_t HZ2.out rfl (.int .i64 0) (.slice none 0 0) (.slice none 0 0)
      have g0 := cell_of_block h6 0
      have g1 := cell_of_block h6 1
      have g2 := cell_of_block h6 2
      simp [results, Try.results17, go_sem, g0, g1, g2]
      rfl
    · exact HP.out _ (set3_t (w.heap.size + 1 + 1) (by omega) HB2.out)
  | true =>
  have HF := Lib.hid (HQ.out rfl)
  have HPY0 := Lib.hid (PYES.out rfl)
  obtain ⟨i, hii, hi2, hL, hG⟩ := insN HF.out.may
  have HZ9 : Hid (z = (i : Int)) := by unfold Hid; rw [HZI.out, hii]
  obtain ⟨FL, hFL⟩ : ∃ FL, FL = 1 + i := ⟨_, rfl⟩
  have HLL : Hid (fstL c = FL) := by unfold Hid; rw [hL, hFL]
  have HII : Hid (c.ins = (i : Int)) := hii
  have hFLI : Hid (FL = 1 + i) := hFL
  have hFS : FL ≤ 20000 := by have := HF.out.may.few; unfold varsN at this; unfold fstL at hL; omega
  have W0' : IntKind.i64.wrap ((1 : Int) + (i : Int)) = (FL : Int) := by rw [hFL, IntWalk.i64_in _ (by omega)]; omega
  obtain ⟨N, hN⟩ : ∃ N, N = 1 + varsN c := ⟨_, rfl⟩
  have HN := Lib.hid hN
  have HLA : Hid (c.lats.length = s.n1) := HC.out.s1.1
  have hNI : i < N ∧ FL + s.n1 ≤ N := by
    have h1 := HLA.out
    have h2 : fstL c + c.lats.length ≤ 1 + varsN c := by unfold fstL varsN; omega
    rw [HLL.out, h1] at h2
    omega
  have hns : s.n1 ≤ 1048576 := HSM.out.n1
  have hNS : N ≤ 16385 := by have := HF.out.may.few; omega
  have hn2s : st.n2 ≤ 256 := by rw [← HN2.out]; exact HF.out.few
  have hn21 : 0 < st.n2 := by rw [← HN2.out]; exact HF.out.one
  have HW0 := Lib.hid W0'
  clear hii hi2 hL hG hFL hN PNO PYES HQ W0'
  have t0 : W2.cell? ⟨w.heap.size + 1, 0, none⟩ = some (.int .i64 bad) := cell_of_block HY2.out 0
  have t1 : W2.cell? ⟨w.heap.size + 1, 1, none⟩ = some (.slice st.a1 st.n1 st.c1) := cell_of_block HY2.out 1
  have t2 : W2.cell? ⟨w.heap.size + 1, 2, none⟩ = some (.slice st.a2 st.n2 st.c2) := cell_of_block HY2.out 2
  go_wp2_with fail
  refine (HCT.out W2 HB2.out).mono ?_
  rintro e W3 ⟨⟨a1, n1, c1, a2, n2, c2, ss⟩, rfl, ho, hsm, hb⟩
  have HY3 := Lib.hid (heap_below HY2.out hb)
  have HX3 := Lib.hid (heap_below HX2.out hb)
  have HZ3 := Lib.hid (heap_below HZ2.out hb)
  have HB3 := Lib.hid (ext_trans HB2.out hb)
  have hq1 : n1 = t.init.length := (row_len ho.o1).symm
  have hq2 := (owns_sees_slice ho.o2).1
  have hq3 := ho.len
  simp only at hq2 hq3
  obtain rfl : n2 = st.n2 := by rw [hq2]; exact HN2.out
  obtain rfl : n1 = s.n1 := by rw [hq1, HF.out.init]; exact HLA.out
  have HQ1 := Lib.hid hq1
  have HQ3 : Hid (ss.length = st.n2) := by unfold Hid; rw [hq3]; exact HN2.out
  have HSMX := Lib.hid hsm
  obtain ⟨base, hbase⟩ : ∃ base, base = W2.heap.size := ⟨_, rfl⟩
  rw [← hbase] at ho
  have HO := Lib.hid ho
  have HBS : Hid (w.heap.size + 1 + 1 < base ∧ base ≤ W3.heap.size) := by have := heap_lt HZ2.out; have := hb.size; exact ⟨by omega, by omega⟩
  clear hb ho hsm hq1 hq2 hq3 hbase t0 t1 t2 HX2 HY2 HZ2 HB2 HCT
  have t0 : W3.cell? ⟨w.heap.size + 1, 0, none⟩ = some (.int .i64 bad) := cell_of_block HY3.out 0
  have t1 : W3.cell? ⟨w.heap.size + 1, 1, none⟩ = some (.slice st.a1 st.n1 st.c1) := cell_of_block HY3.out 1
  have t2 : W3.cell? ⟨w.heap.size + 1, 2, none⟩ = some (.slice st.a2 st.n2 st.c2) := cell_of_block HY3.out 2
  have y0 := unfrozen_of_block HY3.out 0
  have y1 := unfrozen_of_block HY3.out 1
  have y2 := unfrozen_of_block HY3.out 2
  go_upto_region 4 with fail
  clear y0 y1 y2 t0 t1 t2
  generalize hW : ((W3.setCell ⟨w.heap.size + 1, 0, none⟩ (.int .i64 bad)).setCell ⟨w.heap.size + 1, 1, none⟩ (.slice a1 s.n1 c1)).setCell ⟨w.heap.size + 1, 2, none⟩ (.slice a2 st.n2 c2) = W4
  have hx4 : W4.heap[w.heap.size]? = some (.cells #[.int .i64 z, .slice s.a1 s.n1 s.c1, .slice s.a2 s.n2 s.c2, .slice s.a3 s.n3 s.c3, .slice s.a4 s.n4 s.c4, .slice s.a5 s.n5 s.c5] 26 (0, 0)) := by subst hW; exact (set3_other (w.heap.size + 1) _ (by omega) _ _ _).trans HX3.out
  have hy4 : W4.heap[w.heap.size + 1]? = some (.cells #[.int .i64 bad, .slice a1 s.n1 c1, .slice a2 st.n2 c2] 30 (0, 0)) := by subst hW; exact tri_set_t HY3.out rfl _ _ _
  have hz4 : W4.heap[w.heap.size + 1 + 1]? = some (.cells #[.int .i64 0, .slice none 0 0, .slice none 0 0] 30 (0, 0)) := by subst hW; exact (set3_other (w.heap.size + 1) _ (by omega) _ _ _).trans HZ3.out
  have hb4 : Below w.heap.size w W4 := by subst hW; exact set3_t (w.heap.size + 1) (by omega) HB3.out
  have ho4 : OwnT3 W4 base ⟨a1, s.n1, c1, a2, st.n2, c2, ss⟩ t := by subst hW; exact HO.out.set3 HY3.out
  have hs4 : W3.heap.size ≤ W4.heap.size := by subst hW; simp
  have HX4 := Lib.hid hx4
  have HY4 := Lib.hid hy4
  have HZ4 := Lib.hid hz4
  have HB4 := Lib.hid hb4
  have HO4 := Lib.hid ho4
  have HBS4 : Hid (base ≤ W4.heap.size) := Nat.le_trans HBS.out.2 hs4
  clear hW hx4 hy4 hz4 hb4 ho4 hs4 HX3 HY3 HZ3 HB3 HO
  have p0 : W4.cell? ⟨w.heap.size, 0, none⟩ = some (.int .i64 z) := cell_of_block HX4.out 0
  have p1 : W4.cell? ⟨w.heap.size, 1, none⟩ = some (.slice s.a1 s.n1 s.c1) := cell_of_block HX4.out 1
  have p2 : W4.cell? ⟨w.heap.size, 2, none⟩ = some (.slice s.a2 s.n2 s.c2) := cell_of_block HX4.out 2
  have p3 : W4.cell? ⟨w.heap.size, 3, none⟩ = some (.slice s.a3 s.n3 s.c3) := cell_of_block HX4.out 3
  have p4 : W4.cell? ⟨w.heap.size, 4, none⟩ = some (.slice s.a4 s.n4 s.c4) := cell_of_block HX4.out 4
  have p5 : W4.cell? ⟨w.heap.size, 5, none⟩ = some (.slice s.a5 s.n5 s.c5) := cell_of_block HX4.out 5
  have t0 : W4.cell? ⟨w.heap.size + 1, 0, none⟩ = some (.int .i64 bad) := cell_of_block HY4.out 0
  have t2 : W4.cell? ⟨w.heap.size + 1, 2, none⟩ = some (.slice a2 st.n2 c2) := cell_of_block HY4.out 2
  go_wp2_with fail
  refine (HFR.out W4 HB4.out).mono ?_
  rintro e W5 he
  rcases he with ⟨h1, _⟩ | ⟨_, ms, Gm, F, n', hn', rfl, hfr, hrow, hrows, hF3, hb⟩
  · rw [HBAD.out] at h1
    have := HFO.out HF.out
    rw [HBAD.out, h1] at this
    cases this
  obtain rfl : n' = st.n2 := by omega
  rw [← HN.out] at hrow
  have HFRM := Lib.hid hfr
  have HR5 := Lib.hid hrow
  have HRS5 := Lib.hid (fun f (hf : f < st.n2) => (hrows f hf).1)
  have HX5 := Lib.hid (heap_below HX4.out hb)
  have HY5 := Lib.hid (heap_below HY4.out hb)
  have HZ5 := Lib.hid (heap_below HZ4.out hb)
  have HB5 := Lib.hid (ext_trans HB4.out hb)
  have HO5 := Lib.hid (HO4.out.below hb)
  have HB35 : Hid (base ≤ W5.heap.size) := Nat.le_trans HBS4.out hb.size
  have HROWA : Hid (Row AnyV W5 base 27 (.slice a2 st.n2 c2) st.n2 (ss.map slV)) := by
    have := Row.ofOwns HO5.out.o2
    rw [HN2.out] at this
    exact this
  obtain ⟨L, hL⟩ : ∃ L, L = ((a1, s.n1, c1) :: ss : List Slc) := ⟨_, rfl⟩
  have hap : ApartL L := by rw [hL]; exact HO5.out.ap
  have HAP := Lib.hid hap
  have HLE := Lib.hid hL
  have HLL2 : Hid (L.length = st.n2 + 1) := by unfold Hid; rw [hL, List.length_cons, HQ3.out]
  have HROWS : Hid (RowsL W5 base L (rowsA c t ms 0 0)) := by
    intro j hj
    rw [HLE.out, rowsA_start]
    cases j with
    | zero => exact HO5.out.o1
    | succ j => exact HO5.out.rows j (by have := HLL2.out; have := HN2.out; omega)
  have HLEN : Hid (∀ j, j < st.n2 + 1 → (L.getD j slc0).2.1 = (rowG t j).length) := fun j hj => by
    have h1 := HROWS.out j (by rw [HLL2.out]; exact hj)
    rw [rowsA_start] at h1
    exact (row_len (show Row isByte W5 base 5 (.slice (L.getD j slc0).1 (L.getD j slc0).2.1 (L.getD j slc0).2.2) _ _ from h1)).symm
  have HFRL : Hid (∀ k, k < st.n2 → (rowG t (k + 1)).length = i) := fun k hk => by
    have h1 := HF.out.frames k (by rw [HN2.out]; exact hk)
    rw [HII.out] at h1
    have h2 : rowG t (k + 1) = t.frames.getD k [] := by simp [rowG]
    rw [h2]
    omega
  clear hb hap hL hrow hrows hF3 hfr hn' p0 p1 p2 p3 p4 p5 t0 t2 HX4 HY4 HZ4 HB4 HO4 HFR HFO
  go_wp2
  go_loopw [8, 9] (fun iv _ wr => ∃ k : Nat, k ≤ st.n2 ∧ iv = .int .i64 k ∧ Hid (RowsL wr base L (rowsA c t ms k 0)) ∧ Hid (KeptNB W5 wr) ∧ Hid (Below base W5 wr)) (fun iv _ _ => st.n2 - (intOf iv).toNat)
  case atStart => exact ⟨0, Nat.zero_le _, rfl, HROWS.out, KeptNB.refl _, Below.refl _ _⟩
  case round =>
    clear HROWS
    obtain ⟨k, hk, rfl, hR, hK, hB⟩ := hrel
    have HRK := Lib.hid hR.out
    have HKK := Lib.hid hK.out
    have HBK := Lib.hid hB.out
    clear hR hK hB
    by_cases hlt : k < st.n2
    · have hxl := HLEN.out (k + 1) (by omega)
      rw [HFRL.out k hlt] at hxl
      have hgd : L.getD (k + 1) slc0 = ss.getD k slc0 := by rw [HLE.out]; simp
      obtain ⟨x, hx⟩ : ∃ x : Slc, x = L.getD (k + 1) slc0 := ⟨_, rfl⟩
      rw [← hx] at hxl hgd
      obtain ⟨xa, xn, xc⟩ := x
      simp only at hxl
      have hxi := hxl.symm
      clear hxl
      subst hxi
      have hks : k < ss.length := by rw [HQ3.out]; exact hlt
      have HC3 : Hid ((ss.map slV)[k]? = some (.slice xa i xc)) := by
        have : ss[k] = ss.getD k slc0 := by simp [List.getD, List.getElem?_eq_getElem hks]
        unfold Hid
        rw [List.getElem?_map, List.getElem?_eq_getElem hks, Option.map_some, this, ← hgd]
        rfl
      have HXX := Lib.hid hx
      have W1' : IntKind.i64.wrap ((k : Int) + 1) = (k : Int) + 1 := IntWalk.i64_in _ (by omega)
      have HLT := Lib.hid hlt
      clear hx hgd hks
      go_wp2_with fail
      go_loopw [9] (fun iv wr2 => ∃ m : Nat, m ≤ i ∧ iv = .int .i64 m ∧ Hid (RowsL wr2 base L (rowsA c t ms k m)) ∧ Hid (KeptNB W5 wr2) ∧ Hid (Below base W5 wr2)) (fun iv _ => i - (intOf iv).toNat)
      case atStart => exact ⟨0, Nat.zero_le _, rfl, HRK.out, HKK.out, HBK.out⟩
      case round =>
        clear HRK HKK HBK
        obtain ⟨m, hm, rfl, hR, hK, hB⟩ := hrel
        have HR := Lib.hid hR.out
        have HK := Lib.hid hK.out
        have HBB := Lib.hid hB.out
        clear hR hK hB
        have p0 : wr.cell? ⟨w.heap.size, 0, none⟩ = some (.int .i64 (i : Int)) := (cell_of_block (HK.out _ _ _ _ HX5.out (by decide)) 0).trans (by rw [HZ9.out]; rfl)
        by_cases hml : m < i
        · have hkl : k + 1 < L.length := by rw [HLL2.out]; omega
          have hrk := HR.out (k + 1) hkl
          rw [← HXX.out, rowsA_len, HFRL.out k hlt] at hrk
          unfold slV at hrk
          simp only at hrk
          obtain ⟨g, rfl⟩ : ∃ g, xa = some ⟨g, 0, none⟩ := by
            rcases hrk.2 with ⟨_, h2⟩ | ⟨g, cap, cur, h2, _⟩
            · omega
            · cases h2; exact ⟨g, rfl⟩
          obtain ⟨_, cur, hcur⟩ := row_here hrk
          have hby := (row_sees_slice hrk).2.byte m hml
          rw [Nat.zero_add] at hby
          have f1 := unfrozen_of_block hcur m
          have hge : base ≤ g := by
            rcases hrk.2 with ⟨_, h2⟩ | ⟨g', cap, cur, h2, h3, _⟩
            · omega
            · cases h2; exact h3
          have HGE := Lib.hid hge
          have HCUR := Lib.hid hcur
          have HSET := Lib.hid (fun (u : UInt8) (G' : Nat → List UInt8) => RowsL.setAt (G' := G') HR.out HAP.out hkl HXX.out.symm m u)
          obtain ⟨ix, hix⟩ : ∃ ix, ix = 1 + m := ⟨_, rfl⟩
          have hixN : ix < N := by omega
          have r1 := (cell_of_block (HK.out _ _ _ _ HR5.out (by decide)) k).trans (fcells_get st.n2 _ k hlt)
          rw [if_pos (Nat.zero_le _)] at r1
          have r2 := (cell_of_block (HK.out _ _ _ _ (HRS5.out k hlt) (by decide)) ix).trans (bcells_get _ ix (by rw [(HFRM.out.cone k hlt).len, ← HN.out]; exact hixN))
          obtain ⟨qq, hqq⟩ : ∃ qq, qq = (ms.getD k []).getD ix false := ⟨_, rfl⟩
          rw [← hqq] at r2
          have HP : Hid (rowP c ms (k + 1) m = !qq) := by unfold Hid; rw [rowP_frame, hqq, hix]
          have W2' : IntKind.i64.wrap ((m : Int) + 1) = (m : Int) + 1 := IntWalk.i64_in _ (by omega)
          have W3' : IntKind.i64.wrap ((1 : Int) + (m : Int)) = (ix : Int) := by rw [hix, IntWalk.i64_in _ (by omega)]; omega
          have HML : Hid (m < (rowG t (k + 1)).length) := by unfold Hid; rw [HFRL.out k hlt]; exact hml
          obtain ⟨bv0, hbv0⟩ : ∃ b : Int, b = (((rowsA c t ms k m (k + 1)).getD m 0).toNat : Int) := ⟨_, rfl⟩
          rw [← hbv0] at hby
          have u2 : wr.cell? ⟨w.heap.size + 1, 2, none⟩ = some (.slice a2 st.n2 c2) := cell_of_block (HK.out _ _ _ _ HY5.out (by decide)) 2
          obtain ⟨_, _, e', _, hsee⟩ := Sees.owned (HK.out.row HROWA.out (by decide)).own
          cases e'
          obtain ⟨b2, o2, rfl, _⟩ := hsee.addr (show 0 < st.n2 by omega)
          have u3 := (hsee.cell k hlt).2.trans HC3.out
          clear hrk hcur hge hix hqq hkl hbv0 hsee
          cases qq with
          | true =>
            go_wp2
            go_roundw
            case rel => exact ⟨m + 1, by omega, by go_num, HR.out.congr (fun j _ => rowsA_no k m j (by rw [HP.out]; rfl)), HK.out, HBB.out⟩
            case measure => simp [intOf]; omega
          | false =>
            go_wp2
            go_roundw
            case rel =>
              refine ⟨m + 1, by omega, by go_num, ?_, HK.out.set HCUR.out, HBB.out.setCell (p := ⟨g, m, none⟩) HGE.out _⟩
              exact HSET.out 2 _ (rowsA_yes k m (by rw [HP.out]; rfl) HML.out) (fun j hj => rowsA_else k _ _ j hj)
            case measure => simp [intOf]; omega
        · obtain rfl : m = i := by omega
          go_wp2
          go_roundw
          case rel => exact ⟨k + 1, by have := HLT.out; omega, by go_num, HR.out.congr (fun j _ => rowsA_full k m j (HFRL.out k HLT.out)), HK.out, HBB.out⟩
          case measure => have := HLT.out; simp [intOf]; omega
    · obtain rfl : k = st.n2 := by omega
      have HRZ : Hid (RowsL wr base L (rowsC c t ms 0)) := HRK.out.congr (fun j hj => rowsC_start st.n2 j (by rw [HLL2.out] at hj; exact hj))
      clear HRK
      go_wp2
      go_loopw [10] (fun iv wr3 => ∃ k : Nat, k ≤ s.n1 ∧ iv = .int .i64 k ∧ Hid (RowsL wr3 base L (rowsC c t ms k)) ∧ Hid (KeptNB W5 wr3) ∧ Hid (Below base W5 wr3)) (fun iv _ => s.n1 - (intOf iv).toNat)
      case atStart => exact ⟨0, Nat.zero_le _, rfl, HRZ.out, HKK.out, HBK.out⟩
      case round =>
        clear HRZ HKK HBK
        obtain ⟨k, hk, rfl, hR, hK, hB⟩ := hrel
        have HR := Lib.hid hR.out
        have HK := Lib.hid hK.out
        have HBB := Lib.hid hB.out
        have HLOW := Lib.hid (show Below w.heap.size w wr from HB5.out.trans (hB.out.mono (by have := HBS.out.1; omega)))
        clear hR hK hB
        have u1 : wr.cell? ⟨w.heap.size + 1, 1, none⟩ = some (.slice a1 s.n1 c1) := cell_of_block (HK.out _ _ _ _ HY5.out (by decide)) 1
        by_cases hlt : k < s.n1
        · obtain ⟨lb, lo, hla, hlbw⟩ := HC.out.s1.addr (show 0 < s.n1 by omega)
          have hsc := HC.out.s1.below HLOW.out
          rw [hla] at hsc
          obtain ⟨_, q1⟩ := hsc.cells k hlt (0, 0)
          obtain ⟨y, hy⟩ : ∃ y, y = (c.lats.getD k (0, 0)).2 := ⟨_, rfl⟩
          rw [← hy] at q1
          unfold nv8 at q1
          obtain ⟨ix, hix⟩ : ∃ ix, ix = FL + k := ⟨_, rfl⟩
          have hixN : ix < N := by omega
          have r1 := (cell_of_block (HK.out _ _ _ _ HR5.out (by decide)) 0).trans (fcells_get st.n2 _ 0 hn21)
          rw [if_pos (Nat.zero_le _)] at r1
          have r2 := (cell_of_block (HK.out _ _ _ _ (HRS5.out 0 hn21) (by decide)) ix).trans (bcells_get _ ix (by rw [(HFRM.out.cone 0 hn21).len, ← HN.out]; exact hixN))
          obtain ⟨q, hq⟩ : ∃ q, q = (ms.getD 0 []).getD ix false := ⟨_, rfl⟩
          rw [← hq] at r2
          have HP : Hid (rowP c ms 0 k = (decide (y = 2) && !q)) := by unfold Hid; rw [rowP_init, hy, hq, hix, HLL.out]
          have W2' : IntKind.i64.wrap ((k : Int) + 1) = (k : Int) + 1 := IntWalk.i64_in _ (by omega)
          have W3' : IntKind.i64.wrap ((FL : Int) + (k : Int)) = (ix : Int) := by rw [hix, IntWalk.i64_in _ (by omega)]; omega
          have W0' := HW0.out
          have p0 : wr.cell? ⟨w.heap.size, 0, none⟩ = some (.int .i64 (i : Int)) := (cell_of_block (HK.out _ _ _ _ HX5.out (by decide)) 0).trans (by rw [HZ9.out]; rfl)
          have p1 : wr.cell? ⟨w.heap.size, 1, none⟩ = some (.slice (some ⟨lb, lo, none⟩) s.n1 s.c1) := (cell_of_block (HK.out _ _ _ _ HX5.out (by decide)) 1).trans (by rw [← hla]; rfl)
          have HS0 := Lib.hid (And.intro p0 (And.intro p1 (And.intro r1 (And.intro r2 q1))))
          clear p0 p1 r1 r2 q1 hla hy hix hq hlbw hsc
          go_upto_region 16 with fail
          refine wp_region_noPanic ?_
          refine wp_region_held (S := fun w' => w'.cell? ⟨w.heap.size, 0, none⟩ = some (.int .i64 (i : Int)) ∧ w'.cell? ⟨w.heap.size, 1, none⟩ = some (.slice (some ⟨lb, lo, none⟩) s.n1 s.c1) ∧ w'.cell? ⟨F, 0, none⟩ = some (.slice (some ⟨Gm 0, 0, none⟩) N N) ∧ w'.cell? ⟨Gm 0, ix, none⟩ = some (.bool q) ∧ w'.cell? ⟨lb, lo + k * 2 + 1, none⟩ = some (.int .u8 (y : Int))) (by kernel_rfl) ?_
          generalize hYY : ({ wr with drawn := wr.drawn + 1 } : World) = Y0
          have hY0 : Below wr.heap.size wr Y0 := by subst hYY; exact (Below.refl _ _).drew
          have HPY := Lib.hid (keep5 HS0.out hY0)
          have HK3 := Lib.hid (HK.out.below hY0)
          have HR3 := Lib.hid (HR.out.below hY0)
          have HBB3 := Lib.hid (HBB.out.trans (hY0.mono (Nat.le_trans HB35.out HBB.out.size)))
          clear hYY hY0 HS0 HR HK HBB u1
          have u1 : Y0.cell? ⟨w.heap.size + 1, 1, none⟩ = some (.slice a1 s.n1 c1) := cell_of_block (HK3.out _ _ _ _ HY5.out (by decide)) 1
          refine wpAnyH_take (i := 0) (v := ?_) (by simp only [List.getElem?_toArray, List.getElem?_cons_zero]; rfl) (by kernel_rfl) (by kernel_rfl) (by kernel_rfl) (fun _ _ _ h => h) (Or.inl ⟨by rfl, ?_⟩) HPY.out ?_
          rotate_left
          · intro w hSw
            (try dsimp only at hSw)
            obtain ⟨q0_, q1_, q2_, q3_, q4_⟩ := hSw
            go_simp
            try with_reducible rfl
          try simp only [Act.put, List.setIfInBounds_toArray, List.set_cons_zero, List.set_cons_succ]
          refine wpAnyH_take (i := 1) (v := ?_) (by simp only [List.getElem?_toArray, List.getElem?_cons_zero, List.getElem?_cons_succ]; rfl) (by kernel_rfl) (by kernel_rfl) (by kernel_rfl) (fun _ _ _ h => h) (Or.inl ⟨by rfl, ?_⟩) HPY.out ?_
          rotate_left
          · intro w hSw
            (try dsimp only at hSw)
            obtain ⟨q0_, q1_, q2_, q3_, q4_⟩ := hSw
            go_simp
            try with_reducible rfl
          try simp only [Act.put, List.setIfInBounds_toArray, List.set_cons_zero, List.set_cons_succ]
          refine wpAnyH_take (i := 2) (v := ?_) (by simp only [List.getElem?_toArray, List.getElem?_cons_zero, List.getElem?_cons_succ]; rfl) (by kernel_rfl) (by kernel_rfl) (by kernel_rfl) (fun _ _ _ h => h) (Or.inl ⟨by rfl, ?_⟩) HPY.out ?_
          rotate_left
          · intro w hSw
            (try dsimp only at hSw)
            obtain ⟨q0_, q1_, q2_, q3_, q4_⟩ := hSw
            go_simp
            try with_reducible rfl
          try simp only [Act.put, List.setIfInBounds_toArray, List.set_cons_zero, List.set_cons_succ]
          refine wpAnyH_take (i := 3) (v := ?_) (by simp only [List.getElem?_toArray, List.getElem?_cons_zero, List.getElem?_cons_succ]; rfl) (by kernel_rfl) (by kernel_rfl) (by kernel_rfl) (fun _ _ _ h => h) (Or.inl ⟨by rfl, ?_⟩) HPY.out ?_
          rotate_left
          · intro w hSw
            (try dsimp only at hSw)
            obtain ⟨q0_, q1_, q2_, q3_, q4_⟩ := hSw
            go_simp
            try with_reducible rfl
          try simp only [Act.put, List.setIfInBounds_toArray, List.set_cons_zero, List.set_cons_succ]
          refine wpAnyH_take (i := 4) (v := ?_) (by simp only [List.getElem?_toArray, List.getElem?_cons_zero, List.getElem?_cons_succ]; rfl) (by kernel_rfl) (by kernel_rfl) (by kernel_rfl) (fun _ _ _ h => h) (Or.inl ⟨by rfl, ?_⟩) HPY.out ?_
          rotate_left
          · intro w hSw
            (try dsimp only at hSw)
            obtain ⟨q0_, q1_, q2_, q3_, q4_⟩ := hSw
            go_simp
            try with_reducible rfl
          try simp only [Act.put, List.setIfInBounds_toArray, List.set_cons_zero, List.set_cons_succ]
          refine wpAnyH_take (i := 5) (v := ?_) (by simp only [List.getElem?_toArray, List.getElem?_cons_zero, List.getElem?_cons_succ]; rfl) (by kernel_rfl) (by kernel_rfl) (by kernel_rfl) (fun _ _ _ h => h) (Or.inl ⟨by rfl, ?_⟩) HPY.out ?_
          rotate_left
          · intro w hSw
            (try dsimp only at hSw)
            obtain ⟨q0_, q1_, q2_, q3_, q4_⟩ := hSw
            go_simp
            try with_reducible rfl
          try simp only [Act.put, List.setIfInBounds_toArray, List.set_cons_zero, List.set_cons_succ]
          refine wpAnyH_take (i := 6) (v := ?_) (by simp only [List.getElem?_toArray, List.getElem?_cons_zero, List.getElem?_cons_succ]; rfl) (by kernel_rfl) (by kernel_rfl) (by kernel_rfl) (fun _ _ _ h => h) (Or.inl ⟨by rfl, ?_⟩) HPY.out ?_
          rotate_left
          · intro w hSw
            (try dsimp only at hSw)
            obtain ⟨q0_, q1_, q2_, q3_, q4_⟩ := hSw
            go_simp
            try with_reducible rfl
          try simp only [Act.put, List.setIfInBounds_toArray, List.set_cons_zero, List.set_cons_succ]
          refine wpAnyH_take (i := 7) (v := ?_) (by simp only [List.getElem?_toArray, List.getElem?_cons_zero, List.getElem?_cons_succ]; rfl) (by kernel_rfl) (by kernel_rfl) (by kernel_rfl) (fun _ _ _ h => h) (Or.inl ⟨by rfl, ?_⟩) HPY.out ?_
          rotate_left
          · intro w hSw
            (try dsimp only at hSw)
            obtain ⟨q0_, q1_, q2_, q3_, q4_⟩ := hSw
            go_simp
            try with_reducible rfl
          try simp only [Act.put, List.setIfInBounds_toArray, List.set_cons_zero, List.set_cons_succ]
          refine wpAnyH_take (i := 8) (v := ?_) (by simp only [List.getElem?_toArray, List.getElem?_cons_zero, List.getElem?_cons_succ]; rfl) (by kernel_rfl) (by kernel_rfl) (by kernel_rfl) (fun _ _ _ h => h) (Or.inl ⟨by rfl, ?_⟩) HPY.out ?_
          rotate_left
          · intro w hSw
            (try dsimp only at hSw)
            obtain ⟨q0_, q1_, q2_, q3_, q4_⟩ := hSw
            go_simp
            try with_reducible rfl
          try simp only [Act.put, List.setIfInBounds_toArray, List.set_cons_zero, List.set_cons_succ]
          refine wpAnyH_take (i := 9) (v := ?_) (by simp only [List.getElem?_toArray, List.getElem?_cons_zero, List.getElem?_cons_succ]; rfl) (by kernel_rfl) (by kernel_rfl) (by kernel_rfl) (fun _ _ _ h => h) (Or.inl ⟨by rfl, ?_⟩) HPY.out ?_
          rotate_left
          · intro w hSw
            (try dsimp only at hSw)
            obtain ⟨q0_, q1_, q2_, q3_, q4_⟩ := hSw
            go_simp
            try with_reducible rfl
          try simp only [Act.put, List.setIfInBounds_toArray, List.set_cons_zero, List.set_cons_succ]
          cases q with
          | true =>
            refine wpAnyH_take (i := 10) (v := ?_) (by simp only [List.getElem?_toArray, List.getElem?_cons_zero, List.getElem?_cons_succ]; rfl) (by kernel_rfl) (by kernel_rfl) (by kernel_rfl) (fun _ _ _ h => h) (Or.inl ⟨by rfl, ?_⟩) HPY.out ?_
            rotate_left
            · intro w hSw
              (try dsimp only at hSw)
              obtain ⟨q0_, q1_, q2_, q3_, q4_⟩ := hSw
              go_simp
              try with_reducible rfl
            try simp only [Act.put, List.setIfInBounds_toArray, List.set_cons_zero, List.set_cons_succ]
            refine wpAnyH_take (i := 11) (v := ?_) (by simp only [List.getElem?_toArray, List.getElem?_cons_zero, List.getElem?_cons_succ]; rfl) (by kernel_rfl) (by kernel_rfl) (by kernel_rfl) (fun _ _ _ h => h) (Or.inl ⟨by rfl, ?_⟩) HPY.out ?_
            rotate_left
            · intro w hSw
              (try dsimp only at hSw)
              obtain ⟨q0_, q1_, q2_, q3_, q4_⟩ := hSw
              go_simp
              try with_reducible rfl
            try simp only [Act.put, List.setIfInBounds_toArray, List.set_cons_zero, List.set_cons_succ]
            refine wpAnyH_take (i := 12) (v := undef) (by simp only [List.getElem?_toArray, List.getElem?_cons_zero, List.getElem?_cons_succ]; rfl) (by kernel_rfl) (by kernel_rfl) (by kernel_rfl) (fun _ _ _ h => h) (Or.inr ⟨by rfl, rfl⟩) HPY.out ?_
            try simp only [Act.put, List.setIfInBounds_toArray, List.set_cons_zero, List.set_cons_succ]
            refine wpAnyH_take (i := 13) (v := undef) (by simp only [List.getElem?_toArray, List.getElem?_cons_zero, List.getElem?_cons_succ]; rfl) (by kernel_rfl) (by kernel_rfl) (by kernel_rfl) (fun _ _ _ h => h) (Or.inr ⟨by rfl, rfl⟩) HPY.out ?_
            try simp only [Act.put, List.setIfInBounds_toArray, List.set_cons_zero, List.set_cons_succ]
            refine wpAnyH_take (i := 14) (v := undef) (by simp only [List.getElem?_toArray, List.getElem?_cons_zero, List.getElem?_cons_succ]; rfl) (by kernel_rfl) (by kernel_rfl) (by kernel_rfl) (fun _ _ _ h => h) (Or.inr ⟨by rfl, rfl⟩) HPY.out ?_
            try simp only [Act.put, List.setIfInBounds_toArray, List.set_cons_zero, List.set_cons_succ]
            refine wpAnyH_take (i := 15) (v := undef) (by simp only [List.getElem?_toArray, List.getElem?_cons_zero, List.getElem?_cons_succ]; rfl) (by kernel_rfl) (by kernel_rfl) (by kernel_rfl) (fun _ _ _ h => h) (Or.inr ⟨by rfl, rfl⟩) HPY.out ?_
            try simp only [Act.put, List.setIfInBounds_toArray, List.set_cons_zero, List.set_cons_succ]
            refine wpAnyH_take (i := 16) (v := undef) (by simp only [List.getElem?_toArray, List.getElem?_cons_zero, List.getElem?_cons_succ]; rfl) (by kernel_rfl) (by kernel_rfl) (by kernel_rfl) (fun _ _ _ h => h) (Or.inr ⟨by rfl, rfl⟩) HPY.out ?_
            try simp only [Act.put, List.setIfInBounds_toArray, List.set_cons_zero, List.set_cons_succ]
            refine wpAnyH_take (i := 17) (v := undef) (by simp only [List.getElem?_toArray, List.getElem?_cons_zero, List.getElem?_cons_succ]; rfl) (by kernel_rfl) (by kernel_rfl) (by kernel_rfl) (fun _ _ _ h => h) (Or.inr ⟨by rfl, rfl⟩) HPY.out ?_
            try simp only [Act.put, List.setIfInBounds_toArray, List.set_cons_zero, List.set_cons_succ]
            refine wpAnyH_take (i := 18) (v := undef) (by simp only [List.getElem?_toArray, List.getElem?_cons_zero, List.getElem?_cons_succ]; rfl) (by kernel_rfl) (by kernel_rfl) (by kernel_rfl) (fun _ _ _ h => h) (Or.inr ⟨by rfl, rfl⟩) HPY.out ?_
            try simp only [Act.put, List.setIfInBounds_toArray, List.set_cons_zero, List.set_cons_succ]
            refine wpAnyH_take (i := 19) (v := ?_) (by simp only [List.getElem?_toArray, List.getElem?_cons_zero, List.getElem?_cons_succ]; rfl) (by kernel_rfl) (by kernel_rfl) (by kernel_rfl) (fun _ _ _ h => h) (Or.inl ⟨by rfl, ?_⟩) HPY.out ?_
            rotate_left
            · intro w hSw
              (try dsimp only at hSw)
              obtain ⟨q0_, q1_, q2_, q3_, q4_⟩ := hSw
              go_simp
              try with_reducible rfl
            try simp only [Act.put, List.setIfInBounds_toArray, List.set_cons_zero, List.set_cons_succ]
            refine wpAnyH_done (by kernel_rfl) ?_ _
            refine NoPanic.normal ?_
            go_wp2
            go_roundw
            case rel => exact ⟨k + 1, by omega, by go_num, HR3.out.congr (fun j _ => rowsC_no k j (by rw [HP.out]; simp)), HK3.out, HBB3.out⟩
            case measure => simp [intOf]; omega
          | false =>
            refine wpAnyH_take (i := 10) (v := ?_) (by simp only [List.getElem?_toArray, List.getElem?_cons_zero, List.getElem?_cons_succ]; rfl) (by kernel_rfl) (by kernel_rfl) (by kernel_rfl) (fun _ _ _ h => h) (Or.inl ⟨by rfl, ?_⟩) HPY.out ?_
            rotate_left
            · intro w hSw
              (try dsimp only at hSw)
              obtain ⟨q0_, q1_, q2_, q3_, q4_⟩ := hSw
              go_simp
              try with_reducible rfl
            try simp only [Act.put, List.setIfInBounds_toArray, List.set_cons_zero, List.set_cons_succ]
            refine wpAnyH_take (i := 11) (v := ?_) (by simp only [List.getElem?_toArray, List.getElem?_cons_zero, List.getElem?_cons_succ]; rfl) (by kernel_rfl) (by kernel_rfl) (by kernel_rfl) (fun _ _ _ h => h) (Or.inl ⟨by rfl, ?_⟩) HPY.out ?_
            rotate_left
            · intro w hSw
              (try dsimp only at hSw)
              obtain ⟨q0_, q1_, q2_, q3_, q4_⟩ := hSw
              go_simp
              try with_reducible rfl
            try simp only [Act.put, List.setIfInBounds_toArray, List.set_cons_zero, List.set_cons_succ]
            refine wpAnyH_take (i := 12) (v := ?_) (by simp only [List.getElem?_toArray, List.getElem?_cons_zero, List.getElem?_cons_succ]; rfl) (by kernel_rfl) (by kernel_rfl) (by kernel_rfl) (fun _ _ _ h => h) (Or.inl ⟨by rfl, ?_⟩) HPY.out ?_
            rotate_left
            · intro w hSw
              (try dsimp only at hSw)
              obtain ⟨q0_, q1_, q2_, q3_, q4_⟩ := hSw
              go_simp
              try with_reducible rfl
            try simp only [Act.put, List.setIfInBounds_toArray, List.set_cons_zero, List.set_cons_succ]
            refine wpAnyH_take (i := 13) (v := ?_) (by simp only [List.getElem?_toArray, List.getElem?_cons_zero, List.getElem?_cons_succ]; rfl) (by kernel_rfl) (by kernel_rfl) (by kernel_rfl) (fun _ _ _ h => h) (Or.inl ⟨by rfl, ?_⟩) HPY.out ?_
            rotate_left
            · intro w hSw
              (try dsimp only at hSw)
              obtain ⟨q0_, q1_, q2_, q3_, q4_⟩ := hSw
              go_simp
              try with_reducible rfl
            try simp only [Act.put, List.setIfInBounds_toArray, List.set_cons_zero, List.set_cons_succ]
            refine wpAnyH_take (i := 14) (v := ?_) (by simp only [List.getElem?_toArray, List.getElem?_cons_zero, List.getElem?_cons_succ]; rfl) (by kernel_rfl) (by kernel_rfl) (by kernel_rfl) (fun _ _ _ h => h) (Or.inl ⟨by rfl, ?_⟩) HPY.out ?_
            rotate_left
            · intro w hSw
              (try dsimp only at hSw)
              obtain ⟨q0_, q1_, q2_, q3_, q4_⟩ := hSw
              go_simp
              try with_reducible rfl
            try simp only [Act.put, List.setIfInBounds_toArray, List.set_cons_zero, List.set_cons_succ]
            refine wpAnyH_take (i := 15) (v := ?_) (by simp only [List.getElem?_toArray, List.getElem?_cons_zero, List.getElem?_cons_succ]; rfl) (by kernel_rfl) (by kernel_rfl) (by kernel_rfl) (fun _ _ _ h => h) (Or.inl ⟨by rfl, ?_⟩) HPY.out ?_
            rotate_left
            · intro w hSw
              (try dsimp only at hSw)
              obtain ⟨q0_, q1_, q2_, q3_, q4_⟩ := hSw
              go_simp
              try with_reducible rfl
            try simp only [Act.put, List.setIfInBounds_toArray, List.set_cons_zero, List.set_cons_succ]
            refine wpAnyH_take (i := 16) (v := ?_) (by simp only [List.getElem?_toArray, List.getElem?_cons_zero, List.getElem?_cons_succ]; rfl) (by kernel_rfl) (by kernel_rfl) (by kernel_rfl) (fun _ _ _ h => h) (Or.inl ⟨by rfl, ?_⟩) HPY.out ?_
            rotate_left
            · intro w hSw
              (try dsimp only at hSw)
              obtain ⟨q0_, q1_, q2_, q3_, q4_⟩ := hSw
              go_simp
              try with_reducible rfl
            try simp only [Act.put, List.setIfInBounds_toArray, List.set_cons_zero, List.set_cons_succ]
            refine wpAnyH_take (i := 17) (v := ?_) (by simp only [List.getElem?_toArray, List.getElem?_cons_zero, List.getElem?_cons_succ]; rfl) (by kernel_rfl) (by kernel_rfl) (by kernel_rfl) (fun _ _ _ h => h) (Or.inl ⟨by rfl, ?_⟩) HPY.out ?_
            rotate_left
            · intro w hSw
              (try dsimp only at hSw)
              obtain ⟨q0_, q1_, q2_, q3_, q4_⟩ := hSw
              go_simp
              try with_reducible rfl
            try simp only [Act.put, List.setIfInBounds_toArray, List.set_cons_zero, List.set_cons_succ]
            by_cases hy2 : y = 2
            · have e2 : ((y : Int) == 2) = true := by simp; omega
              refine wpAnyH_take (i := 18) (v := ?_) (by simp only [List.getElem?_toArray, List.getElem?_cons_zero, List.getElem?_cons_succ]; rfl) (by kernel_rfl) (by kernel_rfl) (by kernel_rfl) (fun _ _ _ h => h) (Or.inl ⟨by rfl, ?_⟩) HPY.out ?_
              rotate_left
              · intro w hSw
                (try dsimp only at hSw)
                obtain ⟨q0_, q1_, q2_, q3_, q4_⟩ := hSw
                go_simp
                try with_reducible rfl
              try simp only [Act.put, List.setIfInBounds_toArray, List.set_cons_zero, List.set_cons_succ]
              refine wpAnyH_take (i := 19) (v := ?_) (by simp only [List.getElem?_toArray, List.getElem?_cons_zero, List.getElem?_cons_succ]; rfl) (by kernel_rfl) (by kernel_rfl) (by kernel_rfl) (fun _ _ _ h => h) (Or.inl ⟨by rfl, ?_⟩) HPY.out ?_
              rotate_left
              · intro w hSw
                (try dsimp only at hSw)
                obtain ⟨q0_, q1_, q2_, q3_, q4_⟩ := hSw
                go_simp
                try with_reducible rfl
              try simp only [Act.put, List.setIfInBounds_toArray, List.set_cons_zero, List.set_cons_succ]
              refine wpAnyH_done (by kernel_rfl) ?_ _
              refine NoPanic.normal ?_
              clear e2
              have hkl : 0 < L.length := by rw [HLL2.out]; omega
              have hL0 : L.getD 0 slc0 = (a1, s.n1, c1) := by rw [HLE.out]; rfl
              have hrk := HR3.out 0 hkl
              rw [hL0, rowsC_len, show (rowG t 0).length = s.n1 from HQ1.out.symm] at hrk
              unfold slV at hrk
              simp only at hrk
              obtain ⟨g, rfl⟩ : ∃ g, a1 = some ⟨g, 0, none⟩ := by
                rcases hrk.2 with ⟨_, h2⟩ | ⟨g, cap, cur, h2, _⟩
                · omega
                · cases h2; exact ⟨g, rfl⟩
              obtain ⟨_, cur, hcur⟩ := row_here hrk
              have hby := (row_sees_slice hrk).2.byte k hlt
              rw [Nat.zero_add] at hby
              have f1 := unfrozen_of_block hcur k
              have hge : base ≤ g := by
                rcases hrk.2 with ⟨_, h2⟩ | ⟨g', cap, cur, h2, h3, _⟩
                · omega
                · cases h2; exact h3
              have HGE := Lib.hid hge
              have HCUR := Lib.hid hcur
              have HSET := Lib.hid (fun (u : UInt8) (G' : Nat → List UInt8) => RowsL.setAt (G' := G') HR3.out HAP.out hkl hL0 k u)
              have HKI : Hid (k < t.init.length) := by unfold Hid; rw [← HQ1.out]; exact hlt
              obtain ⟨bv0, hbv0⟩ : ∃ b : Int, b = (((rowsC c t ms k 0).getD k 0).toNat : Int) := ⟨_, rfl⟩
              rw [← hbv0] at hby
              clear hrk hcur hge hkl hbv0 hL0
              go_wp2
              go_roundw
              case rel =>
                refine ⟨k + 1, by omega, by go_num, ?_, HK3.out.set HCUR.out, HBB3.out.setCell (p := ⟨g, k, none⟩) HGE.out _⟩
                exact HSET.out 2 _ (rowsC_yes k (by rw [HP.out, hy2]; rfl) HKI.out) (fun j hj => rowsC_else _ _ j hj)
              case measure => simp [intOf]; omega
            · have e2 : ((y : Int) == 2) = false := by simp; omega
              refine wpAnyH_take (i := 18) (v := ?_) (by simp only [List.getElem?_toArray, List.getElem?_cons_zero, List.getElem?_cons_succ]; rfl) (by kernel_rfl) (by kernel_rfl) (by kernel_rfl) (fun _ _ _ h => h) (Or.inl ⟨by rfl, ?_⟩) HPY.out ?_
              rotate_left
              · intro w hSw
                (try dsimp only at hSw)
                obtain ⟨q0_, q1_, q2_, q3_, q4_⟩ := hSw
                go_simp
                try with_reducible rfl
              try simp only [Act.put, List.setIfInBounds_toArray, List.set_cons_zero, List.set_cons_succ]
              refine wpAnyH_take (i := 19) (v := ?_) (by simp only [List.getElem?_toArray, List.getElem?_cons_zero, List.getElem?_cons_succ]; rfl) (by kernel_rfl) (by kernel_rfl) (by kernel_rfl) (fun _ _ _ h => h) (Or.inl ⟨by rfl, ?_⟩) HPY.out ?_
              rotate_left
              · intro w hSw
                (try dsimp only at hSw)
                obtain ⟨q0_, q1_, q2_, q3_, q4_⟩ := hSw
                go_simp
                try with_reducible rfl
              try simp only [Act.put, List.setIfInBounds_toArray, List.set_cons_zero, List.set_cons_succ]
              refine wpAnyH_done (by kernel_rfl) ?_ _
              refine NoPanic.normal ?_
              clear e2
              go_wp2
              go_roundw
              case rel => exact ⟨k + 1, by omega, by go_num, HR3.out.congr (fun j _ => rowsC_no k j (by rw [HP.out, decide_eq_false hy2]; rfl)), HK3.out, HBB3.out⟩
              case measure => simp [intOf]; omega
        · obtain rfl : k = s.n1 := by omega
          have hx5 := HK.out _ _ _ _ HY5.out (by decide)
          have hr5 := HK.out _ _ _ _ HZ5.out (by decide)
          have u0 := cell_of_block hx5 0
          have u2 := cell_of_block hx5 2
          have z0 := cell_of_block hr5 0
          have z1 := cell_of_block hr5 1
          have z2 := cell_of_block hr5 2
          have y0 := unfrozen_of_block hr5 0
          have y1 := unfrozen_of_block hr5 1
          have y2 := unfrozen_of_block hr5 2
          have HR6 := Lib.hid hr5
          have HSEE : Hid (OwnT3 (((wr.setCell ⟨w.heap.size + 1 + 1, 0, .none⟩ (.int .i64 bad)).setCell ⟨w.heap.size + 1 + 1, 1, .none⟩ (.slice a1 s.n1 c1)).setCell ⟨w.heap.size + 1 + 1, 2, .none⟩ (.slice a2 st.n2 c2)) base ⟨a1, s.n1, c1, a2, st.n2, c2, ss⟩ (freeT c t ms)) := by
            refine OwnT3.set3 ⟨?_, ?_, ?_, fun j hj => ?_, HO5.out.ap⟩ HR6.out
            · have h4 := HR.out 0 (by rw [HLL2.out]; omega)
              rw [show L.getD 0 slc0 = (a1, s.n1, c1) by rw [HLE.out]; rfl, HQ1.out, rowsC_init] at h4
              rw [HQ1.out]
              exact h4
            · rw [freeT_frames, HN2.out]; exact ownsN_other (HK.out.row HROWA.out (by decide)).own fun q hq => rfl
            · rw [freeT_frames]; exact HO5.out.len
            · rw [freeT_frames] at hj
              have h4 := HR.out (j + 1) (by rw [HLL2.out]; have := HN2.out; omega)
              rw [show L.getD (j + 1) slc0 = ss.getD j slc0 by rw [HLE.out]; simp, rowsC_frame _ hj] at h4
              exact h4
          clear hx5 hr5 hlt hk
          go_wp2
          refine bodyPost_ret (v := .tuple #[traceV bad ⟨a1, s.n1, c1, a2, st.n2, c2, ss⟩, .int .i64 0]) ?_ rfl ?_
          · have h6 := tri_set_t HR6.out rfl (.int .i64 bad) (.slice a1 s.n1 c1) (.slice a2 st.n2 c2)
            have g0 := cell_of_block h6 0
            have g1 := cell_of_block h6 1
            have g2 := cell_of_block h6 2
            simp [results, Try.results17, go_sem, g0, g1, g2]
            rfl
          · exact HPY0.out _ ms _ HFRM.out HSEE.out.sees HSMX.out (set3_t (w.heap.size + 1 + 1) (by omega) HLOW.out)
end Go.Proofs.Ytdheldhecimfnaa
