/- A trace some of whose freed values are turned; it fits, and is alike at what counts (on lists). -/
import Derived.Test.YtdheldhecimfnaaLib
import Derived.Test.YtdheldhecimfnaaNBase
import Derived.Test.YtdheldhecimfnaaRawPred
import Derived.Test.YtdheldhecimfnaaNCirc
import Derived.Test.YtdheldhecimfnaaNHeap
import Derived.Test.YtdheldhecimfnaaRows
import Derived.Test.YtdheldhecimfnaaShelf
import Derived.BigQuiet
import Derived.Deep.AppendLies
import Derived.Deep.CutRange
import Derived.Deep.QuietTactic
import Derived.Deep.RegionHeld3
import Derived.Deep.RegionLaw
import Derived.Deep.RegionWith
import Derived.KernelRfl
import Derived.Laws.EntriesVeiled
import Derived.Laws.Tables
import Derived.Lib.AppendStr
import Derived.Lib.AppendZeros
import Derived.Lib.ConvBytes
import Derived.Lib.Hide
import Derived.Lib.SlBytesRow
import Derived.Lib.SmallJoins
import Derived.Maps.AppendAt
import Derived.OrdersHeld
import Derived.Shelf.Bytes.SlSmallAll
import Derived.WalkKit
import Derived.WalkLawsBesides
import Derived.WalkSpells
import Derived.Test.YtdheldhecimfnaaNSpec
import Derived.Test.YtdheldhecimfnaaNVal
import Derived.Test.YtdheldhecimfnaaNTrace
import Derived.Test.YtdheldhecimfnaaNOwns
import Derived.Test.YtdheldhecimfnaaNWide
import Derived.Test.YtdheldhecimfnaaNRefMay3
import Derived.Test.YtdheldhecimfnaaCoE
import Derived.Test.YtdheldhecimfnaaOwn
import Derived.Test.YtdheldhecimfnaaOwnStr
import Derived.Test.YtdheldhecimfnaaRowStep
import Derived.Test.YtdheldhecimfnaaNOwnsN
import Derived.Test.YtdheldhecimfnaaNStep
import Derived.Test.YtdheldhecimfnaaNPeel
import Derived.Test.YtdheldhecimfnaaTBits
import Derived.Test.YtdheldhecimfnaaNClone2
import Derived.Test.YtdheldhecimfnaaNCopyTr
import Derived.Laws.Bits64b
import Derived.Laws.BitsAllLaws
import Derived.Laws.BitsLemmas
import Derived.LoopIn
import Derived.LoopNIn
import Derived.OrdersIn
import Derived.OwnWalkIn
import Derived.RangeFuncBox
import Derived.RangeFuncCalls
import Derived.RangeFuncLeaves
import Derived.RangeFuncNested
import Derived.RangeFuncWrites
import Derived.Shelf.Abstract
import Derived.Shelf.RegionOpen
import Derived.Sort.CutIn
import Derived.Stop.RegionWithIn
import Derived.TacticsInMore
import Derived.Test.YtdheldhecimfnaaSSpec
/- inquestref03.lits, .values, by their contracts. -/
namespace Go.Proofs.Ytdheldhecimfnaa
open Go Go.RowKit Go.Joins

set_option maxRecDepth 100000 in
theorem refvalues_any (many : Int) (l : List UInt8) (a : Option Addr) (n c : Nat) (hn : n ≤ 1048576) (w : World) (h : Sees w a n c (l.map bv)) :
    Calls Try.prog 42 #[.slice a n c, .int .i64 many] w fun e w' => e = .returned (.bool (valsOk l many)) ∧ w = w' := by
  have hl := h.lenMap
  obtain ⟨q, hq⟩ : ∃ q, q = valsOk l many := ⟨_, rfl⟩
  have NO : Hid (∀ k, k < n → 2 < (l.getD k 0).toNat → q = false) := fun k hk hb => by
    rw [hq]; unfold valsOk
    rw [show l.any (fun u => decide (2 < u.toNat)) = true from List.any_eq_true.2 ⟨_, getD_mem (by rw [hl]; exact hk), decide_eq_true hb⟩]; simp
  have YES : Hid ((∀ k, k < n → ¬ 2 < (l.getD k 0).toNat) → q = decide ((n : Int) = many)) := fun hh => by
    rw [hq]; unfold valsOk
    rw [hl, show l.any (fun u => decide (2 < u.toNat)) = false from any_none (all_of_getD (d := 0) (fun j hj => decide_eq_false (hh j (by rw [← hl]; exact hj))))]; simp
  have HS := Lib.hid h
  have HL := Lib.hid hl
  rw [← hq]
  clear hq h hl
  go_enter Try.func42, Try.ntmps42
  go_wp2
  go_loop [5] (fun i => ∃ k : Nat, k ≤ n ∧ i = .int .i64 k ∧ Hid (∀ j, j < k → ¬ 2 < (l.getD j 0).toNat)) (fun i => n - (intOf i).toNat)
  case atStart => exact ⟨0, Nat.zero_le _, rfl, fun j hj => absurd hj (by omega)⟩
  case round =>
    obtain ⟨k, hk, rfl, hno⟩ := hrel
    by_cases hlt : k < n
    · obtain ⟨b, off, rfl, hbw⟩ := HS.out.addr (by omega)
      have hcx := HS.out.byte k hlt
      have W1 : IntKind.i64.wrap ((k : Int) + 1) = (k : Int) + 1 := IntWalk.i64_in _ (by omega)
      obtain ⟨u, hu⟩ : ∃ u, u = (l.getD k 0).toNat := ⟨_, rfl⟩
      have hcx2 : w.cell? ⟨b, off + k, none⟩ = some (.int .u8 (u : Int)) := by rw [hu]; exact hcx
      have HU := Lib.hid hu
      clear hcx hu
      by_cases hq : 2 < u
      · have e1 : decide ((2 : Int) < (u : Int)) = true := by simp; omega
        have HQ : Hid (q = false) := NO.out k hlt (by rw [← HU.out]; exact hq)
        go_wp2
        go_ret
        exact ⟨by rw [HQ.out]; rfl, rfl⟩
      · have e1 : decide ((2 : Int) < (u : Int)) = false := by simp; omega
        have HQ := Lib.hid hq
        clear hq
        go_wp2
        go_round
        case rel =>
          refine ⟨k + 1, by omega, by go_num, fun j hj => ?_⟩
          rcases Nat.lt_or_ge j k with h | h
          · exact hno.out j h
          · have : j = k := by omega
            subst this
            rw [← HU.out]; exact HQ.out
        case measure => simp [intOf]; omega
    · have hkn : k = n := by omega
      subst hkn
      have Y := Lib.hid (YES.out hno.out)
      by_cases hq : (k : Int) = many
      · have e1 : ((k : Int) == many) = true := by simpa using hq
        have HQ := Lib.hid hq
        clear hq
        go_wp2
        go_ret
        exact ⟨by rw [Y.out]; have := HQ.out; simp [this], rfl⟩
      · have e1 : ((k : Int) == many) = false := by simpa using hq
        have e2 : ((k : Int) = many) = False := by simpa using hq
        have HQ := Lib.hid hq
        clear hq
        go_wp2
        go_ret
        exact ⟨by rw [Y.out]; have := HQ.out; simp [this], rfl⟩
end Go.Proofs.Ytdheldhecimfnaa
/- inquestref03.Fits, by its contract. -/
namespace Go.Proofs.Ytdheldhecimfnaa
open Go Go.RowKit Go.Joins

structure FitJ (c : NormC) (t : TraceC) (z bad : Int) (n1 n4 m1 m2 : Nat) (q qm qv : Bool) : Prop where
  no1 : qm = false → q = false
  no2 : bad < 0 → q = false
  no3 : (n4 : Int) ≤ bad → q = false
  nov : qv = false → q = false
  len : qv = true → m1 = n1
  no4 : ¬ 1 ≤ m2 → q = false
  no5 : ¬ m2 ≤ 256 → q = false
  nof : ∀ k, k < m2 → valsOk (t.frames.getD k []) z = false → q = false
  noi : ∀ k, k < n1 → (c.lats.getD k (0, 0)).2 ≠ 2 → (t.init.getD k 0).toNat ≠ (c.lats.getD k (0, 0)).2 → q = false
  yes : qm = true → ¬ bad < 0 → ¬ (n4 : Int) ≤ bad → qv = true → 1 ≤ m2 → m2 ≤ 256 → (∀ k, k < m2 → valsOk (t.frames.getD k []) z = true) → (∀ k, k < n1 → (c.lats.getD k (0, 0)).2 = 2 ∨ (t.init.getD k 0).toNat = (c.lats.getD k (0, 0)).2) → q = true
theorem fitJ_of (c : NormC) (t : TraceC) {n1 n4 m1 m2 : Nat} (l1 : c.lats.length = n1) (l4 : c.bads.length = n4) (lm : t.init.length = m1) (lf : t.frames.length = m2) : FitJ c t c.ins t.bad n1 n4 m1 m2 (fitsS c t) (mayC c) (valsOk t.init (n1 : Int)) := by
  have I := fitI_of c t l1 l4 lm lf
  refine ⟨I.no1, I.no2, I.no3, I.nov, I.len, fun h => ?_, fun h => ?_, fun k hk h => ?_, I.noi, fun h1 h2 h3 h4 h5 h6 h7 h8 => ?_⟩
  · unfold fitsS; rw [lf, decide_eq_false h]; simp
  · unfold fitsS; rw [lf, decide_eq_false h]; simp
  · have hf : t.frames.all (fun f => valsOk f c.ins) = false := by
      rw [List.all_eq_false]
      exact ⟨t.frames.getD k [], getD_mem (by rw [lf]; exact hk), by rw [h]; simp⟩
    unfold fitsS; rw [hf]; simp
  · rw [I.yes h1 h2 h3 h4 h8, decide_eq_true h5, decide_eq_true h6, any_noD (d := []) lf (fun k hk => by unfold wrongF; rw [h7 k hk]; rfl)]
    rfl

set_option maxRecDepth 100000 in
set_option maxHeartbeats 3200000 in
theorem reffits_any (c : NormC) (t : TraceC) (s : CSlots) (st : TSlots) (w : World) (h : SeesCir w s c) (ht : SeesTr w st t) (hs : s.small) (hst : st.small) (hlo : -9223372036854775808 ≤ c.ins) (hhi : c.ins < 9223372036854775808) (hb1 : -9223372036854775808 ≤ t.bad ∧ t.bad < 9223372036854775808) (hwd : Wide c) :
    Calls Try.prog 19 #[cirV c.ins s, traceV t.bad st] w fun e w' => e = .returned (.bool (fitsS c t)) ∧ Below w.heap.size w w' := by
  have HMAY := Lib.hid (fun W (hb : Below w.heap.size w W) => refmay3_any c s W (h.below hb) hs hlo hhi hwd)
  obtain ⟨a1, n1, c1, a2, n2, c2, a3, n3, c3, a4, n4, c4, a5, n5, c5⟩ := s
  obtain ⟨b1, m1, d1, b2, m2, d2, ss⟩ := st
  have FI := fitJ_of c t h.s1.1 h.s4.lenMap ht.s1.lenMap ht.s2.n_eq
  simp only at FI
  have hs1 : n1 ≤ 1048576 := hs.n1
  have hs4 : n4 ≤ 1048576 := hs.n4
  have hm1 : m1 ≤ 1048576 := hst.n1
  have hm2 : m2 ≤ 1048576 := hst.n2
  have HSS := Lib.hid hst.each
  have HLF := Lib.hid ht.s2.n_eq
  obtain ⟨z, hz⟩ : ∃ z, z = c.ins := ⟨_, rfl⟩
  obtain ⟨bad, hbad⟩ : ∃ z, z = t.bad := ⟨_, rfl⟩
  obtain ⟨q, hq⟩ : ∃ q, q = fitsS c t := ⟨_, rfl⟩
  obtain ⟨qm, hqm⟩ : ∃ q, q = mayC c := ⟨_, rfl⟩
  obtain ⟨qv, hqv⟩ : ∃ q, q = valsOk t.init (n1 : Int) := ⟨_, rfl⟩
  rw [← hz, ← hbad, ← hq, ← hqm, ← hqv] at FI
  rw [← hz, ← hqm] at HMAY
  have HVAL : Hid (∀ W, Below w.heap.size w W → Calls Try.prog 42 #[.slice b1 m1 d1, .int .i64 (n1 : Int)] W fun e w' => e = .returned (.bool qv) ∧ W = w') := fun W hb => by
    have h1 := refvalues_any (n1 : Int) t.init b1 m1 d1 hm1 W (ht.s1.below hb)
    rw [← hqv] at h1
    exact h1
  have HS := Lib.hid h
  have HT := Lib.hid ht
  have HFI := Lib.hid FI
  have hb2 := hb1.2
  have hb3 := hb1.1
  rw [← hbad] at hb2 hb3
  rw [← hz] at hlo hhi
  rw [← hz, ← hbad, ← hq]
  clear hz hbad hq hqm hqv FI h ht hs hst hb1
  unfold cirV traceV at *
  go_enter Try.func19, Try.ntmps19
  go_upto_region 1 with fail
  generalize hW : World.alloc (World.alloc w _) _ = W1
  have hb : Below w.heap.size w W1 := by subst hW; exact ext_trans (ext_alloc _ _) (ext_alloc _ _)
  have hx : W1.heap[w.heap.size]? = some (.cells #[.int .i64 z, .slice a1 n1 c1, .slice a2 n2 c2, .slice a3 n3 c3, .slice a4 n4 c4, .slice a5 n5 c5] 26 (0, 0)) := by subst hW; exact heap_below (heap_new _ _ _ rfl) (ext_alloc _ _)
  have hy : W1.heap[w.heap.size + 1]? = some (.cells #[.int .i64 bad, .slice b1 m1 d1, .slice b2 m2 d2] 30 (0, 0)) := by subst hW; exact heap_new _ _ _ (by simp)
  have HB := Lib.hid hb
  have HX := Lib.hid hx
  have HY := Lib.hid hy
  clear hW hb hx hy
  have p0 := cell_of_block HX.out 0
  have p1 := cell_of_block HX.out 1
  have p2 := cell_of_block HX.out 2
  have p3 := cell_of_block HX.out 3
  have p4 := cell_of_block HX.out 4
  have p5 := cell_of_block HX.out 5
  go_wp2_with fail
  refine (HMAY.out W1 HB.out).mono ?_
  rintro e W2 ⟨rfl, hb⟩
  have HX2 := Lib.hid (heap_below HX.out hb)
  have HY2 := Lib.hid (heap_below HY.out hb)
  have HB2 := Lib.hid (ext_trans HB.out hb)
  clear hb p0 p1 p2 p3 p4 p5 HMAY HX HY HB
  cases qm with
  | false =>
    have HF : Hid (q = false) := HFI.out.no1 rfl
    go_wp2
    go_ret
    exact ⟨by rw [HF.out]; rfl, HB2.out⟩
  | true =>
  have p4 := cell_of_block HX2.out 4
  have p1 := cell_of_block HX2.out 1
  have r0 := cell_of_block HY2.out 0
  have r1 := cell_of_block HY2.out 1
  have r2 := cell_of_block HY2.out 2
  by_cases t1 : bad < 0
  · have e1 : decide (bad < 0) = true := by simpa using t1
    have HF : Hid (q = false) := HFI.out.no2 t1
    go_wp2
    go_ret
    exact ⟨by rw [HF.out]; rfl, HB2.out⟩
  have e1 : decide (bad < 0) = false := by simpa using t1
  by_cases t2 : (n4 : Int) ≤ bad
  · have e2 : decide ((n4 : Int) ≤ bad) = true := by simpa using t2
    have HF : Hid (q = false) := HFI.out.no3 t2
    go_wp2
    go_ret
    exact ⟨by rw [HF.out]; rfl, HB2.out⟩
  have e2 : decide ((n4 : Int) ≤ bad) = false := by simpa using t2
  have T1 := Lib.hid t1
  have T2 := Lib.hid t2
  clear t1 t2
  go_wp2_with fail
  refine (HVAL.out W2 HB2.out).mono ?_
  rintro e W3 ⟨rfl, rfl⟩
  clear HVAL
  cases qv with
  | false =>
    have HF : Hid (q = false) := HFI.out.nov rfl
    go_wp2
    go_ret
    exact ⟨by rw [HF.out]; rfl, HB2.out⟩
  | true =>
  obtain rfl : m1 = n1 := HFI.out.len rfl
  by_cases t1 : 1 ≤ m2
  case neg =>
    have g1 : decide ((m2 : Int) < 1) = true := by simp; omega
    have HF : Hid (q = false) := HFI.out.no4 t1
    clear t1
    go_wp2
    go_ret
    exact ⟨by rw [HF.out]; rfl, HB2.out⟩
  have g1 : decide ((m2 : Int) < 1) = false := by simp; omega
  by_cases t2 : m2 ≤ 256
  case neg =>
    have g2 : decide ((256 : Int) < (m2 : Int)) = true := by simp; omega
    have HF : Hid (q = false) := HFI.out.no5 t2
    clear t1 t2
    go_wp2
    go_ret
    exact ⟨by rw [HF.out]; rfl, HB2.out⟩
  have g2 : decide ((256 : Int) < (m2 : Int)) = false := by simp; omega
  have T3 := Lib.hid t1
  have T4 := Lib.hid t2
  clear t1 t2
  go_upto_region 3 with fail
  clear e1 e2 g1 g2 p4 p1 r0 r1 r2
  go_wp2
  go_loopw [5] (fun i wr => ∃ k : Nat, k ≤ m2 ∧ i = .int .i64 k ∧ Hid (∀ j, j < k → valsOk (t.frames.getD j []) z = true) ∧ Hid (Below W2.heap.size W2 wr)) (fun i _ => m2 - (intOf i).toNat)
  case atStart => exact ⟨0, Nat.zero_le _, rfl, fun j hj => absurd hj (by omega), Below.refl _ _⟩
  case round =>
    obtain ⟨k, hk, rfl, hno, hB⟩ := hrel
    have r2 := cell_of_block (heap_below HY2.out hB.out) 2
    by_cases hlt : k < m2
    · have p0 := cell_of_block (heap_below HX2.out hB.out) 0
      obtain ⟨b, off, rfl, hbw⟩ := HT.out.s2.row.addr (show 0 < m2 by omega)
      have hcx := ((HT.out.below HB2.out).below hB.out).s2.cellAt k hlt
      have hsx := ((HT.out.below HB2.out).below hB.out).s2.each k (by rw [HLF.out]; exact hlt)
      have hsm := HSS.out (ss.getD k slc0) (getD_mem (by rw [HT.out.s2.len, HLF.out]; exact hlt))
      have hnof := HFI.out.nof k hlt
      obtain ⟨x, hx⟩ : ∃ x : Slc, x = ss.getD k slc0 := ⟨_, rfl⟩
      rw [← hx] at hcx hsx hsm
      clear hx
      obtain ⟨xa, xn, xc⟩ := x
      simp only at hcx hsx hsm
      have W1' : IntKind.i64.wrap ((k : Int) + 1) = (k : Int) + 1 := IntWalk.i64_in _ (by omega)
      obtain ⟨p, hp⟩ : ∃ q, q = valsOk (t.frames.getD k []) z := ⟨_, rfl⟩
      have HCALL : Hid (∀ n, Calls Try.prog 42 #[.slice xa xn xc, .int .i64 z] (wr.drewN n) fun e w' => e = .returned (.bool p) ∧ w' = wr.drewN n) := fun n => by
        have h1 := refvalues_any z (t.frames.getD k []) xa xn xc hsm (wr.drewN n) (hsx.below (ext_drewN wr n))
        rw [← hp] at h1
        exact h1.mono fun e w' ⟨h2, h3⟩ => ⟨h2, h3.symm⟩
      rw [← hp] at hnof
      have HNOF := Lib.hid hnof
      have STEP : Hid (p = true → ∀ j, j < k + 1 → valsOk (t.frames.getD j []) z = true) := fun hh j hj => by
        rcases Nat.lt_or_ge j k with h | h
        · exact hno.out j h
        · have : j = k := by omega
          subst this
          rw [← hp]; exact hh
      have HBB := Lib.hid hB.out
      clear hsx hnof hp hno hB
      cases p with
      | false =>
        have HF : Hid (q = false) := HNOF.out rfl
        go_wp2
        go_quiet ((go_at_call 42; exact Calls.quiet_of_same (HCALL.out _)))
        go_wp2
        go_ret
        exact ⟨by rw [HF.out]; rfl, ext_trans HB2.out (ext_trans HBB.out (ext_drewN _ _))⟩
      | true =>
        have HN := Lib.hid (STEP.out rfl)
        go_wp2
        go_quiet ((go_at_call 42; exact Calls.quiet_of_same (HCALL.out _)))
        go_wp2
        go_roundw
        case rel => exact ⟨k + 1, by omega, by go_num, HN.out, ext_trans HBB.out (ext_drewN _ _)⟩
        case measure => simp [intOf]; omega
    · obtain rfl : m2 = k := by omega
      obtain ⟨W4, hW4⟩ : ∃ W4 : World, W4 = wr := ⟨_, rfl⟩
      subst hW4
      have HNF := Lib.hid hno.out
      have HX4 := Lib.hid (heap_below HX2.out hB.out)
      have HY4 := Lib.hid (heap_below HY2.out hB.out)
      have HB4 := Lib.hid (ext_trans HB2.out hB.out)
      clear hno hB hlt hk
      go_wp2
      clear r2
      go_loopw [6] (fun i wr => ∃ k : Nat, k ≤ m1 ∧ i = .int .i64 k ∧ Hid (∀ j, j < k → (c.lats.getD j (0, 0)).2 = 2 ∨ (t.init.getD j 0).toNat = (c.lats.getD j (0, 0)).2) ∧ Hid (Below W4.heap.size W4 wr)) (fun i _ => m1 - (intOf i).toNat)
      case atStart => exact ⟨0, Nat.zero_le _, rfl, fun j hj => absurd hj (by omega), Below.refl _ _⟩
      case round =>
        obtain ⟨k, hk, rfl, hno, hB⟩ := hrel
        have r1 := cell_of_block (heap_below HY4.out hB.out) 1
        by_cases hlt : k < m1
        · have p1 := cell_of_block (heap_below HX4.out hB.out) 1
          obtain ⟨b, off, rfl, hbw⟩ := HS.out.s1.addr (show 0 < m1 by omega)
          obtain ⟨b', off', rfl, hbw'⟩ := HT.out.s1.addr (show 0 < m1 by omega)
          obtain ⟨qx, qy⟩ := ((HS.out.below HB4.out).s1.below hB.out).cells k hlt (0, 0)
          have hby := ((HT.out.below HB4.out).s1.below hB.out).byte k hlt
          have hnoi := HFI.out.noi k hlt
          obtain ⟨v, hv⟩ : ∃ v, v = (t.init.getD k 0).toNat := ⟨_, rfl⟩
          have hby2 : wr.cell? ⟨b', off' + k, none⟩ = some (.int .u8 (v : Int)) := by rw [hv]; exact hby
          obtain ⟨p, hp⟩ : ∃ t, t = c.lats.getD k (0, 0) := ⟨_, rfl⟩
          rw [← hp] at qx qy hnoi
          rw [← hv] at hnoi
          have STEP : Hid ((p.2 = 2 ∨ v = p.2) → ∀ j, j < k + 1 → (c.lats.getD j (0, 0)).2 = 2 ∨ (t.init.getD j 0).toNat = (c.lats.getD j (0, 0)).2) := fun hh j hj => by
            rcases Nat.lt_or_ge j k with h | h
            · exact hno.out j h
            · have : j = k := by omega
              subst this
              rw [← hp, ← hv]; exact hh
          clear hv hp hby hno
          obtain ⟨x, y⟩ := p
          simp only [nv32, nv8] at qx qy
          simp only at hnoi STEP
          have HNOI := Lib.hid hnoi
          have HBB := Lib.hid hB.out
          have W1' : IntKind.i64.wrap ((k : Int) + 1) = (k : Int) + 1 := IntWalk.i64_in _ (by omega)
          clear hnoi hB
          by_cases hy2 : y = 2
          · have f1 : ((y : Int) != 2) = false := by simp; omega
            have f2 : ((y : Int) == 2) = true := by simp; omega
            have HN := Lib.hid (STEP.out (Or.inl hy2))
            clear STEP hy2
            go_wp2
            go_quiet (fail)
            go_wp2
            go_roundw
            case rel =>
              rename_i nq
              exact ⟨k + 1, by omega, by go_num, HN.out, ext_trans HBB.out (ext_drewN _ nq)⟩
            case measure => simp [intOf]; omega
          · have f1 : ((y : Int) != 2) = true := by simp; omega
            have f2 : ((y : Int) == 2) = false := by simp; omega
            by_cases hvy : v = y
            · have f3 : ((y : Int) != (v : Int)) = false := by simp; omega
              have f4 : ((y : Int) == (v : Int)) = true := by simp; omega
              have HN := Lib.hid (STEP.out (Or.inr hvy))
              clear STEP hy2 hvy
              go_wp2
              go_quiet (fail)
              go_wp2
              go_roundw
              case rel =>
                rename_i nq
                exact ⟨k + 1, by omega, by go_num, HN.out, ext_trans HBB.out (ext_drewN _ nq)⟩
              case measure => simp [intOf]; omega
            · have f3 : ((y : Int) != (v : Int)) = true := by simp; omega
              have f4 : ((y : Int) == (v : Int)) = false := by simp; omega
              have HF : Hid (q = false) := HNOI.out hy2 hvy
              clear STEP hy2 hvy
              go_wp2
              go_quiet (fail)
              go_wp2
              go_ret
              rename_i nq
              exact ⟨by rw [HF.out]; rfl, ext_trans HB4.out (ext_trans HBB.out (ext_drewN _ nq))⟩
        · obtain rfl : m1 = k := by omega
          have HQ : Hid (q = true) := HFI.out.yes rfl (by have := T1.out; omega) (by have := T2.out; omega) rfl (by have := T3.out; omega) (by have := T4.out; omega) HNF.out hno.out
          have HBB := Lib.hid hB.out
          clear hno hB hlt hk
          go_wp2
          go_ret
          exact ⟨by rw [HQ.out]; rfl, ext_trans HB4.out HBB.out⟩
end Go.Proofs.Ytdheldhecimfnaa
/- The reference's CopyTrace, by its contract. -/
namespace Go.Proofs.Ytdheldhecimfnaa
open Go Go.RowKit Go.Joins

/-- A trace's slots own what they read; the list of frames is a row that may have room. -/
structure OwnT3 (w : World) (base : Nat) (s : TSlots) (t : TraceC) : Prop where
  o1 : Row isByte w base 5 (.slice s.a1 s.n1 s.c1) t.init.length (t.init.map bv)
  o2 : w.ownsRow base 27 1 (.slice s.a2 s.n2 s.c2) t.frames.length (s.ss.map slV)
  len : s.ss.length = t.frames.length
  rows : ∀ j, j < t.frames.length → Row isByte w base 5 (slV (s.ss.getD j slc0)) (t.frames.getD j []).length ((t.frames.getD j []).map bv)
  ap : ApartL ((s.a1, s.n1, s.c1) :: s.ss)
theorem OwnT3.below {w w' : World} {base : Nat} {s : TSlots} {t : TraceC} (h : OwnT3 w base s t) (hb : Below w.heap.size w w') : OwnT3 w' base s t :=
  ⟨h.o1.below hb, ownsN_below h.o2 hb, h.len, fun j hj => (h.rows j hj).below hb, h.ap⟩
theorem owns_sees_slice {w : World} {base : Nat} {e : TypeId} {a : Option Addr} {n c m : Nat} {xs : List Value} (h : w.ownsRow base e 1 (.slice a n c) m xs) : n = m ∧ Sees w a n c xs := by
  obtain ⟨a', c', e1, _, hs⟩ := Sees.owned h
  cases e1
  exact ⟨rfl, hs⟩
theorem OwnT3.sees {w : World} {base : Nat} {s : TSlots} {t : TraceC} (h : OwnT3 w base s t) : SeesTr w s t :=
  ⟨(row_sees_slice h.o1).2, ⟨(owns_sees_slice h.o2).2, h.len, fun k hk => (row_sees_slice (h.rows k hk)).2⟩⟩

/-- While the copy is made: k frames have been copied. -/
structure RcInv (w : World) (bad : Int) (F : List (List UInt8)) (I : List UInt8) (a1 : Option Addr) (n1 c1 : Nat) (a2 : Option Addr) (n2 c2 k : Nat) (W : World) (v : Value) (si : Slc) (ss : List Slc) : Prop where
  box : W.heap[w.heap.size + 1 + 1]? = some (.cells #[.int .i64 bad, slV si, v] 30 (0, 0))
  tb : W.heap[w.heap.size]? = some (.cells #[.int .i64 bad, .slice a1 n1 c1, .slice a2 n2 c2] 30 (0, 0))
  rb : W.heap[w.heap.size + 1]? = some (.cells #[.int .i64 0, .slice none 0 0, .slice none 0 0] 30 (0, 0))
  init : Row isByte W w.heap.size 5 (slV si) I.length (I.map bv)
  row : W.ownsRow w.heap.size 27 1 v k (ss.map slV)
  len : ss.length = k
  rows : ∀ j, j < k → Row isByte W w.heap.size 5 (slV (ss.getD j slc0)) (F.getD j []).length ((F.getD j []).map bv)
  ap : ApartL (si :: ss)
  low : Below w.heap.size w W

theorem OwnT3.set3 {w : World} {base G : Nat} {s : TSlots} {t : TraceC} {C : Array Value} {fr : Nat × Nat} {u0 u1 u2 : Value} (h : OwnT3 w base s t) (hG : w.heap[G]? = some (.cells C 30 fr)) : OwnT3 (((w.setCell ⟨G, 0, .none⟩ u0).setCell ⟨G, 1, .none⟩ u1).setCell ⟨G, 2, .none⟩ u2) base s t := by
  have row : ∀ {v : Value} {n : Nat} {xs : List Value}, Row isByte w base 5 v n xs → Row isByte (((w.setCell ⟨G, 0, .none⟩ u0).setCell ⟨G, 1, .none⟩ u1).setCell ⟨G, 2, .none⟩ u2) base 5 v n xs := fun hr =>
    hr.other fun q hq => set3_other G q (fun e => (hr.not_own hG (by decide)) (by rw [hq, e])) _ _ _
  exact ⟨row h.o1, ownsN_other h.o2 fun q hq => set3_other G q (fun e => (ownsN_notown h.o2 hG (by decide)) (by rw [hq, e])) _ _ _, h.len, fun j hj => row (h.rows j hj), h.ap⟩
theorem keep3c {w w' : World} {a0 a1 a2 : Addr} {v0 v1 v2 : Value} (h : w.cell? a0 = some v0 ∧ w.cell? a1 = some v1 ∧ w.cell? a2 = some v2) (hb : Below w.heap.size w w') : w'.cell? a0 = some v0 ∧ w'.cell? a1 = some v1 ∧ w'.cell? a2 = some v2 := by
  obtain ⟨h0, h1, h2⟩ := h
  have one : ∀ {a : Addr} {v : Value}, w.cell? a = some v → w'.cell? a = some v := fun {a v} h => (hb.cell (World.block_lt_of_cell? _ _ h)).trans h
  exact ⟨one h0, one h1, one h2⟩
theorem apart_snoc {L : List Slc} {x : Slc} (h : ApartL L) (h2 : ∀ j, j < L.length → ∀ g, (slV (L.getD j slc0)).ownBlock = some g → (slV x).ownBlock ≠ some g) : ApartL (L ++ [x]) := by
  intro i j hij hj g hg
  have hi : i < L.length := by simp at hj; omega
  have e1 : (L ++ [x]).getD i slc0 = L.getD i slc0 := by simp [List.getD, List.getElem?_append_left hi]
  rw [e1] at hg
  by_cases e : j < L.length
  · have e2 : (L ++ [x]).getD j slc0 = L.getD j slc0 := by simp [List.getD, List.getElem?_append_left e]
    rw [e2]; exact h i j hij e g hg
  · have e3 : j = L.length := by simp at hj; omega
    have e2 : (L ++ [x]).getD j slc0 = x := by rw [e3]; simp
    rw [e2]; exact h2 i hi g hg

set_option maxRecDepth 100000 in
set_option maxHeartbeats 6400000 in
theorem refcopy_any (t : TraceC) (s : TSlots) (w : World) (h : SeesTr w s t) (hs : s.small) :
    Calls Try.prog 15 #[traceV t.bad s] w fun e w' => ∃ s' : TSlots, e = .returned (traceV t.bad s') ∧ OwnT3 w' w.heap.size s' t ∧ s'.small ∧ Below w.heap.size w w' := by
  obtain ⟨i0, hi, hz0, hz1, hz2⟩ := info_parts info_byte
  obtain ⟨iS, hiS, hzS0, hzS1, hzS2⟩ := info_parts info_u8s
  obtain ⟨a1, n1, c1, a2, n2, c2, ss0⟩ := s
  obtain ⟨hs1, hs2, hs3⟩ := hs
  simp only at hs1 hs2 hs3
  obtain ⟨bad, init, fs⟩ := t
  obtain ⟨q1, q2⟩ := h
  simp only at q1 q2
  have hn2 := q2.n_eq
  have hn1 : init.length = n1 := q1.lenMap
  have H1 := Lib.hid q1
  have H2 := Lib.hid q2
  have HN1 := Lib.hid hn1
  have HN2 := Lib.hid hn2
  have HSL := Lib.hid hs3
  clear q1 q2 hn1 hn2 hs3
  unfold traceV
  go_enter Try.func15, Try.ntmps15
  go_upto_region 2 with fail
  generalize hW : World.alloc (World.alloc (World.alloc w _) _) _ = W1
  have B1 : Below w.heap.size w W1 := by subst hW; exact ext_trans (ext_alloc _ _) (ext_trans (ext_alloc _ _) (ext_alloc _ _))
  have hT : W1.heap[w.heap.size]? = some (.cells #[.int .i64 bad, .slice a1 n1 c1, .slice a2 n2 c2] 30 (0, 0)) := by subst hW; exact heap_below (heap_below (heap_new _ _ _ rfl) (ext_alloc _ _)) (ext_alloc _ _)
  have hR : W1.heap[w.heap.size + 1]? = some (.cells #[.int .i64 0, .slice none 0 0, .slice none 0 0] 30 (0, 0)) := by subst hW; exact heap_below (heap_new _ _ _ (by simp)) (ext_alloc _ _)
  have hX : W1.heap[w.heap.size + 1 + 1]? = some (.cells #[.int .i64 bad, .slice none 0 0, .slice none 0 0] 30 (0, 0)) := by subst hW; exact heap_new _ _ _ (by simp)
  clear hW
  have p1 := cell_of_block hT 1
  have p2 := cell_of_block hX 1
  have p3 := unfrozen_of_block hX 1
  have HB := Lib.hid B1
  have HT := Lib.hid hT
  have HR := Lib.hid hR
  have HX := Lib.hid hX
  clear B1 hT hR hX
  go_wp2_with (at_builtin; refine wpList_append_row isByte _ rfl _ _ 27 rfl w.heap.size 5 i0 (.int .u8 0) 1 Try.underlying27 hi hz0 hz1 hz2 rfl isByte_zero _ _ _ rfl (Row.nil _ _ _ _) a1 n1 c1 (init.map bv) rfl (H1.out.below HB.out) (bv_one _) (isByte_all _) (by unfold maxLen; omega) (by omega) HB.out.size ?_; intro v1 w1 r1 g1 _; obtain ⟨ia, ic, rfl⟩ := r1.form; have hb1 : Below W1.heap.size W1 w1 := (Below.refl _ W1).grown g1 (Nat.le_refl _) (fun k hk => by cases hk); have p4 := cell_of_block (heap_below HX.out hb1) 1; have p5 := unfrozen_of_block (heap_below HX.out hb1) 1)
  obtain ⟨si, hsi⟩ : ∃ si : Slc, si = (ia, 0 + n1, ic) := ⟨_, rfl⟩
  have hro : Row isByte w1 w.heap.size 5 (slV si) init.length (init.map bv) := by rw [hsi, HN1.out]; simpa [slV] using r1
  have hXX := block_setCell (heap_below HX.out hb1) (i := 1) (.slice ia (0 + n1) ic)
  generalize hW : World.setCell w1 _ _ = W2
  have hx2 : W2.heap[w.heap.size + 1 + 1]? = some (.cells #[.int .i64 bad, slV si, .slice none 0 0] 30 (0, 0)) := by
    subst hW; rw [hsi]; simpa [slV] using hXX
  have hne : ∀ D : Nat, D ≠ w.heap.size + 1 + 1 → W2.heap[D]? = w1.heap[D]? := fun D hD => by subst hW; exact Below.heap_setCell w1 ⟨w.heap.size + 1 + 1, 1, none⟩ _ D hD
  have hro2 : Row isByte W2 w.heap.size 5 (slV si) init.length (init.map bv) := hro.other fun q hq => hne q (fun e => (hro.not_own (heap_below HX.out hb1) (by decide)) (by rw [hq, e]))
  have hb2 : Below w.heap.size w W2 := by
    subst hW
    exact (ext_trans HB.out hb1).setCell (p := ⟨w.heap.size + 1 + 1, 1, none⟩) (by show w.heap.size ≤ w.heap.size + 1 + 1; omega) _
  have ht2 : W2.heap[w.heap.size]? = some (.cells #[.int .i64 bad, .slice a1 n1 c1, .slice a2 n2 c2] 30 (0, 0)) := (hne _ (by omega)).trans (heap_below HT.out hb1)
  have hr2 : W2.heap[w.heap.size + 1]? = some (.cells #[.int .i64 0, .slice none 0 0, .slice none 0 0] 30 (0, 0)) := (hne _ (by omega)).trans (heap_below HR.out hb1)
  have hlen2 : (si.2.1 : Nat) = init.length := (row_len (show Row isByte W2 w.heap.size 5 (.slice si.1 si.2.1 si.2.2) _ _ from hro2)).symm
  have HLEN2 := Lib.hid hlen2
  have HRO := Lib.hid hro2
  have HT2 := Lib.hid ht2
  have HR2 := Lib.hid hr2
  have HX2 := Lib.hid hx2
  have HB2 := Lib.hid hb2
  have HSI := Lib.hid hsi
  clear hW r1 g1 hb1 hro hXX hx2 hne hro2 hb2 ht2 hr2 hsi p1 p2 p3 p4 p5 HB HT HR HX hlen2
  go_wp2
  go_loopw [4, 5] (fun i _ wr => ∃ (k : Nat) (va : Option Addr) (vc : Nat) (ss : List Slc), k ≤ n2 ∧ i = .int .i64 k ∧ Hid (RcInv w bad fs init a1 n1 c1 a2 n2 c2 k wr (.slice va k vc) si ss)) (fun i _ _ => n2 - (intOf i).toNat)
  case atStart => exact ⟨0, none, 0, [], Nat.zero_le _, rfl, HX2.out, HT2.out, HR2.out, HRO.out, ⟨rfl, .inl ⟨rfl, rfl⟩⟩, rfl, fun j hj => absurd hj (by omega), (fun i j hij hj => by simp at hj; omega), HB2.out⟩
  case round =>
    clear HX2 HT2 HR2 HRO HB2
    obtain ⟨k, va, vc, ss, hk, rfl, hI⟩ := hrel
    have p1 := cell_of_block hI.out.tb 2
    by_cases hlt : k < n2
    · obtain ⟨bb, off, rfl, hbw⟩ := H2.out.row.addr (show 0 < n2 by omega)
      have hcx := (H2.out.below hI.out.low).cellAt k hlt
      have hsee := (H2.out.below hI.out.low).each k (by rw [HN2.out]; exact hlt)
      have hsl := HSL.out (ss0.getD k slc0) (getD_mem (by rw [H2.out.len, HN2.out]; exact hlt))
      obtain ⟨x, hx⟩ : ∃ x : Slc, x = ss0.getD k slc0 := ⟨_, rfl⟩
      rw [← hx] at hcx hsee hsl
      obtain ⟨xa, xn, xc⟩ := x
      simp only at hcx hsee hsl
      have HXN := Lib.hid hsl
      have HKN : Hid (k < n2 ∧ n2 ≤ 1048576) := ⟨hlt, hs2⟩
      have HSK := Lib.hid hsee
      have HBW := Lib.hid hbw
      have hI1 : ((k : Nat) : Int) < (n2 : Int) := by omega
      have hI2 : (0 : Int) ≤ (k : Int) := by omega
      have W1' : IntKind.i64.wrap ((k : Int) + 1) = (k : Int) + 1 := IntWalk.i64_in _ (by omega)
      have p0 : wr.cell? ⟨w.heap.size + 1 + 1, 2, none⟩ = some (.slice va k vc) := cell_of_block hI.out.box 2
      have p2 := hcx
      have hxl : xn = (fs.getD k []).length := hsee.lenMap.symm
      have HXL := Lib.hid hxl
      clear hx hcx hsee hsl hbw hxl
      go_upto_region 7 with fail
      have HS0 := Lib.hid (And.intro p0 (And.intro p1 p2))
      have HSD := Lib.hid (keep3c HS0.out ((Below.refl _ wr).drew))
      have HSK2 := Lib.hid (HSK.out.below ((Below.refl _ wr).drew))
      refine wp_region_noPanic ?_
      refine wp_region_peelN 12 (by kernel_rfl) rfl (by simp only [List.getElem?_toArray, List.getElem?_cons_zero, List.getElem?_cons_succ]; rfl) (by kernel_rfl) ?_
      simp only [List.pop_toArray, List.dropLast_cons_cons, List.dropLast_singleton]
      refine wpAny_of_held (S := fun w' => w'.cell? ⟨w.heap.size + 1 + 1, 2, none⟩ = some (.slice va k vc) ∧ w'.cell? ⟨w.heap.size, 2, none⟩ = some (.slice (some ⟨bb, off, none⟩) n2 c2) ∧ w'.cell? ⟨bb, off + k, none⟩ = some (.slice xa xn xc)) _ _ _ _ ?_
      refine wpAnyH_take (i := 0) (v := ?_) (by simp only [List.getElem?_toArray, List.getElem?_cons_zero]; rfl) (by kernel_rfl) (by kernel_rfl) (by kernel_rfl) (fun _ _ _ h => h) (Or.inl ⟨by rfl, ?_⟩) HSD.out ?_
      rotate_left
      · intro w hSw
        (try dsimp only at hSw)
        obtain ⟨q0_, q1_, q2_⟩ := hSw
        go_simp
        try with_reducible rfl
      try simp only [Act.put, List.setIfInBounds_toArray, List.set_cons_zero, List.set_cons_succ]
      refine wpAnyH_take (i := 1) (v := ?_) (by simp only [List.getElem?_toArray, List.getElem?_cons_zero, List.getElem?_cons_succ]; rfl) (by kernel_rfl) (by kernel_rfl) (by kernel_rfl) (fun _ _ _ h => h) (Or.inl ⟨by rfl, ?_⟩) HSD.out ?_
      rotate_left
      · intro w hSw
        (try dsimp only at hSw)
        obtain ⟨q0_, q1_, q2_⟩ := hSw
        go_simp
        try with_reducible rfl
      try simp only [Act.put, List.setIfInBounds_toArray, List.set_cons_zero, List.set_cons_succ]
      refine wpAnyH_take (i := 2) (v := ?_) (by simp only [List.getElem?_toArray, List.getElem?_cons_zero, List.getElem?_cons_succ]; rfl) (by kernel_rfl) (by kernel_rfl) (by kernel_rfl) (fun _ _ _ h => h) (Or.inl ⟨by rfl, ?_⟩) HSD.out ?_
      rotate_left
      · intro w hSw
        (try dsimp only at hSw)
        obtain ⟨q0_, q1_, q2_⟩ := hSw
        go_simp
        try with_reducible rfl
      try simp only [Act.put, List.setIfInBounds_toArray, List.set_cons_zero, List.set_cons_succ]
      refine wpAnyH_take (i := 3) (v := ?_) (by simp only [List.getElem?_toArray, List.getElem?_cons_zero, List.getElem?_cons_succ]; rfl) (by kernel_rfl) (by kernel_rfl) (by kernel_rfl) (fun _ _ _ h => h) (Or.inl ⟨by rfl, ?_⟩) HSD.out ?_
      rotate_left
      · intro w hSw
        (try dsimp only at hSw)
        obtain ⟨q0_, q1_, q2_⟩ := hSw
        go_simp
        try with_reducible rfl
      try simp only [Act.put, List.setIfInBounds_toArray, List.set_cons_zero, List.set_cons_succ]
      refine wpAnyH_take (i := 4) (v := ?_) (by simp only [List.getElem?_toArray, List.getElem?_cons_zero, List.getElem?_cons_succ]; rfl) (by kernel_rfl) (by kernel_rfl) (by kernel_rfl) (fun _ _ _ h => h) (Or.inl ⟨by rfl, ?_⟩) HSD.out ?_
      rotate_left
      · intro w hSw
        (try dsimp only at hSw)
        obtain ⟨q0_, q1_, q2_⟩ := hSw
        go_simp
        try with_reducible rfl
      try simp only [Act.put, List.setIfInBounds_toArray, List.set_cons_zero, List.set_cons_succ]
      refine wpAnyH_take (i := 5) (v := ?_) (by simp only [List.getElem?_toArray, List.getElem?_cons_zero, List.getElem?_cons_succ]; rfl) (by kernel_rfl) (by kernel_rfl) (by kernel_rfl) (fun _ _ _ h => h) (Or.inl ⟨by rfl, ?_⟩) HSD.out ?_
      rotate_left
      · intro w hSw
        (try dsimp only at hSw)
        obtain ⟨q0_, q1_, q2_⟩ := hSw
        go_simp
        try with_reducible rfl
      try simp only [Act.put, List.setIfInBounds_toArray, List.set_cons_zero, List.set_cons_succ]
      refine wpAnyH_take (i := 6) (v := ?_) (by simp only [List.getElem?_toArray, List.getElem?_cons_zero, List.getElem?_cons_succ]; rfl) (by kernel_rfl) (by kernel_rfl) (by kernel_rfl) (fun _ _ _ h => h) (Or.inl ⟨by rfl, ?_⟩) HSD.out ?_
      rotate_left
      · intro w hSw
        (try dsimp only at hSw)
        obtain ⟨q0_, q1_, q2_⟩ := hSw
        go_simp
        try with_reducible rfl
      try simp only [Act.put, List.setIfInBounds_toArray, List.set_cons_zero, List.set_cons_succ]
      refine wpAnyH_take (i := 7) (v := ?_) (by simp only [List.getElem?_toArray, List.getElem?_cons_zero, List.getElem?_cons_succ]; rfl) (by kernel_rfl) (by kernel_rfl) (by kernel_rfl) (fun _ _ _ h => h) (Or.inl ⟨by rfl, ?_⟩) HSD.out ?_
      rotate_left
      · intro w hSw
        (try dsimp only at hSw)
        obtain ⟨q0_, q1_, q2_⟩ := hSw
        go_simp
        try with_reducible rfl
      try simp only [Act.put, List.setIfInBounds_toArray, List.set_cons_zero, List.set_cons_succ]
      refine wpAnyH_ready (rs := [8]) (by kernel_rfl) (by simp) ?_
      refine AllReadyH.cons (by simp only [List.getElem?_toArray, List.getElem?_cons_zero, List.getElem?_cons_succ]; rfl) (fun K hK => ?_) AllReadyH.nil
      refine step_append_row isByte _ rfl _ _ 27 rfl wr.heap.size 5 i0 (.int .u8 0) 1 Try.underlying27 hi hz0 hz1 hz2 rfl isByte_zero _ _ _ (by simp [Act.eval]) (Row.nil _ _ _ _) xa xn xc ((fs.getD k []).map bv) (by simp [Act.eval]) HSK2.out (bv_one _) (isByte_all _) (by unfold maxLen; have := HXN.out; omega) (by have := HXN.out; omega) (Nat.le_refl _) ?_
      intro v3 w3 r3 g3
      rw [Nat.zero_add, List.nil_append] at r3
      obtain ⟨ea, ec, rfl⟩ := r3.form
      have hb3 : Below wr.heap.size wr w3 := ((Below.refl _ wr).drew).grown g3 (Nat.le_refl _) (fun k hk => by cases hk)
      have HB3 := Lib.hid hb3
      have R3 := Lib.hid r3
      have HS3 := Lib.hid (keep3c HS0.out hb3)
      clear r3 g3 hb3
      refine hK.out _ _ HS3.out (fun _ => ?_)
      clear hK K
      try simp only [Act.put, List.setIfInBounds_toArray, List.set_cons_zero, List.set_cons_succ]
      refine wpAnyH_ready (rs := [9]) (by kernel_rfl) (by simp) ?_
      refine AllReadyH.cons (by simp only [List.getElem?_toArray, List.getElem?_cons_zero, List.getElem?_cons_succ]; rfl) (fun K hK => ?_) AllReadyH.nil
      go_simp
      refine hK.out _ _ (keep3c HS3.out (ext_alloc _ _)) (fun _ => ?_)
      clear hK K
      try simp only [Act.put, List.setIfInBounds_toArray, List.set_cons_zero, List.set_cons_succ]
      have HB4 := Lib.hid (ext_trans HB3.out (ext_alloc w3 (.cells #[.slice ea xn ec] 27)))
      have HOW := Lib.hid (ownsN_below hI.out.row HB4.out)
      refine wpAnyH_ready (rs := [10]) (by kernel_rfl) (by simp) ?_
      refine AllReadyH.cons (by simp only [List.getElem?_toArray, List.getElem?_cons_zero, List.getElem?_cons_succ]; rfl) (fun K hK => ?_) AllReadyH.nil
      refine step_append_own_at rfl _ _ 28 rfl w.heap.size 27 iS (.slice none 0 0) 1 24 Try.underlying28 hiS hzS0 hzS1 hzS2 rfl (by decide) (.slice va k vc) k (ss.map slV) (by simp [Act.eval]) HOW.out ⟨w3.heap.size, 0, none⟩ 1 1 [.slice ea xn ec] (by simp [Act.eval]) rfl (cell_one_new _ _ _) (by simp [Value.oneCell']) (by unfold maxLen; have := HKN.out; omega) (by have := HKN.out; omega) (ext_trans hI.out.low HB4.out).size ?_
      intro v5 w5 r5 g5
      obtain ⟨fa, fc, rfl⟩ := ownsN_form r5
      have hx5 := heap_grown (heap_below hI.out.box HB4.out) g5 (ownsN_notown HOW.out (heap_below hI.out.box HB4.out) (by decide))
      have ht5 := heap_grown (heap_below hI.out.tb HB4.out) g5 (ownsN_notown HOW.out (heap_below hI.out.tb HB4.out) (by decide))
      have HS5 : Hid (w5.cell? ⟨w.heap.size + 1 + 1, 2, none⟩ = some (.slice va k vc) ∧ w5.cell? ⟨w.heap.size, 2, none⟩ = some (.slice (some ⟨bb, off, none⟩) n2 c2) ∧ w5.cell? ⟨bb, off + k, none⟩ = some (.slice xa xn xc)) := ⟨cell_of_block hx5 2, cell_of_block ht5 2, by rw [World.cell?_of_block (w := w3.alloc (.cells #[.slice ea xn ec] 27)) (g5.block bb (Nat.lt_of_lt_of_le HBW.out (Nat.le_trans hI.out.low.size HB4.out.size)) (fun e => by have := (HOW.out.lt bb e.symm).1; have := HBW.out; omega))]; exact (keep3c HS3.out (ext_alloc _ _)).2.2⟩
      have HX5 := Lib.hid hx5
      have HT5 := Lib.hid ht5
      have d1 := cell_of_block hx5 2
      have d2 := unfrozen_of_block hx5 2
      have HG5 := Lib.hid g5
      have R5 := Lib.hid r5
      clear r5 g5 hx5 ht5
      refine hK.out _ _ HS5.out (fun _ => ?_)
      clear hK K
      try simp only [Act.put, List.setIfInBounds_toArray, List.set_cons_zero, List.set_cons_succ]
      refine wpAnyH_take (i := 11) (v := ?_) (by simp only [List.getElem?_toArray, List.getElem?_cons_zero, List.getElem?_cons_succ]; rfl) (by kernel_rfl) (by kernel_rfl) (by kernel_rfl) (fun _ _ _ h => h) (Or.inl ⟨by rfl, ?_⟩) HS5.out ?_
      rotate_left
      · intro w hSw
        (try dsimp only at hSw)
        obtain ⟨q0_, q1_, q2_⟩ := hSw
        go_simp
        try with_reducible rfl
      try simp only [Act.put, List.setIfInBounds_toArray, List.set_cons_zero, List.set_cons_succ]
      refine wpAnyH_done (by kernel_rfl) ?_ _
      unfold LastQ wpOp
      simp only [List.getElem?_toArray, List.getElem?_cons_zero, List.getElem?_cons_succ]
      rw [if_pos (by rfl)]
      refine Or.inl ?_
      go_simp
      refine NoPanic.normal ?_
      clear p0 p1 p2 HS0 HSD HS3 HS5 d1 d2
      go_wp2
      go_roundw
      case rel =>
        refine ⟨k + 1, fa, fc, ss ++ [(ea, xn, ec)], by omega, by go_num, ?_⟩
        have hXX := block_setCell HX5.out (i := 2) (.slice fa (k + 1) fc)
        obtain ⟨W6, hW6⟩ : ∃ W6, W6 = w5.setCell ⟨w.heap.size + 1 + 1, 2, none⟩ (.slice fa (k + 1) fc) := ⟨_, rfl⟩
        rw [← hW6] at hXX ⊢
        have hne : ∀ D : Nat, D ≠ w.heap.size + 1 + 1 → W6.heap[D]? = w5.heap[D]? := fun D hD => by rw [hW6]; exact Below.heap_setCell w5 ⟨w.heap.size + 1 + 1, 2, none⟩ _ D hD
        obtain ⟨WA, hWA⟩ : ∃ WA, WA = w3.alloc (.cells #[.slice ea xn ec] 27) := ⟨_, rfl⟩
        have hg := HG5.out
        have hb4 := HB4.out
        have how := HOW.out
        rw [← hWA] at hg hb4 how
        have hb3A : Below w3.heap.size w3 WA := by rw [hWA]; exact ext_alloc _ _
        have hwle : w.heap.size ≤ wr.heap.size := hI.out.low.size
        have one : ∀ {y : Slc} {V : List UInt8}, Row isByte WA w.heap.size 5 (slV y) V.length (V.map bv) → Row isByte W6 w.heap.size 5 (slV y) V.length (V.map bv) := fun {y V} hy => by
          have h1 := row_grown hy how hg (by decide)
          exact h1.other fun q hq => hne q (fun e => (h1.not_own HX5.out (by decide)) (by rw [hq, e]))
        have hnew : Row isByte WA w.heap.size 5 (slV (ea, xn, ec)) (fs.getD k []).length ((fs.getD k []).map bv) := by
          have h1 := (R3.out.below hb3A).base_le hwle
          rw [HXL.out] at h1 ⊢
          exact h1
        have hbz : Below w.heap.size w WA := ext_trans hI.out.low hb4
        refine ⟨?_, (hne _ (by omega)).trans HT5.out, (hne _ (by omega)).trans (heap_grown (heap_below hI.out.rb hb4) hg (ownsN_notown how (heap_below hI.out.rb hb4) (by decide))), one (hI.out.init.below hb4), ?_, by simp [hI.out.len], fun j hj => ?_, ?_, ?_⟩
        · simpa using hXX
        · have h1 : w5.ownsRow w.heap.size 27 1 (.slice fa (k + 1) fc) (k + 1) ((ss ++ [(ea, xn, ec)]).map slV) := by simpa [slV] using R5.out
          exact ownsN_other h1 fun q hq => hne q (fun e => (ownsN_notown h1 HX5.out (by decide)) (by rw [hq, e]))
        · by_cases e : j = k
          · subst e
            have e1 : (ss ++ [(ea, xn, ec)]).getD j slc0 = (ea, xn, ec) := by rw [← hI.out.len]; simp
            rw [e1]
            exact one hnew
          · have e1 : (ss ++ [(ea, xn, ec)]).getD j slc0 = ss.getD j slc0 := by simp [List.getD, List.getElem?_append_left (show j < ss.length by rw [hI.out.len]; omega)]
            rw [e1]
            exact one ((hI.out.rows j (by omega)).below hb4)
        · have h1 := apart_snoc (x := (ea, xn, ec)) hI.out.ap (fun j hj g hg1 hg2 => ?_)
          · simpa using h1
          · have h3 := (R3.out.own.lt g hg2).1
            have h4 : g < wr.heap.size := by
              cases j with
              | zero => exact (hI.out.init.own.lt g hg1).2
              | succ j => exact ((hI.out.rows j (by rw [← hI.out.len]; simpa using hj)).own.lt g hg1).2
            omega
        · rw [hW6]
          exact (hbz.grown hg hbz.size (fun q hq => (how.lt q hq).1)).setCell (p := ⟨w.heap.size + 1 + 1, 2, none⟩) (by show w.heap.size ≤ w.heap.size + 1 + 1; omega) _
      case measure => simp [intOf]; omega
    · obtain rfl : k = n2 := by omega
      have z0 := cell_of_block hI.out.box 0
      have z1 := cell_of_block hI.out.box 1
      have z2 := cell_of_block hI.out.box 2
      obtain ⟨sa, sn, sc⟩ := si
      simp only [slV] at z1
      have z1' : wr.cell? ⟨w.heap.size + 1 + 1, 1, none⟩ = some (.slice sa sn sc) := z1
      have y0 := cell_of_block hI.out.rb 0
      have y1 := cell_of_block hI.out.rb 1
      have y2 := cell_of_block hI.out.rb 2
      have x0 := unfrozen_of_block hI.out.rb 0
      have x1 := unfrozen_of_block hI.out.rb 1
      have x2 := unfrozen_of_block hI.out.rb 2
      clear hlt hk z1
      go_wp2
      refine bodyPost_ret (v := traceV bad ⟨sa, sn, sc, va, k, vc, ss⟩) ?_ rfl ?_
      · have h6 := tri_set_t hI.out.rb rfl (.int .i64 bad) (.slice sa sn sc) (.slice va k vc)
        have g0 := cell_of_block h6 0
        have g1 := cell_of_block h6 1
        have g2 := cell_of_block h6 2
        simp [results, Try.results15, go_sem, g0, g1, g2]
        rfl
      · have hsn : sn = init.length := HLEN2.out
        have h1 := HN1.out
        have h2 := HN2.out
        refine ⟨⟨sa, sn, sc, va, k, vc, ss⟩, rfl, OwnT3.set3 ⟨hI.out.init, by rw [h2]; exact hI.out.row, by rw [h2]; exact hI.out.len, fun j hj => hI.out.rows j (by rw [← h2]; exact hj), hI.out.ap⟩ hI.out.rb, ⟨by show sn ≤ 1048576; omega, hs2, fun x hx => ?_⟩, set3_t (w.heap.size + 1) (Nat.le_succ _) hI.out.low⟩
        obtain ⟨j, hj, he⟩ := List.getElem_of_mem hx
        have h3 : ss.getD j slc0 = x := by simp [List.getD, List.getElem?_eq_getElem hj, he]
        have hjk : j < k := by rw [← hI.out.len]; exact hj
        have h4 := hI.out.rows j hjk
        rw [h3] at h4
        have h5 := row_len (show Row isByte wr w.heap.size 5 (.slice x.1 x.2.1 x.2.2) _ _ from h4)
        have h6 := (H2.out.each j (by rw [h2]; exact hjk)).lenMap
        have h7 := HSL.out (ss0.getD j slc0) (getD_mem (by rw [H2.out.len, h2]; exact hjk))
        omega
end Go.Proofs.Ytdheldhecimfnaa
/- sim.Fails, by its contract. -/
namespace Go.Proofs.Ytdheldhecimfnaa
open Go Go.RowKit Go.Joins

theorem zeroU_le (u : UInt8) (h : u.toNat ≤ 2) : (zeroU u).toNat ≤ 1 := by
  unfold zeroU
  split
  · exact Nat.zero_le _
  · omega
theorem zeroL_getD (l : List UInt8) (i : Nat) : (zeroL l).getD i 0 = zeroU (l.getD i 0) := by
  by_cases h : i < l.length
  · simp [zeroL, List.getD, List.getElem?_eq_getElem h]
  · simp [zeroL, List.getD, List.getElem?_eq_none (Nat.le_of_not_lt h)]; rfl
theorem readT_frame (t : TraceC) (k : Nat) : (readT t).frames.getD k [] = zeroL (t.frames.getD k []) := by
  by_cases h : k < t.frames.length
  · simp [readT, List.getD, List.getElem?_eq_getElem h]
  · simp [readT, List.getD, List.getElem?_eq_none (Nat.le_of_not_lt h), zeroL]
theorem FitsC.read {c : NormC} {t : TraceC} (h : FitsC c t) : FitsC c (readT t) := by
  refine ⟨h.may, h.pos, h.bad, by show (zeroL t.init).length = _; rw [zeroL_len]; exact h.init, fun u hu => ?_, fun i hi => ?_, by show 1 ≤ (t.frames.map zeroL).length; rw [List.length_map]; exact h.one, by show (t.frames.map zeroL).length ≤ 256; rw [List.length_map]; exact h.few, fun k hk => ?_, fun f hf u hu => ?_⟩
  · obtain ⟨x, hx, rfl⟩ := List.mem_map.1 hu
    have := zeroU_le x (h.inits x hx); omega
  · rcases h.resets i hi with h1 | h1
    · exact .inl h1
    · by_cases e : (c.lats.getD i (0, 0)).2 = 2
      · exact .inl e
      · refine .inr ?_
        show ((zeroL t.init).getD i 0).toNat = _
        rw [zeroL_getD]
        unfold zeroU
        rw [if_neg (by omega)]
        exact h1
  · rw [readT_frame, zeroL_len]
    exact h.frames k (by simpa [readT] using hk)
  · obtain ⟨g, hg, rfl⟩ := List.mem_map.1 hf
    obtain ⟨x, hx, rfl⟩ := List.mem_map.1 hu
    have := zeroU_le x (h.values g hg x hx); omega

/-- What Fails answers. -/
def failsE (c : NormC) (t : TraceC) : Ending := if fitsS c t = true then .returned (.tuple #[.bool (decide ((k1.verdict c t.bad.toNat (readT t).init (readT t).frames).toNat = 1)), .int .i64 0]) else .returned (.tuple #[.bool false, .int .i64 2])

end Go.Proofs.Ytdheldhecimfnaa
/- Traces that are alike at what counts have the same verdicts (on lists). -/
namespace Go.Proofs.Ytdheldhecimfnaa
open Go Go.RowKit Go.Joins

/-- Same where M says. -/
structure AgV (M : List Bool) (a b : List UInt8) : Prop where
  len : a.length = b.length
  zero : a.getD 0 0 = b.getD 0 0
  at_ : ∀ v, M.getD v false = true → a.getD v 0 = b.getD v 0
/-- A literal of what counts, or of no variable. -/
def NeedOk (M : List Bool) (x : Nat) : Prop := 0 < x / 2 → M.getD (x / 2) false = true
theorem AgV.val {M : List Bool} {a b : List UInt8} (h : AgV M a b) {x : Nat} (hx : NeedOk M x) : k1.val a x = k1.val b x := by
  have e : a.getD (x / 2) k1.z = b.getD (x / 2) k1.z := by
    rcases Nat.eq_zero_or_pos (x / 2) with h0 | h0
    · rw [h0]; exact h.zero
    · exact h.at_ _ (hx h0)
  unfold Kd.val
  rw [e]
theorem getD_snoc {l : List UInt8} {a : UInt8} (v : Nat) : (l ++ [a]).getD v 0 = if v < l.length then l.getD v 0 else if v = l.length then a else 0 := by
  by_cases h : v < l.length
  · rw [if_pos h]; simp [List.getD, List.getElem?_append_left h]
  · rw [if_neg h]
    by_cases e : v = l.length
    · subst e; simp [List.getD]
    · rw [if_neg e]; simp [List.getD, List.getElem?_append_right (Nat.le_of_not_lt h), List.getElem?_eq_none (show [a].length ≤ v - l.length by simp; omega)]
theorem AgV.snoc {M : List Bool} {a b : List UInt8} {x y : UInt8} (h : AgV M a b) (hp : 0 < a.length) (hxy : M.getD a.length false = true → x = y) : AgV M (a ++ [x]) (b ++ [y]) := by
  refine ⟨by simp [h.len], ?_, fun v hv => ?_⟩
  · rw [getD_snoc, getD_snoc, if_pos hp, if_pos (by rw [← h.len]; exact hp)]; exact h.zero
  · rw [getD_snoc, getD_snoc, ← h.len]
    split
    · exact h.at_ v hv
    · split
      · rename_i e; rw [e] at hv; exact hxy hv
      · rfl
theorem AgV.gates {M : List Bool} : ∀ (gs : List (Nat × Nat)) (a b : List UInt8), AgV M a b → 0 < a.length → (∀ j, j < gs.length → M.getD (a.length + j) false = true → NeedOk M (gs.getD j (0, 0)).1 ∧ NeedOk M (gs.getD j (0, 0)).2) → AgV M (k1.gates gs a) (k1.gates gs b)
  | [], a, b, h, _, _ => h
  | g :: r, a, b, h, hp, hc => by
    rw [Kd.gates, Kd.gates]
    refine AgV.gates r _ _ (h.snoc hp fun hm => ?_) (by simp) fun j hj hm => ?_
    · have := hc 0 (by simp) (by simpa using hm)
      simp only [List.getD_cons_zero] at this
      rw [h.val this.1, h.val this.2]
    · have := hc (j + 1) (by simpa using hj) (by rw [List.length_append, List.length_singleton] at hm; rw [show a.length + (j + 1) = a.length + 1 + j by omega]; exact hm)
      simpa using this
/-- One frame. -/
theorem AgV.frame {c : NormC} {M : List Bool} {st st' ins ins' : List UInt8} (hs : st.length = st'.length) (hi : ins.length = ins'.length) (hF : 1 + (ins.length + st.length) = fstG c)
    (h1 : ∀ i, i < ins.length → M.getD (1 + i) false = true → ins.getD i 0 = ins'.getD i 0) (h2 : ∀ i, i < st.length → M.getD (1 + ins.length + i) false = true → st.getD i 0 = st'.getD i 0)
    (hg : ∀ j, j < c.gates.length → M.getD (fstG c + j) false = true → NeedOk M (c.gates.getD j (0, 0)).1 ∧ NeedOk M (c.gates.getD j (0, 0)).2) : AgV M (k1.vars c st ins) (k1.vars c st' ins') := by
  unfold Kd.vars
  have hl : (k1.z :: (ins ++ st)).length = fstG c := by simp; omega
  refine AgV.gates _ _ _ ⟨by simp; omega, rfl, fun v hv => ?_⟩ (by simp) (fun j hj hm => hg j hj (by rw [hl] at hm; exact hm))
  cases v with
  | zero => rfl
  | succ v =>
    rw [List.getD_cons_succ, List.getD_cons_succ]
    by_cases e : v < ins.length
    · have e1 : (ins ++ st).getD v 0 = ins.getD v 0 := by simp [List.getD, List.getElem?_append_left e]
      have e2 : (ins' ++ st').getD v 0 = ins'.getD v 0 := by simp [List.getD, List.getElem?_append_left (show v < ins'.length by omega)]
      rw [e1, e2]
      exact h1 v e (by rw [show 1 + v = v + 1 by omega]; exact hv)
    · have e1 : (ins ++ st).getD v 0 = st.getD (v - ins.length) 0 := by simp [List.getD, List.getElem?_append_right (Nat.le_of_not_lt e)]
      have e2 : (ins' ++ st').getD v 0 = st'.getD (v - ins.length) 0 := by rw [hi]; simp [List.getD, List.getElem?_append_right (show ins'.length ≤ v by omega)]
      rw [e1, e2]
      by_cases e3 : v - ins.length < st.length
      · exact h2 _ e3 (by rw [show 1 + ins.length + (v - ins.length) = v + 1 by omega]; exact hv)
      · simp [List.getD, List.getElem?_eq_none (Nat.le_of_not_lt e3), List.getElem?_eq_none (show st'.length ≤ v - ins.length by omega)]

/-- The values of frame f. -/
def vF (c : NormC) (t : TraceC) (f : Nat) : List UInt8 := k1.vars c (k1.after c t.init (t.frames.take f)) (t.frames.getD f [])
theorem vF_run (c : NormC) : ∀ (fs : List (List UInt8)) (st : List UInt8), k1.run c st fs = (List.range fs.length).map fun f => k1.vars c (k1.after c st (fs.take f)) (fs.getD f [])
  | [], st => rfl
  | f :: r, st => by
    rw [Kd.run, vF_run c r, List.length_cons, List.range_succ_eq_map, List.map_cons, List.map_map]
    rfl
/-- Two traces, alike at what counts. -/
structure Alike (c : NormC) (ms : List (List Bool)) (t u : TraceC) : Prop where
  bad : u.bad = t.bad
  init : u.init.length = t.init.length
  frames : u.frames.length = t.frames.length
  rows : ∀ f, f < t.frames.length → (u.frames.getD f []).length = (t.frames.getD f []).length
  inits : ∀ i, i < t.init.length → (ms.getD 0 []).getD (fstL c + i) false = true → u.init.getD i 0 = t.init.getD i 0
  inputs : ∀ f, f < t.frames.length → ∀ i, i < (t.frames.getD f []).length → (ms.getD f []).getD (1 + i) false = true → (u.frames.getD f []).getD i 0 = (t.frames.getD f []).getD i 0
section
variable {c : NormC} {ms : List (List Bool)} {t u : TraceC}
theorem cone_need {roots : List Nat} {M : List Bool} (hm : MayC c) (hM : IsCone (inW c) roots (1 + varsN c) M) : (∀ x ∈ roots, x / 2 ≤ varsN c → NeedOk M x) ∧ ∀ j, j < c.gates.length → M.getD (fstG c + j) false = true → NeedOk M (c.gates.getD j (0, 0)).1 ∧ NeedOk M (c.gates.getD j (0, 0)).2 := by
  refine ⟨fun x hx hl h0 => (hM.iff _ (by omega)).2 (Rch.root hx h0), fun j hj hm2 => ?_⟩
  have hv : fstG c + j < 1 + varsN c := by rw [← hM.len]; exact getD_true_lt hm2
  have h1 := (hM.iff _ hv).1 hm2
  have h2 := inW_lt hm (fstG c + j)
  have e : inW c (fstG c + j) = c.gates.getD j (0, 0) := by unfold inW; rw [if_pos (by omega), Nat.add_sub_cancel_left]
  rw [e] at h2
  refine ⟨fun h0 => (hM.iff _ (by omega)).2 ?_, fun h0 => (hM.iff _ (by omega)).2 ?_⟩
  · have := h1.fst (by rw [e]; exact h0)
    rw [e] at this; exact this
  · have := h1.snd (by rw [e]; exact h0)
    rw [e] at this; exact this
theorem after_at {l : List (List UInt8)} {st : List UInt8} {f : Nat} (h : f < l.length) : k1.after c st (l.take (f + 1)) = k1.next c (k1.vars c (k1.after c st (l.take f)) (l.getD f [])) := by
  rw [List.take_succ_eq_append_getElem h, Kd.after_snoc]
  simp [List.getD, List.getElem?_eq_getElem h]
theorem Alike.vF (h : Alike c ms t u) (ht : FitsC c t) {nb : Nat} (hF : IsFr c nb t.frames.length ms) : ∀ f, f < t.frames.length → AgV (ms.getD f []) (vF c t f) (vF c u f) := by
  obtain ⟨i, hii, hi2, hL, hG⟩ := insN ht.may
  have hins : ∀ f, f < t.frames.length → (t.frames.getD f []).length = i := fun f hf => by have := ht.frames f hf; omega
  intro f
  induction f with
  | zero =>
    intro hf
    unfold Go.Proofs.Ytdheldhecimfnaa.vF
    refine AgV.frame (by simp only [List.take_zero, Kd.after]; exact h.init.symm) (h.rows 0 hf).symm ?_ (fun j hj hm => (h.inputs 0 hf j hj hm).symm) (fun j hj hm => ?_) (cone_need ht.may (hF.cone 0 hf)).2
    · simp only [List.take_zero, Kd.after]; rw [hins 0 hf, ht.init]; omega
    · simp only [List.take_zero, Kd.after] at hj ⊢
      rw [hins 0 hf, ← hL] at hm
      exact (h.inits j hj hm).symm
  | succ f ih =>
    intro hf
    have ih := ih (by omega)
    have hl1 : (k1.after c t.init (t.frames.take (f + 1))).length = c.lats.length := k1.after_len c _ _ ht.init
    have hl2 : (k1.after c u.init (u.frames.take (f + 1))).length = c.lats.length := k1.after_len c _ _ (by rw [h.init]; exact ht.init)
    unfold Go.Proofs.Ytdheldhecimfnaa.vF
    refine AgV.frame (by rw [hl1, hl2]) (h.rows _ hf).symm (by rw [hl1, hins _ hf]; omega) (fun j hj hm => (h.inputs _ hf j hj hm).symm) (fun j hj hm => ?_) (cone_need ht.may (hF.cone _ hf)).2
    rw [hl1] at hj
    rw [hins _ hf, ← hL] at hm
    have hnx : (c.lats.getD j (0, 0)).1 ∈ rootsAt c nb t.frames.length ms f := by
      unfold rootsAt
      rw [if_neg (by omega)]
      exact List.mem_append.2 (.inl (mem_nxL.2 ⟨j, hj, hm, rfl⟩))
    have hlt := (ht.may.lats _ (getD_mem (d := (0, 0)) hj)).1
    have hv := ih.val ((cone_need ht.may (hF.cone f (by omega))).1 _ hnx (by omega))
    rw [after_at (show f < t.frames.length by omega), after_at (show f < u.frames.length by rw [h.frames]; omega)]
    have e : ∀ V : List UInt8, (k1.next c V).getD j 0 = k1.val V (c.lats.getD j (0, 0)).1 := fun V => by
      simp [Kd.next, List.getD, List.getElem?_eq_getElem hj]
    rw [e, e]
    exact hv
theorem cons_same {a b : List UInt8} : ∀ (l : List Nat) (p : UInt8), (∀ x ∈ l, k1.val a x = k1.val b x) → k1.cons a p l = k1.cons b p l
  | [], p, _ => rfl
  | x :: r, p, h => by
    have e : ∀ V : List UInt8, k1.cons V p (x :: r) = k1.cons V (k1.an p (k1.val V x)) r := fun V => rfl
    rw [e, e, h x List.mem_cons_self]
    exact cons_same r _ (fun y hy => h y (List.mem_cons_of_mem _ hy))
theorem Alike.verdict (h : Alike c ms t u) (ht : FitsC c t) {nb : Nat} (hb : nb < c.bads.length) (hF : IsFr c nb t.frames.length ms) : k1.verdict c nb u.init u.frames = k1.verdict c nb t.init t.frames := by
  have hv := h.vF ht hF
  have hcons : ∀ f, f < t.frames.length → ∀ x ∈ c.cons, k1.val (Go.Proofs.Ytdheldhecimfnaa.vF c u f) x = k1.val (Go.Proofs.Ytdheldhecimfnaa.vF c t f) x := fun f hf x hx => ((hv f hf).val ((cone_need ht.may (hF.cone f hf)).1 x (List.mem_append.2 (.inr hx)) (by have := ht.may.cons x hx; omega))).symm
  have hbad : k1.val (Go.Proofs.Ytdheldhecimfnaa.vF c u (t.frames.length - 1)) (c.bads.getD nb 0) = k1.val (Go.Proofs.Ytdheldhecimfnaa.vF c t (t.frames.length - 1)) (c.bads.getD nb 0) := by
    have h1 := ht.one
    refine ((hv _ (by omega)).val ((cone_need ht.may (hF.cone _ (by omega))).1 _ ?_ (by have := ht.may.bads _ (getD_mem (d := 0) hb); omega))).symm
    unfold rootsAt
    rw [if_pos (by omega)]
    exact List.mem_append.2 (.inl (List.mem_singleton.2 rfl))
  have key : ∀ m, m ≤ t.frames.length → (k1.sum c nb (k1.nt k1.z, k1.z) ((List.range m).map (Go.Proofs.Ytdheldhecimfnaa.vF c u))).1 = (k1.sum c nb (k1.nt k1.z, k1.z) ((List.range m).map (Go.Proofs.Ytdheldhecimfnaa.vF c t))).1 := by
    intro m
    induction m with
    | zero => intro _; rfl
    | succ m ih =>
      intro hm
      rw [List.range_succ, List.map_append, List.map_append, List.map_singleton, List.map_singleton, Kd.sum_snoc, Kd.sum_snoc]
      simp only
      rw [ih (by omega)]
      exact cons_same _ _ (hcons m (by omega))
  have hr : ∀ v : TraceC, k1.run c v.init v.frames = (List.range v.frames.length).map (Go.Proofs.Ytdheldhecimfnaa.vF c v) := fun v => vF_run c v.frames v.init
  unfold Kd.verdict
  rw [hr t, hr u, h.frames]
  have h1 := ht.one
  obtain ⟨m, hm⟩ : ∃ m, t.frames.length = m + 1 := ⟨t.frames.length - 1, by omega⟩
  have h2 := key _ (Nat.le_refl _)
  simp only
  rw [h2]
  congr 1
  rw [hm] at hbad ⊢
  rw [List.range_succ, List.map_append, List.map_append, List.map_singleton, List.map_singleton, Kd.sum_snoc, Kd.sum_snoc]
  exact hbad
theorem zeroL_at (l : List UInt8) (i : Nat) : (zeroL l).getD i 0 = zeroU (l.getD i 0) := by
  by_cases h : i < l.length
  · simp [zeroL, List.getD, List.getElem?_eq_getElem h]
  · simp [zeroL, List.getD, List.getElem?_eq_none (Nat.le_of_not_lt h), zeroU]
theorem Alike.read (h : Alike c ms t u) : Alike c ms (readT t) (readT u) := by
  refine ⟨h.bad, by simp [readT, zeroL, h.init], by simp [readT, h.frames], fun f hf => ?_, fun i hi hm => ?_, fun f hf i hi hm => ?_⟩
  · have hf : f < t.frames.length := by simpa [readT] using hf
    rw [readT_frame, readT_frame, zeroL_len, zeroL_len]; exact h.rows f hf
  · have hi : i < t.init.length := by simpa [readT, zeroL] using hi
    show (zeroL u.init).getD i 0 = (zeroL t.init).getD i 0
    rw [zeroL_at, zeroL_at, h.inits i hi hm]
  · have hf : f < t.frames.length := by simpa [readT] using hf
    rw [readT_frame, zeroL_len] at hi
    rw [readT_frame, readT_frame, zeroL_at, zeroL_at, h.inputs f hf i hi hm]
end
end Go.Proofs.Ytdheldhecimfnaa
namespace Go.Proofs.Ytdheldhecimfnaa
open Go Go.RowKit Go.Joins

theorem u8_01 {b : UInt8} (h : b.toNat ≤ 2) (h2 : b ≠ 2) : b = 0 ∨ b = 1 := by
  have h3 : b.toNat ≠ 2 := fun e => h2 (UInt8.toNat_inj.1 (by rw [e]; rfl))
  rcases (show b.toNat = 0 ∨ b.toNat = 1 by omega) with e | e
  · exact .inl (UInt8.toNat_inj.1 (by rw [e]; rfl))
  · exact .inr (UInt8.toNat_inj.1 (by rw [e]; rfl))
theorem u8_flip {b : UInt8} (h : b.toNat ≤ 2) (h2 : b ≠ 2) : (1 - b).toNat ≤ 1 ∧ ((1 - b).toNat : Int) = 1 - (b.toNat : Int) := by
  rcases u8_01 h h2 with rfl | rfl <;> decide
/-- The first m values, where p holds, are turned. -/
def flipP (p : Nat → Bool) (l : List UInt8) (m : Nat) : List UInt8 := (List.range l.length).map fun i => if i < m ∧ p i = true then 1 - l.getD i 0 else l.getD i 0
section
variable {p : Nat → Bool} {l : List UInt8} {m : Nat}
theorem flipP_len : (flipP p l m).length = l.length := by simp [flipP]
theorem flipP_at {i : Nat} (h : i < l.length) : (flipP p l m).getD i 0 = if i < m ∧ p i = true then 1 - l.getD i 0 else l.getD i 0 := by simp [flipP, List.getD, h]
theorem flipP_zero : flipP p l 0 = l := ext_u8 flipP_len fun i hi => by
  rw [flipP_at (by rw [flipP_len] at hi; exact hi), if_neg (by omega)]
theorem flipP_no (h : p m = false) : flipP p l (m + 1) = flipP p l m := ext_u8 (by rw [flipP_len, flipP_len]) fun i hi => by
  rw [flipP_len] at hi
  rw [flipP_at hi, flipP_at hi]
  by_cases e : i = m
  · subst e; simp [h]
  · exact if_iff ⟨fun h => ⟨by omega, h.2⟩, fun h => ⟨by omega, h.2⟩⟩
theorem flipP_yes (h : p m = true) (hm : m < l.length) : flipP p l (m + 1) = (flipP p l m).set m (1 - l.getD m 0) := ext_u8 (by rw [List.length_set, flipP_len, flipP_len]) fun i hi => by
  rw [flipP_len] at hi
  rw [flipP_at hi]
  by_cases e : i = m
  · subst e
    have : i < (flipP p l i).length := by rw [flipP_len]; exact hi
    simp [h, List.getD, this]
  · have e2 : ((flipP p l m).set m (1 - l.getD m 0)).getD i 0 = (flipP p l m).getD i 0 := by simp [List.getD, List.getElem?_set_ne (fun h => e h.symm)]
    rw [e2, flipP_at hi]
    exact if_iff ⟨fun h => ⟨by omega, h.2⟩, fun h => ⟨by omega, h.2⟩⟩
theorem flipP_here (h : m < l.length) : (flipP p l m).getD m 0 = l.getD m 0 := by rw [flipP_at h, if_neg (by omega)]
end
/-- The rows while Init is gone through, and while frames are. -/
def rowsI (Q : Nat → Nat → Bool) (t : TraceC) (m j : Nat) : List UInt8 := flipP (Q j) (rowG t j) (if j = 0 then m else 0)
def rowsF (Q : Nat → Nat → Bool) (t : TraceC) (k m j : Nat) : List UInt8 := flipP (Q j) (rowG t j) (if j ≤ k then (rowG t j).length else if j = k + 1 then m else 0)
section
variable {Q : Nat → Nat → Bool} {t : TraceC}
theorem rowsI_start (j : Nat) : rowsI Q t 0 j = rowG t j := by
  unfold rowsI
  have : (if j = 0 then 0 else 0) = 0 := by split <;> rfl
  rw [this, flipP_zero]
theorem rowsI_len (m j : Nat) : (rowsI Q t m j).length = (rowG t j).length := flipP_len
theorem rowsI_here (m : Nat) (h : m < t.init.length) : (rowsI Q t m 0).getD m 0 = t.init.getD m 0 := flipP_here (l := t.init) h
theorem rowsI_yes (m : Nat) (h : Q 0 m = true) (hm : m < t.init.length) : rowsI Q t (m + 1) 0 = (rowsI Q t m 0).set m (1 - t.init.getD m 0) := flipP_yes (l := t.init) h hm
theorem rowsI_else (m m' j : Nat) (h : j ≠ 0) : rowsI Q t m j = rowsI Q t m' j := by unfold rowsI; rw [if_neg h, if_neg h]
theorem rowsI_no (m j : Nat) (h : Q 0 m = false) : rowsI Q t (m + 1) j = rowsI Q t m j := by
  by_cases e : j = 0
  · subst e; exact flipP_no h
  · exact rowsI_else _ _ j e
theorem rowsF_start (j : Nat) : rowsF Q t 0 0 j = rowsI Q t t.init.length j := by
  unfold rowsF rowsI
  by_cases e : j = 0
  · subst e; rfl
  · rw [if_neg (by omega), if_neg e]
    split <;> rfl
theorem rowsF_len (k m j : Nat) : (rowsF Q t k m j).length = (rowG t j).length := flipP_len
theorem rowsF_this (k m : Nat) : rowsF Q t k m (k + 1) = flipP (Q (k + 1)) (rowG t (k + 1)) m := by unfold rowsF; rw [if_neg (by omega), if_pos rfl]
theorem rowsF_here (k m : Nat) (h : m < (rowG t (k + 1)).length) : (rowsF Q t k m (k + 1)).getD m 0 = (rowG t (k + 1)).getD m 0 := by rw [rowsF_this]; exact flipP_here h
theorem rowsF_yes (k m : Nat) (h : Q (k + 1) m = true) (hm : m < (rowG t (k + 1)).length) : rowsF Q t k (m + 1) (k + 1) = (rowsF Q t k m (k + 1)).set m (1 - (rowG t (k + 1)).getD m 0) := by
  rw [rowsF_this, rowsF_this]; exact flipP_yes h hm
theorem rowsF_else (k m m' j : Nat) (h : j ≠ k + 1) : rowsF Q t k m j = rowsF Q t k m' j := by unfold rowsF; rw [if_neg h, if_neg h]
theorem rowsF_no (k m j : Nat) (h : Q (k + 1) m = false) : rowsF Q t k (m + 1) j = rowsF Q t k m j := by
  by_cases e : j = k + 1
  · subst e; rw [rowsF_this, rowsF_this]; exact flipP_no h
  · exact rowsF_else k _ _ j e
theorem rowsF_full (k m j : Nat) (h : (rowG t (k + 1)).length = m) : rowsF Q t (k + 1) 0 j = rowsF Q t k m j := by
  unfold rowsF
  have : (if j ≤ k + 1 then (rowG t j).length else if j = k + 1 + 1 then 0 else 0) = (if j ≤ k then (rowG t j).length else if j = k + 1 then m else 0) := by
    by_cases h1 : j ≤ k
    · rw [if_pos (by omega), if_pos h1]
    · by_cases h2 : j = k + 1
      · subst h2; rw [if_pos (Nat.le_refl _), if_neg h1, if_pos rfl, h]
      · rw [if_neg (by omega), if_neg h1, if_neg h2]; split <;> rfl
  rw [this]
end
/-- The trace whose values are turned where Q says. -/
def flipT (Q : Nat → Nat → Bool) (t : TraceC) : TraceC := ⟨t.bad, flipP (Q 0) t.init t.init.length, (List.range t.frames.length).map fun f => flipP (Q (f + 1)) (t.frames.getD f []) (t.frames.getD f []).length⟩
section
variable {Q : Nat → Nat → Bool} {c : NormC} {ms : List (List Bool)} {t : TraceC}
theorem flipT_frames : (flipT Q t).frames.length = t.frames.length := by simp [flipT]
theorem flipT_frame {f : Nat} (h : f < t.frames.length) : (flipT Q t).frames.getD f [] = flipP (Q (f + 1)) (t.frames.getD f []) (t.frames.getD f []).length := by simp [flipT, List.getD, h]
theorem rowsF_init (n : Nat) : rowsF Q t n 0 0 = (flipT Q t).init := by unfold rowsF flipT; rw [if_pos (Nat.zero_le _)]; rfl
theorem rowsF_frame {n f : Nat} (hf : f < n) (hl : f < t.frames.length) : rowsF Q t n 0 (f + 1) = (flipT Q t).frames.getD f [] := by
  rw [flipT_frame hl]; unfold rowsF; rw [if_pos (by omega)]; rfl
theorem flip_at {p : Nat → Bool} {l : List UInt8} {i : Nat} (h : i < l.length) : (flipP p l l.length).getD i 0 = if p i = true then 1 - l.getD i 0 else l.getD i 0 := by
  rw [flipP_at h]; exact if_iff ⟨fun h => h.2, fun k => ⟨h, k⟩⟩
theorem fill_at {p : Nat → Bool} {l : List UInt8} {i : Nat} (h : i < l.length) : (fillP p l l.length).getD i 0 = if p i = true then 2 else l.getD i 0 := by
  rw [fillP_at h]; exact if_iff ⟨fun h => h.2, fun k => ⟨h, k⟩⟩
theorem all_getD {l : List UInt8} {P : UInt8 → Prop} : (∀ u ∈ l, P u) ↔ ∀ i, i < l.length → P (l.getD i 0) := by
  constructor
  · intro h i hi; exact h _ (getD_mem hi)
  · intro h u hu
    obtain ⟨i, hi, e⟩ := List.getElem_of_mem hu
    have := h i hi
    rwa [show l.getD i 0 = u by simp [List.getD, List.getElem?_eq_getElem hi, e]] at this
theorem FitsC.like (ht : FitsC c t) {u : TraceC} (hb : u.bad = t.bad) (h1 : u.init.length = t.init.length) (h2 : u.frames.length = t.frames.length) (h3 : ∀ f, f < t.frames.length → (u.frames.getD f []).length = (t.frames.getD f []).length)
    (h4 : ∀ i, i < t.init.length → (u.init.getD i 0).toNat ≤ 2 ∧ ((c.lats.getD i (0, 0)).2 = 2 ∨ u.init.getD i 0 = t.init.getD i 0))
    (h5 : ∀ f, f < t.frames.length → ∀ i, i < (t.frames.getD f []).length → ((u.frames.getD f []).getD i 0).toNat ≤ 2) : FitsC c u := by
  refine ⟨ht.may, by rw [hb]; exact ht.pos, by rw [hb]; exact ht.bad, by rw [h1]; exact ht.init, all_getD.2 fun i hi => (h4 i (by omega)).1, fun i hi => ?_, by rw [h2]; exact ht.one, by rw [h2]; exact ht.few, fun k hk => ?_, fun f hf => ?_⟩
  · rcases (h4 i (by rw [ht.init]; exact hi)).2 with h | h
    · exact .inl h
    · rw [h]; exact ht.resets i hi
  · rw [h2] at hk; rw [h3 k hk]; exact ht.frames k hk
  · obtain ⟨k, hk, e⟩ := List.getElem_of_mem hf
    have hk2 : k < t.frames.length := by rw [← h2]; exact hk
    have e2 : u.frames.getD k [] = f := by simp [List.getD, List.getElem?_eq_getElem hk, e]
    rw [← e2]
    exact all_getD.2 fun i hi => h5 k hk2 i (by rw [← h3 k hk2]; exact hi)
theorem FitsC.valI (ht : FitsC c t) {i : Nat} (hi : i < t.init.length) : (t.init.getD i 0).toNat ≤ 2 := ht.inits _ (getD_mem hi)
theorem FitsC.valF (ht : FitsC c t) {f i : Nat} (hf : f < t.frames.length) (hi : i < (t.frames.getD f []).length) : ((t.frames.getD f []).getD i 0).toNat ≤ 2 := ht.values _ (getD_mem hf) _ (getD_mem hi)
theorem free_init {i : Nat} (hi : i < t.init.length) : (freeT c t ms).init.getD i 0 = if rowP c ms 0 i = true then 2 else t.init.getD i 0 := by rw [freeT_init, fill_at hi]
theorem free_frame {f i : Nat} (hf : f < t.frames.length) (hi : i < (t.frames.getD f []).length) : ((freeT c t ms).frames.getD f []).getD i 0 = if rowP c ms (f + 1) i = true then 2 else (t.frames.getD f []).getD i 0 := by rw [freeT_frame c t ms hf, fill_at hi]
theorem rowP_2 {i : Nat} (h : rowP c ms 0 i = true) : (c.lats.getD i (0, 0)).2 = 2 ∧ (ms.getD 0 []).getD (fstL c + i) false = false := by
  rw [rowP_init, Bool.and_eq_true, decide_eq_true_eq, Bool.not_eq_true'] at h; exact h
theorem rowP_f {f i : Nat} (h : rowP c ms (f + 1) i = true) : (ms.getD f []).getD (1 + i) false = false := by
  rw [rowP_frame, Bool.not_eq_true'] at h; exact h
theorem free_fits (ht : FitsC c t) : FitsC c (freeT c t ms) := by
  refine ht.like rfl (by rw [freeT_init, fillP_len]) (freeT_frames c t ms) (fun f hf => by rw [freeT_frame c t ms hf, fillP_len]) (fun i hi => ?_) (fun f hf i hi => ?_)
  · rw [free_init hi]
    split
    · rename_i h; exact ⟨by decide, .inl (rowP_2 h).1⟩
    · exact ⟨ht.valI hi, .inr rfl⟩
  · rw [free_frame hf hi]
    split
    · decide
    · exact ht.valF hf hi
theorem free_alike : Alike c ms t (freeT c t ms) := by
  refine ⟨rfl, by rw [freeT_init, fillP_len], freeT_frames c t ms, fun f hf => by rw [freeT_frame c t ms hf, fillP_len], fun i hi hm => ?_, fun f hf i hi hm => ?_⟩
  · rw [free_init hi, if_neg (fun h => by rw [(rowP_2 h).2] at hm; cases hm)]
  · rw [free_frame hf hi, if_neg (fun h => by rw [rowP_f h] at hm; cases hm)]
/-- Where Q says, the value is freed and was none. -/
structure QOk (c : NormC) (ms : List (List Bool)) (Q : Nat → Nat → Bool) (t : TraceC) : Prop where
  init : ∀ i, i < t.init.length → Q 0 i = true → (freeT c t ms).init.getD i 0 = 2 ∧ t.init.getD i 0 ≠ 2
  frame : ∀ f i, f < t.frames.length → i < (t.frames.getD f []).length → Q (f + 1) i = true → ((freeT c t ms).frames.getD f []).getD i 0 = 2 ∧ (t.frames.getD f []).getD i 0 ≠ 2
theorem QOk.pI (h : QOk c ms Q t) {i : Nat} (hi : i < t.init.length) (hq : Q 0 i = true) : rowP c ms 0 i = true := by
  obtain ⟨h1, h2⟩ := h.init i hi hq
  rw [free_init hi] at h1
  by_cases e : rowP c ms 0 i = true
  · exact e
  · rw [if_neg e] at h1; exact absurd h1 h2
theorem QOk.pF (h : QOk c ms Q t) {f i : Nat} (hf : f < t.frames.length) (hi : i < (t.frames.getD f []).length) (hq : Q (f + 1) i = true) : rowP c ms (f + 1) i = true := by
  obtain ⟨h1, h2⟩ := h.frame f i hf hi hq
  rw [free_frame hf hi] at h1
  by_cases e : rowP c ms (f + 1) i = true
  · exact e
  · rw [if_neg e] at h1; exact absurd h1 h2
theorem flip_fits (ht : FitsC c t) (hq : QOk c ms Q t) : FitsC c (flipT Q t) := by
  refine ht.like rfl flipP_len flipT_frames (fun f hf => by rw [flipT_frame hf, flipP_len]) (fun i hi => ?_) (fun f hf i hi => ?_)
  · have e : (flipT Q t).init.getD i 0 = if Q 0 i = true then 1 - t.init.getD i 0 else t.init.getD i 0 := flip_at hi
    rw [e]
    split
    · rename_i h
      have := (u8_flip (ht.valI hi) (hq.init i hi h).2).1
      exact ⟨by omega, .inl (rowP_2 (hq.pI hi h)).1⟩
    · exact ⟨ht.valI hi, .inr rfl⟩
  · rw [flipT_frame hf, flip_at hi]
    split
    · rename_i h
      have := (u8_flip (ht.valF hf hi) (hq.frame f i hf hi h).2).1
      omega
    · exact ht.valF hf hi
theorem flip_alike (hq : QOk c ms Q t) : Alike c ms t (flipT Q t) := by
  refine ⟨rfl, flipP_len, flipT_frames, fun f hf => by rw [flipT_frame hf, flipP_len], fun i hi hm => ?_, fun f hf i hi hm => ?_⟩
  · have e : (flipT Q t).init.getD i 0 = if Q 0 i = true then 1 - t.init.getD i 0 else t.init.getD i 0 := flip_at hi
    rw [e, if_neg (fun h => by rw [(rowP_2 (hq.pI hi h)).2] at hm; cases hm)]
  · rw [flipT_frame hf, flip_at hi, if_neg (fun h => by rw [rowP_f (hq.pF hf hi h)] at hm; cases hm)]
/-- What Fails and Surely say of alike traces. -/
theorem counts_same (ht : FitsC c t) {u : TraceC} (hu : FitsC c u) (ha : Alike c ms t u) (hF : IsFr c t.bad.toNat t.frames.length ms) : failsE c u = failsE c t ∧ k1.verdict c u.bad.toNat u.init u.frames = k1.verdict c t.bad.toNat t.init t.frames := by
  have h1 : fitsS c t = true := fits_iff.2 ht
  have h2 : fitsS c u = true := fits_iff.2 hu
  have h3 := ha.verdict ht ht.bad hF
  have h4 := ha.read.verdict ht.read ht.bad (by rw [show (readT t).frames.length = t.frames.length by simp [readT]]; exact hF)
  refine ⟨?_, by rw [ha.bad]; exact h3⟩
  unfold failsE
  rw [if_pos h1, if_pos h2, ha.bad, h4]
end
end Go.Proofs.Ytdheldhecimfnaa
