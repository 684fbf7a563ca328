/- inquestref03.Fits, by its contract. -/
import Derived.Test.YtcoehbkjccfhlaaGEncT01
import Derived.Test.YtcoehbkjccfhlaaGEncT06
import Derived.Test.YtcoehbkjccfhlaaGEncT02
import Derived.Test.YtcoehbkjccfhlaaGEncT07
import Derived.Test.YtcoehbkjccfhlaaGEncT03
import Derived.Test.YtcoehbkjccfhlaaNRefMay3
import Derived.Test.YtcoehbkjccfhlaaGEncT14
import Derived.Test.YtcoehbkjccfhlaaNFits
import Derived.Test.YtcoehbkjccfhlaaRows
import Derived.Test.YtcoehbkjccfhlaaGEncT12
import Derived.BigQuiet
import Derived.Deep.AppendLies
import Derived.Deep.CutRange
import Derived.Deep.QuietTactic
import Derived.Deep.RegionHeld3
import Derived.Deep.RegionLaw
import Derived.Deep.RegionWith
import Derived.KernelRfl
import Derived.Laws.EntriesVeiled
import Derived.Laws.Tables
import Derived.Lib.AppendStr
import Derived.Lib.AppendZeros
import Derived.Lib.ConvBytes
import Derived.Lib.Hide
import Derived.Lib.SlBytesRow
import Derived.Lib.SmallJoins
import Derived.Maps.AppendAt
import Derived.OrdersHeld
import Derived.Shelf.Bytes.SlSmallAll
import Derived.WalkKit
import Derived.WalkLawsBesides
import Derived.WalkSpells
namespace Go.Proofs.Ytcoehbkjccfhlaa
open Go Go.RowKit Go.Joins

structure FitJ (c : NormC) (t : TraceC) (z bad : Int) (n1 n4 m1 m2 : Nat) (q qm qv : Bool) : Prop where
  no1 : qm = false → q = false
  no2 : bad < 0 → q = false
  no3 : (n4 : Int) ≤ bad → q = false
  nov : qv = false → q = false
  len : qv = true → m1 = n1
  no4 : ¬ 1 ≤ m2 → q = false
  no5 : ¬ m2 ≤ 256 → q = false
  nof : ∀ k, k < m2 → valsOk (t.frames.getD k []) z = false → q = false
  noi : ∀ k, k < n1 → (c.lats.getD k (0, 0)).2 ≠ 2 → (t.init.getD k 0).toNat ≠ (c.lats.getD k (0, 0)).2 → q = false
  yes : qm = true → ¬ bad < 0 → ¬ (n4 : Int) ≤ bad → qv = true → 1 ≤ m2 → m2 ≤ 256 → (∀ k, k < m2 → valsOk (t.frames.getD k []) z = true) → (∀ k, k < n1 → (c.lats.getD k (0, 0)).2 = 2 ∨ (t.init.getD k 0).toNat = (c.lats.getD k (0, 0)).2) → q = true
theorem fitJ_of (c : NormC) (t : TraceC) {n1 n4 m1 m2 : Nat} (l1 : c.lats.length = n1) (l4 : c.bads.length = n4) (lm : t.init.length = m1) (lf : t.frames.length = m2) : FitJ c t c.ins t.bad n1 n4 m1 m2 (fitsS c t) (mayC c) (valsOk t.init (n1 : Int)) := by
  have I := fitI_of c t l1 l4 lm lf
  refine ⟨I.no1, I.no2, I.no3, I.nov, I.len, fun h => ?_, fun h => ?_, fun k hk h => ?_, I.noi, fun h1 h2 h3 h4 h5 h6 h7 h8 => ?_⟩
  · unfold fitsS; rw [lf, decide_eq_false h]; simp
  · unfold fitsS; rw [lf, decide_eq_false h]; simp
  · have hf : t.frames.all (fun f => valsOk f c.ins) = false := by
      rw [List.all_eq_false]
      exact ⟨t.frames.getD k [], getD_mem (by rw [lf]; exact hk), by rw [h]; simp⟩
    unfold fitsS; rw [hf]; simp
  · rw [I.yes h1 h2 h3 h4 h8, decide_eq_true h5, decide_eq_true h6, any_noD (d := []) lf (fun k hk => by unfold wrongF; rw [h7 k hk]; rfl)]
    rfl

set_option maxRecDepth 100000 in
set_option maxHeartbeats 3200000 in
theorem reffits_any (c : NormC) (t : TraceC) (s : CSlots) (st : TSlots) (w : World) (h : SeesCir w s c) (ht : SeesTr w st t) (hs : s.small) (hst : st.small) (hlo : -9223372036854775808 ≤ c.ins) (hhi : c.ins < 9223372036854775808) (hb1 : -9223372036854775808 ≤ t.bad ∧ t.bad < 9223372036854775808) (hwd : Wide c) :
    Calls Try.prog 25 #[cirV c.ins s, traceV t.bad st] w fun e w' => e = .returned (.bool (fitsS c t)) ∧ Below w.heap.size w w' := by
  have HMAY := Lib.hid (fun W (hb : Below w.heap.size w W) => refmay3_any c s W (h.below hb) hs hlo hhi hwd)
  obtain ⟨a1, n1, c1, a2, n2, c2, a3, n3, c3, a4, n4, c4, a5, n5, c5⟩ := s
  obtain ⟨b1, m1, d1, b2, m2, d2, ss⟩ := st
  have FI := fitJ_of c t h.s1.1 h.s4.lenMap ht.s1.lenMap ht.s2.n_eq
  simp only at FI
  have hs1 : n1 ≤ 1048576 := hs.n1
  have hs4 : n4 ≤ 1048576 := hs.n4
  have hm1 : m1 ≤ 1048576 := hst.n1
  have hm2 : m2 ≤ 1048576 := hst.n2
  have HSS := Lib.hid hst.each
  have HLF := Lib.hid ht.s2.n_eq
  obtain ⟨z, hz⟩ : ∃ z, z = c.ins := ⟨_, rfl⟩
  obtain ⟨bad, hbad⟩ : ∃ z, z = t.bad := ⟨_, rfl⟩
  obtain ⟨q, hq⟩ : ∃ q, q = fitsS c t := ⟨_, rfl⟩
  obtain ⟨qm, hqm⟩ : ∃ q, q = mayC c := ⟨_, rfl⟩
  obtain ⟨qv, hqv⟩ : ∃ q, q = valsOk t.init (n1 : Int) := ⟨_, rfl⟩
  rw [← hz, ← hbad, ← hq, ← hqm, ← hqv] at FI
  rw [← hz, ← hqm] at HMAY
  have HVAL : Hid (∀ W, Below w.heap.size w W → Calls Try.prog 54 #[.slice b1 m1 d1, .int .i64 (n1 : Int)] W fun e w' => e = .returned (.bool qv) ∧ W = w') := fun W hb => by
    have h1 := refvalues_any (n1 : Int) t.init b1 m1 d1 hm1 W (ht.s1.below hb)
    rw [← hqv] at h1
    exact h1
  have HS := Lib.hid h
  have HT := Lib.hid ht
  have HFI := Lib.hid FI
  have hb2 := hb1.2
  have hb3 := hb1.1
  rw [← hbad] at hb2 hb3
  rw [← hz] at hlo hhi
  rw [← hz, ← hbad, ← hq]
  clear hz hbad hq hqm hqv FI h ht hs hst hb1
  unfold cirV traceV at *
  go_enter Try.func25, Try.ntmps25
  go_upto_region 1 with fail
  generalize hW : World.alloc (World.alloc w _) _ = W1
  have hb : Below w.heap.size w W1 := by subst hW; exact ext_trans (ext_alloc _ _) (ext_alloc _ _)
  have hx : W1.heap[w.heap.size]? = some (.cells #[.int .i64 z, .slice a1 n1 c1, .slice a2 n2 c2, .slice a3 n3 c3, .slice a4 n4 c4, .slice a5 n5 c5] 26 (0, 0)) := by subst hW; exact heap_below (heap_new _ _ _ rfl) (ext_alloc _ _)
  have hy : W1.heap[w.heap.size + 1]? = some (.cells #[.int .i64 bad, .slice b1 m1 d1, .slice b2 m2 d2] 30 (0, 0)) := by subst hW; exact heap_new _ _ _ (by simp)
  have HB := Lib.hid hb
  have HX := Lib.hid hx
  have HY := Lib.hid hy
  clear hW hb hx hy
  have p0 := cell_of_block HX.out 0
  have p1 := cell_of_block HX.out 1
  have p2 := cell_of_block HX.out 2
  have p3 := cell_of_block HX.out 3
  have p4 := cell_of_block HX.out 4
  have p5 := cell_of_block HX.out 5
  go_wp2_with fail
  refine (HMAY.out W1 HB.out).mono ?_
  rintro e W2 ⟨rfl, hb⟩
  have HX2 := Lib.hid (heap_below HX.out hb)
  have HY2 := Lib.hid (heap_below HY.out hb)
  have HB2 := Lib.hid (ext_trans HB.out hb)
  clear hb p0 p1 p2 p3 p4 p5 HMAY HX HY HB
  cases qm with
  | false =>
    have HF : Hid (q = false) := HFI.out.no1 rfl
    go_wp2
    go_ret
    exact ⟨by rw [HF.out]; rfl, HB2.out⟩
  | true =>
  have p4 := cell_of_block HX2.out 4
  have p1 := cell_of_block HX2.out 1
  have r0 := cell_of_block HY2.out 0
  have r1 := cell_of_block HY2.out 1
  have r2 := cell_of_block HY2.out 2
  by_cases t1 : bad < 0
  · have e1 : decide (bad < 0) = true := by simpa using t1
    have HF : Hid (q = false) := HFI.out.no2 t1
    go_wp2
    go_ret
    exact ⟨by rw [HF.out]; rfl, HB2.out⟩
  have e1 : decide (bad < 0) = false := by simpa using t1
  by_cases t2 : (n4 : Int) ≤ bad
  · have e2 : decide ((n4 : Int) ≤ bad) = true := by simpa using t2
    have HF : Hid (q = false) := HFI.out.no3 t2
    go_wp2
    go_ret
    exact ⟨by rw [HF.out]; rfl, HB2.out⟩
  have e2 : decide ((n4 : Int) ≤ bad) = false := by simpa using t2
  have T1 := Lib.hid t1
  have T2 := Lib.hid t2
  clear t1 t2
  go_wp2_with fail
  refine (HVAL.out W2 HB2.out).mono ?_
  rintro e W3 ⟨rfl, rfl⟩
  clear HVAL
  cases qv with
  | false =>
    have HF : Hid (q = false) := HFI.out.nov rfl
    go_wp2
    go_ret
    exact ⟨by rw [HF.out]; rfl, HB2.out⟩
  | true =>
  obtain rfl : m1 = n1 := HFI.out.len rfl
  by_cases t1 : 1 ≤ m2
  case neg =>
    have g1 : decide ((m2 : Int) < 1) = true := by simp; omega
    have HF : Hid (q = false) := HFI.out.no4 t1
    clear t1
    go_wp2
    go_ret
    exact ⟨by rw [HF.out]; rfl, HB2.out⟩
  have g1 : decide ((m2 : Int) < 1) = false := by simp; omega
  by_cases t2 : m2 ≤ 256
  case neg =>
    have g2 : decide ((256 : Int) < (m2 : Int)) = true := by simp; omega
    have HF : Hid (q = false) := HFI.out.no5 t2
    clear t1 t2
    go_wp2
    go_ret
    exact ⟨by rw [HF.out]; rfl, HB2.out⟩
  have g2 : decide ((256 : Int) < (m2 : Int)) = false := by simp; omega
  have T3 := Lib.hid t1
  have T4 := Lib.hid t2
  clear t1 t2
  go_upto_region 3 with fail
  clear e1 e2 g1 g2 p4 p1 r0 r1 r2
  go_wp2
  go_loopw [5] (fun i wr => ∃ k : Nat, k ≤ m2 ∧ i = .int .i64 k ∧ Hid (∀ j, j < k → valsOk (t.frames.getD j []) z = true) ∧ Hid (Below W2.heap.size W2 wr)) (fun i _ => m2 - (intOf i).toNat)
  case atStart => exact ⟨0, Nat.zero_le _, rfl, fun j hj => absurd hj (by omega), Below.refl _ _⟩
  case round =>
    obtain ⟨k, hk, rfl, hno, hB⟩ := hrel
    have r2 := cell_of_block (heap_below HY2.out hB.out) 2
    by_cases hlt : k < m2
    · have p0 := cell_of_block (heap_below HX2.out hB.out) 0
      obtain ⟨b, off, rfl, hbw⟩ := HT.out.s2.row.addr (show 0 < m2 by omega)
      have hcx := ((HT.out.below HB2.out).below hB.out).s2.cellAt k hlt
      have hsx := ((HT.out.below HB2.out).below hB.out).s2.each k (by rw [HLF.out]; exact hlt)
      have hsm := HSS.out (ss.getD k slc0) (getD_mem (by rw [HT.out.s2.len, HLF.out]; exact hlt))
      have hnof := HFI.out.nof k hlt
      obtain ⟨x, hx⟩ : ∃ x : Slc, x = ss.getD k slc0 := ⟨_, rfl⟩
      rw [← hx] at hcx hsx hsm
      clear hx
      obtain ⟨xa, xn, xc⟩ := x
      simp only at hcx hsx hsm
      have W1' : IntKind.i64.wrap ((k : Int) + 1) = (k : Int) + 1 := IntWalk.i64_in _ (by omega)
      obtain ⟨p, hp⟩ : ∃ q, q = valsOk (t.frames.getD k []) z := ⟨_, rfl⟩
      have HCALL : Hid (∀ n, Calls Try.prog 54 #[.slice xa xn xc, .int .i64 z] (wr.drewN n) fun e w' => e = .returned (.bool p) ∧ w' = wr.drewN n) := fun n => by
        have h1 := refvalues_any z (t.frames.getD k []) xa xn xc hsm (wr.drewN n) (hsx.below (ext_drewN wr n))
        rw [← hp] at h1
        exact h1.mono fun e w' ⟨h2, h3⟩ => ⟨h2, h3.symm⟩
      rw [← hp] at hnof
      have HNOF := Lib.hid hnof
      have STEP : Hid (p = true → ∀ j, j < k + 1 → valsOk (t.frames.getD j []) z = true) := fun hh j hj => by
        rcases Nat.lt_or_ge j k with h | h
        · exact hno.out j h
        · have : j = k := by omega
          subst this
          rw [← hp]; exact hh
      have HBB := Lib.hid hB.out
      clear hsx hnof hp hno hB
      cases p with
      | false =>
        have HF : Hid (q = false) := HNOF.out rfl
        go_wp2
        go_quiet ((go_at_call 54; exact Calls.quiet_of_same (HCALL.out _)))
        go_wp2
        go_ret
        exact ⟨by rw [HF.out]; rfl, ext_trans HB2.out (ext_trans HBB.out (ext_drewN _ _))⟩
      | true =>
        have HN := Lib.hid (STEP.out rfl)
        go_wp2
        go_quiet ((go_at_call 54; exact Calls.quiet_of_same (HCALL.out _)))
        go_wp2
        go_roundw
        case rel => exact ⟨k + 1, by omega, by go_num, HN.out, ext_trans HBB.out (ext_drewN _ _)⟩
        case measure => simp [intOf]; omega
    · obtain rfl : m2 = k := by omega
      obtain ⟨W4, hW4⟩ : ∃ W4 : World, W4 = wr := ⟨_, rfl⟩
      subst hW4
      have HNF := Lib.hid hno.out
      have HX4 := Lib.hid (heap_below HX2.out hB.out)
      have HY4 := Lib.hid (heap_below HY2.out hB.out)
      have HB4 := Lib.hid (ext_trans HB2.out hB.out)
      clear hno hB hlt hk
      go_wp2
      clear r2
      go_loopw [6] (fun i wr => ∃ k : Nat, k ≤ m1 ∧ i = .int .i64 k ∧ Hid (∀ j, j < k → (c.lats.getD j (0, 0)).2 = 2 ∨ (t.init.getD j 0).toNat = (c.lats.getD j (0, 0)).2) ∧ Hid (Below W4.heap.size W4 wr)) (fun i _ => m1 - (intOf i).toNat)
      case atStart => exact ⟨0, Nat.zero_le _, rfl, fun j hj => absurd hj (by omega), Below.refl _ _⟩
      case round =>
        obtain ⟨k, hk, rfl, hno, hB⟩ := hrel
        have r1 := cell_of_block (heap_below HY4.out hB.out) 1
        by_cases hlt : k < m1
        · have p1 := cell_of_block (heap_below HX4.out hB.out) 1
          obtain ⟨b, off, rfl, hbw⟩ := HS.out.s1.addr (show 0 < m1 by omega)
          obtain ⟨b', off', rfl, hbw'⟩ := HT.out.s1.addr (show 0 < m1 by omega)
          obtain ⟨qx, qy⟩ := ((HS.out.below HB4.out).s1.below hB.out).cells k hlt (0, 0)
          have hby := ((HT.out.below HB4.out).s1.below hB.out).byte k hlt
          have hnoi := HFI.out.noi k hlt
          obtain ⟨v, hv⟩ : ∃ v, v = (t.init.getD k 0).toNat := ⟨_, rfl⟩
          have hby2 : wr.cell? ⟨b', off' + k, none⟩ = some (.int .u8 (v : Int)) := by rw [hv]; exact hby
          obtain ⟨p, hp⟩ : ∃ t, t = c.lats.getD k (0, 0) := ⟨_, rfl⟩
          rw [← hp] at qx qy hnoi
          rw [← hv] at hnoi
          have STEP : Hid ((p.2 = 2 ∨ v = p.2) → ∀ j, j < k + 1 → (c.lats.getD j (0, 0)).2 = 2 ∨ (t.init.getD j 0).toNat = (c.lats.getD j (0, 0)).2) := fun hh j hj => by
            rcases Nat.lt_or_ge j k with h | h
            · exact hno.out j h
            · have : j = k := by omega
              subst this
              rw [← hp, ← hv]; exact hh
          clear hv hp hby hno
          obtain ⟨x, y⟩ := p
          simp only [nv32, nv8] at qx qy
          simp only at hnoi STEP
          have HNOI := Lib.hid hnoi
          have HBB := Lib.hid hB.out
          have W1' : IntKind.i64.wrap ((k : Int) + 1) = (k : Int) + 1 := IntWalk.i64_in _ (by omega)
          clear hnoi hB
          by_cases hy2 : y = 2
          · have f1 : ((y : Int) != 2) = false := by simp; omega
            have f2 : ((y : Int) == 2) = true := by simp; omega
            have HN := Lib.hid (STEP.out (Or.inl hy2))
            clear STEP hy2
            go_wp2
            go_quiet (fail)
            go_wp2
            go_roundw
            case rel =>
              rename_i nq
              exact ⟨k + 1, by omega, by go_num, HN.out, ext_trans HBB.out (ext_drewN _ nq)⟩
            case measure => simp [intOf]; omega
          · have f1 : ((y : Int) != 2) = true := by simp; omega
            have f2 : ((y : Int) == 2) = false := by simp; omega
            by_cases hvy : v = y
            · have f3 : ((y : Int) != (v : Int)) = false := by simp; omega
              have f4 : ((y : Int) == (v : Int)) = true := by simp; omega
              have HN := Lib.hid (STEP.out (Or.inr hvy))
              clear STEP hy2 hvy
              go_wp2
              go_quiet (fail)
              go_wp2
              go_roundw
              case rel =>
                rename_i nq
                exact ⟨k + 1, by omega, by go_num, HN.out, ext_trans HBB.out (ext_drewN _ nq)⟩
              case measure => simp [intOf]; omega
            · have f3 : ((y : Int) != (v : Int)) = true := by simp; omega
              have f4 : ((y : Int) == (v : Int)) = false := by simp; omega
              have HF : Hid (q = false) := HNOI.out hy2 hvy
              clear STEP hy2 hvy
              go_wp2
              go_quiet (fail)
              go_wp2
              go_ret
              rename_i nq
              exact ⟨by rw [HF.out]; rfl, ext_trans HB4.out (ext_trans HBB.out (ext_drewN _ nq))⟩
        · obtain rfl : m1 = k := by omega
          have HQ : Hid (q = true) := HFI.out.yes rfl (by have := T1.out; omega) (by have := T2.out; omega) rfl (by have := T3.out; omega) (by have := T4.out; omega) HNF.out hno.out
          have HBB := Lib.hid hB.out
          clear hno hB hlt hk
          go_wp2
          go_ret
          exact ⟨by rw [HQ.out]; rfl, ext_trans HB4.out HBB.out⟩
end Go.Proofs.Ytcoehbkjccfhlaa
