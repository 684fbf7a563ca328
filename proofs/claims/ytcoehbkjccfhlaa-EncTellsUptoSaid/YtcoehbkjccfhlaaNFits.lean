/- norm.Fits, by its contract. -/
import Derived.Test.YtcoehbkjccfhlaaGEncT00
import Derived.Test.YtcoehbkjccfhlaaGEncT01
import Derived.Test.YtcoehbkjccfhlaaGEncT06
import Derived.Test.YtcoehbkjccfhlaaGEncT03
import Derived.Test.YtcoehbkjccfhlaaGEncT02
import Derived.Test.YtcoehbkjccfhlaaGEncT07
import Derived.Test.YtcoehbkjccfhlaaNMayC
import Derived.Test.YtcoehbkjccfhlaaNVals
import Derived.Test.YtcoehbkjccfhlaaRows
import Derived.Test.YtcoehbkjccfhlaaGEncT12
import Derived.BigQuiet
import Derived.Deep.AppendLies
import Derived.Deep.CutRange
import Derived.Deep.QuietTactic
import Derived.Deep.RegionHeld3
import Derived.Deep.RegionLaw
import Derived.Deep.RegionWith
import Derived.KernelRfl
import Derived.Laws.EntriesVeiled
import Derived.Laws.Tables
import Derived.Lib.AppendStr
import Derived.Lib.AppendZeros
import Derived.Lib.ConvBytes
import Derived.Lib.Hide
import Derived.Lib.SlBytesRow
import Derived.Lib.SmallJoins
import Derived.Maps.AppendAt
import Derived.OrdersHeld
import Derived.Shelf.Bytes.SlSmallAll
import Derived.WalkKit
import Derived.WalkLawsBesides
import Derived.WalkSpells
namespace Go.Proofs.Ytcoehbkjccfhlaa
open Go Go.RowKit Go.Joins

def wrongF (z : Int) (f : List UInt8) : Bool := !valsOk f z
set_option maxRecDepth 100000 in
theorem wrongf_any (z : Int) (C : Nat) (f : List UInt8) (a : Option Addr) (n c : Nat) (hn : n ≤ 1048576) (w : World) (h : Sees w a n c (f.map bv)) (hc : w.cell? ⟨C, 0, .none⟩ = some (.int .i64 z)) :
    Calls Try.prog 66 #[.slice a n c, .pointer (some ⟨C, 0, .none⟩)] w fun e w' => e = .returned (.bool (wrongF z f)) ∧ Below w.heap.size w w' := by
  obtain ⟨q, hq⟩ : ∃ q, q = valsOk f z := ⟨_, rfl⟩
  have H1 := arevals_any z f a n c hn w h
  unfold wrongF
  rw [← hq] at H1 ⊢
  have HA := Lib.hid H1
  clear H1 hq h
  go_enter Try.func66, Try.ntmps66
  go_wp2_with fail
  refine HA.out.mono ?_
  rintro e w' ⟨rfl, hb⟩
  have HB := Lib.hid hb
  clear hb
  go_wp2
  go_ret
  exact ⟨rfl, HB.out⟩

set_option maxRecDepth 100000 in
theorem idx_frames (z : Int) (C : Nat) (l : List (List UInt8)) (ss : List Slc) (a : Option Addr) (n c : Nat) (hn : n ≤ 1048576) (hss : ∀ x ∈ ss, x.2.1 ≤ 1048576) (w : World) (h : SeesF w a n c ss l) (hc : w.cell? ⟨C, 0, .none⟩ = some (.int .i64 z)) :
    Calls Try.prog 81 #[.slice a n c, .func (.func 66) #[] #[.pointer (some ⟨C, 0, .none⟩)]] w (IdxPost (wrongF z) l w) := by
  have hl := h.n_eq
  have HS := Lib.hid h
  have HL := Lib.hid hl
  have HSS := Lib.hid hss
  have HCC := Lib.hid hc
  clear h hl hss hc
  go_enter Try.func81, Try.ntmps81
  go_wp2
  go_loopw [5, 8] (fun v i wr => ∃ k : Nat, k ≤ n ∧ i = .int .i64 k ∧ Hid (∀ j, j < k → wrongF z (l.getD j []) = false) ∧ Hid (Below w.heap.size w wr)) (fun _ i _ => n - (intOf i).toNat)
  case atStart => exact ⟨0, Nat.zero_le _, rfl, fun j hj => absurd hj (by omega), Below.refl _ _⟩
  case round =>
    obtain ⟨k, hk, rfl, hno, hB⟩ := hrel
    by_cases hlt : k < n
    · obtain ⟨b, off, rfl, hbw⟩ := HS.out.row.addr (by omega)
      have hcx := (HS.out.below hB.out).cellAt k hlt
      have hsx := (HS.out.below hB.out).each k (by rw [HL.out]; exact hlt)
      have hsm := HSS.out (ss.getD k slc0) (getD_mem (by rw [HS.out.len, HL.out]; exact hlt))
      obtain ⟨x, hx⟩ : ∃ x : Slc, x = ss.getD k slc0 := ⟨_, rfl⟩
      rw [← hx] at hcx hsx hsm
      clear hx
      obtain ⟨xa, xn, xc⟩ := x
      simp only at hcx hsx hsm
      have W1 : IntKind.i64.wrap ((k : Int) + 1) = (k : Int) + 1 := IntWalk.i64_in _ (by omega)
      obtain ⟨q, hq⟩ : ∃ q, q = wrongF z (l.getD k []) := ⟨_, rfl⟩
      have HC1 := wrongf_any z C (l.getD k []) xa xn xc hsm wr hsx (cell_below HCC.out hB.out)
      rw [← hq] at HC1
      have HC2 := Lib.hid HC1
      have HQ := Lib.hid hq
      have HB := Lib.hid hB.out
      have HNO := Lib.hid hno.out
      clear hq hB hno HC1 hsx
      go_wp2_with fail
      refine HC2.out.mono ?_
      rintro e w' ⟨rfl, hb⟩
      have HB2 := Lib.hid (ext_trans HB.out hb)
      clear hb hbw HC2 hcx
      cases q with
      | true =>
        go_wp2
        go_ret
        refine ⟨k, rfl, by omega, ⟨fun _ => ?_, fun _ => by omega⟩, HB2.out⟩
        exact List.any_eq_true.2 ⟨l.getD k [], getD_mem (by rw [HL.out]; exact hlt), HQ.out.symm⟩
      | false =>
        have HN : Hid (∀ j, j < k + 1 → wrongF z (l.getD j []) = false) := fun j hj => by
          rcases Nat.lt_or_ge j k with h | h
          · exact HNO.out j h
          · have : j = k := by omega
            subst this
            exact HQ.out.symm
        go_wp2
        go_roundw
        case rel => exact ⟨k + 1, by omega, by go_num, HN.out, HB2.out⟩
        case measure => simp [intOf]; omega
    · have hkn : k = n := by omega
      subst hkn
      have HB := Lib.hid hB.out
      have HNO := Lib.hid hno.out
      clear hB hno
      go_wp2
      go_ret
      refine ⟨-1, rfl, by omega, ⟨fun h => absurd h (by decide), fun h => ?_⟩, HB.out⟩
      rw [any_none (all_of_getD (d := []) (fun j hj => HNO.out j (by rw [← HL.out]; exact hj)))] at h
      cases h

theorem has_frames (z : Int) (C : Nat) (l : List (List UInt8)) (ss : List Slc) (a : Option Addr) (n c : Nat) (hn : n ≤ 1048576) (hss : ∀ x ∈ ss, x.2.1 ≤ 1048576) (w : World) (h : SeesF w a n c ss l) (hc : w.cell? ⟨C, 0, .none⟩ = some (.int .i64 z)) :
    Calls Try.prog 67 #[.slice a n c, .func (.func 66) #[] #[.pointer (some ⟨C, 0, .none⟩)]] w (fun e w' => e = .returned (.bool (l.any (wrongF z))) ∧ Below w.heap.size w w') := by
  have HI := Lib.hid (idx_frames z C l ss a n c hn hss w h hc)
  clear h hc hss
  obtain ⟨f, hf⟩ : ∃ f, f = (.func (.func 66) #[] #[.pointer (some ⟨C, 0, .none⟩)] : Value) := ⟨_, rfl⟩
  rw [← hf] at HI ⊢
  have HF := Lib.hid hf
  clear hf
  go_enter Try.func67, Try.ntmps67
  go_wp2_with fail
  refine HI.out.mono ?_
  rintro e w' ⟨z1, rfl, hz, hiff, hb⟩
  have e : decide (0 ≤ z1) = l.any (wrongF z) := by
    cases hq : l.any (wrongF z) with
    | true => simpa using hiff.2 hq
    | false => simp; have := fun h => hiff.1 h; rw [hq] at this; exact Int.not_le.1 (fun h => by cases this h)
  have E := Lib.hid e
  clear e hiff
  go_wp2
  go_ret
  exact ⟨congrArg (fun b => Ending.returned (.bool b)) E.out, hb⟩

/-- What is known ahead of Fits's walk. -/
structure FitI (c : NormC) (t : TraceC) (z bad : Int) (n1 n4 m1 m2 : Nat) (q qm qv : Bool) : Prop where
  no1 : qm = false → q = false
  no2 : bad < 0 → q = false
  no3 : (n4 : Int) ≤ bad → q = false
  nov : qv = false → q = false
  len : qv = true → m1 = n1
  noi : ∀ k, k < n1 → (c.lats.getD k (0, 0)).2 ≠ 2 → (t.init.getD k 0).toNat ≠ (c.lats.getD k (0, 0)).2 → q = false
  yes : qm = true → ¬ bad < 0 → ¬ (n4 : Int) ≤ bad → qv = true → (∀ k, k < n1 → (c.lats.getD k (0, 0)).2 = 2 ∨ (t.init.getD k 0).toNat = (c.lats.getD k (0, 0)).2) → q = (decide (1 ≤ m2) && (decide (m2 ≤ 256) && !t.frames.any (wrongF z)))
theorem fitI_of (c : NormC) (t : TraceC) {n1 n4 m1 m2 : Nat} (l1 : c.lats.length = n1) (l4 : c.bads.length = n4) (lm : t.init.length = m1) (lf : t.frames.length = m2) : FitI c t c.ins t.bad n1 n4 m1 m2 (fitsS c t) (mayC c) (valsOk t.init (n1 : Int)) := by
  refine ⟨fun h => ?_, fun h => ?_, fun h => ?_, fun h => ?_, fun h => ?_, fun k hk h1 h2 => ?_, fun h1 h2 h3 h4 h5 => ?_⟩
  · unfold fitsS; rw [h]; rfl
  · unfold fitsS; rw [decide_eq_true h]; simp
  · unfold fitsS; rw [l4, decide_eq_true h]; simp
  · unfold fitsS; rw [l1, h]; simp
  · unfold valsOk at h
    rw [Bool.and_eq_true, decide_eq_true_eq] at h
    omega
  · have : initOk c t = false := by
      unfold initOk
      rw [List.all_eq_false]
      exact ⟨k, List.mem_range.2 (by rw [l1]; exact hk), by simp only [h1, h2, decide_false, Bool.or_self]; simp⟩
    unfold fitsS; rw [this]; simp
  · have hi : initOk c t = true := by
      unfold initOk
      rw [List.all_eq_true]
      intro k hk
      have := h5 k (by rw [← l1]; exact List.mem_range.1 hk)
      rcases this with h | h <;> simp only [h, decide_true, Bool.true_or, Bool.or_true]
    have hf : t.frames.all (fun f => valsOk f c.ins) = !t.frames.any (wrongF c.ins) := by
      unfold wrongF
      rw [List.all_eq_not_any_not]
    unfold fitsS
    rw [h1, decide_eq_false h2, l4, decide_eq_false h3, l1, h4, hi, lf, hf]
    simp
set_option maxRecDepth 100000 in
set_option maxHeartbeats 3200000 in
theorem fits_any (c : NormC) (t : TraceC) (s : CSlots) (st : TSlots) (w : World) (h : SeesCir w s c) (ht : SeesTr w st t) (hs : s.small) (hst : st.small) (hlo : -9223372036854775808 ≤ c.ins) (hhi : c.ins < 9223372036854775808) (hb1 : -9223372036854775808 ≤ t.bad ∧ t.bad < 9223372036854775808) :
    Calls Try.prog 45 #[cirV c.ins s, traceV t.bad st] w fun e w' => e = .returned (.bool (fitsS c t)) ∧ Below w.heap.size w w' := by
  have HMAY := Lib.hid (fun W (hb : Below w.heap.size w W) => may3_any c s W (h.below hb) hs hlo hhi)
  obtain ⟨a1, n1, c1, a2, n2, c2, a3, n3, c3, a4, n4, c4, a5, n5, c5⟩ := s
  obtain ⟨b1, m1, d1, b2, m2, d2, ss⟩ := st
  have FI := fitI_of c t h.s1.1 h.s4.lenMap ht.s1.lenMap ht.s2.n_eq
  simp only at FI
  have hs1 : n1 ≤ 1048576 := hs.n1
  have hs4 : n4 ≤ 1048576 := hs.n4
  have hm1 : m1 ≤ 1048576 := hst.n1
  have hm2 : m2 ≤ 1048576 := hst.n2
  obtain ⟨z, hz⟩ : ∃ z, z = c.ins := ⟨_, rfl⟩
  obtain ⟨bad, hbad⟩ : ∃ z, z = t.bad := ⟨_, rfl⟩
  obtain ⟨q, hq⟩ : ∃ q, q = fitsS c t := ⟨_, rfl⟩
  obtain ⟨qm, hqm⟩ : ∃ q, q = mayC c := ⟨_, rfl⟩
  obtain ⟨qv, hqv⟩ : ∃ q, q = valsOk t.init (n1 : Int) := ⟨_, rfl⟩
  rw [← hz, ← hbad, ← hq, ← hqm, ← hqv] at FI
  rw [← hz, ← hqm] at HMAY
  have HVAL : Hid (∀ W, Below w.heap.size w W → Calls Try.prog 65 #[.slice b1 m1 d1, .int .i64 (n1 : Int)] W fun e w' => e = .returned (.bool qv) ∧ Below W.heap.size W w') := fun W hb => by
    have h1 := arevals_any (n1 : Int) t.init b1 m1 d1 hm1 W (ht.s1.below hb)
    rw [← hqv] at h1
    exact h1
  have HFR : Hid (∀ (C : Nat) W, Below w.heap.size w W → W.cell? ⟨C, 0, .none⟩ = some (.int .i64 z) → Calls Try.prog 67 #[.slice b2 m2 d2, .func (.func 66) #[] #[.pointer (some ⟨C, 0, .none⟩)]] W (fun e w' => e = .returned (.bool (t.frames.any (wrongF z))) ∧ Below W.heap.size W w')) := fun C W hb hc => has_frames z C t.frames ss b2 m2 d2 hm2 hst.each W (ht.s2.below hb) hc
  have HS := Lib.hid h
  have HT := Lib.hid ht
  have HFI := Lib.hid FI
  have hb2 := hb1.2
  have hb3 := hb1.1
  rw [← hbad] at hb2 hb3
  rw [← hz, ← hbad, ← hq]
  clear hz hbad hq hqm hqv FI h ht hs hst hlo hhi hb1
  unfold cirV traceV at *
  go_enter Try.func45, Try.ntmps45
  go_upto_region 1 with fail
  generalize hW : World.alloc (World.alloc w _) _ = W1
  have hb : Below w.heap.size w W1 := by subst hW; exact ext_trans (ext_alloc _ _) (ext_alloc _ _)
  have hx : W1.heap[w.heap.size]? = some (.cells #[.int .i64 z, .slice a1 n1 c1, .slice a2 n2 c2, .slice a3 n3 c3, .slice a4 n4 c4, .slice a5 n5 c5] 26 (0, 0)) := by subst hW; exact heap_below (heap_new _ _ _ rfl) (ext_alloc _ _)
  have hy : W1.heap[w.heap.size + 1]? = some (.cells #[.int .i64 bad, .slice b1 m1 d1, .slice b2 m2 d2] 30 (0, 0)) := by subst hW; exact heap_new _ _ _ (by simp)
  have HB := Lib.hid hb
  have HX := Lib.hid hx
  have HY := Lib.hid hy
  clear hW hb hx hy
  have p0 := cell_of_block HX.out 0
  have p1 := cell_of_block HX.out 1
  have p2 := cell_of_block HX.out 2
  have p3 := cell_of_block HX.out 3
  have p4 := cell_of_block HX.out 4
  have p5 := cell_of_block HX.out 5
  go_wp2_with fail
  refine (HMAY.out W1 HB.out).mono ?_
  rintro e W2 ⟨rfl, hb⟩
  have HX2 := Lib.hid (heap_below HX.out hb)
  have HY2 := Lib.hid (heap_below HY.out hb)
  have HB2 := Lib.hid (ext_trans HB.out hb)
  clear hb p0 p1 p2 p3 p4 p5 HMAY HX HY HB
  cases qm with
  | false =>
    have HF : Hid (q = false) := HFI.out.no1 rfl
    go_wp2
    go_ret
    exact ⟨by rw [HF.out]; rfl, HB2.out⟩
  | true =>
  have p4 := cell_of_block HX2.out 4
  have p1 := cell_of_block HX2.out 1
  have r0 := cell_of_block HY2.out 0
  have r1 := cell_of_block HY2.out 1
  by_cases t1 : bad < 0
  · have e1 : decide (bad < 0) = true := by simpa using t1
    have HF : Hid (q = false) := HFI.out.no2 t1
    go_wp2
    go_ret
    exact ⟨by rw [HF.out]; rfl, HB2.out⟩
  have e1 : decide (bad < 0) = false := by simpa using t1
  by_cases t2 : (n4 : Int) ≤ bad
  · have e2 : decide ((n4 : Int) ≤ bad) = true := by simpa using t2
    have HF : Hid (q = false) := HFI.out.no3 t2
    go_wp2
    go_ret
    exact ⟨by rw [HF.out]; rfl, HB2.out⟩
  have e2 : decide ((n4 : Int) ≤ bad) = false := by simpa using t2
  have T1 := Lib.hid t1
  have T2 := Lib.hid t2
  clear t1 t2
  go_wp2_with fail
  refine (HVAL.out W2 HB2.out).mono ?_
  rintro e W3 ⟨rfl, hb⟩
  have HX3 := Lib.hid (heap_below HX2.out hb)
  have HY3 := Lib.hid (heap_below HY2.out hb)
  have HB3 := Lib.hid (ext_trans HB2.out hb)
  clear hb p1 p4 r0 r1 HVAL HX2 HY2 HB2 e1 e2
  cases qv with
  | false =>
    have HF : Hid (q = false) := HFI.out.nov rfl
    go_wp2
    go_ret
    exact ⟨by rw [HF.out]; rfl, HB3.out⟩
  | true =>
  obtain rfl : m1 = n1 := HFI.out.len rfl
  have p1 := cell_of_block HX3.out 1
  go_wp2
  clear p1
  go_loopw [36, 5, 6] (fun i v5 v6 wr => ∃ k : Nat, k ≤ m1 ∧ i = .int .i64 k ∧ Hid (∀ j, j < k → (c.lats.getD j (0, 0)).2 = 2 ∨ (t.init.getD j 0).toNat = (c.lats.getD j (0, 0)).2) ∧ Hid (Below W3.heap.size W3 wr)) (fun i _ _ _ => m1 - (intOf i).toNat)
  case atStart => exact ⟨0, Nat.zero_le _, rfl, fun j hj => absurd hj (by omega), Below.refl _ _⟩
  case round =>
    obtain ⟨k, hk, rfl, hno, hB⟩ := hrel
    by_cases hlt : k < m1
    · obtain ⟨b, off, rfl, hbw⟩ := HS.out.s1.addr (show 0 < m1 by omega)
      obtain ⟨b', off', rfl, hbw'⟩ := HT.out.s1.addr (show 0 < m1 by omega)
      obtain ⟨qx, qy⟩ := ((HS.out.below HB3.out).s1.below hB.out).cells k hlt (0, 0)
      have hby := ((HT.out.below HB3.out).s1.below hB.out).byte k hlt
      have hnoi := HFI.out.noi k hlt
      obtain ⟨v, hv⟩ : ∃ v, v = (t.init.getD k 0).toNat := ⟨_, rfl⟩
      have hby2 : wr.cell? ⟨b', off' + k, none⟩ = some (.int .u8 (v : Int)) := by rw [hv]; exact hby
      obtain ⟨p, hp⟩ : ∃ t, t = c.lats.getD k (0, 0) := ⟨_, rfl⟩
      rw [← hp] at qx qy hnoi
      rw [← hv] at hnoi
      have STEP : Hid ((p.2 = 2 ∨ v = p.2) → ∀ j, j < k + 1 → (c.lats.getD j (0, 0)).2 = 2 ∨ (t.init.getD j 0).toNat = (c.lats.getD j (0, 0)).2) := fun hh j hj => by
        rcases Nat.lt_or_ge j k with h | h
        · exact hno.out j h
        · have : j = k := by omega
          subst this
          rw [← hp, ← hv]; exact hh
      clear hv hp hby hno
      obtain ⟨x, y⟩ := p
      simp only [nv32, nv8] at qx qy
      simp only at hnoi STEP
      have HNOI := Lib.hid hnoi
      have W1' : IntKind.i64.wrap ((k : Int) + 1) = (k : Int) + 1 := IntWalk.i64_in _ (by omega)
      clear hnoi
      go_upto_region 6 with fail
      generalize hW : World.alloc wr _ = Wg
      have Bg : Below wr.heap.size wr Wg := by subst hW; exact ext_alloc _ _
      have hG : Wg.heap[wr.heap.size]? = some (.cells #[.int .u32 x, .int .u8 y] 63 (0, 0)) := by subst hW; exact heap_new _ _ _ rfl
      have HBB := Lib.hid (ext_trans hB.out Bg)
      have hby3 := cell_below hby2 Bg
      have g1 : Wg.cell? ⟨wr.heap.size, 1, none⟩ = some (.int .u8 y) := cell_of_block hG 1
      have r1 := cell_of_block (heap_below HY3.out HBB.out) 1
      clear hW hG Bg qx qy hby2 hB hbw hbw'
      by_cases hy2 : y = 2
      · have f1 : ((y : Int) != 2) = false := by simp; omega
        have f2 : ((y : Int) == 2) = true := by simp; omega
        have HN := Lib.hid (STEP.out (Or.inl hy2))
        clear STEP hy2
        go_quiet (fail)
        go_wp2
        go_roundw
        case rel =>
          rename_i nq
          exact ⟨k + 1, by omega, by go_num, HN.out, ext_trans HBB.out (ext_drewN _ nq)⟩
        case measure => simp [intOf]; omega
      · have f1 : ((y : Int) != 2) = true := by simp; omega
        have f2 : ((y : Int) == 2) = false := by simp; omega
        by_cases hvy : v = y
        · have f3 : ((v : Int) != (y : Int)) = false := by simp; omega
          have f4 : ((v : Int) == (y : Int)) = true := by simp; omega
          have HN := Lib.hid (STEP.out (Or.inr hvy))
          clear STEP hy2 hvy
          go_quiet (fail)
          go_wp2
          go_roundw
          case rel =>
            rename_i nq
            exact ⟨k + 1, by omega, by go_num, HN.out, ext_trans HBB.out (ext_drewN _ nq)⟩
          case measure => simp [intOf]; omega
        · have f3 : ((v : Int) != (y : Int)) = true := by simp; omega
          have f4 : ((v : Int) == (y : Int)) = false := by simp; omega
          have HF : Hid (q = false) := HNOI.out hy2 hvy
          clear STEP hy2 hvy
          go_quiet (fail)
          go_wp2
          go_ret
          rename_i nq
          exact ⟨by rw [HF.out]; rfl, ext_trans HB3.out (ext_trans HBB.out (ext_drewN _ nq))⟩
    · obtain rfl : m1 = k := by omega
      have hQ := HFI.out.yes rfl (by have := T1.out; omega) (by have := T2.out; omega) rfl hno.out
      have HXR := Lib.hid (heap_below HX3.out hB.out)
      have HYR := Lib.hid (heap_below HY3.out hB.out)
      have HBR := Lib.hid (ext_trans HB3.out hB.out)
      obtain ⟨qf, hqf⟩ : ∃ q, q = t.frames.any (wrongF z) := ⟨_, rfl⟩
      have HF1 := HFR.out w.heap.size wr HBR.out (cell_of_block HXR.out 0)
      rw [← hqf] at hQ HF1
      have HQ := Lib.hid hQ
      have HF2 := Lib.hid HF1
      clear hQ hqf HF1 hno hB hlt hk
      have r2 := cell_of_block HYR.out 2
      by_cases t1 : 1 ≤ m2
      case neg =>
        have e1 : decide ((1 : Int) ≤ (m2 : Int)) = false := by simp; omega
        have HF : Hid (q = false) := by show _ = _; rw [HQ.out, decide_eq_false t1]; rfl
        clear t1
        go_wp2
        go_ret
        exact ⟨by rw [HF.out]; rfl, HBR.out⟩
      have e1 : decide ((1 : Int) ≤ (m2 : Int)) = true := by simp; omega
      by_cases t2 : m2 ≤ 256
      case neg =>
        have e2 : decide ((m2 : Int) ≤ 256) = false := by simp; omega
        have HF : Hid (q = false) := by show _ = _; rw [HQ.out, decide_eq_false t2]; simp
        clear t1 t2
        go_wp2
        go_ret
        exact ⟨by rw [HF.out]; rfl, HBR.out⟩
      have e2 : decide ((m2 : Int) ≤ 256) = true := by simp; omega
      have HF : Hid (q = !qf) := by show _ = _; rw [HQ.out, decide_eq_true t1, decide_eq_true t2]; rfl
      clear t1 t2
      go_wp2_with fail
      refine HF2.out.mono ?_
      rintro e W4 ⟨rfl, hb⟩
      have HB4 := Lib.hid (ext_trans HBR.out hb)
      clear hb
      go_wp2
      go_ret
      exact ⟨by rw [HF.out]; rfl, HB4.out⟩
end Go.Proofs.Ytcoehbkjccfhlaa
