/- The reference's Surely, by its contract. -/
import Derived.Test.YtcoehbkjccfhlaaGEncM00
import Derived.Test.YtcoehbkjccfhlaaGEncM01
import Derived.Test.YtcoehbkjccfhlaaGEncM03
import Derived.Test.YtcoehbkjccfhlaaGEncM02
import Derived.Test.YtcoehbkjccfhlaaGEncM04
import Derived.Test.YtcoehbkjccfhlaaGEncM10
import Derived.Test.YtcoehbkjccfhlaaGEncM05
import Derived.Test.YtcoehbkjccfhlaaGEncM12
import Derived.Test.YtcoehbkjccfhlaaGEncM07
import Derived.Test.YtcoehbkjccfhlaaGEncM08
import Derived.Test.YtcoehbkjccfhlaaSRFrame
import Derived.Test.YtcoehbkjccfhlaaSRRun
import Derived.Test.YtcoehbkjccfhlaaGEncM13
import Derived.Test.YtcoehbkjccfhlaaRows
import Derived.BigQuiet
import Derived.BigRegion
import Derived.Deep.AppendLies
import Derived.Deep.CutRange
import Derived.Deep.QuietTactic
import Derived.Deep.RegionHeld3
import Derived.Deep.RegionLaw
import Derived.Deep.RegionWith
import Derived.KernelRfl
import Derived.Laws.Bits64b
import Derived.Laws.BitsAllLaws
import Derived.Laws.BitsLemmas
import Derived.Laws.EntriesVeiled
import Derived.Laws.Tables
import Derived.Lib.AppendStr
import Derived.Lib.AppendZeros
import Derived.Lib.ConvBytes
import Derived.Lib.Hide
import Derived.Lib.SlBytesRow
import Derived.Lib.SmallJoins
import Derived.LoopIn
import Derived.LoopNIn
import Derived.Maps.AppendAt
import Derived.OrdersHeld
import Derived.OrdersIn
import Derived.OwnWalkIn
import Derived.RangeFuncBox
import Derived.RangeFuncCalls
import Derived.RangeFuncLeaves
import Derived.RangeFuncNested
import Derived.RangeFuncWrites
import Derived.Shelf.Abstract
import Derived.Shelf.Bytes.SlSmallAll
import Derived.Shelf.RegionOpen
import Derived.Sort.CutIn
import Derived.Stop.RegionWithIn
import Derived.TacticsInMore
import Derived.WalkKit
import Derived.WalkLawsBesides
import Derived.WalkSpells
namespace Go.Proofs.Ytcoehbkjccfhlaa
open Go Go.RowKit Go.Joins

theorem and1_swap (a b d : Nat) : and1 (and1 a b) d = and1 (and1 a d) b := by
  unfold and1
  by_cases h1 : a = 0 <;> by_cases h2 : a = 1 <;> by_cases h3 : b = 0 <;> by_cases h4 : b = 1 <;> by_cases h5 : d = 0 <;> by_cases h6 : d = 1 <;> simp [*]
theorem an_toNat (a b : UInt8) : (k1.an a b).toNat = and1 a.toNat b.toNat := u8_ofNat_toNat _ (and1_le _ _)
theorem an_swap (a b d : UInt8) : k1.an (k1.an a b) d = k1.an (k1.an a d) b := by
  apply UInt8.toNat.inj
  rw [an_toNat, an_toNat, an_toNat, an_toNat, and1_swap]
theorem an_one (v : UInt8) (h : v.toNat ≤ 2) : k1.an 1 v = v := by
  apply UInt8.toNat.inj
  rw [an_toNat]
  show and1 1 v.toNat = v.toNat
  unfold and1
  by_cases h0 : v.toNat = 0 <;> by_cases h1 : v.toNat = 1 <;> simp [*] <;> omega
/-- A value, and all constraints behind it. -/
def rsum (c : NormC) (l : List (List UInt8)) (v : UInt8) : UInt8 := l.foldl (fun v vars => k1.cons vars v c.cons) v
theorem rsum_snoc (c : NormC) (l : List (List UInt8)) (vars : List UInt8) (v : UInt8) : rsum c (l ++ [vars]) v = k1.cons vars (rsum c l v) c.cons := by
  unfold rsum; rw [List.foldl_append]; rfl
theorem cons_swap (vars : List UInt8) : ∀ (l : List Nat) (a b : UInt8), k1.cons vars (k1.an a b) l = k1.an (k1.cons vars a l) b
  | [], a, b => rfl
  | x :: l, a, b => by
    show k1.cons vars (k1.an (k1.an a b) (k1.val vars x)) l = _
    rw [an_swap, cons_swap vars l]
    rfl
theorem rsum_swap (c : NormC) : ∀ (l : List (List UInt8)) (a b : UInt8), rsum c l (k1.an a b) = k1.an (rsum c l a) b
  | [], a, b => rfl
  | x :: l, a, b => by
    show rsum c l (k1.cons x (k1.an a b) c.cons) = _
    rw [cons_swap, rsum_swap c l]
    rfl
theorem sum_fst (c : NormC) (bad : Nat) : ∀ (l : List (List UInt8)) (p : UInt8 × UInt8), (k1.sum c bad p l).1 = rsum c l p.1
  | [], _ => rfl
  | _ :: l, _ => sum_fst c bad l _
/-- The verdict, the other way round. -/
theorem verdict_rsum (c : NormC) (t : TraceC) (bad : Nat) (h1 : 0 < t.frames.length) (h2 : (k1.val (varsAt c t (t.frames.length - 1)) (c.bads.getD bad 0)).toNat ≤ 2) :
    k1.verdict c bad t.init t.frames = rsum c (k1.run c t.init t.frames) (k1.val (varsAt c t (t.frames.length - 1)) (c.bads.getD bad 0)) := by
  have e : k1.run c t.init t.frames = k1.run c t.init (t.frames.take (t.frames.length - 1)) ++ [varsAt c t (t.frames.length - 1)] := by
    have h3 : t.frames = t.frames.take (t.frames.length - 1) ++ [t.frames.getD (t.frames.length - 1) []] := by
      have h4 := List.take_add_one (l := t.frames) (i := t.frames.length - 1)
      rw [show t.frames.length - 1 + 1 = t.frames.length by omega, List.take_of_length_le (Nat.le_refl _), List.getElem?_eq_getElem (by omega)] at h4
      simpa [List.getD, List.getElem?_eq_getElem (show t.frames.length - 1 < t.frames.length by omega)] using h4
    calc k1.run c t.init t.frames = k1.run c t.init (t.frames.take (t.frames.length - 1) ++ [t.frames.getD (t.frames.length - 1) []]) := congrArg _ h3
      _ = _ := k1.run_snoc c _ _ _
  show k1.an (k1.sum c bad (k1.nt k1.z, k1.z) (k1.run c t.init t.frames)).1 (k1.sum c bad (k1.nt k1.z, k1.z) (k1.run c t.init t.frames)).2 = _
  have e2 : (k1.sum c bad (k1.nt k1.z, k1.z) (k1.run c t.init t.frames)).2 = k1.val (varsAt c t (t.frames.length - 1)) (c.bads.getD bad 0) := by
    rw [e, k1.sum_snoc]
  rw [e2, sum_fst, ← rsum_swap]
  show rsum c _ (k1.an 1 _) = _
  rw [an_one _ h2]
theorem varsAt_le {c : NormC} {t : TraceC} (h : FitsC c t) (k : Nat) (hk : k < t.frames.length) : ∀ u ∈ varsAt c t k, u.toNat ≤ 2 := by
  unfold varsAt Kd.vars
  refine gates_le2 _ _ (fun v hv => ?_)
  rcases List.mem_cons.1 hv with rfl | hv
  · decide
  · rcases List.mem_append.1 hv with hv | hv
    · exact h.values _ (getD_mem hk) v hv
    · exact after_le _ _ h.inits (fun f hf => h.values f (List.mem_of_mem_take hf)) v hv

theorem Sees.slice_at' {w : World} {b off n c : Nat} {ss : List Slc} (h : Sees w (some ⟨b, off, .none⟩) n c (ss.map slV)) (j : Nat) (hj : j < n) :
    w.cell? ⟨b, off + j, .none⟩ = some (slV (ss.getD j slc0)) := by
  have hl : ss.length = n := h.lenMap
  rw [(h.cell j hj).2]
  simp [List.getD, List.getElem?_eq_getElem (show j < ss.length by omega)]

set_option maxRecDepth 100000 in
set_option maxHeartbeats 6400000 in
theorem rsurely_any (c : NormC) (t : TraceC) (s : CSlots) (st : TSlots) (w : World) (h : SeesCir w s c) (ht : SeesTr w st t) (hs : s.small) (hst : st.small) (hlo : -9223372036854775808 ≤ c.ins) (hhi : c.ins < 9223372036854775808) (hb1 : -9223372036854775808 ≤ t.bad ∧ t.bad < 9223372036854775808) (hw : Wide c) :
    Calls Try.prog 57 #[cirV c.ins s, traceV t.bad st] w fun e w' => e = surelyE c t ∧ Below w.heap.size w w' := by
  have HRUN := Lib.hid (fun W (hb : Below w.heap.size w W) => rrun_any c t s st W (h.below hb) (ht.below hb) hs hst hlo hhi hb1 hw)
  have HE : Hid (surelyE c t = if fitsS c t = true then .returned (.tuple #[bv (k1.verdict c t.bad.toNat t.init t.frames), .int .i64 0]) else .returned (.tuple #[.int .u8 0, .int .i64 2])) := rfl
  obtain ⟨E, hE⟩ : ∃ E, E = surelyE c t := ⟨_, rfl⟩
  rw [← hE] at HE ⊢
  have HC := Lib.hid h
  have HSM := Lib.hid hs
  clear hE h ht hlo hhi hb1 hw hst
  unfold cirV traceV at *
  go_enter Try.func57, Try.ntmps57
  go_upto_region 1 with fail
  generalize hW : World.alloc (World.alloc w _) _ = W1
  have hb : Below w.heap.size w W1 := by subst hW; exact ext_trans (ext_alloc _ _) (ext_alloc _ _)
  have hx : W1.heap[w.heap.size]? = some (.cells #[.int .i64 c.ins, .slice s.a1 s.n1 s.c1, .slice s.a2 s.n2 s.c2, .slice s.a3 s.n3 s.c3, .slice s.a4 s.n4 s.c4, .slice s.a5 s.n5 s.c5] 26 (0, 0)) := by subst hW; exact heap_below (heap_new _ _ _ rfl) (ext_alloc _ _)
  have hy : W1.heap[w.heap.size + 1]? = some (.cells #[.int .i64 t.bad, .slice st.a1 st.n1 st.c1, .slice st.a2 st.n2 st.c2] 30 (0, 0)) := by subst hW; exact heap_new _ _ _ (by simp)
  have HB := Lib.hid hb
  have HX := Lib.hid hx
  have HY := Lib.hid hy
  clear hW hb hx hy
  have p0 := cell_of_block HX.out 0
  have p1 := cell_of_block HX.out 1
  have p2 := cell_of_block HX.out 2
  have p3 := cell_of_block HX.out 3
  have p4 := cell_of_block HX.out 4
  have p5 := cell_of_block HX.out 5
  have r0 := cell_of_block HY.out 0
  have r1 := cell_of_block HY.out 1
  have r2 := cell_of_block HY.out 2
  go_wp2_with fail
  refine (HRUN.out W1 HB.out).mono ?_
  intro e W2 hp
  have HP := Lib.hid hp
  clear hp HRUN p0 p1 p2 p3 p4 p5 r0 r1 r2
  cases hq : fitsS c t with
  | false =>
    have HO : Hid (E = .returned (.tuple #[.int .u8 0, .int .i64 2])) := by show _ = _; rw [HE.out, hq]; rfl
    obtain ⟨_, hno, hb⟩ := HP.out
    obtain rfl := hno hq
    have HB2 := Lib.hid (ext_trans HB.out hb)
    clear hno hb HP hq
    go_wp2
    refine bodyPost_ret (v := .tuple #[.int .u8 0, .int .i64 2]) ?_ rfl ?_
    · simp [results, Try.results57, go_sem]
    · exact ⟨by rw [HO.out], HB2.out⟩
  | true =>
  have HF := Lib.hid (fits_iff.1 hq)
  obtain ⟨lb, lo, lc, ss, rfl, hrows, hb⟩ := runpost_yes HF.out HP.out
  have HVD := verdict_rsum c t t.bad.toNat HF.out.one
  obtain ⟨N, hN⟩ : ∃ N, N = t.frames.length := ⟨_, rfl⟩
  rw [← hN] at hrows
  rw [← hN] at HVD
  rw [← hN]
  obtain ⟨M, hM⟩ : ∃ M, M = N - 1 := ⟨_, rfl⟩
  rw [← hM] at HVD
  have hN1 : 0 < N := by rw [hN]; exact HF.out.one
  have hN2 : N ≤ 256 := by rw [hN]; exact HF.out.few
  have HMN : Hid (M < N ∧ N = M + 1) := ⟨by omega, by omega⟩
  obtain ⟨nb, hnb⟩ : ∃ nb : Nat, nb = t.bad.toNat := ⟨_, rfl⟩
  have hbad : t.bad = (nb : Int) := by have := HF.out.pos; omega
  have hbl : nb < c.bads.length := by rw [hnb]; exact HF.out.bad
  have hn4 : c.bads.length = s.n4 := HC.out.s4.lenMap
  have hn5 : c.cons.length = s.n5 := HC.out.s5.lenMap
  have hn5b : s.n5 ≤ 1048576 := HSM.out.n5
  rw [← hnb] at HVD HE
  have HO : Hid (E = .returned (.tuple #[bv (k1.verdict c nb t.init t.frames), .int .i64 0])) := by show _ = _; rw [HE.out, hq]; rfl
  have HX2 := Lib.hid (heap_below HX.out hb)
  have HY2 := Lib.hid (heap_below HY.out hb)
  have HB2 := Lib.hid (ext_trans HB.out hb)
  have HRW := Lib.hid hrows
  have HNL := Lib.hid hN
  rw [hbad] at HY2
  have hlit : ∀ x, x ≤ 2 * varsN c + 1 → x / 2 < 1 + varsN c ∧ x < 4294967296 := fun x hx => by have := HF.out.may.few; omega
  have HVL : Hid (∀ k, k < N → (varsAt c t k).length = 1 + varsN c) := fun k hk => varsAt_len c t HF.out.init HF.out.frames k (by rw [← hN]; exact hk)
  have HVA : Hid (∀ k, k < N → ∀ u ∈ varsAt c t k, u.toNat ≤ 2) := fun k hk => varsAt_le HF.out k (by rw [← hN]; exact hk)
  obtain ⟨D, hD⟩ : ∃ D, D = c.bads.getD nb 0 := ⟨_, rfl⟩
  rw [← hD] at HVD
  have hDL := hlit D (by rw [hD]; exact HF.out.may.bads _ (getD_mem hbl))
  have HCL : Hid (∀ j, j < s.n5 → c.cons.getD j 0 / 2 < 1 + varsN c ∧ c.cons.getD j 0 < 4294967296) := fun j hj => hlit _ (HF.out.may.cons _ (getD_mem (by rw [hn5]; exact hj)))
  obtain ⟨b4, o4, e4, _⟩ := HC.out.s4.addr (show 0 < s.n4 by omega)
  have hc4 := (HC.out.below HB2.out).s4
  rw [e4] at hc4
  have pd := hc4.num nb (by omega)
  rw [← hD] at pd
  obtain ⟨V0, hV0⟩ : ∃ v, v = k1.val (varsAt c t M) D := ⟨_, rfl⟩
  have hv0 : V0.toNat ≤ 2 := by rw [hV0]; exact k1_val_le (HVA.out M HMN.out.1) D
  rw [← hV0] at HVD
  have HVD2 := Lib.hid (HVD hv0)
  obtain ⟨rb', ro', rc', hsse, hrs⟩ := HRW.out.rows M HMN.out.1
  have hlc2 : W2.cell? ⟨lb, lo + M, none⟩ = some (.slice (some ⟨rb', ro', none⟩) (1 + varsN c) rc') := by
    have h1 := HRW.out.list.slice_at' M HMN.out.1
    rw [hsse] at h1
    exact h1
  obtain ⟨NV, hNV⟩ : ∃ n, n = 1 + varsN c := ⟨_, rfl⟩
  rw [← hNV] at hlc2 hrs hDL HVL HCL
  have HNV := Lib.hid hNV
  have HV0 : Hid (∀ j, Calls Try.prog 70 #[.slice (some ⟨rb', ro', none⟩) NV rc', .int .u32 D] (W2.drewN j) fun e w' => e = .returned (.int .u8 (V0.toNat : Int)) ∧ w' = W2.drewN j) := fun j => by
    have h1 := refvalue_any (varsAt c t M) (some ⟨rb', ro', none⟩) NV rc' D (W2.drewN j) (hrs.below (ext_drewN W2 j)) hDL.2
    rw [valueL_eq (by rw [HVL.out M HMN.out.1]; exact hDL.1) (HVA.out M HMN.out.1), ← hV0] at h1
    exact h1
  obtain ⟨x0, hx0⟩ : ∃ x : Nat, x = V0.toNat := ⟨_, rfl⟩
  rw [← hx0] at HV0
  have HX0 := Lib.hid hx0
  have hIb : (nb : Int) < (s.n4 : Int) := by omega
  have hIb0 : (0 : Int) ≤ (nb : Int) := by omega
  have hIM : (M : Int) < (N : Int) := by have := HMN.out; omega
  have hIM0 : (0 : Int) ≤ (M : Int) := by omega
  have WM : IntKind.i64.wrap ((N : Int) - 1) = (M : Int) := by have := HMN.out; rw [IntWalk.i64_in _ (by omega)]; omega
  have q4 := cell_of_block HX2.out 4
  have z0 := cell_of_block HY2.out 0
  rw [e4] at q4
  have HN5 := Lib.hid hn5
  clear hNV hn4 hn5 e4 hc4 HVD hN hM hnb hbad hbl hq hb hrows hD hDL hsse hrs hV0 hv0 hx0 hlit HX HY HB HP HE
  go_wp2
  go_quiet ((go_at_call 70; exact Calls.quiet_of_same (HV0.out _)))
  clear q4 z0 pd hlc2
  rename_i nq
  obtain ⟨W3, hW3⟩ : ∃ W3, W3 = W2.drewN nq := ⟨_, rfl⟩
  rw [← hW3]
  have hb3 : Below W2.heap.size W2 W3 := by rw [hW3]; exact ext_drewN _ _
  have HRW3 := Lib.hid (HRW.out.below hb3)
  have HX3 := Lib.hid (heap_below HX2.out hb3)
  have HB3 := Lib.hid (ext_trans HB2.out hb3)
  clear hW3 hb3 HX2 HB2 HV0 HRW HY2 WM hIb hIb0 hIM hIM0
  go_wp2
  go_loopw [9, 8, 10] (fun i v _ wr => ∃ (k x : Nat), k ≤ N ∧ i = .int .i64 k ∧ v = .int .u8 x ∧ Hid (x = (rsum c (k1.run c t.init (t.frames.take k)) V0).toNat) ∧ Hid (Below W3.heap.size W3 wr)) (fun i _ _ _ => N - (intOf i).toNat)
  case atStart => exact ⟨0, x0, Nat.zero_le _, rfl, rfl, HX0.out, Below.refl _ _⟩
  case round =>
    obtain ⟨k, x, hk, rfl, rfl, hx, hB⟩ := hrel
    by_cases hlt : k < N
    · have hI1 : (k : Int) < (N : Int) := by omega
      have hI0 : (0 : Int) ≤ (k : Int) := by omega
      have W1' : IntKind.i64.wrap ((k : Int) + 1) = (k : Int) + 1 := IntWalk.i64_in _ (by omega)
      obtain ⟨VK, hVK⟩ : ∃ v, v = varsAt c t k := ⟨_, rfl⟩
      obtain ⟨A, hA⟩ : ∃ v, v = rsum c (k1.run c t.init (t.frames.take k)) V0 := ⟨_, rfl⟩
      have HSNOC : Hid (rsum c (k1.run c t.init (t.frames.take (k + 1))) V0 = k1.cons VK A c.cons) := by
        show _ = _
        have hkl : k < t.frames.length := by rw [← HNL.out]; exact hlt
        rw [List.take_add_one, List.getElem?_eq_getElem hkl]
        simp only [Option.toList_some]
        rw [Kd.run_snoc, rsum_snoc, ← hA, hVK]
        unfold varsAt
        simp [List.getD, List.getElem?_eq_getElem hkl]
      obtain ⟨rb, ro, rc, hsse, hrs⟩ := (HRW3.out.below hB.out).rows k hlt
      have hlc : wr.cell? ⟨lb, lo + k, none⟩ = some (.slice (some ⟨rb, ro, none⟩) NV rc) := by
        have h1 := (HRW3.out.below hB.out).list.slice_at' k hlt
        rw [hsse, ← HNV.out] at h1
        exact h1
      rw [← HNV.out, ← hVK] at hrs
      have HLC := Lib.hid hlc
      have HRS := Lib.hid hrs
      have HA := Lib.hid hA
      have HXA : Hid (x = A.toNat) := by show _ = _; rw [hA]; exact hx.out
      have HVKL : Hid (VK.length = NV) := by show _ = _; rw [hVK]; exact HVL.out k hlt
      have HVKA : Hid (∀ u ∈ VK, u.toNat ≤ 2) := by rw [hVK]; exact HVA.out k hlt
      have HBW := Lib.hid hB.out
      have HXW := Lib.hid (heap_below HX3.out hB.out)
      clear hlc hrs hsse hVK hA hx hB
      go_wp2
      go_loopw [10, 8] (fun i v wr2 => ∃ (m y : Nat), m ≤ s.n5 ∧ i = .int .i64 m ∧ v = .int .u8 y ∧ Hid (y = (k1.cons VK A (c.cons.take m)).toNat) ∧ Hid (Below wr.heap.size wr wr2)) (fun i _ _ => s.n5 - (intOf i).toNat)
      case atStart => exact ⟨0, x, Nat.zero_le _, rfl, rfl, HXA.out, Below.refl _ _⟩
      case round =>
        obtain ⟨m, y, hm, rfl, rfl, hy, hB2⟩ := hrel
        have q5 := cell_of_block (heap_below HXW.out hB2.out) 5
        by_cases hlt2 : m < s.n5
        · obtain ⟨b5, o5, e5, _⟩ := HC.out.s5.addr (show 0 < s.n5 by omega)
          have hc5 := (HC.out.below (ext_trans HB3.out (ext_trans HBW.out hB2.out))).s5
          rw [e5] at hc5 q5
          clear e5
          have px := hc5.num m hlt2
          have hsn : c.cons.take (m + 1) = c.cons.take m ++ [c.cons.getD m 0] := by
            have hml : m < c.cons.length := by rw [HN5.out]; exact hlt2
            rw [List.take_add_one, List.getElem?_eq_getElem hml]
            simp [List.getD, List.getElem?_eq_getElem hml]
          have hLL := HCL.out m hlt2
          obtain ⟨L, hL⟩ : ∃ L, L = c.cons.getD m 0 := ⟨_, rfl⟩
          rw [← hL] at px hsn hLL
          have plc := (hB2.out.cell (World.block_lt_of_cell? _ _ HLC.out)).trans HLC.out
          obtain ⟨U, hU⟩ : ∃ u, u = k1.val VK L := ⟨_, rfl⟩
          have HV1 : Hid (∀ j, Calls Try.prog 70 #[.slice (some ⟨rb, ro, none⟩) NV rc, .int .u32 L] (wr.drewN j) fun e w' => e = .returned (.int .u8 (U.toNat : Int)) ∧ w' = wr.drewN j) := fun j => by
            have h1 := refvalue_any VK (some ⟨rb, ro, none⟩) NV rc L (wr.drewN j) ((HRS.out.below hB2.out).below (ext_drewN wr j)) hLL.2
            rw [valueL_eq (by rw [HVKL.out]; exact hLL.1) HVKA.out, ← hU] at h1
            exact h1
          have HNEW : Hid (and1 y U.toNat = (k1.cons VK A (c.cons.take (m + 1))).toNat) := by
            show _ = _
            rw [hsn, Kd.cons_snoc, an_toNat, ← hy.out, hU]
          obtain ⟨un, hun⟩ : ∃ n : Nat, n = U.toNat := ⟨_, rfl⟩
          rw [← hun] at HV1 HNEW
          obtain ⟨z, hz⟩ : ∃ z, z = and1 y un := ⟨_, rfl⟩
          have HAN := rand1_any y un
          rw [← hz] at HAN HNEW
          have HAN2 := Lib.hid HAN
          have hI3 : (m : Int) < (s.n5 : Int) := by omega
          have hI4 : (0 : Int) ≤ (m : Int) := by omega
          have W2' : IntKind.i64.wrap ((m : Int) + 1) = (m : Int) + 1 := IntWalk.i64_in _ (by omega)
          have HB2 := Lib.hid hB2.out
          clear hc5 hsn hLL hL hU hun hz HAN hy hB2
          go_wp2
          go_quiet ((first | (go_at_call 70; exact Calls.quiet_of_same (HV1.out _)) | (go_at_call 69; exact Calls.quiet_of_same (HAN2.out _))))
          clear q5 px plc
          rename_i nq2
          go_wp2
          go_roundw
          case rel => exact ⟨m + 1, z, by omega, by go_num, rfl, HNEW.out, ext_trans HB2.out (ext_drewN _ _)⟩
          case measure => simp [intOf]; omega
        · obtain rfl : m = s.n5 := by omega
          have hy2 : y = (k1.cons VK A c.cons).toNat := by
            have h1 := hy.out
            rw [List.take_of_length_le (by rw [HN5.out]; exact Nat.le_refl _)] at h1
            exact h1
          have HY2 : Hid (y = (rsum c (k1.run c t.init (t.frames.take (k + 1))) V0).toNat) := by show _ = _; rw [HSNOC.out]; exact hy2
          have HB2 := Lib.hid hB2.out
          clear hy2 hy hB2
          go_wp2
          go_roundw
          case rel => exact ⟨k + 1, y, by omega, by go_num, rfl, HY2.out, ext_trans HBW.out HB2.out⟩
          case measure => simp [intOf]; omega
    · obtain rfl : k = N := by omega
      have hx2 : x = (k1.verdict c nb t.init t.frames).toNat := by
        have h1 := hx.out
        rw [List.take_of_length_le (by rw [← HNL.out]; exact Nat.le_refl _)] at h1
        rw [HVD2.out]
        exact h1
      have HR : Hid (E = .returned (.tuple #[.int .u8 (x : Int), .int .i64 0])) := by show _ = _; rw [HO.out, hx2]; rfl
      have HBE := Lib.hid (ext_trans HB3.out hB.out)
      clear hx2 hx hB
      go_wp2
      refine bodyPost_ret (v := .tuple #[.int .u8 (x : Int), .int .i64 0]) ?_ rfl ?_
      · simp [results, Try.results57, go_sem]
      · exact ⟨by rw [HR.out], HBE.out⟩
end Go.Proofs.Ytcoehbkjccfhlaa
