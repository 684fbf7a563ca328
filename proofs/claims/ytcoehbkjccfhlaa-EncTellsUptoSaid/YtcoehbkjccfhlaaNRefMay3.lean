/- inquestref03.May, by its contract. -/
import Derived.Test.YtcoehbkjccfhlaaGEncT01
import Derived.Test.YtcoehbkjccfhlaaGEncT06
import Derived.Test.YtcoehbkjccfhlaaGEncT02
import Derived.Test.YtcoehbkjccfhlaaGEncT07
import Derived.Test.YtcoehbkjccfhlaaGEncT03
import Derived.Test.YtcoehbkjccfhlaaGEncT09
import Derived.Test.YtcoehbkjccfhlaaRows
import Derived.BigQuiet
import Derived.Deep.AppendLies
import Derived.Deep.CutRange
import Derived.Deep.QuietTactic
import Derived.Deep.RegionLaw
import Derived.Deep.RegionWith
import Derived.KernelRfl
import Derived.Laws.EntriesVeiled
import Derived.Lib.ConvBytes
import Derived.Lib.Hide
import Derived.Lib.SlBytesRow
import Derived.Lib.SmallJoins
import Derived.Shelf.Bytes.SlSmallAll
import Derived.WalkKit
import Derived.WalkLawsBesides
import Derived.WalkSpells
namespace Go.Proofs.Ytcoehbkjccfhlaa
open Go Go.RowKit Go.Joins

theorem any_getD {α : Type} {l : List α} {p : α → Bool} {d : α} {k : Nat} (hk : k < l.length) (h : p (l.getD k d) = true) : l.any p = true := List.any_eq_true.2 ⟨l.getD k d, getD_mem hk, h⟩
theorem any_noD {α : Type} {l : List α} {p : α → Bool} {d : α} {n : Nat} (hn : l.length = n) (h : ∀ k, k < n → p (l.getD k d) = false) : l.any p = false := any_none (all_of_getD (d := d) (fun j hj => h j (by rw [← hn]; exact hj)))

set_option maxRecDepth 100000 in
set_option maxHeartbeats 3200000 in
theorem refmay3_any (c : NormC) (s : CSlots) (w : World) (h : SeesCir w s c) (hs : s.small) (hlo : -9223372036854775808 ≤ c.ins) (hhi : c.ins < 9223372036854775808) (hw : Wide c) :
    Calls Try.prog 35 #[cirV c.ins s] w fun e w' => e = .returned (.bool (mayC c)) ∧ Below w.heap.size w w' := by
  obtain ⟨a1, n1, c1, a2, n2, c2, a3, n3, c3, a4, n4, c4, a5, n5, c5⟩ := s
  obtain ⟨hs1, hs2, hs3, hs4, hs5⟩ := hs
  simp only at hs1 hs2 hs3 hs4 hs5
  have L1 : Hid (c.lats.length = n1) := h.s1.1
  have L2 : Hid (c.gates.length = n2) := h.s2.1
  obtain ⟨z, hz⟩ : ∃ z, z = c.ins := ⟨_, rfl⟩
  obtain ⟨q, hq⟩ : ∃ q, q = mayC c := ⟨_, rfl⟩
  rw [← hz] at hlo hhi
  have HW := Lib.hid hw
  have HS := Lib.hid h
  rw [← hz, ← hq]
  have N0 : Hid (z < 0 → q = false) := fun t => by rw [hq]; unfold mayC tooMany; rw [← hz, decide_eq_true t]; rfl
  have N1 : Hid (16384 - z < ((n1 + n2 : Nat) : Int) → q = false) := fun t => by rw [hq]; unfold mayC tooMany; rw [← hz, L1.out, L2.out, decide_eq_true t]; simp
  unfold cirV
  by_cases t : z < 0
  · have e : decide (z < 0) = true := by simpa using t
    have HF : Hid (q = false) := N0.out t
    clear hz hq
    go_enter Try.func35, Try.ntmps35
    go_wp2
    go_ret
    exact ⟨by rw [HF.out]; rfl, ext_alloc _ _⟩
  obtain ⟨i, rfl⟩ := Int.eq_ofNat_of_zero_le (show 0 ≤ z by omega)
  have e0 : decide ((i : Int) < 0) = false := by simp
  clear t
  by_cases t : 16384 < i
  · have e : decide ((16384 : Int) < (i : Int)) = true := by simp; omega
    have HF : Hid (q = false) := N1.out (by omega)
    clear hz hq
    go_enter Try.func35, Try.ntmps35
    go_wp2
    go_ret
    exact ⟨by rw [HF.out]; rfl, ext_alloc _ _⟩
  have e1 : decide ((16384 : Int) < (i : Int)) = false := by simp; omega
  have t1 := t
  clear t
  by_cases t : 16384 < n1
  · have e : decide ((16384 : Int) < (n1 : Int)) = true := by simp; omega
    have HF : Hid (q = false) := N1.out (by omega)
    clear hz hq
    go_enter Try.func35, Try.ntmps35
    go_wp2
    go_ret
    exact ⟨by rw [HF.out]; rfl, ext_alloc _ _⟩
  have e2 : decide ((16384 : Int) < (n1 : Int)) = false := by simp; omega
  have t2 := t
  clear t
  by_cases t : 16384 < n2
  · have e : decide ((16384 : Int) < (n2 : Int)) = true := by simp; omega
    have HF : Hid (q = false) := N1.out (by omega)
    clear hz hq
    go_enter Try.func35, Try.ntmps35
    go_wp2
    go_ret
    exact ⟨by rw [HF.out]; rfl, ext_alloc _ _⟩
  have e3 : decide ((16384 : Int) < (n2 : Int)) = false := by simp; omega
  have t3 := t
  clear t
  have U1 : IntKind.i64.wrap ((i : Int) + (n1 : Int)) = (i : Int) + (n1 : Int) := IntWalk.i64_in _ (by omega)
  have U2 : IntKind.i64.wrap ((i : Int) + (n1 : Int) + (n2 : Int)) = (i : Int) + (n1 : Int) + (n2 : Int) := IntWalk.i64_in _ (by omega)
  by_cases t : 16384 < i + n1 + n2
  · have e : decide ((16384 : Int) < (i : Int) + (n1 : Int) + (n2 : Int)) = true := by simp; omega
    have HF : Hid (q = false) := N1.out (by omega)
    clear hz hq
    go_enter Try.func35, Try.ntmps35
    go_wp2
    go_ret
    exact ⟨by rw [HF.out]; rfl, ext_alloc _ _⟩
  have e4 : decide ((16384 : Int) < (i : Int) + (n1 : Int) + (n2 : Int)) = false := by simp; omega
  obtain ⟨m, hm⟩ : ∃ m, m = i + n1 + n2 := ⟨_, rfl⟩
  have hv : mayC c = (!badList m c.outs && (!badList m c.bads && (!badList m c.cons && (!c.lats.any (badLat2 m) && !badGates (1 + i + c.lats.length) c.gates)))) := by
    have e3 : varsN c = m := by unfold varsN; rw [← hz, L1.out, L2.out, hm]; simp
    unfold mayC tooMany
    rw [e3, ← hz, L1.out, L2.out, show decide ((i : Int) < 0) = false by simp, show decide (16384 - (i : Int) < ((n1 + n2 : Nat) : Int)) = false from decide_eq_false (by omega)]
    simp
  rw [← hq] at hv
  have NL : Hid (∀ k, k < n1 → badLat2 m (c.lats.getD k (0, 0)) = true → q = false) := fun k hk hb => by
    rw [hv, any_getD (by rw [L1.out]; exact hk) hb]; simp
  have NG : Hid (∀ k, k < n2 → badGate2 (1 + i + n1 + k) (c.gates.getD k (0, 0)) = true → q = false) := fun k hk hb => by
    rw [hv, (badGates_at c.gates (1 + i + c.lats.length)).2 ⟨k, by rw [L2.out]; exact hk, by rw [L1.out]; exact hb⟩]; simp
  have YES : Hid ((∀ k, k < n1 → badLat2 m (c.lats.getD k (0, 0)) = false) → (∀ k, k < n2 → badGate2 (1 + i + n1 + k) (c.gates.getD k (0, 0)) = false) → q = (!badList m c.outs && (!badList m c.bads && !badList m c.cons))) := fun h1 h2 => by
    rw [hv, any_noD L1.out h1, badGates_no.2 (fun k hk => by rw [L1.out]; exact h2 k (by rw [← L2.out]; exact hk))]; simp
  have hm16 : m ≤ 16384 := by omega
  have HM := Lib.hid hm
  clear hv hz hq hm t N0 N1
  go_enter Try.func35, Try.ntmps35
  go_upto_region 6 with fail
  clear e0 e1 e2 e3 e4 t1 t2 t3
  generalize hW : World.alloc _ _ = W1
  rw [show (i : Int) + (n1 : Int) + (n2 : Int) = (m : Int) by have := HM.out; omega]
  have B1 : Below w.heap.size w W1 := by subst hW; exact ext_alloc _ _
  have hX : W1.heap[w.heap.size]? = some (.cells #[.int .i64 i, .slice a1 n1 c1, .slice a2 n2 c2, .slice a3 n3 c3, .slice a4 n4 c4, .slice a5 n5 c5] 26 (0, 0)) := by subst hW; exact heap_new _ _ _ rfl
  clear hW U1 U2
  have HB1 := Lib.hid B1
  have HX := Lib.hid hX
  have HS := Lib.hid (HS.out.below B1)
  clear B1 hX
  go_wp2
  go_loopw [4] (fun ii wr => ∃ k : Nat, k ≤ n1 ∧ ii = .int .i64 k ∧ Hid (∀ j, j < k → badLat2 m (c.lats.getD j (0, 0)) = false) ∧ Hid (Below W1.heap.size W1 wr)) (fun ii _ => n1 - (intOf ii).toNat)
  case atStart => exact ⟨0, Nat.zero_le _, rfl, fun j hj => absurd hj (by omega), Below.refl _ _⟩
  case round =>
    obtain ⟨k, hk, rfl, hno, hB⟩ := hrel
    have p := cell_of_block (heap_below HX.out hB.out) 1
    by_cases hlt : k < n1
    · obtain ⟨b, off, rfl, hbw⟩ := HS.out.s1.addr (show 0 < n1 by omega)
      obtain ⟨qx, qy⟩ := (HS.out.s1.below hB.out).cells k hlt (0, 0)
      have hbad := NL.out k hlt
      have hwd := HW.out.lats (c.lats.getD k (0, 0)) (getD_mem (by rw [L1.out]; exact hlt))
      obtain ⟨t, ht⟩ : ∃ t, t = c.lats.getD k (0, 0) := ⟨_, rfl⟩
      rw [← ht] at qx qy hbad hwd
      have STEP : Hid (badLat2 m t = false → ∀ j, j < k + 1 → badLat2 m (c.lats.getD j (0, 0)) = false) := fun hq j hj => by
        rcases Nat.lt_or_ge j k with h | h
        · exact hno.out j h
        · have : j = k := by omega
          subst this
          rw [← ht]; exact hq
      clear ht
      obtain ⟨x, y⟩ := t
      simp only [nv32, nv8] at qx qy
      simp only at hwd
      obtain ⟨hw1, hw2⟩ := hwd
      have W1' : IntKind.i64.wrap ((k : Int) + 1) = (k : Int) + 1 := IntWalk.i64_in _ (by omega)
      have D1 : Int.tdiv (x : Int) 2 = ((x / 2 : Nat) : Int) := by rw [Int.tdiv_eq_ediv_of_nonneg (by omega)]; omega
      obtain ⟨u, hu⟩ : ∃ u, u = x / 2 := ⟨_, rfl⟩
      have hu3 : u < 4294967296 := by omega
      rw [← hu] at D1
      have U1 : IntKind.u32.wrap ((u : Nat) : Int) = (u : Int) := IntWalk.u32_in _ (by omega)
      have U2 : IntKind.i64.wrap ((u : Nat) : Int) = (u : Int) := IntWalk.i64_in _ (by omega)
      have HU : Hid (above m x = decide (m < u)) := by show _ = _; unfold above; exact decide_eq_decide.2 (by omega)
      have HBAD := Lib.hid hbad
      have HBB := Lib.hid hB.out
      clear hbad hB hno hu
      by_cases b1 : m < u
      · have hb : Hid (q = false) := HBAD.out (by unfold badLat2; rw [HU.out, decide_eq_true b1]; rfl)
        have g1 : decide ((m : Int) < (u : Int)) = true := by simp; omega
        go_wp2
        go_ret
        exact ⟨by rw [hb.out]; rfl, ext_trans HB1.out HBB.out⟩
      have g1 : decide ((m : Int) < (u : Int)) = false := by simp; omega
      by_cases b2 : 2 < y
      · have hb : Hid (q = false) := HBAD.out (by unfold badLat2; simp only; rw [decide_eq_true b2]; simp)
        have g2 : decide ((2 : Int) < (y : Int)) = true := by simp; omega
        go_wp2
        go_ret
        exact ⟨by rw [hb.out]; rfl, ext_trans HB1.out HBB.out⟩
      have g2 : decide ((2 : Int) < (y : Int)) = false := by simp; omega
      have HN := Lib.hid (STEP.out (by unfold badLat2; rw [HU.out]; simp only; rw [decide_eq_false b1, decide_eq_false b2]; rfl))
      clear STEP HBAD
      go_wp2
      go_roundw
      case rel => exact ⟨k + 1, by omega, by go_num, HN.out, HBB.out⟩
      case measure => simp [intOf]; omega
    · obtain rfl : n1 = k := by omega
      have YES := Lib.hid (YES.out hno.out)
      have HBL := Lib.hid hB.out
      clear hno hB hlt hk NL
      go_wp2
      clear p
      go_loopw [5] (fun ii wr => ∃ k : Nat, k ≤ n2 ∧ ii = .int .i64 k ∧ Hid (∀ j, j < k → badGate2 (1 + i + n1 + j) (c.gates.getD j (0, 0)) = false) ∧ Hid (Below W1.heap.size W1 wr)) (fun ii _ => n2 - (intOf ii).toNat)
      case atStart => exact ⟨0, Nat.zero_le _, rfl, fun j hj => absurd hj (by omega), HBL.out⟩
      case round =>
        clear HBL
        obtain ⟨k, hk, rfl, hno, hB⟩ := hrel
        have p2 := cell_of_block (heap_below HX.out hB.out) 2
        by_cases hlt : k < n2
        · obtain ⟨b, off, rfl, hbw⟩ := HS.out.s2.addr (show 0 < n2 by omega)
          obtain ⟨qx, qy⟩ := (HS.out.s2.below hB.out).cells k hlt (0, 0)
          have hbad := NG.out k hlt
          have hwd := HW.out.gates (c.gates.getD k (0, 0)) (getD_mem (by rw [L2.out]; exact hlt))
          obtain ⟨t, ht⟩ : ∃ t, t = c.gates.getD k (0, 0) := ⟨_, rfl⟩
          rw [← ht] at qx qy hbad hwd
          have STEP : Hid (badGate2 (1 + i + n1 + k) t = false → ∀ j, j < k + 1 → badGate2 (1 + i + n1 + j) (c.gates.getD j (0, 0)) = false) := fun hq j hj => by
            rcases Nat.lt_or_ge j k with h | h
            · exact hno.out j h
            · have : j = k := by omega
              subst this
              rw [← ht]; exact hq
          clear ht
          obtain ⟨x, y⟩ := t
          simp only [nv32] at qx qy
          simp only at hwd
          obtain ⟨hw1, hw2⟩ := hwd
          go_upto_region 15 with fail
          generalize hW : World.alloc wr _ = Wg
          have Bg : Below wr.heap.size wr Wg := by subst hW; exact ext_alloc _ _
          have hG : Wg.heap[wr.heap.size]? = some (.cells #[.int .u32 x, .int .u32 y] 65 (0, 0)) := by subst hW; exact heap_new _ _ _ rfl
          have HBB := Lib.hid (ext_trans hB.out Bg)
          have r0 : Wg.cell? ⟨wr.heap.size, 0, none⟩ = some (.int .u32 x) := cell_of_block hG 0
          have r1 : Wg.cell? ⟨wr.heap.size, 1, none⟩ = some (.int .u32 y) := cell_of_block hG 1
          have p0 := cell_of_block (heap_below HX.out HBB.out) 0
          have p1 := cell_of_block (heap_below HX.out HBB.out) 1
          clear hW hG Bg qx qy p2 hbw
          have W1' : IntKind.i64.wrap ((k : Int) + 1) = (k : Int) + 1 := IntWalk.i64_in _ (by omega)
          have D1 : Int.tdiv (x : Int) 2 = ((x / 2 : Nat) : Int) := by rw [Int.tdiv_eq_ediv_of_nonneg (by omega)]; omega
          obtain ⟨u, hu⟩ : ∃ u, u = x / 2 := ⟨_, rfl⟩
          have hu3 : u < 4294967296 := by omega
          rw [← hu] at D1
          have U1 : IntKind.u32.wrap ((u : Nat) : Int) = (u : Int) := IntWalk.u32_in _ (by omega)
          have U2 : IntKind.i64.wrap ((u : Nat) : Int) = (u : Int) := IntWalk.i64_in _ (by omega)
          have V1 : IntKind.i64.wrap ((i : Int) + (n1 : Int)) = (i : Int) + (n1 : Int) := IntWalk.i64_in _ (by have := HM.out; omega)
          have V2 : IntKind.i64.wrap ((i : Int) + (n1 : Int) + 1) = (i : Int) + (n1 : Int) + 1 := IntWalk.i64_in _ (by have := HM.out; omega)
          have V3 : IntKind.i64.wrap ((i : Int) + (n1 : Int) + 1 + (k : Int)) = (i : Int) + (n1 : Int) + 1 + (k : Int) := IntWalk.i64_in _ (by have := HM.out; omega)
          have HU : Hid (decide (2 * (1 + i + n1 + k) ≤ x) = decide (i + n1 + 1 + k ≤ u)) := by show _ = _; exact decide_eq_decide.2 (by omega)
          have HBAD := Lib.hid hbad
          clear hbad hB hno hu
          by_cases b1 : i + n1 + 1 + k ≤ u
          · have hb : Hid (q = false) := HBAD.out (by unfold badGate2; simp only; rw [HU.out, decide_eq_true b1]; simp)
            have g1 : decide ((i : Int) + (n1 : Int) + 1 + (k : Int) ≤ (u : Int)) = true := by simp; omega
            go_wp2
            go_ret
            exact ⟨by rw [hb.out]; rfl, ext_trans HB1.out HBB.out⟩
          have g1 : decide ((i : Int) + (n1 : Int) + 1 + (k : Int) ≤ (u : Int)) = false := by simp; omega
          by_cases b2 : x < y
          · have hb : Hid (q = false) := HBAD.out (by unfold badGate2; simp only; rw [decide_eq_true b2]; rfl)
            have g2 : decide ((x : Int) < (y : Int)) = true := by simp; omega
            go_wp2
            go_ret
            exact ⟨by rw [hb.out]; rfl, ext_trans HB1.out HBB.out⟩
          have g2 : decide ((x : Int) < (y : Int)) = false := by simp; omega
          have HN := Lib.hid (STEP.out (by unfold badGate2; simp only; rw [HU.out, decide_eq_false b1, decide_eq_false b2]; rfl))
          clear STEP HBAD
          go_wp2
          go_roundw
          case rel => exact ⟨k + 1, by omega, by go_num, HN.out, HBB.out⟩
          case measure => simp [intOf]; omega
        · obtain rfl : n2 = k := by omega
          have YES := Lib.hid (YES.out hno.out)
          have HBL := Lib.hid hB.out
          have hxw := heap_below HX.out hB.out
          have p3 := cell_of_block hxw 3
          have p4 := cell_of_block hxw 4
          have p5 := cell_of_block hxw 5
          have HSR := Lib.hid (HS.out.below hB.out)
          clear hno hB hlt hk NG hxw
          obtain ⟨q3, h3⟩ : ∃ q, q = badList m c.outs := ⟨_, rfl⟩
          obtain ⟨q4, h4⟩ : ∃ q, q = badList m c.bads := ⟨_, rfl⟩
          obtain ⟨q5, h5⟩ : ∃ q, q = badList m c.cons := ⟨_, rfl⟩
          rw [← h3, ← h4, ← h5] at YES
          have C3 := Lib.hid (reflits_any m c.outs a3 n3 c3 hs3 HW.out.outs wr HSR.out.s3)
          have C4 := Lib.hid (reflits_any m c.bads a4 n4 c4 hs4 HW.out.bads wr HSR.out.s4)
          have C5 := Lib.hid (reflits_any m c.cons a5 n5 c5 hs5 HW.out.cons wr HSR.out.s5)
          rw [← h3] at C3
          rw [← h4] at C4
          rw [← h5] at C5
          clear h3 h4 h5 HSR
          go_wp2_with fail
          refine C3.out.mono ?_
          rintro e w' ⟨rfl, rfl⟩
          cases q3 with
          | true =>
            go_wp2
            go_ret
            exact ⟨by rw [YES.out]; simp, ext_trans HB1.out HBL.out⟩
          | false =>
          go_wp2_with fail
          refine C4.out.mono ?_
          rintro e w' ⟨rfl, rfl⟩
          cases q4 with
          | true =>
            go_wp2
            go_ret
            exact ⟨by rw [YES.out]; simp, ext_trans HB1.out HBL.out⟩
          | false =>
          go_wp2_with fail
          refine C5.out.mono ?_
          rintro e w' ⟨rfl, rfl⟩
          cases q5 with
          | true =>
            go_wp2
            go_ret
            exact ⟨by rw [YES.out]; simp, ext_trans HB1.out HBL.out⟩
          | false =>
          go_wp2
          go_ret
          exact ⟨by rw [YES.out]; rfl, ext_trans HB1.out HBL.out⟩
end Go.Proofs.Ytcoehbkjccfhlaa
