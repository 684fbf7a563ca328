/- norm.May, by its contract. -/
import Derived.Test.YtcoehbkjccfhlaaGEncT01
import Derived.Test.YtcoehbkjccfhlaaGEncT02
import Derived.Test.YtcoehbkjccfhlaaGEncT07
import Derived.Test.YtcoehbkjccfhlaaGEncT09
import Derived.Test.YtcoehbkjccfhlaaNSmall
import Derived.Test.YtcoehbkjccfhlaaNMay
import Derived.Test.YtcoehbkjccfhlaaRows
import Derived.BigQuiet
import Derived.Deep.AppendLies
import Derived.Deep.QuietTactic
import Derived.Deep.RegionHeld3
import Derived.Deep.RegionLaw
import Derived.Deep.RegionWith
import Derived.KernelRfl
import Derived.Laws.EntriesVeiled
import Derived.Laws.Tables
import Derived.Lib.ConvBytes
import Derived.Lib.Hide
import Derived.Lib.SlBytesRow
import Derived.Lib.SmallJoins
import Derived.Maps.AppendAt
import Derived.Shelf.Bytes.SlSmallAll
import Derived.WalkKit
import Derived.WalkLawsBesides
import Derived.WalkSpells
namespace Go.Proofs.Ytcoehbkjccfhlaa
open Go Go.RowKit Go.Joins

/-- What lies in memory while May looks at the lists. -/
structure NMayF (w0 w : World) (m : Nat) (B : Nat) (i : Nat) (v1 v2 v3 v4 v5 : Value) : Prop where
  x : w.heap[w0.heap.size]? = some (.cells #[.int .i64 i, v1, v2, v3, v4, v5] 26 (0, 0))
  b : w.heap[B]? = some (.cells #[.int .u32 ((2 * m + 1 : Nat) : Int)] 31 (0, 0))
  c : w.heap[B + 1]? = some (.cells #[.func (.func 73) #[] #[.pointer (some ⟨B, 0, .none⟩)]] 102 (0, 0))
  d : w.heap[B + 1 + 1]? = some (.cells #[v3, v4, v5] 24 (0, 0))
  bel : Below w0.heap.size w0 w
theorem NMayF.below {w0 w w' : World} {m B i : Nat} {v1 v2 v3 v4 v5 : Value} (h : NMayF w0 w m B i v1 v2 v3 v4 v5) (hb : Below w.heap.size w w') : NMayF w0 w' m B i v1 v2 v3 v4 v5 :=
  ⟨heap_below h.x hb, heap_below h.b hb, heap_below h.c hb, heap_below h.d hb, ext_trans h.bel hb⟩
theorem NMayF.caps {w0 w : World} {m B i : Nat} {v1 v2 v3 v4 v5 : Value} (h : NMayF w0 w m B i v1 v2 v3 v4 v5) : NCaps m B (B + 1) w := ⟨cell_of_block h.b 0, cell_of_block h.c 0⟩

set_option maxRecDepth 100000 in
set_option maxHeartbeats 3200000 in
theorem may3_any (c : NormC) (s : CSlots) (w : World) (h : SeesCir w s c) (hs : s.small) (hlo : -9223372036854775808 ≤ c.ins) (hhi : c.ins < 9223372036854775808) :
    Calls Try.prog 58 #[cirV c.ins s] w fun e w' => e = .returned (.bool (mayC c)) ∧ Below w.heap.size w w' := by
  have HCNT := Lib.hid (fun (j : Nat) (hj : j ≤ 1048576) W => count_any j s hj hs W)
  have HGT := Lib.hid (fun (i : Nat) W (hb : Below w.heap.size w W) (h1 : i ≤ 16384) (h2 : c.lats.length + c.gates.length ≤ 16384) => mayGates_any c i s W (h.below hb) hs h1 h2)
  obtain ⟨a1, n1, c1, a2, n2, c2, a3, n3, c3, a4, n4, c4, a5, n5, c5⟩ := s
  obtain ⟨hs1, hs2, hs3, hs4, hs5⟩ := hs
  simp only at hs1 hs2 hs3 hs4 hs5 HCNT
  have l1 : c.lats.length = n1 := h.s1.1
  have l2 : c.gates.length = n2 := h.s2.1
  have L1 := Lib.hid l1
  have L2 := Lib.hid l2
  have HS := Lib.hid h
  clear l1 l2 h
  obtain ⟨z, hz⟩ : ∃ z, z = c.ins := ⟨_, rfl⟩
  rw [← hz] at hlo hhi ⊢
  have HZ := Lib.hid hz
  clear hz
  by_cases hneg : z < 0
  · have e1 : decide (z < 0) = true := by simpa using hneg
    have HV : Hid (mayC c = false) := by
      show _ = _
      unfold mayC tooMany
      rw [← HZ.out, e1]; rfl
    clear HCNT HGT
    unfold cirV
    go_enter Try.func58, Try.ntmps58
    go_wp2
    go_ret
    exact ⟨by rw [HV.out]; rfl, ext_alloc _ _⟩
  obtain ⟨i, rfl⟩ := Int.eq_ofNat_of_zero_le (show 0 ≤ z by omega)
  have e1 : decide ((i : Int) < 0) = false := by simp
  by_cases hmany : 16384 < i + n1 + n2
  · have e2 : decide ((16384 : Int) - (i : Int) < (n1 : Int) + (n2 : Int)) = true := by simp; omega
    have HV : Hid (mayC c = false) := by
      show _ = _
      unfold mayC tooMany
      rw [← HZ.out, L1.out, L2.out, show ((n1 + n2 : Nat) : Int) = (n1 : Int) + n2 by omega, e2]; simp
    clear HCNT HGT
    unfold cirV
    go_enter Try.func58, Try.ntmps58
    go_wp2
    go_ret
    exact ⟨by rw [HV.out]; rfl, ext_alloc _ _⟩
  have e2 : decide ((16384 : Int) - (i : Int) < (n1 : Int) + (n2 : Int)) = false := by simp; omega
  obtain ⟨m, hm⟩ : ∃ m, m = i + n1 + n2 := ⟨_, rfl⟩
  have hv : mayC c = (!badList m c.outs && (!badList m c.bads && (!badList m c.cons && (!c.lats.any (badLat2 m) && !badGates (1 + i + c.lats.length) c.gates)))) := by
    have e3 : varsN c = m := by unfold varsN; rw [← HZ.out, L1.out, L2.out, hm]; simp
    unfold mayC tooMany
    rw [e3, ← HZ.out, L1.out, L2.out, show ((n1 + n2 : Nat) : Int) = (n1 : Int) + n2 by omega, e1, e2]
    simp
  obtain ⟨q3, hq3⟩ : ∃ q, q = badList m c.outs := ⟨_, rfl⟩
  obtain ⟨q4, hq4⟩ : ∃ q, q = badList m c.bads := ⟨_, rfl⟩
  obtain ⟨q5, hq5⟩ : ∃ q, q = badList m c.cons := ⟨_, rfl⟩
  obtain ⟨q1, hq1⟩ : ∃ q, q = c.lats.any (badLat2 m) := ⟨_, rfl⟩
  obtain ⟨q2, hq2⟩ : ∃ q, q = badGates (1 + i + c.lats.length) c.gates := ⟨_, rfl⟩
  rw [← hq1, ← hq2, ← hq3, ← hq4, ← hq5] at hv
  have g3 : q3 = (decide (1024 < n3) || c.outs.any (above m)) := by rw [hq3, badList, HS.out.s3.lenMap]
  have g4 : q4 = (decide (1024 < n4) || c.bads.any (above m)) := by rw [hq4, badList, HS.out.s4.lenMap]
  have g5 : q5 = (decide (1024 < n5) || c.cons.any (above m)) := by rw [hq5, badList, HS.out.s5.lenMap]
  have HCN : Hid (∀ W, Calls Try.prog 72 #[cirV i ⟨a1, n1, c1, a2, n2, c2, a3, n3, c3, a4, n4, c4, a5, n5, c5⟩] W fun e w' => e = .returned (.int .i64 (m : Int)) ∧ Below W.heap.size W w') := fun W => by rw [hm]; exact HCNT.out i (by omega) W
  have HG2 : Hid (∀ W, Below w.heap.size w W → Calls Try.prog 77 #[cirV i ⟨a1, n1, c1, a2, n2, c2, a3, n3, c3, a4, n4, c4, a5, n5, c5⟩] W fun e w' => e = .returned (.bool (!q2)) ∧ Below W.heap.size W w') := fun W hb => by rw [hq2]; exact HGT.out i W hb (by omega) (by rw [L1.out, L2.out]; omega)
  have hm2 : m ≤ 16384 := by omega
  have HV := Lib.hid hv
  have Q1 := Lib.hid hq1
  have G3 := Lib.hid g3
  have G4 := Lib.hid g4
  have G5 := Lib.hid g5
  clear hv hq1 hq2 hq3 hq4 hq5 g3 g4 g5 HCNT HGT hm hneg hmany
  have W1 : IntKind.u32.wrap ((2 * m : Nat) : Int) = ((2 * m : Nat) : Int) := by rw [IntKind.wrap_u32]; omega
  have W2 : IntKind.u32.wrap (((2 * m : Nat) : Int) + 1) = ((2 * m + 1 : Nat) : Int) := by rw [IntKind.wrap_u32]; omega
  unfold cirV at *
  go_enter Try.func58, Try.ntmps58
  go_wp2_with fail
  generalize hW : World.alloc w _ = W0
  have B0 : Below w.heap.size w W0 := by subst hW; exact ext_alloc _ _
  have hX : W0.heap[w.heap.size]? = some (.cells #[.int .i64 i, .slice a1 n1 c1, .slice a2 n2 c2, .slice a3 n3 c3, .slice a4 n4 c4, .slice a5 n5 c5] 26 (0, 0)) := by subst hW; exact heap_new _ _ _ rfl
  clear hW
  refine (HCN.out W0).mono ?_
  rintro e V0 ⟨rfl, hb⟩
  have hX2 := heap_below hX hb
  have B2 := ext_trans B0 hb
  clear hb B0 hX HCN
  have HX := Lib.hid hX2
  have HB := Lib.hid B2
  clear hX2 B2
  go_wp2_with fail
  refine (literal_any m (by omega) V0).mono ?_
  rintro e V1 ⟨rfl, rfl⟩
  have hlt := heap_lt HX.out
  have p3 := cell_of_block HX.out 3
  have p4 := cell_of_block HX.out 4
  have p5 := cell_of_block HX.out 5
  by_cases t3 : 1024 < n3
  · have e3 : decide ((1024 : Int) < (n3 : Int)) = true := by simp; omega
    have z3 : Hid (q3 = true) := by show _ = _; rw [G3.out]; simp [t3]
    go_wp2
    refine wp_loop_rounds 4 ?_
    rw [rounds_succ]
    go_wp2
    go_ret
    exact ⟨by rw [HV.out, z3.out]; rfl, ext_trans HB.out (ext_trans (ext_alloc _ _) (ext_trans (ext_alloc _ _) (ext_alloc _ _)))⟩
  have e3 : decide ((1024 : Int) < (n3 : Int)) = false := by simp; omega
  go_wp2
  refine wp_loop_rounds 4 ?_
  rw [rounds_succ]
  go_wp2_with fail
  rw [show (2 * (m : Int) + 1) = ((2 * m + 1 : Nat) : Int) by omega]
  generalize hW : World.alloc (World.alloc (World.alloc V0 _) _) _ = W3
  obtain ⟨B, hB⟩ : ∃ B, B = V0.heap.size := ⟨_, rfl⟩
  rw [← hB]
  have F : NMayF w W3 m B i (.slice a1 n1 c1) (.slice a2 n2 c2) (.slice a3 n3 c3) (.slice a4 n4 c4) (.slice a5 n5 c5) := by
    subst hW
    subst hB
    exact ⟨heap_below HX.out (ext_trans (ext_alloc _ _) (ext_trans (ext_alloc _ _) (ext_alloc _ _))), heap_below (heap_new V0 _ _ rfl) (ext_trans (ext_alloc _ _) (ext_alloc _ _)), heap_below (heap_new (V0.alloc (.cells #[.int .u32 ((2 * m + 1 : Nat) : Int)] 31)) _ _ (by simp)) (ext_alloc _ _), heap_new _ _ _ (by simp), ext_trans HB.out (ext_trans (ext_alloc _ _) (ext_trans (ext_alloc _ _) (ext_alloc _ _)))⟩
  have F := Lib.hid F
  clear hW hB p3 p4 p5 hlt HX HB
  refine (nhas_u32 m B c.outs a3 n3 c3 hs3 W3 (HS.out.s3.below F.out.bel) F.out.caps.b).mono ?_
  obtain ⟨p3, hp3⟩ : ∃ p, p = c.outs.any (above m) := ⟨_, rfl⟩
  rw [← hp3]
  rw [← hp3] at G3
  clear hp3
  rintro e V3 ⟨rfl, hb⟩
  replace F := Lib.hid (F.out.below hb)
  clear hb
  have d0 := cell_of_block F.out.d 0
  have d1 := cell_of_block F.out.d 1
  have d2 := cell_of_block F.out.d 2
  have f0 := F.out.caps.c
  cases p3 with
  | true =>
    have z3 : Hid (q3 = true) := by show _ = _; rw [G3.out]; simp
    go_wp2
    go_ret
    exact ⟨by rw [HV.out, z3.out]; simp, F.out.bel⟩
  | false =>
  have Z3 : Hid (q3 = false) := by show _ = _; rw [G3.out]; simp [t3]
  by_cases t4 : 1024 < n4
  · have e4 : decide ((1024 : Int) < (n4 : Int)) = true := by simp; omega
    have z4 : Hid (q4 = true) := by show _ = _; rw [G4.out]; simp [t4]
    go_wp2
    rw [rounds_succ]
    go_wp2
    go_ret
    exact ⟨by rw [HV.out, z4.out]; simp, F.out.bel⟩
  have e4 : decide ((1024 : Int) < (n4 : Int)) = false := by simp; omega
  go_wp2
  rw [rounds_succ]
  go_wp2_with fail
  clear d0 d1 d2 f0
  refine (nhas_u32 m B c.bads a4 n4 c4 hs4 V3 (HS.out.s4.below F.out.bel) F.out.caps.b).mono ?_
  obtain ⟨p4, hp4⟩ : ∃ p, p = c.bads.any (above m) := ⟨_, rfl⟩
  rw [← hp4]
  rw [← hp4] at G4
  clear hp4
  rintro e V4 ⟨rfl, hb⟩
  replace F := Lib.hid (F.out.below hb)
  clear hb
  have d0 := cell_of_block F.out.d 0
  have d1 := cell_of_block F.out.d 1
  have d2 := cell_of_block F.out.d 2
  have f0 := F.out.caps.c
  cases p4 with
  | true =>
    have z4 : Hid (q4 = true) := by show _ = _; rw [G4.out]; simp
    go_wp2
    go_ret
    exact ⟨by rw [HV.out, z4.out]; simp, F.out.bel⟩
  | false =>
  have Z4 : Hid (q4 = false) := by show _ = _; rw [G4.out]; simp [t4]
  by_cases t5 : 1024 < n5
  · have e5 : decide ((1024 : Int) < (n5 : Int)) = true := by simp; omega
    have z5 : Hid (q5 = true) := by show _ = _; rw [G5.out]; simp [t5]
    go_wp2
    rw [rounds_succ]
    go_wp2
    go_ret
    exact ⟨by rw [HV.out, z5.out]; simp, F.out.bel⟩
  have e5 : decide ((1024 : Int) < (n5 : Int)) = false := by simp; omega
  go_wp2
  rw [rounds_succ]
  go_wp2_with fail
  clear d0 d1 d2 f0
  refine (nhas_u32 m B c.cons a5 n5 c5 hs5 V4 (HS.out.s5.below F.out.bel) F.out.caps.b).mono ?_
  obtain ⟨p5, hp5⟩ : ∃ p, p = c.cons.any (above m) := ⟨_, rfl⟩
  rw [← hp5]
  rw [← hp5] at G5
  clear hp5
  rintro e V5 ⟨rfl, hb⟩
  replace F := Lib.hid (F.out.below hb)
  clear hb
  have d0 := cell_of_block F.out.d 0
  have d1 := cell_of_block F.out.d 1
  have d2 := cell_of_block F.out.d 2
  have f0 := F.out.caps.c
  cases p5 with
  | true =>
    have z5 : Hid (q5 = true) := by show _ = _; rw [G5.out]; simp
    go_wp2
    go_ret
    exact ⟨by rw [HV.out, z5.out]; simp, F.out.bel⟩
  | false =>
  have Z5 : Hid (q5 = false) := by show _ = _; rw [G5.out]; simp [t5]
  have x0 := cell_of_block F.out.x 0
  have x1 := cell_of_block F.out.x 1
  go_wp2
  rw [rounds_succ]
  go_wp2_with fail
  clear d0 d1 d2 f0 x0 x1
  refine (nhas_lat m B (B + 1) c.lats a1 n1 c1 hs1 _ (HS.out.s1.below F.out.bel) F.out.caps).mono ?_
  rw [← Q1.out]
  rintro e V6 ⟨rfl, hb⟩
  replace F := Lib.hid (F.out.below hb)
  clear hb
  cases q1 with
  | true =>
    go_wp2
    go_ret
    exact ⟨by rw [HV.out]; simp, F.out.bel⟩
  | false =>
  have x0 := cell_of_block F.out.x 0
  have x1 := cell_of_block F.out.x 1
  have x2 := cell_of_block F.out.x 2
  have x3 := cell_of_block F.out.x 3
  have x4 := cell_of_block F.out.x 4
  have x5 := cell_of_block F.out.x 5
  go_wp2_with fail
  refine (HG2.out V6 F.out.bel).mono ?_
  rintro e V7 ⟨rfl, hb⟩
  have HB := Lib.hid (ext_trans F.out.bel hb)
  clear x0 x1 x2 x3 x4 x5 hb F
  go_wp2
  go_ret
  exact ⟨by rw [HV.out, Z3.out, Z4.out, Z5.out]; simp, HB.out⟩
end Go.Proofs.Ytcoehbkjccfhlaa
