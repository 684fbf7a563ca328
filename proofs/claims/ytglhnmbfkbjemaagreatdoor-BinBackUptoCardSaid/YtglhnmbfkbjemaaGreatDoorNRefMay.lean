/- inquestref02.May, by its contract. -/
import Derived.Test.YtglhnmbfkbjemaaGreatDoorBkR
import Derived.Test.YtglhnmbfkbjemaaGreatDoorNOwns
import Derived.Deep.CutRange
import Derived.Deep.RegionHeld3
namespace Go.Proofs.YtglhnmbfkbjemaaGreatDoor
open Go Go.RowKit Go.Joins
theorem may_no_lat {r : RawC} (h : r.lats.any (badLatch r.max) = true) : mayRaw r = false := by unfold mayRaw; rw [h]; simp
theorem may_no_gate {r : RawC} (h : r.gates.any (badGate r.max) = true) : mayRaw r = false := by unfold mayRaw; rw [h]; simp
theorem may_no_max {r : RawC} (h : 16384 < r.max) : mayRaw r = false := by unfold mayRaw; simp [h]
theorem may_no_many {r : RawC} (h : r.max < r.ins.length + r.lats.length + r.gates.length) : mayRaw r = false := by unfold mayRaw; simp [h]
theorem may_no_outs {r : RawC} (h : 1024 < r.outs.length) : mayRaw r = false := by unfold mayRaw badList; simp [h]
theorem may_no_bads {r : RawC} (h : 1024 < r.bads.length) : mayRaw r = false := by unfold mayRaw badList; simp [h]
theorem may_no_cons {r : RawC} (h : 1024 < r.cons.length) : mayRaw r = false := by unfold mayRaw badList; simp [h]
theorem may_rest {r : RawC} (h1 : ¬ 16384 < r.max) (h2 : ¬ r.max < r.ins.length + r.lats.length + r.gates.length) (h3 : ¬ 1024 < r.outs.length) (h4 : ¬ 1024 < r.bads.length) (h5 : ¬ 1024 < r.cons.length)
    (h6 : r.lats.any (badLatch r.max) = false) (h7 : r.gates.any (badGate r.max) = false) : mayRaw r = (!r.ins.any (above r.max) && !r.outs.any (above r.max) && !r.bads.any (above r.max) && !r.cons.any (above r.max)) := by
  unfold mayRaw badList
  rw [h6, h7]
  simp only [h1, h2, h3, h4, h5, decide_false, Bool.false_or, Bool.not_false, Bool.true_and, Bool.and_true]
  cases r.ins.any (above r.max) <;> cases r.outs.any (above r.max) <;> cases r.bads.any (above r.max) <;> cases r.cons.any (above r.max) <;> rfl
set_option maxRecDepth 100000 in
set_option maxHeartbeats 3200000 in
theorem refmay_any (r : RawC) (s : Slots) (w : World) (h : SeesRaw w s r) (hf : s.small) :
    Calls Tryz.prog 32 #[rawV r.max s] w fun e w' => e = .returned (.bool (mayRaw r)) ∧ Below w.heap.size w w' := by
  obtain ⟨a1, n1, c1, a2, n2, c2, a3, n3, c3, a4, n4, c4, a5, n5, c5, a6, n6, c6⟩ := s
  obtain ⟨hf1, hf2, hf3, hf4, hf5, hf6⟩ := hf
  simp only at hf1 hf2 hf3 hf4 hf5 hf6
  have L1 : Hid (r.ins.length = n1) := h.s1.lenMap
  have L2 : Hid (r.lats.length = n2) := h.s2.1
  have L3 : Hid (r.outs.length = n3) := h.s3.lenMap
  have L4 : Hid (r.bads.length = n4) := h.s4.lenMap
  have L5 : Hid (r.cons.length = n5) := h.s5.lenMap
  have L6 : Hid (r.gates.length = n6) := h.s6.1
  obtain ⟨m, hm⟩ : ∃ m, m = r.max := ⟨_, rfl⟩
  obtain ⟨q, hq⟩ : ∃ q, q = mayRaw r := ⟨_, rfl⟩
  have N1 : Hid (16384 < m → q = false) := fun h => by rw [hq]; exact may_no_max (by rw [← hm]; exact h)
  have N2 : Hid (m < n1 + n2 + n6 → q = false) := fun h => by rw [hq]; exact may_no_many (by rw [← hm, L1.out, L2.out, L6.out]; exact h)
  have N3 : Hid (1024 < n3 → q = false) := fun h => by rw [hq]; exact may_no_outs (by rw [L3.out]; exact h)
  have N4 : Hid (1024 < n4 → q = false) := fun h => by rw [hq]; exact may_no_bads (by rw [L4.out]; exact h)
  have N5 : Hid (1024 < n5 → q = false) := fun h => by rw [hq]; exact may_no_cons (by rw [L5.out]; exact h)
  have NL : Hid (∀ k, k < n2 → badLatch m (r.lats.getD k (0, 0, 0)) = true → q = false) := fun k hk hb => by
    rw [hq]; exact may_no_lat (List.any_eq_true.2 ⟨_, getD_mem (by rw [L2.out]; exact hk), by rw [← hm]; exact hb⟩)
  have NG : Hid (∀ k, k < n6 → badGate m (r.gates.getD k (0, 0, 0)) = true → q = false) := fun k hk hb => by
    rw [hq]; exact may_no_gate (List.any_eq_true.2 ⟨_, getD_mem (by rw [L6.out]; exact hk), by rw [← hm]; exact hb⟩)
  have YES : Hid (¬ 16384 < m → ¬ m < n1 + n2 + n6 → ¬ 1024 < n3 → ¬ 1024 < n4 → ¬ 1024 < n5 → (∀ k, k < n2 → badLatch m (r.lats.getD k (0, 0, 0)) = false) → (∀ k, k < n6 → badGate m (r.gates.getD k (0, 0, 0)) = false) →
      q = (!r.ins.any (above m) && !r.outs.any (above m) && !r.bads.any (above m) && !r.cons.any (above m))) := fun h1 h2 h3 h4 h5 h6 h7 => by
    rw [hq, hm]
    refine may_rest (by rw [← hm]; exact h1) (by rw [← hm, L1.out, L2.out, L6.out]; exact h2) (by rw [L3.out]; exact h3) (by rw [L4.out]; exact h4) (by rw [L5.out]; exact h5) ?_ ?_
    · exact any_none (all_of_getD (d := ((0, 0, 0) : Tri)) (fun j hj => by rw [← hm]; exact h6 j (by rw [← L2.out]; exact hj)))
    · exact any_none (all_of_getD (d := ((0, 0, 0) : Tri)) (fun j hj => by rw [← hm]; exact h7 j (by rw [← L6.out]; exact hj)))
  rw [← hm, ← hq]
  have HS := Lib.hid h
  clear h hm hq L1 L2 L3 L4 L5 L6
  unfold rawV
  by_cases t : 16384 < m
  · have e : decide ((16384 : Int) < (m : Int)) = true := by simp; omega
    have HF : Hid (q = false) := N1.out t
    go_enter Tryz.func32, Tryz.ntmps32
    go_wp2
    go_ret
    exact ⟨by rw [HF.out]; rfl, ext_alloc _ _⟩
  have e1 : decide ((16384 : Int) < (m : Int)) = false := by simp; omega
  have t1 := t
  clear t
  by_cases t : m < n1 + n2 + n6
  · have e : decide ((m : Int) < (n1 : Int) + (n2 : Int) + (n6 : Int)) = true := by simp; omega
    have HF : Hid (q = false) := N2.out t
    go_enter Tryz.func32, Tryz.ntmps32
    go_wp2
    go_ret
    exact ⟨by rw [HF.out]; rfl, ext_alloc _ _⟩
  have e2 : decide ((m : Int) < (n1 : Int) + (n2 : Int) + (n6 : Int)) = false := by simp; omega
  have t2 := t
  clear t
  by_cases t : 1024 < n3
  · have e : decide ((1024 : Int) < (n3 : Int)) = true := by simp; omega
    have HF : Hid (q = false) := N3.out t
    go_enter Tryz.func32, Tryz.ntmps32
    go_wp2
    go_ret
    exact ⟨by rw [HF.out]; rfl, ext_alloc _ _⟩
  have e3 : decide ((1024 : Int) < (n3 : Int)) = false := by simp; omega
  have t3 := t
  clear t
  by_cases t : 1024 < n4
  · have e : decide ((1024 : Int) < (n4 : Int)) = true := by simp; omega
    have HF : Hid (q = false) := N4.out t
    go_enter Tryz.func32, Tryz.ntmps32
    go_wp2
    go_ret
    exact ⟨by rw [HF.out]; rfl, ext_alloc _ _⟩
  have e4 : decide ((1024 : Int) < (n4 : Int)) = false := by simp; omega
  have t4 := t
  clear t
  by_cases t : 1024 < n5
  · have e : decide ((1024 : Int) < (n5 : Int)) = true := by simp; omega
    have HF : Hid (q = false) := N5.out t
    go_enter Tryz.func32, Tryz.ntmps32
    go_wp2
    go_ret
    exact ⟨by rw [HF.out]; rfl, ext_alloc _ _⟩
  have e5 : decide ((1024 : Int) < (n5 : Int)) = false := by simp; omega
  have t5 := t
  clear t
  have YES := Lib.hid (YES.out t1 t2 t3 t4 t5)
  have hm' : m ≤ 16384 := by omega
  clear N1 N2 N3 N4 N5 t1 t2 t3 t4 t5
  go_enter Tryz.func32, Tryz.ntmps32
  go_upto_region 3 with fail
  clear e1 e2 e3 e4 e5
  generalize hW : World.alloc _ _ = W1
  have B1 : Below w.heap.size w W1 := by subst hW; exact ext_alloc _ _
  have hX : W1.heap[w.heap.size]? = some (.cells #[.int .u32 m, .slice a1 n1 c1, .slice a2 n2 c2, .slice a3 n3 c3, .slice a4 n4 c4, .slice a5 n5 c5, .slice a6 n6 c6] 39 (0, 0)) := by subst hW; exact heap_new _ _ _ rfl
  clear hW
  have HB1 := Lib.hid B1
  have HX := Lib.hid hX
  have HS := Lib.hid (HS.out.below B1)
  have p0 := cell_of_block hX 0
  clear B1 hX
  have MM : IntKind.u32.wrap (2 * (m : Int)) = 2 * (m : Int) := IntWalk.u32_in _ (by omega)
  have MM1 : IntKind.u32.wrap (2 * (m : Int) + 1) = 2 * (m : Int) + 1 := IntWalk.u32_in _ (by omega)
  go_wp2
  clear p0 MM MM1
  have E : Hid (∀ x : Nat, (above m x = true ↔ 2 * (m : Int) + 1 < (x : Int))) := fun x => by unfold above; rw [decide_eq_true_eq]; omega
  go_loopw [4] (fun i wr => ∃ k : Nat, k ≤ n2 ∧ i = .int .i64 k ∧ Hid (∀ j, j < k → badLatch m (r.lats.getD j (0, 0, 0)) = false) ∧ Hid (Below W1.heap.size W1 wr)) (fun i _ => n2 - (intOf i).toNat)
  case atStart => exact ⟨0, Nat.zero_le _, rfl, fun j hj => absurd hj (by omega), Below.refl _ _⟩
  case round =>
    obtain ⟨k, hk, rfl, hno, hB⟩ := hrel
    have p := cell_of_block (heap_below HX.out hB.out) 2
    by_cases hlt : k < n2
    · obtain ⟨b, off, rfl, hbw⟩ := HS.out.s2.addr (show 0 < n2 by omega)
      obtain ⟨qx, qy, qz⟩ := (HS.out.s2.below hB.out).cells k hlt (0, 0, 0)
      have hbad := NL.out k hlt
      obtain ⟨t, ht⟩ : ∃ t, t = r.lats.getD k (0, 0, 0) := ⟨_, rfl⟩
      rw [← ht] at qx qy qz hbad
      have STEP : Hid (badLatch m t = false → ∀ j, j < k + 1 → badLatch m (r.lats.getD j (0, 0, 0)) = false) := fun hq j hj => by
        rcases Nat.lt_or_ge j k with h | h
        · exact hno.out j h
        · have : j = k := by omega
          subst this
          rw [← ht]; exact hq
      clear ht
      obtain ⟨x, y, z⟩ := t
      unfold nv32 at qx qy qz
      have W1' : IntKind.i64.wrap ((k : Int) + 1) = (k : Int) + 1 := IntWalk.i64_in _ (by omega)
      have HBAD := Lib.hid hbad
      have HBB := Lib.hid (ext_trans hB.out (ext_alloc wr (.cells #[.int .u32 x, .int .u32 y, .int .u32 z] 55)))
      clear hbad hB hno
      by_cases b1 : above m x = true
      · have hb : Hid (q = false) := HBAD.out (by unfold badLatch; rw [b1]; rfl)
        have g1 : decide (2 * (m : Int) + 1 < (x : Int)) = true := decide_eq_true ((E.out x).1 b1)
        go_wp2
        go_ret
        exact ⟨by rw [hb.out]; rfl, ext_trans HB1.out HBB.out⟩
      have g1 : decide (2 * (m : Int) + 1 < (x : Int)) = false := decide_eq_false (fun h => b1 ((E.out x).2 h))
      have f1 : above m x = false := by simpa using b1
      by_cases b2 : above m y = true
      · have hb : Hid (q = false) := HBAD.out (by unfold badLatch; rw [b2]; simp)
        have g2 : decide (2 * (m : Int) + 1 < (y : Int)) = true := decide_eq_true ((E.out y).1 b2)
        go_wp2
        go_ret
        exact ⟨by rw [hb.out]; rfl, ext_trans HB1.out HBB.out⟩
      have g2 : decide (2 * (m : Int) + 1 < (y : Int)) = false := decide_eq_false (fun h => b2 ((E.out y).2 h))
      have f2 : above m y = false := by simpa using b2
      by_cases b3 : 1 < z
      · have g3 : decide ((1 : Int) < (z : Int)) = true := by simp; omega
        by_cases b4 : z = x
        · subst b4
          have g4 : ((z : Int) != (z : Int)) = false := by simp
          have g5 : ((z : Int) == (z : Int)) = true := by simp
          have hs := STEP.out (by unfold badLatch mayReset; simp only [f1, f2]; simp)
          have HN := Lib.hid hs
          clear hs STEP HBAD f1 f2
          go_wp2
          go_roundw
          case rel => exact ⟨k + 1, by omega, by go_num, HN.out, HBB.out⟩
          case measure => simp [intOf]; omega
        · have g4 : ((z : Int) != (x : Int)) = true := by simp; omega
          have g5 : ((z : Int) == (x : Int)) = false := by simp; omega
          have hb : Hid (q = false) := HBAD.out (by unfold badLatch mayReset; simp [b4]; omega)
          go_wp2
          go_ret
          exact ⟨by rw [hb.out]; rfl, ext_trans HB1.out HBB.out⟩
      · have g3 : decide ((1 : Int) < (z : Int)) = false := by simp; omega
        have hs := STEP.out (by unfold badLatch mayReset; simp only [f1, f2]; simp; omega)
        have HN := Lib.hid hs
        clear hs STEP HBAD f1 f2
        go_wp2
        go_roundw
        case rel => exact ⟨k + 1, by omega, by go_num, HN.out, HBB.out⟩
        case measure => simp [intOf]; omega
    · obtain rfl : n2 = k := by omega
      have YES := Lib.hid (YES.out hno.out)
      have HBL := Lib.hid hB.out
      clear hno hB hlt hk NL
      go_wp2
      clear p
      go_loopw [6] (fun i wr => ∃ k : Nat, k ≤ n6 ∧ i = .int .i64 k ∧ Hid (∀ j, j < k → badGate m (r.gates.getD j (0, 0, 0)) = false) ∧ Hid (Below W1.heap.size W1 wr)) (fun i _ => n6 - (intOf i).toNat)
      case atStart => exact ⟨0, Nat.zero_le _, rfl, fun j hj => absurd hj (by omega), HBL.out⟩
      case round =>
        clear HBL
        obtain ⟨k, hk, rfl, hno, hB⟩ := hrel
        have p := cell_of_block (heap_below HX.out hB.out) 6
        by_cases hlt : k < n6
        · obtain ⟨b, off, rfl, hbw⟩ := HS.out.s6.addr (show 0 < n6 by omega)
          obtain ⟨qx, qy, qz⟩ := (HS.out.s6.below hB.out).cells k hlt (0, 0, 0)
          have hbad := NG.out k hlt
          obtain ⟨t, ht⟩ : ∃ t, t = r.gates.getD k (0, 0, 0) := ⟨_, rfl⟩
          rw [← ht] at qx qy qz hbad
          have STEP : Hid (badGate m t = false → ∀ j, j < k + 1 → badGate m (r.gates.getD j (0, 0, 0)) = false) := fun hq j hj => by
            rcases Nat.lt_or_ge j k with h | h
            · exact hno.out j h
            · have : j = k := by omega
              subst this
              rw [← ht]; exact hq
          clear ht
          obtain ⟨x, y, z⟩ := t
          unfold nv32 at qx qy qz
          have W1' : IntKind.i64.wrap ((k : Int) + 1) = (k : Int) + 1 := IntWalk.i64_in _ (by omega)
          have HBAD := Lib.hid hbad
          have HBB := Lib.hid (ext_trans hB.out (ext_alloc wr (.cells #[.int .u32 x, .int .u32 y, .int .u32 z] 58)))
          clear hbad hB hno
          by_cases b1 : above m x = true
          · have hb : Hid (q = false) := HBAD.out (by unfold badGate; rw [b1]; rfl)
            have g1 : decide (2 * (m : Int) + 1 < (x : Int)) = true := decide_eq_true ((E.out x).1 b1)
            go_wp2
            go_ret
            exact ⟨by rw [hb.out]; rfl, ext_trans HB1.out HBB.out⟩
          have g1 : decide (2 * (m : Int) + 1 < (x : Int)) = false := decide_eq_false (fun h => b1 ((E.out x).2 h))
          have f1 : above m x = false := by simpa using b1
          by_cases b2 : above m y = true
          · have hb : Hid (q = false) := HBAD.out (by unfold badGate; rw [b2]; simp)
            have g2 : decide (2 * (m : Int) + 1 < (y : Int)) = true := decide_eq_true ((E.out y).1 b2)
            go_wp2
            go_ret
            exact ⟨by rw [hb.out]; rfl, ext_trans HB1.out HBB.out⟩
          have g2 : decide (2 * (m : Int) + 1 < (y : Int)) = false := decide_eq_false (fun h => b2 ((E.out y).2 h))
          have f2 : above m y = false := by simpa using b2
          by_cases b3 : above m z = true
          · have hb : Hid (q = false) := HBAD.out (by unfold badGate; rw [b3]; simp)
            have g3 : decide (2 * (m : Int) + 1 < (z : Int)) = true := decide_eq_true ((E.out z).1 b3)
            go_wp2
            go_ret
            exact ⟨by rw [hb.out]; rfl, ext_trans HB1.out HBB.out⟩
          have g3 : decide (2 * (m : Int) + 1 < (z : Int)) = false := decide_eq_false (fun h => b3 ((E.out z).2 h))
          have f3 : above m z = false := by simpa using b3
          have hs := STEP.out (by unfold badGate; simp only [f1, f2, f3]; rfl)
          have HN := Lib.hid hs
          clear hs STEP HBAD f1 f2
          go_wp2
          go_roundw
          case rel => exact ⟨k + 1, by omega, by go_num, HN.out, HBB.out⟩
          case measure => simp [intOf]; omega
        · obtain rfl : n6 = k := by omega
          have YES := Lib.hid (YES.out hno.out)
          have HBL := Lib.hid hB.out
          have hxw := heap_below HX.out hB.out
          have p1 := cell_of_block hxw 1
          have p3 := cell_of_block hxw 3
          have p4 := cell_of_block hxw 4
          have p5 := cell_of_block hxw 5
          have CA : Hid (∀ (l : List Nat) a n c, n ≤ 1048576 → Sees wr a n c (l.map nv32) → Calls Tryz.prog 72 #[.slice a n c, .int .u32 (2 * (m : Int) + 1)] wr fun e w' => e = .returned (.bool (!l.any (above m))) ∧ wr = w') := fun l a n c hn h => by
            have := refall_any m l a n c hn wr h
            rw [show ((2 * m + 1 : Nat) : Int) = 2 * (m : Int) + 1 by omega] at this
            exact this
          have HSR := Lib.hid (HS.out.below hB.out)
          clear hno hB hlt hk NG hxw
          obtain ⟨q1, h1⟩ : ∃ q, q = r.ins.any (above m) := ⟨_, rfl⟩
          obtain ⟨q3, h3⟩ : ∃ q, q = r.outs.any (above m) := ⟨_, rfl⟩
          obtain ⟨q4, h4⟩ : ∃ q, q = r.bads.any (above m) := ⟨_, rfl⟩
          obtain ⟨q5, h5⟩ : ∃ q, q = r.cons.any (above m) := ⟨_, rfl⟩
          rw [← h1, ← h3, ← h4, ← h5] at YES
          have C1 := Lib.hid (CA.out r.ins a1 n1 c1 hf1 HSR.out.s1)
          have C3 := Lib.hid (CA.out r.outs a3 n3 c3 hf3 HSR.out.s3)
          have C4 := Lib.hid (CA.out r.bads a4 n4 c4 hf4 HSR.out.s4)
          have C5 := Lib.hid (CA.out r.cons a5 n5 c5 hf5 HSR.out.s5)
          rw [← h1] at C1
          rw [← h3] at C3
          rw [← h4] at C4
          rw [← h5] at C5
          clear h1 h3 h4 h5 CA HSR
          go_wp2_with fail
          refine C1.out.mono ?_
          rintro e w' ⟨rfl, rfl⟩
          cases q1 with
          | true =>
            go_wp2
            go_ret
            exact ⟨by rw [YES.out]; simp, ext_trans HB1.out HBL.out⟩
          | false =>
          go_wp2_with fail
          refine C3.out.mono ?_
          rintro e w' ⟨rfl, rfl⟩
          cases q3 with
          | true =>
            go_wp2
            go_ret
            exact ⟨by rw [YES.out]; simp, ext_trans HB1.out HBL.out⟩
          | false =>
          go_wp2_with fail
          refine C4.out.mono ?_
          rintro e w' ⟨rfl, rfl⟩
          cases q4 with
          | true =>
            go_wp2
            go_ret
            exact ⟨by rw [YES.out]; simp, ext_trans HB1.out HBL.out⟩
          | false =>
          go_wp2_with fail
          refine C5.out.mono ?_
          rintro e w' ⟨rfl, rfl⟩
          cases q5 with
          | true =>
            go_wp2
            go_ret
            exact ⟨by rw [YES.out]; simp, ext_trans HB1.out HBL.out⟩
          | false =>
          go_wp2
          go_ret
          exact ⟨by rw [YES.out]; rfl, ext_trans HB1.out HBL.out⟩
end Go.Proofs.YtglhnmbfkbjemaaGreatDoor
