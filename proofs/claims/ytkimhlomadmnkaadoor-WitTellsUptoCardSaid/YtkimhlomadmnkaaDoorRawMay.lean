/- raw.May, by its contract. -/
import Derived.Test.YtkimhlomadmnkaaDoorRawPred3
import Derived.Laws.EntriesVeiled
namespace Go.Proofs.YtkimhlomadmnkaaDoor
open Go Go.RowKit Go.Joins

theorem bcell {W w1 : World} (hb : Below W.heap.size W w1) : (∀ b o, b < W.heap.size → w1.cell? ⟨b, o, none⟩ = W.cell? ⟨b, o, none⟩) ∧ (∀ b o, b < W.heap.size → w1.frozen? ⟨b, o, none⟩ = W.frozen? ⟨b, o, none⟩) :=
  ⟨fun b o h => hb.cell (p := ⟨b, o, none⟩) h, fun b o h => hb.frozen (p := ⟨b, o, none⟩) h⟩

/-- The longest a list can be. -/
def lenMax : Nat := 140737488355328
/-- All lists are short enough. -/
def Slots.fit (s : Slots) : Prop := s.n1 ≤ lenMax ∧ s.n2 ≤ lenMax ∧ s.n3 ≤ lenMax ∧ s.n4 ≤ lenMax ∧ s.n5 ≤ lenMax ∧ s.n6 ≤ lenMax
/-- A raw circuit's value. -/
def rawV (m : Nat) (s : Slots) : Value := .agg #[.int .u32 m, .slice s.a1 s.n1 s.c1, .slice s.a2 s.n2 s.c2, .slice s.a3 s.n3 s.c3, .slice s.a4 s.n4 s.c4, .slice s.a5 s.n5 s.c5, .slice s.a6 s.n6 s.c6]

theorem cell_new (w : World) (C : Array Value) (t : TypeId) (fr : Nat × Nat) (g k : Nat) (v : Value) (hg : g = w.heap.size) (h : C[k]? = some v) : (w.alloc (.cells C t fr)).cell? ⟨g, k, .none⟩ = some v := by
  subst hg; rw [World.cell?_alloc_mark]; exact h
/-- What lies in memory while May looks at the lists. -/
structure MayF (w0 w : World) (m : Nat) (v1 v2 v3 v4 v5 v6 : Value) : Prop where
  b0 : w.cell? ⟨w0.heap.size, 0, .none⟩ = some (.int .u32 m)
  b1 : w.cell? ⟨w0.heap.size, 1, .none⟩ = some v1
  b2 : w.cell? ⟨w0.heap.size, 2, .none⟩ = some v2
  b6 : w.cell? ⟨w0.heap.size, 6, .none⟩ = some v6
  c : w.cell? ⟨w0.heap.size + 1, 0, .none⟩ = some (.func (.func 91) #[] #[.pointer (some ⟨w0.heap.size, 0, .none⟩)])
  d0 : w.cell? ⟨w0.heap.size + 1 + 1, 0, .none⟩ = some v3
  d1 : w.cell? ⟨w0.heap.size + 1 + 1, 1, .none⟩ = some v4
  d2 : w.cell? ⟨w0.heap.size + 1 + 1, 2, .none⟩ = some v5
  bel : Below w0.heap.size w0 w
theorem cell_lt {w : World} {b o : Nat} {v : Value} (h : w.cell? ⟨b, o, .none⟩ = some v) : b < w.heap.size := World.block_lt_of_cell? w ⟨b, o, .none⟩ h
theorem cell_below {w w' : World} {b o : Nat} {v : Value} (h : w.cell? ⟨b, o, .none⟩ = some v) (hb : Below w.heap.size w w') : w'.cell? ⟨b, o, .none⟩ = some v := (hb.cell (p := ⟨b, o, .none⟩) (cell_lt h)).trans h
theorem cell_old {w : World} {b o : Nat} {v : Value} {x : Obj} (h : w.cell? ⟨b, o, .none⟩ = some v) : (w.alloc x).cell? ⟨b, o, .none⟩ = some v := cell_below h (ext_alloc _ _)
theorem MayF.below {w0 w w' : World} {m : Nat} {v1 v2 v3 v4 v5 v6 : Value} (h : MayF w0 w m v1 v2 v3 v4 v5 v6) (hb : Below w.heap.size w w') : MayF w0 w' m v1 v2 v3 v4 v5 v6 :=
  ⟨cell_below h.b0 hb, cell_below h.b1 hb, cell_below h.b2 hb, cell_below h.b6 hb, cell_below h.c hb, cell_below h.d0 hb, cell_below h.d1 hb, cell_below h.d2 hb, ext_trans h.bel hb⟩

set_option maxRecDepth 100000 in
set_option maxHeartbeats 1600000 in
theorem may_any (r : RawC) (s : Slots) (w : World) (h : SeesRaw w s r) (hf : s.fit) :
    Calls Tryd.prog 67 #[rawV r.max s] w fun e w' => e = .returned (.bool (mayRaw r)) ∧ Below w.heap.size w w' := by
  obtain ⟨a1, n1, c1, a2, n2, c2, a3, n3, c3, a4, n4, c4, a5, n5, c5, a6, n6, c6⟩ := s
  obtain ⟨hf1, hf2, hf3, hf4, hf5, hf6⟩ := hf
  simp only [lenMax] at hf1 hf2 hf3 hf4 hf5 hf6
  have l1 : r.ins.length = n1 := h.s1.lenMap
  have l2 : r.lats.length = n2 := h.s2.1
  have l6 : r.gates.length = n6 := h.s6.1
  have L1 := Lib.hid l1
  have L2 := Lib.hid l2
  have L6 := Lib.hid l6
  have HS := Lib.hid h
  clear l1 l2 l6 h
  obtain ⟨m, hm⟩ : ∃ m, m = r.max := ⟨_, rfl⟩
  rw [← hm]
  have HM := Lib.hid hm
  clear hm
  unfold rawV
  by_cases h1 : 16384 < m
  · have e1 : decide ((16384 : Int) < (m : Int)) = true := by simp; omega
    have hv : mayRaw r = false := by unfold mayRaw; rw [← HM.out]; simp [h1]
    have HV := Lib.hid hv
    clear hv
    go_enter Tryd.func67, Tryd.ntmps67
    go_wp2
    go_ret
    exact ⟨by rw [HV.out]; rfl, ext_alloc _ _⟩
  · have e1 : decide ((16384 : Int) < (m : Int)) = false := by simp; omega
    by_cases h2 : m < n1 + n2 + n6
    · have e2 : decide ((m : Int) < (n1 : Int) + (n2 : Int) + (n6 : Int)) = true := by simp; omega
      have hv : mayRaw r = false := by unfold mayRaw; rw [← HM.out, L1.out, L2.out, L6.out]; simp [h1, h2]
      have HV := Lib.hid hv
      clear hv
      go_enter Tryd.func67, Tryd.ntmps67
      go_wp2
      go_ret
      exact ⟨by rw [HV.out]; rfl, ext_alloc _ _⟩
    · have e2 : decide ((m : Int) < (n1 : Int) + (n2 : Int) + (n6 : Int)) = false := by simp; omega
      have hv : mayRaw r = (!badList m r.outs && (!badList m r.bads && (!badList m r.cons && ((!r.ins.any (above m)) && ((!r.lats.any (badLatch m)) && (!r.gates.any (badGate m))))))) := by
        unfold mayRaw; rw [← HM.out, L1.out, L2.out, L6.out]; simp [h1, h2]
      obtain ⟨q3, hq3⟩ : ∃ q, q = badList m r.outs := ⟨_, rfl⟩
      obtain ⟨q4, hq4⟩ : ∃ q, q = badList m r.bads := ⟨_, rfl⟩
      obtain ⟨q5, hq5⟩ : ∃ q, q = badList m r.cons := ⟨_, rfl⟩
      obtain ⟨q1, hq1⟩ : ∃ q, q = r.ins.any (above m) := ⟨_, rfl⟩
      obtain ⟨q2, hq2⟩ : ∃ q, q = r.lats.any (badLatch m) := ⟨_, rfl⟩
      obtain ⟨q6, hq6⟩ : ∃ q, q = r.gates.any (badGate m) := ⟨_, rfl⟩
      rw [← hq1, ← hq2, ← hq3, ← hq4, ← hq5, ← hq6] at hv
      have g3 : q3 = (decide (1024 < n3) || r.outs.any (above m)) := by rw [hq3, badList, HS.out.s3.lenMap]
      have g4 : q4 = (decide (1024 < n4) || r.bads.any (above m)) := by rw [hq4, badList, HS.out.s4.lenMap]
      have g5 : q5 = (decide (1024 < n5) || r.cons.any (above m)) := by rw [hq5, badList, HS.out.s5.lenMap]
      have HV := Lib.hid hv
      have Q1 := Lib.hid hq1
      have Q2 := Lib.hid hq2
      have Q6 := Lib.hid hq6
      have G3 := Lib.hid g3
      have G4 := Lib.hid g4
      have G5 := Lib.hid g5
      clear hv hq1 hq2 hq3 hq4 hq5 hq6 g3 g4 g5
      have hm' : m ≤ 16384 := by omega
      go_enter Tryd.func67, Tryd.ntmps67
      by_cases t3 : 1024 < n3
      · have e3 : decide ((1024 : Int) < (n3 : Int)) = true := by simp; omega
        have z3 : q3 = true := by rw [G3.out]; simp [t3]
        go_wp2
        refine wp_loop_rounds 4 ?_
        rw [rounds_succ]
        go_wp2
        go_ret
        exact ⟨by rw [HV.out]; simp [z3], ext_trans (ext_alloc _ _) (ext_trans (ext_alloc _ _) (ext_alloc _ _))⟩
      have e3 : decide ((1024 : Int) < (n3 : Int)) = false := by simp; omega
      go_wp2
      refine wp_loop_rounds 4 ?_
      rw [rounds_succ]
      go_wp2_with fail
      generalize hW : World.alloc _ _ = W3
      have F : MayF w W3 m (.slice a1 n1 c1) (.slice a2 n2 c2) (.slice a3 n3 c3) (.slice a4 n4 c4) (.slice a5 n5 c5) (.slice a6 n6 c6) := by
        subst hW
        constructor
        all_goals first
          | exact ext_trans (ext_alloc _ _) (ext_trans (ext_alloc _ _) (ext_alloc _ _))
          | exact cell_new _ _ _ _ _ _ _ (by simp) rfl
          | exact cell_old (cell_new _ _ _ _ _ _ _ (by simp) rfl)
          | exact cell_old (cell_old (cell_new _ _ _ _ _ _ _ rfl rfl))
      clear hW
      obtain ⟨f0, f1, f2, f6, fc, fd0, fd1, fd2, fbel⟩ := F
      have F := Lib.hid (show MayF w W3 m (.slice a1 n1 c1) (.slice a2 n2 c2) (.slice a3 n3 c3) (.slice a4 n4 c4) (.slice a5 n5 c5) (.slice a6 n6 c6) from ⟨f0, f1, f2, f6, fc, fd0, fd1, fd2, fbel⟩)
      refine (has_u32 m w.heap.size r.outs a3 n3 c3 hm' hf3 W3 (HS.out.s3.below fbel) f0).mono ?_
      clear f0 f1 f2 f6 fc fd0 fd1 fd2 fbel
      obtain ⟨p3, hp3⟩ : ∃ p, p = r.outs.any (above m) := ⟨_, rfl⟩
      rw [← hp3]
      rw [← hp3] at G3
      clear hp3
      rintro e V3 ⟨rfl, hb⟩
      replace F := F.out.below hb
      clear hb
      cases p3 with
      | true =>
        have z3 : q3 = true := by rw [G3.out]; simp
        obtain ⟨f0, f1, f2, f6, fc, fd0, fd1, fd2, fbel⟩ := F
        have FB := Lib.hid fbel
        clear fbel
        go_wp2
        go_ret
        exact ⟨by rw [HV.out]; simp [z3], FB.out⟩
      | false =>
      have z3 : q3 = false := by rw [G3.out]; simp [t3]
      have Z3 := Lib.hid z3
      clear z3
      by_cases t4 : 1024 < n4
      · have e4 : decide ((1024 : Int) < (n4 : Int)) = true := by simp; omega
        have z4 : q4 = true := by rw [G4.out]; simp [t4]
        obtain ⟨f0, f1, f2, f6, fc, fd0, fd1, fd2, fbel⟩ := F
        have FB := Lib.hid fbel
        clear fbel
        go_wp2
        rw [rounds_succ]
        go_wp2
        go_ret
        exact ⟨by rw [HV.out]; simp [z4], FB.out⟩
      have e4 : decide ((1024 : Int) < (n4 : Int)) = false := by simp; omega
      obtain ⟨f0, f1, f2, f6, fc, fd0, fd1, fd2, fbel⟩ := F
      have FB := Lib.hid fbel
      clear fbel
      go_wp2
      rw [rounds_succ]
      go_wp2_with fail
      have fbel := FB.out
      have F := Lib.hid (show MayF w V3 m (.slice a1 n1 c1) (.slice a2 n2 c2) (.slice a3 n3 c3) (.slice a4 n4 c4) (.slice a5 n5 c5) (.slice a6 n6 c6) from ⟨f0, f1, f2, f6, fc, fd0, fd1, fd2, fbel⟩)
      refine (has_u32 m w.heap.size r.bads a4 n4 c4 hm' hf4 V3 (HS.out.s4.below fbel) f0).mono ?_
      clear f0 f1 f2 f6 fc fd0 fd1 fd2 fbel
      obtain ⟨p4, hp4⟩ : ∃ p, p = r.bads.any (above m) := ⟨_, rfl⟩
      rw [← hp4]
      rw [← hp4] at G4
      clear hp4
      rintro e V4 ⟨rfl, hb⟩
      replace F := F.out.below hb
      clear hb
      cases p4 with
      | true =>
        have z4 : q4 = true := by rw [G4.out]; simp
        obtain ⟨f0, f1, f2, f6, fc, fd0, fd1, fd2, fbel⟩ := F
        have FB := Lib.hid fbel
        clear fbel
        go_wp2
        go_ret
        exact ⟨by rw [HV.out]; simp [z4], FB.out⟩
      | false =>
      have z4 : q4 = false := by rw [G4.out]; simp [t4]
      have Z4 := Lib.hid z4
      clear z4
      by_cases t5 : 1024 < n5
      · have e5 : decide ((1024 : Int) < (n5 : Int)) = true := by simp; omega
        have z5 : q5 = true := by rw [G5.out]; simp [t5]
        obtain ⟨f0, f1, f2, f6, fc, fd0, fd1, fd2, fbel⟩ := F
        have FB := Lib.hid fbel
        clear fbel
        go_wp2
        rw [rounds_succ]
        go_wp2
        go_ret
        exact ⟨by rw [HV.out]; simp [z5], FB.out⟩
      have e5 : decide ((1024 : Int) < (n5 : Int)) = false := by simp; omega
      obtain ⟨f0, f1, f2, f6, fc, fd0, fd1, fd2, fbel⟩ := F
      have FB := Lib.hid fbel
      clear fbel
      go_wp2
      rw [rounds_succ]
      go_wp2_with fail
      have fbel := FB.out
      have F := Lib.hid (show MayF w V4 m (.slice a1 n1 c1) (.slice a2 n2 c2) (.slice a3 n3 c3) (.slice a4 n4 c4) (.slice a5 n5 c5) (.slice a6 n6 c6) from ⟨f0, f1, f2, f6, fc, fd0, fd1, fd2, fbel⟩)
      refine (has_u32 m w.heap.size r.cons a5 n5 c5 hm' hf5 V4 (HS.out.s5.below fbel) f0).mono ?_
      clear f0 f1 f2 f6 fc fd0 fd1 fd2 fbel
      obtain ⟨p5, hp5⟩ : ∃ p, p = r.cons.any (above m) := ⟨_, rfl⟩
      rw [← hp5]
      rw [← hp5] at G5
      clear hp5
      rintro e V5 ⟨rfl, hb⟩
      replace F := F.out.below hb
      clear hb
      cases p5 with
      | true =>
        have z5 : q5 = true := by rw [G5.out]; simp
        obtain ⟨f0, f1, f2, f6, fc, fd0, fd1, fd2, fbel⟩ := F
        have FB := Lib.hid fbel
        clear fbel
        go_wp2
        go_ret
        exact ⟨by rw [HV.out]; simp [z5], FB.out⟩
      | false =>
      have z5 : q5 = false := by rw [G5.out]; simp [t5]
      have Z5 := Lib.hid z5
      clear z5
      obtain ⟨f0, f1, f2, f6, fc, fd0, fd1, fd2, fbel⟩ := F
      have F := Lib.hid (show MayF w V5 m (.slice a1 n1 c1) (.slice a2 n2 c2) (.slice a3 n3 c3) (.slice a4 n4 c4) (.slice a5 n5 c5) (.slice a6 n6 c6) from ⟨f0, f1, f2, f6, fc, fd0, fd1, fd2, fbel⟩)
      clear fbel
      go_wp2
      rw [rounds_succ]
      go_wp2_with fail
      refine (has_u32 m w.heap.size r.ins a1 n1 c1 hm' hf1 V5 (HS.out.s1.below F.out.bel) f0).mono ?_
      rw [← Q1.out]
      clear f0 f1 f2 f6 fc fd0 fd1 fd2
      rintro e U1 ⟨rfl, hb⟩
      replace F := F.out.below hb
      clear hb
      obtain ⟨f0, f1, f2, f6, fc, fd0, fd1, fd2, fbel⟩ := F
      have F := Lib.hid (show MayF w U1 m (.slice a1 n1 c1) (.slice a2 n2 c2) (.slice a3 n3 c3) (.slice a4 n4 c4) (.slice a5 n5 c5) (.slice a6 n6 c6) from ⟨f0, f1, f2, f6, fc, fd0, fd1, fd2, fbel⟩)
      clear fbel
      cases q1 with
      | true =>
        go_wp2
        go_ret
        exact ⟨by rw [HV.out]; simp, F.out.bel⟩
      | false =>
      go_wp2_with fail
      refine (has_lat m w.heap.size (w.heap.size + 1) r.lats a2 n2 c2 hm' hf2 U1 (HS.out.s2.below F.out.bel) ⟨f0, fc⟩).mono ?_
      rw [← Q2.out]
      clear f0 f1 f2 f6 fc fd0 fd1 fd2
      rintro e U2 ⟨rfl, hb⟩
      replace F := F.out.below hb
      clear hb
      obtain ⟨f0, f1, f2, f6, fc, fd0, fd1, fd2, fbel⟩ := F
      have F := Lib.hid (show MayF w U2 m (.slice a1 n1 c1) (.slice a2 n2 c2) (.slice a3 n3 c3) (.slice a4 n4 c4) (.slice a5 n5 c5) (.slice a6 n6 c6) from ⟨f0, f1, f2, f6, fc, fd0, fd1, fd2, fbel⟩)
      clear fbel
      cases q2 with
      | true =>
        go_wp2
        go_ret
        exact ⟨by rw [HV.out]; simp, F.out.bel⟩
      | false =>
      go_wp2_with fail
      refine (has_gate m w.heap.size (w.heap.size + 1) r.gates a6 n6 c6 hm' hf6 U2 (HS.out.s6.below F.out.bel) ⟨f0, fc⟩).mono ?_
      rw [← Q6.out]
      clear f0 f1 f2 f6 fc fd0 fd1 fd2
      rintro e U6 ⟨rfl, hb⟩
      replace F := F.out.below hb
      clear hb
      have FB := Lib.hid F.bel
      clear F
      go_wp2
      go_ret
      exact ⟨by rw [HV.out, Z3.out, Z4.out, Z5.out]; simp, FB.out⟩
end Go.Proofs.YtkimhlomadmnkaaDoor
