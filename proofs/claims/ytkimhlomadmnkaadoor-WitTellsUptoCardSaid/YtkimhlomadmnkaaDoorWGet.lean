/- wit.Get, by its contract. -/
import Derived.Test.YtkimhlomadmnkaaDoorWFrames
import Derived.Test.YtkimhlomadmnkaaDoorRawPred
namespace Go.Proofs.YtkimhlomadmnkaaDoor
open Go Go.RowKit Go.Joins

def slotsT0 : TSlots := ⟨none, 0, 0, none, 0, 0, []⟩
theorem tr_set {X : World} {g : Nat} {C : Array Value} {t : TypeId} (h : X.heap[g]? = some (.cells C t (0, 0))) (hC : C.size = 3) (u0 u1 u2 : Value) :
    (((X.setCell ⟨g, 0, .none⟩ u0).setCell ⟨g, 1, .none⟩ u1).setCell ⟨g, 2, .none⟩ u2).heap[g]? = some (.cells #[u0, u1, u2] t (0, 0)) := by
  obtain ⟨l⟩ := C
  match l, hC with
  | [_, _, _], _ =>
    have h0 := block_setCell h (i := 0) u0
    have h1 := block_setCell h0 (i := 1) u1
    have h2 := block_setCell h1 (i := 2) u2
    simpa using h2
theorem tr_below {B : Nat} {w X : World} (g : Nat) (hg : B ≤ g) (h : Below B w X) {u0 u1 u2 : Value} : Below B w (((X.setCell ⟨g, 0, .none⟩ u0).setCell ⟨g, 1, .none⟩ u1).setCell ⟨g, 2, .none⟩ u2) := ((h.setCell hg _).setCell hg _).setCell hg _

theorem OwnF.base_le {w : World} {base B : Nat} {v : Value} {ss : List Slc} {fs : List (List UInt8)} (h : OwnF w base v ss fs) (hB : B ≤ base) : OwnF w B v ss fs := ⟨h.row.base_le hB, h.len, fun k hk => (h.each k hk).base_le hB⟩
/-- A trace whose lists are owned. -/
structure OwnT (w : World) (base : Nat) (s : TSlots) (t : TraceC) : Prop where
  o1 : Row isByte w base 5 (.slice s.a1 s.n1 s.c1) t.init.length (t.init.map bv)
  o2 : OwnF w base (.slice s.a2 s.n2 s.c2) s.ss t.frames
theorem OwnT.below {w w' : World} {base : Nat} {s : TSlots} {t : TraceC} (h : OwnT w base s t) (hb : Below w.heap.size w w') : OwnT w' base s t := ⟨h.o1.below hb, h.o2.below hb⟩
theorem OwnT.base_le {w : World} {base B : Nat} {s : TSlots} {t : TraceC} (h : OwnT w base s t) (hB : B ≤ base) : OwnT w B s t := ⟨h.o1.base_le hB, h.o2.base_le hB⟩
theorem OwnT.but {w : World} {base G : Nat} {s : TSlots} {t : TraceC} (h : OwnT w base s t) {C : Array Value} {fr : Nat × Nat} (hz : w.heap[G]? = some (.cells C 39 fr)) {u0 u1 u2 : Value} :
    OwnT (((w.setCell ⟨G, 0, .none⟩ u0).setCell ⟨G, 1, .none⟩ u1).setCell ⟨G, 2, .none⟩ u2) base s t := by
  have hk : ∀ D, D ≠ G → (((w.setCell ⟨G, 0, .none⟩ u0).setCell ⟨G, 1, .none⟩ u1).setCell ⟨G, 2, .none⟩ u2).heap[D]? = w.heap[D]? := fun D hD => by
    rw [Below.heap_setCell _ ⟨G, 2, .none⟩ _ D hD, Below.heap_setCell _ ⟨G, 1, .none⟩ _ D hD, Below.heap_setCell _ ⟨G, 0, .none⟩ _ D hD]
  have rb : ∀ {v : Value} {n : Nat} {xs : List Value}, Row isByte w base 5 v n xs → Row isByte (((w.setCell ⟨G, 0, .none⟩ u0).setCell ⟨G, 1, .none⟩ u1).setCell ⟨G, 2, .none⟩ u2) base 5 v n xs := fun hr => hr.other fun k hk' => hk k (fun e => (hr.not_own hz (by decide)) (by rw [hk', e]))
  exact ⟨rb h.o1, ⟨h.o2.row.other fun k hk' => hk k (fun e => (h.o2.row.not_own hz (by decide)) (by rw [hk', e])), h.o2.len, fun k hkk => rb (h.o2.each k hkk)⟩⟩
theorem OwnT.sees {w : World} {base : Nat} {s : TSlots} {t : TraceC} (h : OwnT w base s t) : SeesTr w s t := ⟨(row_sees_slice h.o1).2, h.o2.sees.2⟩

/-- What Get answers. -/
def GetPost (bs : List UInt8) (latches inputs : Int) (w : World) (e : Ending) (w' : World) : Prop :=
  Below w.heap.size w w' ∧ ((∃ er, getW bs latches inputs = .error er ∧ 2 ≤ er ∧ er ≤ 6 ∧ e = .returned (.tuple #[traceV 0 slotsT0, .int .i64 er])) ∨
    (∃ t s, getW bs latches inputs = .ok t ∧ e = .returned (.tuple #[traceV t.bad s, .int .i64 0]) ∧ OwnT w' w.heap.size s t ∧ s.small))

theorem frames_small {inputs : Int} : ∀ {k : Nat} {fs : List (List UInt8)} {bs r : List UInt8} {gs : List (List UInt8)}, framesS5 inputs k fs bs = .ok (gs, r) → fs.length ≤ 256 → (∀ f ∈ fs, (f.length : Int) = inputs) → 0 ≤ inputs ∧ inputs ≤ 16384 →
    gs.length ≤ 256 ∧ 0 < gs.length ∧ (∀ f ∈ gs, (f.length : Int) = inputs)
  | 0, fs, bs, r, gs, h, _, _, _ => by cases h
  | k + 1, fs, bs, r, gs, h, h1, h2, h3 => by
    cases hc : cutS bs with
    | none => rw [frames_none hc] at h; cases h
    | some p =>
      obtain ⟨l, r1⟩ := p
      by_cases hd : l = [46] ∧ 0 < fs.length
      · rw [frames_dot hc hd] at h
        cases h
        exact ⟨h1, hd.2, h2⟩
      · cases hv : valuesW l inputs with
        | error e => rw [frames_err hc hd hv] at h; cases h
        | ok f =>
          by_cases hm : fs.length = 256
          · rw [frames_many hc hd hv hm] at h; cases h
          · rw [frames_step hc hd hv hm] at h
            refine frames_small h (by simp; omega) (fun g hg => ?_) h3
            rcases List.mem_append.1 hg with hg | hg
            · exact h2 g hg
            · rw [List.mem_singleton] at hg; subst hg; exact (valuesW_len hv).1

theorem Row.set3 {ok : Value → Prop} {w : World} {base G : Nat} {e : TypeId} {v : Value} {n : Nat} {xs : List Value} {u0 u1 u2 : Value} (h : Row ok w base e v n xs) (hG : G < base) :
    Row ok (((w.setCell ⟨G, 0, .none⟩ u0).setCell ⟨G, 1, .none⟩ u1).setCell ⟨G, 2, .none⟩ u2) base e v n xs :=
  h.other fun k hk => by
    have h1 := (h.own.lt k hk).1
    rw [Below.heap_setCell _ ⟨G, 2, .none⟩ _ k (by show k ≠ G; omega), Below.heap_setCell _ ⟨G, 1, .none⟩ _ k (by show k ≠ G; omega), Below.heap_setCell _ ⟨G, 0, .none⟩ _ k (by show k ≠ G; omega)]
theorem OwnF.set3 {w : World} {base G : Nat} {v : Value} {ss : List Slc} {fs : List (List UInt8)} {u0 u1 u2 : Value} (h : OwnF w base v ss fs) (hG : G < base) :
    OwnF (((w.setCell ⟨G, 0, .none⟩ u0).setCell ⟨G, 1, .none⟩ u1).setCell ⟨G, 2, .none⟩ u2) base v ss fs := ⟨h.row.set3 hG, h.len, fun k hk => (h.each k hk).set3 hG⟩

set_option maxRecDepth 100000 in
set_option maxHeartbeats 3200000 in
theorem get_any (bs : List UInt8) (a : Option Addr) (n c : Nat) (la inp : Int) (w : World) (h : Sees w a n c (bs.map bv)) (hla : -9223372036854775808 ≤ la ∧ la < 9223372036854775808) (hin : -9223372036854775808 ≤ inp ∧ inp < 9223372036854775808) :
    Calls Tryd.prog 18 #[.slice a n c, .int .i64 la, .int .i64 inp] w (GetPost bs la inp w) := by
  have hl := h.lenMap
  have HL := Lib.hid hl
  have HS := Lib.hid h
  obtain ⟨W0, hW0⟩ : ∃ W0, W0 = w.alloc (.cells #[.int .i64 0, .slice none 0 0, .slice none 0 0] 39) := ⟨_, rfl⟩
  have hR0 : W0.heap[w.heap.size]? = some (.cells #[.int .i64 0, .slice none 0 0, .slice none 0 0] 39 (0, 0)) := by rw [hW0]; exact heap_new _ _ _ rfl
  have HR0 := Lib.hid hR0
  have HB0 : Hid (Below w.heap.size w W0) := by show Below _ _ _; rw [hW0]; exact ext_alloc _ _
  have HW0 := Lib.hid hW0
  clear h hl hR0 hW0
  by_cases hA : min la inp < 0 ∨ 16384 < max la inp
  · have HE : Hid (getW bs la inp = .error 2) := by show _ = _; unfold getW; rw [if_pos hA]
    rcases hA with hA | hA
    · go_enter Tryd.func18, Tryd.ntmps18
      go_wp2
      rw [← HW0.out]
      refine bodyPost_ret (v := .tuple #[traceV 0 slotsT0, .int .i64 2]) ?_ rfl ?_
      · have h6 := HR0.out
        have g0 := cell_of_block h6 0
        have g1 := cell_of_block h6 1
        have g2 := cell_of_block h6 2
        simp [results, Tryd.results18, go_sem, g0, g1, g2]
        rfl
      · refine ⟨?_, Or.inl ⟨2, HE.out, by decide, by decide, rfl⟩⟩
        exact HB0.out
    · by_cases hA2 : min la inp < 0
      · go_enter Tryd.func18, Tryd.ntmps18
        go_wp2
        rw [← HW0.out]
        refine bodyPost_ret (v := .tuple #[traceV 0 slotsT0, .int .i64 2]) ?_ rfl ?_
        · have h6 := HR0.out
          have g0 := cell_of_block h6 0
          have g1 := cell_of_block h6 1
          have g2 := cell_of_block h6 2
          simp [results, Tryd.results18, go_sem, g0, g1, g2]
          rfl
        · refine ⟨?_, Or.inl ⟨2, HE.out, by decide, by decide, rfl⟩⟩
          exact HB0.out
      · have hA3 : 0 ≤ min la inp := Int.not_lt.1 hA2
        clear hA2
        go_enter Tryd.func18, Tryd.ntmps18
        go_wp2
        rw [← HW0.out]
        refine bodyPost_ret (v := .tuple #[traceV 0 slotsT0, .int .i64 2]) ?_ rfl ?_
        · have h6 := HR0.out
          have g0 := cell_of_block h6 0
          have g1 := cell_of_block h6 1
          have g2 := cell_of_block h6 2
          simp [results, Tryd.results18, go_sem, g0, g1, g2]
          rfl
        · refine ⟨?_, Or.inl ⟨2, HE.out, by decide, by decide, rfl⟩⟩
          exact HB0.out
  have hA1 : 0 ≤ min la inp := by omega
  have hA2 : max la inp ≤ 16384 := by omega
  have hla' : 0 ≤ la ∧ la ≤ 16384 := by omega
  have hin' : 0 ≤ inp ∧ inp ≤ 16384 := by omega
  by_cases hlen : 1048576 < n
  · have HE : Hid (getW bs la inp = .error 3) := by show _ = _; unfold getW; rw [if_neg hA, HL.out, if_pos hlen]
    have hlen' : (1048576 : Int) < (n : Int) := by omega
    clear hA hla hin
    go_enter Tryd.func18, Tryd.ntmps18
    go_wp2
    rw [← HW0.out]
    refine bodyPost_ret (v := .tuple #[traceV 0 slotsT0, .int .i64 3]) ?_ rfl ?_
    · have h6 := HR0.out
      have g0 := cell_of_block h6 0
      have g1 := cell_of_block h6 1
      have g2 := cell_of_block h6 2
      simp [results, Tryd.results18, go_sem, g0, g1, g2]
      rfl
    · refine ⟨?_, Or.inl ⟨3, HE.out, by decide, by decide, rfl⟩⟩
      exact HB0.out
  have hlen' : (n : Int) ≤ 1048576 := by omega
  have HG : Hid (getW bs la inp = getH la inp (headS5 bs)) := by show _ = _; unfold getW; rw [if_neg hA, HL.out, if_neg hlen]
  have HHEAD := Lib.hid (readHead_any bs a n c W0 (HS.out.below HB0.out) (by omega))
  have HLA := Lib.hid hla'
  have HIN := Lib.hid hin'
  have HN := Lib.hid (show n ≤ 1048576 by omega)
  clear hA hlen hla hin hla' hin'
  go_enter Tryd.func18, Tryd.ntmps18
  go_wp2_with fail
  rw [← HW0.out]
  clear hA1 hA2 hlen' HW0
  refine HHEAD.out.mono ?_
  rintro e W1 ⟨hb, ⟨er, hh, h3, h6, rfl⟩ | ⟨bad, r, b1, c1, hh, hbad, hrl, rfl, s1⟩⟩
  · have hR1 := heap_below HR0.out hb
    have HR1 := Lib.hid hR1
    have HB1 := Lib.hid (ext_trans HB0.out hb)
    have e1 : (er != 0) = true := by simp; omega
    have HE : Hid (getW bs la inp = .error er) := by show _ = _; rw [HG.out, hh]; rfl
    have H36 := Lib.hid (show 2 ≤ er ∧ er ≤ 6 by omega)
    clear hb hh h3 h6
    have z0 := cell_of_block hR1 0
    have z1 := cell_of_block hR1 1
    have z2 := cell_of_block hR1 2
    have y0 := unfrozen_of_block hR1 0
    have y1 := unfrozen_of_block hR1 1
    have y2 := unfrozen_of_block hR1 2
    clear hR1
    go_wp2
    refine bodyPost_ret (v := .tuple #[traceV 0 slotsT0, .int .i64 er]) ?_ rfl ?_
    · have h6 := tr_set HR1.out rfl (.int .i64 0) (.slice none 0 0) (.slice none 0 0)
      have g0 := cell_of_block h6 0
      have g1 := cell_of_block h6 1
      have g2 := cell_of_block h6 2
      simp [results, Tryd.results18, go_sem, g0, g1, g2]
      rfl
    · refine ⟨?_, Or.inl ⟨er, HE.out, H36.out.1, H36.out.2, rfl⟩⟩
      with_reducible exact tr_below w.heap.size (Nat.le_refl _) HB1.out
  have HR1 := Lib.hid (heap_below HR0.out hb)
  have HB1 := Lib.hid (ext_trans HB0.out hb)
  have HG1 : Hid (getW bs la inp = getA la inp bad r) := by show _ = _; rw [HG.out, hh]; rfl
  have HBAD := Lib.hid hbad
  have HCUT := Lib.hid (wcut_any r b1 r.length c1 W1 s1 (by have := HL.out; have := HN.out; omega))
  have HRL := Lib.hid (show r.length ≤ 1048576 by have := HL.out; have := HN.out; omega)
  obtain ⟨N1, hN1⟩ : ∃ N, N = r.length := ⟨_, rfl⟩
  rw [← hN1] at HCUT ⊢
  clear hb hh hbad hrl s1 HG HHEAD hN1
  go_wp2_with fail
  refine HCUT.out.mono ?_
  rintro e W2 ⟨hb, ⟨hcs, b2, c2, b3, n3, c3, rfl⟩ | ⟨l, r2, b2, c2, b3, c3, hcs, rfl, s2, s3, _⟩⟩
  · have hR2 := heap_below HR1.out hb
    have HR2 := Lib.hid hR2
    have HB2 := Lib.hid (ext_trans HB1.out hb)
    have HE : Hid (getW bs la inp = .error 4) := by show _ = _; rw [HG1.out]; unfold getA; rw [hcs]
    clear hb hcs
    have z0 := cell_of_block hR2 0
    have z1 := cell_of_block hR2 1
    have z2 := cell_of_block hR2 2
    have y0 := unfrozen_of_block hR2 0
    have y1 := unfrozen_of_block hR2 1
    have y2 := unfrozen_of_block hR2 2
    clear hR2
    go_wp2
    refine bodyPost_ret (v := .tuple #[traceV 0 slotsT0, .int .i64 4]) ?_ rfl ?_
    · have h6 := tr_set HR2.out rfl (.int .i64 0) (.slice none 0 0) (.slice none 0 0)
      have g0 := cell_of_block h6 0
      have g1 := cell_of_block h6 1
      have g2 := cell_of_block h6 2
      simp [results, Tryd.results18, go_sem, g0, g1, g2]
      rfl
    · refine ⟨?_, Or.inl ⟨4, HE.out, by decide, by decide, rfl⟩⟩
      with_reducible exact tr_below w.heap.size (Nat.le_refl _) HB2.out
  have hl2 := (cutS_len hcs).1
  have HR2 := Lib.hid (heap_below HR1.out hb)
  have HB2 := Lib.hid (ext_trans HB1.out hb)
  have HG2 : Hid (getW bs la inp = getB inp bad r2 (valuesW l la)) := by show _ = _; rw [HG1.out]; unfold getA; rw [hcs]
  have HVAL := Lib.hid (values_any l b2 l.length c2 la W2 s2 (by have := HRL.out; omega) (by have := HLA.out; omega))
  have HL2 := Lib.hid (show l.length ≤ 1048576 ∧ r2.length ≤ 1048576 by have := HRL.out; omega)
  have HS3 := Lib.hid s3
  obtain ⟨N2, hN2⟩ : ∃ N, N = l.length := ⟨_, rfl⟩
  rw [← hN2] at HVAL ⊢
  obtain ⟨N3, hN3⟩ : ∃ N, N = r2.length := ⟨_, rfl⟩
  have HN3 := Lib.hid hN3
  rw [← hN3]
  clear hb hcs hl2 s2 s3 HG1 HCUT hN2 hN3
  go_wp2_with fail
  refine HVAL.out.mono ?_
  rintro e W3 ⟨hb, ⟨er, hv, rfl⟩ | ⟨init, sv, hv, rfl, hrow⟩⟩
  · obtain rfl := valuesW_err hv
    have hR3 := heap_below HR2.out hb
    have HR3 := Lib.hid hR3
    have HB3 := Lib.hid (ext_trans HB2.out hb)
    have HE : Hid (getW bs la inp = .error 5) := by show _ = _; rw [HG2.out, hv]; rfl
    clear hb hv
    have z0 := cell_of_block hR3 0
    have z1 := cell_of_block hR3 1
    have z2 := cell_of_block hR3 2
    have y0 := unfrozen_of_block hR3 0
    have y1 := unfrozen_of_block hR3 1
    have y2 := unfrozen_of_block hR3 2
    clear hR3
    go_wp2
    refine bodyPost_ret (v := .tuple #[traceV 0 slotsT0, .int .i64 5]) ?_ rfl ?_
    · have h6 := tr_set HR3.out rfl (.int .i64 0) (.slice none 0 0) (.slice none 0 0)
      have g0 := cell_of_block h6 0
      have g1 := cell_of_block h6 1
      have g2 := cell_of_block h6 2
      simp [results, Tryd.results18, go_sem, g0, g1, g2]
      rfl
    · refine ⟨?_, Or.inl ⟨5, HE.out, by decide, by decide, rfl⟩⟩
      with_reducible exact tr_below w.heap.size (Nat.le_refl _) HB3.out
  have HB23 := Lib.hid hb.size
  have HR3 := Lib.hid (heap_below HR2.out hb)
  have HB3 := Lib.hid (ext_trans HB2.out hb)
  have HG3 : Hid (getW bs la inp = getC bad init (framesS5 inp (r2.length + 1) [] r2)) := by show _ = _; rw [HG2.out, hv]; rfl
  have HIL := Lib.hid (show init.length ≤ 1048576 by have := valuesW_len hv; have := HL2.out; omega)
  have hbase : w.heap.size < W2.heap.size := heap_lt HR2.out
  have HBASE := Lib.hid hbase
  obtain ⟨ia, ic, rfl⟩ := hrow.form
  have HIS := Lib.hid hrow
  have hs3 := HS3.out.below hb
  rw [← HN3.out] at hs3
  have HFR := Lib.hid (readFrames_any r2 b3 N3 c3 inp W3 hs3 (by have := HL2.out; have := HN3.out; omega) (by have := HIN.out; omega))
  obtain ⟨N4, hN4⟩ : ∃ N, N = init.length := ⟨_, rfl⟩
  have HN4 := Lib.hid hN4
  rw [← hN4]
  clear hb hv hrow hs3 HG2 HVAL hN4 hbase
  go_wp2_with fail
  refine HFR.out.mono ?_
  rintro e W4 ⟨hb, ⟨er, hv, h3, h6, rfl⟩ | ⟨fs, r3, ss, vf, b4, c4, hv, rfl, hown, s4⟩⟩
  · have hR4 := heap_below HR3.out hb
    have HR4 := Lib.hid hR4
    have HB4 := Lib.hid (ext_trans HB3.out hb)
    have e1 : (er != 0) = true := by simp; omega
    have HE : Hid (getW bs la inp = .error er) := by show _ = _; rw [HG3.out, hv]; rfl
    have H36 := Lib.hid (show 2 ≤ er ∧ er ≤ 6 by omega)
    clear hb hv h3 h6
    have z0 := cell_of_block hR4 0
    have z1 := cell_of_block hR4 1
    have z2 := cell_of_block hR4 2
    have y0 := unfrozen_of_block hR4 0
    have y1 := unfrozen_of_block hR4 1
    have y2 := unfrozen_of_block hR4 2
    clear hR4
    go_wp2
    refine bodyPost_ret (v := .tuple #[traceV 0 slotsT0, .int .i64 er]) ?_ rfl ?_
    · have h6 := tr_set HR4.out rfl (.int .i64 0) (.slice none 0 0) (.slice none 0 0)
      have g0 := cell_of_block h6 0
      have g1 := cell_of_block h6 1
      have g2 := cell_of_block h6 2
      simp [results, Tryd.results18, go_sem, g0, g1, g2]
      rfl
    · refine ⟨?_, Or.inl ⟨er, HE.out, H36.out.1, H36.out.2, rfl⟩⟩
      with_reducible exact tr_below w.heap.size (Nat.le_refl _) HB4.out
  obtain ⟨fa, fc, rfl⟩ := hown.row.form
  have hR4 := heap_below HR3.out hb
  have HR4 := Lib.hid hR4
  have HB4 := Lib.hid (ext_trans HB3.out hb)
  have HG4 : Hid (getW bs la inp = if r3 = [] then .ok ⟨bad, init, fs⟩ else .error 5) := by show _ = _; rw [HG3.out, hv]; rfl
  have HIS4 := Lib.hid (HIS.out.below hb)
  have HOWN := Lib.hid hown
  have HSM : Hid (fs.length ≤ 1048576 ∧ ∀ x ∈ ss, x.2.1 ≤ 1048576) := by
    have hf := frames_small hv (by simp) (by simp) HIN.out
    have hs := hown.sees.2
    refine ⟨by omega, all_of_getD (d := slc0) (fun k hk => ?_)⟩
    have h1 := (hs.each k (by rw [← hs.len]; exact hk)).lenMap
    have h2 := hf.2.2 (fs.getD k []) (getD_mem (by rw [← hs.len]; exact hk))
    omega
  obtain ⟨N5, hN5⟩ : ∃ N, N = r3.length := ⟨_, rfl⟩
  obtain ⟨N6, hN6⟩ : ∃ N, N = fs.length := ⟨_, rfl⟩
  have HN6 := Lib.hid hN6
  rw [← hN5, ← hN6]
  by_cases hr3 : r3 = []
  · have e0 : N5 = 0 := by rw [hN5, hr3]; rfl
    subst e0
    have HE : Hid (getW bs la inp = .ok ⟨bad, init, fs⟩) := by show _ = _; rw [HG4.out, if_pos hr3]
    clear hb hv hown s4 hN5 hN6 hr3
    have z0 := cell_of_block hR4 0
    have z1 := cell_of_block hR4 1
    have z2 := cell_of_block hR4 2
    have y0 := unfrozen_of_block hR4 0
    have y1 := unfrozen_of_block hR4 1
    have y2 := unfrozen_of_block hR4 2
    clear hR4
    go_wp2
    refine bodyPost_ret (v := .tuple #[traceV (bad : Nat) ⟨ia, N4, ic, fa, N6, fc, ss⟩, .int .i64 0]) ?_ rfl ?_
    · have h6 := tr_set HR4.out rfl (.int .i64 (bad : Nat)) (.slice ia N4 ic) (.slice fa N6 fc)
      have g0 := cell_of_block h6 0
      have g1 := cell_of_block h6 1
      have g2 := cell_of_block h6 2
      simp [results, Tryd.results18, go_sem, g0, g1, g2]
      rfl
    · have hbel : Below w.heap.size w (((W4.setCell ⟨w.heap.size, 0, .none⟩ (.int .i64 (bad : Nat))).setCell ⟨w.heap.size, 1, .none⟩ (.slice ia N4 ic)).setCell ⟨w.heap.size, 2, .none⟩ (.slice fa N6 fc)) := tr_below w.heap.size (Nat.le_refl _) HB4.out
      refine ⟨hbel, Or.inr ⟨⟨bad, init, fs⟩, ⟨ia, N4, ic, fa, N6, fc, ss⟩, HE.out, rfl, ?_, ?_⟩⟩
      · have h1 := HIS4.out.set3 (G := w.heap.size) (u0 := .int .i64 (bad : Nat)) (u1 := .slice ia N4 ic) (u2 := .slice fa N6 fc) HBASE.out
        have h2 := HOWN.out.set3 (G := w.heap.size) (u0 := .int .i64 (bad : Nat)) (u1 := .slice ia N4 ic) (u2 := .slice fa N6 fc) (Nat.lt_of_lt_of_le HBASE.out HB23.out)
        rw [← HN4.out] at h1
        rw [← HN6.out] at h2
        exact ⟨by have := h1.base_le (Nat.le_of_lt HBASE.out); rw [HN4.out] at this ⊢; exact this, h2.base_le (Nat.le_trans (Nat.le_of_lt HBASE.out) HB23.out)⟩
      · exact ⟨by have := HIL.out; have := HN4.out; simp only; omega, by have := HSM.out.1; have := HN6.out; simp only; omega, HSM.out.2⟩
  · have e0 : (0 : Int) < (N5 : Int) := by
      have : 0 < r3.length := List.length_pos_iff.2 hr3
      omega
    have HE : Hid (getW bs la inp = .error 5) := by show _ = _; rw [HG4.out, if_neg hr3]
    clear hb hv hown s4 hN5 hN6 hr3
    have z0 := cell_of_block hR4 0
    have z1 := cell_of_block hR4 1
    have z2 := cell_of_block hR4 2
    have y0 := unfrozen_of_block hR4 0
    have y1 := unfrozen_of_block hR4 1
    have y2 := unfrozen_of_block hR4 2
    clear hR4
    go_wp2
    refine bodyPost_ret (v := .tuple #[traceV 0 slotsT0, .int .i64 5]) ?_ rfl ?_
    · have h6 := tr_set HR4.out rfl (.int .i64 0) (.slice none 0 0) (.slice none 0 0)
      have g0 := cell_of_block h6 0
      have g1 := cell_of_block h6 1
      have g2 := cell_of_block h6 2
      simp [results, Tryd.results18, go_sem, g0, g1, g2]
      rfl
    · refine ⟨?_, Or.inl ⟨5, HE.out, by decide, by decide, rfl⟩⟩
      with_reducible exact tr_below w.heap.size (Nat.le_refl _) HB4.out
end Go.Proofs.YtkimhlomadmnkaaDoor
