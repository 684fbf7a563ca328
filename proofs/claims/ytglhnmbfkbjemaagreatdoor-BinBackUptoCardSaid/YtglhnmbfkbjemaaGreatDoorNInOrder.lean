/- norm.inOrder, by its contract. -/
import Derived.Test.YtglhnmbfkbjemaaGreatDoorBkN
import Derived.Deep.RegionHeld3
import Derived.Deep.CutRange
namespace Go.Proofs.YtglhnmbfkbjemaaGreatDoor
open Go Go.RowKit Go.Joins
def slen : Value → Nat | .slice _ m _ => m | _ => 0
theorem QP.below {w w' : World} {q : Nat} {l : List Nat} (h : QP w q l) (hb : Below w.heap.size w w') : QP w' q l := by
  obtain ⟨v, h1, h2⟩ := h
  exact ⟨v, heap_below h1 hb, h2.below hb⟩
theorem perm_len {l : List Nat} {p : Nat → Bool} {n : Nat} (h : l.Perm ((List.range n).filter p)) : l.length ≤ n := by
  rw [h.length_eq]
  exact Nat.le_trans (List.length_filter_le _ _) (by simp)
theorem ready_snoc (gs : List Tri) (k : Nat) : (List.range (k + 1)).filter (readyB gs []) = (List.range k).filter (readyB gs []) ++ (if wt gs [] k = 0 then [k] else []) := by
  rw [List.range_succ, List.filter_append]
  congr 1
  by_cases h : wt gs [] k = 0 <;> simp [readyB, h]
theorem qkeep_from {wr W w1 : World} {q : Nat} (hb : Below wr.heap.size wr W) (hk : QKeep q W w1) (hq : q < wr.heap.size) : wr.heap.size ≤ w1.heap.size ∧ QKeep q wr w1 :=
  ⟨Nat.le_trans hb.size hk.low.size, ⟨(hb.mono (Nat.le_of_lt hq)).trans hk.low, fun D C t fr hD h1 h2 => hk.oth D C t fr (heap_below hD hb) h1 h2⟩⟩
theorem popA {wr w1 : World} {q : Nat} {l' : List Nat} (C : Array Value) (t : TypeId) (hk : QKeep q wr w1) (hs : wr.heap.size ≤ w1.heap.size) (hQ : QP w1 q l') :
    QP (w1.alloc (.cells C t)) q l' ∧ (w1.alloc (.cells C t)).heap[w1.heap.size]? = some (.cells C t (0, 0)) ∧ QKeep q wr (w1.alloc (.cells C t)) ∧ wr.heap.size ≤ w1.heap.size :=
  ⟨hQ.below (ext_alloc _ _), heap_new _ _ _ rfl, hk.trans ⟨(ext_alloc _ _).mono (Nat.le_of_lt (by obtain ⟨v, h, _⟩ := hQ; exact heap_lt h)), fun _ _ _ _ h _ _ => heap_below h (ext_alloc _ _)⟩, hs⟩
theorem popB {wr w1 : World} {q : Nat} {l' : List Nat} (x1 x2 x3 : Nat) (hk : QKeep q wr w1) (_hs : wr.heap.size ≤ w1.heap.size) (hQ : QP w1 q l') (hz : w1.heap[wr.heap.size]? = some (.cells #[.int .u32 0, .int .u32 0, .int .u32 0] 58 (0, 0))) (hq : q < wr.heap.size) :
    QP (((w1.setCell ⟨wr.heap.size, 0, .none⟩ (.int .u32 x1)).setCell ⟨wr.heap.size, 1, .none⟩ (.int .u32 x2)).setCell ⟨wr.heap.size, 2, .none⟩ (.int .u32 x3)) q l' ∧ (((w1.setCell ⟨wr.heap.size, 0, .none⟩ (.int .u32 x1)).setCell ⟨wr.heap.size, 1, .none⟩ (.int .u32 x2)).setCell ⟨wr.heap.size, 2, .none⟩ (.int .u32 x3)).heap[wr.heap.size]? = some (.cells #[.int .u32 x1, .int .u32 x2, .int .u32 x3] 58 (0, 0)) ∧ QKeep q wr (((w1.setCell ⟨wr.heap.size, 0, .none⟩ (.int .u32 x1)).setCell ⟨wr.heap.size, 1, .none⟩ (.int .u32 x2)).setCell ⟨wr.heap.size, 2, .none⟩ (.int .u32 x3)) ∧ wr.heap.size ≤ wr.heap.size := by
  have keep : ∀ D, D ≠ wr.heap.size → (((w1.setCell ⟨wr.heap.size, 0, .none⟩ (.int .u32 x1)).setCell ⟨wr.heap.size, 1, .none⟩ (.int .u32 x2)).setCell ⟨wr.heap.size, 2, .none⟩ (.int .u32 x3)).heap[D]? = w1.heap[D]? := fun D h => by
    rw [Below.heap_setCell _ ⟨wr.heap.size, 2, .none⟩ _ D h, Below.heap_setCell _ ⟨wr.heap.size, 1, .none⟩ _ D h, Below.heap_setCell _ ⟨wr.heap.size, 0, .none⟩ _ D h]
  have h0 := block_setCell hz (i := 0) (.int .u32 x1)
  have h1 := block_setCell h0 (i := 1) (.int .u32 x2)
  have h2 := block_setCell h1 (i := 2) (.int .u32 x3)
  refine ⟨?_, by simpa using h2, ⟨((hk.low.setCell (by show q ≤ wr.heap.size; omega) _).setCell (by show q ≤ wr.heap.size; omega) _).setCell (by show q ≤ wr.heap.size; omega) _, fun D C t fr hD e1 e2 => ?_⟩, Nat.le_refl _⟩
  · obtain ⟨v, g1, g2⟩ := hQ
    refine ⟨v, (keep q (by omega)).trans g1, g2.other fun k hk' => keep k ?_⟩
    intro e
    exact (g2.not_own hz (by decide)) (by rw [hk', e])
  · exact (keep D (by have := heap_lt hD; omega)).trans (hk.oth D C t fr hD e1 e2)
theorem own3_keep {q : Nat} {w w' : World} {v : Value} {xs : List Tri} (h : own3 58 w (q + 1) v xs) (hk : QKeep q w w') : own3 58 w' (q + 1) v xs := by
  refine ⟨h.1, ?_⟩
  rcases h.2 with h2 | ⟨g, cap, cur, rfl, hg, hh, r⟩
  · exact .inl h2
  · exact .inr ⟨g, cap, cur, rfl, hg, hk.oth g cur _ _ hh (by omega) (by decide), r⟩
theorem QP.grown {w w' : World} {q : Nat} {l : List Nat} {v : Value} {n : Nat} {xs : List Value} (h : QP w q l) (hr : w.ownsRow (q + 1) 58 3 v n xs) (hg : w.grownBy w' v.ownBlock) : QP w' q l := by
  obtain ⟨u, h1, h2⟩ := h
  refine ⟨u, heap_grown h1 hg (ownsN_notown hr h1 (by decide)), h2.other fun k hk => ?_⟩
  have hlt := (h2.own.lt k hk).2
  refine hg.block k hlt ?_
  intro e
  rcases h2.2 with ⟨rfl, _⟩ | ⟨g, cap, cur, rfl, _, hh, _⟩
  · cases hk
  · have : g = k := by simpa [Value.ownBlock] using hk
    subst this
    exact (ownsN_notown hr hh (by decide)) e.symm
theorem QP.set_low {w : World} {q T i : Nat} {l : List Nat} (h : QP w q l) (hT : T < q) (u : Value) : QP (w.setCell ⟨T, i, .none⟩ u) q l := by
  obtain ⟨v, h1, h2⟩ := h
  refine ⟨v, (Below.heap_setCell w ⟨T, i, .none⟩ u q (by show q ≠ T; omega)).trans h1, h2.other fun k hk => Below.heap_setCell w ⟨T, i, .none⟩ u k ?_⟩
  have := (h2.own.lt k hk).1
  show k ≠ T
  omega
theorem own3_set_low {w : World} {q T i : Nat} {v : Value} {xs : List Tri} (h : own3 58 w (q + 1) v xs) (hT : T < q) (u : Value) : own3 58 (w.setCell ⟨T, i, .none⟩ u) (q + 1) v xs := by
  refine ownsN_other h (fun k hk => Below.heap_setCell w ⟨T, i, .none⟩ u k ?_)
  have := (h.lt k hk).1
  show k ≠ T
  omega
theorem but2_set {q T i : Nat} {W w : World} (h : But2 q T T W w) (u : Value) : But2 q T T W (w.setCell ⟨T, i, .none⟩ u) :=
  ⟨h.os, h.tape, h.output, by have := h.size; simpa using this, fun D h1 h2 h3 => (Below.heap_setCell w ⟨T, i, .none⟩ u D h2).trans (h.block D h1 h2 h3)⟩
theorem triCs_snoc (l : List Tri) (a b c : Nat) : triCs (l ++ [(a, b, c)]) = triCs l ++ [.int .u32 a, .int .u32 b, .int .u32 c] := by
  rw [triCs_append]; rfl
def InOrderPost (r : RawC) (w : World) (e : Ending) (w' : World) : Prop :=
  ∃ v, e = .returned v ∧ own3 58 w' w.heap.size v (inOrderS r.gates) ∧ Below w.heap.size w w'
set_option maxRecDepth 100000 in
set_option maxHeartbeats 6400000 in
theorem inorder_any (r : RawC) (s : Slots) (w : World) (h : SeesRaw w s r) (hf : s.small) (hm : r.max ≤ 16384) (hlit : ∀ g ∈ r.gates, g.1 / 2 ≤ r.max ∧ g.2.1 / 2 ≤ r.max ∧ g.2.2 / 2 ≤ r.max) (hap : Apart r.gates) (hn20 : r.gates.length ≤ 20000) :
    Calls Tryz.prog 70 #[rawV r.max s] w (InOrderPost r w) := by
  obtain ⟨ig, hig, hzg0, hzg1, hzg2⟩ := info_parts info_gate
  have HO := fun W hb => deps_any r s W (h.below hb) hf hm hlit
  obtain ⟨a1, n1, c1, a2, n2, c2, a3, n3, c3, a4, n4, c4, a5, n5, c5, a6, n6, c6⟩ := s
  obtain ⟨hf1, hf2, hf3, hf4, hf5, hf6⟩ := hf
  simp only at hf1 hf2 hf3 hf4 hf5 hf6
  obtain ⟨m, hmm⟩ : ∃ m, m = r.max := ⟨_, rfl⟩
  have l6 : r.gates.length = n6 := h.s6.1
  rw [l6] at hn20
  have HM := Lib.hid hmm
  have L6 := Lib.hid l6
  have HS := Lib.hid h
  have HLT := Lib.hid hlit
  have HAP := Lib.hid hap
  have HDEPS := Lib.hid HO
  rw [← hmm] at hm HDEPS ⊢
  clear hmm l6 h hlit hap HO
  unfold rawV
  go_enter Tryz.func70, Tryz.ntmps70
  go_wp2_with fail
  generalize hW : World.alloc _ _ = W1
  have B1 : Below w.heap.size w W1 := by subst hW; exact ext_alloc _ _
  have hX : W1.heap[w.heap.size]? = some (.cells #[.int .u32 m, .slice a1 n1 c1, .slice a2 n2 c2, .slice a3 n3 c3, .slice a4 n4 c4, .slice a5 n5 c5, .slice a6 n6 c6] 39 (0, 0)) := by subst hW; exact heap_new _ _ _ rfl
  clear hW
  refine (HDEPS.out W1 B1).mono ?_
  rintro e W2 ⟨U, T, base, uv, rfl, hdep, hUb, hTb, hUT, hbs, hwU, hwT, hb⟩
  rw [← HM.out, L6.out] at hdep ⊢
  have hX2 := heap_below hX hb
  have hlt1 := heap_lt hX
  have HX2 := Lib.hid hX2
  have HDP := Lib.hid hdep
  have HB2 := Lib.hid (ext_trans B1 hb)
  obtain ⟨q, hq⟩ : ∃ q, q = W2.heap.size := ⟨_, rfl⟩
  have HQ := Lib.hid hq
  have hbq : base ≤ q := by omega
  have hwq : w.heap.size < q := by omega
  have hwT' : w.heap.size < T := by omega
  have hwU' : w.heap.size < U := by omega
  have hq2 : W2.heap.size = q := hq.symm
  clear hX hX2 B1 hb hdep HDEPS hlt1 hq
  go_wp2
  have HQ2 := Lib.hid hq2
  generalize hW : World.alloc W2 _ = W3
  have B3 : Below W2.heap.size W2 W3 := by subst hW; exact ext_alloc _ _
  have hqv : W3.heap[q]? = some (.cells #[.slice none 0 0] 149 (0, 0)) := by subst hW; exact heap_new _ _ _ HQ.out
  have h3s : q < W3.heap.size := heap_lt hqv
  clear hW
  have HB3 := Lib.hid B3
  have HQP : Hid (QP W3 q []) := ⟨_, hqv, Row.nil _ _ _ _⟩
  clear B3 hqv
  go_loopw [19] (fun i wr => ∃ (k : Nat) (l : List Nat), k ≤ n6 ∧ i = .int .i64 k ∧ Hid (QP wr q l) ∧ Hid (HeapN l l.length) ∧ Hid (l.Perm ((List.range k).filter (readyB r.gates []))) ∧ Hid (QKeep q W3 wr))
    (fun i _ => n6 - (intOf i).toNat)
  case atStart => exact ⟨0, [], Nat.zero_le _, rfl, HQP.out, heap_nil, List.Perm.refl _, QKeep.refl _ _⟩
  case round =>
    clear HQP
    obtain ⟨k, l, hk, rfl, hQ, hH, hP, hK⟩ := hrel
    have hlow : Below W2.heap.size W2 wr := HB3.out.trans (by rw [HQ2.out]; exact hK.out.low)
    by_cases hlt2 : k < n6
    · have hc := (cell_of_block (heap_below HDP.out.waits hlow) k).trans (fcells_get _ _ _ hlt2)
      rw [show 2 * n6 = 2 * r.gates.length by rw [L6.out], waitsT_all _ _ (by rw [L6.out]; exact hlt2)] at hc
      have hll := perm_len hP.out
      obtain ⟨c, hcc⟩ : ∃ c, c = wt r.gates [] k := ⟨_, rfl⟩
      rw [← hcc] at hc
      have HC := Lib.hid hcc
      unfold iv at hc
      have W1' : IntKind.i64.wrap ((k : Int) + 1) = (k : Int) + 1 := IntWalk.i64_in _ (by omega)
      clear hcc hlow
      by_cases h0 : c = 0
      · subst h0
        go_wp2_with fail
        refine (hpush_q q k l wr hQ.out hH.out (by omega)).mono ?_
        rintro e w2 ⟨rfl, l', hQ', hH', hP', hK'⟩
        have HQ1 := Lib.hid hQ'
        have HH1 := Lib.hid hH'
        have HP1 : Hid (l'.Perm ((List.range (k + 1)).filter (readyB r.gates []))) := by
          show List.Perm _ _
          rw [ready_snoc, if_pos HC.out.symm]
          exact hP'.trans ((hP.out.cons k).trans (List.perm_append_comm (l₁ := [k])))
        have HK1 := Lib.hid (hK.out.trans hK')
        clear hQ' hH' hP' hK' hQ hH hP hK
        go_wp2
        go_roundw
        case rel => exact ⟨k + 1, l', by omega, by go_num, HQ1, HH1, HP1, HK1⟩
        case measure => simp [intOf]; omega
      · have e1 : ((c : Int) == 0) = false := by simp; omega
        have HP1 : Hid (l.Perm ((List.range (k + 1)).filter (readyB r.gates []))) := by
          show List.Perm _ _
          rw [ready_snoc, if_neg (by rw [← HC.out]; exact h0), List.append_nil]
          exact hP.out
        have H0 := Lib.hid h0
        clear h0 hP
        go_wp2
        go_roundw
        case rel => exact ⟨k + 1, l, by omega, by go_num, hQ, hH, HP1, hK⟩
        case measure => simp [intOf]; omega
    · obtain rfl : n6 = k := by omega
      have hcur : wr.heap[T]? = some (.cells (fcells n6 (fun i => iv (wt r.gates [] i))) 3 (0, 0)) := by
        have h1 := heap_below HDP.out.waits hlow
        rw [h1]
        congr 2
        refine fcells_congr (fun i hi => ?_)
        rw [show 2 * n6 = 2 * r.gates.length by rw [L6.out], waitsT_all _ _ (by rw [L6.out]; exact hi)]
      have HCUR := Lib.hid hcur
      have HBUT : Hid (But2 q T T W2 wr) := But2.of_below (by rw [← HQ2.out]; exact hlow)
      have HQP := Lib.hid hQ.out
      have HH0 := Lib.hid hH.out
      have HP0 : Hid (l.Perm ((List.range r.gates.length).filter (readyB r.gates []))) := by
        show List.Perm _ _
        rw [L6.out]; exact hP.out
      have hsz3 : q < wr.heap.size := Nat.lt_of_lt_of_le h3s hK.out.low.size
      clear hQ hH hP hK hcur hlow hk hlt2
      go_wp2
      go_loopw [8] (fun gv wr => ∃ (gl : List Tri) (nd l : List Nat) (a c : _), gv = .slice a gl.length c ∧ gl.length ≤ n6 ∧ Hid (own3 58 wr (q + 1) gv gl) ∧ Hid (QP wr q l) ∧ Hid (HeapN l l.length) ∧ Hid (l.Perm ((List.range r.gates.length).filter (readyB r.gates nd))) ∧ Hid (Numbered r.gates gl nd) ∧ Hid (wr.heap[T]? = some (.cells (fcells n6 (fun i => iv (wt r.gates nd i))) 3 (0, 0))) ∧ Hid (But2 q T T W2 wr) ∧ q < wr.heap.size)
        (fun gv _ => n6 - slen gv)
      case atStart => exact ⟨[], [], l, none, 0, rfl, Nat.zero_le _, own3_nil _ _ _, HQP.out, HH0.out, HP0.out, Numbered.start _, HCUR.out, HBUT.out, hsz3⟩
      case round =>
        clear HQP HH0 HP0 HCUR HBUT hsz3
        obtain ⟨gl, nd, l, ga, gc, rfl, hgl, hO, hQ, hH, hP, hN, hC, hB, hsz⟩ := hrel
        obtain ⟨qv, hqv, hqr⟩ := hQ.out
        obtain ⟨qa, qc, rfl⟩ := hqr.form
        have hqc := cell_of_block hqv 0
        have hqc' : wr.cell? ⟨q, 0, none⟩ = some (.slice qa l.length qc) := hqc
        clear hqv hqr hqc
        go_wp2_with fail
        refine (rlen_any qa l.length qc wr).mono ?_
        rintro e w2 ⟨rfl, rfl⟩
        by_cases h0 : l.length = 0
        · have e1 : decide (0 < l.length) = false := by rw [h0]; rfl
          have HL0 := Lib.hid h0
          clear h0 hqc'
          go_wp2
          go_ret
          have hl : l = [] := List.eq_nil_of_length_eq_zero HL0.out
          have hP' := hP.out
          rw [hl] at hP'
          have hfin := hN.out.fin hP'.symm.eq_nil
          refine ⟨_, rfl, ?_, ?_⟩
          · rw [← hfin]
            exact ownsN_base hO.out (by omega)
          · exact HB2.out.trans (hB.out.low (by omega) (by omega) (by omega))
        · obtain ⟨m', hm'⟩ : ∃ m', l.length = m' + 1 := ⟨l.length - 1, by omega⟩
          have e1 : decide (0 < l.length) = true := decide_eq_true (by omega)
          have hll := perm_len hP.out
          rw [L6.out] at hll
          have hxm : l.getD 0 0 ∈ (List.range r.gates.length).filter (readyB r.gates nd) := hP.out.mem_iff.1 (getD_mem (by omega))
          obtain ⟨x, hx⟩ : ∃ x, x = l.getD 0 0 := ⟨_, rfl⟩
          rw [← hx] at hxm
          have hxn : x < n6 := by
            have := List.mem_range.1 (List.mem_filter.1 hxm).1
            rw [L6.out] at this
            exact this
          have HX := Lib.hid hx
          have HM' := Lib.hid hm'
          have HXM := Lib.hid hxm
          have hX := hB.out.at HX2.out (by omega) (by omega) (by omega)
          have pX := cell_of_block hX 6
          obtain ⟨b, off, rfl, hbw⟩ := HS.out.s6.addr (show 0 < n6 by omega)
          have hlow : Below w.heap.size w wr := HB2.out.trans (hB.out.low (by omega) (by omega) (by omega))
          obtain ⟨qx, qy, qz⟩ := (HS.out.s6.below hlow).cells x hxn (0, 0, 0)
          obtain ⟨t, ht⟩ : ∃ t, t = r.gates.getD x (0, 0, 0) := ⟨_, rfl⟩
          rw [← ht] at qx qy qz
          have HT := Lib.hid ht
          obtain ⟨x1, x2, x3⟩ := t
          unfold nv32 at qx qy qz
          have ta : ∀ W, (Instr.typeAssert (.iface 3 (.int .i64 x)) 20 3 false).run Tryz.prog W = .ok (.int .i64 x) W := fun _ => by kernel_rfl
          have HPOP : Hid (∀ W, Below wr.heap.size wr W → Calls Tryz.prog 103 #[.iface 151 (.pointer (some ⟨q, 0, .none⟩))] W fun e w' => e = .returned (.iface 3 (.int .i64 x)) ∧ ∃ l', QP w' q l' ∧ HeapN l' l'.length ∧ l.Perm (x :: l') ∧ QKeep q W w') := by
            intro W hW
            rw [hx]
            exact hpop_q q m' l W (hQ.out.below hW) hH.out hm' (by omega)
          clear hx hm' hxm hX hlow ht h0 hqc'
          have KEEPS : ∀ W w1 : World, Below wr.heap.size wr W → QKeep q W w1 → (w1.cell? ⟨w.heap.size, 6, none⟩ = some (.slice (some ⟨b, off, none⟩) n6 c6) ∧ w1.cell? ⟨b, off + x * 3, none⟩ = some (.int .u32 x1) ∧ w1.cell? ⟨b, off + x * 3 + 1, none⟩ = some (.int .u32 x2) ∧ w1.cell? ⟨b, off + x * 3 + 2, none⟩ = some (.int .u32 x3)) := by
            intro W w1 hb hk
            have hl : Below q wr w1 := (hb.mono (Nat.le_of_lt hsz)).trans hk.low
            exact ⟨(hl.cell (p := ⟨w.heap.size, 6, none⟩) hwq).trans pX, (hl.cell (p := ⟨b, off + x * 3, none⟩) (by show b < q; omega)).trans qx, (hl.cell (p := ⟨b, off + x * 3 + 1, none⟩) (by show b < q; omega)).trans qy, (hl.cell (p := ⟨b, off + x * 3 + 2, none⟩) (by show b < q; omega)).trans qz⟩
          have pX' : wr.cell? ⟨w.heap.size, 6, none⟩ = some (.slice (some ⟨b, off, none⟩) n6 c6) := pX
          have pX2 := cell_below pX' (ext_alloc wr (.cells #[.int .u32 0, .int .u32 0, .int .u32 0] 58))
          go_upto_region 11 with fail
          go_cut [9] from 31 to 71 (fun gp wx => ∃ (G : Nat) (l' : List Nat), gp = .pointer (some ⟨G, 0, .none⟩) ∧ Hid (QP wx q l') ∧ Hid (HeapN l' l'.length) ∧ Hid (l.Perm (x :: l')) ∧ Hid (wx.heap[G]? = some (.cells #[.int .u32 x1, .int .u32 x2, .int .u32 x3] 58 (0, 0))) ∧ Hid (QKeep q wr wx) ∧ wr.heap.size ≤ G)
          case first =>
            go_region_with (go_at_call 103; refine (HPOP.out _ (by first | exact Below.refl _ _ | exact (Below.refl _ _).drew | exact ((Below.refl _ wr).alloc (Nat.le_refl _) _).drew | exact (((Below.refl _ wr).drew).alloc (Nat.le_refl _) _))).mono ?_; rintro e w1 ⟨rfl, l', hQ', hH', hP', hK'⟩; obtain ⟨hbw1, hkw1⟩ := qkeep_from (by first | exact Below.refl _ _ | exact (Below.refl _ _).drew | exact ((Below.refl _ wr).alloc (Nat.le_refl _) _).drew | exact (((Below.refl _ wr).drew).alloc (Nat.le_refl _) _)) hK' hsz; obtain ⟨g6, gx, gy, gz⟩ := KEEPS wr w1 (Below.refl _ _) hkw1; have g62 := cell_below g6 (ext_alloc w1 (.cells #[.int .u32 0, .int .u32 0, .int .u32 0] 58)); have gx2 := cell_below gx (ext_alloc w1 (.cells #[.int .u32 0, .int .u32 0, .int .u32 0] 58)); have gy2 := cell_below gy (ext_alloc w1 (.cells #[.int .u32 0, .int .u32 0, .int .u32 0] 58)); have gz2 := cell_below gz (ext_alloc w1 (.cells #[.int .u32 0, .int .u32 0, .int .u32 0] 58)); try (have hz := hK'.oth wr.heap.size #[.int .u32 0, .int .u32 0, .int .u32 0] 58 (0, 0) (heap_new _ _ _ rfl) (by omega) (by decide); have z0 := cell_of_block hz 0; have z1 := cell_of_block hz 1; have z2 := cell_of_block hz 2; have y0 := unfrozen_of_block hz 0; have y1 := unfrozen_of_block hz 1; have y2 := unfrozen_of_block hz 2))
            all_goals go_wp2_with fail
            all_goals go_meet
            all_goals first
              | (obtain ⟨r1, r2, r3, r4⟩ := popA #[.int .u32 x1, .int .u32 x2, .int .u32 x3] 58 hkw1 hbw1 hQ'; exact ⟨_, l', rfl, r1, hH', hP', r2, r3, r4⟩)
              | (obtain ⟨r1, r2, r3, r4⟩ := popB x1 x2 x3 hkw1 hbw1 hQ' hz hsz; exact ⟨_, l', rfl, r1, hH', hP', r2, r3, r4⟩)
          case rest =>
            obtain ⟨G, l', rfl, hQ1, hH1, hP1, hG1, hK1, hGs⟩ := hcut
            have hps := pop_start HAP.out hP.out (fun k hk => by rw [HX.out]; exact heap_min hH.out k hk) hP1.out
            have hgx : gAt r.gates x = (x1, x2, x3) := HT.out.symm
            have hvx : varAt r.gates x = x1 / 2 := by unfold varAt; rw [hgx]
            obtain ⟨_, hrx, hfx, hpx⟩ := hps
            have hnx := hN.out.step HAP.out (by rw [L6.out]; exact hxn) hrx hfx
            have hcx : nd.contains (x1 / 2) = false := by
              unfold readyB at hrx
              rw [Bool.and_eq_true, hvx] at hrx
              simpa using hrx.1
            rw [hvx] at hpx hnx
            rw [hgx] at hnx
            have hxg := HLT.out (gAt r.gates x) (getD_mem (by rw [L6.out]; exact hxn))
            rw [hgx, ← HM.out] at hxg
            have hx1m : x1 / 2 ≤ m := hxg.1
            have hx1m' : x1 / 2 < m + 1 := by omega
            have hrx0 : wt r.gates nd x = 0 := by
              unfold readyB at hrx
              rw [Bool.and_eq_true] at hrx
              simpa using hrx.2
            have HRX := Lib.hid hrx0
            have HVX := Lib.hid hvx
            have HNX := Lib.hid hnx
            have HCX := Lib.hid hcx
            have hO1 := own3_keep hO.out hK1.out
            have hB1 := hB.out.trans (But2.of_below (base := q) (U := T) (T := T) hK1.out.low)
            have hC1 := hK1.out.oth T _ _ _ hC.out (by omega)
            have hT1 : wc.heap[T]? = some (.cells (fcells n6 (fun i => iv (wt r.gates nd i))) 3 (0, 0)) := (hK1.out.low.block T (by omega)).trans hC.out
            have hszc : q < wc.heap.size := Nat.lt_of_lt_of_le hsz hK1.out.low.size
            have p0 := cell_of_block hG1.out 0
            have p1 := cell_of_block hG1.out 1
            have p2 := cell_of_block hG1.out 2
            have hovl : ∀ k, (Value.slice ga gl.length gc).ownBlock = some k → k < wr.heap.size := fun k hk => (hO.out.lt k hk).2
            have HC0 : Hid (l'.Perm ((List.range r.gates.length).filter (nextB r.gates (nd ++ [x1 / 2]) (curOf r.gates nd (usersT r.gates (2 * n6) (x1 / 2)) 0)))) := by
              show List.Perm _ _
              rw [nextB_congr (n := r.gates.length) (c := curOf r.gates nd (usersT r.gates (2 * n6) (x1 / 2)) 0) (c' := wt r.gates nd) (fun i _ => curOf_zero _ _ _ _)]
              exact hpx
            have HT1 : Hid (wc.heap[T]? = some (.cells (fcells n6 (fun i => iv (curOf r.gates nd (usersT r.gates (2 * n6) (x1 / 2)) 0 i))) 3 (0, 0))) := by
              show _ = _
              rw [hT1]
              congr 2
            obtain ⟨L, hL⟩ : ∃ L, L = triCs gl := ⟨_, rfl⟩
            unfold own3 at hO1
            rw [← hL] at hO1
            have HL := Lib.hid hL
            have HO1 := Lib.hid hO1
            have HB1 := Lib.hid hB1
            have HOVL := Lib.hid hovl
            clear hrx0 hrx hfx hpx hnx hcx hxg hO1 hB1 hC1 hT1 hovl hL hvx hgx pX pX2 pX' qx qy qz KEEPS ta HPOP hO hQ hH hP hC hB
            go_wp2_with (at_builtin; refine wpList_append_own_at _ rfl _ _ 37 rfl (q + 1) 58 ig (.agg #[.int .u32 0, .int .u32 0, .int .u32 0]) 3 12 Tryz.underlying37 hig hzg0 hzg1 hzg2 rfl (by omega) _ _ L rfl (ownsN_below HO1.out (ext_alloc _ _)) ⟨wc.heap.size, 0, none⟩ 1 1 [.int .u32 x1, .int .u32 x2, .int .u32 x3] rfl rfl ?c1 ?c2 ?c4 ?c5 ?c6 ?_)
            case c1 => exact World.news_of_block (heap_new wc (.cells #[.int .u32 x1, .int .u32 x2, .int .u32 x3] 58) wc.heap.size rfl)
            case c2 => first | rfl | exact ⟨rfl, rfl, rfl⟩ | (intro u hu; simp at hu; rcases hu with rfl | rfl | rfl <;> rfl)
            case c4 => unfold maxLen; omega
            case c5 => omega
            case c6 => exact Nat.le_trans (show q + 1 ≤ wc.heap.size by omega) (ext_alloc _ _).size
            intro v4 w4 hrow4 hgr4 _ _
            have hb4 : Below wc.heap.size wc (wc.alloc (.cells #[.int .u32 x1, .int .u32 x2, .int .u32 x3] 58)) := ext_alloc _ _
            have hgc : wr.heap.size ≤ wc.heap.size := by have := heap_lt hG1.out; omega
            have hG4 := heap_grown (heap_below hG1.out hb4) hgr4 (fun e => by have := HOVL.out G e; omega)
            have hrowb := ownsN_below HO1.out hb4
            have hlow4 : Below (q + 1) wc w4 := (hb4.mono (by omega)).trans (ownsN_low hrowb hgr4 (Nat.le_trans (show q + 1 ≤ wc.heap.size by omega) (ext_alloc _ _).size))
            have hQ4 := (hQ1.out.below hb4).grown hrowb hgr4
            have hB4 := HB1.out.trans (But2.of_below (base := q) (U := T) (T := T) (hlow4.mono (by omega)))
            have hT4 := (hlow4.block T (by omega)).trans HT1.out
            have hO4 : own3 58 w4 (q + 1) v4 (gl ++ [(x1, x2, x3)]) := by
              unfold own3
              rw [triCs_snoc, ← HL.out, List.length_append]
              exact hrow4
            obtain ⟨g4, hg4⟩ : ∃ g4, g4 = gl ++ [(x1, x2, x3)] := ⟨_, rfl⟩
            rw [← hg4] at hO4 HNX
            have HG4L : Hid (g4.length = gl.length + 1) := by show _ = _; rw [hg4]; simp
            clear hg4
            have hsz4 : q < w4.heap.size := Nat.lt_of_lt_of_le (show q < wc.heap.size by omega) hlow4.size
            obtain ⟨a4', c4', hv4⟩ := own3_form hO4
            have pG := cell_of_block hG4 0
            have hU4 := hB4.at HDP.out.users (by omega) (by omega) (by omega)
            have hcu := (cell_of_block hU4 (x1 / 2)).trans (fcells_get _ _ _ hx1m')
            obtain ⟨ua, uc, hua⟩ := ownsN_form (HDP.out.rows (x1 / 2) hx1m)
            rw [hua] at hcu
            obtain ⟨us, hus⟩ : ∃ us, us = usersT r.gates (2 * n6) (x1 / 2) := ⟨_, rfl⟩
            rw [← hus] at hcu HC0 HT1 hT4 hua
            obtain ⟨N, hN'⟩ : ∃ N, N = us.length := ⟨_, rfl⟩
            have hNl : N ≤ 2 * n6 := by rw [hN', hus]; exact usersT_len _ _ _
            have HROWU : Hid (W2.ownsRow base 3 1 (.slice ua N uc) N (us.map iv)) := by
              have := HDP.out.rows (x1 / 2) hx1m
              rw [← hus, hua, ← hN'] at this
              exact this
            rw [← hN'] at hcu
            subst hv4
            have HO4 := Lib.hid hO4
            have HQ4 := Lib.hid hQ4
            have HB4 := Lib.hid hB4
            have HT4 := Lib.hid hT4
            have HUS := Lib.hid hus
            have HNN := Lib.hid hN'
            have hglt : gl.length < n6 := by
              have h1 := HNX.out.few
              rw [HG4L.out, L6.out] at h1
              omega
            clear hrow4 hgr4 hb4 hG4 hrowb hlow4 hQ4 hB4 hT4 hO4 hU4 hua hus hN' HOVL HB1 HO1 hQ1 hG1 hK1 HT1 p0 p1 p2
            go_wp2
            go_loopw [52] (fun iv' wi => ∃ (k : Nat) (l2 : List Nat), k ≤ N ∧ iv' = .int .i64 k ∧ Hid (QP wi q l2) ∧ Hid (HeapN l2 l2.length) ∧ Hid (l2.Perm ((List.range r.gates.length).filter (nextB r.gates (nd ++ [x1 / 2]) (curOf r.gates nd us k)))) ∧ Hid (wi.heap[T]? = some (.cells (fcells n6 (fun i => iv (curOf r.gates nd us k i))) 3 (0, 0))) ∧ Hid (own3 58 wi (q + 1) (.slice a4' g4.length c4') g4) ∧ Hid (But2 q T T W2 wi) ∧ q < wi.heap.size)
              (fun iv' _ => N - (intOf iv').toNat)
            case atStart => exact ⟨0, l', Nat.zero_le _, rfl, HQ4.out, hH1.out, HC0.out, HT4.out, HO4.out, HB4.out, hsz4⟩
            case round =>
              clear HQ4 HC0 HT4 HO4 HB4 hH1 hsz4
              obtain ⟨k, l2, hk, rfl, hQ, hH, hP, hT, hO, hB, hsz5⟩ := hrel
              by_cases hlt3 : k < N
              · have hru : wr.ownsRow base 3 1 (.slice ua N uc) N (us.map iv) := ownsN_other HROWU.out (fun k hk => by
                  have h1 := HROWU.out.lt k hk
                  have h2 := HQ2.out
                  exact hB.out.block k (by omega) (by omega) (by omega))
                obtain ⟨ua', uc', ev, _, hsu⟩ := Sees.owned hru
                cases ev
                obtain ⟨ub, uo, rfl, hubw⟩ := hsu.addr (by omega)
                have hcx := hsu.int k hlt3
                have hil : us.getD k 0 < n6 := by
                  have := users_lt r.gates (x1 / 2) (us.getD k 0) (by
                    have := getD_mem (l := us) (k := k) (d := 0) (by rw [← HNN.out]; exact hlt3)
                    rw [L6.out, ← HUS.out]
                    exact this)
                  rw [L6.out] at this
                  exact this
                obtain ⟨i, hi⟩ : ∃ i, i = us.getD k 0 := ⟨_, rfl⟩
                rw [← hi] at hcx hil
                have hpos : 1 ≤ curOf r.gates nd us k i := by
                  rw [HUS.out, show 2 * n6 = 2 * r.gates.length by rw [L6.out]]
                  refine curOf_pos r.gates nd (x1 / 2) k i HCX.out (by rw [L6.out]; exact hil) ?_ ?_
                  · rw [L6.out, ← HUS.out, ← HNN.out]; exact hlt3
                  · rw [L6.out, ← HUS.out]; exact hi.symm
                have hcmax : curOf r.gates nd us k i ≤ 2 := curOf_le _ _ _ _ _
                have hnn : (nd ++ [x1 / 2]).contains (varAt r.gates i) = false := by
                  cases hcc : (nd ++ [x1 / 2]).contains (varAt r.gates i) with
                  | false => rfl
                  | true =>
                    exfalso
                    rw [contains_snoc, Bool.or_eq_true] at hcc
                    have hw0 : wt r.gates nd i = 0 := by
                      rcases hcc with hcc | hcc
                      · exact hN.out.zero i (by rw [L6.out]; exact hil) hcc
                      · have e1 : x1 / 2 = varAt r.gates i := by simpa using hcc
                        have e2 : x = i := HAP.out x i (by rw [L6.out]; exact hxn) (by rw [L6.out]; exact hil) (by rw [HVX.out]; exact e1)
                        rw [← e2]; exact HRX.out
                    unfold curOf at hpos
                    omega
                have hct := (cell_of_block hT.out i).trans (fcells_get _ _ _ hil)
                have hft := unfrozen_of_block hT.out i
                obtain ⟨c, hc⟩ : ∃ c, c = curOf r.gates nd us k i := ⟨_, rfl⟩
                rw [← hc] at hct hpos hcmax
                unfold iv at hct
                have W1' : IntKind.i64.wrap ((k : Int) + 1) = (k : Int) + 1 := IntWalk.i64_in _ (by omega)
                have W2' : IntKind.i64.wrap ((c : Int) - 1) = (c : Int) - 1 := IntWalk.i64_in _ (by omega)
                have hkl : k < us.length := by rw [← HNN.out]; exact hlt3
                have hT5 : (wr.setCell ⟨T, i, .none⟩ (.int .i64 ((c : Int) - 1))).heap[T]? = some (.cells (fcells n6 (fun j => iv (curOf r.gates nd us (k + 1) j))) 3 (0, 0)) := by
                  have h1 := block_setCell hT.out (i := i) (.int .i64 ((c : Int) - 1))
                  rw [fcells_set] at h1
                  rw [h1]
                  congr 2
                  refine fcells_congr (fun j _ => ?_)
                  rw [curOf_step r.gates nd us k i hkl hi.symm j]
                  by_cases e : j = i
                  · rw [if_pos e, if_pos e, ← hc]
                    unfold iv
                    congr 1
                    omega
                  · rw [if_neg e, if_neg e]
                have hQ5 := hQ.out.set_low (i := i) (show T < q by omega) (.int .i64 ((c : Int) - 1))
                have hO5 := own3_set_low (i := i) hO.out (show T < q by omega) (.int .i64 ((c : Int) - 1))
                have hB5 := but2_set (i := i) hB.out (.int .i64 ((c : Int) - 1))
                have hsz6 : q < (wr.setCell ⟨T, i, .none⟩ (.int .i64 ((c : Int) - 1))).heap.size := by simpa using hsz5
                have hll := perm_len hP.out
                rw [L6.out] at hll
                have HC := Lib.hid hc
                have HI := Lib.hid hi
                have HNI := Lib.hid hnn
                have HT5 := Lib.hid hT5
                have HQ5 := Lib.hid hQ5
                have HO5 := Lib.hid hO5
                have HB5 := Lib.hid hB5
                have HH := Lib.hid hH.out
                have HP := Lib.hid hP.out
                clear hc hi hnn hT5 hQ5 hO5 hB5 hru hsu hQ hH hP hT hO hB
                by_cases h1 : c = 1
                · subst h1
                  have HQ6 : Hid (QP (wr.setCell ⟨T, i, .none⟩ (.int .i64 0)) q l2) := HQ5.out
                  have HT6 : Hid ((wr.setCell ⟨T, i, .none⟩ (.int .i64 0)).heap[T]? = some (.cells (fcells n6 (fun j => iv (curOf r.gates nd us (k + 1) j))) 3 (0, 0))) := HT5.out
                  have HO6 : Hid (own3 58 (wr.setCell ⟨T, i, .none⟩ (.int .i64 0)) (q + 1) (.slice a4' g4.length c4') g4) := HO5.out
                  have HB6 : Hid (But2 q T T W2 (wr.setCell ⟨T, i, .none⟩ (.int .i64 0))) := HB5.out
                  have hsz7 : q < (wr.setCell ⟨T, i, .none⟩ (.int .i64 0)).heap.size := hsz6
                  clear HQ5 HT5 HO5 HB5 hsz6
                  go_wp2_with fail
                  refine (hpush_q q i l2 _ HQ6.out HH.out (by omega)).mono ?_
                  rintro e w5 ⟨rfl, l3, hQ', hH', hP', hK'⟩
                  have HQ7 := Lib.hid hQ'
                  have HH7 := Lib.hid hH'
                  have HP7 : Hid (l3.Perm ((List.range r.gates.length).filter (nextB r.gates (nd ++ [x1 / 2]) (curOf r.gates nd us (k + 1))))) := by
                    show List.Perm _ _
                    rw [nextB_congr (n := r.gates.length) (c := curOf r.gates nd us (k + 1)) (c' := fun j => if j = i then curOf r.gates nd us k i - 1 else curOf r.gates nd us k j) (fun j _ => curOf_step r.gates nd us k i hkl HI.out.symm j)]
                    exact dec_zero (by rw [L6.out]; exact hil) HNI.out HC.out.symm HP.out hP'
                  have HT7 : Hid (w5.heap[T]? = some (.cells (fcells n6 (fun j => iv (curOf r.gates nd us (k + 1) j))) 3 (0, 0))) := (hK'.low.block T (by omega)).trans HT6.out
                  have HO7 := Lib.hid (own3_keep HO6.out hK')
                  have HB7 := Lib.hid (HB6.out.trans (But2.of_below (base := q) (U := T) (T := T) hK'.low))
                  have hsz8 : q < w5.heap.size := Nat.lt_of_lt_of_le hsz7 hK'.low.size
                  clear hQ' hH' hP' hK' HQ6 HT6 HO6 HB6 hsz7 HH HP
                  go_wp2
                  go_roundw
                  case rel => exact ⟨k + 1, l3, by omega, by go_num, HQ7.out, HH7.out, HP7.out, HT7.out, HO7.out, HB7.out, hsz8⟩
                  case measure => simp [intOf]; omega
                · have e1 : ((c : Int) - 1 == 0) = false := by simp; omega
                  have HP7 : Hid (l2.Perm ((List.range r.gates.length).filter (nextB r.gates (nd ++ [x1 / 2]) (curOf r.gates nd us (k + 1))))) := by
                    show List.Perm _ _
                    rw [nextB_congr (n := r.gates.length) (c := curOf r.gates nd us (k + 1)) (c' := fun j => if j = i then curOf r.gates nd us k i - 1 else curOf r.gates nd us k j) (fun j _ => curOf_step r.gates nd us k i hkl HI.out.symm j)]
                    exact dec_more (by rw [← HC.out]; omega) HP.out
                  have H1 := Lib.hid h1
                  clear h1 HP
                  go_wp2
                  go_roundw
                  case rel => exact ⟨k + 1, l2, by omega, by go_num, HQ5.out, HH.out, HP7.out, HT5.out, HO5.out, HB5.out, hsz6⟩
                  case measure => simp [intOf]; omega
              · obtain rfl : N = k := by omega
                have hca : ∀ i, i < r.gates.length → curOf r.gates nd us N i = wt r.gates (nd ++ [x1 / 2]) i := by
                  intro i hi
                  have := curOf_all r.gates nd (x1 / 2) i HCX.out hi
                  rw [L6.out, ← HUS.out, ← HNN.out] at this
                  exact this
                have HP8 : Hid (l2.Perm ((List.range r.gates.length).filter (readyB r.gates (nd ++ [x1 / 2])))) := by
                  have := hP.out
                  rw [nextB_congr hca, nextB_wt] at this
                  exact this
                have HT8 : Hid (wr.heap[T]? = some (.cells (fcells n6 (fun i => iv (wt r.gates (nd ++ [x1 / 2]) i))) 3 (0, 0))) := by
                  show _ = _
                  rw [hT.out]
                  congr 2
                  exact fcells_congr (fun i hi => by rw [hca i (by rw [L6.out]; exact hi)])
                have HQ8 := Lib.hid hQ.out
                have HH8 := Lib.hid hH.out
                have HO8 := Lib.hid hO.out
                have HB8 := Lib.hid hB.out
                clear hQ hH hP hT hO hB hca
                go_wp2
                go_roundw
                case rel => exact ⟨g4, nd ++ [x1 / 2], l2, a4', c4', rfl, by rw [HG4L.out]; omega, HO8.out, HQ8.out, HH8.out, HP8.out, HNX.out, HT8.out, HB8.out, hsz5⟩
                case measure => have := HG4L.out; simp only [slen]; omega
end Go.Proofs.YtglhnmbfkbjemaaGreatDoor
