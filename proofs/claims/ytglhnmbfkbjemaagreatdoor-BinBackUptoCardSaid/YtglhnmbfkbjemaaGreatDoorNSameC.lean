/- inquestref03.Same: are two circuits the same? -/
import Derived.Test.YtglhnmbfkbjemaaGreatDoorBkF
import Derived.Test.YtglhnmbfkbjemaaGreatDoorBkA
namespace Go.Proofs.YtglhnmbfkbjemaaGreatDoor
open Go Go.RowKit Go.Joins
theorem eqn_at (xs ys : List Nat) (a a' : Option Addr) (n c n' c' : Nat) (w : World) (h : Sees w a n c (xs.map nv32)) (h' : Sees w a' n' c' (ys.map nv32)) (hn : n ≤ 1048576) :
    Calls Tryz.prog 37 #[.slice a n c, .slice a' n' c'] w fun e w' => e = .returned (.bool (decide (xs = ys))) ∧ Below w.heap.size w w' := by
  refine (eqnums_any xs ys a a' n c n' c' w h h' (by omega)).mono fun e w' hp => ?_
  obtain ⟨h1, q, rfl⟩ := hp
  exact ⟨by rw [show decide (xs = ys) = (xs == ys) by by_cases e : xs = ys <;> simp [e]]; exact h1, ext_drewN w q⟩
theorem list_eq_of {α : Type} {l m : List α} {d : α} {n : Nat} (hl : l.length = n) (hm : m.length = n) (h : ∀ j, j < n → l.getD j d = m.getD j d) : l = m := by
  apply List.ext_getElem (by omega)
  intro i h1 h2
  have := h i (by omega)
  simpa [List.getD, List.getElem?_eq_getElem h1, List.getElem?_eq_getElem h2] using this
set_option maxRecDepth 100000 in
set_option maxHeartbeats 3200000 in
theorem samec_any (c d : NormC) (s s' : CSlots) (w : World) (h : SeesCir w s c) (h' : SeesCir w s' d) (hs : s.small) (hs' : s'.small) :
    Calls Tryz.prog 12 #[cirV c.ins s, cirV d.ins s'] w fun e w' => e = .returned (.bool (decide (c = d))) ∧ Below w.heap.size w w' := by
  obtain ⟨a1, n1, c1, a2, n2, c2, a3, n3, c3, a4, n4, c4, a5, n5, c5⟩ := s
  obtain ⟨a1', n1', c1', a2', n2', c2', a3', n3', c3', a4', n4', c4', a5', n5', c5'⟩ := s'
  obtain ⟨hs1, hs2, hs3, hs4, hs5⟩ := hs
  obtain ⟨hs1', hs2', hs3', hs4', hs5'⟩ := hs'
  simp only at hs1 hs2 hs3 hs4 hs5 hs1' hs2' hs3' hs4' hs5'
  have l1 : c.lats.length = n1 := h.s1.1
  have l1' : d.lats.length = n1' := h'.s1.1
  have l2 : c.gates.length = n2 := h.s2.1
  have l2' : d.gates.length = n2' := h'.s2.1
  obtain ⟨z, hz⟩ : ∃ z, z = c.ins := ⟨_, rfl⟩
  obtain ⟨z', hz'⟩ : ∃ z, z = d.ins := ⟨_, rfl⟩
  have HD : Hid (c = d → z = z' ∧ n1 = n1' ∧ n2 = n2') := fun e => by subst e; exact ⟨hz.trans hz'.symm, l1.symm.trans l1', l2.symm.trans l2'⟩
  rw [← hz, ← hz']
  have HZ := Lib.hid hz
  have HZ' := Lib.hid hz'
  have L1 := Lib.hid l1
  have L1' := Lib.hid l1'
  have L2 := Lib.hid l2
  have L2' := Lib.hid l2'
  have HS := Lib.hid h
  have HS' := Lib.hid h'
  clear hz hz' l1 l1' l2 l2' h h'
  unfold cirV
  have NO : c ≠ d → decide (c = d) = false := fun h => by simpa using h
  obtain ⟨q, hq⟩ : ∃ q, q = decide (c = d) := ⟨_, rfl⟩
  rw [← hq] at NO ⊢
  have HNO := Lib.hid NO
  have HQ := Lib.hid hq
  clear NO hq
  by_cases h0 : z = z'
  case neg =>
    have e0 : (z == z') = false := by simpa using h0
    have e0' : (z != z') = true := by simp [h0]
    have HF : Hid (q = false) := HNO.out fun e => h0 (HD.out e).1
    have H0 := Lib.hid h0
    clear h0
    go_enter Tryz.func12, Tryz.ntmps12
    go_wp2
    go_ret
    exact ⟨by rw [HF.out]; rfl, ext_trans (ext_alloc _ _) (ext_alloc _ _)⟩
  subst h0
  by_cases h1 : n1 = n1'
  case neg =>
    have e0 : ((n1 : Int) == (n1' : Int)) = false := by simp; omega
    have e0' : ((n1 : Int) != (n1' : Int)) = true := by simp; omega
    have HF : Hid (q = false) := HNO.out fun e => h1 (HD.out e).2.1
    have H0 := Lib.hid h1
    clear h1
    go_enter Tryz.func12, Tryz.ntmps12
    go_wp2
    go_ret
    exact ⟨by rw [HF.out]; rfl, ext_trans (ext_alloc _ _) (ext_alloc _ _)⟩
  subst h1
  by_cases h2 : n2 = n2'
  case neg =>
    have e0 : ((n2 : Int) == (n2' : Int)) = false := by simp; omega
    have e0' : ((n2 : Int) != (n2' : Int)) = true := by simp; omega
    have HF : Hid (q = false) := HNO.out fun e => h2 (HD.out e).2.2
    have H0 := Lib.hid h2
    clear h2
    go_enter Tryz.func12, Tryz.ntmps12
    go_wp2
    go_ret
    exact ⟨by rw [HF.out]; rfl, ext_trans (ext_alloc _ _) (ext_alloc _ _)⟩
  subst h2
  clear HD
  go_enter Tryz.func12, Tryz.ntmps12
  go_wp2_with fail
  generalize hW : World.alloc (World.alloc w _) _ = W0
  have B0 : Hid (Below w.heap.size w W0) := by show Below _ _ _; subst hW; exact ext_trans (ext_alloc _ _) (ext_alloc _ _)
  have hx : Hid (W0.heap[w.heap.size]? = some (.cells #[.int .i64 z, .slice a1 n1 c1, .slice a2 n2 c2, .slice a3 n3 c3, .slice a4 n4 c4, .slice a5 n5 c5] 26 (0, 0))) := by
    show _ = _; subst hW; exact heap_below (heap_new _ _ _ rfl) (ext_alloc _ _)
  have hy : Hid (W0.heap[w.heap.size + 1]? = some (.cells #[.int .i64 z, .slice a1' n1 c1', .slice a2' n2 c2', .slice a3' n3' c3', .slice a4' n4' c4', .slice a5' n5' c5'] 26 (0, 0))) := by
    show _ = _; subst hW; exact heap_new _ _ _ (by simp)
  clear hW
  go_loopw [5] (fun i wr => ∃ k : Nat, k ≤ n1 ∧ i = .int .i64 k ∧ Hid (∀ j, j < k → c.lats.getD j (0, 0) = d.lats.getD j (0, 0)) ∧ Hid (Below w.heap.size w wr) ∧ Hid (wr.heap[w.heap.size]? = some (.cells #[.int .i64 z, .slice a1 n1 c1, .slice a2 n2 c2, .slice a3 n3 c3, .slice a4 n4 c4, .slice a5 n5 c5] 26 (0, 0))) ∧ Hid (wr.heap[w.heap.size + 1]? = some (.cells #[.int .i64 z, .slice a1' n1 c1', .slice a2' n2 c2', .slice a3' n3' c3', .slice a4' n4' c4', .slice a5' n5' c5'] 26 (0, 0))))
    (fun i _ => n1 - (intOf i).toNat)
  case atStart => exact ⟨0, Nat.zero_le _, rfl, fun j hj => absurd hj (by omega), B0.out, hx.out, hy.out⟩
  case round =>
    clear B0 hx hy
    obtain ⟨k, hk, rfl, hno, hb, hx, hy⟩ := hrel
    have p := cell_of_block hx.out 1
    have p' := cell_of_block hy.out 1
    by_cases hlt : k < n1
    · obtain ⟨b, off, rfl, hbw⟩ := HS.out.s1.addr (show 0 < n1 by omega)
      obtain ⟨b', off', rfl, hbw'⟩ := HS'.out.s1.addr (show 0 < n1 by omega)
      obtain ⟨qx, qy⟩ := (HS.out.s1.below hb.out).cells k hlt (0, 0)
      obtain ⟨qx', qy'⟩ := (HS'.out.s1.below hb.out).cells k hlt (0, 0)
      obtain ⟨t, ht⟩ : ∃ t, t = c.lats.getD k (0, 0) := ⟨_, rfl⟩
      obtain ⟨t', ht'⟩ : ∃ t, t = d.lats.getD k (0, 0) := ⟨_, rfl⟩
      rw [← ht] at qx qy
      rw [← ht'] at qx' qy'
      have HT := Lib.hid ht
      have HT' := Lib.hid ht'
      clear ht ht'
      obtain ⟨x, y⟩ := t
      obtain ⟨x', y'⟩ := t'
      simp only [nv32, nv8] at qx qy qx' qy'
      have W1 : IntKind.i64.wrap ((k : Int) + 1) = (k : Int) + 1 := IntWalk.i64_in _ (by omega)
      by_cases hxy : x = x' ∧ y = y'
      · obtain ⟨rfl, rfl⟩ := hxy
        go_wp2
        go_quiet (fail)
        go_wp2
        go_roundw
        case rel =>
          rename_i nq
          refine ⟨k + 1, by omega, by go_num, fun j hj => ?_, ext_trans hb.out (ext_drewN _ nq), hx.out, hy.out⟩
          rcases Nat.lt_or_ge j k with h | h
          · exact hno.out j h
          · have : j = k := by omega
            subst this
            rw [← HT.out, ← HT'.out]
        case measure => simp [intOf]; omega
      · have HF : Hid (q = false) := HNO.out fun e => hxy (by
          have h1 := HT.out
          have h2 := HT'.out
          rw [← e, ← h1] at h2
          cases h2
          exact ⟨rfl, rfl⟩)
        by_cases hx1 : x = x'
        · subst hx1
          have e1 : ((y : Int) == (y' : Int)) = false := by simp; omega
          have e2 : ((y : Int) != (y' : Int)) = true := by simp; omega
          have e3 : ((y : Int) = (y' : Int)) = False := by simp; omega
          have HXY := Lib.hid hxy
          clear hxy
          go_wp2
          go_quiet (fail)
          go_wp2
          go_ret
          rename_i nq
          exact ⟨by rw [HF.out]; rfl, ext_trans hb.out (ext_drewN _ nq)⟩
        · have e1 : ((x : Int) == (x' : Int)) = false := by simp; omega
          have e2 : ((x : Int) != (x' : Int)) = true := by simp; omega
          have e3 : ((x : Int) = (x' : Int)) = False := by simp; omega
          have HXY := Lib.hid hxy
          have HX1 := Lib.hid hx1
          clear hxy hx1
          go_wp2
          go_quiet (fail)
          go_wp2
          go_ret
          rename_i nq
          exact ⟨by rw [HF.out]; rfl, ext_trans hb.out (ext_drewN _ nq)⟩
    · obtain rfl : n1 = k := by omega
      obtain ⟨V, hV⟩ : ∃ V, V = wr := ⟨_, rfl⟩
      subst hV
      have HEQ1 : Hid (c.lats = d.lats) := list_eq_of (d := ((0, 0) : Nat × Nat)) L1.out L1'.out hno.out
      have B0 := Lib.hid hb.out
      clear hlt hk hb hno
      go_wp2
      clear p p'
      go_loopw [6] (fun i wr => ∃ k : Nat, k ≤ n2 ∧ i = .int .i64 k ∧ Hid (∀ j, j < k → c.gates.getD j (0, 0) = d.gates.getD j (0, 0)) ∧ Hid (Below w.heap.size w wr) ∧ Hid (wr.heap[w.heap.size]? = some (.cells #[.int .i64 z, .slice a1 n1 c1, .slice a2 n2 c2, .slice a3 n3 c3, .slice a4 n4 c4, .slice a5 n5 c5] 26 (0, 0))) ∧ Hid (wr.heap[w.heap.size + 1]? = some (.cells #[.int .i64 z, .slice a1' n1 c1', .slice a2' n2 c2', .slice a3' n3' c3', .slice a4' n4' c4', .slice a5' n5' c5'] 26 (0, 0))))
        (fun i _ => n2 - (intOf i).toNat)
      case atStart => exact ⟨0, Nat.zero_le _, rfl, fun j hj => absurd hj (by omega), B0.out, hx.out, hy.out⟩
      case round =>
        clear B0 hx hy
        obtain ⟨k, hk, rfl, hno, hb, hx, hy⟩ := hrel
        have p := cell_of_block hx.out 2
        have p' := cell_of_block hy.out 2
        by_cases hlt : k < n2
        · obtain ⟨b, off, rfl, hbw⟩ := HS.out.s2.addr (show 0 < n2 by omega)
          obtain ⟨b', off', rfl, hbw'⟩ := HS'.out.s2.addr (show 0 < n2 by omega)
          obtain ⟨qx, qy⟩ := (HS.out.s2.below hb.out).cells k hlt (0, 0)
          obtain ⟨qx', qy'⟩ := (HS'.out.s2.below hb.out).cells k hlt (0, 0)
          obtain ⟨t, ht⟩ : ∃ t, t = c.gates.getD k (0, 0) := ⟨_, rfl⟩
          obtain ⟨t', ht'⟩ : ∃ t, t = d.gates.getD k (0, 0) := ⟨_, rfl⟩
          rw [← ht] at qx qy
          rw [← ht'] at qx' qy'
          have HT := Lib.hid ht
          have HT' := Lib.hid ht'
          clear ht ht'
          obtain ⟨x, y⟩ := t
          obtain ⟨x', y'⟩ := t'
          simp only [nv32] at qx qy qx' qy'
          have W1 : IntKind.i64.wrap ((k : Int) + 1) = (k : Int) + 1 := IntWalk.i64_in _ (by omega)
          by_cases hxy : x = x' ∧ y = y'
          · obtain ⟨rfl, rfl⟩ := hxy
            go_wp2
            go_quiet (fail)
            go_wp2
            go_roundw
            case rel =>
              rename_i nq
              refine ⟨k + 1, by omega, by go_num, fun j hj => ?_, ext_trans hb.out (ext_drewN _ nq), hx.out, hy.out⟩
              rcases Nat.lt_or_ge j k with h | h
              · exact hno.out j h
              · have : j = k := by omega
                subst this
                rw [← HT.out, ← HT'.out]
            case measure => simp [intOf]; omega
          · have HF : Hid (q = false) := HNO.out fun e => hxy (by
              have h1 := HT.out
              have h2 := HT'.out
              rw [← e, ← h1] at h2
              cases h2
              exact ⟨rfl, rfl⟩)
            by_cases hx1 : x = x'
            · subst hx1
              have e1 : ((y : Int) == (y' : Int)) = false := by simp; omega
              have e2 : ((y : Int) != (y' : Int)) = true := by simp; omega
              have e3 : ((y : Int) = (y' : Int)) = False := by simp; omega
              have HXY := Lib.hid hxy
              clear hxy
              go_wp2
              go_quiet (fail)
              go_wp2
              go_ret
              rename_i nq
              exact ⟨by rw [HF.out]; rfl, ext_trans hb.out (ext_drewN _ nq)⟩
            · have e1 : ((x : Int) == (x' : Int)) = false := by simp; omega
              have e2 : ((x : Int) != (x' : Int)) = true := by simp; omega
              have e3 : ((x : Int) = (x' : Int)) = False := by simp; omega
              have HXY := Lib.hid hxy
              have HX1 := Lib.hid hx1
              clear hxy hx1
              go_wp2
              go_quiet (fail)
              go_wp2
              go_ret
              rename_i nq
              exact ⟨by rw [HF.out]; rfl, ext_trans hb.out (ext_drewN _ nq)⟩
        · obtain rfl : n2 = k := by omega
          obtain ⟨V, hV⟩ : ∃ V, V = wr := ⟨_, rfl⟩
          subst hV
          have HEQ2 : Hid (c.gates = d.gates) := list_eq_of (d := ((0, 0) : Nat × Nat)) L2.out L2'.out hno.out
          have B0 := Lib.hid hb.out
          clear hlt hk hb hno
          have p2 := p
          have p2' := p'
          clear p p'
          obtain ⟨U, hU⟩ : ∃ U, U = V := ⟨_, rfl⟩
          subst hU
          have hx6 := hx.out
          have hy6 := hy.out
          clear hx hy
          have p := cell_of_block hx6 3
          have p' := cell_of_block hy6 3
          have HX := Lib.hid hx6
          have HY := Lib.hid hy6
          clear hx6 hy6
          go_wp2_with fail
          refine (eqn_at c.outs d.outs a3 a3' n3 c3 n3' c3' _ (HS.out.s3.below B0.out) (HS'.out.s3.below B0.out) hs3).mono ?_
          obtain ⟨q3, hq3⟩ : ∃ q, q = decide (c.outs = d.outs) := ⟨_, rfl⟩
          rw [← hq3]
          have HQ3 := Lib.hid hq3
          clear hq3
          rintro e U3 ⟨rfl, hb⟩
          have hx6 := heap_below HX.out hb
          have hy6 := heap_below HY.out hb
          have B1 := ext_trans B0.out hb
          clear hb HX HY B0 p p' p2 p2'
          have B0 := Lib.hid B1
          clear B1
          cases q3 with
          | false =>
            have HF : Hid (q = false) := HNO.out fun e => by
              have := HQ3.out
              rw [e] at this
              simp at this
            clear hx6 hy6
            go_wp2
            go_ret
            exact ⟨by rw [HF.out]; rfl, B0.out⟩
          | true =>
          have p := cell_of_block hx6 4
          have p' := cell_of_block hy6 4
          have HX := Lib.hid hx6
          have HY := Lib.hid hy6
          clear hx6 hy6
          go_wp2_with fail
          refine (eqn_at c.bads d.bads a4 a4' n4 c4 n4' c4' _ (HS.out.s4.below B0.out) (HS'.out.s4.below B0.out) hs4).mono ?_
          obtain ⟨q4, hq4⟩ : ∃ q, q = decide (c.bads = d.bads) := ⟨_, rfl⟩
          rw [← hq4]
          have HQ4 := Lib.hid hq4
          clear hq4
          rintro e U4 ⟨rfl, hb⟩
          have hx6 := heap_below HX.out hb
          have hy6 := heap_below HY.out hb
          have B1 := ext_trans B0.out hb
          clear hb HX HY B0 p p'
          have B0 := Lib.hid B1
          clear B1
          cases q4 with
          | false =>
            have HF : Hid (q = false) := HNO.out fun e => by
              have := HQ4.out
              rw [e] at this
              simp at this
            clear hx6 hy6
            go_wp2
            go_ret
            exact ⟨by rw [HF.out]; rfl, B0.out⟩
          | true =>
          have p := cell_of_block hx6 5
          have p' := cell_of_block hy6 5
          have HX := Lib.hid hx6
          have HY := Lib.hid hy6
          clear hx6 hy6
          go_wp2_with fail
          refine (eqn_at c.cons d.cons a5 a5' n5 c5 n5' c5' _ (HS.out.s5.below B0.out) (HS'.out.s5.below B0.out) hs5).mono ?_
          obtain ⟨q5, hq5⟩ : ∃ q, q = decide (c.cons = d.cons) := ⟨_, rfl⟩
          rw [← hq5]
          have HQ5 := Lib.hid hq5
          clear hq5
          rintro e U5 ⟨rfl, hb⟩
          have hx6 := heap_below HX.out hb
          have hy6 := heap_below HY.out hb
          have B1 := ext_trans B0.out hb
          clear hb HX HY B0 p p'
          have B0 := Lib.hid B1
          clear B1
          cases q5 with
          | false =>
            have HF : Hid (q = false) := HNO.out fun e => by
              have := HQ5.out
              rw [e] at this
              simp at this
            clear hx6 hy6
            go_wp2
            go_ret
            exact ⟨by rw [HF.out]; rfl, B0.out⟩
          | true =>
          have HT : Hid (q = true) := by
            have h3 := of_decide_eq_true HQ3.out.symm
            have h4 := of_decide_eq_true HQ4.out.symm
            have h5 := of_decide_eq_true HQ5.out.symm
            have h1 := HEQ1.out
            have h2 := HEQ2.out
            have h0 := HZ.out.symm.trans HZ'.out
            show q = true
            rw [HQ.out, decide_eq_true_eq]
            cases c; cases d
            simp only at h0 h1 h2 h3 h4 h5
            subst h0; subst h1; subst h2; subst h3; subst h4; subst h5
            rfl
          clear hx6 hy6
          go_wp2
          go_ret
          exact ⟨by rw [HT.out]; rfl, B0.out⟩
end Go.Proofs.YtglhnmbfkbjemaaGreatDoor
