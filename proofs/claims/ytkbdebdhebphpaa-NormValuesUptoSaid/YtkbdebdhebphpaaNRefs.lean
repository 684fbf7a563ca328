/- norm.references, by its contract. -/
import Derived.Test.YtkbdebdhebphpaaNConcat
namespace Go.Proofs.Ytkbdebdhebphpaa
open Go Go.RowKit Go.Joins

theorem flat_take_snoc (f : Tri → List Nat) (l : List Tri) (k : Nat) (h : k < l.length) : (l.take (k + 1)).flatMap f = (l.take k).flatMap f ++ f (l.getD k (0, 0, 0)) := by
  rw [List.take_succ_eq_append_getElem h, List.flatMap_append]
  congr 1
  simp [List.getD, List.getElem?_eq_getElem h]

set_option maxRecDepth 100000 in
set_option maxHeartbeats 1600000 in
theorem refs_any (r : RawC) (s : Slots) (w : World) (h : SeesRaw w s r) (hf : s.small) (x3 : ∀ x ∈ r.outs, x < 4294967296) (x4 : ∀ x ∈ r.bads, x < 4294967296) (x5 : ∀ x ∈ r.cons, x < 4294967296) :
    Calls Try.prog 60 #[rawV r.max s] w fun e w' => ∃ v, e = .returned v ∧ w'.ownsRow w.heap.size 33 1 v (refsL r).length ((refsL r).map nv32) ∧ Below w.heap.size w w' := by
  obtain ⟨i0, hi, hz0, hz1, hz2⟩ := info_parts info_u32
  obtain ⟨a1, n1, c1, a2, n2, c2, a3, n3, c3, a4, n4, c4, a5, n5, c5, a6, n6, c6⟩ := s
  obtain ⟨hf1, hf2, hf3, hf4, hf5, hf6⟩ := hf
  simp only at hf1 hf2 hf3 hf4 hf5 hf6
  obtain ⟨m, hm⟩ : ∃ m, m = r.max := ⟨_, rfl⟩
  rw [← hm]
  clear hm
  have l2 : r.lats.length = n2 := h.s2.1
  have l3 : r.outs.length = n3 := h.s3.lenMap
  have l4 : r.bads.length = n4 := h.s4.lenMap
  have l5 : r.cons.length = n5 := h.s5.lenMap
  have l6 : r.gates.length = n6 := h.s6.1
  have L2 := Lib.hid l2
  have L3 := Lib.hid l3
  have L4 := Lib.hid l4
  have L5 := Lib.hid l5
  have L6 := Lib.hid l6
  have HS := Lib.hid h
  have X3 := Lib.hid x3
  have X4 := Lib.hid x4
  have X5 := Lib.hid x5
  clear l2 l3 l4 l5 l6 h x3 x4 x5
  unfold rawV
  go_enter Try.func60, Try.ntmps60
  go_wp2_with fail
  generalize hW : World.alloc _ _ = W1
  have B1 : Below w.heap.size w W1 := by subst hW; exact ext_trans (ext_alloc _ _) (ext_alloc _ _)
  have hX : W1.heap[w.heap.size]? = some (.cells #[.int .u32 m, .slice a1 n1 c1, .slice a2 n2 c2, .slice a3 n3 c3, .slice a4 n4 c4, .slice a5 n5 c5, .slice a6 n6 c6] 37 (0, 0)) := by subst hW; exact heap_below (heap_new _ _ _ rfl) (ext_alloc _ _)
  have hD : W1.heap[w.heap.size + 1]? = some (.cells #[.slice a3 n3 c3, .slice a4 n4 c4, .slice a5 n5 c5] 24 (0, 0)) := by subst hW; exact heap_new _ _ _ (by simp)
  clear hW
  refine (concat3_any r.outs r.bads r.cons a3 a4 a5 n3 c3 n4 c4 n5 c5 (w.heap.size + 1) W1 (HS.out.s3.below B1) (HS.out.s4.below B1) (HS.out.s5.below B1) hD hf3 hf4 hf5 X3.out X4.out X5.out).mono ?_
  rintro e W2 ⟨v, rfl, hrow, hb⟩
  have hX2 := heap_below hX hb
  have p2 := cell_of_block hX2 2
  have HB1 := Lib.hid B1
  have HB2 := Lib.hid hb
  have HX := Lib.hid hX
  obtain ⟨va, vc, rfl⟩ := hrow.form
  have HR : Hid (W2.ownsRow W1.heap.size 33 1 (.slice va (n3 + n4 + n5) vc) (n3 + n4 + n5 + 0) (((r.outs ++ (r.bads ++ r.cons)) ++ (r.lats.take 0).map (·.2.1)).map nv32)) := by
    have := hrow.own
    rw [List.take_zero, List.map_nil, List.append_nil]
    exact this
  clear B1 hb hX hX2 hrow hD
  go_wp2
  clear p2
  go_loopw [3, 19] (fun v i wr => ∃ k : Nat, k ≤ n2 ∧ i = .int .i64 k ∧ Hid (wr.ownsRow W1.heap.size 33 1 v (n3 + n4 + n5 + k) (((r.outs ++ (r.bads ++ r.cons)) ++ (r.lats.take k).map (·.2.1)).map nv32)) ∧ Hid (Below W1.heap.size W1 wr))
    (fun _ i _ => n2 - (intOf i).toNat)
  case atStart => exact ⟨0, Nat.zero_le _, rfl, HR.out, HB2.out⟩
  case round =>
    clear HR HB2
    obtain ⟨k, hk, rfl, hR, hB⟩ := hrel
    obtain ⟨va', vc', rfl⟩ := ownsN_form hR.out
    by_cases hlt2 : k < n2
    · obtain ⟨b, off, rfl, hbw⟩ := HS.out.s2.addr (show 0 < n2 by omega)
      obtain ⟨qx, qy, qz⟩ := ((HS.out.s2.below HB1.out).below hB.out).cells k hlt2 (0, 0, 0)
      obtain ⟨t, ht⟩ : ∃ t, t = r.lats.getD k (0, 0, 0) := ⟨_, rfl⟩
      rw [← ht] at qx qy qz
      have HT := Lib.hid ht
      clear ht
      obtain ⟨x, y, z⟩ := t
      unfold nv32 at qx qy qz
      have W1' : IntKind.i64.wrap ((k : Int) + 1) = (k : Int) + 1 := IntWalk.i64_in _ (by omega)
      obtain ⟨L, hL⟩ : ∃ L, L = ((r.outs ++ (r.bads ++ r.cons)) ++ (r.lats.take k).map (·.2.1)).map nv32 := ⟨_, rfl⟩
      rw [← hL] at hR
      have HL := Lib.hid hL
      clear hL
      go_wp2_with (at_builtin; refine wpList_append_own_at _ rfl _ _ 24 rfl W1.heap.size 33 i0 (.int .u32 0) 1 4 Try.underlying24 hi hz0 hz1 hz2 rfl (by omega) _ _ L rfl (ownsN_below hR.out (ext_trans (ext_alloc _ _) (ext_alloc _ _))) ⟨wr.heap.size + 1, 0, none⟩ 1 1 [nv32 y] rfl rfl ?c1 ?c2 ?c4 ?c5 ?c6 ?_)
      case c1 => exact fun j u hu => by simpa [nv32] using hu
      case c2 => first | rfl | exact ⟨rfl, rfl⟩ | (intro u hu; simp at hu; subst hu; rfl)
      case c4 => unfold maxLen; omega
      case c5 => omega
      case c6 => have := hB.out.size; omega
      intro v' w1 hrow1 hgrow1 _ _
      have hb1 : Below W1.heap.size W1 w1 := by
        have hx := hB.out.size
        refine Below.trans (b := (wr.alloc (.cells #[.int .u32 x, .int .u32 y, .int .u32 z] 54)).alloc (.cells #[.int .u32 y] 33)) ((hB.out.alloc hx _).alloc (by simp; omega) _) ?_
        exact ownsN_low (ownsN_below hR.out (ext_trans (ext_alloc _ _) (ext_alloc _ _))) hgrow1 (by simp; omega)
      have R1 : Hid (w1.ownsRow W1.heap.size 33 1 v' (n3 + n4 + n5 + (k + 1)) (((r.outs ++ (r.bads ++ r.cons)) ++ (r.lats.take (k + 1)).map (·.2.1)).map nv32)) := by
        show World.ownsRow _ _ _ _ _ _ _
        have e : ((r.outs ++ (r.bads ++ r.cons)) ++ (r.lats.take (k + 1)).map (·.2.1)).map nv32 = L ++ [nv32 y] := by
          rw [HL.out, map_take_snoc _ _ _ (by rw [L2.out]; exact hlt2), ← HT.out, ← List.append_assoc, List.map_append]
          rfl
        rw [e, show n3 + n4 + n5 + (k + 1) = n3 + n4 + n5 + k + 1 by omega]
        exact hrow1
      have BB1 := Lib.hid hb1
      clear hrow1 hgrow1 hb1 hR hB
      go_wp2
      go_roundw
      case rel => exact ⟨k + 1, by omega, by go_num, R1, BB1⟩
      case measure => simp [intOf]; omega
    · obtain rfl : n2 = k := by omega
      have hX2 := heap_below HX.out hB.out
      have p6 := cell_of_block hX2 6
      have HR2 : Hid (wr.ownsRow W1.heap.size 33 1 (.slice va' (n3 + n4 + n5 + n2) vc') (n3 + n4 + n5 + n2 + 0) ((((r.outs ++ (r.bads ++ r.cons)) ++ r.lats.map (·.2.1)) ++ (r.gates.take 0).flatMap gate1).map nv32)) := by
        have := hR.out
        rw [List.take_of_length_le (by rw [L2.out]; exact Nat.le_refl _)] at this
        rw [List.take_zero, List.flatMap_nil, List.append_nil]
        exact this
      have HB2 := Lib.hid hB.out
      clear hR hB hX2 hlt2 hk
      go_wp2
      clear p6
      go_loopw [3, 32] (fun v i wr => ∃ k : Nat, k ≤ n6 ∧ i = .int .i64 k ∧ Hid (wr.ownsRow W1.heap.size 33 1 v (n3 + n4 + n5 + n2 + k * 2) ((((r.outs ++ (r.bads ++ r.cons)) ++ r.lats.map (·.2.1)) ++ (r.gates.take k).flatMap gate1).map nv32)) ∧ Hid (Below W1.heap.size W1 wr))
        (fun _ i _ => n6 - (intOf i).toNat)
      case atStart => exact ⟨0, Nat.zero_le _, rfl, HR2.out, HB2.out⟩
      case round =>
        clear HR2 HB2
        obtain ⟨k, hk, rfl, hR, hB⟩ := hrel
        obtain ⟨va', vc', rfl⟩ := ownsN_form hR.out
        by_cases hlt2 : k < n6
        · obtain ⟨b, off, rfl, hbw⟩ := HS.out.s6.addr (show 0 < n6 by omega)
          obtain ⟨qx, qy, qz⟩ := ((HS.out.s6.below HB1.out).below hB.out).cells k hlt2 (0, 0, 0)
          obtain ⟨t, ht⟩ : ∃ t, t = r.gates.getD k (0, 0, 0) := ⟨_, rfl⟩
          rw [← ht] at qx qy qz
          have HT := Lib.hid ht
          clear ht
          obtain ⟨x, y, z⟩ := t
          unfold nv32 at qx qy qz
          have W1' : IntKind.i64.wrap ((k : Int) + 1) = (k : Int) + 1 := IntWalk.i64_in _ (by omega)
          obtain ⟨L, hL⟩ : ∃ L, L = (((r.outs ++ (r.bads ++ r.cons)) ++ r.lats.map (·.2.1)) ++ (r.gates.take k).flatMap gate1).map nv32 := ⟨_, rfl⟩
          rw [← hL] at hR
          have HL := Lib.hid hL
          clear hL
          go_wp2_with (at_builtin; refine wpList_append_own_at _ rfl _ _ 24 rfl W1.heap.size 33 i0 (.int .u32 0) 1 4 Try.underlying24 hi hz0 hz1 hz2 rfl (by omega) _ _ L rfl (ownsN_below hR.out (ext_trans (ext_alloc _ _) (ext_alloc _ _))) ⟨wr.heap.size + 1, 0, none⟩ 2 2 [nv32 y, nv32 z] rfl rfl ?c1 ?c2 ?c4 ?c5 ?c6 ?_)
          case c1 => exact fun j u hu => by simpa [nv32] using hu
          case c2 => first | rfl | exact ⟨rfl, rfl⟩ | (intro u hu; simp at hu; subst hu; rfl)
          case c4 => unfold maxLen; omega
          case c5 => omega
          case c6 => have := hB.out.size; omega
          intro v' w1 hrow1 hgrow1 _ _
          have hb1 : Below W1.heap.size W1 w1 := by
            have hx := hB.out.size
            refine Below.trans (b := (wr.alloc (.cells #[.int .u32 x, .int .u32 y, .int .u32 z] 59)).alloc (.cells #[.int .u32 y, .int .u32 z] 33)) ((hB.out.alloc hx _).alloc (by simp; omega) _) ?_
            exact ownsN_low (ownsN_below hR.out (ext_trans (ext_alloc _ _) (ext_alloc _ _))) hgrow1 (by simp; omega)
          have R1 : Hid (w1.ownsRow W1.heap.size 33 1 v' (n3 + n4 + n5 + n2 + (k + 1) * 2) ((((r.outs ++ (r.bads ++ r.cons)) ++ r.lats.map (·.2.1)) ++ (r.gates.take (k + 1)).flatMap gate1).map nv32)) := by
            show World.ownsRow _ _ _ _ _ _ _
            have e : (((r.outs ++ (r.bads ++ r.cons)) ++ r.lats.map (·.2.1)) ++ (r.gates.take (k + 1)).flatMap gate1).map nv32 = L ++ [nv32 y, nv32 z] := by
              rw [HL.out, flat_take_snoc _ _ _ (by rw [L6.out]; exact hlt2), ← HT.out, ← List.append_assoc, List.map_append]
              rfl
            rw [e, show n3 + n4 + n5 + n2 + (k + 1) * 2 = n3 + n4 + n5 + n2 + k * 2 + 2 by omega]
            exact hrow1
          have BB1 := Lib.hid hb1
          clear hrow1 hgrow1 hb1 hR hB
          go_wp2
          go_roundw
          case rel => exact ⟨k + 1, by omega, by go_num, R1, BB1⟩
          case measure => simp [intOf]; omega
        · obtain rfl : n6 = k := by omega
          go_wp2
          go_ret
          refine ⟨_, rfl, ?_, ?_⟩
          · have := ownsN_base hR.out (base' := w.heap.size) HB1.out.size
            rw [List.take_of_length_le (by rw [L6.out]; exact Nat.le_refl _), List.append_assoc] at this
            have e : (refsL r).length = n3 + n4 + n5 + n2 + n6 * 2 := by
              have hfl : (r.gates.flatMap gate1).length = n6 * 2 := by
                rw [← L6.out]
                clear this
                induction r.gates with
                | nil => rfl
                | cons g t ih => rw [List.flatMap_cons, List.length_append, ih]; simp [gate1]; omega
              unfold refsL
              rw [List.length_append, List.length_append, List.length_append, List.length_append, List.length_map, hfl, L2.out, L3.out, L4.out, L5.out]
              omega
            rw [e]
            exact this
          · exact ext_trans HB1.out hB.out
end Go.Proofs.Ytkbdebdhebphpaa
