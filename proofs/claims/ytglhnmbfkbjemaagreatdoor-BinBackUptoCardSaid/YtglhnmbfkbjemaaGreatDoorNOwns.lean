/- slices.Clone of numbers, and norm.owns, by their contracts. -/
import Derived.Test.YtglhnmbfkbjemaaGreatDoorBkK
import Derived.Test.YtglhnmbfkbjemaaGreatDoorBkE
import Derived.Test.YtglhnmbfkbjemaaGreatDoorNRawMay
import Derived.Maps.AppendAt
namespace Go.Proofs.YtglhnmbfkbjemaaGreatDoor
open Go Go.RowKit Go.Joins
structure Slots.small (s : Slots) : Prop where
  n1 : s.n1 ≤ 1048576
  n2 : s.n2 ≤ 1048576
  n3 : s.n3 ≤ 1048576
  n4 : s.n4 ≤ 1048576
  n5 : s.n5 ≤ 1048576
  n6 : s.n6 ≤ 1048576
theorem map_take_snoc {α : Type} (f : Tri → α) (l : List Tri) (k : Nat) (h : k < l.length) : (l.take (k + 1)).map f = (l.take k).map f ++ [f (l.getD k (0, 0, 0))] := by
  rw [List.take_succ_eq_append_getElem h, List.map_append]
  congr 1
  simp [List.getD, List.getElem?_eq_getElem h]
set_option maxRecDepth 100000 in
set_option maxHeartbeats 1600000 in
theorem owns_any (r : RawC) (s : Slots) (w : World) (h : SeesRaw w s r) (hf : s.small) (h32 : ∀ x ∈ r.ins, x < 4294967296) :
    Calls Tryz.prog 97 #[rawV r.max s] w fun e w' => ∃ v, e = .returned v ∧ w'.ownsRow w.heap.size 35 1 v (ownsL r).length ((ownsL r).map nv32) ∧ Below w.heap.size w w' := by
  obtain ⟨i0, hi, hz0, hz1, hz2⟩ := info_parts info_u32
  obtain ⟨a1, n1, c1, a2, n2, c2, a3, n3, c3, a4, n4, c4, a5, n5, c5, a6, n6, c6⟩ := s
  obtain ⟨hf1, hf2, hf3, hf4, hf5, hf6⟩ := hf
  simp only at hf1 hf2 hf3 hf4 hf5 hf6
  obtain ⟨m, hm⟩ : ∃ m, m = r.max := ⟨_, rfl⟩
  rw [← hm]
  clear hm
  have l1 : r.ins.length = n1 := h.s1.lenMap
  have l2 : r.lats.length = n2 := h.s2.1
  have l6 : r.gates.length = n6 := h.s6.1
  have L1 := Lib.hid l1
  have L2 := Lib.hid l2
  have L6 := Lib.hid l6
  have HS := Lib.hid h
  have H32 := Lib.hid h32
  clear l1 l2 l6 h h32
  unfold rawV
  go_enter Tryz.func97, Tryz.ntmps97
  go_wp2_with fail
  generalize hW : World.alloc _ _ = W1
  have B1 : Below w.heap.size w W1 := by subst hW; exact ext_alloc _ _
  have hX : W1.heap[w.heap.size]? = some (.cells #[.int .u32 m, .slice a1 n1 c1, .slice a2 n2 c2, .slice a3 n3 c3, .slice a4 n4 c4, .slice a5 n5 c5, .slice a6 n6 c6] 39 (0, 0)) := by subst hW; exact heap_new _ _ _ rfl
  have hlt : w.heap.size < W1.heap.size := heap_lt hX
  clear hW
  refine (clone_u32 r.ins a1 n1 c1 W1 (HS.out.s1.below B1) (by omega) H32.out).mono ?_
  rintro e W2 ⟨v, rfl, hrow, hb⟩
  have hX2 := heap_below hX hb
  have p2 := cell_of_block hX2 2
  have HB1 := Lib.hid B1
  have HB2 := Lib.hid hb
  have HX := Lib.hid hX
  obtain ⟨va, vc, rfl⟩ := hrow.form
  have HR : Hid (W2.ownsRow W1.heap.size 35 1 (.slice va n1 vc) (n1 + 0) ((r.ins ++ (r.lats.take 0).map (·.1)).map nv32)) := by
    have := hrow.own
    rw [List.take_zero, List.map_nil, List.append_nil]
    exact this
  clear B1 hb hX hX2 hrow
  go_wp2
  clear p2
  go_loopw [3, 14] (fun v i wr => ∃ k : Nat, k ≤ n2 ∧ i = .int .i64 k ∧ Hid (wr.ownsRow W1.heap.size 35 1 v (n1 + k) ((r.ins ++ (r.lats.take k).map (·.1)).map nv32)) ∧ Hid (Below W1.heap.size W1 wr))
    (fun _ i _ => n2 - (intOf i).toNat)
  case atStart => exact ⟨0, Nat.zero_le _, rfl, HR.out, HB2.out⟩
  case round =>
    clear HR HB2
    obtain ⟨k, hk, rfl, hR, hB⟩ := hrel
    obtain ⟨va', vc', rfl⟩ := ownsN_form hR.out
    by_cases hlt2 : k < n2
    · obtain ⟨b, off, rfl, hbw⟩ := HS.out.s2.addr (show 0 < n2 by omega)
      obtain ⟨qx, qy, qz⟩ := ((HS.out.s2.below HB1.out).below hB.out).cells k hlt2 (0, 0, 0)
      obtain ⟨t, ht⟩ : ∃ t, t = r.lats.getD k (0, 0, 0) := ⟨_, rfl⟩
      rw [← ht] at qx qy qz
      have HT := Lib.hid ht
      clear ht
      obtain ⟨x, y, z⟩ := t
      unfold nv32 at qx qy qz
      have W1' : IntKind.i64.wrap ((k : Int) + 1) = (k : Int) + 1 := IntWalk.i64_in _ (by omega)
      obtain ⟨L, hL⟩ : ∃ L, L = (r.ins ++ (r.lats.take k).map (·.1)).map nv32 := ⟨_, rfl⟩
      rw [← hL] at hR
      have HL := Lib.hid hL
      clear hL
      go_wp2_with (at_builtin; refine wpList_append_own_at _ rfl _ _ 24 rfl W1.heap.size 35 i0 (.int .u32 0) 1 4 Tryz.underlying24 hi hz0 hz1 hz2 rfl (by omega) _ _ L rfl (ownsN_below hR.out (ext_trans (ext_alloc _ _) (ext_alloc _ _))) ⟨wr.heap.size + 1, 0, none⟩ 1 1 [nv32 x] rfl rfl ?c1 ?c2 ?c4 ?c5 ?c6 ?_)
      case c1 => exact fun j u hu => by simpa [nv32] using hu
      case c2 => first | rfl | exact ⟨rfl, rfl⟩ | (intro u hu; simp at hu; subst hu; rfl)
      case c4 => unfold maxLen; omega
      case c5 => omega
      case c6 => have := hB.out.size; omega
      intro v' w1 hrow1 hgrow1 _ _
      have hb1 : Below W1.heap.size W1 w1 := by
        have hx := hB.out.size
        refine Below.trans (b := (wr.alloc (.cells #[.int .u32 x, .int .u32 y, .int .u32 z] 55)).alloc (.cells #[.int .u32 x] 35)) ((hB.out.alloc hx _).alloc (by simp; omega) _) ?_
        exact ownsN_low (ownsN_below hR.out (ext_trans (ext_alloc _ _) (ext_alloc _ _))) hgrow1 (by simp; omega)
      have R1 : Hid (w1.ownsRow W1.heap.size 35 1 v' (n1 + (k + 1)) ((r.ins ++ (r.lats.take (k + 1)).map (·.1)).map nv32)) := by
        show World.ownsRow _ _ _ _ _ _ _
        have e : (r.ins ++ (r.lats.take (k + 1)).map (·.1)).map nv32 = L ++ [nv32 x] := by
          rw [HL.out, map_take_snoc _ _ _ (by rw [L2.out]; exact hlt2), ← HT.out, ← List.append_assoc, List.map_append]
          rfl
        rw [e, show n1 + (k + 1) = n1 + k + 1 by omega]
        exact hrow1
      have BB1 := Lib.hid hb1
      clear hrow1 hgrow1 hb1 hR hB
      go_wp2
      go_roundw
      case rel => exact ⟨k + 1, by omega, by go_num, R1, BB1⟩
      case measure => simp [intOf]; omega
    · obtain rfl : n2 = k := by omega
      have hX2 := heap_below HX.out hB.out
      have p6 := cell_of_block hX2 6
      have HR2 : Hid (wr.ownsRow W1.heap.size 35 1 (.slice va' (n1 + n2) vc') (n1 + n2 + 0) (((r.ins ++ r.lats.map (·.1)) ++ (r.gates.take 0).map (·.1)).map nv32)) := by
        have := hR.out
        rw [List.take_of_length_le (by rw [L2.out]; exact Nat.le_refl _)] at this
        rw [List.take_zero, List.map_nil, List.append_nil]
        exact this
      have HB2 := Lib.hid hB.out
      clear hR hB hX2 hlt2 hk
      go_wp2
      clear p6
      go_loopw [3, 27] (fun v i wr => ∃ k : Nat, k ≤ n6 ∧ i = .int .i64 k ∧ Hid (wr.ownsRow W1.heap.size 35 1 v (n1 + n2 + k) (((r.ins ++ r.lats.map (·.1)) ++ (r.gates.take k).map (·.1)).map nv32)) ∧ Hid (Below W1.heap.size W1 wr))
        (fun _ i _ => n6 - (intOf i).toNat)
      case atStart => exact ⟨0, Nat.zero_le _, rfl, HR2.out, HB2.out⟩
      case round =>
        clear HR2 HB2
        obtain ⟨k, hk, rfl, hR, hB⟩ := hrel
        obtain ⟨va', vc', rfl⟩ := ownsN_form hR.out
        by_cases hlt2 : k < n6
        · obtain ⟨b, off, rfl, hbw⟩ := HS.out.s6.addr (show 0 < n6 by omega)
          obtain ⟨qx, qy, qz⟩ := ((HS.out.s6.below HB1.out).below hB.out).cells k hlt2 (0, 0, 0)
          obtain ⟨t, ht⟩ : ∃ t, t = r.gates.getD k (0, 0, 0) := ⟨_, rfl⟩
          rw [← ht] at qx qy qz
          have HT := Lib.hid ht
          clear ht
          obtain ⟨x, y, z⟩ := t
          unfold nv32 at qx qy qz
          have W1' : IntKind.i64.wrap ((k : Int) + 1) = (k : Int) + 1 := IntWalk.i64_in _ (by omega)
          obtain ⟨L, hL⟩ : ∃ L, L = ((r.ins ++ r.lats.map (·.1)) ++ (r.gates.take k).map (·.1)).map nv32 := ⟨_, rfl⟩
          rw [← hL] at hR
          have HL := Lib.hid hL
          clear hL
          go_wp2_with (at_builtin; refine wpList_append_own_at _ rfl _ _ 24 rfl W1.heap.size 35 i0 (.int .u32 0) 1 4 Tryz.underlying24 hi hz0 hz1 hz2 rfl (by omega) _ _ L rfl (ownsN_below hR.out (ext_trans (ext_alloc _ _) (ext_alloc _ _))) ⟨wr.heap.size + 1, 0, none⟩ 1 1 [nv32 x] rfl rfl ?c1 ?c2 ?c4 ?c5 ?c6 ?_)
          case c1 => exact fun j u hu => by simpa [nv32] using hu
          case c2 => first | rfl | exact ⟨rfl, rfl⟩ | (intro u hu; simp at hu; subst hu; rfl)
          case c4 => unfold maxLen; omega
          case c5 => omega
          case c6 => have := hB.out.size; omega
          intro v' w1 hrow1 hgrow1 _ _
          have hb1 : Below W1.heap.size W1 w1 := by
            have hx := hB.out.size
            refine Below.trans (b := (wr.alloc (.cells #[.int .u32 x, .int .u32 y, .int .u32 z] 58)).alloc (.cells #[.int .u32 x] 35)) ((hB.out.alloc hx _).alloc (by simp; omega) _) ?_
            exact ownsN_low (ownsN_below hR.out (ext_trans (ext_alloc _ _) (ext_alloc _ _))) hgrow1 (by simp; omega)
          have R1 : Hid (w1.ownsRow W1.heap.size 35 1 v' (n1 + n2 + (k + 1)) (((r.ins ++ r.lats.map (·.1)) ++ (r.gates.take (k + 1)).map (·.1)).map nv32)) := by
            show World.ownsRow _ _ _ _ _ _ _
            have e : ((r.ins ++ r.lats.map (·.1)) ++ (r.gates.take (k + 1)).map (·.1)).map nv32 = L ++ [nv32 x] := by
              rw [HL.out, map_take_snoc _ _ _ (by rw [L6.out]; exact hlt2), ← HT.out, ← List.append_assoc, List.map_append]
              rfl
            rw [e, show n1 + n2 + (k + 1) = n1 + n2 + k + 1 by omega]
            exact hrow1
          have BB1 := Lib.hid hb1
          clear hrow1 hgrow1 hb1 hR hB
          go_wp2
          go_roundw
          case rel => exact ⟨k + 1, by omega, by go_num, R1, BB1⟩
          case measure => simp [intOf]; omega
        · obtain rfl : n6 = k := by omega
          go_wp2
          go_ret
          refine ⟨_, rfl, ?_, ?_⟩
          · have := ownsN_base hR.out (base' := w.heap.size) HB1.out.size
            rw [List.take_of_length_le (by rw [L6.out]; exact Nat.le_refl _), List.append_assoc] at this
            have e : (ownsL r).length = n1 + n2 + n6 := by
              unfold ownsL
              rw [List.length_append, List.length_append, List.length_map, List.length_map, L1.out, L2.out, L6.out]
              omega
            rw [e]
            exact this
          · exact ext_trans HB1.out hB.out
end Go.Proofs.YtglhnmbfkbjemaaGreatDoor
