/- The reference's lists of literals: inquestref03.mapped, .defined, .asked, by their contracts. -/
import Derived.Test.YtkbdebdhebphpaaNRefA
import Derived.Test.YtkbdebdhebphpaaNConcat
import Derived.Test.YtkbdebdhebphpaaNVal
namespace Go.Proofs.Ytkbdebdhebphpaa
open Go Go.RowKit Go.Joins

theorem map_take_snocN {α : Type} (f : Nat → α) (l : List Nat) (k : Nat) (h : k < l.length) : (l.take (k + 1)).map f = (l.take k).map f ++ [f (l.getD k 0)] := by
  rw [take_snocN l k h, List.map_append]; rfl

set_option maxRecDepth 100000 in
theorem mapped_any (t l : List Nat) (a : Option Addr) (n c : Nat) (a2 : Option Addr) (n2 c2 : Nat) (w : World) (h : Sees w a n c (t.map nv32)) (h2 : Sees w a2 n2 c2 (l.map nv32)) (hn1 : n ≤ 16385) (hn : n2 ≤ 1048576) (hx : ∀ x ∈ l, x / 2 < n) (hs : ∀ v, t.getD v 0 ≤ 16385) :
    Calls Try.prog 67 #[.slice a n c, .slice a2 n2 c2] w fun e w' => ∃ v, e = .returned v ∧ w'.ownsRow w.heap.size 33 1 v n2 ((l.map (numL t)).map nv32) ∧ Below w.heap.size w w' := by
  obtain ⟨i0, hi, hz0, hz1, hz2⟩ := info_parts info_u32
  have hl := h2.lenMap
  have HT := Lib.hid h
  have HS := Lib.hid h2
  have HL := Lib.hid hl
  have HX := Lib.hid hx
  have HB := Lib.hid hs
  clear h h2 hl hx hs
  go_enter Try.func67, Try.ntmps67
  go_wp2
  go_loopw [5, 6] (fun v i wr => ∃ k : Nat, k ≤ n2 ∧ i = .int .i64 k ∧ Hid (wr.ownsRow w.heap.size 33 1 v k (((l.take k).map (numL t)).map nv32)) ∧ Hid (Below w.heap.size w wr)) (fun _ i _ => n2 - (intOf i).toNat)
  case atStart => exact ⟨0, Nat.zero_le _, rfl, ownsN_nil _ _ _ _, Below.refl _ _⟩
  case round =>
    obtain ⟨k, hk, rfl, hR, hB⟩ := hrel
    obtain ⟨va', vc', rfl⟩ := ownsN_form hR.out
    by_cases hlt : k < n2
    · obtain ⟨b, off, rfl, hbw⟩ := HS.out.addr (by omega)
      have hcx := (HS.out.below hB.out).num k hlt
      have hxn := HX.out _ (getD_mem (d := 0) (show k < l.length by rw [HL.out]; exact hlt))
      obtain ⟨x, hx⟩ : ∃ x, x = l.getD k 0 := ⟨_, rfl⟩
      rw [← hx] at hcx hxn
      have HE := Lib.hid hx
      clear hx
      have hv := HB.out (x / 2)
      have HN : Hid (Calls Try.prog 66 #[.slice a n c, .int .u32 (x : Int)] wr fun e w' => e = .returned (.int .u32 ((numL t x : Nat) : Int)) ∧ wr = w') :=
        numbered_any t x a n c wr (HT.out.below hB.out) hxn HB.out (by omega)
      obtain ⟨y, hy⟩ : ∃ y, y = numL t x := ⟨_, rfl⟩
      rw [← hy] at HN
      have HY := Lib.hid hy
      have hy32 : y < 4294967296 := by rw [hy]; unfold numL; omega
      clear hy hv hxn
      have W1' : IntKind.i64.wrap ((k : Int) + 1) = (k : Int) + 1 := IntWalk.i64_in _ (by omega)
      obtain ⟨L, hL⟩ : ∃ L, L = ((l.take k).map (numL t)).map nv32 := ⟨_, rfl⟩
      rw [← hL] at hR
      have HL' := Lib.hid hL
      clear hL
      go_wp2_with fail
      refine HN.out.mono ?_
      rintro e w' ⟨rfl, rfl⟩
      go_wp2_with (at_builtin; refine wpList_append_own_at _ rfl _ _ 24 rfl w.heap.size 33 i0 (.int .u32 0) 1 4 Try.underlying24 hi hz0 hz1 hz2 rfl (by omega) _ _ L rfl (ownsN_below hR.out (ext_alloc _ _)) ⟨wr.heap.size, 0, none⟩ 1 1 [nv32 y] rfl rfl ?c1 ?c2 ?c4 ?c5 ?c6 ?_)
      case c1 =>
        intro j u hu
        have hj : j = 0 := by
          rcases j with _ | j
          · rfl
          · simp at hu
        subst hj
        have hu' : nv32 y = u := by simpa using hu
        subst hu'
        exact cell_new _ _ _ _ _ _ _ rfl rfl
      case c2 => first | rfl | exact ⟨rfl, rfl⟩ | (intro u hu; simp at hu; subst hu; rfl)
      case c4 => unfold maxLen; omega
      case c5 => omega
      case c6 => have := hB.out.size; simp; omega
      intro v' w1 hrow1 hgrow1 _ _
      have hb1 : Below w.heap.size w w1 := by
        have hx := hB.out.size
        refine Below.trans (b := wr.alloc (.cells #[.int .u32 y] 33)) (hB.out.alloc hx _) ?_
        exact ownsN_low (ownsN_below hR.out (ext_alloc _ _)) hgrow1 (by simp; omega)
      have R1 : Hid (w1.ownsRow w.heap.size 33 1 v' (k + 1) (((l.take (k + 1)).map (numL t)).map nv32)) := by
        show World.ownsRow _ _ _ _ _ _ _
        have e : ((l.take (k + 1)).map (numL t)).map nv32 = L ++ [nv32 y] := by
          rw [HL'.out, map_take_snocN _ _ _ (by rw [HL.out]; exact hlt), ← HE.out, ← HY.out, List.map_append]
          rfl
        rw [e]
        exact hrow1
      have BB1 := Lib.hid hb1
      clear hrow1 hgrow1 hb1 hR hB
      go_wp2
      go_roundw
      case rel => exact ⟨k + 1, by omega, by go_num, R1, BB1⟩
      case measure => simp [intOf]; omega
    · have hkn : k = n2 := by omega
      subst hkn
      have e : l.take k = l := List.take_of_length_le (by rw [HL.out]; exact Nat.le_refl _)
      rw [e] at hR
      go_wp2
      go_ret
      exact ⟨_, rfl, hR.out, hB.out⟩

--DEF
theorem one_new {w : World} (g x : Nat) (hg : g = w.heap.size) : ∀ (j : Nat) (u : Value), [nv32 x][j]? = some u → (w.alloc (.cells #[.int .u32 x] 33)).cell? ((⟨g, 0, none⟩ : Addr).add j) = some u := by
  intro j u hu
  have hj : j = 0 := by
    rcases j with _ | j
    · rfl
    · simp at hu
  subst hj
  have hu' : nv32 x = u := by simpa using hu
  subst hu'
  exact cell_new _ _ _ _ _ _ _ hg rfl

set_option maxRecDepth 100000 in
set_option maxHeartbeats 1600000 in
theorem defined_any (r : RawC) (s : Slots) (w : World) (h : SeesRaw w s r) (hf : s.small) (h32 : ∀ x ∈ r.ins, x < 4294967296) :
    Calls Try.prog 63 #[rawV r.max s] w fun e w' => ∃ v, e = .returned v ∧ w'.ownsRow w.heap.size 33 1 v (ownsL r).length ((ownsL r).map nv32) ∧ Below w.heap.size w w' := by
  obtain ⟨i0, hi, hz0, hz1, hz2⟩ := info_parts info_u32
  obtain ⟨a1, n1, c1, a2, n2, c2, a3, n3, c3, a4, n4, c4, a5, n5, c5, a6, n6, c6⟩ := s
  obtain ⟨hf1, hf2, hf3, hf4, hf5, hf6⟩ := hf
  simp only at hf1 hf2 hf3 hf4 hf5 hf6
  obtain ⟨m, hm⟩ : ∃ m, m = r.max := ⟨_, rfl⟩
  rw [← hm]
  clear hm
  have l1 : r.ins.length = n1 := h.s1.lenMap
  have l2 : r.lats.length = n2 := h.s2.1
  have l6 : r.gates.length = n6 := h.s6.1
  have L1 := Lib.hid l1
  have L2 := Lib.hid l2
  have L6 := Lib.hid l6
  have HS := Lib.hid h
  have H32 := Lib.hid h32
  clear l1 l2 l6 h h32
  unfold rawV
  go_enter Try.func63, Try.ntmps63
  go_upto_region 2 with fail
  generalize hW : World.alloc _ _ = W1
  have B1 : Below w.heap.size w W1 := by subst hW; exact ext_alloc _ _
  have hX : W1.heap[w.heap.size]? = some (.cells #[.int .u32 m, .slice a1 n1 c1, .slice a2 n2 c2, .slice a3 n3 c3, .slice a4 n4 c4, .slice a5 n5 c5, .slice a6 n6 c6] 37 (0, 0)) := by subst hW; exact heap_new _ _ _ rfl
  have hlt : w.heap.size < W1.heap.size := heap_lt hX
  clear hW
  have p1 := cell_of_block hX 1
  have X1 : Hid (∀ u ∈ r.ins.map nv32, isU32 u) := by
    intro u hu
    obtain ⟨x, hx, rfl⟩ := List.mem_map.1 hu
    exact ⟨x, H32.out x hx, rfl⟩
  have S1 := Lib.hid (HS.out.s1.below B1)
  have HB1 := Lib.hid B1
  have HX := Lib.hid hX
  clear B1 hX
  go_wp2_with (at_builtin; refine wpList_append_row isU32 _ rfl _ _ 24 rfl W1.heap.size 33 i0 (.int .u32 0) 4 Try.underlying24 hi hz0 hz1 hz2 rfl zero_isU32 _ _ _ rfl (Row.nil _ _ _ _) a1 n1 c1 (r.ins.map nv32) rfl S1.out (nv32_one _) X1.out ?c1 ?c2 ?c3 ?_)
  case c1 => unfold maxLen; omega
  case c2 => omega
  intro v W2 hrow hgr _
  have hb : Below W1.heap.size W1 W2 := (Below.refl _ _).grown hgr (Nat.le_refl _) (fun k hk => by cases hk)
  have hX2 := heap_below HX.out hb
  have HB2 := Lib.hid hb
  clear hgr p1 X1 S1
  have p2 := cell_of_block hX2 2
  obtain ⟨va, vc, rfl⟩ := hrow.form
  have HR : Hid (W2.ownsRow W1.heap.size 33 1 (.slice va n1 vc) (n1 + 0) ((r.ins ++ (r.lats.take 0).map (·.1)).map nv32)) := by
    have := hrow.own
    rw [List.take_zero, List.map_nil, List.append_nil]
    exact this
  clear hb hX2 hrow
  go_wp2
  clear p2
  go_loopw [3, 4] (fun v i wr => ∃ k : Nat, k ≤ n2 ∧ i = .int .i64 k ∧ Hid (wr.ownsRow W1.heap.size 33 1 v (n1 + k) ((r.ins ++ (r.lats.take k).map (·.1)).map nv32)) ∧ Hid (Below W1.heap.size W1 wr))
    (fun _ i _ => n2 - (intOf i).toNat)
  case atStart => exact ⟨0, Nat.zero_le _, rfl, HR.out, HB2.out⟩
  case round =>
    clear HR HB2
    obtain ⟨k, hk, rfl, hR, hB⟩ := hrel
    have p2 := cell_of_block (heap_below HX.out hB.out) 2
    obtain ⟨va', vc', rfl⟩ := ownsN_form hR.out
    by_cases hlt2 : k < n2
    · obtain ⟨b, off, rfl, hbw⟩ := HS.out.s2.addr (show 0 < n2 by omega)
      obtain ⟨qx, qy, qz⟩ := ((HS.out.s2.below HB1.out).below hB.out).cells k hlt2 (0, 0, 0)
      obtain ⟨t, ht⟩ : ∃ t, t = r.lats.getD k (0, 0, 0) := ⟨_, rfl⟩
      rw [← ht] at qx qy qz
      have HT := Lib.hid ht
      clear ht
      obtain ⟨x, y, z⟩ := t
      unfold nv32 at qx qy qz
      have W1' : IntKind.i64.wrap ((k : Int) + 1) = (k : Int) + 1 := IntWalk.i64_in _ (by omega)
      obtain ⟨L, hL⟩ : ∃ L, L = (r.ins ++ (r.lats.take k).map (·.1)).map nv32 := ⟨_, rfl⟩
      rw [← hL] at hR
      have HL := Lib.hid hL
      clear hL
      go_wp2_with (at_builtin; refine wpList_append_own_at _ rfl _ _ 24 rfl W1.heap.size 33 i0 (.int .u32 0) 1 4 Try.underlying24 hi hz0 hz1 hz2 rfl (by omega) _ _ L rfl (ownsN_below hR.out (ext_alloc _ _)) ⟨wr.heap.size, 0, none⟩ 1 1 [nv32 x] rfl rfl ?c1 ?c2 ?c4 ?c5 ?c6 ?_)
      case c1 => exact fun j u hu => by simpa [nv32] using hu
      case c2 => first | rfl | exact ⟨rfl, rfl⟩ | (intro u hu; simp at hu; subst hu; rfl)
      case c4 => unfold maxLen; omega
      case c5 => omega
      case c6 => have := hB.out.size; simp; omega
      intro v' w1 hrow1 hgrow1 _ _
      have hb1 : Below W1.heap.size W1 w1 := by
        have hx := hB.out.size
        refine Below.trans (b := wr.alloc (.cells #[.int .u32 x] 33)) (hB.out.alloc hx _) ?_
        exact ownsN_low (ownsN_below hR.out (ext_alloc _ _)) hgrow1 (by simp; omega)
      have R1 : Hid (w1.ownsRow W1.heap.size 33 1 v' (n1 + (k + 1)) ((r.ins ++ (r.lats.take (k + 1)).map (·.1)).map nv32)) := by
        show World.ownsRow _ _ _ _ _ _ _
        have e : (r.ins ++ (r.lats.take (k + 1)).map (·.1)).map nv32 = L ++ [nv32 x] := by
          rw [HL.out, map_take_snoc _ _ _ (by rw [L2.out]; exact hlt2), ← HT.out, ← List.append_assoc, List.map_append]
          rfl
        rw [e, show n1 + (k + 1) = n1 + k + 1 by omega]
        exact hrow1
      have BB1 := Lib.hid hb1
      clear hrow1 hgrow1 hb1 hR hB
      go_wp2
      go_roundw
      case rel => exact ⟨k + 1, by omega, by go_num, R1, BB1⟩
      case measure => simp [intOf]; omega
    · obtain rfl : n2 = k := by omega
      have HR2 : Hid (wr.ownsRow W1.heap.size 33 1 (.slice va' (n1 + n2) vc') (n1 + n2 + 0) (((r.ins ++ r.lats.map (·.1)) ++ (r.gates.take 0).map (·.1)).map nv32)) := by
        have := hR.out
        rw [List.take_of_length_le (by rw [L2.out]; exact Nat.le_refl _)] at this
        rw [List.take_zero, List.map_nil, List.append_nil]
        exact this
      have HB2 := Lib.hid hB.out
      clear hR hB hlt2 hk
      go_wp2
      clear p2
      go_loopw [3, 5] (fun v i wr => ∃ k : Nat, k ≤ n6 ∧ i = .int .i64 k ∧ Hid (wr.ownsRow W1.heap.size 33 1 v (n1 + n2 + k) (((r.ins ++ r.lats.map (·.1)) ++ (r.gates.take k).map (·.1)).map nv32)) ∧ Hid (Below W1.heap.size W1 wr))
        (fun _ i _ => n6 - (intOf i).toNat)
      case atStart => exact ⟨0, Nat.zero_le _, rfl, HR2.out, HB2.out⟩
      case round =>
        clear HR2 HB2
        obtain ⟨k, hk, rfl, hR, hB⟩ := hrel
        have p6 := cell_of_block (heap_below HX.out hB.out) 6
        obtain ⟨va', vc', rfl⟩ := ownsN_form hR.out
        by_cases hlt2 : k < n6
        · obtain ⟨b, off, rfl, hbw⟩ := HS.out.s6.addr (show 0 < n6 by omega)
          obtain ⟨qx, qy, qz⟩ := ((HS.out.s6.below HB1.out).below hB.out).cells k hlt2 (0, 0, 0)
          obtain ⟨t, ht⟩ : ∃ t, t = r.gates.getD k (0, 0, 0) := ⟨_, rfl⟩
          rw [← ht] at qx qy qz
          have HT := Lib.hid ht
          clear ht
          obtain ⟨x, y, z⟩ := t
          unfold nv32 at qx qy qz
          have W1' : IntKind.i64.wrap ((k : Int) + 1) = (k : Int) + 1 := IntWalk.i64_in _ (by omega)
          obtain ⟨L, hL⟩ : ∃ L, L = ((r.ins ++ r.lats.map (·.1)) ++ (r.gates.take k).map (·.1)).map nv32 := ⟨_, rfl⟩
          rw [← hL] at hR
          have HL := Lib.hid hL
          clear hL
          go_wp2_with (at_builtin; refine wpList_append_own_at _ rfl _ _ 24 rfl W1.heap.size 33 i0 (.int .u32 0) 1 4 Try.underlying24 hi hz0 hz1 hz2 rfl (by omega) _ _ L rfl (ownsN_below hR.out (ext_alloc _ _)) ⟨wr.heap.size, 0, none⟩ 1 1 [nv32 x] rfl rfl ?c1 ?c2 ?c4 ?c5 ?c6 ?_)
          case c1 => exact fun j u hu => by simpa [nv32] using hu
          case c2 => first | rfl | exact ⟨rfl, rfl⟩ | (intro u hu; simp at hu; subst hu; rfl)
          case c4 => unfold maxLen; omega
          case c5 => omega
          case c6 => have := hB.out.size; simp; omega
          intro v' w1 hrow1 hgrow1 _ _
          have hb1 : Below W1.heap.size W1 w1 := by
            have hx := hB.out.size
            refine Below.trans (b := wr.alloc (.cells #[.int .u32 x] 33)) (hB.out.alloc hx _) ?_
            exact ownsN_low (ownsN_below hR.out (ext_alloc _ _)) hgrow1 (by simp; omega)
          have R1 : Hid (w1.ownsRow W1.heap.size 33 1 v' (n1 + n2 + (k + 1)) (((r.ins ++ r.lats.map (·.1)) ++ (r.gates.take (k + 1)).map (·.1)).map nv32)) := by
            show World.ownsRow _ _ _ _ _ _ _
            have e : ((r.ins ++ r.lats.map (·.1)) ++ (r.gates.take (k + 1)).map (·.1)).map nv32 = L ++ [nv32 x] := by
              rw [HL.out, map_take_snoc _ _ _ (by rw [L6.out]; exact hlt2), ← HT.out, ← List.append_assoc, List.map_append]
              rfl
            rw [e, show n1 + n2 + (k + 1) = n1 + n2 + k + 1 by omega]
            exact hrow1
          have BB1 := Lib.hid hb1
          clear hrow1 hgrow1 hb1 hR hB
          go_wp2
          go_roundw
          case rel => exact ⟨k + 1, by omega, by go_num, R1, BB1⟩
          case measure => simp [intOf]; omega
        · obtain rfl : n6 = k := by omega
          go_wp2
          go_ret
          refine ⟨_, rfl, ?_, ?_⟩
          · have := ownsN_base hR.out (base' := w.heap.size) HB1.out.size
            rw [List.take_of_length_le (by rw [L6.out]; exact Nat.le_refl _), List.append_assoc] at this
            have e : (ownsL r).length = n1 + n2 + n6 := by
              unfold ownsL
              rw [List.length_append, List.length_append, List.length_map, List.length_map, L1.out, L2.out, L6.out]
              omega
            rw [e]
            exact this
          · exact ext_trans HB1.out hB.out
end Go.Proofs.Ytkbdebdhebphpaa
