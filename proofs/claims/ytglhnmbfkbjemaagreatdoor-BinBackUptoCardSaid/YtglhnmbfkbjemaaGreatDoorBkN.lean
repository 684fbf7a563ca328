/- What the queue holds while gates are numbered, on plain lists. -/
import Derived.Test.YtglhnmbfkbjemaaGreatDoorNOwns
import Derived.Test.YtglhnmbfkbjemaaGreatDoorNHeap2
import Derived.Lib.AppendZeros
import Derived.Test.YtglhnmbfkbjemaaGreatDoorBkE
import Derived.Test.YtglhnmbfkbjemaaGreatDoorBkA
/- slices.Grow of nothing, slices.Concat of three lists of numbers, by their contracts. -/
namespace Go.Proofs.YtglhnmbfkbjemaaGreatDoor
open Go Go.RowKit Go.Joins
theorem zero_isU32 : isU32 (.int .u32 0) := ⟨0, by omega, rfl⟩
set_option maxRecDepth 100000 in
theorem grow_nil (n : Nat) (w : World) (hn : n ≤ 1000000000) :
    Calls Tryz.prog 117 #[.slice none 0 0, .int .i64 n] w fun e w' => ∃ v, e = .returned v ∧ Row isU32 w' w.heap.size 35 v 0 [] ∧ Below w.heap.size w w' := by
  obtain ⟨i0, hi, hz0, hz1, hz2⟩ := info_parts info_u32
  have e1 : decide ((n : Int) < 0) = false := by simp
  have W1 : IntKind.i64.wrap ((n : Int) - 0) = (n : Int) := by rw [Int.sub_zero]; exact IntWalk.i64_in _ (by omega)
  by_cases h0 : n = 0
  · subst h0
    go_enter Tryz.func117, Tryz.ntmps117
    go_wp2
    go_ret
    exact ⟨_, rfl, Row.nil _ _ _ _, Below.refl _ _⟩
  · have e2 : decide ((0 : Int) < (n : Int)) = true := by simp; omega
    have hr := fun ty => Lib.run_append_nil_zeros (P := Tryz.prog) w 24 3 ty 35 i0 (.int .u32 0) .i64 .i64 Tryz.underlying24 Tryz.underlying3 hi hz0 n (by omega) (by omega) (by omega) (by rw [hz2]; omega)
    have hge := grownCap_ge w n 0 35
    have hle := grownCap_le_maxLen w n 0 35 (by unfold maxLen; omega)
    obtain ⟨cp, hcp⟩ : ∃ cp, cp = grownCap w n 0 35 := ⟨_, rfl⟩
    obtain ⟨cells, hcells⟩ : ∃ cells, cells = Builtin.zeroCells (Value.int .u32 0).cells n ++ Builtin.zeroCells (Value.int .u32 0).cells (grownCap w n 0 35 - n) := ⟨_, rfl⟩
    have hsz : cells.size = cp := by
      rw [hcells, Array.size_append, size_zeroCells, size_zeroCells, hcp]
      simp [Value.cells]
      omega
    have hok : ∀ u ∈ cells.toList, isU32 u := by
      intro u hu
      rw [hcells, Array.toList_append, List.mem_append] at hu
      rcases hu with hu | hu
      · rw [mem_zeroCells rfl hu]; exact zero_isU32
      · rw [mem_zeroCells rfl hu]; exact zero_isU32
    rw [← hcells, ← hcp] at hr
    rw [← hcp] at hge hle
    have HR : Hid (∀ ty, (Builtin.append_ #[24, 3] ty #[.slice none 0 0, .int .i64 n]).run Tryz.prog w = .ok (.slice (some ⟨w.heap.size, 0, none⟩) n cp) (w.drew.alloc (.cells cells 35))) := hr
    have HSZ := Lib.hid hsz
    have HOK := Lib.hid hok
    have sl := fun W => (run_upto (P := Tryz.prog) Tryz.underlying24 size_u32 W (some ⟨w.heap.size, 0, none⟩) n cp 0 0 rfl (by omega)).trans (congrArg (fun v => Result.ok v W) (sliced_upto w.heap.size 0 cp))
    clear hcp hcells hsz hok hr
    go_enter Tryz.func117, Tryz.ntmps117
    go_wp2_with (at_builtin; refine Lib.wpList_append_run _ rfl _ _ _ _ rfl _ _ rfl rfl _ _ (HR.out _) ?_)
    go_wp2
    go_ret
    refine ⟨_, rfl, ⟨rfl, .inr ⟨w.heap.size, cp, cells, rfl, Nat.le_refl _, heap_alloc_new w.drew _, Nat.zero_le _, hle, HSZ.out, rfl, HOK.out⟩⟩, ((Below.refl _ w).drew).alloc (Nat.le_refl _) _⟩
set_option maxRecDepth 100000 in
set_option maxHeartbeats 1600000 in
theorem concat3_any (xs ys zs : List Nat) (a1 a2 a3 : Option Addr) (n1 c1 n2 c2 n3 c3 D : Nat) (w : World) (h1 : Sees w a1 n1 c1 (xs.map nv32)) (h2 : Sees w a2 n2 c2 (ys.map nv32)) (h3 : Sees w a3 n3 c3 (zs.map nv32))
    (hD : w.heap[D]? = some (.cells #[.slice a1 n1 c1, .slice a2 n2 c2, .slice a3 n3 c3] 24 (0, 0))) (b1 : n1 ≤ 1048576) (b2 : n2 ≤ 1048576) (b3 : n3 ≤ 1048576) (x1 : ∀ x ∈ xs, x < 4294967296) (x2 : ∀ x ∈ ys, x < 4294967296) (x3 : ∀ x ∈ zs, x < 4294967296) :
    Calls Tryz.prog 99 #[.slice (some ⟨D, 0, .none⟩) 3 3] w fun e w' => ∃ v, e = .returned v ∧ Row isU32 w' w.heap.size 35 v (n1 + n2 + n3) ((xs ++ (ys ++ zs)).map nv32) ∧ Below w.heap.size w w' := by
  obtain ⟨i0, hi, hz0, hz1, hz2⟩ := info_parts info_u32
  have q0 := cell_of_block hD 0
  have q1 := cell_of_block hD 1
  have q2 := cell_of_block hD 2
  have ok (l : List Nat) (h : ∀ x ∈ l, x < 4294967296) : ∀ u ∈ l.map nv32, isU32 u := by
    intro u hu
    obtain ⟨x, hx, rfl⟩ := List.mem_map.1 hu
    exact ⟨x, h x hx, rfl⟩
  have X1 := Lib.hid (ok xs x1)
  have X2 := Lib.hid (ok ys x2)
  have X3 := Lib.hid (ok zs x3)
  have H1 := Lib.hid h1
  have H2 := Lib.hid h2
  have H3 := Lib.hid h3
  have HD := Lib.hid hD
  clear h1 h2 h3 hD ok x1 x2 x3
  have W0 : IntKind.i64.wrap (0 + (n1 : Int)) = (n1 : Int) := by rw [Int.zero_add]; exact IntWalk.i64_in _ (by omega)
  have W1 : IntKind.i64.wrap ((n1 : Int) + (n2 : Int)) = (n1 : Int) + (n2 : Int) := IntWalk.i64_in _ (by omega)
  have W2 : IntKind.i64.wrap ((n1 : Int) + (n2 : Int) + (n3 : Int)) = (n1 : Int) + (n2 : Int) + (n3 : Int) := IntWalk.i64_in _ (by omega)
  have e0 : decide ((n1 : Int) < 0) = false := by simp
  have e1 : decide ((n1 : Int) + (n2 : Int) < 0) = false := by simp; omega
  have e2 : decide ((n1 : Int) + (n2 : Int) + (n3 : Int) < 0) = false := by simp; omega
  go_enter Tryz.func99, Tryz.ntmps99
  go_wp2
  refine wp_loop_rounds 4 ?_
  rw [rounds_succ]
  go_wp2
  rw [rounds_succ]
  go_wp2
  rw [rounds_succ]
  go_wp2
  rw [rounds_succ]
  go_wp2_with fail
  rw [show (n1 : Int) + (n2 : Int) + (n3 : Int) = ((n1 + n2 + n3 : Nat) : Int) by omega]
  refine (grow_nil (n1 + n2 + n3) w (by omega)).mono ?_
  rintro e V0 ⟨v0, rfl, hr0, hb0⟩
  clear W0 W1 W2 e0 e1 e2 q0 q1 q2
  have R0 : Hid (Row isU32 V0 w.heap.size 35 v0 0 ([] : List Value)) := hr0
  have B0 := Lib.hid hb0
  obtain ⟨va0, vc0, rfl⟩ := hr0.form
  have q0 := cell_of_block (heap_below HD.out hb0) 0
  clear hr0 hb0
  go_wp2
  refine wp_loop_rounds 4 ?_
  rw [rounds_succ]
  go_wp2_with (at_builtin; refine wpList_append_row isU32 _ rfl _ _ 24 rfl w.heap.size 35 i0 (.int .u32 0) 4 Tryz.underlying24 hi hz0 hz1 hz2 rfl zero_isU32 _ _ _ rfl R0.out a1 n1 c1 (xs.map nv32) rfl (H1.out.below B0.out) (nv32_one _) X1.out ?c1 ?c2 ?c3 ?_)
  case c1 => unfold maxLen; omega
  case c2 => omega
  case c3 => exact B0.out.size
  intro v1 V1 hr1 hg1 _
  have hb1 : Below w.heap.size w V1 := B0.out.grown hg1 B0.out.size (fun k hk => (R0.out.own.lt k hk).1)
  have B1 := Lib.hid hb1
  obtain ⟨va1, vc1, rfl⟩ := hr1.form
  have R1 := Lib.hid hr1
  clear hg1 q0
  have q1 := cell_of_block (heap_below HD.out hb1) 1
  clear hr1 hb1
  go_wp2
  rw [rounds_succ]
  go_wp2_with (at_builtin; refine wpList_append_row isU32 _ rfl _ _ 24 rfl w.heap.size 35 i0 (.int .u32 0) 4 Tryz.underlying24 hi hz0 hz1 hz2 rfl zero_isU32 _ _ _ rfl R1.out a2 n2 c2 (ys.map nv32) rfl (H2.out.below B1.out) (nv32_one _) X2.out ?c1 ?c2 ?c3 ?_)
  case c1 => unfold maxLen; omega
  case c2 => omega
  case c3 => exact B1.out.size
  intro v2 V2 hr2 hg2 _
  have hb2 : Below w.heap.size w V2 := B1.out.grown hg2 B1.out.size (fun k hk => (R1.out.own.lt k hk).1)
  have B2 := Lib.hid hb2
  obtain ⟨va2, vc2, rfl⟩ := hr2.form
  have R2 := Lib.hid hr2
  clear hg2 q1
  have q2 := cell_of_block (heap_below HD.out hb2) 2
  clear hr2 hb2
  go_wp2
  rw [rounds_succ]
  go_wp2_with (at_builtin; refine wpList_append_row isU32 _ rfl _ _ 24 rfl w.heap.size 35 i0 (.int .u32 0) 4 Tryz.underlying24 hi hz0 hz1 hz2 rfl zero_isU32 _ _ _ rfl R2.out a3 n3 c3 (zs.map nv32) rfl (H3.out.below B2.out) (nv32_one _) X3.out ?c1 ?c2 ?c3 ?_)
  case c1 => unfold maxLen; omega
  case c2 => omega
  case c3 => exact B2.out.size
  intro v3 V3 hr3 hg3 _
  have hb3 : Below w.heap.size w V3 := B2.out.grown hg3 B2.out.size (fun k hk => (R2.out.own.lt k hk).1)
  have B3 := Lib.hid hb3
  obtain ⟨va3, vc3, rfl⟩ := hr3.form
  have R3 := Lib.hid hr3
  clear hg3 q2
  clear hr3 hb3
  go_wp2
  rw [rounds_succ]
  go_wp2
  go_ret
  refine ⟨_, rfl, ?_, B3.out⟩
  have h := R3.out
  rw [List.map_append, List.map_append]
  exact h
end Go.Proofs.YtglhnmbfkbjemaaGreatDoor
/- norm.references, by its contract. -/
namespace Go.Proofs.YtglhnmbfkbjemaaGreatDoor
open Go Go.RowKit Go.Joins
theorem flat_take_snoc (f : Tri → List Nat) (l : List Tri) (k : Nat) (h : k < l.length) : (l.take (k + 1)).flatMap f = (l.take k).flatMap f ++ f (l.getD k (0, 0, 0)) := by
  rw [List.take_succ_eq_append_getElem h, List.flatMap_append]
  congr 1
  simp [List.getD, List.getElem?_eq_getElem h]
set_option maxRecDepth 100000 in
set_option maxHeartbeats 1600000 in
theorem refs_any (r : RawC) (s : Slots) (w : World) (h : SeesRaw w s r) (hf : s.small) (x3 : ∀ x ∈ r.outs, x < 4294967296) (x4 : ∀ x ∈ r.bads, x < 4294967296) (x5 : ∀ x ∈ r.cons, x < 4294967296) :
    Calls Tryz.prog 69 #[rawV r.max s] w fun e w' => ∃ v, e = .returned v ∧ w'.ownsRow w.heap.size 35 1 v (refsL r).length ((refsL r).map nv32) ∧ Below w.heap.size w w' := by
  obtain ⟨i0, hi, hz0, hz1, hz2⟩ := info_parts info_u32
  obtain ⟨a1, n1, c1, a2, n2, c2, a3, n3, c3, a4, n4, c4, a5, n5, c5, a6, n6, c6⟩ := s
  obtain ⟨hf1, hf2, hf3, hf4, hf5, hf6⟩ := hf
  simp only at hf1 hf2 hf3 hf4 hf5 hf6
  obtain ⟨m, hm⟩ : ∃ m, m = r.max := ⟨_, rfl⟩
  rw [← hm]
  clear hm
  have l2 : r.lats.length = n2 := h.s2.1
  have l3 : r.outs.length = n3 := h.s3.lenMap
  have l4 : r.bads.length = n4 := h.s4.lenMap
  have l5 : r.cons.length = n5 := h.s5.lenMap
  have l6 : r.gates.length = n6 := h.s6.1
  have L2 := Lib.hid l2
  have L3 := Lib.hid l3
  have L4 := Lib.hid l4
  have L5 := Lib.hid l5
  have L6 := Lib.hid l6
  have HS := Lib.hid h
  have X3 := Lib.hid x3
  have X4 := Lib.hid x4
  have X5 := Lib.hid x5
  clear l2 l3 l4 l5 l6 h x3 x4 x5
  unfold rawV
  go_enter Tryz.func69, Tryz.ntmps69
  go_wp2_with fail
  generalize hW : World.alloc _ _ = W1
  have B1 : Below w.heap.size w W1 := by subst hW; exact ext_trans (ext_alloc _ _) (ext_alloc _ _)
  have hX : W1.heap[w.heap.size]? = some (.cells #[.int .u32 m, .slice a1 n1 c1, .slice a2 n2 c2, .slice a3 n3 c3, .slice a4 n4 c4, .slice a5 n5 c5, .slice a6 n6 c6] 39 (0, 0)) := by subst hW; exact heap_below (heap_new _ _ _ rfl) (ext_alloc _ _)
  have hD : W1.heap[w.heap.size + 1]? = some (.cells #[.slice a3 n3 c3, .slice a4 n4 c4, .slice a5 n5 c5] 24 (0, 0)) := by subst hW; exact heap_new _ _ _ (by simp)
  clear hW
  refine (concat3_any r.outs r.bads r.cons a3 a4 a5 n3 c3 n4 c4 n5 c5 (w.heap.size + 1) W1 (HS.out.s3.below B1) (HS.out.s4.below B1) (HS.out.s5.below B1) hD hf3 hf4 hf5 X3.out X4.out X5.out).mono ?_
  rintro e W2 ⟨v, rfl, hrow, hb⟩
  have hX2 := heap_below hX hb
  have p2 := cell_of_block hX2 2
  have HB1 := Lib.hid B1
  have HB2 := Lib.hid hb
  have HX := Lib.hid hX
  obtain ⟨va, vc, rfl⟩ := hrow.form
  have HR : Hid (W2.ownsRow W1.heap.size 35 1 (.slice va (n3 + n4 + n5) vc) (n3 + n4 + n5 + 0) (((r.outs ++ (r.bads ++ r.cons)) ++ (r.lats.take 0).map (·.2.1)).map nv32)) := by
    have := hrow.own
    rw [List.take_zero, List.map_nil, List.append_nil]
    exact this
  clear B1 hb hX hX2 hrow hD
  go_wp2
  clear p2
  go_loopw [3, 19] (fun v i wr => ∃ k : Nat, k ≤ n2 ∧ i = .int .i64 k ∧ Hid (wr.ownsRow W1.heap.size 35 1 v (n3 + n4 + n5 + k) (((r.outs ++ (r.bads ++ r.cons)) ++ (r.lats.take k).map (·.2.1)).map nv32)) ∧ Hid (Below W1.heap.size W1 wr))
    (fun _ i _ => n2 - (intOf i).toNat)
  case atStart => exact ⟨0, Nat.zero_le _, rfl, HR.out, HB2.out⟩
  case round =>
    clear HR HB2
    obtain ⟨k, hk, rfl, hR, hB⟩ := hrel
    obtain ⟨va', vc', rfl⟩ := ownsN_form hR.out
    by_cases hlt2 : k < n2
    · obtain ⟨b, off, rfl, hbw⟩ := HS.out.s2.addr (show 0 < n2 by omega)
      obtain ⟨qx, qy, qz⟩ := ((HS.out.s2.below HB1.out).below hB.out).cells k hlt2 (0, 0, 0)
      obtain ⟨t, ht⟩ : ∃ t, t = r.lats.getD k (0, 0, 0) := ⟨_, rfl⟩
      rw [← ht] at qx qy qz
      have HT := Lib.hid ht
      clear ht
      obtain ⟨x, y, z⟩ := t
      unfold nv32 at qx qy qz
      have W1' : IntKind.i64.wrap ((k : Int) + 1) = (k : Int) + 1 := IntWalk.i64_in _ (by omega)
      obtain ⟨L, hL⟩ : ∃ L, L = ((r.outs ++ (r.bads ++ r.cons)) ++ (r.lats.take k).map (·.2.1)).map nv32 := ⟨_, rfl⟩
      rw [← hL] at hR
      have HL := Lib.hid hL
      clear hL
      go_wp2_with (at_builtin; refine wpList_append_own_at _ rfl _ _ 24 rfl W1.heap.size 35 i0 (.int .u32 0) 1 4 Tryz.underlying24 hi hz0 hz1 hz2 rfl (by omega) _ _ L rfl (ownsN_below hR.out (ext_trans (ext_alloc _ _) (ext_alloc _ _))) ⟨wr.heap.size + 1, 0, none⟩ 1 1 [nv32 y] rfl rfl ?c1 ?c2 ?c4 ?c5 ?c6 ?_)
      case c1 => exact fun j u hu => by simpa [nv32] using hu
      case c2 => first | rfl | exact ⟨rfl, rfl⟩ | (intro u hu; simp at hu; subst hu; rfl)
      case c4 => unfold maxLen; omega
      case c5 => omega
      case c6 => have := hB.out.size; omega
      intro v' w1 hrow1 hgrow1 _ _
      have hb1 : Below W1.heap.size W1 w1 := by
        have hx := hB.out.size
        refine Below.trans (b := (wr.alloc (.cells #[.int .u32 x, .int .u32 y, .int .u32 z] 55)).alloc (.cells #[.int .u32 y] 35)) ((hB.out.alloc hx _).alloc (by simp; omega) _) ?_
        exact ownsN_low (ownsN_below hR.out (ext_trans (ext_alloc _ _) (ext_alloc _ _))) hgrow1 (by simp; omega)
      have R1 : Hid (w1.ownsRow W1.heap.size 35 1 v' (n3 + n4 + n5 + (k + 1)) (((r.outs ++ (r.bads ++ r.cons)) ++ (r.lats.take (k + 1)).map (·.2.1)).map nv32)) := by
        show World.ownsRow _ _ _ _ _ _ _
        have e : ((r.outs ++ (r.bads ++ r.cons)) ++ (r.lats.take (k + 1)).map (·.2.1)).map nv32 = L ++ [nv32 y] := by
          rw [HL.out, map_take_snoc _ _ _ (by rw [L2.out]; exact hlt2), ← HT.out, ← List.append_assoc, List.map_append]
          rfl
        rw [e, show n3 + n4 + n5 + (k + 1) = n3 + n4 + n5 + k + 1 by omega]
        exact hrow1
      have BB1 := Lib.hid hb1
      clear hrow1 hgrow1 hb1 hR hB
      go_wp2
      go_roundw
      case rel => exact ⟨k + 1, by omega, by go_num, R1, BB1⟩
      case measure => simp [intOf]; omega
    · obtain rfl : n2 = k := by omega
      have hX2 := heap_below HX.out hB.out
      have p6 := cell_of_block hX2 6
      have HR2 : Hid (wr.ownsRow W1.heap.size 35 1 (.slice va' (n3 + n4 + n5 + n2) vc') (n3 + n4 + n5 + n2 + 0) ((((r.outs ++ (r.bads ++ r.cons)) ++ r.lats.map (·.2.1)) ++ (r.gates.take 0).flatMap gate1).map nv32)) := by
        have := hR.out
        rw [List.take_of_length_le (by rw [L2.out]; exact Nat.le_refl _)] at this
        rw [List.take_zero, List.flatMap_nil, List.append_nil]
        exact this
      have HB2 := Lib.hid hB.out
      clear hR hB hX2 hlt2 hk
      go_wp2
      clear p6
      go_loopw [3, 32] (fun v i wr => ∃ k : Nat, k ≤ n6 ∧ i = .int .i64 k ∧ Hid (wr.ownsRow W1.heap.size 35 1 v (n3 + n4 + n5 + n2 + k * 2) ((((r.outs ++ (r.bads ++ r.cons)) ++ r.lats.map (·.2.1)) ++ (r.gates.take k).flatMap gate1).map nv32)) ∧ Hid (Below W1.heap.size W1 wr))
        (fun _ i _ => n6 - (intOf i).toNat)
      case atStart => exact ⟨0, Nat.zero_le _, rfl, HR2.out, HB2.out⟩
      case round =>
        clear HR2 HB2
        obtain ⟨k, hk, rfl, hR, hB⟩ := hrel
        obtain ⟨va', vc', rfl⟩ := ownsN_form hR.out
        by_cases hlt2 : k < n6
        · obtain ⟨b, off, rfl, hbw⟩ := HS.out.s6.addr (show 0 < n6 by omega)
          obtain ⟨qx, qy, qz⟩ := ((HS.out.s6.below HB1.out).below hB.out).cells k hlt2 (0, 0, 0)
          obtain ⟨t, ht⟩ : ∃ t, t = r.gates.getD k (0, 0, 0) := ⟨_, rfl⟩
          rw [← ht] at qx qy qz
          have HT := Lib.hid ht
          clear ht
          obtain ⟨x, y, z⟩ := t
          unfold nv32 at qx qy qz
          have W1' : IntKind.i64.wrap ((k : Int) + 1) = (k : Int) + 1 := IntWalk.i64_in _ (by omega)
          obtain ⟨L, hL⟩ : ∃ L, L = (((r.outs ++ (r.bads ++ r.cons)) ++ r.lats.map (·.2.1)) ++ (r.gates.take k).flatMap gate1).map nv32 := ⟨_, rfl⟩
          rw [← hL] at hR
          have HL := Lib.hid hL
          clear hL
          go_wp2_with (at_builtin; refine wpList_append_own_at _ rfl _ _ 24 rfl W1.heap.size 35 i0 (.int .u32 0) 1 4 Tryz.underlying24 hi hz0 hz1 hz2 rfl (by omega) _ _ L rfl (ownsN_below hR.out (ext_trans (ext_alloc _ _) (ext_alloc _ _))) ⟨wr.heap.size + 1, 0, none⟩ 2 2 [nv32 y, nv32 z] rfl rfl ?c1 ?c2 ?c4 ?c5 ?c6 ?_)
          case c1 => exact fun j u hu => by simpa [nv32] using hu
          case c2 => first | rfl | exact ⟨rfl, rfl⟩ | (intro u hu; simp at hu; subst hu; rfl)
          case c4 => unfold maxLen; omega
          case c5 => omega
          case c6 => have := hB.out.size; omega
          intro v' w1 hrow1 hgrow1 _ _
          have hb1 : Below W1.heap.size W1 w1 := by
            have hx := hB.out.size
            refine Below.trans (b := (wr.alloc (.cells #[.int .u32 x, .int .u32 y, .int .u32 z] 58)).alloc (.cells #[.int .u32 y, .int .u32 z] 35)) ((hB.out.alloc hx _).alloc (by simp; omega) _) ?_
            exact ownsN_low (ownsN_below hR.out (ext_trans (ext_alloc _ _) (ext_alloc _ _))) hgrow1 (by simp; omega)
          have R1 : Hid (w1.ownsRow W1.heap.size 35 1 v' (n3 + n4 + n5 + n2 + (k + 1) * 2) ((((r.outs ++ (r.bads ++ r.cons)) ++ r.lats.map (·.2.1)) ++ (r.gates.take (k + 1)).flatMap gate1).map nv32)) := by
            show World.ownsRow _ _ _ _ _ _ _
            have e : (((r.outs ++ (r.bads ++ r.cons)) ++ r.lats.map (·.2.1)) ++ (r.gates.take (k + 1)).flatMap gate1).map nv32 = L ++ [nv32 y, nv32 z] := by
              rw [HL.out, flat_take_snoc _ _ _ (by rw [L6.out]; exact hlt2), ← HT.out, ← List.append_assoc, List.map_append]
              rfl
            rw [e, show n3 + n4 + n5 + n2 + (k + 1) * 2 = n3 + n4 + n5 + n2 + k * 2 + 2 by omega]
            exact hrow1
          have BB1 := Lib.hid hb1
          clear hrow1 hgrow1 hb1 hR hB
          go_wp2
          go_roundw
          case rel => exact ⟨k + 1, by omega, by go_num, R1, BB1⟩
          case measure => simp [intOf]; omega
        · obtain rfl : n6 = k := by omega
          go_wp2
          go_ret
          refine ⟨_, rfl, ?_, ?_⟩
          · have := ownsN_base hR.out (base' := w.heap.size) HB1.out.size
            rw [List.take_of_length_le (by rw [L6.out]; exact Nat.le_refl _), List.append_assoc] at this
            have e : (refsL r).length = n3 + n4 + n5 + n2 + n6 * 2 := by
              have hfl : (r.gates.flatMap gate1).length = n6 * 2 := by
                rw [← L6.out]
                clear this
                induction r.gates with
                | nil => rfl
                | cons g t ih => rw [List.flatMap_cons, List.length_append, ih]; simp [gate1]; omega
              unfold refsL
              rw [List.length_append, List.length_append, List.length_append, List.length_append, List.length_map, hfl, L2.out, L3.out, L4.out, L5.out]
              omega
            rw [e]
            exact this
          · exact ext_trans HB1.out hB.out
end Go.Proofs.YtglhnmbfkbjemaaGreatDoor
/- norm.definitions, and the closure of Of, by their contracts. -/
namespace Go.Proofs.YtglhnmbfkbjemaaGreatDoor
open Go Go.RowKit Go.Joins
theorem info_bool : (Tryz.prog.info? 4).map (fun i => (i.zero, i.size, i.bytes)) = some (some (.bool false), 1, 1) := by kernel_rfl
def bcells (d : List Bool) : Array Value := (d.map Value.bool).toArray
theorem bcells_set (d : List Bool) (i : Nat) (b : Bool) : (bcells d).setIfInBounds i (.bool b) = bcells (d.set i b) := by
  apply Array.ext'
  simp [bcells]
theorem bcells_get (d : List Bool) (i : Nat) (h : i < d.length) : (bcells d)[i]? = some (.bool (d.getD i false)) := by
  simp [bcells, List.getD, List.getElem?_eq_getElem h]
def IdxW (p : Nat → Bool) (l : List Nat) (w : World) (e : Ending) (w' : World) : Prop := ∃ z : Int, e = .returned (.int .i64 z) ∧ -1 ≤ z ∧ (0 ≤ z ↔ l.any p = true) ∧ w = w'
set_option maxRecDepth 100000 in
theorem missing_at (x B D : Nat) (d : List Bool) (c : Nat) (w : World) (hB : w.heap[B]? = some (.cells #[.slice (some ⟨D, 0, .none⟩) d.length c] 112 (0, 0))) (hD : w.heap[D]? = some (.cells (bcells d) 4 (0, 0))) (hx : x / 2 < d.length) :
    Calls Tryz.prog 67 #[.int .u32 x, .pointer (some ⟨B, 0, .none⟩)] w fun e w' => e = .returned (.bool (missing d x)) ∧ w = w' := by
  have c1 := cell_of_block hB 0
  have c2 := (cell_of_block hD (x / 2)).trans (bcells_get d (x / 2) hx)
  have c1' : w.cell? ⟨B, 0, none⟩ = some (.slice (some ⟨D, 0, .none⟩) d.length c) := c1
  have e : missing d x = !d.getD (x / 2) false := rfl
  obtain ⟨q, hq⟩ : ∃ q, q = d.getD (x / 2) false := ⟨_, rfl⟩
  rw [← hq] at c2 e
  rw [e]
  clear c1 e hq hB hD
  go_enter Tryz.func67, Tryz.ntmps67
  go_wp2
  go_ret
  exact ⟨rfl, rfl⟩
set_option maxRecDepth 100000 in
theorem idx_missing (p : Nat → Bool) (B : Nat) (l : List Nat) (a : Option Addr) (n c : Nat) (hn : n ≤ 140737488355328) (w : World) (h : Sees w a n c (l.map nv32))
    (hc : ∀ x ∈ l, Calls Tryz.prog 67 #[.int .u32 x, .pointer (some ⟨B, 0, .none⟩)] w fun e w' => e = .returned (.bool (p x)) ∧ w = w') :
    Calls Tryz.prog 98 #[.slice a n c, (.func (.func 67) #[] #[.pointer (some ⟨B, 0, .none⟩)])] w (IdxW p l w) := by
  have hl : l.length = n := by have := h.len; simpa using this
  have HS := Lib.hid h
  have HL := Lib.hid hl
  have HC := Lib.hid hc
  clear h hl hc
  go_enter Tryz.func98, Tryz.ntmps98
  go_wp2
  go_loop [5, 8] (fun v i => ∃ k : Nat, k ≤ n ∧ i = .int .i64 k ∧ Hid (∀ j, j < k → p (l.getD j 0) = false)) (fun _ i => n - (intOf i).toNat)
  case atStart => exact ⟨0, Nat.zero_le _, rfl, fun j hj => absurd hj (by omega)⟩
  case round =>
    obtain ⟨k, hk, rfl, hno⟩ := hrel
    by_cases hlt : k < n
    · obtain ⟨b, off, rfl, hbw⟩ := HS.out.addr (by omega)
      have hcx := HS.out.num k hlt
      have HCX := Lib.hid (HC.out (l.getD k 0) (getD_mem (by rw [HL.out]; exact hlt)))
      obtain ⟨x, hx⟩ : ∃ x, x = l.getD k 0 := ⟨_, rfl⟩
      rw [← hx] at hcx HCX
      have HX := Lib.hid hx
      clear hx
      have W1 : IntKind.i64.wrap ((k : Int) + 1) = (k : Int) + 1 := IntWalk.i64_in _ (by omega)
      obtain ⟨q, hq⟩ : ∃ q, q = p x := ⟨_, rfl⟩
      have HQ := Lib.hid hq
      clear hq
      go_wp2_with fail
      refine HCX.out.mono ?_
      rw [← HQ.out]
      rintro e w' ⟨rfl, rfl⟩
      cases q with
      | true =>
        go_wp2
        go_ret
        refine ⟨k, rfl, by omega, ⟨fun _ => ?_, fun _ => by omega⟩, rfl⟩
        exact List.any_eq_true.2 ⟨l.getD k 0, getD_mem (by rw [HL.out]; exact hlt), by rw [← HX.out]; exact HQ.out.symm⟩
      | false =>
        go_wp2
        go_round
        case rel =>
          refine ⟨k + 1, by omega, by go_num, fun j hj => ?_⟩
          rcases Nat.lt_or_ge j k with h | h
          · exact hno.out j h
          · have : j = k := by omega
            subst this
            rw [← HX.out]; exact HQ.out.symm
        case measure => simp [intOf]; omega
    · have hkn : k = n := by omega
      subst hkn
      go_wp2
      go_ret
      refine ⟨-1, rfl, by omega, ⟨fun h => absurd h (by decide), fun h => ?_⟩, rfl⟩
      rw [any_none (all_of_getD (d := 0) (fun j hj => hno.out j (by rw [← HL.out]; exact hj)))] at h
      cases h
theorem has_missing (p : Nat → Bool) (B : Nat) (l : List Nat) (a : Option Addr) (n c : Nat) (hn : n ≤ 140737488355328) (w : World) (h : Sees w a n c (l.map nv32))
    (hc : ∀ x ∈ l, Calls Tryz.prog 67 #[.int .u32 x, .pointer (some ⟨B, 0, .none⟩)] w fun e w' => e = .returned (.bool (p x)) ∧ w = w') :
    Calls Tryz.prog 68 #[.slice a n c, (.func (.func 67) #[] #[.pointer (some ⟨B, 0, .none⟩)])] w (fun e w' => e = .returned (.bool (l.any p)) ∧ w = w') := by
  have HI := Lib.hid (idx_missing p B l a n c hn w h hc)
  clear h hc
  obtain ⟨f, hf⟩ : ∃ f, f = Value.func (.func 67) #[] #[.pointer (some ⟨B, 0, .none⟩)] := ⟨_, rfl⟩
  rw [← hf] at HI ⊢
  have HF := Lib.hid hf
  clear hf
  go_enter Tryz.func68, Tryz.ntmps68
  go_wp2_with fail
  refine HI.out.mono ?_
  rintro e w' ⟨z, rfl, hz, hiff, rfl⟩
  have e : decide (0 ≤ z) = l.any p := by
    cases hq : l.any p with
    | true => simpa using hiff.2 hq
    | false => simp; have := fun h => hiff.1 h; rw [hq] at this; exact Int.not_le.1 (fun h => by cases this h)
  have E := Lib.hid e
  clear e hiff
  go_wp2
  go_ret
  exact ⟨congrArg (fun b => Ending.returned (.bool b)) E.out, rfl⟩
theorem u32_and1 (x : Nat) (h : x < 4294967296) : bits BinOp.and IntKind.u32 (x : Int) 1 = ((x % 2 : Nat) : Int) :=
  bits_mask .u32 32 (by decide) (fun n h0 h1 => by rw [IntKind.wrap_u32]; omega) 1 (by decide) (x : Int) (by omega) (by omega)
theorem bcells_zero (m : Nat) : zeros (.bool false) m = bcells (List.replicate m false) := by
  simp [zeros, bcells]
def DefsPost (r : RawC) (w : World) (e : Ending) (w' : World) : Prop :=
  Below w.heap.size w w' ∧ ((defsS r = none ∧ e = .returned (.tuple #[.slice none 0 0, .bool false])) ∨
    (∃ d D, defsS r = some d ∧ d.length = r.max + 1 ∧ e = .returned (.tuple #[.slice (some ⟨D, 0, .none⟩) (r.max + 1) (r.max + 1), .bool true]) ∧ w'.heap[D]? = some (.cells (bcells d) 4 (0, 0))))
set_option maxRecDepth 100000 in
set_option maxHeartbeats 1600000 in
theorem defs_any (r : RawC) (s : Slots) (w : World) (h : SeesRaw w s r) (hf : s.small) (hm : r.max ≤ 16384) (hlit : ∀ x ∈ ownsL r, x ≤ 2 * r.max + 1) :
    Calls Tryz.prog 66 #[rawV r.max s] w (DefsPost r w) := by
  obtain ⟨i0, hi, hz0, hz1, hz2⟩ := info_parts info_bool
  have HO := fun W hb => owns_any r s W (h.below hb) hf (fun x hx => by have := hlit x (by unfold ownsL; simp [hx]); omega)
  obtain ⟨a1, n1, c1, a2, n2, c2, a3, n3, c3, a4, n4, c4, a5, n5, c5, a6, n6, c6⟩ := s
  obtain ⟨m, hmm⟩ : ∃ m, m = r.max := ⟨_, rfl⟩
  rw [← hmm] at HO hm hlit ⊢
  have hlen : (ownsL r).length ≤ 4000000 := by
    have l1 : r.ins.length = n1 := h.s1.lenMap
    have l2 : r.lats.length = n2 := h.s2.1
    have l6 : r.gates.length = n6 := h.s6.1
    have := hf.n1; have := hf.n2; have := hf.n6
    simp only at *
    simp [ownsL]; omega
  obtain ⟨O, hOO⟩ : ∃ O, O = ownsL r := ⟨_, rfl⟩
  obtain ⟨N, hN⟩ : ∃ N, N = O.length := ⟨_, rfl⟩
  have hdS : defsS r = defsF (defs0 m) O := by unfold defsS; rw [← hmm, ← hOO]
  rw [← hOO] at HO hlen hlit
  rw [← hN] at HO hlen
  have HDS := Lib.hid hdS
  have HM := Lib.hid hmm
  have HN := Lib.hid hN
  have HLT := Lib.hid hlit
  have HOW := Lib.hid HO
  clear h hf hmm hN hOO hdS hlit HO
  have mk := fun W => run_make_u32 (P := Tryz.prog) Tryz.underlying112 hi hz0 hz1 hz2 rfl (m + 1) ((m : Int) + 1) (by omega) (by omega) (by omega) W
  rw [bcells_zero] at mk
  have W0 : IntKind.u32.wrap ((m : Int) + 1) = (m : Int) + 1 := by
    have h0 : (0 : Int) ≤ m := by omega
    unfold IntKind.wrap; simp [IntKind.signed, IntKind.bits]; omega
  unfold rawV
  go_enter Tryz.func66, Tryz.ntmps66
  go_wp2_with fail
  have ez : (bcells (List.replicate (m + 1) false)).setIfInBounds 0 (Value.bool true) = bcells (defs0 m) := bcells_set _ _ _
  rw [ez]
  generalize hW : World.alloc (World.alloc w _) _ = W1
  have B1 : Below w.heap.size w W1 := by subst hW; exact ext_trans (ext_alloc _ _) (ext_alloc _ _)
  have hD : W1.heap[w.heap.size + 1]? = some (.cells (bcells (defs0 m)) 4 (0, 0)) := by subst hW; exact heap_new _ _ _ (by simp)
  clear hW ez mk W0
  refine (HOW.out W1 B1).mono ?_
  rintro e W2 ⟨v, rfl, hrow, hb⟩
  have HB2 := Lib.hid (ext_trans B1 hb)
  have HD2 := Lib.hid (heap_below hD hb)
  have HR2 := Lib.hid (ownsN_base hrow (base' := w.heap.size) B1.size)
  obtain ⟨va, vc, rfl⟩ := ownsN_form hrow
  have hdl : (defs0 m).length = m + 1 := by simp [defs0]
  have HDL := Lib.hid hdl
  clear B1 hD hb hrow hdl
  obtain ⟨D, hDD⟩ : ∃ D, D = w.heap.size + 1 := ⟨_, rfl⟩
  rw [← hDD] at HD2 ⊢
  have hDw : w.heap.size ≤ D := by omega
  have HDD := Lib.hid hDD
  clear hDD
  go_wp2
  go_loopw [2, 15] (fun dv i wr => ∃ (k : Nat) (d : List Bool), k ≤ N ∧ i = .int .i64 k ∧ dv = .slice (some ⟨D, 0, .none⟩) (m + 1) (m + 1) ∧ Hid (defsF (defs0 m) O = defsF d (O.drop k)) ∧ Hid (d.length = m + 1) ∧ Hid (wr.heap[D]? = some (.cells (bcells d) 4 (0, 0))) ∧ Hid (wr.ownsRow w.heap.size 35 1 (.slice va N vc) N (O.map nv32)) ∧ Hid (Below w.heap.size w wr))
    (fun _ i _ => N - (intOf i).toNat)
  case atStart => exact ⟨0, defs0 m, Nat.zero_le _, rfl, rfl, rfl, HDL.out, HD2.out, HR2.out, HB2.out⟩
  case round =>
    clear HD2 HR2 HB2
    obtain ⟨k, d, hk, rfl, rfl, hst, hdl, hD, hR, hB⟩ := hrel
    by_cases hlt : k < N
    · obtain ⟨a', c', ev, _, hs⟩ := Sees.owned hR.out
      cases ev
      obtain ⟨b, off, rfl, hbw⟩ := hs.addr (by omega)
      have hcx := hs.num k hlt
      have hx2 := HLT.out (O.getD k 0) (getD_mem (by rw [← HN.out]; exact hlt))
      obtain ⟨x, hx⟩ : ∃ x, x = O.getD k 0 := ⟨_, rfl⟩
      rw [← hx] at hcx hx2
      have hdrop : O.drop k = x :: O.drop (k + 1) := by
        rw [List.drop_eq_getElem_cons (by rw [← HN.out]; exact hlt), hx]
        congr 1
        simp [List.getD, List.getElem?_eq_getElem (show k < O.length by rw [← HN.out]; exact hlt)]
      have hxd : x / 2 < d.length := by rw [hdl.out]; omega
      have hxm : x / 2 < m + 1 := by omega
      have hcd := (cell_of_block hD.out (x / 2)).trans (bcells_get d (x / 2) hxd)
      have hfd := unfrozen_of_block hD.out (x / 2)
      have HDR := Lib.hid hdrop
      obtain ⟨q, hq⟩ : ∃ q, q = d.getD (x / 2) false := ⟨_, rfl⟩
      rw [← hq] at hcd
      have HQ := Lib.hid hq
      clear hx hdrop hs hq
      have W1' : IntKind.i64.wrap ((k : Int) + 1) = (k : Int) + 1 := IntWalk.i64_in _ (by omega)
      by_cases hodd : x % 2 = 1
      · have e1 : (bits BinOp.and IntKind.u32 (x : Int) 1 == 1) = true := by rw [u32_and1 x (by omega), hodd]; rfl
        have HE : Hid (defsF (defs0 m) O = none) := by
          show _ = _
          rw [hst.out, HDR.out, defsF, if_pos hodd]
        have HO := Lib.hid hodd
        clear hodd
        go_wp2
        go_ret2
        exact ⟨hB.out, Or.inl ⟨HDS.out.trans HE.out, rfl⟩⟩
      · have e1 : (bits BinOp.and IntKind.u32 (x : Int) 1 == 1) = false := by rw [u32_and1 x (by omega), show x % 2 = 0 by omega]; rfl
        have HO := Lib.hid hodd
        clear hodd
        cases q with
        | true =>
          have HE : Hid (defsF (defs0 m) O = none) := by
            show _ = _
            rw [hst.out, HDR.out, defsF, if_neg HO.out, if_pos HQ.out.symm]
          go_wp2
          go_ret2
          exact ⟨hB.out, Or.inl ⟨HDS.out.trans HE.out, rfl⟩⟩
        | false =>
          have HE : Hid (defsF (defs0 m) O = defsF (d.set (x / 2) true) (O.drop (k + 1))) := by
            show _ = _
            rw [hst.out, HDR.out, defsF, if_neg HO.out, if_neg (by rw [← HQ.out]; decide)]
          have HD2 : Hid ((wr.setCell ⟨D, x / 2, .none⟩ (.bool true)).heap[D]? = some (.cells (bcells (d.set (x / 2) true)) 4 (0, 0))) := by
            have := block_setCell hD.out (i := x / 2) (.bool true)
            rw [bcells_set] at this
            exact this
          have HB2 : Hid (Below w.heap.size w (wr.setCell ⟨D, x / 2, .none⟩ (.bool true))) := hB.out.setCell (p := ⟨D, x / 2, .none⟩) hDw _
          have HR2 : Hid ((wr.setCell ⟨D, x / 2, .none⟩ (.bool true)).ownsRow w.heap.size 35 1 (.slice (some ⟨b, off, .none⟩) N vc) N (O.map nv32)) := by
            refine ownsN_other hR.out (fun k hk => Below.heap_setCell wr ⟨D, x / 2, .none⟩ _ k ?_)
            intro e
            exact (ownsN_notown hR.out hD.out (by decide)) (by rw [hk, e])
          clear hR hD
          go_wp2
          go_roundw
          case rel => exact ⟨k + 1, d.set (x / 2) true, by omega, by go_num, rfl, HE.out, by rw [List.length_set]; exact hdl.out, HD2.out, HR2.out, HB2.out⟩
          case measure => simp [intOf]; omega
    · obtain rfl : N = k := by omega
      have HE : Hid (defsF (defs0 m) O = some d) := by
        show _ = _
        rw [hst.out, List.drop_of_length_le (by rw [← HN.out]; exact Nat.le_refl _)]
        rfl
      go_wp2
      go_ret2
      refine ⟨hB.out, Or.inr ⟨d, D, HDS.out.trans HE.out, by rw [hdl.out, HM.out], ?_, hD.out⟩⟩
      rw [← HM.out]
      rfl
end Go.Proofs.YtglhnmbfkbjemaaGreatDoor
/- Cells by a function of the place. -/
namespace Go.Proofs.YtglhnmbfkbjemaaGreatDoor
open Go Go.RowKit
def fcells (N : Nat) (f : Nat → Value) : Array Value := ((List.range N).map f).toArray
theorem fcells_get (N : Nat) (f : Nat → Value) (i : Nat) (h : i < N) : (fcells N f)[i]? = some (f i) := by
  simp [fcells, h]
theorem fcells_set (N : Nat) (f : Nat → Value) (i : Nat) (x : Value) : (fcells N f).setIfInBounds i x = fcells N (fun j => if j = i then x else f j) := by
  apply Array.ext_getElem?
  intro j
  rw [Array.getElem?_setIfInBounds]
  by_cases h : j < N
  · rw [fcells_get N f j h, fcells_get N (fun j => if j = i then x else f j) j h]
    by_cases e : i = j
    · subst e; simp [fcells, h]
    · rw [if_neg e, if_neg (fun h => e h.symm)]
  · have e1 : ∀ g : Nat → Value, (fcells N g)[j]? = none := fun g => by simp [fcells]; omega
    rw [e1, e1]
    split
    · rw [if_neg (by simp [fcells]; omega)]
    · rfl
theorem fcells_congr {N : Nat} {f g : Nat → Value} (h : ∀ i, i < N → f i = g i) : fcells N f = fcells N g := by
  unfold fcells
  congr 1
  exact List.map_congr_left (fun i hi => h i (List.mem_range.1 hi))
theorem fcells_size (N : Nat) (f : Nat → Value) : (fcells N f).size = N := by simp [fcells]
theorem fcells_zero (N : Nat) (z : Value) : zeros z N = fcells N (fun _ => z) := by
  apply Array.ext_getElem?
  intro j
  by_cases h : j < N
  · rw [fcells_get N _ j h]; simp [zeros, h]
  · simp [zeros, fcells, h]
end Go.Proofs.YtglhnmbfkbjemaaGreatDoor
/- The order of gates, on plain lists: who waits for whom, and what the queue holds. -/
namespace Go.Proofs.YtglhnmbfkbjemaaGreatDoor
def litV (gs : List Tri) (s : Nat) : Nat := if s % 2 = 0 then (gAt gs (s / 2)).2.1 / 2 else (gAt gs (s / 2)).2.2 / 2
def usersT (gs : List Tri) (t v : Nat) : List Nat := ((List.range t).filter (fun s => isG gs (litV gs s) && (litV gs s == v))).map (· / 2)
def waitsT (gs : List Tri) (t i : Nat) : Nat := ((List.range t).filter (fun s => isG gs (litV gs s) && (s / 2 == i))).length
theorem usersT_yes {gs : List Tri} {t v : Nat} (h : isG gs (litV gs t) = true) : usersT gs (t + 1) v = if v = litV gs t then usersT gs t v ++ [t / 2] else usersT gs t v := by
  unfold usersT
  rw [List.range_succ, List.filter_append, List.map_append]
  by_cases e : v = litV gs t
  · subst e; simp [h]
  · have : (litV gs t == v) = false := by simp; exact fun h => e h.symm
    simp [this, e]
theorem usersT_no {gs : List Tri} {t v : Nat} (h : isG gs (litV gs t) = false) : usersT gs (t + 1) v = usersT gs t v := by
  unfold usersT
  rw [List.range_succ, List.filter_append, List.map_append]
  simp [h]
theorem waitsT_yes {gs : List Tri} {t i : Nat} (h : isG gs (litV gs t) = true) : waitsT gs (t + 1) i = if i = t / 2 then waitsT gs t i + 1 else waitsT gs t i := by
  unfold waitsT
  rw [List.range_succ, List.filter_append, List.length_append]
  by_cases e : i = t / 2
  · subst e; simp [h]
  · have : (t / 2 == i) = false := by simp; exact fun h => e h.symm
    simp [this, e]
theorem waitsT_no {gs : List Tri} {t i : Nat} (h : isG gs (litV gs t) = false) : waitsT gs (t + 1) i = waitsT gs t i := by
  unfold waitsT
  rw [List.range_succ, List.filter_append, List.length_append]
  simp [h]
theorem usersT_len (gs : List Tri) (t v : Nat) : (usersT gs t v).length ≤ t := by
  unfold usersT
  rw [List.length_map]
  exact Nat.le_trans (List.length_filter_le _ _) (by simp)
theorem waitsT_len (gs : List Tri) (t i : Nat) : waitsT gs t i ≤ t := by
  unfold waitsT
  exact Nat.le_trans (List.length_filter_le _ _) (by simp)
def b2n (b : Bool) : Nat := if b = true then 1 else 0
theorem slots_of (f : Nat → Bool) (i : Nat) : ∀ n, ((List.range (2 * n)).filter (fun s => f s && (s / 2 == i))).length = if i < n then b2n (f (2 * i)) + b2n (f (2 * i + 1)) else 0
  | 0 => by simp
  | n + 1 => by
    have ih := slots_of f i n
    rw [show 2 * (n + 1) = 2 * n + 1 + 1 by omega, List.range_succ, List.range_succ, List.filter_append, List.filter_append, List.length_append, List.length_append, ih]
    have e0 : 2 * n / 2 = n := by omega
    have e1 : (2 * n + 1) / 2 = n := by omega
    by_cases h : i = n
    · subst h
      rw [if_neg (by omega), if_pos (by omega)]
      cases h0 : f (2 * i) <;> cases h1 : f (2 * i + 1) <;> simp [h0, h1, e0, e1, b2n]
    · have h' : (n == i) = false := by simp; exact fun e => h e.symm
      by_cases hl : i < n
      · rw [if_pos hl, if_pos (by omega)]; simp [e0, e1, h']
      · rw [if_neg hl, if_neg (by omega)]; simp [e0, e1, h']
theorem litV_even (gs : List Tri) (i : Nat) : litV gs (2 * i) = (gAt gs i).2.1 / 2 := by
  unfold litV
  rw [if_pos (by omega), show 2 * i / 2 = i by omega]
theorem litV_odd (gs : List Tri) (i : Nat) : litV gs (2 * i + 1) = (gAt gs i).2.2 / 2 := by
  unfold litV
  rw [if_neg (by omega), show (2 * i + 1) / 2 = i by omega]
theorem waitsFor_b (gs : List Tri) (nd : List Nat) (x : Nat) : waitsFor gs nd x = b2n (isG gs (x / 2) && !nd.contains (x / 2)) := by
  unfold waitsFor b2n
  cases isG gs (x / 2) <;> cases nd.contains (x / 2) <;> simp
theorem waitsT_all (gs : List Tri) (i : Nat) (h : i < gs.length) : waitsT gs (2 * gs.length) i = wt gs [] i := by
  unfold waitsT wt
  rw [slots_of (fun s => isG gs (litV gs s)) i gs.length, if_pos h, waitsFor_b, waitsFor_b, litV_even, litV_odd]
  simp
theorem count_users (gs : List Tri) (v i : Nat) (h : i < gs.length) : (usersT gs (2 * gs.length) v).count i = b2n (isG gs ((gAt gs i).2.1 / 2) && ((gAt gs i).2.1 / 2 == v)) + b2n (isG gs ((gAt gs i).2.2 / 2) && ((gAt gs i).2.2 / 2 == v)) := by
  have e : (usersT gs (2 * gs.length) v).count i = ((List.range (2 * gs.length)).filter (fun s => (isG gs (litV gs s) && (litV gs s == v)) && (s / 2 == i))).length := by
    unfold usersT
    rw [List.count_eq_countP, List.countP_map, List.countP_filter, List.countP_eq_length_filter]
    congr 1
    apply List.filter_congr
    intro s _
    simp [Bool.and_comm]
  rw [e, slots_of (fun s => isG gs (litV gs s) && (litV gs s == v)) i gs.length, if_pos h, litV_even, litV_odd]
theorem wt_step (gs : List Tri) (nd : List Nat) (v i : Nat) (h : i < gs.length) (hv : nd.contains v = false) : wt gs (nd ++ [v]) i + (usersT gs (2 * gs.length) v).count i = wt gs nd i := by
  rw [count_users gs v i h]
  unfold wt
  simp only [waitsFor_b]
  have one : ∀ u, b2n (isG gs u && !(nd ++ [v]).contains u) + b2n (isG gs u && (u == v)) = b2n (isG gs u && !nd.contains u) := by
    intro u
    rw [List.contains_eq_any_beq, List.any_append, ← List.contains_eq_any_beq]
    by_cases e : u = v
    · subst e; simp only [hv]; cases isG gs u <;> simp [b2n]
    · have e1 : (u == v) = false := by simpa using e
      cases isG gs u <;> cases nd.contains u <;> simp [b2n, e1]
  have h1 := one ((gAt gs i).2.1 / 2)
  have h2 := one ((gAt gs i).2.2 / 2)
  omega
theorem users_lt (gs : List Tri) (v : Nat) : ∀ i ∈ usersT gs (2 * gs.length) v, i < gs.length := by
  intro i hi
  unfold usersT at hi
  obtain ⟨s, hs, rfl⟩ := List.mem_map.1 hi
  have := List.mem_range.1 (List.mem_filter.1 hs).1
  omega
theorem filter_less {p p' : Nat → Bool} {x : Nat} : ∀ {l : List Nat}, l.Nodup → x ∈ l → p x = true → p' x = false → (∀ y, y ≠ x → p' y = p y) → (l.filter p).Perm (x :: l.filter p')
  | [], _, h, _, _, _ => by cases h
  | y :: l, hn, hx, h1, h2, h3 => by
    have hn' := List.nodup_cons.1 hn
    by_cases e : y = x
    · subst e
      rw [List.filter_cons_of_pos h1, List.filter_cons_of_neg (by simp [h2])]
      have : l.filter p' = l.filter p := List.filter_congr (fun z hz => h3 z (fun e => hn'.1 (e ▸ hz)))
      rw [this]
    · have hx' : x ∈ l := by
        rcases List.mem_cons.1 hx with h | h
        · exact absurd h.symm e
        · exact h
      have ih := filter_less hn'.2 hx' h1 h2 h3
      have e2 := h3 y e
      cases hp : p y with
      | true =>
        rw [List.filter_cons_of_pos hp, List.filter_cons_of_pos (by rw [e2, hp])]
        exact (ih.cons y).trans (List.Perm.swap x y _)
      | false =>
        rw [List.filter_cons_of_neg (by simp [hp]), List.filter_cons_of_neg (by simp [e2, hp])]
        exact ih
def openN (gs : List Tri) (nd : List Nat) : Nat := ((List.range gs.length).filter (fun i => !nd.contains (varAt gs i))).length
theorem openN_nil (gs : List Tri) : openN gs [] = gs.length := by
  unfold openN
  have e : (List.range gs.length).filter (fun i => !([] : List Nat).contains (varAt gs i)) = List.range gs.length := List.filter_eq_self.2 (fun i _ => rfl)
  rw [e, List.length_range]
theorem filter_fewer {p p' : Nat → Bool} {x : Nat} : ∀ {l : List Nat}, x ∈ l → p x = true → p' x = false → (∀ y, p' y = true → p y = true) → (l.filter p').length < (l.filter p).length
  | [], h, _, _, _ => by cases h
  | y :: l, hx, h1, h2, h3 => by
    have hle : ∀ l : List Nat, (l.filter p').length ≤ (l.filter p).length := by
      intro l
      induction l with
      | nil => simp
      | cons z t ih =>
        cases hz : p' z with
        | true => rw [List.filter_cons_of_pos hz, List.filter_cons_of_pos (h3 z hz)]; simp; exact ih
        | false =>
          rw [List.filter_cons_of_neg (by simp [hz])]
          refine Nat.le_trans ih ?_
          cases hp : p z with
          | true => rw [List.filter_cons_of_pos hp]; simp
          | false => rw [List.filter_cons_of_neg (by simp [hp])]; exact Nat.le_refl _
    by_cases e : y = x
    · subst e
      rw [List.filter_cons_of_pos h1, List.filter_cons_of_neg (by simp [h2])]
      have := hle l
      simp; omega
    · have hx' : x ∈ l := by
        rcases List.mem_cons.1 hx with h | h
        · exact absurd h.symm e
        · exact h
      have ih := filter_fewer hx' h1 h2 h3
      cases hz : p' y with
      | true => rw [List.filter_cons_of_pos hz, List.filter_cons_of_pos (h3 y hz)]; simp; exact ih
      | false =>
        rw [List.filter_cons_of_neg (by simp [hz])]
        refine Nat.lt_of_lt_of_le ih ?_
        cases hp : p y with
        | true => rw [List.filter_cons_of_pos hp]; simp
        | false => rw [List.filter_cons_of_neg (by simp [hp])]; exact Nat.le_refl _
theorem openN_step (gs : List Tri) (nd : List Nat) (x : Nat) (hx : x < gs.length) (h : nd.contains (varAt gs x) = false) : openN gs (nd ++ [varAt gs x]) < openN gs nd := by
  unfold openN
  refine filter_fewer (x := x) (List.mem_range.2 hx) (by simpa using h) (by simp) (fun y hy => ?_)
  simp at hy ⊢
  exact hy.1
theorem find_least {p : Nat → Bool} {n x : Nat} (hx : x < n) (hp : p x = true) (hl : ∀ y, y < n → p y = true → x ≤ y) : (List.range n).find? p = some x := by
  rw [List.find?_range_eq_some]
  refine ⟨hp, List.mem_range.2 hx, fun j hj => ?_⟩
  cases h : p j with
  | true => have := hl j (by omega) h; omega
  | false => rfl
end Go.Proofs.YtglhnmbfkbjemaaGreatDoor
/- norm.dependences, by its contract. -/
namespace Go.Proofs.YtglhnmbfkbjemaaGreatDoor
open Go Go.RowKit Go.Joins
structure Dep (gs : List Tri) (m n U T base t : Nat) (w : World) (uv : Nat → Value) : Prop where
  users : w.heap[U]? = some (.cells (fcells (m + 1) uv) 127 (0, 0))
  rows : ∀ v, v ≤ m → w.ownsRow base 3 1 (uv v) (usersT gs t v).length ((usersT gs t v).map iv)
  apart : ∀ v1 v2 k, v1 ≤ m → v2 ≤ m → v1 ≠ v2 → (uv v1).ownBlock = some k → (uv v2).ownBlock ≠ some k
  waits : w.heap[T]? = some (.cells (fcells n (fun i => iv (waitsT gs t i))) 3 (0, 0))
theorem Dep.below {gs : List Tri} {m n U T base t : Nat} {w w' : World} {uv : Nat → Value} (h : Dep gs m n U T base t w uv) (hb : Below w.heap.size w w') : Dep gs m n U T base t w' uv :=
  ⟨heap_below h.users hb, fun v hv => ownsN_below (h.rows v hv) hb, h.apart, heap_below h.waits hb⟩
theorem Dep.no {gs : List Tri} {m n U T base t : Nat} {w : World} {uv : Nat → Value} (h : Dep gs m n U T base t w uv) (hg : isG gs (litV gs t) = false) : Dep gs m n U T base (t + 1) w uv := by
  refine ⟨h.users, fun v hv => ?_, h.apart, ?_⟩
  · rw [usersT_no hg]; exact h.rows v hv
  · rw [h.waits]
    congr 2
    exact fcells_congr (fun i _ => by rw [waitsT_no hg])
theorem Dep.yes {gs : List Tri} {m n U T base t : Nat} {w w1 w2 : World} {uv : Nat → Value} {v i : Nat} {v' : Value} {l2 : Nat} {xs2 : List Value} (h : Dep gs m n U T base t w uv) (hg : isG gs (litV gs t) = true) (hv : v = litV gs t) (hi : i = t / 2) (hvm : v ≤ m)
    (hU : U < base) (hT : T < base) (hUT : U ≠ T) (hbase : base ≤ w.heap.size) (hb : Below w.heap.size w w1) (hgr : w1.grownBy w2 (uv v).ownBlock) (row : w2.ownsRow base 3 1 v' l2 xs2) (hl2 : l2 = (usersT gs t v).length + 1) (hx2 : xs2 = (usersT gs t v).map iv ++ [iv i])
    (hown : v'.ownBlock = (uv v).ownBlock ∨ v'.ownBlock = some w1.heap.size) :
    Dep gs m n U T base (t + 1) ((w2.setCell ⟨U, v, .none⟩ v').setCell ⟨T, i, .none⟩ (iv (waitsT gs t i + 1))) (fun j => if j = v then v' else uv j) ∧ But2 base U T w ((w2.setCell ⟨U, v, .none⟩ v').setCell ⟨T, i, .none⟩ (iv (waitsT gs t i + 1))) := by
  subst hl2; subst hx2
  have r1 := fun u hu => ownsN_below (h.rows u hu) hb
  have u1 := heap_below h.users hb
  have t1 := heap_below h.waits hb
  have ownge : ∀ u, u ≤ m → ∀ k, (uv u).ownBlock = some k → base ≤ k ∧ k < w.heap.size := fun u hu k hk => (h.rows u hu).lt k hk
  have u2 := heap_grown u1 hgr (fun e => by have := (ownge v hvm U e).1; omega)
  have t2 := heap_grown t1 hgr (fun e => by have := (ownge v hvm T e).1; omega)
  have hs1 := hb.size
  have hs2 := hgr.size
  have keep : ∀ D, D ≠ U → D ≠ T → ((w2.setCell ⟨U, v, .none⟩ v').setCell ⟨T, i, .none⟩ (iv (waitsT gs t i + 1))).heap[D]? = w2.heap[D]? := fun D h1 h2 => by
    rw [Below.heap_setCell _ ⟨T, i, .none⟩ _ D h2, Below.heap_setCell _ ⟨U, v, .none⟩ _ D h1]
  refine ⟨⟨?_, fun u hu => ?_, fun v1 v2 k h1 h2 hne hk => ?_, ?_⟩, ?_⟩
  · rw [Below.heap_setCell _ ⟨T, i, .none⟩ _ U hUT]
    have := block_setCell u2 (i := v) v'
    rw [fcells_set] at this
    exact this
  · by_cases e : u = v
    · rw [if_pos e, e, usersT_yes hg, if_pos hv, ← hi]
      rw [List.length_append, List.map_append]
      exact ownsN_other row (fun k hk => keep k (fun e => by have := (row.lt k hk).1; omega) (fun e => by have := (row.lt k hk).1; omega))
    · rw [if_neg e, usersT_yes hg, if_neg (fun h => e (h.trans hv.symm))]
      refine ownsN_other (h.rows u hu) (fun k hk => ?_)
      have hk2 := ownge u hu k hk
      rw [keep k (by omega) (by omega), hgr.block k (by omega) (fun e2 => (h.apart u v k hu hvm e hk) e2.symm), hb.block k hk2.2]
  · by_cases e1 : v1 = v
    · rw [if_pos e1] at hk
      rw [if_neg (fun e => hne (e1.trans e.symm))]
      intro hk2
      rcases hown with ho | ho
      · rw [ho, ← e1] at hk
        exact h.apart v1 v2 k h1 h2 hne hk hk2
      · rw [ho] at hk
        have := (ownge v2 h2 k hk2).2
        cases hk
        omega
    · rw [if_neg e1] at hk
      by_cases e2 : v2 = v
      · rw [if_pos e2]
        intro hk2
        rcases hown with ho | ho
        · rw [ho, ← e2] at hk2
          exact h.apart v1 v2 k h1 h2 hne hk hk2
        · rw [ho] at hk2
          have := (ownge v1 h1 k hk).2
          cases hk2
          omega
      · rw [if_neg e2]
        exact h.apart v1 v2 k h1 h2 hne hk
  · have t3 : (w2.setCell ⟨U, v, .none⟩ v').heap[T]? = some (.cells (fcells n (fun i => iv (waitsT gs t i))) 3 (0, 0)) := by
      rw [Below.heap_setCell _ ⟨U, v, .none⟩ _ T (fun e => hUT e.symm)]; exact t2
    have := block_setCell t3 (i := i) (iv (waitsT gs t i + 1))
    rw [fcells_set] at this
    rw [this]
    congr 2
    refine fcells_congr (fun j _ => ?_)
    rw [waitsT_yes hg, ← hi]
    by_cases e : j = i
    · rw [if_pos e, if_pos e, e]
    · rw [if_neg e, if_neg e]
  · refine ⟨?_, ?_, ?_, ?_, fun D hD h1 h2 => ?_⟩
    · exact hgr.os.trans hb.os
    · exact hgr.tape.trans hb.tape
    · exact hgr.output.trans hb.output
    · have : ((w2.setCell ⟨U, v, .none⟩ v').setCell ⟨T, i, .none⟩ (iv (waitsT gs t i + 1))).heap.size = w2.heap.size := by simp
      omega
    · rw [keep D h1 h2, hgr.block D (by omega) (fun e => by have := (ownge v hvm D e.symm).1; omega), hb.block D (by omega)]
def igF : List Bool → List Tri → List Bool
  | d, [] => d
  | d, g :: r => igF (d.set (g.1 / 2) true) r
theorem igF_len : ∀ (gs : List Tri) (d : List Bool), (igF d gs).length = d.length
  | [], _ => rfl
  | g :: r, d => by rw [igF, igF_len r]; simp
theorem igF_get : ∀ (gs : List Tri) (d : List Bool) (v : Nat), v < d.length → (igF d gs).getD v false = (d.getD v false || isG gs v)
  | [], d, v, _ => by simp [igF, isG]
  | g :: r, d, v, h => by
    rw [igF, igF_get r _ v (by simpa using h)]
    have e : isG (g :: r) v = ((g.1 / 2 == v) || isG r v) := by simp [isG]
    rw [e, ← Bool.or_assoc]
    congr 1
    by_cases e : g.1 / 2 = v
    · subst e; simp [List.getD, h]
    · have : (g.1 / 2 == v) = false := by simpa using e
      simp [List.getD, e, this]
theorem igF_snoc (d : List Bool) : ∀ (l : List Tri) (g : Tri), igF d (l ++ [g]) = (igF d l).set (g.1 / 2) true := by
  intro l
  induction l generalizing d with
  | nil => intro g; rfl
  | cons h t ih => intro g; rw [List.cons_append, igF, igF, ih]
theorem info_ints : (Tryz.prog.info? 127).map (fun i => (i.zero, i.size, i.bytes)) = some (some (.slice none 0 0), 1, 24) := by kernel_rfl
theorem lit_index (a b x j : Nat) (hj : j < 2) (hx : x = if j = 0 then a else b) (W : World) : (Instr.index 96 (.agg #[.int .u32 a, .int .u32 b]) (.int .i64 j)).run Tryz.prog W = .ok (.int .u32 x) W := by
  subst hx
  match j, hj with
  | 0, _ => exact Eq.trans (by kernel_rfl : _ = Result.ok (.int .u32 (a : Int)) W) rfl
  | 1, _ => exact Eq.trans (by kernel_rfl : _ = Result.ok (.int .u32 (b : Int)) W) rfl
def DepsPost (r : RawC) (w : World) (e : Ending) (w' : World) : Prop :=
  ∃ U T base uv, e = .returned (.tuple #[.slice (some ⟨U, 0, .none⟩) (r.max + 1) (r.max + 1), .slice (some ⟨T, 0, .none⟩) r.gates.length r.gates.length]) ∧ Dep r.gates r.max r.gates.length U T base (2 * r.gates.length) w' uv ∧ U < base ∧ T < base ∧ U ≠ T ∧ base ≤ w'.heap.size ∧ w.heap.size ≤ U ∧ w.heap.size ≤ T ∧ Below w.heap.size w w'
set_option maxRecDepth 100000 in
set_option maxHeartbeats 3200000 in
theorem deps_any (r : RawC) (s : Slots) (w : World) (h : SeesRaw w s r) (hf : s.small) (hm : r.max ≤ 16384) (hlit : ∀ g ∈ r.gates, g.1 / 2 ≤ r.max ∧ g.2.1 / 2 ≤ r.max ∧ g.2.2 / 2 ≤ r.max) :
    Calls Tryz.prog 100 #[rawV r.max s] w (DepsPost r w) := by
  obtain ⟨i0, hi, hz0, hz1, hz2⟩ := info_parts info_bool
  obtain ⟨i3, hi3, hz30, hz31, hz32⟩ := info_parts info_int
  obtain ⟨i8, hi8, hz80, hz81, hz82⟩ := info_parts info_ints
  obtain ⟨a1, n1, c1, a2, n2, c2, a3, n3, c3, a4, n4, c4, a5, n5, c5, a6, n6, c6⟩ := s
  obtain ⟨hf1, hf2, hf3, hf4, hf5, hf6⟩ := hf
  simp only at hf1 hf2 hf3 hf4 hf5 hf6
  obtain ⟨m, hmm⟩ : ∃ m, m = r.max := ⟨_, rfl⟩
  have l6 : r.gates.length = n6 := h.s6.1
  have HM := Lib.hid hmm
  have L6 := Lib.hid l6
  have HS := Lib.hid h
  have HLT := Lib.hid hlit
  rw [← hmm] at hm ⊢
  clear hmm l6 h hlit
  have mk := fun W => run_make_u32 (P := Tryz.prog) Tryz.underlying112 hi hz0 hz1 hz2 rfl (m + 1) ((m : Int) + 1) (by omega) (by omega) (by omega) W
  rw [bcells_zero] at mk
  have mk8 := fun W => run_make_u32 (P := Tryz.prog) Tryz.underlying146 hi8 hz80 hz81 hz82 rfl (m + 1) ((m : Int) + 1) (by omega) (by omega) (by omega) W
  rw [fcells_zero] at mk8
  have mk3 := fun W => run_make_n (P := Tryz.prog) Tryz.underlying127 hi3 hz30 hz31 hz32 rfl n6 (by omega) (by omega) W
  rw [fcells_zero] at mk3
  have W0 : IntKind.u32.wrap ((m : Int) + 1) = (m : Int) + 1 := by
    have h0 : (0 : Int) ≤ m := by omega
    unfold IntKind.wrap; simp [IntKind.signed, IntKind.bits]; omega
  unfold rawV
  go_enter Tryz.func100, Tryz.ntmps100
  go_wp2
  go_loopw [19] (fun i wr => ∃ k : Nat, k ≤ n6 ∧ i = .int .i64 k ∧ Hid (wr.heap[w.heap.size + 1]? = some (.cells (bcells (igF (List.replicate (m + 1) false) (r.gates.take k))) 4 (0, 0))) ∧ Hid (Below w.heap.size w wr) ∧ Hid (wr.heap[w.heap.size]? = some (.cells #[.int .u32 m, .slice a1 n1 c1, .slice a2 n2 c2, .slice a3 n3 c3, .slice a4 n4 c4, .slice a5 n5 c5, .slice a6 n6 c6] 39 (0, 0))))
    (fun i _ => n6 - (intOf i).toNat)
  case atStart =>
    refine ⟨0, Nat.zero_le _, rfl, ?_, ?_, ?_⟩
    · show _ = _
      exact heap_new _ _ _ (by simp)
    · exact ext_trans (ext_alloc _ _) (ext_alloc _ _)
    · show _ = _
      exact heap_below (heap_new _ _ _ rfl) (ext_alloc _ _)
  case round =>
    obtain ⟨k, hk, rfl, hG, hB, hX⟩ := hrel
    by_cases hlt2 : k < n6
    · obtain ⟨b, off, rfl, hbw⟩ := HS.out.s6.addr (show 0 < n6 by omega)
      obtain ⟨qx, qy, qz⟩ := (HS.out.s6.below hB.out).cells k hlt2 (0, 0, 0)
      obtain ⟨t, ht⟩ : ∃ t, t = r.gates.getD k (0, 0, 0) := ⟨_, rfl⟩
      have htm : t ∈ r.gates := by rw [ht]; exact getD_mem (by rw [L6.out]; exact hlt2)
      have hb3 := HLT.out t htm
      rw [← ht] at qx qy qz
      have HT := Lib.hid ht
      clear ht htm
      obtain ⟨x, y, z⟩ := t
      unfold nv32 at qx qy qz
      simp only at hb3
      obtain ⟨hb3, _, _⟩ := hb3
      rw [← HM.out] at hb3
      have hxm : x / 2 < m + 1 := by omega
      have W1' : IntKind.i64.wrap ((k : Int) + 1) = (k : Int) + 1 := IntWalk.i64_in _ (by omega)
      obtain ⟨d, hd⟩ : ∃ d, d = igF (List.replicate (m + 1) false) (r.gates.take k) := ⟨_, rfl⟩
      rw [← hd] at hG
      have hdl : d.length = m + 1 := by rw [hd, igF_len]; simp
      have hcd := (cell_of_block hG.out (x / 2)).trans (bcells_get d (x / 2) (by omega))
      have hfd := unfrozen_of_block hG.out (x / 2)
      have HD := Lib.hid hd
      have HDL := Lib.hid hdl
      obtain ⟨q, hq⟩ : ∃ q, q = d.getD (x / 2) false := ⟨_, rfl⟩
      rw [← hq] at hcd
      have hcd2 := cell_below hcd (ext_alloc wr (.cells #[.int .u32 x, .int .u32 y, .int .u32 z] 58))
      have hlt3 := heap_lt hG.out
      have HG1 : Hid (((wr.setCell ⟨w.heap.size + 1, x / 2, .none⟩ (.bool true)).alloc (.cells #[.int .u32 x, .int .u32 y, .int .u32 z] 58)).heap[w.heap.size + 1]? = some (.cells (bcells (igF (List.replicate (m + 1) false) (r.gates.take (k + 1)))) 4 (0, 0))) := by
        have h1 := block_setCell hG.out (i := x / 2) (.bool true)
        rw [bcells_set] at h1
        have e : igF (List.replicate (m + 1) false) (r.gates.take (k + 1)) = d.set (x / 2) true := by
          rw [List.take_succ_eq_append_getElem (by rw [L6.out]; exact hlt2), igF_snoc, ← hd]
          have : r.gates[k]'(by rw [L6.out]; exact hlt2) = (x, y, z) := by
            have := HT.out
            simp [List.getD, List.getElem?_eq_getElem (show k < r.gates.length by rw [L6.out]; exact hlt2)] at this
            exact this.symm
          rw [this]
        show _ = _
        rw [e]
        exact heap_below h1 (ext_alloc _ _)
      have HB1 : Hid (Below w.heap.size w ((wr.setCell ⟨w.heap.size + 1, x / 2, .none⟩ (.bool true)).alloc (.cells #[.int .u32 x, .int .u32 y, .int .u32 z] 58))) :=
        (hB.out.setCell (p := ⟨w.heap.size + 1, x / 2, .none⟩) (by show w.heap.size ≤ w.heap.size + 1; omega) _).alloc (by have := hB.out.size; simp; omega) _
      have HX1 : Hid (((wr.setCell ⟨w.heap.size + 1, x / 2, .none⟩ (.bool true)).alloc (.cells #[.int .u32 x, .int .u32 y, .int .u32 z] 58)).heap[w.heap.size]? = some (.cells #[.int .u32 m, .slice a1 n1 c1, .slice a2 n2 c2, .slice a3 n3 c3, .slice a4 n4 c4, .slice a5 n5 c5, .slice (some ⟨b, off, .none⟩) n6 c6] 39 (0, 0))) := by
        refine heap_below ?_ (ext_alloc _ _)
        exact (Below.heap_setCell wr ⟨w.heap.size + 1, x / 2, .none⟩ _ w.heap.size (by show w.heap.size ≠ w.heap.size + 1; omega)).trans hX.out
      clear hd hdl hq hG hB hX
      go_wp2
      go_roundw
      case rel => exact ⟨k + 1, by omega, by go_num, HG1, HB1, HX1⟩
      case measure => simp [intOf]; omega
    · obtain rfl : n6 = k := by omega
      have hG2 := hG.out
      rw [List.take_of_length_le (by rw [L6.out]; exact Nat.le_refl _)] at hG2
      have p0 := cell_of_block hX.out 0
      have p6 := cell_of_block hX.out 6
      have p0b := cell_below p0 (ext_alloc wr (.cells (fcells (m + 1) fun _ => .slice none 0 0) 127))
      have p6b := cell_below p6 (ext_alloc wr (.cells (fcells (m + 1) fun _ => .slice none 0 0) 127))
      have p6c := cell_below p6b (ext_alloc (wr.alloc (.cells (fcells (m + 1) fun _ => .slice none 0 0) 127)) (.cells (fcells n6 fun _ => .int .i64 0) 3))
      have HG := Lib.hid hG2
      have HB := Lib.hid hB.out
      have HX := Lib.hid hX.out
      obtain ⟨U, hU⟩ : ∃ U, U = wr.heap.size := ⟨_, rfl⟩
      have hUw : w.heap.size + 1 < U := by rw [hU]; exact heap_lt hG2
      have HU := Lib.hid hU
      clear hG hB hX hG2 hlt2 hk hU
      go_wp2
      clear p0 p6 p0b p6b p6c
      generalize hW : World.alloc (World.alloc wr _) _ = W2
      have B2 : Below wr.heap.size wr W2 := by subst hW; exact ext_trans (ext_alloc _ _) (ext_alloc _ _)
      have hus : W2.heap[U]? = some (.cells (fcells (m + 1) fun _ => .slice none 0 0) 127 (0, 0)) := by subst hW; exact heap_below (heap_new _ _ _ HU.out) (ext_alloc _ _)
      have hws : W2.heap[U + 1]? = some (.cells (fcells n6 fun _ => .int .i64 0) 3 (0, 0)) := by subst hW; exact heap_new _ _ _ (by rw [HU.out]; simp)
      have hsz : W2.heap.size = U + 1 + 1 := by subst hW; rw [HU.out]; simp
      clear hW
      obtain ⟨T, hT⟩ : ∃ T, T = U + 1 := ⟨_, rfl⟩
      obtain ⟨base, hba⟩ : ∃ base, base = U + 1 + 1 := ⟨_, rfl⟩
      have hUb : U < base := by omega
      have hTb : T < base := by omega
      have hUT : U ≠ T := by omega
      have hwU : w.heap.size + 1 < U := hUw
      have hwT : w.heap.size + 1 < T := by omega
      have hwb : w.heap.size + 1 < base := by omega
      rw [← hba] at hsz
      rw [← hT] at hws
      have HGT := Lib.hid (heap_below HG.out B2)
      have HX2 := Lib.hid (heap_below HX.out B2)
      have HBW := Lib.hid (ext_trans HB.out B2)
      have hdep : Dep r.gates m n6 U T base (2 * 0) W2 (fun _ => .slice none 0 0) := by
        refine ⟨hus, fun v _ => ?_, fun v1 v2 k _ _ _ h => by simp [Value.ownBlock] at h, hws⟩
        exact ownsN_nil _ _ _ _
      have HDEP := Lib.hid hdep
      have HSZ := Lib.hid hsz
      rw [← HU.out, ← hT]
      have HTT := Lib.hid hT
      clear B2 hus hws hdep hsz hba hT HU HG HX HB mk mk8 mk3
      go_loopw [40] (fun i wr => ∃ (k : Nat) (uv : Nat → Value), k ≤ n6 ∧ i = .int .i64 k ∧ Hid (Dep r.gates m n6 U T base (2 * k) wr uv) ∧ Hid (But2 base U T W2 wr))
        (fun i _ => n6 - (intOf i).toNat)
      case atStart => exact ⟨0, _, Nat.zero_le _, rfl, HDEP.out, But2.refl _ _ _ _⟩
      case round =>
        clear HDEP
        obtain ⟨k, uv, hk, rfl, hD, hBB⟩ := hrel
        by_cases hlt2 : k < n6
        · obtain ⟨b, off, rfl, hbw⟩ := HS.out.s6.addr (show 0 < n6 by omega)
          have hlow : Below w.heap.size w wr := HBW.out.trans (hBB.out.low (by omega) (by omega) (by omega))
          obtain ⟨qx, qy, qz⟩ := (HS.out.s6.below hlow).cells k hlt2 (0, 0, 0)
          obtain ⟨t, ht⟩ : ∃ t, t = r.gates.getD k (0, 0, 0) := ⟨_, rfl⟩
          have htm : t ∈ r.gates := by rw [ht]; exact getD_mem (by rw [L6.out]; exact hlt2)
          have hb3 := HLT.out t htm
          rw [← ht] at qx qy qz
          have HT := Lib.hid ht
          clear ht htm
          obtain ⟨x, y, z⟩ := t
          unfold nv32 at qx qy qz
          simp only at hb3
          obtain ⟨_, hy3, hz3⟩ := hb3
          rw [← HM.out] at hy3 hz3
          have HY3 := Lib.hid hy3
          have HZ3 := Lib.hid hz3
          have W1' : IntKind.i64.wrap ((k : Int) + 1) = (k : Int) + 1 := IntWalk.i64_in _ (by omega)
          clear hlow hy3 hz3
          go_wp2
          go_loopw [50] (fun jv wi => ∃ (j : Nat) (uv' : Nat → Value), j ≤ 2 ∧ jv = .int .i64 j ∧ Hid (Dep r.gates m n6 U T base (2 * k + j) wi uv') ∧ Hid (But2 base U T W2 wi))
            (fun jv _ => 2 - (intOf jv).toNat)
          case atStart =>
            refine ⟨0, uv, by omega, rfl, ?_, ?_⟩
            · exact hD.out.below (ext_alloc _ _)
            · exact hBB.out.trans (But2.of_below ((ext_alloc _ _).mono (by have := hBB.out.size; have := HSZ.out; omega)))
          case round =>
            clear hD hBB
            obtain ⟨j, uv, hj, rfl, hD, hBB⟩ := hrel
            by_cases hj2 : j < 2
            · obtain ⟨u, hu⟩ : ∃ u, u = if j = 0 then y else z := ⟨_, rfl⟩
              have ix := fun W => lit_index y z u j hj2 hu W
              have huM : u / 2 ≤ m := by
                rw [hu]
                split
                · exact HY3.out
                · exact HZ3.out
              have huM1 : u / 2 < m + 1 := by omega
              have hul : litV r.gates (2 * k + j) = u / 2 := by
                unfold litV
                rw [show (2 * k + j) / 2 = k by omega, show gAt r.gates k = (x, y, z) from HT.out.symm, hu]
                by_cases e : j = 0
                · rw [if_pos (by omega), if_pos e]
                · rw [if_neg (by omega), if_neg e]
              have Wj : IntKind.i64.wrap ((j : Int) + 1) = (j : Int) + 1 := IntWalk.i64_in _ (by omega)
              have hgc := cell_of_block (hBB.out.at HGT.out (by omega) (by omega) (by omega)) (u / 2)
              rw [bcells_get _ _ (by rw [igF_len]; simp; omega), igF_get _ _ _ (by simp; omega)] at hgc
              have erep : (List.replicate (m + 1) false).getD (u / 2) false = false := by
                simp only [List.getD, List.getElem?_replicate]
                split <;> rfl
              rw [erep, Bool.false_or] at hgc
              obtain ⟨q, hq⟩ : ∃ q, q = isG r.gates (u / 2) := ⟨_, rfl⟩
              rw [← hq] at hgc
              have HUL := Lib.hid hul
              have HQ := Lib.hid hq
              clear hu hul erep hq
              cases q with
              | false =>
                have HD1 : Hid (Dep r.gates m n6 U T base (2 * k + (j + 1)) wr uv) := hD.out.no (by rw [HUL.out]; exact HQ.out.symm)
                have HBB := Lib.hid hBB.out
                clear hD hBB
                go_wp2
                go_roundw
                case rel => exact ⟨j + 1, uv, by omega, by go_num, HD1, HBB⟩
                case measure => simp [intOf]; omega
              | true =>
                have hrow := hD.out.rows (u / 2) huM
                obtain ⟨a, c, hva⟩ := ownsN_form hrow
                have hcu := (cell_of_block hD.out.users (u / 2)).trans (fcells_get _ _ _ huM1)
                rw [hva] at hcu hrow
                obtain ⟨N, hN⟩ : ∃ N, N = (usersT r.gates (2 * k + j) (u / 2)).length := ⟨_, rfl⟩
                have hNl : N ≤ 2 * k + j := by rw [hN]; exact usersT_len _ _ _
                rw [← hN] at hcu hrow hva
                obtain ⟨L, hL⟩ : ∃ L, L = (usersT r.gates (2 * k + j) (u / 2)).map iv := ⟨_, rfl⟩
                rw [← hL] at hrow
                obtain ⟨cc, hcc⟩ : ∃ cc, cc = waitsT r.gates (2 * k + j) k := ⟨_, rfl⟩
                have hccl : cc ≤ 2 * k + j := by rw [hcc]; exact waitsT_len _ _ _
                have hbs : base ≤ wr.heap.size := by have := hBB.out.size; have := HSZ.out; omega
                have HROW := Lib.hid hrow
                have HN := Lib.hid hN
                have HL := Lib.hid hL
                have HCC := Lib.hid hcc
                have HVA := Lib.hid hva
                have Wc : IntKind.i64.wrap ((cc : Int) + 1) = (cc : Int) + 1 := IntWalk.i64_in _ (by omega)
                clear hrow hN hL hcc hva
                go_wp2_with (at_builtin; refine wpList_append_own_at _ rfl _ _ 127 rfl base 3 i3 (.int .i64 0) 1 8 Tryz.underlying127 hi3 hz30 hz31 hz32 rfl (by omega) _ _ L rfl (ownsN_below HROW.out (ext_alloc _ _)) ⟨wr.heap.size, 0, none⟩ 1 1 [iv k] rfl rfl ?c1 ?c2 ?c4 ?c5 ?c6 ?_)
                case c1 => exact World.news_of_block (heap_new wr (.cells #[.int .i64 k] 3) wr.heap.size rfl)
                case c2 => first | rfl | (intro u hu; simp at hu; subst hu; rfl)
                case c4 => unfold maxLen; omega
                case c5 => omega
                case c6 => exact Nat.le_trans hbs (ext_alloc _ _).size
                intro v' w2 hrow2 hgr _ hown
                have hb1 : Below wr.heap.size wr (wr.alloc (.cells #[.int .i64 k] 3)) := ext_alloc _ _
                have hgr' : (wr.alloc (.cells #[.int .i64 k] 3)).grownBy w2 (uv (u / 2)).ownBlock := by rw [HVA.out]; exact hgr
                have hU2 := heap_grown (heap_below hD.out.users hb1) hgr' (fun e => by have := ((hD.out.rows (u / 2) huM).lt U e).1; omega)
                have hT2 := heap_grown (heap_below hD.out.waits hb1) hgr' (fun e => by have := ((hD.out.rows (u / 2) huM).lt T e).1; omega)
                obtain ⟨a2, c2', hv2⟩ := ownsN_form hrow2
                have hyes := Dep.yes (v := u / 2) (i := k) hD.out (by rw [HUL.out]; exact HQ.out.symm) HUL.out.symm (by omega) huM hUb hTb hUT hbs hb1 hgr' hrow2 (by rw [HN.out]) (by rw [HL.out]) (by rw [HVA.out]; simpa using hown)
                rw [← HCC.out] at hyes
                rw [hv2] at hyes
                have hcu2 := (cell_of_block hU2 (u / 2)).trans (fcells_get _ _ _ huM1)
                rw [HVA.out] at hcu2
                have hfu2 := unfrozen_of_block hU2 (u / 2)
                have hT3 : (w2.setCell ⟨U, u / 2, .none⟩ v').heap[T]? = some (.cells (fcells n6 (fun i => iv (waitsT r.gates (2 * k + j) i))) 3 (0, 0)) := (Below.heap_setCell w2 ⟨U, u / 2, .none⟩ v' T (fun e => hUT e.symm)).trans hT2
                have hct := (cell_of_block hT3 k).trans (fcells_get _ _ _ hlt2)
                rw [← HCC.out] at hct
                unfold iv at hct
                have hft := unfrozen_of_block hT3 k
                subst hv2
                have HYES := Lib.hid hyes.1
                have HBB := Lib.hid (hBB.out.trans hyes.2)
                clear hD hBB hb1 hgr hgr' hU2 hT2 hT3 hyes hrow2 hown
                go_wp2
                go_roundw
                case rel => exact ⟨j + 1, _, by omega, by go_num, HYES.out, HBB.out⟩
                case measure => simp [intOf]; omega
            · obtain rfl : j = 2 := by omega
              have HD1 : Hid (Dep r.gates m n6 U T base (2 * (k + 1)) wr uv) := hD.out
              have HBB := Lib.hid hBB.out
              clear hD hBB
              go_wp2
              go_roundw
              case rel => exact ⟨k + 1, uv, by omega, by go_num, HD1, HBB⟩
              case measure => simp [intOf]; omega
        · obtain rfl : n6 = k := by omega
          have hl := hBB.out.low (B := w.heap.size) (by omega) (by omega) (by omega)
          have HDD := Lib.hid hD.out
          have HLL := Lib.hid (HBW.out.trans hl)
          have hsz2 := hBB.out.size
          clear hD hBB hl
          go_wp2
          go_ret2
          refine ⟨U, T, base, uv, ?_, ?_, hUb, hTb, hUT, by have := HSZ.out; omega, by omega, by omega, HLL.out⟩
          · rw [← HM.out, L6.out]
            rfl
          · rw [← HM.out, L6.out]
            exact HDD.out
end Go.Proofs.YtglhnmbfkbjemaaGreatDoor
namespace Go.Proofs.YtglhnmbfkbjemaaGreatDoor
def nextB (gs : List Tri) (nd : List Nat) (cur : Nat → Nat) (i : Nat) : Bool := !nd.contains (varAt gs i) && decide (cur i = 0)
theorem nextB_wt (gs : List Tri) (nd : List Nat) : nextB gs nd (wt gs nd) = readyB gs nd := by
  funext i; rfl
theorem nextB_congr {gs : List Tri} {nd : List Nat} {c c' : Nat → Nat} {n : Nat} (h : ∀ i, i < n → c i = c' i) : (List.range n).filter (nextB gs nd c) = (List.range n).filter (nextB gs nd c') :=
  List.filter_congr (fun i hi => by unfold nextB; rw [h i (List.mem_range.1 hi)])
def Apart (gs : List Tri) : Prop := ∀ i j, i < gs.length → j < gs.length → varAt gs i = varAt gs j → i = j
theorem contains_snoc (nd : List Nat) (v u : Nat) : (nd ++ [v]).contains u = (nd.contains u || (v == u)) := by
  rw [List.contains_eq_any_beq, List.any_append, ← List.contains_eq_any_beq]
  congr 1
  simp [Bool.beq_comm]
theorem pop_start {gs : List Tri} {nd l l' : List Nat} {x : Nat} (hd : Apart gs) (hp : l.Perm ((List.range gs.length).filter (readyB gs nd))) (hm : ∀ k, k < l.length → x ≤ l.getD k 0) (hl : l.Perm (x :: l')) :
    x < gs.length ∧ readyB gs nd x = true ∧ (List.range gs.length).find? (readyB gs nd) = some x ∧ l'.Perm ((List.range gs.length).filter (nextB gs (nd ++ [varAt gs x]) (wt gs nd))) := by
  have hx : x ∈ (List.range gs.length).filter (readyB gs nd) := hp.mem_iff.1 (hl.mem_iff.2 (by simp))
  have hx' := List.mem_filter.1 hx
  have hxn := List.mem_range.1 hx'.1
  refine ⟨hxn, hx'.2, find_least hxn hx'.2 (fun y hy hr => ?_), ?_⟩
  · have hy' : y ∈ l := hp.mem_iff.2 (List.mem_filter.2 ⟨List.mem_range.2 hy, hr⟩)
    obtain ⟨k, hk, rfl⟩ := List.getElem_of_mem hy'
    have := hm k hk
    simpa [List.getD, List.getElem?_eq_getElem hk] using this
  · have h1 : ((List.range gs.length).filter (readyB gs nd)).Perm (x :: (List.range gs.length).filter (fun i => readyB gs nd i && !(i == x))) :=
      filter_less List.nodup_range hx'.1 hx'.2 (by simp) (fun y hy => by simp [hy])
    have h2 := (hl.symm.trans (hp.trans h1)).cons_inv
    refine h2.trans ?_
    have e : (List.range gs.length).filter (fun i => readyB gs nd i && !(i == x)) = (List.range gs.length).filter (nextB gs (nd ++ [varAt gs x]) (wt gs nd)) := by
      refine List.filter_congr (fun i hi => ?_)
      have hin := List.mem_range.1 hi
      unfold readyB nextB
      rw [contains_snoc]
      by_cases hix : i = x
      · subst hix; simp
      · have h3 : (varAt gs x == varAt gs i) = false := by
          rw [beq_eq_false_iff_ne]
          exact fun e => hix (hd i x hin hxn e.symm)
        have h4 : (i == x) = false := by simpa using hix
        rw [h3, h4]
        simp
    rw [e]
theorem dec_zero {gs : List Tri} {nd l l' : List Nat} {cur : Nat → Nat} {i : Nat} (hi : i < gs.length) (hn : nd.contains (varAt gs i) = false) (hc : cur i = 1) (hp : l.Perm ((List.range gs.length).filter (nextB gs nd cur))) (hl : l'.Perm (i :: l)) :
    l'.Perm ((List.range gs.length).filter (nextB gs nd (fun j => if j = i then cur i - 1 else cur j))) := by
  refine hl.trans ((hp.cons i).trans ?_)
  refine (filter_less List.nodup_range (List.mem_range.2 hi) ?_ ?_ (fun y hy => ?_)).symm
  · unfold nextB
    rw [hn]
    simp [hc]
  · unfold nextB; simp [hc]
  · unfold nextB; simp [hy]
theorem dec_more {gs : List Tri} {nd l : List Nat} {cur : Nat → Nat} {i : Nat} (hc : 1 < cur i) (hp : l.Perm ((List.range gs.length).filter (nextB gs nd cur))) :
    l.Perm ((List.range gs.length).filter (nextB gs nd (fun j => if j = i then cur i - 1 else cur j))) := by
  have e : (List.range gs.length).filter (nextB gs nd cur) = (List.range gs.length).filter (nextB gs nd (fun j => if j = i then cur i - 1 else cur j)) := by
    refine List.filter_congr (fun j _ => ?_)
    unfold nextB
    show (_ && decide (cur j = 0)) = (_ && decide ((if j = i then cur i - 1 else cur j) = 0))
    by_cases h : j = i
    · subst h
      rw [if_pos rfl, decide_eq_false (show ¬ cur j = 0 by omega), decide_eq_false (show ¬ cur j - 1 = 0 by omega)]
    · rw [if_neg h]
  rw [← e]; exact hp
def curOf (gs : List Tri) (nd us : List Nat) (k i : Nat) : Nat := wt gs nd i - (us.take k).count i
theorem curOf_zero (gs : List Tri) (nd us : List Nat) (i : Nat) : curOf gs nd us 0 i = wt gs nd i := by simp [curOf]
theorem curOf_step (gs : List Tri) (nd us : List Nat) (k i : Nat) (hk : k < us.length) (h : us.getD k 0 = i) : ∀ j, curOf gs nd us (k + 1) j = if j = i then curOf gs nd us k i - 1 else curOf gs nd us k j := by
  intro j
  unfold curOf
  have e : us.take (k + 1) = us.take k ++ [i] := by
    rw [List.take_succ_eq_append_getElem hk]
    congr 2
    simpa [List.getD, List.getElem?_eq_getElem hk] using h
  rw [e, List.count_append]
  by_cases hj : j = i
  · subst hj; simp; omega
  · rw [if_neg hj]
    have : List.count j [i] = 0 := by rw [List.count_cons]; simp; exact fun h => hj h.symm
    rw [this]; omega
theorem waitsFor_le (gs : List Tri) (nd : List Nat) (x : Nat) : waitsFor gs nd x ≤ 1 := by
  unfold waitsFor
  split
  · split <;> omega
  · omega
theorem curOf_le (gs : List Tri) (nd us : List Nat) (k i : Nat) : curOf gs nd us k i ≤ 2 := by
  unfold curOf wt
  have := waitsFor_le gs nd (gAt gs i).2.1
  have := waitsFor_le gs nd (gAt gs i).2.2
  omega
theorem count_take_lt (us : List Nat) (k i : Nat) (hk : k < us.length) (h : us.getD k 0 = i) : (us.take k).count i + 1 ≤ us.count i := by
  have e : us = us.take k ++ i :: us.drop (k + 1) := by
    conv => lhs; rw [← List.take_append_drop k us]
    congr 1
    rw [List.drop_eq_getElem_cons hk]
    congr 1
    simpa [List.getD, List.getElem?_eq_getElem hk] using h
  conv => rhs; rw [e]
  rw [List.count_append, List.count_cons]
  simp
theorem curOf_pos (gs : List Tri) (nd : List Nat) (v k i : Nat) (hv : nd.contains v = false) (hi : i < gs.length) (hk : k < (usersT gs (2 * gs.length) v).length) (h : (usersT gs (2 * gs.length) v).getD k 0 = i) : 1 ≤ curOf gs nd (usersT gs (2 * gs.length) v) k i := by
  unfold curOf
  have h1 := count_take_lt _ k i hk h
  have h2 := wt_step gs nd v i hi hv
  omega
theorem curOf_all (gs : List Tri) (nd : List Nat) (v i : Nat) (hv : nd.contains v = false) (hi : i < gs.length) : curOf gs nd (usersT gs (2 * gs.length) v) (usersT gs (2 * gs.length) v).length i = wt gs (nd ++ [v]) i := by
  unfold curOf
  rw [List.take_length]
  have h2 := wt_step gs nd v i hi hv
  omega
structure Numbered (gs gl : List Tri) (nd : List Nat) : Prop where
  out : ∃ f, inOrderS gs = gl ++ orderF gs f nd ∧ openN gs nd ≤ f
  zero : ∀ j, j < gs.length → nd.contains (varAt gs j) = true → wt gs nd j = 0
  few : gl.length + openN gs nd ≤ gs.length
theorem Numbered.start (gs : List Tri) : Numbered gs [] [] := ⟨⟨gs.length, rfl, by rw [openN_nil]; exact Nat.le_refl _⟩, fun j _ h => by simp at h, by rw [openN_nil]; simp⟩
theorem Numbered.step {gs gl : List Tri} {nd : List Nat} {x : Nat} (hd : Apart gs) (h : Numbered gs gl nd) (hx : x < gs.length) (hr : readyB gs nd x = true) (hf : (List.range gs.length).find? (readyB gs nd) = some x) : Numbered gs (gl ++ [gAt gs x]) (nd ++ [varAt gs x]) := by
  have hr' : nd.contains (varAt gs x) = false ∧ wt gs nd x = 0 := by
    unfold readyB at hr
    rw [Bool.and_eq_true] at hr
    exact ⟨by simpa using hr.1, by simpa using hr.2⟩
  have hs := openN_step gs nd x hx hr'.1
  refine ⟨?_, fun j hj hc => ?_, by have := h.few; rw [List.length_append]; simp; omega⟩
  · obtain ⟨f, hf1, hf2⟩ := h.out
    match f, hf1, hf2 with
    | 0, _, hf2 => omega
    | f + 1, hf1, hf2 =>
      refine ⟨f, ?_, by omega⟩
      rw [hf1, orderF, hf]
      simp
  · have h2 := wt_step gs nd (varAt gs x) j hj hr'.1
    rw [contains_snoc, Bool.or_eq_true] at hc
    rcases hc with hc | hc
    · have := h.zero j hj hc; omega
    · have e : varAt gs x = varAt gs j := by simpa using hc
      have hjx := hd x j hx hj e
      subst hjx
      omega
theorem Numbered.fin {gs gl : List Tri} {nd : List Nat} (h : Numbered gs gl nd) (he : (List.range gs.length).filter (readyB gs nd) = []) : gl = inOrderS gs := by
  obtain ⟨f, hf1, _⟩ := h.out
  have e : orderF gs f nd = [] := by
    match f with
    | 0 => rfl
    | f + 1 =>
      have : (List.range gs.length).find? (readyB gs nd) = none := by
        rw [List.find?_eq_none]
        intro i hi hr
        have : i ∈ (List.range gs.length).filter (readyB gs nd) := List.mem_filter.2 ⟨hi, hr⟩
        rw [he] at this
        cases this
      rw [orderF, this]
  rw [hf1, e, List.append_nil]
end Go.Proofs.YtglhnmbfkbjemaaGreatDoor
