/- inquestref03.asked, by its contract. -/
import Derived.Test.YtkbdebdhebphpaaNRefB
import Derived.Test.YtkbdebdhebphpaaNPeel
import Derived.Deep.RegionHeld3
namespace Go.Proofs.Ytkbdebdhebphpaa
open Go Go.RowKit Go.Joins

def askedL (r : RawC) : List Nat := ((r.lats.map (·.2.1) ++ r.outs) ++ r.bads) ++ r.cons ++ r.gates.flatMap gate1
theorem nv32_ok {l : List Nat} (h : ∀ x ∈ l, x < 4294967296) : ∀ u ∈ l.map nv32, isU32 u := by
  intro u hu
  obtain ⟨x, hx, rfl⟩ := List.mem_map.1 hu
  exact ⟨x, h x hx, rfl⟩
theorem flat_snoc (l : List Tri) (k : Nat) (h : k < l.length) : (l.take (k + 1)).flatMap gate1 = (l.take k).flatMap gate1 ++ [(l.getD k (0, 0, 0)).2.1, (l.getD k (0, 0, 0)).2.2] := by
  rw [List.take_succ_eq_append_getElem h, List.flatMap_append]
  congr 1
  simp [gate1, List.getD, List.getElem?_eq_getElem h]

set_option maxRecDepth 100000 in
set_option maxHeartbeats 1600000 in
theorem asked_any (r : RawC) (s : Slots) (w : World) (h : SeesRaw w s r) (hf : s.small) (h32 : ∀ x ∈ askedL r, x < 4294967296) :
    Calls Try.prog 65 #[rawV r.max s] w fun e w' => ∃ v, e = .returned v ∧ Row isU32 w' w.heap.size 33 v (askedL r).length ((askedL r).map nv32) ∧ Below w.heap.size w w' := by
  obtain ⟨i0, hi, hz0, hz1, hz2⟩ := info_parts info_u32
  obtain ⟨a1, n1, c1, a2, n2, c2, a3, n3, c3, a4, n4, c4, a5, n5, c5, a6, n6, c6⟩ := s
  obtain ⟨hf1, hf2, hf3, hf4, hf5, hf6⟩ := hf
  simp only at hf1 hf2 hf3 hf4 hf5 hf6
  obtain ⟨m, hm⟩ : ∃ m, m = r.max := ⟨_, rfl⟩
  rw [← hm]
  clear hm
  have L2 : Hid (r.lats.length = n2) := h.s2.1
  have L3 : Hid (r.outs.length = n3) := h.s3.lenMap
  have L4 : Hid (r.bads.length = n4) := h.s4.lenMap
  have L5 : Hid (r.cons.length = n5) := h.s5.lenMap
  have L6 : Hid (r.gates.length = n6) := h.s6.1
  have K2 : Hid (∀ k, k < n2 → (r.lats.getD k (0, 0, 0)).2.1 < 4294967296) := fun k hk => h32 _ (by
    have hk' : k < r.lats.length := by rw [L2.out]; exact hk
    simp only [askedL, List.mem_append, List.mem_map]
    exact Or.inl (Or.inl (Or.inl (Or.inl ⟨_, getD_mem hk', rfl⟩))))
  have K3 : Hid (∀ u ∈ r.outs.map nv32, isU32 u) := nv32_ok fun x hx => h32 x (by simp only [askedL, List.mem_append]; exact Or.inl (Or.inl (Or.inl (Or.inr hx))))
  have K4 : Hid (∀ u ∈ r.bads.map nv32, isU32 u) := nv32_ok fun x hx => h32 x (by simp only [askedL, List.mem_append]; exact Or.inl (Or.inl (Or.inr hx)))
  have K5 : Hid (∀ u ∈ r.cons.map nv32, isU32 u) := nv32_ok fun x hx => h32 x (by simp only [askedL, List.mem_append]; exact Or.inl (Or.inr hx))
  have K6 : Hid (∀ k, k < n6 → (r.gates.getD k (0, 0, 0)).2.1 < 4294967296 ∧ (r.gates.getD k (0, 0, 0)).2.2 < 4294967296) := fun k hk => by
    have hk' : k < r.gates.length := by rw [L6.out]; exact hk
    have hm := getD_mem (d := ((0, 0, 0) : Tri)) hk'
    constructor
    · exact h32 _ (by simp only [askedL, List.mem_append]; exact Or.inr (List.mem_flatMap.2 ⟨_, hm, by simp [gate1]⟩))
    · exact h32 _ (by simp only [askedL, List.mem_append]; exact Or.inr (List.mem_flatMap.2 ⟨_, hm, by simp [gate1]⟩))
  have HS := Lib.hid h
  clear h h32
  unfold rawV
  go_enter Try.func65, Try.ntmps65
  go_upto_region 2 with fail
  generalize hW : World.alloc _ _ = W1
  have B1 : Below w.heap.size w W1 := by subst hW; exact ext_alloc _ _
  have hX : W1.heap[w.heap.size]? = some (.cells #[.int .u32 m, .slice a1 n1 c1, .slice a2 n2 c2, .slice a3 n3 c3, .slice a4 n4 c4, .slice a5 n5 c5, .slice a6 n6 c6] 37 (0, 0)) := by subst hW; exact heap_new _ _ _ rfl
  have hlt0 : w.heap.size < W1.heap.size := heap_lt hX
  clear hW
  have HB1 := Lib.hid B1
  have HX := Lib.hid hX
  have HS := Lib.hid (HS.out.below B1)
  clear B1 hX
  go_wp2
  go_loopw [3, 4] (fun v i wr => ∃ k : Nat, k ≤ n2 ∧ i = .int .i64 k ∧ Hid (Row isU32 wr W1.heap.size 33 v k (((r.lats.take k).map (·.2.1)).map nv32)) ∧ Hid (Below W1.heap.size W1 wr))
    (fun _ i _ => n2 - (intOf i).toNat)
  case atStart => exact ⟨0, Nat.zero_le _, rfl, Row.nil _ _ _ _, Below.refl _ _⟩
  case round =>
    obtain ⟨k, hk, rfl, hR, hB⟩ := hrel
    have p2 := cell_of_block (heap_below HX.out hB.out) 2
    obtain ⟨va', vc', rfl⟩ := hR.out.form
    by_cases hlt2 : k < n2
    · obtain ⟨b, off, rfl, hbw⟩ := HS.out.s2.addr (show 0 < n2 by omega)
      obtain ⟨qx, qy, qz⟩ := (HS.out.s2.below hB.out).cells k hlt2 (0, 0, 0)
      have hy32 := K2.out k hlt2
      obtain ⟨t, ht⟩ : ∃ t, t = r.lats.getD k (0, 0, 0) := ⟨_, rfl⟩
      rw [← ht] at qx qy qz hy32
      have HT := Lib.hid ht
      clear ht
      obtain ⟨x, y, z⟩ := t
      have OKY : Hid (∀ u ∈ [Value.int .u32 (y : Int)], isU32 u) := by intro u hu; simp at hu; subst hu; exact ⟨y, hy32, rfl⟩
      unfold nv32 at qx qy qz
      have W1' : IntKind.i64.wrap ((k : Int) + 1) = (k : Int) + 1 := IntWalk.i64_in _ (by omega)
      obtain ⟨L, hL⟩ : ∃ L, L = ((r.lats.take k).map (·.2.1)).map nv32 := ⟨_, rfl⟩
      rw [← hL] at hR
      have HL := Lib.hid hL
      clear hL hy32
      go_wp2_with (at_builtin; refine wpList_append_row isU32 _ rfl _ _ 24 rfl W1.heap.size 33 i0 (.int .u32 0) 4 Try.underlying24 hi hz0 hz1 hz2 rfl zero_isU32 _ _ _ rfl (hR.out.below (ext_alloc _ _)) (some ⟨wr.heap.size, 0, none⟩) 1 1 [.int .u32 y] rfl (sees_lit wr 33 (0, 0) _ _ 1 rfl rfl) (by intro u hu; simp at hu; subst hu; rfl) OKY.out ?c1 ?c2 ?c3 ?_)
      case c1 => unfold maxLen; omega
      case c2 => omega
      case c3 => have := hB.out.size; simp; omega
      intro v' w1 hrow1 hgrow1 _
      have hb1 : Below W1.heap.size W1 w1 := by
        have hx := hB.out.size
        exact (hB.out.trans ((ext_alloc wr _).mono hx)).grown hgrow1 (by simp; omega) (fun q hq => (hR.out.own.lt q hq).1)
      have R1 : Hid (Row isU32 w1 W1.heap.size 33 v' (k + 1) (((r.lats.take (k + 1)).map (·.2.1)).map nv32)) := by
        show Row _ _ _ _ _ _ _
        have e : ((r.lats.take (k + 1)).map (·.2.1)).map nv32 = L ++ [nv32 y] := by
          rw [HL.out, map_take_snoc _ _ _ (by rw [L2.out]; exact hlt2), ← HT.out, List.map_append]
          rfl
        rw [e]
        exact hrow1
      have BB1 := Lib.hid hb1
      clear hrow1 hgrow1 hb1 hR hB p2
      go_wp2
      go_roundw
      case rel => exact ⟨k + 1, by omega, by go_num, R1, BB1⟩
      case measure => simp [intOf]; omega
    · obtain rfl : n2 = k := by omega
      have HR2 : Hid (Row isU32 wr W1.heap.size 33 (.slice va' n2 vc') n2 ((r.lats.map (·.2.1)).map nv32)) := by
        have := hR.out
        rw [List.take_of_length_le (by rw [L2.out]; exact Nat.le_refl _)] at this
        exact this
      have HB2 := Lib.hid hB.out
      have HWS : Hid (W1.heap.size ≤ wr.heap.size) := hB.out.size
      have HSW := Lib.hid (HS.out.below hB.out)
      have HELDB : Hid (∀ W, Below W1.heap.size W1 W → W.cell? ⟨w.heap.size, 3, none⟩ = some (.slice a3 n3 c3) ∧ W.cell? ⟨w.heap.size, 4, none⟩ = some (.slice a4 n4 c4) ∧ W.cell? ⟨w.heap.size, 5, none⟩ = some (.slice a5 n5 c5)) := fun W hb => ⟨cell_of_block (heap_below HX.out hb) 3, cell_of_block (heap_below HX.out hb) 4, cell_of_block (heap_below HX.out hb) 5⟩
      clear hR hB hlt2 hk
      go_upto_region 6 with fail
      have HSL3 : Hid (∀ W, Below W1.heap.size W1 W → Sees W a3 n3 c3 (r.outs.map nv32)) := fun W hb => HS.out.s3.below hb
      have HSL4 : Hid (∀ W, Below W1.heap.size W1 W → Sees W a4 n4 c4 (r.bads.map nv32)) := fun W hb => HS.out.s4.below hb
      have HSL5 : Hid (∀ W, Below W1.heap.size W1 W → Sees W a5 n5 c5 (r.cons.map nv32)) := fun W hb => HS.out.s5.below hb
      refine wp_region_noPanic ?_
      refine wp_region_peelN 10 (by kernel_rfl) rfl (by simp only [List.getElem?_toArray, List.getElem?_cons_zero, List.getElem?_cons_succ]; rfl) (by kernel_rfl) ?_
      simp only [List.pop_toArray, List.dropLast_cons_cons, List.dropLast_singleton]
      refine wpAny_of_held (S := fun w' => w'.cell? ⟨w.heap.size, 3, none⟩ = some (.slice a3 n3 c3) ∧ w'.cell? ⟨w.heap.size, 4, none⟩ = some (.slice a4 n4 c4) ∧ w'.cell? ⟨w.heap.size, 5, none⟩ = some (.slice a5 n5 c5)) _ _ _ _ ?_
      show wpAnyH _ _ _ _ _ _ _ _ wr.drew
      have hY0 : Below wr.heap.size wr wr.drew := (Below.refl _ _).drew
      have R0 := Lib.hid (HR2.out.below hY0)
      have B0 := Lib.hid (HB2.out.drew)
      clear hY0
      have HELD := Lib.hid (HELDB.out _ B0.out)
      refine wpAnyH_take (i := 0) (v := ?_) (by simp only [List.getElem?_toArray, List.getElem?_cons_zero]; rfl) (by kernel_rfl) (by kernel_rfl) (by kernel_rfl) (fun _ _ _ h => h) (Or.inl ⟨by rfl, ?_⟩) HELD.out ?_
      rotate_left
      · intro w hSw
        (try dsimp only at hSw)
        obtain ⟨q0, q1, q2⟩ := hSw
        go_simp
        try with_reducible rfl
      try simp only [Act.put, List.setIfInBounds_toArray, List.set_cons_zero, List.set_cons_succ]
      refine wpAnyH_take (i := 1) (v := ?_) (by simp only [List.getElem?_toArray, List.getElem?_cons_zero, List.getElem?_cons_succ]; rfl) (by kernel_rfl) (by kernel_rfl) (by kernel_rfl) (fun _ _ _ h => h) (Or.inl ⟨by rfl, ?_⟩) HELD.out ?_
      rotate_left
      · intro w hSw
        (try dsimp only at hSw)
        obtain ⟨q0, q1, q2⟩ := hSw
        go_simp
        try with_reducible rfl
      try simp only [Act.put, List.setIfInBounds_toArray, List.set_cons_zero, List.set_cons_succ]
      refine wpAnyH_take (i := 2) (v := ?_) (by simp only [List.getElem?_toArray, List.getElem?_cons_zero, List.getElem?_cons_succ]; rfl) (by kernel_rfl) (by kernel_rfl) (by kernel_rfl) (fun _ _ _ h => h) (Or.inl ⟨by rfl, ?_⟩) HELD.out ?_
      rotate_left
      · intro w hSw
        (try dsimp only at hSw)
        obtain ⟨q0, q1, q2⟩ := hSw
        go_simp
        try with_reducible rfl
      try simp only [Act.put, List.setIfInBounds_toArray, List.set_cons_zero, List.set_cons_succ]
      refine wpAnyH_take (i := 4) (v := ?_) (by simp only [List.getElem?_toArray, List.getElem?_cons_zero, List.getElem?_cons_succ]; rfl) (by kernel_rfl) (by kernel_rfl) (by kernel_rfl) (fun _ _ _ h => h) (Or.inl ⟨by rfl, ?_⟩) HELD.out ?_
      rotate_left
      · intro w hSw
        (try dsimp only at hSw)
        obtain ⟨q0, q1, q2⟩ := hSw
        go_simp
        try with_reducible rfl
      try simp only [Act.put, List.setIfInBounds_toArray, List.set_cons_zero, List.set_cons_succ]
      refine wpAnyH_take (i := 5) (v := ?_) (by simp only [List.getElem?_toArray, List.getElem?_cons_zero, List.getElem?_cons_succ]; rfl) (by kernel_rfl) (by kernel_rfl) (by kernel_rfl) (fun _ _ _ h => h) (Or.inl ⟨by rfl, ?_⟩) HELD.out ?_
      rotate_left
      · intro w hSw
        (try dsimp only at hSw)
        obtain ⟨q0, q1, q2⟩ := hSw
        go_simp
        try with_reducible rfl
      try simp only [Act.put, List.setIfInBounds_toArray, List.set_cons_zero, List.set_cons_succ]
      refine wpAnyH_take (i := 7) (v := ?_) (by simp only [List.getElem?_toArray, List.getElem?_cons_zero, List.getElem?_cons_succ]; rfl) (by kernel_rfl) (by kernel_rfl) (by kernel_rfl) (fun _ _ _ h => h) (Or.inl ⟨by rfl, ?_⟩) HELD.out ?_
      rotate_left
      · intro w hSw
        (try dsimp only at hSw)
        obtain ⟨q0, q1, q2⟩ := hSw
        go_simp
        try with_reducible rfl
      try simp only [Act.put, List.setIfInBounds_toArray, List.set_cons_zero, List.set_cons_succ]
      refine wpAnyH_take (i := 8) (v := ?_) (by simp only [List.getElem?_toArray, List.getElem?_cons_zero, List.getElem?_cons_succ]; rfl) (by kernel_rfl) (by kernel_rfl) (by kernel_rfl) (fun _ _ _ h => h) (Or.inl ⟨by rfl, ?_⟩) HELD.out ?_
      rotate_left
      · intro w hSw
        (try dsimp only at hSw)
        obtain ⟨q0, q1, q2⟩ := hSw
        go_simp
        try with_reducible rfl
      try simp only [Act.put, List.setIfInBounds_toArray, List.set_cons_zero, List.set_cons_succ]
      refine wpAnyH_ready (rs := [3]) (by kernel_rfl) (by simp) ?_
      refine AllReadyH.cons (by simp only [List.getElem?_toArray, List.getElem?_cons_zero, List.getElem?_cons_succ]; rfl) (fun K hK => ?_) AllReadyH.nil
      refine step_append_row isU32 _ rfl _ _ 24 rfl W1.heap.size 33 i0 (.int .u32 0) 4 Try.underlying24 hi hz0 hz1 hz2 rfl zero_isU32 _ _ _ rfl R0.out a3 n3 c3 (r.outs.map nv32) rfl (HSL3.out _ B0.out) (nv32_one _) K3.out (by unfold maxLen; omega) (by omega) B0.out.size ?_
      intro v1 s1 r1 hg1
      have R1 := Lib.hid r1
      have B1 := Lib.hid (B0.out.grown hg1 B0.out.size (fun q hq => (R0.out.own.lt q hq).1))
      have HELD := Lib.hid (HELDB.out _ B1.out)
      obtain ⟨va1, vc1, rfl⟩ := r1.form
      clear r1 hg1
      refine hK.out _ _ HELD.out (fun _ => ?_)
      clear hK K
      try simp only [Act.put, List.setIfInBounds_toArray, List.set_cons_zero, List.set_cons_succ]
      refine wpAnyH_ready (rs := [6]) (by kernel_rfl) (by simp) ?_
      refine AllReadyH.cons (by simp only [List.getElem?_toArray, List.getElem?_cons_zero, List.getElem?_cons_succ]; rfl) (fun K hK => ?_) AllReadyH.nil
      refine step_append_row isU32 _ rfl _ _ 24 rfl W1.heap.size 33 i0 (.int .u32 0) 4 Try.underlying24 hi hz0 hz1 hz2 rfl zero_isU32 _ _ _ rfl R1.out a4 n4 c4 (r.bads.map nv32) rfl (HSL4.out _ B1.out) (nv32_one _) K4.out (by unfold maxLen; omega) (by omega) B1.out.size ?_
      intro v2 s2 r2 hg2
      have R2 := Lib.hid r2
      have B2 := Lib.hid (B1.out.grown hg2 B1.out.size (fun q hq => (R1.out.own.lt q hq).1))
      have HELD := Lib.hid (HELDB.out _ B2.out)
      obtain ⟨va2, vc2, rfl⟩ := r2.form
      clear r2 hg2
      refine hK.out _ _ HELD.out (fun _ => ?_)
      clear hK K
      try simp only [Act.put, List.setIfInBounds_toArray, List.set_cons_zero, List.set_cons_succ]
      refine wpAnyH_ready (rs := [9]) (by kernel_rfl) (by simp) ?_
      refine AllReadyH.cons (by simp only [List.getElem?_toArray, List.getElem?_cons_zero, List.getElem?_cons_succ]; rfl) (fun K hK => ?_) AllReadyH.nil
      refine step_append_row isU32 _ rfl _ _ 24 rfl W1.heap.size 33 i0 (.int .u32 0) 4 Try.underlying24 hi hz0 hz1 hz2 rfl zero_isU32 _ _ _ rfl R2.out a5 n5 c5 (r.cons.map nv32) rfl (HSL5.out _ B2.out) (nv32_one _) K5.out (by unfold maxLen; omega) (by omega) B2.out.size ?_
      intro v3 s3 r3 hg3
      have R3 := Lib.hid r3
      have B3 := Lib.hid (B2.out.grown hg3 B2.out.size (fun q hq => (R2.out.own.lt q hq).1))
      have HELD := Lib.hid (HELDB.out _ B3.out)
      obtain ⟨va3, vc3, rfl⟩ := r3.form
      clear r3 hg3
      refine hK.out _ _ HELD.out (fun _ => ?_)
      clear hK K
      try simp only [Act.put, List.setIfInBounds_toArray, List.set_cons_zero, List.set_cons_succ]
      refine wpAnyH_done (by kernel_rfl) ?_ _
      unfold LastQ wpOp
      simp only [List.getElem?_toArray, List.getElem?_cons_zero, List.getElem?_cons_succ]
      rw [if_pos (by rfl)]
      refine Or.inl ?_
      go_simp
      refine NoPanic.normal ?_
      have HR6 : Hid (Row isU32 s3 W1.heap.size 33 (.slice va3 (n2 + n3 + n4 + n5) vc3) (n2 + n3 + n4 + n5 + 2 * 0) (((((r.lats.map (·.2.1) ++ r.outs) ++ r.bads) ++ r.cons) ++ (r.gates.take 0).flatMap gate1).map nv32)) := by
        have := R3.out
        rw [List.take_zero, List.flatMap_nil, List.append_nil, List.map_append, List.map_append, List.map_append]
        exact this
      have HB6 := Lib.hid B3.out
      clear p2 R1 R2 R3 B1 B2 B3
      go_wp2
      go_loopw [3, 5] (fun v i wr => ∃ k : Nat, k ≤ n6 ∧ i = .int .i64 k ∧ Hid (Row isU32 wr W1.heap.size 33 v (n2 + n3 + n4 + n5 + 2 * k) (((((r.lats.map (·.2.1) ++ r.outs) ++ r.bads) ++ r.cons) ++ (r.gates.take k).flatMap gate1).map nv32)) ∧ Hid (Below W1.heap.size W1 wr))
        (fun _ i _ => n6 - (intOf i).toNat)
      case atStart => exact ⟨0, Nat.zero_le _, rfl, HR6.out, HB6.out⟩
      case round =>
        clear HR6 HB6 HR2 HB2 HWS HSW HELDB
        obtain ⟨k, hk, rfl, hR, hB⟩ := hrel
        have p6 := cell_of_block (heap_below HX.out hB.out) 6
        obtain ⟨va', vc', rfl⟩ := hR.out.form
        by_cases hlt2 : k < n6
        · obtain ⟨b, off, rfl, hbw⟩ := HS.out.s6.addr (show 0 < n6 by omega)
          obtain ⟨qx, qy, qz⟩ := (HS.out.s6.below hB.out).cells k hlt2 (0, 0, 0)
          obtain ⟨hy32, hz32⟩ := K6.out k hlt2
          have hgt : ∀ W, Below W1.heap.size W1 W → _ := fun W hb => (HS.out.s6.below hb).cells k hlt2 (0, 0, 0)
          obtain ⟨t, ht⟩ : ∃ t, t = r.gates.getD k (0, 0, 0) := ⟨_, rfl⟩
          rw [← ht] at qx qy qz hy32 hz32 hgt
          have HT := Lib.hid ht
          clear ht
          obtain ⟨x, y, z⟩ := t
          have OKY : Hid (∀ u ∈ [Value.int .u32 (y : Int), Value.int .u32 (z : Int)], isU32 u) := by intro u hu; simp at hu; rcases hu with rfl | rfl; exact ⟨y, hy32, rfl⟩; exact ⟨z, hz32, rfl⟩
          unfold nv32 at qx qy qz hgt
          have HELDB : Hid (∀ W, Below W1.heap.size W1 W → W.cell? ⟨w.heap.size, 6, none⟩ = some (.slice (some ⟨b, off, none⟩) n6 c6) ∧ W.cell? ⟨b, off + k * 3 + 1, none⟩ = some (.int .u32 y) ∧ W.cell? ⟨b, off + k * 3 + 2, none⟩ = some (.int .u32 z)) := fun W hb => ⟨cell_of_block (heap_below HX.out hb) 6, (hgt W hb).2.1, (hgt W hb).2.2⟩
          have W1' : IntKind.i64.wrap ((k : Int) + 1) = (k : Int) + 1 := IntWalk.i64_in _ (by omega)
          obtain ⟨L, hL⟩ : ∃ L, L = ((((r.lats.map (·.2.1) ++ r.outs) ++ r.bads) ++ r.cons) ++ (r.gates.take k).flatMap gate1).map nv32 := ⟨_, rfl⟩
          rw [← hL] at hR
          have HL := Lib.hid hL
          have HWS : Hid (W1.heap.size ≤ wr.heap.size) := hB.out.size
          have hq4 : n2 + n3 + n4 + n5 + 2 * k + 2 ≤ maxLen := by unfold maxLen; omega
          have hq5 : (n2 + n3 + n4 + n5 + 2 * k + 2) * 4 ≤ 140737488355328 := by omega
          clear hL hy32 hz32 hgt qx qy qz
          go_wp2_with fail
          clear p6
          refine wp_region_noPanic ?_
          refine wp_region_peelN 15 (by kernel_rfl) rfl (by simp only [List.getElem?_toArray, List.getElem?_cons_zero, List.getElem?_cons_succ]; rfl) (by kernel_rfl) ?_
          simp only [List.pop_toArray, List.dropLast_cons_cons, List.dropLast_singleton]
          refine wpAny_of_held (S := fun w' => w'.cell? ⟨w.heap.size, 6, none⟩ = some (.slice (some ⟨b, off, none⟩) n6 c6) ∧ w'.cell? ⟨b, off + k * 3 + 1, none⟩ = some (.int .u32 y) ∧ w'.cell? ⟨b, off + k * 3 + 2, none⟩ = some (.int .u32 z)) _ _ _ _ ?_
          show wpAnyH _ _ _ _ _ _ _ _ wr.drew
          have hY0 : Below wr.heap.size wr wr.drew := (Below.refl _ _).drew
          have R0 := Lib.hid (hR.out.below hY0)
          have B0 := Lib.hid (hB.out.drew)
          clear hY0
          have HELD := Lib.hid (HELDB.out _ B0.out)
          refine wpAnyH_take (i := 0) (v := ?_) (by simp only [List.getElem?_toArray, List.getElem?_cons_zero]; rfl) (by kernel_rfl) (by kernel_rfl) (by kernel_rfl) (fun _ _ _ h => h) (Or.inl ⟨by rfl, ?_⟩) HELD.out ?_
          rotate_left
          · intro w hSw
            (try dsimp only at hSw)
            obtain ⟨q0, q1, q2⟩ := hSw
            go_simp
            try with_reducible rfl
          try simp only [Act.put, List.setIfInBounds_toArray, List.set_cons_zero, List.set_cons_succ]
          refine wpAnyH_take (i := 1) (v := ?_) (by simp only [List.getElem?_toArray, List.getElem?_cons_zero, List.getElem?_cons_succ]; rfl) (by kernel_rfl) (by kernel_rfl) (by kernel_rfl) (fun _ _ _ h => h) (Or.inl ⟨by rfl, ?_⟩) HELD.out ?_
          rotate_left
          · intro w hSw
            (try dsimp only at hSw)
            obtain ⟨q0, q1, q2⟩ := hSw
            go_simp
            try with_reducible rfl
          try simp only [Act.put, List.setIfInBounds_toArray, List.set_cons_zero, List.set_cons_succ]
          refine wpAnyH_take (i := 2) (v := ?_) (by simp only [List.getElem?_toArray, List.getElem?_cons_zero, List.getElem?_cons_succ]; rfl) (by kernel_rfl) (by kernel_rfl) (by kernel_rfl) (fun _ _ _ h => h) (Or.inl ⟨by rfl, ?_⟩) HELD.out ?_
          rotate_left
          · intro w hSw
            (try dsimp only at hSw)
            obtain ⟨q0, q1, q2⟩ := hSw
            go_simp
            try with_reducible rfl
          try simp only [Act.put, List.setIfInBounds_toArray, List.set_cons_zero, List.set_cons_succ]
          refine wpAnyH_take (i := 3) (v := ?_) (by simp only [List.getElem?_toArray, List.getElem?_cons_zero, List.getElem?_cons_succ]; rfl) (by kernel_rfl) (by kernel_rfl) (by kernel_rfl) (fun _ _ _ h => h) (Or.inl ⟨by rfl, ?_⟩) HELD.out ?_
          rotate_left
          · intro w hSw
            (try dsimp only at hSw)
            obtain ⟨q0, q1, q2⟩ := hSw
            go_simp
            try with_reducible rfl
          try simp only [Act.put, List.setIfInBounds_toArray, List.set_cons_zero, List.set_cons_succ]
          refine wpAnyH_take (i := 4) (v := ?_) (by simp only [List.getElem?_toArray, List.getElem?_cons_zero, List.getElem?_cons_succ]; rfl) (by kernel_rfl) (by kernel_rfl) (by kernel_rfl) (fun _ _ _ h => h) (Or.inl ⟨by rfl, ?_⟩) HELD.out ?_
          rotate_left
          · intro w hSw
            (try dsimp only at hSw)
            obtain ⟨q0, q1, q2⟩ := hSw
            go_simp
            try with_reducible rfl
          try simp only [Act.put, List.setIfInBounds_toArray, List.set_cons_zero, List.set_cons_succ]
          refine wpAnyH_take (i := 5) (v := ?_) (by simp only [List.getElem?_toArray, List.getElem?_cons_zero, List.getElem?_cons_succ]; rfl) (by kernel_rfl) (by kernel_rfl) (by kernel_rfl) (fun _ _ _ h => h) (Or.inl ⟨by rfl, ?_⟩) HELD.out ?_
          rotate_left
          · intro w hSw
            (try dsimp only at hSw)
            obtain ⟨q0, q1, q2⟩ := hSw
            go_simp
            try with_reducible rfl
          try simp only [Act.put, List.setIfInBounds_toArray, List.set_cons_zero, List.set_cons_succ]
          refine wpAnyH_take (i := 6) (v := ?_) (by simp only [List.getElem?_toArray, List.getElem?_cons_zero, List.getElem?_cons_succ]; rfl) (by kernel_rfl) (by kernel_rfl) (by kernel_rfl) (fun _ _ _ h => h) (Or.inl ⟨by rfl, ?_⟩) HELD.out ?_
          rotate_left
          · intro w hSw
            (try dsimp only at hSw)
            obtain ⟨q0, q1, q2⟩ := hSw
            go_simp
            try with_reducible rfl
          try simp only [Act.put, List.setIfInBounds_toArray, List.set_cons_zero, List.set_cons_succ]
          refine wpAnyH_take (i := 7) (v := ?_) (by simp only [List.getElem?_toArray, List.getElem?_cons_zero, List.getElem?_cons_succ]; rfl) (by kernel_rfl) (by kernel_rfl) (by kernel_rfl) (fun _ _ _ h => h) (Or.inl ⟨by rfl, ?_⟩) HELD.out ?_
          rotate_left
          · intro w hSw
            (try dsimp only at hSw)
            obtain ⟨q0, q1, q2⟩ := hSw
            go_simp
            try with_reducible rfl
          try simp only [Act.put, List.setIfInBounds_toArray, List.set_cons_zero, List.set_cons_succ]
          refine wpAnyH_take (i := 8) (v := ?_) (by simp only [List.getElem?_toArray, List.getElem?_cons_zero, List.getElem?_cons_succ]; rfl) (by kernel_rfl) (by kernel_rfl) (by kernel_rfl) (fun _ _ _ h => h) (Or.inl ⟨by rfl, ?_⟩) HELD.out ?_
          rotate_left
          · intro w hSw
            (try dsimp only at hSw)
            obtain ⟨q0, q1, q2⟩ := hSw
            go_simp
            try with_reducible rfl
          try simp only [Act.put, List.setIfInBounds_toArray, List.set_cons_zero, List.set_cons_succ]
          refine wpAnyH_take (i := 9) (v := ?_) (by simp only [List.getElem?_toArray, List.getElem?_cons_zero, List.getElem?_cons_succ]; rfl) (by kernel_rfl) (by kernel_rfl) (by kernel_rfl) (fun _ _ _ h => h) (Or.inl ⟨by rfl, ?_⟩) HELD.out ?_
          rotate_left
          · intro w hSw
            (try dsimp only at hSw)
            obtain ⟨q0, q1, q2⟩ := hSw
            go_simp
            try with_reducible rfl
          try simp only [Act.put, List.setIfInBounds_toArray, List.set_cons_zero, List.set_cons_succ]
          refine wpAnyH_take (i := 10) (v := ?_) (by simp only [List.getElem?_toArray, List.getElem?_cons_zero, List.getElem?_cons_succ]; rfl) (by kernel_rfl) (by kernel_rfl) (by kernel_rfl) (fun _ _ _ h => h) (Or.inl ⟨by rfl, ?_⟩) HELD.out ?_
          rotate_left
          · intro w hSw
            (try dsimp only at hSw)
            obtain ⟨q0, q1, q2⟩ := hSw
            go_simp
            try with_reducible rfl
          try simp only [Act.put, List.setIfInBounds_toArray, List.set_cons_zero, List.set_cons_succ]
          refine wpAnyH_take (i := 11) (v := ?_) (by simp only [List.getElem?_toArray, List.getElem?_cons_zero, List.getElem?_cons_succ]; rfl) (by kernel_rfl) (by kernel_rfl) (by kernel_rfl) (fun _ _ _ h => h) (Or.inl ⟨by rfl, ?_⟩) HELD.out ?_
          rotate_left
          · intro w hSw
            (try dsimp only at hSw)
            obtain ⟨q0, q1, q2⟩ := hSw
            go_simp
            try with_reducible rfl
          try simp only [Act.put, List.setIfInBounds_toArray, List.set_cons_zero, List.set_cons_succ]
          refine wpAnyH_take (i := 12) (v := ?_) (by simp only [List.getElem?_toArray, List.getElem?_cons_zero, List.getElem?_cons_succ]; rfl) (by kernel_rfl) (by kernel_rfl) (by kernel_rfl) (fun _ _ _ h => h) (Or.inl ⟨by rfl, ?_⟩) HELD.out ?_
          rotate_left
          · intro w hSw
            (try dsimp only at hSw)
            obtain ⟨q0, q1, q2⟩ := hSw
            go_simp
            try with_reducible rfl
          try simp only [Act.put, List.setIfInBounds_toArray, List.set_cons_zero, List.set_cons_succ]
          refine wpAnyH_ready (rs := [13]) (by kernel_rfl) (by simp) ?_
          refine AllReadyH.cons (by simp only [List.getElem?_toArray, List.getElem?_cons_zero, List.getElem?_cons_succ]; rfl) (fun K hK => ?_) AllReadyH.nil
          go_simp
          generalize hS2 : World.drew _ = s2
          have hbs : Below wr.heap.size wr s2 := by subst hS2; exact (ext_alloc _ _).drew
          have hnews : Sees s2 (some ⟨wr.heap.size, 0, none⟩) 2 2 [.int .u32 y, .int .u32 z] := by
            subst hS2; exact (sees_lit wr 33 (0, 0) #[.int .u32 y, .int .u32 z] _ 2 rfl rfl).below ((Below.refl _ _).drew)
          clear hS2
          have R1 := Lib.hid (hR.out.below hbs)
          have B1 := Lib.hid (below_step hB.out hbs HWS.out)
          have HNEWS := Lib.hid hnews
          have HELD := Lib.hid (HELDB.out s2 B1.out)
          clear hbs hnews
          refine hK.out _ _ HELD.out (fun _ => ?_)
          clear hK K
          try simp only [Act.put, List.setIfInBounds_toArray, List.set_cons_zero, List.set_cons_succ]
          refine wpAnyH_ready (rs := [14]) (by kernel_rfl) (by simp) ?_
          refine AllReadyH.cons (by simp only [List.getElem?_toArray, List.getElem?_cons_zero, List.getElem?_cons_succ]; rfl) (fun K hK => ?_) AllReadyH.nil
          refine step_append_row isU32 _ rfl _ _ 24 rfl W1.heap.size 33 i0 (.int .u32 0) 4 Try.underlying24 hi hz0 hz1 hz2 rfl zero_isU32 _ _ _ rfl R1.out _ 2 2 [.int .u32 y, .int .u32 z] rfl HNEWS.out (by intro u hu; simp at hu; rcases hu with rfl | rfl <;> rfl) OKY.out hq4 hq5 B1.out.size ?_
          intro v2 w1 hrow1 hgrow1
          have hb1 : Below W1.heap.size W1 w1 := B1.out.grown hgrow1 B1.out.size (fun q hq => (R1.out.own.lt q hq).1)
          have HELD := Lib.hid (HELDB.out w1 hb1)
          have R1 : Hid (Row isU32 w1 W1.heap.size 33 v2 (n2 + n3 + n4 + n5 + 2 * (k + 1)) (((((r.lats.map (·.2.1) ++ r.outs) ++ r.bads) ++ r.cons) ++ (r.gates.take (k + 1)).flatMap gate1).map nv32)) := by
            show Row _ _ _ _ _ _ _
            have e : ((((r.lats.map (·.2.1) ++ r.outs) ++ r.bads) ++ r.cons) ++ (r.gates.take (k + 1)).flatMap gate1).map nv32 = L ++ [nv32 y, nv32 z] := by
              rw [HL.out, flat_snoc _ _ (by rw [L6.out]; exact hlt2), ← HT.out, ← List.append_assoc, List.map_append]
              rfl
            rw [e, show n2 + n3 + n4 + n5 + 2 * (k + 1) = n2 + n3 + n4 + n5 + 2 * k + 2 by omega]
            exact hrow1
          have BB1 := Lib.hid hb1
          clear hrow1 hgrow1 hb1 hR hB
          refine hK.out _ _ HELD.out (fun _ => ?_)
          clear hK K
          try simp only [Act.put, List.setIfInBounds_toArray, List.set_cons_zero, List.set_cons_succ]
          refine wpAnyH_done (by kernel_rfl) ?_ _
          unfold LastQ wpOp
          simp only [List.getElem?_toArray, List.getElem?_cons_zero, List.getElem?_cons_succ]
          rw [if_pos (by rfl)]
          refine Or.inl ?_
          go_simp
          refine NoPanic.normal ?_
          go_wp2
          go_roundw
          case rel => exact ⟨k + 1, by omega, by go_num, R1, BB1⟩
          case measure => simp [intOf]; omega
        · obtain rfl : n6 = k := by omega
          go_wp2
          go_ret
          refine ⟨_, rfl, ?_, ?_⟩
          · have := hR.out.base_le (base' := w.heap.size) HB1.out.size
            rw [List.take_of_length_le (by rw [L6.out]; exact Nat.le_refl _)] at this
            have e : (askedL r).length = n2 + n3 + n4 + n5 + 2 * n6 := by
              unfold askedL
              simp only [List.length_append, List.length_map, flat_gate, L2.out, L3.out, L4.out, L5.out, L6.out]
            rw [e]
            exact this
          · exact ext_trans HB1.out hB.out
end Go.Proofs.Ytkbdebdhebphpaa
