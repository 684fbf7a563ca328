/- slices.Grow of nothing, slices.Concat of three lists of numbers, by their contracts. -/
import Derived.Test.YtkbdebdhebphpaaNOwns
import Derived.Test.YtkbdebdhebphpaaNHeap2
import Derived.Lib.AppendZeros
namespace Go.Proofs.Ytkbdebdhebphpaa
open Go Go.RowKit Go.Joins

theorem zero_isU32 : isU32 (.int .u32 0) := ⟨0, by omega, rfl⟩

set_option maxRecDepth 100000 in
theorem grow_nil (n : Nat) (w : World) (hn : n ≤ 1000000000) :
    Calls Try.prog 93 #[.slice none 0 0, .int .i64 n] w fun e w' => ∃ v, e = .returned v ∧ Row isU32 w' w.heap.size 33 v 0 [] ∧ Below w.heap.size w w' := by
  obtain ⟨i0, hi, hz0, hz1, hz2⟩ := info_parts info_u32
  have e1 : decide ((n : Int) < 0) = false := by simp
  have W1 : IntKind.i64.wrap ((n : Int) - 0) = (n : Int) := by rw [Int.sub_zero]; exact IntWalk.i64_in _ (by omega)
  by_cases h0 : n = 0
  · subst h0
    go_enter Try.func93, Try.ntmps93
    go_wp2
    go_ret
    exact ⟨_, rfl, Row.nil _ _ _ _, Below.refl _ _⟩
  · have e2 : decide ((0 : Int) < (n : Int)) = true := by simp; omega
    have hr := fun ty => Lib.run_append_nil_zeros (P := Try.prog) w 24 3 ty 33 i0 (.int .u32 0) .i64 .i64 Try.underlying24 Try.underlying3 hi hz0 n (by omega) (by omega) (by omega) (by rw [hz2]; omega)
    have hge := grownCap_ge w n 0 33
    have hle := grownCap_le_maxLen w n 0 33 (by unfold maxLen; omega)
    obtain ⟨cp, hcp⟩ : ∃ cp, cp = grownCap w n 0 33 := ⟨_, rfl⟩
    obtain ⟨cells, hcells⟩ : ∃ cells, cells = Builtin.zeroCells (Value.int .u32 0).cells n ++ Builtin.zeroCells (Value.int .u32 0).cells (grownCap w n 0 33 - n) := ⟨_, rfl⟩
    have hsz : cells.size = cp := by
      rw [hcells, Array.size_append, size_zeroCells, size_zeroCells, hcp]
      simp [Value.cells]
      omega
    have hok : ∀ u ∈ cells.toList, isU32 u := by
      intro u hu
      rw [hcells, Array.toList_append, List.mem_append] at hu
      rcases hu with hu | hu
      · rw [mem_zeroCells rfl hu]; exact zero_isU32
      · rw [mem_zeroCells rfl hu]; exact zero_isU32
    rw [← hcells, ← hcp] at hr
    rw [← hcp] at hge hle
    have HR : Hid (∀ ty, (Builtin.append_ #[24, 3] ty #[.slice none 0 0, .int .i64 n]).run Try.prog w = .ok (.slice (some ⟨w.heap.size, 0, none⟩) n cp) (w.drew.alloc (.cells cells 33))) := hr
    have HSZ := Lib.hid hsz
    have HOK := Lib.hid hok
    have sl := fun W => (run_upto (P := Try.prog) Try.underlying24 size_u32 W (some ⟨w.heap.size, 0, none⟩) n cp 0 0 rfl (by omega)).trans (congrArg (fun v => Result.ok v W) (sliced_upto w.heap.size 0 cp))
    clear hcp hcells hsz hok hr
    go_enter Try.func93, Try.ntmps93
    go_wp2_with (at_builtin; refine Lib.wpList_append_run _ rfl _ _ _ _ rfl _ _ rfl rfl _ _ (HR.out _) ?_)
    go_wp2
    go_ret
    refine ⟨_, rfl, ⟨rfl, .inr ⟨w.heap.size, cp, cells, rfl, Nat.le_refl _, heap_alloc_new w.drew _, Nat.zero_le _, hle, HSZ.out, rfl, HOK.out⟩⟩, ((Below.refl _ w).drew).alloc (Nat.le_refl _) _⟩

set_option maxRecDepth 100000 in
set_option maxHeartbeats 1600000 in
theorem concat3_any (xs ys zs : List Nat) (a1 a2 a3 : Option Addr) (n1 c1 n2 c2 n3 c3 D : Nat) (w : World) (h1 : Sees w a1 n1 c1 (xs.map nv32)) (h2 : Sees w a2 n2 c2 (ys.map nv32)) (h3 : Sees w a3 n3 c3 (zs.map nv32))
    (hD : w.heap[D]? = some (.cells #[.slice a1 n1 c1, .slice a2 n2 c2, .slice a3 n3 c3] 24 (0, 0))) (b1 : n1 ≤ 1048576) (b2 : n2 ≤ 1048576) (b3 : n3 ≤ 1048576) (x1 : ∀ x ∈ xs, x < 4294967296) (x2 : ∀ x ∈ ys, x < 4294967296) (x3 : ∀ x ∈ zs, x < 4294967296) :
    Calls Try.prog 82 #[.slice (some ⟨D, 0, .none⟩) 3 3] w fun e w' => ∃ v, e = .returned v ∧ Row isU32 w' w.heap.size 33 v (n1 + n2 + n3) ((xs ++ (ys ++ zs)).map nv32) ∧ Below w.heap.size w w' := by
  obtain ⟨i0, hi, hz0, hz1, hz2⟩ := info_parts info_u32
  have q0 := cell_of_block hD 0
  have q1 := cell_of_block hD 1
  have q2 := cell_of_block hD 2
  have ok (l : List Nat) (h : ∀ x ∈ l, x < 4294967296) : ∀ u ∈ l.map nv32, isU32 u := by
    intro u hu
    obtain ⟨x, hx, rfl⟩ := List.mem_map.1 hu
    exact ⟨x, h x hx, rfl⟩
  have X1 := Lib.hid (ok xs x1)
  have X2 := Lib.hid (ok ys x2)
  have X3 := Lib.hid (ok zs x3)
  have H1 := Lib.hid h1
  have H2 := Lib.hid h2
  have H3 := Lib.hid h3
  have HD := Lib.hid hD
  clear h1 h2 h3 hD ok x1 x2 x3
  have W0 : IntKind.i64.wrap (0 + (n1 : Int)) = (n1 : Int) := by rw [Int.zero_add]; exact IntWalk.i64_in _ (by omega)
  have W1 : IntKind.i64.wrap ((n1 : Int) + (n2 : Int)) = (n1 : Int) + (n2 : Int) := IntWalk.i64_in _ (by omega)
  have W2 : IntKind.i64.wrap ((n1 : Int) + (n2 : Int) + (n3 : Int)) = (n1 : Int) + (n2 : Int) + (n3 : Int) := IntWalk.i64_in _ (by omega)
  have e0 : decide ((n1 : Int) < 0) = false := by simp
  have e1 : decide ((n1 : Int) + (n2 : Int) < 0) = false := by simp; omega
  have e2 : decide ((n1 : Int) + (n2 : Int) + (n3 : Int) < 0) = false := by simp; omega
  go_enter Try.func82, Try.ntmps82
  go_wp2
  refine wp_loop_rounds 4 ?_
  rw [rounds_succ]
  go_wp2
  rw [rounds_succ]
  go_wp2
  rw [rounds_succ]
  go_wp2
  rw [rounds_succ]
  go_wp2_with fail
  rw [show (n1 : Int) + (n2 : Int) + (n3 : Int) = ((n1 + n2 + n3 : Nat) : Int) by omega]
  refine (grow_nil (n1 + n2 + n3) w (by omega)).mono ?_
  rintro e V0 ⟨v0, rfl, hr0, hb0⟩
  clear W0 W1 W2 e0 e1 e2 q0 q1 q2
  have R0 : Hid (Row isU32 V0 w.heap.size 33 v0 0 ([] : List Value)) := hr0
  have B0 := Lib.hid hb0
  obtain ⟨va0, vc0, rfl⟩ := hr0.form
  have q0 := cell_of_block (heap_below HD.out hb0) 0
  clear hr0 hb0
  go_wp2
  refine wp_loop_rounds 4 ?_
  rw [rounds_succ]
  go_wp2_with (at_builtin; refine wpList_append_row isU32 _ rfl _ _ 24 rfl w.heap.size 33 i0 (.int .u32 0) 4 Try.underlying24 hi hz0 hz1 hz2 rfl zero_isU32 _ _ _ rfl R0.out a1 n1 c1 (xs.map nv32) rfl (H1.out.below B0.out) (nv32_one _) X1.out ?c1 ?c2 ?c3 ?_)
  case c1 => unfold maxLen; omega
  case c2 => omega
  case c3 => exact B0.out.size
  intro v1 V1 hr1 hg1 _
  have hb1 : Below w.heap.size w V1 := B0.out.grown hg1 B0.out.size (fun k hk => (R0.out.own.lt k hk).1)
  have B1 := Lib.hid hb1
  obtain ⟨va1, vc1, rfl⟩ := hr1.form
  have R1 := Lib.hid hr1
  clear hg1 q0
  have q1 := cell_of_block (heap_below HD.out hb1) 1
  clear hr1 hb1
  go_wp2
  rw [rounds_succ]
  go_wp2_with (at_builtin; refine wpList_append_row isU32 _ rfl _ _ 24 rfl w.heap.size 33 i0 (.int .u32 0) 4 Try.underlying24 hi hz0 hz1 hz2 rfl zero_isU32 _ _ _ rfl R1.out a2 n2 c2 (ys.map nv32) rfl (H2.out.below B1.out) (nv32_one _) X2.out ?c1 ?c2 ?c3 ?_)
  case c1 => unfold maxLen; omega
  case c2 => omega
  case c3 => exact B1.out.size
  intro v2 V2 hr2 hg2 _
  have hb2 : Below w.heap.size w V2 := B1.out.grown hg2 B1.out.size (fun k hk => (R1.out.own.lt k hk).1)
  have B2 := Lib.hid hb2
  obtain ⟨va2, vc2, rfl⟩ := hr2.form
  have R2 := Lib.hid hr2
  clear hg2 q1
  have q2 := cell_of_block (heap_below HD.out hb2) 2
  clear hr2 hb2
  go_wp2
  rw [rounds_succ]
  go_wp2_with (at_builtin; refine wpList_append_row isU32 _ rfl _ _ 24 rfl w.heap.size 33 i0 (.int .u32 0) 4 Try.underlying24 hi hz0 hz1 hz2 rfl zero_isU32 _ _ _ rfl R2.out a3 n3 c3 (zs.map nv32) rfl (H3.out.below B2.out) (nv32_one _) X3.out ?c1 ?c2 ?c3 ?_)
  case c1 => unfold maxLen; omega
  case c2 => omega
  case c3 => exact B2.out.size
  intro v3 V3 hr3 hg3 _
  have hb3 : Below w.heap.size w V3 := B2.out.grown hg3 B2.out.size (fun k hk => (R2.out.own.lt k hk).1)
  have B3 := Lib.hid hb3
  obtain ⟨va3, vc3, rfl⟩ := hr3.form
  have R3 := Lib.hid hr3
  clear hg3 q2
  clear hr3 hb3
  go_wp2
  rw [rounds_succ]
  go_wp2
  go_ret
  refine ⟨_, rfl, ?_, B3.out⟩
  have h := R3.out
  rw [List.map_append, List.map_append]
  exact h
end Go.Proofs.Ytkbdebdhebphpaa
