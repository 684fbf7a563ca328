/- slices.Grow of nothing, slices.Concat of two lists of slices, by their contracts. -/
import Derived.Test.YtgpkghlhlabjcaaLib
import Derived.Test.YtgpkghlhlabjcaaOwn
import Derived.Test.YtgpkghlhlabjcaaNBase
import Derived.Test.YtgpkghlhlabjcaaNTrace
import Derived.Test.YtgpkghlhlabjcaaNHeap
import Derived.Test.YtgpkghlhlabjcaaNHeap2
import Derived.Test.YtgpkghlhlabjcaaNCopyTr
import Derived.Test.YtgpkghlhlabjcaaRows
import Derived.BigQuiet
import Derived.Deep.AppendLies
import Derived.Deep.QuietTactic
import Derived.Deep.RegionHeld3
import Derived.Deep.RegionLaw
import Derived.Deep.RegionWith
import Derived.KernelRfl
import Derived.Laws.EntriesVeiled
import Derived.Laws.Tables
import Derived.Lib.AppendStr
import Derived.Lib.AppendZeros
import Derived.Lib.ConvBytes
import Derived.Lib.Hide
import Derived.Lib.SlBytesRow
import Derived.Lib.SmallJoins
import Derived.Maps.AppendAt
import Derived.Shelf.Bytes.SlSmallAll
import Derived.WalkKit
import Derived.WalkLawsBesides
import Derived.WalkSpells
namespace Go.Proofs.Ytgpkghlhlabjcaa
open Go Go.RowKit Go.Joins

/-- A slice. -/
def isSl (u : Value) : Prop := ∃ s : Slc, u = slV s
theorem zero_isSl : isSl (.slice none 0 0) := ⟨slc0, rfl⟩
theorem isSl_all (l : List Slc) : ∀ u ∈ l.map slV, isSl u := by
  intro u hu
  obtain ⟨x, _, rfl⟩ := List.mem_map.1 hu
  exact ⟨x, rfl⟩
theorem slV_one (l : List Slc) : ∀ u ∈ l.map slV, u.oneCell' = true := by
  intro u hu
  obtain ⟨x, _, rfl⟩ := List.mem_map.1 hu
  rfl
theorem size_u8s : ∀ w, (sizeOf 27).run Try.prog w = .ok 1 w := fun w => by
  obtain ⟨i0, hi, hz0, hz1, hz2⟩ := info_parts info_u8s
  simp [sizeOf, typeInfo, hi, hz1]
set_option maxRecDepth 100000 in
theorem grow_sl (n : Nat) (w : World) (hn : n ≤ 1000000000) :
    Calls Try.prog 58 #[.slice none 0 0, .int .i64 n] w fun e w' => ∃ v, e = .returned v ∧ Row isSl w' w.heap.size 27 v 0 [] ∧ Below w.heap.size w w' := by
  obtain ⟨i0, hi, hz0, hz1, hz2⟩ := info_parts info_u8s
  have e1 : decide ((n : Int) < 0) = false := by simp
  have W1 : IntKind.i64.wrap ((n : Int) - 0) = (n : Int) := by rw [Int.sub_zero]; exact IntWalk.i64_in _ (by omega)
  by_cases h0 : n = 0
  · subst h0
    go_enter Try.func58, Try.ntmps58
    go_wp2
    go_ret
    exact ⟨_, rfl, Row.nil _ _ _ _, Below.refl _ _⟩
  · have e2 : decide ((0 : Int) < (n : Int)) = true := by simp; omega
    have hr := fun ty => Lib.run_append_nil_zeros (P := Try.prog) w 28 3 ty 27 i0 (.slice none 0 0) .i64 .i64 Try.underlying28 Try.underlying3 hi hz0 n (by omega) (by omega) (by omega) (by rw [hz2]; omega)
    have hge := grownCap_ge w n 0 27
    have hle := grownCap_le_maxLen w n 0 27 (by unfold maxLen; omega)
    obtain ⟨cp, hcp⟩ : ∃ cp, cp = grownCap w n 0 27 := ⟨_, rfl⟩
    obtain ⟨cells, hcells⟩ : ∃ cells, cells = Builtin.zeroCells (Value.slice none 0 0).cells n ++ Builtin.zeroCells (Value.slice none 0 0).cells (grownCap w n 0 27 - n) := ⟨_, rfl⟩
    have hsz : cells.size = cp := by
      rw [hcells, Array.size_append, size_zeroCells, size_zeroCells, hcp]
      simp [Value.cells]
      omega
    have hok : ∀ u ∈ cells.toList, isSl u := by
      intro u hu
      rw [hcells, Array.toList_append, List.mem_append] at hu
      rcases hu with hu | hu
      · rw [mem_zeroCells rfl hu]; exact zero_isSl
      · rw [mem_zeroCells rfl hu]; exact zero_isSl
    rw [← hcells, ← hcp] at hr
    rw [← hcp] at hge hle
    have HR : Hid (∀ ty, (Builtin.append_ #[28, 3] ty #[.slice none 0 0, .int .i64 n]).run Try.prog w = .ok (.slice (some ⟨w.heap.size, 0, none⟩) n cp) (w.drew.alloc (.cells cells 27))) := hr
    have HSZ := Lib.hid hsz
    have HOK := Lib.hid hok
    have sl := fun W => (run_upto (P := Try.prog) Try.underlying28 size_u8s W (some ⟨w.heap.size, 0, none⟩) n cp 0 0 rfl (by omega)).trans (congrArg (fun v => Result.ok v W) (sliced_upto w.heap.size 0 cp))
    clear hcp hcells hsz hok hr
    go_enter Try.func58, Try.ntmps58
    go_wp2_with (at_builtin; refine Lib.wpList_append_run _ rfl _ _ _ _ rfl _ _ rfl rfl _ _ (HR.out _) ?_)
    go_wp2
    go_ret
    refine ⟨_, rfl, ⟨rfl, .inr ⟨w.heap.size, cp, cells, rfl, Nat.le_refl _, heap_alloc_new w.drew _, Nat.zero_le _, hle, HSZ.out, rfl, HOK.out⟩⟩, ((Below.refl _ w).drew).alloc (Nat.le_refl _) _⟩

set_option maxRecDepth 100000 in
set_option maxHeartbeats 1600000 in
theorem concat2_any (xs ys : List Slc) (a1 a2 : Option Addr) (n1 c1 n2 c2 D : Nat) (w : World) (h1 : Sees w a1 n1 c1 (xs.map slV)) (h2 : Sees w a2 n2 c2 (ys.map slV))
    (hD : w.heap[D]? = some (.cells #[.slice a1 n1 c1, .slice a2 n2 c2] 28 (0, 0))) (b1 : n1 ≤ 1048576) (b2 : n2 ≤ 1048576) :
    Calls Try.prog 43 #[.slice (some ⟨D, 0, .none⟩) 2 2] w fun e w' => ∃ v, e = .returned v ∧ Row isSl w' w.heap.size 27 v (n1 + n2) ((xs ++ ys).map slV) ∧ Below w.heap.size w w' := by
  obtain ⟨i0, hi, hz0, hz1, hz2⟩ := info_parts info_u8s
  have q0 := cell_of_block hD 0
  have q1 := cell_of_block hD 1
  have X1 := Lib.hid (isSl_all xs)
  have X2 := Lib.hid (isSl_all ys)
  have H1 := Lib.hid h1
  have H2 := Lib.hid h2
  have HD := Lib.hid hD
  clear h1 h2 hD
  have W0 : IntKind.i64.wrap (0 + (n1 : Int)) = (n1 : Int) := by rw [Int.zero_add]; exact IntWalk.i64_in _ (by omega)
  have W1 : IntKind.i64.wrap ((n1 : Int) + (n2 : Int)) = (n1 : Int) + (n2 : Int) := IntWalk.i64_in _ (by omega)
  have e0 : decide ((n1 : Int) < 0) = false := by simp
  have e1 : decide ((n1 : Int) + (n2 : Int) < 0) = false := by simp; omega
  go_enter Try.func43, Try.ntmps43
  go_wp2
  refine wp_loop_rounds 3 ?_
  rw [rounds_succ]
  go_wp2
  rw [rounds_succ]
  go_wp2
  rw [rounds_succ]
  go_wp2_with fail
  rw [show (n1 : Int) + (n2 : Int) = ((n1 + n2 : Nat) : Int) by omega]
  refine (grow_sl (n1 + n2) w (by omega)).mono ?_
  rintro e V0 ⟨v0, rfl, hr0, hb0⟩
  clear W0 W1 e0 e1 q0 q1
  have R0 : Hid (Row isSl V0 w.heap.size 27 v0 0 ([] : List Value)) := hr0
  have B0 := Lib.hid hb0
  obtain ⟨va0, vc0, rfl⟩ := hr0.form
  have q0 := cell_of_block (heap_below HD.out hb0) 0
  clear hr0 hb0
  go_wp2
  refine wp_loop_rounds 3 ?_
  rw [rounds_succ]
  go_wp2_with (at_builtin; refine wpList_append_row isSl _ rfl _ _ 28 rfl w.heap.size 27 i0 (.slice none 0 0) 24 Try.underlying28 hi hz0 hz1 hz2 rfl zero_isSl _ _ _ rfl R0.out a1 n1 c1 (xs.map slV) rfl (H1.out.below B0.out) (slV_one _) X1.out ?c1 ?c2 ?c3 ?_)
  case c1 => unfold maxLen; omega
  case c2 => omega
  case c3 => exact B0.out.size
  intro v1 V1 hr1 hg1 _
  have hb1 : Below w.heap.size w V1 := B0.out.grown hg1 B0.out.size (fun k hk => (R0.out.own.lt k hk).1)
  have B1 := Lib.hid hb1
  obtain ⟨va1, vc1, rfl⟩ := hr1.form
  have R1 := Lib.hid hr1
  clear hg1 q0
  have q1 := cell_of_block (heap_below HD.out hb1) 1
  clear hr1 hb1
  go_wp2
  rw [rounds_succ]
  go_wp2_with (at_builtin; refine wpList_append_row isSl _ rfl _ _ 28 rfl w.heap.size 27 i0 (.slice none 0 0) 24 Try.underlying28 hi hz0 hz1 hz2 rfl zero_isSl _ _ _ rfl R1.out a2 n2 c2 (ys.map slV) rfl (H2.out.below B1.out) (slV_one _) X2.out ?c1 ?c2 ?c3 ?_)
  case c1 => unfold maxLen; omega
  case c2 => omega
  case c3 => exact B1.out.size
  intro v2 V2 hr2 hg2 _
  have hb2 : Below w.heap.size w V2 := B1.out.grown hg2 B1.out.size (fun k hk => (R1.out.own.lt k hk).1)
  have B2 := Lib.hid hb2
  obtain ⟨va2, vc2, rfl⟩ := hr2.form
  have R2 := Lib.hid hr2
  clear hg2 q1
  clear hr2 hb2
  go_wp2
  rw [rounds_succ]
  go_wp2
  go_ret
  refine ⟨_, rfl, ?_, B2.out⟩
  have h := R2.out
  rw [List.map_append]
  exact h
end Go.Proofs.Ytgpkghlhlabjcaa
