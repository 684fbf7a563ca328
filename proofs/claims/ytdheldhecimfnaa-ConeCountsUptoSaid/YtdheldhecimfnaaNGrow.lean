/- slices.Grow of nothing, by its contract. -/
import Derived.Test.YtdheldhecimfnaaLib
import Derived.Test.YtdheldhecimfnaaOwn
import Derived.Test.YtdheldhecimfnaaNBase
import Derived.Test.YtdheldhecimfnaaNHeap
import Derived.Test.YtdheldhecimfnaaNHeap2
import Derived.Test.YtdheldhecimfnaaRows
import Derived.BigQuiet
import Derived.Deep.AppendLies
import Derived.Deep.QuietTactic
import Derived.Deep.RegionLaw
import Derived.Deep.RegionWith
import Derived.KernelRfl
import Derived.Laws.EntriesVeiled
import Derived.Lib.AppendZeros
import Derived.Lib.ConvBytes
import Derived.Lib.Hide
import Derived.Lib.SlBytesRow
import Derived.Lib.SmallJoins
import Derived.Shelf.Bytes.SlSmallAll
import Derived.WalkKit
import Derived.WalkLawsBesides
import Derived.WalkSpells
namespace Go.Proofs.Ytdheldhecimfnaa
open Go Go.RowKit Go.Joins
theorem zero_isU32 : isU32 (.int .u32 0) := ⟨0, by omega, rfl⟩
set_option maxRecDepth 100000 in
theorem grow_nil (n : Nat) (w : World) (hn : n ≤ 1000000000) :
    Calls Try.prog 60 #[.slice none 0 0, .int .i64 n] w fun e w' => ∃ v, e = .returned v ∧ Row isU32 w' w.heap.size 53 v 0 [] ∧ Below w.heap.size w w' := by
  obtain ⟨i0, hi, hz0, hz1, hz2⟩ := info_parts info_u32
  have e1 : decide ((n : Int) < 0) = false := by simp
  have W1 : IntKind.i64.wrap ((n : Int) - 0) = (n : Int) := by rw [Int.sub_zero]; exact IntWalk.i64_in _ (by omega)
  by_cases h0 : n = 0
  · subst h0
    go_enter Try.func60, Try.ntmps60
    go_wp2
    go_ret
    exact ⟨_, rfl, Row.nil _ _ _ _, Below.refl _ _⟩
  · have e2 : decide ((0 : Int) < (n : Int)) = true := by simp; omega
    have hr := fun ty => Lib.run_append_nil_zeros (P := Try.prog) w 24 3 ty 53 i0 (.int .u32 0) .i64 .i64 Try.underlying24 Try.underlying3 hi hz0 n (by omega) (by omega) (by omega) (by rw [hz2]; omega)
    have hge := grownCap_ge w n 0 53
    have hle := grownCap_le_maxLen w n 0 53 (by unfold maxLen; omega)
    obtain ⟨cp, hcp⟩ : ∃ cp, cp = grownCap w n 0 53 := ⟨_, rfl⟩
    obtain ⟨cells, hcells⟩ : ∃ cells, cells = Builtin.zeroCells (Value.int .u32 0).cells n ++ Builtin.zeroCells (Value.int .u32 0).cells (grownCap w n 0 53 - n) := ⟨_, rfl⟩
    have hsz : cells.size = cp := by
      rw [hcells, Array.size_append, size_zeroCells, size_zeroCells, hcp]
      simp [Value.cells]
      omega
    have hok : ∀ u ∈ cells.toList, isU32 u := by
      intro u hu
      rw [hcells, Array.toList_append, List.mem_append] at hu
      rcases hu with hu | hu
      · rw [mem_zeroCells rfl hu]; exact zero_isU32
      · rw [mem_zeroCells rfl hu]; exact zero_isU32
    rw [← hcells, ← hcp] at hr
    rw [← hcp] at hge hle
    have HR : Hid (∀ ty, (Builtin.append_ #[24, 3] ty #[.slice none 0 0, .int .i64 n]).run Try.prog w = .ok (.slice (some ⟨w.heap.size, 0, none⟩) n cp) (w.drew.alloc (.cells cells 53))) := hr
    have HSZ := Lib.hid hsz
    have HOK := Lib.hid hok
    have sl := fun W => (run_upto (P := Try.prog) Try.underlying24 size_u32 W (some ⟨w.heap.size, 0, none⟩) n cp 0 0 rfl (by omega)).trans (congrArg (fun v => Result.ok v W) (sliced_upto w.heap.size 0 cp))
    clear hcp hcells hsz hok hr
    go_enter Try.func60, Try.ntmps60
    go_wp2_with (at_builtin; refine Lib.wpList_append_run _ rfl _ _ _ _ rfl _ _ rfl rfl _ _ (HR.out _) ?_)
    go_wp2
    go_ret
    refine ⟨_, rfl, ⟨rfl, .inr ⟨w.heap.size, cp, cells, rfl, Nat.le_refl _, heap_alloc_new w.drew _, Nat.zero_le _, hle, HSZ.out, rfl, HOK.out⟩⟩, ((Below.refl _ w).drew).alloc (Nat.le_refl _) _⟩
end Go.Proofs.Ytdheldhecimfnaa
