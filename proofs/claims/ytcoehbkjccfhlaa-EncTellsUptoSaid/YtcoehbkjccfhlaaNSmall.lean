/- The small functions of package norm on circuits, by their contracts. -/
import Derived.Test.YtcoehbkjccfhlaaGEncT01
import Derived.Test.YtcoehbkjccfhlaaGEncT03
import Derived.Test.YtcoehbkjccfhlaaGEncT02
import Derived.Test.YtcoehbkjccfhlaaRows
import Derived.BigQuiet
import Derived.Deep.AppendLies
import Derived.Deep.QuietTactic
import Derived.Deep.RegionLaw
import Derived.Deep.RegionWith
import Derived.KernelRfl
import Derived.Laws.EntriesVeiled
import Derived.Lib.ConvBytes
import Derived.Lib.Hide
import Derived.Lib.SlBytesRow
import Derived.Lib.SmallJoins
import Derived.Shelf.Bytes.SlSmallAll
import Derived.WalkKit
import Derived.WalkLawsBesides
import Derived.WalkSpells
namespace Go.Proofs.Ytcoehbkjccfhlaa
open Go Go.RowKit Go.Joins

set_option maxRecDepth 100000 in
theorem count_any (i : Nat) (s : CSlots) (hi : i ≤ 1048576) (hs : s.small) (w : World) : Calls Try.prog 72 #[cirV i s] w fun e w' => e = .returned (.int .i64 ((i + s.n1 + s.n2 : Nat) : Int)) ∧ Below w.heap.size w w' := by
  obtain ⟨a1, n1, c1, a2, n2, c2, a3, n3, c3, a4, n4, c4, a5, n5, c5⟩ := s
  obtain ⟨h1, h2, h3, h4, h5⟩ := hs
  simp only at h1 h2 h3 h4 h5 ⊢
  have W1 : IntKind.i64.wrap ((i : Int) + n1) = (i : Int) + n1 := IntWalk.i64_in _ (by omega)
  have W2 : IntKind.i64.wrap ((i : Int) + n1 + n2) = (i : Int) + n1 + n2 := IntWalk.i64_in _ (by omega)
  unfold cirV
  go_enter Try.func72, Try.ntmps72
  go_wp2
  go_ret
  exact ⟨by simp, ext_alloc _ _⟩

set_option maxRecDepth 100000 in
theorem firstLatch_any (i : Nat) (s : CSlots) (hi : i ≤ 1048576) (w : World) : Calls Try.prog 87 #[cirV i s] w fun e w' => e = .returned (.int .i64 ((1 + i : Nat) : Int)) ∧ Below w.heap.size w w' := by
  obtain ⟨a1, n1, c1, a2, n2, c2, a3, n3, c3, a4, n4, c4, a5, n5, c5⟩ := s
  have W1 : IntKind.i64.wrap ((1 : Int) + i) = (1 : Int) + i := IntWalk.i64_in _ (by omega)
  unfold cirV
  go_enter Try.func87, Try.ntmps87
  go_wp2
  go_ret
  exact ⟨by simp, ext_alloc _ _⟩

set_option maxRecDepth 100000 in
theorem firstGate_any (i : Nat) (s : CSlots) (hi : i ≤ 1048576) (hs : s.small) (w : World) : Calls Try.prog 85 #[cirV i s] w fun e w' => e = .returned (.int .i64 ((1 + i + s.n1 : Nat) : Int)) ∧ Below w.heap.size w w' := by
  have HF := Lib.hid (fun W => firstLatch_any i s hi W)
  obtain ⟨a1, n1, c1, a2, n2, c2, a3, n3, c3, a4, n4, c4, a5, n5, c5⟩ := s
  obtain ⟨h1, h2, h3, h4, h5⟩ := hs
  simp only at h1 h2 h3 h4 h5 ⊢
  have W2 : IntKind.i64.wrap ((1 : Int) + i + n1) = (1 : Int) + i + n1 := IntWalk.i64_in _ (by omega)
  unfold cirV at *
  go_enter Try.func85, Try.ntmps85
  go_wp2_with fail
  generalize hW : World.alloc w _ = W0
  have B1 : Below w.heap.size w W0 := by subst hW; exact ext_alloc _ _
  have hX : W0.heap[w.heap.size]? = some (.cells #[.int .i64 i, .slice a1 n1 c1, .slice a2 n2 c2, .slice a3 n3 c3, .slice a4 n4 c4, .slice a5 n5 c5] 26 (0, 0)) := by
    subst hW; exact heap_new _ _ _ rfl
  clear hW
  have p0 := cell_of_block hX 0
  have p1 := cell_of_block hX 1
  have p2 := cell_of_block hX 2
  have p3 := cell_of_block hX 3
  have p4 := cell_of_block hX 4
  have p5 := cell_of_block hX 5
  have HC : Hid (∀ W, Below W0.heap.size W0 W → Calls Try.prog 87 #[cirV i ⟨a1, n1, c1, a2, n2, c2, a3, n3, c3, a4, n4, c4, a5, n5, c5⟩] W (fun e w' => e = .returned (.int .i64 ((1 + i : Nat) : Int)) ∧ Below W0.heap.size W0 w' ∧ w'.cell? ⟨w.heap.size, 1, .none⟩ = some (.slice a1 n1 c1))) := fun W hb => by
    refine (HF.out W).mono ?_
    rintro e w' ⟨he, h'⟩
    have hb' := ext_trans hb h'
    exact ⟨he, hb', cell_below (show W0.cell? ⟨w.heap.size, 1, .none⟩ = some (.slice a1 n1 c1) from p1) hb'⟩
  unfold cirV at HC
  clear HF
  have HB1 := Lib.hid B1
  clear B1 hX
  go_wp2_with fail
  go_region_with (go_at_call 87; refine (HC.out _ (by first | exact Below.refl _ _ | exact (Below.refl _ _).drew)).mono ?_; rintro e w1 ⟨rfl, hb, hc⟩)
  all_goals go_wp2
  all_goals go_ret
  all_goals exact ⟨by first | (simp; done) | (simp; rfl), by first | exact ext_trans HB1.out hb | exact (ext_trans HB1.out hb).drew⟩
end Go.Proofs.Ytcoehbkjccfhlaa
