/- The small functions of package enc, by their contracts. -/
import Derived.Test.YtcoehbkjccfhlaaGEncT01
import Derived.Test.YtcoehbkjccfhlaaGEncT03
import Derived.Test.YtcoehbkjccfhlaaGEncT02
import Derived.Test.YtcoehbkjccfhlaaGEncT09
import Derived.Test.YtcoehbkjccfhlaaGEncT07
import Derived.Test.YtcoehbkjccfhlaaRows
import Derived.BigQuiet
import Derived.Deep.AppendLies
import Derived.Deep.CutRange
import Derived.Deep.QuietTactic
import Derived.Deep.RegionHeld3
import Derived.Deep.RegionLaw
import Derived.Deep.RegionWith
import Derived.KernelRfl
import Derived.Laws.EntriesVeiled
import Derived.Laws.Tables
import Derived.Lib.ConvBytes
import Derived.Lib.Hide
import Derived.Lib.SlBytesRow
import Derived.Lib.SmallJoins
import Derived.Maps.AppendAt
import Derived.Shelf.Bytes.SlSmallAll
import Derived.WalkKit
import Derived.WalkLawsBesides
import Derived.WalkSpells
namespace Go.Proofs.Ytcoehbkjccfhlaa
open Go Go.RowKit Go.Joins

set_option maxRecDepth 100000 in
set_option maxHeartbeats 1600000 in
theorem spot_any (ins : Int) (s : CSlots) (V nf v f : Nat) (hV : V ≤ 16384) (hv : v ≤ 1048576) (hf : f ≤ 256) (w : World) :
    Calls Try.prog 47 #[uV ins s V nf, .int .i64 (v : Int), .int .i64 (f : Int)] w fun e w' => e = .returned (.int .i64 ((spotE V v f : Nat) : Int)) ∧ Below w.heap.size w w' := by
  obtain ⟨m, hm⟩ : ∃ m, m = f * V := ⟨_, rfl⟩
  have hm2 : m ≤ 4194304 := by rw [hm]; exact Nat.mul_le_mul hf hV
  have e0 : spotE V v f = 1 + m + v := by rw [hm]; rfl
  rw [e0]
  have W1 : IntKind.i64.wrap ((f : Int) * (V : Int)) = (m : Int) := by rw [show (f : Int) * (V : Int) = (m : Int) by rw [hm]; simp]; exact IntWalk.i64_in _ (by omega)
  have W2 : IntKind.i64.wrap ((1 : Int) + (m : Int)) = 1 + (m : Int) := IntWalk.i64_in _ (by omega)
  have W3 : IntKind.i64.wrap ((1 : Int) + (m : Int) + (v : Int)) = 1 + (m : Int) + (v : Int) := IntWalk.i64_in _ (by omega)
  clear hm e0 hm2 hV hv hf
  unfold uV
  go_enter Try.func47, Try.ntmps47
  go_wp2
  go_ret
  exact ⟨by simp, ext_alloc _ _⟩

set_option maxRecDepth 100000 in
set_option maxHeartbeats 1600000 in
theorem last_any (ins : Int) (s : CSlots) (V nf : Nat) (hV : V ≤ 16384) (hf : nf ≤ 256) (w : World) :
    Calls Try.prog 31 #[uV ins s V nf] w fun e w' => e = .returned (.int .i64 ((1 + nf * V : Nat) : Int)) ∧ Below w.heap.size w w' := by
  obtain ⟨m, hm⟩ : ∃ m, m = nf * V := ⟨_, rfl⟩
  have hm2 : m ≤ 4194304 := by rw [hm]; exact Nat.mul_le_mul hf hV
  rw [← hm]
  have W1 : IntKind.i64.wrap ((nf : Int) * (V : Int)) = (m : Int) := by rw [show (nf : Int) * (V : Int) = (m : Int) by rw [hm]; simp]; exact IntWalk.i64_in _ (by omega)
  have W2 : IntKind.i64.wrap ((1 : Int) + (m : Int)) = 1 + (m : Int) := IntWalk.i64_in _ (by omega)
  clear hm hm2 hV hf
  unfold uV
  go_enter Try.func31, Try.ntmps31
  go_wp2
  go_ret
  exact ⟨by simp, ext_alloc _ _⟩

set_option maxRecDepth 100000 in
theorem ufirstLatch_any (i : Nat) (s : CSlots) (V nf : Nat) (hi : i ≤ 1048576) (w : World) :
    Calls Try.prog 48 #[uV i s V nf] w fun e w' => e = .returned (.int .i64 ((1 + i : Nat) : Int)) ∧ Below w.heap.size w w' := by
  have W1 : IntKind.i64.wrap ((1 : Int) + i) = (1 : Int) + i := IntWalk.i64_in _ (by omega)
  clear hi
  unfold uV
  go_enter Try.func48, Try.ntmps48
  go_wp2
  go_ret
  exact ⟨by simp, ext_alloc _ _⟩

set_option maxRecDepth 100000 in
set_option maxHeartbeats 1600000 in
theorem ufirstGate_any (i : Nat) (s : CSlots) (V nf : Nat) (hi : i ≤ 1048576) (hs : s.small) (w : World) :
    Calls Try.prog 78 #[uV i s V nf] w fun e w' => e = .returned (.int .i64 ((1 + i + s.n1 : Nat) : Int)) ∧ Below w.heap.size w w' := by
  have HF := Lib.hid (fun W => ufirstLatch_any i s V nf hi W)
  obtain ⟨a1, n1, c1, a2, n2, c2, a3, n3, c3, a4, n4, c4, a5, n5, c5⟩ := s
  obtain ⟨h1, h2, h3, h4, h5⟩ := hs
  simp only at h1 h2 h3 h4 h5 ⊢
  have W2 : IntKind.i64.wrap ((1 : Int) + i + n1) = (1 : Int) + i + n1 := IntWalk.i64_in _ (by omega)
  unfold uV at *
  clear hi h1 h2 h3 h4 h5
  go_enter Try.func78, Try.ntmps78
  go_wp2_with fail
  generalize hW : World.alloc w _ = W0
  have B1 : Below w.heap.size w W0 := by subst hW; exact ext_alloc _ _
  have hX : W0.heap[w.heap.size]? = some (.cells (uC i ⟨a1, n1, c1, a2, n2, c2, a3, n3, c3, a4, n4, c4, a5, n5, c5⟩ V nf) 67 (0, 0)) := by
    subst hW; exact heap_new _ _ _ rfl
  clear hW
  unfold uC at hX
  have p0 := cell_of_block hX 0
  have p1 := cell_of_block hX 1
  have p2 := cell_of_block hX 2
  have p3 := cell_of_block hX 3
  have p4 := cell_of_block hX 4
  have p5 := cell_of_block hX 5
  have p6 := cell_of_block hX 6
  have p7 := cell_of_block hX 7
  have HC : Hid (∀ W, Below W0.heap.size W0 W → Calls Try.prog 48 #[uV i ⟨a1, n1, c1, a2, n2, c2, a3, n3, c3, a4, n4, c4, a5, n5, c5⟩ V nf] W (fun e w' => e = .returned (.int .i64 ((1 + i : Nat) : Int)) ∧ Below W0.heap.size W0 w' ∧ w'.cell? ⟨w.heap.size, 1, .none⟩ = some (.slice a1 n1 c1))) := fun W hb => by
    refine (HF.out W).mono ?_
    rintro e w' ⟨he, h'⟩
    have hb' := ext_trans hb h'
    exact ⟨he, hb', cell_below (show W0.cell? ⟨w.heap.size, 1, .none⟩ = some (.slice a1 n1 c1) from p1) hb'⟩
  unfold uV at HC
  clear HF
  have HB1 := Lib.hid B1
  clear B1 hX
  go_wp2_with fail
  go_region_with (go_at_call 48; refine (HC.out _ (by first | exact Below.refl _ _ | exact (Below.refl _ _).drew)).mono ?_; rintro e w1 ⟨rfl, hb, hc⟩)
  all_goals go_wp2
  all_goals go_ret
  all_goals exact ⟨by first | (simp; done) | (simp; rfl), by first | exact ext_trans HB1.out hb | exact (ext_trans HB1.out hb).drew⟩

set_option maxRecDepth 100000 in
set_option maxHeartbeats 1600000 in
theorem ulit_any (ins : Int) (s : CSlots) (V nf x f : Nat) (hV : V ≤ 16384) (hx : x ≤ 2 * V + 1) (hf : f ≤ 256) (w : World) :
    Calls Try.prog 34 #[uV ins s V nf, .int .u32 (x : Int), .int .i64 (f : Int)] w fun e w' => e = .returned (.int .i64 (litE V x f)) ∧ Below w.heap.size w w' := by
  have HS := Lib.hid (fun W => spot_any ins s V nf (x / 2) f hV (by omega) hf W)
  have B1 := u32_and1 x (by omega)
  have S1 : IntKind.u32.wrap ((x : Int) / 2) = ((x / 2 : Nat) : Int) := by rw [IntKind.wrap_u32]; omega
  have S2 : (x : Int) / 2 = ((x / 2 : Nat) : Int) := by omega
  have W1 : IntKind.i64.wrap ((x / 2 : Nat) : Int) = ((x / 2 : Nat) : Int) := IntWalk.i64_in _ (by omega)
  have hsm := spotE_lt (V := V) (v := x / 2) hV (by omega) hf
  obtain ⟨z, hz⟩ : ∃ z, z = absE V x f := ⟨_, rfl⟩
  have hz2 : litE V x f = if x % 2 = 1 then -z else z := by rw [hz]; rfl
  rw [hz2]
  have hz3 := absE_small (V := V) (x := x) hV hx hf
  rw [← hz] at hz3
  have N1 : IntKind.i64.wrap (-z) = -z := IntWalk.i64_in _ (by omega)
  unfold absE at hz
  obtain ⟨y, hy⟩ : ∃ y, y = x / 2 := ⟨_, rfl⟩
  rw [← hy] at HS S1 S2 W1 hz
  obtain ⟨p, hp⟩ : ∃ p, p = spotE V y f := ⟨_, rfl⟩
  rw [← hp] at HS hz
  obtain ⟨r, hr⟩ : ∃ r, r = x % 2 := ⟨_, rfl⟩
  rw [← hr] at B1 ⊢
  have hr2 : r = 0 ∨ r = 1 := by omega
  clear hz2 hz3 hsm hV hx hf hp
  have HY := Lib.hid hy
  have HR := Lib.hid hr
  clear hy hr
  unfold uV at *
  by_cases y0 : y = 0
  · rw [if_pos y0] at hz
    subst hz
    subst y0
    rcases hr2 with rfl | rfl
    all_goals go_enter Try.func34, Try.ntmps34
    all_goals go_wp2
    all_goals go_ret
    all_goals exact ⟨by simp, ext_alloc _ _⟩
  · rw [if_neg y0] at hz
    subst hz
    have d1 : decide ((0 : Int) < (y : Int)) = true := by simp; omega
    have d2 : decide (0 < y) = true := by simp; omega
    clear y0
    rcases hr2 with rfl | rfl
    all_goals go_enter Try.func34, Try.ntmps34
    all_goals go_wp2_with fail
    all_goals refine (HS.out _).mono ?_
    all_goals rintro e w1 ⟨rfl, hb⟩
    all_goals have HB := Lib.hid (ext_trans (ext_alloc w _) hb)
    all_goals clear hb
    all_goals go_wp2
    all_goals go_ret
    all_goals exact ⟨by simp, HB.out⟩
end Go.Proofs.Ytcoehbkjccfhlaa
