/- inquestref03.Vars, by its contract. -/
import Derived.Test.YtcoehbkjccfhlaaNBase
import Derived.Test.YtcoehbkjccfhlaaNSpec
import Derived.Test.YtcoehbkjccfhlaaNVal
import Derived.Test.YtcoehbkjccfhlaaNTrace
import Derived.Test.YtcoehbkjccfhlaaNCirc
import Derived.Test.YtcoehbkjccfhlaaNWide
import Derived.Test.YtcoehbkjccfhlaaNRefMay3
import Derived.Test.YtcoehbkjccfhlaaRows
import Derived.BigQuiet
import Derived.Deep.AppendLies
import Derived.Deep.CutRange
import Derived.Deep.QuietTactic
import Derived.Deep.RegionHeld3
import Derived.Deep.RegionLaw
import Derived.Deep.RegionWith
import Derived.KernelRfl
import Derived.Laws.EntriesVeiled
import Derived.Laws.Tables
import Derived.Lib.ConvBytes
import Derived.Lib.Hide
import Derived.Lib.SlBytesRow
import Derived.Lib.SmallJoins
import Derived.Maps.AppendAt
import Derived.Shelf.Bytes.SlSmallAll
import Derived.WalkKit
import Derived.WalkLawsBesides
import Derived.WalkSpells
namespace Go.Proofs.Ytcoehbkjccfhlaa
open Go Go.RowKit Go.Joins
def varsC (c : NormC) : Nat := if mayC c then varsN c else 0
theorem varsC_yes {c : NormC} (h : mayC c = true) {i n1 n2 : Nat} (h0 : (i : Int) = c.ins) (h1 : c.lats.length = n1) (h2 : c.gates.length = n2) : varsC c = i + n1 + n2 ∧ i + n1 + n2 ≤ 16384 := by
  have hf := (mayC_iff.1 h).few
  unfold varsC
  rw [if_pos h]
  unfold varsN at hf ⊢
  rw [← h0, h1, h2] at hf ⊢
  simp only [Int.toNat_natCast] at hf ⊢
  exact ⟨trivial, hf⟩
set_option maxRecDepth 100000 in
set_option maxHeartbeats 1600000 in
theorem refvars_any (c : NormC) (s : CSlots) (w : World) (h : SeesCir w s c) (hs : s.small) (hlo : -9223372036854775808 ≤ c.ins) (hhi : c.ins < 9223372036854775808) (hw : Wide c) :
    Calls Try.prog 33 #[cirV c.ins s] w fun e w' => e = .returned (.int .i64 ((varsC c : Nat) : Int)) ∧ Below w.heap.size w w' := by
  have HMAY := Lib.hid (fun W (hb : Below w.heap.size w W) => refmay3_any c s W (h.below hb) hs hlo hhi hw)
  have YES := Lib.hid (fun (hm : mayC c = true) (i : Nat) (h0 : (i : Int) = c.ins) => varsC_yes hm h0 h.s1.1 h.s2.1)
  have POS := Lib.hid (fun (hm : mayC c = true) => (mayC_iff.1 hm).pos)
  have NO : Hid (mayC c = false → varsC c = 0) := fun h => by unfold varsC; rw [h]; rfl
  obtain ⟨a1, n1, c1, a2, n2, c2, a3, n3, c3, a4, n4, c4, a5, n5, c5⟩ := s
  obtain ⟨z, hz⟩ : ∃ z, z = c.ins := ⟨_, rfl⟩
  obtain ⟨v, hv⟩ : ∃ v, v = varsC c := ⟨_, rfl⟩
  obtain ⟨q, hq⟩ : ∃ q, q = mayC c := ⟨_, rfl⟩
  rw [← hz, ← hv]
  rw [← hz, ← hq] at HMAY
  rw [← hz, ← hv, ← hq] at YES
  rw [← hz, ← hq] at POS
  rw [← hq, ← hv] at NO
  clear hz hv hq h hs hlo hhi
  unfold cirV at *
  go_enter Try.func33, Try.ntmps33
  go_upto_region 1 with fail
  generalize hW : World.alloc _ _ = W1
  have B1 : Below w.heap.size w W1 := by subst hW; exact ext_alloc _ _
  have hX : W1.heap[w.heap.size]? = some (.cells #[.int .i64 z, .slice a1 n1 c1, .slice a2 n2 c2, .slice a3 n3 c3, .slice a4 n4 c4, .slice a5 n5 c5] 26 (0, 0)) := by subst hW; exact heap_new _ _ _ rfl
  have HX := Lib.hid hX
  have HB := Lib.hid B1
  clear hW B1 hX
  have p0 := cell_of_block HX.out 0
  have p1 := cell_of_block HX.out 1
  have p2 := cell_of_block HX.out 2
  have p3 := cell_of_block HX.out 3
  have p4 := cell_of_block HX.out 4
  have p5 := cell_of_block HX.out 5
  go_wp2_with fail
  refine (HMAY.out W1 HB.out).mono ?_
  rintro e W2 ⟨rfl, hb⟩
  have HX2 := Lib.hid (heap_below HX.out hb)
  have HB2 := Lib.hid (ext_trans HB.out hb)
  clear hb p0 p1 p2 p3 p4 p5
  cases q with
  | false =>
    have N := Lib.hid (NO.out rfl)
    go_wp2
    go_ret
    exact ⟨by rw [N.out]; rfl, HB2.out⟩
  | true =>
    obtain ⟨i, hi⟩ := Int.eq_ofNat_of_zero_le (POS.out rfl)
    have hy := YES.out rfl i hi.symm
    have hi16 : i + n1 + n2 ≤ 16384 := hy.2
    have HY := Lib.hid hy.1
    clear hy
    subst hi
    have U1 : IntKind.i64.wrap ((i : Int) + (n1 : Int)) = (i : Int) + (n1 : Int) := IntWalk.i64_in _ (by omega)
    have U2 : IntKind.i64.wrap ((i : Int) + (n1 : Int) + (n2 : Int)) = (i : Int) + (n1 : Int) + (n2 : Int) := IntWalk.i64_in _ (by omega)
    have p0 := cell_of_block HX2.out 0
    have p1 := cell_of_block HX2.out 1
    have p2 := cell_of_block HX2.out 2
    go_wp2
    go_ret
    exact ⟨by rw [HY.out]; simp, HB2.out⟩
end Go.Proofs.Ytcoehbkjccfhlaa
