/- inquestref11.Model, by its contract. -/
import Derived.Test.YtionibckeicncaaLib
import Derived.Test.YtionibckeicncaaOwn
import Derived.Test.YtionibckeicncaaNBase
import Derived.Test.YtionibckeicncaaNBools
import Derived.Test.YtionibckeicncaaRows
import Derived.BigQuiet
import Derived.Deep.AppendLies
import Derived.Deep.QuietTactic
import Derived.Deep.RegionLaw
import Derived.Deep.RegionWith
import Derived.KernelRfl
import Derived.Laws.EntriesVeiled
import Derived.Lib.ConvBytes
import Derived.Lib.Hide
import Derived.Lib.SlBytesRow
import Derived.Lib.SmallJoins
import Derived.Shelf.Bytes.SlSmallAll
import Derived.WalkKit
import Derived.WalkLawsBesides
import Derived.WalkSpells
namespace Go.Proofs.Ytionibckeicncaa
open Go Go.RowKit Go.Joins

def isB (u : Value) : Prop := ∃ b : Bool, u = .bool b
def bvs (M : List Bool) : List Value := M.map Value.bool
theorem isB_bvs (M : List Bool) : ∀ u ∈ bvs M, isB u := fun u hu => by
  obtain ⟨b, _, rfl⟩ := List.mem_map.1 hu
  exact ⟨b, rfl⟩
theorem bvs_one (M : List Bool) : ∀ u ∈ bvs M, u.oneCell' = true := fun u hu => by
  obtain ⟨b, _, rfl⟩ := List.mem_map.1 hu
  rfl
set_option maxRecDepth 100000 in
set_option maxHeartbeats 3200000 in
theorem model_any (m V : Nat) (hV : V ≤ 10) (w : World) :
    Calls Try.prog 10 #[.int .i64 m, .int .i64 V] w fun e w' => ∃ a c, ∃ M : List Bool, e = .returned (.slice a (V + 1) c) ∧ M.length = V + 1 ∧ Sees w' a (V + 1) c (M.map Value.bool) ∧ Below w.heap.size w w' := by
  obtain ⟨i0, hi, hz0, hz1, hz2⟩ := info_parts info_bool
  go_enter Try.func10, Try.ntmps10
  go_wp2
  go_loopw [6, 5] (fun i mm wr => ∃ (k : Nat) (u : Value) (M : List Bool), k ≤ V ∧ i = .int .i64 k ∧ mm = u ∧ Hid (M.length = k + 1) ∧ Hid (Row isB wr w.heap.size 4 u (k + 1) (bvs M)) ∧ Hid (Below w.heap.size w wr)) (fun i _ _ => V - (intOf i).toNat)
  case atStart => exact ⟨0, _, [false], Nat.zero_le _, rfl, rfl, rfl, Row.made_at _ 1 _ _ _ rfl rfl rfl (Nat.le_refl _) (by decide) (by decide) (by intro u hu; simp at hu; subst hu; exact ⟨false, rfl⟩), ext_alloc _ _⟩
  case round =>
    obtain ⟨k, u, M, hk, rfl, hu, hM, hR, hB⟩ := hrel
    obtain rfl := hu.symm
    by_cases hlt : k < V
    · have W1 : IntKind.i64.wrap ((k : Int) + 1) = (k : Int) + 1 := IntWalk.i64_in _ (by omega)
      have HR := Lib.hid hR.out
      have HB := Lib.hid hB.out
      have HM := Lib.hid hM.out
      clear hR hB hM
      obtain ⟨b, hb⟩ : ∃ b, b = (bits BinOp.and IntKind.i64 ((m : Int) / 2 ^ k) 1 == 1) := ⟨_, rfl⟩
      go_wp2_with (at_builtin; refine wpList_append_row isB _ rfl _ _ 31 rfl w.heap.size 4 i0 (.bool false) 1 Try.underlying31 hi hz0 hz1 hz2 rfl ⟨false, rfl⟩ u (k + 1) (bvs M) rfl (HR.out.below (ext_alloc _ _)) (some ⟨wr.heap.size, 0, none⟩) 1 1 (bvs [(bits BinOp.and IntKind.i64 ((m : Int) / 2 ^ k) 1 == 1)]) rfl (sees_lit wr _ _ _ _ 1 rfl rfl) (bvs_one _) (isB_bvs _) ?c1 ?c2 ?c3 ?_)
      case c1 => unfold maxLen; omega
      case c2 => omega
      case c3 => have := HB.out.size; simp; omega
      intro v2 w7 hr7 hg7 _
      rw [← hb] at hr7
      have hb6 := ext_trans HB.out (ext_alloc wr (.cells #[.bool b] 4))
      rw [hb] at hb6
      have HB7 : Hid (Below w.heap.size w w7) := hb6.grown hg7 hb6.size (fun j hj => (HR.out.own.lt j hj).1)
      have e : bvs M ++ bvs [b] = bvs (M ++ [b]) := by simp [bvs]
      rw [e] at hr7
      have HR7 := Lib.hid hr7
      have HM7 : Hid ((M ++ [b]).length = k + 1 + 1) := by show _ = _; rw [List.length_append, HM.out]; rfl
      clear hr7 hg7 hb6 e hb
      go_wp2
      go_roundw
      case rel => exact ⟨k + 1, v2, M ++ [b], by omega, by go_num, rfl, HM7.out, HR7.out, HB7.out⟩
      case measure => simp [intOf]; omega
    · have hkV : k = V := by omega
      have I1 : decide ((k : Int) < (V : Int)) = false := by simp; omega
      have I2 : decide (k < V) = false := by simpa using hlt
      have hR2 := hR.out
      have hM2 := hM.out
      rw [hkV] at hR2 hM2
      obtain ⟨ra, rc, hru, _, hrs⟩ := hR2.sees
      have HRS := Lib.hid hrs
      have HBF := Lib.hid hB.out
      have HM2 := Lib.hid hM2
      subst hru
      clear hR hR2 hB hM hM2 hkV hrs
      go_wp2
      go_ret
      exact ⟨ra, rc, M, rfl, HM2.out, HRS.out, HBF.out⟩
end Go.Proofs.Ytionibckeicncaa
