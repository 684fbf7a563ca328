/- What is asked of no queue, and of a zero one: it is refused, or nothing; the law QueueNil. -/
import Derived.Test.YthedgbdnidghnaaNBase
import Derived.Test.YthedgbdnidghnaaQuLives
import Derived.Test.YthedgbdnidghnaaRows
import Derived.ArgAppend
import Derived.BigQuiet
import Derived.Deep.AppendLies
import Derived.Deep.CutRange
import Derived.Deep.QuietTactic
import Derived.Deep.RegionHeld3
import Derived.Deep.RegionLaw
import Derived.Deep.RegionWith
import Derived.KernelRfl
import Derived.Laws.EntriesVeiled
import Derived.Lib.ConvBytes
import Derived.Lib.Hide
import Derived.Lib.SlBytesRow
import Derived.Lib.SmallJoins
import Derived.OrdersHeld
import Derived.Shelf.Bytes.SlSmallAll
import Derived.WalkKit
import Derived.WalkLawsBesides
import Derived.WalkSpells
namespace Go.Proofs.Ythedgbdnidghnaa
open Go Go.RowKit Go.Joins

/-- None, or a zero one. -/
def Zq (w : World) (p : Option Addr) : Prop := p = none ∨ ∃ q, p = some ⟨q, 0, none⟩ ∧ w.heap[q]? = some (.cells #[.int .u64 0, .slice none 0 0, .slice none 0 0, .slice none 0 0] 49 (0, 0))

section
variable {w : World} {p : Option Addr}

set_option maxRecDepth 100000 in
theorem zhas_any (v : Int) (H : Zq w p) : Calls Try.prog 30 #[.pointer p, .int .i64 v] w fun e w' => e = .returned (.bool false) ∧ w = w' := by
  rcases H with rfl | ⟨q, rfl, H⟩
  · skip
    go_enter Try.func30, Try.ntmps30
    go_wp2
    go_ret
    exact ⟨rfl, rfl⟩
  · have c0 := (cell_of_block H 0).trans (show _ = some (Value.int .u64 0) from rfl)
    have c1 := (cell_of_block H 1).trans (show _ = some (Value.slice none 0 0) from rfl)
    have c2 := (cell_of_block H 2).trans (show _ = some (Value.slice none 0 0) from rfl)
    have c3 := (cell_of_block H 3).trans (show _ = some (Value.slice none 0 0) from rfl)
    clear H
    by_cases h0 : 0 < v
    · have d0 : decide (0 < v) = true := by simpa using h0
      have d1 : decide (v < 0) = false := by simp; omega
      clear h0
      go_enter Try.func30, Try.ntmps30
      go_wp2
      go_ret
      exact ⟨rfl, rfl⟩
    · have d0 : decide (0 < v) = false := by simpa using h0
      clear h0
      go_enter Try.func30, Try.ntmps30
      go_wp2
      go_ret
      exact ⟨rfl, rfl⟩

set_option maxRecDepth 100000 in
theorem zcheck_any (v : Int) (H : Zq w p) : Calls Try.prog 26 #[.pointer p, .int .i64 v] w fun e w' => e = .returned (.int .i64 1) ∧ w = w' := by
  rcases H with rfl | ⟨q, rfl, H⟩
  · skip
    go_enter Try.func26, Try.ntmps26
    go_wp2
    go_ret
    exact ⟨rfl, rfl⟩
  · have c0 := (cell_of_block H 0).trans (show _ = some (Value.int .u64 0) from rfl)
    have c1 := (cell_of_block H 1).trans (show _ = some (Value.slice none 0 0) from rfl)
    have c2 := (cell_of_block H 2).trans (show _ = some (Value.slice none 0 0) from rfl)
    have c3 := (cell_of_block H 3).trans (show _ = some (Value.slice none 0 0) from rfl)
    clear H
    go_enter Try.func26, Try.ntmps26
    go_wp2
    go_ret
    exact ⟨rfl, rfl⟩

set_option maxRecDepth 100000 in
theorem zlen_any (H : Zq w p) : Calls Try.prog 15 #[.pointer p] w fun e w' => e = .returned (.int .i64 0) ∧ w = w' := by
  rcases H with rfl | ⟨q, rfl, H⟩
  · skip
    go_enter Try.func15, Try.ntmps15
    go_wp2
    go_ret
    exact ⟨rfl, rfl⟩
  · have c0 := (cell_of_block H 0).trans (show _ = some (Value.int .u64 0) from rfl)
    have c1 := (cell_of_block H 1).trans (show _ = some (Value.slice none 0 0) from rfl)
    have c2 := (cell_of_block H 2).trans (show _ = some (Value.slice none 0 0) from rfl)
    have c3 := (cell_of_block H 3).trans (show _ = some (Value.slice none 0 0) from rfl)
    clear H
    go_enter Try.func15, Try.ntmps15
    go_wp2
    go_ret
    exact ⟨rfl, rfl⟩

set_option maxRecDepth 100000 in
theorem zscore_any (v : Int) (H : Zq w p) : Calls Try.prog 16 #[.pointer p, .int .i64 v] w fun e w' => e = .returned (.int .u64 0) ∧ w = w' := by
  have HH := Lib.hid (zhas_any v H)
  rcases H with rfl | ⟨q, rfl, H⟩
  · skip
    go_enter Try.func16, Try.ntmps16
    go_wp2_with fail
    refine HH.out.mono ?_
    rintro e w' ⟨rfl, rfl⟩
    go_wp2
    go_ret
    exact ⟨rfl, rfl⟩
  · have c0 := (cell_of_block H 0).trans (show _ = some (Value.int .u64 0) from rfl)
    have c1 := (cell_of_block H 1).trans (show _ = some (Value.slice none 0 0) from rfl)
    have c2 := (cell_of_block H 2).trans (show _ = some (Value.slice none 0 0) from rfl)
    have c3 := (cell_of_block H 3).trans (show _ = some (Value.slice none 0 0) from rfl)
    clear H
    go_enter Try.func16, Try.ntmps16
    go_wp2_with fail
    refine HH.out.mono ?_
    rintro e w' ⟨rfl, rfl⟩
    go_wp2
    go_ret
    exact ⟨rfl, rfl⟩

set_option maxRecDepth 100000 in
theorem zwaits_any (v : Int) (H : Zq w p) : Calls Try.prog 14 #[.pointer p, .int .i64 v] w fun e w' => e = .returned (.bool false) ∧ w = w' := by
  have HH := Lib.hid (zhas_any v H)
  rcases H with rfl | ⟨q, rfl, H⟩
  · skip
    go_enter Try.func14, Try.ntmps14
    go_wp2_with fail
    refine HH.out.mono ?_
    rintro e w' ⟨rfl, rfl⟩
    go_wp2
    go_ret
    exact ⟨rfl, rfl⟩
  · have c0 := (cell_of_block H 0).trans (show _ = some (Value.int .u64 0) from rfl)
    have c1 := (cell_of_block H 1).trans (show _ = some (Value.slice none 0 0) from rfl)
    have c2 := (cell_of_block H 2).trans (show _ = some (Value.slice none 0 0) from rfl)
    have c3 := (cell_of_block H 3).trans (show _ = some (Value.slice none 0 0) from rfl)
    clear H
    go_enter Try.func14, Try.ntmps14
    go_wp2_with fail
    refine HH.out.mono ?_
    rintro e w' ⟨rfl, rfl⟩
    go_wp2
    go_ret
    exact ⟨rfl, rfl⟩

set_option maxRecDepth 100000 in
theorem zback_any (v : Int) (H : Zq w p) : Calls Try.prog 17 #[.pointer p, .int .i64 v] w fun e w' => e = .returned (.int .i64 1) ∧ w = w' := by
  have HH := Lib.hid (zcheck_any v H)
  rcases H with rfl | ⟨q, rfl, H⟩
  · skip
    go_enter Try.func17, Try.ntmps17
    go_wp2_with fail
    refine HH.out.mono ?_
    rintro e w' ⟨rfl, rfl⟩
    go_wp2
    go_ret
    exact ⟨rfl, rfl⟩
  · have c0 := (cell_of_block H 0).trans (show _ = some (Value.int .u64 0) from rfl)
    have c1 := (cell_of_block H 1).trans (show _ = some (Value.slice none 0 0) from rfl)
    have c2 := (cell_of_block H 2).trans (show _ = some (Value.slice none 0 0) from rfl)
    have c3 := (cell_of_block H 3).trans (show _ = some (Value.slice none 0 0) from rfl)
    clear H
    go_enter Try.func17, Try.ntmps17
    go_wp2_with fail
    refine HH.out.mono ?_
    rintro e w' ⟨rfl, rfl⟩
    go_wp2
    go_ret
    exact ⟨rfl, rfl⟩

set_option maxRecDepth 100000 in
theorem zbump_any (v : Int) (H : Zq w p) : Calls Try.prog 11 #[.pointer p, .int .i64 v] w fun e w' => e = .returned (.int .i64 1) ∧ w = w' := by
  have HH := Lib.hid (zcheck_any v H)
  rcases H with rfl | ⟨q, rfl, H⟩
  · skip
    go_enter Try.func11, Try.ntmps11
    go_wp2_with fail
    refine HH.out.mono ?_
    rintro e w' ⟨rfl, rfl⟩
    go_wp2
    go_ret
    exact ⟨rfl, rfl⟩
  · have c0 := (cell_of_block H 0).trans (show _ = some (Value.int .u64 0) from rfl)
    have c1 := (cell_of_block H 1).trans (show _ = some (Value.slice none 0 0) from rfl)
    have c2 := (cell_of_block H 2).trans (show _ = some (Value.slice none 0 0) from rfl)
    have c3 := (cell_of_block H 3).trans (show _ = some (Value.slice none 0 0) from rfl)
    clear H
    go_enter Try.func11, Try.ntmps11
    go_wp2_with fail
    refine HH.out.mono ?_
    rintro e w' ⟨rfl, rfl⟩
    go_wp2
    go_ret
    exact ⟨rfl, rfl⟩

set_option maxRecDepth 100000 in
theorem zfade_any (H : Zq w p) : Calls Try.prog 12 #[.pointer p] w fun e w' => e = .returned (.tuple #[]) ∧ w = w' := by
  rcases H with rfl | ⟨q, rfl, H⟩
  · skip
    go_enter Try.func12, Try.ntmps12
    go_wp2
    ((try simp only [Exit.inBlock, Exit.then]); refine bodyPost_ret (results_none rfl _ _ _) rfl ?_)
    exact ⟨rfl, rfl⟩
  · have c0 := (cell_of_block H 0).trans (show _ = some (Value.int .u64 0) from rfl)
    have c1 := (cell_of_block H 1).trans (show _ = some (Value.slice none 0 0) from rfl)
    have c2 := (cell_of_block H 2).trans (show _ = some (Value.slice none 0 0) from rfl)
    have c3 := (cell_of_block H 3).trans (show _ = some (Value.slice none 0 0) from rfl)
    clear H
    go_enter Try.func12, Try.ntmps12
    go_wp2
    ((try simp only [Exit.inBlock, Exit.then]); refine bodyPost_ret (results_none rfl _ _ _) rfl ?_)
    exact ⟨rfl, rfl⟩

set_option maxRecDepth 100000 in
theorem znext_any (H : Zq w p) : Calls Try.prog 13 #[.pointer p] w fun e w' => e = .returned (.tuple #[.int .i64 0, .bool false]) ∧ w = w' := by
  have HH := Lib.hid (zlen_any H)
  rcases H with rfl | ⟨q, rfl, H⟩
  · skip
    go_enter Try.func13, Try.ntmps13
    go_wp2_with fail
    refine HH.out.mono ?_
    rintro e w' ⟨rfl, rfl⟩
    go_wp2
    go_ret2
    exact ⟨rfl, rfl⟩
  · have c0 := (cell_of_block H 0).trans (show _ = some (Value.int .u64 0) from rfl)
    have c1 := (cell_of_block H 1).trans (show _ = some (Value.slice none 0 0) from rfl)
    have c2 := (cell_of_block H 2).trans (show _ = some (Value.slice none 0 0) from rfl)
    have c3 := (cell_of_block H 3).trans (show _ = some (Value.slice none 0 0) from rfl)
    clear H
    go_enter Try.func13, Try.ntmps13
    go_wp2_with fail
    refine HH.out.mono ?_
    rintro e w' ⟨rfl, rfl⟩
    go_wp2
    go_ret2
    exact ⟨rfl, rfl⟩

end

set_option maxRecDepth 100000 in
set_option maxHeartbeats 800000 in
theorem queuenil_any (v : Int) (b : Bool) (w : World) : Calls Try.prog 5 #[.int .i64 v, .bool b] w fun e w' => e = .returned (.bool true) ∧ Below w.heap.size w w' := by
  cases b
  · have HZ : Hid (Zq w none) := Or.inl rfl
    have HB := Lib.hid (Below.refl w.heap.size w)
    go_enter Try.func5, Try.ntmps5
    go_wp2_with fail
    refine (zfade_any HZ.out).mono ?_
    rintro e w' ⟨rfl, rfl⟩
    go_wp2_with fail
    refine (znext_any HZ.out).mono ?_
    rintro e w' ⟨rfl, rfl⟩
    go_wp2_with fail
    refine (zback_any v HZ.out).mono ?_
    rintro e w' ⟨rfl, rfl⟩
    go_wp2_with fail
    refine (zbump_any v HZ.out).mono ?_
    rintro e w' ⟨rfl, rfl⟩
    go_wp2_with fail
    refine (zscore_any v HZ.out).mono ?_
    rintro e w' ⟨rfl, rfl⟩
    go_wp2_with fail
    refine (zwaits_any v HZ.out).mono ?_
    rintro e w' ⟨rfl, rfl⟩
    go_wp2_with fail
    refine (zlen_any HZ.out).mono ?_
    rintro e w' ⟨rfl, rfl⟩
    clear HZ
    go_wp2_with fail
    refine (lives12_any _).mono ?_
    rintro e w9 ⟨rfl, hb⟩
    have HE := Lib.hid (ext_trans HB.out hb)
    clear hb
    go_wp2
    go_ret
    exact ⟨rfl, HE.out⟩
  · have hnew := heap_new w (.cells #[.int .u64 0, .slice none 0 0, .slice none 0 0, .slice none 0 0] 49) _ rfl
    have HB := Lib.hid (ext_alloc w (.cells #[.int .u64 0, .slice none 0 0, .slice none 0 0, .slice none 0 0] 49))
    have HZ : Hid (Zq (w.alloc (.cells #[.int .u64 0, .slice none 0 0, .slice none 0 0, .slice none 0 0] 49)) (some ⟨w.heap.size, 0, none⟩)) := Or.inr ⟨_, rfl, hnew⟩
    clear hnew
    go_enter Try.func5, Try.ntmps5
    go_wp2_with fail
    refine (zfade_any HZ.out).mono ?_
    rintro e w' ⟨rfl, rfl⟩
    go_wp2_with fail
    refine (znext_any HZ.out).mono ?_
    rintro e w' ⟨rfl, rfl⟩
    go_wp2_with fail
    refine (zback_any v HZ.out).mono ?_
    rintro e w' ⟨rfl, rfl⟩
    go_wp2_with fail
    refine (zbump_any v HZ.out).mono ?_
    rintro e w' ⟨rfl, rfl⟩
    go_wp2_with fail
    refine (zscore_any v HZ.out).mono ?_
    rintro e w' ⟨rfl, rfl⟩
    go_wp2_with fail
    refine (zwaits_any v HZ.out).mono ?_
    rintro e w' ⟨rfl, rfl⟩
    go_wp2_with fail
    refine (zlen_any HZ.out).mono ?_
    rintro e w' ⟨rfl, rfl⟩
    clear HZ
    go_wp2_with fail
    refine (lives12_any _).mono ?_
    rintro e w9 ⟨rfl, hb⟩
    have HE := Lib.hid (ext_trans HB.out hb)
    clear hb
    go_wp2
    go_ret
    exact ⟨rfl, HE.out⟩
end Go.Proofs.Ythedgbdnidghnaa
