/- inquestlaw12.lives; Len, Score, Waits of a queue that is told by what it is. -/
import Derived.Test.YthedgbdnidghnaaQuPure
import Derived.Test.YthedgbdnidghnaaQuW
import Derived.Test.YthedgbdnidghnaaQuPut
import Derived.Test.YthedgbdnidghnaaQuOps
import Derived.Test.YthedgbdnidghnaaQuNext
import Derived.Test.YthedgbdnidghnaaQuNew
import Derived.Test.YthedgbdnidghnaaRows
import Derived.ArgAppend
import Derived.BigQuiet
import Derived.Deep.AppendLies
import Derived.Deep.CutRange
import Derived.Deep.QuietTactic
import Derived.Deep.RegionHeld3
import Derived.Deep.RegionLaw
import Derived.Deep.RegionWith
import Derived.KernelRfl
import Derived.Laws.EntriesVeiled
import Derived.Lib.ConvBytes
import Derived.Lib.Hide
import Derived.Lib.SlBytesRow
import Derived.Lib.SmallJoins
import Derived.OrdersHeld
import Derived.Shelf.Bytes.SlSmallAll
import Derived.WalkKit
import Derived.WalkLawsBesides
import Derived.WalkSpells
namespace Go.Proofs.Ythedgbdnidghnaa
open Go Go.RowKit Go.Joins

section
variable {q s h a n : Nat} {w w' : World} {r : RQ}
theorem qlenI_any (H : QIs w q s h a n r) : Calls Try.prog 15 #[.pointer (some ⟨q, 0, none⟩)] w fun e w' => e = .returned (.int .i64 (lenR r : Int)) ∧ w = w' := by
  obtain ⟨hp, m, pl, W, R⟩ := H
  rw [← R.len]
  exact qlen_any W
theorem qscoreI_any (v : Int) (H : QIs w q s h a n r) : Calls Try.prog 16 #[.pointer (some ⟨q, 0, none⟩), .int .i64 v] w fun e w' => e = .returned (.int .u64 (scoreR r.sc n v : Int)) ∧ w = w' := by
  obtain ⟨hp, m, pl, W, R⟩ := H
  exact qscore_any v W
theorem qwaitsI_any (v : Int) (H : QIs w q s h a n r) : Calls Try.prog 14 #[.pointer (some ⟨q, 0, none⟩), .int .i64 v] w fun e w' => e = .returned (.bool (waitsR r.wt n v)) ∧ w = w' := by
  obtain ⟨hp, m, pl, W, R⟩ := H
  have k := qwaits_any v W
  have e : (hasR n v && !decide (pl.getD v.toNat 0 = -1)) = waitsR r.wt n v := by
    unfold waitsR
    cases hv : hasR n v
    · rfl
    · obtain ⟨u, rfl, h1, h2⟩ := has_nat hv
      rw [Bool.true_and, Bool.true_and, Int.toNat_natCast]
      cases hw : r.wt.getD u false
      · rw [R.pl.off u h1 h2 (by omega) hw]; rfl
      · obtain ⟨i, _, hi, _⟩ := R.pl.on u h1 h2 hw
        rw [hi]; simp
  rw [e] at k
  exact k
theorem QPost.as {v v' : Value} {r r' : RQ} {e : Ending} (H : QPost w q s h a n v r e w') (hv : v = v') (hr : r = r') : QPost w q s h a n v' r' e w' := by subst hv; subst hr; exact H
theorem NewPost.yes {n : Nat} {e : Ending} (H : NewPost w n e w') (hn : n ≤ 4194304) : ∃ q s h a, e = .returned (.tuple #[.pointer (some ⟨q, 0, none⟩), .int .i64 0]) ∧ QIs w' q s h a n (newR n) ∧ Below w.heap.size w w' ∧ (∀ D, Four q s h a D → w.heap.size ≤ D) := by
  unfold NewPost at H
  rw [if_pos (by omega), Int.toNat_natCast] at H
  exact H
end

set_option maxRecDepth 100000 in
set_option maxHeartbeats 800000 in
theorem lives12_any (w : World) : Calls Try.prog 8 #[] w fun e w' => e = .returned (.bool true) ∧ Below w.heap.size w w' := by
  go_enter Try.func8, Try.ntmps8
  go_wp2_with fail
  refine (qnew_any 3 w).mono ?_
  intro e w1 h1
  obtain ⟨q, s, h, a, rfl, q1, b1, hF⟩ := NewPost.yes (n := 3) h1 (by omega)
  have HF := Lib.hid hF
  have B1 := Lib.hid b1
  have Q1 := Lib.hid q1
  have LO : Hid (∀ w1 w2 : World, Below w.heap.size w w1 → Turn (Four q s h a) w1 w2 → Below w.heap.size w w2) := fun w1 w2 x y => x.trans (y.low x.size hF)
  clear h1 q1 b1 hF
  go_wp2_with fail
  refine (qbump_any 3 Q1.out).mono ?_
  intro e w2 h2
  obtain ⟨rfl, q2, t2⟩ := h2.as (v' := .int .i64 0) (r' := ⟨1, [0, 0, 0, 1], [false, true, true, true]⟩) (by kernel_rfl) (by decide)
  have Q2 := Lib.hid q2
  have B2 := Lib.hid (LO.out _ _ B1.out t2)
  clear h2 q2 t2 Q1 B1
  go_wp2_with fail
  refine (qnext_any Q2.out).mono ?_
  intro e w3 h3
  obtain ⟨rfl, q3, t3⟩ := h3.as (v' := .tuple #[.int .i64 3, .bool true]) (r' := ⟨1, [0, 0, 0, 1], [false, true, true, false]⟩) (by kernel_rfl) (by decide)
  have Q3 := Lib.hid q3
  have B3 := Lib.hid (LO.out _ _ B2.out t3)
  clear h3 q3 t3 Q2 B2
  go_wp2_with fail
  refine (qnext_any Q3.out).mono ?_
  intro e w4 h4
  obtain ⟨rfl, q4, t4⟩ := h4.as (v' := .tuple #[.int .i64 1, .bool true]) (r' := ⟨1, [0, 0, 0, 1], [false, false, true, false]⟩) (by kernel_rfl) (by decide)
  have Q4 := Lib.hid q4
  have B4 := Lib.hid (LO.out _ _ B3.out t4)
  clear h4 q4 t4 Q3 B3
  go_wp2_with fail
  refine (qnext_any Q4.out).mono ?_
  intro e w5 h5
  obtain ⟨rfl, q5, t5⟩ := h5.as (v' := .tuple #[.int .i64 2, .bool true]) (r' := ⟨1, [0, 0, 0, 1], [false, false, false, false]⟩) (by kernel_rfl) (by decide)
  have Q5 := Lib.hid q5
  have B5 := Lib.hid (LO.out _ _ B4.out t5)
  clear h5 q5 t5 Q4 B4
  go_wp2_with fail
  refine (qnext_any Q5.out).mono ?_
  intro e w6 h6
  obtain ⟨rfl, q6, t6⟩ := h6.as (v' := .tuple #[.int .i64 0, .bool false]) (r' := ⟨1, [0, 0, 0, 1], [false, false, false, false]⟩) (by kernel_rfl) (by decide)
  have Q6 := Lib.hid q6
  have B6 := Lib.hid (LO.out _ _ B5.out t6)
  clear h6 q6 t6 Q5 B5
  go_wp2_with fail
  refine (qback_any 2 Q6.out).mono ?_
  intro e w7 h7
  obtain ⟨rfl, q7, t7⟩ := h7.as (v' := .int .i64 0) (r' := ⟨1, [0, 0, 0, 1], [false, false, true, false]⟩) (by kernel_rfl) (by decide)
  have Q7 := Lib.hid q7
  have B7 := Lib.hid (LO.out _ _ B6.out t7)
  clear h7 q7 t7 Q6 B6
  go_wp2_with fail
  refine (qlenI_any Q7.out).mono ?_
  rintro e w8 ⟨rfl, rfl⟩
  rw [show ((lenR ⟨1, [0, 0, 0, 1], [false, false, true, false]⟩ : Nat) : Int) = 1 from by decide]
  go_wp2_with fail
  refine (qbump_any 9 Q7.out).mono ?_
  intro e w9 h9
  obtain ⟨rfl, q9, t9⟩ := h9.as (v' := .int .i64 2) (r' := ⟨1, [0, 0, 0, 1], [false, false, true, false]⟩) (by kernel_rfl) (by decide)
  have B9 := Lib.hid (LO.out _ _ B7.out t9)
  clear h9 q9 t9 Q7 B7
  go_wp2
  go_ret
  exact ⟨rfl, B9.out⟩
end Go.Proofs.Ythedgbdnidghnaa
