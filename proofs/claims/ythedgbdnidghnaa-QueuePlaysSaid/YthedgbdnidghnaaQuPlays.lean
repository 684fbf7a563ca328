/- The law QueuePlays: whatever is done, the program's queue answers, and is, what the document's is. -/
import Derived.Test.YthedgbdnidghnaaNBase
import Derived.Test.YthedgbdnidghnaaQuPure
import Derived.Test.YthedgbdnidghnaaQuNew
import Derived.Test.YthedgbdnidghnaaQuLives
import Derived.Test.YthedgbdnidghnaaQuRefW
import Derived.Test.YthedgbdnidghnaaQuRefN
import Derived.Test.YthedgbdnidghnaaQuBoth
import Derived.Test.YthedgbdnidghnaaRows
import Derived.ArgAppend
import Derived.BigQuiet
import Derived.Deep.AppendLies
import Derived.Deep.CutRange
import Derived.Deep.QuietTactic
import Derived.Deep.RegionHeld3
import Derived.Deep.RegionLaw
import Derived.Deep.RegionWith
import Derived.KernelRfl
import Derived.Laws.EntriesVeiled
import Derived.Laws.Tables
import Derived.Lib.ConvBytes
import Derived.Lib.Hide
import Derived.Lib.SlBytesRow
import Derived.Lib.SmallJoins
import Derived.Maps.AppendAt
import Derived.OrdersHeld
import Derived.Shelf.Bytes.SlSmallAll
import Derived.WalkKit
import Derived.WalkLawsBesides
import Derived.WalkSpells
namespace Go.Proofs.Ythedgbdnidghnaa
open Go Go.RowKit Go.Joins

/-- The slice (a, n, ..) reads as acts. -/
def SeesActs (w : World) (a : Option Addr) (n : Nat) : Prop := 0 < n → ∃ b off, a = some ⟨b, off, none⟩ ∧ b < w.heap.size ∧ ∀ i, i < n → ∃ (d v : Int) (o : Nat), o < 65536 ∧
  w.cell? ⟨b, off + i * 3, none⟩ = some (.int .i64 d) ∧ w.cell? ⟨b, off + i * 3 + 1, none⟩ = some (.int .i64 v) ∧ w.cell? ⟨b, off + i * 3 + 2, none⟩ = some (.int .u16 (o : Int))

theorem RNewPost.yes {w w' : World} {n : Nat} {e : Ending} (H : RNewPost w n e w') (hn : n ≤ 4194304) : ∃ p gs gw cs cw, e = .returned (.tuple #[.pointer (some ⟨p, 0, none⟩), .int .i64 0]) ∧ RW w' p gs gw cs cw n (newR n) ∧ Below w.heap.size w w' ∧ (∀ D, Three p gs gw D → w.heap.size ≤ D) := by
  unfold RNewPost at H
  rw [if_pos (by omega), Int.toNat_natCast] at H
  exact H

set_option maxRecDepth 100000 in
set_option maxHeartbeats 1600000 in
theorem plays_any (vars : Int) (la : Option Addr) (ln lc : Nat) (w : World) (hl : SeesActs w la ln) :
    Calls Try.prog 3 #[.int .i64 vars, .slice la ln lc] w fun e w' => e = .returned (.bool true) ∧ Below w.heap.size w w' := by
  by_cases h0 : 0 ≤ vars ∧ vars ≤ 4194304
  · obtain ⟨n, rfl⟩ := Int.eq_ofNat_of_zero_le h0.1
    have hn : n ≤ 4194304 := by omega
    clear h0
    by_cases h40 : n ≤ 40
    · have d1 : decide ((40 : Int) < (n : Int)) = false := by simp; omega
      have d1n : decide (40 < n) = false := by simp; omega
      have HA := Lib.hid hl
      clear h40 hl
      go_enter Try.func3, Try.ntmps3
      go_wp2_with fail
      refine (qnew_any n w).mono ?_
      intro e w1 h1
      obtain ⟨q, s, h, a, rfl, q1, b1, hF⟩ := NewPost.yes h1 hn
      have Q1 := Lib.hid q1
      have B1 := Lib.hid b1
      have HF := Lib.hid hF
      clear h1 q1 b1 hF
      go_wp2_with fail
      refine (rnew12_any n w1).mono ?_
      intro e w2 h2
      obtain ⟨p, gs, gw, cs, cw, rfl, r2, b2, hF2⟩ := RNewPost.yes h2 hn
      have HJ : Hid (J2 w2 q s h a p gs gw cs cw n (newR n)) := ⟨Q1.out.below b2, r2, fun D x y => by have := Q1.out.lt D x; have := hF2 D y; omega⟩
      have HB : Hid (Below w.heap.size w w2) := B1.out.trans (b2.mono B1.out.size)
      have HFF : Hid (∀ D, Both q s h a p gs gw D → w.heap.size ≤ D) := fun D x => x.elim (HF.out D) (fun y => Nat.le_trans B1.out.size (hF2 D y))
      clear h2 r2 b2 hF2 Q1 B1 HF
      go_wp2
      go_loopw [11] (fun iv wr => ∃ (i : Nat) (r : RQ), iv = .int .i64 i ∧ i ≤ 60 ∧ Hid (J2 wr q s h a p gs gw cs cw n r) ∧ Hid (Below w.heap.size w wr)) (fun iv _ => 60 - (intOf iv).toNat)
      case atStart => exact ⟨0, newR n, rfl, by omega, HJ.out, HB.out⟩
      case round =>
        clear HJ HB
        obtain ⟨i, r, rfl, hi, hj, HBB⟩ := hrel
        by_cases h1 : i < ln
        · have e1 : decide ((i : Int) < (ln : Int)) = true := by simp; omega
          have e1n : decide (i < ln) = true := by simp; omega
          by_cases h2 : i < 60
          · have e2 : decide ((i : Int) < 60) = true := by simp; omega
            have e2n : decide (i < 60) = true := by simp; omega
            obtain ⟨b, off, rfl, hbl, hcell⟩ := HA.out (by omega)
            obtain ⟨d, v, o, ho, k0, k1, k2⟩ := hcell i h1
            have c0 := (HBB.out.cell (p := ⟨b, off + i * 3, none⟩) hbl).trans k0
            have c1 := (HBB.out.cell (p := ⟨b, off + i * 3 + 1, none⟩) hbl).trans k1
            have c2 := (HBB.out.cell (p := ⟨b, off + i * 3 + 2, none⟩) hbl).trans k2
            have W1 : IntKind.i64.wrap ((i : Int) + 1) = (i : Int) + 1 := IntWalk.i64_in _ (by omega)
            have i1 : (i : Int) < (ln : Int) := by omega
            have HI := Lib.hid h2
            clear hcell k0 k1 k2 h1 h2 HA
            go_wp2_with fail
            refine (both12_any d v o ho hj.out).mono ?_
            rintro e w3 ⟨rfl, r3, hj3, ht3⟩
            have HJ3 := Lib.hid hj3
            have HB3 : Hid (Below w.heap.size w w3) := HBB.out.trans (ht3.low HBB.out.size HFF.out)
            clear hj3 ht3 c0 c1 c2
            go_wp2_with fail
            refine (same12_any HJ3.out).mono ?_
            rintro e w4 ⟨rfl, rfl⟩
            go_wp2
            go_roundw
            case rel => exact ⟨i + 1, r3, by go_num, by have := HI.out; omega, HJ3.out, HB3.out⟩
            case measure => have := HI.out; simp [intOf]; omega
          · have e2 : decide ((i : Int) < 60) = false := by simp; omega
            have e2n : decide (i < 60) = false := by simp; omega
            clear h1 h2
            go_wp2_with fail
            refine (lives12_any _).mono ?_
            rintro e w3 ⟨rfl, hb3⟩
            have B4 := Lib.hid (HBB.out.trans (hb3.mono HBB.out.size))
            clear hb3
            go_wp2
            go_ret
            exact ⟨rfl, B4.out⟩
        · have e1 : decide ((i : Int) < (ln : Int)) = false := by simp; omega
          have e1n : decide (i < ln) = false := by simp; omega
          clear h1
          go_wp2_with fail
          refine (lives12_any _).mono ?_
          rintro e w3 ⟨rfl, hb3⟩
          have B4 := Lib.hid (HBB.out.trans (hb3.mono HBB.out.size))
          clear hb3
          go_wp2
          go_ret
          exact ⟨rfl, B4.out⟩
    · have d1 : decide ((40 : Int) < (n : Int)) = true := by simp; omega
      have d1n : decide (40 < n) = true := by simp; omega
      clear h40 hl
      go_enter Try.func3, Try.ntmps3
      go_wp2_with fail
      refine (qnew_any n w).mono ?_
      intro e w1 h1
      obtain ⟨q, s, h, a, rfl, q1, b1, hF⟩ := NewPost.yes h1 hn
      have B1 := Lib.hid b1
      clear h1 q1 b1 hF
      go_wp2_with fail
      refine (rnew12_any n w1).mono ?_
      intro e w2 h2
      obtain ⟨p, gs, gw, cs, cw, rfl, r2, b2, hF2⟩ := RNewPost.yes h2 hn
      have HBB : Hid (Below w.heap.size w w2) := B1.out.trans (b2.mono B1.out.size)
      clear h2 r2 b2 hF2 B1
      go_wp2_with fail
      refine (lives12_any _).mono ?_
      rintro e w3 ⟨rfl, hb3⟩
      have B4 := Lib.hid (HBB.out.trans (hb3.mono HBB.out.size))
      clear hb3
      go_wp2
      go_ret
      exact ⟨rfl, B4.out⟩
  · have HN1 : Hid (∀ w e w', NewPost w vars e w' → e = .returned (.tuple #[.pointer none, .int .i64 2]) ∧ w = w') := fun w e w' H => by
      unfold NewPost at H; rw [if_neg h0] at H; exact H
    have HN2 : Hid (∀ w e w', RNewPost w vars e w' → e = .returned (.tuple #[.pointer none, .int .i64 2]) ∧ w = w') := fun w e w' H => by
      unfold RNewPost at H; rw [if_neg h0] at H; exact H
    clear h0 hl
    go_enter Try.func3, Try.ntmps3
    go_wp2_with fail
    refine (qnew_any vars w).mono ?_
    intro e w1 h1
    obtain ⟨rfl, rfl⟩ := HN1.out _ _ _ h1
    clear h1
    go_wp2_with fail
    refine (rnew12_any vars w).mono ?_
    intro e w1 h1
    obtain ⟨rfl, rfl⟩ := HN2.out _ _ _ h1
    clear h1
    have HBB : Hid (Below w.heap.size w w) := Below.refl _ _
    go_wp2_with fail
    refine (lives12_any _).mono ?_
    rintro e w3 ⟨rfl, hb3⟩
    have B4 := Lib.hid (HBB.out.trans (hb3.mono HBB.out.size))
    clear hb3
    go_wp2
    go_ret
    exact ⟨rfl, B4.out⟩
end Go.Proofs.Ythedgbdnidghnaa
