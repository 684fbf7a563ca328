/- tally.size, by its contract. -/
import Derived.Test.YtionibckeicncaaTaP
import Derived.Test.YtionibckeicncaaTaS
import Derived.Test.YtionibckeicncaaRows
import Derived.Test.YtionibckeicncaaShelf
import Derived.BigQuiet
import Derived.Deep.AppendLies
import Derived.Deep.CutRange
import Derived.Deep.QuietTactic
import Derived.Deep.RegionLaw
import Derived.Deep.RegionWith
import Derived.KernelRfl
import Derived.Laws.EntriesVeiled
import Derived.Lib.ConvBytes
import Derived.Lib.Hide
import Derived.Lib.SlBytesRow
import Derived.Lib.SlicesCompact
import Derived.Lib.SmallJoins
import Derived.Shelf.Bytes.SlSmallAll
import Derived.Sort.Statements
import Derived.WalkKit
import Derived.WalkLawsBesides
import Derived.WalkSpells
namespace Go.Proofs.Ytionibckeicncaa
open Go Go.RowKit Go.Joins

set_option maxRecDepth 100000 in
set_option maxHeartbeats 6400000 in
theorem size_small (N lits most : Nat) (w : World) (h1 : lits ≤ 1) :
    Calls Try.prog 16 #[.int .i64 lits, .int .i64 most] w fun e w' => e = .returned (.tuple #[.int .i64 ((sizeF N lits most).1 : Nat), .int .i64 ((sizeF N lits most).2 : Nat)]) ∧ w' = w := by
  have e1 : sizeF N lits most = (0, 0) := by
    cases N with
    | zero => rfl
    | succ n => unfold sizeF; rw [if_pos h1]
  rw [e1]
  have d1 : decide ((lits : Int) ≤ 1) = true := decide_eq_true (by omega)
  have d2 : decide (lits ≤ 1) = true := by simpa using h1
  clear e1 h1
  go_enter Try.func16, Try.ntmps16
  go_wp2
  go_ret2
  exact ⟨rfl, rfl⟩
set_option maxRecDepth 100000 in
set_option maxHeartbeats 6400000 in
theorem size_step (n : Nat) (IH : ∀ (lits most : Nat) (w : World), lits ≤ n + 1 → lits ≤ 4096 → most ≤ 4096 → Calls Try.prog 16 #[.int .i64 lits, .int .i64 most] w fun e w' => e = .returned (.tuple #[.int .i64 ((sizeF n lits most).1 : Nat), .int .i64 ((sizeF n lits most).2 : Nat)]) ∧ w' = w) (lits most : Nat) (w : World) (hN : lits ≤ n + 1 + 1) (hl : lits ≤ 4096) (hm : most ≤ 4096) (h1 : ¬ lits ≤ 1) :
    Calls Try.prog 16 #[.int .i64 lits, .int .i64 most] w fun e w' => e = .returned (.tuple #[.int .i64 ((sizeF (n + 1) lits most).1 : Nat), .int .i64 ((sizeF (n + 1) lits most).2 : Nat)]) ∧ w' = w := by
  obtain ⟨a, ha⟩ : ∃ a, a = lits / 2 := ⟨_, rfl⟩
  obtain ⟨b, hb⟩ : ∃ b, b = lits - a := ⟨_, rfl⟩
  have i1 := sizeF_le n a most
  have i2 := sizeF_le n b most
  have ha4 : a * a ≤ 4096 * 4096 := Nat.mul_le_mul (by omega) (by omega)
  have hb4 : b * b ≤ 4096 * 4096 := Nat.mul_le_mul (by omega) (by omega)
  have IA := Lib.hid (IH a most w (by omega) (by omega) hm)
  have IB := Lib.hid (IH b most w (by omega) (by omega) hm)
  have eS : sizeF (n + 1) lits most = ((sizeF n a most).1 + (sizeF n b most).1 + (pairsN (min a most) (min b most) (min (min a most + min b most) most + 1) - 1) + pairsN (min a most) (min b most) (min (min a most + min b most) most), (sizeF n a most).2 + (sizeF n b most).2 + min (min a most + min b most) most) := by
    conv => lhs; unfold sizeF
    rw [if_neg h1]
    dsimp only
    rw [← ha, ← hb]
  rw [eS]
  obtain ⟨⟨u1, u2⟩, hu⟩ : ∃ u, u = sizeF n a most := ⟨_, rfl⟩
  obtain ⟨⟨v1, v2⟩, hv⟩ : ∃ u, u = sizeF n b most := ⟨_, rfl⟩
  rw [← hu] at IA i1 ⊢
  rw [← hv] at IB i2 ⊢
  simp only at IA IB i1 i2 ⊢
  obtain ⟨l, hl2⟩ : ∃ l, l = min a most := ⟨_, rfl⟩
  obtain ⟨r, hr2⟩ : ∃ r, r = min b most := ⟨_, rfl⟩
  obtain ⟨m, hm2⟩ : ∃ m, m = min (l + r) most := ⟨_, rfl⟩
  rw [← hl2, ← hr2, ← hm2]
  have q1 := pairsN_le l r (m + 1)
  have q2 := pairsN_le l r m
  have q3 : (l + 1) * (r + 1) ≤ 4097 * 4097 := Nat.mul_le_mul (by omega) (by omega)
  have q4 : 1 ≤ pairsN l r (m + 1) := by
    have := sumT_le (f := fun i => min (r + 1) (m + 1 - i)) (m := 0) 0 (fun i hi => absurd hi (by omega))
    unfold pairsN
    have hp : ∀ k, 1 ≤ sumT (fun i => min (r + 1) (m + 1 - i)) (k + 1) := fun k => by
      induction k with
      | zero => simp [sumT]
      | succ k ih => rw [sumT]; omega
    exact hp l
  have HP1 := Lib.hid (pairs_any l r (m + 1) (m : Int) (by omega) w (by omega) (by omega) (by omega))
  have HP2 := Lib.hid (pairs_any l r m ((m : Int) - 1) rfl w (by omega) (by omega) (by omega))
  obtain ⟨x1, hx1⟩ : ∃ x, x = pairsN l r (m + 1) := ⟨_, rfl⟩
  obtain ⟨x2, hx2⟩ : ∃ x, x = pairsN l r m := ⟨_, rfl⟩
  rw [← hx1] at HP1 q1 q4 ⊢
  rw [← hx2] at HP2 q2 ⊢
  have d1 : decide ((lits : Int) ≤ 1) = false := by simp; omega
  have d2 : decide (lits ≤ 1) = false := by simpa using h1
  have D1 : Int.tdiv (lits : Int) 2 = (a : Int) := by rw [ha]; rfl
  have D2 : IntKind.i64.wrap (a : Int) = (a : Int) := IntWalk.i64_in _ (by omega)
  have w1 : IntKind.i64.wrap ((lits : Int) - (a : Int)) = (b : Int) := by rw [show (lits : Int) - (a : Int) = (b : Int) by omega]; exact IntWalk.i64_in _ (by omega)
  have m1 : min (a : Int) (most : Int) = (l : Int) := by omega
  have m2 : min (b : Int) (most : Int) = (r : Int) := by omega
  obtain ⟨lr, hlr⟩ : ∃ x, x = l + r := ⟨_, rfl⟩
  have w2 : IntKind.i64.wrap ((l : Int) + (r : Int)) = (lr : Int) := by rw [show (l : Int) + (r : Int) = (lr : Int) by omega]; exact IntWalk.i64_in _ (by omega)
  have m3 : min (lr : Int) (most : Int) = (m : Int) := by omega
  obtain ⟨x1p, hx1p⟩ : ∃ x, x = x1 - 1 := ⟨_, rfl⟩
  have w3 : IntKind.i64.wrap ((x1 : Int) - 1) = (x1p : Int) := by rw [show (x1 : Int) - 1 = (x1p : Int) by omega]; exact IntWalk.i64_in _ (by omega)
  have w4 : IntKind.i64.wrap ((m : Int) - 1) = (m : Int) - 1 := IntWalk.i64_in _ (by omega)
  obtain ⟨s1, hs1⟩ : ∃ x, x = u1 + v1 := ⟨_, rfl⟩
  obtain ⟨s2, hs2⟩ : ∃ x, x = s1 + x1p := ⟨_, rfl⟩
  obtain ⟨s3, hs3⟩ : ∃ x, x = s2 + x2 := ⟨_, rfl⟩
  obtain ⟨t1, ht1⟩ : ∃ x, x = u2 + v2 := ⟨_, rfl⟩
  obtain ⟨t2, ht2⟩ : ∃ x, x = t1 + m := ⟨_, rfl⟩
  have w5 : IntKind.i64.wrap ((u1 : Int) + (v1 : Int)) = (s1 : Int) := by rw [show (u1 : Int) + (v1 : Int) = (s1 : Int) by omega]; exact IntWalk.i64_in _ (by omega)
  have w6 : IntKind.i64.wrap ((s1 : Int) + (x1p : Int)) = (s2 : Int) := by rw [show (s1 : Int) + (x1p : Int) = (s2 : Int) by omega]; exact IntWalk.i64_in _ (by omega)
  have w7 : IntKind.i64.wrap ((s2 : Int) + (x2 : Int)) = (s3 : Int) := by rw [show (s2 : Int) + (x2 : Int) = (s3 : Int) by omega]; exact IntWalk.i64_in _ (by omega)
  have w8 : IntKind.i64.wrap ((u2 : Int) + (v2 : Int)) = (t1 : Int) := by rw [show (u2 : Int) + (v2 : Int) = (t1 : Int) by omega]; exact IntWalk.i64_in _ (by omega)
  have w9 : IntKind.i64.wrap ((t1 : Int) + (m : Int)) = (t2 : Int) := by rw [show (t1 : Int) + (m : Int) = (t2 : Int) by omega]; exact IntWalk.i64_in _ (by omega)
  rw [← hx1p, ← hs1, ← hs2, ← hs3, ← ht1, ← ht2]
  clear hN hl hm h1 ha hb i1 i2 ha4 hb4 eS hu hv hl2 hr2 hm2 q1 q2 q3 q4 hx1 hx2 hlr hx1p hs1 hs2 hs3 ht1 ht2
  go_enter Try.func16, Try.ntmps16
  go_wp2_with fail
  refine IA.out.mono ?_
  rintro e w' ⟨rfl, rfl⟩
  clear IA
  go_wp2_with fail
  refine IB.out.mono ?_
  rintro e w2' ⟨rfl, rfl⟩
  clear IB
  go_wp2_with fail
  refine HP1.out.mono ?_
  rintro e w3' ⟨rfl, rfl⟩
  clear HP1
  go_wp2_with fail
  refine HP2.out.mono ?_
  rintro e w4' ⟨rfl, rfl⟩
  clear HP2
  go_wp2
  go_ret2
  exact ⟨rfl, rfl⟩
theorem size_any : ∀ (N lits most : Nat) (w : World), lits ≤ N + 1 → lits ≤ 4096 → most ≤ 4096 →
    Calls Try.prog 16 #[.int .i64 lits, .int .i64 most] w fun e w' => e = .returned (.tuple #[.int .i64 ((sizeF N lits most).1 : Nat), .int .i64 ((sizeF N lits most).2 : Nat)]) ∧ w' = w
  | 0, lits, most, w, hN, _, _ => size_small 0 lits most w (by omega)
  | n + 1, lits, most, w, hN, hl, hm => by
    by_cases h1 : lits ≤ 1
    · exact size_small (n + 1) lits most w h1
    · exact size_step n (fun l m w h1 h2 h3 => size_any n l m w h1 h2 h3) lits most w hN hl hm h1
end Go.Proofs.Ytionibckeicncaa
