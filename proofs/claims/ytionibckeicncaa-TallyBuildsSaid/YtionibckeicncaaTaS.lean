/- tally.Most, pairs, size, by their contracts. -/
import Derived.Test.YtionibckeicncaaLib
import Derived.Test.YtionibckeicncaaCuInts
import Derived.Test.YtionibckeicncaaTaP
import Derived.Test.YtionibckeicncaaRows
import Derived.Test.YtionibckeicncaaShelf
import Derived.BigQuiet
import Derived.Deep.AppendLies
import Derived.Deep.CutRange
import Derived.Deep.QuietTactic
import Derived.Deep.RegionLaw
import Derived.Deep.RegionWith
import Derived.KernelRfl
import Derived.Laws.EntriesVeiled
import Derived.Lib.ConvBytes
import Derived.Lib.Hide
import Derived.Lib.SlBytesRow
import Derived.Lib.SlicesCompact
import Derived.Lib.SmallJoins
import Derived.Shelf.Bytes.SlSmallAll
import Derived.Sort.Statements
import Derived.WalkKit
import Derived.WalkLawsBesides
import Derived.WalkSpells
namespace Go.Proofs.Ytionibckeicncaa
open Go Go.RowKit Go.Joins

set_option maxRecDepth 100000 in
set_option maxHeartbeats 3200000 in
/-- Nothing, a wrong number, or one literal in new memory. -/
theorem most_any (l : List Int) (k : Int) (a : Option Addr) (n c : Nat) (w : World) (h : Sees w a n c (zvs l)) (hn : n ≤ 9223372036854775807) :
    Calls Try.prog 14 #[.slice a n c, .int .i64 k] w fun e w' =>
      (k < 0 ∧ e = .returned (.tuple #[.slice none 0 0, .int .i64 2]) ∧ w' = w) ∨ ((n : Int) ≤ k ∧ e = .returned (.tuple #[.slice none 0 0, .int .i64 0]) ∧ w' = w) ∨
      (0 ≤ k ∧ k < n ∧ e = .returned (.tuple #[.slice (some ⟨w.heap.size, 0, none⟩) 1 1, .int .i64 0]) ∧ w' = w.alloc (.cells #[.int .i64 (wrap64 (-(l.getD k.toNat 0)))] 3)) := by
  have HS := Lib.hid h
  clear h
  go_enter Try.func14, Try.ntmps14
  by_cases h0 : k < 0
  · have d0 : decide (k < 0) = true := by simpa using h0
    have H0 := Lib.hid h0
    clear h0
    go_wp2
    go_ret2
    exact .inl ⟨H0.out, rfl, rfl⟩
  · have d0 : decide (k < 0) = false := by simpa using h0
    by_cases h1 : (n : Int) ≤ k
    · have d1 : decide ((n : Int) ≤ k) = true := by simpa using h1
      have H1 := Lib.hid h1
      clear h0 h1
      go_wp2
      go_ret2
      exact .inr (.inl ⟨H1.out, rfl, rfl⟩)
    · obtain ⟨m, rfl⟩ := Int.eq_ofNat_of_zero_le (a := k) (by omega)
      have hlt : m < n := by omega
      have d1 : decide ((n : Int) ≤ (m : Int)) = false := by simp; omega
      have d2 : decide (n ≤ m) = false := by simp; omega
      obtain ⟨b, off, rfl, _⟩ := HS.out.addr (show 0 < n by omega)
      have hc := HS.out.z_at m hlt
      have hI1 : (m : Int) < (n : Int) := by omega
      have hI2 : (0 : Int) ≤ (m : Int) := by omega
      have H2 : Hid ((0 : Int) ≤ (m : Int) ∧ (m : Int) < (n : Int)) := ⟨hI2, hI1⟩
      have HT : Hid ((m : Int).toNat = m) := Int.toNat_natCast m
      rw [HT.out]
      obtain ⟨y, hy⟩ : ∃ y, y = l.getD m 0 := ⟨_, rfl⟩
      rw [← hy] at hc ⊢
      clear hy
      clear h0 h1 hlt
      go_wp2
      go_ret2
      exact .inr (.inr ⟨H2.out.1, H2.out.2, rfl, rfl⟩)
theorem pairs_upto {left right s1 : Nat} : sumT (fun i => min (right + 1) (s1 - i)) (min (left + 1) s1) = pairsN left right s1 := by
  unfold pairsN
  by_cases e : s1 ≤ left + 1
  · rw [show min (left + 1) s1 = s1 by omega]
    exact (sumT_tail (left + 1) e (fun i h1 h2 => by omega)).symm
  · rw [show min (left + 1) s1 = left + 1 by omega]
theorem pairsN_le (left right s1 : Nat) : pairsN left right s1 ≤ (left + 1) * (right + 1) := sumT_le _ (fun i _ => by omega)
set_option maxRecDepth 100000 in
set_option maxHeartbeats 3200000 in
theorem pairs_any (left right s1 : Nat) (z : Int) (hz : z = (s1 : Int) - 1) (w : World) (h1 : left ≤ 100000) (h2 : right ≤ 100000) (h3 : s1 ≤ 1000000) :
    Calls Try.prog 28 #[.int .i64 left, .int .i64 right, .int .i64 z] w fun e w' => e = .returned (.int .i64 (pairsN left right s1 : Nat)) ∧ w' = w := by
  rw [← pairs_upto]
  obtain ⟨K, hK⟩ : ∃ K : Nat, K = min (left + 1) s1 := ⟨_, rfl⟩
  obtain ⟨mz, hmz⟩ : ∃ m : Int, m = min (left : Int) z := ⟨_, rfl⟩
  have hKm : mz + 1 = (K : Int) := by omega
  have hmle : ∀ k, k ≤ K → sumT (fun i => min (right + 1) (s1 - i)) k ≤ 100001 * 100001 := fun k hk => Nat.le_trans (sumT_le k (fun i _ => by omega : ∀ i, i < k → min (right + 1) (s1 - i) ≤ 100001)) (Nat.mul_le_mul_right _ (by omega))
  have HML := Lib.hid hmle
  have HST : Hid (∀ k, k < K → ∀ u : Int, u = min (right : Int) (z - (k : Int)) → u + 1 = ((min (right + 1) (s1 - k) : Nat) : Int)) := fun k hk u hu => by omega
  have W0 : wrap64 (mz + 1) = (K : Int) := by unfold wrap64; omega
  have HZK : Hid (z = (s1 : Int) - 1) := hz
  have HK3 : Hid (K ≤ 100001) := by show _ ≤ _; omega
  have HS13 := Lib.hid h3
  have HR2 := Lib.hid h2
  rw [← hK]
  have HMZ := Lib.hid hmz
  clear hz hK hKm h1 h2 h3 hmle hmz
  go_enter Try.func28, Try.ntmps28
  go_upto_region 3 with fail
  rw [← HMZ.out, W0]
  go_loop [13, 7] (fun i s => ∃ k m : Nat, k ≤ K ∧ i = .int .i64 k ∧ s = .int .i64 m ∧ Hid (m = sumT (fun i => min (right + 1) (s1 - i)) k)) (fun i _ => K - (intOf i).toNat)
  case atStart => exact ⟨0, 0, Nat.zero_le _, rfl, rfl, rfl⟩
  case round =>
    obtain ⟨k, m, hk, rfl, rfl, hm⟩ := hrel
    by_cases hlt : k < K
    · obtain ⟨t, ht⟩ : ∃ t : Nat, t = min (right + 1) (s1 - k) := ⟨_, rfl⟩
      obtain ⟨y, hy⟩ : ∃ y : Int, y = z - (k : Int) := ⟨_, rfl⟩
      obtain ⟨u, hu⟩ : ∃ u : Int, u = min (right : Int) y := ⟨_, rfl⟩
      have hu1 := HST.out k hlt u (by rw [hu, hy])
      rw [← ht] at hu1
      have hle := HML.out k hk
      rw [← hm.out] at hle
      have hnx : Hid (m + t = sumT (fun i => min (right + 1) (s1 - i)) (k + 1)) := by show _ = _; rw [sumT, ← hm.out, ht]
      have w1 : IntKind.i64.wrap (z - (k : Int)) = y := by rw [← hy]; exact IntWalk.i64_in _ (by have := HZK.out; have := HS13.out; have := HK3.out; omega)
      have hmin : min (right : Int) y = u := hu.symm
      have ht2 : t ≤ 100001 := by have := HR2.out; omega
      have w2 : IntKind.i64.wrap (u + 1) = (t : Int) := by rw [hu1]; exact IntWalk.i64_in _ (by omega)
      have w3 : IntKind.i64.wrap ((m : Int) + (t : Int)) = ((m + t : Nat) : Int) := by rw [show (m : Int) + (t : Int) = ((m + t : Nat) : Int) by omega]; exact IntWalk.i64_in _ (by omega)
      have hI1 : ((k : Nat) : Int) < (K : Int) := by omega
      have W1 : IntKind.i64.wrap ((k : Int) + 1) = (k : Int) + 1 := IntWalk.i64_in _ (by have := HK3.out; omega)
      obtain ⟨mt, hmt⟩ : ∃ x : Nat, x = m + t := ⟨_, rfl⟩
      rw [← hmt] at w3 hnx
      clear ht hy hu hu1 hle ht2 hmt hm
      go_wp2
      go_round
      case rel => exact ⟨k + 1, mt, by omega, by go_num, by go_num, hnx.out⟩
      case measure => simp [intOf]; omega
    · obtain rfl : k = K := by omega
      have d1 : decide ((k : Int) < (k : Int)) = false := by simp
      have HMM := Lib.hid hm.out
      clear hm hlt hk
      go_wp2
      go_ret
      exact ⟨by rw [← HMM.out] <;> rfl, rfl⟩
theorem sizeF_le : ∀ (n lits most : Nat), (sizeF n lits most).1 ≤ 4 * (lits * lits) ∧ (sizeF n lits most).2 ≤ lits * lits
  | 0, _, _ => by simp [sizeF]
  | n + 1, lits, most => by
    unfold sizeF
    by_cases h : lits ≤ 1
    · rw [if_pos h]; simp
    · rw [if_neg h]
      dsimp only
      obtain ⟨a, ha⟩ : ∃ a, a = lits / 2 := ⟨_, rfl⟩
      obtain ⟨b, hb⟩ : ∃ b, b = lits - a := ⟨_, rfl⟩
      rw [← ha, ← hb]
      obtain ⟨i1, i2⟩ := sizeF_le n a most
      obtain ⟨j1, j2⟩ := sizeF_le n b most
      have e : lits = a + b := by omega
      have a1 : 1 ≤ a := by omega
      have b1 : 1 ≤ b := by omega
      have p1 := pairsN_le (min a most) (min b most) (min (min a most + min b most) most + 1)
      have p2 := pairsN_le (min a most) (min b most) (min (min a most + min b most) most)
      have q : (min a most + 1) * (min b most + 1) ≤ (2 * a) * (2 * b) := Nat.mul_le_mul (by omega) (by omega)
      have q2 : (2 * a) * (2 * b) = 4 * (a * b) := by rw [Nat.mul_mul_mul_comm]
      have r1 : a * 1 ≤ a * b := Nat.mul_le_mul_left _ b1
      have r2 : 1 * b ≤ a * b := Nat.mul_le_mul_right _ a1
      have s1 : (a + b) * (a + b) = a * a + a * b + (a * b + b * b) := by rw [Nat.add_mul, Nat.mul_add, Nat.mul_add, Nat.mul_comm b a]
      rw [e, s1]
      refine ⟨by omega, by omega⟩
end Go.Proofs.Ytionibckeicncaa
