/- The reference's bit, at, May, with, Not1, And1 for words, by their contracts. -/
import Derived.Test.YtjmdgbdlhaaefaaTBits
import Derived.Test.YtjmdgbdlhaaefaaRows
import Derived.BigQuiet
import Derived.BigRegion
import Derived.Deep.CutRange
import Derived.Deep.QuietTactic
import Derived.Deep.RegionWith
import Derived.KernelRfl
import Derived.Laws.Bits64b
import Derived.Laws.BitsAllLaws
import Derived.Laws.BitsLemmas
import Derived.Lib.ConvBytes
import Derived.Lib.Hide
import Derived.Lib.SlBytesRow
import Derived.Lib.SmallJoins
import Derived.Shelf.Bytes.SlSmallAll
import Derived.WalkKit
import Derived.WalkLawsBesides
import Derived.WalkSpells
namespace Go.Proofs.Ytjmdgbdlhaaefaa
open Go Go.RowKit Go.Joins

theorem rshr (x k : Nat) : ((x : Int) / 2 ^ k).tmod 2 = ((x.testBit k).toNat : Int) := by
  have e : (x : Int) / 2 ^ k = ((x / 2 ^ k : Nat) : Int) := by
    rw [Int.natCast_ediv]
    norm_cast
  rw [e, Nat.testBit_eq_decide_div_mod_eq]
  obtain ⟨y, hy⟩ : ∃ y, y = x / 2 ^ k := ⟨_, rfl⟩
  rw [← hy]
  by_cases h1 : y % 2 = 1
  · rw [h1]
    rw [Int.tmod_eq_emod_of_nonneg (by omega)]
    show (y : Int) % 2 = 1
    omega
  · have h0 : y % 2 = 0 := by omega
    rw [h0]
    rw [Int.tmod_eq_emod_of_nonneg (by omega)]
    show (y : Int) % 2 = 0
    omega

set_option maxRecDepth 100000 in
theorem rnot1_any (v : Nat) (w : World) : Calls Try.prog 41 #[.int .u8 (v : Int)] w fun e w' => e = .returned (.int .u8 (not1 v : Nat)) ∧ w' = w := by
  go_enter Try.func41, Try.ntmps41
  by_cases h0 : v = 0
  · subst h0
    go_wp2
    go_ret
    exact ⟨rfl, rfl⟩
  · have e0 : ((v : Int) == 0) = false := by simp; omega
    by_cases h1 : v = 1
    · subst h1
      go_wp2
      go_ret
      exact ⟨rfl, rfl⟩
    · have e1 : ((v : Int) == 1) = false := by simp; omega
      have HE : Hid (not1 v = 2) := by show _ = _; unfold not1; rw [if_neg h0, if_neg h1]
      clear h0 h1
      go_wp2
      go_ret
      exact ⟨by rw [HE.out]; rfl, rfl⟩

set_option maxRecDepth 100000 in
theorem rand1_any (a b : Nat) (w : World) : Calls Try.prog 38 #[.int .u8 (a : Int), .int .u8 (b : Int)] w fun e w' => e = .returned (.int .u8 (and1 a b : Nat)) ∧ w' = w := by
  go_enter Try.func38, Try.ntmps38
  by_cases h0 : a = 0
  · subst h0
    go_wp2
    go_ret
    exact ⟨rfl, rfl⟩
  · have e0 : ((a : Int) == 0) = false := by simp; omega
    by_cases h1 : b = 0
    · subst h1
      have HE : Hid (and1 a 0 = 0) := by show _ = _; unfold and1; simp
      clear h0
      go_wp2
      go_ret
      exact ⟨by rw [HE.out]; rfl, rfl⟩
    · have e1 : ((b : Int) == 0) = false := by simp; omega
      by_cases h2 : a = 1
      · subst h2
        by_cases h3 : b = 1
        · subst h3
          go_wp2
          go_ret
          exact ⟨rfl, rfl⟩
        · have e3 : ((b : Int) == 1) = false := by simp; omega
          have HE : Hid (and1 1 b = 2) := by show _ = _; unfold and1; simp [h1, h3]
          clear h0 h1 h3
          go_wp2
          go_ret
          exact ⟨by rw [HE.out]; rfl, rfl⟩
      · have e2 : ((a : Int) == 1) = false := by simp; omega
        have HE : Hid (and1 a b = 2) := by show _ = _; unfold and1; simp [h0, h1, h2]
        clear h0 h1 h2
        go_wp2
        go_ret
        exact ⟨by rw [HE.out]; rfl, rfl⟩

/-- The place has a bit. -/
def hasW (a : W2) (j : Nat) : Bool := a.1.testBit j || a.2.testBit j
theorem mayW_of {a : W2} (ha : a.in) (h : ∀ j, j < 64 → hasW a j = true) : mayW a = true := by
  rw [mayW_iff ha]
  intro j hj
  have := h j hj
  unfold hasW at this
  simpa using this
theorem mayW_not {a : W2} (ha : a.in) {j : Nat} (hj : j < 64) (h : hasW a j = false) : mayW a = false := by
  cases hm : mayW a with
  | false => rfl
  | true =>
    have := (mayW_iff ha).1 hm j hj
    unfold hasW at h
    simp only [Bool.or_eq_false_iff] at h
    rw [h.1, h.2] at this
    simp at this

end Go.Proofs.Ytjmdgbdlhaaefaa
