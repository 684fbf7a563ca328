/- Words built place by place, on plain numbers. -/
import Derived.Test.YtglhnmbfkbjemaaTBits
namespace Go.Proofs.Ytglhnmbfkbjemaa
open Go

/-- The word that has the value f j at the place j, for the first k places; the rest has no bits. -/
def buildW (f : Nat → Nat) : Nat → W2
  | 0 => (0, 0)
  | k + 1 => putW (buildW f k) k (f k)
theorem buildW_in (f : Nat → Nat) : ∀ {k : Nat}, k ≤ 64 → (buildW f k).in
  | 0, _ => ⟨Nat.zero_lt_succ _, Nat.zero_lt_succ _⟩
  | k + 1, h => putW_in (buildW_in f (k := k) (by omega)) (by omega)
theorem buildW_bit (f : Nat → Nat) {j : Nat} (hj : j < 64) : ∀ {k : Nat}, k ≤ 64 → (buildW f k).1.testBit j = (decide (j < k) && bz (f j)) ∧ (buildW f k).2.testBit j = (decide (j < k) && bo (f j))
  | 0, _ => by
    show (0 : Nat).testBit j = _ ∧ (0 : Nat).testBit j = _
    rw [Nat.zero_testBit]
    simp
  | k + 1, h => by
    have ih := buildW_bit f hj (k := k) (by omega)
    show (putB _ _ _).testBit j = _ ∧ (putB _ _ _).testBit j = _
    rw [putB_bit (by omega) hj, putB_bit (by omega) hj, ih.1, ih.2]
    by_cases e : k = j
    · subst e; simp
    · rw [if_neg e, if_neg e]
      by_cases h1 : j < k
      · have h2 : j < k + 1 := by omega
        simp [h1, h2]
      · have h2 : ¬ j < k + 1 := by omega
        simp [h1, h2]
theorem buildW_eq {f : Nat → Nat} {a : W2} (ha : a.in) (h : ∀ j, j < 64 → a.1.testBit j = bz (f j) ∧ a.2.testBit j = bo (f j)) : buildW f 64 = a := by
  refine W2.ext (buildW_in f (Nat.le_refl _)) ha fun j hj => ?_
  have hb := buildW_bit f hj (k := 64) (Nat.le_refl _)
  rw [hb.1, hb.2, (h j hj).1, (h j hj).2, decide_eq_true hj]
  exact ⟨Bool.true_and _, Bool.true_and _⟩
theorem bits_of {v : Nat} (hv : v ≤ 2) : v = 0 ∨ v = 1 ∨ v = 2 := by omega
theorem build_not {a : W2} (ha : a.in) (hm : mayW a = true) : buildW (fun j => not1 (atW a j)) 64 = notW a := by
  refine buildW_eq (notW_in ha) fun j hj => ?_
  have h := at_bits ha hm hj
  unfold notW; rw [if_pos hm]
  show a.2.testBit j = _ ∧ a.1.testBit j = _
  rw [h.1, h.2]
  rcases bits_of (atW_le a j) with e | e | e <;> rw [e] <;> exact ⟨rfl, rfl⟩
theorem build_and {a b : W2} (ha : a.in) (hb : b.in) (hma : mayW a = true) (hmb : mayW b = true) : buildW (fun j => and1 (atW a j) (atW b j)) 64 = andW a b := by
  refine buildW_eq (andW_in ha hb) fun j hj => ?_
  have h := at_bits ha hma hj
  have h2 := at_bits hb hmb hj
  unfold andW; rw [if_pos ⟨hma, hmb⟩]
  simp only [Nat.testBit_or, Nat.testBit_and]
  rw [h.1, h.2, h2.1, h2.2]
  rcases bits_of (atW_le a j) with e | e | e <;> rcases bits_of (atW_le b j) with e2 | e2 | e2 <;> rw [e, e2] <;> exact ⟨rfl, rfl⟩
theorem build_zero : buildW (fun _ => 0) 64 = zeroW := by
  refine buildW_eq zeroW_in fun j hj => ?_
  show full.testBit j = _ ∧ (0 : Nat).testBit j = _
  rw [full_bit, Nat.zero_testBit, decide_eq_true hj]
  exact ⟨rfl, rfl⟩

/-- The number whose bit j is g j, for the first k places. -/
def buildN (g : Nat → Bool) : Nat → Nat
  | 0 => 0
  | k + 1 => if g k then buildN g k + 2 ^ k else buildN g k
theorem buildN_lt (g : Nat → Bool) : ∀ k, buildN g k < 2 ^ k
  | 0 => by show 0 < 2 ^ 0; decide
  | k + 1 => by
    have ih := buildN_lt g k
    have h2 : 2 ^ (k + 1) = 2 ^ k + 2 ^ k := by rw [Nat.pow_succ]; omega
    unfold buildN
    split <;> omega
theorem buildN_bit (g : Nat → Bool) (j : Nat) : ∀ k, (buildN g k).testBit j = (decide (j < k) && g j)
  | 0 => by show (0 : Nat).testBit j = _; rw [Nat.zero_testBit]; simp
  | k + 1 => by
    have ih := buildN_bit g j k
    have hl := buildN_lt g k
    unfold buildN
    by_cases hg : g k = true
    · have e0 := Nat.two_pow_add_eq_or_of_lt hl 1
      rw [Nat.mul_one] at e0
      rw [if_pos hg, Nat.add_comm, e0, Nat.testBit_or, Nat.testBit_two_pow, ih]
      by_cases e : k = j
      · subst e; simp [hg]
      · by_cases h1 : j < k
        · have h2 : j < k + 1 := by omega
          simp [h1, h2, e]
        · have h2 : ¬ j < k + 1 := by omega
          simp [h1, h2, e]
    · rw [if_neg hg, ih]
      by_cases e : k = j
      · subst e
        have : g k = false := by simpa using hg
        simp [this]
      · by_cases h1 : j < k
        · have h2 : j < k + 1 := by omega
          simp [h1, h2]
        · have h2 : ¬ j < k + 1 := by omega
          simp [h1, h2]
/-- Is the value within? -/
def inW (a b : W2) (j : Nat) : Bool := decide (atW b j = 2) || decide (atW a j = atW b j)
theorem build_within {a b : W2} (ha : a.in) (hb : b.in) (hma : mayW a = true) (hmb : mayW b = true) : buildN (inW a b) 64 = withinW a b := by
  have hl : buildN (inW a b) 64 < 18446744073709551616 := buildN_lt _ 64
  refine eq_of_bits hl (withinW_lt a b) fun j hj => ?_
  rw [buildN_bit, within_bit ha hb hma hmb hj, decide_eq_true hj, Bool.true_and]
  have h := at_bits ha hma hj
  have h2 := at_bits hb hmb hj
  rw [h.1, h.2, h2.1, h2.2]
  unfold inW
  rcases bits_of (atW_le a j) with e | e | e <;> rcases bits_of (atW_le b j) with e2 | e2 | e2 <;> rw [e, e2] <;> rfl
end Go.Proofs.Ytglhnmbfkbjemaa
