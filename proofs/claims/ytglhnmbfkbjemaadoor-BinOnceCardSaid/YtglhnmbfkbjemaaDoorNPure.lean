/- Binary heaps on plain lists of numbers: what the library's up and down keep. -/
import Derived.WalkKit
namespace Go.Proofs.YtglhnmbfkbjemaaDoor

/-- Two places exchanged. -/
def swapL (l : List Nat) (i j : Nat) : List Nat := (l.set i (l.getD j 0)).set j (l.getD i 0)
theorem swapL_len (l : List Nat) (i j : Nat) : (swapL l i j).length = l.length := by simp [swapL]
theorem swapL_get (l : List Nat) (i j k : Nat) (hi : i < l.length) (hj : j < l.length) : (swapL l i j).getD k 0 = if k = j then l.getD i 0 else if k = i then l.getD j 0 else l.getD k 0 := by
  unfold swapL
  simp only [List.getD, List.getElem?_set]
  by_cases h1 : k = j
  · subst h1; simp [hj]
  · by_cases h2 : k = i
    · subst h2; simp [Ne.symm h1, hi, h1]
    · simp [Ne.symm h1, Ne.symm h2, h1, h2]
theorem swapL_perm (l : List Nat) (i j : Nat) (hi : i < l.length) (hj : j < l.length) : (swapL l i j).Perm l := by
  have h : swapL l i j = (l.set i l[j]).set j l[i] := by
    unfold swapL
    simp [List.getD, List.getElem?_eq_getElem hi, List.getElem?_eq_getElem hj]
  rw [h]
  exact List.set_set_perm hi hj

/-- The first n are a heap. -/
def HeapN (l : List Nat) (n : Nat) : Prop := ∀ k, 0 < k → k < n → l.getD ((k - 1) / 2) 0 ≤ l.getD k 0
/-- But for place j, that may be too small. -/
def UpInv (l : List Nat) (n j : Nat) : Prop :=
  (∀ k, 0 < k → k < n → k ≠ j → l.getD ((k - 1) / 2) 0 ≤ l.getD k 0) ∧ (∀ k, 0 < k → k < n → (k - 1) / 2 = j → 0 < j → l.getD ((j - 1) / 2) 0 ≤ l.getD k 0)
/-- But for place i, that may be too great. -/
def DownInv (l : List Nat) (n i : Nat) : Prop :=
  (∀ k, 0 < k → k < n → (k - 1) / 2 ≠ i → l.getD ((k - 1) / 2) 0 ≤ l.getD k 0) ∧ (∀ k, 0 < k → k < n → (k - 1) / 2 = i → 0 < i → l.getD ((i - 1) / 2) 0 ≤ l.getD k 0)

theorem up_done0 {l : List Nat} {n : Nat} (h : UpInv l n 0) : HeapN l n := fun k h0 hk => h.1 k h0 hk (by omega)
theorem up_done {l : List Nat} {n j : Nat} (h : UpInv l n j) (hle : l.getD ((j - 1) / 2) 0 ≤ l.getD j 0) : HeapN l n := fun k h0 hk => by
  by_cases e : k = j
  · subst e; exact hle
  · exact h.1 k h0 hk e
theorem up_step {l : List Nat} {n j : Nat} (h : UpInv l n j) (hn : n = l.length) (h0 : 0 < j) (hj : j < n) (hlt : l.getD j 0 < l.getD ((j - 1) / 2) 0) : UpInv (swapL l ((j - 1) / 2) j) n ((j - 1) / 2) := by
  have hi : (j - 1) / 2 < l.length := by omega
  have hjl : j < l.length := by omega
  refine ⟨fun k hk0 hkn hki => ?_, fun k hk0 hkn hkp hi0 => ?_⟩
  · rw [swapL_get _ _ _ _ hi hjl, swapL_get _ _ _ _ hi hjl]
    by_cases hkj : k = j
    · subst hkj
      rw [if_neg (by omega), if_pos rfl, if_pos rfl]; omega
    · have h1 := h.1 k hk0 hkn hkj
      rw [if_neg hkj, if_neg hki]
      by_cases hp : (k - 1) / 2 = j
      · rw [if_pos hp]
        exact h.2 k hk0 hkn hp h0
      · rw [if_neg hp]
        by_cases hp2 : (k - 1) / 2 = (j - 1) / 2
        · rw [if_pos hp2]; rw [hp2] at h1; omega
        · rw [if_neg hp2]; exact h1
  · rw [swapL_get _ _ _ _ hi hjl, swapL_get _ _ _ _ hi hjl]
    have h1 := h.1 ((j - 1) / 2) hi0 (by omega) (by omega)
    rw [if_neg (show ¬ ((j - 1) / 2 - 1) / 2 = j by omega), if_neg (show ¬ ((j - 1) / 2 - 1) / 2 = (j - 1) / 2 by omega)]
    by_cases hkj : k = j
    · rw [if_pos hkj]; exact h1
    · rw [if_neg hkj, if_neg (by omega)]
      have h2 := h.1 k hk0 hkn hkj
      rw [hkp] at h2
      omega

theorem down_leaf {l : List Nat} {n i : Nat} (h : DownInv l n i) (hn : n ≤ 2 * i + 1) : HeapN l n := fun k h0 hk => h.1 k h0 hk (by omega)
theorem down_done {l : List Nat} {n i j : Nat} (h : DownInv l n i) (hm : ∀ k, 0 < k → k < n → (k - 1) / 2 = i → l.getD j 0 ≤ l.getD k 0) (hle : l.getD i 0 ≤ l.getD j 0) : HeapN l n := fun k h0 hk => by
  by_cases e : (k - 1) / 2 = i
  · have := hm k h0 hk e
    rw [e]; omega
  · exact h.1 k h0 hk e
theorem down_step {l : List Nat} {n i j : Nat} (h : DownInv l n i) (hn : n ≤ l.length) (h0 : 0 < j) (hj : j < n) (hp : (j - 1) / 2 = i) (hm : ∀ k, 0 < k → k < n → (k - 1) / 2 = i → l.getD j 0 ≤ l.getD k 0) (hlt : l.getD j 0 < l.getD i 0) : DownInv (swapL l i j) n j := by
  have hi : i < l.length := by omega
  have hjl : j < l.length := by omega
  refine ⟨fun k hk0 hkn hkp => ?_, fun k hk0 hkn hkp hj0 => ?_⟩
  · rw [swapL_get _ _ _ _ hi hjl, swapL_get _ _ _ _ hi hjl]
    rw [if_neg hkp]
    by_cases hpi : (k - 1) / 2 = i
    · rw [if_pos hpi]
      by_cases hkj : k = j
      · rw [if_pos hkj]; omega
      · rw [if_neg hkj, if_neg (by omega)]
        exact hm k hk0 hkn hpi
    · rw [if_neg hpi]
      have h1 := h.1 k hk0 hkn hpi
      have hkj : k ≠ j := by intro e; subst e; exact hpi hp
      rw [if_neg hkj]
      by_cases hki : k = i
      · rw [if_pos hki]
        have := h.2 j h0 hj hp (by omega)
        rw [hki]; exact this
      · rw [if_neg hki]; exact h1
  · rw [swapL_get _ _ _ _ hi hjl, swapL_get _ _ _ _ hi hjl]
    rw [hp, if_neg (by omega), if_pos rfl, if_neg (by omega), if_neg (by omega)]
    have h1 := h.1 k hk0 hkn (by omega)
    rw [hkp] at h1
    exact h1

theorem heap_min {l : List Nat} {n : Nat} (h : HeapN l n) : ∀ k, k < n → l.getD 0 0 ≤ l.getD k 0 := by
  intro k
  induction k using Nat.strongRecOn with
  | ind k ih =>
    intro hk
    by_cases h0 : k = 0
    · subst h0; exact Nat.le_refl _
    · have h1 := ih ((k - 1) / 2) (by omega) (by omega)
      have h2 := h k (by omega) hk
      omega

theorem heap_nil : HeapN [] 0 := fun k _ h => absurd h (by omega)
/-- One more at the end. -/
theorem up_begin {l : List Nat} {x n : Nat} (h : HeapN l l.length) (hn : n = l.length + 1) : UpInv (l ++ [x]) n l.length := by
  subst hn
  have e : ∀ k, k < l.length → (l ++ [x]).getD k 0 = l.getD k 0 := fun k hk => by
    simp [List.getD, List.getElem?_append_left hk]
  refine ⟨fun k h0 hk hne => ?_, fun k h0 hk hp _ => absurd hk (by omega)⟩
  rw [e k (by omega), e ((k - 1) / 2) (by omega)]
  exact h k h0 (by omega)
/-- The first and the last exchanged. -/
theorem down_begin {l : List Nat} {m : Nat} (h : HeapN l (m + 1)) (hl : l.length = m + 1) : DownInv (swapL l 0 m) m 0 := by
  refine ⟨fun k h0 hk hp => ?_, fun k _ _ _ h => absurd h (by omega)⟩
  rw [swapL_get _ _ _ _ (by omega) (by omega), swapL_get _ _ _ _ (by omega) (by omega), if_neg (by omega), if_neg hp, if_neg (by omega), if_neg (by omega)]
  exact h k h0 (by omega)
theorem heap_take {l : List Nat} {m : Nat} (h : HeapN l m) : HeapN (l.take m) m := fun k h0 hk => by
  have e : ∀ j, j < m → (l.take m).getD j 0 = l.getD j 0 := fun j hj => by simp [List.getD, List.getElem?_take_of_lt hj]
  rw [e k hk, e _ (by omega)]; exact h k h0 hk
theorem heap_last {l l0 : List Nat} {m : Nat} (hl : l.length = m + 1) (hp : l.Perm l0) : l0.Perm (l.getD m 0 :: l.take m) := by
  refine hp.symm.trans ?_
  have e : l = l.take m ++ [l.getD m 0] := by
    conv => lhs; rw [← List.take_append_drop m l]
    congr 1
    rw [List.drop_eq_getElem_cons (by omega), List.drop_eq_nil_of_le (by omega)]
    simp [List.getD, List.getElem?_eq_getElem (show m < l.length by omega)]
  conv => lhs; rw [e]
  exact (List.perm_append_comm (l₁ := l.take m) (l₂ := [l.getD m 0]))
end Go.Proofs.YtglhnmbfkbjemaaDoor
