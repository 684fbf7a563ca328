/- The words of a line, on plain lists. -/
import Derived.Test.YtkimhlomadmnkaaDoorOwnStr
namespace Go.Proofs.YtkimhlomadmnkaaDoor
open Go Go.RowKit

/-- The pieces of a line between blanks, empty ones too. -/
def splitW : List UInt8 → List (List UInt8)
  | [] => [[]]
  | x :: r => if x = 32 then [] :: splitW r else match splitW r with
    | [] => [[x]]
    | h :: t => (x :: h) :: t

/-- The words of a line, if none is empty. -/
def wordsOf (l : List UInt8) : Option (List (List UInt8)) :=
  if l = [] then some [] else if (splitW l).any List.isEmpty then none else some (splitW l)

theorem splitW_ne : ∀ l, splitW l ≠ []
  | [] => by simp [splitW]
  | x :: r => by
    rw [splitW]
    split
    · simp
    · split <;> simp

theorem splitW_last : ∀ (l : List UInt8), (∀ x ∈ l, x ≠ 32) → splitW l = [l]
  | [], _ => rfl
  | x :: r, h => by
    have ih := splitW_last r (fun y hy => h y (by simp [hy]))
    rw [splitW, if_neg (h x (by simp)), ih]

theorem splitW_step : ∀ (l r : List UInt8), (∀ x ∈ l, x ≠ 32) → splitW (l ++ 32 :: r) = l :: splitW r
  | [], r, _ => by simp [splitW]
  | x :: l, r, h => by
    have ih := splitW_step l r (fun y hy => h y (by simp [hy]))
    rw [List.cons_append, splitW, if_neg (h x (by simp)), ih]

/-- What holds at a round's head of Words: k bytes seen, the words W are done, the next one begins at s. -/
structure WInv (l : List UInt8) (k s : Nat) (W : List (List UInt8)) : Prop where
  done : splitW l = W ++ splitW (l.drop s)
  full : ∀ u ∈ W, u ≠ []
  free : ∀ m, s ≤ m → m < k → l.getD m 0 ≠ 32
  few : W.length ≤ k

theorem WInv.init (l : List UInt8) : WInv l 0 0 [] := ⟨rfl, by simp, fun m _ h => absurd h (by omega), Nat.le_refl _⟩

theorem window_free {l : List UInt8} {k s : Nat} (hk : k ≤ l.length) (h : ∀ m, s ≤ m → m < k → l.getD m 0 ≠ 32) : ∀ x ∈ (l.take k).drop s, x ≠ 32 := by
  intro x hx
  obtain ⟨j, hj, rfl⟩ := List.getElem_of_mem hx
  have hj' : s + j < k := by simp at hj; omega
  have := h (s + j) (by omega) hj'
  simp only [List.getElem_drop, List.getElem_take]
  simpa [List.getD, List.getElem?_eq_getElem (show s + j < l.length by omega)] using this

theorem drop_at {l : List UInt8} {k s : Nat} (hsk : s ≤ k) (hk : k < l.length) : l.drop s = (l.take k).drop s ++ l.getD k 0 :: l.drop (k + 1) := by
  have h1 : l = l.take k ++ l.drop k := (List.take_append_drop k l).symm
  have h2 : l.drop k = l.getD k 0 :: l.drop (k + 1) := by
    rw [List.drop_eq_getElem_cons hk]
    simp [List.getD, List.getElem?_eq_getElem hk]
  have hl : (l.take k).length = k := by simp; omega
  conv => lhs; rw [h1, List.drop_append_of_le_length (by omega), h2]

theorem WInv.next {l : List UInt8} {k s : Nat} {W : List (List UInt8)} (h : WInv l k s W) (h32 : l.getD k 0 ≠ 32) : WInv l (k + 1) s W := by
  refine ⟨h.done, h.full, fun m h1 h2 => ?_, by have := h.few; omega⟩
  rcases Nat.lt_or_ge m k with h' | h'
  · exact h.free m h1 h'
  · have : m = k := by omega
    subst this; exact h32

theorem WInv.word {l : List UInt8} {k s : Nat} {W : List (List UInt8)} (h : WInv l k s W) (hk : k < l.length) (hs : s < k) (h32 : l.getD k 0 = 32) : WInv l (k + 1) (k + 1) (W ++ [(l.take k).drop s]) := by
  refine ⟨?_, ?_, fun m h1 h2 => absurd h1 (by omega), by have := h.few; simp; omega⟩
  · rw [h.done, drop_at (Nat.le_of_lt hs) hk, h32, splitW_step _ _ (window_free (Nat.le_of_lt hk) h.free)]
    simp
  · intro u hu
    rcases List.mem_append.1 hu with hu | hu
    · exact h.full u hu
    · have : u = (l.take k).drop s := by simpa using hu
      subst this
      intro e
      have := congrArg List.length e
      simp at this
      omega

theorem any_empty {W V : List (List UInt8)} (h : ∀ u ∈ W, u ≠ []) : (W ++ V).any List.isEmpty = V.any List.isEmpty := by
  rw [List.any_append]
  have : W.any List.isEmpty = false := by
    rw [List.any_eq_false]
    intro x hx
    have := h x hx
    simpa using this
  rw [this, Bool.false_or]

/-- A blank where a word should begin. -/
theorem WInv.blank {l : List UInt8} {k s : Nat} {W : List (List UInt8)} (h : WInv l k s W) (hk : s < l.length) (h32 : l.getD s 0 = 32) : wordsOf l = none := by
  have hne : l ≠ [] := by intro e; subst e; simp at hk
  unfold wordsOf
  rw [if_neg hne, if_pos]
  rw [h.done, any_empty h.full, drop_at (Nat.le_refl s) hk, h32]
  simp [splitW]

/-- The line ends where a word should begin. -/
theorem WInv.short {l : List UInt8} {k : Nat} {W : List (List UInt8)} (h : WInv l k l.length W) (hne : l ≠ []) : wordsOf l = none := by
  unfold wordsOf
  rw [if_neg hne, if_pos]
  rw [h.done, any_empty h.full]
  simp [splitW]

/-- The last word. -/
theorem WInv.last {l : List UInt8} {s : Nat} {W : List (List UInt8)} (h : WInv l l.length s W) (hs : s < l.length) : wordsOf l = some (W ++ [l.drop s]) := by
  have hne : l ≠ [] := by intro e; subst e; simp at hs
  have hf := window_free (Nat.le_refl _) h.free
  rw [List.take_length] at hf
  have e : splitW l = W ++ [l.drop s] := by rw [h.done, splitW_last _ hf]
  unfold wordsOf
  rw [if_neg hne, e, if_neg]
  rw [any_empty h.full]
  simp
  omega

/-- In the middle of the last word, if no blank is left: there is no blank at its beginning. -/
theorem WInv.begin {l : List UInt8} {s : Nat} {W : List (List UInt8)} (h : WInv l l.length s W) (hs : s < l.length) : l.getD s 0 ≠ 32 := h.free s (Nat.le_refl _) hs

theorem splitW_size : ∀ (l : List UInt8), (splitW l).length ≤ l.length + 1 ∧ ∀ x ∈ splitW l, x.length ≤ l.length
  | [] => by simp [splitW]
  | x :: r => by
    have ⟨h1, h2⟩ := splitW_size r
    rw [splitW]
    split
    · refine ⟨by simp; omega, fun y hy => ?_⟩
      rcases List.mem_cons.1 hy with rfl | hy
      · simp
      · have := h2 y hy; simp; omega
    · split
      · exact ⟨by simp, fun y hy => by simp at hy; subst hy; simp⟩
      · rename_i h t he
        rw [he] at h1 h2
        refine ⟨by simp only [List.length_cons] at h1 ⊢; omega, fun y hy => ?_⟩
        rcases List.mem_cons.1 hy with rfl | hy
        · have := h2 h (by simp); simp; omega
        · have := h2 y (by simp [hy]); simp; omega

theorem wordsOf_size {l : List UInt8} {W : List (List UInt8)} (h : wordsOf l = some W) : W.length ≤ l.length + 1 ∧ ∀ x ∈ W, x.length ≤ l.length := by
  unfold wordsOf at h
  split at h
  · have : W = [] := by simpa using h.symm
    subst this; simp
  · split at h
    · cases h
    · have : W = splitW l := by simpa using h.symm
      subst this
      exact splitW_size l
end Go.Proofs.YtkimhlomadmnkaaDoor
