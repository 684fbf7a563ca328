/- Numerals, words and lines, on plain lists: what is written is read, and what is read is written. -/
import Derived.Test.YtkimhlomadmnkaaDoorWrite
import Derived.Test.YtkimhlomadmnkaaDoorNumbers
namespace Go.Proofs.YtkimhlomadmnkaaDoor
open Go Go.RowKit

theorem digit_byte (d : Nat) (h : d < 10) : (UInt8.ofNat (48 + d)).toNat = 48 + d := by
  rw [UInt8.toNat_ofNat']; omega

theorem dec_lt {u : Nat} (h : u < 10) : Lib.decDigits u = [UInt8.ofNat (48 + u)] := by rw [Lib.decDigits, dif_pos h]
theorem dec_ge {u : Nat} (h : ¬ u < 10) : Lib.decDigits u = Lib.decDigits (u / 10) ++ [UInt8.ofNat (48 + u % 10)] := by rw [Lib.decDigits, dif_neg h]

theorem dec_val (u : Nat) : numVal (Lib.decDigits u) = u := by
  induction u using Nat.strongRecOn with
  | _ u ih =>
    by_cases h : u < 10
    · rw [dec_lt h]; simp only [numVal, List.foldl_cons, List.foldl_nil, digit_byte u h]; omega
    · rw [dec_ge h, numVal_snoc, ih (u / 10) (by omega), digit_byte _ (by omega)]; omega

theorem dec_all (u : Nat) : ∀ x ∈ Lib.decDigits u, isDig x = true := by
  have one : ∀ d, d < 10 → isDig (UInt8.ofNat (48 + d)) = true := by
    intro d hd
    unfold isDig
    rw [digit_byte d hd, decide_eq_true (by omega), decide_eq_true (by omega)]; rfl
  induction u using Nat.strongRecOn with
  | _ u ih =>
    by_cases h : u < 10
    · rw [dec_lt h]; intro x hx; have : x = UInt8.ofNat (48 + u) := by simpa using hx
      subst this; exact one u h
    · rw [dec_ge h]
      intro x hx
      rcases List.mem_append.1 hx with hx | hx
      · exact ih (u / 10) (by omega) x hx
      · have : x = UInt8.ofNat (48 + u % 10) := by simpa using hx
        subst this; exact one _ (by omega)

theorem dec_ne (u : Nat) : Lib.decDigits u ≠ [] := by
  by_cases h : u < 10
  · rw [dec_lt h]; simp
  · rw [dec_ge h]; simp

theorem dec_head (u : Nat) (h1 : 1 ≤ u) : (Lib.decDigits u).head? ≠ some 48 := by
  induction u using Nat.strongRecOn with
  | _ u ih =>
    by_cases h : u < 10
    · rw [dec_lt h]
      intro e
      have e' : UInt8.ofNat (48 + u) = 48 := by simpa using e
      have := congrArg UInt8.toNat e'
      rw [digit_byte u h] at this
      have h48 : (48 : UInt8).toNat = 48 := rfl
      omega
    · rw [dec_ge h, List.head?_append]
      have := ih (u / 10) (by omega) (by omega)
      cases hh : (Lib.decDigits (u / 10)).head? with
      | none => rw [List.head?_eq_none_iff] at hh; exact absurd hh (dec_ne _)
      | some x => rw [hh] at this; simpa using this

theorem dec_err (u most : Nat) (h : u ≤ most) : numErr (Lib.decDigits u) most = 0 := by
  have e := num_end (Lib.decDigits u) most (dec_ne u) (by
    rintro ⟨h1, h2⟩
    rcases Nat.eq_zero_or_pos u with h0 | h0
    · subst h0; rw [dec_lt (by omega)] at h2; simp at h2
    · exact dec_head u h0 h1) (fun m hm => by
      have := dec_all u ((Lib.decDigits u).getD m 0) (by simp [List.getD, List.getElem?_eq_getElem hm])
      exact this)
  rw [e, dec_val, if_neg (by omega)]

theorem dec_num (u most : Nat) (h : u ≤ most) : numOf (Lib.decDigits u) most = u := by rw [numOf, dec_err u most h, if_pos rfl, dec_val]

/-- A word that is a number is its numeral. -/
theorem dec_canon (x : List UInt8) : x ≠ [] → ¬ (x.head? = some 48 ∧ 1 < x.length) → (∀ c ∈ x, isDig c = true) → Lib.decDigits (numVal x) = x := by
  generalize hn : x.length = n
  induction n generalizing x with
  | zero => intro h; exact absurd (List.eq_nil_of_length_eq_zero hn) h
  | succ n ih' =>
    intro hne hz hd
    obtain ⟨y, c, rfl⟩ : ∃ y c, x = y ++ [c] := ⟨x.dropLast, x.getLast hne, (List.dropLast_concat_getLast hne).symm⟩
    have ih := ih' y (by simpa using hn)
    have hc := hd c (by simp)
    have hc1 : 48 ≤ c.toNat ∧ c.toNat ≤ 57 := by simpa [isDig] using hc
    have hcc : UInt8.ofNat (48 + (c.toNat - 48)) = c := by
      apply UInt8.toNat_inj.1
      rw [digit_byte _ (by omega)]; omega
    rw [numVal_snoc]
    by_cases hy : y = []
    · subst hy
      rw [show numVal [] = 0 from rfl, Nat.mul_zero, Nat.zero_add, dec_lt (by omega), hcc]; rfl
    · have hyl : 0 < y.length := List.length_pos_iff.2 hy
      have hh : y.head? ≠ some 48 := by
        intro e
        apply hz
        refine ⟨by rw [List.head?_append, e]; rfl, by simp at hn; omega⟩
      have hv := ih hy (fun h => hh h.1) (fun c hc => hd c (by simp [hc]))
      have hpos : 1 ≤ numVal y := by
        have h1 := numVal_mono y 1 y.length hyl (Nat.le_refl _)
        rw [List.take_length] at h1
        cases y with
        | nil => exact absurd rfl hy
        | cons a r =>
          have ha := hd a (by simp)
          have ha1 : 48 ≤ a.toNat ∧ a.toNat ≤ 57 := by simpa [isDig] using ha
          have hne : a.toNat ≠ 48 := by
            intro e
            apply hh
            have : a = 48 := UInt8.toNat_inj.1 e
            rw [this]; rfl
          have : numVal ((a :: r).take 1) = a.toNat - 48 := by simp [numVal]
          omega
      rw [dec_ge (by omega), show (10 * numVal y + (c.toNat - 48)) / 10 = numVal y by omega, show (10 * numVal y + (c.toNat - 48)) % 10 = c.toNat - 48 by omega, hv, hcc]

theorem err_canon {x : List UInt8} {most : Nat} (h : numErr x most = 0) : Lib.decDigits (numOf x most) = x := by
  have h' := h
  unfold numErr at h
  split at h
  · cases h
  · rename_i hn
    rw [numOf, if_pos h']
    refine dec_canon x (fun e => hn (Or.inl e)) (fun e => hn (Or.inr (Or.inl e))) fun c hc => ?_
    cases hd : isDig c with
    | true => rfl
    | false =>
      refine absurd (Or.inr (Or.inr ?_)) hn
      rw [List.all_eq_false]
      exact ⟨c, hc, by rw [hd]; decide⟩

/-- Words behind others, and words, blanks between. -/
def tailW : List (List UInt8) → List UInt8
  | [] => []
  | x :: r => 32 :: (x ++ tailW r)
def joinW : List (List UInt8) → List UInt8
  | [] => []
  | x :: r => x ++ tailW r

theorem tailOf_eq : ∀ l : List Nat, tailOf l = tailW (l.map Lib.decDigits)
  | [] => rfl
  | x :: r => by simp [tailOf, tailW, tailOf_eq r]
theorem bodyOf_eq (l : List Nat) : bodyOf l = joinW (l.map Lib.decDigits) := by
  cases l with
  | nil => rfl
  | cons x r => simp [bodyOf, joinW, tailOf_eq]

theorem tailW_join {W : List (List UInt8)} (h : W ≠ []) : tailW W = 32 :: joinW W := by
  cases W with
  | nil => exact absurd rfl h
  | cons x r => rfl

theorem joinW_split : ∀ l, joinW (splitW l) = l
  | [] => rfl
  | x :: r => by
    have ih := joinW_split r
    rw [splitW]
    split
    · rename_i h
      rw [joinW, List.nil_append, tailW_join (splitW_ne r), ih, h]
    · split
      · rename_i h; exact absurd h (splitW_ne r)
      · rename_i a b h
        rw [h, joinW] at ih
        rw [joinW, List.cons_append, ih]

theorem splitW_join : ∀ (x : List UInt8) (W : List (List UInt8)), (∀ y ∈ x :: W, ∀ c ∈ y, c ≠ 32) → splitW (joinW (x :: W)) = x :: W
  | x, [], h => by rw [joinW, tailW, List.append_nil]; exact splitW_last x (h x (by simp))
  | x, y :: W, h => by
    have ih := splitW_join y W (fun z hz => h z (by simp at hz ⊢; exact Or.inr hz))
    rw [joinW, tailW_join (by simp), splitW_step x _ (h x (by simp)), ih]

theorem dec_blank (u : Nat) : ∀ c ∈ Lib.decDigits u, c ≠ 32 ∧ c ≠ 10 := by
  intro c hc
  have h := dec_all u c hc
  constructor
  · intro e; subst e; exact absurd h (by decide)
  · intro e; subst e; exact absurd h (by decide)

theorem words_body (l : List Nat) : wordsOf (bodyOf l) = some (l.map Lib.decDigits) := by
  rw [bodyOf_eq]
  cases l with
  | nil => rfl
  | cons x r =>
    have hs : splitW (joinW ((x :: r).map Lib.decDigits)) = (x :: r).map Lib.decDigits := by
      rw [List.map_cons]
      refine splitW_join _ _ fun y hy c hc => ?_
      rw [← List.map_cons] at hy
      obtain ⟨u, _, rfl⟩ := List.mem_map.1 hy
      exact (dec_blank u c hc).1
    have hne : joinW ((x :: r).map Lib.decDigits) ≠ [] := by
      rw [List.map_cons, joinW]
      intro e
      have := List.append_eq_nil_iff.1 e
      exact dec_ne x this.1
    unfold wordsOf
    rw [if_neg hne, hs, if_neg]
    intro h
    rw [List.any_eq_true] at h
    obtain ⟨y, hy, he⟩ := h
    obtain ⟨u, _, rfl⟩ := List.mem_map.1 hy
    exact dec_ne u (by simpa using he)

theorem body_free (l : List Nat) : ∀ c ∈ bodyOf l, c ≠ 10 := by
  have tail : ∀ l : List Nat, ∀ c ∈ tailOf l, c ≠ 10 := by
    intro l
    induction l with
    | nil => intro c hc; cases hc
    | cons x r ih =>
      intro c hc
      simp only [tailOf, List.mem_cons, List.mem_append] at hc
      rcases hc with hc | hc | hc
      · subst hc; decide
      · exact (dec_blank x c hc).2
      · exact ih c hc
  cases l with
  | nil => intro c hc; cases hc
  | cons x r =>
    intro c hc
    simp only [bodyOf, List.mem_append] at hc
    rcases hc with hc | hc
    · exact (dec_blank x c hc).2
    · exact tail r c hc

theorem ahead_line (l r : List UInt8) (h : ∀ c ∈ l, c ≠ 10) : ahead (l ++ 10 :: r) = l.length := by
  unfold ahead
  induction l with
  | nil => rfl
  | cons x t ih =>
    have := ih (fun c hc => h c (by simp [hc]))
    have hx := h x (by simp)
    rw [List.cons_append, List.takeWhile_cons, if_pos (by simpa using hx), List.length_cons, this, List.length_cons]

theorem firstErr_zero : ∀ {W : List (List UInt8)} {most : Nat}, firstErr W most = 0 → ∀ x ∈ W, numErr x most = 0
  | [], _, _, x, hx => by cases hx
  | y :: r, most, h, x, hx => by
    rw [firstErr] at h
    split at h
    · rename_i h0
      rcases List.mem_cons.1 hx with rfl | hx
      · exact h0
      · exact firstErr_zero h x hx
    · rename_i h0; exact absurd h h0
theorem firstErr_of : ∀ {W : List (List UInt8)} {most : Nat}, (∀ x ∈ W, numErr x most = 0) → firstErr W most = 0
  | [], _, _ => rfl
  | y :: r, most, h => by rw [firstErr, if_pos (h y (by simp))]; exact firstErr_of fun x hx => h x (by simp [hx])

/-- P1.3: what is read as numbers is written as the same bytes. -/
theorem read_written {bs : List UInt8} {least many : Int} {most : Nat} (h : numsErr bs least many most = 0) : bodyOf (numsOf bs most) = bs := by
  unfold numsErr at h
  cases hw : wordsOf bs with
  | none => rw [hw] at h; cases h
  | some W =>
    rw [hw] at h
    simp only at h
    split at h
    · cases h
    · have hz := firstErr_zero h
      have e : (numsOf bs most).map Lib.decDigits = W := by
        unfold numsOf
        rw [hw]
        simp only [Option.getD_some, List.map_map]
        conv => rhs; rw [← List.map_id W]
        apply List.map_congr_left
        intro x hx
        exact err_canon (hz x hx)
      rw [bodyOf_eq, e]
      unfold wordsOf at hw
      split at hw
      · rename_i hb
        have : W = [] := by simpa using hw.symm
        subst this; rw [hb]; rfl
      · split at hw
        · cases hw
        · have : W = splitW bs := by simpa using hw.symm
          rw [this, joinW_split]

/-- P1.3: a line that was written is read as its numbers. -/
theorem written_read (l : List Nat) (most : Nat) (hl : ∀ x ∈ l, x ≤ most) (least many : Int) (h1 : least ≤ (l.length : Int)) (h2 : (l.length : Int) ≤ many) : numsErr (bodyOf l) least many most = 0 ∧ numsOf (bodyOf l) most = l := by
  constructor
  · unfold numsErr
    rw [words_body]
    simp only [List.length_map]
    rw [if_neg (by omega)]
    refine firstErr_of fun x hx => ?_
    obtain ⟨u, hu, rfl⟩ := List.mem_map.1 hx
    exact dec_err u most (hl u hu)
  · unfold numsOf
    rw [words_body]
    simp only [Option.getD_some, List.map_map]
    conv => rhs; rw [← List.map_id l]
    apply List.map_congr_left
    intro u hu
    exact dec_num u most (hl u hu)

theorem written_few (l : List Nat) (most : Nat) (least many : Int) (h1 : (l.length : Int) < least) : numsErr (bodyOf l) least many most = 5 := by
  unfold numsErr
  rw [words_body]
  simp only [List.length_map]
  rw [if_pos (Or.inl h1)]
end Go.Proofs.YtkimhlomadmnkaaDoor
