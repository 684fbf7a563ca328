/- What is put is got, on plain lists; with a remark behind it too; cut, it is refused. -/
import Derived.Test.YtbpdjfjjkioeaaaDoorRawText
namespace Go.Proofs.YtbpdjfjjkioeaaaDoor
open Go Go.RowKit

theorem cut_line (l r : List UInt8) (h : ∀ c ∈ l, c ≠ 10) : cutS (l ++ 10 :: r) = some (l, r) := by
  have ha := ahead_line l r h
  unfold cutS
  rw [ha, if_pos (by simp)]
  have e1 : (l ++ 10 :: r).take l.length = l := List.take_left' rfl
  have e2 : (l ++ 10 :: r).drop (l.length + 1) = r := by rw [← List.drop_drop, List.drop_left' rfl]; rfl
  rw [e1, e2]
theorem cut_nums (l : List Nat) (r : List UInt8) : cutS (lineOf l ++ r) = some (bodyOf l, r) := by
  have e : lineOf l ++ r = bodyOf l ++ 10 :: r := by simp [lineOf]
  rw [e]; exact cut_line _ _ (body_free l)
/-- A part of a line without its end. -/
theorem cut_short (l : List UInt8) (h : ∀ c ∈ l, c ≠ 10) : cutS l = none := by
  have ha : ahead l = l.length := by
    unfold ahead
    induction l with
    | nil => rfl
    | cons x t ih =>
      have hx := h x (by simp)
      rw [List.takeWhile_cons, if_pos (by simpa using hx), List.length_cons, ih (fun c hc => h c (by simp [hc])), List.length_cons]
  unfold cutS
  rw [ha, if_neg (by omega)]

/-- The lines of a section are read. -/
theorem sect_read {α : Type} (item : List UInt8 → Nat → Except Int α) (most : Nat) (f : α → List Nat) : ∀ (xs : List α) (r : List UInt8), (∀ x ∈ xs, item (bodyOf (f x)) most = .ok x) → sectS item most xs.length (linesOf (xs.map f) ++ r) = .ok (xs, r)
  | [], r, _ => rfl
  | x :: t, r, h => by
    rw [List.length_cons, sectS, List.map_cons, linesOf, List.append_assoc, cut_nums]
    simp only [h x (by simp)]
    rw [sect_read item most f t r (fun y hy => h y (by simp [hy]))]

theorem lit_read {x most : Nat} (h : x ≤ most) : litS (bodyOf [x]) most = .ok x := by
  have hr := written_read [x] most (by simpa using h) 1 1 (by simp) (by simp)
  unfold litS
  rw [if_pos hr.1, hr.2]; rfl
theorem gate_read {t : Tri} {most : Nat} (h1 : t.1 ≤ most) (h2 : t.2.1 ≤ most) (h3 : t.2.2 ≤ most) : gateS (bodyOf (triNums t)) most = .ok t := by
  have hr := written_read (triNums t) most (by intro x hx; simp [triNums] at hx; rcases hx with rfl | rfl | rfl <;> assumption) 3 3 (by simp [triNums]) (by simp [triNums])
  unfold gateS
  rw [if_pos hr.1, hr.2]; rfl
theorem lat_read {t : Tri} {most : Nat} (h1 : t.1 ≤ most) (h2 : t.2.1 ≤ most) (h3 : t.2.2 ≤ most) (hm : mayReset t = true) : latS (bodyOf (latNums t)) most = .ok t := by
  have hl : latOf (latNums t) = t := by
    unfold latNums latOf
    split
    · rename_i h; obtain ⟨x, y, z⟩ := t; simp at h; subst h; rfl
    · rfl
  have hr := written_read (latNums t) most (by
    intro x hx
    unfold latNums at hx
    split at hx
    · simp at hx; rcases hx with rfl | rfl <;> assumption
    · simp at hx; rcases hx with rfl | rfl | rfl <;> assumption) 2 3 (by unfold latNums; split <;> simp) (by unfold latNums; split <;> simp)
  unfold latS
  rw [if_pos hr.1, hr.2, hl, if_pos hm]

/-- The first line's words. -/
theorem head_words (l : List Nat) (hl : l ≠ []) : wordsOf (headText ++ bodyOf l) = some ([97, 97, 103] :: l.map Lib.decDigits) := by
  have hj : headText ++ bodyOf l = joinW ([97, 97, 103] :: l.map Lib.decDigits) := by
    rw [bodyOf_eq]
    cases l with
    | nil => exact absurd rfl hl
    | cons x r => simp [headText, joinW, tailW]
  have hs : splitW (joinW ([97, 97, 103] :: l.map Lib.decDigits)) = [97, 97, 103] :: l.map Lib.decDigits := by
    refine splitW_join _ _ ?_
    intro y hy c hc
    rcases List.mem_cons.1 hy with rfl | hy
    · simp at hc; rcases hc with rfl | rfl <;> decide
    · obtain ⟨u, _, rfl⟩ := List.mem_map.1 hy
      exact (dec_blank u c hc).1
  unfold wordsOf
  rw [hj, hs]
  have hne : joinW ([97, 97, 103] :: l.map Lib.decDigits) ≠ [] := by rw [← hj]; simp [headText]
  rw [if_neg hne, if_neg]
  simp only [List.any_cons, List.isEmpty_cons, Bool.false_or]
  intro h
  rw [List.any_eq_true] at h
  obtain ⟨x, hx, he⟩ := h
  obtain ⟨u, _, rfl⟩ := List.mem_map.1 hx
  exact dec_ne u (by simpa using he)

theorem firstErr_dec (l : List Nat) (most : Nat) (h : ∀ x ∈ l, x ≤ most) : firstErr (l.map Lib.decDigits) most = 0 := by
  refine firstErr_of fun x hx => ?_
  obtain ⟨u, hu, rfl⟩ := List.mem_map.1 hx
  exact dec_err u most (h u hu)
theorem nine_dec (l : List Nat) (h : ∀ x ∈ l, x ≤ 2147483647) : nineOf (l.map Lib.decDigits) = l ++ List.replicate (9 - l.length) 0 := by
  unfold nineOf
  rw [List.map_map, List.length_map]
  congr 1
  conv => rhs; rw [← List.map_id l]
  apply List.map_congr_left
  intro u hu
  exact dec_num u _ (h u hu)

theorem head_free (l : List Nat) : ∀ c ∈ headText ++ bodyOf l, c ≠ 10 := by
  intro c hc
  rcases List.mem_append.1 hc with h | h
  · simp [headText] at h; rcases h with rfl | rfl | rfl <;> decide
  · exact body_free l c h

theorem nine_counts (r : RawC) : ∃ l : List Nat, l = countsOf r ++ List.replicate (9 - (countsOf r).length) 0 ∧ l = countsAll r ++ [0, 0] := by
  refine ⟨_, rfl, ?_⟩
  unfold countsOf
  by_cases h5 : r.cons.length = 0
  · by_cases h4 : r.bads.length = 0
    · rw [if_pos h5, if_pos h4]; simp [countsAll, h5, h4]
    · rw [if_pos h5, if_neg h4]; simp [countsAll, h5]
  · rw [if_neg h5]; simp [countsAll]

theorem headS_put {r : RawC} (hv : ValidR r) (rest : List UInt8) : headS [97, 97, 103] (headText ++ (lineOf (countsOf r) ++ rest)) = .ok (countsAll r, rest) := by
  have hne : countsOf r ≠ [] := by have := (counts_len r).1; intro e; rw [e] at this; simp at this
  have hw := head_words (countsOf r) hne
  have hcs := counts_small hv
  have hc : cutS (headText ++ (lineOf (countsOf r) ++ rest)) = some (headText ++ bodyOf (countsOf r), rest) := by
    have e : headText ++ (lineOf (countsOf r) ++ rest) = (headText ++ bodyOf (countsOf r)) ++ 10 :: rest := by simp [lineOf]
    rw [e]; exact cut_line _ _ (head_free _)
  have hn := nine_dec (countsOf r) (fun x hx => by have := hcs x hx; omega)
  obtain ⟨l9, h1, h2⟩ := nine_counts r
  rw [← h1, h2] at hn
  have hlen := counts_len r
  have hsum := hv.sum
  have hmax := hv.max
  have e3 := hv.l3
  have e4 := hv.l4
  have e5 := hv.l5
  unfold headS
  rw [hc]
  simp only
  have he : headErr [97, 97, 103] (headText ++ bodyOf (countsOf r)) = 0 := by
    unfold headErr
    rw [hw]
    simp only [List.drop_succ_cons, List.drop_zero, List.length_cons, List.length_map]
    rw [if_neg]
    · rw [firstErr_dec _ _ (fun x hx => by have := hcs x hx; omega), if_neg (by simp), hn]
      unfold checkErr countsAll
      rw [if_neg (by simp), if_neg (by simp; omega), if_neg (by simp; omega)]
    · simp; omega
  rw [if_pos he]
  congr 2
  unfold headNums
  rw [hw]
  simp only [Option.getD_some, List.drop_succ_cons, List.drop_zero]
  rw [hn]
  rfl

theorem body_split (r : RawC) (tail : List UInt8) : linesOf (bodyLines r) ++ tail = linesOf (r.ins.map fun x => [x]) ++ (linesOf (r.lats.map latNums) ++ (linesOf (r.outs.map fun x => [x]) ++ (linesOf (r.bads.map fun x => [x]) ++ (linesOf (r.cons.map fun x => [x]) ++ (linesOf (r.gates.map triNums) ++ tail))))) := by
  unfold bodyLines
  simp only [linesOf_append, List.append_assoc]
theorem text_split (r : RawC) (tail : List UInt8) : textOf r ++ tail = headText ++ (lineOf (countsOf r) ++ (linesOf (bodyLines r) ++ tail)) := by
  unfold textOf
  simp only [List.append_assoc]

theorem get_put {r : RawC} (hv : ValidR r) (tail : List UInt8) (hlen : (textOf r ++ tail).length ≤ 1048576) (hn : namesErr [r.ins.length, r.lats.length, r.outs.length, r.bads.length, r.cons.length] tail = 0) : getS (textOf r ++ tail) = .ok r := by
  have h1 := fun R => sect_read litS (2 * r.max + 1) (fun x => [x]) r.ins R (fun x hx => lit_read (hv.i x hx))
  have h2 := fun R => sect_read latS (2 * r.max + 1) latNums r.lats R (fun t ht => lat_read (hv.la t ht).1 (hv.la t ht).2.1 (reset_le (hv.la t ht).2.2 (hv.la t ht).1) (hv.la t ht).2.2)
  have h3 := fun R => sect_read litS (2 * r.max + 1) (fun x => [x]) r.outs R (fun x hx => lit_read (hv.o x hx))
  have h4 := fun R => sect_read litS (2 * r.max + 1) (fun x => [x]) r.bads R (fun x hx => lit_read (hv.b x hx))
  have h5 := fun R => sect_read litS (2 * r.max + 1) (fun x => [x]) r.cons R (fun x hx => lit_read (hv.c x hx))
  have h6 := fun R => sect_read gateS (2 * r.max + 1) triNums r.gates R (fun t ht => gate_read (hv.ga t ht).1 (hv.ga t ht).2.1 (hv.ga t ht).2.2)
  have hh := headS_put hv (linesOf (bodyLines r) ++ tail)
  rw [← text_split, body_split] at hh
  unfold getS
  rw [if_neg (by omega), hh]
  simp only [countsAll, List.getD_cons_succ, List.getD_cons_zero, h1, h2, h3, h4, h5, h6, hn, if_true]

theorem sect_short {α : Type} (item : List UInt8 → Nat → Except Int α) (most : Nat) (f : α → List Nat) : ∀ (xs : List α) (k : Nat), (∀ x ∈ xs, item (bodyOf (f x)) most = .ok x) → k < (linesOf (xs.map f)).length → sectS item most xs.length ((linesOf (xs.map f)).take k) = .error 4
  | [], k, _, hk => by simp [linesOf] at hk
  | x :: t, k, h, hk => by
    rw [List.length_cons, sectS, List.map_cons, linesOf]
    by_cases hlt : k < (lineOf (f x)).length
    · have hs : cutS ((lineOf (f x) ++ linesOf (t.map f)).take k) = none := by
        refine cut_short _ fun c hc => ?_
        rw [List.take_append_of_le_length (by omega)] at hc
        have hb : (lineOf (f x)).take k = (bodyOf (f x)).take k := by
          unfold lineOf
          rw [List.take_append_of_le_length (by simp [lineOf] at hlt; omega)]
        rw [hb] at hc
        exact body_free _ c (List.mem_of_mem_take hc)
      rw [hs]
    · have e : (lineOf (f x) ++ linesOf (t.map f)).take k = lineOf (f x) ++ (linesOf (t.map f)).take (k - (lineOf (f x)).length) := by
        rw [List.take_append, List.take_of_length_le (by omega)]
      rw [e, cut_nums]
      simp only [h x (by simp)]
      rw [sect_short item most f t _ (fun y hy => h y (by simp [hy])) (by rw [List.map_cons, linesOf, List.length_append] at hk; omega)]

theorem sect_cut {α : Type} (item : List UInt8 → Nat → Except Int α) (most : Nat) (f : α → List Nat) (xs : List α) (R : List UInt8) (k : Nat) (h : ∀ x ∈ xs, item (bodyOf (f x)) most = .ok x) (hk : k < (linesOf (xs.map f) ++ R).length) :
    sectS item most xs.length ((linesOf (xs.map f) ++ R).take k) = .error 4 ∨ ∃ k', k' < R.length ∧ sectS item most xs.length ((linesOf (xs.map f) ++ R).take k) = .ok (xs, R.take k') := by
  by_cases hlt : k < (linesOf (xs.map f)).length
  · left
    rw [List.take_append_of_le_length (by omega)]
    exact sect_short item most f xs k h hlt
  · right
    refine ⟨k - (linesOf (xs.map f)).length, by rw [List.length_append] at hk; omega, ?_⟩
    rw [List.take_append, List.take_of_length_le (by omega)]
    exact sect_read item most f xs _ h

theorem get_cut {r : RawC} (hv : ValidR r) (k : Nat) (hk : k < (textOf r).length) (hlen : (textOf r).length ≤ 1048576) : getS ((textOf r).take k) = .error 4 := by
  have hl : ((textOf r).take k).length ≤ 1048576 := by simp; omega
  have hts : textOf r = (headText ++ bodyOf (countsOf r)) ++ ([10] ++ linesOf (bodyLines r)) := by simp [textOf, lineOf]
  by_cases hlt : k ≤ (headText ++ bodyOf (countsOf r)).length
  · have hs : cutS ((textOf r).take k) = none := by
      refine cut_short _ fun c hc => ?_
      rw [hts, List.take_append_of_le_length hlt] at hc
      exact head_free _ c (List.mem_of_mem_take hc)
    unfold getS
    rw [if_neg (by omega)]
    unfold headS
    rw [hs]
  · obtain ⟨k0, hk0⟩ : ∃ k0, k = (headText ++ bodyOf (countsOf r)).length + 1 + k0 := ⟨k - ((headText ++ bodyOf (countsOf r)).length + 1), by omega⟩
    have hle : k0 < (linesOf (bodyLines r) ++ []).length := by
      have := congrArg List.length hts
      simp only [List.length_append, List.length_cons, List.length_nil] at this hk hk0 ⊢
      omega
    have ht : (textOf r).take k = headText ++ (lineOf (countsOf r) ++ (linesOf (bodyLines r) ++ []).take k0) := by
      have e : textOf r = (headText ++ lineOf (countsOf r)) ++ (linesOf (bodyLines r) ++ []) := by simp [textOf]
      have el : (headText ++ lineOf (countsOf r)).length = (headText ++ bodyOf (countsOf r)).length + 1 := by simp [lineOf]; omega
      rw [e, List.take_append, List.take_of_length_le (by rw [el]; omega), List.append_assoc, el, hk0]
      congr 3
      omega
    have hh := headS_put hv ((linesOf (bodyLines r) ++ []).take k0)
    rw [← ht] at hh
    rw [body_split] at hh hle
    unfold getS
    rw [if_neg (by omega), hh]
    simp only [countsAll, List.getD_cons_succ, List.getD_cons_zero]
    rcases sect_cut litS (2 * r.max + 1) (fun x => [x]) r.ins _ k0 (fun x hx => lit_read (hv.i x hx)) hle with e | ⟨k1, hk1, e⟩
    · rw [e]
    rw [e]
    simp only
    rcases sect_cut latS (2 * r.max + 1) latNums r.lats _ k1 (fun t ht => lat_read (hv.la t ht).1 (hv.la t ht).2.1 (reset_le (hv.la t ht).2.2 (hv.la t ht).1) (hv.la t ht).2.2) hk1 with e | ⟨k2, hk2, e⟩
    · rw [e]
    rw [e]
    simp only
    rcases sect_cut litS (2 * r.max + 1) (fun x => [x]) r.outs _ k2 (fun x hx => lit_read (hv.o x hx)) hk2 with e | ⟨k3, hk3, e⟩
    · rw [e]
    rw [e]
    simp only
    rcases sect_cut litS (2 * r.max + 1) (fun x => [x]) r.bads _ k3 (fun x hx => lit_read (hv.b x hx)) hk3 with e | ⟨k4, hk4, e⟩
    · rw [e]
    rw [e]
    simp only
    rcases sect_cut litS (2 * r.max + 1) (fun x => [x]) r.cons _ k4 (fun x hx => lit_read (hv.c x hx)) hk4 with e | ⟨k5, hk5, e⟩
    · rw [e]
    rw [e]
    simp only
    rcases sect_cut gateS (2 * r.max + 1) triNums r.gates _ k5 (fun t ht => gate_read (hv.ga t ht).1 (hv.ga t ht).2.1 (hv.ga t ht).2.2) hk5 with e | ⟨k6, hk6, e⟩
    · rw [e]
    simp at hk6

/-- A remark behind: names say nothing. -/
theorem names_remark (many : List Nat) (rem : List UInt8) : namesErr many ([99, 10] ++ rem) = 0 := by
  unfold namesErr
  have hc : cutS ([99, 10] ++ rem) = some ([99], rem) := cut_line [99] rem (by simp)
  have hl : (([99, 10] : List UInt8) ++ rem).length = rem.length + 1 + 1 := by simp
  rw [hl, namesS, if_neg (by simp), hc]
  simp
end Go.Proofs.YtbpdjfjjkioeaaaDoor
