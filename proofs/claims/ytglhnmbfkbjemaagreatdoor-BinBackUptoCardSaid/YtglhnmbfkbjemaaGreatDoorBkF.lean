/- What bin.Get answers is valid, and Put writes no more than was read: on plain lists. -/
import Derived.Test.YtglhnmbfkbjemaaGreatDoorBkC
import Derived.Test.YtglhnmbfkbjemaaGreatDoorBkE
import Derived.Test.YtglhnmbfkbjemaaGreatDoorBkA
/- A raw circuit's lines, one by one, on plain lists. -/
namespace Go.Proofs.YtglhnmbfkbjemaaGreatDoor
open Go Go.RowKit
theorem getD_right {α : Type} (A B : List α) (d : α) (n k : Nat) (hn : A.length = n) : (A ++ B).getD (n + k) d = B.getD k d := by
  subst hn
  simp [List.getD, List.getElem?_append_right]
theorem getD_left {α : Type} (A B : List α) (d : α) (k : Nat) (hk : k < A.length) : (A ++ B).getD k d = A.getD k d := by
  simp [List.getD, List.getElem?_append_left hk]
theorem getD_mapN {α β : Type} (f : α → β) (l : List α) (d : α) (e : β) (k : Nat) (hk : k < l.length) : (l.map f).getD k e = f (l.getD k d) := by
  simp [List.getD, List.getElem?_eq_getElem hk]
def one (x : Nat) : List Nat := [x]
theorem lines_count {r : RawC} {n1 n2 n3 n4 n5 n6 : Nat} (h1 : r.ins.length = n1) (h2 : r.lats.length = n2) (h3 : r.outs.length = n3) (h4 : r.bads.length = n4) (h5 : r.cons.length = n5) (h6 : r.gates.length = n6) : (bodyLines r).length = n1 + n2 + n3 + n4 + n5 + n6 := by simp [bodyLines]; omega
theorem line1 {r : RawC} {n1 : Nat} (h1 : r.ins.length = n1) (k : Nat) (hk : k < n1) : (bodyLines r).getD k [] = [r.ins.getD k 0] := by
  unfold bodyLines
  rw [getD_left _ _ _ _ (by simp; omega), getD_mapN _ _ 0 _ _ (by omega)]
theorem line2 {r : RawC} {n1 n2 : Nat} (h1 : r.ins.length = n1) (h2 : r.lats.length = n2) (k : Nat) (hk : k < n2) : (bodyLines r).getD (n1 + k) [] = latNums (r.lats.getD k (0, 0, 0)) := by
  unfold bodyLines
  rw [getD_right _ _ _ n1 k (by simpa using h1), getD_left _ _ _ _ (by simp; omega), getD_mapN _ _ (0, 0, 0) _ _ (by omega)]
theorem line3 {r : RawC} {n1 n2 n3 : Nat} (h1 : r.ins.length = n1) (h2 : r.lats.length = n2) (h3 : r.outs.length = n3) (k : Nat) (hk : k < n3) : (bodyLines r).getD (n1 + n2 + k) [] = [r.outs.getD k 0] := by
  unfold bodyLines
  rw [Nat.add_assoc, getD_right _ _ _ n1 _ (by simpa using h1), getD_right _ _ _ n2 _ (by simpa using h2), getD_left _ _ _ _ (by simp; omega), getD_mapN _ _ 0 _ _ (by omega)]
theorem line4 {r : RawC} {n1 n2 n3 n4 : Nat} (h1 : r.ins.length = n1) (h2 : r.lats.length = n2) (h3 : r.outs.length = n3) (h4 : r.bads.length = n4) (k : Nat) (hk : k < n4) : (bodyLines r).getD (n1 + n2 + n3 + k) [] = [r.bads.getD k 0] := by
  unfold bodyLines
  rw [show n1 + n2 + n3 + k = n1 + (n2 + (n3 + k)) by omega, getD_right _ _ _ n1 _ (by simpa using h1), getD_right _ _ _ n2 _ (by simpa using h2), getD_right _ _ _ n3 _ (by simpa using h3), getD_left _ _ _ _ (by simp; omega), getD_mapN _ _ 0 _ _ (by omega)]
theorem line5 {r : RawC} {n1 n2 n3 n4 n5 : Nat} (h1 : r.ins.length = n1) (h2 : r.lats.length = n2) (h3 : r.outs.length = n3) (h4 : r.bads.length = n4) (h5 : r.cons.length = n5) (k : Nat) (hk : k < n5) : (bodyLines r).getD (n1 + n2 + n3 + n4 + k) [] = [r.cons.getD k 0] := by
  unfold bodyLines
  rw [show n1 + n2 + n3 + n4 + k = n1 + (n2 + (n3 + (n4 + k))) by omega, getD_right _ _ _ n1 _ (by simpa using h1), getD_right _ _ _ n2 _ (by simpa using h2), getD_right _ _ _ n3 _ (by simpa using h3), getD_right _ _ _ n4 _ (by simpa using h4), getD_left _ _ _ _ (by simp; omega), getD_mapN _ _ 0 _ _ (by omega)]
theorem line6 {r : RawC} {n1 n2 n3 n4 n5 n6 : Nat} (h1 : r.ins.length = n1) (h2 : r.lats.length = n2) (h3 : r.outs.length = n3) (h4 : r.bads.length = n4) (h5 : r.cons.length = n5) (h6 : r.gates.length = n6) (k : Nat) (hk : k < n6) : (bodyLines r).getD (n1 + n2 + n3 + n4 + n5 + k) [] = triNums (r.gates.getD k (0, 0, 0)) := by
  unfold bodyLines
  rw [show n1 + n2 + n3 + n4 + n5 + k = n1 + (n2 + (n3 + (n4 + (n5 + k)))) by omega, getD_right _ _ _ n1 _ (by simpa using h1), getD_right _ _ _ n2 _ (by simpa using h2), getD_right _ _ _ n3 _ (by simpa using h3), getD_right _ _ _ n4 _ (by simpa using h4), getD_right _ _ _ n5 _ (by simpa using h5), getD_mapN _ _ (0, 0, 0) _ _ (by omega)]
structure ValidR (r : RawC) : Prop where
  max : r.max ≤ 16384
  sum : r.ins.length + r.lats.length + r.gates.length ≤ r.max
  l3 : r.outs.length ≤ 1024
  l4 : r.bads.length ≤ 1024
  l5 : r.cons.length ≤ 1024
  i : ∀ x ∈ r.ins, x ≤ 2 * r.max + 1
  o : ∀ x ∈ r.outs, x ≤ 2 * r.max + 1
  b : ∀ x ∈ r.bads, x ≤ 2 * r.max + 1
  c : ∀ x ∈ r.cons, x ≤ 2 * r.max + 1
  la : ∀ t ∈ r.lats, t.1 ≤ 2 * r.max + 1 ∧ t.2.1 ≤ 2 * r.max + 1 ∧ mayReset t = true
  ga : ∀ t ∈ r.gates, t.1 ≤ 2 * r.max + 1 ∧ t.2.1 ≤ 2 * r.max + 1 ∧ t.2.2 ≤ 2 * r.max + 1
theorem not_above {m x : Nat} (h : above m x = false) : x ≤ 2 * m + 1 := by simp [above] at h; omega
theorem badList_no {m : Nat} {l : List Nat} (h : badList m l = false) : l.length ≤ 1024 ∧ ∀ x ∈ l, x ≤ 2 * m + 1 := by
  unfold badList at h
  rw [Bool.or_eq_false_iff] at h
  refine ⟨by have := h.1; simp at this; omega, fun x hx => not_above ?_⟩
  have := (List.any_eq_false.1 h.2) x hx
  simpa using this
theorem valid_of {r : RawC} (h : mayRaw r = true) : ValidR r := by
  unfold mayRaw at h
  simp only [Bool.and_eq_true, Bool.not_eq_true', Bool.or_eq_false_iff, decide_eq_false_iff_not] at h
  obtain ⟨⟨h1, h2⟩, h3, h4, h5, h6, h7, h8⟩ := h
  have b3 := badList_no h3
  have b4 := badList_no h4
  have b5 := badList_no h5
  refine ⟨by omega, by omega, b3.1, b4.1, b5.1, fun x hx => not_above (by have := (List.any_eq_false.1 h6) x hx; simpa using this), b3.2, b4.2, b5.2, fun t ht => ?_, fun t ht => ?_⟩
  · have := (List.any_eq_false.1 h7) t ht
    simp only [Bool.not_eq_true, badLatch, Bool.or_eq_false_iff] at this
    exact ⟨not_above this.1.1, not_above this.1.2, by simpa using this.2⟩
  · have := (List.any_eq_false.1 h8) t ht
    simp only [Bool.not_eq_true, badGate, Bool.or_eq_false_iff] at this
    exact ⟨not_above this.1.1, not_above this.1.2, not_above this.2⟩
theorem reset_le {t : Tri} {m : Nat} (h : mayReset t = true) (h1 : t.1 ≤ 2 * m + 1) : t.2.2 ≤ 2 * m + 1 := by
  unfold mayReset at h
  rw [Bool.or_eq_true] at h
  rcases h with h | h
  · have : t.2.2 ≤ 1 := by simpa using h
    omega
  · have : t.2.2 = t.1 := by simpa using h
    omega
theorem lines_small {r : RawC} (h : ValidR r) : ∀ l ∈ bodyLines r, 1 ≤ l.length ∧ l.length ≤ 3 ∧ ∀ x ∈ l, x ≤ 2 * r.max + 1 := by
  intro l hl
  unfold bodyLines at hl
  simp only [List.mem_append, List.mem_map] at hl
  rcases hl with ⟨x, hx, rfl⟩ | ⟨t, ht, rfl⟩ | ⟨x, hx, rfl⟩ | ⟨x, hx, rfl⟩ | ⟨x, hx, rfl⟩ | ⟨t, ht, rfl⟩
  · exact ⟨by simp, by simp, fun y hy => by simp at hy; subst hy; exact h.i _ hx⟩
  · obtain ⟨ha, hb, hc⟩ := h.la t ht
    have hd := reset_le hc ha
    unfold latNums
    split
    · exact ⟨by simp, by simp, fun y hy => by simp at hy; rcases hy with rfl | rfl <;> assumption⟩
    · exact ⟨by simp, by simp, fun y hy => by simp at hy; rcases hy with rfl | rfl | rfl <;> assumption⟩
  · exact ⟨by simp, by simp, fun y hy => by simp at hy; subst hy; exact h.o _ hx⟩
  · exact ⟨by simp, by simp, fun y hy => by simp at hy; subst hy; exact h.b _ hx⟩
  · exact ⟨by simp, by simp, fun y hy => by simp at hy; subst hy; exact h.c _ hx⟩
  · obtain ⟨ha, hb, hc⟩ := h.ga t ht
    exact ⟨by simp [triNums], by simp [triNums], fun y hy => by simp [triNums] at hy; rcases hy with rfl | rfl | rfl <;> assumption⟩
theorem linesOf_len : ∀ (L : List (List Nat)), (∀ l ∈ L, l.length ≤ 3 ∧ ∀ x ∈ l, x < 4294967296) → (linesOf L).length ≤ 64 * L.length
  | [], _ => by simp [linesOf]
  | l :: L, h => by
    have ih := linesOf_len L fun l' hl' => h l' (by simp [hl'])
    have hl := h l (by simp)
    have hb := bodyOf_len l hl.2
    simp only [linesOf, lineOf, List.length_append, List.length_cons, List.length_nil]
    omega
def accT (r : RawC) (j : Nat) : List UInt8 := headText ++ (lineOf (countsOf r) ++ linesOf ((bodyLines r).take j))
theorem accT_zero (r : RawC) : accT r 0 = headText ++ lineOf (countsOf r) := by simp [accT, linesOf]
theorem accT_step (r : RawC) (j : Nat) (l : List Nat) (hj : j < (bodyLines r).length) (hl : (bodyLines r).getD j [] = l) : accT r (j + 1) = accT r j ++ lineOf l := by
  have e : (bodyLines r).take (j + 1) = (bodyLines r).take j ++ [l] := by
    rw [List.take_succ_eq_append_getElem hj, ← hl]
    simp [List.getD, List.getElem?_eq_getElem hj]
  unfold accT
  rw [e, linesOf_snoc]
  simp
theorem accT_full (r : RawC) (j : Nat) (hj : (bodyLines r).length ≤ j) : accT r j = textOf r := by
  unfold accT textOf
  rw [List.take_of_length_le hj]
theorem counts_len (r : RawC) : 5 ≤ (countsOf r).length ∧ (countsOf r).length ≤ 7 := by
  unfold countsOf countsAll
  split
  · split <;> simp
  · simp
theorem counts_small {r : RawC} (h : ValidR r) : ∀ x ∈ countsOf r, x ≤ 16384 := by
  have hall : ∀ x ∈ countsAll r, x ≤ 16384 := by
    intro x hx
    have h1 := h.max
    have h2 := h.sum
    have h3 := h.l3
    have h4 := h.l4
    have h5 := h.l5
    simp [countsAll] at hx
    rcases hx with rfl | rfl | rfl | rfl | rfl | rfl | rfl <;> omega
  intro x hx
  unfold countsOf at hx
  split at hx
  · split at hx
    · exact hall x (List.mem_of_mem_take hx)
    · exact hall x (List.mem_of_mem_take hx)
  · exact hall x hx
theorem accT_len {r : RawC} (h : ValidR r) (j : Nat) : (accT r j).length ≤ 64 * (bodyLines r).length + 152 := by
  have hb := bodyOf_len (countsOf r) (fun x hx => by have := counts_small h x hx; omega)
  have hc := (counts_len r).2
  have hl := linesOf_len ((bodyLines r).take j) (fun l hl => by
    have hs := lines_small h l (List.mem_of_mem_take hl)
    have := h.max
    exact ⟨hs.2.1, fun x hx => by have := hs.2.2 x hx; omega⟩)
  have hj : ((bodyLines r).take j).length ≤ (bodyLines r).length := by simp; omega
  unfold accT lineOf headText
  simp only [List.length_append, List.length_cons, List.length_nil]
  omega
theorem lines_few {r : RawC} (h : ValidR r) : (bodyLines r).length ≤ 19456 := by
  have := h.sum
  have := h.max
  have := h.l3
  have := h.l4
  have := h.l5
  simp [bodyLines]
  omega
end Go.Proofs.YtglhnmbfkbjemaaGreatDoor
/- What is put is got, on plain lists; with a remark behind it too; cut, it is refused. -/
namespace Go.Proofs.YtglhnmbfkbjemaaGreatDoor
open Go Go.RowKit
theorem cut_line (l r : List UInt8) (h : ∀ c ∈ l, c ≠ 10) : cutS (l ++ 10 :: r) = some (l, r) := by
  have ha := ahead_line l r h
  unfold cutS
  rw [ha, if_pos (by simp)]
  have e1 : (l ++ 10 :: r).take l.length = l := List.take_left' rfl
  have e2 : (l ++ 10 :: r).drop (l.length + 1) = r := by rw [← List.drop_drop, List.drop_left' rfl]; rfl
  rw [e1, e2]
theorem cut_nums (l : List Nat) (r : List UInt8) : cutS (lineOf l ++ r) = some (bodyOf l, r) := by
  have e : lineOf l ++ r = bodyOf l ++ 10 :: r := by simp [lineOf]
  rw [e]; exact cut_line _ _ (body_free l)
theorem cut_short (l : List UInt8) (h : ∀ c ∈ l, c ≠ 10) : cutS l = none := by
  have ha : ahead l = l.length := by
    unfold ahead
    induction l with
    | nil => rfl
    | cons x t ih =>
      have hx := h x (by simp)
      rw [List.takeWhile_cons, if_pos (by simpa using hx), List.length_cons, ih (fun c hc => h c (by simp [hc])), List.length_cons]
  unfold cutS
  rw [ha, if_neg (by omega)]
theorem sect_read {α : Type} (item : List UInt8 → Nat → Except Int α) (most : Nat) (f : α → List Nat) : ∀ (xs : List α) (r : List UInt8), (∀ x ∈ xs, item (bodyOf (f x)) most = .ok x) → sectS item most xs.length (linesOf (xs.map f) ++ r) = .ok (xs, r)
  | [], r, _ => rfl
  | x :: t, r, h => by
    rw [List.length_cons, sectS, List.map_cons, linesOf, List.append_assoc, cut_nums]
    simp only [h x (by simp)]
    rw [sect_read item most f t r (fun y hy => h y (by simp [hy]))]
theorem lit_read {x most : Nat} (h : x ≤ most) : litS (bodyOf [x]) most = .ok x := by
  have hr := written_read [x] most (by simpa using h) 1 1 (by simp) (by simp)
  unfold litS
  rw [if_pos hr.1, hr.2]; rfl
theorem gate_read {t : Tri} {most : Nat} (h1 : t.1 ≤ most) (h2 : t.2.1 ≤ most) (h3 : t.2.2 ≤ most) : gateS (bodyOf (triNums t)) most = .ok t := by
  have hr := written_read (triNums t) most (by intro x hx; simp [triNums] at hx; rcases hx with rfl | rfl | rfl <;> assumption) 3 3 (by simp [triNums]) (by simp [triNums])
  unfold gateS
  rw [if_pos hr.1, hr.2]; rfl
theorem lat_read {t : Tri} {most : Nat} (h1 : t.1 ≤ most) (h2 : t.2.1 ≤ most) (h3 : t.2.2 ≤ most) (hm : mayReset t = true) : latS (bodyOf (latNums t)) most = .ok t := by
  have hl : latOf (latNums t) = t := by
    unfold latNums latOf
    split
    · rename_i h; obtain ⟨x, y, z⟩ := t; simp at h; subst h; rfl
    · rfl
  have hr := written_read (latNums t) most (by
    intro x hx
    unfold latNums at hx
    split at hx
    · simp at hx; rcases hx with rfl | rfl <;> assumption
    · simp at hx; rcases hx with rfl | rfl | rfl <;> assumption) 2 3 (by unfold latNums; split <;> simp) (by unfold latNums; split <;> simp)
  unfold latS
  rw [if_pos hr.1, hr.2, hl, if_pos hm]
theorem head_words (l : List Nat) (hl : l ≠ []) : wordsOf (headText ++ bodyOf l) = some ([97, 97, 103] :: l.map Lib.decDigits) := by
  have hj : headText ++ bodyOf l = joinW ([97, 97, 103] :: l.map Lib.decDigits) := by
    rw [bodyOf_eq]
    cases l with
    | nil => exact absurd rfl hl
    | cons x r => simp [headText, joinW, tailW]
  have hs : splitW (joinW ([97, 97, 103] :: l.map Lib.decDigits)) = [97, 97, 103] :: l.map Lib.decDigits := by
    refine splitW_join _ _ ?_
    intro y hy c hc
    rcases List.mem_cons.1 hy with rfl | hy
    · simp at hc; rcases hc with rfl | rfl <;> decide
    · obtain ⟨u, _, rfl⟩ := List.mem_map.1 hy
      exact (dec_blank u c hc).1
  unfold wordsOf
  rw [hj, hs]
  have hne : joinW ([97, 97, 103] :: l.map Lib.decDigits) ≠ [] := by rw [← hj]; simp [headText]
  rw [if_neg hne, if_neg]
  simp only [List.any_cons, List.isEmpty_cons, Bool.false_or]
  intro h
  rw [List.any_eq_true] at h
  obtain ⟨x, hx, he⟩ := h
  obtain ⟨u, _, rfl⟩ := List.mem_map.1 hx
  exact dec_ne u (by simpa using he)
theorem firstErr_dec (l : List Nat) (most : Nat) (h : ∀ x ∈ l, x ≤ most) : firstErr (l.map Lib.decDigits) most = 0 := by
  refine firstErr_of fun x hx => ?_
  obtain ⟨u, hu, rfl⟩ := List.mem_map.1 hx
  exact dec_err u most (h u hu)
theorem nine_dec (l : List Nat) (h : ∀ x ∈ l, x ≤ 2147483647) : nineOf (l.map Lib.decDigits) = l ++ List.replicate (9 - l.length) 0 := by
  unfold nineOf
  rw [List.map_map, List.length_map]
  congr 1
  conv => rhs; rw [← List.map_id l]
  apply List.map_congr_left
  intro u hu
  exact dec_num u _ (h u hu)
theorem head_free (l : List Nat) : ∀ c ∈ headText ++ bodyOf l, c ≠ 10 := by
  intro c hc
  rcases List.mem_append.1 hc with h | h
  · simp [headText] at h; rcases h with rfl | rfl | rfl <;> decide
  · exact body_free l c h
theorem nine_counts (r : RawC) : ∃ l : List Nat, l = countsOf r ++ List.replicate (9 - (countsOf r).length) 0 ∧ l = countsAll r ++ [0, 0] := by
  refine ⟨_, rfl, ?_⟩
  unfold countsOf
  by_cases h5 : r.cons.length = 0
  · by_cases h4 : r.bads.length = 0
    · rw [if_pos h5, if_pos h4]; simp [countsAll, h5, h4]
    · rw [if_pos h5, if_neg h4]; simp [countsAll, h5]
  · rw [if_neg h5]; simp [countsAll]
theorem headS_put {r : RawC} (hv : ValidR r) (rest : List UInt8) : headS [97, 97, 103] (headText ++ (lineOf (countsOf r) ++ rest)) = .ok (countsAll r, rest) := by
  have hne : countsOf r ≠ [] := by have := (counts_len r).1; intro e; rw [e] at this; simp at this
  have hw := head_words (countsOf r) hne
  have hcs := counts_small hv
  have hc : cutS (headText ++ (lineOf (countsOf r) ++ rest)) = some (headText ++ bodyOf (countsOf r), rest) := by
    have e : headText ++ (lineOf (countsOf r) ++ rest) = (headText ++ bodyOf (countsOf r)) ++ 10 :: rest := by simp [lineOf]
    rw [e]; exact cut_line _ _ (head_free _)
  have hn := nine_dec (countsOf r) (fun x hx => by have := hcs x hx; omega)
  obtain ⟨l9, h1, h2⟩ := nine_counts r
  rw [← h1, h2] at hn
  have hlen := counts_len r
  have hsum := hv.sum
  have hmax := hv.max
  have e3 := hv.l3
  have e4 := hv.l4
  have e5 := hv.l5
  unfold headS
  rw [hc]
  simp only
  have he : headErr [97, 97, 103] (headText ++ bodyOf (countsOf r)) = 0 := by
    unfold headErr
    rw [hw]
    simp only [List.drop_succ_cons, List.drop_zero, List.length_cons, List.length_map]
    rw [if_neg]
    · rw [firstErr_dec _ _ (fun x hx => by have := hcs x hx; omega), if_neg (by simp), hn]
      unfold checkErr countsAll
      rw [if_neg (by simp), if_neg (by simp; omega), if_neg (by simp; omega)]
    · simp; omega
  rw [if_pos he]
  congr 2
  unfold headNums
  rw [hw]
  simp only [Option.getD_some, List.drop_succ_cons, List.drop_zero]
  rw [hn]
  rfl
theorem body_split (r : RawC) (tail : List UInt8) : linesOf (bodyLines r) ++ tail = linesOf (r.ins.map fun x => [x]) ++ (linesOf (r.lats.map latNums) ++ (linesOf (r.outs.map fun x => [x]) ++ (linesOf (r.bads.map fun x => [x]) ++ (linesOf (r.cons.map fun x => [x]) ++ (linesOf (r.gates.map triNums) ++ tail))))) := by
  unfold bodyLines
  simp only [linesOf_append, List.append_assoc]
theorem text_split (r : RawC) (tail : List UInt8) : textOf r ++ tail = headText ++ (lineOf (countsOf r) ++ (linesOf (bodyLines r) ++ tail)) := by
  unfold textOf
  simp only [List.append_assoc]
theorem get_put {r : RawC} (hv : ValidR r) (tail : List UInt8) (hlen : (textOf r ++ tail).length ≤ 1048576) (hn : namesErr [r.ins.length, r.lats.length, r.outs.length, r.bads.length, r.cons.length] tail = 0) : getS (textOf r ++ tail) = .ok r := by
  have h1 := fun R => sect_read litS (2 * r.max + 1) (fun x => [x]) r.ins R (fun x hx => lit_read (hv.i x hx))
  have h2 := fun R => sect_read latS (2 * r.max + 1) latNums r.lats R (fun t ht => lat_read (hv.la t ht).1 (hv.la t ht).2.1 (reset_le (hv.la t ht).2.2 (hv.la t ht).1) (hv.la t ht).2.2)
  have h3 := fun R => sect_read litS (2 * r.max + 1) (fun x => [x]) r.outs R (fun x hx => lit_read (hv.o x hx))
  have h4 := fun R => sect_read litS (2 * r.max + 1) (fun x => [x]) r.bads R (fun x hx => lit_read (hv.b x hx))
  have h5 := fun R => sect_read litS (2 * r.max + 1) (fun x => [x]) r.cons R (fun x hx => lit_read (hv.c x hx))
  have h6 := fun R => sect_read gateS (2 * r.max + 1) triNums r.gates R (fun t ht => gate_read (hv.ga t ht).1 (hv.ga t ht).2.1 (hv.ga t ht).2.2)
  have hh := headS_put hv (linesOf (bodyLines r) ++ tail)
  rw [← text_split, body_split] at hh
  unfold getS
  rw [if_neg (by omega), hh]
  simp only [countsAll, List.getD_cons_succ, List.getD_cons_zero, h1, h2, h3, h4, h5, h6, hn, if_true]
theorem names_remark (many : List Nat) (rem : List UInt8) : namesErr many ([99, 10] ++ rem) = 0 := by
  unfold namesErr
  have hc : cutS ([99, 10] ++ rem) = some ([99], rem) := cut_line [99] rem (by simp)
  have hl : (([99, 10] : List UInt8) ++ rem).length = rem.length + 1 + 1 := by simp
  rw [hl, namesS, if_neg (by simp), hc]
  simp
end Go.Proofs.YtglhnmbfkbjemaaGreatDoor
/- The reader's sections on plain lists: what is written is read, and what is read is written. -/
namespace Go.Proofs.YtglhnmbfkbjemaaGreatDoor
open Go Go.RowKit Go.Joins
def blatNums (t : Tri) : List Nat := if t.2.2 = 0 then [t.2.1] else [t.2.1, t.2.2]
def bLat (own : Nat) (p : Nat × Nat) : Tri := (own, p.1, if p.2 = 2 then own else p.2)
def bLats : Nat → List (Nat × Nat) → List UInt8
  | _, [] => []
  | own, p :: r => lineOf (blatNums (bLat own p)) ++ bLats (own + 2) r
theorem ahead_ten : ∀ (bs : List UInt8), ahead bs < bs.length → bs.getD (ahead bs) 0 = 10
  | [], h => by simp at h
  | x :: r, h => by
    by_cases hx : x = 10
    · subst hx; simp [ahead]
    · have ha : ahead (x :: r) = ahead r + 1 := by unfold ahead; rw [List.takeWhile_cons]; simp [hx]
      rw [ha, List.length_cons] at h
      rw [ha]
      have := ahead_ten r (by omega)
      simpa using this
theorem lineSt_nums {most : Nat} {many : Int} (l : List Nat) (r : List UInt8) (h1 : 1 ≤ l.length) (h2 : (l.length : Int) ≤ many) (h3 : ∀ x ∈ l, x ≤ most) : lineSt most many (.ok (lineOf l ++ r)) = ((l.getD 0 0, l.getD 1 0), .ok r) := by
  obtain ⟨e1, e2⟩ := written_read l most h3 1 many (by omega) h2
  simp only [lineSt, cut_nums, e1, e2, if_true]
theorem litsSt_put {most : Nat} : ∀ (xs : List Nat) (r : List UInt8), (∀ x ∈ xs, x ≤ most) → litsSt most xs.length (.ok (linesOf (xs.map fun x => [x]) ++ r)) = (xs, .ok r)
  | [], r, _ => rfl
  | x :: t, r, h => by
    rw [List.length_cons, litsSt, List.map_cons, linesOf, List.append_assoc, lineSt_nums [x] _ (by simp) (by simp) (by simpa using h x (by simp))]
    simp only
    rw [litsSt_put t r (fun y hy => h y (by simp [hy]))]
    rfl
theorem latSt_put {most own : Nat} {p : Nat × Nat} (r : List UInt8) (ho : 2 ≤ own) (hom : own ≤ most) (h1 : p.1 ≤ most) (h2 : p.2 ≤ 2) : latSt most own (.ok (lineOf (blatNums (bLat own p)) ++ r)) = (p, .ok r) := by
  obtain ⟨x, y⟩ := p
  simp only at h1 h2
  have hc : y = 0 ∨ y = 1 ∨ y = 2 := by omega
  rcases hc with rfl | rfl | rfl
  · have e : blatNums (bLat own (x, 0)) = [x] := by simp [blatNums, bLat]
    rw [e]
    unfold latSt
    rw [lineSt_nums [x] r (by simp) (by simp) (by simpa using h1)]
    simp
    omega
  · have e : blatNums (bLat own (x, 1)) = [x, 1] := by simp [blatNums, bLat]
    rw [e]
    unfold latSt
    rw [lineSt_nums [x, 1] r (by simp) (by simp) (by simp; omega)]
    simp
    omega
  · have e : blatNums (bLat own (x, 2)) = [x, own] := by simp [blatNums, bLat]; omega
    rw [e]
    unfold latSt
    rw [lineSt_nums [x, own] r (by simp) (by simp) (by simp; omega)]
    simp
theorem latsSt_put {most : Nat} : ∀ (ls : List (Nat × Nat)) (own : Nat) (r : List UInt8), 2 ≤ own → own + 2 * ls.length ≤ most + 2 → (∀ p ∈ ls, p.1 ≤ most ∧ p.2 ≤ 2) → latsSt most ls.length own (.ok (bLats own ls ++ r)) = (ls, .ok r)
  | [], _, r, _, _, _ => rfl
  | p :: t, own, r, ho, hm, h => by
    rw [List.length_cons] at hm
    rw [List.length_cons, latsSt, bLats, List.append_assoc, latSt_put _ ho (by omega) (h p (by simp)).1 (h p (by simp)).2]
    simp only
    rw [latsSt_put t (own + 2) r (by omega) (by omega) (fun y hy => h y (by simp [hy]))]
theorem gatesSt_put : ∀ (gs : List (Nat × Nat)) (own : Nat) (r : List UInt8), okG own gs → own + 2 * gs.length ≤ 4294967295 → gatesSt gs.length own (.ok (putG own gs ++ r)) = (gs, .ok r)
  | [], _, _, _, _ => rfl
  | (a, b) :: t, own, r, h, hb => by
    obtain ⟨h1, h2, h3⟩ := h
    rw [List.length_cons] at hb ⊢
    have e : putG own ((a, b) :: t) ++ r = encL (own - a) ++ (encL (a - b) ++ (putG (own + 2) t ++ r)) := by simp [putG]
    have e1 : belowSt own 1 (.ok (encL (own - a) ++ (encL (a - b) ++ (putG (own + 2) t ++ r)))) = (a, .ok (encL (a - b) ++ (putG (own + 2) t ++ r))) := by
      simp only [belowSt, below_put _ (show a ≤ own by omega) (show 1 ≤ own - a by omega) (show own ≤ 4294967295 by omega)]
    have e2 : belowSt a 0 (.ok (encL (a - b) ++ (putG (own + 2) t ++ r))) = (b, .ok (putG (own + 2) t ++ r)) := by
      simp only [belowSt, below_put _ h2 (Nat.zero_le _) (show a ≤ 4294967295 by omega)]
    rw [e, gatesSt, e1]
    simp only
    rw [e2]
    simp only
    rw [gatesSt_put t (own + 2) r h3 (by omega)]
end Go.Proofs.YtglhnmbfkbjemaaGreatDoor
/- Traces as values: a list of values, and lists of lists of values. -/
namespace Go.Proofs.YtglhnmbfkbjemaaGreatDoor
open Go Go.RowKit Go.Joins
structure CSlots.small (s : CSlots) : Prop where
  n1 : s.n1 ≤ 1048576
  n2 : s.n2 ≤ 1048576
  n3 : s.n3 ≤ 1048576
  n4 : s.n4 ≤ 1048576
  n5 : s.n5 ≤ 1048576
structure TraceC where
  bad : Int
  init : List UInt8
  frames : List (List UInt8)
deriving DecidableEq
abbrev Slc := Option Addr × Nat × Nat
def slV (s : Slc) : Value := .slice s.1 s.2.1 s.2.2
def slc0 : Slc := (none, 0, 0)
structure SeesF (w : World) (a : Option Addr) (n c : Nat) (ss : List Slc) (fs : List (List UInt8)) : Prop where
  row : Sees w a n c (ss.map slV)
  len : ss.length = fs.length
  each : ∀ k, k < fs.length → Sees w (ss.getD k slc0).1 (ss.getD k slc0).2.1 (ss.getD k slc0).2.2 ((fs.getD k []).map bv)
theorem SeesF.below {w w' : World} {a : Option Addr} {n c : Nat} {ss : List Slc} {fs : List (List UInt8)} (h : SeesF w a n c ss fs) (hb : Below w.heap.size w w') : SeesF w' a n c ss fs :=
  ⟨h.row.below hb, h.len, fun k hk => (h.each k hk).below hb⟩
structure TSlots where
  a1 : Option Addr
  n1 : Nat
  c1 : Nat
  a2 : Option Addr
  n2 : Nat
  c2 : Nat
  ss : List Slc
structure SeesTr (w : World) (s : TSlots) (t : TraceC) : Prop where
  s1 : Sees w s.a1 s.n1 s.c1 (t.init.map bv)
  s2 : SeesF w s.a2 s.n2 s.c2 s.ss t.frames
theorem SeesTr.below {w w' : World} {s : TSlots} {t : TraceC} (h : SeesTr w s t) (hb : Below w.heap.size w w') : SeesTr w' s t := ⟨h.s1.below hb, h.s2.below hb⟩
structure TSlots.small (s : TSlots) : Prop where
  n1 : s.n1 ≤ 1048576
  n2 : s.n2 ≤ 1048576
  each : ∀ x ∈ s.ss, x.2.1 ≤ 1048576
end Go.Proofs.YtglhnmbfkbjemaaGreatDoor
/- Circuits on plain lists: validity, their raw circuits, traces that fit. -/
namespace Go.Proofs.YtglhnmbfkbjemaaGreatDoor
open Go Go.RowKit
def varsN (c : NormC) : Nat := c.ins.toNat + c.lats.length + c.gates.length
def badLat2 (m : Nat) (p : Nat × Nat) : Bool := above m p.1 || decide (2 < p.2)
def badGate2 (f : Nat) (g : Nat × Nat) : Bool := decide (g.1 < g.2) || decide (2 * f ≤ g.1)
def badGates : Nat → List (Nat × Nat) → Bool
  | _, [] => false
  | f, g :: r => badGate2 f g || badGates (f + 1) r
def tooMany (c : NormC) : Bool := decide (c.ins < 0) || decide (16384 - c.ins < ((c.lats.length + c.gates.length : Nat) : Int))
def mayC (c : NormC) : Bool :=
  !tooMany c && (!badList (varsN c) c.outs && (!badList (varsN c) c.bads && (!badList (varsN c) c.cons &&
  (!c.lats.any (badLat2 (varsN c)) && !badGates (1 + c.ins.toNat + c.lats.length) c.gates))))
theorem badGates_at : ∀ (l : List (Nat × Nat)) (f : Nat), badGates f l = true ↔ ∃ k, k < l.length ∧ badGate2 (f + k) (l.getD k (0, 0)) = true
  | [], f => by simp [badGates]
  | g :: r, f => by
    rw [badGates, Bool.or_eq_true, badGates_at r (f + 1)]
    constructor
    · rintro (h | ⟨k, hk, h⟩)
      · exact ⟨0, by simp, by simpa using h⟩
      · exact ⟨k + 1, by simpa using hk, by rw [show f + (k + 1) = f + 1 + k by omega]; simpa using h⟩
    · rintro ⟨k, hk, h⟩
      cases k with
      | zero => exact Or.inl (by simpa using h)
      | succ k => exact Or.inr ⟨k, by simpa using hk, by rw [show f + 1 + k = f + (k + 1) by omega]; simpa using h⟩
theorem badGates_no {l : List (Nat × Nat)} {f : Nat} : badGates f l = false ↔ ∀ k, k < l.length → badGate2 (f + k) (l.getD k (0, 0)) = false := by
  constructor
  · intro h k hk
    cases hb : badGate2 (f + k) (l.getD k (0, 0)) with
    | false => rfl
    | true => have := (badGates_at l f).2 ⟨k, hk, hb⟩; rw [h] at this; cases this
  · intro h
    cases hb : badGates f l with
    | false => rfl
    | true =>
      obtain ⟨k, hk, h2⟩ := (badGates_at l f).1 hb
      rw [h k hk] at h2; cases h2
def latR (v : Nat) (p : Nat × Nat) : Tri := (2 * v, p.1, if p.2 = 2 then 2 * v else p.2)
def gateR (v : Nat) (p : Nat × Nat) : Tri := (2 * v, p.1, p.2)
def upFrom {α : Type} (f : Nat → Nat × Nat → α) (b : Nat) (l : List (Nat × Nat)) : List α := (List.range l.length).map fun i => f (b + i) (l.getD i (0, 0))
theorem upFrom_len {α : Type} (f : Nat → Nat × Nat → α) (b : Nat) (l : List (Nat × Nat)) : (upFrom f b l).length = l.length := by simp [upFrom]
theorem upFrom_at {α : Type} (f : Nat → Nat × Nat → α) (b : Nat) (l : List (Nat × Nat)) (k : Nat) (d : α) (hk : k < l.length) : (upFrom f b l).getD k d = f (b + k) (l.getD k (0, 0)) := by
  simp [upFrom, List.getD, hk]
theorem upFrom_take {α : Type} (f : Nat → Nat × Nat → α) (b : Nat) (l : List (Nat × Nat)) (k : Nat) (hk : k < l.length) : (upFrom f b l).take (k + 1) = (upFrom f b l).take k ++ [f (b + k) (l.getD k (0, 0))] := by
  rw [List.take_succ_eq_append_getElem (by rw [upFrom_len]; exact hk)]
  congr 1
  simp [upFrom]
def rawS (c : NormC) : RawC :=
  ⟨varsN c, (List.range c.ins.toNat).map fun i => 2 * (1 + i), upFrom latR (1 + c.ins.toNat) c.lats, c.outs, c.bads, c.cons, upFrom gateR (1 + c.ins.toNat + c.lats.length) c.gates⟩
structure MayC (c : NormC) : Prop where
  pos : 0 ≤ c.ins
  few : varsN c ≤ 16384
  lens : c.outs.length ≤ 1024 ∧ c.bads.length ≤ 1024 ∧ c.cons.length ≤ 1024
  outs : ∀ x ∈ c.outs, x ≤ 2 * varsN c + 1
  bads : ∀ x ∈ c.bads, x ≤ 2 * varsN c + 1
  cons : ∀ x ∈ c.cons, x ≤ 2 * varsN c + 1
  lats : ∀ p ∈ c.lats, p.1 ≤ 2 * varsN c + 1 ∧ p.2 ≤ 2
  gates : ∀ k, k < c.gates.length → (c.gates.getD k (0, 0)).2 ≤ (c.gates.getD k (0, 0)).1 ∧ (c.gates.getD k (0, 0)).1 < 2 * (1 + c.ins.toNat + c.lats.length + k)
theorem mayC_iff {c : NormC} : mayC c = true ↔ MayC c := by
  have hb : ∀ l : List Nat, badList (varsN c) l = false ↔ l.length ≤ 1024 ∧ ∀ x ∈ l, x ≤ 2 * varsN c + 1 := fun l => by
    simp only [badList, Bool.or_eq_false_iff, decide_eq_false_iff_not, List.any_eq_false, above, decide_eq_true_eq]
    exact ⟨fun h => ⟨by omega, fun x hx => by have := h.2 x hx; omega⟩, fun h => ⟨by omega, fun x hx => by have := h.2 x hx; omega⟩⟩
  have hl : c.lats.any (badLat2 (varsN c)) = false ↔ ∀ p ∈ c.lats, p.1 ≤ 2 * varsN c + 1 ∧ p.2 ≤ 2 := by
    simp only [List.any_eq_false, badLat2, above, Bool.or_eq_true, decide_eq_true_eq, not_or]
    exact ⟨fun h p hp => by have := h p hp; omega, fun h p hp => by have := h p hp; omega⟩
  have hg : badGates (1 + c.ins.toNat + c.lats.length) c.gates = false ↔ ∀ k, k < c.gates.length → (c.gates.getD k (0, 0)).2 ≤ (c.gates.getD k (0, 0)).1 ∧ (c.gates.getD k (0, 0)).1 < 2 * (1 + c.ins.toNat + c.lats.length + k) := by
    rw [badGates_no]
    simp only [badGate2, Bool.or_eq_false_iff, decide_eq_false_iff_not]
    exact ⟨fun h k hk => by have := h k hk; omega, fun h k hk => by have := h k hk; omega⟩
  have ht : tooMany c = false ↔ 0 ≤ c.ins ∧ varsN c ≤ 16384 := by
    simp only [tooMany, Bool.or_eq_false_iff, decide_eq_false_iff_not, varsN]
    omega
  unfold mayC
  simp only [Bool.and_eq_true, Bool.not_eq_true']
  rw [ht, hb, hb, hb, hl, hg]
  constructor
  · rintro ⟨⟨h1, h2⟩, ⟨h3, h4⟩, ⟨h5, h6⟩, ⟨h7, h8⟩, h9, h10⟩
    exact ⟨h1, h2, ⟨h3, h5, h7⟩, h4, h6, h8, h9, h10⟩
  · rintro ⟨h1, h2, ⟨h3, h5, h7⟩, h4, h6, h8, h9, h10⟩
    exact ⟨⟨h1, h2⟩, ⟨h3, h4⟩, ⟨h5, h6⟩, ⟨h7, h8⟩, h9, h10⟩
end Go.Proofs.YtglhnmbfkbjemaaGreatDoor
/- The raw circuit of a valid circuit is valid. -/
namespace Go.Proofs.YtglhnmbfkbjemaaGreatDoor
open Go Go.RowKit Go.Joins
theorem any_false {α : Type} {p : α → Bool} {l : List α} : l.any p = false ↔ ∀ x ∈ l, p x = false := by
  simp [List.any_eq_false]
theorem upFrom_mem {α : Type} {f : Nat → Nat × Nat → α} {b : Nat} {l : List (Nat × Nat)} {y : α} (h : y ∈ upFrom f b l) : ∃ k, k < l.length ∧ y = f (b + k) (l.getD k (0, 0)) := by
  simp only [upFrom, List.mem_map, List.mem_range] at h
  obtain ⟨k, hk, rfl⟩ := h
  exact ⟨k, hk, rfl⟩
theorem mayRaw_raw {c : NormC} (h : MayC c) : mayRaw (rawS c) = true := by
  have ha : ∀ {m x : Nat}, x ≤ 2 * m + 1 → above m x = false := fun h => by simp [above]; omega
  have hv : varsN c = c.ins.toNat + c.lats.length + c.gates.length := rfl
  have hf := h.few
  have hl := h.lens
  unfold mayRaw badList rawS
  simp only [Bool.and_eq_true, Bool.not_eq_true', Bool.or_eq_false_iff, decide_eq_false_iff_not, List.length_map, List.length_range, upFrom_len]
  refine ⟨⟨by omega, by omega⟩, ⟨by omega, any_false.2 fun x hx => ha (h.outs x hx)⟩, ⟨by omega, any_false.2 fun x hx => ha (h.bads x hx)⟩, ⟨by omega, any_false.2 fun x hx => ha (h.cons x hx)⟩, any_false.2 fun x hx => ?_, any_false.2 fun x hx => ?_, any_false.2 fun x hx => ?_⟩
  · simp only [List.mem_map, List.mem_range] at hx
    obtain ⟨i, hi, rfl⟩ := hx
    exact ha (by omega)
  · obtain ⟨k, hk, rfl⟩ := upFrom_mem hx
    have := h.lats _ (show c.lats.getD k (0, 0) ∈ c.lats from getD_mem hk)
    unfold latR
    simp only [badLatch, mayReset, Bool.or_eq_false_iff, Bool.not_eq_false', Bool.or_eq_true, decide_eq_true_eq]
    refine ⟨⟨ha (by omega), ha (by omega)⟩, ?_⟩
    split <;> omega
  · obtain ⟨k, hk, rfl⟩ := upFrom_mem hx
    have := h.gates k hk
    unfold gateR
    simp only [badGate, Bool.or_eq_false_iff]
    exact ⟨⟨ha (by omega), ha (by omega)⟩, ha (by omega)⟩
end Go.Proofs.YtglhnmbfkbjemaaGreatDoor
/- The binary format's first line, on plain lists. -/
namespace Go.Proofs.YtglhnmbfkbjemaaGreatDoor
open Go Go.RowKit Go.Joins
def binText : List UInt8 := [97, 105, 103, 32]
theorem bhead_words (l : List Nat) (hl : l ≠ []) : wordsOf (binText ++ bodyOf l) = some ([97, 105, 103] :: l.map Lib.decDigits) := by
  have hj : binText ++ bodyOf l = joinW ([97, 105, 103] :: l.map Lib.decDigits) := by
    rw [bodyOf_eq]
    cases l with
    | nil => exact absurd rfl hl
    | cons x r => simp [binText, joinW, tailW]
  have hs : splitW (joinW ([97, 105, 103] :: l.map Lib.decDigits)) = [97, 105, 103] :: l.map Lib.decDigits := by
    refine splitW_join _ _ ?_
    intro y hy c hc
    rcases List.mem_cons.1 hy with rfl | hy
    · simp at hc; rcases hc with rfl | rfl | rfl <;> decide
    · obtain ⟨u, _, rfl⟩ := List.mem_map.1 hy
      exact (dec_blank u c hc).1
  unfold wordsOf
  rw [hj, hs]
  have hne : joinW ([97, 105, 103] :: l.map Lib.decDigits) ≠ [] := by rw [← hj]; simp [binText]
  rw [if_neg hne, if_neg]
  simp only [List.any_cons, List.isEmpty_cons, Bool.false_or]
  intro h
  rw [List.any_eq_true] at h
  obtain ⟨x, hx, he⟩ := h
  obtain ⟨u, _, rfl⟩ := List.mem_map.1 hx
  exact dec_ne u (by simpa using he)
theorem bhead_free (l : List Nat) : ∀ c ∈ binText ++ bodyOf l, c ≠ 10 := by
  intro c hc
  rcases List.mem_append.1 hc with h | h
  · simp [binText] at h; rcases h with rfl | rfl | rfl | rfl <;> decide
  · exact body_free l c h
theorem bheadS_put {r : RawC} (hv : ValidR r) (rest : List UInt8) : headS [97, 105, 103] (binText ++ (lineOf (countsOf r) ++ rest)) = .ok (countsAll r, rest) := by
  have hne : countsOf r ≠ [] := by have := (counts_len r).1; intro e; rw [e] at this; simp at this
  have hw := bhead_words (countsOf r) hne
  have hcs := counts_small hv
  have hc : cutS (binText ++ (lineOf (countsOf r) ++ rest)) = some (binText ++ bodyOf (countsOf r), rest) := by
    have e : binText ++ (lineOf (countsOf r) ++ rest) = (binText ++ bodyOf (countsOf r)) ++ 10 :: rest := by simp [lineOf]
    rw [e]; exact cut_line _ _ (bhead_free _)
  have hn := nine_dec (countsOf r) (fun x hx => by have := hcs x hx; omega)
  obtain ⟨l9, h1, h2⟩ := nine_counts r
  rw [← h1, h2] at hn
  have hlen := counts_len r
  have hsum := hv.sum
  have hmax := hv.max
  have e3 := hv.l3
  have e4 := hv.l4
  have e5 := hv.l5
  unfold headS
  rw [hc]
  simp only
  have he : headErr [97, 105, 103] (binText ++ bodyOf (countsOf r)) = 0 := by
    unfold headErr
    rw [hw]
    simp only [List.drop_succ_cons, List.drop_zero, List.length_cons, List.length_map]
    rw [if_neg]
    · rw [firstErr_dec _ _ (fun x hx => by have := hcs x hx; omega), if_neg (by simp), hn]
      unfold checkErr countsAll
      rw [if_neg (by simp), if_neg (by simp; omega), if_neg (by simp; omega)]
    · simp; omega
  rw [if_pos he]
  congr 2
  unfold headNums
  rw [hw]
  simp only [Option.getD_some, List.drop_succ_cons, List.drop_zero]
  rw [hn]
  rfl
def getB (b : List UInt8) : Except Int NormC :=
  if 1048576 < b.length then .error 3 else
  match headS [97, 105, 103] b with
  | .error e => .error e
  | .ok (h, r0) =>
    if h.getD 1 0 + h.getD 2 0 + h.getD 4 0 ≠ h.getD 0 0 then .error 5 else
    let most := 2 * h.getD 0 0 + 1
    let la := latsSt most (h.getD 2 0) (2 * (1 + h.getD 1 0)) (.ok r0)
    let ou := litsSt most (h.getD 3 0) la.2
    let ba := litsSt most (h.getD 5 0) ou.2
    let co := litsSt most (h.getD 6 0) ba.2
    let ga := gatesSt (h.getD 4 0) (2 * (1 + h.getD 1 0 + h.getD 2 0)) co.2
    match ga.2 with
    | .error e => .error e
    | .ok r => if namesErr [h.getD 1 0, h.getD 2 0, h.getD 3 0, h.getD 5 0, h.getD 6 0] r = 0 then .ok ⟨(h.getD 1 0 : Nat), la.1, ga.1, ou.1, ba.1, co.1⟩
      else .error (namesErr [h.getD 1 0, h.getD 2 0, h.getD 3 0, h.getD 5 0, h.getD 6 0] r)
def putB (c : NormC) : List UInt8 :=
  binText ++ (lineOf (countsOf (rawS c)) ++ (bLats (2 * (1 + c.ins.toNat)) c.lats ++ (linesOf (c.outs.map fun x => [x]) ++ (linesOf (c.bads.map fun x => [x]) ++ (linesOf (c.cons.map fun x => [x]) ++ putG (2 * (1 + c.ins.toNat + c.lats.length)) c.gates)))))
end Go.Proofs.YtglhnmbfkbjemaaGreatDoor
/- What bin.Put writes, bin.Get reads: on plain lists. -/
namespace Go.Proofs.YtglhnmbfkbjemaaGreatDoor
open Go Go.RowKit Go.Joins
theorem okG_of : ∀ (gs : List (Nat × Nat)) (own : Nat), (∀ k, k < gs.length → (gs.getD k (0, 0)).2 ≤ (gs.getD k (0, 0)).1 ∧ (gs.getD k (0, 0)).1 < own + 2 * k) → okG own gs
  | [], _, _ => trivial
  | (a, b) :: t, own, h => by
    have h0 := h 0 (by simp)
    simp at h0
    refine ⟨h0.2, h0.1, okG_of t (own + 2) fun k hk => ?_⟩
    have := h (k + 1) (by simpa using hk)
    simp at this
    have e : (t.getD k (0, 0)) = t[k]?.getD (0, 0) := by simp [List.getD]
    rw [e]
    exact ⟨this.1, by omega⟩
theorem counts_raw (c : NormC) : countsAll (rawS c) = [varsN c, c.ins.toNat, c.lats.length, c.outs.length, c.gates.length, c.bads.length, c.cons.length] := by
  simp [countsAll, rawS, upFrom_len]
theorem get_putB {c : NormC} (h : MayC c) (tail : List UInt8) (hlen : (putB c ++ tail).length ≤ 1048576)
    (hn : namesErr [c.ins.toNat, c.lats.length, c.outs.length, c.bads.length, c.cons.length] tail = 0) : getB (putB c ++ tail) = .ok c := by
  obtain ⟨ins, lats, gates, outs, bads, cons⟩ := c
  have hv : varsN ⟨ins, lats, gates, outs, bads, cons⟩ = ins.toNat + lats.length + gates.length := rfl
  have hf := h.few
  have hpos := h.pos
  have hlat := h.lats
  have hou := h.outs
  have hba := h.bads
  have hco := h.cons
  have hga := h.gates
  simp only at hlat hou hba hco hga hpos hn
  obtain ⟨v, hvv⟩ : ∃ v, v = varsN ⟨ins, lats, gates, outs, bads, cons⟩ := ⟨_, rfl⟩
  rw [← hvv] at hlat hou hba hco hf hv
  obtain ⟨i, hi⟩ : ∃ i, i = ins.toNat := ⟨_, rfl⟩
  have hii : (i : Int) = ins := by omega
  rw [← hi] at hv hn hga
  have h1 := fun R => latsSt_put (most := 2 * v + 1) lats (2 * (1 + i)) R (by omega) (by omega) hlat
  have h2 := fun R => litsSt_put (most := 2 * v + 1) outs R hou
  have h3 := fun R => litsSt_put (most := 2 * v + 1) bads R hba
  have h4 := fun R => litsSt_put (most := 2 * v + 1) cons R hco
  have h5 := gatesSt_put gates (2 * (1 + i + lats.length)) tail (okG_of _ _ fun k hk => by have := hga k hk; exact ⟨this.1, by omega⟩) (by omega)
  have hh := bheadS_put (valid_of (mayRaw_raw h)) (bLats (2 * (1 + i)) lats ++ (linesOf (outs.map fun x => [x]) ++ (linesOf (bads.map fun x => [x]) ++ (linesOf (cons.map fun x => [x]) ++ (putG (2 * (1 + i + lats.length)) gates ++ tail)))))
  rw [counts_raw] at hh
  simp only [← hvv, ← hi] at hh
  have he : putB ⟨ins, lats, gates, outs, bads, cons⟩ ++ tail = binText ++ (lineOf (countsOf (rawS ⟨ins, lats, gates, outs, bads, cons⟩)) ++ (bLats (2 * (1 + i)) lats ++ (linesOf (outs.map fun x => [x]) ++ (linesOf (bads.map fun x => [x]) ++ (linesOf (cons.map fun x => [x]) ++ (putG (2 * (1 + i + lats.length)) gates ++ tail)))))) := by
    unfold putB
    simp only [← hi, List.append_assoc]
  unfold getB
  rw [if_neg (by omega), he, hh]
  simp only [List.getD_cons_zero, List.getD_cons_succ]
  rw [if_neg (by omega)]
  simp only [h1, h2, h3, h4, h5, hn, if_true, hii]
end Go.Proofs.YtglhnmbfkbjemaaGreatDoor
/- What bin.Get reads of the first line, Put writes no longer. -/
namespace Go.Proofs.YtglhnmbfkbjemaaGreatDoor
open Go Go.RowKit Go.Joins
theorem cut_get {bs line rest : List UInt8} (h : cutS bs = some (line, rest)) : bs = line ++ 10 :: rest := by
  unfold cutS at h
  split at h
  · rename_i hlt
    cases h
    have hx : bs = bs.take (ahead bs) ++ bs.drop (ahead bs) := (List.take_append_drop _ _).symm
    have hd : bs.drop (ahead bs) = 10 :: bs.drop (ahead bs + 1) := by
      rw [List.drop_eq_getElem_cons hlt]
      rw [show bs[ahead bs] = 10 from by
        have := ahead_ten bs hlt
        simpa [List.getD, hlt] using this]
    rw [← hd]; exact hx
  · cases h
theorem words_join {l : List UInt8} {W : List (List UInt8)} (h : wordsOf l = some W) : joinW W = l := by
  unfold wordsOf at h
  split at h
  · rename_i hb
    have : W = [] := by simpa using h.symm
    subst this; rw [hb]; rfl
  · split at h
    · cases h
    · have : W = splitW l := by simpa using h.symm
      rw [this, joinW_split]
theorem head_get {bs r0 : List UInt8} {h : List Nat} (hh : headS [97, 105, 103] bs = .ok (h, r0)) :
    ∃ ns : List Nat, 5 ≤ ns.length ∧ ns.length ≤ 9 ∧ bs = binText ++ (lineOf ns ++ r0) ∧ h = (ns ++ List.replicate (9 - ns.length) 0).take 7 ∧ checkErr (ns ++ List.replicate (9 - ns.length) 0) = 0 := by
  unfold headS at hh
  cases hc : cutS bs with
  | none => rw [hc] at hh; cases hh
  | some p =>
    obtain ⟨line, rest⟩ := p
    rw [hc] at hh
    simp only at hh
    by_cases he : headErr [97, 105, 103] line = 0
    · rw [if_pos he] at hh
      cases hw : wordsOf line with
      | none => unfold headErr at he; rw [hw] at he; cases he
      | some W =>
        unfold headErr at he
        rw [hw] at he
        simp only at he
        by_cases hcd : W.length < 6 ∨ 10 < W.length ∨ W.getD 0 [] ≠ [97, 105, 103]
        · rw [if_pos hcd] at he; cases he
        · rw [if_neg hcd] at he
          by_cases hf : firstErr (W.drop 1) 2147483647 = 0
          · rw [if_neg (by simpa using hf)] at he
            match W, hcd, hf, he, hw with
            | [], hcd, _, _, _ => simp at hcd
            | x :: W', hcd, hf, he, hw =>
              have hx : x = [97, 105, 103] := by
                have : ¬ (x ≠ [97, 105, 103]) := fun hne => hcd (Or.inr (Or.inr (by simpa using hne)))
                exact Classical.not_not.1 this
              simp only [List.drop_succ_cons, List.drop_zero] at hf he
              obtain ⟨ns, hns⟩ : ∃ ns, ns = W'.map fun y => numOf y 2147483647 := ⟨_, rfl⟩
              have hz := firstErr_zero hf
              have hW : ns.map Lib.decDigits = W' := by
                rw [hns, List.map_map]
                conv => rhs; rw [← List.map_id W']
                apply List.map_congr_left
                intro y hy
                exact err_canon (hz y hy)
              have hln : ns.length = W'.length := by rw [hns, List.length_map]
              have h9 : nineOf W' = ns ++ List.replicate (9 - ns.length) 0 := by rw [hln, hns]; rfl
              have hlen : 6 ≤ W'.length + 1 ∧ W'.length + 1 ≤ 10 := by
                rw [List.length_cons] at hcd
                constructor
                · exact Nat.le_of_not_lt fun hlt => hcd (Or.inl hlt)
                · exact Nat.le_of_not_lt fun hlt => hcd (Or.inr (Or.inl hlt))
              have hj := words_join hw
              have hl : line = binText ++ bodyOf ns := by
                rw [← hj, hx, ← hW, bodyOf_eq]
                cases ns with
                | nil => simp at hln; omega
                | cons y r => simp [binText, joinW, tailW]
              refine ⟨ns, by omega, by omega, ?_, ?_, by rw [← h9]; exact he⟩
              · have hr : r0 = rest := by cases hh; rfl
                rw [cut_get hc, hl, hr]
                simp [lineOf]
              · have e : h = headNums line := by cases hh; rfl
                rw [e]
                unfold headNums
                rw [hw]
                simp only [Option.getD_some, List.drop_succ_cons, List.drop_zero]
                rw [h9]
          · rw [if_pos (by simpa using hf)] at he
            exact absurd he hf
    · rw [if_neg he] at hh; cases hh
end Go.Proofs.YtglhnmbfkbjemaaGreatDoor
namespace Go.Proofs.YtglhnmbfkbjemaaGreatDoor
open Go Go.RowKit Go.Joins
theorem check_facts {l : List Nat} (h : checkErr l = 0) : l.getD 0 0 ≤ 16384 ∧ l.getD 3 0 ≤ 1024 ∧ l.getD 5 0 ≤ 1024 ∧ l.getD 6 0 ≤ 1024 := by
  unfold checkErr at h
  split at h
  · cases h
  · split at h
    · cases h
    · omega
theorem take7_getD (l : List Nat) (i : Nat) (hi : i < 7) : (l.take 7).getD i 0 = l.getD i 0 := by
  simp [List.getD, hi]
end Go.Proofs.YtglhnmbfkbjemaaGreatDoor
