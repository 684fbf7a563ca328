/- A raw circuit's lines, one by one, on plain lists. -/
import Derived.Test.YtglhnmbfkbjemaaDoorBInA
namespace Go.Proofs.YtglhnmbfkbjemaaDoor
open Go Go.RowKit

theorem getD_right {α : Type} (A B : List α) (d : α) (n k : Nat) (hn : A.length = n) : (A ++ B).getD (n + k) d = B.getD k d := by
  subst hn
  simp [List.getD, List.getElem?_append_right]
theorem getD_left {α : Type} (A B : List α) (d : α) (k : Nat) (hk : k < A.length) : (A ++ B).getD k d = A.getD k d := by
  simp [List.getD, List.getElem?_append_left hk]
theorem getD_mapN {α β : Type} (f : α → β) (l : List α) (d : α) (e : β) (k : Nat) (hk : k < l.length) : (l.map f).getD k e = f (l.getD k d) := by
  simp [List.getD, List.getElem?_eq_getElem hk]
def one (x : Nat) : List Nat := [x]

theorem lines_count {r : RawC} {n1 n2 n3 n4 n5 n6 : Nat} (h1 : r.ins.length = n1) (h2 : r.lats.length = n2) (h3 : r.outs.length = n3) (h4 : r.bads.length = n4) (h5 : r.cons.length = n5) (h6 : r.gates.length = n6) : (bodyLines r).length = n1 + n2 + n3 + n4 + n5 + n6 := by simp [bodyLines]; omega
theorem line1 {r : RawC} {n1 : Nat} (h1 : r.ins.length = n1) (k : Nat) (hk : k < n1) : (bodyLines r).getD k [] = [r.ins.getD k 0] := by
  unfold bodyLines
  rw [getD_left _ _ _ _ (by simp; omega), getD_mapN _ _ 0 _ _ (by omega)]
theorem line2 {r : RawC} {n1 n2 : Nat} (h1 : r.ins.length = n1) (h2 : r.lats.length = n2) (k : Nat) (hk : k < n2) : (bodyLines r).getD (n1 + k) [] = latNums (r.lats.getD k (0, 0, 0)) := by
  unfold bodyLines
  rw [getD_right _ _ _ n1 k (by simpa using h1), getD_left _ _ _ _ (by simp; omega), getD_mapN _ _ (0, 0, 0) _ _ (by omega)]
theorem line3 {r : RawC} {n1 n2 n3 : Nat} (h1 : r.ins.length = n1) (h2 : r.lats.length = n2) (h3 : r.outs.length = n3) (k : Nat) (hk : k < n3) : (bodyLines r).getD (n1 + n2 + k) [] = [r.outs.getD k 0] := by
  unfold bodyLines
  rw [Nat.add_assoc, getD_right _ _ _ n1 _ (by simpa using h1), getD_right _ _ _ n2 _ (by simpa using h2), getD_left _ _ _ _ (by simp; omega), getD_mapN _ _ 0 _ _ (by omega)]
theorem line4 {r : RawC} {n1 n2 n3 n4 : Nat} (h1 : r.ins.length = n1) (h2 : r.lats.length = n2) (h3 : r.outs.length = n3) (h4 : r.bads.length = n4) (k : Nat) (hk : k < n4) : (bodyLines r).getD (n1 + n2 + n3 + k) [] = [r.bads.getD k 0] := by
  unfold bodyLines
  rw [show n1 + n2 + n3 + k = n1 + (n2 + (n3 + k)) by omega, getD_right _ _ _ n1 _ (by simpa using h1), getD_right _ _ _ n2 _ (by simpa using h2), getD_right _ _ _ n3 _ (by simpa using h3), getD_left _ _ _ _ (by simp; omega), getD_mapN _ _ 0 _ _ (by omega)]
theorem line5 {r : RawC} {n1 n2 n3 n4 n5 : Nat} (h1 : r.ins.length = n1) (h2 : r.lats.length = n2) (h3 : r.outs.length = n3) (h4 : r.bads.length = n4) (h5 : r.cons.length = n5) (k : Nat) (hk : k < n5) : (bodyLines r).getD (n1 + n2 + n3 + n4 + k) [] = [r.cons.getD k 0] := by
  unfold bodyLines
  rw [show n1 + n2 + n3 + n4 + k = n1 + (n2 + (n3 + (n4 + k))) by omega, getD_right _ _ _ n1 _ (by simpa using h1), getD_right _ _ _ n2 _ (by simpa using h2), getD_right _ _ _ n3 _ (by simpa using h3), getD_right _ _ _ n4 _ (by simpa using h4), getD_left _ _ _ _ (by simp; omega), getD_mapN _ _ 0 _ _ (by omega)]
theorem line6 {r : RawC} {n1 n2 n3 n4 n5 n6 : Nat} (h1 : r.ins.length = n1) (h2 : r.lats.length = n2) (h3 : r.outs.length = n3) (h4 : r.bads.length = n4) (h5 : r.cons.length = n5) (h6 : r.gates.length = n6) (k : Nat) (hk : k < n6) : (bodyLines r).getD (n1 + n2 + n3 + n4 + n5 + k) [] = triNums (r.gates.getD k (0, 0, 0)) := by
  unfold bodyLines
  rw [show n1 + n2 + n3 + n4 + n5 + k = n1 + (n2 + (n3 + (n4 + (n5 + k)))) by omega, getD_right _ _ _ n1 _ (by simpa using h1), getD_right _ _ _ n2 _ (by simpa using h2), getD_right _ _ _ n3 _ (by simpa using h3), getD_right _ _ _ n4 _ (by simpa using h4), getD_right _ _ _ n5 _ (by simpa using h5), getD_mapN _ _ (0, 0, 0) _ _ (by omega)]

/-- What a valid circuit's numbers are. -/
structure ValidR (r : RawC) : Prop where
  max : r.max ≤ 16384
  sum : r.ins.length + r.lats.length + r.gates.length ≤ r.max
  l3 : r.outs.length ≤ 1024
  l4 : r.bads.length ≤ 1024
  l5 : r.cons.length ≤ 1024
  i : ∀ x ∈ r.ins, x ≤ 2 * r.max + 1
  o : ∀ x ∈ r.outs, x ≤ 2 * r.max + 1
  b : ∀ x ∈ r.bads, x ≤ 2 * r.max + 1
  c : ∀ x ∈ r.cons, x ≤ 2 * r.max + 1
  la : ∀ t ∈ r.lats, t.1 ≤ 2 * r.max + 1 ∧ t.2.1 ≤ 2 * r.max + 1 ∧ mayReset t = true
  ga : ∀ t ∈ r.gates, t.1 ≤ 2 * r.max + 1 ∧ t.2.1 ≤ 2 * r.max + 1 ∧ t.2.2 ≤ 2 * r.max + 1
theorem not_above {m x : Nat} (h : above m x = false) : x ≤ 2 * m + 1 := by simp [above] at h; omega
theorem badList_no {m : Nat} {l : List Nat} (h : badList m l = false) : l.length ≤ 1024 ∧ ∀ x ∈ l, x ≤ 2 * m + 1 := by
  unfold badList at h
  rw [Bool.or_eq_false_iff] at h
  refine ⟨by have := h.1; simp at this; omega, fun x hx => not_above ?_⟩
  have := (List.any_eq_false.1 h.2) x hx
  simpa using this
theorem valid_of {r : RawC} (h : mayRaw r = true) : ValidR r := by
  unfold mayRaw at h
  simp only [Bool.and_eq_true, Bool.not_eq_true', Bool.or_eq_false_iff, decide_eq_false_iff_not] at h
  obtain ⟨⟨h1, h2⟩, h3, h4, h5, h6, h7, h8⟩ := h
  have b3 := badList_no h3
  have b4 := badList_no h4
  have b5 := badList_no h5
  refine ⟨by omega, by omega, b3.1, b4.1, b5.1, fun x hx => not_above (by have := (List.any_eq_false.1 h6) x hx; simpa using this), b3.2, b4.2, b5.2, fun t ht => ?_, fun t ht => ?_⟩
  · have := (List.any_eq_false.1 h7) t ht
    simp only [Bool.not_eq_true, badLatch, Bool.or_eq_false_iff] at this
    exact ⟨not_above this.1.1, not_above this.1.2, by simpa using this.2⟩
  · have := (List.any_eq_false.1 h8) t ht
    simp only [Bool.not_eq_true, badGate, Bool.or_eq_false_iff] at this
    exact ⟨not_above this.1.1, not_above this.1.2, not_above this.2⟩

theorem reset_le {t : Tri} {m : Nat} (h : mayReset t = true) (h1 : t.1 ≤ 2 * m + 1) : t.2.2 ≤ 2 * m + 1 := by
  unfold mayReset at h
  rw [Bool.or_eq_true] at h
  rcases h with h | h
  · have : t.2.2 ≤ 1 := by simpa using h
    omega
  · have : t.2.2 = t.1 := by simpa using h
    omega

/-- The lines of a valid circuit: none has more than three numbers, all of them small. -/
theorem lines_small {r : RawC} (h : ValidR r) : ∀ l ∈ bodyLines r, 1 ≤ l.length ∧ l.length ≤ 3 ∧ ∀ x ∈ l, x ≤ 2 * r.max + 1 := by
  intro l hl
  unfold bodyLines at hl
  simp only [List.mem_append, List.mem_map] at hl
  rcases hl with ⟨x, hx, rfl⟩ | ⟨t, ht, rfl⟩ | ⟨x, hx, rfl⟩ | ⟨x, hx, rfl⟩ | ⟨x, hx, rfl⟩ | ⟨t, ht, rfl⟩
  · exact ⟨by simp, by simp, fun y hy => by simp at hy; subst hy; exact h.i _ hx⟩
  · obtain ⟨ha, hb, hc⟩ := h.la t ht
    have hd := reset_le hc ha
    unfold latNums
    split
    · exact ⟨by simp, by simp, fun y hy => by simp at hy; rcases hy with rfl | rfl <;> assumption⟩
    · exact ⟨by simp, by simp, fun y hy => by simp at hy; rcases hy with rfl | rfl | rfl <;> assumption⟩
  · exact ⟨by simp, by simp, fun y hy => by simp at hy; subst hy; exact h.o _ hx⟩
  · exact ⟨by simp, by simp, fun y hy => by simp at hy; subst hy; exact h.b _ hx⟩
  · exact ⟨by simp, by simp, fun y hy => by simp at hy; subst hy; exact h.c _ hx⟩
  · obtain ⟨ha, hb, hc⟩ := h.ga t ht
    exact ⟨by simp [triNums], by simp [triNums], fun y hy => by simp [triNums] at hy; rcases hy with rfl | rfl | rfl <;> assumption⟩

theorem linesOf_len : ∀ (L : List (List Nat)), (∀ l ∈ L, l.length ≤ 3 ∧ ∀ x ∈ l, x < 4294967296) → (linesOf L).length ≤ 64 * L.length
  | [], _ => by simp [linesOf]
  | l :: L, h => by
    have ih := linesOf_len L fun l' hl' => h l' (by simp [hl'])
    have hl := h l (by simp)
    have hb := bodyOf_len l hl.2
    simp only [linesOf, lineOf, List.length_append, List.length_cons, List.length_nil]
    omega

/-- The text with the first lines alone. -/
def accT (r : RawC) (j : Nat) : List UInt8 := headText ++ (lineOf (countsOf r) ++ linesOf ((bodyLines r).take j))
theorem accT_zero (r : RawC) : accT r 0 = headText ++ lineOf (countsOf r) := by simp [accT, linesOf]
theorem accT_step (r : RawC) (j : Nat) (l : List Nat) (hj : j < (bodyLines r).length) (hl : (bodyLines r).getD j [] = l) : accT r (j + 1) = accT r j ++ lineOf l := by
  have e : (bodyLines r).take (j + 1) = (bodyLines r).take j ++ [l] := by
    rw [List.take_succ_eq_append_getElem hj, ← hl]
    simp [List.getD, List.getElem?_eq_getElem hj]
  unfold accT
  rw [e, linesOf_snoc]
  simp
theorem accT_full (r : RawC) (j : Nat) (hj : (bodyLines r).length ≤ j) : accT r j = textOf r := by
  unfold accT textOf
  rw [List.take_of_length_le hj]
theorem counts_len (r : RawC) : 5 ≤ (countsOf r).length ∧ (countsOf r).length ≤ 7 := by
  unfold countsOf countsAll
  split
  · split <;> simp
  · simp
theorem counts_small {r : RawC} (h : ValidR r) : ∀ x ∈ countsOf r, x ≤ 16384 := by
  have hall : ∀ x ∈ countsAll r, x ≤ 16384 := by
    intro x hx
    have h1 := h.max
    have h2 := h.sum
    have h3 := h.l3
    have h4 := h.l4
    have h5 := h.l5
    simp [countsAll] at hx
    rcases hx with rfl | rfl | rfl | rfl | rfl | rfl | rfl <;> omega
  intro x hx
  unfold countsOf at hx
  split at hx
  · split at hx
    · exact hall x (List.mem_of_mem_take hx)
    · exact hall x (List.mem_of_mem_take hx)
  · exact hall x hx
theorem accT_len {r : RawC} (h : ValidR r) (j : Nat) : (accT r j).length ≤ 64 * (bodyLines r).length + 152 := by
  have hb := bodyOf_len (countsOf r) (fun x hx => by have := counts_small h x hx; omega)
  have hc := (counts_len r).2
  have hl := linesOf_len ((bodyLines r).take j) (fun l hl => by
    have hs := lines_small h l (List.mem_of_mem_take hl)
    have := h.max
    exact ⟨hs.2.1, fun x hx => by have := hs.2.2 x hx; omega⟩)
  have hj : ((bodyLines r).take j).length ≤ (bodyLines r).length := by simp; omega
  unfold accT lineOf headText
  simp only [List.length_append, List.length_cons, List.length_nil]
  omega
theorem lines_few {r : RawC} (h : ValidR r) : (bodyLines r).length ≤ 19456 := by
  have := h.sum
  have := h.max
  have := h.l3
  have := h.l4
  have := h.l5
  simp [bodyLines]
  omega
end Go.Proofs.YtglhnmbfkbjemaaDoor
