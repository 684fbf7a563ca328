/- What bin.Get answers is valid, and Put writes no more than was read: on plain lists. -/
import Derived.Test.YtglhnmbfkbjemaaDoorRawText
import Derived.Test.YtglhnmbfkbjemaaDoorBInB
import Derived.Test.YtglhnmbfkbjemaaDoorNBase
import Derived.Test.YtglhnmbfkbjemaaDoorBInA
/- What is put is got, on plain lists; with a remark behind it too; cut, it is refused. -/
namespace Go.Proofs.YtglhnmbfkbjemaaDoor
open Go Go.RowKit

theorem cut_line (l r : List UInt8) (h : ∀ c ∈ l, c ≠ 10) : cutS (l ++ 10 :: r) = some (l, r) := by
  have ha := ahead_line l r h
  unfold cutS
  rw [ha, if_pos (by simp)]
  have e1 : (l ++ 10 :: r).take l.length = l := List.take_left' rfl
  have e2 : (l ++ 10 :: r).drop (l.length + 1) = r := by rw [← List.drop_drop, List.drop_left' rfl]; rfl
  rw [e1, e2]
theorem cut_nums (l : List Nat) (r : List UInt8) : cutS (lineOf l ++ r) = some (bodyOf l, r) := by
  have e : lineOf l ++ r = bodyOf l ++ 10 :: r := by simp [lineOf]
  rw [e]; exact cut_line _ _ (body_free l)
/-- A part of a line without its end. -/
theorem cut_short (l : List UInt8) (h : ∀ c ∈ l, c ≠ 10) : cutS l = none := by
  have ha : ahead l = l.length := by
    unfold ahead
    induction l with
    | nil => rfl
    | cons x t ih =>
      have hx := h x (by simp)
      rw [List.takeWhile_cons, if_pos (by simpa using hx), List.length_cons, ih (fun c hc => h c (by simp [hc])), List.length_cons]
  unfold cutS
  rw [ha, if_neg (by omega)]

/-- The lines of a section are read. -/
theorem sect_read {α : Type} (item : List UInt8 → Nat → Except Int α) (most : Nat) (f : α → List Nat) : ∀ (xs : List α) (r : List UInt8), (∀ x ∈ xs, item (bodyOf (f x)) most = .ok x) → sectS item most xs.length (linesOf (xs.map f) ++ r) = .ok (xs, r)
  | [], r, _ => rfl
  | x :: t, r, h => by
    rw [List.length_cons, sectS, List.map_cons, linesOf, List.append_assoc, cut_nums]
    simp only [h x (by simp)]
    rw [sect_read item most f t r (fun y hy => h y (by simp [hy]))]

theorem lit_read {x most : Nat} (h : x ≤ most) : litS (bodyOf [x]) most = .ok x := by
  have hr := written_read [x] most (by simpa using h) 1 1 (by simp) (by simp)
  unfold litS
  rw [if_pos hr.1, hr.2]; rfl
theorem gate_read {t : Tri} {most : Nat} (h1 : t.1 ≤ most) (h2 : t.2.1 ≤ most) (h3 : t.2.2 ≤ most) : gateS (bodyOf (triNums t)) most = .ok t := by
  have hr := written_read (triNums t) most (by intro x hx; simp [triNums] at hx; rcases hx with rfl | rfl | rfl <;> assumption) 3 3 (by simp [triNums]) (by simp [triNums])
  unfold gateS
  rw [if_pos hr.1, hr.2]; rfl
theorem lat_read {t : Tri} {most : Nat} (h1 : t.1 ≤ most) (h2 : t.2.1 ≤ most) (h3 : t.2.2 ≤ most) (hm : mayReset t = true) : latS (bodyOf (latNums t)) most = .ok t := by
  have hl : latOf (latNums t) = t := by
    unfold latNums latOf
    split
    · rename_i h; obtain ⟨x, y, z⟩ := t; simp at h; subst h; rfl
    · rfl
  have hr := written_read (latNums t) most (by
    intro x hx
    unfold latNums at hx
    split at hx
    · simp at hx; rcases hx with rfl | rfl <;> assumption
    · simp at hx; rcases hx with rfl | rfl | rfl <;> assumption) 2 3 (by unfold latNums; split <;> simp) (by unfold latNums; split <;> simp)
  unfold latS
  rw [if_pos hr.1, hr.2, hl, if_pos hm]

/-- The first line's words. -/
theorem head_words (l : List Nat) (hl : l ≠ []) : wordsOf (headText ++ bodyOf l) = some ([97, 97, 103] :: l.map Lib.decDigits) := by
  have hj : headText ++ bodyOf l = joinW ([97, 97, 103] :: l.map Lib.decDigits) := by
    rw [bodyOf_eq]
    cases l with
    | nil => exact absurd rfl hl
    | cons x r => simp [headText, joinW, tailW]
  have hs : splitW (joinW ([97, 97, 103] :: l.map Lib.decDigits)) = [97, 97, 103] :: l.map Lib.decDigits := by
    refine splitW_join _ _ ?_
    intro y hy c hc
    rcases List.mem_cons.1 hy with rfl | hy
    · simp at hc; rcases hc with rfl | rfl <;> decide
    · obtain ⟨u, _, rfl⟩ := List.mem_map.1 hy
      exact (dec_blank u c hc).1
  unfold wordsOf
  rw [hj, hs]
  have hne : joinW ([97, 97, 103] :: l.map Lib.decDigits) ≠ [] := by rw [← hj]; simp [headText]
  rw [if_neg hne, if_neg]
  simp only [List.any_cons, List.isEmpty_cons, Bool.false_or]
  intro h
  rw [List.any_eq_true] at h
  obtain ⟨x, hx, he⟩ := h
  obtain ⟨u, _, rfl⟩ := List.mem_map.1 hx
  exact dec_ne u (by simpa using he)

theorem firstErr_dec (l : List Nat) (most : Nat) (h : ∀ x ∈ l, x ≤ most) : firstErr (l.map Lib.decDigits) most = 0 := by
  refine firstErr_of fun x hx => ?_
  obtain ⟨u, hu, rfl⟩ := List.mem_map.1 hx
  exact dec_err u most (h u hu)
theorem nine_dec (l : List Nat) (h : ∀ x ∈ l, x ≤ 2147483647) : nineOf (l.map Lib.decDigits) = l ++ List.replicate (9 - l.length) 0 := by
  unfold nineOf
  rw [List.map_map, List.length_map]
  congr 1
  conv => rhs; rw [← List.map_id l]
  apply List.map_congr_left
  intro u hu
  exact dec_num u _ (h u hu)

theorem head_free (l : List Nat) : ∀ c ∈ headText ++ bodyOf l, c ≠ 10 := by
  intro c hc
  rcases List.mem_append.1 hc with h | h
  · simp [headText] at h; rcases h with rfl | rfl | rfl <;> decide
  · exact body_free l c h

theorem nine_counts (r : RawC) : ∃ l : List Nat, l = countsOf r ++ List.replicate (9 - (countsOf r).length) 0 ∧ l = countsAll r ++ [0, 0] := by
  refine ⟨_, rfl, ?_⟩
  unfold countsOf
  by_cases h5 : r.cons.length = 0
  · by_cases h4 : r.bads.length = 0
    · rw [if_pos h5, if_pos h4]; simp [countsAll, h5, h4]
    · rw [if_pos h5, if_neg h4]; simp [countsAll, h5]
  · rw [if_neg h5]; simp [countsAll]

theorem headS_put {r : RawC} (hv : ValidR r) (rest : List UInt8) : headS [97, 97, 103] (headText ++ (lineOf (countsOf r) ++ rest)) = .ok (countsAll r, rest) := by
  have hne : countsOf r ≠ [] := by have := (counts_len r).1; intro e; rw [e] at this; simp at this
  have hw := head_words (countsOf r) hne
  have hcs := counts_small hv
  have hc : cutS (headText ++ (lineOf (countsOf r) ++ rest)) = some (headText ++ bodyOf (countsOf r), rest) := by
    have e : headText ++ (lineOf (countsOf r) ++ rest) = (headText ++ bodyOf (countsOf r)) ++ 10 :: rest := by simp [lineOf]
    rw [e]; exact cut_line _ _ (head_free _)
  have hn := nine_dec (countsOf r) (fun x hx => by have := hcs x hx; omega)
  obtain ⟨l9, h1, h2⟩ := nine_counts r
  rw [← h1, h2] at hn
  have hlen := counts_len r
  have hsum := hv.sum
  have hmax := hv.max
  have e3 := hv.l3
  have e4 := hv.l4
  have e5 := hv.l5
  unfold headS
  rw [hc]
  simp only
  have he : headErr [97, 97, 103] (headText ++ bodyOf (countsOf r)) = 0 := by
    unfold headErr
    rw [hw]
    simp only [List.drop_succ_cons, List.drop_zero, List.length_cons, List.length_map]
    rw [if_neg]
    · rw [firstErr_dec _ _ (fun x hx => by have := hcs x hx; omega), if_neg (by simp), hn]
      unfold checkErr countsAll
      rw [if_neg (by simp), if_neg (by simp; omega), if_neg (by simp; omega)]
    · simp; omega
  rw [if_pos he]
  congr 2
  unfold headNums
  rw [hw]
  simp only [Option.getD_some, List.drop_succ_cons, List.drop_zero]
  rw [hn]
  rfl

theorem body_split (r : RawC) (tail : List UInt8) : linesOf (bodyLines r) ++ tail = linesOf (r.ins.map fun x => [x]) ++ (linesOf (r.lats.map latNums) ++ (linesOf (r.outs.map fun x => [x]) ++ (linesOf (r.bads.map fun x => [x]) ++ (linesOf (r.cons.map fun x => [x]) ++ (linesOf (r.gates.map triNums) ++ tail))))) := by
  unfold bodyLines
  simp only [linesOf_append, List.append_assoc]
theorem text_split (r : RawC) (tail : List UInt8) : textOf r ++ tail = headText ++ (lineOf (countsOf r) ++ (linesOf (bodyLines r) ++ tail)) := by
  unfold textOf
  simp only [List.append_assoc]

theorem get_put {r : RawC} (hv : ValidR r) (tail : List UInt8) (hlen : (textOf r ++ tail).length ≤ 1048576) (hn : namesErr [r.ins.length, r.lats.length, r.outs.length, r.bads.length, r.cons.length] tail = 0) : getS (textOf r ++ tail) = .ok r := by
  have h1 := fun R => sect_read litS (2 * r.max + 1) (fun x => [x]) r.ins R (fun x hx => lit_read (hv.i x hx))
  have h2 := fun R => sect_read latS (2 * r.max + 1) latNums r.lats R (fun t ht => lat_read (hv.la t ht).1 (hv.la t ht).2.1 (reset_le (hv.la t ht).2.2 (hv.la t ht).1) (hv.la t ht).2.2)
  have h3 := fun R => sect_read litS (2 * r.max + 1) (fun x => [x]) r.outs R (fun x hx => lit_read (hv.o x hx))
  have h4 := fun R => sect_read litS (2 * r.max + 1) (fun x => [x]) r.bads R (fun x hx => lit_read (hv.b x hx))
  have h5 := fun R => sect_read litS (2 * r.max + 1) (fun x => [x]) r.cons R (fun x hx => lit_read (hv.c x hx))
  have h6 := fun R => sect_read gateS (2 * r.max + 1) triNums r.gates R (fun t ht => gate_read (hv.ga t ht).1 (hv.ga t ht).2.1 (hv.ga t ht).2.2)
  have hh := headS_put hv (linesOf (bodyLines r) ++ tail)
  rw [← text_split, body_split] at hh
  unfold getS
  rw [if_neg (by omega), hh]
  simp only [countsAll, List.getD_cons_succ, List.getD_cons_zero, h1, h2, h3, h4, h5, h6, hn, if_true]

theorem sect_short {α : Type} (item : List UInt8 → Nat → Except Int α) (most : Nat) (f : α → List Nat) : ∀ (xs : List α) (k : Nat), (∀ x ∈ xs, item (bodyOf (f x)) most = .ok x) → k < (linesOf (xs.map f)).length → sectS item most xs.length ((linesOf (xs.map f)).take k) = .error 4
  | [], k, _, hk => by simp [linesOf] at hk
  | x :: t, k, h, hk => by
    rw [List.length_cons, sectS, List.map_cons, linesOf]
    by_cases hlt : k < (lineOf (f x)).length
    · have hs : cutS ((lineOf (f x) ++ linesOf (t.map f)).take k) = none := by
        refine cut_short _ fun c hc => ?_
        rw [List.take_append_of_le_length (by omega)] at hc
        have hb : (lineOf (f x)).take k = (bodyOf (f x)).take k := by
          unfold lineOf
          rw [List.take_append_of_le_length (by simp [lineOf] at hlt; omega)]
        rw [hb] at hc
        exact body_free _ c (List.mem_of_mem_take hc)
      rw [hs]
    · have e : (lineOf (f x) ++ linesOf (t.map f)).take k = lineOf (f x) ++ (linesOf (t.map f)).take (k - (lineOf (f x)).length) := by
        rw [List.take_append, List.take_of_length_le (by omega)]
      rw [e, cut_nums]
      simp only [h x (by simp)]
      rw [sect_short item most f t _ (fun y hy => h y (by simp [hy])) (by rw [List.map_cons, linesOf, List.length_append] at hk; omega)]

theorem sect_cut {α : Type} (item : List UInt8 → Nat → Except Int α) (most : Nat) (f : α → List Nat) (xs : List α) (R : List UInt8) (k : Nat) (h : ∀ x ∈ xs, item (bodyOf (f x)) most = .ok x) (hk : k < (linesOf (xs.map f) ++ R).length) :
    sectS item most xs.length ((linesOf (xs.map f) ++ R).take k) = .error 4 ∨ ∃ k', k' < R.length ∧ sectS item most xs.length ((linesOf (xs.map f) ++ R).take k) = .ok (xs, R.take k') := by
  by_cases hlt : k < (linesOf (xs.map f)).length
  · left
    rw [List.take_append_of_le_length (by omega)]
    exact sect_short item most f xs k h hlt
  · right
    refine ⟨k - (linesOf (xs.map f)).length, by rw [List.length_append] at hk; omega, ?_⟩
    rw [List.take_append, List.take_of_length_le (by omega)]
    exact sect_read item most f xs _ h

theorem get_cut {r : RawC} (hv : ValidR r) (k : Nat) (hk : k < (textOf r).length) (hlen : (textOf r).length ≤ 1048576) : getS ((textOf r).take k) = .error 4 := by
  have hl : ((textOf r).take k).length ≤ 1048576 := by simp; omega
  have hts : textOf r = (headText ++ bodyOf (countsOf r)) ++ ([10] ++ linesOf (bodyLines r)) := by simp [textOf, lineOf]
  by_cases hlt : k ≤ (headText ++ bodyOf (countsOf r)).length
  · have hs : cutS ((textOf r).take k) = none := by
      refine cut_short _ fun c hc => ?_
      rw [hts, List.take_append_of_le_length hlt] at hc
      exact head_free _ c (List.mem_of_mem_take hc)
    unfold getS
    rw [if_neg (by omega)]
    unfold headS
    rw [hs]
  · obtain ⟨k0, hk0⟩ : ∃ k0, k = (headText ++ bodyOf (countsOf r)).length + 1 + k0 := ⟨k - ((headText ++ bodyOf (countsOf r)).length + 1), by omega⟩
    have hle : k0 < (linesOf (bodyLines r) ++ []).length := by
      have := congrArg List.length hts
      simp only [List.length_append, List.length_cons, List.length_nil] at this hk hk0 ⊢
      omega
    have ht : (textOf r).take k = headText ++ (lineOf (countsOf r) ++ (linesOf (bodyLines r) ++ []).take k0) := by
      have e : textOf r = (headText ++ lineOf (countsOf r)) ++ (linesOf (bodyLines r) ++ []) := by simp [textOf]
      have el : (headText ++ lineOf (countsOf r)).length = (headText ++ bodyOf (countsOf r)).length + 1 := by simp [lineOf]; omega
      rw [e, List.take_append, List.take_of_length_le (by rw [el]; omega), List.append_assoc, el, hk0]
      congr 3
      omega
    have hh := headS_put hv ((linesOf (bodyLines r) ++ []).take k0)
    rw [← ht] at hh
    rw [body_split] at hh hle
    unfold getS
    rw [if_neg (by omega), hh]
    simp only [countsAll, List.getD_cons_succ, List.getD_cons_zero]
    rcases sect_cut litS (2 * r.max + 1) (fun x => [x]) r.ins _ k0 (fun x hx => lit_read (hv.i x hx)) hle with e | ⟨k1, hk1, e⟩
    · rw [e]
    rw [e]
    simp only
    rcases sect_cut latS (2 * r.max + 1) latNums r.lats _ k1 (fun t ht => lat_read (hv.la t ht).1 (hv.la t ht).2.1 (reset_le (hv.la t ht).2.2 (hv.la t ht).1) (hv.la t ht).2.2) hk1 with e | ⟨k2, hk2, e⟩
    · rw [e]
    rw [e]
    simp only
    rcases sect_cut litS (2 * r.max + 1) (fun x => [x]) r.outs _ k2 (fun x hx => lit_read (hv.o x hx)) hk2 with e | ⟨k3, hk3, e⟩
    · rw [e]
    rw [e]
    simp only
    rcases sect_cut litS (2 * r.max + 1) (fun x => [x]) r.bads _ k3 (fun x hx => lit_read (hv.b x hx)) hk3 with e | ⟨k4, hk4, e⟩
    · rw [e]
    rw [e]
    simp only
    rcases sect_cut litS (2 * r.max + 1) (fun x => [x]) r.cons _ k4 (fun x hx => lit_read (hv.c x hx)) hk4 with e | ⟨k5, hk5, e⟩
    · rw [e]
    rw [e]
    simp only
    rcases sect_cut gateS (2 * r.max + 1) triNums r.gates _ k5 (fun t ht => gate_read (hv.ga t ht).1 (hv.ga t ht).2.1 (hv.ga t ht).2.2) hk5 with e | ⟨k6, hk6, e⟩
    · rw [e]
    simp at hk6

/-- A remark behind: names say nothing. -/
theorem names_remark (many : List Nat) (rem : List UInt8) : namesErr many ([99, 10] ++ rem) = 0 := by
  unfold namesErr
  have hc : cutS ([99, 10] ++ rem) = some ([99], rem) := cut_line [99] rem (by simp)
  have hl : (([99, 10] : List UInt8) ++ rem).length = rem.length + 1 + 1 := by simp
  rw [hl, namesS, if_neg (by simp), hc]
  simp
end Go.Proofs.YtglhnmbfkbjemaaDoor
/- The reader's sections on plain lists: what is written is read, and what is read is written. -/
namespace Go.Proofs.YtglhnmbfkbjemaaDoor
open Go Go.RowKit Go.Joins

/-- A latch's line. -/
def blatNums (t : Tri) : List Nat := if t.2.2 = 0 then [t.2.1] else [t.2.1, t.2.2]
def bLat (own : Nat) (p : Nat × Nat) : Tri := (own, p.1, if p.2 = 2 then own else p.2)
def bLats : Nat → List (Nat × Nat) → List UInt8
  | _, [] => []
  | own, p :: r => lineOf (blatNums (bLat own p)) ++ bLats (own + 2) r

theorem ahead_ten : ∀ (bs : List UInt8), ahead bs < bs.length → bs.getD (ahead bs) 0 = 10
  | [], h => by simp at h
  | x :: r, h => by
    by_cases hx : x = 10
    · subst hx; simp [ahead]
    · have ha : ahead (x :: r) = ahead r + 1 := by unfold ahead; rw [List.takeWhile_cons]; simp [hx]
      rw [ha, List.length_cons] at h
      rw [ha]
      have := ahead_ten r (by omega)
      simpa using this

theorem lineSt_nums {most : Nat} {many : Int} (l : List Nat) (r : List UInt8) (h1 : 1 ≤ l.length) (h2 : (l.length : Int) ≤ many) (h3 : ∀ x ∈ l, x ≤ most) : lineSt most many (.ok (lineOf l ++ r)) = ((l.getD 0 0, l.getD 1 0), .ok r) := by
  obtain ⟨e1, e2⟩ := written_read l most h3 1 many (by omega) h2
  simp only [lineSt, cut_nums, e1, e2, if_true]
theorem lineSt_get {most : Nat} {many : Int} {st : St} {r : List UInt8} (h : (lineSt most many st).2 = .ok r) : ∃ l, st = .ok (lineOf l ++ r) ∧ 1 ≤ l.length ∧ (l.length : Int) ≤ many ∧ (∀ x ∈ l, x ≤ most) ∧ (lineSt most many st).1 = (l.getD 0 0, l.getD 1 0) := by
  cases st with
  | error e => simp only [lineSt] at h; cases h
  | ok bs =>
    cases hc : cutS bs with
    | none => simp only [lineSt, hc] at h; cases h
    | some p =>
      obtain ⟨line, rest⟩ := p
      by_cases he : numsErr line 1 many most = 0
      · simp only [lineSt, hc, he, if_true] at h ⊢
        cases h
        have hb := read_written he
        obtain ⟨g1, g2⟩ := nums_len he
        have hbs : bs = lineOf (numsOf line most) ++ r := by
          unfold cutS at hc
          split at hc
          · rename_i hlt
            cases hc
            unfold lineOf
            rw [hb, List.append_assoc]
            have hx : bs = bs.take (ahead bs) ++ bs.drop (ahead bs) := (List.take_append_drop _ _).symm
            have hd : bs.drop (ahead bs) = [10] ++ bs.drop (ahead bs + 1) := by
              rw [List.drop_eq_getElem_cons hlt]
              rw [show bs[ahead bs] = 10 from by
                have := ahead_ten bs hlt
                simpa [List.getD, hlt] using this]
              rfl
            rw [← hd]; exact hx
          · cases hc
        refine ⟨numsOf line most, by rw [← hbs], g1, g2, fun x hx => ?_, rfl⟩
        unfold numsOf at hx
        obtain ⟨y, _, rfl⟩ := List.mem_map.1 hx
        exact numOf_le y most
      · simp only [lineSt, hc, he, if_false] at h; cases h

theorem litsSt_put {most : Nat} : ∀ (xs : List Nat) (r : List UInt8), (∀ x ∈ xs, x ≤ most) → litsSt most xs.length (.ok (linesOf (xs.map fun x => [x]) ++ r)) = (xs, .ok r)
  | [], r, _ => rfl
  | x :: t, r, h => by
    rw [List.length_cons, litsSt, List.map_cons, linesOf, List.append_assoc, lineSt_nums [x] _ (by simp) (by simp) (by simpa using h x (by simp))]
    simp only
    rw [litsSt_put t r (fun y hy => h y (by simp [hy]))]
    rfl
theorem litsSt_get {most : Nat} : ∀ (k : Nat) (st : St) (r : List UInt8), (litsSt most k st).2 = .ok r → st = .ok (linesOf ((litsSt most k st).1.map fun x => [x]) ++ r) ∧ ∀ x ∈ (litsSt most k st).1, x ≤ most
  | 0, st, r, h => by
    rw [litsSt] at h ⊢
    exact ⟨by simpa [linesOf] using h, fun x hx => by cases hx⟩
  | k + 1, st, r, h => by
    rw [litsSt] at h ⊢
    obtain ⟨h1, h2⟩ := litsSt_get k _ r h
    obtain ⟨l, hs, g1, g2, g3, hv⟩ := lineSt_get h1
    have hl : ∃ x, l = [x] := by
      match l, g1, g2 with
      | [x], _, _ => exact ⟨x, rfl⟩
      | _ :: _ :: _, _, g => simp at g; omega
    obtain ⟨x, rfl⟩ := hl
    have hx : (lineSt most 1 st).1.1 = x := by rw [hv]; rfl
    refine ⟨?_, fun y hy => ?_⟩
    · rw [hx, List.map_cons, linesOf, List.append_assoc]; exact hs
    · rw [hx] at hy
      rcases List.mem_cons.1 hy with rfl | hy
      · exact g3 y (by simp)
      · exact h2 y hy

theorem latSt_put {most own : Nat} {p : Nat × Nat} (r : List UInt8) (ho : 2 ≤ own) (hom : own ≤ most) (h1 : p.1 ≤ most) (h2 : p.2 ≤ 2) : latSt most own (.ok (lineOf (blatNums (bLat own p)) ++ r)) = (p, .ok r) := by
  obtain ⟨x, y⟩ := p
  simp only at h1 h2
  have hc : y = 0 ∨ y = 1 ∨ y = 2 := by omega
  rcases hc with rfl | rfl | rfl
  · have e : blatNums (bLat own (x, 0)) = [x] := by simp [blatNums, bLat]
    rw [e]
    unfold latSt
    rw [lineSt_nums [x] r (by simp) (by simp) (by simpa using h1)]
    simp
    omega
  · have e : blatNums (bLat own (x, 1)) = [x, 1] := by simp [blatNums, bLat]
    rw [e]
    unfold latSt
    rw [lineSt_nums [x, 1] r (by simp) (by simp) (by simp; omega)]
    simp
    omega
  · have e : blatNums (bLat own (x, 2)) = [x, own] := by simp [blatNums, bLat]; omega
    rw [e]
    unfold latSt
    rw [lineSt_nums [x, own] r (by simp) (by simp) (by simp; omega)]
    simp
theorem latsSt_put {most : Nat} : ∀ (ls : List (Nat × Nat)) (own : Nat) (r : List UInt8), 2 ≤ own → own + 2 * ls.length ≤ most + 2 → (∀ p ∈ ls, p.1 ≤ most ∧ p.2 ≤ 2) → latsSt most ls.length own (.ok (bLats own ls ++ r)) = (ls, .ok r)
  | [], _, r, _, _, _ => rfl
  | p :: t, own, r, ho, hm, h => by
    rw [List.length_cons] at hm
    rw [List.length_cons, latsSt, bLats, List.append_assoc, latSt_put _ ho (by omega) (h p (by simp)).1 (h p (by simp)).2]
    simp only
    rw [latsSt_put t (own + 2) r (by omega) (by omega) (fun y hy => h y (by simp [hy]))]

theorem gatesSt_put : ∀ (gs : List (Nat × Nat)) (own : Nat) (r : List UInt8), okG own gs → own + 2 * gs.length ≤ 4294967295 → gatesSt gs.length own (.ok (putG own gs ++ r)) = (gs, .ok r)
  | [], _, _, _, _ => rfl
  | (a, b) :: t, own, r, h, hb => by
    obtain ⟨h1, h2, h3⟩ := h
    rw [List.length_cons] at hb ⊢
    have e : putG own ((a, b) :: t) ++ r = encL (own - a) ++ (encL (a - b) ++ (putG (own + 2) t ++ r)) := by simp [putG]
    have e1 : belowSt own 1 (.ok (encL (own - a) ++ (encL (a - b) ++ (putG (own + 2) t ++ r)))) = (a, .ok (encL (a - b) ++ (putG (own + 2) t ++ r))) := by
      simp only [belowSt, below_put _ (show a ≤ own by omega) (show 1 ≤ own - a by omega) (show own ≤ 4294967295 by omega)]
    have e2 : belowSt a 0 (.ok (encL (a - b) ++ (putG (own + 2) t ++ r))) = (b, .ok (putG (own + 2) t ++ r)) := by
      simp only [belowSt, below_put _ h2 (Nat.zero_le _) (show a ≤ 4294967295 by omega)]
    rw [e, gatesSt, e1]
    simp only
    rw [e2]
    simp only
    rw [gatesSt_put t (own + 2) r h3 (by omega)]
theorem belowSt_get {lit least : Nat} {st : St} {r : List UInt8} (h : (belowSt lit least st).2 = .ok r) : st = .ok (encL (lit - (belowSt lit least st).1) ++ r) ∧ (belowSt lit least st).1 ≤ lit ∧ least ≤ lit - (belowSt lit least st).1 := by
  cases st with
  | error e => simp only [belowSt] at h; cases h
  | ok bs =>
    cases hb : belowL bs lit least with
    | error e => simp only [belowSt, hb] at h; cases h
    | ok p =>
      obtain ⟨v, rest⟩ := p
      simp only [belowSt, hb] at h ⊢
      cases h
      obtain ⟨e1, e2, e3⟩ := below_get hb
      exact ⟨by rw [← e1], e2, e3⟩
theorem gatesSt_get : ∀ (k own : Nat) (st : St) (r : List UInt8), 1 ≤ own → (gatesSt k own st).2 = .ok r → st = .ok (putG own (gatesSt k own st).1 ++ r) ∧ okG own (gatesSt k own st).1
  | 0, own, st, r, _, h => by
    rw [gatesSt] at h ⊢
    exact ⟨by simpa [putG] using h, trivial⟩
  | k + 1, own, st, r, ho, h => by
    rw [gatesSt] at h ⊢
    obtain ⟨e3, o3⟩ := gatesSt_get k (own + 2) _ r (by omega) h
    obtain ⟨e2, l2, m2⟩ := belowSt_get e3
    obtain ⟨e1, l1, m1⟩ := belowSt_get e2
    refine ⟨?_, by omega, l2, o3⟩
    rw [putG, List.append_assoc, List.append_assoc]
    exact e1

theorem latSt_get {most own : Nat} {st : St} {r : List UInt8} (ho : 2 ≤ own) (h : (latSt most own st).2 = .ok r) : ∃ pre, st = .ok (pre ++ r) ∧ (lineOf (blatNums (bLat own (latSt most own st).1))).length ≤ pre.length ∧ (latSt most own st).1.1 ≤ most ∧ (latSt most own st).1.2 ≤ 2 := by
  unfold latSt at h ⊢
  by_cases c1 : (lineSt most 2 st).1.2 = own
  · rw [if_pos c1] at h ⊢
    obtain ⟨l, hs, g1, g2, g3, hv⟩ := lineSt_get h
    rw [hv] at c1 ⊢
    match l, g1, g2, g3, hs, c1 with
    | [x], _, _, _, _, c => simp at c; omega
    | [x, y], _, _, g3, hs, c =>
      have c : y = own := by simpa using c
      subst c
      refine ⟨lineOf [x, y], hs, ?_, by simpa using g3 x (by simp), by simp⟩
      have e : blatNums (bLat y (x, 2)) = [x, y] := by simp [blatNums, bLat]; omega
      simp [e]
    | _ :: _ :: _ :: _, _, g, _, _, _ => simp at g; omega
  · rw [if_neg c1] at h ⊢
    by_cases c2 : 1 < (lineSt most 2 st).1.2
    · rw [if_pos c2] at h; cases h
    · rw [if_neg c2] at h ⊢
      obtain ⟨l, hs, g1, g2, g3, hv⟩ := lineSt_get h
      rw [hv] at c1 c2 ⊢
      match l, g1, g2, g3, hs, c1, c2 with
      | [x], _, _, g3, hs, _, _ =>
        refine ⟨lineOf [x], hs, ?_, by simpa using g3 x (by simp), by simp⟩
        have e : blatNums (bLat own (x, 0)) = [x] := by simp [blatNums, bLat]
        simp [e]
      | [x, y], _, _, g3, hs, _, c2 =>
        have c2 : y ≤ 1 := by simpa using c2
        refine ⟨lineOf [x, y], hs, ?_, by simpa using g3 x (by simp), by simp; omega⟩
        have hy : y = 0 ∨ y = 1 := by omega
        rcases hy with rfl | rfl
        · have e : blatNums (bLat own (x, 0)) = [x] := by simp [blatNums, bLat]
          simp [e, lineOf, bodyOf, tailOf]
        · have e : blatNums (bLat own (x, 1)) = [x, 1] := by simp [blatNums, bLat]
          simp [e]
      | _ :: _ :: _ :: _, _, g, _, _, _, _ => simp at g; omega
theorem latsSt_get {most : Nat} : ∀ (k own : Nat) (st : St) (r : List UInt8), 2 ≤ own → (latsSt most k own st).2 = .ok r → ∃ pre, st = .ok (pre ++ r) ∧ (bLats own (latsSt most k own st).1).length ≤ pre.length ∧ ∀ p ∈ (latsSt most k own st).1, p.1 ≤ most ∧ p.2 ≤ 2
  | 0, own, st, r, _, h => by
    rw [latsSt] at h ⊢
    exact ⟨[], by simpa using h, by simp [bLats], fun p hp => by cases hp⟩
  | k + 1, own, st, r, ho, h => by
    rw [latsSt] at h ⊢
    obtain ⟨p2, e2, n2, m2⟩ := latsSt_get k (own + 2) _ r (by omega) h
    obtain ⟨p1, e1, n1, m1, m1'⟩ := latSt_get ho e2
    refine ⟨p1 ++ p2, by rw [List.append_assoc]; exact e1, ?_, fun p hp => ?_⟩
    · rw [bLats, List.length_append, List.length_append]; omega
    · rcases List.mem_cons.1 hp with rfl | hp
      · exact ⟨m1, m1'⟩
      · exact m2 p hp
end Go.Proofs.YtglhnmbfkbjemaaDoor
/- Traces as values: a list of values, and lists of lists of values. -/
namespace Go.Proofs.YtglhnmbfkbjemaaDoor
open Go Go.RowKit Go.Joins

/-- A circuit's slots are of a size that can be. -/
structure CSlots.small (s : CSlots) : Prop where
  n1 : s.n1 ≤ 1048576
  n2 : s.n2 ≤ 1048576
  n3 : s.n3 ≤ 1048576
  n4 : s.n4 ≤ 1048576
  n5 : s.n5 ≤ 1048576

/-- A trace. -/
structure TraceC where
  bad : Int
  init : List UInt8
  frames : List (List UInt8)
deriving DecidableEq

/-- A slice's parts. -/
abbrev Slc := Option Addr × Nat × Nat
def slV (s : Slc) : Value := .slice s.1 s.2.1 s.2.2
def slc0 : Slc := (none, 0, 0)
/-- The slice (a, n, c) of slices reads as these lists. -/
structure SeesF (w : World) (a : Option Addr) (n c : Nat) (ss : List Slc) (fs : List (List UInt8)) : Prop where
  row : Sees w a n c (ss.map slV)
  len : ss.length = fs.length
  each : ∀ k, k < fs.length → Sees w (ss.getD k slc0).1 (ss.getD k slc0).2.1 (ss.getD k slc0).2.2 ((fs.getD k []).map bv)
theorem SeesF.below {w w' : World} {a : Option Addr} {n c : Nat} {ss : List Slc} {fs : List (List UInt8)} (h : SeesF w a n c ss fs) (hb : Below w.heap.size w w') : SeesF w' a n c ss fs :=
  ⟨h.row.below hb, h.len, fun k hk => (h.each k hk).below hb⟩
theorem SeesF.n_eq {w : World} {a : Option Addr} {n c : Nat} {ss : List Slc} {fs : List (List UInt8)} (h : SeesF w a n c ss fs) : fs.length = n := h.len.symm.trans h.row.lenMap
theorem SeesF.cellAt {w : World} {b off n c : Nat} {ss : List Slc} {fs : List (List UInt8)} (h : SeesF w (some ⟨b, off, .none⟩) n c ss fs) (j : Nat) (hj : j < n) :
    w.cell? ⟨b, off + j, .none⟩ = some (.slice (ss.getD j slc0).1 (ss.getD j slc0).2.1 (ss.getD j slc0).2.2) := by
  have hl : ss.length = n := h.row.lenMap
  rw [(h.row.cell j hj).2]
  simp [slV, List.getD, List.getElem?_eq_getElem (show j < ss.length by omega)]

/-- A trace's slots. -/
structure TSlots where
  a1 : Option Addr
  n1 : Nat
  c1 : Nat
  a2 : Option Addr
  n2 : Nat
  c2 : Nat
  ss : List Slc
def traceV (bad : Int) (s : TSlots) : Value := .agg #[.int .i64 bad, .slice s.a1 s.n1 s.c1, .slice s.a2 s.n2 s.c2]
structure SeesTr (w : World) (s : TSlots) (t : TraceC) : Prop where
  s1 : Sees w s.a1 s.n1 s.c1 (t.init.map bv)
  s2 : SeesF w s.a2 s.n2 s.c2 s.ss t.frames
theorem SeesTr.below {w w' : World} {s : TSlots} {t : TraceC} (h : SeesTr w s t) (hb : Below w.heap.size w w') : SeesTr w' s t := ⟨h.s1.below hb, h.s2.below hb⟩
/-- The slots' sizes can be. -/
structure TSlots.small (s : TSlots) : Prop where
  n1 : s.n1 ≤ 1048576
  n2 : s.n2 ≤ 1048576
  each : ∀ x ∈ s.ss, x.2.1 ≤ 1048576
end Go.Proofs.YtglhnmbfkbjemaaDoor
/- Circuits on plain lists: validity, their raw circuits, traces that fit. -/
namespace Go.Proofs.YtglhnmbfkbjemaaDoor
open Go Go.RowKit

def varsN (c : NormC) : Nat := c.ins.toNat + c.lats.length + c.gates.length
def badLat2 (m : Nat) (p : Nat × Nat) : Bool := above m p.1 || decide (2 < p.2)
def badGate2 (f : Nat) (g : Nat × Nat) : Bool := decide (g.1 < g.2) || decide (2 * f ≤ g.1)
def badGates : Nat → List (Nat × Nat) → Bool
  | _, [] => false
  | f, g :: r => badGate2 f g || badGates (f + 1) r
/-- May a circuit's numbers of inputs, latches, gates be? -/
def tooMany (c : NormC) : Bool := decide (c.ins < 0) || decide (16384 - c.ins < ((c.lats.length + c.gates.length : Nat) : Int))
/-- Is a circuit valid? -/
def mayC (c : NormC) : Bool :=
  !tooMany c && (!badList (varsN c) c.outs && (!badList (varsN c) c.bads && (!badList (varsN c) c.cons &&
  (!c.lats.any (badLat2 (varsN c)) && !badGates (1 + c.ins.toNat + c.lats.length) c.gates))))

theorem badGates_at : ∀ (l : List (Nat × Nat)) (f : Nat), badGates f l = true ↔ ∃ k, k < l.length ∧ badGate2 (f + k) (l.getD k (0, 0)) = true
  | [], f => by simp [badGates]
  | g :: r, f => by
    rw [badGates, Bool.or_eq_true, badGates_at r (f + 1)]
    constructor
    · rintro (h | ⟨k, hk, h⟩)
      · exact ⟨0, by simp, by simpa using h⟩
      · exact ⟨k + 1, by simpa using hk, by rw [show f + (k + 1) = f + 1 + k by omega]; simpa using h⟩
    · rintro ⟨k, hk, h⟩
      cases k with
      | zero => exact Or.inl (by simpa using h)
      | succ k => exact Or.inr ⟨k, by simpa using hk, by rw [show f + 1 + k = f + (k + 1) by omega]; simpa using h⟩
theorem badGates_no {l : List (Nat × Nat)} {f : Nat} : badGates f l = false ↔ ∀ k, k < l.length → badGate2 (f + k) (l.getD k (0, 0)) = false := by
  constructor
  · intro h k hk
    cases hb : badGate2 (f + k) (l.getD k (0, 0)) with
    | false => rfl
    | true => have := (badGates_at l f).2 ⟨k, hk, hb⟩; rw [h] at this; cases this
  · intro h
    cases hb : badGates f l with
    | false => rfl
    | true =>
      obtain ⟨k, hk, h2⟩ := (badGates_at l f).1 hb
      rw [h k hk] at h2; cases h2

/-- A latch, a gate, as the raw circuit has them. -/
def latR (v : Nat) (p : Nat × Nat) : Tri := (2 * v, p.1, if p.2 = 2 then 2 * v else p.2)
def gateR (v : Nat) (p : Nat × Nat) : Tri := (2 * v, p.1, p.2)
def upFrom {α : Type} (f : Nat → Nat × Nat → α) (b : Nat) (l : List (Nat × Nat)) : List α := (List.range l.length).map fun i => f (b + i) (l.getD i (0, 0))
theorem upFrom_len {α : Type} (f : Nat → Nat × Nat → α) (b : Nat) (l : List (Nat × Nat)) : (upFrom f b l).length = l.length := by simp [upFrom]
theorem upFrom_at {α : Type} (f : Nat → Nat × Nat → α) (b : Nat) (l : List (Nat × Nat)) (k : Nat) (d : α) (hk : k < l.length) : (upFrom f b l).getD k d = f (b + k) (l.getD k (0, 0)) := by
  simp [upFrom, List.getD, hk]
theorem upFrom_take {α : Type} (f : Nat → Nat × Nat → α) (b : Nat) (l : List (Nat × Nat)) (k : Nat) (hk : k < l.length) : (upFrom f b l).take (k + 1) = (upFrom f b l).take k ++ [f (b + k) (l.getD k (0, 0))] := by
  rw [List.take_succ_eq_append_getElem (by rw [upFrom_len]; exact hk)]
  congr 1
  simp [upFrom]
/-- The raw circuit of a circuit. -/
def rawS (c : NormC) : RawC :=
  ⟨varsN c, (List.range c.ins.toNat).map fun i => 2 * (1 + i), upFrom latR (1 + c.ins.toNat) c.lats, c.outs, c.bads, c.cons, upFrom gateR (1 + c.ins.toNat + c.lats.length) c.gates⟩

/-- Are these so many values? -/
def valsOk (l : List UInt8) (many : Int) : Bool := decide ((l.length : Int) = many) && !l.any (fun u => decide (2 < u.toNat))
/-- Does a latch begin as it may? -/
def initOk (c : NormC) (t : TraceC) : Bool := (List.range c.lats.length).all fun i => decide ((c.lats.getD i (0, 0)).2 = 2) || decide ((t.init.getD i 0).toNat = (c.lats.getD i (0, 0)).2)
def fitsS (c : NormC) (t : TraceC) : Bool :=
  mayC c && (!(decide (t.bad < 0) || decide ((c.bads.length : Int) ≤ t.bad)) && (valsOk t.init c.lats.length && (initOk c t && (decide (1 ≤ t.frames.length) && (decide (t.frames.length ≤ 256) && t.frames.all (fun f => valsOk f c.ins))))))

structure MayC (c : NormC) : Prop where
  pos : 0 ≤ c.ins
  few : varsN c ≤ 16384
  lens : c.outs.length ≤ 1024 ∧ c.bads.length ≤ 1024 ∧ c.cons.length ≤ 1024
  outs : ∀ x ∈ c.outs, x ≤ 2 * varsN c + 1
  bads : ∀ x ∈ c.bads, x ≤ 2 * varsN c + 1
  cons : ∀ x ∈ c.cons, x ≤ 2 * varsN c + 1
  lats : ∀ p ∈ c.lats, p.1 ≤ 2 * varsN c + 1 ∧ p.2 ≤ 2
  gates : ∀ k, k < c.gates.length → (c.gates.getD k (0, 0)).2 ≤ (c.gates.getD k (0, 0)).1 ∧ (c.gates.getD k (0, 0)).1 < 2 * (1 + c.ins.toNat + c.lats.length + k)
theorem mayC_iff {c : NormC} : mayC c = true ↔ MayC c := by
  have hb : ∀ l : List Nat, badList (varsN c) l = false ↔ l.length ≤ 1024 ∧ ∀ x ∈ l, x ≤ 2 * varsN c + 1 := fun l => by
    simp only [badList, Bool.or_eq_false_iff, decide_eq_false_iff_not, List.any_eq_false, above, decide_eq_true_eq]
    exact ⟨fun h => ⟨by omega, fun x hx => by have := h.2 x hx; omega⟩, fun h => ⟨by omega, fun x hx => by have := h.2 x hx; omega⟩⟩
  have hl : c.lats.any (badLat2 (varsN c)) = false ↔ ∀ p ∈ c.lats, p.1 ≤ 2 * varsN c + 1 ∧ p.2 ≤ 2 := by
    simp only [List.any_eq_false, badLat2, above, Bool.or_eq_true, decide_eq_true_eq, not_or]
    exact ⟨fun h p hp => by have := h p hp; omega, fun h p hp => by have := h p hp; omega⟩
  have hg : badGates (1 + c.ins.toNat + c.lats.length) c.gates = false ↔ ∀ k, k < c.gates.length → (c.gates.getD k (0, 0)).2 ≤ (c.gates.getD k (0, 0)).1 ∧ (c.gates.getD k (0, 0)).1 < 2 * (1 + c.ins.toNat + c.lats.length + k) := by
    rw [badGates_no]
    simp only [badGate2, Bool.or_eq_false_iff, decide_eq_false_iff_not]
    exact ⟨fun h k hk => by have := h k hk; omega, fun h k hk => by have := h k hk; omega⟩
  have ht : tooMany c = false ↔ 0 ≤ c.ins ∧ varsN c ≤ 16384 := by
    simp only [tooMany, Bool.or_eq_false_iff, decide_eq_false_iff_not, varsN]
    omega
  unfold mayC
  simp only [Bool.and_eq_true, Bool.not_eq_true']
  rw [ht, hb, hb, hb, hl, hg]
  constructor
  · rintro ⟨⟨h1, h2⟩, ⟨h3, h4⟩, ⟨h5, h6⟩, ⟨h7, h8⟩, h9, h10⟩
    exact ⟨h1, h2, ⟨h3, h5, h7⟩, h4, h6, h8, h9, h10⟩
  · rintro ⟨h1, h2, ⟨h3, h5, h7⟩, h4, h6, h8, h9, h10⟩
    exact ⟨⟨h1, h2⟩, ⟨h3, h4⟩, ⟨h5, h6⟩, ⟨h7, h8⟩, h9, h10⟩
end Go.Proofs.YtglhnmbfkbjemaaDoor
/- The raw circuit of a valid circuit is valid. -/
namespace Go.Proofs.YtglhnmbfkbjemaaDoor
open Go Go.RowKit Go.Joins
theorem any_false {α : Type} {p : α → Bool} {l : List α} : l.any p = false ↔ ∀ x ∈ l, p x = false := by
  simp [List.any_eq_false]
theorem upFrom_mem {α : Type} {f : Nat → Nat × Nat → α} {b : Nat} {l : List (Nat × Nat)} {y : α} (h : y ∈ upFrom f b l) : ∃ k, k < l.length ∧ y = f (b + k) (l.getD k (0, 0)) := by
  simp only [upFrom, List.mem_map, List.mem_range] at h
  obtain ⟨k, hk, rfl⟩ := h
  exact ⟨k, hk, rfl⟩
theorem mayRaw_raw {c : NormC} (h : MayC c) : mayRaw (rawS c) = true := by
  have ha : ∀ {m x : Nat}, x ≤ 2 * m + 1 → above m x = false := fun h => by simp [above]; omega
  have hv : varsN c = c.ins.toNat + c.lats.length + c.gates.length := rfl
  have hf := h.few
  have hl := h.lens
  unfold mayRaw badList rawS
  simp only [Bool.and_eq_true, Bool.not_eq_true', Bool.or_eq_false_iff, decide_eq_false_iff_not, List.length_map, List.length_range, upFrom_len]
  refine ⟨⟨by omega, by omega⟩, ⟨by omega, any_false.2 fun x hx => ha (h.outs x hx)⟩, ⟨by omega, any_false.2 fun x hx => ha (h.bads x hx)⟩, ⟨by omega, any_false.2 fun x hx => ha (h.cons x hx)⟩, any_false.2 fun x hx => ?_, any_false.2 fun x hx => ?_, any_false.2 fun x hx => ?_⟩
  · simp only [List.mem_map, List.mem_range] at hx
    obtain ⟨i, hi, rfl⟩ := hx
    exact ha (by omega)
  · obtain ⟨k, hk, rfl⟩ := upFrom_mem hx
    have := h.lats _ (show c.lats.getD k (0, 0) ∈ c.lats from getD_mem hk)
    unfold latR
    simp only [badLatch, mayReset, Bool.or_eq_false_iff, Bool.not_eq_false', Bool.or_eq_true, decide_eq_true_eq]
    refine ⟨⟨ha (by omega), ha (by omega)⟩, ?_⟩
    split <;> omega
  · obtain ⟨k, hk, rfl⟩ := upFrom_mem hx
    have := h.gates k hk
    unfold gateR
    simp only [badGate, Bool.or_eq_false_iff]
    exact ⟨⟨ha (by omega), ha (by omega)⟩, ha (by omega)⟩
end Go.Proofs.YtglhnmbfkbjemaaDoor
/- The binary format's first line, on plain lists. -/
namespace Go.Proofs.YtglhnmbfkbjemaaDoor
open Go Go.RowKit Go.Joins

def binText : List UInt8 := [97, 105, 103, 32]
theorem bhead_words (l : List Nat) (hl : l ≠ []) : wordsOf (binText ++ bodyOf l) = some ([97, 105, 103] :: l.map Lib.decDigits) := by
  have hj : binText ++ bodyOf l = joinW ([97, 105, 103] :: l.map Lib.decDigits) := by
    rw [bodyOf_eq]
    cases l with
    | nil => exact absurd rfl hl
    | cons x r => simp [binText, joinW, tailW]
  have hs : splitW (joinW ([97, 105, 103] :: l.map Lib.decDigits)) = [97, 105, 103] :: l.map Lib.decDigits := by
    refine splitW_join _ _ ?_
    intro y hy c hc
    rcases List.mem_cons.1 hy with rfl | hy
    · simp at hc; rcases hc with rfl | rfl | rfl <;> decide
    · obtain ⟨u, _, rfl⟩ := List.mem_map.1 hy
      exact (dec_blank u c hc).1
  unfold wordsOf
  rw [hj, hs]
  have hne : joinW ([97, 105, 103] :: l.map Lib.decDigits) ≠ [] := by rw [← hj]; simp [binText]
  rw [if_neg hne, if_neg]
  simp only [List.any_cons, List.isEmpty_cons, Bool.false_or]
  intro h
  rw [List.any_eq_true] at h
  obtain ⟨x, hx, he⟩ := h
  obtain ⟨u, _, rfl⟩ := List.mem_map.1 hx
  exact dec_ne u (by simpa using he)
theorem bhead_free (l : List Nat) : ∀ c ∈ binText ++ bodyOf l, c ≠ 10 := by
  intro c hc
  rcases List.mem_append.1 hc with h | h
  · simp [binText] at h; rcases h with rfl | rfl | rfl | rfl <;> decide
  · exact body_free l c h
theorem bheadS_put {r : RawC} (hv : ValidR r) (rest : List UInt8) : headS [97, 105, 103] (binText ++ (lineOf (countsOf r) ++ rest)) = .ok (countsAll r, rest) := by
  have hne : countsOf r ≠ [] := by have := (counts_len r).1; intro e; rw [e] at this; simp at this
  have hw := bhead_words (countsOf r) hne
  have hcs := counts_small hv
  have hc : cutS (binText ++ (lineOf (countsOf r) ++ rest)) = some (binText ++ bodyOf (countsOf r), rest) := by
    have e : binText ++ (lineOf (countsOf r) ++ rest) = (binText ++ bodyOf (countsOf r)) ++ 10 :: rest := by simp [lineOf]
    rw [e]; exact cut_line _ _ (bhead_free _)
  have hn := nine_dec (countsOf r) (fun x hx => by have := hcs x hx; omega)
  obtain ⟨l9, h1, h2⟩ := nine_counts r
  rw [← h1, h2] at hn
  have hlen := counts_len r
  have hsum := hv.sum
  have hmax := hv.max
  have e3 := hv.l3
  have e4 := hv.l4
  have e5 := hv.l5
  unfold headS
  rw [hc]
  simp only
  have he : headErr [97, 105, 103] (binText ++ bodyOf (countsOf r)) = 0 := by
    unfold headErr
    rw [hw]
    simp only [List.drop_succ_cons, List.drop_zero, List.length_cons, List.length_map]
    rw [if_neg]
    · rw [firstErr_dec _ _ (fun x hx => by have := hcs x hx; omega), if_neg (by simp), hn]
      unfold checkErr countsAll
      rw [if_neg (by simp), if_neg (by simp; omega), if_neg (by simp; omega)]
    · simp; omega
  rw [if_pos he]
  congr 2
  unfold headNums
  rw [hw]
  simp only [Option.getD_some, List.drop_succ_cons, List.drop_zero]
  rw [hn]
  rfl

/-- What bin.Get answers. -/
def getB (b : List UInt8) : Except Int NormC :=
  if 1048576 < b.length then .error 3 else
  match headS [97, 105, 103] b with
  | .error e => .error e
  | .ok (h, r0) =>
    if h.getD 1 0 + h.getD 2 0 + h.getD 4 0 ≠ h.getD 0 0 then .error 5 else
    let most := 2 * h.getD 0 0 + 1
    let la := latsSt most (h.getD 2 0) (2 * (1 + h.getD 1 0)) (.ok r0)
    let ou := litsSt most (h.getD 3 0) la.2
    let ba := litsSt most (h.getD 5 0) ou.2
    let co := litsSt most (h.getD 6 0) ba.2
    let ga := gatesSt (h.getD 4 0) (2 * (1 + h.getD 1 0 + h.getD 2 0)) co.2
    match ga.2 with
    | .error e => .error e
    | .ok r => if namesErr [h.getD 1 0, h.getD 2 0, h.getD 3 0, h.getD 5 0, h.getD 6 0] r = 0 then .ok ⟨(h.getD 1 0 : Nat), la.1, ga.1, ou.1, ba.1, co.1⟩
      else .error (namesErr [h.getD 1 0, h.getD 2 0, h.getD 3 0, h.getD 5 0, h.getD 6 0] r)
/-- What bin.Put writes. -/
def putB (c : NormC) : List UInt8 :=
  binText ++ (lineOf (countsOf (rawS c)) ++ (bLats (2 * (1 + c.ins.toNat)) c.lats ++ (linesOf (c.outs.map fun x => [x]) ++ (linesOf (c.bads.map fun x => [x]) ++ (linesOf (c.cons.map fun x => [x]) ++ putG (2 * (1 + c.ins.toNat + c.lats.length)) c.gates)))))
end Go.Proofs.YtglhnmbfkbjemaaDoor
/- What bin.Put writes, bin.Get reads: on plain lists. -/
namespace Go.Proofs.YtglhnmbfkbjemaaDoor
open Go Go.RowKit Go.Joins

theorem okG_of : ∀ (gs : List (Nat × Nat)) (own : Nat), (∀ k, k < gs.length → (gs.getD k (0, 0)).2 ≤ (gs.getD k (0, 0)).1 ∧ (gs.getD k (0, 0)).1 < own + 2 * k) → okG own gs
  | [], _, _ => trivial
  | (a, b) :: t, own, h => by
    have h0 := h 0 (by simp)
    simp at h0
    refine ⟨h0.2, h0.1, okG_of t (own + 2) fun k hk => ?_⟩
    have := h (k + 1) (by simpa using hk)
    simp at this
    have e : (t.getD k (0, 0)) = t[k]?.getD (0, 0) := by simp [List.getD]
    rw [e]
    exact ⟨this.1, by omega⟩
theorem counts_raw (c : NormC) : countsAll (rawS c) = [varsN c, c.ins.toNat, c.lats.length, c.outs.length, c.gates.length, c.bads.length, c.cons.length] := by
  simp [countsAll, rawS, upFrom_len]
theorem get_putB {c : NormC} (h : MayC c) (tail : List UInt8) (hlen : (putB c ++ tail).length ≤ 1048576)
    (hn : namesErr [c.ins.toNat, c.lats.length, c.outs.length, c.bads.length, c.cons.length] tail = 0) : getB (putB c ++ tail) = .ok c := by
  obtain ⟨ins, lats, gates, outs, bads, cons⟩ := c
  have hv : varsN ⟨ins, lats, gates, outs, bads, cons⟩ = ins.toNat + lats.length + gates.length := rfl
  have hf := h.few
  have hpos := h.pos
  have hlat := h.lats
  have hou := h.outs
  have hba := h.bads
  have hco := h.cons
  have hga := h.gates
  simp only at hlat hou hba hco hga hpos hn
  obtain ⟨v, hvv⟩ : ∃ v, v = varsN ⟨ins, lats, gates, outs, bads, cons⟩ := ⟨_, rfl⟩
  rw [← hvv] at hlat hou hba hco hf hv
  obtain ⟨i, hi⟩ : ∃ i, i = ins.toNat := ⟨_, rfl⟩
  have hii : (i : Int) = ins := by omega
  rw [← hi] at hv hn hga
  have h1 := fun R => latsSt_put (most := 2 * v + 1) lats (2 * (1 + i)) R (by omega) (by omega) hlat
  have h2 := fun R => litsSt_put (most := 2 * v + 1) outs R hou
  have h3 := fun R => litsSt_put (most := 2 * v + 1) bads R hba
  have h4 := fun R => litsSt_put (most := 2 * v + 1) cons R hco
  have h5 := gatesSt_put gates (2 * (1 + i + lats.length)) tail (okG_of _ _ fun k hk => by have := hga k hk; exact ⟨this.1, by omega⟩) (by omega)
  have hh := bheadS_put (valid_of (mayRaw_raw h)) (bLats (2 * (1 + i)) lats ++ (linesOf (outs.map fun x => [x]) ++ (linesOf (bads.map fun x => [x]) ++ (linesOf (cons.map fun x => [x]) ++ (putG (2 * (1 + i + lats.length)) gates ++ tail)))))
  rw [counts_raw] at hh
  simp only [← hvv, ← hi] at hh
  have he : putB ⟨ins, lats, gates, outs, bads, cons⟩ ++ tail = binText ++ (lineOf (countsOf (rawS ⟨ins, lats, gates, outs, bads, cons⟩)) ++ (bLats (2 * (1 + i)) lats ++ (linesOf (outs.map fun x => [x]) ++ (linesOf (bads.map fun x => [x]) ++ (linesOf (cons.map fun x => [x]) ++ (putG (2 * (1 + i + lats.length)) gates ++ tail)))))) := by
    unfold putB
    simp only [← hi, List.append_assoc]
  unfold getB
  rw [if_neg (by omega), he, hh]
  simp only [List.getD_cons_zero, List.getD_cons_succ]
  rw [if_neg (by omega)]
  simp only [h1, h2, h3, h4, h5, hn, if_true, hii]
end Go.Proofs.YtglhnmbfkbjemaaDoor
/- What bin.Get reads of the first line, Put writes no longer. -/
namespace Go.Proofs.YtglhnmbfkbjemaaDoor
open Go Go.RowKit Go.Joins

theorem cut_get {bs line rest : List UInt8} (h : cutS bs = some (line, rest)) : bs = line ++ 10 :: rest := by
  unfold cutS at h
  split at h
  · rename_i hlt
    cases h
    have hx : bs = bs.take (ahead bs) ++ bs.drop (ahead bs) := (List.take_append_drop _ _).symm
    have hd : bs.drop (ahead bs) = 10 :: bs.drop (ahead bs + 1) := by
      rw [List.drop_eq_getElem_cons hlt]
      rw [show bs[ahead bs] = 10 from by
        have := ahead_ten bs hlt
        simpa [List.getD, hlt] using this]
    rw [← hd]; exact hx
  · cases h
theorem words_join {l : List UInt8} {W : List (List UInt8)} (h : wordsOf l = some W) : joinW W = l := by
  unfold wordsOf at h
  split at h
  · rename_i hb
    have : W = [] := by simpa using h.symm
    subst this; rw [hb]; rfl
  · split at h
    · cases h
    · have : W = splitW l := by simpa using h.symm
      rw [this, joinW_split]
theorem head_get {bs r0 : List UInt8} {h : List Nat} (hh : headS [97, 105, 103] bs = .ok (h, r0)) :
    ∃ ns : List Nat, 5 ≤ ns.length ∧ ns.length ≤ 9 ∧ bs = binText ++ (lineOf ns ++ r0) ∧ h = (ns ++ List.replicate (9 - ns.length) 0).take 7 ∧ checkErr (ns ++ List.replicate (9 - ns.length) 0) = 0 := by
  unfold headS at hh
  cases hc : cutS bs with
  | none => rw [hc] at hh; cases hh
  | some p =>
    obtain ⟨line, rest⟩ := p
    rw [hc] at hh
    simp only at hh
    by_cases he : headErr [97, 105, 103] line = 0
    · rw [if_pos he] at hh
      cases hw : wordsOf line with
      | none => unfold headErr at he; rw [hw] at he; cases he
      | some W =>
        unfold headErr at he
        rw [hw] at he
        simp only at he
        by_cases hcd : W.length < 6 ∨ 10 < W.length ∨ W.getD 0 [] ≠ [97, 105, 103]
        · rw [if_pos hcd] at he; cases he
        · rw [if_neg hcd] at he
          by_cases hf : firstErr (W.drop 1) 2147483647 = 0
          · rw [if_neg (by simpa using hf)] at he
            match W, hcd, hf, he, hw with
            | [], hcd, _, _, _ => simp at hcd
            | x :: W', hcd, hf, he, hw =>
              have hx : x = [97, 105, 103] := by
                have : ¬ (x ≠ [97, 105, 103]) := fun hne => hcd (Or.inr (Or.inr (by simpa using hne)))
                exact Classical.not_not.1 this
              simp only [List.drop_succ_cons, List.drop_zero] at hf he
              obtain ⟨ns, hns⟩ : ∃ ns, ns = W'.map fun y => numOf y 2147483647 := ⟨_, rfl⟩
              have hz := firstErr_zero hf
              have hW : ns.map Lib.decDigits = W' := by
                rw [hns, List.map_map]
                conv => rhs; rw [← List.map_id W']
                apply List.map_congr_left
                intro y hy
                exact err_canon (hz y hy)
              have hln : ns.length = W'.length := by rw [hns, List.length_map]
              have h9 : nineOf W' = ns ++ List.replicate (9 - ns.length) 0 := by rw [hln, hns]; rfl
              have hlen : 6 ≤ W'.length + 1 ∧ W'.length + 1 ≤ 10 := by
                rw [List.length_cons] at hcd
                constructor
                · exact Nat.le_of_not_lt fun hlt => hcd (Or.inl hlt)
                · exact Nat.le_of_not_lt fun hlt => hcd (Or.inr (Or.inl hlt))
              have hj := words_join hw
              have hl : line = binText ++ bodyOf ns := by
                rw [← hj, hx, ← hW, bodyOf_eq]
                cases ns with
                | nil => simp at hln; omega
                | cons y r => simp [binText, joinW, tailW]
              refine ⟨ns, by omega, by omega, ?_, ?_, by rw [← h9]; exact he⟩
              · have hr : r0 = rest := by cases hh; rfl
                rw [cut_get hc, hl, hr]
                simp [lineOf]
              · have e : h = headNums line := by cases hh; rfl
                rw [e]
                unfold headNums
                rw [hw]
                simp only [Option.getD_some, List.drop_succ_cons, List.drop_zero]
                rw [h9]
          · rw [if_pos (by simpa using hf)] at he
            exact absurd he hf
    · rw [if_neg he] at hh; cases hh
end Go.Proofs.YtglhnmbfkbjemaaDoor
namespace Go.Proofs.YtglhnmbfkbjemaaDoor
open Go Go.RowKit Go.Joins

theorem okG_at : ∀ (gs : List (Nat × Nat)) (own : Nat), okG own gs → ∀ k, k < gs.length → (gs.getD k (0, 0)).2 ≤ (gs.getD k (0, 0)).1 ∧ (gs.getD k (0, 0)).1 < own + 2 * k
  | [], _, _, k, hk => by simp at hk
  | (a, b) :: t, own, h, 0, _ => by
    obtain ⟨h1, h2, _⟩ := h
    exact ⟨by simpa using h2, by simpa using h1⟩
  | (a, b) :: t, own, h, k + 1, hk => by
    obtain ⟨_, _, h3⟩ := h
    have := okG_at t (own + 2) h3 k (by simpa using hk)
    have e : ((a, b) :: t).getD (k + 1) (0, 0) = t.getD k (0, 0) := by simp [List.getD]
    rw [e]
    exact ⟨this.1, by omega⟩
def cOf (h : List Nat) : List Nat := if h.getD 6 0 = 0 then (if h.getD 5 0 = 0 then h.take 5 else h.take 6) else h
theorem cOf_len (ns : List Nat) (h1 : 5 ≤ ns.length) (h2 : ns.length ≤ 9) : (lineOf (cOf ((ns ++ List.replicate (9 - ns.length) 0).take 7))).length ≤ (lineOf ns).length := by
  match ns, h1, h2 with
  | [a, b, c, d, e], _, _ => simp [cOf, List.replicate]
  | [a, b, c, d, e, f], _, _ =>
    simp [cOf, List.replicate]
    split <;> simp [lineOf, bodyOf, tailOf] <;> omega
  | [a, b, c, d, e, f, g], _, _ =>
    simp [cOf, List.replicate]
    split
    · split <;> simp [lineOf, bodyOf, tailOf] <;> omega
    · simp [lineOf, bodyOf, tailOf]
  | [a, b, c, d, e, f, g, x], _, _ =>
    simp [cOf]
    split
    · split <;> simp [lineOf, bodyOf, tailOf] <;> omega
    · simp [lineOf, bodyOf, tailOf]
  | [a, b, c, d, e, f, g, x, y], _, _ =>
    simp [cOf]
    split
    · split <;> simp [lineOf, bodyOf, tailOf] <;> omega
    · simp [lineOf, bodyOf, tailOf]
  | [], h, _ => simp at h
  | [_], h, _ => simp at h
  | [_, _], h, _ => simp at h
  | [_, _, _], h, _ => simp at h
  | [_, _, _, _], h, _ => simp at h
  | _ :: _ :: _ :: _ :: _ :: _ :: _ :: _ :: _ :: _ :: _, _, h => simp at h
theorem check_facts {l : List Nat} (h : checkErr l = 0) : l.getD 0 0 ≤ 16384 ∧ l.getD 3 0 ≤ 1024 ∧ l.getD 5 0 ≤ 1024 ∧ l.getD 6 0 ≤ 1024 := by
  unfold checkErr at h
  split at h
  · cases h
  · split at h
    · cases h
    · omega
theorem take7_getD (l : List Nat) (i : Nat) (hi : i < 7) : (l.take 7).getD i 0 = l.getD i 0 := by
  simp [List.getD, hi]

theorem put_getB {bs : List UInt8} {c : NormC} (hg : getB bs = .ok c) : MayC c ∧ (putB c).length ≤ bs.length := by
  unfold getB at hg
  by_cases h0 : 1048576 < bs.length
  · rw [if_pos h0] at hg; cases hg
  rw [if_neg h0] at hg
  cases hh : headS [97, 105, 103] bs with
  | error e => rw [hh] at hg; cases hg
  | ok p =>
    obtain ⟨h, r0⟩ := p
    rw [hh] at hg
    simp only at hg
    obtain ⟨ns, l1, l2, hbs, hH, hck⟩ := head_get hh
    by_cases hs : h.getD 1 0 + h.getD 2 0 + h.getD 4 0 ≠ h.getD 0 0
    · rw [if_pos hs] at hg; cases hg
    rw [if_neg hs] at hg
    have hs : h.getD 1 0 + h.getD 2 0 + h.getD 4 0 = h.getD 0 0 := by omega
    obtain ⟨k0, hk0⟩ : ∃ k, k = h.getD 0 0 := ⟨_, rfl⟩
    obtain ⟨k1, hk1⟩ : ∃ k, k = h.getD 1 0 := ⟨_, rfl⟩
    obtain ⟨k2, hk2⟩ : ∃ k, k = h.getD 2 0 := ⟨_, rfl⟩
    obtain ⟨k3, hk3⟩ : ∃ k, k = h.getD 3 0 := ⟨_, rfl⟩
    obtain ⟨k4, hk4⟩ : ∃ k, k = h.getD 4 0 := ⟨_, rfl⟩
    obtain ⟨k5, hk5⟩ : ∃ k, k = h.getD 5 0 := ⟨_, rfl⟩
    obtain ⟨k6, hk6⟩ : ∃ k, k = h.getD 6 0 := ⟨_, rfl⟩
    have hcf := check_facts hck
    have f0 : k0 ≤ 16384 := by rw [hk0, hH, take7_getD _ _ (by omega)]; exact hcf.1
    have f3 : k3 ≤ 1024 := by rw [hk3, hH, take7_getD _ _ (by omega)]; exact hcf.2.1
    have f5 : k5 ≤ 1024 := by rw [hk5, hH, take7_getD _ _ (by omega)]; exact hcf.2.2.1
    have f6 : k6 ≤ 1024 := by rw [hk6, hH, take7_getD _ _ (by omega)]; exact hcf.2.2.2
    have hlist : h = [k0, k1, k2, k3, k4, k5, k6] := by
      have hlen : h.length = 7 := by rw [hH]; simp; omega
      rw [hk0, hk1, hk2, hk3, hk4, hk5, hk6]
      match h, hlen with
      | [_, _, _, _, _, _, _], _ => rfl
    rw [← hk0, ← hk1, ← hk2, ← hk4] at hs
    simp only [← hk0, ← hk1, ← hk2, ← hk3, ← hk4, ← hk5, ← hk6] at hg
    obtain ⟨la, hla⟩ : ∃ x, x = latsSt (2 * k0 + 1) k2 (2 * (1 + k1)) (.ok r0) := ⟨_, rfl⟩
    rw [← hla] at hg
    obtain ⟨ou, hou⟩ : ∃ x, x = litsSt (2 * k0 + 1) k3 la.2 := ⟨_, rfl⟩
    rw [← hou] at hg
    obtain ⟨ba, hba⟩ : ∃ x, x = litsSt (2 * k0 + 1) k5 ou.2 := ⟨_, rfl⟩
    rw [← hba] at hg
    obtain ⟨co, hco⟩ : ∃ x, x = litsSt (2 * k0 + 1) k6 ba.2 := ⟨_, rfl⟩
    rw [← hco] at hg
    obtain ⟨ga, hga⟩ : ∃ x, x = gatesSt k4 (2 * (1 + k1 + k2)) co.2 := ⟨_, rfl⟩
    rw [← hga] at hg
    have q2 : la.1.length = k2 := by rw [hla]; exact latsSt_len _ _ _ _
    have q3 : ou.1.length = k3 := by rw [hou]; exact litsSt_len _ _ _
    have q5 : ba.1.length = k5 := by rw [hba]; exact litsSt_len _ _ _
    have q6 : co.1.length = k6 := by rw [hco]; exact litsSt_len _ _ _
    have q4 : ga.1.length = k4 := by rw [hga]; exact gatesSt_len _ _ _
    cases hr : ga.2 with
    | error e => rw [hr] at hg; cases hg
    | ok r =>
      rw [hr] at hg
      simp only at hg
      by_cases hn : namesErr [k1, k2, k3, k5, k6] r = 0
      · rw [if_pos hn] at hg
        have hc : c = ⟨(k1 : Nat), la.1, ga.1, ou.1, ba.1, co.1⟩ := by cases hg; rfl
        have g4 := gatesSt_get k4 (2 * (1 + k1 + k2)) co.2 r (by omega) (by rw [← hga]; exact hr)
        rw [← hga] at g4
        have g6 := litsSt_get k6 ba.2 _ (by rw [← hco]; exact g4.1)
        rw [← hco] at g6
        have g5 := litsSt_get k5 ou.2 _ (by rw [← hba]; exact g6.1)
        rw [← hba] at g5
        have g3 := litsSt_get k3 la.2 _ (by rw [← hou]; exact g5.1)
        rw [← hou] at g3
        obtain ⟨pre, e2, n2, m2⟩ := latsSt_get k2 (2 * (1 + k1)) (.ok r0) _ (by omega) (by rw [← hla]; exact g3.1)
        rw [← hla] at n2 m2
        have hr0 : r0 = pre ++ (linesOf (ou.1.map fun x => [x]) ++ (linesOf (ba.1.map fun x => [x]) ++ (linesOf (co.1.map fun x => [x]) ++ (putG (2 * (1 + k1 + k2)) ga.1 ++ r)))) := by
          have := Except.ok.inj e2
          simpa using this
        have hv : varsN c = k0 := by rw [hc]; simp [varsN, q2, q4]; omega
        refine ⟨⟨by rw [hc]; simp, by rw [hv]; exact f0, ?_, ?_, ?_, ?_, ?_, ?_⟩, ?_⟩
        · rw [hc]; exact ⟨by rw [q3]; exact f3, by rw [q5]; exact f5, by rw [q6]; exact f6⟩
        · rw [hv, hc]; exact g3.2
        · rw [hv, hc]; exact g5.2
        · rw [hv, hc]; exact g6.2
        · rw [hv, hc]; exact m2
        · rw [hc]
          intro k hk
          have := okG_at _ _ g4.2 k hk
          simp only [Int.toNat_natCast, q2]
          exact ⟨this.1, by omega⟩
        · have hcnt : countsOf (rawS c) = cOf h := by
            have e := counts_raw c
            rw [hv, hc] at e
            simp only [Int.toNat_natCast, q2, q3, q4, q5, q6] at e
            have e6 : (rawS c).cons.length = k6 := by rw [hc]; exact q6
            have e5 : (rawS c).bads.length = k5 := by rw [hc]; exact q5
            unfold countsOf cOf
            rw [hc] at e5 e6 ⊢
            rw [e5, e6, e, hlist]
            simp
          have hcl := cOf_len ns l1 l2
          rw [← hH, ← hcnt] at hcl
          have hbl : bs.length = 4 + ((lineOf ns).length + r0.length) := by rw [hbs]; simp [binText]; omega
          have hrl := congrArg List.length hr0
          simp only [List.length_append] at hrl
          unfold putB
          simp only [List.length_append]
          have hb4 : binText.length = 4 := rfl
          have i1 : c.ins.toNat = k1 := by rw [hc]; simp
          have i2 : c.lats = la.1 := by rw [hc]
          have i3 : c.outs = ou.1 := by rw [hc]
          have i4 : c.gates = ga.1 := by rw [hc]
          have i5 : c.bads = ba.1 := by rw [hc]
          have i6 : c.cons = co.1 := by rw [hc]
          rw [i1, i2, i3, i4, i5, i6, q2]
          omega
      · rw [if_neg hn] at hg; cases hg
end Go.Proofs.YtglhnmbfkbjemaaDoor
