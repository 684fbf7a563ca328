/- Package wit on plain lists: both ways round. -/
import Derived.Test.YtkimhlomadmnkaaDoorWPut
import Derived.Test.YtkimhlomadmnkaaDoorWGet
import Derived.Test.YtkimhlomadmnkaaDoorDec
namespace Go.Proofs.YtkimhlomadmnkaaDoor
open Go Go.RowKit

theorem cutS_line (l r : List UInt8) (h : ∀ c ∈ l, c ≠ 10) : cutS (l ++ 10 :: r) = some (l, r) := by
  unfold cutS
  rw [ahead_line l r h, if_pos (by simp)]
  simp
theorem ahead_free (l : List UInt8) (h : ∀ c ∈ l, c ≠ 10) : ahead l = l.length := by
  induction l with
  | nil => rfl
  | cons x r ih =>
    have hx : x ≠ 10 := h x (by simp)
    have := ih (fun c hc => h c (by simp [hc]))
    unfold ahead at this ⊢
    rw [List.takeWhile_cons]
    simp [hx, this]
theorem cutS_free (l : List UInt8) (h : ∀ c ∈ l, c ≠ 10) : cutS l = none := by
  unfold cutS
  rw [ahead_free l h, if_neg (by omega)]
theorem cutS_part (l r : List UInt8) (c : Nat) (h : ∀ c ∈ l, c ≠ 10) : cutS ((l ++ 10 :: r).take c) = if c ≤ l.length then none else some (l, r.take (c - l.length - 1)) := by
  by_cases hc : c ≤ l.length
  · rw [if_pos hc, List.take_append_of_le_length hc]
    exact cutS_free _ (fun x hx => h x (List.mem_of_mem_take hx))
  · rw [if_neg hc]
    have e : (l ++ 10 :: r).take c = l ++ 10 :: r.take (c - l.length - 1) := by
      obtain ⟨m, hm⟩ : ∃ m, c - l.length = m + 1 := ⟨c - l.length - 1, by omega⟩
      rw [List.take_append, List.take_of_length_le (by omega), hm, List.take_succ_cons]
      simp
    rw [e, cutS_line l _ h]

theorem valB_dig (u : UInt8) (h : u.toNat ≤ 2) : valB (digB u) = some u := by
  have hr : u.toNat = 0 ∨ u.toNat = 1 ∨ u.toNat = 2 := by omega
  rcases hr with e | e | e
  · obtain rfl : u = 0 := UInt8.toNat_inj.1 e
    rfl
  · obtain rfl : u = 1 := UInt8.toNat_inj.1 e
    rfl
  · obtain rfl : u = 2 := UInt8.toNat_inj.1 e
    rfl
theorem dig_valB {x u : UInt8} (h : valB x = some u) : digB u = x ∧ u.toNat ≤ 2 := by
  unfold valB at h
  split at h
  · rename_i e; cases h; subst e; exact ⟨rfl, by decide⟩
  · split at h
    · rename_i e; cases h; subst e; exact ⟨rfl, by decide⟩
    · split at h
      · rename_i e; cases h; subst e; exact ⟨rfl, by decide⟩
      · cases h
theorem dig_cases (u : UInt8) : digB u = 48 ∨ digB u = 49 ∨ digB u = 120 := by
  unfold digB
  split
  · exact Or.inl rfl
  · split
    · exact Or.inr (Or.inl rfl)
    · exact Or.inr (Or.inr rfl)
theorem digs_free (l : List UInt8) : ∀ c ∈ l.map digB, c ≠ 10 := by
  intro c hc
  obtain ⟨u, _, rfl⟩ := List.mem_map.1 hc
  rcases dig_cases u with e | e | e <;> rw [e] <;> decide
theorem digs_nodot (l : List UInt8) : l.map digB ≠ [46] := by
  intro h
  have hm : (46 : UInt8) ∈ l.map digB := by rw [h]; simp
  obtain ⟨u, _, hu⟩ := List.mem_map.1 hm
  rcases dig_cases u with e | e | e <;> rw [e] at hu <;> cases hu
theorem valsW_digs : ∀ (l : List UInt8), (∀ u ∈ l, u.toNat ≤ 2) → valsW (l.map digB) = some l
  | [], _ => rfl
  | u :: r, h => by
    rw [List.map_cons, valsW, valB_dig u (h u (by simp)), valsW_digs r (fun x hx => h x (by simp [hx]))]
theorem digs_valsW : ∀ {l v : List UInt8}, valsW l = some v → v.map digB = l ∧ ∀ u ∈ v, u.toNat ≤ 2
  | [], v, h => by cases h; simp
  | x :: r, v, h => by
    rw [valsW] at h
    cases hv : valB x with
    | none => rw [hv] at h; cases h
    | some u =>
      rw [hv] at h
      cases hr : valsW r with
      | none => rw [hr] at h; cases h
      | some l =>
        rw [hr] at h
        cases h
        have h1 := dig_valB hv
        have h2 := digs_valsW hr
        refine ⟨by rw [List.map_cons, h1.1, h2.1], fun y hy => ?_⟩
        rcases List.mem_cons.1 hy with rfl | hy
        · exact h1.2
        · exact h2.2 y hy
theorem valuesW_back {l v : List UInt8} {many : Int} (h : valuesW l many = .ok v) : v.map digB = l ∧ ∀ u ∈ v, u.toNat ≤ 2 := by
  unfold valuesW at h
  split at h
  · cases hv : valsW l with
    | none => rw [hv] at h; cases h
    | some u => rw [hv] at h; cases h; exact digs_valsW hv
  · cases h
theorem valuesW_digs (l : List UInt8) (many : Int) (hm : (l.length : Int) = many) (h : ∀ u ∈ l, u.toNat ≤ 2) : valuesW (l.map digB) many = .ok l := by
  unfold valuesW
  rw [List.length_map, if_pos hm, valsW_digs l h]
  rfl

-- what is read is written as the same bytes
theorem headS5_back {bs r : List UInt8} {bad : Nat} (h : headS5 bs = .ok (bad, r)) : bs = headW bad ++ r ∧ bad ≤ 1023 := by
  unfold headS5 at h
  cases hc : cutS bs with
  | none => rw [hc] at h; cases h
  | some p =>
    obtain ⟨l, r0⟩ := p
    rw [hc] at h
    simp only at h
    have h1 := (cutS_len hc).2
    by_cases hl : l = [49]
    · rw [if_pos hl] at h
      unfold headA at h
      cases hc2 : cutS r0 with
      | none => rw [hc2] at h; cases h
      | some p2 =>
        obtain ⟨l2, r2⟩ := p2
        rw [hc2] at h
        simp only at h
        have h2 := (cutS_len hc2).2
        unfold headB at h
        cases hp : prefW l2 with
        | none => rw [hp] at h; cases h
        | some d =>
          rw [hp] at h
          simp only at h
          unfold headN at h
          split at h
          case isFalse => cases h
          rename_i h0
          cases h
          have hd := err_canon h0
          have hl2 : l2 = 98 :: d := by
            cases l2 with
            | nil => cases hp
            | cons x y =>
              have h3 : prefW (x :: y) = if x = 98 then some y else none := rfl
              rw [h3] at hp
              split at hp
              · rename_i e; cases hp; rw [e]
              · cases hp
          refine ⟨?_, ?_⟩
          · rw [h1, h2, hl, hl2]
            unfold headW
            rw [hd]
            simp
          · unfold numOf
            rw [if_pos h0]
            unfold numErr at h0
            split at h0
            · cases h0
            · split at h0
              · cases h0
              · omega
    · rw [if_neg hl] at h
      split at h <;> cases h
theorem frames_back {inputs : Int} : ∀ {k : Nat} {fs : List (List UInt8)} {bs r : List UInt8} {gs : List (List UInt8)}, framesS5 inputs k fs bs = .ok (gs, r) → (∀ f ∈ fs, ∀ u ∈ f, u.toNat ≤ 2) →
    framesW fs ++ bs = framesW gs ++ (46 :: 10 :: r) ∧ (∀ f ∈ gs, ∀ u ∈ f, u.toNat ≤ 2)
  | 0, fs, bs, r, gs, h, _ => by cases h
  | k + 1, fs, bs, r, gs, h, h2 => by
    cases hc : cutS bs with
    | none => rw [frames_none hc] at h; cases h
    | some p =>
      obtain ⟨l, r1⟩ := p
      have hb := (cutS_len hc).2
      by_cases hd : l = [46] ∧ 0 < fs.length
      · rw [frames_dot hc hd] at h
        cases h
        exact ⟨by rw [hb, hd.1]; rfl, h2⟩
      · cases hv : valuesW l inputs with
        | error e => rw [frames_err hc hd hv] at h; cases h
        | ok f =>
          by_cases hm : fs.length = 256
          · rw [frames_many hc hd hv hm] at h; cases h
          · rw [frames_step hc hd hv hm] at h
            have hv2 := valuesW_back hv
            have ih := frames_back h (fun g hg => by
              rcases List.mem_append.1 hg with hg | hg
              · exact h2 g hg
              · rw [List.mem_singleton] at hg; subst hg; exact hv2.2)
            refine ⟨?_, ih.2⟩
            rw [← ih.1, framesW_snoc, hb, ← hv2.1]
            simp [lineW]

theorem mayLine_of {l : List UInt8} (h1 : l.length ≤ 16384) (h2 : ∀ u ∈ l, u.toNat ≤ 2) : mayLineW l = true := by
  unfold mayLineW
  have : l.any tooBig = false := by
    rw [List.any_eq_false]
    intro u hu
    have := h2 u hu
    unfold tooBig
    simpa using this
  rw [decide_eq_true h1, this]; rfl
/-- What Get reads is written as the same bytes. -/
theorem get_back {bs : List UInt8} {la inp : Int} {t : TraceC} (h : getW bs la inp = .ok t) :
    mayW t = true ∧ textW t = bs ∧ (t.init.length : Int) = la ∧ 0 < t.frames.length ∧ ((t.frames.headD []).length : Int) = inp := by
  unfold getW at h
  split at h
  · cases h
  rename_i hA
  split at h
  · cases h
  have hla : 0 ≤ la ∧ la ≤ 16384 := by omega
  have hin : 0 ≤ inp ∧ inp ≤ 16384 := by omega
  cases hh : headS5 bs with
  | error e => rw [hh] at h; cases h
  | ok q =>
    obtain ⟨bad, r⟩ := q
    rw [hh] at h
    have h1 := headS5_back hh
    have h' : getA la inp bad r = .ok t := h
    unfold getA at h'
    cases hc : cutS r with
    | none => rw [hc] at h'; cases h'
    | some p =>
      obtain ⟨l, r2⟩ := p
      rw [hc] at h'
      have h2 := (cutS_len hc).2
      have h'' : getB inp bad r2 (valuesW l la) = .ok t := h'
      cases hv : valuesW l la with
      | error e => rw [hv] at h''; cases h''
      | ok init =>
        rw [hv] at h''
        have h3 := valuesW_back hv
        have h3l := (valuesW_len hv).1
        have h4 : getC bad init (framesS5 inp (r2.length + 1) [] r2) = .ok t := h''
        cases hf : framesS5 inp (r2.length + 1) [] r2 with
        | error e => rw [hf] at h4; cases h4
        | ok g =>
          obtain ⟨fs, r3⟩ := g
          rw [hf] at h4
          have h5 : (if r3 = [] then Except.ok ⟨bad, init, fs⟩ else Except.error (5 : Int)) = Except.ok t := h4
          split at h5
          case isFalse => cases h5
          rename_i h0
          cases h5
          have h6 := frames_small hf (by simp) (by simp) hin
          have h7 := frames_back hf (by simp)
          have hhd : ((fs.headD []).length : Int) = inp := by
            cases fs with
            | nil => simp at h6
            | cons f r => exact h6.2.2 f (by simp)
          refine ⟨?_, ?_, h3l, h6.2.1, hhd⟩
          · have e := mayW_mid (t := ⟨(bad : Int), init, fs⟩) (by simp only; omega) (by simp only; omega) (by simp only; omega) h6.1
            rw [e]
            simp only
            rw [mayLine_of (by omega) h3.2]
            have : fs.any (wrongF (fs.headD []).length) = false := by
              rw [List.any_eq_false]
              intro f hf
              have hl := h6.2.2 f hf
              have e1 : f.length = (fs.headD []).length := by omega
              unfold wrongF
              rw [decide_eq_false (fun h => h e1), mayLine_of (by omega) (h7.2 f hf)]
              simp
            rw [this]; rfl
          · have h8 := h7.1
            rw [h0] at h8
            have h9 : r2 = framesW fs ++ [46, 10] := h8
            have hb : ((bad : Int)).toNat = bad := by omega
            unfold textW
            simp only
            rw [hb, h1.1, h2, h9, ← h3.1]
            simp [lineW]

-- what is written is read
theorem headS5_text (bad : Nat) (R : List UInt8) (h : bad ≤ 1023) : headS5 (headW bad ++ R) = .ok (bad, R) := by
  have e : headW bad ++ R = [49] ++ 10 :: ((98 :: Lib.decDigits bad) ++ 10 :: R) := by simp [headW]
  have hd : ∀ c ∈ (98 :: Lib.decDigits bad), c ≠ 10 := by
    intro c hc
    rcases List.mem_cons.1 hc with rfl | hc
    · decide
    · exact (dec_blank bad c hc).2
  unfold headS5
  rw [e, cutS_line [49] _ (by decide)]
  simp only [if_true]
  unfold headA
  rw [cutS_line _ R hd]
  simp only
  unfold headB
  have : prefW (98 :: Lib.decDigits bad) = some (Lib.decDigits bad) := rfl
  rw [this]
  simp only
  unfold headN
  rw [dec_err bad 1023 h, if_pos rfl, dec_num bad 1023 h]
theorem headS5_part (bad : Nat) (R : List UInt8) (h : bad ≤ 1023) (c : Nat) : headS5 ((headW bad ++ R).take c) = if c < (headW bad).length then .error 4 else .ok (bad, R.take (c - (headW bad).length)) := by
  have e : headW bad ++ R = [49] ++ 10 :: ((98 :: Lib.decDigits bad) ++ 10 :: R) := by simp [headW]
  have hd : ∀ c ∈ (98 :: Lib.decDigits bad), c ≠ 10 := by
    intro c hc
    rcases List.mem_cons.1 hc with rfl | hc
    · decide
    · exact (dec_blank bad c hc).2
  by_cases hc : c < (headW bad).length
  · rw [if_pos hc]
    unfold headS5
    rw [e, cutS_part [49] _ c (by decide)]
    by_cases h1 : c ≤ ([49] : List UInt8).length
    · rw [if_pos h1]
    · rw [if_neg h1]
      simp only [if_true]
      unfold headA
      rw [cutS_part _ R _ hd, if_pos]
      simp [headW] at hc h1 ⊢
      omega
  · rw [if_neg hc]
    have : (headW bad ++ R).take c = headW bad ++ R.take (c - (headW bad).length) := by
      rw [List.take_append, List.take_of_length_le (by omega)]
    rw [this, headS5_text bad _ h]
/-- Frames that may be read. -/
def goodF (inputs : Int) (hs : List (List UInt8)) : Prop := ∀ f ∈ hs, (f.length : Int) = inputs ∧ ∀ u ∈ f, u.toNat ≤ 2
theorem frames_text {inputs : Int} (r : List UInt8) : ∀ (hs : List (List UInt8)) (k : Nat) (fs : List (List UInt8)), hs.length < k → goodF inputs hs → 0 < fs.length + hs.length → fs.length + hs.length ≤ 256 →
    framesS5 inputs k fs (framesW hs ++ (46 :: 10 :: r)) = .ok (fs ++ hs, r)
  | [], k, fs, hk, _, h0, _ => by
    obtain ⟨j, rfl⟩ : ∃ j, k = j + 1 := ⟨k - 1, by simp at hk; omega⟩
    have hc := cutS_line [46] r (by decide)
    rw [show framesW [] ++ (46 :: 10 :: r) = [46] ++ 10 :: r from rfl, frames_dot hc ⟨rfl, by simpa using h0⟩]
    simp
  | f :: hs, k, fs, hk, hg, h0, h1 => by
    obtain ⟨j, rfl⟩ : ∃ j, k = j + 1 := ⟨k - 1, by simp at hk; omega⟩
    have hf := hg f (by simp)
    have e : framesW (f :: hs) ++ (46 :: 10 :: r) = f.map digB ++ 10 :: (framesW hs ++ (46 :: 10 :: r)) := by simp [framesW, lineW]
    have hc := cutS_line (f.map digB) (framesW hs ++ (46 :: 10 :: r)) (digs_free f)
    rw [e, frames_step hc (fun h => digs_nodot f h.1) (valuesW_digs f inputs hf.1 hf.2) (by simp at h1; omega), frames_text r hs j (fs ++ [f]) (by simp at hk; omega) (fun g hgg => hg g (by simp [hgg])) (by simp; omega) (by simp at h1 ⊢; omega)]
    simp
theorem frames_part {inputs : Int} : ∀ (hs : List (List UInt8)) (k : Nat) (fs : List (List UInt8)) (c : Nat), goodF inputs hs → fs.length + hs.length ≤ 256 → c < (framesW hs ++ [46, 10]).length →
    framesS5 inputs k fs ((framesW hs ++ [46, 10]).take c) = .error 4
  | _, 0, _, _, _, _, _ => rfl
  | [], k + 1, fs, c, _, _, hc => by
    have h1 := cutS_part [46] [] c (by decide)
    have hc' : c ≤ ([46] : List UInt8).length := by simp [framesW] at hc; simp; omega
    rw [if_pos hc'] at h1
    exact frames_none h1
  | f :: hs, k + 1, fs, c, hg, h1, hc => by
    have hf := hg f (by simp)
    have e : framesW (f :: hs) ++ [46, 10] = f.map digB ++ 10 :: (framesW hs ++ [46, 10]) := by simp [framesW, lineW]
    have h2 := cutS_part (f.map digB) (framesW hs ++ [46, 10]) c (digs_free f)
    rw [e] at hc ⊢
    by_cases hl : c ≤ (f.map digB).length
    · rw [if_pos hl] at h2
      exact frames_none h2
    · rw [if_neg hl] at h2
      rw [frames_step h2 (fun h => digs_nodot f h.1) (valuesW_digs f inputs hf.1 hf.2) (by simp at h1; omega)]
      refine frames_part hs k (fs ++ [f]) _ (fun g hgg => hg g (by simp [hgg])) (by simp at h1 ⊢; omega) ?_
      simp at hc hl ⊢
      omega
theorem framesW_many : ∀ hs : List (List UInt8), hs.length ≤ (framesW hs).length
  | [] => by simp
  | f :: r => by
    have := framesW_many r
    simp [framesW, lineW]; omega

section
variable {t : TraceC} (h : MayT t)
include h
theorem good_of : goodF ((t.frames.headD []).length : Nat) t.frames := fun f hf => ⟨by have := (h.each f hf).1; omega, (h.each f hf).2.2⟩
theorem head_in : t.frames.headD [] ∈ t.frames := by
  have := h.one
  cases hf : t.frames with
  | nil => rw [hf] at this; simp at this
  | cons f r => simp
theorem get_at (bs : List UInt8) (hb : bs.length ≤ 1048576) : getW bs (t.init.length : Nat) ((t.frames.headD []).length : Nat) = getH (t.init.length : Nat) ((t.frames.headD []).length : Nat) (headS5 bs) := by
  have h1 := h.init
  have h2 := (h.each _ (head_in h)).2.1
  unfold getW
  rw [if_neg (by omega), if_neg (by omega)]
/-- What is put, with bytes behind it. -/
theorem get_text (r : List UInt8) (hb : (textW t ++ r).length ≤ 1048576) : getW (textW t ++ r) (t.init.length : Nat) ((t.frames.headD []).length : Nat) = if r = [] then .ok t else .error 5 := by
  rw [get_at h _ hb]
  have hlo := h.lo
  have hhi := h.hi
  have e : textW t ++ r = headW t.bad.toNat ++ (t.init.map digB ++ 10 :: (framesW t.frames ++ (46 :: 10 :: r))) := by simp [textW, lineW]
  rw [e, headS5_text _ _ (by omega)]
  unfold getH
  simp only
  unfold getA
  rw [cutS_line _ _ (digs_free t.init)]
  simp only
  rw [valuesW_digs t.init _ rfl h.vals]
  unfold getB
  simp only
  rw [frames_text r t.frames _ [] (by have := framesW_many t.frames; simp; omega) (good_of h) (by have := h.one; simp; omega) (by have := h.most; simp; omega)]
  unfold getC
  simp only [List.nil_append]
  have hb : ((t.bad.toNat : Nat) : Int) = t.bad := by omega
  rw [hb]
/-- Cut, it ends too soon. -/
theorem get_cut (c : Nat) (hc : c < (textW t).length) (hb : (textW t).length ≤ 1048576) : getW ((textW t).take c) (t.init.length : Nat) ((t.frames.headD []).length : Nat) = .error 4 := by
  rw [get_at h _ (by simp; omega)]
  have hlo := h.lo
  have hhi := h.hi
  have e : textW t = headW t.bad.toNat ++ (t.init.map digB ++ 10 :: (framesW t.frames ++ [46, 10])) := by simp [textW, lineW]
  rw [e] at hc ⊢
  rw [headS5_part _ _ (by omega)]
  by_cases h1 : c < (headW t.bad.toNat).length
  · rw [if_pos h1]; rfl
  · rw [if_neg h1]
    unfold getH
    simp only
    unfold getA
    rw [cutS_part _ _ _ (digs_free t.init)]
    by_cases h2 : c - (headW t.bad.toNat).length ≤ (t.init.map digB).length
    · rw [if_pos h2]
    · rw [if_neg h2]
      simp only
      rw [valuesW_digs t.init _ rfl h.vals]
      unfold getB
      simp only
      rw [frames_part t.frames _ [] _ (good_of h) (by have := h.most; simp; omega) (by simp only [List.length_append, List.length_cons, List.length_nil, List.length_map] at hc h1 h2 ⊢; omega)]
      rfl
end
end Go.Proofs.YtkimhlomadmnkaaDoor
