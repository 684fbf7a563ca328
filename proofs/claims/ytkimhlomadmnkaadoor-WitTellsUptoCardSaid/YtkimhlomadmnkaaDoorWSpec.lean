/- Package wit, on plain lists. -/
import Derived.Test.YtkimhlomadmnkaaDoorRawCut
import Derived.Test.YtkimhlomadmnkaaDoorNTrace
namespace Go.Proofs.YtkimhlomadmnkaaDoor
open Go Go.RowKit

/-- A value's digit. -/
def digB (u : UInt8) : UInt8 := if u = 0 then 48 else if u = 1 then 49 else 120
/-- A digit's value. -/
def valB (u : UInt8) : Option UInt8 := if u = 48 then some 0 else if u = 49 then some 1 else if u = 120 then some 2 else none
def tooBig (u : UInt8) : Bool := decide (2 < u.toNat)
def lineW (l : List UInt8) : List UInt8 := l.map digB ++ [10]
def mayLineW (l : List UInt8) : Bool := decide (l.length ≤ 16384) && !l.any tooBig
def wrongF (n : Nat) (f : List UInt8) : Bool := decide (f.length ≠ n) || !mayLineW f
def mayW (t : TraceC) : Bool :=
  !(decide (t.bad < 0) || (decide (1024 ≤ t.bad) || (decide (t.frames.length < 1) || decide (256 < t.frames.length)))) && (mayLineW t.init && !t.frames.any (wrongF (t.frames.headD []).length))
def headW (bad : Nat) : List UInt8 := [49, 10, 98] ++ (Lib.decDigits bad ++ [10])
def framesW : List (List UInt8) → List UInt8
  | [] => []
  | f :: r => lineW f ++ framesW r
def textW (t : TraceC) : List UInt8 := headW t.bad.toNat ++ (lineW t.init ++ (framesW t.frames ++ [46, 10]))
/-- Put. -/
def putW (t : TraceC) : Except Int (List UInt8) := if mayW t = true then .ok (textW t) else .error 2

def valsW : List UInt8 → Option (List UInt8)
  | [] => some []
  | u :: r => match valB u with
    | none => none
    | some v => match valsW r with
      | none => none
      | some l => some (v :: l)
/-- None is error 5. -/
def opt5 {α : Type} : Option α → Except Int α
  | none => .error 5
  | some v => .ok v
/-- Values. -/
def valuesW (l : List UInt8) (many : Int) : Except Int (List UInt8) := if (l.length : Int) = many then opt5 (valsW l) else .error 5
def prefW (l : List UInt8) : Option (List UInt8) := match l with
  | [] => none
  | u :: d => if u = 98 then some d else none
def headN (r2 d : List UInt8) : Except Int (Nat × List UInt8) := if numErr d 1023 = 0 then .ok (numOf d 1023, r2) else .error (numErr d 1023)
def headB (l2 r2 : List UInt8) : Except Int (Nat × List UInt8) := match prefW l2 with
  | none => .error 5
  | some d => headN r2 d
def headA (r : List UInt8) : Except Int (Nat × List UInt8) := match cutS r with
  | none => .error 4
  | some p => headB p.1 p.2
/-- readHead. -/
def headS5 (bs : List UInt8) : Except Int (Nat × List UInt8) := match cutS bs with
  | none => .error 4
  | some p => if p.1 = [49] then headA p.2 else if p.1 = [48] ∨ p.1 = [50] then .error 6 else .error 5
/-- readFrames: k bounds how many lines there may be; fs are the frames so far. -/
def framesS5 (inputs : Int) : Nat → List (List UInt8) → List UInt8 → Except Int (List (List UInt8) × List UInt8)
  | 0, _, _ => .error 4
  | k + 1, fs, bs => match cutS bs with
    | none => .error 4
    | some p => if p.1 = [46] ∧ 0 < fs.length then .ok (fs, p.2) else match valuesW p.1 inputs with
      | .error e => .error e
      | .ok f => if fs.length = 256 then .error 3 else framesS5 inputs k (fs ++ [f]) p.2
def getC (bad : Nat) (init : List UInt8) (fr : Except Int (List (List UInt8) × List UInt8)) : Except Int TraceC := match fr with
  | .error e => .error e
  | .ok q => if q.2 = [] then .ok ⟨bad, init, q.1⟩ else .error 5
def getB (inputs : Int) (bad : Nat) (r2 : List UInt8) (v : Except Int (List UInt8)) : Except Int TraceC := match v with
  | .error e => .error e
  | .ok init => getC bad init (framesS5 inputs (r2.length + 1) [] r2)
def getA (latches inputs : Int) (bad : Nat) (r : List UInt8) : Except Int TraceC := match cutS r with
  | none => .error 4
  | some p => getB inputs bad p.2 (valuesW p.1 latches)
def getH (latches inputs : Int) (h : Except Int (Nat × List UInt8)) : Except Int TraceC := match h with
  | .error e => .error e
  | .ok q => getA latches inputs q.1 q.2
/-- Get. -/
def getW (bs : List UInt8) (latches inputs : Int) : Except Int TraceC :=
  if min latches inputs < 0 ∨ 16384 < max latches inputs then .error 2 else
  if 1048576 < bs.length then .error 3 else getH latches inputs (headS5 bs)

theorem cutS_len {bs l r : List UInt8} (h : cutS bs = some (l, r)) : l.length + r.length < bs.length ∧ bs = l ++ 10 :: r := by
  unfold cutS at h
  split at h
  case isFalse => cases h
  rename_i hk
  cases h
  refine ⟨by simp; omega, ?_⟩
  have h10 : bs[ahead bs]'hk = 10 := by

    induction bs with
    | nil => simp at hk
    | cons x r ih =>
      by_cases hx : x = 10
      · subst hx; simp [ahead]
      · have ha : ahead (x :: r) = ahead r + 1 := by unfold ahead; rw [List.takeWhile_cons]; simp [hx]
        have h' : ahead r < r.length := by rw [ha, List.length_cons] at hk; omega
        have := ih h'
        simpa [ha] using this
  conv => lhs; rw [← List.take_append_drop (ahead bs) bs]
  rw [List.drop_eq_getElem_cons hk, h10]
theorem valsW_len : ∀ {l v : List UInt8}, valsW l = some v → v.length = l.length
  | [], v, h => by cases h; rfl
  | u :: r, v, h => by
    rw [valsW] at h
    cases hv : valB u with
    | none => rw [hv] at h; cases h
    | some x =>
      rw [hv] at h
      cases hr : valsW r with
      | none => rw [hr] at h; cases h
      | some l => rw [hr] at h; cases h; simp [valsW_len hr]

section
variable {i : Int} {k : Nat} {fs : List (List UInt8)} {bs l r f : List UInt8} {e : Int}
theorem frames_none (h : cutS bs = none) : framesS5 i (k + 1) fs bs = .error 4 := by rw [framesS5, h]
theorem frames_dot (h : cutS bs = some (l, r)) (hd : l = [46] ∧ 0 < fs.length) : framesS5 i (k + 1) fs bs = .ok (fs, r) := by rw [framesS5, h]; simp only; rw [if_pos hd]
theorem frames_err (h : cutS bs = some (l, r)) (hd : ¬ (l = [46] ∧ 0 < fs.length)) (hv : valuesW l i = .error e) : framesS5 i (k + 1) fs bs = .error e := by rw [framesS5, h]; simp only; rw [if_neg hd, hv]
theorem frames_many (h : cutS bs = some (l, r)) (hd : ¬ (l = [46] ∧ 0 < fs.length)) (hv : valuesW l i = .ok f) (hm : fs.length = 256) : framesS5 i (k + 1) fs bs = .error 3 := by rw [framesS5, h]; simp only; rw [if_neg hd, hv]; simp only; rw [if_pos hm]
theorem frames_step (h : cutS bs = some (l, r)) (hd : ¬ (l = [46] ∧ 0 < fs.length)) (hv : valuesW l i = .ok f) (hm : ¬ fs.length = 256) : framesS5 i (k + 1) fs bs = framesS5 i k (fs ++ [f]) r := by rw [framesS5, h]; simp only; rw [if_neg hd, hv]; simp only; rw [if_neg hm]
end

-- the chapter's examples
def bytesT (s : List Nat) : List UInt8 := s.map fun n => if n = 47 then 10 else UInt8.ofNat n
theorem exA : getW [49, 10, 98, 48, 10, 120, 10, 48, 10, 49, 10, 46, 10] 1 1 = .ok ⟨0, [2], [[0], [1]]⟩ := by rfl
theorem exB : getW [49, 10, 98, 48, 10, 10, 120, 10, 46, 10] 0 1 = .ok ⟨0, [], [[2]]⟩ := by rfl
theorem exC : getW [48, 10] 1 1 = .error 6 := by rfl
theorem exD : getW [49, 10, 98, 48, 10, 10, 46, 10] 0 1 = .error 5 := by rfl
theorem exE : getW [49, 10, 98, 48, 10, 48, 10, 48, 10] 1 1 = .error 4 := by rfl
end Go.Proofs.YtkimhlomadmnkaaDoor
