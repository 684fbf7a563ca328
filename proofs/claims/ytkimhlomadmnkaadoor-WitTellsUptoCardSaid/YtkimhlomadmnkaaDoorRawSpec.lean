/- Package raw, on plain lists: what is valid, what is written, and what is read. -/
import Derived.Test.YtkimhlomadmnkaaDoorDec
namespace Go.Proofs.YtkimhlomadmnkaaDoor
open Go Go.RowKit

/-- A line of numbers. -/
def lineOf (l : List Nat) : List UInt8 := bodyOf l ++ [10]
def linesOf : List (List Nat) → List UInt8
  | [] => []
  | l :: r => lineOf l ++ linesOf r
theorem linesOf_append : ∀ (a b : List (List Nat)), linesOf (a ++ b) = linesOf a ++ linesOf b
  | [], b => rfl
  | x :: a, b => by rw [List.cons_append, linesOf, linesOf, linesOf_append a b, List.append_assoc]
theorem linesOf_snoc (a : List (List Nat)) (x : List Nat) : linesOf (a ++ [x]) = linesOf a ++ lineOf x := by
  rw [linesOf_append]; simp [linesOf]

def countsAll (r : RawC) : List Nat := [r.max, r.ins.length, r.lats.length, r.outs.length, r.gates.length, r.bads.length, r.cons.length]
/-- The first line's numbers, the last ones omitted where they are 0. -/
def countsOf (r : RawC) : List Nat := if r.cons.length = 0 then (if r.bads.length = 0 then (countsAll r).take 5 else (countsAll r).take 6) else countsAll r
def latNums (t : Tri) : List Nat := if t.2.2 = 0 then [t.1, t.2.1] else [t.1, t.2.1, t.2.2]
def triNums (t : Tri) : List Nat := [t.1, t.2.1, t.2.2]
def bodyLines (r : RawC) : List (List Nat) :=
  r.ins.map (fun x => [x]) ++ (r.lats.map latNums ++ (r.outs.map (fun x => [x]) ++ (r.bads.map (fun x => [x]) ++ (r.cons.map (fun x => [x]) ++ r.gates.map triNums))))
def headText : List UInt8 := [97, 97, 103, 32]
/-- Its text. -/
def textOf (r : RawC) : List UInt8 := headText ++ (lineOf (countsOf r) ++ linesOf (bodyLines r))

/-- The first line, and what is behind it. -/
def cutS (b : List UInt8) : Option (List UInt8 × List UInt8) := if ahead b < b.length then some (b.take (ahead b), b.drop (ahead b + 1)) else none

/-- 'count' lines, each read by item. -/
def sectS {α : Type} (item : List UInt8 → Nat → Except Int α) (most : Nat) : Nat → List UInt8 → Except Int (List α × List UInt8)
  | 0, b => .ok ([], b)
  | k + 1, b => match cutS b with
    | none => .error 4
    | some (line, rest) => match item line most with
      | .error e => .error e
      | .ok x => match sectS item most k rest with
        | .error e => .error e
        | .ok (xs, r) => .ok (x :: xs, r)

def litS (line : List UInt8) (most : Nat) : Except Int Nat :=
  if numsErr line 1 1 most = 0 then .ok ((numsOf line most).getD 0 0) else .error (numsErr line 1 1 most)
def latOf (l : List Nat) : Tri := (l.getD 0 0, l.getD 1 0, if 2 < l.length then l.getD 2 0 else 0)
def latS (line : List UInt8) (most : Nat) : Except Int Tri :=
  if numsErr line 2 3 most = 0 then (if mayReset (latOf (numsOf line most)) = true then .ok (latOf (numsOf line most)) else .error 5) else .error (numsErr line 2 3 most)
def triOf (l : List Nat) : Tri := (l.getD 0 0, l.getD 1 0, l.getD 2 0)
def gateS (line : List UInt8) (most : Nat) : Except Int Tri :=
  if numsErr line 3 3 most = 0 then .ok (triOf (numsOf line most)) else .error (numsErr line 3 3 most)

/-- The numbers of a first line, checked. -/
def checkErr (l : List Nat) : Int :=
  if 0 < l.getD 7 0 ∨ 0 < l.getD 8 0 then 6
  else if 16384 < l.getD 0 0 ∨ 1024 < l.getD 3 0 ∨ 1024 < l.getD 5 0 ∨ 1024 < l.getD 6 0 then 3
  else if l.getD 0 0 < l.getD 1 0 + l.getD 2 0 + l.getD 4 0 then 5 else 0
/-- Nine numbers out of words, those that lack 0. -/
def nineOf (W : List (List UInt8)) : List Nat := W.map (fun x => numOf x 2147483647) ++ List.replicate (9 - W.length) 0
def headErr (word line : List UInt8) : Int :=
  match wordsOf line with
  | none => 5
  | some W => if W.length < 6 ∨ 10 < W.length ∨ W.getD 0 [] ≠ word then 5
    else if firstErr (W.drop 1) 2147483647 ≠ 0 then firstErr (W.drop 1) 2147483647 else checkErr (nineOf (W.drop 1))
def headNums (line : List UInt8) : List Nat := (nineOf (((wordsOf line).getD []).drop 1)).take 7
def headS (word b : List UInt8) : Except Int (List Nat × List UInt8) :=
  match cutS b with
  | none => .error 4
  | some (line, rest) => if headErr word line = 0 then .ok (headNums line, rest) else .error (headErr word line)

def isCtl (u : UInt8) : Bool := decide (u.toNat < 32) || decide (u.toNat = 127)
/-- Is a line a name? -/
def nameOk (line : List UInt8) (many : List Nat) : Bool :=
  let mark := line.takeWhile (fun u => u != 32)
  let name := line.drop (mark.length + 1)
  match mark with
  | [] => false
  | x :: d => if name = [] then false else if name.any isCtl then false else
    match ([105, 108, 111, 98, 99] : List UInt8).findIdx? (fun u => u == x) with
    | none => false
    | some k => decide (numErr d 2147483647 = 0) && decide (numOf d 2147483647 < many.getD k 0)
def namesS (many : List Nat) : Nat → List UInt8 → Int
  | 0, _ => 0
  | f + 1, b => if b = [] then 0 else match cutS b with
    | none => 4
    | some (line, rest) => if line = [99] then 0 else if nameOk line many = true then namesS many f rest else 5
def namesErr (many : List Nat) (b : List UInt8) : Int := namesS many b.length b

/-- What Get answers. -/
def getS (b : List UInt8) : Except Int RawC :=
  if 1048576 < b.length then .error 3 else
  match headS [97, 97, 103] b with
  | .error e => .error e
  | .ok (h, r0) =>
    let most := 2 * h.getD 0 0 + 1
    match sectS litS most (h.getD 1 0) r0 with
    | .error e => .error e
    | .ok (ins, r1) => match sectS latS most (h.getD 2 0) r1 with
      | .error e => .error e
      | .ok (lats, r2) => match sectS litS most (h.getD 3 0) r2 with
        | .error e => .error e
        | .ok (outs, r3) => match sectS litS most (h.getD 5 0) r3 with
          | .error e => .error e
          | .ok (bads, r4) => match sectS litS most (h.getD 6 0) r4 with
            | .error e => .error e
            | .ok (cons, r5) => match sectS gateS most (h.getD 4 0) r5 with
              | .error e => .error e
              | .ok (gates, r6) => if namesErr [h.getD 1 0, h.getD 2 0, h.getD 3 0, h.getD 5 0, h.getD 6 0] r6 = 0 then .ok ⟨h.getD 0 0, ins, lats, outs, bads, cons, gates⟩
                else .error (namesErr [h.getD 1 0, h.getD 2 0, h.getD 3 0, h.getD 5 0, h.getD 6 0] r6)
end Go.Proofs.YtkimhlomadmnkaaDoor
