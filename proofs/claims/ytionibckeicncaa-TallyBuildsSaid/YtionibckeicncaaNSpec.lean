/- Package norm, on plain lists: what defines, what is referred to, the order of gates, the circuit of a raw circuit. -/
import Derived.Test.YtionibckeicncaaNBase
import Derived.Test.YtionibckeicncaaRows
import Derived.BigQuiet
import Derived.Deep.AppendLies
import Derived.Deep.QuietTactic
import Derived.Deep.RegionLaw
import Derived.Deep.RegionWith
import Derived.KernelRfl
import Derived.Laws.EntriesVeiled
import Derived.Lib.ConvBytes
import Derived.Lib.Hide
import Derived.Lib.SlBytesRow
import Derived.Lib.SmallJoins
import Derived.Shelf.Bytes.SlSmallAll
import Derived.WalkKit
import Derived.WalkLawsBesides
import Derived.WalkSpells
namespace Go.Proofs.Ytionibckeicncaa
open Go Go.RowKit

/-- A circuit: latches and gates as pairs. -/
structure NormC where
  ins : Int
  lats : List (Nat × Nat)
  gates : List (Nat × Nat)
  outs : List Nat
  bads : List Nat
  cons : List Nat
deriving DecidableEq

def gate1 (t : Tri) : List Nat := [t.2.1, t.2.2]
/-- The literals that r defines. -/
def ownsL (r : RawC) : List Nat := r.ins ++ (r.lats.map (·.1) ++ r.gates.map (·.1))
/-- The literals that r makes use of. -/
def refsL (r : RawC) : List Nat := (r.outs ++ (r.bads ++ r.cons)) ++ (r.lats.map (·.2.1) ++ r.gates.flatMap gate1)
/-- Which variables are defined, if each is once and no literal is odd. -/
def defsF : List Bool → List Nat → Option (List Bool)
  | d, [] => some d
  | d, x :: r => if x % 2 = 1 then none else if d.getD (x / 2) false = true then none else defsF (d.set (x / 2) true) r
def defs0 (m : Nat) : List Bool := (List.replicate (m + 1) false).set 0 true
def defsS (r : RawC) : Option (List Bool) := defsF (defs0 r.max) (ownsL r)
def missing (d : List Bool) (x : Nat) : Bool := !d.getD (x / 2) false

/-- Is v a gate's variable? -/
def isG (gs : List Tri) (v : Nat) : Bool := gs.any (fun g => g.1 / 2 == v)
/-- Has a literal to wait for a gate that is not among the numbered ones? -/
def waitsFor (gs : List Tri) (nd : List Nat) (x : Nat) : Nat := if isG gs (x / 2) = true then (if nd.contains (x / 2) = true then 0 else 1) else 0
def gAt (gs : List Tri) (i : Nat) : Tri := gs.getD i (0, 0, 0)
def varAt (gs : List Tri) (i : Nat) : Nat := (gAt gs i).1 / 2
def wt (gs : List Tri) (nd : List Nat) (i : Nat) : Nat := waitsFor gs nd (gAt gs i).2.1 + waitsFor gs nd (gAt gs i).2.2
def readyB (gs : List Tri) (nd : List Nat) (i : Nat) : Bool := !nd.contains (varAt gs i) && decide (wt gs nd i = 0)
/-- The first gate that can be numbered comes next. -/
def orderF (gs : List Tri) : Nat → List Nat → List Tri
  | 0, _ => []
  | f + 1, nd => match (List.range gs.length).find? (readyB gs nd) with
    | none => []
    | some i => gAt gs i :: orderF gs f (nd ++ [varAt gs i])
def inOrderS (gs : List Tri) : List Tri := orderF gs gs.length []

/-- The new literal of each variable. -/
def toF : List Nat → Nat → List Nat → List Nat
  | t, _, [] => t
  | t, i, x :: r => toF (t.set (x / 2) (2 * (1 + i))) (i + 1) r
def toS (r : RawC) : List Nat := toF (List.replicate (r.max + 1) 0) 0 (ownsL r)
def nowS (t : List Nat) (x : Nat) : Nat := t.getD (x / 2) 0 + x % 2
def resetS (l : Tri) : Nat := if l.2.2 = l.1 then 2 else l.2.2 % 256
def latS3 (t : List Nat) (l : Tri) : Nat × Nat := (nowS t l.2.1, resetS l)
def gateS3 (t : List Nat) (g : Tri) : Nat × Nat := (max (nowS t g.2.1) (nowS t g.2.2), min (nowS t g.2.1) (nowS t g.2.2))
def renumS (r : RawC) : NormC := ⟨r.ins.length, r.lats.map (latS3 (toS r)), r.gates.map (gateS3 (toS r)), r.outs.map (nowS (toS r)), r.bads.map (nowS (toS r)), r.cons.map (nowS (toS r))⟩

/-- What Of answers. -/
def ofS (r : RawC) : Except Int NormC :=
  if mayRaw r = false then .error 2 else
  match defsS r with
  | none => .error 8
  | some d => if (refsL r).any (missing d) = true then .error 7 else
    if (inOrderS r.gates).length < r.gates.length then .error 9 else .ok (renumS { r with gates := inOrderS r.gates })

-- the chapter's examples
example : ofS ⟨3, [6], [], [], [], [], [(2, 4, 6), (4, 7, 6)]⟩ = .ok ⟨1, [], [(3, 2), (4, 2)], [], [], []⟩ := by rfl
example : ofS ⟨2, [], [], [], [], [], [(2, 4, 1), (4, 2, 1)]⟩ = .error 9 := by rfl
example : ofS ⟨2, [], [], [], [], [], [(2, 4, 1)]⟩ = .error 7 := by rfl
example : ofS ⟨2, [2], [], [], [], [], [(2, 1, 1)]⟩ = .error 8 := by rfl
example : ofS ⟨1, [3], [], [], [], [], []⟩ = .error 8 := by rfl
example : ofS ⟨1, [0], [], [], [], [], []⟩ = .error 8 := by rfl
end Go.Proofs.Ytionibckeicncaa
