/- Package enc on plain lists: the clause literals, the clauses of an unrolling, each with the gate that it is of. -/
import Derived.Test.YtcoehbkjccfhlaaNSpec
import Derived.Test.YtcoehbkjccfhlaaNVal
import Derived.Test.YtcoehbkjccfhlaaNCirc
import Derived.Test.YtcoehbkjccfhlaaRows
import Derived.BigQuiet
import Derived.Deep.AppendLies
import Derived.Deep.CutRange
import Derived.Deep.QuietTactic
import Derived.Deep.RegionHeld3
import Derived.Deep.RegionLaw
import Derived.Deep.RegionWith
import Derived.KernelRfl
import Derived.Laws.EntriesVeiled
import Derived.Laws.Tables
import Derived.Lib.ConvBytes
import Derived.Lib.Hide
import Derived.Lib.SlBytesRow
import Derived.Lib.SmallJoins
import Derived.Maps.AppendAt
import Derived.Shelf.Bytes.SlSmallAll
import Derived.WalkKit
import Derived.WalkLawsBesides
import Derived.WalkSpells
namespace Go.Proofs.Ytcoehbkjccfhlaa
open Go Go.RowKit Go.Joins

/-- The clause variable of a variable in a frame. -/
def spotE (V v f : Nat) : Nat := 1 + f * V + v
def absE (V x f : Nat) : Int := if x / 2 = 0 then -1 else ((spotE V (x / 2) f : Nat) : Int)
/-- The clause literal of a literal in a frame. -/
def litE (V x f : Nat) : Int := if x % 2 = 1 then -(absE V x f) else absE V x f
/-- What g tells of 0, 1 .., one behind the other. -/
def upE {α : Type} (g : Nat → List α) (k : Nat) : List α := (List.range k).flatMap g
theorem upE_zero {α : Type} (g : Nat → List α) : upE g 0 = [] := rfl
theorem upE_succ {α : Type} (g : Nat → List α) (k : Nat) : upE g (k + 1) = upE g k ++ g k := by simp [upE, List.range_succ, List.flatMap_append]
theorem upE_len {α : Type} (g : Nat → List α) (m : Nat) : ∀ k, (∀ i, i < k → (g i).length ≤ m) → (upE g k).length ≤ k * m
  | 0, _ => by simp [upE_zero]
  | k + 1, h => by
    rw [upE_succ, List.length_append, Nat.succ_mul]
    have := upE_len g m k (fun i hi => h i (by omega))
    have := h k (by omega)
    omega
theorem upE_congr {α : Type} {g g' : Nat → List α} : ∀ k, (∀ i, i < k → g i = g' i) → upE g k = upE g' k
  | 0, _ => rfl
  | k + 1, h => by rw [upE_succ, upE_succ, upE_congr k (fun i hi => h i (by omega)), h k (by omega)]
theorem upE_mem {α : Type} {g : Nat → List α} {k : Nat} {x : α} : x ∈ upE g k ↔ ∃ i, i < k ∧ x ∈ g i := by
  simp [upE, List.mem_flatMap]
/-- A clause, with the gate that it is of (-1: of none). -/
abbrev TCl := Int × List Int
def firstLatE (c : NormC) : Nat := 1 + c.ins.toNat
def firstGateE (c : NormC) : Nat := 1 + c.ins.toNat + c.lats.length
def resetE (c : NormC) (i : Nat) : List TCl :=
  if (c.lats.getD i (0, 0)).2 = 0 then [(-1, [-((spotE (varsN c) (firstLatE c + i) 0 : Nat) : Int)])]
  else if (c.lats.getD i (0, 0)).2 = 1 then [(-1, [((spotE (varsN c) (firstLatE c + i) 0 : Nat) : Int)])] else []
def nextE (c : NormC) (f i : Nat) : List TCl :=
  [(-1, [-((spotE (varsN c) (firstLatE c + i) f : Nat) : Int), litE (varsN c) (c.lats.getD i (0, 0)).1 (f - 1)]),
   (-1, [((spotE (varsN c) (firstLatE c + i) f : Nat) : Int), -(litE (varsN c) (c.lats.getD i (0, 0)).1 (f - 1))])]
def gateE (c : NormC) (f i : Nat) : List TCl :=
  [((i : Int), [-((spotE (varsN c) (firstGateE c + i) f : Nat) : Int), litE (varsN c) (c.gates.getD i (0, 0)).1 f]),
   ((i : Int), [-((spotE (varsN c) (firstGateE c + i) f : Nat) : Int), litE (varsN c) (c.gates.getD i (0, 0)).2 f]),
   ((i : Int), [((spotE (varsN c) (firstGateE c + i) f : Nat) : Int), -(litE (varsN c) (c.gates.getD i (0, 0)).1 f), -(litE (varsN c) (c.gates.getD i (0, 0)).2 f)])]
def latsE (c : NormC) (f : Nat) : List TCl := if f = 0 then upE (resetE c) c.lats.length else upE (nextE c f) c.lats.length
def frameE (c : NormC) (f : Nat) : List TCl := latsE c f ++ upE (gateE c f) c.gates.length
/-- All clauses of an unrolling. -/
def allE (c : NormC) (nf : Nat) : List TCl := (-1, [1]) :: upE (frameE c) nf
theorem allE_succ (c : NormC) (k : Nat) : allE c (k + 1) = allE c k ++ latsE c k ++ upE (gateE c k) c.gates.length := by
  simp [allE, upE_succ, frameE]
theorem resetE_len (c : NormC) (i : Nat) : (resetE c i).length ≤ 1 := by unfold resetE; split; simp; split <;> simp
theorem latsE_len (c : NormC) (f k : Nat) : (if f = 0 then upE (resetE c) k else upE (nextE c f) k).length ≤ 2 * k := by
  split
  · have := upE_len (resetE c) 2 k (fun i _ => Nat.le_trans (resetE_len c i) (by omega)); omega
  · have := upE_len (nextE c f) 2 k (fun i _ => by simp [nextE]); omega
theorem frameE_len (c : NormC) (f : Nat) (h : varsN c ≤ 16384) : (frameE c f).length ≤ 49152 := by
  have h1 := latsE_len c f c.lats.length
  have h2 := upE_len (gateE c f) 3 c.gates.length (fun i _ => by simp [gateE])
  unfold frameE
  rw [List.length_append]
  unfold latsE
  unfold varsN at h
  omega
theorem allE_len (c : NormC) (k : Nat) (h : varsN c ≤ 16384) : (allE c k).length ≤ 1 + k * 49152 := by
  have := upE_len (frameE c) 49152 k (fun i _ => frameE_len c i h)
  unfold allE
  rw [List.length_cons]
  omega
/-- A clause as it is; with its switch. -/
def bareE (t : TCl) : List Int := t.2
def withE (first : Nat) (t : TCl) : List Int := if t.1 = -1 then t.2 else t.2 ++ [(first : Int) + t.1]
/-- How many clauses there are. -/
def fixedE (c : NormC) (k : Nat) : Nat := ((c.lats.take k).filter (fun p => decide (p.2 ≠ 2))).length
def manyE (c : NormC) (nf : Nat) : Nat := 1 + 2 * c.lats.length * (nf - 1) + 3 * c.gates.length * nf + fixedE c c.lats.length
theorem fixedE_succ (c : NormC) (k : Nat) (hk : k < c.lats.length) : fixedE c (k + 1) = fixedE c k + if (c.lats.getD k (0, 0)).2 = 2 then 0 else 1 := by
  unfold fixedE
  rw [List.take_succ_eq_append_getElem hk, List.filter_append, List.length_append]
  congr 1
  simp only [List.getD, List.getElem?_eq_getElem hk, Option.getD_some, List.filter_cons, List.filter_nil]
  by_cases h : c.lats[k].2 = 2 <;> simp [h]
theorem fixedE_le (c : NormC) (k : Nat) : fixedE c k ≤ c.lats.length := by
  unfold fixedE
  exact Nat.le_trans (List.length_filter_le _ _) (by simp; omega)
/-- May there be so many frames? -/
def framesOk (z : Int) : Bool := decide (1 ≤ z) && decide (z ≤ 256)
def ofOk (c : NormC) (z : Int) : Bool := framesOk z && mayC c
theorem spotE_lt {V v f : Nat} (hV : V ≤ 16384) (hv : v ≤ V) (hf : f ≤ 256) : spotE V v f ≤ 4300000 ∧ f * V ≤ 4194304 := by
  have : f * V ≤ 256 * 16384 := Nat.mul_le_mul hf hV
  unfold spotE
  omega
theorem absE_small {V x f : Nat} (hV : V ≤ 16384) (hx : x ≤ 2 * V + 1) (hf : f ≤ 256) : -1 ≤ absE V x f ∧ absE V x f ≤ 4300000 := by
  have := spotE_lt hV (show x / 2 ≤ V by omega) hf
  unfold absE
  split <;> omega
theorem litE_small {V x f : Nat} (hV : V ≤ 16384) (hx : x ≤ 2 * V + 1) (hf : f ≤ 256) : -4300000 ≤ litE V x f ∧ litE V x f ≤ 4300000 := by
  have := absE_small hV hx hf
  unfold litE
  split <;> omega
/-- An unrolling as a value. -/
def uV (ins : Int) (s : CSlots) (V nf : Nat) : Value := .agg #[.int .i64 ins, .slice s.a1 s.n1 s.c1, .slice s.a2 s.n2 s.c2, .slice s.a3 s.n3 s.c3, .slice s.a4 s.n4 s.c4, .slice s.a5 s.n5 s.c5, .int .i64 (V : Int), .int .i64 (nf : Int)]
/-- Its cells. -/
def uC (ins : Int) (s : CSlots) (V nf : Nat) : Array Value := #[.int .i64 ins, .slice s.a1 s.n1 s.c1, .slice s.a2 s.n2 s.c2, .slice s.a3 s.n3 s.c3, .slice s.a4 s.n4 s.c4, .slice s.a5 s.n5 s.c5, .int .i64 (V : Int), .int .i64 (nf : Int)]
end Go.Proofs.Ytcoehbkjccfhlaa
