/- Package sim, on plain lists: the values of a frame, the run, the verdict; over single values and over words alike. -/
import Derived.Test.YtdheldhecimfnaaLib
import Derived.Test.YtdheldhecimfnaaNSpec
import Derived.Test.YtdheldhecimfnaaTBits
import Derived.Test.YtdheldhecimfnaaRows
import Derived.BigQuiet
import Derived.Deep.AppendLies
import Derived.Deep.QuietTactic
import Derived.Deep.RegionLaw
import Derived.Deep.RegionWith
import Derived.KernelRfl
import Derived.Laws.EntriesVeiled
import Derived.Lib.ConvBytes
import Derived.Lib.Hide
import Derived.Lib.SlBytesRow
import Derived.Lib.SmallJoins
import Derived.Shelf.Bytes.SlSmallAll
import Derived.WalkKit
import Derived.WalkLawsBesides
import Derived.WalkSpells
namespace Go.Proofs.Ytdheldhecimfnaa
open Go Go.RowKit

/-- A kind of values. -/
structure Kd (V : Type) where
  z : V
  nt : V → V
  an : V → V → V

section
variable {V : Type} (k : Kd V)
/-- The value of a literal. -/
def Kd.val (vars : List V) (lit : Nat) : V := if lit % 2 = 1 then k.nt (vars.getD (lit / 2) k.z) else vars.getD (lit / 2) k.z
/-- The gates' values, one behind the other. -/
def Kd.gates : List (Nat × Nat) → List V → List V
  | [], vars => vars
  | g :: r, vars => Kd.gates r (vars ++ [k.an (k.val vars g.1) (k.val vars g.2)])
/-- The values of a frame. -/
def Kd.vars (c : NormC) (state inputs : List V) : List V := k.gates c.gates (k.z :: (inputs ++ state))
/-- The latches' next values. -/
def Kd.next (c : NormC) (vars : List V) : List V := c.lats.map fun l => k.val vars l.1
/-- The run. -/
def Kd.run (c : NormC) : List V → List (List V) → List (List V)
  | _, [] => []
  | st, f :: r => k.vars c st f :: Kd.run c (k.next c (k.vars c st f)) r
/-- The constraints of a frame. -/
def Kd.cons (vars : List V) (a : V) (l : List Nat) : V := l.foldl (fun a x => k.an a (k.val vars x)) a
/-- What all frames so far say, and what the last one says of the bad literal. -/
def Kd.sum (c : NormC) (bad : Nat) (p : V × V) (l : List (List V)) : V × V := l.foldl (fun p vars => (k.cons vars p.1 c.cons, k.val vars (c.bads.getD bad 0))) p
def Kd.verdict (c : NormC) (bad : Nat) (st : List V) (fs : List (List V)) : V := let p := k.sum c bad (k.nt k.z, k.z) (k.run c st fs); k.an p.1 p.2

theorem Kd.gates_len : ∀ (l : List (Nat × Nat)) (vars : List V), (k.gates l vars).length = vars.length + l.length
  | [], vars => rfl
  | g :: r, vars => by rw [Kd.gates, Kd.gates_len r]; simp; omega
theorem Kd.vars_len (c : NormC) (st ins : List V) : (k.vars c st ins).length = 1 + (ins.length + st.length) + c.gates.length := by
  unfold Kd.vars; rw [Kd.gates_len]; simp; omega
theorem Kd.next_len (c : NormC) (vars : List V) : (k.next c vars).length = c.lats.length := by unfold Kd.next; simp
theorem Kd.run_len (c : NormC) : ∀ (fs : List (List V)) (st : List V), (k.run c st fs).length = fs.length
  | [], st => rfl
  | f :: r, st => by rw [Kd.run, List.length_cons, Kd.run_len c r]; rfl
theorem Kd.gates_snoc : ∀ (l : List (Nat × Nat)) (g : Nat × Nat) (vars : List V), k.gates (l ++ [g]) vars = k.gates l vars ++ [k.an (k.val (k.gates l vars) g.1) (k.val (k.gates l vars) g.2)]
  | [], g, vars => rfl
  | h :: r, g, vars => by rw [List.cons_append, Kd.gates, Kd.gates_snoc r g]; rfl
/-- The latches behind some frames. -/
def Kd.after (c : NormC) : List V → List (List V) → List V
  | st, [] => st
  | st, f :: r => Kd.after c (k.next c (k.vars c st f)) r
theorem Kd.after_snoc (c : NormC) : ∀ (l : List (List V)) (f : List V) (st : List V), k.after c st (l ++ [f]) = k.next c (k.vars c (k.after c st l) f)
  | [], f, st => rfl
  | g :: r, f, st => by rw [List.cons_append, Kd.after, Kd.after_snoc c r f]; rfl
theorem Kd.run_snoc (c : NormC) : ∀ (l : List (List V)) (f : List V) (st : List V), k.run c st (l ++ [f]) = k.run c st l ++ [k.vars c (k.after c st l) f]
  | [], f, st => rfl
  | g :: r, f, st => by rw [List.cons_append, Kd.run, Kd.run_snoc c r f]; rfl
theorem Kd.sum_snoc (c : NormC) (bad : Nat) (p : V × V) (l : List (List V)) (vars : List V) : k.sum c bad p (l ++ [vars]) = (k.cons vars (k.sum c bad p l).1 c.cons, k.val vars (c.bads.getD bad 0)) := by
  unfold Kd.sum; rw [List.foldl_append]; rfl
theorem Kd.cons_snoc (vars : List V) (a : V) (l : List Nat) (x : Nat) : k.cons vars a (l ++ [x]) = k.an (k.cons vars a l) (k.val vars x) := by
  unfold Kd.cons; rw [List.foldl_append]; rfl
theorem Kd.after_len (c : NormC) : ∀ (fs : List (List V)) (st : List V), st.length = c.lats.length → (k.after c st fs).length = c.lats.length
  | [], st, h => h
  | f :: r, st, _ => by rw [Kd.after]; exact Kd.after_len c r _ (k.next_len c _)
end

/-- Single values. -/
def k1 : Kd UInt8 := ⟨0, fun v => UInt8.ofNat (not1 v.toNat), fun a b => UInt8.ofNat (and1 a.toNat b.toNat)⟩
theorem not1_le (v : Nat) : not1 v ≤ 2 := by unfold not1; split <;> (try split) <;> omega
theorem and1_le (a b : Nat) : and1 a b ≤ 2 := by unfold and1; split <;> (try split) <;> omega
theorem bv_not (v : UInt8) : bv (k1.nt v) = .int .u8 ((not1 v.toNat : Nat) : Int) := by
  have := not1_le v.toNat
  show Value.int .u8 ((UInt8.ofNat (not1 v.toNat)).toNat : Int) = _
  rw [UInt8.toNat_ofNat', Nat.mod_eq_of_lt (by omega)]
theorem bv_and (a b : UInt8) : bv (k1.an a b) = .int .u8 ((and1 a.toNat b.toNat : Nat) : Int) := by
  have := and1_le a.toNat b.toNat
  show Value.int .u8 ((UInt8.ofNat (and1 a.toNat b.toNat)).toNat : Int) = _
  rw [UInt8.toNat_ofNat', Nat.mod_eq_of_lt (by omega)]
/-- Words. -/
def kw : Kd W2 := ⟨zeroW, notW, andW⟩
end Go.Proofs.Ytdheldhecimfnaa
