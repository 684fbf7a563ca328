/- Circuits on plain lists: validity, their raw circuits, traces that fit. -/
import Derived.Test.YtcoehbkjccfhlaaNBase
import Derived.Test.YtcoehbkjccfhlaaNSpec
import Derived.Test.YtcoehbkjccfhlaaNTrace
import Derived.Test.YtcoehbkjccfhlaaRows
import Derived.BigQuiet
import Derived.Deep.AppendLies
import Derived.Deep.QuietTactic
import Derived.Deep.RegionLaw
import Derived.Deep.RegionWith
import Derived.KernelRfl
import Derived.Laws.EntriesVeiled
import Derived.Lib.ConvBytes
import Derived.Lib.Hide
import Derived.Lib.SlBytesRow
import Derived.Lib.SmallJoins
import Derived.Shelf.Bytes.SlSmallAll
import Derived.WalkKit
import Derived.WalkLawsBesides
import Derived.WalkSpells
namespace Go.Proofs.Ytcoehbkjccfhlaa
open Go Go.RowKit

def varsN (c : NormC) : Nat := c.ins.toNat + c.lats.length + c.gates.length
def badLat2 (m : Nat) (p : Nat × Nat) : Bool := above m p.1 || decide (2 < p.2)
def badGate2 (f : Nat) (g : Nat × Nat) : Bool := decide (g.1 < g.2) || decide (2 * f ≤ g.1)
def badGates : Nat → List (Nat × Nat) → Bool
  | _, [] => false
  | f, g :: r => badGate2 f g || badGates (f + 1) r
/-- May a circuit's numbers of inputs, latches, gates be? -/
def tooMany (c : NormC) : Bool := decide (c.ins < 0) || decide (16384 - c.ins < ((c.lats.length + c.gates.length : Nat) : Int))
/-- Is a circuit valid? -/
def mayC (c : NormC) : Bool :=
  !tooMany c && (!badList (varsN c) c.outs && (!badList (varsN c) c.bads && (!badList (varsN c) c.cons &&
  (!c.lats.any (badLat2 (varsN c)) && !badGates (1 + c.ins.toNat + c.lats.length) c.gates))))

theorem badGates_at : ∀ (l : List (Nat × Nat)) (f : Nat), badGates f l = true ↔ ∃ k, k < l.length ∧ badGate2 (f + k) (l.getD k (0, 0)) = true
  | [], f => by simp [badGates]
  | g :: r, f => by
    rw [badGates, Bool.or_eq_true, badGates_at r (f + 1)]
    constructor
    · rintro (h | ⟨k, hk, h⟩)
      · exact ⟨0, by simp, by simpa using h⟩
      · exact ⟨k + 1, by simpa using hk, by rw [show f + (k + 1) = f + 1 + k by omega]; simpa using h⟩
    · rintro ⟨k, hk, h⟩
      cases k with
      | zero => exact Or.inl (by simpa using h)
      | succ k => exact Or.inr ⟨k, by simpa using hk, by rw [show f + 1 + k = f + (k + 1) by omega]; simpa using h⟩
theorem badGates_no {l : List (Nat × Nat)} {f : Nat} : badGates f l = false ↔ ∀ k, k < l.length → badGate2 (f + k) (l.getD k (0, 0)) = false := by
  constructor
  · intro h k hk
    cases hb : badGate2 (f + k) (l.getD k (0, 0)) with
    | false => rfl
    | true => have := (badGates_at l f).2 ⟨k, hk, hb⟩; rw [h] at this; cases this
  · intro h
    cases hb : badGates f l with
    | false => rfl
    | true =>
      obtain ⟨k, hk, h2⟩ := (badGates_at l f).1 hb
      rw [h k hk] at h2; cases h2

/-- A latch, a gate, as the raw circuit has them. -/
def latR (v : Nat) (p : Nat × Nat) : Tri := (2 * v, p.1, if p.2 = 2 then 2 * v else p.2)
def gateR (v : Nat) (p : Nat × Nat) : Tri := (2 * v, p.1, p.2)
def upFrom {α : Type} (f : Nat → Nat × Nat → α) (b : Nat) (l : List (Nat × Nat)) : List α := (List.range l.length).map fun i => f (b + i) (l.getD i (0, 0))
theorem upFrom_len {α : Type} (f : Nat → Nat × Nat → α) (b : Nat) (l : List (Nat × Nat)) : (upFrom f b l).length = l.length := by simp [upFrom]
theorem upFrom_at {α : Type} (f : Nat → Nat × Nat → α) (b : Nat) (l : List (Nat × Nat)) (k : Nat) (d : α) (hk : k < l.length) : (upFrom f b l).getD k d = f (b + k) (l.getD k (0, 0)) := by
  simp [upFrom, List.getD, hk]
theorem upFrom_take {α : Type} (f : Nat → Nat × Nat → α) (b : Nat) (l : List (Nat × Nat)) (k : Nat) (hk : k < l.length) : (upFrom f b l).take (k + 1) = (upFrom f b l).take k ++ [f (b + k) (l.getD k (0, 0))] := by
  rw [List.take_succ_eq_append_getElem (by rw [upFrom_len]; exact hk)]
  congr 1
  simp [upFrom]
/-- The raw circuit of a circuit. -/
def rawS (c : NormC) : RawC :=
  ⟨varsN c, (List.range c.ins.toNat).map fun i => 2 * (1 + i), upFrom latR (1 + c.ins.toNat) c.lats, c.outs, c.bads, c.cons, upFrom gateR (1 + c.ins.toNat + c.lats.length) c.gates⟩

/-- Are these so many values? -/
def valsOk (l : List UInt8) (many : Int) : Bool := decide ((l.length : Int) = many) && !l.any (fun u => decide (2 < u.toNat))
/-- Does a latch begin as it may? -/
def initOk (c : NormC) (t : TraceC) : Bool := (List.range c.lats.length).all fun i => decide ((c.lats.getD i (0, 0)).2 = 2) || decide ((t.init.getD i 0).toNat = (c.lats.getD i (0, 0)).2)
def fitsS (c : NormC) (t : TraceC) : Bool :=
  mayC c && (!(decide (t.bad < 0) || decide ((c.bads.length : Int) ≤ t.bad)) && (valsOk t.init c.lats.length && (initOk c t && (decide (1 ≤ t.frames.length) && (decide (t.frames.length ≤ 256) && t.frames.all (fun f => valsOk f c.ins))))))

structure MayC (c : NormC) : Prop where
  pos : 0 ≤ c.ins
  few : varsN c ≤ 16384
  lens : c.outs.length ≤ 1024 ∧ c.bads.length ≤ 1024 ∧ c.cons.length ≤ 1024
  outs : ∀ x ∈ c.outs, x ≤ 2 * varsN c + 1
  bads : ∀ x ∈ c.bads, x ≤ 2 * varsN c + 1
  cons : ∀ x ∈ c.cons, x ≤ 2 * varsN c + 1
  lats : ∀ p ∈ c.lats, p.1 ≤ 2 * varsN c + 1 ∧ p.2 ≤ 2
  gates : ∀ k, k < c.gates.length → (c.gates.getD k (0, 0)).2 ≤ (c.gates.getD k (0, 0)).1 ∧ (c.gates.getD k (0, 0)).1 < 2 * (1 + c.ins.toNat + c.lats.length + k)
theorem mayC_iff {c : NormC} : mayC c = true ↔ MayC c := by
  have hb : ∀ l : List Nat, badList (varsN c) l = false ↔ l.length ≤ 1024 ∧ ∀ x ∈ l, x ≤ 2 * varsN c + 1 := fun l => by
    simp only [badList, Bool.or_eq_false_iff, decide_eq_false_iff_not, List.any_eq_false, above, decide_eq_true_eq]
    exact ⟨fun h => ⟨by omega, fun x hx => by have := h.2 x hx; omega⟩, fun h => ⟨by omega, fun x hx => by have := h.2 x hx; omega⟩⟩
  have hl : c.lats.any (badLat2 (varsN c)) = false ↔ ∀ p ∈ c.lats, p.1 ≤ 2 * varsN c + 1 ∧ p.2 ≤ 2 := by
    simp only [List.any_eq_false, badLat2, above, Bool.or_eq_true, decide_eq_true_eq, not_or]
    exact ⟨fun h p hp => by have := h p hp; omega, fun h p hp => by have := h p hp; omega⟩
  have hg : badGates (1 + c.ins.toNat + c.lats.length) c.gates = false ↔ ∀ k, k < c.gates.length → (c.gates.getD k (0, 0)).2 ≤ (c.gates.getD k (0, 0)).1 ∧ (c.gates.getD k (0, 0)).1 < 2 * (1 + c.ins.toNat + c.lats.length + k) := by
    rw [badGates_no]
    simp only [badGate2, Bool.or_eq_false_iff, decide_eq_false_iff_not]
    exact ⟨fun h k hk => by have := h k hk; omega, fun h k hk => by have := h k hk; omega⟩
  have ht : tooMany c = false ↔ 0 ≤ c.ins ∧ varsN c ≤ 16384 := by
    simp only [tooMany, Bool.or_eq_false_iff, decide_eq_false_iff_not, varsN]
    omega
  unfold mayC
  simp only [Bool.and_eq_true, Bool.not_eq_true']
  rw [ht, hb, hb, hb, hl, hg]
  constructor
  · rintro ⟨⟨h1, h2⟩, ⟨h3, h4⟩, ⟨h5, h6⟩, ⟨h7, h8⟩, h9, h10⟩
    exact ⟨h1, h2, ⟨h3, h5, h7⟩, h4, h6, h8, h9, h10⟩
  · rintro ⟨h1, h2, ⟨h3, h5, h7⟩, h4, h6, h8, h9, h10⟩
    exact ⟨⟨h1, h2⟩, ⟨h3, h4⟩, ⟨h5, h6⟩, ⟨h7, h8⟩, h9, h10⟩
end Go.Proofs.Ytcoehbkjccfhlaa
