/- Three new blocks, made in whatever order: what holds then. No function of the program is named here. -/
import Derived.Test.YthedgbdnidghnaaNBase
import Derived.Test.YthedgbdnidghnaaRows
import Derived.BigQuiet
import Derived.Deep.AppendLies
import Derived.Deep.QuietTactic
import Derived.Deep.RegionHeld3
import Derived.Deep.RegionLaw
import Derived.Deep.RegionWith
import Derived.KernelRfl
import Derived.Laws.EntriesVeiled
import Derived.Lib.ConvBytes
import Derived.Lib.Hide
import Derived.Lib.SlBytesRow
import Derived.Lib.SmallJoins
import Derived.OrdersHeld
import Derived.Shelf.Bytes.SlSmallAll
import Derived.WalkKit
import Derived.WalkLawsBesides
import Derived.WalkSpells
namespace Go.Proofs.Ythedgbdnidghnaa
open Go Go.RowKit

/-- Of these, those that are not there yet. -/
def togo3 (i1 i2 i3 : Nat) (b1 b2 b3 : Bool) : List Nat := (bif b1 then [] else [i1]) ++ ((bif b2 then [] else [i2]) ++ (bif b3 then [] else [i3]))
def many3 (b1 b2 b3 : Bool) : Nat := (bif b1 then 0 else 1) + (bif b2 then 0 else 1) + (bif b3 then 0 else 1)
/-- A block that is there. -/
def There3 (X : World) (ob : Obj) (x : Option Nat) (W : World) : Prop := ∀ g, x = some g → W.heap[g]? = some ob ∧ X.heap.size ≤ g
theorem There3.alloc {X W : World} {ob o : Obj} {x : Option Nat} (h : There3 X ob x W) : There3 X ob x (W.alloc o) := fun g hg =>
  ⟨heap_below (h g hg).1 (ext_alloc W o), (h g hg).2⟩
theorem There3.new {X W : World} {ob : Obj} (hb : Below X.heap.size X W) : There3 X ob (some W.heap.size) (W.alloc ob) := fun g hg => by
  cases hg
  exact ⟨heap_alloc_new _ _, hb.size⟩
theorem allocs3 {P : Program} {md : Region.Mode} {ops : Array Oper} {Q : Exit → Act → World → Prop} {f : Nat} (X : World) (fr : Option Nat → Option Nat → Option Nat → Act) (ls : Bool → Bool → Bool → Array Bool)
    (i1 i2 i3 : Nat) (ob1 ob2 ob3 : Obj)
    (hr : ∀ b1 b2 b3, 0 < many3 b1 b2 b3 → Region.ready md ops (ls b1 b2 b3) = togo3 i1 i2 i3 b1 b2 b3)
    (s1 : ∀ b2 b3, (ls false b2 b3).setIfInBounds i1 true = ls true b2 b3) (s2 : ∀ b1 b3, (ls b1 false b3).setIfInBounds i2 true = ls b1 true b3)
    (s3 : ∀ b1 b2, (ls b1 b2 false).setIfInBounds i3 true = ls b1 b2 true)
    (o1 : ∀ x2 x3 W K, K (fr (some W.heap.size) x2 x3) (W.alloc ob1) → wpOp P ops Q i1 K (fr none x2 x3) W)
    (o2 : ∀ x1 x3 W K, K (fr x1 (some W.heap.size) x3) (W.alloc ob2) → wpOp P ops Q i2 K (fr x1 none x3) W)
    (o3 : ∀ x1 x2 W K, K (fr x1 x2 (some W.heap.size)) (W.alloc ob3) → wpOp P ops Q i3 K (fr x1 x2 none) W)
    (hend : ∀ g1 g2 g3 W, Below X.heap.size X W → There3 X ob1 (some g1) W → There3 X ob2 (some g2) W → There3 X ob3 (some g3) W →
      wpAnyH P md ops Q (fun _ => True) f (ls true true true) (fr (some g1) (some g2) (some g3)) W) :
    ∀ (n : Nat) (x1 x2 x3 : Option Nat) (W : World), many3 x1.isSome x2.isSome x3.isSome = n → Below X.heap.size X W → There3 X ob1 x1 W → There3 X ob2 x2 W → There3 X ob3 x3 W →
      wpAnyH P md ops Q (fun _ => True) (f + n) (ls x1.isSome x2.isSome x3.isSome) (fr x1 x2 x3) W := by
  intro n
  induction n with
  | zero =>
    intro x1 x2 x3 W hn hb t1 t2 t3
    cases x1 <;> cases x2 <;> cases x3 <;> simp [many3] at hn
    exact hend _ _ _ W hb t1 t2 t3
  | succ n ih =>
    intro x1 x2 x3 W hn hb t1 t2 t3
    have hb' : ∀ o, Below X.heap.size X (W.alloc o) := fun o => hb.alloc hb.size _
    have hrr := hr x1.isSome x2.isSome x3.isSome (by omega)
    refine wpAnyH_all (fuel := f + n) hrr (fun e => ?_) (fun i hi => ?_)
    · have : (togo3 i1 i2 i3 x1.isSome x2.isSome x3.isSome).length = many3 x1.isSome x2.isSome x3.isSome := by
        cases x1 <;> cases x2 <;> cases x3 <;> rfl
      rw [e] at this
      simp at this
      omega
    · have hcs : (i = i1 ∧ x1 = none) ∨ (i = i2 ∧ x2 = none) ∨ (i = i3 ∧ x3 = none) := by
        simp only [togo3, List.mem_append] at hi
        rcases hi with h | h | h
        · cases x1 with
          | none => exact .inl ⟨by simpa using h, rfl⟩
          | some g => simp at h
        · cases x2 with
          | none => exact .inr (.inl ⟨by simpa using h, rfl⟩)
          | some g => simp at h
        · cases x3 with
          | none => exact .inr (.inr ⟨by simpa using h, rfl⟩)
          | some g => simp at h
      rcases hcs with ⟨rfl, rfl⟩ | ⟨rfl, rfl⟩ | ⟨rfl, rfl⟩
      · refine o1 _ _ W _ ⟨trivial, ?_⟩
        simp only [Option.isSome_none]
        rw [s1]
        exact ih (some W.heap.size) x2 x3 _ (by simp [many3] at hn ⊢; omega) (hb' _) (.new hb) t2.alloc t3.alloc
      · refine o2 _ _ W _ ⟨trivial, ?_⟩
        simp only [Option.isSome_none]
        rw [s2]
        exact ih x1 (some W.heap.size) x3 _ (by simp [many3] at hn ⊢; omega) (hb' _) t1.alloc (.new hb) t3.alloc
      · refine o3 _ _ W _ ⟨trivial, ?_⟩
        simp only [Option.isSome_none]
        rw [s3]
        exact ih x1 x2 (some W.heap.size) _ (by simp [many3] at hn ⊢; omega) (hb' _) t1.alloc t2.alloc (.new hb)
end Go.Proofs.Ythedgbdnidghnaa
