/- Five new blocks, made in whatever order: what holds then. No function of the program is named here. -/
import Derived.Test.YtdngaohjocokiaaNBase
import Derived.Test.YtdngaohjocokiaaRows
import Derived.BigQuiet
import Derived.Deep.AppendLies
import Derived.Deep.QuietTactic
import Derived.Deep.RegionHeld3
import Derived.Deep.RegionLaw
import Derived.Deep.RegionWith
import Derived.KernelRfl
import Derived.Laws.EntriesVeiled
import Derived.Lib.ConvBytes
import Derived.Lib.Hide
import Derived.Lib.SlBytesRow
import Derived.Lib.SmallJoins
import Derived.OrdersHeld
import Derived.Shelf.Bytes.SlSmallAll
import Derived.WalkKit
import Derived.WalkLawsBesides
import Derived.WalkSpells
namespace Go.Proofs.Ytdngaohjocokiaa
open Go Go.RowKit

/-- Of these, those that are not there yet. -/
def togo (i1 i2 i3 i4 i5 : Nat) (b1 b2 b3 b4 b5 : Bool) : List Nat :=
  (bif b1 then [] else [i1]) ++ ((bif b2 then [] else [i2]) ++ ((bif b3 then [] else [i3]) ++ ((bif b4 then [] else [i4]) ++ (bif b5 then [] else [i5]))))
def many5 (b1 b2 b3 b4 b5 : Bool) : Nat := (bif b1 then 0 else 1) + (bif b2 then 0 else 1) + (bif b3 then 0 else 1) + (bif b4 then 0 else 1) + (bif b5 then 0 else 1)
/-- A block that is there. -/
def There (X : World) (ob : Obj) (x : Option Nat) (W : World) : Prop := ∀ g, x = some g → W.heap[g]? = some ob ∧ X.heap.size ≤ g
theorem There.alloc {X W : World} {ob o : Obj} {x : Option Nat} (h : There X ob x W) : There X ob x (W.alloc o) := fun g hg =>
  ⟨heap_below (h g hg).1 (ext_alloc W o), (h g hg).2⟩
theorem There.new {X W : World} {ob : Obj} (hb : Below X.heap.size X W) : There X ob (some W.heap.size) (W.alloc ob) := fun g hg => by
  cases hg
  exact ⟨heap_alloc_new _ _, hb.size⟩
theorem allocs5 {P : Program} {md : Region.Mode} {ops : Array Oper} {Q : Exit → Act → World → Prop} {f : Nat} (X : World) (fr : Option Nat → Option Nat → Option Nat → Option Nat → Option Nat → Act) (ls : Bool → Bool → Bool → Bool → Bool → Array Bool)
    (i1 i2 i3 i4 i5 : Nat) (ob1 ob2 ob3 ob4 ob5 : Obj)
    (hr : ∀ b1 b2 b3 b4 b5, 0 < many5 b1 b2 b3 b4 b5 → Region.ready md ops (ls b1 b2 b3 b4 b5) = togo i1 i2 i3 i4 i5 b1 b2 b3 b4 b5)
    (s1 : ∀ b2 b3 b4 b5, (ls false b2 b3 b4 b5).setIfInBounds i1 true = ls true b2 b3 b4 b5) (s2 : ∀ b1 b3 b4 b5, (ls b1 false b3 b4 b5).setIfInBounds i2 true = ls b1 true b3 b4 b5)
    (s3 : ∀ b1 b2 b4 b5, (ls b1 b2 false b4 b5).setIfInBounds i3 true = ls b1 b2 true b4 b5) (s4 : ∀ b1 b2 b3 b5, (ls b1 b2 b3 false b5).setIfInBounds i4 true = ls b1 b2 b3 true b5)
    (s5 : ∀ b1 b2 b3 b4, (ls b1 b2 b3 b4 false).setIfInBounds i5 true = ls b1 b2 b3 b4 true)
    (o1 : ∀ x2 x3 x4 x5 W K, K (fr (some W.heap.size) x2 x3 x4 x5) (W.alloc ob1) → wpOp P ops Q i1 K (fr none x2 x3 x4 x5) W)
    (o2 : ∀ x1 x3 x4 x5 W K, K (fr x1 (some W.heap.size) x3 x4 x5) (W.alloc ob2) → wpOp P ops Q i2 K (fr x1 none x3 x4 x5) W)
    (o3 : ∀ x1 x2 x4 x5 W K, K (fr x1 x2 (some W.heap.size) x4 x5) (W.alloc ob3) → wpOp P ops Q i3 K (fr x1 x2 none x4 x5) W)
    (o4 : ∀ x1 x2 x3 x5 W K, K (fr x1 x2 x3 (some W.heap.size) x5) (W.alloc ob4) → wpOp P ops Q i4 K (fr x1 x2 x3 none x5) W)
    (o5 : ∀ x1 x2 x3 x4 W K, K (fr x1 x2 x3 x4 (some W.heap.size)) (W.alloc ob5) → wpOp P ops Q i5 K (fr x1 x2 x3 x4 none) W)
    (hend : ∀ g1 g2 g3 g4 g5 W, Below X.heap.size X W → There X ob1 (some g1) W → There X ob2 (some g2) W → There X ob3 (some g3) W → There X ob4 (some g4) W → There X ob5 (some g5) W →
      wpAnyH P md ops Q (fun _ => True) f (ls true true true true true) (fr (some g1) (some g2) (some g3) (some g4) (some g5)) W) :
    ∀ (n : Nat) (x1 x2 x3 x4 x5 : Option Nat) (W : World), many5 x1.isSome x2.isSome x3.isSome x4.isSome x5.isSome = n → Below X.heap.size X W → There X ob1 x1 W → There X ob2 x2 W → There X ob3 x3 W → There X ob4 x4 W → There X ob5 x5 W →
      wpAnyH P md ops Q (fun _ => True) (f + n) (ls x1.isSome x2.isSome x3.isSome x4.isSome x5.isSome) (fr x1 x2 x3 x4 x5) W := by
  intro n
  induction n with
  | zero =>
    intro x1 x2 x3 x4 x5 W hn hb t1 t2 t3 t4 t5
    cases x1 <;> cases x2 <;> cases x3 <;> cases x4 <;> cases x5 <;> simp [many5] at hn
    exact hend _ _ _ _ _ W hb t1 t2 t3 t4 t5
  | succ n ih =>
    intro x1 x2 x3 x4 x5 W hn hb t1 t2 t3 t4 t5
    have hb' : ∀ o, Below X.heap.size X (W.alloc o) := fun o => hb.alloc hb.size _
    have hrr := hr x1.isSome x2.isSome x3.isSome x4.isSome x5.isSome (by omega)
    refine wpAnyH_all (fuel := f + n) hrr (fun e => ?_) (fun i hi => ?_)
    · have : (togo i1 i2 i3 i4 i5 x1.isSome x2.isSome x3.isSome x4.isSome x5.isSome).length = many5 x1.isSome x2.isSome x3.isSome x4.isSome x5.isSome := by
        cases x1 <;> cases x2 <;> cases x3 <;> cases x4 <;> cases x5 <;> rfl
      rw [e] at this
      simp at this
      omega
    · have hcs : (i = i1 ∧ x1 = none) ∨ (i = i2 ∧ x2 = none) ∨ (i = i3 ∧ x3 = none) ∨ (i = i4 ∧ x4 = none) ∨ (i = i5 ∧ x5 = none) := by
        simp only [togo, List.mem_append] at hi
        rcases hi with h | h | h | h | h
        · cases x1 with
          | none => exact .inl ⟨by simpa using h, rfl⟩
          | some g => simp at h
        · cases x2 with
          | none => exact .inr (.inl ⟨by simpa using h, rfl⟩)
          | some g => simp at h
        · cases x3 with
          | none => exact .inr (.inr (.inl ⟨by simpa using h, rfl⟩))
          | some g => simp at h
        · cases x4 with
          | none => exact .inr (.inr (.inr (.inl ⟨by simpa using h, rfl⟩)))
          | some g => simp at h
        · cases x5 with
          | none => exact .inr (.inr (.inr (.inr ⟨by simpa using h, rfl⟩)))
          | some g => simp at h
      rcases hcs with ⟨rfl, rfl⟩ | ⟨rfl, rfl⟩ | ⟨rfl, rfl⟩ | ⟨rfl, rfl⟩ | ⟨rfl, rfl⟩
      · refine o1 _ _ _ _ W _ ⟨trivial, ?_⟩
        simp only [Option.isSome_none]
        rw [s1]
        exact ih (some W.heap.size) x2 x3 x4 x5 _ (by simp [many5] at hn ⊢; omega) (hb' _) (.new hb) t2.alloc t3.alloc t4.alloc t5.alloc
      · refine o2 _ _ _ _ W _ ⟨trivial, ?_⟩
        simp only [Option.isSome_none]
        rw [s2]
        exact ih x1 (some W.heap.size) x3 x4 x5 _ (by simp [many5] at hn ⊢; omega) (hb' _) t1.alloc (.new hb) t3.alloc t4.alloc t5.alloc
      · refine o3 _ _ _ _ W _ ⟨trivial, ?_⟩
        simp only [Option.isSome_none]
        rw [s3]
        exact ih x1 x2 (some W.heap.size) x4 x5 _ (by simp [many5] at hn ⊢; omega) (hb' _) t1.alloc t2.alloc (.new hb) t4.alloc t5.alloc
      · refine o4 _ _ _ _ W _ ⟨trivial, ?_⟩
        simp only [Option.isSome_none]
        rw [s4]
        exact ih x1 x2 x3 (some W.heap.size) x5 _ (by simp [many5] at hn ⊢; omega) (hb' _) t1.alloc t2.alloc t3.alloc (.new hb) t5.alloc
      · refine o5 _ _ _ _ W _ ⟨trivial, ?_⟩
        simp only [Option.isSome_none]
        rw [s5]
        exact ih x1 x2 x3 x4 (some W.heap.size) _ (by simp [many5] at hn ⊢; omega) (hb' _) t1.alloc t2.alloc t3.alloc t4.alloc (.new hb)
end Go.Proofs.Ytdngaohjocokiaa
