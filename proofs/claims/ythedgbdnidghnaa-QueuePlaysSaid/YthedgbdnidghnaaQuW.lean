/- Where a queue lies: its own block, and one block each for the scores, the heap's row and the places. -/
import Derived.Test.YthedgbdnidghnaaNBase
import Derived.Test.YthedgbdnidghnaaRows
import Derived.BigQuiet
import Derived.Deep.AppendLies
import Derived.Deep.QuietTactic
import Derived.Deep.RegionLaw
import Derived.Deep.RegionWith
import Derived.KernelRfl
import Derived.Laws.EntriesVeiled
import Derived.Lib.ConvBytes
import Derived.Lib.Hide
import Derived.Lib.SlBytesRow
import Derived.Lib.SmallJoins
import Derived.Shelf.Bytes.SlSmallAll
import Derived.WalkKit
import Derived.WalkLawsBesides
import Derived.WalkSpells
namespace Go.Proofs.Ythedgbdnidghnaa
open Go Go.RowKit Go.Joins

/-- Nothing old has turned but blocks of F. -/
structure Turn (F : Nat → Prop) (w w' : World) : Prop where
  os : w'.os = w.os
  tape : w'.tape = w.tape
  output : w'.output = w.output
  size : w.heap.size ≤ w'.heap.size
  block : ∀ D, D < w.heap.size → ¬ F D → w'.heap[D]? = w.heap[D]?
section
variable {F : Nat → Prop} {w w' w2 : World}
theorem Turn.refl (F : Nat → Prop) (w : World) : Turn F w w := ⟨rfl, rfl, rfl, Nat.le_refl _, fun _ _ _ => rfl⟩
theorem Turn.trans (h : Turn F w w') (k : Turn F w' w2) : Turn F w w2 := ⟨k.os.trans h.os, k.tape.trans h.tape, k.output.trans h.output, Nat.le_trans h.size k.size, fun D h1 h2 => (k.block D (Nat.lt_of_lt_of_le h1 h.size) h2).trans (h.block D h1 h2)⟩
theorem Turn.setCell (h : Turn F w w') (p : Addr) (hp : F p.block) (u : Value) : Turn F w (w'.setCell p u) :=
  have k := (Below.refl p.block w').setCell (p := p) (Nat.le_refl _) u
  ⟨k.os.trans h.os, k.tape.trans h.tape, k.output.trans h.output, Nat.le_trans h.size k.size, fun D h1 h2 => (Below.heap_setCell w' p u D (fun e => h2 (by rw [e]; exact hp))).trans (h.block D h1 h2)⟩
theorem Turn.drewN (h : Turn F w w') (k : Nat) : Turn F w (w'.drewN k) := ⟨h.os, h.tape, h.output, h.size, h.block⟩
theorem Turn.drew (h : Turn F w w') : Turn F w w'.drew := ⟨h.os, h.tape, h.output, h.size, h.block⟩
theorem Turn.low (h : Turn F w w') {B : Nat} (hB : B ≤ w.heap.size) (hF : ∀ D, F D → B ≤ D) : Below B w w' := ⟨h.os, h.tape, h.output, h.size, fun D hD => h.block D (Nat.lt_of_lt_of_le hD hB) (fun hf => by have := hF D hf; omega)⟩
theorem Turn.at_ (h : Turn F w w') {D : Nat} {o : Obj} (hD : w.heap[D]? = some o) (hF : ¬ F D) : w'.heap[D]? = some o := (h.block D (heap_lt hD) hF).trans hD
theorem Turn.of_below (h : Below w.heap.size w w') : Turn F w w' := ⟨h.os, h.tape, h.output, h.size, fun D hD _ => h.block D hD⟩
end
/-- One of the queue's blocks. -/
def Four (q s h a D : Nat) : Prop := D = q ∨ D = s ∨ D = h ∨ D = a

def u6 (n : Nat) : Value := .int .u64 (n : Int)
def i3 (n : Nat) : Value := .int .i32 (n : Int)
def j3 (z : Int) : Value := .int .i32 z
/-- The queue's box. -/
def qbox (n st m s h a : Nat) : Array Value := #[.int .u64 (st : Int), .slice (some ⟨s, 0, none⟩) (n + 1) (n + 1), .slice (some ⟨h, 0, none⟩) m n, .slice (some ⟨a, 0, none⟩) (n + 1) (n + 1)]

/-- At blocks q, s, h, a lies a queue of n variables: its step, its scores, its heap's row, of which m wait, and the places. -/
structure QW (w : World) (q s h a n st : Nat) (sc hp : List Nat) (m : Nat) (pl : List Int) : Prop where
  qs : q ≠ s
  qh : q ≠ h
  qa : q ≠ a
  sh : s ≠ h
  sa : s ≠ a
  ha : h ≠ a
  box : w.heap[q]? = some (.cells (qbox n st m s h a) 49 (0, 0))
  rs : w.heap[s]? = some (.cells (sc.map u6).toArray 43 (0, 0))
  rh : w.heap[h]? = some (.cells (hp.map i3).toArray 21 (0, 0))
  ra : w.heap[a]? = some (.cells (pl.map j3).toArray 21 (0, 0))
  ls : sc.length = n + 1
  lh : hp.length = n
  lp : pl.length = n + 1

section
variable {w w' : World} {q s h a n st : Nat} {sc hp : List Nat} {m : Nat} {pl : List Int}
theorem QW.turn (H : QW w q s h a n st sc hp m pl) {F : Nat → Prop} (k : Turn F w w') (h1 : ¬ F q) (h2 : ¬ F s) (h3 : ¬ F h) (h4 : ¬ F a) : QW w' q s h a n st sc hp m pl :=
  ⟨H.qs, H.qh, H.qa, H.sh, H.sa, H.ha, k.at_ H.box h1, k.at_ H.rs h2, k.at_ H.rh h3, k.at_ H.ra h4, H.ls, H.lh, H.lp⟩
theorem QW.below (H : QW w q s h a n st sc hp m pl) (k : Below w.heap.size w w') : QW w' q s h a n st sc hp m pl :=
  ⟨H.qs, H.qh, H.qa, H.sh, H.sa, H.ha, heap_below H.box k, heap_below H.rs k, heap_below H.rh k, heap_below H.ra k, H.ls, H.lh, H.lp⟩
theorem QW.drewN (H : QW w q s h a n st sc hp m pl) (k : Nat) : QW (w.drewN k) q s h a n st sc hp m pl := ⟨H.qs, H.qh, H.qa, H.sh, H.sa, H.ha, H.box, H.rs, H.rh, H.ra, H.ls, H.lh, H.lp⟩
theorem QW.drew (H : QW w q s h a n st sc hp m pl) : QW w.drew q s h a n st sc hp m pl := ⟨H.qs, H.qh, H.qa, H.sh, H.sa, H.ha, H.box, H.rs, H.rh, H.ra, H.ls, H.lh, H.lp⟩

theorem set_cells {α : Type} (f : α → Value) (l : List α) (i : Nat) (x : α) : (l.map f).toArray.setIfInBounds i (f x) = ((l.set i x).map f).toArray := by
  apply Array.ext'; simp
theorem other_cell (w : World) {b i : Nat} {u : Value} {D : Nat} {o : Obj} (hD : w.heap[D]? = some o) (hne : D ≠ b) : (w.setCell ⟨b, i, none⟩ u).heap[D]? = some o := (Below.heap_setCell w ⟨b, i, none⟩ u D hne).trans hD

theorem QW.setH (H : QW w q s h a n st sc hp m pl) (i v : Nat) : QW (w.setCell ⟨h, i, none⟩ (.int .i32 (v : Int))) q s h a n st sc (hp.set i v) m pl :=
  ⟨H.qs, H.qh, H.qa, H.sh, H.sa, H.ha, other_cell w H.box H.qh, other_cell w H.rs H.sh, by rw [← set_cells]; exact block_setCell H.rh _, other_cell w H.ra (Ne.symm H.ha), H.ls, by simpa using H.lh, H.lp⟩
theorem QW.setA (H : QW w q s h a n st sc hp m pl) (i : Nat) (z : Int) : QW (w.setCell ⟨a, i, none⟩ (.int .i32 z)) q s h a n st sc hp m (pl.set i z) :=
  ⟨H.qs, H.qh, H.qa, H.sh, H.sa, H.ha, other_cell w H.box H.qa, other_cell w H.rs H.sa, other_cell w H.rh H.ha, by rw [← set_cells]; exact block_setCell H.ra _, H.ls, H.lh, by simpa using H.lp⟩
theorem QW.setS (H : QW w q s h a n st sc hp m pl) (i x : Nat) : QW (w.setCell ⟨s, i, none⟩ (.int .u64 (x : Int))) q s h a n st (sc.set i x) hp m pl :=
  ⟨H.qs, H.qh, H.qa, H.sh, H.sa, H.ha, other_cell w H.box H.qs, by rw [← set_cells]; exact block_setCell H.rs _, other_cell w H.rh (Ne.symm H.sh), other_cell w H.ra (Ne.symm H.sa), by simpa using H.ls, H.lh, H.lp⟩
theorem QW.setSt (H : QW w q s h a n st sc hp m pl) (x : Nat) : QW (w.setCell ⟨q, 0, none⟩ (.int .u64 (x : Int))) q s h a n x sc hp m pl :=
  ⟨H.qs, H.qh, H.qa, H.sh, H.sa, H.ha, by have := block_setCell H.box (i := 0) (.int .u64 (x : Int)); simpa [qbox] using this, other_cell w H.rs (Ne.symm H.qs), other_cell w H.rh (Ne.symm H.qh), other_cell w H.ra (Ne.symm H.qa), H.ls, H.lh, H.lp⟩
theorem QW.setM (H : QW w q s h a n st sc hp m pl) (x : Nat) : QW (w.setCell ⟨q, 2, none⟩ (.slice (some ⟨h, 0, none⟩) x n)) q s h a n st sc hp x pl :=
  ⟨H.qs, H.qh, H.qa, H.sh, H.sa, H.ha, by have := block_setCell H.box (i := 2) (.slice (some ⟨h, 0, none⟩) x n); simpa [qbox] using this, other_cell w H.rs (Ne.symm H.qs), other_cell w H.rh (Ne.symm H.qh), other_cell w H.ra (Ne.symm H.qa), H.ls, H.lh, H.lp⟩

theorem QW.c0 (H : QW w q s h a n st sc hp m pl) : w.cell? ⟨q, 0, none⟩ = some (.int .u64 (st : Int)) := cell_of_block H.box 0
theorem QW.c1 (H : QW w q s h a n st sc hp m pl) : w.cell? ⟨q, 1, none⟩ = some (.slice (some ⟨s, 0, none⟩) (n + 1) (n + 1)) := cell_of_block H.box 1
theorem QW.c2 (H : QW w q s h a n st sc hp m pl) : w.cell? ⟨q, 2, none⟩ = some (.slice (some ⟨h, 0, none⟩) m n) := cell_of_block H.box 2
theorem QW.c3 (H : QW w q s h a n st sc hp m pl) : w.cell? ⟨q, 3, none⟩ = some (.slice (some ⟨a, 0, none⟩) (n + 1) (n + 1)) := cell_of_block H.box 3
theorem QW.fq (H : QW w q s h a n st sc hp m pl) (i : Nat) : w.frozen? ⟨q, i, none⟩ = false := unfrozen_of_block H.box i
theorem QW.fs (H : QW w q s h a n st sc hp m pl) (i : Nat) : w.frozen? ⟨s, i, none⟩ = false := unfrozen_of_block H.rs i
theorem QW.fh (H : QW w q s h a n st sc hp m pl) (i : Nat) : w.frozen? ⟨h, i, none⟩ = false := unfrozen_of_block H.rh i
theorem QW.fa (H : QW w q s h a n st sc hp m pl) (i : Nat) : w.frozen? ⟨a, i, none⟩ = false := unfrozen_of_block H.ra i
theorem QW.cs (H : QW w q s h a n st sc hp m pl) {i : Nat} (hi : i ≤ n) : w.cell? ⟨s, i, none⟩ = some (.int .u64 (sc.getD i 0 : Nat)) := by
  have := H.ls
  rw [cell_of_block H.rs]; simp [u6, List.getD, List.getElem?_eq_getElem (show i < sc.length by omega)]
theorem QW.ch (H : QW w q s h a n st sc hp m pl) {i : Nat} (hi : i < n) : w.cell? ⟨h, i, none⟩ = some (.int .i32 (hp.getD i 0 : Nat)) := by
  have := H.lh
  rw [cell_of_block H.rh]; simp [i3, List.getD, List.getElem?_eq_getElem (show i < hp.length by omega)]
theorem QW.ca (H : QW w q s h a n st sc hp m pl) {i : Nat} (hi : i ≤ n) : w.cell? ⟨a, i, none⟩ = some (.int .i32 (pl.getD i 0)) := by
  have := H.lp
  rw [cell_of_block H.ra]; simp [j3, List.getD, List.getElem?_eq_getElem (show i < pl.length by omega)]
theorem QW.lt (H : QW w q s h a n st sc hp m pl) : ∀ D, Four q s h a D → D < w.heap.size := by
  rintro D (rfl | rfl | rfl | rfl)
  · exact heap_lt H.box
  · exact heap_lt H.rs
  · exact heap_lt H.rh
  · exact heap_lt H.ra
end
end Go.Proofs.Ythedgbdnidghnaa
