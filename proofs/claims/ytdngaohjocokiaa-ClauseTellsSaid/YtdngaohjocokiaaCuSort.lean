/- clause.ordered, by its contract. -/
import Derived.Test.YtdngaohjocokiaaLib
import Derived.Test.YtdngaohjocokiaaNBase
import Derived.Test.YtdngaohjocokiaaCuInts
import Derived.Test.YtdngaohjocokiaaCuMay
import Derived.Test.YtdngaohjocokiaaCuComp
import Derived.Test.YtdngaohjocokiaaRows
import Derived.Test.YtdngaohjocokiaaShelf
import Derived.BigQuiet
import Derived.Deep.AppendLies
import Derived.Deep.QuietTactic
import Derived.Deep.RegionLaw
import Derived.Deep.RegionWith
import Derived.KernelRfl
import Derived.Laws.EntriesVeiled
import Derived.Lib.ConvBytes
import Derived.Lib.Hide
import Derived.Lib.SlBytesRow
import Derived.Lib.SlicesCompact
import Derived.Lib.SmallJoins
import Derived.Shelf.Bytes.SlSmallAll
import Derived.Sort.Statements
import Derived.WalkKit
import Derived.WalkLawsBesides
import Derived.WalkSpells
namespace Go.Proofs.Ytdngaohjocokiaa
open Go Go.RowKit Go.Joins Go.Lib Go.Sort

/-- The cells off, off + 1, .. of block g, all of whose cells are Cur, hold c. -/
structure Seg (w : World) (g off n : Nat) (c : List Int) (Cur : Array Value) : Prop where
  blk : w.heap[g]? = some (.cells Cur 3 (0, 0))
  fit : off + n ≤ Cur.size
  len : c.length = n
  at_ : ∀ j, j < n → Cur[off + j]? = some (.int .i64 (c.getD j 0))
theorem getE_list {c : List Int} {j : Nat} (h : j < c.length) : c.toArray[j]! = c.getD j 0 := by
  rw [getElem!_pos _ j (by simpa using h)]
  simp [List.getD, List.getElem?_eq_getElem h]
theorem Seg.holds {w : World} {g off n : Nat} {c : List Int} {Cur : Array Value} (h : Seg w g off n c Cur) : Holds (Value.int .i64) w g off c.toArray := fun j hj => by
  have hj' : j < n := by rw [← h.len]; simpa using hj
  rw [getE_list (by rw [h.len]; exact hj')]
  exact ⟨(cell_of_block h.blk _).trans (h.at_ j hj'), unfrozen_of_block h.blk _⟩
theorem Seg.sees {w : World} {g off n cap : Nat} {c : List Int} {Cur : Array Value} (h : Seg w g off n c Cur) (hc : n ≤ cap) : Sees w (some ⟨g, off, none⟩) n cap (zvs c) :=
  ⟨by rw [zvs_len, h.len], hc, (fun e => by cases e), fun _ => ⟨g, off, rfl, heap_lt h.blk, fun j hj => by
    rw [cell_of_block h.blk, h.at_ j hj]
    simp [zvs, List.getD, List.getElem?_eq_getElem (show j < c.length by rw [h.len]; exact hj)]⟩⟩
/-- The block's cells behind another writing of the row: those outside are as they were. -/
def Kept (off n : Nat) (Cur Cur' : Array Value) : Prop := Cur'.size = Cur.size ∧ ∀ j, j < off ∨ off + n ≤ j → Cur'[j]? = Cur[j]?
theorem putCells_at (off : Nat) (d : Array Int) (C : Array Value) (j : Nat) (hj : j < d.size) (hf : off + d.size ≤ C.size) : (putCells (Value.int .i64) off d C)[off + j]? = some (.int .i64 d[j]!) := by
  simp only [putCells, Array.getElem?_mapIdx]
  rw [Array.getElem?_eq_getElem (by omega), Option.map_some, if_pos ⟨by omega, by omega⟩, show off + j - off = j by omega]
theorem putCells_kept (off : Nat) (d : Array Int) (C : Array Value) : Kept off d.size C (putCells (Value.int .i64) off d C) := by
  refine ⟨by simp [putCells], fun j hj => ?_⟩
  simp only [putCells, Array.getElem?_mapIdx]
  cases C[j]? with
  | none => rfl
  | some v => rw [Option.map_some, if_neg (by omega)]
theorem Kept.trans {off n : Nat} {A B C : Array Value} (h : Kept off n A B) (h' : Kept off n B C) : Kept off n A C := ⟨h'.1.trans h.1, fun j hj => (h'.2 j hj).trans (h.2 j hj)⟩
/-- Another row is written over one of the same length; new blocks may come. -/
theorem Seg.put {w : World} {g off n : Nat} {c : List Int} {Cur : Array Value} (h : Seg w g off n c Cur) (d : Array Int) (hd : d.size = n) (q : Nat) (os : Array Obj) :
    Seg (sortWorld (Value.int .i64) w g off q d os) g off n d.toList (putCells (Value.int .i64) off d Cur) ∧ Kept off n Cur (putCells (Value.int .i64) off d Cur) ∧ w.grownBy (sortWorld (Value.int .i64) w g off q d os) (some g) := by
  have hlt := heap_lt h.blk
  have hk := putCells_kept off d Cur
  rw [hd] at hk
  refine ⟨⟨?_, by rw [hk.1]; exact h.fit, by simpa using hd, fun j hj => ?_⟩, hk, ⟨rfl, rfl, rfl, ?_, fun k hk' hne => ?_⟩⟩
  · unfold sortWorld
    rw [heap_grow_old _ _ (by rw [size_putRow]; exact hlt)]
    simp [putRow, mapBlock, Array.getElem?_modify, h.blk, onCells]
  · rw [putCells_at off d Cur j (by omega) (by rw [hd]; exact h.fit)]
    congr 2
    rw [getElem!_pos d j (by omega)]
    simp [List.getD, hd, hj]
  · simp [sortWorld]
  · unfold sortWorld
    rw [heap_grow_old _ _ (by rw [size_putRow]; exact hk')]
    have : g ≠ k := fun e => hne (by rw [e])
    simp [putRow, mapBlock, Array.getElem?_modify, this]

theorem cmp_any (x y : Int) (W : World) : Calls Try.prog 45 #[.int .i64 x, .int .i64 y] W fun e w' => e = .returned (.int .i64 (cmpV x y)) ∧ ∃ q, w' = W.drewN q := by
  have HX := Lib.hid (variable_any x)
  have HY := Lib.hid (variable_any y)
  have HC := Lib.hid (fun a b W => Try.cmp_Compare_int a b W)
  unfold cmpV
  obtain ⟨a, ha⟩ : ∃ a, a = varW x := ⟨_, rfl⟩
  obtain ⟨b, hb⟩ : ∃ b, b = varW y := ⟨_, rfl⟩
  rw [← ha] at HX ⊢
  rw [← hb] at HY ⊢
  clear ha hb
  obtain ⟨r, hr⟩ : ∃ r, r = Lib.compareInt a b := ⟨_, rfl⟩
  have HCC := HC.out a b W
  rw [← hr] at HCC ⊢
  have HC2 := Lib.hid HCC
  clear hr HCC
  go_enter Try.func45, Try.ntmps45
  go_wp2_with (first
    | (go_at_call 46; refine HC2.out.mono ?_; rintro e w' ⟨rfl, rfl⟩)
    | (go_at_call 32; refine (HX.out _).mono ?_; rintro e w' ⟨rfl, rfl⟩)
    | (go_at_call 32; refine (HY.out _).mono ?_; rintro e w' ⟨rfl, rfl⟩))
  go_ret
  exact ⟨rfl, 0, rfl⟩
end Go.Proofs.Ytdngaohjocokiaa
