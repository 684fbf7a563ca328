/- The law's own examples hold. -/
import Derived.Test.YtgplkpfdbiapaaaGreatDoorLib
import Derived.Test.YtgplkpfdbiapaaaGreatDoorRows
import Derived.BigQuiet
import Derived.Deep.QuietTactic
import Derived.Deep.RegionWith
import Derived.Lib.ConvBytes
import Derived.Lib.Hide
import Derived.Lib.SlBytesRow
import Derived.Lib.SmallJoins
import Derived.Shelf.Bytes.SlSmallAll
import Derived.WalkKit
import Derived.WalkLawsBesides
import Derived.WalkSpells
import Derived.Test.YtgplkpfdbiapaaaGreatDoorNBase
import Derived.Test.YtgplkpfdbiapaaaGreatDoorGA3
import Derived.Test.YtgplkpfdbiapaaaGreatDoorNHeap
import Derived.Test.YtgplkpfdbiapaaaGreatDoorGG
import Derived.Test.YtgplkpfdbiapaaaGreatDoorVdHold
import Derived.Test.YtgplkpfdbiapaaaGreatDoorShelf
import Derived.Deep.AppendLies
import Derived.Deep.CutRange
import Derived.Deep.RegionHeld3
import Derived.Deep.RegionLaw
import Derived.KernelRfl
import Derived.Laws.CopyOwn
import Derived.Laws.EntriesVeiled
import Derived.Laws.IdiomCopy
import Derived.Laws.OwnMore
import Derived.Laws.Tables
import Derived.Lib.AppendStr
import Derived.Lib.AppendZeros
import Derived.Lib.BufferWrite
import Derived.Lib.ItoaNum
import Derived.Lib.MakeNoZero
import Derived.Lib.ParseIntBCases
import Derived.Maps.AppendAt
import Derived.Maps.Own
import Derived.Maps.OwnOps
import Derived.Maps.OwnSet
import Derived.OrdersHeld
import Derived.Shelf.Pu.Lower
import Derived.Shelf.Pu.ToError
import Derived.Shelf.Pu.ToErrorRange
import Derived.Test.YtgplkpfdbiapaaaGreatDoorOwn
import Derived.Test.YtgplkpfdbiapaaaGreatDoorGA1
import Derived.Test.YtgplkpfdbiapaaaGreatDoorGA4
import Derived.Test.YtgplkpfdbiapaaaGreatDoorGB
import Derived.Test.YtgplkpfdbiapaaaGreatDoorGI2
import Derived.Test.YtgplkpfdbiapaaaGreatDoorVdWrite
import Derived.Test.YtgplkpfdbiapaaaGreatDoorGM
import Derived.Test.YtgplkpfdbiapaaaGreatDoorGK
import Derived.Test.YtgplkpfdbiapaaaGreatDoorVdRead
import Derived.Test.YtgplkpfdbiapaaaGreatDoorShelf2
import Derived.BigRegion
import Derived.Laws.Bits64b
import Derived.Laws.BitsAllLaws
import Derived.Laws.BitsLemmas
import Derived.Laws.Runes
import Derived.Lib.AppendIntMem
import Derived.Lib.DecodeN
import Derived.Lib.Index
import Derived.Lib.IndexEntry
import Derived.Lib.Join
import Derived.LoopIn
import Derived.LoopNIn
import Derived.OrdersIn
import Derived.OwnWalkIn
import Derived.RangeFuncBox
import Derived.RangeFuncCalls
import Derived.RangeFuncLeaves
import Derived.RangeFuncNested
import Derived.RangeFuncWrites
import Derived.Shelf.Abstract
import Derived.Shelf.RegionOpen
import Derived.Shelf.Spec.DecodeRune
import Derived.Shelf.Unicode.DecodeSlow
import Derived.Sort.CutIn
import Derived.Stop.RegionWithIn
import Derived.TacticsInMore
/- inquestref00.Bytes, by its contract. -/
namespace Go.Proofs.YtgplkpfdbiapaaaGreatDoor
open Go Go.RowKit

set_option maxRecDepth 100000 in
set_option maxHeartbeats 400000 in
theorem bytes_any (bs cs : List UInt8) (a a' : Option Addr) (n c n' c' : Nat) (w : World) (h : Sees w a n c (bs.map bv)) (h' : Sees w a' n' c' (cs.map bv)) :
    Calls Tryz.prog 23 #[.slice a n c, .slice a' n' c'] w fun e w' => e = .returned (.bool (bs == cs)) ∧ w = w' := by
  have q1 := h.str (P := Tryz.prog) 27 5 9 Tryz.underlying27 Tryz.underlying5 Tryz.underlying9
  have q2 := h'.str (P := Tryz.prog) 27 5 9 Tryz.underlying27 Tryz.underlying5 Tryz.underlying9
  clear h h'
  go_enter Tryz.func23, Tryz.ntmps23
  go_wp2
  go_ret
  exact ⟨by simp [str], rfl⟩
end Go.Proofs.YtgplkpfdbiapaaaGreatDoor
/- inquestlaw10.same of the same waves. -/
namespace Go.Proofs.YtgplkpfdbiapaaaGreatDoor
open Go Go.RowKit Go.Joins Go.Shelf Go.Maps

theorem wave_cells {W : World} {base n c k : Nat} {a : Option Addr} {ss : List Slc} {L : List (List UInt8 × List UInt8)} (h : OwnW W base (.slice a n c) ss L) (hk : k < L.length) :
    ∃ V x m y, a = some ⟨V, 0, none⟩ ∧ W.cell? ⟨V, k * 2, none⟩ = some (.string (str (L.getD k ([], [])).1)) ∧ W.cell? ⟨V, k * 2 + 1, none⟩ = some (.slice x m y) ∧ Sees W x m y ((L.getD k ([], [])).2.map bv) := by
  obtain ⟨V, cur, rfl, _, _, hV, hcur⟩ := h.block (by omega)
  have hat := wcs2_at L ss k h.lens hk
  obtain ⟨a1, c1, e1, _, hs⟩ := Sees.owned (h.rows k hk)
  refine ⟨V, a1, (L.getD k ([], [])).2.length, c1, rfl, ?_, ?_, hs⟩
  · rw [cell_of_block hV, Nat.mul_comm]; exact hcur _ _ hat.1
  · rw [cell_of_block hV, Nat.mul_comm, ← e1]; exact hcur _ _ hat.2
set_option maxRecDepth 100000 in
set_option maxHeartbeats 600000 in
theorem same_yes (W : World) (b1 b2 n n' c c' : Nat) (a a' : Option Addr) (ss ss' : List Slc) (L : List (List UInt8 × List UInt8)) (h : OwnW W b1 (.slice a n c) ss L) (h' : OwnW W b2 (.slice a' n' c') ss' L) (hn : n = L.length) (hn' : n' = L.length) (hL : L.length ≤ 1000000) :
    Calls Tryz.prog 14 #[.slice a n c, .slice a' n' c'] W fun e w' => e = .returned (.bool true) ∧ Below W.heap.size W w' := by
  obtain rfl : n' = n := by omega
  clear hn'
  have H := Lib.hid h
  have H' := Lib.hid h'
  have HN := Lib.hid hn
  have hnn : n' ≤ 1000000 := by omega
  clear h h' hn hL
  go_enter Tryz.func14, Tryz.ntmps14
  go_wp2
  go_loopg [13] n' (fun g i wr => ∃ k : Nat, k + g = n' ∧ i = .int .i64 k ∧ Hid (Below W.heap.size W wr))
  case atStart => exact ⟨0, by omega, rfl, Below.refl _ _⟩
  case round =>
    obtain ⟨k, hk, rfl, hB⟩ := hrel
    have HB := Lib.hid hB.out
    clear hB
    cases gk with
    | zero =>
      obtain rfl : k = n' := by omega
      go_wp2
      go_ret
      exact ⟨rfl, HB.out⟩
    | succ g =>
      have hkn : k < n' := by omega
      have hkz : (k : Int) < (n' : Int) := by omega
      obtain ⟨V, x, m, y, rfl, c1, c2, s1⟩ := wave_cells (H.out.below HB.out) (show k < L.length by rw [← HN.out]; exact hkn)
      obtain ⟨V', x', m', y', rfl, c1', c2', s1'⟩ := wave_cells (H'.out.below HB.out) (show k < L.length by rw [← HN.out]; exact hkn)
      obtain ⟨nm, hnm⟩ : ∃ nm, nm = str (L.getD k ([], [])).1 := ⟨_, rfl⟩
      rw [← hnm] at c1 c1'
      have HBY : Hid (∀ nn, Calls Tryz.prog 23 #[.slice x m y, .slice x' m' y'] (wr.drewN nn) fun e w' => e = .returned (.bool true) ∧ w' = wr.drewN nn) := fun nn => by
        have hbd := bytes_any (L.getD k ([], [])).2 (L.getD k ([], [])).2 x x' m y m' y' (wr.drewN nn) (s1.below (ext_drewN _ _)) (s1'.below (ext_drewN _ _))
        rw [beq_self_eq_true] at hbd
        exact hbd.mono fun e w' ⟨h1, h2⟩ => ⟨h1, h2.symm⟩
      have W1 : IntKind.i64.wrap ((k : Int) + 1) = ((k + 1 : Nat) : Int) := by rw [IntWalk.i64_in _ (by omega)]; omega
      have hself : (nm.toList == nm.toList) = true := beq_self_eq_true _
      have HBD : Hid (∀ nn, Below W.heap.size W (wr.drewN nn)) := fun nn => HB.out.trans ((ext_drewN wr nn).mono HB.out.size)
      clear s1 s1' hnm
      go_upto_region 6 with fail
      go_quiet (first | (go_at_call 23; refine Calls.quiet_of_same (HBY.out _)))
      go_wp2
      go_roundg g
      case measure => omega
      case rel => exact ⟨k + 1, by omega, rfl, HBD.out _⟩
end Go.Proofs.YtgplkpfdbiapaaaGreatDoor
/- inquestref00.Numbers, by its contract. -/
namespace Go.Proofs.YtgplkpfdbiapaaaGreatDoor
open Go Go.RowKit Go.Joins

/-- What holds at a round's head: k numbers were the same; both slices are behind them. -/
def EqInv (w : World) (xs ys : List Nat) (n : Nat) (a b : Value) (k : Nat) : Prop :=
  ∃ a1 c1 a2 c2, a = .slice a1 (n - k) c1 ∧ b = .slice a2 (n - k) c2 ∧ Sees w a1 (n - k) c1 ((xs.drop k).map nv32) ∧ Sees w a2 (n - k) c2 ((ys.drop k).map nv32) ∧ xs.take k = ys.take k

/-- A slice's length. -/
def slenQ : Value → Nat | .slice _ m _ => m | _ => 0

theorem eq_step {xs ys : List Nat} {k : Nat} (h : xs.take k = ys.take k) (hk : k < xs.length) (hk' : k < ys.length) (hx : xs.getD k 0 = ys.getD k 0) : xs.take (k + 1) = ys.take (k + 1) := by
  rw [List.take_succ_eq_append_getElem hk, List.take_succ_eq_append_getElem hk', h]
  have : xs[k] = ys[k] := by simpa [List.getD, List.getElem?_eq_getElem hk, List.getElem?_eq_getElem hk'] using hx
  rw [this]

set_option maxRecDepth 100000 in
set_option maxHeartbeats 1600000 in
theorem eqnums_any (xs ys : List Nat) (a a' : Option Addr) (n c n' c' : Nat) (w : World) (h : Sees w a n c (xs.map nv32)) (h' : Sees w a' n' c' (ys.map nv32)) (hn : n ≤ 1000000000) :
    Calls Tryz.prog 13 #[.slice a n c, .slice a' n' c'] w fun e w' => e = .returned (.bool (xs == ys)) ∧ ∃ q, w' = w.drewN q := by
  have hl : xs.length = n := by have := h.len; simpa using this
  have hl' : ys.length = n' := by have := h'.len; simpa using this
  by_cases hne : n = n'
  · subst hne
    have H := Lib.hid h
    have H' := Lib.hid h'
    have HL := Lib.hid hl
    have HL' := Lib.hid hl'
    clear h h' hl hl'
    go_enter Tryz.func13, Tryz.ntmps13
    go_wp2
    go_loopw [0, 1] (fun a b wr => ∃ k q : Nat, k ≤ n ∧ Hid (wr = w.drewN q) ∧ Hid (EqInv w xs ys n a b k) ∧ ∃ a1 c1 a2 c2, a = .slice a1 (n - k) c1 ∧ b = .slice a2 (n - k) c2)
      (fun a _ _ => slenQ a)
    case atStart => exact ⟨0, 0, Nat.zero_le _, rfl, ⟨_, _, _, _, rfl, rfl, H.out, H'.out, rfl⟩, _, _, _, _, rfl, rfl⟩
    case round =>
      obtain ⟨k, q, hk, hw, hinv, a1, c1, a2, c2, rfl, rfl⟩ := hrel
      obtain ⟨_, _, _, _, e1, e2, s1, s2, ht⟩ := hinv.out
      cases e1; cases e2
      have hw' := hw.out
      subst hw'
      clear hw hinv
      by_cases hlt : k < n
      · obtain ⟨b1, o1, rfl, _⟩ := s1.addr (by omega)
        obtain ⟨b2, o2, rfl, _⟩ := s2.addr (by omega)
        obtain ⟨x, hx⟩ : ∃ x : Nat, x = xs.getD k 0 := ⟨_, rfl⟩
        obtain ⟨y, hy⟩ : ∃ y : Nat, y = ys.getD k 0 := ⟨_, rfl⟩
        have hc1 : w.cell? ⟨b1, o1, none⟩ = some (.int .u32 (x : Int)) := by
          have := s1.num 0 (by omega)
          rw [hx, ← show (xs.drop k).getD 0 0 = xs.getD k 0 by simp [List.getD]]
          exact this
        have hc2 : w.cell? ⟨b2, o2, none⟩ = some (.int .u32 (y : Int)) := by
          have := s2.num 0 (by omega)
          rw [hy, ← show (ys.drop k).getD 0 0 = ys.getD k 0 by simp [List.getD]]
          exact this
        obtain ⟨a3, ec3, see3⟩ := s1.cut 1 (n - k) (by omega) (Nat.le_refl _)
        obtain ⟨a4, ec4, see4⟩ := s2.cut 1 (n - k) (by omega) (Nat.le_refl _)
        have q1 := fun W => (run_from (P := Tryz.prog) Tryz.underlying24 size_u32 W (some ⟨b1, o1, none⟩) (n - k) c1 1 1 rfl (by omega)).trans (congrArg (fun v => Result.ok v W) ec3)
        have q2 := fun W => (run_from (P := Tryz.prog) Tryz.underlying24 size_u32 W (some ⟨b2, o2, none⟩) (n - k) c2 1 1 rfl (by omega)).trans (congrArg (fun v => Result.ok v W) ec4)
        have S3 : Hid (Sees w a3 (n - (k + 1)) (c1 - 1) ((xs.drop (k + 1)).map nv32)) := by
          have e : (List.map nv32 (xs.drop k)).take (n - k) = List.map nv32 (xs.drop k) := List.take_of_length_le (by rw [s1.len]; exact Nat.le_refl _)
          rw [e, ← List.map_drop, List.drop_drop] at see3
          exact see3
        have S4 : Hid (Sees w a4 (n - (k + 1)) (c2 - 1) ((ys.drop (k + 1)).map nv32)) := by
          have e : (List.map nv32 (ys.drop k)).take (n - k) = List.map nv32 (ys.drop k) := List.take_of_length_le (by rw [s2.len]; exact Nat.le_refl _)
          rw [e, ← List.map_drop, List.drop_drop] at see4
          exact see4
        have HX := Lib.hid hx
        have HY := Lib.hid hy
        have HT := Lib.hid ht
        have hpos : (0 : Int) < ((n - k : Nat) : Int) := by omega
        clear ec3 ec4 see3 see4 hx hy ht s1 s2
        by_cases hxy : x = y
        · subst hxy
          go_wp2
          go_quiet (fail)
          go_wp2
          go_quiet (fail)
          go_wp2
          go_roundw
          case rel =>
            refine ⟨k + 1, _, by omega, (by unfold Hid; rw [World.drewN_drewN, World.drewN_drewN]), ⟨_, _, _, _, rfl, rfl, S3.out, S4.out, eq_step HT.out (by rw [HL.out]; exact hlt) (by rw [HL'.out]; exact hlt) (by rw [← HX.out, HY.out])⟩, _, _, _, _, rfl, rfl⟩
          case measure => simp [slenQ]; omega
        · have hn1 : ((x : Int) != (y : Int)) = true := by simp; omega
          have hn2 : ((x : Int) == (y : Int)) = false := by simp; omega
          have he : (xs == ys) = false := by
            rw [beq_eq_false_iff_ne]
            intro e
            apply hxy
            rw [HX.out, HY.out, e]
          have HE := Lib.hid he
          clear he
          go_wp2
          go_quiet (fail)
          go_wp2
          go_ret
          refine ⟨by rw [HE.out]; rfl, ?_⟩
          simp
          exact ⟨_, rfl⟩
      · have hkn : k = n := by omega
        subst hkn
        have he : (xs == ys) = true := by
          rw [List.take_of_length_le (by rw [HL.out]; exact Nat.le_refl _), List.take_of_length_le (by rw [HL'.out]; exact Nat.le_refl _)] at ht
          rw [ht]; simp
        have HE := Lib.hid he
        clear he ht s1 s2
        go_wp2
        go_ret
        exact ⟨by rw [HE.out]; rfl, _, rfl⟩
  · have hb : ((n : Int) != (n' : Int)) = true := by simp; omega
    have hb' : ((n : Int) == (n' : Int)) = false := by simp; omega
    have he : (xs == ys) = false := by
      rw [beq_eq_false_iff_ne]
      intro e
      subst e
      omega
    have HE := Lib.hid he
    clear h h' he hl hl'
    go_enter Tryz.func13, Tryz.ntmps13
    go_wp2
    go_ret
    exact ⟨by rw [HE.out]; rfl, 0, rfl⟩
end Go.Proofs.YtgplkpfdbiapaaaGreatDoor
/- A block read as a slice. -/
namespace Go.Proofs.YtgplkpfdbiapaaaGreatDoor
open Go Go.RowKit Go.Joins
theorem sees_cells {w : World} {g : Nat} {C : Array Value} {t : TypeId} {fr : Nat × Nat} (h : w.heap[g]? = some (.cells C t fr)) (xs : List Value) (n : Nat) (hC : C = xs.toArray) (hn : xs.length = n) : Sees w (some ⟨g, 0, none⟩) n n xs := by
  subst hC
  refine ⟨hn, Nat.le_refl _, (fun e => by cases e), fun _ => ⟨g, 0, rfl, heap_lt h, fun j hj => ?_⟩⟩
  rw [cell_of_block h]
  simp
end Go.Proofs.YtgplkpfdbiapaaaGreatDoor
namespace Go.Proofs.YtgplkpfdbiapaaaGreatDoor
open Go Go.RowKit Go.Joins Go.Shelf Go.Maps

set_option maxRecDepth 100000
/-- What is left of a slice behind its first k. -/
theorem Sees.behind {w : World} {b o n c : Nat} {xs : List Value} (h : Sees w (some ⟨b, o, none⟩) n c xs) (k : Nat) (hk : k ≤ n) : Sees w (some ⟨b, o + k, none⟩) (n - k) (c - k) (xs.drop k) := by
  obtain ⟨h1, h2, h3, h4⟩ := h
  refine ⟨by simp [h1], by omega, (fun e => by cases e), fun h0 => ?_⟩
  obtain ⟨b', o', e, h5, h6⟩ := h4 (by omega)
  cases e
  refine ⟨b, o + k, rfl, h5, fun j hj => ?_⟩
  rw [Nat.add_assoc, h6 (k + j) (by omega), List.getElem?_drop]
theorem len_one : (fileT oneV trV).length = 133 := by rw [file_one]; decide
theorem tail_one : (fileT oneV trV).drop 87 = endOne := by rw [file_one]; decide
set_option maxRecDepth 100000 in
set_option maxHeartbeats 6400000 in
theorem lives10_any (w : World) (G : GapEnv w) (GN : NumEnv w) (htab : TabV w) (hdig : DigEnv w) : Calls Tryz.prog 8 #[] w fun e w' => e = .returned (.bool true) ∧ Below w.heap.size w w' := by
  go_enter Tryz.func8, Tryz.ntmps8
  go_upto_region 3 with fail
  generalize hW : World.alloc (World.alloc (World.alloc (World.alloc (World.alloc (World.alloc w _) _) _) _) _) _ = W1
  have hb : Below w.heap.size w W1 := by subst hW; exact ext_trans (ext_trans (ext_trans (ext_trans (ext_trans (ext_alloc _ _) (ext_alloc _ _)) (ext_alloc _ _)) (ext_alloc _ _)) (ext_alloc _ _)) (ext_alloc _ _)
  have h0 : W1.heap[w.heap.size]? = some (.cells #[.int .u32 2] 42 (0, 0)) := by subst hW; exact heap_below (heap_below (heap_below (heap_below (heap_below (heap_new _ _ _ rfl) (ext_alloc _ _)) (ext_alloc _ _)) (ext_alloc _ _)) (ext_alloc _ _)) (ext_alloc _ _)
  have h1 : W1.heap[w.heap.size + 1]? = some (.cells #[.int .i64 1, .slice none 0 0, .slice none 0 0, .slice none 0 0, .slice (some ⟨w.heap.size, 0, none⟩) 1 1, .slice none 0 0] 26 (0, 0)) := by subst hW; exact heap_below (heap_below (heap_below (heap_below (heap_new _ _ _ (by simp)) (ext_alloc _ _)) (ext_alloc _ _)) (ext_alloc _ _)) (ext_alloc _ _)
  have h2 : W1.heap[w.heap.size + 1 + 1]? = some (.cells #[.int .u8 0] 5 (0, 0)) := by subst hW; exact heap_below (heap_below (heap_below (heap_new _ _ _ (by simp)) (ext_alloc _ _)) (ext_alloc _ _)) (ext_alloc _ _)
  have h3 : W1.heap[w.heap.size + 1 + 1 + 1]? = some (.cells #[.int .u8 1] 5 (0, 0)) := by subst hW; exact heap_below (heap_below (heap_new _ _ _ (by simp)) (ext_alloc _ _)) (ext_alloc _ _)
  have h4 : W1.heap[w.heap.size + 1 + 1 + 1 + 1]? = some (.cells #[.slice (some ⟨w.heap.size + 1 + 1, 0, none⟩) 1 1, .slice (some ⟨w.heap.size + 1 + 1 + 1, 0, none⟩) 1 1] 27 (0, 0)) := by subst hW; exact heap_below (heap_new _ _ _ (by simp)) (ext_alloc _ _)
  have h5 : W1.heap[w.heap.size + 1 + 1 + 1 + 1 + 1]? = some (.cells #[.int .i64 0, .slice none 0 0, .slice (some ⟨w.heap.size + 1 + 1 + 1 + 1, 0, none⟩) 2 2] 30 (0, 0)) := by subst hW; exact heap_new _ _ _ (by simp)
  clear hW
  obtain ⟨sC, hC⟩ : ∃ s : CSlots, s = ⟨none, 0, 0, none, 0, 0, none, 0, 0, some ⟨w.heap.size, 0, none⟩, 1, 1, none, 0, 0⟩ := ⟨_, rfl⟩
  have hsC : SeesCir W1 sC oneV := by
    subst hC
    exact ⟨⟨rfl, Nat.zero_le _, Sees.nil _ _ _ (fun _ => rfl)⟩, ⟨rfl, Nat.zero_le _, Sees.nil _ _ _ (fun _ => rfl)⟩, Sees.nil _ _ _ (fun _ => rfl), sees_cells h0 [.int .u32 2] 1 rfl rfl, Sees.nil _ _ _ (fun _ => rfl)⟩
  have hmC : sC.small := by subst hC; exact ⟨Nat.zero_le _, Nat.zero_le _, Nat.zero_le _, by show (1 : Nat) ≤ 1048576; omega, Nat.zero_le _⟩
  obtain ⟨sT, hT⟩ : ∃ s : TSlots, s = ⟨none, 0, 0, some ⟨w.heap.size + 1 + 1 + 1 + 1, 0, none⟩, 2, 2, [(some ⟨w.heap.size + 1 + 1, 0, none⟩, 1, 1), (some ⟨w.heap.size + 1 + 1 + 1, 0, none⟩, 1, 1)]⟩ := ⟨_, rfl⟩
  have hsT : SeesTr W1 sT trV := by
    subst hT
    refine ⟨Sees.nil _ _ _ (fun _ => rfl), sees_cells h4 [_, _] 2 rfl rfl, rfl, fun k hk => ?_⟩
    match k, hk with
    | 0, _ => exact sees_cells h2 [.int .u8 0] 1 rfl rfl
    | 1, _ => exact sees_cells h3 [.int .u8 1] 1 rfl rfl
  have hmT : sT.small := by
    subst hT
    refine ⟨Nat.zero_le _, by show (2 : Nat) ≤ 1048576; omega, fun x hx => ?_⟩
    rcases List.mem_cons.1 hx with rfl | hx
    · show (1 : Nat) ≤ 1048576; omega
    · rw [List.mem_singleton.1 hx]; show (1 : Nat) ≤ 1048576; omega
  have hwr := write10_any oneV trV sC sT W1 hsC hsT hmC hmT (by decide) (by decide) (by decide) (htab.below hb) (hdig.below hb)
  unfold cirV traceV at hwr
  rw [hC, hT] at hwr
  have HWR := Lib.hid hwr
  have HB := Lib.hid hb
  have HTAB := Lib.hid htab
  have HG := Lib.hid G
  have HGN := Lib.hid GN
  have p0 := cell_of_block h1 0
  have p1 := cell_of_block h1 1
  have p2 := cell_of_block h1 2
  have p3 := cell_of_block h1 3
  have p4 := cell_of_block h1 4
  have p5 := cell_of_block h1 5
  have q0 := cell_of_block h5 0
  have q1 := cell_of_block h5 1
  have q2 := cell_of_block h5 2
  clear hwr hb htab G GN hdig hsC hmC hC hsT hmT hT h0 h1 h2 h3 h4 h5
  go_wp2_with fail
  refine HWR.out.mono ?_
  intro e W2 hp
  obtain ⟨v, rfl, hrow⟩ := hp.1 fits_one
  have hb2 := hp.2.2
  rw [len_one] at hrow
  obtain ⟨ba, bc, rfl⟩ := ownsN_form hrow
  have HROW := Lib.hid hrow
  have HB2 : Hid (Below w.heap.size w W2) := ext_trans HB.out hb2
  clear hp hb2 hrow HWR p0 p1 p2 p3 p4 p5 q0 q1 q2
  have hnl : Sees (W2.alloc (.cells #[.int .u8 10] 5)) (some ⟨W2.heap.size, 0, none⟩) 1 1 ([(10 : UInt8)].map bv) := sees_cells (heap_new W2 (.cells #[.int .u8 10] 5) _ rfl) [bv 10] 1 rfl rfl
  have hcv := hnl.str (P := Tryz.prog) 27 5 9 Tryz.underlying27 Tryz.underlying5 Tryz.underlying9
  rw [show str [10] = (⟨#[10]⟩ : ByteArray) from rfl] at hcv
  clear hnl
  go_upto_region 5 with fail
  clear hcv
  generalize hW3 : W2.alloc (.cells #[.int .u8 10] 5) = W3
  have hb3 : Below W2.heap.size W2 W3 := by subst hW3; exact ext_alloc _ _
  have HB3 := Lib.hid hb3
  clear hW3 hb3
  go_upto_region 6 with fail
  generalize hE : ((((((((((((((((⟨#[36, 101, 110, 100, 100, 101, 102, 105, 110, 105, 116, 105, 111, 110, 115, 32, 36, 101, 110, 100]⟩ : ByteArray) ++ (⟨#[10]⟩ : ByteArray)) ++ (⟨#[35, 48]⟩ : ByteArray)) ++ (⟨#[10]⟩ : ByteArray)) ++ (⟨#[48, 105, 48]⟩ : ByteArray)) ++ (⟨#[10]⟩ : ByteArray)) ++ (⟨#[48, 98, 48]⟩ : ByteArray)) ++ (⟨#[10]⟩ : ByteArray)) ++ (⟨#[35, 49]⟩ : ByteArray)) ++ (⟨#[10]⟩ : ByteArray)) ++ (⟨#[49, 105, 48]⟩ : ByteArray)) ++ (⟨#[10]⟩ : ByteArray)) ++ (⟨#[49, 98, 48]⟩ : ByteArray)) ++ (⟨#[10]⟩ : ByteArray)) ++ (⟨#[35, 50]⟩ : ByteArray)) ++ (⟨#[10]⟩ : ByteArray)) = E
  have hEs : E = str endOne := by
    rw [← hE]
    apply ByteArray.ext
    simp [ByteArray.data_append, str, endOne]
  have hEz : E.size = 46 := by rw [hEs]; rfl
  have HE := Lib.hid hEs
  clear hE hEs
  obtain ⟨a', c', e', hbc, hsee⟩ := Sees.owned HROW.out
  cases e'
  have hcap := hsee.cap
  have hsee3 := hsee.below HB3.out
  obtain ⟨bb, bo, rfl, _⟩ := hsee3.addr (by omega)
  have HB4 : Hid (Below w.heap.size w W3) := ext_trans HB2.out HB3.out
  have hrd : Calls Tryz.prog 9 #[.slice (some ⟨bb, bo, none⟩) 133 bc] W3 fun e w' => Below W3.heap.size W3 w' ∧ ∃ tv vv ss, e = .returned (.tuple #[tv, vv, .int .i64 0]) ∧ Row isU32 w' W3.heap.size 42 tv 3 ([0, 1, 2].map nv32) ∧ OwnW w' W3.heap.size vv ss [([105, 48], [0, 1, 1]), ([98, 48], [0, 1, 1])] := by
    have := read_any W3 (HG.out.below HB4.out) (HGN.out.below HB4.out) (fileT oneV trV) (some ⟨bb, bo, none⟩) 133 bc hsee3 hbc
    unfold ReadPost at this
    rw [read_one] at this
    exact this
  have HRD := Lib.hid hrd
  have HSEE := Lib.hid hsee3
  clear hrd hsee hsee3 HG HGN HTAB
  go_wp2_with fail
  refine HRD.out.mono ?_
  rintro e W4 ⟨hb4, tv, vv, ss, rfl, ht4, hw4⟩
  obtain ⟨ta, tc, rfl⟩ := ht4.form
  obtain ⟨va, vc, rfl⟩ := ownsN_form hw4.row
  have hs4 := (HSEE.out.behind 87 (by omega)).below hb4
  rw [← List.map_drop, tail_one] at hs4
  have hst := hs4.str (P := Tryz.prog) 27 5 9 Tryz.underlying27 Tryz.underlying5 Tryz.underlying9
  rw [← HE.out] at hst
  have HT4 := Lib.hid ht4
  have HW4 := Lib.hid hw4
  have HB5 : Hid (Below w.heap.size w W4) := ext_trans HB4.out hb4
  have hself : (E.toList == E.toList) = true := beq_self_eq_true _
  have W87 : IntKind.i64.wrap ((133 : Int) - 46) = 87 := by decide
  clear hb4 ht4 hw4 hs4 HRD HSEE HB2 HB3 HB4 HROW HE
  go_wp2_with fail
  have hx5 := ext_alloc W4 (.cells #[.int .u32 0, .int .u32 1, .int .u32 2] 42)
  have hn5 := sees_lit W4 42 (0, 0) #[.int .u32 0, .int .u32 1, .int .u32 2] ([0, 1, 2].map nv32) 3 rfl rfl
  generalize hW5 : W4.alloc (.cells #[.int .u32 0, .int .u32 1, .int .u32 2] 42) = W5 at hx5 hn5 ⊢
  have hnum := eqnums_any [0, 1, 2] [0, 1, 2] ta (some ⟨W4.heap.size, 0, none⟩) 3 tc 3 3 W5 ((row_sees_slice HT4.out).2.below hx5) hn5 (by omega)
  rw [show (([0, 1, 2] : List Nat) == [0, 1, 2]) = true from rfl] at hnum
  have HX5 := Lib.hid hx5
  have HNUM := Lib.hid hnum
  clear hx5 hn5 hW5 hnum HT4 hst
  refine HNUM.out.mono ?_
  rintro e w6 ⟨rfl, q, rfl⟩
  have hx6 := HX5.out.trans ((ext_drewN W5 q).mono HX5.out.size)
  have hw6 := HW4.out.below hx6
  generalize W5.drewN q = W6 at hx6 hw6 ⊢
  obtain ⟨V, x0, m0, y0, rfl, c0, d0, s0⟩ := wave_cells hw6 (show 0 < 2 by omega)
  obtain ⟨V', x1, m1, y1, ev, c1, d1, s1⟩ := wave_cells hw6 (show 1 < 2 by omega)
  cases ev
  have c0' : W6.cell? ⟨V, 0, none⟩ = some (.string ⟨#[105, 48]⟩) := c0
  have d0' : W6.cell? ⟨V, 1, none⟩ = some (.slice x0 m0 y0) := d0
  have c1' : W6.cell? ⟨V, 2, none⟩ = some (.string ⟨#[98, 48]⟩) := c1
  have d1' : W6.cell? ⟨V, 3, none⟩ = some (.slice x1 m1 y1) := d1
  have s0' : Sees W6 x0 m0 y0 (([0, 1, 1] : List UInt8).map bv) := s0
  have s1' : Sees W6 x1 m1 y1 (([0, 1, 1] : List UInt8).map bv) := s1
  have HS0 := Lib.hid s0'
  have HS1 := Lib.hid s1'
  have HB7 : Hid (Below w.heap.size w W6) := ext_trans HB5.out hx6
  clear c0 d0 c1 d1 s0 s1 s0' s1' hx6 hw6 HNUM HX5 HW4 HB5
  go_wp2_with fail
  have hx7 := ext_alloc W6 (.cells #[.int .u8 0, .int .u8 1, .int .u8 1] 5)
  have hn7 := sees_lit W6 5 (0, 0) #[.int .u8 0, .int .u8 1, .int .u8 1] (([0, 1, 1] : List UInt8).map bv) 3 rfl rfl
  generalize hW7 : W6.alloc (.cells #[.int .u8 0, .int .u8 1, .int .u8 1] 5) = W7 at hx7 hn7 ⊢
  have hby := bytes_any [0, 1, 1] [0, 1, 1] x0 (some ⟨W6.heap.size, 0, none⟩) m0 y0 3 3 W7 (HS0.out.below hx7) hn7
  rw [beq_self_eq_true] at hby
  have HBY := Lib.hid hby
  have HS17 := Lib.hid (HS1.out.below hx7)
  have HB8 : Hid (Below w.heap.size w W7) := ext_trans HB7.out hx7
  have c2 : W7.cell? ⟨V, 2, none⟩ = some (.string ⟨#[98, 48]⟩) := (hx7.cell (lt_of_cellV c1')).trans c1'
  have d2 : W7.cell? ⟨V, 3, none⟩ = some (.slice x1 m1 y1) := (hx7.cell (lt_of_cellV d1')).trans d1'
  clear hx7 hn7 hW7 hby HS0 HS1 HB7 c0' d0' c1' d1'
  refine HBY.out.mono ?_
  rintro e w8 ⟨rfl, rfl⟩
  go_wp2_with fail
  have hx9 := ext_alloc W7 (.cells #[.int .u8 0, .int .u8 1, .int .u8 1] 5)
  have hn9 := sees_lit W7 5 (0, 0) #[.int .u8 0, .int .u8 1, .int .u8 1] (([0, 1, 1] : List UInt8).map bv) 3 rfl rfl
  generalize hW9 : W7.alloc (.cells #[.int .u8 0, .int .u8 1, .int .u8 1] 5) = W9 at hx9 hn9 ⊢
  have hby := bytes_any [0, 1, 1] [0, 1, 1] x1 (some ⟨W7.heap.size, 0, none⟩) m1 y1 3 3 W9 (HS17.out.below hx9) hn9
  rw [beq_self_eq_true] at hby
  have HBZ := Lib.hid hby
  have HB9 : Hid (Below w.heap.size w W9) := ext_trans HB8.out hx9
  clear hx9 hn9 hW9 hby HS17 HB8 c2 d2 HBY
  refine HBZ.out.mono ?_
  rintro e w10 ⟨rfl, rfl⟩
  go_wp2
  go_ret
  exact ⟨rfl, HB9.out⟩
end Go.Proofs.YtgplkpfdbiapaaaGreatDoor
