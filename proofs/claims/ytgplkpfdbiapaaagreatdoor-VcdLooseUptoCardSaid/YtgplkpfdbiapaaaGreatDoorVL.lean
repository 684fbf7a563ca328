/- inquestlaw10.same of the same waves. -/
import Derived.Test.YtgplkpfdbiapaaaGreatDoorLib
import Derived.Test.YtgplkpfdbiapaaaGreatDoorRows
import Derived.BigQuiet
import Derived.Deep.QuietTactic
import Derived.Deep.RegionWith
import Derived.Lib.ConvBytes
import Derived.Lib.Hide
import Derived.Lib.SlBytesRow
import Derived.Lib.SmallJoins
import Derived.Shelf.Bytes.SlSmallAll
import Derived.WalkKit
import Derived.WalkLawsBesides
import Derived.WalkSpells
import Derived.Test.YtgplkpfdbiapaaaGreatDoorNBase
import Derived.Test.YtgplkpfdbiapaaaGreatDoorNTrace
import Derived.Test.YtgplkpfdbiapaaaGreatDoorNHeap
import Derived.Test.YtgplkpfdbiapaaaGreatDoorVdRep
import Derived.Test.YtgplkpfdbiapaaaGreatDoorVdHold
import Derived.Test.YtgplkpfdbiapaaaGreatDoorShelf
import Derived.Deep.AppendLies
import Derived.Deep.CutRange
import Derived.Deep.RegionHeld3
import Derived.Deep.RegionLaw
import Derived.KernelRfl
import Derived.Laws.CopyOwn
import Derived.Laws.EntriesVeiled
import Derived.Laws.IdiomCopy
import Derived.Laws.OwnMore
import Derived.Laws.Tables
import Derived.Lib.AppendStr
import Derived.Lib.AppendZeros
import Derived.Lib.BufferWrite
import Derived.Lib.ItoaNum
import Derived.Lib.MakeNoZero
import Derived.Lib.ParseIntBCases
import Derived.Maps.AppendAt
import Derived.Maps.Own
import Derived.Maps.OwnOps
import Derived.Maps.OwnSet
import Derived.OrdersHeld
import Derived.Shelf.Pu.Lower
import Derived.Shelf.Pu.ToError
import Derived.Shelf.Pu.ToErrorRange
/- inquestref00.Bytes, by its contract. -/
namespace Go.Proofs.YtgplkpfdbiapaaaGreatDoor
open Go Go.RowKit

set_option maxRecDepth 100000 in
set_option maxHeartbeats 400000 in
theorem bytes_any (bs cs : List UInt8) (a a' : Option Addr) (n c n' c' : Nat) (w : World) (h : Sees w a n c (bs.map bv)) (h' : Sees w a' n' c' (cs.map bv)) :
    Calls Tryz.prog 23 #[.slice a n c, .slice a' n' c'] w fun e w' => e = .returned (.bool (bs == cs)) ∧ w = w' := by
  have q1 := h.str (P := Tryz.prog) 27 5 9 Tryz.underlying27 Tryz.underlying5 Tryz.underlying9
  have q2 := h'.str (P := Tryz.prog) 27 5 9 Tryz.underlying27 Tryz.underlying5 Tryz.underlying9
  clear h h'
  go_enter Tryz.func23, Tryz.ntmps23
  go_wp2
  go_ret
  exact ⟨by simp [str], rfl⟩
end Go.Proofs.YtgplkpfdbiapaaaGreatDoor
namespace Go.Proofs.YtgplkpfdbiapaaaGreatDoor
open Go Go.RowKit Go.Joins Go.Shelf Go.Maps

theorem wave_cells {W : World} {base n c k : Nat} {a : Option Addr} {ss : List Slc} {L : List (List UInt8 × List UInt8)} (h : OwnW W base (.slice a n c) ss L) (hk : k < L.length) :
    ∃ V x m y, a = some ⟨V, 0, none⟩ ∧ W.cell? ⟨V, k * 2, none⟩ = some (.string (str (L.getD k ([], [])).1)) ∧ W.cell? ⟨V, k * 2 + 1, none⟩ = some (.slice x m y) ∧ Sees W x m y ((L.getD k ([], [])).2.map bv) := by
  obtain ⟨V, cur, rfl, _, _, hV, hcur⟩ := h.block (by omega)
  have hat := wcs2_at L ss k h.lens hk
  obtain ⟨a1, c1, e1, _, hs⟩ := Sees.owned (h.rows k hk)
  refine ⟨V, a1, (L.getD k ([], [])).2.length, c1, rfl, ?_, ?_, hs⟩
  · rw [cell_of_block hV, Nat.mul_comm]; exact hcur _ _ hat.1
  · rw [cell_of_block hV, Nat.mul_comm, ← e1]; exact hcur _ _ hat.2
set_option maxRecDepth 100000 in
set_option maxHeartbeats 600000 in
theorem same_yes (W : World) (b1 b2 n n' c c' : Nat) (a a' : Option Addr) (ss ss' : List Slc) (L : List (List UInt8 × List UInt8)) (h : OwnW W b1 (.slice a n c) ss L) (h' : OwnW W b2 (.slice a' n' c') ss' L) (hn : n = L.length) (hn' : n' = L.length) (hL : L.length ≤ 1000000) :
    Calls Tryz.prog 14 #[.slice a n c, .slice a' n' c'] W fun e w' => e = .returned (.bool true) ∧ Below W.heap.size W w' := by
  obtain rfl : n' = n := by omega
  clear hn'
  have H := Lib.hid h
  have H' := Lib.hid h'
  have HN := Lib.hid hn
  have hnn : n' ≤ 1000000 := by omega
  clear h h' hn hL
  go_enter Tryz.func14, Tryz.ntmps14
  go_wp2
  go_loopg [13] n' (fun g i wr => ∃ k : Nat, k + g = n' ∧ i = .int .i64 k ∧ Hid (Below W.heap.size W wr))
  case atStart => exact ⟨0, by omega, rfl, Below.refl _ _⟩
  case round =>
    obtain ⟨k, hk, rfl, hB⟩ := hrel
    have HB := Lib.hid hB.out
    clear hB
    cases gk with
    | zero =>
      obtain rfl : k = n' := by omega
      go_wp2
      go_ret
      exact ⟨rfl, HB.out⟩
    | succ g =>
      have hkn : k < n' := by omega
      have hkz : (k : Int) < (n' : Int) := by omega
      obtain ⟨V, x, m, y, rfl, c1, c2, s1⟩ := wave_cells (H.out.below HB.out) (show k < L.length by rw [← HN.out]; exact hkn)
      obtain ⟨V', x', m', y', rfl, c1', c2', s1'⟩ := wave_cells (H'.out.below HB.out) (show k < L.length by rw [← HN.out]; exact hkn)
      obtain ⟨nm, hnm⟩ : ∃ nm, nm = str (L.getD k ([], [])).1 := ⟨_, rfl⟩
      rw [← hnm] at c1 c1'
      have HBY : Hid (∀ nn, Calls Tryz.prog 23 #[.slice x m y, .slice x' m' y'] (wr.drewN nn) fun e w' => e = .returned (.bool true) ∧ w' = wr.drewN nn) := fun nn => by
        have hbd := bytes_any (L.getD k ([], [])).2 (L.getD k ([], [])).2 x x' m y m' y' (wr.drewN nn) (s1.below (ext_drewN _ _)) (s1'.below (ext_drewN _ _))
        rw [beq_self_eq_true] at hbd
        exact hbd.mono fun e w' ⟨h1, h2⟩ => ⟨h1, h2.symm⟩
      have W1 : IntKind.i64.wrap ((k : Int) + 1) = ((k + 1 : Nat) : Int) := by rw [IntWalk.i64_in _ (by omega)]; omega
      have hself : (nm.toList == nm.toList) = true := beq_self_eq_true _
      have HBD : Hid (∀ nn, Below W.heap.size W (wr.drewN nn)) := fun nn => HB.out.trans ((ext_drewN wr nn).mono HB.out.size)
      clear s1 s1' hnm
      go_upto_region 6 with fail
      go_quiet (first | (go_at_call 23; refine Calls.quiet_of_same (HBY.out _)))
      go_wp2
      go_roundg g
      case measure => omega
      case rel => exact ⟨k + 1, by omega, rfl, HBD.out _⟩
end Go.Proofs.YtgplkpfdbiapaaaGreatDoor
