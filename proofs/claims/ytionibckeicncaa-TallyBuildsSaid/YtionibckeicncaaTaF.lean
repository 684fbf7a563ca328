/- (*builder).fresh, atLeast, atMost, by their contracts. -/
import Derived.Test.YtionibckeicncaaOwn
import Derived.Test.YtionibckeicncaaNBase
import Derived.Test.YtionibckeicncaaFCells
import Derived.Test.YtionibckeicncaaCuInts
import Derived.Test.YtionibckeicncaaTaRM
import Derived.Test.YtionibckeicncaaTaP
import Derived.Test.YtionibckeicncaaTaG
import Derived.Test.YtionibckeicncaaRows
import Derived.Test.YtionibckeicncaaShelf
import Derived.BigQuiet
import Derived.Deep.AppendLies
import Derived.Deep.CutRange
import Derived.Deep.QuietTactic
import Derived.Deep.RegionHeld3
import Derived.Deep.RegionLaw
import Derived.Deep.RegionWith
import Derived.KernelRfl
import Derived.Laws.EntriesVeiled
import Derived.Lib.ConvBytes
import Derived.Lib.Hide
import Derived.Lib.SlBytesRow
import Derived.Lib.SlicesCompact
import Derived.Lib.SmallJoins
import Derived.OrdersHeld
import Derived.Shelf.Bytes.SlSmallAll
import Derived.Sort.Statements
import Derived.WalkKit
import Derived.WalkLawsBesides
import Derived.WalkSpells
namespace Go.Proofs.Ytionibckeicncaa
open Go Go.RowKit Go.Joins

theorem info_zsT : (Try.prog.info? 22).map (fun i => (i.zero, i.size, i.bytes)) = some (some (.slice none 0 0), 1, 24) := by kernel_rfl
theorem neg_small {x : Int} (h : x.natAbs ≤ 100000000) : IntKind.i64.wrap (-x) = -x := IntWalk.i64_in _ (by omega)
set_option maxRecDepth 100000 in
set_option maxHeartbeats 6400000 in
theorem fresh_any (w0 w : World) (B most next m : Nat) (L : List (List Int)) (H : TaSt w0 B most next L w) (hm : m ≤ 100000) (hnx : next ≤ 100000000) :
    Calls Try.prog 37 #[.pointer (some ⟨B, 0, none⟩), .int .i64 m] w fun e w' => ∃ a c, e = .returned (.slice a m c) ∧ NewT w' 0 a m c (freshL next m) ∧ TaSt w0 B most (next + m) L w' ∧ TaGo B w w' := by
  obtain ⟨i0, hi, hz0, hz1, hz2⟩ := info_parts info_int
  have mk := fun W => run_make_n (P := Try.prog) Try.underlying22 hi hz0 hz1 hz2 rfl m (by omega) (by omega) W
  rw [fcells_zero] at mk
  obtain ⟨la, ln, lc, lss, hln, hbox, HL⟩ := H.has
  have HBOX := Lib.hid hbox
  have HH := Lib.hid H
  have hBlt := heap_lt hbox
  have HNB := Lib.hid (And.intro hm hnx)
  clear HL hln hbox H hm hnx
  go_enter Try.func37, Try.ntmps37
  go_upto_region 2 with fail
  generalize hW : World.alloc w _ = W1
  obtain ⟨S, hS⟩ : ∃ S, S = w.heap.size := ⟨_, rfl⟩
  have hsn : W1.heap[S]? = some (.cells (fcells m (fun j => .int .i64 (if j < 0 then ((next + j : Nat) : Int) else 0))) 3 (0, 0)) := by subst hW; rw [hS, heap_new _ _ _ rfl]; congr 2
  have hb : Below w.heap.size w W1 := by subst hW; exact ext_alloc _ _
  have HS1 := Lib.hid hsn
  have HB1 := Lib.hid hb
  have HSS := Lib.hid hS
  rw [← hS]
  have HSB : Hid (S ≠ B) := by show _ ≠ _; omega
  clear hW hsn hb hS hBlt mk
  go_wp2_with fail
  go_loopw [11] (fun i wr => ∃ k : Nat, k ≤ m ∧ i = .int .i64 k ∧ Hid (wr.heap[S]? = some (.cells (fcells m (fun j => .int .i64 (if j < k then ((next + j : Nat) : Int) else 0))) 3 (0, 0))) ∧ Hid (Below w.heap.size w wr)) (fun i _ => m - (intOf i).toNat)
  case atStart => exact ⟨0, Nat.zero_le _, rfl, HS1.out, HB1.out⟩
  case round =>
    obtain ⟨k, hk, rfl, hO, hB⟩ := hrel
    have HO := Lib.hid hO.out
    have HB := Lib.hid hB.out
    clear hO hB
    by_cases hlt : k < m
    · have hb2 := heap_below HBOX.out HB.out
      have d1 := cell_of_block hb2 1
      have hco := (cell_of_block HO.out k).trans (fcells_get _ _ _ hlt)
      have hfo := unfrozen_of_block HO.out k
      have hI1 : ((k : Nat) : Int) < (m : Int) := by omega
      have hI2 : (0 : Int) ≤ (k : Int) := by omega
      obtain ⟨nk, hnk⟩ : ∃ x, x = next + k := ⟨_, rfl⟩
      have W2 : IntKind.i64.wrap ((next : Int) + (k : Int)) = (nk : Int) := by rw [show (next : Int) + (k : Int) = (nk : Int) by omega]; exact IntWalk.i64_in _ (by have := HNB.out; omega)
      have W1' : IntKind.i64.wrap ((k : Int) + 1) = (k : Int) + 1 := IntWalk.i64_in _ (by have := HNB.out; omega)
      have HO2 : Hid ((wr.setCell ⟨S, k, none⟩ (.int .i64 (nk : Int))).heap[S]? = some (.cells (fcells m (fun j => .int .i64 (if j < k + 1 then ((next + j : Nat) : Int) else 0))) 3 (0, 0))) := by
        have h1 := block_setCell HO.out (i := k) (.int .i64 (nk : Int))
        rw [fcells_set] at h1
        show _ = _
        rw [h1]
        congr 2
        refine fcells_congr fun j _ => ?_
        by_cases e : j = k
        · subst e; rw [if_pos rfl, if_pos (by omega), hnk]
        · rw [if_neg e]
          by_cases e2 : j < k
          · rw [if_pos e2, if_pos (by omega)]
          · rw [if_neg e2, if_neg (by omega)]
      have HB2 : Hid (Below w.heap.size w (wr.setCell ⟨S, k, none⟩ (.int .i64 (nk : Int)))) := HB.out.setCell (p := ⟨S, k, none⟩) (by rw [HSS.out]; exact Nat.le_refl _) _
      clear hb2 hnk HO
      go_wp2
      go_roundw
      case rel => exact ⟨k + 1, by omega, by go_num, HO2.out, HB2.out⟩
      case measure => simp [intOf]; omega
    · obtain rfl : m = k := by omega
      have hb2 := heap_below HBOX.out HB.out
      have d1 := cell_of_block hb2 1
      have f1 := unfrozen_of_block hb2 1
      obtain ⟨nk, hnk⟩ : ∃ x, x = next + m := ⟨_, rfl⟩
      have W2 : IntKind.i64.wrap ((next : Int) + (m : Int)) = (nk : Int) := by rw [show (next : Int) + (m : Int) = (nk : Int) by omega]; exact IntWalk.i64_in _ (by have := HNB.out; omega)
      have HST := Lib.hid (TaSt.nextTo (HH.out.below HB.out) nk)
      have HGO := Lib.hid ((TaGo.below (B := B) HB.out).trans (TaSt.nextTo (HH.out.below HB.out) nk).2)
      have hnew : NewT wr 0 (some ⟨S, 0, none⟩) m m (freshL next m) := by
        have hc : ∀ j, j < m → (fcells m (fun j => Value.int .i64 (if j < m then ((next + j : Nat) : Int) else 0)))[0 + j]? = some (.int .i64 ((freshL next m).getD j 0)) := fun j hj => by
          rw [Nat.zero_add, fcells_get _ _ _ hj, fresh_get hj, if_pos hj]
        refine ⟨⟨by simp [zvs, freshL], Nat.le_refl _, (fun e => by cases e), fun _ => ⟨S, 0, rfl, heap_lt HO.out, fun j hj => ?_⟩⟩, fun _ => ⟨S, 0, _, rfl, Nat.zero_le _, HO.out, hc⟩⟩
        rw [cell_of_block HO.out, hc j hj]
        simp [zvs, List.getD, List.getElem?_eq_getElem (show j < (freshL next m).length by rw [fresh_len]; exact hj)]
      have HNW := Lib.hid (hnew.go (TaSt.nextTo (HH.out.below HB.out) nk).2 hb2)
      have HNK := Lib.hid hnk
      clear hb2 hnk HO hnew hlt
      go_wp2
      go_ret
      exact ⟨_, _, rfl, HNW.out, by rw [← HNK.out]; exact HST.out.1, HGO.out⟩
end Go.Proofs.Ytionibckeicncaa
