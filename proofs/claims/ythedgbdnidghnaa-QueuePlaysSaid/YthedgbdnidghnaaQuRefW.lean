/- Where the document's own queue lies; is, Score, Waits, Back, Fade's and Bump's parts. -/
import Derived.Test.YthedgbdnidghnaaNBase
import Derived.Test.YthedgbdnidghnaaQuPure
import Derived.Test.YthedgbdnidghnaaQuW
import Derived.Test.YthedgbdnidghnaaQuOps
import Derived.Test.YthedgbdnidghnaaRows
import Derived.ArgAppend
import Derived.BigQuiet
import Derived.Deep.AppendLies
import Derived.Deep.CutRange
import Derived.Deep.QuietTactic
import Derived.Deep.RegionHeld3
import Derived.Deep.RegionLaw
import Derived.Deep.RegionWith
import Derived.KernelRfl
import Derived.Laws.EntriesVeiled
import Derived.Lib.ConvBytes
import Derived.Lib.Hide
import Derived.Lib.SlBytesRow
import Derived.Lib.SmallJoins
import Derived.OrdersHeld
import Derived.Shelf.Bytes.SlSmallAll
import Derived.WalkKit
import Derived.WalkLawsBesides
import Derived.WalkSpells
namespace Go.Proofs.Ythedgbdnidghnaa
open Go Go.RowKit Go.Joins

/-- One of its blocks. -/
def Three (p gs gw D : Nat) : Prop := D = p ∨ D = gs ∨ D = gw
/-- At blocks p, gs, gw lies the document's queue. -/
structure RW (w : World) (p gs gw cs cw n : Nat) (r : RQ) : Prop where
  ps : p ≠ gs
  pw : p ≠ gw
  sw : gs ≠ gw
  box : w.heap[p]? = some (.cells #[.slice (some ⟨gs, 0, none⟩) (n + 1) cs, .slice (some ⟨gw, 0, none⟩) (n + 1) cw, .int .u64 (r.st : Int)] 54 (0, 0))
  rs : ∃ cur, w.heap[gs]? = some (.cells cur 43 (0, 0)) ∧ ∀ i, i ≤ n → cur[i]? = some (u6 (r.sc.getD i 0))
  rw_ : ∃ cur, w.heap[gw]? = some (.cells cur 4 (0, 0)) ∧ ∀ i, i ≤ n → cur[i]? = some (.bool (r.wt.getD i false))
  ok : r.Ok n

section
variable {w w' : World} {p gs gw cs cw n : Nat} {r : RQ}
theorem RW.turn (H : RW w p gs gw cs cw n r) {F : Nat → Prop} (k : Turn F w w') (h1 : ¬ F p) (h2 : ¬ F gs) (h3 : ¬ F gw) : RW w' p gs gw cs cw n r := by
  obtain ⟨a, b, c, d, ⟨c1, e1, f1⟩, ⟨c2, e2, f2⟩, g⟩ := H
  exact ⟨a, b, c, k.at_ d h1, ⟨c1, k.at_ e1 h2, f1⟩, ⟨c2, k.at_ e2 h3, f2⟩, g⟩
theorem RW.below (H : RW w p gs gw cs cw n r) (k : Below w.heap.size w w') : RW w' p gs gw cs cw n r := by
  obtain ⟨a, b, c, d, ⟨c1, e1, f1⟩, ⟨c2, e2, f2⟩, g⟩ := H
  exact ⟨a, b, c, heap_below d k, ⟨c1, heap_below e1 k, f1⟩, ⟨c2, heap_below e2 k, f2⟩, g⟩
theorem RW.drewN (H : RW w p gs gw cs cw n r) (k : Nat) : RW (w.drewN k) p gs gw cs cw n r := H.below (ext_drewN w k)
theorem RW.drew (H : RW w p gs gw cs cw n r) : RW w.drew p gs gw cs cw n r := H.below ((Below.refl _ _).drew)
theorem RW.setS (H : RW w p gs gw cs cw n r) {r' : RQ} (i x : Nat) (h1 : r'.st = r.st) (h2 : r'.wt = r.wt) (h3 : r'.sc = r.sc.set i x) (ok : r'.Ok n) : RW (w.setCell ⟨gs, i, none⟩ (.int .u64 (x : Int))) p gs gw cs cw n r' := by
  obtain ⟨a, b, c, d, ⟨c1, e1, f1⟩, ⟨c2, e2, f2⟩, g⟩ := H
  refine ⟨a, b, c, by rw [h1]; exact other_cell w d a, ⟨_, block_setCell e1 _, fun j hj => ?_⟩, ⟨c2, other_cell w e2 (Ne.symm c), by rw [h2]; exact f2⟩, ok⟩
  rw [h3, Array.getElem?_setIfInBounds]
  have hl := g.ls
  by_cases e : i = j
  · subst e
    have := f1 i hj
    have hlt : i < c1.size := (Array.getElem?_eq_some_iff.1 this).1
    rw [if_pos rfl, if_pos hlt, getD_setE _ _ _ _ (by omega)]; rfl
  · rw [if_neg e, f1 j hj, getD_setN _ _ _ _ _ (Ne.symm e)]
theorem RW.setW (H : RW w p gs gw cs cw n r) {r' : RQ} (i : Nat) (x : Bool) (h1 : r'.st = r.st) (h2 : r'.wt = r.wt.set i x) (h3 : r'.sc = r.sc) (ok : r'.Ok n) : RW (w.setCell ⟨gw, i, none⟩ (.bool x)) p gs gw cs cw n r' := by
  obtain ⟨a, b, c, d, ⟨c1, e1, f1⟩, ⟨c2, e2, f2⟩, g⟩ := H
  refine ⟨a, b, c, by rw [h1]; exact other_cell w d b, ⟨c1, other_cell w e1 c, by rw [h3]; exact f1⟩, ⟨_, block_setCell e2 _, fun j hj => ?_⟩, ok⟩
  rw [h2, Array.getElem?_setIfInBounds]
  have hl := g.lw
  by_cases e : i = j
  · subst e
    have := f2 i hj
    have hlt : i < c2.size := (Array.getElem?_eq_some_iff.1 this).1
    rw [if_pos rfl, if_pos hlt, getD_setE _ _ _ _ (by omega)]
  · rw [if_neg e, f2 j hj, getD_setN _ _ _ _ _ (Ne.symm e)]
theorem RW.setSt (H : RW w p gs gw cs cw n r) {r' : RQ} (x : Nat) (h1 : r'.st = x) (h2 : r'.wt = r.wt) (h3 : r'.sc = r.sc) (ok : r'.Ok n) : RW (w.setCell ⟨p, 2, none⟩ (.int .u64 (x : Int))) p gs gw cs cw n r' := by
  obtain ⟨a, b, c, d, ⟨c1, e1, f1⟩, ⟨c2, e2, f2⟩, g⟩ := H
  refine ⟨a, b, c, ?_, ⟨c1, other_cell w e1 (Ne.symm a), by rw [h3]; exact f1⟩, ⟨c2, other_cell w e2 (Ne.symm b), by rw [h2]; exact f2⟩, ok⟩
  have := block_setCell d (i := 2) (.int .u64 (x : Int))
  rw [h1]
  simpa using this
theorem RW.c0 (H : RW w p gs gw cs cw n r) : w.cell? ⟨p, 0, none⟩ = some (.slice (some ⟨gs, 0, none⟩) (n + 1) cs) := cell_of_block H.box 0
theorem RW.c1 (H : RW w p gs gw cs cw n r) : w.cell? ⟨p, 1, none⟩ = some (.slice (some ⟨gw, 0, none⟩) (n + 1) cw) := cell_of_block H.box 1
theorem RW.c2 (H : RW w p gs gw cs cw n r) : w.cell? ⟨p, 2, none⟩ = some (.int .u64 (r.st : Int)) := cell_of_block H.box 2
theorem RW.fp (H : RW w p gs gw cs cw n r) (i : Nat) : w.frozen? ⟨p, i, none⟩ = false := unfrozen_of_block H.box i
theorem RW.fs (H : RW w p gs gw cs cw n r) (i : Nat) : w.frozen? ⟨gs, i, none⟩ = false := by obtain ⟨_, h, _⟩ := H.rs; exact unfrozen_of_block h i
theorem RW.fw (H : RW w p gs gw cs cw n r) (i : Nat) : w.frozen? ⟨gw, i, none⟩ = false := by obtain ⟨_, h, _⟩ := H.rw_; exact unfrozen_of_block h i
theorem RW.celS (H : RW w p gs gw cs cw n r) {i : Nat} (hi : i ≤ n) : w.cell? ⟨gs, i, none⟩ = some (.int .u64 (r.sc.getD i 0 : Nat)) := by
  obtain ⟨_, h, k⟩ := H.rs; exact (cell_of_block h i).trans (k i hi)
theorem RW.celW (H : RW w p gs gw cs cw n r) {i : Nat} (hi : i ≤ n) : w.cell? ⟨gw, i, none⟩ = some (.bool (r.wt.getD i false)) := by
  obtain ⟨_, h, k⟩ := H.rw_; exact (cell_of_block h i).trans (k i hi)
theorem RW.lt (H : RW w p gs gw cs cw n r) : ∀ D, Three p gs gw D → D < w.heap.size := by
  obtain ⟨a, b, c, d, ⟨c1, e1, f1⟩, ⟨c2, e2, f2⟩, g⟩ := H
  rintro D (rfl | rfl | rfl)
  · exact heap_lt d
  · exact heap_lt e1
  · exact heap_lt e2

set_option maxRecDepth 100000 in
theorem ris_any (v : Int) (H : RW w p gs gw cs cw n r) : Calls Try.prog 31 #[.pointer (some ⟨p, 0, none⟩), .int .i64 v] w fun e w' => e = .returned (.bool (hasR n v)) ∧ w = w' := by
  have c0 := H.c0
  clear H
  by_cases h1 : 1 ≤ v
  · have d1 : decide ((1 : Int) ≤ v) = true := by simpa using h1
    have HR : Hid (hasR n v = decide (v < ((n + 1 : Nat) : Int))) := by
      show _ = _
      unfold hasR
      rw [show decide (1 ≤ v) = true by simpa using h1, Bool.true_and]
      congr 1; apply propext; constructor <;> intro h' <;> omega
    clear h1
    go_enter Try.func31, Try.ntmps31
    go_wp2
    go_ret
    refine ⟨?_, rfl⟩
    rw [HR.out]; simp
  · have d1 : decide ((1 : Int) ≤ v) = false := by simpa using h1
    have HR : Hid (hasR n v = false) := by
      show _ = _
      unfold hasR
      rw [show decide (1 ≤ v) = false by simpa using h1, Bool.false_and]
    clear h1
    go_enter Try.func31, Try.ntmps31
    go_wp2
    go_ret
    refine ⟨?_, rfl⟩
    rw [HR.out]; rfl

set_option maxRecDepth 100000 in
theorem rscore_any (v : Int) (H : RW w p gs gw cs cw n r) : Calls Try.prog 23 #[.pointer (some ⟨p, 0, none⟩), .int .i64 v] w fun e w' => e = .returned (.int .u64 (scoreR r.sc n v : Int)) ∧ w = w' := by
  have c0 := H.c0
  have HH := Lib.hid (ris_any v H)
  by_cases h1 : 1 ≤ v ∧ v ≤ n
  · obtain ⟨u, rfl⟩ := Int.eq_ofNat_of_zero_le (show 0 ≤ v by omega)
    have cu := H.celS (i := u) (by omega)
    have HR : Hid (hasR n (u : Int) = true) := has_of (by omega) (by omega)
    have HS : Hid (scoreR r.sc n (u : Int) = r.sc.getD u 0) := by show _ = _; unfold scoreR; rw [HR.out, if_pos rfl]; simp
    have e1 : (u : Int) < ((n + 1 : Nat) : Int) := by omega
    obtain ⟨x, hx⟩ : ∃ x, x = r.sc.getD u 0 := ⟨_, rfl⟩
    rw [← hx] at cu
    have HX := Lib.hid hx
    clear H h1 hx
    rw [HR.out] at HH
    go_enter Try.func23, Try.ntmps23
    go_wp2_with fail
    refine HH.out.mono ?_
    rintro e w' ⟨rfl, rfl⟩
    go_wp2
    go_ret
    refine ⟨?_, rfl⟩
    rw [HS.out, ← HX.out]; rfl
  · have HR : Hid (hasR n v = false) := has_not h1
    have HS : Hid (scoreR r.sc n v = 0) := by show _ = _; unfold scoreR; rw [HR.out]; rfl
    clear H h1
    rw [HR.out] at HH
    go_enter Try.func23, Try.ntmps23
    go_wp2_with fail
    refine HH.out.mono ?_
    rintro e w' ⟨rfl, rfl⟩
    go_wp2
    go_ret
    refine ⟨?_, rfl⟩
    rw [HS.out]; rfl

set_option maxRecDepth 100000 in
theorem rwaits_any (v : Int) (H : RW w p gs gw cs cw n r) : Calls Try.prog 24 #[.pointer (some ⟨p, 0, none⟩), .int .i64 v] w fun e w' => e = .returned (.bool (waitsR r.wt n v)) ∧ w = w' := by
  have c1 := H.c1
  have HH := Lib.hid (ris_any v H)
  by_cases h1 : 1 ≤ v ∧ v ≤ n
  · obtain ⟨u, rfl⟩ := Int.eq_ofNat_of_zero_le (show 0 ≤ v by omega)
    have cu := H.celW (i := u) (by omega)
    have HR : Hid (hasR n (u : Int) = true) := has_of (by omega) (by omega)
    have HS : Hid (waitsR r.wt n (u : Int) = r.wt.getD u false) := by show _ = _; unfold waitsR; rw [HR.out, Bool.true_and]; simp
    have e1 : (u : Int) < ((n + 1 : Nat) : Int) := by omega
    obtain ⟨x, hx⟩ : ∃ x, x = r.wt.getD u false := ⟨_, rfl⟩
    rw [← hx] at cu
    have HX := Lib.hid hx
    clear H h1 hx
    rw [HR.out] at HH
    go_enter Try.func24, Try.ntmps24
    go_wp2_with fail
    refine HH.out.mono ?_
    rintro e w' ⟨rfl, rfl⟩
    go_wp2
    go_ret
    refine ⟨?_, rfl⟩
    rw [HS.out, ← HX.out]; rfl
  · have HR : Hid (hasR n v = false) := has_not h1
    have HS : Hid (waitsR r.wt n v = false) := by show _ = _; unfold waitsR; rw [HR.out]; rfl
    clear H h1
    rw [HR.out] at HH
    go_enter Try.func24, Try.ntmps24
    go_wp2_with fail
    refine HH.out.mono ?_
    rintro e w' ⟨rfl, rfl⟩
    go_wp2
    go_ret
    refine ⟨?_, rfl⟩
    rw [HS.out]; rfl

/-- What is answered, and what the document's queue then is. -/
def RPost (w : World) (p gs gw cs cw n : Nat) (v : Value) (r : RQ) (e : Ending) (w' : World) : Prop := e = .returned v ∧ RW w' p gs gw cs cw n r ∧ Turn (Three p gs gw) w w'

set_option maxRecDepth 100000 in
theorem rback_any (v : Int) (H : RW w p gs gw cs cw n r) : Calls Try.prog 20 #[.pointer (some ⟨p, 0, none⟩), .int .i64 v] w (RPost w p gs gw cs cw n (.int .i64 (codeR n v)) (backV r n v)) := by
  have HH := Lib.hid (ris_any v H)
  have HW := Lib.hid H
  cases hv : hasR n v
  · have HC : Hid (codeR n v = 2) := by show _ = _; unfold codeR; rw [hv]; rfl
    have HV : Hid (backV r n v = r) := by show _ = _; unfold backV; rw [hv]; rfl
    rw [hv] at HH
    clear H hv
    go_enter Try.func20, Try.ntmps20
    go_wp2_with fail
    refine HH.out.mono ?_
    rintro e w1 ⟨rfl, rfl⟩
    go_wp2
    go_ret
    refine ⟨by rw [HC.out]; rfl, ?_, Turn.refl _ _⟩
    rw [HV.out]; exact HW.out
  · obtain ⟨u, rfl, h1, h2⟩ := has_nat hv
    have HC : Hid (codeR n (u : Int) = 0) := by show _ = _; unfold codeR; rw [hv]; rfl
    have HV : Hid (backV r n (u : Int) = backR r u) := by show _ = _; unfold backV; rw [hv, if_pos rfl]; simp
    rw [hv] at HH
    have c1 := H.c1
    have cu := H.celW h2
    have fw := H.fw u
    have e1 : (u : Int) < ((n + 1 : Nat) : Int) := by omega
    have HQ := Lib.hid (H.setW (r' := backR r u) u true rfl rfl rfl (H.ok.back h1))
    have HT := Lib.hid ((Turn.refl (Three p gs gw) w).setCell ⟨gw, u, none⟩ (Or.inr (Or.inr rfl)) (.bool true))
    clear H hv
    go_enter Try.func20, Try.ntmps20
    go_wp2_with fail
    refine HH.out.mono ?_
    rintro e w1 ⟨rfl, rfl⟩
    go_wp2
    go_ret
    refine ⟨by rw [HC.out]; rfl, ?_, HT.out⟩
    rw [HV.out]; exact HQ.out
end
end Go.Proofs.Ythedgbdnidghnaa
