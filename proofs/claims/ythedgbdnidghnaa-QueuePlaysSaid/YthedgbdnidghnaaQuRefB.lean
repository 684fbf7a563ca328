/- The document's queue: down, Bump, Fade, by their contracts. -/
import Derived.Test.YthedgbdnidghnaaNBase
import Derived.Test.YthedgbdnidghnaaQuPure
import Derived.Test.YthedgbdnidghnaaQuW
import Derived.Test.YthedgbdnidghnaaQuLess
import Derived.Test.YthedgbdnidghnaaQuOps
import Derived.Test.YthedgbdnidghnaaQuRefW
import Derived.Test.YthedgbdnidghnaaRows
import Derived.ArgAppend
import Derived.BigQuiet
import Derived.Deep.AppendLies
import Derived.Deep.CutRange
import Derived.Deep.QuietTactic
import Derived.Deep.RegionHeld3
import Derived.Deep.RegionLaw
import Derived.Deep.RegionWith
import Derived.KernelRfl
import Derived.Laws.EntriesVeiled
import Derived.Lib.ConvBytes
import Derived.Lib.Hide
import Derived.Lib.SlBytesRow
import Derived.Lib.SmallJoins
import Derived.OrdersHeld
import Derived.Shelf.Bytes.SlSmallAll
import Derived.WalkKit
import Derived.WalkLawsBesides
import Derived.WalkSpells
namespace Go.Proofs.Ythedgbdnidghnaa
open Go Go.RowKit Go.Joins

/-- Where the document's queue lies, whatever its numbers are. -/
structure RB (w : World) (p gs gw cs cw n st : Nat) (sc : List Nat) (wt : List Bool) : Prop where
  ps : p ≠ gs
  pw : p ≠ gw
  sw : gs ≠ gw
  box : w.heap[p]? = some (.cells #[.slice (some ⟨gs, 0, none⟩) (n + 1) cs, .slice (some ⟨gw, 0, none⟩) (n + 1) cw, .int .u64 (st : Int)] 54 (0, 0))
  rs : ∃ cur, w.heap[gs]? = some (.cells cur 43 (0, 0)) ∧ ∀ i, i ≤ n → cur[i]? = some (u6 (sc.getD i 0))
  rw_ : ∃ cur, w.heap[gw]? = some (.cells cur 4 (0, 0)) ∧ ∀ i, i ≤ n → cur[i]? = some (.bool (wt.getD i false))
  ls : sc.length = n + 1

section
variable {w w' : World} {p gs gw cs cw n st : Nat} {sc : List Nat} {wt : List Bool} {r : RQ}
theorem RW.rb (H : RW w p gs gw cs cw n r) : RB w p gs gw cs cw n r.st r.sc r.wt := ⟨H.ps, H.pw, H.sw, H.box, H.rs, H.rw_, H.ok.ls⟩
theorem RB.rw (H : RB w p gs gw cs cw n st sc wt) (ok : (RQ.mk st sc wt).Ok n) : RW w p gs gw cs cw n ⟨st, sc, wt⟩ := ⟨H.ps, H.pw, H.sw, H.box, H.rs, H.rw_, ok⟩
theorem RB.drew (H : RB w p gs gw cs cw n st sc wt) : RB w.drew p gs gw cs cw n st sc wt := by
  obtain ⟨a, b, c, d, ⟨c1, e1, f1⟩, ⟨c2, e2, f2⟩, g⟩ := H
  exact ⟨a, b, c, d, ⟨c1, e1, f1⟩, ⟨c2, e2, f2⟩, g⟩
theorem RB.setS (H : RB w p gs gw cs cw n st sc wt) (i x : Nat) : RB (w.setCell ⟨gs, i, none⟩ (.int .u64 (x : Int))) p gs gw cs cw n st (sc.set i x) wt := by
  obtain ⟨a, b, c, d, ⟨c1, e1, f1⟩, ⟨c2, e2, f2⟩, g⟩ := H
  refine ⟨a, b, c, other_cell w d a, ⟨_, block_setCell e1 _, fun j hj => ?_⟩, ⟨c2, other_cell w e2 (Ne.symm c), f2⟩, by simpa using g⟩
  rw [Array.getElem?_setIfInBounds]
  by_cases e : i = j
  · subst e
    have := f1 i hj
    have hlt : i < c1.size := (Array.getElem?_eq_some_iff.1 this).1
    rw [if_pos rfl, if_pos hlt, getD_setE _ _ _ _ (by omega)]; rfl
  · rw [if_neg e, f1 j hj, getD_setN _ _ _ _ _ (Ne.symm e)]
theorem RB.setSt (H : RB w p gs gw cs cw n st sc wt) (x : Nat) : RB (w.setCell ⟨p, 2, none⟩ (.int .u64 (x : Int))) p gs gw cs cw n x sc wt := by
  obtain ⟨a, b, c, d, ⟨c1, e1, f1⟩, ⟨c2, e2, f2⟩, g⟩ := H
  refine ⟨a, b, c, ?_, ⟨c1, other_cell w e1 (Ne.symm a), f1⟩, ⟨c2, other_cell w e2 (Ne.symm b), f2⟩, g⟩
  have := block_setCell d (i := 2) (.int .u64 (x : Int))
  simpa using this
theorem RB.c0 (H : RB w p gs gw cs cw n st sc wt) : w.cell? ⟨p, 0, none⟩ = some (.slice (some ⟨gs, 0, none⟩) (n + 1) cs) := cell_of_block H.box 0
theorem RB.c2 (H : RB w p gs gw cs cw n st sc wt) : w.cell? ⟨p, 2, none⟩ = some (.int .u64 (st : Int)) := cell_of_block H.box 2
theorem RB.fp (H : RB w p gs gw cs cw n st sc wt) (i : Nat) : w.frozen? ⟨p, i, none⟩ = false := unfrozen_of_block H.box i
theorem RB.fs (H : RB w p gs gw cs cw n st sc wt) (i : Nat) : w.frozen? ⟨gs, i, none⟩ = false := by obtain ⟨_, h, _⟩ := H.rs; exact unfrozen_of_block h i
theorem RB.celS (H : RB w p gs gw cs cw n st sc wt) {i : Nat} (hi : i ≤ n) : w.cell? ⟨gs, i, none⟩ = some (.int .u64 (sc.getD i 0 : Nat)) := by
  obtain ⟨_, h, k⟩ := H.rs; exact (cell_of_block h i).trans (k i hi)

def DownPost (w : World) (p gs gw cs cw n st : Nat) (sc : List Nat) (wt : List Bool) (e : Ending) (w' : World) : Prop :=
  e = .returned (.tuple #[]) ∧ RB w' p gs gw cs cw n (max (st / 16777216) 1) (sc.map (· / 16777216)) wt ∧ Turn (Three p gs gw) w w'

set_option maxRecDepth 100000 in
set_option maxHeartbeats 800000 in
theorem rdown12_any (H : RB w p gs gw cs cw n st sc wt) (hn : n ≤ 4194304) (hst : st ≤ 18446744073709551615) (hs : ∀ v, sc.getD v 0 ≤ 18446744073709551615) :
    Calls Try.prog 32 #[.pointer (some ⟨p, 0, none⟩)] w (DownPost w p gs gw cs cw n st sc wt) := by
  have HW := Lib.hid H
  obtain ⟨st', hst'⟩ : ∃ st', st' = max (st / 16777216) 1 := ⟨_, rfl⟩
  have E2 : max ((st : Int) / 16777216) 1 = (st' : Int) := by omega
  have WS : IntKind.u64.wrap ((st : Int) / 16777216) = (st : Int) / 16777216 := IntWalk.u64_in _ (by omega)
  have HST' := Lib.hid hst'
  have HS := Lib.hid hs
  clear H hst' hst hs
  go_enter Try.func32, Try.ntmps32
  go_wp2
  go_loopw [2] (fun iv wr => ∃ (i : Nat) (l : List Nat), iv = .int .i64 i ∧ i ≤ n + 1 ∧ Hid (RB wr p gs gw cs cw n st l wt) ∧ Hid (Part sc l i) ∧ Hid (Turn (Three p gs gw) w wr)) (fun iv _ => n + 1 - (intOf iv).toNat)
  case atStart => exact ⟨0, sc, rfl, by omega, HW.out, part_zero sc, Turn.refl _ _⟩
  case round =>
    obtain ⟨i, l, rfl, hi, hq, hp', ht⟩ := hrel
    have c0 := hq.out.c0
    by_cases hin : i < n + 1
    · have e1 : decide ((i : Int) < ((n + 1 : Nat) : Int)) = true := by simp; omega
      have e1n : decide (i < n + 1) = true := by simp; omega
      have e1c : decide ((i : Int) < (n : Int) + 1) = true := by simp; omega
      have cS := hq.out.celS (i := i) (by omega)
      obtain ⟨x, hx⟩ : ∃ x, x = l.getD i 0 := ⟨_, rfl⟩
      rw [← hx] at cS
      have fs := hq.out.fs i
      have k1 : (i : Int) < ((n + 1 : Nat) : Int) := by omega
      have W1 : IntKind.i64.wrap ((i : Int) + 1) = (i : Int) + 1 := IntWalk.i64_in _ (by omega)
      obtain ⟨x', hx'⟩ : ∃ x', x' = x / 16777216 := ⟨_, rfl⟩
      have X1 : (x : Int) / 16777216 = (x' : Int) := by omega
      have hxb : x ≤ 18446744073709551615 := by
        have := hp'.out.2 i
        rw [if_neg (by omega)] at this
        rw [hx, this]; exact HS.out i
      have WX : IntKind.u64.wrap (x' : Int) = (x' : Int) := IntWalk.u64_in _ (by omega)
      have HX := Lib.hid hx
      have HX' := Lib.hid hx'
      have HIN := Lib.hid hin
      have HQ := Lib.hid (hq.out.setS i x').drew
      have HT := Lib.hid (ht.out.setCell ⟨gs, i, none⟩ (Or.inr (Or.inl rfl)) (.int .u64 (x' : Int))).drew
      clear hx hx' hin
      go_wp2
      go_region
      go_wp2
      go_roundw
      case rel =>
        refine ⟨i + 1, l.set i x', by go_num, by have := HIN.out; omega, HQ.out, ?_, HT.out⟩
        show Part _ _ _
        rw [HX'.out, HX.out]
        exact part_step hp'.out (by have := HW.out.ls; have := HIN.out; omega)
      case measure => have := HIN.out; simp [intOf]; omega
    · have e1 : decide ((i : Int) < ((n + 1 : Nat) : Int)) = false := by simp; omega
      have e1n : decide (i < n + 1) = false := by simp; omega
      have e1c : decide ((i : Int) < (n : Int) + 1) = false := by simp; omega
      have hs2 : l = sc.map (· / 16777216) := part_end hp'.out (by have := HW.out.ls; omega)
      have hq2 := hq.out
      rw [hs2] at hq2
      have c2 := hq2.c2
      have fp := hq2.fp 2
      have HQ3 := Lib.hid (hq2.setSt st')
      have HT3 := Lib.hid (ht.out.setCell ⟨p, 2, none⟩ (Or.inl rfl) (.int .u64 (st' : Int)))
      clear hs2 hq2 hin hp' ht hq
      go_wp2
      go_end0
      refine ⟨rfl, ?_, HT3.out⟩
      rw [← HST'.out]
      exact HQ3.out

set_option maxRecDepth 100000 in
set_option maxHeartbeats 800000 in
theorem rfade12_any (H : RW w p gs gw cs cw n r) : Calls Try.prog 22 #[.pointer (some ⟨p, 0, none⟩)] w (RPost w p gs gw cs cw n (.tuple #[]) (fadeR r)) := by
  have nm := H.ok.nm; have s0 := H.ok.s0; have s1 := H.ok.s1
  have c2 := H.c2
  have fp := H.fp 2
  obtain ⟨d, hd⟩ : ∃ d, d = r.st / 8 := ⟨_, rfl⟩
  obtain ⟨x, hx⟩ : ∃ x, x = r.st + r.st / 8 + 1 := ⟨_, rfl⟩
  obtain ⟨st, hst⟩ : ∃ st, st = r.st := ⟨_, rfl⟩
  rw [← hst] at c2 hd hx s0 s1
  have E1 : (st : Int) / 8 = (d : Int) := by omega
  have E2 : (st : Int) + (d : Int) + 1 = (x : Int) := by omega
  have W1 : IntKind.u64.wrap ((st : Int) + (d : Int)) = (st : Int) + (d : Int) := IntWalk.u64_in _ (by omega)
  have W2 : IntKind.u64.wrap ((st : Int) + (d : Int) + 1) = (x : Int) := (IntWalk.u64_in _ (by omega)).trans (by omega)
  have HQ1 := Lib.hid (H.rb.setSt x).drew
  have HT1 := Lib.hid ((Turn.refl (Three p gs gw) w).setCell ⟨p, 2, none⟩ (Or.inl rfl) (.int .u64 (x : Int))).drew
  have HR := Lib.hid H
  have HX : Hid (x = r.st + r.st / 8 + 1) := by show _ = _; rw [hx, hst]
  have hxb : x ≤ 1125899906842624 := by omega
  clear H hd hx hst
  by_cases hbig : 281474976710656 < x
  · have e1 : decide ((281474976710656 : Int) < (x : Int)) = true := by simp; omega
    have e1n : decide (281474976710656 < x) = true := by simp; omega
    have HF : Hid (fadeR r = downR (moreR r)) := by show _ = _; unfold fadeR; rw [if_pos (by rw [← HX.out]; exact hbig)]
    clear hbig
    go_enter Try.func22, Try.ntmps22
    go_wp2
    go_region
    generalize (w.setCell ⟨p, 2, none⟩ (.int .u64 (x : Int))).drew = w1 at HQ1 HT1
    have c2' := HQ1.out.c2
    go_wp2_with fail
    refine (rdown12_any HQ1.out nm (by omega) (fun v => Nat.le_trans (HR.out.ok.sb v) (by omega))).mono ?_
    rintro e w2 ⟨rfl, hq2, ht2⟩
    have HQ2 := Lib.hid hq2
    have HT2 := Lib.hid (HT1.out.trans ht2)
    clear hq2 ht2 c2'
    go_wp2
    go_end0
    have hk := HR.out.ok.fade
    refine ⟨rfl, ?_, HT2.out⟩
    rw [HF.out] at hk ⊢
    have hq := HQ2.out
    rw [HX.out] at hq
    exact hq.rw hk
  · have e1 : decide ((281474976710656 : Int) < (x : Int)) = false := by simp; omega
    have e1n : decide (281474976710656 < x) = false := by simp; omega
    have HF : Hid (fadeR r = moreR r) := by show _ = _; unfold fadeR; rw [if_neg (by rw [← HX.out]; exact hbig)]
    clear hbig
    go_enter Try.func22, Try.ntmps22
    go_wp2
    go_region
    generalize (w.setCell ⟨p, 2, none⟩ (.int .u64 (x : Int))).drew = w1 at HQ1 HT1
    have c2' := HQ1.out.c2
    go_wp2
    go_end0
    have hk := HR.out.ok.fade
    refine ⟨rfl, ?_, HT1.out⟩
    rw [HF.out] at hk ⊢
    have hq := HQ1.out
    rw [HX.out] at hq
    exact hq.rw hk

set_option maxRecDepth 100000 in
set_option maxHeartbeats 800000 in
theorem rbump12_any (v : Int) (H : RW w p gs gw cs cw n r) : Calls Try.prog 21 #[.pointer (some ⟨p, 0, none⟩), .int .i64 v] w (RPost w p gs gw cs cw n (.int .i64 (codeR n v)) (bumpV r n v)) := by
  have nm := H.ok.nm; have s0 := H.ok.s0; have s1 := H.ok.s1
  have HH := Lib.hid (ris_any v H)
  have HR := Lib.hid H
  cases hv : hasR n v
  · have HC : Hid (codeR n v = 2) := by show _ = _; unfold codeR; rw [hv]; rfl
    have HV : Hid (bumpV r n v = r) := by show _ = _; unfold bumpV; rw [hv]; rfl
    rw [hv] at HH
    clear H hv
    go_enter Try.func21, Try.ntmps21
    go_wp2_with fail
    refine HH.out.mono ?_
    rintro e w1 ⟨rfl, rfl⟩
    go_wp2
    go_ret
    refine ⟨by rw [HC.out]; rfl, ?_, Turn.refl _ _⟩
    rw [HV.out]; exact HR.out
  · obtain ⟨u, rfl, h1, h2⟩ := has_nat hv
    have HC : Hid (codeR n (u : Int) = 0) := by show _ = _; unfold codeR; rw [hv]; rfl
    have HV : Hid (bumpV r n (u : Int) = bumpR r u) := by show _ = _; unfold bumpV; rw [hv, if_pos rfl]; simp
    rw [hv] at HH
    have c0 := H.c0
    have c2 := H.c2
    have cS := H.celS h2
    have fs := H.fs u
    obtain ⟨y, hy⟩ : ∃ y, y = r.sc.getD u 0 := ⟨_, rfl⟩
    have hyb : y ≤ 281474976710656 := by rw [hy]; exact H.ok.sb u
    rw [← hy] at cS
    obtain ⟨st, hst⟩ : ∃ st, st = r.st := ⟨_, rfl⟩
    rw [← hst] at c2 s0 s1
    obtain ⟨x, hx⟩ : ∃ x, x = y + st := ⟨_, rfl⟩
    have E2 : (y : Int) + (st : Int) = (x : Int) := by omega
    have W2 : IntKind.u64.wrap ((y : Int) + (st : Int)) = (x : Int) := (IntWalk.u64_in _ (by omega)).trans (by omega)
    have hxb : x ≤ 562949953421312 := by omega
    have HQ1 := Lib.hid (H.rb.setS u x).drew
    have HT1 := Lib.hid ((Turn.refl (Three p gs gw) w).setCell ⟨gs, u, none⟩ (Or.inr (Or.inl rfl)) (.int .u64 (x : Int))).drew
    have HX : Hid (x = r.sc.getD u 0 + r.st) := by show _ = _; rw [hx, hy, hst]
    have HSB : Hid (∀ v, (r.sc.set u x).getD v 0 ≤ 562949953421312) := fun v => by
      rw [getD_setQ]; have := H.ok.sb v
      split
      · exact hxb
      · omega
    have HUL : Hid (u < r.sc.length) := by show _ < _; rw [H.ok.ls]; omega
    have hun : (u : Int) < ((n + 1 : Nat) : Int) := by omega
    clear H hv hy hst hx
    go_enter Try.func21, Try.ntmps21
    go_wp2_with fail
    refine HH.out.mono ?_
    rintro e w1 ⟨rfl, rfl⟩
    go_wp2
    go_region
    generalize (w.setCell ⟨gs, u, none⟩ (.int .u64 (x : Int))).drew = w1 at HQ1 HT1
    clear c0 c2 cS fs
    have c0 := HQ1.out.c0
    have cS := HQ1.out.celS h2
    rw [getD_setE _ _ _ _ HUL.out] at cS
    by_cases hbig : 281474976710656 < x
    · have e1 : decide ((281474976710656 : Int) < (x : Int)) = true := by simp; omega
      have e1n : decide (281474976710656 < x) = true := by simp; omega
      have HF : Hid (bumpR r u = downR (addR r u)) := by show _ = _; unfold bumpR; rw [if_pos (by rw [← HX.out]; exact hbig)]
      clear hbig
      go_wp2_with fail
      refine (rdown12_any HQ1.out nm (by have := HR.out.ok.s1; omega) (fun v => Nat.le_trans (HSB.out v) (by omega))).mono ?_
      rintro e w4 ⟨rfl, hq4, ht4⟩
      have HQ4 := Lib.hid hq4
      have HT4 := Lib.hid (HT1.out.trans ht4)
      clear hq4 ht4 c0 cS
      go_wp2
      go_ret
      refine ⟨by rw [HC.out]; rfl, ?_, HT4.out⟩
      have hk := HR.out.ok.bump u
      have hq := HQ4.out
      rw [HX.out] at hq
      rw [HV.out]
      rw [HF.out] at hk ⊢
      exact hq.rw hk
    · have e1 : decide ((281474976710656 : Int) < (x : Int)) = false := by simp; omega
      have e1n : decide (281474976710656 < x) = false := by simp; omega
      have HF : Hid (bumpR r u = addR r u) := by show _ = _; unfold bumpR; rw [if_neg (by rw [← HX.out]; exact hbig)]
      clear hbig
      go_wp2
      go_ret
      refine ⟨by rw [HC.out]; rfl, ?_, HT1.out⟩
      have hk := HR.out.ok.bump u
      have hq := HQ1.out
      rw [HX.out] at hq
      rw [HV.out]
      rw [HF.out] at hk ⊢
      exact hq.rw hk
end
end Go.Proofs.Ythedgbdnidghnaa
