/- propagation.derive, by its contract. -/
import Derived.Test.YtdngaohjocokiaaNBase
import Derived.Test.YtdngaohjocokiaaCuInv
import Derived.Test.YtdngaohjocokiaaCuMay
import Derived.Test.YtdngaohjocokiaaCuReg
import Derived.Test.YtdngaohjocokiaaCuMem
import Derived.Test.YtdngaohjocokiaaRows
import Derived.BigQuiet
import Derived.Conc.LoneSelect
import Derived.Deep.AppendLies
import Derived.Deep.CutRange
import Derived.Deep.QuietTactic
import Derived.Deep.RegionLaw
import Derived.Deep.RegionWith
import Derived.KernelRfl
import Derived.Laws.EntriesVeiled
import Derived.Lib.ConvBytes
import Derived.Lib.Hide
import Derived.Lib.SlBytesRow
import Derived.Lib.SmallJoins
import Derived.Shelf.Bytes.SlSmallAll
import Derived.WalkKit
import Derived.WalkLawsBesides
import Derived.WalkSpells
namespace Go.Proofs.Ytdngaohjocokiaa
open Go Go.RowKit Go.Joins

theorem quiet_after {P : Program} {f : FuncId} {args : Array Value} {w : World} {q x : Nat} {v : Value} (h : Calls P f args (w.drewN (q + x)) fun e w' => e = .returned v ∧ w' = w.drewN (q + x)) :
    Calls P f args (w.drewN (q + x)) fun e w' => e = .returned v ∧ ∃ n, w' = w.drewN (q + n) := h.mono fun _ _ ⟨h1, h2⟩ => ⟨h1, x, h2⟩
/-- What derive answers, and leaves. -/
def DerPost (wE : World) (y : PLay) (F : List Nat) (C : Array Value) (S : List Int) (r : Nat) (left : List Nat) (l : Int) (e : Ending) (w' : World) : Prop :=
  (-l ∈ S ∧ e = .returned (.bool false) ∧ PAt wE y F C S r left w') ∨ (-l ∉ S ∧ l ∈ S ∧ e = .returned (.bool true) ∧ PAt wE y F C S r left w') ∨
  (-l ∉ S ∧ l ∉ S ∧ e = .returned (.bool true) ∧ PAt wE y F C (S ++ [l]) r left w')
set_option maxRecDepth 100000 in
set_option maxHeartbeats 3200000 in
theorem derive_any (wE : World) (y : PLay) (F : List Nat) (C : Array Value) (S : List Int) (r : Nat) (left : List Nat) (l : Int) (w : World) (h : PAt wE y F C S r left w) (hv : VLit y.vars l) (hm : y.vars ≤ 4194304)
    (hg : wE.heap.size ≤ y.gD) (hgc : wE.heap.size ≤ y.gC) (hr : r ≤ S.length) (hroom : -l ∉ S → l ∉ S → S.length < y.cap) :
    Calls Try.prog 37 #[.pointer (some ⟨y.B, 0, none⟩), .int .i64 l] w (DerPost wE y F C S r left l) := by
  have b4 := h.b4
  have b5 := h.b5
  have hl := hv.2
  have hl0 := hv.1
  have d1 := h.d_at hv.neg
  have d2 := h.d_at hv
  have p1 := placeN_lt hv.neg.2
  have p2 := placeN_lt hv.2
  have W1 : IntKind.i64.wrap (-l) = -l := IntWalk.i64_in _ (by omega)
  have HP1 := Lib.hid (fun W => place_any (-l) (by rw [Int.natAbs_neg]; omega) W)
  have HP2 := Lib.hid (fun W => place_any l (by omega) W)
  obtain ⟨P1, hP1⟩ : ∃ P1, P1 = placeN (-l) := ⟨_, rfl⟩
  obtain ⟨P2, hP2⟩ : ∃ P2, P2 = placeN l := ⟨_, rfl⟩
  obtain ⟨M, hM⟩ : ∃ M, M = y.m := ⟨_, rfl⟩
  obtain ⟨B, hB⟩ : ∃ B, B = y.B := ⟨_, rfl⟩
  obtain ⟨GD, hGD⟩ : ∃ GD, GD = y.gD := ⟨_, rfl⟩
  obtain ⟨GC, hGC⟩ : ∃ GC, GC = y.gC := ⟨_, rfl⟩
  have i1 : (P1 : Int) < (M : Int) := by rw [hP1, hM]; unfold PLay.m; omega
  have i2 : (P2 : Int) < (M : Int) := by rw [hP2, hM]; unfold PLay.m; omega
  rw [← hP1] at d1 HP1
  rw [← hP2] at d2 HP2
  rw [← hGD] at d1 d2 b4
  rw [← hM] at b4
  rw [← hB] at b4 b5
  rw [← hGC] at b5
  rw [← hB]
  have HH := Lib.hid h
  have HPP := Lib.hid hP2
  have HGD := Lib.hid hGD
  have HGC := Lib.hid hGC
  have HB := Lib.hid hB
  have HM := Lib.hid hM
  have HR := Lib.hid hroom
  clear hP1 hP2 hM hGD hGC hB h hroom p1 p2
  have HL : Hid (∀ W, PAt wE y F C S r left W → W.cell? ⟨B, 4, none⟩ = some (.slice (some ⟨GD, 0, none⟩) M M) ∧ W.cell? ⟨B, 5, none⟩ = some (.chan (some GC)) ∧ W.cell? ⟨GD, P2, none⟩ = some (.bool (decide (l ∈ S))) ∧ W.frozen? ⟨GD, P2, none⟩ = false) := fun W hW => by
    rw [HB.out, HGD.out, HM.out, HGC.out, HPP.out]
    obtain ⟨D, _, hD2⟩ := hW.hD
    exact ⟨hW.b4, hW.b5, hW.d_at hv, unfrozen_of_block hD2 _⟩
  clear b4 b5 d2
  obtain ⟨b4, b5, d2, f2⟩ := HL.out w HH.out
  by_cases hn : -l ∈ S
  · rw [decide_eq_true hn] at d1
    have HN := Lib.hid hn
    clear hn
    go_enter Try.func37, Try.ntmps37
    go_wp2
    go_quiet ((go_at_call 23; exact Calls.quiet_of_same (HP1.out _)))
    go_wp2
    go_ret
    exact .inl ⟨HN.out, rfl, HH.out.below (ext_drewN _ _)⟩
  · rw [decide_eq_false hn] at d1
    have HN := Lib.hid hn
    clear hn
    go_enter Try.func37, Try.ntmps37
    go_wp2
    go_quiet ((go_at_call 23; exact Calls.quiet_of_same (HP1.out _)))
    generalize hW2 : w.drewN nq = w2
    have h2 := HH.out.below (show Below w.heap.size w w2 by subst hW2; exact ext_drewN _ _)
    clear hW2 b4 b5 d1 d2 f2 nq
    obtain ⟨b4, b5, d2, f2⟩ := HL.out w2 h2
    have H2 := Lib.hid h2
    clear h2
    by_cases hs : l ∈ S
    · rw [decide_eq_true hs] at d2
      have HS := Lib.hid hs
      clear hs
      go_wp2
      go_quiet ((go_at_call 23; exact Calls.quiet_of_same (HP2.out _)))
      go_wp2
      go_ret
      exact .inr (.inl ⟨HN.out, HS.out, rfl, H2.out.below (ext_drewN _ _)⟩)
    · rw [decide_eq_false hs] at d2
      have HS := Lib.hid hs
      clear hs
      go_wp2
      go_quiet ((go_at_call 23; exact Calls.quiet_of_same (HP2.out _)))
      generalize hW3 : w2.drewN nq = w3
      have h3 := H2.out.below (show Below w2.heap.size w2 w3 by subst hW3; exact ext_drewN _ _)
      clear hW3 b4 b5 d2 f2 nq
      obtain ⟨b4, b5, d2, f2⟩ := HL.out w3 h3
      have H3 := Lib.hid h3
      clear h3
      go_wp2
      have h4 := (H3.out.below (show Below w3.heap.size w3 w3.drew from (Below.refl _ _).drew)).sent hg hgc hv hr
      have e4 : ((w3.drew.setCell ⟨y.gD, placeN l, none⟩ (.bool true))) = (w3.setCell ⟨GD, P2, none⟩ (.bool true)).drew := by rw [HGD.out, HPP.out]; rfl
      rw [e4, ← HGC.out] at h4
      have k5 : (w3.setCell ⟨GD, P2, none⟩ (.bool true)).drew.cell? ⟨B, 5, none⟩ = some (.chan (some GC)) := by
        have hb := H3.out.hD
        obtain ⟨D, _, hD2⟩ := hb
        have nB := ne_cells hD2 H3.out.box (by decide)
        have : (w3.setCell ⟨GD, P2, none⟩ (.bool true)).heap[B]? = w3.heap[B]? := Below.heap_setCell _ _ _ _ (by rw [HGD.out, HB.out]; exact fun e => nB e.symm)
        have hbx := H3.out.box
        rw [← HB.out] at hbx
        exact (cell_of_block (w := (w3.setCell ⟨GD, P2, none⟩ (.bool true)).drew) (this.trans hbx) 5).trans (by rw [HGC.out]; rfl)
      have kC : (w3.setCell ⟨GD, P2, none⟩ (.bool true)).drew.heap[GC]? = some (.chan y.cap (qv S r) false S.length r false) := by
        obtain ⟨D, _, hD2⟩ := H3.out.hD
        have nC := ne_chan hD2 H3.out.hC
        have : (w3.setCell ⟨GD, P2, none⟩ (.bool true)).heap[GC]? = w3.heap[GC]? := Below.heap_setCell _ _ _ _ (by rw [HGD.out, HGC.out]; exact fun e => nC e.symm)
        have hbx := H3.out.hC
        rw [← HGC.out] at hbx
        exact this.trans hbx
      have hrm : (qv S r).size < y.cap := by rw [qv_size]; have := HR.out HN.out HS.out; omega
      have H4 := Lib.hid h4
      have HK5 := Lib.hid k5
      have HKC := Lib.hid kC
      have HRM := Lib.hid hrm
      clear e4 h4 k5 kC hrm
      go_region_law (go_simp; go_at_call 23; refine (HP2.out _).mono ?_; rintro e w1 ⟨rfl, rfl⟩)
      all_goals go_upto_region 5 with fail
      all_goals (refine reg_send B GC y.cap S.length r (qv S r) l _ HK5.out HKC.out HRM.out _ ?_)
      all_goals go_wp2
      all_goals go_ret
      all_goals (exact .inr (.inr ⟨HN.out, HS.out, rfl, H4.out⟩))
end Go.Proofs.Ytdngaohjocokiaa
