/- slices.AppendSeq, slices.Collect over the run's iterator, by their contracts. -/
import Derived.Test.YtjmdgbdlhaaefaaLib
import Derived.Test.YtjmdgbdlhaaefaaOwn
import Derived.Test.YtjmdgbdlhaaefaaOwnStr
import Derived.Test.YtjmdgbdlhaaefaaNBase
import Derived.Test.YtjmdgbdlhaaefaaNOwnsN
import Derived.Test.YtjmdgbdlhaaefaaNStep
import Derived.Test.YtjmdgbdlhaaefaaNSpec
import Derived.Test.YtjmdgbdlhaaefaaNVal
import Derived.Test.YtjmdgbdlhaaefaaNTrace
import Derived.Test.YtjmdgbdlhaaefaaNHeap
import Derived.Test.YtjmdgbdlhaaefaaNCopyTr
import Derived.Test.YtjmdgbdlhaaefaaSRange
import Derived.Test.YtjmdgbdlhaaefaaSRun
import Derived.Test.YtjmdgbdlhaaefaaSVerd
import Derived.Test.YtjmdgbdlhaaefaaRows
import Derived.BigQuiet
import Derived.Deep.AppendLies
import Derived.Deep.CutRange
import Derived.Deep.QuietTactic
import Derived.Deep.RegionHeld3
import Derived.Deep.RegionLaw
import Derived.Deep.RegionWith
import Derived.KernelRfl
import Derived.Laws.Bits64b
import Derived.Laws.BitsAllLaws
import Derived.Laws.BitsLemmas
import Derived.Laws.EntriesVeiled
import Derived.Laws.Tables
import Derived.Lib.AppendStr
import Derived.Lib.AppendZeros
import Derived.Lib.ConvBytes
import Derived.Lib.Hide
import Derived.Lib.SlBytesRow
import Derived.Lib.SmallJoins
import Derived.LoopIn
import Derived.LoopNIn
import Derived.Maps.AppendAt
import Derived.OrdersHeld
import Derived.OrdersIn
import Derived.OwnWalkIn
import Derived.RangeFuncBox
import Derived.RangeFuncCalls
import Derived.RangeFuncLeaves
import Derived.RangeFuncNested
import Derived.RangeFuncWrites
import Derived.Shelf.Abstract
import Derived.Shelf.Bytes.SlSmallAll
import Derived.Shelf.RegionOpen
import Derived.Sort.CutIn
import Derived.Stop.RegionWithIn
import Derived.TacticsInMore
import Derived.WalkKit
import Derived.WalkLawsBesides
import Derived.WalkSpells
namespace Go.Proofs.Ytjmdgbdlhaaefaa
open Go Go.RowKit Go.Joins
attribute [local go_sem] Oper.semAt_some

/-- What has been gathered: k slices, each a row of its own. -/
structure GInv (c : NormC) (t : TraceC) (w : World) (H B k : Nat) (W : World) (v : Value) (ss : List Slc) : Prop where
  len : ss.length = k
  box : W.heap[H]? = some (.cells #[v] 28 (0, 0))
  row : W.ownsRow w.heap.size 27 1 v k (ss.map slV)
  rows : ∀ j, j < k → Row isByte W w.heap.size 5 (slV (ss.getD j slc0)) (varsAt c t j).length ((varsAt c t j).map bv)
  low : Below w.heap.size w W
theorem GInv.below {c : NormC} {t : TraceC} {w : World} {H B k : Nat} {W W' : World} {v : Value} {ss : List Slc} (h : GInv c t w H B k W v ss) (hb : Below W.heap.size W W') : GInv c t w H B k W' v ss :=
  ⟨h.len, heap_below h.box hb, ownsN_below h.row hb, fun j hj => (h.rows j hj).below hb, ext_trans h.low hb⟩
theorem row_put {ok : Value → Prop} {w : World} {base : Nat} {e : TypeId} {v : Value} {n : Nat} {xs : List Value} (h : Row ok w base e v n xs) {l : Nat} {o o' : Obj} (hl : w.heap[l]? = some o) (ho : o.isCells = false) : Row ok (w.putObj l o') base e v n xs :=
  h.other fun q hq => World.putObj_heap_other (fun e2 => by
    subst e2
    rcases h.2 with ⟨h1, _⟩ | ⟨g, cap, cur, h1, _, h2, _⟩
    · rw [h1] at hq; cases hq
    · rw [h1] at hq
      have : g = q := by simpa [Value.ownBlock] using hq
      subst this
      rw [hl] at h2; cases h2; cases ho)
theorem owns_put {w : World} {base sz : Nat} {e : TypeId} {v : Value} {n : Nat} {xs : List Value} (h : w.ownsRow base e sz v n xs) {l : Nat} {o o' : Obj} (hl : w.heap[l]? = some o) (ho : o.isCells = false) : (w.putObj l o').ownsRow base e sz v n xs :=
  ownsN_other h fun q hq => World.putObj_heap_other (fun e2 => by
    subst e2
    rcases h.2 with ⟨h1, _⟩ | ⟨g, cap, cur, h1, _, h2, _⟩
    · rw [h1] at hq; cases hq
    · rw [h1] at hq
      have : g = q := by simpa [Value.ownBlock] using hq
      subst this
      rw [hl] at h2; cases h2; cases ho)
theorem GInv.put {c : NormC} {t : TraceC} {w : World} {H B k : Nat} {W : World} {v : Value} {ss : List Slc} (h : GInv c t w H B k W v ss) {l : Nat} {o o' : Obj} (hB : w.heap.size ≤ l) (hl : W.heap[l]? = some o) (ho : o.isCells = false) : GInv c t w H B k (W.putObj l o') v ss :=
  ⟨h.len, (World.putObj_heap_other (fun e => by subst e; have := h.box; rw [hl] at this; cases this; cases ho)).trans h.box, owns_put h.row hl ho, fun j hj => row_put (h.rows j hj) hl ho, h.low.grown (grownBy_putObj' W l o') h.low.size (fun k e => by cases e; exact hB)⟩

set_option maxRecDepth 100000 in
set_option maxHeartbeats 3200000 in
theorem appendseq_any (c : NormC) (s : CSlots) (t : TraceC) (st : TSlots) (w0 : World) (sb kb cb tb : Nat) (w : World)
    (hw0 : w0.heap.size ≤ w.heap.size) (hR : ∀ W : World, Below w.heap.size w W → w.heap.size < W.heap.size → RunAt c s t st w0 sb kb cb tb w.heap.size w.heap.size W) :
    Calls Try.prog 68 #[.slice none 0 0, .func (.func 69) #[] #[.pointer (some ⟨sb, 0, none⟩), .pointer (some ⟨kb, 0, none⟩), .pointer (some ⟨cb, 0, none⟩)]] w
      fun e W' => ∃ (v : Value) (ss : List Slc), e = .returned v ∧ ss.length = t.frames.length ∧ W'.ownsRow w.heap.size 27 1 v t.frames.length (ss.map slV) ∧ (∀ j, j < t.frames.length → Row isByte W' w.heap.size 5 (slV (ss.getD j slc0)) (varsAt c t j).length ((varsAt c t j).map bv)) ∧ Below w.heap.size w W' := by
  refine (callsIn_wide (n := 0)).1 ?_
  refine callsIn_of_wp_marks Try.func68 rfl trivial ?_ rfl
  simp only [Try.ntmps68, List.size_toArray, List.length_cons, List.length_nil, Nat.reduceAdd, Nat.reduceSub, Array.replicate_succ, Array.replicate_zero, List.push_toArray, List.append_toArray, List.nil_append, List.cons_append]
  have HW0 : Hid (w0.heap.size ≤ w.heap.size) := hw0
  have HR := Lib.hid hR
  clear hR hw0
  gi_wp2
  obtain ⟨W1, hW1⟩ : ∃ W1, W1 = w.alloc (.cells #[.slice none 0 0] 28) := ⟨_, rfl⟩
  rw [← hW1]
  have hb1 : Below w.heap.size w W1 := by rw [hW1]; exact ext_alloc _ _
  have hx1 : W1.heap[w.heap.size]? = some (.cells #[.slice none 0 0] 28 (0, 0)) := by rw [hW1]; exact heap_new _ _ _ rfl
  have hlt1 : w.heap.size < W1.heap.size := heap_lt hx1
  have HRA := Lib.hid (HR.out W1 hb1 hlt1)
  have HLT := Lib.hid hlt1
  clear hW1 HR hlt1
  obtain ⟨i0, hi, hz0, hz1, hz2⟩ := info_parts info_u8s
  refine wp_rangeFunc (gf := 69) (lb := #[.pointer (some ⟨sb, 0, none⟩), .pointer (some ⟨kb, 0, none⟩), .pointer (some ⟨cb, 0, none⟩)]) rfl (enters_of Try.func69 (by kernel_rfl) rfl)
    (run1_iter c s t st w0 sb kb cb tb w.heap.size w.heap.size W1 HRA.out) Kpt.trans (fun W l o o' hl h ho => Kpt.put W l o o' (Nat.le_trans HRA.out.low.size hl) h ho)
    (fun k xs W h => by obtain ⟨a, cp, e, _⟩ := h; rw [e]; rfl) (elem_puts _ _ _)
    (fun k W => ∃ v ss, GInv c t w w.heap.size 0 k W v ss) (fun k A B h hb => by obtain ⟨v, ss, h⟩ := h; exact ⟨v, ss, h.below hb⟩) (fun k A l o o' h hl ho hc => by obtain ⟨v, ss, h⟩ := h; exact ⟨v, ss, h.put (Nat.le_trans hb1.size hl) ho hc⟩)
    ⟨.slice none 0 0, [], rfl, hx1, ⟨rfl, .inl ⟨rfl, rfl⟩⟩, fun j hj => absurd hj (by omega), hb1⟩
    (fun xs => { tmps := #[.slice none 0 0, .func (.func 69) #[] #[.pointer (some ⟨sb, 0, none⟩), .pointer (some ⟨kb, 0, none⟩), .pointer (some ⟨cb, 0, none⟩)], .pointer (some ⟨w.heap.size, 0, none⟩), undef, .slice none 0 0, xs.getD 0 undef, .func (.func 69) #[] #[.pointer (some ⟨sb, 0, none⟩), .pointer (some ⟨kb, 0, none⟩), .pointer (some ⟨cb, 0, none⟩)], xs.getD 0 undef, undef, undef, undef, undef, undef], defers := [] }) ?assign ?body ?done
  case assign =>
    rintro l k xs W K ⟨va, vc, rfl, _⟩ hKK
    gi_wp2
    exact hKK
  case body =>
    rintro l k xs W hkN ⟨v, ss, hV⟩ ⟨va, vc, rfl, hrow⟩
    have hc := cell_of_block hV.box 0
    have hc2 : W.cell? ⟨w.heap.size, 0, none⟩ = some v := hc
    have hfew := HRA.out.few
    have hsz : w.heap.size < W.heap.size := heap_lt hV.box
    obtain ⟨N, hN⟩ : ∃ N, N = (varsAt c t k).length := ⟨_, rfl⟩
    rw [← hN] at hrow ⊢
    have HNN := Lib.hid hN
    clear hc hN
    have hfz := unfrozen_of_block hV.box 0
    obtain ⟨ga, gc, rfl⟩ := ownsN_form hV.row
    have HV := Lib.hid hV
    have HROW := Lib.hid hrow
    have HF := Lib.hid (And.intro hkN hfew)
    clear hV hrow hfew hkN
    gi_wp2_with (gi_at_builtin; refine wpListIn_append_own _ rfl _ _ 28 rfl w.heap.size 27 i0 (.slice none 0 0) 1 24 Try.underlying28 hi hz0 hz1 hz2 rfl (by decide) _ _ _ rfl (ownsN_below HV.out.row (ext_alloc _ _)) ⟨W.heap.size, 0, none⟩ 1 1 [.slice va N vc] rfl rfl (cell_one_new _ _ _) (by simp [Value.oneCell']) (by have := HF.out; unfold maxLen; omega) (by have := HF.out; omega) (by simp; omega) ?_; intro v' w1 hown' hgrow _; obtain ⟨a', c', rfl⟩ := ownsN_form hown'; have hbx := heap_grown (heap_below HV.out.box (ext_alloc W (.cells #[.slice va N vc] 27))) hgrow (ownsN_notown (ownsN_below HV.out.row (ext_alloc W (.cells #[.slice va N vc] 27))) (heap_below HV.out.box (ext_alloc W (.cells #[.slice va N vc] 27))) (by decide)); have hc3 : w1.cell? ⟨w.heap.size, 0, none⟩ = some (.slice ga k gc) := cell_of_block hbx 0; have hf3 := unfrozen_of_block hbx 0)
    have hal := ext_alloc W (.cells #[.slice va N vc] 27)
    have hro := ownsN_below HV.out.row hal
    obtain ⟨WA, hWA⟩ : ∃ WA, WA = W.alloc (.cells #[.slice va N vc] 27) := ⟨_, rfl⟩
    rw [← hWA] at hgrow hal hro
    have hne : ∀ (D : Nat) (C : Array Value) (T : TypeId) (fr : Nat × Nat), WA.heap[D]? = some (.cells C T fr) → T ≠ 27 → w1.heap[D]? = some (.cells C T fr) := fun D C T fr hD hT => heap_grown hD hgrow (ownsN_notown hro hD hT)
    have hcl : ∀ q, (Value.slice ga k gc).ownBlock = some q → ∀ o : Obj, WA.heap[q]? = some o → o.isCells = true := fun q hq o ho => by
      rcases hro.2 with ⟨h1, _⟩ | ⟨g, cap, cur, h1, _, h2, _⟩
      · rw [h1] at hq; cases hq
      · rw [h1] at hq
        have : g = q := by simpa [Value.ownBlock] using hq
        subst this
        rw [h2] at ho; cases ho; rfl
    have hbA : Below w.heap.size w WA := ext_trans HV.out.low hal
    have hb1' : Below w.heap.size w w1 := hbA.grown hgrow hbA.size (fun q hq => (hro.lt q hq).1)
    have hset : KeepsFrom W1.heap.size W (w1.setCell ⟨w.heap.size, 0, none⟩ (.slice a' (k + 1) c')) := (keepsFrom_below hal).trans (((KeepsOthers.of_grownBy hgrow (fun j o e ho => hcl j e o ho)).from _).trans ((KeepsOthers.setCell _ _ _).from _))
    have hkp : Kpt w0.heap.size 27 w.heap.size w.heap.size W (w1.setCell ⟨w.heap.size, 0, none⟩ (.slice a' (k + 1) c')) := by
      have h0 : w0.heap.size ≤ w.heap.size := HW0.out
      refine (Kpt.below hal (Nat.le_trans h0 HV.out.low.size)).trans (Kpt.trans (B := w1) ⟨?_, fun D C T fr hD hT _ _ => hne D C T fr hD hT⟩ (Kpt.set w1 ⟨w.heap.size, 0, none⟩ _ h0 (.inl rfl)))
      exact (Below.refl _ WA).grown hgrow (Nat.le_trans h0 hbA.size) (fun q hq => Nat.le_trans h0 (hro.lt q hq).1)
    refine ⟨hset, hkp, .slice a' (k + 1) c', ss ++ [(va, N, vc)], by simp [HV.out.len], box_set hbx _, ?_, fun j hj => ?_, hb1'.setCell (p := ⟨w.heap.size, 0, none⟩) (Nat.le_refl _) _⟩
    · have h1 : w1.ownsRow w.heap.size 27 1 (.slice a' (k + 1) c') (k + 1) ((ss ++ [(va, N, vc)]).map slV) := by simpa [slV] using hown'
      exact ownsN_other h1 fun q hq => Below.heap_setCell w1 ⟨w.heap.size, 0, none⟩ _ q (fun e => (ownsN_notown h1 hbx (by decide)) (by rw [hq, e]))
    · have one : ∀ {x : Slc} {V : List UInt8}, Row isByte WA w.heap.size 5 (slV x) V.length (V.map bv) → Row isByte (w1.setCell ⟨w.heap.size, 0, none⟩ (.slice a' (k + 1) c')) w.heap.size 5 (slV x) V.length (V.map bv) := fun {x V} hx => by
        have h1 := row_grown hx hro hgrow (by decide)
        exact h1.other fun q hq => Below.heap_setCell w1 ⟨w.heap.size, 0, none⟩ _ q (fun e => (h1.not_own hbx (by decide)) (by rw [hq, e]))
      by_cases e : j = k
      · subst e
        have e1 : (ss ++ [(va, N, vc)]).getD j slc0 = (va, N, vc) := by rw [← HV.out.len]; simp
        rw [e1]
        refine one ?_
        rw [← HNN.out]
        exact (HROW.out.below hal).base_le hb1.size
      · have e1 : (ss ++ [(va, N, vc)]).getD j slc0 = ss.getD j slc0 := by simp [List.getD, List.getElem?_append_left (show j < ss.length by rw [HV.out.len]; omega)]
        rw [e1]
        exact one ((HV.out.rows j (by omega)).below hal)
  case done =>
    rintro D W hDle ⟨v, ss, hV⟩ hD
    have hc := cell_of_block hV.box 0
    have hc2 : W.cell? ⟨w.heap.size, 0, none⟩ = some v := hc
    have HV := Lib.hid hV
    have HD := Lib.hid hD
    clear hc hV hD
    gi_wp2
    refine ⟨by simp, .inl ⟨_, _, rfl, run_takeDeferred HD.out, ?_⟩⟩
    exact ⟨_, results_tmp rfl _ _ _, ⟨v, ss, rfl, HV.out.len, owns_put HV.out.row HD.out rfl, fun j hj => row_put (HV.out.rows j hj) HD.out rfl, HV.out.low.grown (grownBy_putObj' _ _ _) HV.out.low.size (fun k e => by cases e; exact Nat.le_trans hb1.size hDle)⟩⟩

set_option maxRecDepth 100000 in
theorem collect_any (c : NormC) (s : CSlots) (t : TraceC) (st : TSlots) (w0 : World) (sb kb cb tb : Nat) (w : World)
    (hw0 : w0.heap.size ≤ w.heap.size) (hR : ∀ W : World, Below w.heap.size w W → w.heap.size < W.heap.size → RunAt c s t st w0 sb kb cb tb w.heap.size w.heap.size W) :
    Calls Try.prog 43 #[.func (.func 69) #[] #[.pointer (some ⟨sb, 0, none⟩), .pointer (some ⟨kb, 0, none⟩), .pointer (some ⟨cb, 0, none⟩)]] w
      fun e W' => ∃ (v : Value) (ss : List Slc), e = .returned v ∧ ss.length = t.frames.length ∧ W'.ownsRow w.heap.size 27 1 v t.frames.length (ss.map slV) ∧ (∀ j, j < t.frames.length → Row isByte W' w.heap.size 5 (slV (ss.getD j slc0)) (varsAt c t j).length ((varsAt c t j).map bv)) ∧ Below w.heap.size w W' := by
  have HA := Lib.hid (appendseq_any c s t st w0 sb kb cb tb w hw0 hR)
  clear hR hw0
  go_enter Try.func43, Try.ntmps43
  go_wp2_with fail
  refine HA.out.mono ?_
  rintro e W' ⟨v, ss, rfl, h1, h2, h3, h4⟩
  have H := Lib.hid (And.intro h1 (And.intro h2 (And.intro h3 h4)))
  clear h1 h2 h3 h4
  go_wp2
  go_ret
  exact ⟨v, ss, rfl, H.out⟩
end Go.Proofs.Ytjmdgbdlhaaefaa
