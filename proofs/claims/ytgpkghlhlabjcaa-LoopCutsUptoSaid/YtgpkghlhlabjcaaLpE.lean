/- inquestref00.Lent, Burn and Back, by their contracts. -/
import Derived.Test.YtgpkghlhlabjcaaLib
import Derived.Test.YtgpkghlhlabjcaaOwn
import Derived.Test.YtgpkghlhlabjcaaOwnStr
import Derived.Test.YtgpkghlhlabjcaaNBase
import Derived.Test.YtgpkghlhlabjcaaNOwnsN
import Derived.Test.YtgpkghlhlabjcaaNStep
import Derived.Test.YtgpkghlhlabjcaaNSpec
import Derived.Test.YtgpkghlhlabjcaaNVal
import Derived.Test.YtgpkghlhlabjcaaNTrace
import Derived.Test.YtgpkghlhlabjcaaNHeap
import Derived.Test.YtgpkghlhlabjcaaSRange
import Derived.Test.YtgpkghlhlabjcaaSRun
import Derived.Test.YtgpkghlhlabjcaaSVerd
import Derived.Test.YtgpkghlhlabjcaaNCopyTr
import Derived.Test.YtgpkghlhlabjcaaRows
import Derived.BigQuiet
import Derived.Deep.AppendLies
import Derived.Deep.CutRange
import Derived.Deep.QuietTactic
import Derived.Deep.RegionHeld3
import Derived.Deep.RegionLaw
import Derived.Deep.RegionWith
import Derived.KernelRfl
import Derived.Laws.Bits64b
import Derived.Laws.BitsAllLaws
import Derived.Laws.BitsLemmas
import Derived.Laws.EntriesVeiled
import Derived.Laws.Tables
import Derived.Lib.AppendStr
import Derived.Lib.AppendZeros
import Derived.Lib.ConvBytes
import Derived.Lib.Hide
import Derived.Lib.SlBytesRow
import Derived.Lib.SmallJoins
import Derived.LoopIn
import Derived.LoopNIn
import Derived.Maps.AppendAt
import Derived.OrdersHeld
import Derived.OrdersIn
import Derived.OwnWalkIn
import Derived.RangeFuncBox
import Derived.RangeFuncCalls
import Derived.RangeFuncLeaves
import Derived.RangeFuncNested
import Derived.RangeFuncWrites
import Derived.Shelf.Abstract
import Derived.Shelf.Bytes.SlSmallAll
import Derived.Shelf.RegionOpen
import Derived.Sort.CutIn
import Derived.Stop.RegionWithIn
import Derived.TacticsInMore
import Derived.WalkKit
import Derived.WalkLawsBesides
import Derived.WalkSpells
import Derived.Test.YtgpkghlhlabjcaaNCirc
import Derived.Test.YtgpkghlhlabjcaaNOwns
import Derived.Test.YtgpkghlhlabjcaaTBits
import Derived.Test.YtgpkghlhlabjcaaSVal
import Derived.Test.YtgpkghlhlabjcaaLpF
import Derived.Test.YtgpkghlhlabjcaaSSurely
import Derived.Test.YtgpkghlhlabjcaaShelf
import Derived.Test.YtgpkghlhlabjcaaSSpec
import Derived.Test.YtgpkghlhlabjcaaSRead
import Derived.BigRegion
import Derived.Test.YtgpkghlhlabjcaaRawPred
import Derived.Test.YtgpkghlhlabjcaaRowStep
import Derived.Test.YtgpkghlhlabjcaaNHeap2
import Derived.Test.YtgpkghlhlabjcaaNWide
import Derived.Test.YtgpkghlhlabjcaaNRefMay3
import Derived.Test.YtgpkghlhlabjcaaNClone2
import Derived.Test.YtgpkghlhlabjcaaSFrame
import Derived.Lib.SlBytesConst
/- slices.AppendSeq, slices.Collect over the run's iterator, by their contracts. -/
namespace Go.Proofs.Ytgpkghlhlabjcaa
open Go Go.RowKit Go.Joins
attribute [local go_sem] Oper.semAt_some

/-- What has been gathered: k slices, each a row of its own. -/
structure GInv (c : NormC) (t : TraceC) (w : World) (H B k : Nat) (W : World) (v : Value) (ss : List Slc) : Prop where
  len : ss.length = k
  box : W.heap[H]? = some (.cells #[v] 28 (0, 0))
  row : W.ownsRow w.heap.size 27 1 v k (ss.map slV)
  rows : ∀ j, j < k → Row isByte W w.heap.size 5 (slV (ss.getD j slc0)) (varsAt c t j).length ((varsAt c t j).map bv)
  low : Below w.heap.size w W
theorem GInv.below {c : NormC} {t : TraceC} {w : World} {H B k : Nat} {W W' : World} {v : Value} {ss : List Slc} (h : GInv c t w H B k W v ss) (hb : Below W.heap.size W W') : GInv c t w H B k W' v ss :=
  ⟨h.len, heap_below h.box hb, ownsN_below h.row hb, fun j hj => (h.rows j hj).below hb, ext_trans h.low hb⟩
theorem row_put {ok : Value → Prop} {w : World} {base : Nat} {e : TypeId} {v : Value} {n : Nat} {xs : List Value} (h : Row ok w base e v n xs) {l : Nat} {o o' : Obj} (hl : w.heap[l]? = some o) (ho : o.isCells = false) : Row ok (w.putObj l o') base e v n xs :=
  h.other fun q hq => World.putObj_heap_other (fun e2 => by
    subst e2
    rcases h.2 with ⟨h1, _⟩ | ⟨g, cap, cur, h1, _, h2, _⟩
    · rw [h1] at hq; cases hq
    · rw [h1] at hq
      have : g = q := by simpa [Value.ownBlock] using hq
      subst this
      rw [hl] at h2; cases h2; cases ho)
theorem owns_put {w : World} {base sz : Nat} {e : TypeId} {v : Value} {n : Nat} {xs : List Value} (h : w.ownsRow base e sz v n xs) {l : Nat} {o o' : Obj} (hl : w.heap[l]? = some o) (ho : o.isCells = false) : (w.putObj l o').ownsRow base e sz v n xs :=
  ownsN_other h fun q hq => World.putObj_heap_other (fun e2 => by
    subst e2
    rcases h.2 with ⟨h1, _⟩ | ⟨g, cap, cur, h1, _, h2, _⟩
    · rw [h1] at hq; cases hq
    · rw [h1] at hq
      have : g = q := by simpa [Value.ownBlock] using hq
      subst this
      rw [hl] at h2; cases h2; cases ho)
theorem GInv.put {c : NormC} {t : TraceC} {w : World} {H B k : Nat} {W : World} {v : Value} {ss : List Slc} (h : GInv c t w H B k W v ss) {l : Nat} {o o' : Obj} (hB : w.heap.size ≤ l) (hl : W.heap[l]? = some o) (ho : o.isCells = false) : GInv c t w H B k (W.putObj l o') v ss :=
  ⟨h.len, (World.putObj_heap_other (fun e => by subst e; have := h.box; rw [hl] at this; cases this; cases ho)).trans h.box, owns_put h.row hl ho, fun j hj => row_put (h.rows j hj) hl ho, h.low.grown (grownBy_putObj' W l o') h.low.size (fun k e => by cases e; exact hB)⟩

set_option maxRecDepth 100000 in
set_option maxHeartbeats 3200000 in
theorem appendseq_any (c : NormC) (s : CSlots) (t : TraceC) (st : TSlots) (w0 : World) (sb kb cb tb : Nat) (w : World)
    (hw0 : w0.heap.size ≤ w.heap.size) (hR : ∀ W : World, Below w.heap.size w W → w.heap.size < W.heap.size → RunAt c s t st w0 sb kb cb tb w.heap.size w.heap.size W) :
    Calls Try.prog 59 #[.slice none 0 0, .func (.func 60) #[] #[.pointer (some ⟨sb, 0, none⟩), .pointer (some ⟨kb, 0, none⟩), .pointer (some ⟨cb, 0, none⟩)]] w
      fun e W' => ∃ (v : Value) (ss : List Slc), e = .returned v ∧ ss.length = t.frames.length ∧ W'.ownsRow w.heap.size 27 1 v t.frames.length (ss.map slV) ∧ (∀ j, j < t.frames.length → Row isByte W' w.heap.size 5 (slV (ss.getD j slc0)) (varsAt c t j).length ((varsAt c t j).map bv)) ∧ Below w.heap.size w W' := by
  refine (callsIn_wide (n := 0)).1 ?_
  refine callsIn_of_wp_marks Try.func59 rfl trivial ?_ rfl
  simp only [Try.ntmps59, List.size_toArray, List.length_cons, List.length_nil, Nat.reduceAdd, Nat.reduceSub, Array.replicate_succ, Array.replicate_zero, List.push_toArray, List.append_toArray, List.nil_append, List.cons_append]
  have HW0 : Hid (w0.heap.size ≤ w.heap.size) := hw0
  have HR := Lib.hid hR
  clear hR hw0
  gi_wp2
  obtain ⟨W1, hW1⟩ : ∃ W1, W1 = w.alloc (.cells #[.slice none 0 0] 28) := ⟨_, rfl⟩
  rw [← hW1]
  have hb1 : Below w.heap.size w W1 := by rw [hW1]; exact ext_alloc _ _
  have hx1 : W1.heap[w.heap.size]? = some (.cells #[.slice none 0 0] 28 (0, 0)) := by rw [hW1]; exact heap_new _ _ _ rfl
  have hlt1 : w.heap.size < W1.heap.size := heap_lt hx1
  have HRA := Lib.hid (HR.out W1 hb1 hlt1)
  have HLT := Lib.hid hlt1
  clear hW1 HR hlt1
  obtain ⟨i0, hi, hz0, hz1, hz2⟩ := info_parts info_u8s
  refine wp_rangeFunc (gf := 60) (lb := #[.pointer (some ⟨sb, 0, none⟩), .pointer (some ⟨kb, 0, none⟩), .pointer (some ⟨cb, 0, none⟩)]) rfl (enters_of Try.func60 (by kernel_rfl) rfl)
    (run1_iter c s t st w0 sb kb cb tb w.heap.size w.heap.size W1 HRA.out) Kpt.trans (fun W l o o' hl h ho => Kpt.put W l o o' (Nat.le_trans HRA.out.low.size hl) h ho)
    (fun k xs W h => by obtain ⟨a, cp, e, _⟩ := h; rw [e]; rfl) (elem_puts _ _ _)
    (fun k W => ∃ v ss, GInv c t w w.heap.size 0 k W v ss) (fun k A B h hb => by obtain ⟨v, ss, h⟩ := h; exact ⟨v, ss, h.below hb⟩) (fun k A l o o' h hl ho hc => by obtain ⟨v, ss, h⟩ := h; exact ⟨v, ss, h.put (Nat.le_trans hb1.size hl) ho hc⟩)
    ⟨.slice none 0 0, [], rfl, hx1, ⟨rfl, .inl ⟨rfl, rfl⟩⟩, fun j hj => absurd hj (by omega), hb1⟩
    (fun xs => { tmps := #[.slice none 0 0, .func (.func 60) #[] #[.pointer (some ⟨sb, 0, none⟩), .pointer (some ⟨kb, 0, none⟩), .pointer (some ⟨cb, 0, none⟩)], .pointer (some ⟨w.heap.size, 0, none⟩), undef, .slice none 0 0, xs.getD 0 undef, .func (.func 60) #[] #[.pointer (some ⟨sb, 0, none⟩), .pointer (some ⟨kb, 0, none⟩), .pointer (some ⟨cb, 0, none⟩)], xs.getD 0 undef, undef, undef, undef, undef, undef], defers := [] }) ?assign ?body ?done
  case assign =>
    rintro l k xs W K ⟨va, vc, rfl, _⟩ hKK
    gi_wp2
    exact hKK
  case body =>
    rintro l k xs W hkN ⟨v, ss, hV⟩ ⟨va, vc, rfl, hrow⟩
    have hc := cell_of_block hV.box 0
    have hc2 : W.cell? ⟨w.heap.size, 0, none⟩ = some v := hc
    have hfew := HRA.out.few
    have hsz : w.heap.size < W.heap.size := heap_lt hV.box
    obtain ⟨N, hN⟩ : ∃ N, N = (varsAt c t k).length := ⟨_, rfl⟩
    rw [← hN] at hrow ⊢
    have HNN := Lib.hid hN
    clear hc hN
    have hfz := unfrozen_of_block hV.box 0
    obtain ⟨ga, gc, rfl⟩ := ownsN_form hV.row
    have HV := Lib.hid hV
    have HROW := Lib.hid hrow
    have HF := Lib.hid (And.intro hkN hfew)
    clear hV hrow hfew hkN
    gi_wp2_with (gi_at_builtin; refine wpListIn_append_own _ rfl _ _ 28 rfl w.heap.size 27 i0 (.slice none 0 0) 1 24 Try.underlying28 hi hz0 hz1 hz2 rfl (by decide) _ _ _ rfl (ownsN_below HV.out.row (ext_alloc _ _)) ⟨W.heap.size, 0, none⟩ 1 1 [.slice va N vc] rfl rfl (cell_one_new _ _ _) (by simp [Value.oneCell']) (by have := HF.out; unfold maxLen; omega) (by have := HF.out; omega) (by simp; omega) ?_; intro v' w1 hown' hgrow _; obtain ⟨a', c', rfl⟩ := ownsN_form hown'; have hbx := heap_grown (heap_below HV.out.box (ext_alloc W (.cells #[.slice va N vc] 27))) hgrow (ownsN_notown (ownsN_below HV.out.row (ext_alloc W (.cells #[.slice va N vc] 27))) (heap_below HV.out.box (ext_alloc W (.cells #[.slice va N vc] 27))) (by decide)); have hc3 : w1.cell? ⟨w.heap.size, 0, none⟩ = some (.slice ga k gc) := cell_of_block hbx 0; have hf3 := unfrozen_of_block hbx 0)
    have hal := ext_alloc W (.cells #[.slice va N vc] 27)
    have hro := ownsN_below HV.out.row hal
    obtain ⟨WA, hWA⟩ : ∃ WA, WA = W.alloc (.cells #[.slice va N vc] 27) := ⟨_, rfl⟩
    rw [← hWA] at hgrow hal hro
    have hne : ∀ (D : Nat) (C : Array Value) (T : TypeId) (fr : Nat × Nat), WA.heap[D]? = some (.cells C T fr) → T ≠ 27 → w1.heap[D]? = some (.cells C T fr) := fun D C T fr hD hT => heap_grown hD hgrow (ownsN_notown hro hD hT)
    have hcl : ∀ q, (Value.slice ga k gc).ownBlock = some q → ∀ o : Obj, WA.heap[q]? = some o → o.isCells = true := fun q hq o ho => by
      rcases hro.2 with ⟨h1, _⟩ | ⟨g, cap, cur, h1, _, h2, _⟩
      · rw [h1] at hq; cases hq
      · rw [h1] at hq
        have : g = q := by simpa [Value.ownBlock] using hq
        subst this
        rw [h2] at ho; cases ho; rfl
    have hbA : Below w.heap.size w WA := ext_trans HV.out.low hal
    have hb1' : Below w.heap.size w w1 := hbA.grown hgrow hbA.size (fun q hq => (hro.lt q hq).1)
    have hset : KeepsFrom W1.heap.size W (w1.setCell ⟨w.heap.size, 0, none⟩ (.slice a' (k + 1) c')) := (keepsFrom_below hal).trans (((KeepsOthers.of_grownBy hgrow (fun j o e ho => hcl j e o ho)).from _).trans ((KeepsOthers.setCell _ _ _).from _))
    have hkp : Kpt w0.heap.size 27 w.heap.size w.heap.size W (w1.setCell ⟨w.heap.size, 0, none⟩ (.slice a' (k + 1) c')) := by
      have h0 : w0.heap.size ≤ w.heap.size := HW0.out
      refine (Kpt.below hal (Nat.le_trans h0 HV.out.low.size)).trans (Kpt.trans (B := w1) ⟨?_, fun D C T fr hD hT _ _ => hne D C T fr hD hT⟩ (Kpt.set w1 ⟨w.heap.size, 0, none⟩ _ h0 (.inl rfl)))
      exact (Below.refl _ WA).grown hgrow (Nat.le_trans h0 hbA.size) (fun q hq => Nat.le_trans h0 (hro.lt q hq).1)
    refine ⟨hset, hkp, .slice a' (k + 1) c', ss ++ [(va, N, vc)], by simp [HV.out.len], box_set hbx _, ?_, fun j hj => ?_, hb1'.setCell (p := ⟨w.heap.size, 0, none⟩) (Nat.le_refl _) _⟩
    · have h1 : w1.ownsRow w.heap.size 27 1 (.slice a' (k + 1) c') (k + 1) ((ss ++ [(va, N, vc)]).map slV) := by simpa [slV] using hown'
      exact ownsN_other h1 fun q hq => Below.heap_setCell w1 ⟨w.heap.size, 0, none⟩ _ q (fun e => (ownsN_notown h1 hbx (by decide)) (by rw [hq, e]))
    · have one : ∀ {x : Slc} {V : List UInt8}, Row isByte WA w.heap.size 5 (slV x) V.length (V.map bv) → Row isByte (w1.setCell ⟨w.heap.size, 0, none⟩ (.slice a' (k + 1) c')) w.heap.size 5 (slV x) V.length (V.map bv) := fun {x V} hx => by
        have h1 := row_grown hx hro hgrow (by decide)
        exact h1.other fun q hq => Below.heap_setCell w1 ⟨w.heap.size, 0, none⟩ _ q (fun e => (h1.not_own hbx (by decide)) (by rw [hq, e]))
      by_cases e : j = k
      · subst e
        have e1 : (ss ++ [(va, N, vc)]).getD j slc0 = (va, N, vc) := by rw [← HV.out.len]; simp
        rw [e1]
        refine one ?_
        rw [← HNN.out]
        exact (HROW.out.below hal).base_le hb1.size
      · have e1 : (ss ++ [(va, N, vc)]).getD j slc0 = ss.getD j slc0 := by simp [List.getD, List.getElem?_append_left (show j < ss.length by rw [HV.out.len]; omega)]
        rw [e1]
        exact one ((HV.out.rows j (by omega)).below hal)
  case done =>
    rintro D W hDle ⟨v, ss, hV⟩ hD
    have hc := cell_of_block hV.box 0
    have hc2 : W.cell? ⟨w.heap.size, 0, none⟩ = some v := hc
    have HV := Lib.hid hV
    have HD := Lib.hid hD
    clear hc hV hD
    gi_wp2
    refine ⟨by simp, .inl ⟨_, _, rfl, run_takeDeferred HD.out, ?_⟩⟩
    exact ⟨_, results_tmp rfl _ _ _, ⟨v, ss, rfl, HV.out.len, owns_put HV.out.row HD.out rfl, fun j hj => row_put (HV.out.rows j hj) HD.out rfl, HV.out.low.grown (grownBy_putObj' _ _ _) HV.out.low.size (fun k e => by cases e; exact Nat.le_trans hb1.size hDle)⟩⟩

set_option maxRecDepth 100000 in
theorem collect_any (c : NormC) (s : CSlots) (t : TraceC) (st : TSlots) (w0 : World) (sb kb cb tb : Nat) (w : World)
    (hw0 : w0.heap.size ≤ w.heap.size) (hR : ∀ W : World, Below w.heap.size w W → w.heap.size < W.heap.size → RunAt c s t st w0 sb kb cb tb w.heap.size w.heap.size W) :
    Calls Try.prog 44 #[.func (.func 60) #[] #[.pointer (some ⟨sb, 0, none⟩), .pointer (some ⟨kb, 0, none⟩), .pointer (some ⟨cb, 0, none⟩)]] w
      fun e W' => ∃ (v : Value) (ss : List Slc), e = .returned v ∧ ss.length = t.frames.length ∧ W'.ownsRow w.heap.size 27 1 v t.frames.length (ss.map slV) ∧ (∀ j, j < t.frames.length → Row isByte W' w.heap.size 5 (slV (ss.getD j slc0)) (varsAt c t j).length ((varsAt c t j).map bv)) ∧ Below w.heap.size w W' := by
  have HA := Lib.hid (appendseq_any c s t st w0 sb kb cb tb w hw0 hR)
  clear hR hw0
  go_enter Try.func44, Try.ntmps44
  go_wp2_with fail
  refine HA.out.mono ?_
  rintro e W' ⟨v, ss, rfl, h1, h2, h3, h4⟩
  have H := Lib.hid (And.intro h1 (And.intro h2 (And.intro h3 h4)))
  clear h1 h2 h3 h4
  go_wp2
  go_ret
  exact ⟨v, ss, rfl, H.out⟩
end Go.Proofs.Ytgpkghlhlabjcaa
/- sim.Run, by its contract. -/
namespace Go.Proofs.Ytgpkghlhlabjcaa
open Go Go.RowKit Go.Joins

theorem owns_base {w : World} {base base' sz : Nat} {e : TypeId} {v : Value} {n : Nat} {xs : List Value} (h : w.ownsRow base e sz v n xs) (hb : base' ≤ base) : w.ownsRow base' e sz v n xs := by
  refine ⟨h.1, ?_⟩
  rcases h.2 with h2 | ⟨g, cap, cur, hv, hg, r⟩
  · exact .inl h2
  · exact .inr ⟨g, cap, cur, hv, Nat.le_trans hb hg, r⟩
theorem runat_of {c : NormC} {s : CSlots} {t : TraceC} {st : TSlots} {w w2 w3 W : World} {tb : Nat} (hC : SeesCir w s c) (hT : SeesTr w st t) (hF : FitsC c t) (hs : s.small) (hb : Below w.heap.size w W)
    (hr : w3.heap[w2.heap.size]? = some (.cells #[.int .u8 0, .func (.func 54) #[] #[], .func (.func 55) #[] #[]] 72 (0, 0)) ∧ w3.heap[w2.heap.size + 1]? = some (.cells #[.int .i64 c.ins, .slice s.a1 s.n1 s.c1, .slice s.a2 s.n2 s.c2, .slice s.a3 s.n3 s.c3, .slice s.a4 s.n4 s.c4, .slice s.a5 s.n5 s.c5] 26 (0, 0)) ∧
      w3.heap[w2.heap.size + 2]? = some (.cells #[.slice st.a1 st.n1 st.c1, .int .i64 (st.n2 : Int), .func (.func 57) #[] #[.pointer (some ⟨tb, 0, none⟩)]] 77 (0, 0)) ∧ w3.heap[tb]? = some (.cells #[.int .i64 t.bad, .slice st.a1 st.n1 st.c1, .slice st.a2 st.n2 st.c2] 30 (0, 0)))
    (hz : w2.heap.size ≤ w3.heap.size ∧ tb < w2.heap.size ∧ w2.heap.size + 2 < w3.heap.size) (hb3 : Below w3.heap.size w3 W) (hlt : w3.heap.size < W.heap.size) :
    RunAt c s t st w (w2.heap.size + 2) w2.heap.size (w2.heap.size + 1) tb w3.heap.size w3.heap.size W :=
  { cir := hC, tr := hT, low := hb, may := hF.may, small := hs, init := hF.init, frames := hF.frames, few := hF.few
    feed := heap_below hr.2.2.1 hb3, kind := heap_below hr.1 hb3, box := heap_below hr.2.1 hb3, tbox := heap_below hr.2.2.2 hb3, lt1 := hlt, lt2 := hlt
    ne1 := ⟨by omega, by omega, by omega, by omega⟩, ne2 := ⟨by omega, by omega, by omega, by omega⟩ }

/-- The run, list by list. -/
def runL (c : NormC) (t : TraceC) : List (List UInt8) := (List.range t.frames.length).map (varsAt c t)
/-- What Run answers. -/
def RunPost (c : NormC) (t : TraceC) (w : World) (e : Ending) (w' : World) : Prop :=
  (fitsS c t = true → ∃ (v : Value) (ss : List Slc), e = .returned (.tuple #[v, .int .i64 0]) ∧ ss.length = t.frames.length ∧ w'.ownsRow w.heap.size 27 1 v t.frames.length (ss.map slV) ∧ (∀ j, j < t.frames.length → Row isByte w' w.heap.size 5 (slV (ss.getD j slc0)) (varsAt c t j).length ((varsAt c t j).map bv))) ∧
  (fitsS c t = false → e = .returned (.tuple #[.slice none 0 0, .int .i64 2])) ∧ Below w.heap.size w w'
set_option maxRecDepth 100000 in
set_option maxHeartbeats 3200000 in
theorem run_any2 (c : NormC) (t : TraceC) (s : CSlots) (st : TSlots) (w : World) (h : SeesCir w s c) (ht : SeesTr w st t) (hs : s.small) (hst : st.small) (hlo : -9223372036854775808 ≤ c.ins) (hhi : c.ins < 9223372036854775808) (hb1 : -9223372036854775808 ≤ t.bad ∧ t.bad < 9223372036854775808) :
    Calls Try.prog 31 #[cirV c.ins s, traceV t.bad st] w (RunPost c t w) := by
  have HFIT := Lib.hid (fun W (hb : Below w.heap.size w W) => fits_any c t s st W (h.below hb) (ht.below hb) hs hst hlo hhi hb1)
  have HFC : Hid (fitsS c t = true → FitsC c t) := fits_iff.1
  have HE : Hid (∀ e w', RunPost c t w e w' ↔ (fitsS c t = true → ∃ (v : Value) (ss : List Slc), e = .returned (.tuple #[v, .int .i64 0]) ∧ ss.length = t.frames.length ∧ w'.ownsRow w.heap.size 27 1 v t.frames.length (ss.map slV) ∧ (∀ j, j < t.frames.length → Row isByte w' w.heap.size 5 (slV (ss.getD j slc0)) (varsAt c t j).length ((varsAt c t j).map bv))) ∧ (fitsS c t = false → e = .returned (.tuple #[.slice none 0 0, .int .i64 2])) ∧ Below w.heap.size w w') := fun _ _ => Iff.rfl
  obtain ⟨q, hq⟩ : ∃ q, q = fitsS c t := ⟨_, rfl⟩
  rw [← hq] at HFIT HFC HE
  clear hq
  have HC := Lib.hid h
  have HT := Lib.hid ht
  clear h ht hlo hhi hb1
  unfold cirV traceV at *
  go_enter Try.func31, Try.ntmps31
  go_upto_region 1 with fail
  generalize hW : World.alloc (World.alloc w _) _ = W1
  have hb : Below w.heap.size w W1 := by subst hW; exact ext_trans (ext_alloc _ _) (ext_alloc _ _)
  have hx : W1.heap[w.heap.size]? = some (.cells #[.int .i64 c.ins, .slice s.a1 s.n1 s.c1, .slice s.a2 s.n2 s.c2, .slice s.a3 s.n3 s.c3, .slice s.a4 s.n4 s.c4, .slice s.a5 s.n5 s.c5] 26 (0, 0)) := by subst hW; exact heap_below (heap_new _ _ _ rfl) (ext_alloc _ _)
  have hy : W1.heap[w.heap.size + 1]? = some (.cells #[.int .i64 t.bad, .slice st.a1 st.n1 st.c1, .slice st.a2 st.n2 st.c2] 30 (0, 0)) := by subst hW; exact heap_new _ _ _ (by simp)
  have HB := Lib.hid hb
  have HX := Lib.hid hx
  have HY := Lib.hid hy
  clear hW hb hx hy
  have p0 := cell_of_block HX.out 0
  have p1 := cell_of_block HX.out 1
  have p2 := cell_of_block HX.out 2
  have p3 := cell_of_block HX.out 3
  have p4 := cell_of_block HX.out 4
  have p5 := cell_of_block HX.out 5
  have r0 := cell_of_block HY.out 0
  have r1 := cell_of_block HY.out 1
  have r2 := cell_of_block HY.out 2
  go_wp2_with fail
  refine (HFIT.out W1 HB.out).mono ?_
  rintro e W2 ⟨rfl, hb⟩
  have HX2 := Lib.hid (heap_below HX.out hb)
  have HY2 := Lib.hid (heap_below HY.out hb)
  have HB2 := Lib.hid (ext_trans HB.out hb)
  clear hb p0 p1 p2 p3 p4 p5 r0 r1 r2 HFIT HX HY HB
  cases q with
  | false =>
    go_wp2
    go_ret2
    exact (HE.out _ _).2 ⟨(fun h => by cases h), fun _ => rfl, HB2.out⟩
  | true =>
    have HF := Lib.hid (HFC.out rfl)
    have HSG : Hid (∀ W, Calls Try.prog 39 #[] W fun e w' => e = .returned (.agg #[.int .u8 0, .func (.func 54) #[] #[], .func (.func 55) #[] #[]]) ∧ Below W.heap.size W w') := single_any
    have HAL := Lib.hid (fun W => alone_any t.bad st W)
    unfold traceV at HAL
    have HRN := Lib.hid (run_any #[.int .u8 0, .func (.func 54) #[] #[], .func (.func 55) #[] #[]] #[.int .i64 c.ins, .slice s.a1 s.n1 s.c1, .slice s.a2 s.n2 s.c2, .slice s.a3 s.n3 s.c3, .slice s.a4 s.n4 s.c4, .slice s.a5 s.n5 s.c5])
    have HS0 := Lib.hid (keep63 HX2.out HY2.out)
    clear HFC
    go_wp2_with fail
    go_region_held3 (fun w' => w'.cell? ⟨w.heap.size, 0, none⟩ = some (.int .i64 c.ins) ∧ w'.cell? ⟨w.heap.size, 1, none⟩ = some (.slice s.a1 s.n1 s.c1) ∧ w'.cell? ⟨w.heap.size, 2, none⟩ = some (.slice s.a2 s.n2 s.c2) ∧ w'.cell? ⟨w.heap.size, 3, none⟩ = some (.slice s.a3 s.n3 s.c3) ∧ w'.cell? ⟨w.heap.size, 4, none⟩ = some (.slice s.a4 s.n4 s.c4) ∧ w'.cell? ⟨w.heap.size, 5, none⟩ = some (.slice s.a5 s.n5 s.c5) ∧ w'.cell? ⟨w.heap.size + 1, 0, none⟩ = some (.int .i64 t.bad) ∧ w'.cell? ⟨w.heap.size + 1, 1, none⟩ = some (.slice st.a1 st.n1 st.c1) ∧ w'.cell? ⟨w.heap.size + 1, 2, none⟩ = some (.slice st.a2 st.n2 st.c2))
      (first | with_reducible exact HS0.out | with_reducible exact keep63 (heap_below HX2.out ((Below.refl _ W2).drew)) (heap_below HY2.out ((Below.refl _ W2).drew)) | with_reducible exact HS1.out | with_reducible exact HS2.out | with_reducible exact HS3.out | with_reducible exact HS4.out | go_keep)
      (first
        | (go_at_call 39; (with_reducible refine (HSG.out _).mono ?_); rintro e s1 ⟨rfl, b1⟩; have HB3 := Lib.hid (below_undrew b1); have HS1 := Lib.hid (keep63 (heap_below HX2.out HB3.out) (heap_below HY2.out HB3.out)); clear b1)
        | (go_at_call 41; (with_reducible refine (HAL.out _).mono ?_); rintro e s2 ⟨rfl, htb, b2⟩; have HTB := Lib.hid htb; have HB4 := Lib.hid (ext_trans HB3.out b2); have HS2 := Lib.hid (keep63 (heap_below HX2.out HB4.out) (heap_below HY2.out HB4.out)); clear b2 htb)
        | (go_at_call 45; (with_reducible refine (HRN.out _ _).mono ?_); rintro e s3 ⟨rfl, hkb, hcb, hsb, b3⟩; have HRB := Lib.hid (And.intro hkb (And.intro hcb (And.intro hsb (heap_below HTB.out b3)))); have HSZ := Lib.hid (And.intro b3.size (And.intro (heap_lt HTB.out) (heap_lt hsb))); have HB5 := Lib.hid (ext_trans HB4.out b3); have HS3 := Lib.hid (keep63 (heap_below HX2.out HB5.out) (heap_below HY2.out HB5.out)); clear b3 hkb hcb hsb)
        | (go_at_call 44; (with_reducible refine (collect_any c s t st w _ _ _ _ _ (ext_trans HB2.out HB5.out).size (fun W hb hlt => runat_of HC.out HT.out HF.out hs (ext_trans (ext_trans HB2.out HB5.out) hb) HRB.out HSZ.out hb hlt)).mono ?_); rintro e s4 ⟨v4, ss4, rfl, hl4, ho4, hr4, b4⟩; have HO4 := Lib.hid (And.intro hl4 (And.intro ho4 hr4)); have HB6 := Lib.hid (ext_trans HB5.out b4); have HS4 := Lib.hid (keep63 (heap_below HX2.out HB6.out) (heap_below HY2.out HB6.out)); clear b4 hl4 ho4 hr4))
    all_goals go_wp2
    all_goals go_ret2
    all_goals exact (HE.out _ _).2 ⟨fun _ => ⟨v4, ss4, rfl, HO4.out.1, owns_base HO4.out.2.1 (ext_trans HB2.out HB5.out).size, fun j hj => (HO4.out.2.2 j hj).base_le (ext_trans HB2.out HB5.out).size⟩, (fun h => by cases h), ext_trans HB2.out HB6.out⟩
end Go.Proofs.Ytgpkghlhlabjcaa
/- sim.Fails, by its contract. -/
namespace Go.Proofs.Ytgpkghlhlabjcaa
open Go Go.RowKit Go.Joins

theorem zeroU_le (u : UInt8) (h : u.toNat ≤ 2) : (zeroU u).toNat ≤ 1 := by
  unfold zeroU
  split
  · exact Nat.zero_le _
  · omega
theorem zeroL_getD (l : List UInt8) (i : Nat) : (zeroL l).getD i 0 = zeroU (l.getD i 0) := by
  by_cases h : i < l.length
  · simp [zeroL, List.getD, List.getElem?_eq_getElem h]
  · simp [zeroL, List.getD, List.getElem?_eq_none (Nat.le_of_not_lt h)]; rfl
theorem readT_frame (t : TraceC) (k : Nat) : (readT t).frames.getD k [] = zeroL (t.frames.getD k []) := by
  by_cases h : k < t.frames.length
  · simp [readT, List.getD, List.getElem?_eq_getElem h]
  · simp [readT, List.getD, List.getElem?_eq_none (Nat.le_of_not_lt h), zeroL]
theorem FitsC.read {c : NormC} {t : TraceC} (h : FitsC c t) : FitsC c (readT t) := by
  refine ⟨h.may, h.pos, h.bad, by show (zeroL t.init).length = _; rw [zeroL_len]; exact h.init, fun u hu => ?_, fun i hi => ?_, by show 1 ≤ (t.frames.map zeroL).length; rw [List.length_map]; exact h.one, by show (t.frames.map zeroL).length ≤ 256; rw [List.length_map]; exact h.few, fun k hk => ?_, fun f hf u hu => ?_⟩
  · obtain ⟨x, hx, rfl⟩ := List.mem_map.1 hu
    have := zeroU_le x (h.inits x hx); omega
  · rcases h.resets i hi with h1 | h1
    · exact .inl h1
    · by_cases e : (c.lats.getD i (0, 0)).2 = 2
      · exact .inl e
      · refine .inr ?_
        show ((zeroL t.init).getD i 0).toNat = _
        rw [zeroL_getD]
        unfold zeroU
        rw [if_neg (by omega)]
        exact h1
  · rw [readT_frame, zeroL_len]
    exact h.frames k (by simpa [readT] using hk)
  · obtain ⟨g, hg, rfl⟩ := List.mem_map.1 hf
    obtain ⟨x, hx, rfl⟩ := List.mem_map.1 hu
    have := zeroU_le x (h.values g hg x hx); omega

/-- What Fails answers. -/
def failsE (c : NormC) (t : TraceC) : Ending := if fitsS c t = true then .returned (.tuple #[.bool (decide ((k1.verdict c t.bad.toNat (readT t).init (readT t).frames).toNat = 1)), .int .i64 0]) else .returned (.tuple #[.bool false, .int .i64 2])

set_option maxRecDepth 100000 in
set_option maxHeartbeats 3200000 in
theorem fails_any (c : NormC) (t : TraceC) (s : CSlots) (st : TSlots) (w : World) (h : SeesCir w s c) (ht : SeesTr w st t) (hs : s.small) (hst : st.small) (hlo : -9223372036854775808 ≤ c.ins) (hhi : c.ins < 9223372036854775808) (hb1 : -9223372036854775808 ≤ t.bad ∧ t.bad < 9223372036854775808) :
    Calls Try.prog 29 #[cirV c.ins s, traceV t.bad st] w fun e w' => e = failsE c t ∧ Below w.heap.size w w' := by
  have HFIT := Lib.hid (fun W (hb : Below w.heap.size w W) => fits_any c t s st W (h.below hb) (ht.below hb) hs hst hlo hhi hb1)
  have HFC : Hid (fitsS c t = true → FitsC c t) := fits_iff.1
  have HE : Hid (failsE c t = if fitsS c t = true then .returned (.tuple #[.bool (decide ((k1.verdict c t.bad.toNat (readT t).init (readT t).frames).toNat = 1)), .int .i64 0]) else .returned (.tuple #[.bool false, .int .i64 2])) := rfl
  obtain ⟨q, hq⟩ : ∃ q, q = fitsS c t := ⟨_, rfl⟩
  rw [← hq] at HFIT HFC HE
  clear hq
  obtain ⟨E, hE⟩ : ∃ E, E = failsE c t := ⟨_, rfl⟩
  rw [← hE] at HE ⊢
  clear hE
  have HC := Lib.hid h
  have HT := Lib.hid ht
  clear h ht hlo hhi hb1
  unfold cirV traceV at *
  go_enter Try.func29, Try.ntmps29
  go_upto_region 1 with fail
  generalize hW : World.alloc (World.alloc w _) _ = W1
  have hb : Below w.heap.size w W1 := by subst hW; exact ext_trans (ext_alloc _ _) (ext_alloc _ _)
  have hx : W1.heap[w.heap.size]? = some (.cells #[.int .i64 c.ins, .slice s.a1 s.n1 s.c1, .slice s.a2 s.n2 s.c2, .slice s.a3 s.n3 s.c3, .slice s.a4 s.n4 s.c4, .slice s.a5 s.n5 s.c5] 26 (0, 0)) := by subst hW; exact heap_below (heap_new _ _ _ rfl) (ext_alloc _ _)
  have hy : W1.heap[w.heap.size + 1]? = some (.cells #[.int .i64 t.bad, .slice st.a1 st.n1 st.c1, .slice st.a2 st.n2 st.c2] 30 (0, 0)) := by subst hW; exact heap_new _ _ _ (by simp)
  have HB := Lib.hid hb
  have HX := Lib.hid hx
  have HY := Lib.hid hy
  clear hW hb hx hy
  have p0 := cell_of_block HX.out 0
  have p1 := cell_of_block HX.out 1
  have p2 := cell_of_block HX.out 2
  have p3 := cell_of_block HX.out 3
  have p4 := cell_of_block HX.out 4
  have p5 := cell_of_block HX.out 5
  have r0 := cell_of_block HY.out 0
  have r1 := cell_of_block HY.out 1
  have r2 := cell_of_block HY.out 2
  go_wp2_with fail
  refine (HFIT.out W1 HB.out).mono ?_
  rintro e W2 ⟨rfl, hb⟩
  have HX2 := Lib.hid (heap_below HX.out hb)
  have HY2 := Lib.hid (heap_below HY.out hb)
  have HB2 := Lib.hid (ext_trans HB.out hb)
  clear hb p0 p1 p2 p3 p4 p5 r0 r1 r2 HFIT HX HY HB
  cases q with
  | false =>
    go_wp2
    go_ret2
    exact ⟨by rw [HE.out]; rfl, HB2.out⟩
  | true =>
    have HF := Lib.hid (HFC.out rfl)
    obtain ⟨nb, hnb⟩ := Int.eq_ofNat_of_zero_le HF.out.pos
    have hbad : nb < c.bads.length := by have := HF.out.bad; rw [hnb] at this; simpa using this
    have hfr := HF.out.read
    have HVERD := fun (W : World) (tb : Nat) (st' : TSlots) (hb : Below w.heap.size w W) (ht' : SeesTr W st' (readT t)) (htb : W.heap[tb]? = some (.cells #[.int .i64 t.bad, .slice st'.a1 st'.n1 st'.c1, .slice st'.a2 st'.n2 st'.c2] 30 (0, 0))) => verdict_any c s (readT t) st' nb W (HC.out.below hb) ht' HF.out.may hs hfr.init hfr.frames hfr.few hbad tb htb
    have HREAD := fun W (hb : Below w.heap.size w W) => read_any t st W (HT.out.below hb) hst
    have hbn : t.bad.toNat = nb := by rw [hnb]; simp
    rw [hbn] at HE
    obtain ⟨bd, hbd⟩ : ∃ bd, bd = t.bad := ⟨_, rfl⟩
    unfold traceV at HREAD
    rw [← hbd] at HVERD HREAD HY2 hnb ⊢
    obtain ⟨RV, hRV⟩ : ∃ RV, RV = k1.verdict c nb (readT t).init (readT t).frames := ⟨_, rfl⟩
    rw [← hRV] at HVERD HE
    subst hnb
    have HSG : Hid (∀ W, Calls Try.prog 39 #[] W fun e w' => e = .returned (.agg #[.int .u8 0, .func (.func 54) #[] #[], .func (.func 55) #[] #[]]) ∧ Below W.heap.size W w') := single_any
    have HAL := Lib.hid (fun W st' => alone_any (nb : Int) st' W)
    have hrv : bv RV = .int .u8 (RV.toNat : Int) := rfl
    obtain ⟨nr, hnr⟩ : ∃ nr : Nat, nr = RV.toNat := ⟨_, rfl⟩
    rw [← hnr] at HE
    rw [hrv, ← hnr] at HVERD
    have hdec : ((nr : Int) == 1) = decide (nr = 1) := by rw [Bool.eq_iff_iff]; simp; omega
    unfold kv1 cirV at HVERD
    unfold traceV at HAL
    have HV := Lib.hid HVERD
    have HRD := Lib.hid HREAD
    have HS0 := Lib.hid (keep63 HX2.out HY2.out)
    clear HVERD HREAD hfr hRV hrv hnr hbn hbd hbad HFC
    go_wp2_with fail
    go_region_held3 (fun w' => w'.cell? ⟨w.heap.size, 0, none⟩ = some (.int .i64 c.ins) ∧ w'.cell? ⟨w.heap.size, 1, none⟩ = some (.slice s.a1 s.n1 s.c1) ∧ w'.cell? ⟨w.heap.size, 2, none⟩ = some (.slice s.a2 s.n2 s.c2) ∧ w'.cell? ⟨w.heap.size, 3, none⟩ = some (.slice s.a3 s.n3 s.c3) ∧ w'.cell? ⟨w.heap.size, 4, none⟩ = some (.slice s.a4 s.n4 s.c4) ∧ w'.cell? ⟨w.heap.size, 5, none⟩ = some (.slice s.a5 s.n5 s.c5) ∧ w'.cell? ⟨w.heap.size + 1, 0, none⟩ = some (.int .i64 (nb : Int)) ∧ w'.cell? ⟨w.heap.size + 1, 1, none⟩ = some (.slice st.a1 st.n1 st.c1) ∧ w'.cell? ⟨w.heap.size + 1, 2, none⟩ = some (.slice st.a2 st.n2 st.c2))
      (first | with_reducible exact HS0.out | with_reducible exact keep63 (heap_below HX2.out ((Below.refl _ W2).drew)) (heap_below HY2.out ((Below.refl _ W2).drew)) | with_reducible exact HS1.out | with_reducible exact HS2.out | with_reducible exact HS3.out | with_reducible exact HS4.out | go_keep)
      (first
        | (go_at_call 39; (with_reducible refine (HSG.out _).mono ?_); rintro e s1 ⟨rfl, b1⟩; have HB3 := Lib.hid (below_undrew b1); have HS1 := Lib.hid (keep63 (heap_below HX2.out HB3.out) (heap_below HY2.out HB3.out)); clear b1)
        | (go_at_call 30; (with_reducible refine (HRD.out _ (ext_trans HB2.out HB3.out)).mono ?_); rintro e s2 ⟨st', rfl, ho, hsm, b2⟩; have HO := Lib.hid ho; have HB4 := Lib.hid (ext_trans HB3.out b2); have HS2 := Lib.hid (keep63 (heap_below HX2.out HB4.out) (heap_below HY2.out HB4.out)); clear b2 ho hsm)
        | (go_at_call 41; (with_reducible refine (HAL.out _ _).mono ?_); rintro e s3 ⟨rfl, htb, b3⟩; have HTB := Lib.hid htb; have HO2 := Lib.hid (HO.out.below b3); have HB5 := Lib.hid (ext_trans HB4.out b3); have HS3 := Lib.hid (keep63 (heap_below HX2.out HB5.out) (heap_below HY2.out HB5.out)); clear b3 htb)
        | (go_at_call 40; (with_reducible refine (HV.out _ _ _ (ext_trans HB2.out HB5.out) HO2.out.sees HTB.out).mono ?_); rintro e s4 ⟨rfl, b4⟩; have HB6 := Lib.hid (ext_trans HB5.out b4); have HS4 := Lib.hid (keep63 (heap_below HX2.out HB6.out) (heap_below HY2.out HB6.out)); clear b4))
    all_goals go_wp2
    all_goals go_ret2
    all_goals exact ⟨by rw [HE.out]; rfl, ext_trans HB2.out HB6.out⟩
end Go.Proofs.Ytgpkghlhlabjcaa
/- The reference's bit, at, May, with, Not1, And1 for words, by their contracts. -/
namespace Go.Proofs.Ytgpkghlhlabjcaa
open Go Go.RowKit Go.Joins

theorem rshr (x k : Nat) : ((x : Int) / 2 ^ k).tmod 2 = ((x.testBit k).toNat : Int) := by
  have e : (x : Int) / 2 ^ k = ((x / 2 ^ k : Nat) : Int) := by
    rw [Int.natCast_ediv]
    norm_cast
  rw [e, Nat.testBit_eq_decide_div_mod_eq]
  obtain ⟨y, hy⟩ : ∃ y, y = x / 2 ^ k := ⟨_, rfl⟩
  rw [← hy]
  by_cases h1 : y % 2 = 1
  · rw [h1]
    rw [Int.tmod_eq_emod_of_nonneg (by omega)]
    show (y : Int) % 2 = 1
    omega
  · have h0 : y % 2 = 0 := by omega
    rw [h0]
    rw [Int.tmod_eq_emod_of_nonneg (by omega)]
    show (y : Int) % 2 = 0
    omega

set_option maxRecDepth 100000 in
theorem rnot1_any (v : Nat) (w : World) : Calls Try.prog 49 #[.int .u8 (v : Int)] w fun e w' => e = .returned (.int .u8 (not1 v : Nat)) ∧ w' = w := by
  go_enter Try.func49, Try.ntmps49
  by_cases h0 : v = 0
  · subst h0
    go_wp2
    go_ret
    exact ⟨rfl, rfl⟩
  · have e0 : ((v : Int) == 0) = false := by simp; omega
    by_cases h1 : v = 1
    · subst h1
      go_wp2
      go_ret
      exact ⟨rfl, rfl⟩
    · have e1 : ((v : Int) == 1) = false := by simp; omega
      have HE : Hid (not1 v = 2) := by show _ = _; unfold not1; rw [if_neg h0, if_neg h1]
      clear h0 h1
      go_wp2
      go_ret
      exact ⟨by rw [HE.out]; rfl, rfl⟩

set_option maxRecDepth 100000 in
theorem rand1_any (a b : Nat) (w : World) : Calls Try.prog 37 #[.int .u8 (a : Int), .int .u8 (b : Int)] w fun e w' => e = .returned (.int .u8 (and1 a b : Nat)) ∧ w' = w := by
  go_enter Try.func37, Try.ntmps37
  by_cases h0 : a = 0
  · subst h0
    go_wp2
    go_ret
    exact ⟨rfl, rfl⟩
  · have e0 : ((a : Int) == 0) = false := by simp; omega
    by_cases h1 : b = 0
    · subst h1
      have HE : Hid (and1 a 0 = 0) := by show _ = _; unfold and1; simp
      clear h0
      go_wp2
      go_ret
      exact ⟨by rw [HE.out]; rfl, rfl⟩
    · have e1 : ((b : Int) == 0) = false := by simp; omega
      by_cases h2 : a = 1
      · subst h2
        by_cases h3 : b = 1
        · subst h3
          go_wp2
          go_ret
          exact ⟨rfl, rfl⟩
        · have e3 : ((b : Int) == 1) = false := by simp; omega
          have HE : Hid (and1 1 b = 2) := by show _ = _; unfold and1; simp [h1, h3]
          clear h0 h1 h3
          go_wp2
          go_ret
          exact ⟨by rw [HE.out]; rfl, rfl⟩
      · have e2 : ((a : Int) == 1) = false := by simp; omega
        have HE : Hid (and1 a b = 2) := by show _ = _; unfold and1; simp [h0, h1, h2]
        clear h0 h1 h2
        go_wp2
        go_ret
        exact ⟨by rw [HE.out]; rfl, rfl⟩

/-- The place has a bit. -/
def hasW (a : W2) (j : Nat) : Bool := a.1.testBit j || a.2.testBit j
theorem mayW_of {a : W2} (ha : a.in) (h : ∀ j, j < 64 → hasW a j = true) : mayW a = true := by
  rw [mayW_iff ha]
  intro j hj
  have := h j hj
  unfold hasW at this
  simpa using this
theorem mayW_not {a : W2} (ha : a.in) {j : Nat} (hj : j < 64) (h : hasW a j = false) : mayW a = false := by
  cases hm : mayW a with
  | false => rfl
  | true =>
    have := (mayW_iff ha).1 hm j hj
    unfold hasW at h
    simp only [Bool.or_eq_false_iff] at h
    rw [h.1, h.2] at this
    simp at this

end Go.Proofs.Ytgpkghlhlabjcaa
/- sim: isValue, areValues, Value; the reference's fine and Value, by their contracts. -/
namespace Go.Proofs.Ytgpkghlhlabjcaa
open Go Go.RowKit Go.Joins

set_option maxRecDepth 100000 in
theorem fine_any (many : Int) (l : List UInt8) (a : Option Addr) (n c : Nat) (hn : n ≤ 1048576) (w : World) (h : Sees w a n c (l.map bv)) :
    Calls Try.prog 47 #[.slice a n c, .int .i64 many] w fun e w' => e = .returned (.bool (valsOk l many)) ∧ w = w' := by
  have hl := h.lenMap
  obtain ⟨q, hq⟩ : ∃ q, q = valsOk l many := ⟨_, rfl⟩
  have NO : Hid (∀ k, k < n → 2 < (l.getD k 0).toNat → q = false) := fun k hk hb => by
    rw [hq]; unfold valsOk
    rw [show l.any (fun u => decide (2 < u.toNat)) = true from List.any_eq_true.2 ⟨_, getD_mem (by rw [hl]; exact hk), decide_eq_true hb⟩]; simp
  have YES : Hid ((∀ k, k < n → ¬ 2 < (l.getD k 0).toNat) → q = decide ((n : Int) = many)) := fun hh => by
    rw [hq]; unfold valsOk
    rw [hl, show l.any (fun u => decide (2 < u.toNat)) = false from any_none (all_of_getD (d := 0) (fun j hj => decide_eq_false (hh j (by rw [← hl]; exact hj))))]; simp
  have HS := Lib.hid h
  have HL := Lib.hid hl
  rw [← hq]
  clear hq h hl
  go_enter Try.func47, Try.ntmps47
  go_wp2
  go_loop [5] (fun i => ∃ k : Nat, k ≤ n ∧ i = .int .i64 k ∧ Hid (∀ j, j < k → ¬ 2 < (l.getD j 0).toNat)) (fun i => n - (intOf i).toNat)
  case atStart => exact ⟨0, Nat.zero_le _, rfl, fun j hj => absurd hj (by omega)⟩
  case round =>
    obtain ⟨k, hk, rfl, hno⟩ := hrel
    by_cases hlt : k < n
    · obtain ⟨b, off, rfl, hbw⟩ := HS.out.addr (by omega)
      have hcx := HS.out.byte k hlt
      have W1 : IntKind.i64.wrap ((k : Int) + 1) = (k : Int) + 1 := IntWalk.i64_in _ (by omega)
      obtain ⟨u, hu⟩ : ∃ u, u = (l.getD k 0).toNat := ⟨_, rfl⟩
      have hcx2 : w.cell? ⟨b, off + k, none⟩ = some (.int .u8 (u : Int)) := by rw [hu]; exact hcx
      have HU := Lib.hid hu
      clear hcx hu
      by_cases hq : 2 < u
      · have e1 : decide ((2 : Int) < (u : Int)) = true := by simp; omega
        have HQ : Hid (q = false) := NO.out k hlt (by rw [← HU.out]; exact hq)
        go_wp2
        go_ret
        exact ⟨by rw [HQ.out]; rfl, rfl⟩
      · have e1 : decide ((2 : Int) < (u : Int)) = false := by simp; omega
        have HQ := Lib.hid hq
        clear hq
        go_wp2
        go_round
        case rel =>
          refine ⟨k + 1, by omega, by go_num, fun j hj => ?_⟩
          rcases Nat.lt_or_ge j k with h | h
          · exact hno.out j h
          · have : j = k := by omega
            subst this
            rw [← HU.out]; exact HQ.out
        case measure => simp [intOf]; omega
    · have hkn : k = n := by omega
      subst hkn
      have Y := Lib.hid (YES.out hno.out)
      by_cases hq : (k : Int) = many
      · have e1 : ((k : Int) == many) = true := by simpa using hq
        have HQ := Lib.hid hq
        clear hq
        go_wp2
        go_ret
        exact ⟨by rw [Y.out]; have := HQ.out; simp [this], rfl⟩
      · have e1 : ((k : Int) == many) = false := by simpa using hq
        have e2 : ((k : Int) = many) = False := by simpa using hq
        have HQ := Lib.hid hq
        clear hq
        go_wp2
        go_ret
        exact ⟨by rw [Y.out]; have := HQ.out; simp [this], rfl⟩

/-- What is told of a literal. -/
def valueL (vars : List UInt8) (lit : Nat) : UInt8 := if lit / 2 < vars.length ∧ (vars.getD (lit / 2) 0).toNat ≤ 2 then k1.val vars lit else 2

set_option maxRecDepth 100000 in
theorem refvalue_any (vars : List UInt8) (a : Option Addr) (n c lit : Nat) (w : World) (h : Sees w a n c (vars.map bv)) (h2 : lit < 4294967296) :
    Calls Try.prog 36 #[.slice a n c, .int .u32 lit] w fun e w' => e = .returned (bv (valueL vars lit)) ∧ w' = w := by
  have hl := h.lenMap
  have D1 : Int.tdiv (lit : Int) 2 = ((lit / 2 : Nat) : Int) := by rw [Int.tdiv_eq_ediv_of_nonneg (by omega)]; omega
  have D2 : Int.tmod (lit : Int) 2 = ((lit % 2 : Nat) : Int) := by rw [Int.tmod_eq_emod_of_nonneg (by omega)]; omega
  have hE : ∀ d m, d = lit / 2 → m = lit % 2 → valueL vars lit = if d < n ∧ (vars.getD d 0).toNat ≤ 2 then (if m = 1 then k1.nt (vars.getD d 0) else vars.getD d 0) else 2 := fun d m hd hm => by unfold valueL; rw [hl, hd, hm]; rfl
  obtain ⟨d, hd⟩ : ∃ d, d = lit / 2 := ⟨_, rfl⟩
  obtain ⟨m, hm⟩ : ∃ m, m = lit % 2 := ⟨_, rfl⟩
  have HE := Lib.hid (hE d m hd hm)
  rw [← hd] at D1
  rw [← hm] at D2
  have hd32 : d < 4294967296 := by omega
  have hm2 : m < 2 := by omega
  have U1 : IntKind.u32.wrap (d : Int) = (d : Int) := IntWalk.u32_in _ (by omega)
  have U2 : IntKind.i64.wrap (d : Int) = (d : Int) := IntWalk.i64_in _ (by omega)
  have U3 : IntKind.u32.wrap (m : Int) = (m : Int) := IntWalk.u32_in _ (by omega)
  clear hE hl hd hm
  have HS := Lib.hid h
  obtain ⟨V, hV⟩ : ∃ V, V = valueL vars lit := ⟨_, rfl⟩
  rw [← hV] at HE ⊢
  clear hV h h2 hd32
  go_enter Try.func36, Try.ntmps36
  by_cases h1 : d < n
  · obtain ⟨b, off, rfl, hbw⟩ := HS.out.addr (by omega)
    have hcx := HS.out.byte d h1
    obtain ⟨u, hu⟩ : ∃ u, u = vars.getD d 0 := ⟨_, rfl⟩
    rw [← hu] at hcx HE
    obtain ⟨x, hx⟩ : ∃ x, x = u.toNat := ⟨_, rfl⟩
    rw [← hx] at hcx HE
    have hI : (d : Int) < (n : Int) := by omega
    have hI2 : ¬ (n : Int) ≤ (d : Int) := by omega
    have HN := Lib.hid (rnot1_any x)
    by_cases h3 : x ≤ 2
    · have e3 : decide ((2 : Int) < (x : Int)) = false := by simp; omega
      have HF : Hid (V = if m = 1 then k1.nt u else u) := by show _ = _; rw [HE.out, if_pos ⟨h1, h3⟩]
      have HU := Lib.hid hx
      clear h3 HE hu hx
      by_cases h4 : m = 1
      · subst h4
        go_wp2_with fail
        refine (HN.out _).mono ?_
        rintro e w1 ⟨rfl, rfl⟩
        go_wp2
        go_ret
        exact ⟨by rw [HF.out]; simp only [if_true]; rw [bv_not, ← HU.out]; rfl, rfl⟩
      · have e1 : ((m : Int) == 1) = false := by simp; omega
        have H4 := Lib.hid h4
        clear h4 hm2
        go_wp2
        go_ret
        exact ⟨by rw [HF.out, if_neg H4.out]; show _ = Ending.returned (.int .u8 ((u.toNat : Nat) : Int)); rw [← HU.out]; rfl, rfl⟩
    · have e3 : decide ((2 : Int) < (x : Int)) = true := by simp; omega
      have HF : Hid (V = 2) := by show _ = _; rw [HE.out, if_neg (fun h => h3 h.2)]
      clear h3 HE hu hx
      go_wp2
      go_ret
      exact ⟨by rw [HF.out]; rfl, rfl⟩
  · have hI2 : (n : Int) ≤ (d : Int) := by omega
    have HF : Hid (V = 2) := by show _ = _; rw [HE.out, if_neg (fun h => h1 h.1)]
    clear h1 HE
    go_wp2
    go_ret
    exact ⟨by rw [HF.out]; rfl, rfl⟩
end Go.Proofs.Ytgpkghlhlabjcaa
/- The reference's Frame, by its contract. -/
namespace Go.Proofs.Ytgpkghlhlabjcaa
open Go Go.RowKit Go.Joins

/-- May a frame be? -/
def frameOk (c : NormC) (st ins : List UInt8) : Bool := mayC c && valsOk st c.lats.length && valsOk ins c.ins
/-- What a frame answers, or its error. -/
def FrPost (w : World) (ok : Bool) (vs ns : List UInt8) (e : Ending) (w' : World) : Prop :=
  ∃ x y : Slc, e = .returned (.tuple #[slV x, slV y, .int .i64 (if ok = true then 0 else 2)]) ∧ Row isByte w' w.heap.size 5 (slV x) (if ok = true then vs else []).length ((if ok = true then vs else []).map bv) ∧
    Row isByte w' w.heap.size 5 (slV y) (if ok = true then ns else []).length ((if ok = true then ns else []).map bv) ∧ Below w.heap.size w w'
theorem FrPost.no {w w' : World} {ok : Bool} {vs ns : List UInt8} (h : ok = false) (hb : Below w.heap.size w w') : FrPost w ok vs ns (.returned (.tuple #[.slice none 0 0, .slice none 0 0, .int .i64 2])) w' := by
  subst h
  exact ⟨slc0, slc0, rfl, Row.nil _ _ _ _, Row.nil _ _ _ _, hb⟩
theorem valsOk_iff {l : List UInt8} {m : Int} : valsOk l m = true ↔ (l.length : Int) = m ∧ ∀ u ∈ l, u.toNat ≤ 2 := by
  unfold valsOk
  simp only [Bool.and_eq_true, decide_eq_true_eq, Bool.not_eq_true', List.any_eq_false]
  exact ⟨fun h => ⟨h.1, fun u hu => by have := h.2 u hu; simpa using this⟩, fun h => ⟨h.1, fun u hu => by have := h.2 u hu; simpa using this⟩⟩
theorem k1_nt_le (a : UInt8) : (k1.nt a).toNat ≤ 2 := by
  show (UInt8.ofNat (not1 a.toNat)).toNat ≤ 2
  have := not1_le a.toNat
  rw [UInt8.toNat_ofNat', Nat.mod_eq_of_lt (by omega)]
  exact this
theorem k1_an_le (a b : UInt8) : (k1.an a b).toNat ≤ 2 := by
  show (UInt8.ofNat (and1 a.toNat b.toNat)).toNat ≤ 2
  have := and1_le a.toNat b.toNat
  rw [UInt8.toNat_ofNat', Nat.mod_eq_of_lt (by omega)]
  exact this
theorem gates_le2 : ∀ (l : List (Nat × Nat)) (vs : List UInt8), (∀ u ∈ vs, u.toNat ≤ 2) → ∀ u ∈ k1.gates l vs, u.toNat ≤ 2
  | [], _, h => h
  | g :: r, vs, h => by
    rw [Kd.gates]
    refine gates_le2 r _ (fun u hu => ?_)
    rcases List.mem_append.1 hu with hu | hu
    · exact h u hu
    · obtain rfl : u = _ := by simpa using hu
      exact k1_an_le _ _
theorem valueL_eq {vs : List UInt8} {lit : Nat} (h : lit / 2 < vs.length) (h2 : ∀ u ∈ vs, u.toNat ≤ 2) : valueL vs lit = k1.val vs lit := by
  unfold valueL
  rw [if_pos ⟨h, h2 _ (getD_mem h)⟩]

theorem keep3f {w w' : World} {a0 a1 a2 : Addr} {v0 v1 v2 : Value} (h : w.cell? a0 = some v0 ∧ w.cell? a1 = some v1 ∧ w.cell? a2 = some v2) (hb : Below w.heap.size w w') : w'.cell? a0 = some v0 ∧ w'.cell? a1 = some v1 ∧ w'.cell? a2 = some v2 := by
  obtain ⟨h0, h1, h2⟩ := h
  have one : ∀ {a : Addr} {v : Value}, w.cell? a = some v → w'.cell? a = some v := fun {a v} h => (hb.cell (World.block_lt_of_cell? _ _ h)).trans h
  exact ⟨one h0, one h1, one h2⟩

theorem row_base {ok : Value → Prop} {w : World} {base base' : Nat} {e : TypeId} {v : Value} {n : Nat} {xs : List Value} (h : Row ok w base e v n xs) (hb : base' ≤ base) : Row ok w base' e v n xs := by
  refine ⟨h.1, ?_⟩
  rcases h.2 with h2 | ⟨g, cap, cur, hv, hg, r⟩
  · exact .inl h2
  · exact .inr ⟨g, cap, cur, hv, Nat.le_trans hb hg, r⟩

set_option maxRecDepth 100000 in
set_option maxHeartbeats 3200000 in
theorem rframe_any (c : NormC) (s : CSlots) (st ins : List UInt8) (a1 : Option Addr) (n1 c1 : Nat) (a2 : Option Addr) (n2 c2 : Nat) (w : World) (hc : SeesCir w s c) (hs : s.small)
    (h1 : Sees w a1 n1 c1 (st.map bv)) (h2 : Sees w a2 n2 c2 (ins.map bv)) (hn1 : n1 ≤ 1048576) (hn2 : n2 ≤ 1048576) (hlo : -9223372036854775808 ≤ c.ins) (hhi : c.ins < 9223372036854775808) (hw : Wide c) :
    Calls Try.prog 33 #[cirV c.ins s, .slice a1 n1 c1, .slice a2 n2 c2] w (FrPost w (frameOk c st ins) (k1.vars c st ins) (k1.next c (k1.vars c st ins))) := by
  obtain ⟨i0, hi, hz0, hz1, hz2⟩ := info_parts info_byte
  have HMAY := Lib.hid (fun W (hb : Below w.heap.size w W) => refmay3_any c s W (hc.below hb) hs hlo hhi hw)
  have HF1 := Lib.hid (fun W (hb : Below w.heap.size w W) => fine_any (c.lats.length : Int) st a1 n1 c1 hn1 W (h1.below hb))
  have HF2 := Lib.hid (fun W (hb : Below w.heap.size w W) => fine_any c.ins ins a2 n2 c2 hn2 W (h2.below hb))
  obtain ⟨b1, m1, d1, b2, m2, d2, b3, m3, d3, b4, m4, d4, b5, m5, d5⟩ := s
  have hla : c.lats.length = m1 := hc.s1.1
  have hg : c.gates.length = m2 := hc.s2.1
  rw [hla] at HF1
  have HLA := Lib.hid hla
  have HG := Lib.hid hg
  have HC := Lib.hid hc
  have H1 := Lib.hid h1
  have H2 := Lib.hid h2
  obtain ⟨ok, hok⟩ : ∃ ok, ok = frameOk c st ins := ⟨_, rfl⟩
  obtain ⟨qm, hqm⟩ : ∃ q, q = mayC c := ⟨_, rfl⟩
  obtain ⟨q1, hq1⟩ : ∃ q, q = valsOk st (m1 : Int) := ⟨_, rfl⟩
  obtain ⟨q2, hq2⟩ : ∃ q, q = valsOk ins c.ins := ⟨_, rfl⟩
  have HOK : Hid (ok = (qm && q1 && q2)) := by show _ = _; rw [hok, hqm, hq1, hq2, ← hla]; rfl
  rw [← hok]
  rw [← hqm] at HMAY
  rw [← hq1] at HF1
  rw [← hq2] at HF2
  have HQM := Lib.hid hqm
  have HQ1 := Lib.hid hq1
  have HQ2 := Lib.hid hq2
  have HN1 : Hid (st.length = n1) := h1.lenMap
  have HN2 : Hid (ins.length = n2) := h2.lenMap
  clear hla hg hc h1 h2 hok hqm hq1 hq2 hlo hhi hw hs
  unfold cirV at *
  go_enter Try.func33, Try.ntmps33
  go_upto_region 1 with fail
  generalize hW : World.alloc w _ = W1
  have hb : Below w.heap.size w W1 := by subst hW; exact ext_alloc _ _
  have hx : W1.heap[w.heap.size]? = some (.cells #[.int .i64 c.ins, .slice b1 m1 d1, .slice b2 m2 d2, .slice b3 m3 d3, .slice b4 m4 d4, .slice b5 m5 d5] 26 (0, 0)) := by subst hW; exact heap_new _ _ _ rfl
  have HB := Lib.hid hb
  have HX := Lib.hid hx
  clear hW hb hx
  have p0 := cell_of_block HX.out 0
  have p1 := cell_of_block HX.out 1
  have p2 := cell_of_block HX.out 2
  have p3 := cell_of_block HX.out 3
  have p4 := cell_of_block HX.out 4
  have p5 := cell_of_block HX.out 5
  go_wp2_with fail
  refine (HMAY.out W1 HB.out).mono ?_
  rintro e W2 ⟨rfl, hb⟩
  have HX2 := Lib.hid (heap_below HX.out hb)
  have HB2 := Lib.hid (ext_trans HB.out hb)
  clear p0 p1 p2 p3 p4 p5 HX HB hb
  have p0 := cell_of_block HX2.out 0
  have p1 := cell_of_block HX2.out 1
  have p2 := cell_of_block HX2.out 2
  have p3 := cell_of_block HX2.out 3
  have p4 := cell_of_block HX2.out 4
  have p5 := cell_of_block HX2.out 5
  cases qm with
  | false =>
    have HO : Hid (ok = false) := by show _ = _; rw [HOK.out]; simp
    clear p0 p1 p2 p3 p4 p5
    go_wp2
    refine bodyPost_ret (v := .tuple #[.slice none 0 0, .slice none 0 0, .int .i64 2]) ?_ rfl ?_
    · simp [results, Try.results33, go_sem]
    · exact FrPost.no HO.out HB2.out
  | true =>
  go_wp2_with fail
  refine (HF1.out W2 HB2.out).mono ?_
  rintro e W3 ⟨rfl, rfl⟩
  cases q1 with
  | false =>
    have HO : Hid (ok = false) := by show _ = _; rw [HOK.out]; simp
    clear p0 p1 p2 p3 p4 p5
    go_wp2
    refine bodyPost_ret (v := .tuple #[.slice none 0 0, .slice none 0 0, .int .i64 2]) ?_ rfl ?_
    · simp [results, Try.results33, go_sem]
    · exact FrPost.no HO.out HB2.out
  | true =>
  go_wp2_with fail
  refine (HF2.out W2 HB2.out).mono ?_
  rintro e W4 ⟨rfl, rfl⟩
  cases q2 with
  | false =>
    have HO : Hid (ok = false) := by show _ = _; rw [HOK.out]; simp
    clear p0 p1 p2 p3 p4 p5
    go_wp2
    refine bodyPost_ret (v := .tuple #[.slice none 0 0, .slice none 0 0, .int .i64 2]) ?_ rfl ?_
    · simp [results, Try.results33, go_sem]
    · exact FrPost.no HO.out HB2.out
  | true =>
  have hmay := mayC_iff.1 HQM.out.symm
  obtain ⟨hl1, hv1⟩ := valsOk_iff.1 HQ1.out.symm
  obtain ⟨hl2, hv2⟩ := valsOk_iff.1 HQ2.out.symm
  have hl1' : st.length = m1 := by omega
  have hfew := hmay.few
  unfold varsN at hfew
  rw [← hl2, HLA.out, HG.out] at hfew
  simp only [Int.toNat_natCast] at hfew
  obtain rfl : m1 = n1 := by rw [← HN1.out]; exact hl1'.symm
  rw [HN2.out] at hfew
  have HF := Lib.hid hfew
  have HLT := Lib.hid (vars_lt c hmay st ins (by rw [HLA.out]; exact hl1') hl2)
  have HV1 := Lib.hid hv1
  have HV2 := Lib.hid hv2
  have HMC := Lib.hid hmay
  have HO : Hid (ok = true) := HOK.out
  have HINS : Hid ((n2 : Int) = c.ins) := by show _ = _; rw [← hl2, HN2.out]
  clear hl1 hl2 hv1 hv2 hl1' hfew hmay HF1 HF2 HMAY
  go_upto_region 4 with fail
  generalize hW : World.alloc W2 _ = W5
  have hb : Below W2.heap.size W2 W5 := by subst hW; exact ext_alloc _ _
  have hr0 : Row isByte W5 w.heap.size 5 (.slice (some ⟨W2.heap.size, 0, none⟩) 1 1) 1 [bv 0] := by
    subst hW
    exact ⟨rfl, .inr ⟨W2.heap.size, 1, #[.int .u8 0], rfl, HB2.out.size, heap_new _ _ _ rfl, Nat.le_refl _, by decide, rfl, rfl, fun u hu => isByte_all [0] u hu⟩⟩
  obtain ⟨F0, hF0⟩ : ∃ F, F = W2.heap.size := ⟨_, rfl⟩
  rw [← hF0] at hr0 ⊢
  have HX5 := Lib.hid (heap_below HX2.out hb)
  have HB5 := Lib.hid (ext_trans HB2.out hb)
  have R0 := Lib.hid hr0
  clear p0 p1 p2 p3 p4 p5 hW hb hr0 hF0 HX2 HB2
  go_wp2_with (at_builtin; refine wpList_append_row isByte _ rfl _ _ 27 rfl w.heap.size 5 i0 (.int .u8 0) 1 Try.underlying27 hi hz0 hz1 hz2 rfl isByte_zero _ _ _ rfl R0.out a2 n2 c2 (ins.map bv) rfl ?qb1 (bv_one _) (isByte_all _) ?qb4 ?qb5 ?qb6 ?_)
  case qb1 => exact H2.out.below HB5.out
  case qb4 => unfold maxLen; have := HF.out; omega
  case qb5 => have := HF.out; omega
  case qb6 => exact HB5.out.size
  intro v2 w2 r2 g2 _
  have HX6 := Lib.hid (heap_grown HX5.out g2 (R0.out.not_own HX5.out (by decide)))
  have HB6 := Lib.hid (HB5.out.grown g2 HB5.out.size (fun k hk => (R0.out.own.lt k hk).1))
  obtain ⟨e2, f2, rfl⟩ := r2.form
  have R2 := Lib.hid r2
  clear HX5 HB5 R0 g2 r2
  go_wp2_with (at_builtin; refine wpList_append_row isByte _ rfl _ _ 27 rfl w.heap.size 5 i0 (.int .u8 0) 1 Try.underlying27 hi hz0 hz1 hz2 rfl isByte_zero _ _ _ rfl R2.out a1 m1 c1 (st.map bv) rfl ?qc1 (bv_one _) (isByte_all _) ?qc4 ?qc5 ?qc6 ?_)
  case qc1 => exact H1.out.below HB6.out
  case qc4 => unfold maxLen; have := HF.out; omega
  case qc5 => have := HF.out; omega
  case qc6 => exact HB6.out.size
  intro v3 w3 r3 g3 _
  have HX7 := Lib.hid (heap_grown HX6.out g3 (R2.out.not_own HX6.out (by decide)))
  have HB7 := Lib.hid (HB6.out.grown g3 HB6.out.size (fun k hk => (R2.out.own.lt k hk).1))
  obtain ⟨V0, hV0⟩ : ∃ V0, V0 = (0 : UInt8) :: (ins ++ st) := ⟨_, rfl⟩
  obtain ⟨N0, hN0⟩ : ∃ N0, N0 = 1 + n2 + m1 := ⟨_, rfl⟩
  have HN0 : Hid (V0.length = N0) := by show _ = _; rw [hV0, hN0, List.length_cons, List.length_append, HN1.out, HN2.out]; omega
  have HV2L : Hid (∀ u ∈ V0, u.toNat ≤ 2) := by
    show ∀ u ∈ V0, _
    intro u hu
    rw [hV0] at hu
    rcases List.mem_cons.1 hu with rfl | hu
    · decide
    · rcases List.mem_append.1 hu with hu | hu
      · exact HV2.out u hu
      · exact HV1.out u hu
  have hr4 : Row isByte w3 w.heap.size 5 v3 N0 (V0.map bv) := by rw [hV0, hN0]; simpa using r3
  obtain ⟨e3, f3, rfl⟩ := hr4.form
  have R3 := Lib.hid hr4
  have HV0 := Lib.hid hV0
  have HNE := Lib.hid hN0
  clear HX6 HB6 R2 g3 r3 hr4 hV0 hN0
  have q2 := cell_of_block HX7.out 2
  go_wp2_with fail
  clear q2
  go_loopw [10, 9] (fun i v wr => ∃ (k : Nat) (a : Option Addr) (cp : Nat), k ≤ m2 ∧ i = .int .i64 k ∧ v = .slice a (N0 + k) cp ∧ Hid (Row isByte wr w.heap.size 5 (.slice a (N0 + k) cp) (N0 + k) ((k1.gates (c.gates.take k) V0).map bv)) ∧
      Hid (wr.heap[w.heap.size]? = some (.cells #[.int .i64 c.ins, .slice b1 m1 d1, .slice b2 m2 d2, .slice b3 m3 d3, .slice b4 m4 d4, .slice b5 m5 d5] 26 (0, 0))) ∧ Hid (Below w.heap.size w wr)) (fun i _ _ => m2 - (intOf i).toNat)
  case atStart => exact ⟨0, e3, f3, Nat.zero_le _, rfl, rfl, R3.out, HX7.out, HB7.out⟩
  case round =>
    clear HX7 HB7 R3
    obtain ⟨k, va, vc, hk, rfl, rfl, hR, hX, hB⟩ := hrel
    by_cases hlt : k < m2
    · obtain ⟨bb, off, rfl, hbb⟩ := HC.out.s2.addr (show 0 < m2 by omega)
      have HBB := Lib.hid hbb
      obtain ⟨qx, qy⟩ := (HC.out.below hB.out).s2.cells k hlt (0, 0)
      have hl4 := HLT.out k (by rw [HG.out]; exact hlt)
      have hsn : c.gates.take (k + 1) = c.gates.take k ++ [c.gates.getD k (0, 0)] := by
        rw [List.take_add_one, List.getElem?_eq_getElem (by rw [HG.out]; exact hlt)]; simp [List.getD, List.getElem?_eq_getElem (show k < c.gates.length by rw [HG.out]; exact hlt)]
      obtain ⟨p, hp⟩ : ∃ t, t = c.gates.getD k (0, 0) := ⟨_, rfl⟩
      rw [← hp] at qx qy hl4 hsn
      obtain ⟨x, y⟩ := p
      simp only [nv32] at qx qy
      simp only at hl4
      have hVl : (k1.gates (c.gates.take k) V0).length = N0 + k := by rw [Kd.gates_len, HN0.out, List.length_take, HG.out, Nat.min_eq_left (by omega)]
      have hV2 : ∀ u ∈ k1.gates (c.gates.take k) V0, u.toNat ≤ 2 := gates_le2 _ _ HV2L.out
      have HGS : Hid (k1.gates (c.gates.take (k + 1)) V0 = k1.gates (c.gates.take k) V0 ++ [k1.an (k1.val (k1.gates (c.gates.take k) V0) x) (k1.val (k1.gates (c.gates.take k) V0) y)]) := by show _ = _; rw [hsn, Kd.gates_snoc]
      obtain ⟨V, hV⟩ : ∃ V, V = k1.gates (c.gates.take k) V0 := ⟨_, rfl⟩
      rw [← hV] at HGS hVl hR hV2
      clear hV hsn hp
      have hsum : 1 + (ins.length + st.length) + k = N0 + k := by rw [HNE.out, HN1.out, HN2.out]; omega
      rw [hsum] at hl4
      have W1' : IntKind.i64.wrap ((k : Int) + 1) = (k : Int) + 1 := IntWalk.i64_in _ (by have := HF.out; omega)
      obtain ⟨av, cv, hrv, _, hsv⟩ := hR.out.sees
      cases hrv
      obtain ⟨na, hna⟩ : ∃ na, na = k1.val V x := ⟨_, rfl⟩
      obtain ⟨nb, hnb⟩ : ∃ nb, nb = k1.val V y := ⟨_, rfl⟩
      have EA : ∀ W, Below wr.heap.size wr W → Calls Try.prog 36 #[.slice va (N0 + k) vc, .int .u32 (x : Int)] W fun e w' => e = .returned (.int .u8 (na.toNat : Int)) ∧ w' = W := fun W hb => by
        rw [hna, ← valueL_eq (by rw [hVl]; exact hl4.1) hV2]; exact refvalue_any V va (N0 + k) vc x W (hsv.below hb) hl4.2.2.1
      have EB : ∀ W, Below wr.heap.size wr W → Calls Try.prog 36 #[.slice va (N0 + k) vc, .int .u32 (y : Int)] W fun e w' => e = .returned (.int .u8 (nb.toNat : Int)) ∧ w' = W := fun W hb => by
        rw [hnb, ← valueL_eq (by rw [hVl]; exact hl4.2.1) hV2]; exact refvalue_any V va (N0 + k) vc y W (hsv.below hb) hl4.2.2.2
      have HEA := Lib.hid EA
      have HEB := Lib.hid EB
      have HEC := Lib.hid (rand1_any na.toNat nb.toNat)
      rw [← hna, ← hnb] at HGS
      obtain ⟨nc, hnc⟩ : ∃ nc, nc = k1.an na nb := ⟨_, rfl⟩
      rw [← hnc] at HGS
      have HNC : Hid (Value.int .u8 ((and1 na.toNat nb.toNat : Nat) : Int) = bv nc) := by show _ = _; rw [hnc, bv_and]
      obtain ⟨nd, hnd⟩ : ∃ nd, nd = and1 na.toNat nb.toNat := ⟨_, rfl⟩
      rw [← hnd] at HEC HNC
      clear hna hnb hnc hnd EA EB hsv hV2 hVl hl4 hsum
      have hq4 : N0 + k + 1 ≤ maxLen := by unfold maxLen; have := HF.out; have := HNE.out; omega
      have hq5 : (N0 + k + 1) * 1 ≤ 140737488355328 := by have := HF.out; have := HNE.out; omega
      have H1C : Hid (∀ u ∈ [Value.int .u8 ((nd : Nat) : Int)], u.oneCell' = true) := by rw [HNC.out]; exact bv_one [nc]
      have HOC : Hid (∀ u ∈ [Value.int .u8 ((nd : Nat) : Int)], isByte u) := by rw [HNC.out]; exact isByte_all [nc]
      have HQ4 := Lib.hid hq4
      have HQ5 := Lib.hid hq5
      have hI : (k : Int) < (m2 : Int) := by omega
      have p2 := cell_of_block hX.out 2
      have HP := Lib.hid (And.intro p2 (And.intro qx qy))
      clear hq4 hq5
      clear qx qy
      go_upto_region 8 with fail
      clear p2
      refine wp_region_noPanic ?_
      refine wp_region_held (S := fun w' => w'.cell? ⟨w.heap.size, 2, none⟩ = some (.slice (some ⟨bb, off, none⟩) m2 d2) ∧ w'.cell? ⟨bb, off + k * 2, none⟩ = some (.int .u32 (x : Int)) ∧ w'.cell? ⟨bb, off + k * 2 + 1, none⟩ = some (.int .u32 (y : Int))) (by kernel_rfl) ?_
      generalize hY : ({ wr with drawn := wr.drawn + 1 } : World) = Y0
      have hY0 : Below wr.heap.size wr Y0 := by subst hY; exact (Below.refl _ _).drew
      have HSD := Lib.hid (keep3f HP.out hY0)
      have HYB := Lib.hid hY0
      clear hY0 hY
      refine wpAnyH_take (i := 0) (v := ?_) (by simp only [List.getElem?_toArray, List.getElem?_cons_zero]; rfl) (by kernel_rfl) (by kernel_rfl) (by kernel_rfl) (fun _ _ _ h => h) (Or.inl ⟨by rfl, ?_⟩) HSD.out ?_
      rotate_left
      · intro w hSw
        (try dsimp only at hSw)
        obtain ⟨q0_, q1_, q2_⟩ := hSw
        go_simp
        try with_reducible rfl
      try simp only [Act.put, List.setIfInBounds_toArray, List.set_cons_zero, List.set_cons_succ]
      refine wpAnyH_take (i := 1) (v := ?_) (by simp only [List.getElem?_toArray, List.getElem?_cons_zero, List.getElem?_cons_succ]; rfl) (by kernel_rfl) (by kernel_rfl) (by kernel_rfl) (fun _ _ _ h => h) (Or.inl ⟨by rfl, ?_⟩) HSD.out ?_
      rotate_left
      · intro w hSw
        (try dsimp only at hSw)
        obtain ⟨q0_, q1_, q2_⟩ := hSw
        go_simp
        try with_reducible rfl
      try simp only [Act.put, List.setIfInBounds_toArray, List.set_cons_zero, List.set_cons_succ]
      refine wpAnyH_take (i := 2) (v := ?_) (by simp only [List.getElem?_toArray, List.getElem?_cons_zero, List.getElem?_cons_succ]; rfl) (by kernel_rfl) (by kernel_rfl) (by kernel_rfl) (fun _ _ _ h => h) (Or.inl ⟨by rfl, ?_⟩) HSD.out ?_
      rotate_left
      · intro w hSw
        (try dsimp only at hSw)
        obtain ⟨q0_, q1_, q2_⟩ := hSw
        go_simp
        try with_reducible rfl
      try simp only [Act.put, List.setIfInBounds_toArray, List.set_cons_zero, List.set_cons_succ]
      refine wpAnyH_take (i := 3) (v := ?_) (by simp only [List.getElem?_toArray, List.getElem?_cons_zero, List.getElem?_cons_succ]; rfl) (by kernel_rfl) (by kernel_rfl) (by kernel_rfl) (fun _ _ _ h => h) (Or.inl ⟨by rfl, ?_⟩) HSD.out ?_
      rotate_left
      · intro w hSw
        (try dsimp only at hSw)
        obtain ⟨q0_, q1_, q2_⟩ := hSw
        go_simp
        try with_reducible rfl
      try simp only [Act.put, List.setIfInBounds_toArray, List.set_cons_zero, List.set_cons_succ]
      refine wpAnyH_take (i := 4) (v := ?_) (by simp only [List.getElem?_toArray, List.getElem?_cons_zero, List.getElem?_cons_succ]; rfl) (by kernel_rfl) (by kernel_rfl) (by kernel_rfl) (fun _ _ _ h => h) (Or.inl ⟨by rfl, ?_⟩) HSD.out ?_
      rotate_left
      · intro w hSw
        (try dsimp only at hSw)
        obtain ⟨q0_, q1_, q2_⟩ := hSw
        go_simp
        try with_reducible rfl
      try simp only [Act.put, List.setIfInBounds_toArray, List.set_cons_zero, List.set_cons_succ]
      refine wpAnyH_take (i := 5) (v := ?_) (by simp only [List.getElem?_toArray, List.getElem?_cons_zero, List.getElem?_cons_succ]; rfl) (by kernel_rfl) (by kernel_rfl) (by kernel_rfl) (fun _ _ _ h => h) (Or.inl ⟨by rfl, ?_⟩) HSD.out ?_
      rotate_left
      · intro w hSw
        (try dsimp only at hSw)
        obtain ⟨q0_, q1_, q2_⟩ := hSw
        go_simp
        try with_reducible rfl
      try simp only [Act.put, List.setIfInBounds_toArray, List.set_cons_zero, List.set_cons_succ]
      refine wpAnyH_take (i := 6) (v := ?_) (by simp only [List.getElem?_toArray, List.getElem?_cons_zero, List.getElem?_cons_succ]; rfl) (by kernel_rfl) (by kernel_rfl) (by kernel_rfl) (fun _ _ _ h => h) (Or.inl ⟨by rfl, ?_⟩) HSD.out ?_
      rotate_left
      · intro w hSw
        (try dsimp only at hSw)
        obtain ⟨q0_, q1_, q2_⟩ := hSw
        go_simp
        try with_reducible rfl
      try simp only [Act.put, List.setIfInBounds_toArray, List.set_cons_zero, List.set_cons_succ]
      refine wpAnyH_take (i := 7) (v := ?_) (by simp only [List.getElem?_toArray, List.getElem?_cons_zero, List.getElem?_cons_succ]; rfl) (by kernel_rfl) (by kernel_rfl) (by kernel_rfl) (fun _ _ _ h => h) (Or.inl ⟨by rfl, ?_⟩) HSD.out ?_
      rotate_left
      · intro w hSw
        (try dsimp only at hSw)
        obtain ⟨q0_, q1_, q2_⟩ := hSw
        go_simp
        try with_reducible rfl
      try simp only [Act.put, List.setIfInBounds_toArray, List.set_cons_zero, List.set_cons_succ]
      refine wpAnyH_take (i := 9) (v := ?_) (by simp only [List.getElem?_toArray, List.getElem?_cons_zero, List.getElem?_cons_succ]; rfl) (by kernel_rfl) (by kernel_rfl) (by kernel_rfl) (fun _ _ _ h => h) (Or.inl ⟨by rfl, ?_⟩) HSD.out ?_
      rotate_left
      · intro w hSw
        (try dsimp only at hSw)
        obtain ⟨q0_, q1_, q2_⟩ := hSw
        go_simp
        try with_reducible rfl
      try simp only [Act.put, List.setIfInBounds_toArray, List.set_cons_zero, List.set_cons_succ]
      refine wpAnyH_take (i := 10) (v := ?_) (by simp only [List.getElem?_toArray, List.getElem?_cons_zero, List.getElem?_cons_succ]; rfl) (by kernel_rfl) (by kernel_rfl) (by kernel_rfl) (fun _ _ _ h => h) (Or.inl ⟨by rfl, ?_⟩) HSD.out ?_
      rotate_left
      · intro w hSw
        (try dsimp only at hSw)
        obtain ⟨q0_, q1_, q2_⟩ := hSw
        go_simp
        try with_reducible rfl
      try simp only [Act.put, List.setIfInBounds_toArray, List.set_cons_zero, List.set_cons_succ]
      refine wpAnyH_take (i := 11) (v := ?_) (by simp only [List.getElem?_toArray, List.getElem?_cons_zero, List.getElem?_cons_succ]; rfl) (by kernel_rfl) (by kernel_rfl) (by kernel_rfl) (fun _ _ _ h => h) (Or.inl ⟨by rfl, ?_⟩) HSD.out ?_
      rotate_left
      · intro w hSw
        (try dsimp only at hSw)
        obtain ⟨q0_, q1_, q2_⟩ := hSw
        go_simp
        try with_reducible rfl
      try simp only [Act.put, List.setIfInBounds_toArray, List.set_cons_zero, List.set_cons_succ]
      refine wpAnyH_take (i := 12) (v := ?_) (by simp only [List.getElem?_toArray, List.getElem?_cons_zero, List.getElem?_cons_succ]; rfl) (by kernel_rfl) (by kernel_rfl) (by kernel_rfl) (fun _ _ _ h => h) (Or.inl ⟨by rfl, ?_⟩) HSD.out ?_
      rotate_left
      · intro w hSw
        (try dsimp only at hSw)
        obtain ⟨q0_, q1_, q2_⟩ := hSw
        go_simp
        try with_reducible rfl
      try simp only [Act.put, List.setIfInBounds_toArray, List.set_cons_zero, List.set_cons_succ]
      refine wpAnyH_take (i := 13) (v := ?_) (by simp only [List.getElem?_toArray, List.getElem?_cons_zero, List.getElem?_cons_succ]; rfl) (by kernel_rfl) (by kernel_rfl) (by kernel_rfl) (fun _ _ _ h => h) (Or.inl ⟨by rfl, ?_⟩) HSD.out ?_
      rotate_left
      · intro w hSw
        (try dsimp only at hSw)
        obtain ⟨q0_, q1_, q2_⟩ := hSw
        go_simp
        try with_reducible rfl
      try simp only [Act.put, List.setIfInBounds_toArray, List.set_cons_zero, List.set_cons_succ]
      refine wpAnyH_take (i := 14) (v := ?_) (by simp only [List.getElem?_toArray, List.getElem?_cons_zero, List.getElem?_cons_succ]; rfl) (by kernel_rfl) (by kernel_rfl) (by kernel_rfl) (fun _ _ _ h => h) (Or.inl ⟨by rfl, ?_⟩) HSD.out ?_
      rotate_left
      · intro w hSw
        (try dsimp only at hSw)
        obtain ⟨q0_, q1_, q2_⟩ := hSw
        go_simp
        try with_reducible rfl
      try simp only [Act.put, List.setIfInBounds_toArray, List.set_cons_zero, List.set_cons_succ]
      refine wpAnyH_take (i := 15) (v := ?_) (by simp only [List.getElem?_toArray, List.getElem?_cons_zero, List.getElem?_cons_succ]; rfl) (by kernel_rfl) (by kernel_rfl) (by kernel_rfl) (fun _ _ _ h => h) (Or.inl ⟨by rfl, ?_⟩) HSD.out ?_
      rotate_left
      · intro w hSw
        (try dsimp only at hSw)
        obtain ⟨q0_, q1_, q2_⟩ := hSw
        go_simp
        try with_reducible rfl
      try simp only [Act.put, List.setIfInBounds_toArray, List.set_cons_zero, List.set_cons_succ]
      refine wpAnyH_ready (rs := [8]) (by kernel_rfl) (by simp) ?_
      refine AllReadyH.cons (by simp only [List.getElem?_toArray, List.getElem?_cons_zero, List.getElem?_cons_succ]; rfl) (fun K hK => ?_) AllReadyH.nil
      go_simp
      refine (HEA.out _ HYB.out).mono ?_
      rintro e s1 ⟨rfl, rfl⟩
      refine hK.out _ _ HSD.out (fun _ => ?_)
      clear hK K
      try simp only [Act.put, List.setIfInBounds_toArray, List.set_cons_zero, List.set_cons_succ]
      refine wpAnyH_ready (rs := [16]) (by kernel_rfl) (by simp) ?_
      refine AllReadyH.cons (by simp only [List.getElem?_toArray, List.getElem?_cons_zero, List.getElem?_cons_succ]; rfl) (fun K hK => ?_) AllReadyH.nil
      go_simp
      refine (HEB.out _ HYB.out).mono ?_
      rintro e s1 ⟨rfl, rfl⟩
      refine hK.out _ _ HSD.out (fun _ => ?_)
      clear hK K
      try simp only [Act.put, List.setIfInBounds_toArray, List.set_cons_zero, List.set_cons_succ]
      refine wpAnyH_ready (rs := [17]) (by kernel_rfl) (by simp) ?_
      refine AllReadyH.cons (by simp only [List.getElem?_toArray, List.getElem?_cons_zero, List.getElem?_cons_succ]; rfl) (fun K hK => ?_) AllReadyH.nil
      go_simp
      refine (HEC.out _).mono ?_
      rintro e s1 ⟨rfl, rfl⟩
      refine hK.out _ _ HSD.out (fun _ => ?_)
      clear hK K
      try simp only [Act.put, List.setIfInBounds_toArray, List.set_cons_zero, List.set_cons_succ]
      refine wpAnyH_ready (rs := [18]) (by kernel_rfl) (by simp) ?_
      refine AllReadyH.cons (by simp only [List.getElem?_toArray, List.getElem?_cons_zero, List.getElem?_cons_succ]; rfl) (fun K hK => ?_) AllReadyH.nil
      go_simp
      have HBA := Lib.hid (ext_trans HYB.out (ext_alloc _ (.cells #[.int .u8 (nd : Int)] 5)))
      have HSA := Lib.hid (keep3f HP.out HBA.out)
      refine hK.out _ _ HSA.out (fun _ => ?_)
      clear hK K
      try simp only [Act.put, List.setIfInBounds_toArray, List.set_cons_zero, List.set_cons_succ]
      refine wpAnyH_ready (rs := [19]) (by kernel_rfl) (by simp) ?_
      refine AllReadyH.cons (by simp only [List.getElem?_toArray, List.getElem?_cons_zero, List.getElem?_cons_succ]; rfl) (fun K hK => ?_) AllReadyH.nil
      refine step_append_row isByte _ rfl _ _ 27 rfl w.heap.size 5 i0 (.int .u8 0) 1 Try.underlying27 hi hz0 hz1 hz2 rfl isByte_zero _ _ _ (by simp [Act.eval]) (hR.out.below HBA.out) _ _ _ _ (by simp [Act.eval]) (sees_box1 _ _ _) H1C.out HOC.out HQ4.out HQ5.out (ext_trans hB.out HBA.out).size ?_
      intro v2 w2 r2 g2
      have hrz := hR.out.below HBA.out
      have HXZ := Lib.hid (heap_grown (heap_below hX.out HBA.out) g2 (hrz.not_own (heap_below hX.out HBA.out) (by decide)))
      have HBZ := Lib.hid ((ext_trans hB.out HBA.out).grown g2 (ext_trans hB.out HBA.out).size (fun k hk => (hrz.own.lt k hk).1))
      have HS3 := Lib.hid (And.intro (cell_of_block HXZ.out 2) (And.intro (((HBZ.out.cell HBB.out).trans (hB.out.cell HBB.out).symm).trans HP.out.2.1) (((HBZ.out.cell HBB.out).trans (hB.out.cell HBB.out).symm).trans HP.out.2.2)))
      obtain ⟨a2z, c2z, rfl⟩ := r2.form
      have R2 := Lib.hid r2
      clear r2 g2 hrz
      refine hK.out _ _ HS3.out (fun _ => ?_)
      clear hK K
      try simp only [Act.put, List.setIfInBounds_toArray, List.set_cons_zero, List.set_cons_succ]
      refine wpAnyH_take (i := 20) (v := ?_) (by simp only [List.getElem?_toArray, List.getElem?_cons_zero, List.getElem?_cons_succ]; rfl) (by kernel_rfl) (by kernel_rfl) (by kernel_rfl) (fun _ _ _ h => h) (Or.inl ⟨by rfl, ?_⟩) HS3.out ?_
      rotate_left
      · intro w hSw
        (try dsimp only at hSw)
        obtain ⟨q0_, q1_, q2_⟩ := hSw
        go_simp
        try with_reducible rfl
      try simp only [Act.put, List.setIfInBounds_toArray, List.set_cons_zero, List.set_cons_succ]
      refine wpAnyH_done (by kernel_rfl) ?_ _
      refine NoPanic.normal ?_
      go_wp2
      go_roundw
      case rel => exact ⟨k + 1, _, _, by omega, by go_num, rfl, (by rw [HGS.out, List.map_append]; have h := R2.out; rw [HNC.out] at h; exact h), HXZ.out, HBZ.out⟩
      case measure => simp [intOf]; omega
    · obtain rfl : m2 = k := by omega
      rw [List.take_of_length_le (by rw [HG.out]; exact Nat.le_refl _)] at hR
      have hVV : k1.gates c.gates V0 = k1.vars c st ins := by rw [HV0.out]; rfl
      have hVA : ∀ u ∈ k1.gates c.gates V0, u.toNat ≤ 2 := gates_le2 _ _ HV2L.out
      rw [hVV] at hR hVA
      clear hVV
      obtain ⟨VS, hVS⟩ : ∃ VS, VS = k1.vars c st ins := ⟨_, rfl⟩
      rw [← hVS] at hR hVA
      have hVL : VS.length = N0 + m2 := by rw [hVS, Kd.vars_len, HG.out, HN1.out, HN2.out, HNE.out]; omega
      have HLL : Hid (∀ j, j < m1 → (c.lats.getD j (0, 0)).1 / 2 < N0 + m2 ∧ (c.lats.getD j (0, 0)).1 < 4294967296) := fun j hj => by
        have h1 := (HMC.out.lats _ (getD_mem (d := (0, 0)) (show j < c.lats.length by rw [HLA.out]; exact hj))).1
        have h2 : varsN c = n2 + m1 + m2 := by
          unfold varsN
          have h3 := HINS.out
          rw [HG.out, HLA.out]
          omega
        have h4 := HF.out
        have h5 := HNE.out
        omega
      have HVS := Lib.hid hVS
      have HVL := Lib.hid hVL
      have HVA := Lib.hid hVA
      have q2 := cell_of_block hX.out 2
      have q1 := cell_of_block hX.out 1
      obtain ⟨BB, hBB⟩ : ∃ B, B = wr.heap.size := ⟨_, rfl⟩
      have HVB : Hid (∀ q, (Value.slice va (N0 + m2) vc).ownBlock = some q → q < BB) := fun q hq => by rw [hBB]; exact (hR.out.own.lt q hq).2
      have HWB : Hid (w.heap.size ≤ BB) := by show _ ≤ _; rw [hBB]; exact hB.out.size
      have HBB0 : Hid (BB ≤ wr.heap.size) := by show _ ≤ _; rw [hBB]; exact Nat.le_refl _
      clear hVS hVL hVA hlt hk HLT hBB
      go_wp2_with fail
      clear q1 q2
      go_loopw [12, 11] (fun i v wr2 => ∃ (k : Nat) (a : Option Addr) (cp : Nat), k ≤ m1 ∧ i = .int .i64 k ∧ v = .slice a k cp ∧ Hid (Row isByte wr2 BB 5 (.slice a k cp) k (((k1.next c VS).take k).map bv)) ∧ Hid (Row isByte wr2 w.heap.size 5 (.slice va (N0 + m2) vc) (N0 + m2) (VS.map bv)) ∧ Hid (BB ≤ wr2.heap.size) ∧
        Hid (wr2.heap[w.heap.size]? = some (.cells #[.int .i64 c.ins, .slice b1 m1 d1, .slice b2 m2 d2, .slice b3 m3 d3, .slice b4 m4 d4, .slice b5 m5 d5] 26 (0, 0))) ∧ Hid (Below w.heap.size w wr2)) (fun i _ _ => m1 - (intOf i).toNat)
      case atStart =>
        exact ⟨0, none, 0, Nat.zero_le _, rfl, rfl, Row.nil _ _ _ _, hR.out, HBB0.out, hX.out, hB.out⟩
      case round =>
        clear hR hX hB
        obtain ⟨k, na, nc, hk, rfl, rfl, hN, hR, hAP, hX, hB⟩ := hrel
        by_cases hlt : k < m1
        · obtain ⟨bb, off, rfl, hbb⟩ := HC.out.s1.addr (show 0 < m1 by omega)
          obtain ⟨qx, qy⟩ := (HC.out.below hB.out).s1.cells k hlt (0, 0)
          have hl4 := HLL.out k hlt
          have hsn : (k1.next c VS).take (k + 1) = (k1.next c VS).take k ++ [k1.val VS (c.lats.getD k (0, 0)).1] := by
            have hkl : k < c.lats.length := by rw [HLA.out]; exact hlt
            rw [List.take_add_one]
            simp [Kd.next, List.getElem?_eq_getElem hkl, List.getD]
          obtain ⟨p, hp⟩ : ∃ t, t = c.lats.getD k (0, 0) := ⟨_, rfl⟩
          rw [← hp] at qx qy hl4 hsn
          obtain ⟨x, y⟩ := p
          simp only [nv32, nv8] at qx qy
          simp only at hl4
          obtain ⟨av, cv, hrv, _, hsv⟩ := hR.out.sees
          cases hrv
          have HV := refvalue_any VS va (N0 + m2) vc x wr hsv hl4.2
          rw [valueL_eq (by rw [HVL.out]; exact hl4.1) HVA.out] at HV
          obtain ⟨u, hu⟩ : ∃ u, u = k1.val VS x := ⟨_, rfl⟩
          rw [← hu] at HV hsn
          have HSN := Lib.hid hsn
          obtain ⟨nd, hnd⟩ : ∃ n, n = u.toNat := ⟨_, rfl⟩
          have HNC : Hid (Value.int .u8 (nd : Int) = bv u) := by show _ = _; rw [hnd]; rfl
          rw [← HNC.out] at HV
          have HV2 := Lib.hid HV
          have H1C : Hid (∀ v ∈ [Value.int .u8 ((nd : Nat) : Int)], v.oneCell' = true) := by rw [HNC.out]; exact bv_one [u]
          have HOC : Hid (∀ v ∈ [Value.int .u8 ((nd : Nat) : Int)], isByte v) := by rw [HNC.out]; exact isByte_all [u]
          have hI : (k : Int) < (m1 : Int) := by omega
          have W1' : IntKind.i64.wrap ((k : Int) + 1) = (k : Int) + 1 := IntWalk.i64_in _ (by have := HF.out; omega)
          have q1 := cell_of_block hX.out 1
          clear hsn hu hnd hp hsv HV hl4 qy
          go_wp2_with fail
          refine HV2.out.mono ?_
          rintro e s1 ⟨rfl, rfl⟩
          clear qx
          go_wp2_with (at_builtin; refine wpList_append_row isByte _ rfl _ _ 27 rfl BB 5 i0 (.int .u8 0) 1 Try.underlying27 hi hz0 hz1 hz2 rfl isByte_zero _ _ _ rfl (hN.out.below (ext_alloc _ _)) _ 1 1 [.int .u8 (nd : Int)] rfl ?qd1 H1C.out HOC.out ?qd4 ?qd5 ?qd6 ?_)
          case qd1 => exact sees_box1 _ _ _
          case qd4 => unfold maxLen; have := HF.out; omega
          case qd5 => have := HF.out; omega
          case qd6 => have := hAP.out; simp; omega
          intro v' w' r' g' _
          have hbz := ext_alloc s1 (.cells #[.int .u8 (nd : Int)] 5)
          have hnz := hN.out.below hbz
          have HXZ := Lib.hid (heap_grown (heap_below hX.out hbz) g' (hnz.not_own (heap_below hX.out hbz) (by decide)))
          have HBZ := Lib.hid ((ext_trans hB.out hbz).grown g' (ext_trans hB.out hbz).size (fun k hk => Nat.le_trans HWB.out (hnz.own.lt k hk).1))
          have HRZ := Lib.hid ((hR.out.below hbz).other fun q hq => g'.block q ((hR.out.below hbz).own.lt q hq).2 (fun e' => by have h1 := (hnz.own.lt q e'.symm).1; have h2 := HVB.out q hq; omega))
          have HAZ : Hid (BB ≤ w'.heap.size) := by
            have h1 := hAP.out
            have h2 := hbz.size
            have h3 := g'.size
            show _ ≤ _
            omega
          obtain ⟨a2z, c2z, rfl⟩ := r'.form
          have R2 := Lib.hid r'
          clear hbz hnz r' g' hN hR hAP hX hB q1
          go_wp2
          go_roundw
          case rel =>
            exact ⟨k + 1, _, _, by omega, by go_num, rfl, (by rw [HSN.out, List.map_append, List.map_take]; have h := R2.out; rw [HNC.out] at h; exact h), HRZ.out, HAZ.out, HXZ.out, HBZ.out⟩
          case measure => simp [intOf]; omega
        · obtain rfl : m1 = k := by omega
          have q1 := cell_of_block hX.out 1
          have hlen : (k1.next c VS).length = m1 := by rw [Kd.next_len, HLA.out]
          rw [List.take_of_length_le (by rw [hlen]; exact Nat.le_refl _)] at hN
          have HNL := Lib.hid hlen
          clear hlen
          go_wp2
          refine bodyPost_ret (v := .tuple #[.slice va (N0 + m2) vc, .slice na m1 nc, .int .i64 0]) ?_ rfl ?_
          · simp [results, Try.results33, go_sem]
          · rw [HO.out, ← HVS.out]
            refine ⟨(va, N0 + m2, vc), (na, m1, nc), rfl, ?_, ?_, hB.out⟩
            · simp only [if_true, HVL.out]; exact hR.out
            · simp only [if_true, HNL.out]; exact row_base hN.out HWB.out
end Go.Proofs.Ytgpkghlhlabjcaa
/- The reference's Run, by its contract. -/
namespace Go.Proofs.Ytgpkghlhlabjcaa
open Go Go.RowKit Go.Joins

theorem k1_val_le {vs : List UInt8} (h : ∀ u ∈ vs, u.toNat ≤ 2) (lit : Nat) : (k1.val vs lit).toNat ≤ 2 := by
  unfold Kd.val
  split
  · exact k1_nt_le _
  · by_cases e : lit / 2 < vs.length
    · exact h _ (getD_mem e)
    · simp [List.getD, List.getElem?_eq_none (Nat.le_of_not_lt e), k1]
theorem after_le {c : NormC} : ∀ (fs : List (List UInt8)) (st : List UInt8), (∀ u ∈ st, u.toNat ≤ 2) → (∀ f ∈ fs, ∀ u ∈ f, u.toNat ≤ 2) → ∀ u ∈ k1.after c st fs, u.toNat ≤ 2
  | [], _, h, _ => h
  | f :: r, st, h, hf => by
    rw [Kd.after]
    refine after_le r _ (fun u hu => ?_) (fun g hg => hf g (by simp [hg]))
    unfold Kd.next at hu
    obtain ⟨p, _, rfl⟩ := List.mem_map.1 hu
    refine k1_val_le (gates_le2 _ _ (fun v hv => ?_)) _
    rcases List.mem_cons.1 hv with rfl | hv
    · decide
    · rcases List.mem_append.1 hv with hv | hv
      · exact hf f (by simp) v hv
      · exact h v hv
theorem frameOk_at {c : NormC} {t : TraceC} (h : FitsC c t) (k : Nat) (hk : k < t.frames.length) : frameOk c (k1.after c t.init (t.frames.take k)) (t.frames.getD k []) = true := by
  unfold frameOk
  rw [mayC_iff.2 h.may, valsOk_iff.2 ⟨by rw [k1.after_len c _ _ h.init], after_le _ _ h.inits (fun f hf => h.values f (List.mem_of_mem_take hf))⟩, valsOk_iff.2 ⟨h.frames k hk, h.values _ (getD_mem hk)⟩]
  rfl
theorem SeesF.at {w : World} {b off n c : Nat} {ss : List Slc} {fs : List (List UInt8)} (h : SeesF w (some ⟨b, off, none⟩) n c ss fs) (k : Nat) (hk : k < n) : w.cell? ⟨b, off + k, none⟩ = some (slV (ss.getD k slc0)) := by
  have hl : ss.length = n := h.1.lenMap
  rw [(h.1.cell k hk).2, List.getElem?_map, List.getElem?_eq_getElem (by rw [hl]; exact hk)]
  simp [List.getD, List.getElem?_eq_getElem (show k < ss.length by rw [hl]; exact hk)]
theorem keep8r {w w' : World} {a0 a1 a2 a3 a4 a5 a6 a7 : Addr} {v0 v1 v2 v3 v4 v5 v6 v7 : Value} (h : w.cell? a0 = some v0 ∧ w.cell? a1 = some v1 ∧ w.cell? a2 = some v2 ∧ w.cell? a3 = some v3 ∧ w.cell? a4 = some v4 ∧ w.cell? a5 = some v5 ∧ w.cell? a6 = some v6 ∧ w.cell? a7 = some v7) (hb : Below w.heap.size w w') : w'.cell? a0 = some v0 ∧ w'.cell? a1 = some v1 ∧ w'.cell? a2 = some v2 ∧ w'.cell? a3 = some v3 ∧ w'.cell? a4 = some v4 ∧ w'.cell? a5 = some v5 ∧ w'.cell? a6 = some v6 ∧ w'.cell? a7 = some v7 := by
  obtain ⟨h0, h1, h2, h3, h4, h5, h6, h7⟩ := h
  have one : ∀ {a : Addr} {v : Value}, w.cell? a = some v → w'.cell? a = some v := fun {a v} h => (hb.cell (World.block_lt_of_cell? _ _ h)).trans h
  exact ⟨one h0, one h1, one h2, one h3, one h4, one h5, one h6, one h7⟩


structure RInv (c : NormC) (t : TraceC) (w : World) (k : Nat) (W : World) (v : Value) (ss : List Slc) : Prop where
  len : ss.length = k
  row : W.ownsRow w.heap.size 27 1 v k (ss.map slV)
  rows : ∀ j, j < k → Row isByte W w.heap.size 5 (slV (ss.getD j slc0)) (varsAt c t j).length ((varsAt c t j).map bv)
  low : Below w.heap.size w W
theorem RInv.below {c : NormC} {t : TraceC} {w : World} {k : Nat} {W W' : World} {v : Value} {ss : List Slc} (h : RInv c t w k W v ss) (hb : Below W.heap.size W W') : RInv c t w k W' v ss :=
  ⟨h.len, ownsN_below h.row hb, fun j hj => (h.rows j hj).below hb, ext_trans h.low hb⟩

set_option maxRecDepth 100000 in
set_option maxHeartbeats 3200000 in
theorem rrun_any (c : NormC) (t : TraceC) (s : CSlots) (st : TSlots) (w : World) (h : SeesCir w s c) (ht : SeesTr w st t) (hs : s.small) (hst : st.small) (hlo : -9223372036854775808 ≤ c.ins) (hhi : c.ins < 9223372036854775808) (hb1 : -9223372036854775808 ≤ t.bad ∧ t.bad < 9223372036854775808) (hw : Wide c) :
    Calls Try.prog 22 #[cirV c.ins s, traceV t.bad st] w (RunPost c t w) := by
  obtain ⟨i0, hi, hz0, hz1, hz2⟩ := info_parts info_u8s
  have HFIT := Lib.hid (fun W (hb : Below w.heap.size w W) => reffits_any c t s st W (h.below hb) (ht.below hb) hs hst hlo hhi hb1 hw)
  have HRF := Lib.hid (fun (sv iv : List UInt8) (a1 : Option Addr) (n1 c1 : Nat) (a2 : Option Addr) (n2 c2 : Nat) W (hb : Below w.heap.size w W) h1 h2 hn1 hn2 => rframe_any c s sv iv a1 n1 c1 a2 n2 c2 W (h.below hb) hs h1 h2 hn1 hn2 hlo hhi hw)
  have HFC : Hid (fitsS c t = true → FitsC c t) := fits_iff.1
  have HE : Hid (∀ e w', RunPost c t w e w' ↔ (fitsS c t = true → ∃ (v : Value) (ss : List Slc), e = .returned (.tuple #[v, .int .i64 0]) ∧ ss.length = t.frames.length ∧ w'.ownsRow w.heap.size 27 1 v t.frames.length (ss.map slV) ∧ (∀ j, j < t.frames.length → Row isByte w' w.heap.size 5 (slV (ss.getD j slc0)) (varsAt c t j).length ((varsAt c t j).map bv))) ∧ (fitsS c t = false → e = .returned (.tuple #[.slice none 0 0, .int .i64 2])) ∧ Below w.heap.size w w') := fun _ _ => Iff.rfl
  obtain ⟨q, hq⟩ : ∃ q, q = fitsS c t := ⟨_, rfl⟩
  rw [← hq] at HFIT HFC HE
  have HT := Lib.hid ht
  have HST := Lib.hid hst
  have HNF : Hid (t.frames.length = st.n2) := ht.s2.n_eq
  clear hq h ht hs hst hlo hhi hb1 hw
  unfold cirV traceV at *
  go_enter Try.func22, Try.ntmps22
  go_upto_region 1 with fail
  generalize hW : World.alloc (World.alloc w _) _ = W1
  have hb : Below w.heap.size w W1 := by subst hW; exact ext_trans (ext_alloc _ _) (ext_alloc _ _)
  have hx : W1.heap[w.heap.size]? = some (.cells #[.int .i64 c.ins, .slice s.a1 s.n1 s.c1, .slice s.a2 s.n2 s.c2, .slice s.a3 s.n3 s.c3, .slice s.a4 s.n4 s.c4, .slice s.a5 s.n5 s.c5] 26 (0, 0)) := by subst hW; exact heap_below (heap_new _ _ _ rfl) (ext_alloc _ _)
  have hy : W1.heap[w.heap.size + 1]? = some (.cells #[.int .i64 t.bad, .slice st.a1 st.n1 st.c1, .slice st.a2 st.n2 st.c2] 30 (0, 0)) := by subst hW; exact heap_new _ _ _ (by simp)
  have HB := Lib.hid hb
  have HX := Lib.hid hx
  have HY := Lib.hid hy
  clear hW hb hx hy
  have p0 := cell_of_block HX.out 0
  have p1 := cell_of_block HX.out 1
  have p2 := cell_of_block HX.out 2
  have p3 := cell_of_block HX.out 3
  have p4 := cell_of_block HX.out 4
  have p5 := cell_of_block HX.out 5
  have r0 := cell_of_block HY.out 0
  have r1 := cell_of_block HY.out 1
  have r2 := cell_of_block HY.out 2
  go_wp2_with fail
  refine (HFIT.out W1 HB.out).mono ?_
  rintro e W2 ⟨rfl, hb⟩
  have HX2 := Lib.hid (heap_below HX.out hb)
  have HY2 := Lib.hid (heap_below HY.out hb)
  have HB2 := Lib.hid (ext_trans HB.out hb)
  clear p0 p1 p2 p3 p4 p5 r0 r1 r2 HX HY HB hb
  cases q with
  | false =>
    go_wp2
    refine bodyPost_ret (v := .tuple #[.slice none 0 0, .int .i64 2]) ?_ rfl ?_
    · simp [results, Try.results22, go_sem]
    · exact (HE.out _ _).2 ⟨(fun h => by cases h), (fun _ => rfl), HB2.out⟩
  | true =>
  have HF := Lib.hid (HFC.out rfl)
  have hn2 : 0 < st.n2 := by rw [← HNF.out]; exact HF.out.one
  have hn256 : st.n2 ≤ 256 := by rw [← HNF.out]; exact HF.out.few
  have r1 := cell_of_block HY2.out 1
  have r2 := cell_of_block HY2.out 2
  go_wp2_with fail
  clear r1 r2
  go_loopw [8, 6, 7, 9, 10, 11] (fun i l sv _ _ _ wr => ∃ (k : Nat) (ga : Option Addr) (gc : Nat) (ss : List Slc) (sa : Option Addr) (sn sc : Nat), k ≤ st.n2 ∧ i = .int .i64 k ∧ l = .slice ga k gc ∧ sv = .slice sa sn sc ∧ Hid (RInv c t w k wr (.slice ga k gc) ss) ∧ Hid (Sees wr sa sn sc ((k1.after c t.init (t.frames.take k)).map bv)) ∧
      Hid (wr.heap[w.heap.size]? = some (.cells #[.int .i64 c.ins, .slice s.a1 s.n1 s.c1, .slice s.a2 s.n2 s.c2, .slice s.a3 s.n3 s.c3, .slice s.a4 s.n4 s.c4, .slice s.a5 s.n5 s.c5] 26 (0, 0))) ∧ Hid (wr.heap[w.heap.size + 1]? = some (.cells #[.int .i64 t.bad, .slice st.a1 st.n1 st.c1, .slice st.a2 st.n2 st.c2] 30 (0, 0)))) (fun i _ _ _ _ _ _ => st.n2 - (intOf i).toNat)
  case atStart =>
    refine ⟨0, none, 0, [], _, _, _, Nat.zero_le _, rfl, rfl, rfl, ⟨rfl, ⟨rfl, .inl ⟨rfl, rfl⟩⟩, fun j hj => absurd hj (by omega), HB2.out⟩, ?_, HX2.out, HY2.out⟩
    exact HT.out.s1.below HB2.out
  case round =>
    clear HX2 HY2
    obtain ⟨k, ga, gc, ss, sa, sn, sc, hk, rfl, rfl, rfl, hI, hS, hX, hY⟩ := hrel
    by_cases hlt : k < st.n2
    · obtain ⟨tb, off, ha2, _⟩ := HT.out.s2.1.addr hn2
      have hTr := HT.out.below hI.out.low
      have hs2 := hTr.s2
      rw [ha2] at hs2
      have hcx := hs2.at k hlt
      have hfs := hs2.each k (by rw [HNF.out]; exact hlt)
      have hfl : (st.ss.getD k slc0).2.1 ≤ 1048576 := HST.out.each _ (getD_mem (by rw [hs2.1.lenMap]; exact hlt))
      obtain ⟨x, hx⟩ : ∃ x : Slc, x = st.ss.getD k slc0 := ⟨_, rfl⟩
      rw [← hx] at hcx hfs hfl
      obtain ⟨xa, xn, xc⟩ := x
      simp only [slV] at hcx
      simp only at hfs hfl
      have hsl := hS.out.lenMap
      have hok := frameOk_at HF.out k (by rw [HNF.out]; exact hlt)
      have hlen := k1.after_len c (t.frames.take k) t.init HF.out.init
      have hsn : sn ≤ 1048576 := by
        rw [← hsl, hlen]
        have := HF.out.may.few
        unfold varsN at this
        omega
      have hcall := fun W (hb : Below w.heap.size w W) (h2 : Below wr.heap.size wr W) => HRF.out (k1.after c t.init (t.frames.take k)) (t.frames.getD k []) sa sn sc xa xn xc W hb (hS.out.below h2) (hfs.below h2) hsn hfl
      rw [hok] at hcall
      have hva : k1.vars c (k1.after c t.init (t.frames.take k)) (t.frames.getD k []) = varsAt c t k := rfl
      have hna : k1.next c (varsAt c t k) = k1.after c t.init (t.frames.take (k + 1)) := by
        have hkl : k < t.frames.length := by rw [HNF.out]; exact hlt
        rw [List.take_add_one, List.getElem?_eq_getElem hkl]
        simp only [Option.toList_some]
        rw [Kd.after_snoc]
        unfold varsAt
        simp [List.getD, List.getElem?_eq_getElem hkl]
      rw [hva, hna] at hcall
      have HCALL := Lib.hid hcall
      have p2 := cell_of_block hY.out 2
      rw [ha2] at p2
      have HS0 := Lib.hid (And.intro (cell_of_block hX.out 0) (And.intro (cell_of_block hX.out 1) (And.intro (cell_of_block hX.out 2) (And.intro (cell_of_block hX.out 3) (And.intro (cell_of_block hX.out 4) (And.intro (cell_of_block hX.out 5) (And.intro p2 hcx)))))))
      have W1' : IntKind.i64.wrap ((k : Int) + 1) = (k : Int) + 1 := IntWalk.i64_in _ (by omega)
      have hI1 : (k : Int) < (st.n2 : Int) := by omega
      have hI0 : (0 : Int) ≤ (k : Int) := by omega
      have HA2 := Lib.hid ha2
      clear hcall hva hna hok hlen hsl hx hs2 hTr hcx hfs hfl hsn ha2
      go_upto_region 8 with fail
      clear p2
      refine wp_region_noPanic ?_
      refine wp_region_held (S := fun w' => w'.cell? ⟨w.heap.size, 0, none⟩ = some (.int .i64 c.ins) ∧ w'.cell? ⟨w.heap.size, 1, none⟩ = some (.slice s.a1 s.n1 s.c1) ∧ w'.cell? ⟨w.heap.size, 2, none⟩ = some (.slice s.a2 s.n2 s.c2) ∧ w'.cell? ⟨w.heap.size, 3, none⟩ = some (.slice s.a3 s.n3 s.c3) ∧ w'.cell? ⟨w.heap.size, 4, none⟩ = some (.slice s.a4 s.n4 s.c4) ∧ w'.cell? ⟨w.heap.size, 5, none⟩ = some (.slice s.a5 s.n5 s.c5) ∧ w'.cell? ⟨w.heap.size + 1, 2, none⟩ = some (.slice (some ⟨tb, off, none⟩) st.n2 st.c2) ∧ w'.cell? ⟨tb, off + k, none⟩ = some (.slice xa xn xc)) (by kernel_rfl) ?_
      generalize hY2 : ({ wr with drawn := wr.drawn + 1 } : World) = Y0
      have hY0 : Below wr.heap.size wr Y0 := by subst hY2; exact (Below.refl _ _).drew
      have HSD := Lib.hid (keep8r HS0.out hY0)
      have HYB := Lib.hid hY0
      clear hY0 hY2
      refine wpAnyH_take (i := 0) (v := ?_) (by simp only [List.getElem?_toArray, List.getElem?_cons_zero]; rfl) (by kernel_rfl) (by kernel_rfl) (by kernel_rfl) (fun _ _ _ h => h) (Or.inl ⟨by rfl, ?_⟩) HSD.out ?_
      rotate_left
      · intro w hSw
        (try dsimp only at hSw)
        obtain ⟨q0_, q1_, q2_, q3_, q4_, q5_, q6_, q7_⟩ := hSw
        go_simp
        try with_reducible rfl
      try simp only [Act.put, List.setIfInBounds_toArray, List.set_cons_zero, List.set_cons_succ]
      refine wpAnyH_take (i := 1) (v := ?_) (by simp only [List.getElem?_toArray, List.getElem?_cons_zero, List.getElem?_cons_succ]; rfl) (by kernel_rfl) (by kernel_rfl) (by kernel_rfl) (fun _ _ _ h => h) (Or.inl ⟨by rfl, ?_⟩) HSD.out ?_
      rotate_left
      · intro w hSw
        (try dsimp only at hSw)
        obtain ⟨q0_, q1_, q2_, q3_, q4_, q5_, q6_, q7_⟩ := hSw
        go_simp
        try with_reducible rfl
      try simp only [Act.put, List.setIfInBounds_toArray, List.set_cons_zero, List.set_cons_succ]
      refine wpAnyH_take (i := 2) (v := ?_) (by simp only [List.getElem?_toArray, List.getElem?_cons_zero, List.getElem?_cons_succ]; rfl) (by kernel_rfl) (by kernel_rfl) (by kernel_rfl) (fun _ _ _ h => h) (Or.inl ⟨by rfl, ?_⟩) HSD.out ?_
      rotate_left
      · intro w hSw
        (try dsimp only at hSw)
        obtain ⟨q0_, q1_, q2_, q3_, q4_, q5_, q6_, q7_⟩ := hSw
        go_simp
        try with_reducible rfl
      try simp only [Act.put, List.setIfInBounds_toArray, List.set_cons_zero, List.set_cons_succ]
      refine wpAnyH_take (i := 3) (v := ?_) (by simp only [List.getElem?_toArray, List.getElem?_cons_zero, List.getElem?_cons_succ]; rfl) (by kernel_rfl) (by kernel_rfl) (by kernel_rfl) (fun _ _ _ h => h) (Or.inl ⟨by rfl, ?_⟩) HSD.out ?_
      rotate_left
      · intro w hSw
        (try dsimp only at hSw)
        obtain ⟨q0_, q1_, q2_, q3_, q4_, q5_, q6_, q7_⟩ := hSw
        go_simp
        try with_reducible rfl
      try simp only [Act.put, List.setIfInBounds_toArray, List.set_cons_zero, List.set_cons_succ]
      refine wpAnyH_take (i := 4) (v := ?_) (by simp only [List.getElem?_toArray, List.getElem?_cons_zero, List.getElem?_cons_succ]; rfl) (by kernel_rfl) (by kernel_rfl) (by kernel_rfl) (fun _ _ _ h => h) (Or.inl ⟨by rfl, ?_⟩) HSD.out ?_
      rotate_left
      · intro w hSw
        (try dsimp only at hSw)
        obtain ⟨q0_, q1_, q2_, q3_, q4_, q5_, q6_, q7_⟩ := hSw
        go_simp
        try with_reducible rfl
      try simp only [Act.put, List.setIfInBounds_toArray, List.set_cons_zero, List.set_cons_succ]
      refine wpAnyH_take (i := 5) (v := ?_) (by simp only [List.getElem?_toArray, List.getElem?_cons_zero, List.getElem?_cons_succ]; rfl) (by kernel_rfl) (by kernel_rfl) (by kernel_rfl) (fun _ _ _ h => h) (Or.inl ⟨by rfl, ?_⟩) HSD.out ?_
      rotate_left
      · intro w hSw
        (try dsimp only at hSw)
        obtain ⟨q0_, q1_, q2_, q3_, q4_, q5_, q6_, q7_⟩ := hSw
        go_simp
        try with_reducible rfl
      try simp only [Act.put, List.setIfInBounds_toArray, List.set_cons_zero, List.set_cons_succ]
      refine wpAnyH_take (i := 6) (v := ?_) (by simp only [List.getElem?_toArray, List.getElem?_cons_zero, List.getElem?_cons_succ]; rfl) (by kernel_rfl) (by kernel_rfl) (by kernel_rfl) (fun _ _ _ h => h) (Or.inl ⟨by rfl, ?_⟩) HSD.out ?_
      rotate_left
      · intro w hSw
        (try dsimp only at hSw)
        obtain ⟨q0_, q1_, q2_, q3_, q4_, q5_, q6_, q7_⟩ := hSw
        go_simp
        try with_reducible rfl
      try simp only [Act.put, List.setIfInBounds_toArray, List.set_cons_zero, List.set_cons_succ]
      refine wpAnyH_ready (rs := [7]) (by kernel_rfl) (by simp) ?_
      refine AllReadyH.cons (by simp only [List.getElem?_toArray, List.getElem?_cons_zero, List.getElem?_cons_succ]; rfl) (fun K hK => ?_) AllReadyH.nil
      go_simp
      refine (HCALL.out _ (ext_trans hI.out.low HYB.out) HYB.out).mono ?_
      rintro e s1 hp
      obtain ⟨⟨va, vn, vc⟩, ⟨na, nn, nc⟩, rfl, rv, rn, b1⟩ := hp
      simp only [if_true] at rv rn ⊢
      simp only [slV] at rv rn ⊢
      have HBS := Lib.hid (ext_trans HYB.out b1)
      have HS1 := Lib.hid (keep8r HSD.out b1)
      have HRV := Lib.hid (row_base rv HYB.out.size)
      have HRN := Lib.hid (row_base (row_base rn HYB.out.size) hI.out.low.size)
      clear b1 rv rn
      refine hK.out _ _ HS1.out (fun _ => ?_)
      clear hK K
      try simp only [Act.put, List.setIfInBounds_toArray, List.set_cons_zero, List.set_cons_succ]
      refine wpAnyH_take (i := 8) (v := ?_) (by simp only [List.getElem?_toArray, List.getElem?_cons_zero, List.getElem?_cons_succ]; rfl) (by kernel_rfl) (by kernel_rfl) (by kernel_rfl) (fun _ _ _ h => h) (Or.inl ⟨by rfl, ?_⟩) HS1.out ?_
      rotate_left
      · intro w hSw
        (try dsimp only at hSw)
        obtain ⟨q0_, q1_, q2_, q3_, q4_, q5_, q6_, q7_⟩ := hSw
        go_simp
        try with_reducible rfl
      try simp only [Act.put, List.setIfInBounds_toArray, List.set_cons_zero, List.set_cons_succ]
      refine wpAnyH_take (i := 9) (v := ?_) (by simp only [List.getElem?_toArray, List.getElem?_cons_zero, List.getElem?_cons_succ]; rfl) (by kernel_rfl) (by kernel_rfl) (by kernel_rfl) (fun _ _ _ h => h) (Or.inl ⟨by rfl, ?_⟩) HS1.out ?_
      rotate_left
      · intro w hSw
        (try dsimp only at hSw)
        obtain ⟨q0_, q1_, q2_, q3_, q4_, q5_, q6_, q7_⟩ := hSw
        go_simp
        try with_reducible rfl
      try simp only [Act.put, List.setIfInBounds_toArray, List.set_cons_zero, List.set_cons_succ]
      refine wpAnyH_take (i := 10) (v := ?_) (by simp only [List.getElem?_toArray, List.getElem?_cons_zero, List.getElem?_cons_succ]; rfl) (by kernel_rfl) (by kernel_rfl) (by kernel_rfl) (fun _ _ _ h => h) (Or.inl ⟨by rfl, ?_⟩) HS1.out ?_
      rotate_left
      · intro w hSw
        (try dsimp only at hSw)
        obtain ⟨q0_, q1_, q2_, q3_, q4_, q5_, q6_, q7_⟩ := hSw
        go_simp
        try with_reducible rfl
      try simp only [Act.put, List.setIfInBounds_toArray, List.set_cons_zero, List.set_cons_succ]
      refine wpAnyH_take (i := 11) (v := ?_) (by simp only [List.getElem?_toArray, List.getElem?_cons_zero, List.getElem?_cons_succ]; rfl) (by kernel_rfl) (by kernel_rfl) (by kernel_rfl) (fun _ _ _ h => h) (Or.inl ⟨by rfl, ?_⟩) HS1.out ?_
      rotate_left
      · intro w hSw
        (try dsimp only at hSw)
        obtain ⟨q0_, q1_, q2_, q3_, q4_, q5_, q6_, q7_⟩ := hSw
        go_simp
        try with_reducible rfl
      try simp only [Act.put, List.setIfInBounds_toArray, List.set_cons_zero, List.set_cons_succ]
      refine wpAnyH_take (i := 12) (v := ?_) (by simp only [List.getElem?_toArray, List.getElem?_cons_zero, List.getElem?_cons_succ]; rfl) (by kernel_rfl) (by kernel_rfl) (by kernel_rfl) (fun _ _ _ h => h) (Or.inl ⟨by rfl, ?_⟩) HS1.out ?_
      rotate_left
      · intro w hSw
        (try dsimp only at hSw)
        obtain ⟨q0_, q1_, q2_, q3_, q4_, q5_, q6_, q7_⟩ := hSw
        go_simp
        try with_reducible rfl
      try simp only [Act.put, List.setIfInBounds_toArray, List.set_cons_zero, List.set_cons_succ]
      refine wpAnyH_take (i := 13) (v := ?_) (by simp only [List.getElem?_toArray, List.getElem?_cons_zero, List.getElem?_cons_succ]; rfl) (by kernel_rfl) (by kernel_rfl) (by kernel_rfl) (fun _ _ _ h => h) (Or.inl ⟨by rfl, ?_⟩) HS1.out ?_
      rotate_left
      · intro w hSw
        (try dsimp only at hSw)
        obtain ⟨q0_, q1_, q2_, q3_, q4_, q5_, q6_, q7_⟩ := hSw
        go_simp
        try with_reducible rfl
      try simp only [Act.put, List.setIfInBounds_toArray, List.set_cons_zero, List.set_cons_succ]
      refine wpAnyH_take (i := 14) (v := ?_) (by simp only [List.getElem?_toArray, List.getElem?_cons_zero, List.getElem?_cons_succ]; rfl) (by kernel_rfl) (by kernel_rfl) (by kernel_rfl) (fun _ _ _ h => h) (Or.inl ⟨by rfl, ?_⟩) HS1.out ?_
      rotate_left
      · intro w hSw
        (try dsimp only at hSw)
        obtain ⟨q0_, q1_, q2_, q3_, q4_, q5_, q6_, q7_⟩ := hSw
        go_simp
        try with_reducible rfl
      try simp only [Act.put, List.setIfInBounds_toArray, List.set_cons_zero, List.set_cons_succ]
      refine wpAnyH_done (by kernel_rfl) ?_ _
      refine NoPanic.normal ?_
      have HI1 := Lib.hid (hI.out.below HBS.out)
      have HX1 := Lib.hid (heap_below hX.out HBS.out)
      have HY1 := Lib.hid (heap_below hY.out HBS.out)
      have HIW := Lib.hid (ext_trans hI.out.low HBS.out)
      have HRV2 := Lib.hid (row_base HRV.out hI.out.low.size)
      clear hI hX hY hS HS0 HSD HS1 HCALL HRV
      go_wp2_with (at_builtin; refine wpList_append_own_at _ rfl _ _ 28 rfl w.heap.size 27 i0 (.slice none 0 0) 1 24 Try.underlying28 hi hz0 hz1 hz2 rfl (by decide) (.slice ga k gc) k (ss.map slV) rfl (ownsN_below HI1.out.row (ext_alloc _ _)) ⟨s1.heap.size, 0, none⟩ 1 1 [.slice va vn vc] rfl rfl (cell_one_new _ _ _) (by simp [Value.oneCell']) ?c4 ?c5 ?c6 ?_)
      case c4 => unfold maxLen; omega
      case c5 => omega
      case c6 => have := HIW.out.size; simp; omega
      intro v' w1 hown' hgrow _ _
      have hal := ext_alloc s1 (.cells #[.slice va vn vc] 27)
      have hro := ownsN_below HI1.out.row hal
      obtain ⟨WA, hWA⟩ : ∃ WA, WA = s1.alloc (.cells #[.slice va vn vc] 27) := ⟨_, rfl⟩
      rw [← hWA] at hgrow hal hro
      have hb1' : Below w.heap.size w w1 := (ext_trans HIW.out hal).grown hgrow (ext_trans HIW.out hal).size (fun q hq => (hro.lt q hq).1)
      have HXW := Lib.hid (heap_grown (heap_below HX1.out hal) hgrow (ownsN_notown hro (heap_below HX1.out hal) (by decide)))
      have HYW := Lib.hid (heap_grown (heap_below HY1.out hal) hgrow (ownsN_notown hro (heap_below HY1.out hal) (by decide)))
      have HNEW : Hid (RInv c t w (k + 1) w1 v' (ss ++ [(va, vn, vc)])) := by
        refine ⟨by simp [HI1.out.len], by simpa [slV] using hown', fun j hj => ?_, hb1'⟩
        have one : ∀ {x : Slc} {n : Nat} {V : List UInt8}, Row isByte WA w.heap.size 5 (slV x) n (V.map bv) → Row isByte w1 w.heap.size 5 (slV x) n (V.map bv) := fun {x n V} hx => row_grown hx hro hgrow (by decide)
        by_cases e : j = k
        · subst e
          have e1 : (ss ++ [(va, vn, vc)]).getD j slc0 = (va, vn, vc) := by rw [← HI1.out.len]; simp
          rw [e1]
          exact one (HRV2.out.below hal)
        · have e1 : (ss ++ [(va, vn, vc)]).getD j slc0 = ss.getD j slc0 := by simp [List.getD, List.getElem?_append_left (show j < ss.length by rw [HI1.out.len]; omega)]
          rw [e1]
          exact one ((HI1.out.rows j (by omega)).below hal)
      have HSN : Hid (Sees w1 na nn nc ((k1.after c t.init (t.frames.take (k + 1))).map bv)) := (row_sees_slice (row_grown (HRN.out.below hal) hro hgrow (by decide))).2
      obtain ⟨gx, gxc, rfl⟩ := ownsN_form hown'
      clear hal hro hWA hb1' hown' hgrow
      go_wp2
      go_roundw
      case rel => exact ⟨k + 1, gx, gxc, _, na, nn, nc, by omega, by go_num, rfl, rfl, HNEW.out, HSN.out, HXW.out, HYW.out⟩
      case measure => simp [intOf]; omega
    · obtain rfl : k = st.n2 := by omega
      have p2 := cell_of_block hY.out 2
      go_wp2
      refine bodyPost_ret (v := .tuple #[.slice ga st.n2 gc, .int .i64 0]) ?_ rfl ?_
      · simp [results, Try.results22, go_sem]
      · refine (HE.out _ _).2 ⟨(fun _ => ⟨_, ss, rfl, ?_, ?_, ?_⟩), (fun h => by cases h), hI.out.low⟩
        · rw [hI.out.len, HNF.out]
        · rw [HNF.out]; exact hI.out.row
        · rw [HNF.out]; exact hI.out.rows
end Go.Proofs.Ytgpkghlhlabjcaa
/- bytes.Clone, by its contract: a copy in new memory. -/
namespace Go.Proofs.Ytgpkghlhlabjcaa
open Go Go.RowKit

theorem info_u8 : (Try.prog.info? 5).map (fun i => (i.zero, i.size, i.bytes)) = some (some (.int .u8 0), 1, 1) := by kernel_rfl

end Go.Proofs.Ytgpkghlhlabjcaa
/- lex.Line, by its contract. -/
namespace Go.Proofs.Ytgpkghlhlabjcaa
open Go Go.RowKit

/-- A line: how many bytes are ahead of the first byte 10. -/
def ahead (bs : List UInt8) : Nat := (bs.takeWhile (fun u => u != 10)).length

theorem ahead_at (bs : List UInt8) (k : Nat) (hk : k < bs.length) (hno : ∀ m, m < k → bs.getD m 0 ≠ 10) (h10 : bs.getD k 0 = 10) : ahead bs = k := by
  induction bs generalizing k with
  | nil => simp at hk
  | cons x r ih =>
    cases k with
    | zero => simp [List.getD] at h10; simp [ahead, h10]
    | succ k =>
      have h0 : x ≠ 10 := by have := hno 0 (by omega); simpa [List.getD] using this
      have := ih k (by simpa using hk) (fun m hm => by have := hno (m + 1) (by omega); simpa [List.getD] using this) (by simpa [List.getD] using h10)
      unfold ahead at this ⊢
      rw [List.takeWhile_cons]
      simp [h0, this]

theorem ahead_none (bs : List UInt8) (hno : ∀ m, m < bs.length → bs.getD m 0 ≠ 10) : ahead bs = bs.length := by
  induction bs with
  | nil => rfl
  | cons x r ih =>
    have h0 : x ≠ 10 := by have := hno 0 (by simp); simpa [List.getD] using this
    have := ih (fun m hm => by have := hno (m + 1) (by simpa using hm); simpa [List.getD] using this)
    unfold ahead at this ⊢
    rw [List.takeWhile_cons]
    simp [h0, this]

/-- What Line answers: the line and what is behind it, both new, or ErrShort. -/
def LinePost (bs : List UInt8) (n : Nat) (w : World) (e : Ending) (w' : World) : Prop :=
  (ahead bs < n ∧ ∃ v1 v2, e = .returned (.tuple #[v1, v2, .int .i64 0]) ∧ Row isByte w' w.heap.size 5 v1 (ahead bs) ((bs.take (ahead bs)).map bv) ∧
    Row isByte w' w.heap.size 5 v2 (n - (ahead bs + 1)) ((bs.drop (ahead bs + 1)).map bv) ∧ Below w.heap.size w w') ∨
  (ahead bs = n ∧ e = .returned (.tuple #[.slice none 0 0, .slice none 0 0, .int .i64 4]) ∧ Below w.heap.size w w')

theorem size_u8 : ∀ w, (sizeOf 5).run Try.prog w = .ok 1 w := fun w => by
  obtain ⟨i0, hi, hz0, hz1, hz2⟩ := info_parts info_u8
  simp [sizeOf, typeInfo, hi, hz1]

end Go.Proofs.Ytgpkghlhlabjcaa
namespace Go.Proofs.Ytgpkghlhlabjcaa
open Go Go.RowKit Go.Joins

/-- Block g is a row of cap bytes; all else is as it was. -/
structure Turned (w wr : World) (g cap : Nat) : Prop where
  row : ∃ cur, wr.heap[g]? = some (.cells cur 5 (0, 0)) ∧ cur.size = cap ∧ ∀ u ∈ cur.toList, isByte u
  rest : ∀ j, j ≠ g → wr.heap[j]? = w.heap[j]?
  size : w.heap.size ≤ wr.heap.size
  os : wr.os = w.os
  tape : wr.tape = w.tape
  output : wr.output = w.output

theorem Turned.store {w wr : World} {g cap k : Nat} (h : Turned w wr g cap) (u : Value) (hu : isByte u) : Turned w (wr.setCell ⟨g, k, none⟩ u) g cap := by
  obtain ⟨cur, hh, hs, hc⟩ := h.row
  refine ⟨⟨_, block_setCell hh u, by rw [Array.size_setIfInBounds, hs], fun x hx => ?_⟩, fun j hj => ?_, ?_, h.os, h.tape, h.output⟩
  · rw [Array.toList_setIfInBounds] at hx
    rcases List.mem_or_eq_of_mem_set hx with hx | rfl
    · exact hc x hx
    · exact hu
  · rw [Below.heap_setCell _ _ _ _ hj]; exact h.rest j hj
  · exact Nat.le_trans h.size (by simp [World.setCell])

/-- What Burn does: below the row's base nothing turns, and a row of bytes stays one. -/
structure Burnt (w w' : World) (base : Nat) : Prop where
  below : Below base w w'
  rows : ∀ (b : Nat) (v : Value) (n : Nat) (xs : List Value), Row isByte w b 5 v n xs → ∃ ys, Row isByte w' b 5 v n ys
  other : ∀ (D : Nat) (C : Array Value) (T : TypeId) (fr : Nat × Nat), w.heap[D]? = some (.cells C T fr) → T ≠ 5 → w'.heap[D]? = some (.cells C T fr)

theorem Turned.burnt {w w' : World} {g cap base : Nat} (h : Turned w w' g cap) (hb : base ≤ g) (h0 : ∃ cur fr, w.heap[g]? = some (.cells cur 5 fr) ∧ cur.size = cap) : Burnt w w' base := by
  refine ⟨⟨h.os, h.tape, h.output, h.size, fun k hk => h.rest k (by omega)⟩, fun b v n xs hr => ?_, fun D C T fr hD hT => ?_⟩
  · obtain ⟨h1, h2⟩ := hr
    rcases h2 with ⟨rfl, rfl⟩ | ⟨g', c', cur, rfl, hg, hh, hn, hc, hs, ht, ho⟩
    · exact ⟨[], Row.nil _ _ _ _⟩
    · by_cases he : g' = g
      · subst he
        obtain ⟨cur', hh', hs', hc'⟩ := h.row
        obtain ⟨cur0, fr, e0, hs0⟩ := h0
        rw [hh] at e0
        cases e0
        exact ⟨cur'.toList.take n, by simp; omega, .inr ⟨g', c', cur', rfl, hg, hh', hn, hc, by omega, rfl, hc'⟩⟩
      · exact ⟨xs, h1, .inr ⟨g', c', cur, rfl, hg, by rw [h.rest g' he]; exact hh, hn, hc, hs, ht, ho⟩⟩
  · obtain ⟨cur0, fr0, e0, _⟩ := h0
    rw [h.rest D (fun e => by subst e; rw [hD] at e0; cases e0; exact hT rfl)]; exact hD

theorem isByte_of (z : Int) (h0 : 0 ≤ z) (h1 : z < 256) : isByte (.int .u8 z) := by
  refine ⟨UInt8.ofNat z.toNat, ?_⟩
  unfold bv
  congr 1
  rw [UInt8.toNat_ofNat']
  omega
theorem isByte_val {u : Value} (h : isByte u) : ∃ x : Nat, x < 256 ∧ u = .int .u8 (x : Int) := by
  obtain ⟨b, rfl⟩ := h
  exact ⟨b.toNat, UInt8.toNat_lt b, rfl⟩

set_option maxRecDepth 100000 in
set_option maxHeartbeats 1600000 in
theorem burn_any (xs : List Value) (v : Value) (n base : Nat) (w : World) (h : Row isByte w base 5 v n xs) :
    Calls Try.prog 11 #[v] w fun e w' => e = .returned (.tuple #[]) ∧ Burnt w w' base := by
  rcases h with ⟨hlen, ⟨rfl, rfl⟩ | ⟨g, cap, cur, rfl, hg, hh, hnc, hcm, hs, ht, ho⟩⟩
  · clear hlen
    go_enter Try.func11, Try.ntmps11
    go_wp2
    go_loop [2] (fun i => i = .int .i64 0) (fun _ => 0)
    case atStart => rfl
    case round =>
      obtain rfl := hrel
      go_wp2
      go_end0
      exact ⟨rfl, Below.refl _ _, fun b v n xs h => ⟨xs, h⟩, fun D C T fr hD _ => hD⟩
  · have HT0 : Hid (Turned w w g cap) := ⟨⟨cur, hh, hs, ho⟩, fun _ _ => rfl, Nat.le_refl _, rfl, rfl, rfl⟩
    have HH : Hid (∃ cur fr, w.heap[g]? = some (.cells cur 5 fr) ∧ cur.size = cap) := ⟨cur, _, hh, hs⟩
    have hc63 : cap ≤ 9223372036854775807 := by unfold maxLen at hcm; omega
    have q1 := fun W => run_upto (P := Try.prog) Try.underlying27 size_u8 W (some ⟨g, 0, none⟩) n cap cap (cap : Int) rfl (Nat.le_refl _)
    have q2 : sliced (some ⟨g, 0, none⟩) 0 cap cap 1 = .slice (some ⟨g, 0, none⟩) cap cap := by
      unfold sliced
      by_cases h0 : cap = 0
      · subst h0; simp
      · rw [if_neg h0]; simp [Addr.add]
    simp only [q2] at q1
    clear hlen hh hs ht ho hcm q2
    go_enter Try.func11, Try.ntmps11
    go_wp2
    go_loopw [2] (fun i wr => ∃ k : Nat, k ≤ cap ∧ i = .int .i64 k ∧ Hid (Turned w wr g cap)) (fun i _ => cap - (intOf i).toNat)
    case atStart => exact ⟨0, Nat.zero_le _, rfl, HT0⟩
    case round =>
      obtain ⟨k, hk, rfl, hT⟩ := hrel
      by_cases hlt : k < cap
      · obtain ⟨cur', hh', hs', hc'⟩ := hT.out.row
        obtain ⟨x, hx, ex⟩ := isByte_val (hc' (cur'[k]'(by omega)) (by simp))
        have hcx : wr.cell? ⟨g, k, none⟩ = some (.int .u8 (x : Int)) := by rw [cell_of_block hh' k, Array.getElem?_eq_getElem (by omega), ex]
        have hfz := unfrozen_of_block hh' k
        clear hh' hs' hc' ex
        by_cases hw : x + 101 < 256
        · go_wp2
          go_roundw
          case rel => exact ⟨k + 1, by omega, by go_num, hT.out.store _ (isByte_of _ (by omega) (by omega))⟩
          case measure => simp [intOf]; omega
        · have hwr : IntKind.u8.wrap ((x : Int) + 101) = (x : Int) - 155 := by unfold IntKind.wrap; simp [IntKind.bits, IntKind.signed]; omega
          go_wp2
          go_roundw
          case rel => exact ⟨k + 1, by omega, by go_num, hT.out.store _ (isByte_of _ (by omega) (by omega))⟩
          case measure => simp [intOf]; omega
      · go_wp2
        go_end0
        exact ⟨rfl, hT.out.burnt hg HH.out⟩

end Go.Proofs.Ytgpkghlhlabjcaa
