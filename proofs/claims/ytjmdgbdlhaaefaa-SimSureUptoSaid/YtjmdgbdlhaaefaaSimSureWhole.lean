/- SimSure returns true for every circuit, trace and list of bits where what it reads is of bulk at most 1048576: a trace that surely fails fails, whatever its X are. Condition: the bound. -/
import Derived.Test.YtjmdgbdlhaaefaaNStep
import Derived.Test.YtjmdgbdlhaaefaaNTrace
import Derived.Test.YtjmdgbdlhaaefaaNHeap
import Derived.Test.YtjmdgbdlhaaefaaNHeap2
import Derived.Test.YtjmdgbdlhaaefaaSRead
import Derived.Test.YtjmdgbdlhaaefaaRows
import Derived.BigQuiet
import Derived.Deep.AppendLies
import Derived.Deep.CutRange
import Derived.Deep.QuietTactic
import Derived.Deep.RegionHeld3
import Derived.Deep.RegionLaw
import Derived.Deep.RegionWith
import Derived.KernelRfl
import Derived.Laws.Bits64b
import Derived.Laws.BitsAllLaws
import Derived.Laws.BitsLemmas
import Derived.Laws.EntriesVeiled
import Derived.Laws.Tables
import Derived.Lib.AppendStr
import Derived.Lib.AppendZeros
import Derived.Lib.ConvBytes
import Derived.Lib.Hide
import Derived.Lib.SlBytesRow
import Derived.Lib.SmallJoins
import Derived.LoopIn
import Derived.LoopNIn
import Derived.Maps.AppendAt
import Derived.OrdersHeld
import Derived.OrdersIn
import Derived.OwnWalkIn
import Derived.RangeFuncBox
import Derived.RangeFuncCalls
import Derived.RangeFuncLeaves
import Derived.RangeFuncNested
import Derived.RangeFuncWrites
import Derived.Shelf.Abstract
import Derived.Shelf.Bytes.SlSmallAll
import Derived.Shelf.RegionOpen
import Derived.Sort.CutIn
import Derived.Stop.RegionWithIn
import Derived.TacticsInMore
import Derived.WalkKit
import Derived.WalkLawsBesides
import Derived.WalkSpells
import Derived.Test.YtjmdgbdlhaaefaaLib
import Derived.Test.YtjmdgbdlhaaefaaOwn
import Derived.Test.YtjmdgbdlhaaefaaOwnStr
import Derived.Test.YtjmdgbdlhaaefaaNBase
import Derived.Test.YtjmdgbdlhaaefaaNOwnsN
import Derived.Test.YtjmdgbdlhaaefaaNSpec
import Derived.Test.YtjmdgbdlhaaefaaNVal
import Derived.Test.YtjmdgbdlhaaefaaNCopyTr
import Derived.Test.YtjmdgbdlhaaefaaSRange
import Derived.Test.YtjmdgbdlhaaefaaSRun
import Derived.Test.YtjmdgbdlhaaefaaSVerd
import Derived.Test.YtjmdgbdlhaaefaaNCirc
import Derived.Test.YtjmdgbdlhaaefaaNOwns
import Derived.Test.YtjmdgbdlhaaefaaNFits
import Derived.Test.YtjmdgbdlhaaefaaTBits
import Derived.Test.YtjmdgbdlhaaefaaSVal
import Derived.Test.YtjmdgbdlhaaefaaSSurely
import Derived.Test.YtjmdgbdlhaaefaaShelf
import Derived.Test.YtjmdgbdlhaaefaaRowStep
import Derived.Test.YtjmdgbdlhaaefaaRawPred
import Derived.Test.YtjmdgbdlhaaefaaNPeel
import Derived.Test.YtjmdgbdlhaaefaaNClone2
import Derived.Test.YtjmdgbdlhaaefaaSCopyTr
import Derived.Test.YtjmdgbdlhaaefaaSFails
import Derived.Test.YtjmdgbdlhaaefaaSSpec
import Derived.Test.YtjmdgbdlhaaefaaRawMay
import Derived.Test.YtjmdgbdlhaaefaaNWide
import Derived.Test.YtjmdgbdlhaaefaaNRefVars
import Derived.Test.YtjmdgbdlhaaefaaNRefFits
import Derived.Test.YtjmdgbdlhaaefaaPost0
import Derived.Test.YtjmdgbdlhaaefaaPost
import Derived.Test.YtjmdgbdlhaaefaaNOpenC
import Derived.Test.YtjmdgbdlhaaefaaNOpen
import Derived.Test.YtjmdgbdlhaaefaaNOpenB
import Derived.ChangeSame
import Derived.Deep.DeepHandedRow
import Derived.Deep.Fields
import Derived.Deep.Slices
import Derived.JoinedCond
import Derived.Lib.LaidTab
import Derived.OpenShut
import Derived.ProofKit
import Derived.Stop.LaidErr
/- A trace whose X are bits, on plain lists. -/
namespace Go.Proofs.Ytjmdgbdlhaaefaa
open Go Go.RowKit Go.Joins

def bitU (bits : List Bool) (p : Nat) : UInt8 := if bits.getD p false = true then 1 else 0
def fillU (bits : List Bool) (p : Nat) (u : UInt8) : UInt8 := if u.toNat = 2 then bitU bits p else u
def nextU (p : Nat) (u : UInt8) : Nat := if u.toNat = 2 then p + 1 else p
def fillL (bits : List Bool) : Nat → List UInt8 → List UInt8
  | _, [] => []
  | p, u :: r => fillU bits p u :: fillL bits (nextU p u) r
def nextX : Nat → List UInt8 → Nat
  | p, [] => p
  | p, u :: r => nextX (nextU p u) r
theorem fillL_len (bits : List Bool) : ∀ (l : List UInt8) (p : Nat), (fillL bits p l).length = l.length
  | [], _ => rfl
  | u :: r, p => by rw [fillL, List.length_cons, fillL_len bits r, List.length_cons]
theorem fillL_append (bits : List Bool) : ∀ (a b : List UInt8) (p : Nat), fillL bits p (a ++ b) = fillL bits p a ++ fillL bits (nextX p a) b
  | [], _, _ => rfl
  | u :: r, b, p => by rw [List.cons_append, fillL, fillL_append bits r b, fillL, nextX]; rfl
theorem nextX_append : ∀ (a b : List UInt8) (p : Nat), nextX p (a ++ b) = nextX (nextX p a) b
  | [], _, _ => rfl
  | u :: r, b, p => by rw [List.cons_append, nextX, nextX_append r b]; rfl
theorem nextU_le (p : Nat) (u : UInt8) : nextU p u ≤ p + 1 := by unfold nextU; split <;> omega
theorem nextX_le : ∀ (l : List UInt8) (p : Nat), nextX p l ≤ p + l.length
  | [], p => Nat.le_refl _
  | u :: r, p => by rw [nextX, List.length_cons]; have := nextX_le r (nextU p u); have := nextU_le p u; omega
/-- What a list holds when m of its values have been filled. -/
def fillI (bits : List Bool) (p : Nat) (l : List UInt8) (m : Nat) : List UInt8 := fillL bits p (l.take m) ++ l.drop m
theorem fillI_len (bits : List Bool) (p : Nat) (l : List UInt8) (m : Nat) : (fillI bits p l m).length = l.length := by unfold fillI; rw [List.length_append, fillL_len, List.length_take, List.length_drop]; omega
theorem fillI_zero (bits : List Bool) (p : Nat) (l : List UInt8) : fillI bits p l 0 = l := by simp [fillI, fillL]
theorem fillI_all (bits : List Bool) (p : Nat) (l : List UInt8) : fillI bits p l l.length = fillL bits p l := by simp [fillI]
theorem fillI_at (bits : List Bool) (p : Nat) (l : List UInt8) (m : Nat) (h : m < l.length) : (fillI bits p l m).getD m 0 = l.getD m 0 := by
  have e : (fillL bits p (l.take m)).length = m := by rw [fillL_len, List.length_take]; omega
  simp [fillI, List.getD, List.getElem?_append_right (Nat.le_of_eq e), e, List.getElem?_drop]
theorem take_snoc (l : List UInt8) (m : Nat) (h : m < l.length) : l.take (m + 1) = l.take m ++ [l.getD m 0] := by
  rw [List.take_add_one, List.getElem?_eq_getElem h]; simp [List.getD, List.getElem?_eq_getElem h]
theorem nextX_step (p : Nat) (l : List UInt8) (m : Nat) (h : m < l.length) : nextX p (l.take (m + 1)) = nextU (nextX p (l.take m)) (l.getD m 0) := by
  rw [take_snoc l m h, nextX_append]; rfl
theorem fillI_step (bits : List Bool) (p : Nat) (l : List UInt8) (m : Nat) (h : m < l.length) : fillI bits p l (m + 1) = (fillI bits p l m).set m (fillU bits (nextX p (l.take m)) (l.getD m 0)) := by
  have e : (fillL bits p (l.take m)).length = m := by rw [fillL_len, List.length_take]; omega
  have hg : l.getD m 0 = l[m] := by simp [List.getD, List.getElem?_eq_getElem h]
  unfold fillI
  rw [List.set_append_right _ _ (Nat.le_of_eq e), e, Nat.sub_self, List.drop_eq_getElem_cons h, List.set_cons_zero, take_snoc l m h, fillL_append, hg]
  simp only [fillL, List.append_assoc, List.cons_append, List.nil_append]
theorem fillI_keep (bits : List Bool) (p : Nat) (l : List UInt8) (m : Nat) (h : m < l.length) (h2 : (l.getD m 0).toNat ≠ 2) : fillI bits p l (m + 1) = fillI bits p l m := by
  rw [fillI_step bits p l m h]
  unfold fillU
  rw [if_neg h2, ← fillI_at bits p l m h]
  have hl : m < (fillI bits p l m).length := by rw [fillI_len]; exact h
  simp [List.getD, List.getElem?_eq_getElem hl]
/-- The lists of a trace, the first one ahead. -/
def listsOf (t : TraceC) (j : Nat) : List UInt8 := (t.init :: t.frames).getD j []
/-- How many X lie ahead of a list. -/
def startP (G : Nat → List UInt8) : Nat → Nat
  | 0 => 0
  | k + 1 => nextX (startP G k) (G k)
theorem startP_le (G : Nat → List UInt8) (M : Nat) : ∀ k, (∀ j, j < k → (G j).length ≤ M) → startP G k ≤ k * M
  | 0, _ => by simp [startP]
  | k + 1, h => by
    have h1 := startP_le G M k (fun j hj => h j (by omega))
    have h2 := nextX_le (G k) (startP G k)
    have h3 := h k (by omega)
    rw [startP, Nat.succ_mul]; omega
def fillT (bits : List Bool) (t : TraceC) : TraceC := ⟨t.bad, fillL bits 0 t.init, (List.range t.frames.length).map fun k => fillL bits (startP (listsOf t) (k + 1)) (t.frames.getD k [])⟩
theorem KeptNB.owns {w w' : World} (h : KeptNB w w') {base sz : Nat} {e : TypeId} {v : Value} {n : Nat} {xs : List Value} (hr : w.ownsRow base e sz v n xs) (he : e ≠ 5) : w'.ownsRow base e sz v n xs :=
  ownsN_other hr fun q hq => by
    rcases hr.2 with ⟨h2, _⟩ | ⟨g', cap', cur, h2, _, hh, _⟩
    · rw [h2] at hq; cases hq
    · rw [h2] at hq
      have : g' = q := by simpa [Value.ownBlock] using hq
      subst this
      exact (h g' cur e _ hh he).trans hh.symm
end Go.Proofs.Ytjmdgbdlhaaefaa
/- slices.AppendSeq, slices.Collect over the run's iterator, by their contracts. -/
namespace Go.Proofs.Ytjmdgbdlhaaefaa
open Go Go.RowKit Go.Joins
attribute [local go_sem] Oper.semAt_some

/-- What has been gathered: k slices, each a row of its own. -/
structure GInv (c : NormC) (t : TraceC) (w : World) (H B k : Nat) (W : World) (v : Value) (ss : List Slc) : Prop where
  len : ss.length = k
  box : W.heap[H]? = some (.cells #[v] 28 (0, 0))
  row : W.ownsRow w.heap.size 27 1 v k (ss.map slV)
  rows : ∀ j, j < k → Row isByte W w.heap.size 5 (slV (ss.getD j slc0)) (varsAt c t j).length ((varsAt c t j).map bv)
  low : Below w.heap.size w W
theorem GInv.below {c : NormC} {t : TraceC} {w : World} {H B k : Nat} {W W' : World} {v : Value} {ss : List Slc} (h : GInv c t w H B k W v ss) (hb : Below W.heap.size W W') : GInv c t w H B k W' v ss :=
  ⟨h.len, heap_below h.box hb, ownsN_below h.row hb, fun j hj => (h.rows j hj).below hb, ext_trans h.low hb⟩
theorem row_put {ok : Value → Prop} {w : World} {base : Nat} {e : TypeId} {v : Value} {n : Nat} {xs : List Value} (h : Row ok w base e v n xs) {l : Nat} {o o' : Obj} (hl : w.heap[l]? = some o) (ho : o.isCells = false) : Row ok (w.putObj l o') base e v n xs :=
  h.other fun q hq => World.putObj_heap_other (fun e2 => by
    subst e2
    rcases h.2 with ⟨h1, _⟩ | ⟨g, cap, cur, h1, _, h2, _⟩
    · rw [h1] at hq; cases hq
    · rw [h1] at hq
      have : g = q := by simpa [Value.ownBlock] using hq
      subst this
      rw [hl] at h2; cases h2; cases ho)
theorem owns_put {w : World} {base sz : Nat} {e : TypeId} {v : Value} {n : Nat} {xs : List Value} (h : w.ownsRow base e sz v n xs) {l : Nat} {o o' : Obj} (hl : w.heap[l]? = some o) (ho : o.isCells = false) : (w.putObj l o').ownsRow base e sz v n xs :=
  ownsN_other h fun q hq => World.putObj_heap_other (fun e2 => by
    subst e2
    rcases h.2 with ⟨h1, _⟩ | ⟨g, cap, cur, h1, _, h2, _⟩
    · rw [h1] at hq; cases hq
    · rw [h1] at hq
      have : g = q := by simpa [Value.ownBlock] using hq
      subst this
      rw [hl] at h2; cases h2; cases ho)
theorem GInv.put {c : NormC} {t : TraceC} {w : World} {H B k : Nat} {W : World} {v : Value} {ss : List Slc} (h : GInv c t w H B k W v ss) {l : Nat} {o o' : Obj} (hB : w.heap.size ≤ l) (hl : W.heap[l]? = some o) (ho : o.isCells = false) : GInv c t w H B k (W.putObj l o') v ss :=
  ⟨h.len, (World.putObj_heap_other (fun e => by subst e; have := h.box; rw [hl] at this; cases this; cases ho)).trans h.box, owns_put h.row hl ho, fun j hj => row_put (h.rows j hj) hl ho, h.low.grown (grownBy_putObj' W l o') h.low.size (fun k e => by cases e; exact hB)⟩

set_option maxRecDepth 100000 in
set_option maxHeartbeats 3200000 in
theorem appendseq_any (c : NormC) (s : CSlots) (t : TraceC) (st : TSlots) (w0 : World) (sb kb cb tb : Nat) (w : World)
    (hw0 : w0.heap.size ≤ w.heap.size) (hR : ∀ W : World, Below w.heap.size w W → w.heap.size < W.heap.size → RunAt c s t st w0 sb kb cb tb w.heap.size w.heap.size W) :
    Calls Try.prog 68 #[.slice none 0 0, .func (.func 69) #[] #[.pointer (some ⟨sb, 0, none⟩), .pointer (some ⟨kb, 0, none⟩), .pointer (some ⟨cb, 0, none⟩)]] w
      fun e W' => ∃ (v : Value) (ss : List Slc), e = .returned v ∧ ss.length = t.frames.length ∧ W'.ownsRow w.heap.size 27 1 v t.frames.length (ss.map slV) ∧ (∀ j, j < t.frames.length → Row isByte W' w.heap.size 5 (slV (ss.getD j slc0)) (varsAt c t j).length ((varsAt c t j).map bv)) ∧ Below w.heap.size w W' := by
  refine (callsIn_wide (n := 0)).1 ?_
  refine callsIn_of_wp_marks Try.func68 rfl trivial ?_ rfl
  simp only [Try.ntmps68, List.size_toArray, List.length_cons, List.length_nil, Nat.reduceAdd, Nat.reduceSub, Array.replicate_succ, Array.replicate_zero, List.push_toArray, List.append_toArray, List.nil_append, List.cons_append]
  have HW0 : Hid (w0.heap.size ≤ w.heap.size) := hw0
  have HR := Lib.hid hR
  clear hR hw0
  gi_wp2
  obtain ⟨W1, hW1⟩ : ∃ W1, W1 = w.alloc (.cells #[.slice none 0 0] 28) := ⟨_, rfl⟩
  rw [← hW1]
  have hb1 : Below w.heap.size w W1 := by rw [hW1]; exact ext_alloc _ _
  have hx1 : W1.heap[w.heap.size]? = some (.cells #[.slice none 0 0] 28 (0, 0)) := by rw [hW1]; exact heap_new _ _ _ rfl
  have hlt1 : w.heap.size < W1.heap.size := heap_lt hx1
  have HRA := Lib.hid (HR.out W1 hb1 hlt1)
  have HLT := Lib.hid hlt1
  clear hW1 HR hlt1
  obtain ⟨i0, hi, hz0, hz1, hz2⟩ := info_parts info_u8s
  refine wp_rangeFunc (gf := 69) (lb := #[.pointer (some ⟨sb, 0, none⟩), .pointer (some ⟨kb, 0, none⟩), .pointer (some ⟨cb, 0, none⟩)]) rfl (enters_of Try.func69 (by kernel_rfl) rfl)
    (run1_iter c s t st w0 sb kb cb tb w.heap.size w.heap.size W1 HRA.out) Kpt.trans (fun W l o o' hl h ho => Kpt.put W l o o' (Nat.le_trans HRA.out.low.size hl) h ho)
    (fun k xs W h => by obtain ⟨a, cp, e, _⟩ := h; rw [e]; rfl) (elem_puts _ _ _)
    (fun k W => ∃ v ss, GInv c t w w.heap.size 0 k W v ss) (fun k A B h hb => by obtain ⟨v, ss, h⟩ := h; exact ⟨v, ss, h.below hb⟩) (fun k A l o o' h hl ho hc => by obtain ⟨v, ss, h⟩ := h; exact ⟨v, ss, h.put (Nat.le_trans hb1.size hl) ho hc⟩)
    ⟨.slice none 0 0, [], rfl, hx1, ⟨rfl, .inl ⟨rfl, rfl⟩⟩, fun j hj => absurd hj (by omega), hb1⟩
    (fun xs => { tmps := #[.slice none 0 0, .func (.func 69) #[] #[.pointer (some ⟨sb, 0, none⟩), .pointer (some ⟨kb, 0, none⟩), .pointer (some ⟨cb, 0, none⟩)], .pointer (some ⟨w.heap.size, 0, none⟩), undef, .slice none 0 0, xs.getD 0 undef, .func (.func 69) #[] #[.pointer (some ⟨sb, 0, none⟩), .pointer (some ⟨kb, 0, none⟩), .pointer (some ⟨cb, 0, none⟩)], xs.getD 0 undef, undef, undef, undef, undef, undef], defers := [] }) ?assign ?body ?done
  case assign =>
    rintro l k xs W K ⟨va, vc, rfl, _⟩ hKK
    gi_wp2
    exact hKK
  case body =>
    rintro l k xs W hkN ⟨v, ss, hV⟩ ⟨va, vc, rfl, hrow⟩
    have hc := cell_of_block hV.box 0
    have hc2 : W.cell? ⟨w.heap.size, 0, none⟩ = some v := hc
    have hfew := HRA.out.few
    have hsz : w.heap.size < W.heap.size := heap_lt hV.box
    obtain ⟨N, hN⟩ : ∃ N, N = (varsAt c t k).length := ⟨_, rfl⟩
    rw [← hN] at hrow ⊢
    have HNN := Lib.hid hN
    clear hc hN
    have hfz := unfrozen_of_block hV.box 0
    obtain ⟨ga, gc, rfl⟩ := ownsN_form hV.row
    have HV := Lib.hid hV
    have HROW := Lib.hid hrow
    have HF := Lib.hid (And.intro hkN hfew)
    clear hV hrow hfew hkN
    gi_wp2_with (gi_at_builtin; refine wpListIn_append_own _ rfl _ _ 28 rfl w.heap.size 27 i0 (.slice none 0 0) 1 24 Try.underlying28 hi hz0 hz1 hz2 rfl (by decide) _ _ _ rfl (ownsN_below HV.out.row (ext_alloc _ _)) ⟨W.heap.size, 0, none⟩ 1 1 [.slice va N vc] rfl rfl (cell_one_new _ _ _) (by simp [Value.oneCell']) (by have := HF.out; unfold maxLen; omega) (by have := HF.out; omega) (by simp; omega) ?_; intro v' w1 hown' hgrow _; obtain ⟨a', c', rfl⟩ := ownsN_form hown'; have hbx := heap_grown (heap_below HV.out.box (ext_alloc W (.cells #[.slice va N vc] 27))) hgrow (ownsN_notown (ownsN_below HV.out.row (ext_alloc W (.cells #[.slice va N vc] 27))) (heap_below HV.out.box (ext_alloc W (.cells #[.slice va N vc] 27))) (by decide)); have hc3 : w1.cell? ⟨w.heap.size, 0, none⟩ = some (.slice ga k gc) := cell_of_block hbx 0; have hf3 := unfrozen_of_block hbx 0)
    have hal := ext_alloc W (.cells #[.slice va N vc] 27)
    have hro := ownsN_below HV.out.row hal
    obtain ⟨WA, hWA⟩ : ∃ WA, WA = W.alloc (.cells #[.slice va N vc] 27) := ⟨_, rfl⟩
    rw [← hWA] at hgrow hal hro
    have hne : ∀ (D : Nat) (C : Array Value) (T : TypeId) (fr : Nat × Nat), WA.heap[D]? = some (.cells C T fr) → T ≠ 27 → w1.heap[D]? = some (.cells C T fr) := fun D C T fr hD hT => heap_grown hD hgrow (ownsN_notown hro hD hT)
    have hcl : ∀ q, (Value.slice ga k gc).ownBlock = some q → ∀ o : Obj, WA.heap[q]? = some o → o.isCells = true := fun q hq o ho => by
      rcases hro.2 with ⟨h1, _⟩ | ⟨g, cap, cur, h1, _, h2, _⟩
      · rw [h1] at hq; cases hq
      · rw [h1] at hq
        have : g = q := by simpa [Value.ownBlock] using hq
        subst this
        rw [h2] at ho; cases ho; rfl
    have hbA : Below w.heap.size w WA := ext_trans HV.out.low hal
    have hb1' : Below w.heap.size w w1 := hbA.grown hgrow hbA.size (fun q hq => (hro.lt q hq).1)
    have hset : KeepsFrom W1.heap.size W (w1.setCell ⟨w.heap.size, 0, none⟩ (.slice a' (k + 1) c')) := (keepsFrom_below hal).trans (((KeepsOthers.of_grownBy hgrow (fun j o e ho => hcl j e o ho)).from _).trans ((KeepsOthers.setCell _ _ _).from _))
    have hkp : Kpt w0.heap.size 27 w.heap.size w.heap.size W (w1.setCell ⟨w.heap.size, 0, none⟩ (.slice a' (k + 1) c')) := by
      have h0 : w0.heap.size ≤ w.heap.size := HW0.out
      refine (Kpt.below hal (Nat.le_trans h0 HV.out.low.size)).trans (Kpt.trans (B := w1) ⟨?_, fun D C T fr hD hT _ _ => hne D C T fr hD hT⟩ (Kpt.set w1 ⟨w.heap.size, 0, none⟩ _ h0 (.inl rfl)))
      exact (Below.refl _ WA).grown hgrow (Nat.le_trans h0 hbA.size) (fun q hq => Nat.le_trans h0 (hro.lt q hq).1)
    refine ⟨hset, hkp, .slice a' (k + 1) c', ss ++ [(va, N, vc)], by simp [HV.out.len], box_set hbx _, ?_, fun j hj => ?_, hb1'.setCell (p := ⟨w.heap.size, 0, none⟩) (Nat.le_refl _) _⟩
    · have h1 : w1.ownsRow w.heap.size 27 1 (.slice a' (k + 1) c') (k + 1) ((ss ++ [(va, N, vc)]).map slV) := by simpa [slV] using hown'
      exact ownsN_other h1 fun q hq => Below.heap_setCell w1 ⟨w.heap.size, 0, none⟩ _ q (fun e => (ownsN_notown h1 hbx (by decide)) (by rw [hq, e]))
    · have one : ∀ {x : Slc} {V : List UInt8}, Row isByte WA w.heap.size 5 (slV x) V.length (V.map bv) → Row isByte (w1.setCell ⟨w.heap.size, 0, none⟩ (.slice a' (k + 1) c')) w.heap.size 5 (slV x) V.length (V.map bv) := fun {x V} hx => by
        have h1 := row_grown hx hro hgrow (by decide)
        exact h1.other fun q hq => Below.heap_setCell w1 ⟨w.heap.size, 0, none⟩ _ q (fun e => (h1.not_own hbx (by decide)) (by rw [hq, e]))
      by_cases e : j = k
      · subst e
        have e1 : (ss ++ [(va, N, vc)]).getD j slc0 = (va, N, vc) := by rw [← HV.out.len]; simp
        rw [e1]
        refine one ?_
        rw [← HNN.out]
        exact (HROW.out.below hal).base_le hb1.size
      · have e1 : (ss ++ [(va, N, vc)]).getD j slc0 = ss.getD j slc0 := by simp [List.getD, List.getElem?_append_left (show j < ss.length by rw [HV.out.len]; omega)]
        rw [e1]
        exact one ((HV.out.rows j (by omega)).below hal)
  case done =>
    rintro D W hDle ⟨v, ss, hV⟩ hD
    have hc := cell_of_block hV.box 0
    have hc2 : W.cell? ⟨w.heap.size, 0, none⟩ = some v := hc
    have HV := Lib.hid hV
    have HD := Lib.hid hD
    clear hc hV hD
    gi_wp2
    refine ⟨by simp, .inl ⟨_, _, rfl, run_takeDeferred HD.out, ?_⟩⟩
    exact ⟨_, results_tmp rfl _ _ _, ⟨v, ss, rfl, HV.out.len, owns_put HV.out.row HD.out rfl, fun j hj => row_put (HV.out.rows j hj) HD.out rfl, HV.out.low.grown (grownBy_putObj' _ _ _) HV.out.low.size (fun k e => by cases e; exact Nat.le_trans hb1.size hDle)⟩⟩

set_option maxRecDepth 100000 in
theorem collect_any (c : NormC) (s : CSlots) (t : TraceC) (st : TSlots) (w0 : World) (sb kb cb tb : Nat) (w : World)
    (hw0 : w0.heap.size ≤ w.heap.size) (hR : ∀ W : World, Below w.heap.size w W → w.heap.size < W.heap.size → RunAt c s t st w0 sb kb cb tb w.heap.size w.heap.size W) :
    Calls Try.prog 43 #[.func (.func 69) #[] #[.pointer (some ⟨sb, 0, none⟩), .pointer (some ⟨kb, 0, none⟩), .pointer (some ⟨cb, 0, none⟩)]] w
      fun e W' => ∃ (v : Value) (ss : List Slc), e = .returned v ∧ ss.length = t.frames.length ∧ W'.ownsRow w.heap.size 27 1 v t.frames.length (ss.map slV) ∧ (∀ j, j < t.frames.length → Row isByte W' w.heap.size 5 (slV (ss.getD j slc0)) (varsAt c t j).length ((varsAt c t j).map bv)) ∧ Below w.heap.size w W' := by
  have HA := Lib.hid (appendseq_any c s t st w0 sb kb cb tb w hw0 hR)
  clear hR hw0
  go_enter Try.func43, Try.ntmps43
  go_wp2_with fail
  refine HA.out.mono ?_
  rintro e W' ⟨v, ss, rfl, h1, h2, h3, h4⟩
  have H := Lib.hid (And.intro h1 (And.intro h2 (And.intro h3 h4)))
  clear h1 h2 h3 h4
  go_wp2
  go_ret
  exact ⟨v, ss, rfl, H.out⟩
end Go.Proofs.Ytjmdgbdlhaaefaa
/- sim.Run, by its contract. -/
namespace Go.Proofs.Ytjmdgbdlhaaefaa
open Go Go.RowKit Go.Joins

theorem owns_base {w : World} {base base' sz : Nat} {e : TypeId} {v : Value} {n : Nat} {xs : List Value} (h : w.ownsRow base e sz v n xs) (hb : base' ≤ base) : w.ownsRow base' e sz v n xs := by
  refine ⟨h.1, ?_⟩
  rcases h.2 with h2 | ⟨g, cap, cur, hv, hg, r⟩
  · exact .inl h2
  · exact .inr ⟨g, cap, cur, hv, Nat.le_trans hb hg, r⟩
theorem runat_of {c : NormC} {s : CSlots} {t : TraceC} {st : TSlots} {w w2 w3 W : World} {tb : Nat} (hC : SeesCir w s c) (hT : SeesTr w st t) (hF : FitsC c t) (hs : s.small) (hb : Below w.heap.size w W)
    (hr : w3.heap[w2.heap.size]? = some (.cells #[.int .u8 0, .func (.func 62) #[] #[], .func (.func 63) #[] #[]] 69 (0, 0)) ∧ w3.heap[w2.heap.size + 1]? = some (.cells #[.int .i64 c.ins, .slice s.a1 s.n1 s.c1, .slice s.a2 s.n2 s.c2, .slice s.a3 s.n3 s.c3, .slice s.a4 s.n4 s.c4, .slice s.a5 s.n5 s.c5] 26 (0, 0)) ∧
      w3.heap[w2.heap.size + 2]? = some (.cells #[.slice st.a1 st.n1 st.c1, .int .i64 (st.n2 : Int), .func (.func 70) #[] #[.pointer (some ⟨tb, 0, none⟩)]] 83 (0, 0)) ∧ w3.heap[tb]? = some (.cells #[.int .i64 t.bad, .slice st.a1 st.n1 st.c1, .slice st.a2 st.n2 st.c2] 30 (0, 0)))
    (hz : w2.heap.size ≤ w3.heap.size ∧ tb < w2.heap.size ∧ w2.heap.size + 2 < w3.heap.size) (hb3 : Below w3.heap.size w3 W) (hlt : w3.heap.size < W.heap.size) :
    RunAt c s t st w (w2.heap.size + 2) w2.heap.size (w2.heap.size + 1) tb w3.heap.size w3.heap.size W :=
  { cir := hC, tr := hT, low := hb, may := hF.may, small := hs, init := hF.init, frames := hF.frames, few := hF.few
    feed := heap_below hr.2.2.1 hb3, kind := heap_below hr.1 hb3, box := heap_below hr.2.1 hb3, tbox := heap_below hr.2.2.2 hb3, lt1 := hlt, lt2 := hlt
    ne1 := ⟨by omega, by omega, by omega, by omega⟩, ne2 := ⟨by omega, by omega, by omega, by omega⟩ }

/-- The run, list by list. -/
def runL (c : NormC) (t : TraceC) : List (List UInt8) := (List.range t.frames.length).map (varsAt c t)
/-- What Run answers. -/
def RunPost (c : NormC) (t : TraceC) (w : World) (e : Ending) (w' : World) : Prop :=
  (fitsS c t = true → ∃ (v : Value) (ss : List Slc), e = .returned (.tuple #[v, .int .i64 0]) ∧ ss.length = t.frames.length ∧ w'.ownsRow w.heap.size 27 1 v t.frames.length (ss.map slV) ∧ (∀ j, j < t.frames.length → Row isByte w' w.heap.size 5 (slV (ss.getD j slc0)) (varsAt c t j).length ((varsAt c t j).map bv))) ∧
  (fitsS c t = false → e = .returned (.tuple #[.slice none 0 0, .int .i64 2])) ∧ Below w.heap.size w w'
set_option maxRecDepth 100000 in
set_option maxHeartbeats 3200000 in
theorem run_any2 (c : NormC) (t : TraceC) (s : CSlots) (st : TSlots) (w : World) (h : SeesCir w s c) (ht : SeesTr w st t) (hs : s.small) (hst : st.small) (hlo : -9223372036854775808 ≤ c.ins) (hhi : c.ins < 9223372036854775808) (hb1 : -9223372036854775808 ≤ t.bad ∧ t.bad < 9223372036854775808) :
    Calls Try.prog 14 #[cirV c.ins s, traceV t.bad st] w (RunPost c t w) := by
  have HFIT := Lib.hid (fun W (hb : Below w.heap.size w W) => fits_any c t s st W (h.below hb) (ht.below hb) hs hst hlo hhi hb1)
  have HFC : Hid (fitsS c t = true → FitsC c t) := fits_iff.1
  have HE : Hid (∀ e w', RunPost c t w e w' ↔ (fitsS c t = true → ∃ (v : Value) (ss : List Slc), e = .returned (.tuple #[v, .int .i64 0]) ∧ ss.length = t.frames.length ∧ w'.ownsRow w.heap.size 27 1 v t.frames.length (ss.map slV) ∧ (∀ j, j < t.frames.length → Row isByte w' w.heap.size 5 (slV (ss.getD j slc0)) (varsAt c t j).length ((varsAt c t j).map bv))) ∧ (fitsS c t = false → e = .returned (.tuple #[.slice none 0 0, .int .i64 2])) ∧ Below w.heap.size w w') := fun _ _ => Iff.rfl
  obtain ⟨q, hq⟩ : ∃ q, q = fitsS c t := ⟨_, rfl⟩
  rw [← hq] at HFIT HFC HE
  clear hq
  have HC := Lib.hid h
  have HT := Lib.hid ht
  clear h ht hlo hhi hb1
  unfold cirV traceV at *
  go_enter Try.func14, Try.ntmps14
  go_upto_region 1 with fail
  generalize hW : World.alloc (World.alloc w _) _ = W1
  have hb : Below w.heap.size w W1 := by subst hW; exact ext_trans (ext_alloc _ _) (ext_alloc _ _)
  have hx : W1.heap[w.heap.size]? = some (.cells #[.int .i64 c.ins, .slice s.a1 s.n1 s.c1, .slice s.a2 s.n2 s.c2, .slice s.a3 s.n3 s.c3, .slice s.a4 s.n4 s.c4, .slice s.a5 s.n5 s.c5] 26 (0, 0)) := by subst hW; exact heap_below (heap_new _ _ _ rfl) (ext_alloc _ _)
  have hy : W1.heap[w.heap.size + 1]? = some (.cells #[.int .i64 t.bad, .slice st.a1 st.n1 st.c1, .slice st.a2 st.n2 st.c2] 30 (0, 0)) := by subst hW; exact heap_new _ _ _ (by simp)
  have HB := Lib.hid hb
  have HX := Lib.hid hx
  have HY := Lib.hid hy
  clear hW hb hx hy
  have p0 := cell_of_block HX.out 0
  have p1 := cell_of_block HX.out 1
  have p2 := cell_of_block HX.out 2
  have p3 := cell_of_block HX.out 3
  have p4 := cell_of_block HX.out 4
  have p5 := cell_of_block HX.out 5
  have r0 := cell_of_block HY.out 0
  have r1 := cell_of_block HY.out 1
  have r2 := cell_of_block HY.out 2
  go_wp2_with fail
  refine (HFIT.out W1 HB.out).mono ?_
  rintro e W2 ⟨rfl, hb⟩
  have HX2 := Lib.hid (heap_below HX.out hb)
  have HY2 := Lib.hid (heap_below HY.out hb)
  have HB2 := Lib.hid (ext_trans HB.out hb)
  clear hb p0 p1 p2 p3 p4 p5 r0 r1 r2 HFIT HX HY HB
  cases q with
  | false =>
    go_wp2
    go_ret2
    exact (HE.out _ _).2 ⟨(fun h => by cases h), fun _ => rfl, HB2.out⟩
  | true =>
    have HF := Lib.hid (HFC.out rfl)
    have HSG : Hid (∀ W, Calls Try.prog 34 #[] W fun e w' => e = .returned (.agg #[.int .u8 0, .func (.func 62) #[] #[], .func (.func 63) #[] #[]]) ∧ Below W.heap.size W w') := single_any
    have HAL := Lib.hid (fun W => alone_any t.bad st W)
    unfold traceV at HAL
    have HRN := Lib.hid (run_any #[.int .u8 0, .func (.func 62) #[] #[], .func (.func 63) #[] #[]] #[.int .i64 c.ins, .slice s.a1 s.n1 s.c1, .slice s.a2 s.n2 s.c2, .slice s.a3 s.n3 s.c3, .slice s.a4 s.n4 s.c4, .slice s.a5 s.n5 s.c5])
    have HS0 := Lib.hid (keep63 HX2.out HY2.out)
    clear HFC
    go_wp2_with fail
    go_region_held3 (fun w' => w'.cell? ⟨w.heap.size, 0, none⟩ = some (.int .i64 c.ins) ∧ w'.cell? ⟨w.heap.size, 1, none⟩ = some (.slice s.a1 s.n1 s.c1) ∧ w'.cell? ⟨w.heap.size, 2, none⟩ = some (.slice s.a2 s.n2 s.c2) ∧ w'.cell? ⟨w.heap.size, 3, none⟩ = some (.slice s.a3 s.n3 s.c3) ∧ w'.cell? ⟨w.heap.size, 4, none⟩ = some (.slice s.a4 s.n4 s.c4) ∧ w'.cell? ⟨w.heap.size, 5, none⟩ = some (.slice s.a5 s.n5 s.c5) ∧ w'.cell? ⟨w.heap.size + 1, 0, none⟩ = some (.int .i64 t.bad) ∧ w'.cell? ⟨w.heap.size + 1, 1, none⟩ = some (.slice st.a1 st.n1 st.c1) ∧ w'.cell? ⟨w.heap.size + 1, 2, none⟩ = some (.slice st.a2 st.n2 st.c2))
      (first | with_reducible exact HS0.out | with_reducible exact keep63 (heap_below HX2.out ((Below.refl _ W2).drew)) (heap_below HY2.out ((Below.refl _ W2).drew)) | with_reducible exact HS1.out | with_reducible exact HS2.out | with_reducible exact HS3.out | with_reducible exact HS4.out | go_keep)
      (first
        | (go_at_call 34; (with_reducible refine (HSG.out _).mono ?_); rintro e s1 ⟨rfl, b1⟩; have HB3 := Lib.hid (below_undrew b1); have HS1 := Lib.hid (keep63 (heap_below HX2.out HB3.out) (heap_below HY2.out HB3.out)); clear b1)
        | (go_at_call 45; (with_reducible refine (HAL.out _).mono ?_); rintro e s2 ⟨rfl, htb, b2⟩; have HTB := Lib.hid htb; have HB4 := Lib.hid (ext_trans HB3.out b2); have HS2 := Lib.hid (keep63 (heap_below HX2.out HB4.out) (heap_below HY2.out HB4.out)); clear b2 htb)
        | (go_at_call 44; (with_reducible refine (HRN.out _ _).mono ?_); rintro e s3 ⟨rfl, hkb, hcb, hsb, b3⟩; have HRB := Lib.hid (And.intro hkb (And.intro hcb (And.intro hsb (heap_below HTB.out b3)))); have HSZ := Lib.hid (And.intro b3.size (And.intro (heap_lt HTB.out) (heap_lt hsb))); have HB5 := Lib.hid (ext_trans HB4.out b3); have HS3 := Lib.hid (keep63 (heap_below HX2.out HB5.out) (heap_below HY2.out HB5.out)); clear b3 hkb hcb hsb)
        | (go_at_call 43; (with_reducible refine (collect_any c s t st w _ _ _ _ _ (ext_trans HB2.out HB5.out).size (fun W hb hlt => runat_of HC.out HT.out HF.out hs (ext_trans (ext_trans HB2.out HB5.out) hb) HRB.out HSZ.out hb hlt)).mono ?_); rintro e s4 ⟨v4, ss4, rfl, hl4, ho4, hr4, b4⟩; have HO4 := Lib.hid (And.intro hl4 (And.intro ho4 hr4)); have HB6 := Lib.hid (ext_trans HB5.out b4); have HS4 := Lib.hid (keep63 (heap_below HX2.out HB6.out) (heap_below HY2.out HB6.out)); clear b4 hl4 ho4 hr4))
    all_goals go_wp2
    all_goals go_ret2
    all_goals exact (HE.out _ _).2 ⟨fun _ => ⟨v4, ss4, rfl, HO4.out.1, owns_base HO4.out.2.1 (ext_trans HB2.out HB5.out).size, fun j hj => (HO4.out.2.2 j hj).base_le (ext_trans HB2.out HB5.out).size⟩, (fun h => by cases h), ext_trans HB2.out HB6.out⟩
end Go.Proofs.Ytjmdgbdlhaaefaa
/- The reference's CopyTrace, by its contract. -/
namespace Go.Proofs.Ytjmdgbdlhaaefaa
open Go Go.RowKit Go.Joins

/-- A trace's slots own what they read; the list of frames is a row that may have room. -/
structure OwnT3 (w : World) (base : Nat) (s : TSlots) (t : TraceC) : Prop where
  o1 : Row isByte w base 5 (.slice s.a1 s.n1 s.c1) t.init.length (t.init.map bv)
  o2 : w.ownsRow base 27 1 (.slice s.a2 s.n2 s.c2) t.frames.length (s.ss.map slV)
  len : s.ss.length = t.frames.length
  rows : ∀ j, j < t.frames.length → Row isByte w base 5 (slV (s.ss.getD j slc0)) (t.frames.getD j []).length ((t.frames.getD j []).map bv)
  ap : ApartL ((s.a1, s.n1, s.c1) :: s.ss)
theorem OwnT3.below {w w' : World} {base : Nat} {s : TSlots} {t : TraceC} (h : OwnT3 w base s t) (hb : Below w.heap.size w w') : OwnT3 w' base s t :=
  ⟨h.o1.below hb, ownsN_below h.o2 hb, h.len, fun j hj => (h.rows j hj).below hb, h.ap⟩
theorem owns_sees_slice {w : World} {base : Nat} {e : TypeId} {a : Option Addr} {n c m : Nat} {xs : List Value} (h : w.ownsRow base e 1 (.slice a n c) m xs) : n = m ∧ Sees w a n c xs := by
  obtain ⟨a', c', e1, _, hs⟩ := Sees.owned h
  cases e1
  exact ⟨rfl, hs⟩
theorem OwnT3.sees {w : World} {base : Nat} {s : TSlots} {t : TraceC} (h : OwnT3 w base s t) : SeesTr w s t :=
  ⟨(row_sees_slice h.o1).2, ⟨(owns_sees_slice h.o2).2, h.len, fun k hk => (row_sees_slice (h.rows k hk)).2⟩⟩

/-- While the copy is made: k frames have been copied. -/
structure RcInv (w : World) (bad : Int) (F : List (List UInt8)) (I : List UInt8) (a1 : Option Addr) (n1 c1 : Nat) (a2 : Option Addr) (n2 c2 k : Nat) (W : World) (v : Value) (si : Slc) (ss : List Slc) : Prop where
  box : W.heap[w.heap.size + 1 + 1]? = some (.cells #[.int .i64 bad, slV si, v] 30 (0, 0))
  tb : W.heap[w.heap.size]? = some (.cells #[.int .i64 bad, .slice a1 n1 c1, .slice a2 n2 c2] 30 (0, 0))
  rb : W.heap[w.heap.size + 1]? = some (.cells #[.int .i64 0, .slice none 0 0, .slice none 0 0] 30 (0, 0))
  init : Row isByte W w.heap.size 5 (slV si) I.length (I.map bv)
  row : W.ownsRow w.heap.size 27 1 v k (ss.map slV)
  len : ss.length = k
  rows : ∀ j, j < k → Row isByte W w.heap.size 5 (slV (ss.getD j slc0)) (F.getD j []).length ((F.getD j []).map bv)
  ap : ApartL (si :: ss)
  low : Below w.heap.size w W

theorem OwnT3.set3 {w : World} {base G : Nat} {s : TSlots} {t : TraceC} {C : Array Value} {fr : Nat × Nat} {u0 u1 u2 : Value} (h : OwnT3 w base s t) (hG : w.heap[G]? = some (.cells C 30 fr)) : OwnT3 (((w.setCell ⟨G, 0, .none⟩ u0).setCell ⟨G, 1, .none⟩ u1).setCell ⟨G, 2, .none⟩ u2) base s t := by
  have row : ∀ {v : Value} {n : Nat} {xs : List Value}, Row isByte w base 5 v n xs → Row isByte (((w.setCell ⟨G, 0, .none⟩ u0).setCell ⟨G, 1, .none⟩ u1).setCell ⟨G, 2, .none⟩ u2) base 5 v n xs := fun hr =>
    hr.other fun q hq => set3_other G q (fun e => (hr.not_own hG (by decide)) (by rw [hq, e])) _ _ _
  exact ⟨row h.o1, ownsN_other h.o2 fun q hq => set3_other G q (fun e => (ownsN_notown h.o2 hG (by decide)) (by rw [hq, e])) _ _ _, h.len, fun j hj => row (h.rows j hj), h.ap⟩
theorem keep3c {w w' : World} {a0 a1 a2 : Addr} {v0 v1 v2 : Value} (h : w.cell? a0 = some v0 ∧ w.cell? a1 = some v1 ∧ w.cell? a2 = some v2) (hb : Below w.heap.size w w') : w'.cell? a0 = some v0 ∧ w'.cell? a1 = some v1 ∧ w'.cell? a2 = some v2 := by
  obtain ⟨h0, h1, h2⟩ := h
  have one : ∀ {a : Addr} {v : Value}, w.cell? a = some v → w'.cell? a = some v := fun {a v} h => (hb.cell (World.block_lt_of_cell? _ _ h)).trans h
  exact ⟨one h0, one h1, one h2⟩
theorem apart_snoc {L : List Slc} {x : Slc} (h : ApartL L) (h2 : ∀ j, j < L.length → ∀ g, (slV (L.getD j slc0)).ownBlock = some g → (slV x).ownBlock ≠ some g) : ApartL (L ++ [x]) := by
  intro i j hij hj g hg
  have hi : i < L.length := by simp at hj; omega
  have e1 : (L ++ [x]).getD i slc0 = L.getD i slc0 := by simp [List.getD, List.getElem?_append_left hi]
  rw [e1] at hg
  by_cases e : j < L.length
  · have e2 : (L ++ [x]).getD j slc0 = L.getD j slc0 := by simp [List.getD, List.getElem?_append_left e]
    rw [e2]; exact h i j hij e g hg
  · have e3 : j = L.length := by simp at hj; omega
    have e2 : (L ++ [x]).getD j slc0 = x := by rw [e3]; simp
    rw [e2]; exact h2 i hi g hg

set_option maxRecDepth 100000 in
set_option maxHeartbeats 6400000 in
theorem refcopy_any (t : TraceC) (s : TSlots) (w : World) (h : SeesTr w s t) (hs : s.small) :
    Calls Try.prog 8 #[traceV t.bad s] w fun e w' => ∃ s' : TSlots, e = .returned (traceV t.bad s') ∧ OwnT3 w' w.heap.size s' t ∧ s'.small ∧ Below w.heap.size w w' := by
  obtain ⟨i0, hi, hz0, hz1, hz2⟩ := info_parts info_byte
  obtain ⟨iS, hiS, hzS0, hzS1, hzS2⟩ := info_parts info_u8s
  obtain ⟨a1, n1, c1, a2, n2, c2, ss0⟩ := s
  obtain ⟨hs1, hs2, hs3⟩ := hs
  simp only at hs1 hs2 hs3
  obtain ⟨bad, init, fs⟩ := t
  obtain ⟨q1, q2⟩ := h
  simp only at q1 q2
  have hn2 := q2.n_eq
  have hn1 : init.length = n1 := q1.lenMap
  have H1 := Lib.hid q1
  have H2 := Lib.hid q2
  have HN1 := Lib.hid hn1
  have HN2 := Lib.hid hn2
  have HSL := Lib.hid hs3
  clear q1 q2 hn1 hn2 hs3
  unfold traceV
  go_enter Try.func8, Try.ntmps8
  go_upto_region 2 with fail
  generalize hW : World.alloc (World.alloc (World.alloc w _) _) _ = W1
  have B1 : Below w.heap.size w W1 := by subst hW; exact ext_trans (ext_alloc _ _) (ext_trans (ext_alloc _ _) (ext_alloc _ _))
  have hT : W1.heap[w.heap.size]? = some (.cells #[.int .i64 bad, .slice a1 n1 c1, .slice a2 n2 c2] 30 (0, 0)) := by subst hW; exact heap_below (heap_below (heap_new _ _ _ rfl) (ext_alloc _ _)) (ext_alloc _ _)
  have hR : W1.heap[w.heap.size + 1]? = some (.cells #[.int .i64 0, .slice none 0 0, .slice none 0 0] 30 (0, 0)) := by subst hW; exact heap_below (heap_new _ _ _ (by simp)) (ext_alloc _ _)
  have hX : W1.heap[w.heap.size + 1 + 1]? = some (.cells #[.int .i64 bad, .slice none 0 0, .slice none 0 0] 30 (0, 0)) := by subst hW; exact heap_new _ _ _ (by simp)
  clear hW
  have p1 := cell_of_block hT 1
  have p2 := cell_of_block hX 1
  have p3 := unfrozen_of_block hX 1
  have HB := Lib.hid B1
  have HT := Lib.hid hT
  have HR := Lib.hid hR
  have HX := Lib.hid hX
  clear B1 hT hR hX
  go_wp2_with (at_builtin; refine wpList_append_row isByte _ rfl _ _ 27 rfl w.heap.size 5 i0 (.int .u8 0) 1 Try.underlying27 hi hz0 hz1 hz2 rfl isByte_zero _ _ _ rfl (Row.nil _ _ _ _) a1 n1 c1 (init.map bv) rfl (H1.out.below HB.out) (bv_one _) (isByte_all _) (by unfold maxLen; omega) (by omega) HB.out.size ?_; intro v1 w1 r1 g1 _; obtain ⟨ia, ic, rfl⟩ := r1.form; have hb1 : Below W1.heap.size W1 w1 := (Below.refl _ W1).grown g1 (Nat.le_refl _) (fun k hk => by cases hk); have p4 := cell_of_block (heap_below HX.out hb1) 1; have p5 := unfrozen_of_block (heap_below HX.out hb1) 1)
  obtain ⟨si, hsi⟩ : ∃ si : Slc, si = (ia, 0 + n1, ic) := ⟨_, rfl⟩
  have hro : Row isByte w1 w.heap.size 5 (slV si) init.length (init.map bv) := by rw [hsi, HN1.out]; simpa [slV] using r1
  have hXX := block_setCell (heap_below HX.out hb1) (i := 1) (.slice ia (0 + n1) ic)
  generalize hW : World.setCell w1 _ _ = W2
  have hx2 : W2.heap[w.heap.size + 1 + 1]? = some (.cells #[.int .i64 bad, slV si, .slice none 0 0] 30 (0, 0)) := by
    subst hW; rw [hsi]; simpa [slV] using hXX
  have hne : ∀ D : Nat, D ≠ w.heap.size + 1 + 1 → W2.heap[D]? = w1.heap[D]? := fun D hD => by subst hW; exact Below.heap_setCell w1 ⟨w.heap.size + 1 + 1, 1, none⟩ _ D hD
  have hro2 : Row isByte W2 w.heap.size 5 (slV si) init.length (init.map bv) := hro.other fun q hq => hne q (fun e => (hro.not_own (heap_below HX.out hb1) (by decide)) (by rw [hq, e]))
  have hb2 : Below w.heap.size w W2 := by
    subst hW
    exact (ext_trans HB.out hb1).setCell (p := ⟨w.heap.size + 1 + 1, 1, none⟩) (by show w.heap.size ≤ w.heap.size + 1 + 1; omega) _
  have ht2 : W2.heap[w.heap.size]? = some (.cells #[.int .i64 bad, .slice a1 n1 c1, .slice a2 n2 c2] 30 (0, 0)) := (hne _ (by omega)).trans (heap_below HT.out hb1)
  have hr2 : W2.heap[w.heap.size + 1]? = some (.cells #[.int .i64 0, .slice none 0 0, .slice none 0 0] 30 (0, 0)) := (hne _ (by omega)).trans (heap_below HR.out hb1)
  have hlen2 : (si.2.1 : Nat) = init.length := (row_len (show Row isByte W2 w.heap.size 5 (.slice si.1 si.2.1 si.2.2) _ _ from hro2)).symm
  have HLEN2 := Lib.hid hlen2
  have HRO := Lib.hid hro2
  have HT2 := Lib.hid ht2
  have HR2 := Lib.hid hr2
  have HX2 := Lib.hid hx2
  have HB2 := Lib.hid hb2
  have HSI := Lib.hid hsi
  clear hW r1 g1 hb1 hro hXX hx2 hne hro2 hb2 ht2 hr2 hsi p1 p2 p3 p4 p5 HB HT HR HX hlen2
  go_wp2
  go_loopw [4, 5] (fun i _ wr => ∃ (k : Nat) (va : Option Addr) (vc : Nat) (ss : List Slc), k ≤ n2 ∧ i = .int .i64 k ∧ Hid (RcInv w bad fs init a1 n1 c1 a2 n2 c2 k wr (.slice va k vc) si ss)) (fun i _ _ => n2 - (intOf i).toNat)
  case atStart => exact ⟨0, none, 0, [], Nat.zero_le _, rfl, HX2.out, HT2.out, HR2.out, HRO.out, ⟨rfl, .inl ⟨rfl, rfl⟩⟩, rfl, fun j hj => absurd hj (by omega), (fun i j hij hj => by simp at hj; omega), HB2.out⟩
  case round =>
    clear HX2 HT2 HR2 HRO HB2
    obtain ⟨k, va, vc, ss, hk, rfl, hI⟩ := hrel
    have p1 := cell_of_block hI.out.tb 2
    by_cases hlt : k < n2
    · obtain ⟨bb, off, rfl, hbw⟩ := H2.out.row.addr (show 0 < n2 by omega)
      have hcx := (H2.out.below hI.out.low).cellAt k hlt
      have hsee := (H2.out.below hI.out.low).each k (by rw [HN2.out]; exact hlt)
      have hsl := HSL.out (ss0.getD k slc0) (getD_mem (by rw [H2.out.len, HN2.out]; exact hlt))
      obtain ⟨x, hx⟩ : ∃ x : Slc, x = ss0.getD k slc0 := ⟨_, rfl⟩
      rw [← hx] at hcx hsee hsl
      obtain ⟨xa, xn, xc⟩ := x
      simp only at hcx hsee hsl
      have HXN := Lib.hid hsl
      have HKN : Hid (k < n2 ∧ n2 ≤ 1048576) := ⟨hlt, hs2⟩
      have HSK := Lib.hid hsee
      have HBW := Lib.hid hbw
      have hI1 : ((k : Nat) : Int) < (n2 : Int) := by omega
      have hI2 : (0 : Int) ≤ (k : Int) := by omega
      have W1' : IntKind.i64.wrap ((k : Int) + 1) = (k : Int) + 1 := IntWalk.i64_in _ (by omega)
      have p0 : wr.cell? ⟨w.heap.size + 1 + 1, 2, none⟩ = some (.slice va k vc) := cell_of_block hI.out.box 2
      have p2 := hcx
      have hxl : xn = (fs.getD k []).length := hsee.lenMap.symm
      have HXL := Lib.hid hxl
      clear hx hcx hsee hsl hbw hxl
      go_upto_region 7 with fail
      have HS0 := Lib.hid (And.intro p0 (And.intro p1 p2))
      have HSD := Lib.hid (keep3c HS0.out ((Below.refl _ wr).drew))
      have HSK2 := Lib.hid (HSK.out.below ((Below.refl _ wr).drew))
      refine wp_region_noPanic ?_
      refine wp_region_peelN 12 (by kernel_rfl) rfl (by simp only [List.getElem?_toArray, List.getElem?_cons_zero, List.getElem?_cons_succ]; rfl) (by kernel_rfl) ?_
      simp only [List.pop_toArray, List.dropLast_cons_cons, List.dropLast_singleton]
      refine wpAny_of_held (S := fun w' => w'.cell? ⟨w.heap.size + 1 + 1, 2, none⟩ = some (.slice va k vc) ∧ w'.cell? ⟨w.heap.size, 2, none⟩ = some (.slice (some ⟨bb, off, none⟩) n2 c2) ∧ w'.cell? ⟨bb, off + k, none⟩ = some (.slice xa xn xc)) _ _ _ _ ?_
      refine wpAnyH_take (i := 0) (v := ?_) (by simp only [List.getElem?_toArray, List.getElem?_cons_zero]; rfl) (by kernel_rfl) (by kernel_rfl) (by kernel_rfl) (fun _ _ _ h => h) (Or.inl ⟨by rfl, ?_⟩) HSD.out ?_
      rotate_left
      · intro w hSw
        (try dsimp only at hSw)
        obtain ⟨q0_, q1_, q2_⟩ := hSw
        go_simp
        try with_reducible rfl
      try simp only [Act.put, List.setIfInBounds_toArray, List.set_cons_zero, List.set_cons_succ]
      refine wpAnyH_take (i := 1) (v := ?_) (by simp only [List.getElem?_toArray, List.getElem?_cons_zero, List.getElem?_cons_succ]; rfl) (by kernel_rfl) (by kernel_rfl) (by kernel_rfl) (fun _ _ _ h => h) (Or.inl ⟨by rfl, ?_⟩) HSD.out ?_
      rotate_left
      · intro w hSw
        (try dsimp only at hSw)
        obtain ⟨q0_, q1_, q2_⟩ := hSw
        go_simp
        try with_reducible rfl
      try simp only [Act.put, List.setIfInBounds_toArray, List.set_cons_zero, List.set_cons_succ]
      refine wpAnyH_take (i := 2) (v := ?_) (by simp only [List.getElem?_toArray, List.getElem?_cons_zero, List.getElem?_cons_succ]; rfl) (by kernel_rfl) (by kernel_rfl) (by kernel_rfl) (fun _ _ _ h => h) (Or.inl ⟨by rfl, ?_⟩) HSD.out ?_
      rotate_left
      · intro w hSw
        (try dsimp only at hSw)
        obtain ⟨q0_, q1_, q2_⟩ := hSw
        go_simp
        try with_reducible rfl
      try simp only [Act.put, List.setIfInBounds_toArray, List.set_cons_zero, List.set_cons_succ]
      refine wpAnyH_take (i := 3) (v := ?_) (by simp only [List.getElem?_toArray, List.getElem?_cons_zero, List.getElem?_cons_succ]; rfl) (by kernel_rfl) (by kernel_rfl) (by kernel_rfl) (fun _ _ _ h => h) (Or.inl ⟨by rfl, ?_⟩) HSD.out ?_
      rotate_left
      · intro w hSw
        (try dsimp only at hSw)
        obtain ⟨q0_, q1_, q2_⟩ := hSw
        go_simp
        try with_reducible rfl
      try simp only [Act.put, List.setIfInBounds_toArray, List.set_cons_zero, List.set_cons_succ]
      refine wpAnyH_take (i := 4) (v := ?_) (by simp only [List.getElem?_toArray, List.getElem?_cons_zero, List.getElem?_cons_succ]; rfl) (by kernel_rfl) (by kernel_rfl) (by kernel_rfl) (fun _ _ _ h => h) (Or.inl ⟨by rfl, ?_⟩) HSD.out ?_
      rotate_left
      · intro w hSw
        (try dsimp only at hSw)
        obtain ⟨q0_, q1_, q2_⟩ := hSw
        go_simp
        try with_reducible rfl
      try simp only [Act.put, List.setIfInBounds_toArray, List.set_cons_zero, List.set_cons_succ]
      refine wpAnyH_take (i := 5) (v := ?_) (by simp only [List.getElem?_toArray, List.getElem?_cons_zero, List.getElem?_cons_succ]; rfl) (by kernel_rfl) (by kernel_rfl) (by kernel_rfl) (fun _ _ _ h => h) (Or.inl ⟨by rfl, ?_⟩) HSD.out ?_
      rotate_left
      · intro w hSw
        (try dsimp only at hSw)
        obtain ⟨q0_, q1_, q2_⟩ := hSw
        go_simp
        try with_reducible rfl
      try simp only [Act.put, List.setIfInBounds_toArray, List.set_cons_zero, List.set_cons_succ]
      refine wpAnyH_take (i := 6) (v := ?_) (by simp only [List.getElem?_toArray, List.getElem?_cons_zero, List.getElem?_cons_succ]; rfl) (by kernel_rfl) (by kernel_rfl) (by kernel_rfl) (fun _ _ _ h => h) (Or.inl ⟨by rfl, ?_⟩) HSD.out ?_
      rotate_left
      · intro w hSw
        (try dsimp only at hSw)
        obtain ⟨q0_, q1_, q2_⟩ := hSw
        go_simp
        try with_reducible rfl
      try simp only [Act.put, List.setIfInBounds_toArray, List.set_cons_zero, List.set_cons_succ]
      refine wpAnyH_take (i := 7) (v := ?_) (by simp only [List.getElem?_toArray, List.getElem?_cons_zero, List.getElem?_cons_succ]; rfl) (by kernel_rfl) (by kernel_rfl) (by kernel_rfl) (fun _ _ _ h => h) (Or.inl ⟨by rfl, ?_⟩) HSD.out ?_
      rotate_left
      · intro w hSw
        (try dsimp only at hSw)
        obtain ⟨q0_, q1_, q2_⟩ := hSw
        go_simp
        try with_reducible rfl
      try simp only [Act.put, List.setIfInBounds_toArray, List.set_cons_zero, List.set_cons_succ]
      refine wpAnyH_ready (rs := [8]) (by kernel_rfl) (by simp) ?_
      refine AllReadyH.cons (by simp only [List.getElem?_toArray, List.getElem?_cons_zero, List.getElem?_cons_succ]; rfl) (fun K hK => ?_) AllReadyH.nil
      refine step_append_row isByte _ rfl _ _ 27 rfl wr.heap.size 5 i0 (.int .u8 0) 1 Try.underlying27 hi hz0 hz1 hz2 rfl isByte_zero _ _ _ (by simp [Act.eval]) (Row.nil _ _ _ _) xa xn xc ((fs.getD k []).map bv) (by simp [Act.eval]) HSK2.out (bv_one _) (isByte_all _) (by unfold maxLen; have := HXN.out; omega) (by have := HXN.out; omega) (Nat.le_refl _) ?_
      intro v3 w3 r3 g3
      rw [Nat.zero_add, List.nil_append] at r3
      obtain ⟨ea, ec, rfl⟩ := r3.form
      have hb3 : Below wr.heap.size wr w3 := ((Below.refl _ wr).drew).grown g3 (Nat.le_refl _) (fun k hk => by cases hk)
      have HB3 := Lib.hid hb3
      have R3 := Lib.hid r3
      have HS3 := Lib.hid (keep3c HS0.out hb3)
      clear r3 g3 hb3
      refine hK.out _ _ HS3.out (fun _ => ?_)
      clear hK K
      try simp only [Act.put, List.setIfInBounds_toArray, List.set_cons_zero, List.set_cons_succ]
      refine wpAnyH_ready (rs := [9]) (by kernel_rfl) (by simp) ?_
      refine AllReadyH.cons (by simp only [List.getElem?_toArray, List.getElem?_cons_zero, List.getElem?_cons_succ]; rfl) (fun K hK => ?_) AllReadyH.nil
      go_simp
      refine hK.out _ _ (keep3c HS3.out (ext_alloc _ _)) (fun _ => ?_)
      clear hK K
      try simp only [Act.put, List.setIfInBounds_toArray, List.set_cons_zero, List.set_cons_succ]
      have HB4 := Lib.hid (ext_trans HB3.out (ext_alloc w3 (.cells #[.slice ea xn ec] 27)))
      have HOW := Lib.hid (ownsN_below hI.out.row HB4.out)
      refine wpAnyH_ready (rs := [10]) (by kernel_rfl) (by simp) ?_
      refine AllReadyH.cons (by simp only [List.getElem?_toArray, List.getElem?_cons_zero, List.getElem?_cons_succ]; rfl) (fun K hK => ?_) AllReadyH.nil
      refine step_append_own_at rfl _ _ 28 rfl w.heap.size 27 iS (.slice none 0 0) 1 24 Try.underlying28 hiS hzS0 hzS1 hzS2 rfl (by decide) (.slice va k vc) k (ss.map slV) (by simp [Act.eval]) HOW.out ⟨w3.heap.size, 0, none⟩ 1 1 [.slice ea xn ec] (by simp [Act.eval]) rfl (cell_one_new _ _ _) (by simp [Value.oneCell']) (by unfold maxLen; have := HKN.out; omega) (by have := HKN.out; omega) (ext_trans hI.out.low HB4.out).size ?_
      intro v5 w5 r5 g5
      obtain ⟨fa, fc, rfl⟩ := ownsN_form r5
      have hx5 := heap_grown (heap_below hI.out.box HB4.out) g5 (ownsN_notown HOW.out (heap_below hI.out.box HB4.out) (by decide))
      have ht5 := heap_grown (heap_below hI.out.tb HB4.out) g5 (ownsN_notown HOW.out (heap_below hI.out.tb HB4.out) (by decide))
      have HS5 : Hid (w5.cell? ⟨w.heap.size + 1 + 1, 2, none⟩ = some (.slice va k vc) ∧ w5.cell? ⟨w.heap.size, 2, none⟩ = some (.slice (some ⟨bb, off, none⟩) n2 c2) ∧ w5.cell? ⟨bb, off + k, none⟩ = some (.slice xa xn xc)) := ⟨cell_of_block hx5 2, cell_of_block ht5 2, by rw [World.cell?_of_block (w := w3.alloc (.cells #[.slice ea xn ec] 27)) (g5.block bb (Nat.lt_of_lt_of_le HBW.out (Nat.le_trans hI.out.low.size HB4.out.size)) (fun e => by have := (HOW.out.lt bb e.symm).1; have := HBW.out; omega))]; exact (keep3c HS3.out (ext_alloc _ _)).2.2⟩
      have HX5 := Lib.hid hx5
      have HT5 := Lib.hid ht5
      have d1 := cell_of_block hx5 2
      have d2 := unfrozen_of_block hx5 2
      have HG5 := Lib.hid g5
      have R5 := Lib.hid r5
      clear r5 g5 hx5 ht5
      refine hK.out _ _ HS5.out (fun _ => ?_)
      clear hK K
      try simp only [Act.put, List.setIfInBounds_toArray, List.set_cons_zero, List.set_cons_succ]
      refine wpAnyH_take (i := 11) (v := ?_) (by simp only [List.getElem?_toArray, List.getElem?_cons_zero, List.getElem?_cons_succ]; rfl) (by kernel_rfl) (by kernel_rfl) (by kernel_rfl) (fun _ _ _ h => h) (Or.inl ⟨by rfl, ?_⟩) HS5.out ?_
      rotate_left
      · intro w hSw
        (try dsimp only at hSw)
        obtain ⟨q0_, q1_, q2_⟩ := hSw
        go_simp
        try with_reducible rfl
      try simp only [Act.put, List.setIfInBounds_toArray, List.set_cons_zero, List.set_cons_succ]
      refine wpAnyH_done (by kernel_rfl) ?_ _
      unfold LastQ wpOp
      simp only [List.getElem?_toArray, List.getElem?_cons_zero, List.getElem?_cons_succ]
      rw [if_pos (by rfl)]
      refine Or.inl ?_
      go_simp
      refine NoPanic.normal ?_
      clear p0 p1 p2 HS0 HSD HS3 HS5 d1 d2
      go_wp2
      go_roundw
      case rel =>
        refine ⟨k + 1, fa, fc, ss ++ [(ea, xn, ec)], by omega, by go_num, ?_⟩
        have hXX := block_setCell HX5.out (i := 2) (.slice fa (k + 1) fc)
        obtain ⟨W6, hW6⟩ : ∃ W6, W6 = w5.setCell ⟨w.heap.size + 1 + 1, 2, none⟩ (.slice fa (k + 1) fc) := ⟨_, rfl⟩
        rw [← hW6] at hXX ⊢
        have hne : ∀ D : Nat, D ≠ w.heap.size + 1 + 1 → W6.heap[D]? = w5.heap[D]? := fun D hD => by rw [hW6]; exact Below.heap_setCell w5 ⟨w.heap.size + 1 + 1, 2, none⟩ _ D hD
        obtain ⟨WA, hWA⟩ : ∃ WA, WA = w3.alloc (.cells #[.slice ea xn ec] 27) := ⟨_, rfl⟩
        have hg := HG5.out
        have hb4 := HB4.out
        have how := HOW.out
        rw [← hWA] at hg hb4 how
        have hb3A : Below w3.heap.size w3 WA := by rw [hWA]; exact ext_alloc _ _
        have hwle : w.heap.size ≤ wr.heap.size := hI.out.low.size
        have one : ∀ {y : Slc} {V : List UInt8}, Row isByte WA w.heap.size 5 (slV y) V.length (V.map bv) → Row isByte W6 w.heap.size 5 (slV y) V.length (V.map bv) := fun {y V} hy => by
          have h1 := row_grown hy how hg (by decide)
          exact h1.other fun q hq => hne q (fun e => (h1.not_own HX5.out (by decide)) (by rw [hq, e]))
        have hnew : Row isByte WA w.heap.size 5 (slV (ea, xn, ec)) (fs.getD k []).length ((fs.getD k []).map bv) := by
          have h1 := (R3.out.below hb3A).base_le hwle
          rw [HXL.out] at h1 ⊢
          exact h1
        have hbz : Below w.heap.size w WA := ext_trans hI.out.low hb4
        refine ⟨?_, (hne _ (by omega)).trans HT5.out, (hne _ (by omega)).trans (heap_grown (heap_below hI.out.rb hb4) hg (ownsN_notown how (heap_below hI.out.rb hb4) (by decide))), one (hI.out.init.below hb4), ?_, by simp [hI.out.len], fun j hj => ?_, ?_, ?_⟩
        · simpa using hXX
        · have h1 : w5.ownsRow w.heap.size 27 1 (.slice fa (k + 1) fc) (k + 1) ((ss ++ [(ea, xn, ec)]).map slV) := by simpa [slV] using R5.out
          exact ownsN_other h1 fun q hq => hne q (fun e => (ownsN_notown h1 HX5.out (by decide)) (by rw [hq, e]))
        · by_cases e : j = k
          · subst e
            have e1 : (ss ++ [(ea, xn, ec)]).getD j slc0 = (ea, xn, ec) := by rw [← hI.out.len]; simp
            rw [e1]
            exact one hnew
          · have e1 : (ss ++ [(ea, xn, ec)]).getD j slc0 = ss.getD j slc0 := by simp [List.getD, List.getElem?_append_left (show j < ss.length by rw [hI.out.len]; omega)]
            rw [e1]
            exact one ((hI.out.rows j (by omega)).below hb4)
        · have h1 := apart_snoc (x := (ea, xn, ec)) hI.out.ap (fun j hj g hg1 hg2 => ?_)
          · simpa using h1
          · have h3 := (R3.out.own.lt g hg2).1
            have h4 : g < wr.heap.size := by
              cases j with
              | zero => exact (hI.out.init.own.lt g hg1).2
              | succ j => exact ((hI.out.rows j (by rw [← hI.out.len]; simpa using hj)).own.lt g hg1).2
            omega
        · rw [hW6]
          exact (hbz.grown hg hbz.size (fun q hq => (how.lt q hq).1)).setCell (p := ⟨w.heap.size + 1 + 1, 2, none⟩) (by show w.heap.size ≤ w.heap.size + 1 + 1; omega) _
      case measure => simp [intOf]; omega
    · obtain rfl : k = n2 := by omega
      have z0 := cell_of_block hI.out.box 0
      have z1 := cell_of_block hI.out.box 1
      have z2 := cell_of_block hI.out.box 2
      obtain ⟨sa, sn, sc⟩ := si
      simp only [slV] at z1
      have z1' : wr.cell? ⟨w.heap.size + 1 + 1, 1, none⟩ = some (.slice sa sn sc) := z1
      have y0 := cell_of_block hI.out.rb 0
      have y1 := cell_of_block hI.out.rb 1
      have y2 := cell_of_block hI.out.rb 2
      have x0 := unfrozen_of_block hI.out.rb 0
      have x1 := unfrozen_of_block hI.out.rb 1
      have x2 := unfrozen_of_block hI.out.rb 2
      clear hlt hk z1
      go_wp2
      refine bodyPost_ret (v := traceV bad ⟨sa, sn, sc, va, k, vc, ss⟩) ?_ rfl ?_
      · have h6 := tri_set_t hI.out.rb rfl (.int .i64 bad) (.slice sa sn sc) (.slice va k vc)
        have g0 := cell_of_block h6 0
        have g1 := cell_of_block h6 1
        have g2 := cell_of_block h6 2
        simp [results, Try.results8, go_sem, g0, g1, g2]
        rfl
      · have hsn : sn = init.length := HLEN2.out
        have h1 := HN1.out
        have h2 := HN2.out
        refine ⟨⟨sa, sn, sc, va, k, vc, ss⟩, rfl, OwnT3.set3 ⟨hI.out.init, by rw [h2]; exact hI.out.row, by rw [h2]; exact hI.out.len, fun j hj => hI.out.rows j (by rw [← h2]; exact hj), hI.out.ap⟩ hI.out.rb, ⟨by show sn ≤ 1048576; omega, hs2, fun x hx => ?_⟩, set3_t (w.heap.size + 1) (Nat.le_succ _) hI.out.low⟩
        obtain ⟨j, hj, he⟩ := List.getElem_of_mem hx
        have h3 : ss.getD j slc0 = x := by simp [List.getD, List.getElem?_eq_getElem hj, he]
        have hjk : j < k := by rw [← hI.out.len]; exact hj
        have h4 := hI.out.rows j hjk
        rw [h3] at h4
        have h5 := row_len (show Row isByte wr w.heap.size 5 (.slice x.1 x.2.1 x.2.2) _ _ from h4)
        have h6 := (H2.out.each j (by rw [h2]; exact hjk)).lenMap
        have h7 := HSL.out (ss0.getD j slc0) (getD_mem (by rw [H2.out.len, h2]; exact hjk))
        omega
end Go.Proofs.Ytjmdgbdlhaaefaa
/- The law's filled, by its contract. -/
namespace Go.Proofs.Ytjmdgbdlhaaefaa
open Go Go.RowKit Go.Joins

def bbv (b : Bool) : Value := .bool b
/-- The lists ahead are filled, the k-th is X. -/
def GG (bits : List Bool) (G0 : Nat → List UInt8) (k : Nat) (X : List UInt8) (j : Nat) : List UInt8 := if j < k then fillL bits (startP G0 j) (G0 j) else if j = k then X else G0 j
theorem GG_self (bits : List Bool) (G0 : Nat → List UInt8) (k : Nat) (X : List UInt8) : GG bits G0 k X k = X := by simp [GG]
theorem GG_ne (bits : List Bool) (G0 : Nat → List UInt8) (k : Nat) (X Y : List UInt8) (j : Nat) (h : j ≠ k) : GG bits G0 k X j = GG bits G0 k Y j := by simp [GG, h]
theorem GG_next (bits : List Bool) (G0 : Nat → List UInt8) (k j : Nat) : GG bits G0 (k + 1) (G0 (k + 1)) j = GG bits G0 k (fillL bits (startP G0 k) (G0 k)) j := by
  unfold GG
  by_cases h1 : j < k
  · rw [if_pos h1, if_pos (by omega)]
  · by_cases h2 : j = k
    · subst h2; rw [if_pos (Nat.lt_succ_self j), if_neg h1, if_pos rfl]
    · rw [if_neg (by omega), if_neg h1, if_neg h2]
      by_cases h3 : j = k + 1
      · subst h3; rw [if_pos rfl]
      · rw [if_neg h3]
theorem OwnT3.base_le {w : World} {base base' : Nat} {s : TSlots} {t : TraceC} (h : OwnT3 w base s t) (hb : base' ≤ base) : OwnT3 w base' s t :=
  ⟨h.o1.base_le hb, owns_base h.o2 hb, h.len, fun j hj => (h.rows j hj).base_le hb, h.ap⟩
set_option maxRecDepth 100000 in
set_option maxHeartbeats 6400000 in
theorem filled_any (bits : List Bool) (t : TraceC) (s : TSlots) (ba : Option Addr) (bn bc : Nat) (w : World) (h : SeesTr w s t) (hs : s.small) (hbits : Sees w ba bn bc (bits.map bbv)) (hbn : bn ≤ 1048576) :
    Calls Try.prog 28 #[traceV t.bad s, .slice ba bn bc] w fun e w' => ∃ s' : TSlots, e = .returned (traceV t.bad s') ∧ OwnT3 w' w.heap.size s' (fillT bits t) ∧ s'.small ∧ Below w.heap.size w w' := by
  have HRC := Lib.hid (fun W (hb : Below w.heap.size w W) => refcopy_any t s W (h.below hb) hs)
  have hbl : bits.length = bn := hbits.lenMap
  have HBITS := Lib.hid hbits
  have HBL := Lib.hid hbl
  have HT := Lib.hid h
  clear h hbits hbl
  obtain ⟨bad, hbad⟩ : ∃ bad, bad = t.bad := ⟨_, rfl⟩
  have HBAD := Lib.hid hbad
  unfold traceV at *
  rw [← hbad] at HRC ⊢
  clear hbad
  go_enter Try.func28, Try.ntmps28
  go_upto_region 1 with fail
  generalize hW : World.alloc (World.alloc w _) _ = W1
  have B1 : Below w.heap.size w W1 := by subst hW; exact ext_trans (ext_alloc _ _) (ext_alloc _ _)
  have hX : W1.heap[w.heap.size]? = some (.cells #[.int .i64 bad, .slice s.a1 s.n1 s.c1, .slice s.a2 s.n2 s.c2] 30 (0, 0)) := by subst hW; exact heap_below (heap_new _ _ _ rfl) (ext_alloc _ _)
  have hR : W1.heap[w.heap.size + 1]? = some (.cells #[.int .i64 0, .slice none 0 0, .slice none 0 0] 30 (0, 0)) := by subst hW; exact heap_new _ _ _ (by simp)
  have HB := Lib.hid B1
  have HX := Lib.hid hX
  have HR := Lib.hid hR
  clear hW B1 hX hR
  have p0 := cell_of_block HX.out 0
  have p1 := cell_of_block HX.out 1
  have p2 := cell_of_block HX.out 2
  go_wp2_with fail
  refine (HRC.out W1 HB.out).mono ?_
  rintro e W2 ⟨⟨a1, n1, c1, a2, n2, c2, ss⟩, rfl, ho, hsm, hb⟩
  have hX2 := heap_below HX.out hb
  have hR2 := heap_below HR.out hb
  have q0 := cell_of_block hX2 0
  have q1 := cell_of_block hX2 1
  have q2 := cell_of_block hX2 2
  have f0 := unfrozen_of_block hX2 0
  have f1 := unfrozen_of_block hX2 1
  have f2 := unfrozen_of_block hX2 2
  have HX2 := Lib.hid hX2
  have HR2 := Lib.hid hR2
  have HB2 := Lib.hid (ext_trans HB.out hb)
  have HO := Lib.hid ho
  have HSM := Lib.hid hsm
  have HW1 := Lib.hid (And.intro HB.out.size (heap_lt HR.out))
  clear ho hsm hb p0 p1 p2 HX HR HB HRC hX2 hR2
  go_upto_region 2 with fail
  have h6 := tri_set_t HX2.out rfl (.int .i64 bad) (.slice a1 n1 c1) (.slice a2 n2 c2)
  have hO3 := OwnT3.set3 (u0 := .int .i64 bad) (u1 := .slice a1 n1 c1) (u2 := .slice a2 n2 c2) HO.out HX2.out
  have hR3 := (set3_other (X := W2) w.heap.size (w.heap.size + 1) (by omega) (.int .i64 bad) (.slice a1 n1 c1) (.slice a2 n2 c2)).trans HR2.out
  have hB3 := set3_t (B := w.heap.size) (u0 := .int .i64 bad) (u1 := .slice a1 n1 c1) (u2 := .slice a2 n2 c2) w.heap.size (Nat.le_refl _) HB2.out
  generalize hW : World.setCell (World.setCell (World.setCell W2 _ _) _ _) _ _ = W3
  rw [hW] at h6 hO3 hR3 hB3
  have hq1 : n1 = t.init.length := (row_len hO3.o1).symm
  have hq2 : n2 = t.frames.length := (owns_sees_slice hO3.o2).1
  have hq3 : ss.length = n2 := by rw [hq2]; exact hO3.len
  have HQ := Lib.hid (And.intro hq1 (And.intro hq2 hq3))
  have hn1 : n1 ≤ 1048576 := HSM.out.n1
  have hn2 : n2 ≤ 1048576 := HSM.out.n2
  obtain ⟨L, hL⟩ : ∃ L, L = (a1, n1, c1) :: ss := ⟨_, rfl⟩
  have hLl : L.length = 1 + n2 := by rw [hL, List.length_cons, hq3]; omega
  have HAP : Hid (ApartL L) := by show ApartL L; rw [hL]; exact hO3.ap
  obtain ⟨G0, hG0⟩ : ∃ G0 : Nat → List UInt8, G0 = listsOf t := ⟨_, rfl⟩
  have hrows : RowsL W3 W1.heap.size L G0 := by
    intro j hj
    rw [hL, hG0]
    cases j with
    | zero =>
      have h1 := hO3.o1
      exact h1
    | succ j =>
      have h1 := hO3.rows j (by rw [hL, List.length_cons] at hj; omega)
      exact h1
  have HLEN : Hid (∀ j, j < L.length → (L.getD j slc0).2.1 = (G0 j).length) := fun j hj =>
    (row_len (show Row isByte W3 W1.heap.size 5 (.slice (L.getD j slc0).1 (L.getD j slc0).2.1 (L.getD j slc0).2.2) _ _ from hrows j hj)).symm
  have HMAX : Hid (∀ j, j < L.length → (G0 j).length ≤ 1048576) := fun j hj => by
    have h1 := HLEN.out j hj
    rw [hL] at hj h1
    cases j with
    | zero => simp only [List.getD_cons_zero] at h1; omega
    | succ j =>
      simp only [List.getD_cons_succ] at h1
      have h2 := HSM.out.each (ss.getD j slc0) (getD_mem (by simpa using hj))
      omega
  have HSP : Hid (∀ k, k ≤ 1 + n2 → startP G0 k ≤ k * 1048576) := fun k hk => startP_le G0 1048576 k (fun j hj => HMAX.out j (by rw [hLl]; omega))
  have HROW : Hid (W3.ownsRow W1.heap.size 27 1 (.slice a2 n2 c2) n2 (ss.map slV)) := by show _; have := hO3.o2; rw [← hq2] at this; exact this
  have HROWS := Lib.hid hrows
  have HL := Lib.hid hL
  have HLL := Lib.hid hLl
  have HG0 := Lib.hid hG0
  have HX3 := Lib.hid h6
  have HR3 := Lib.hid hR3
  have HB3 := Lib.hid hB3
  clear hW h6 hO3 hR3 hB3 hq1 hq2 hq3 hL hLl hG0 hrows HX2 HR2 HB2 HO q0 q1 q2 f0 f1 f2
  have p1 := cell_of_block HX3.out 1
  go_wp2_with fail
  clear p1
  go_loopw [14, 6, 5] (fun i _ v wr => ∃ m : Nat, m ≤ n1 ∧ i = .int .i64 m ∧ v = .int .i64 (nextX 0 ((G0 0).take m) : Nat) ∧ Hid (RowsL wr W1.heap.size L (fun j => if j = 0 then fillI bits 0 (G0 0) m else G0 j)) ∧ Hid (KeptNB W3 wr) ∧ Hid (Below W1.heap.size W3 wr)) (fun i _ _ _ => n1 - (intOf i).toNat)
  case atStart => exact ⟨0, Nat.zero_le _, rfl, rfl, HROWS.out.congr (fun j _ => by by_cases e : j = 0 <;> simp [e, fillI_zero]), KeptNB.refl _, Below.refl _ _⟩
  case round =>
    obtain ⟨m, hm, rfl, rfl, hR, hK, hB⟩ := hrel
    have hx4 := hK.out _ _ _ _ HX3.out (by decide)
    have p1 : wr.cell? ⟨w.heap.size, 1, none⟩ = some (.slice a1 n1 c1) := cell_of_block hx4 1
    by_cases hlt : m < n1
    · have hkl : 0 < L.length := by rw [HLL.out]; omega
      have hx0 : L.getD 0 slc0 = (a1, n1, c1) := by rw [HL.out]; rfl
      have hrk := hR.out 0 hkl
      have hxl : n1 = (G0 0).length := by have := HLEN.out 0 hkl; rw [hx0] at this; exact this
      rw [hx0] at hrk
      simp only [if_true] at hrk
      rw [fillI_len, ← hxl] at hrk
      unfold slV at hrk
      simp only at hrk
      obtain ⟨g, rfl⟩ : ∃ g, a1 = some ⟨g, 0, none⟩ := by
        rcases hrk.2 with ⟨_, h2⟩ | ⟨g, cap, cur, h2, _⟩
        · omega
        · cases h2; exact ⟨g, rfl⟩
      obtain ⟨_, cur, hcur⟩ := row_here hrk
      have hby := (row_sees_slice hrk).2.byte m hlt
      rw [fillI_at _ _ _ _ (by rw [← hxl]; exact hlt), Nat.zero_add] at hby
      have hge : W1.heap.size ≤ g := by
        rcases hrk.2 with ⟨_, h2⟩ | ⟨g', cap, cur, h2, h3, _⟩
        · omega
        · cases h2; exact h3
      obtain ⟨u, hu⟩ : ∃ u, u = (G0 0).getD m 0 := ⟨_, rfl⟩
      obtain ⟨un, hun⟩ : ∃ un, un = u.toNat := ⟨_, rfl⟩
      have hlg : m < (G0 0).length := by rw [← hxl]; exact hlt
      have hns := nextX_step 0 (G0 0) m hlg
      obtain ⟨P, hP⟩ : ∃ P, P = nextX 0 ((G0 0).take m) := ⟨_, rfl⟩
      have hPle : P ≤ 1048576 := by
        have h1 := nextX_le ((G0 0).take m) 0
        rw [List.length_take] at h1
        omega
      have hset := fun (v : UInt8) (G' : Nat → List UInt8) => RowsL.setAt (G' := G') hR.out HAP.out hkl hx0 m v
      have HX0 := Lib.hid hx0
      have HKL := Lib.hid hkl
      rw [← hu, ← hun] at hby
      rw [← hu, ← hP] at hns
      rw [← hP]
      have HU := Lib.hid hu
      have HUN := Lib.hid hun
      have HP := Lib.hid hP
      have HNS := Lib.hid hns
      have HSET := Lib.hid hset
      have HCUR := Lib.hid hcur
      have HGE := Lib.hid hge
      have HLG := Lib.hid hlg
      have HXL := Lib.hid hxl
      have HX4 := Lib.hid hx4
      have HPL := Lib.hid hPle
      have W1' : IntKind.i64.wrap ((m : Int) + 1) = (m : Int) + 1 := IntWalk.i64_in _ (by omega)
      have W2' : IntKind.i64.wrap ((P : Int) + 1) = (P : Int) + 1 := IntWalk.i64_in _ (by omega)
      have hI1 : ((m : Nat) : Int) < (n1 : Int) := by omega
      clear hrk hcur hset hu hun hge hlg hkl hx0 hxl hns hP hPle hx4
      by_cases h2 : un = 2
      · have e2 : ((un : Int) == 2) = true := by simp; omega
        have f1 := unfrozen_of_block HCUR.out m
        have HN2 : Hid (nextX 0 ((G0 0).take (m + 1)) = P + 1) := by show _ = _; rw [HNS.out]; unfold nextU; rw [← HUN.out, if_pos h2]
        have HF2 : Hid (fillU bits P ((G0 0).getD m 0) = bitU bits P) := by show _ = _; unfold fillU; rw [← HU.out, ← HUN.out, if_pos h2]
        clear h2
        go_upto_region 8 with fail
        generalize hW : World.setCell wr _ _ = W4
        have hR4 : RowsL W4 W1.heap.size L (fun j => if j = 0 then (fillI bits 0 (G0 0) m).set m 0 else G0 j) := by
          subst hW
          exact HSET.out 0 _ (by simp) (fun j hj => by simp [hj])
        have hK4 : KeptNB W3 W4 := by subst hW; exact hK.out.set HCUR.out
        have hB4 : Below W1.heap.size W3 W4 := by subst hW; exact hB.out.setCell (p := ⟨g, m, none⟩) HGE.out _
        have hc4 : W4.heap[g]? = some (.cells (cur.setIfInBounds m (.int .u8 0)) 5 (0, 0)) := by subst hW; exact block_setCell HCUR.out _
        have hd4 : W4.cell? ⟨g, m, none⟩ = some (.int .u8 0) := by
          subst hW; exact World.cell?_setCell_same' _ _ _ (by rw [hby]; rfl)
        have hx5 := hK4 _ _ _ _ HX3.out (by decide)
        have s1 : W4.cell? ⟨w.heap.size, 1, none⟩ = some (.slice (some ⟨g, 0, none⟩) n1 c1) := cell_of_block hx5 1
        have f4 := unfrozen_of_block hc4 m
        have hb34 : Below w.heap.size w W4 := HB3.out.trans (hB4.mono HW1.out.1)
        have HSB := Lib.hid (HBITS.out.below hb34)
        have HR4 := Lib.hid hR4
        have HK4 := Lib.hid hK4
        have HB4 := Lib.hid hB4
        have HC4 := Lib.hid hc4
        clear hW hR4 hK4 hB4 hc4 hx5 hb34 p1 hby f1 hK hB hR HCUR HSET HX4
        have hend : ∀ (v : UInt8) (W5 : World), bitU bits P = v → (W5 = W4 ∧ v = 0 ∨ W5 = W4.setCell ⟨g, m, none⟩ (bv v)) → RowsL W5 W1.heap.size L (fun j => if j = 0 then fillI bits 0 (G0 0) (m + 1) else G0 j) ∧ KeptNB W3 W5 ∧ Below W1.heap.size W3 W5 := fun v W5 hv hW5 => by
          have hst : fillI bits 0 (G0 0) (m + 1) = (fillI bits 0 (G0 0) m).set m v := by rw [fillI_step _ _ _ _ HLG.out, ← HP.out, HF2.out, hv]
          rcases hW5 with ⟨rfl, rfl⟩ | rfl
          · exact ⟨HR4.out.congr (fun j _ => by by_cases e : j = 0 <;> simp [e, hst]), HK4.out, HB4.out⟩
          · refine ⟨RowsL.setAt HR4.out HAP.out HKL.out HX0.out m v ?_ (fun j hj => by simp [hj]), HK4.out.set HC4.out, HB4.out.setCell (p := ⟨g, m, none⟩) HGE.out _⟩
            simp [hst, List.set_set]
        have HEND := Lib.hid hend
        clear hend
        by_cases hpb : P < bn
        · have e3 : decide ((P : Int) < (bn : Int)) = true := by simp; omega
          obtain ⟨qb, qo, rfl, _⟩ := HSB.out.addr (show 0 < bn by omega)
          obtain ⟨b, hbb⟩ : ∃ b, b = bits.getD P false := ⟨_, rfl⟩
          have hcb : W4.cell? ⟨qb, qo + P, none⟩ = some (.bool b) := by
            have h2 := (HSB.out.cell P hpb).2
            rw [h2, hbb]
            simp [bbv, List.getD, List.getElem?_eq_getElem (show P < bits.length by rw [HBL.out]; exact hpb)]
          have hpi : (P : Int) < (bn : Int) := by omega
          have HBB : Hid (bitU bits P = if b = true then 1 else 0) := by show _ = _; rw [hbb]; rfl
          clear hbb hpb
          cases b with
          | true =>
            go_wp2
            go_roundw
            case rel =>
              obtain ⟨h1, h2, h3⟩ := HEND.out 1 _ (by rw [HBB.out]; rfl) (.inr rfl)
              exact ⟨m + 1, by omega, by go_num, by rw [HN2.out]; go_num, h1, h2, h3⟩
            case measure => simp [intOf]; omega
          | false =>
            go_wp2
            go_roundw
            case rel =>
              obtain ⟨h1, h2, h3⟩ := HEND.out 0 _ (by rw [HBB.out]; rfl) (.inl ⟨rfl, rfl⟩)
              exact ⟨m + 1, by omega, by go_num, by rw [HN2.out]; go_num, h1, h2, h3⟩
            case measure => simp [intOf]; omega
        · have e3 : decide ((P : Int) < (bn : Int)) = false := by simp; omega
          have HBB : Hid (bitU bits P = 0) := by show _ = _; unfold bitU; simp [List.getD, List.getElem?_eq_none (show bits.length ≤ P by rw [HBL.out]; omega)]
          have hpn : ¬ (P : Int) < (bn : Int) := by omega
          have hpn2 : (bn : Int) ≤ (P : Int) := by omega
          go_wp2
          go_roundw
          case rel =>
            obtain ⟨h1, h2, h3⟩ := HEND.out 0 _ HBB.out (.inl ⟨rfl, rfl⟩)
            exact ⟨m + 1, by omega, by go_num, by rw [HN2.out]; go_num, h1, h2, h3⟩
          case measure => simp [intOf]; omega
      · have e2 : ((un : Int) == 2) = false := by simp; omega
        have HN2 : Hid (nextX 0 ((G0 0).take (m + 1)) = P) := by show _ = _; rw [HNS.out]; unfold nextU; rw [← HUN.out, if_neg h2]
        have HK2 : Hid (fillI bits 0 (G0 0) (m + 1) = fillI bits 0 (G0 0) m) := fillI_keep _ _ _ _ HLG.out (by rw [← HU.out, ← HUN.out]; exact h2)
        clear h2
        go_wp2
        go_roundw
        case rel =>
          exact ⟨m + 1, by omega, by go_num, by rw [HN2.out], hR.out.congr (fun j _ => by by_cases e : j = 0 <;> simp [e, HK2.out]), hK.out, hB.out⟩
        case measure => simp [intOf]; omega
    · obtain rfl : n1 = m := by omega
      have hxl : n1 = (G0 0).length := by have := HLEN.out 0 (by rw [HLL.out]; omega); rw [HL.out] at this; exact this
      rw [hxl, List.take_of_length_le (Nat.le_refl _)]
      have hR1 : RowsL wr W1.heap.size L (GG bits G0 1 (G0 1)) := hR.out.congr (fun j _ => by
        rw [GG_next]
        unfold GG
        by_cases e : j = 0
        · subst e; simp only [Nat.lt_irrefl, if_false, if_true]; rw [hxl, fillI_all]; rfl
        · simp only [e, if_false, Nat.not_lt_zero])
      have HR1 := Lib.hid hR1
      have HKW := Lib.hid hK.out
      have HBW := Lib.hid hB.out
      have hsp : nextX 0 (G0 0) = startP G0 1 := rfl
      rw [hsp]
      have p2 : wr.cell? ⟨w.heap.size, 2, none⟩ = some (.slice a2 n2 c2) := cell_of_block hx4 2
      clear hxl hR1 hR hK hB hsp hlt hm hx4 p1
      go_wp2_with fail
      clear p2
      go_loopw [47, 7, 8, 5] (fun i _ _ v wr2 => ∃ k : Nat, k ≤ n2 ∧ i = .int .i64 k ∧ v = .int .i64 (startP G0 (k + 1) : Nat) ∧ Hid (RowsL wr2 W1.heap.size L (GG bits G0 (k + 1) (G0 (k + 1)))) ∧ Hid (KeptNB W3 wr2) ∧ Hid (Below W1.heap.size W3 wr2)) (fun i _ _ _ _ => n2 - (intOf i).toNat)
      case atStart => exact ⟨0, Nat.zero_le _, rfl, rfl, HR1.out, HKW.out, HBW.out⟩
      case round =>
        clear HR1 HKW HBW
        obtain ⟨k, hk, rfl, rfl, hR, hK, hB⟩ := hrel
        have hx4 := hK.out _ _ _ _ HX3.out (by decide)
        have p0 : wr.cell? ⟨w.heap.size, 0, none⟩ = some (.int .i64 bad) := cell_of_block hx4 0
        have p1 : wr.cell? ⟨w.heap.size, 1, none⟩ = some (.slice a1 n1 c1) := cell_of_block hx4 1
        have p2 : wr.cell? ⟨w.heap.size, 2, none⟩ = some (.slice a2 n2 c2) := cell_of_block hx4 2
        by_cases hlt : k < n2
        · clear p0 p1
          obtain ⟨fb, fo, rfl, _⟩ := (owns_sees_slice HROW.out).2.addr (by omega)
          obtain ⟨x, hx⟩ : ∃ x : Slc, x = ss.getD k slc0 := ⟨_, rfl⟩
          have hxk : L.getD (k + 1) slc0 = x := by rw [HL.out, List.getD_cons_succ, hx]
          have hfc : ∀ W : World, KeptNB W3 W → W.cell? ⟨fb, fo + k, none⟩ = some (slV x) := fun W hW => by
            have h1 := (owns_sees_slice (hW.owns HROW.out (by decide))).2
            rw [(h1.cell k hlt).2, List.getElem?_map, List.getElem?_eq_getElem (show k < ss.length by rw [HQ.out.2.2]; exact hlt), hx]
            simp [List.getD, List.getElem?_eq_getElem (show k < ss.length by rw [HQ.out.2.2]; exact hlt)]
          obtain ⟨xa, xn, xc⟩ := x
          unfold slV at hfc
          simp only at hfc
          have hxs : xn ≤ 1048576 := by
            have h1 := HLEN.out (k + 1) (by rw [HLL.out]; omega)
            have h2 := HMAX.out (k + 1) (by rw [HLL.out]; omega)
            rw [hxk] at h1
            simp only at h1
            omega
          have HFC := Lib.hid hfc
          have HXK := Lib.hid hxk
          have HKN := Lib.hid hlt
          have q2 := hfc wr hK.out
          obtain ⟨S, hS⟩ : ∃ S, S = startP G0 (k + 1) := ⟨_, rfl⟩
          have HS := Lib.hid hS
          have hsn : startP G0 (k + 1 + 1) = nextX S (G0 (k + 1)) := by rw [hS]; rfl
          have HSN := Lib.hid hsn
          rw [← hS]
          have HR0 : Hid (RowsL wr W1.heap.size L (GG bits G0 (k + 1) (fillI bits S (G0 (k + 1)) 0))) := hR.out.congr (fun j _ => by rw [fillI_zero])
          have HK0 := Lib.hid hK.out
          have HB0 := Lib.hid hB.out
          have W3' : IntKind.i64.wrap ((k : Int) + 1) = (k : Int) + 1 := IntWalk.i64_in _ (by omega)
          have hI9 : ((k : Nat) : Int) < (n2 : Int) := by omega
          clear hx hxk hfc hS hsn hx4 hR hK hB
          go_wp2_with fail
          clear p2 q2
          go_loopw [56, 8, 5] (fun i _ v wr2 => ∃ m : Nat, m ≤ xn ∧ i = .int .i64 m ∧ v = .int .i64 (nextX S ((G0 (k + 1)).take m) : Nat) ∧ Hid (RowsL wr2 W1.heap.size L (GG bits G0 (k + 1) (fillI bits S (G0 (k + 1)) m))) ∧ Hid (KeptNB W3 wr2) ∧ Hid (Below W1.heap.size W3 wr2)) (fun i _ _ _ => xn - (intOf i).toNat)
          case atStart => exact ⟨0, Nat.zero_le _, rfl, rfl, HR0.out, HK0.out, HB0.out⟩
          case round =>
            clear HR0 HK0 HB0
            obtain ⟨m, hm, rfl, rfl, hR, hK, hB⟩ := hrel
            have hx4 := hK.out _ _ _ _ HX3.out (by decide)
            have p1 : wr.cell? ⟨w.heap.size, 2, none⟩ = some (.slice (some ⟨fb, fo, none⟩) n2 c2) := cell_of_block hx4 2
            have p2 := HFC.out wr hK.out
            by_cases hlt2 : m < xn
            · have hkl : k + 1 < L.length := by rw [HLL.out]; have := HKN.out; omega
              have hx0 : L.getD (k + 1) slc0 = (xa, xn, xc) := HXK.out
              have hrk := hR.out (k + 1) hkl
              have hxl : xn = (G0 (k + 1)).length := by have := HLEN.out (k + 1) hkl; rw [hx0] at this; exact this
              rw [hx0] at hrk
              rw [GG_self] at hrk
              rw [fillI_len, ← hxl] at hrk
              unfold slV at hrk
              simp only at hrk
              obtain ⟨g, rfl⟩ : ∃ g, xa = some ⟨g, 0, none⟩ := by
                rcases hrk.2 with ⟨_, h2⟩ | ⟨g, cap, cur, h2, _⟩
                · omega
                · cases h2; exact ⟨g, rfl⟩
              obtain ⟨_, cur, hcur⟩ := row_here hrk
              have hby := (row_sees_slice hrk).2.byte m hlt2
              rw [fillI_at _ _ _ _ (by rw [← hxl]; exact hlt2), Nat.zero_add] at hby
              have hge : W1.heap.size ≤ g := by
                rcases hrk.2 with ⟨_, h2⟩ | ⟨g', cap, cur, h2, h3, _⟩
                · omega
                · cases h2; exact h3
              obtain ⟨u, hu⟩ : ∃ u, u = (G0 (k + 1)).getD m 0 := ⟨_, rfl⟩
              obtain ⟨un, hun⟩ : ∃ un, un = u.toNat := ⟨_, rfl⟩
              have hlg : m < (G0 (k + 1)).length := by rw [← hxl]; exact hlt2
              have hns := nextX_step S (G0 (k + 1)) m hlg
              obtain ⟨P, hP⟩ : ∃ P, P = nextX S ((G0 (k + 1)).take m) := ⟨_, rfl⟩
              have hPle : P ≤ 1048577 * 1048577 + 1048577 := by
                have h0 := HSP.out (k + 1) (by have := HKN.out; omega)
                rw [← HS.out] at h0
                have hkn := HKN.out
                have h1 := nextX_le ((G0 (k + 1)).take m) S
                rw [List.length_take] at h1
                omega
              have hset := fun (v : UInt8) (G' : Nat → List UInt8) => RowsL.setAt (G' := G') hR.out HAP.out hkl hx0 m v
              have HX0 := Lib.hid hx0
              have HKL := Lib.hid hkl
              rw [← hu, ← hun] at hby
              rw [← hu, ← hP] at hns
              rw [← hP]
              have HU := Lib.hid hu
              have HUN := Lib.hid hun
              have HP := Lib.hid hP
              have HNS := Lib.hid hns
              have HSET := Lib.hid hset
              have HCUR := Lib.hid hcur
              have HGE := Lib.hid hge
              have HLG := Lib.hid hlg
              have HXL := Lib.hid hxl
              have HX4 := Lib.hid hx4
              have HPL := Lib.hid hPle
              have hI2 : ((k : Nat) : Int) < (n2 : Int) := by have := HKN.out; omega
              have W1' : IntKind.i64.wrap ((m : Int) + 1) = (m : Int) + 1 := IntWalk.i64_in _ (by omega)
              have W2' : IntKind.i64.wrap ((P : Int) + 1) = (P : Int) + 1 := IntWalk.i64_in _ (by omega)
              have hI1 : ((m : Nat) : Int) < (xn : Int) := by omega
              clear hrk hcur hset hu hun hge hlg hkl hx0 hxl hns hP hPle hx4
              by_cases h2 : un = 2
              · have e2 : ((un : Int) == 2) = true := by simp; omega
                have f1 := unfrozen_of_block HCUR.out m
                have HN2 : Hid (nextX S ((G0 (k + 1)).take (m + 1)) = P + 1) := by show _ = _; rw [HNS.out]; unfold nextU; rw [← HUN.out, if_pos h2]
                have HF2 : Hid (fillU bits P ((G0 (k + 1)).getD m 0) = bitU bits P) := by show _ = _; unfold fillU; rw [← HU.out, ← HUN.out, if_pos h2]
                clear h2
                go_upto_region 20 with fail
                generalize hW : World.setCell wr _ _ = W4
                have hR4 : RowsL W4 W1.heap.size L (GG bits G0 (k + 1) ((fillI bits S (G0 (k + 1)) m).set m 0)) := by
                  subst hW
                  exact HSET.out 0 _ (by rw [GG_self, GG_self]) (fun j hj => GG_ne _ _ _ _ _ _ hj)
                have hK4 : KeptNB W3 W4 := by subst hW; exact hK.out.set HCUR.out
                have hB4 : Below W1.heap.size W3 W4 := by subst hW; exact hB.out.setCell (p := ⟨g, m, none⟩) HGE.out _
                have hc4 : W4.heap[g]? = some (.cells (cur.setIfInBounds m (.int .u8 0)) 5 (0, 0)) := by subst hW; exact block_setCell HCUR.out _
                have hd4 : W4.cell? ⟨g, m, none⟩ = some (.int .u8 0) := by
                  subst hW; exact World.cell?_setCell_same' _ _ _ (by rw [hby]; rfl)
                have hx5 := hK4 _ _ _ _ HX3.out (by decide)
                have s1 : W4.cell? ⟨w.heap.size, 2, none⟩ = some (.slice (some ⟨fb, fo, none⟩) n2 c2) := cell_of_block hx5 2
                have s2 : W4.cell? ⟨fb, fo + k, none⟩ = some (.slice (some ⟨g, 0, none⟩) xn xc) := HFC.out W4 hK4
                have f4 := unfrozen_of_block hc4 m
                have hb34 : Below w.heap.size w W4 := HB3.out.trans (hB4.mono HW1.out.1)
                have HSB := Lib.hid (HBITS.out.below hb34)
                have HR4 := Lib.hid hR4
                have HK4 := Lib.hid hK4
                have HB4 := Lib.hid hB4
                have HC4 := Lib.hid hc4
                clear hW hR4 hK4 hB4 hc4 hx5 hb34 p1 p2 hby f1 hK hB hR HCUR HSET HX4
                have hend : ∀ (v : UInt8) (W5 : World), bitU bits P = v → (W5 = W4 ∧ v = 0 ∨ W5 = W4.setCell ⟨g, m, none⟩ (bv v)) → RowsL W5 W1.heap.size L (GG bits G0 (k + 1) (fillI bits S (G0 (k + 1)) (m + 1))) ∧ KeptNB W3 W5 ∧ Below W1.heap.size W3 W5 := fun v W5 hv hW5 => by
                  have hst : fillI bits S (G0 (k + 1)) (m + 1) = (fillI bits S (G0 (k + 1)) m).set m v := by rw [fillI_step _ _ _ _ HLG.out, ← HP.out, HF2.out, hv]
                  rcases hW5 with ⟨rfl, rfl⟩ | rfl
                  · exact ⟨HR4.out.congr (fun j _ => by rw [hst]), HK4.out, HB4.out⟩
                  · refine ⟨RowsL.setAt HR4.out HAP.out HKL.out HX0.out m v ?_ (fun j hj => GG_ne _ _ _ _ _ _ hj), HK4.out.set HC4.out, HB4.out.setCell (p := ⟨g, m, none⟩) HGE.out _⟩
                    rw [GG_self, GG_self, hst, List.set_set]
                have HEND := Lib.hid hend
                clear hend
                by_cases hpb : P < bn
                · have e3 : decide ((P : Int) < (bn : Int)) = true := by simp; omega
                  obtain ⟨qb, qo, rfl, _⟩ := HSB.out.addr (show 0 < bn by omega)
                  obtain ⟨b, hbb⟩ : ∃ b, b = bits.getD P false := ⟨_, rfl⟩
                  have hcb : W4.cell? ⟨qb, qo + P, none⟩ = some (.bool b) := by
                    have h2 := (HSB.out.cell P hpb).2
                    rw [h2, hbb]
                    simp [bbv, List.getD, List.getElem?_eq_getElem (show P < bits.length by rw [HBL.out]; exact hpb)]
                  have hpi : (P : Int) < (bn : Int) := by omega
                  have HBB : Hid (bitU bits P = if b = true then 1 else 0) := by show _ = _; rw [hbb]; rfl
                  clear hbb hpb
                  cases b with
                  | true =>
                    go_wp2
                    go_roundw
                    case rel =>
                      obtain ⟨h1, h2, h3⟩ := HEND.out 1 _ (by rw [HBB.out]; rfl) (.inr rfl)
                      exact ⟨m + 1, by omega, by go_num, by rw [HN2.out]; go_num, h1, h2, h3⟩
                    case measure => simp [intOf]; omega
                  | false =>
                    go_wp2
                    go_roundw
                    case rel =>
                      obtain ⟨h1, h2, h3⟩ := HEND.out 0 _ (by rw [HBB.out]; rfl) (.inl ⟨rfl, rfl⟩)
                      exact ⟨m + 1, by omega, by go_num, by rw [HN2.out]; go_num, h1, h2, h3⟩
                    case measure => simp [intOf]; omega
                · have e3 : decide ((P : Int) < (bn : Int)) = false := by simp; omega
                  have HBB : Hid (bitU bits P = 0) := by show _ = _; unfold bitU; simp [List.getD, List.getElem?_eq_none (show bits.length ≤ P by rw [HBL.out]; omega)]
                  have hpn : ¬ (P : Int) < (bn : Int) := by omega
                  have hpn2 : (bn : Int) ≤ (P : Int) := by omega
                  go_wp2
                  go_roundw
                  case rel =>
                    obtain ⟨h1, h2, h3⟩ := HEND.out 0 _ HBB.out (.inl ⟨rfl, rfl⟩)
                    exact ⟨m + 1, by omega, by go_num, by rw [HN2.out]; go_num, h1, h2, h3⟩
                  case measure => simp [intOf]; omega
              · have e2 : ((un : Int) == 2) = false := by simp; omega
                have HN2 : Hid (nextX S ((G0 (k + 1)).take (m + 1)) = P) := by show _ = _; rw [HNS.out]; unfold nextU; rw [← HUN.out, if_neg h2]
                have HK2 : Hid (fillI bits S (G0 (k + 1)) (m + 1) = fillI bits S (G0 (k + 1)) m) := fillI_keep _ _ _ _ HLG.out (by rw [← HU.out, ← HUN.out]; exact h2)
                clear h2
                go_wp2
                go_roundw
                case rel =>
                  exact ⟨m + 1, by omega, by go_num, by rw [HN2.out], hR.out.congr (fun j _ => by rw [HK2.out]), hK.out, hB.out⟩
                case measure => simp [intOf]; omega
            · obtain rfl : xn = m := by omega
              have hxl : xn = (G0 (k + 1)).length := by have := HLEN.out (k + 1) (by rw [HLL.out]; have := HKN.out; omega); rw [HXK.out] at this; exact this
              have hsn2 : nextX S ((G0 (k + 1)).take xn) = startP G0 (k + 1 + 1) := by rw [hxl, List.take_of_length_le (Nat.le_refl _), HSN.out]
              rw [hsn2]
              have HR2 : Hid (RowsL wr W1.heap.size L (GG bits G0 (k + 1 + 1) (G0 (k + 1 + 1)))) := hR.out.congr (fun j _ => by rw [GG_next, hxl, fillI_all, HS.out])
              clear hxl hsn2 hR hlt2 hm hx4 p1 p2
              go_wp2
              go_roundw
              case rel => exact ⟨k + 1, by have := HKN.out; omega, by go_num, rfl, HR2.out, hK.out, hB.out⟩
              case measure => have := HKN.out; simp [intOf]; omega
        · obtain rfl : n2 = k := by omega
          have hr4 := hK.out _ _ _ _ HR3.out (by decide)
          have z0 := cell_of_block hr4 0
          have z1 := cell_of_block hr4 1
          have z2 := cell_of_block hr4 2
          have y0 := unfrozen_of_block hr4 0
          have y1 := unfrozen_of_block hr4 1
          have y2 := unfrozen_of_block hr4 2
          have HR4 := Lib.hid hr4
          clear hx4 hr4 hlt hk
          go_wp2
          refine bodyPost_ret (v := traceV bad ⟨a1, n1, c1, a2, n2, c2, ss⟩) ?_ rfl ?_
          · have h6 := tri_set_t HR4.out rfl (.int .i64 bad) (.slice a1 n1 c1) (.slice a2 n2 c2)
            have g0 := cell_of_block h6 0
            have g1 := cell_of_block h6 1
            have g2 := cell_of_block h6 2
            simp [results, Try.results28, go_sem, g0, g1, g2]
            rfl
          · have hG : ∀ j, j ≤ n2 → GG bits G0 (n2 + 1) (G0 (n2 + 1)) j = fillL bits (startP G0 j) (G0 j) := fun j hj => by unfold GG; rw [if_pos (by omega)]
            have hle := HW1.out
            have hbw : Below w.heap.size w wr := HB3.out.trans (hB.out.mono hle.1)
            have hfn : t.frames.length = n2 := HQ.out.2.1.symm
            refine ⟨⟨a1, n1, c1, a2, n2, c2, ss⟩, rfl, OwnT3.set3 (OwnT3.base_le ⟨?_, ?_, ?_, fun j hj => ?_, by have := HAP.out; rw [HL.out] at this; exact this⟩ hle.1) HR4.out, HSM.out, set3_t (w.heap.size + 1) (Nat.le_succ _) hbw⟩
            · have h4 := hR.out 0 (by rw [HLL.out]; omega)
              rw [HL.out, hG 0 (Nat.zero_le _), HG0.out] at h4
              exact h4
            · simp only [fillT, List.length_map, List.length_range]; rw [hfn]; exact hK.out.owns HROW.out (by decide)
            · simp only [fillT, List.length_map, List.length_range]; rw [hfn]; exact HQ.out.2.2
            · simp only [fillT, List.length_map, List.length_range] at hj
              have h4 := hR.out (j + 1) (by rw [HLL.out]; omega)
              rw [HL.out, hG (j + 1) (by omega), HG0.out] at h4
              simp only [List.getD_cons_succ] at h4
              have h5 : (fillT bits t).frames.getD j [] = fillL bits (startP (listsOf t) (j + 1)) (listsOf t (j + 1)) := by
                simp only [fillT, List.getD]
                rw [List.getElem?_map, List.getElem?_range hj]
                rfl
              rw [h5]
              exact h4
end Go.Proofs.Ytjmdgbdlhaaefaa
/- The law's great, and its own examples. -/
namespace Go.Proofs.Ytjmdgbdlhaaefaa
open Go Go.RowKit Go.Joins

theorem sees_cells {w : World} {g : Nat} {C : Array Value} {t : TypeId} {fr : Nat × Nat} (h : w.heap[g]? = some (.cells C t fr)) (xs : List Value) (n : Nat) (hC : C = xs.toArray) (hn : xs.length = n) : Sees w (some ⟨g, 0, none⟩) n n xs := by
  subst hC
  refine ⟨hn, Nat.le_refl _, (fun e => by cases e), fun _ => ⟨g, 0, rfl, heap_lt h, fun j hj => ?_⟩⟩
  rw [cell_of_block h]
  simp
def great7 (c : NormC) (t : TraceC) : Bool := decide (2000 < c.ins) || (decide (300 < c.lats.length) || (decide (300 < c.gates.length) || (decide (300 < c.cons.length) || decide (300 < t.frames.length))))
set_option maxRecDepth 100000 in
set_option maxHeartbeats 3200000 in
theorem great7_any (c : NormC) (t : TraceC) (s : CSlots) (st : TSlots) (w : World) (h : SeesCir w s c) (ht : SeesTr w st t) :
    Calls Try.prog 6 #[cirV c.ins s, traceV t.bad st] w fun e w' => e = .returned (.bool (great7 c t)) ∧ Below w.heap.size w w' := by
  obtain ⟨a1, n1, c1, a2, n2, c2, a3, n3, c3, a4, n4, c4, a5, n5, c5⟩ := s
  obtain ⟨b1, m1, d1, b2, m2, d2, ss⟩ := st
  have l1 : c.lats.length = n1 := h.s1.1
  have l2 : c.gates.length = n2 := h.s2.1
  have l5 : c.cons.length = n5 := h.s5.lenMap
  have l6 : t.frames.length = m2 := ht.s2.n_eq
  obtain ⟨z, hz⟩ : ∃ z, z = c.ins := ⟨_, rfl⟩
  obtain ⟨y, hy⟩ : ∃ y, y = t.bad := ⟨_, rfl⟩
  have HE : Hid (great7 c t = (decide (2000 < z) || (decide (300 < n1) || (decide (300 < n2) || (decide (300 < n5) || decide (300 < m2)))))) := by
    show _ = _; unfold great7; rw [l1, l2, l5, l6, ← hz]
  rw [← hz, ← hy]
  clear l1 l2 l5 l6 hz hy h ht
  unfold cirV traceV
  go_enter Try.func6, Try.ntmps6
  go_upto_region 1 with fail
  generalize hW : World.alloc (World.alloc w _) _ = W1
  have hb : Below w.heap.size w W1 := by subst hW; exact ext_trans (ext_alloc _ _) (ext_alloc _ _)
  have hx : W1.heap[w.heap.size]? = some (.cells #[.int .i64 z, .slice a1 n1 c1, .slice a2 n2 c2, .slice a3 n3 c3, .slice a4 n4 c4, .slice a5 n5 c5] 26 (0, 0)) := by subst hW; exact heap_below (heap_new _ _ _ rfl) (ext_alloc _ _)
  have ht : W1.heap[w.heap.size + 1]? = some (.cells #[.int .i64 y, .slice b1 m1 d1, .slice b2 m2 d2] 30 (0, 0)) := by subst hW; exact heap_new _ _ _ (by simp)
  have HB := Lib.hid hb
  have p0 := cell_of_block hx 0
  have p1 := cell_of_block hx 1
  have p2 := cell_of_block hx 2
  have p5 := cell_of_block hx 5
  have r2 := cell_of_block ht 2
  clear hW hb hx ht
  by_cases t1 : 2000 < z
  · have e1 : decide ((2000 : Int) < z) = true := by simpa using t1
    have HF : Hid (great7 c t = true) := by show _ = _; rw [HE.out, e1]; rfl
    go_wp2
    go_ret
    exact ⟨by rw [HF.out]; rfl, HB.out⟩
  have e1 : decide ((2000 : Int) < z) = false := by simpa using t1
  by_cases t2 : 300 < n1
  · have e2 : decide ((300 : Int) < (n1 : Int)) = true := by simp; omega
    have HF : Hid (great7 c t = true) := by show _ = _; rw [HE.out, decide_eq_true t2]; simp
    go_wp2
    go_ret
    exact ⟨by rw [HF.out]; rfl, HB.out⟩
  have e2 : decide ((300 : Int) < (n1 : Int)) = false := by simp; omega
  by_cases t3 : 300 < n2
  · have e3 : decide ((300 : Int) < (n2 : Int)) = true := by simp; omega
    have HF : Hid (great7 c t = true) := by show _ = _; rw [HE.out, decide_eq_true t3]; simp
    go_wp2
    go_ret
    exact ⟨by rw [HF.out]; rfl, HB.out⟩
  have e3 : decide ((300 : Int) < (n2 : Int)) = false := by simp; omega
  by_cases t4 : 300 < n5
  · have e4 : decide ((300 : Int) < (n5 : Int)) = true := by simp; omega
    have HF : Hid (great7 c t = true) := by show _ = _; rw [HE.out, decide_eq_true t4]; simp
    go_wp2
    go_ret
    exact ⟨by rw [HF.out]; rfl, HB.out⟩
  have e4 : decide ((300 : Int) < (n5 : Int)) = false := by simp; omega
  have e5 : decide ((300 : Int) < (m2 : Int)) = decide (300 < m2) := decide_eq_decide.2 (by omega)
  have HF : Hid (great7 c t = decide (300 < m2)) := by show _ = _; rw [HE.out, e1, decide_eq_false t2, decide_eq_false t3, decide_eq_false t4]; rfl
  obtain ⟨q, hq⟩ : ∃ q, q = decide (300 < m2) := ⟨_, rfl⟩
  rw [← hq] at e5 HF
  clear hq
  go_wp2
  go_ret
  exact ⟨by rw [HF.out]; rfl, HB.out⟩

/-- The circuit of the examples. -/
def oneC : NormC := ⟨1, [(2, 2)], [], [], [4], []⟩
def trC (a b c : UInt8) : TraceC := ⟨0, [a], [[b], [c]]⟩

set_option maxRecDepth 100000 in
theorem one_any (w : World) : Calls Try.prog 30 #[] w fun e w' => ∃ s : CSlots, e = .returned (cirV oneC.ins s) ∧ SeesCir w' s oneC ∧ s.small ∧ Below w.heap.size w w' := by
  go_enter Try.func30, Try.ntmps30
  go_wp2
  generalize hW : World.alloc (World.alloc (World.alloc w _) _) _ = W1
  have hb : Below w.heap.size w W1 := by subst hW; exact ext_trans (ext_alloc _ _) (ext_trans (ext_alloc _ _) (ext_alloc _ _))
  have h0 : W1.heap[w.heap.size]? = some (.cells #[.int .i64 1, .slice (some ⟨w.heap.size + 1, 0, none⟩) 1 1, .slice none 0 0, .slice none 0 0, .slice (some ⟨w.heap.size + 1 + 1, 0, none⟩) 1 1, .slice none 0 0] 26 (0, 0)) := by subst hW; exact heap_below (heap_below (heap_new _ _ _ rfl) (ext_alloc _ _)) (ext_alloc _ _)
  have h1 : W1.heap[w.heap.size + 1]? = some (.cells #[.int .u32 2, .int .u8 2] 75 (0, 0)) := by subst hW; exact heap_below (heap_new _ _ _ (by simp)) (ext_alloc _ _)
  have h2 : W1.heap[w.heap.size + 1 + 1]? = some (.cells #[.int .u32 4] 31 (0, 0)) := by subst hW; exact heap_new _ _ _ (by simp)
  clear hW
  obtain ⟨s, hs⟩ : ∃ s : CSlots, s = ⟨some ⟨w.heap.size + 1, 0, none⟩, 1, 1, none, 0, 0, none, 0, 0, some ⟨w.heap.size + 1 + 1, 0, none⟩, 1, 1, none, 0, 0⟩ := ⟨_, rfl⟩
  refine bodyPost_ret (v := cirV 1 s) ?_ rfl ?_
  · have g0 := cell_of_block h0 0
    have g1 := cell_of_block h0 1
    have g2 := cell_of_block h0 2
    have g3 := cell_of_block h0 3
    have g4 := cell_of_block h0 4
    have g5 := cell_of_block h0 5
    subst hs
    simp [results, Try.results30, go_sem, g0, g1, g2, g3, g4, g5]
    rfl
  · subst hs
    refine ⟨_, rfl, ⟨⟨rfl, Nat.le_refl _, ?_⟩, Sees2.nil _ _, Sees.nil _ _ _ (fun _ => rfl), ?_, Sees.nil _ _ _ (fun _ => rfl)⟩, ⟨by show (1 : Nat) ≤ 1048576; omega, Nat.zero_le _, Nat.zero_le _, by show (1 : Nat) ≤ 1048576; omega, Nat.zero_le _⟩, hb⟩
    · exact sees_cells h1 [.int .u32 2, .int .u8 2] 2 rfl rfl
    · exact sees_cells h2 [.int .u32 4] 1 rfl rfl

set_option maxRecDepth 100000 in
theorem trace_any (a b c : UInt8) (w : World) : Calls Try.prog 31 #[bv a, bv b, bv c] w fun e w' => ∃ s : TSlots, e = .returned (traceV 0 s) ∧ SeesTr w' s (trC a b c) ∧ s.small ∧ Below w.heap.size w w' := by
  unfold bv
  obtain ⟨x, hx⟩ : ∃ x, x = a.toNat := ⟨_, rfl⟩
  obtain ⟨y, hy⟩ : ∃ x, x = b.toNat := ⟨_, rfl⟩
  obtain ⟨z, hz⟩ : ∃ x, x = c.toNat := ⟨_, rfl⟩
  rw [← hx, ← hy, ← hz]
  have HX := Lib.hid (And.intro hx (And.intro hy hz))
  clear hx hy hz
  go_enter Try.func31, Try.ntmps31
  go_wp2
  generalize hW : World.alloc (World.alloc (World.alloc (World.alloc (World.alloc w _) _) _) _) _ = W1
  have hb : Below w.heap.size w W1 := by subst hW; exact ext_trans (ext_alloc _ _) (ext_trans (ext_alloc _ _) (ext_trans (ext_alloc _ _) (ext_trans (ext_alloc _ _) (ext_alloc _ _))))
  have h0 : W1.heap[w.heap.size]? = some (.cells #[.int .i64 0, .slice (some ⟨w.heap.size + 1, 0, none⟩) 1 1, .slice (some ⟨w.heap.size + 1 + 1 + 1 + 1, 0, none⟩) 2 2] 30 (0, 0)) := by subst hW; exact heap_below (heap_below (heap_below (heap_below (heap_new _ _ _ rfl) (ext_alloc _ _)) (ext_alloc _ _)) (ext_alloc _ _)) (ext_alloc _ _)
  have h1 : W1.heap[w.heap.size + 1]? = some (.cells #[.int .u8 (x : Int)] 5 (0, 0)) := by subst hW; exact heap_below (heap_below (heap_below (heap_new _ _ _ (by simp)) (ext_alloc _ _)) (ext_alloc _ _)) (ext_alloc _ _)
  have h2 : W1.heap[w.heap.size + 1 + 1]? = some (.cells #[.int .u8 (y : Int)] 5 (0, 0)) := by subst hW; exact heap_below (heap_below (heap_new _ _ _ (by simp)) (ext_alloc _ _)) (ext_alloc _ _)
  have h3 : W1.heap[w.heap.size + 1 + 1 + 1]? = some (.cells #[.int .u8 (z : Int)] 5 (0, 0)) := by subst hW; exact heap_below (heap_new _ _ _ (by simp)) (ext_alloc _ _)
  have h4 : W1.heap[w.heap.size + 1 + 1 + 1 + 1]? = some (.cells #[.slice (some ⟨w.heap.size + 1 + 1, 0, none⟩) 1 1, .slice (some ⟨w.heap.size + 1 + 1 + 1, 0, none⟩) 1 1] 27 (0, 0)) := by subst hW; exact heap_new _ _ _ (by simp)
  clear hW
  obtain ⟨s, hs⟩ : ∃ s : TSlots, s = ⟨some ⟨w.heap.size + 1, 0, none⟩, 1, 1, some ⟨w.heap.size + 1 + 1 + 1 + 1, 0, none⟩, 2, 2, [(some ⟨w.heap.size + 1 + 1, 0, none⟩, 1, 1), (some ⟨w.heap.size + 1 + 1 + 1, 0, none⟩, 1, 1)]⟩ := ⟨_, rfl⟩
  refine bodyPost_ret (v := traceV 0 s) ?_ rfl ?_
  · have g0 := cell_of_block h0 0
    have g1 := cell_of_block h0 1
    have g2 := cell_of_block h0 2
    subst hs
    simp [results, Try.results31, go_sem, g0, g1, g2]
    rfl
  · subst hs
    obtain ⟨hx, hy, hz⟩ := HX.out
    refine ⟨_, rfl, ⟨sees_cells h1 [bv a] 1 (by rw [hx]; rfl) rfl, ⟨sees_cells h4 _ 2 rfl rfl, rfl, fun k hk => ?_⟩⟩, ⟨by show (1 : Nat) ≤ 1048576; omega, by show (2 : Nat) ≤ 1048576; omega, fun v hv => ?_⟩, hb⟩
    · match k, hk with
      | 0, _ => exact sees_cells h2 [bv b] 1 (by rw [hy]; rfl) rfl
      | 1, _ => exact sees_cells h3 [bv c] 1 (by rw [hz]; rfl) rfl
      | k + 2, h => exact absurd h (by simp [trC])
    · simp only [List.mem_cons, List.not_mem_nil, or_false] at hv
      rcases hv with rfl | rfl <;> (show (1 : Nat) ≤ 1048576; omega)

theorem ex_fits : fitsS oneC (trC 0 1 2) = true := by kernel_rfl
theorem ex_v0 : varsAt oneC (trC 0 1 2) 0 = [0, 1, 0] := by kernel_rfl
theorem ex_v1 : varsAt oneC (trC 0 1 2) 1 = [0, 2, 1] := by kernel_rfl
theorem ex_f : failsE oneC (trC 0 1 2) = .returned (.tuple #[.bool true, .int .i64 0]) := by
  unfold failsE; rw [if_pos (by kernel_rfl)]; rfl
theorem ex_s1 : surelyE oneC (trC 0 1 2) = .returned (.tuple #[.int .u8 1, .int .i64 0]) := by
  unfold surelyE; rw [if_pos (by kernel_rfl)]; rfl
theorem ex_s2 : surelyE oneC (trC 2 0 0) = .returned (.tuple #[.int .u8 0, .int .i64 0]) := by
  unfold surelyE; rw [if_pos (by kernel_rfl)]; rfl
theorem ex_s3 : surelyE oneC (trC 2 2 2) = .returned (.tuple #[.int .u8 2, .int .i64 0]) := by
  unfold surelyE; rw [if_pos (by kernel_rfl)]; rfl
end Go.Proofs.Ytjmdgbdlhaaefaa
/- inquestref00.Bytes, by its contract. -/
namespace Go.Proofs.Ytjmdgbdlhaaefaa
open Go Go.RowKit

set_option maxRecDepth 100000 in
set_option maxHeartbeats 400000 in
theorem bytes_any (bs cs : List UInt8) (a a' : Option Addr) (n c n' c' : Nat) (w : World) (h : Sees w a n c (bs.map bv)) (h' : Sees w a' n' c' (cs.map bv)) :
    Calls Try.prog 11 #[.slice a n c, .slice a' n' c'] w fun e w' => e = .returned (.bool (bs == cs)) ∧ w = w' := by
  have q1 := h.str (P := Try.prog) 27 5 9 Try.underlying27 Try.underlying5 Try.underlying9
  have q2 := h'.str (P := Try.prog) 27 5 9 Try.underlying27 Try.underlying5 Try.underlying9
  clear h h'
  go_enter Try.func11, Try.ntmps11
  go_wp2
  go_ret
  exact ⟨by simp [str], rfl⟩
end Go.Proofs.Ytjmdgbdlhaaefaa
/- inquestref00.Tables, inquestref03.SameTrace: are two traces the same? -/
namespace Go.Proofs.Ytjmdgbdlhaaefaa
open Go Go.RowKit Go.Joins

theorem info_tab : (Try.prog.info? 27).map (fun i => (i.zero, i.size, i.bytes)) = some (some (.slice none 0 0), 1, 24) := by kernel_rfl
theorem size_tab : ∀ w, (sizeOf 27).run Try.prog w = .ok 1 w := fun w => by
  obtain ⟨i0, hi, hz0, hz1, hz2⟩ := info_parts info_tab
  simp [sizeOf, typeInfo, hi, hz1]
theorem Sees.slice_at {w : World} {b off n c : Nat} {ss : List Slc} (h : Sees w (some ⟨b, off, .none⟩) n c (ss.map slV)) (j : Nat) (hj : j < n) :
    w.cell? ⟨b, off + j, .none⟩ = some (.slice (ss.getD j slc0).1 (ss.getD j slc0).2.1 (ss.getD j slc0).2.2) := by
  have hl : ss.length = n := h.lenMap
  rw [(h.cell j hj).2]
  simp [slV, List.getD, List.getElem?_eq_getElem (show j < ss.length by omega)]
theorem bytes_at (bs cs : List UInt8) (a a' : Option Addr) (n c n' c' : Nat) (w : World) (h : Sees w a n c (bs.map bv)) (h' : Sees w a' n' c' (cs.map bv)) :
    Calls Try.prog 11 #[.slice a n c, .slice a' n' c'] w fun e w' => e = .returned (.bool (decide (bs = cs))) ∧ w' = w := by
  refine (bytes_any bs cs a a' n c n' c' w h h').mono fun e w' hp => ?_
  obtain ⟨h1, rfl⟩ := hp
  exact ⟨by rw [show decide (bs = cs) = (bs == cs) by by_cases e : bs = cs <;> simp [e]]; exact h1, rfl⟩

/-- Where k lines have been held against each other. -/
structure TabI (w : World) (ss ss' : List Slc) (fs gs : List (List UInt8)) (n k : Nat) (a1 : Option Addr) (c1 : Nat) (a2 : Option Addr) (c2 : Nat) (wr : World) : Prop where
  s1 : Sees wr a1 (n - k) c1 ((ss.drop k).map slV)
  s2 : Sees wr a2 (n - k) c2 ((ss'.drop k).map slV)
  eq : ∀ j, j < k → fs.getD j [] = gs.getD j []
  bel : Below w.heap.size w wr
def slenT : Value → Nat | .slice _ m _ => m | _ => 0

set_option maxRecDepth 100000 in
set_option maxHeartbeats 1600000 in
theorem tables_any (fs gs : List (List UInt8)) (ss ss' : List Slc) (a a' : Option Addr) (n c n' c' : Nat) (w : World) (h : SeesF w a n c ss fs) (h' : SeesF w a' n' c' ss' gs) (hn : n ≤ 1048576) :
    Calls Try.prog 16 #[.slice a n c, .slice a' n' c'] w fun e w' => e = .returned (.bool (decide (fs = gs))) ∧ Below w.heap.size w w' := by
  have hl := h.n_eq
  have hl' := h'.n_eq
  obtain ⟨q, hq⟩ : ∃ q, q = decide (fs = gs) := ⟨_, rfl⟩
  have NO : fs ≠ gs → q = false := fun h => by rw [hq]; simpa using h
  rw [← hq]
  by_cases hne : n = n'
  · subst hne
    have YES : (∀ j, j < n → fs.getD j [] = gs.getD j []) → q = true := fun h => by
      rw [hq, decide_eq_true_eq]
      apply List.ext_getElem (by omega)
      intro i h1 h2
      have := h i (by omega)
      simpa [List.getD, List.getElem?_eq_getElem h1, List.getElem?_eq_getElem h2] using this
    have H := Lib.hid h
    have H' := Lib.hid h'
    have HL := Lib.hid hl
    have HL' := Lib.hid hl'
    have HNO := Lib.hid NO
    have HYES := Lib.hid YES
    clear h h' hl hl' NO YES hq
    go_enter Try.func16, Try.ntmps16
    go_wp2
    go_loopw [0, 1] (fun a b wr => ∃ (k : Nat) (a1 : Option Addr) (c1 : Nat) (a2 : Option Addr) (c2 : Nat), k ≤ n ∧ a = .slice a1 (n - k) c1 ∧ b = .slice a2 (n - k) c2 ∧ Hid (TabI w ss ss' fs gs n k a1 c1 a2 c2 wr))
      (fun a _ _ => slenT a)
    case atStart => exact ⟨0, _, _, _, _, Nat.zero_le _, rfl, rfl, ⟨H.out.row, H'.out.row, fun j hj => absurd hj (by omega), Below.refl _ _⟩⟩
    case round =>
      obtain ⟨k, a1, c1, a2, c2, hk, rfl, rfl, hI⟩ := hrel
      obtain ⟨s1, s2, heq, hbel⟩ := hI.out
      clear hI
      by_cases hlt : k < n
      · obtain ⟨b1, o1, rfl, _⟩ := s1.addr (by omega)
        obtain ⟨b2, o2, rfl, _⟩ := s2.addr (by omega)
        obtain ⟨x, hx⟩ : ∃ x : Slc, x = ss.getD k slc0 := ⟨_, rfl⟩
        obtain ⟨y, hy⟩ : ∃ y : Slc, y = ss'.getD k slc0 := ⟨_, rfl⟩
        have hsx := (H.out.below hbel).each k (by rw [HL.out]; exact hlt)
        have hsy := (H'.out.below hbel).each k (by rw [HL'.out]; exact hlt)
        rw [← hx] at hsx
        rw [← hy] at hsy
        have hc1 : wr.cell? ⟨b1, o1, none⟩ = some (.slice x.1 x.2.1 x.2.2) := by
          have := s1.slice_at 0 (by omega)
          rw [hx, ← show (ss.drop k).getD 0 slc0 = ss.getD k slc0 by simp [List.getD]]
          exact this
        have hc2 : wr.cell? ⟨b2, o2, none⟩ = some (.slice y.1 y.2.1 y.2.2) := by
          have := s2.slice_at 0 (by omega)
          rw [hy, ← show (ss'.drop k).getD 0 slc0 = ss'.getD k slc0 by simp [List.getD]]
          exact this
        obtain ⟨xa, xn, xc⟩ := x
        obtain ⟨ya, yn, yc⟩ := y
        simp only at hsx hsy hc1 hc2
        obtain ⟨p, hp⟩ : ∃ p, p = decide (fs.getD k [] = gs.getD k []) := ⟨_, rfl⟩
        have HCALL : Hid (∀ m, Calls Try.prog 11 #[.slice xa xn xc, .slice ya yn yc] (wr.drewN m) fun e w' => e = .returned (.bool p) ∧ w' = wr.drewN m) := fun m => by
          rw [hp]
          exact bytes_at _ _ xa ya xn xc yn yc (wr.drewN m) (hsx.below (ext_drewN wr m)) (hsy.below (ext_drewN wr m))
        obtain ⟨a3, ec3, see3⟩ := s1.cut 1 (n - k) (by omega) (Nat.le_refl _)
        obtain ⟨a4, ec4, see4⟩ := s2.cut 1 (n - k) (by omega) (Nat.le_refl _)
        have q1 := fun W => (run_from (P := Try.prog) Try.underlying28 size_tab W (some ⟨b1, o1, none⟩) (n - k) c1 1 1 rfl (by omega)).trans (congrArg (fun v => Result.ok v W) ec3)
        have q2 := fun W => (run_from (P := Try.prog) Try.underlying28 size_tab W (some ⟨b2, o2, none⟩) (n - k) c2 1 1 rfl (by omega)).trans (congrArg (fun v => Result.ok v W) ec4)
        have S3 : Hid (Sees wr a3 (n - (k + 1)) (c1 - 1) ((ss.drop (k + 1)).map slV)) := by
          have e : (List.map slV (ss.drop k)).take (n - k) = List.map slV (ss.drop k) := List.take_of_length_le (by rw [s1.len]; exact Nat.le_refl _)
          rw [e, ← List.map_drop, List.drop_drop] at see3
          exact see3
        have S4 : Hid (Sees wr a4 (n - (k + 1)) (c2 - 1) ((ss'.drop (k + 1)).map slV)) := by
          have e : (List.map slV (ss'.drop k)).take (n - k) = List.map slV (ss'.drop k) := List.take_of_length_le (by rw [s2.len]; exact Nat.le_refl _)
          rw [e, ← List.map_drop, List.drop_drop] at see4
          exact see4
        have HP := Lib.hid hp
        have HBL := Lib.hid hbel
        have HEQ := Lib.hid heq
        have hpos : (0 : Int) < ((n - k : Nat) : Int) := by omega
        clear ec3 ec4 see3 see4 hx hy hp heq s1 s2 hsx hsy hbel
        cases p with
        | true =>
          go_wp2
          go_quiet ((go_at_call 11; exact Calls.quiet_of_same (HCALL.out _)))
          go_wp2
          go_quiet (fail)
          go_wp2
          go_roundw
          case rel =>
            refine ⟨k + 1, _, _, _, _, by omega, rfl, rfl, ⟨S3.out.below (ext_trans (ext_drewN _ _) (ext_drewN _ _)), S4.out.below (ext_trans (ext_drewN _ _) (ext_drewN _ _)), fun j hj => ?_, ext_trans HBL.out (ext_trans (ext_drewN _ _) (ext_drewN _ _))⟩⟩
            rcases Nat.lt_or_ge j k with h | h
            · exact HEQ.out j h
            · have : j = k := by omega
              subst this
              exact of_decide_eq_true HP.out.symm
          case measure => simp [slenT]; omega
        | false =>
          have HF : Hid (q = false) := HNO.out fun e => by
            have := HP.out
            rw [e] at this
            simp at this
          go_wp2
          go_quiet ((go_at_call 11; exact Calls.quiet_of_same (HCALL.out _)))
          go_wp2
          go_ret
          exact ⟨by rw [HF.out]; rfl, ext_trans HBL.out (ext_drewN _ _)⟩
      · have hkn : k = n := by omega
        subst hkn
        have HT : Hid (q = true) := HYES.out heq
        have HBL := Lib.hid hbel
        clear heq s1 s2 hbel
        go_wp2
        go_ret
        exact ⟨by rw [HT.out]; rfl, HBL.out⟩
  · have hb : ((n : Int) != (n' : Int)) = true := by simp; omega
    have hb' : ((n : Int) == (n' : Int)) = false := by simp; omega
    have HF : Hid (q = false) := NO fun e => hne (by rw [← hl, ← hl', e])
    clear h h' hl hl' NO hq hne
    go_enter Try.func16, Try.ntmps16
    go_wp2
    go_ret
    exact ⟨by rw [HF.out]; rfl, Below.refl _ _⟩

set_option maxRecDepth 100000 in
set_option maxHeartbeats 1600000 in
theorem sametr_any (t u : TraceC) (s s' : TSlots) (w : World) (h : SeesTr w s t) (h' : SeesTr w s' u) (hs : s.small) (hb1 : -9223372036854775808 ≤ t.bad ∧ t.bad < 9223372036854775808) (hb2 : -9223372036854775808 ≤ u.bad ∧ u.bad < 9223372036854775808) :
    Calls Try.prog 17 #[traceV t.bad s, traceV u.bad s'] w fun e w' => e = .returned (.bool (decide (t = u))) ∧ Below w.heap.size w w' := by
  obtain ⟨a1, n1, c1, a2, n2, c2, ss⟩ := s
  obtain ⟨a1', n1', c1', a2', n2', c2', ss'⟩ := s'
  obtain ⟨z, init, fs⟩ := t
  obtain ⟨z', init', fs'⟩ := u
  have hn2 := hs.n2
  simp only at hn2 hb1 hb2
  obtain ⟨q, hq⟩ : ∃ q, q = decide ((⟨z, init, fs⟩ : TraceC) = ⟨z', init', fs'⟩) := ⟨_, rfl⟩
  have hiff : q = (decide (z = z') && (decide (init = init') && decide (fs = fs'))) := by
    rw [hq]
    by_cases e1 : z = z' <;> by_cases e2 : init = init' <;> by_cases e3 : fs = fs' <;> simp [e1, e2, e3]
  rw [← hq]
  have EB : Hid (∀ W, Below w.heap.size w W → Calls Try.prog 11 #[.slice a1 n1 c1, .slice a1' n1' c1'] W fun e w' => e = .returned (.bool (decide (init = init'))) ∧ w' = W) := fun W hb => bytes_at _ _ a1 a1' n1 c1 n1' c1' W (h.s1.below hb) (h'.s1.below hb)
  have ET : Hid (∀ W, Below w.heap.size w W → Calls Try.prog 16 #[.slice a2 n2 c2, .slice a2' n2' c2'] W fun e w' => e = .returned (.bool (decide (fs = fs'))) ∧ Below W.heap.size W w') := fun W hb => tables_any fs fs' ss ss' a2 a2' n2 c2 n2' c2' W (h.s2.below hb) (h'.s2.below hb) hn2
  obtain ⟨q2, hq2⟩ : ∃ q, q = decide (init = init') := ⟨_, rfl⟩
  obtain ⟨q3, hq3⟩ : ∃ q, q = decide (fs = fs') := ⟨_, rfl⟩
  rw [← hq2] at EB hiff
  rw [← hq3] at ET hiff
  have HI := Lib.hid hiff
  clear hq hq2 hq3 hiff h h' hs
  unfold traceV
  by_cases h0 : z = z'
  case neg =>
    have e0 : (z == z') = false := by simpa using h0
    have HF : Hid (q = false) := by show _ = _; rw [HI.out]; simp [h0]
    clear h0
    go_enter Try.func17, Try.ntmps17
    go_wp2
    go_ret
    exact ⟨by rw [HF.out]; rfl, ext_trans (ext_alloc _ _) (ext_alloc _ _)⟩
  subst h0
  have HQ : Hid (q = (q2 && q3)) := by show _ = _; rw [HI.out]; simp
  clear HI
  go_enter Try.func17, Try.ntmps17
  go_wp2_with fail
  refine (EB.out _ (ext_trans (ext_alloc _ _) (ext_alloc _ _))).mono ?_
  rintro e W1 ⟨rfl, rfl⟩
  cases q2 with
  | false =>
    go_wp2
    go_ret
    exact ⟨by rw [HQ.out]; rfl, ext_trans (ext_alloc _ _) (ext_alloc _ _)⟩
  | true =>
    go_wp2_with fail
    refine (ET.out _ (ext_trans (ext_alloc _ _) (ext_alloc _ _))).mono ?_
    rintro e W2 ⟨rfl, hb⟩
    have HB := Lib.hid (ext_trans (ext_trans (ext_alloc _ _) (ext_alloc _ _)) hb)
    clear hb
    go_wp2
    go_ret
    exact ⟨by rw [HQ.out]; simp, HB.out⟩
end Go.Proofs.Ytjmdgbdlhaaefaa
/- The law's own examples hold. -/
namespace Go.Proofs.Ytjmdgbdlhaaefaa
open Go Go.RowKit Go.Joins

set_option maxRecDepth 100000 in
set_option maxHeartbeats 6400000 in
theorem lives7_any (w : World) : Calls Try.prog 7 #[] w fun e w' => e = .returned (.bool true) ∧ Below w.heap.size w w' := by
  have HONE : Hid (∀ W, Calls Try.prog 30 #[] W fun e w' => ∃ s : CSlots, e = .returned (.agg #[.int .i64 1, .slice s.a1 s.n1 s.c1, .slice s.a2 s.n2 s.c2, .slice s.a3 s.n3 s.c3, .slice s.a4 s.n4 s.c4, .slice s.a5 s.n5 s.c5]) ∧ SeesCir w' s oneC ∧ s.small ∧ Below W.heap.size W w') := one_any
  have T1 : Hid (∀ W, Calls Try.prog 31 #[.int .u8 0, .int .u8 1, .int .u8 2] W fun e w' => ∃ s : TSlots, e = .returned (.agg #[.int .i64 0, .slice s.a1 s.n1 s.c1, .slice s.a2 s.n2 s.c2]) ∧ SeesTr w' s (trC 0 1 2) ∧ s.small ∧ Below W.heap.size W w') := trace_any 0 1 2
  have T2 : Hid (∀ W, Calls Try.prog 31 #[.int .u8 2, .int .u8 0, .int .u8 0] W fun e w' => ∃ s : TSlots, e = .returned (.agg #[.int .i64 0, .slice s.a1 s.n1 s.c1, .slice s.a2 s.n2 s.c2]) ∧ SeesTr w' s (trC 2 0 0) ∧ s.small ∧ Below W.heap.size W w') := trace_any 2 0 0
  have T3 : Hid (∀ W, Calls Try.prog 31 #[.int .u8 2, .int .u8 2, .int .u8 2] W fun e w' => ∃ s : TSlots, e = .returned (.agg #[.int .i64 0, .slice s.a1 s.n1 s.c1, .slice s.a2 s.n2 s.c2]) ∧ SeesTr w' s (trC 2 2 2) ∧ s.small ∧ Below W.heap.size W w') := trace_any 2 2 2
  go_enter Try.func7, Try.ntmps7
  go_wp2_with fail
  refine (HONE.out _).mono ?_
  rintro e X0 ⟨s0, rfl, hs0, hm0, bx0⟩
  go_wp2_with fail
  refine (T1.out _).mono ?_
  rintro e Y0 ⟨t0, rfl, ht0, hn0, by0⟩
  have HC0 := Lib.hid (hs0.below by0)
  have HT0 := Lib.hid ht0
  have HM0 := Lib.hid (And.intro hm0 hn0)
  skip
  have BY0 : Hid (Below w.heap.size w Y0) := ext_trans bx0 by0
  clear hs0 hm0 bx0 ht0 hn0 by0
  go_wp2_with fail
  refine (run_any2 oneC (trC 0 1 2) s0 t0 _ HC0.out HT0.out HM0.out.1 HM0.out.2 (by decide) (by decide) (by decide)).mono ?_
  rintro e Z0 ⟨h1, _, bz0⟩
  obtain ⟨v, ss, rfl, hl, ho, hr⟩ := h1 ex_fits
  obtain ⟨va, vc, rfl⟩ := ownsN_form ho
  have HR := Lib.hid (And.intro hl (And.intro ho hr))
  have BZ0 := Lib.hid (ext_trans BY0.out bz0)
  have CZ0 : Hid (Below Z0.heap.size Z0 Z0) := Below.refl _ _
  have HL2 : Hid ((trC 0 1 2).frames.length = 2) := rfl
  clear h1 hl ho hr bz0
  rw [HL2.out]
  go_wp2_with fail
  refine (HONE.out _).mono ?_
  rintro e X1 ⟨s1, rfl, hs1, hm1, bx1⟩
  go_wp2_with fail
  refine (T1.out _).mono ?_
  rintro e Y1 ⟨t1, rfl, ht1, hn1, by1⟩
  have HC1 := Lib.hid (hs1.below by1)
  have HT1 := Lib.hid ht1
  have HM1 := Lib.hid (And.intro hm1 hn1)
  have CY1 := Lib.hid (ext_trans CZ0.out (ext_trans bx1 by1))
  have BY1 : Hid (Below w.heap.size w Y1) := ext_trans BZ0.out (ext_trans bx1 by1)
  clear hs1 hm1 bx1 ht1 hn1 by1
  go_wp2_with fail
  refine (fails_any oneC (trC 0 1 2) s1 t1 _ HC1.out HT1.out HM1.out.1 HM1.out.2 (by decide) (by decide) (by decide)).mono ?_
  rintro e Z1 ⟨rfl, bz1⟩
  rw [ex_f]
  have BZ1 := Lib.hid (ext_trans BY1.out bz1)
  have CZ1 := Lib.hid (ext_trans CY1.out bz1)
  clear bz1
  go_wp2_with fail
  refine (HONE.out _).mono ?_
  rintro e X2 ⟨s2, rfl, hs2, hm2, bx2⟩
  go_wp2_with fail
  refine (T1.out _).mono ?_
  rintro e Y2 ⟨t2, rfl, ht2, hn2, by2⟩
  have HC2 := Lib.hid (hs2.below by2)
  have HT2 := Lib.hid ht2
  have HM2 := Lib.hid (And.intro hm2 hn2)
  have CY2 := Lib.hid (ext_trans CZ1.out (ext_trans bx2 by2))
  have BY2 : Hid (Below w.heap.size w Y2) := ext_trans BZ1.out (ext_trans bx2 by2)
  clear hs2 hm2 bx2 ht2 hn2 by2
  go_wp2_with fail
  refine (surely_any oneC (trC 0 1 2) s2 t2 _ HC2.out HT2.out HM2.out.1 HM2.out.2 (by decide) (by decide) (by decide)).mono ?_
  rintro e Z2 ⟨rfl, bz2⟩
  rw [ex_s1]
  have BZ2 := Lib.hid (ext_trans BY2.out bz2)
  have CZ2 := Lib.hid (ext_trans CY2.out bz2)
  clear bz2
  go_wp2_with fail
  refine (HONE.out _).mono ?_
  rintro e X3 ⟨s3, rfl, hs3, hm3, bx3⟩
  go_wp2_with fail
  refine (T2.out _).mono ?_
  rintro e Y3 ⟨t3, rfl, ht3, hn3, by3⟩
  have HC3 := Lib.hid (hs3.below by3)
  have HT3 := Lib.hid ht3
  have HM3 := Lib.hid (And.intro hm3 hn3)
  have CY3 := Lib.hid (ext_trans CZ2.out (ext_trans bx3 by3))
  have BY3 : Hid (Below w.heap.size w Y3) := ext_trans BZ2.out (ext_trans bx3 by3)
  clear hs3 hm3 bx3 ht3 hn3 by3
  go_wp2_with fail
  refine (surely_any oneC (trC 2 0 0) s3 t3 _ HC3.out HT3.out HM3.out.1 HM3.out.2 (by decide) (by decide) (by decide)).mono ?_
  rintro e Z3 ⟨rfl, bz3⟩
  rw [ex_s2]
  have BZ3 := Lib.hid (ext_trans BY3.out bz3)
  have CZ3 := Lib.hid (ext_trans CY3.out bz3)
  clear bz3
  go_wp2_with fail
  refine (HONE.out _).mono ?_
  rintro e X4 ⟨s4, rfl, hs4, hm4, bx4⟩
  go_wp2_with fail
  refine (T3.out _).mono ?_
  rintro e Y4 ⟨t4, rfl, ht4, hn4, by4⟩
  have HC4 := Lib.hid (hs4.below by4)
  have HT4 := Lib.hid ht4
  have HM4 := Lib.hid (And.intro hm4 hn4)
  have CY4 := Lib.hid (ext_trans CZ3.out (ext_trans bx4 by4))
  have BY4 : Hid (Below w.heap.size w Y4) := ext_trans BZ3.out (ext_trans bx4 by4)
  clear hs4 hm4 bx4 ht4 hn4 by4
  go_wp2_with fail
  refine (surely_any oneC (trC 2 2 2) s4 t4 _ HC4.out HT4.out HM4.out.1 HM4.out.2 (by decide) (by decide) (by decide)).mono ?_
  rintro e Z4 ⟨rfl, bz4⟩
  rw [ex_s3]
  have BZ4 := Lib.hid (ext_trans BY4.out bz4)
  have CZ4 := Lib.hid (ext_trans CY4.out bz4)
  clear bz4
  clear HONE T1 T2 T3
  go_wp2_with fail
  generalize hW : World.alloc (World.alloc (World.alloc Z4 _) _) _ = W1
  have hb : Below Z4.heap.size Z4 W1 := by subst hW; exact ext_trans (ext_alloc _ _) (ext_trans (ext_alloc _ _) (ext_alloc _ _))
  have h1 : W1.heap[Z4.heap.size]? = some (.cells #[.int .u8 0, .int .u8 1, .int .u8 0] 5 (0, 0)) := by subst hW; exact heap_below (heap_below (heap_new _ _ _ rfl) (ext_alloc _ _)) (ext_alloc _ _)
  have h2 : W1.heap[Z4.heap.size + 1]? = some (.cells #[.int .u8 0, .int .u8 2, .int .u8 1] 5 (0, 0)) := by subst hW; exact heap_below (heap_new _ _ _ (by simp)) (ext_alloc _ _)
  have h3 : W1.heap[Z4.heap.size + 1 + 1]? = some (.cells #[.slice (some ⟨Z4.heap.size, 0, none⟩) 3 3, .slice (some ⟨Z4.heap.size + 1, 0, none⟩) 3 3] 27 (0, 0)) := by subst hW; exact heap_new _ _ _ (by simp)
  clear hW
  have hf : SeesF W1 va 2 vc ss [[0, 1, 0], [0, 2, 1]] := by
    have hz := ext_trans CZ4.out hb
    obtain ⟨hl, ho, hr⟩ := HR.out
    refine ⟨(owns_sees_slice ho).2.below hz, hl, fun k hk => ?_⟩
    match k, hk with
    | 0, _ =>
      have h := hr 0 (by rw [HL2.out]; omega)
      rw [ex_v0] at h
      exact (row_sees_slice h).2.below hz
    | 1, _ =>
      have h := hr 1 (by rw [HL2.out]; omega)
      rw [ex_v1] at h
      exact (row_sees_slice h).2.below hz
    | k + 2, h => exact absurd h (by simp)
  have hg : SeesF W1 (some ⟨Z4.heap.size + 1 + 1, 0, none⟩) 2 2 [(some ⟨Z4.heap.size, 0, none⟩, 3, 3), (some ⟨Z4.heap.size + 1, 0, none⟩, 3, 3)] [[0, 1, 0], [0, 2, 1]] := by
    refine ⟨sees_cells h3 _ 2 rfl rfl, rfl, fun k hk => ?_⟩
    match k, hk with
    | 0, _ => exact sees_cells h1 [bv 0, bv 1, bv 0] 3 rfl rfl
    | 1, _ => exact sees_cells h2 [bv 0, bv 2, bv 1] 3 rfl rfl
    | k + 2, h => exact absurd h (by simp)
  have HB := Lib.hid (ext_trans BZ4.out hb)
  refine (tables_any _ _ ss _ va _ 2 vc 2 2 W1 hf hg (by omega)).mono ?_
  rintro e W2 ⟨rfl, hb2⟩
  have HB2 := Lib.hid (ext_trans HB.out hb2)
  clear h1 h2 h3 hf hg hb hb2
  go_wp2
  go_ret
  exact ⟨rfl, HB2.out⟩
end Go.Proofs.Ytjmdgbdlhaaefaa
/- What is known stays so, whatever X are: on plain lists. -/
namespace Go.Proofs.Ytjmdgbdlhaaefaa
open Go Go.RowKit

/-- b is a bit, and a is b unless it is X. -/
def Ref (a b : UInt8) : Prop := (a.toNat = 2 ∨ a = b) ∧ b.toNat ≤ 1
theorem u8_ofNat_toNat (n : Nat) (h : n ≤ 2) : (UInt8.ofNat n).toNat = n := by rw [UInt8.toNat_ofNat', Nat.mod_eq_of_lt (by omega)]
theorem u8_cases (b : UInt8) (h : b.toNat ≤ 1) : b = 0 ∨ b = 1 := by
  rcases (show b.toNat = 0 ∨ b.toNat = 1 by omega) with h | h
  · exact .inl (UInt8.toNat_inj.1 (h.trans rfl))
  · exact .inr (UInt8.toNat_inj.1 (h.trans rfl))
theorem ref_zero : Ref 0 0 := ⟨.inr rfl, by decide⟩
theorem Ref.not {a b : UInt8} (h : Ref a b) : Ref (k1.nt a) (k1.nt b) := by
  rcases u8_cases b h.2 with rfl | rfl
  · rcases h.1 with h1 | rfl
    · refine ⟨.inl ?_, by decide⟩
      show (UInt8.ofNat (not1 a.toNat)).toNat = 2
      rw [h1]; rfl
    · exact ⟨.inr rfl, by decide⟩
  · rcases h.1 with h1 | rfl
    · refine ⟨.inl ?_, by decide⟩
      show (UInt8.ofNat (not1 a.toNat)).toNat = 2
      rw [h1]; rfl
    · exact ⟨.inr rfl, by decide⟩
theorem Ref.and {a b x y : UInt8} (h : Ref a b) (h' : Ref x y) : Ref (k1.an a x) (k1.an b y) := by
  have key : ∀ (p q r s : Nat), (p = 2 ∨ p = q) → q ≤ 1 → (r = 2 ∨ r = s) → s ≤ 1 → (and1 p r = 2 ∨ and1 p r = and1 q s) ∧ and1 q s ≤ 1 := by
    intro p q r s h1 h2 h3 h4
    have hq : q = 0 ∨ q = 1 := by omega
    have hs : s = 0 ∨ s = 1 := by omega
    rcases h1 with rfl | rfl <;> rcases h3 with rfl | rfl <;> rcases hq with rfl | rfl <;> rcases hs with rfl | rfl <;> simp [and1]
  have k := key a.toNat b.toNat x.toNat y.toNat (h.1.imp id (fun e => by rw [e])) h.2 (h'.1.imp id (fun e => by rw [e])) h'.2
  have e1 := u8_ofNat_toNat (and1 a.toNat x.toNat) (and1_le _ _)
  have e2 := u8_ofNat_toNat (and1 b.toNat y.toNat) (and1_le _ _)
  refine ⟨k.1.imp (fun e => e1.trans e) (fun e => ?_), by show (UInt8.ofNat (and1 b.toNat y.toNat)).toNat ≤ 1; rw [e2]; exact k.2⟩
  show UInt8.ofNat (and1 a.toNat x.toNat) = UInt8.ofNat (and1 b.toNat y.toNat)
  rw [e]
def RefL (xs ys : List UInt8) : Prop := xs.length = ys.length ∧ ∀ i, Ref (xs.getD i 0) (ys.getD i 0)
theorem RefL.nil : RefL [] [] := ⟨rfl, fun i => by simpa using ref_zero⟩
theorem RefL.cons {a b : UInt8} {xs ys : List UInt8} (h : Ref a b) (hl : RefL xs ys) : RefL (a :: xs) (b :: ys) := ⟨by simp [hl.1], fun i => by
  cases i with
  | zero => simpa using h
  | succ i => simpa using hl.2 i⟩
theorem RefL.append {xs ys cs ds : List UInt8} (h : RefL xs ys) (h' : RefL cs ds) : RefL (xs ++ cs) (ys ++ ds) := by
  refine ⟨by simp [h.1, h'.1], fun i => ?_⟩
  by_cases e : i < xs.length
  · have e2 : i < ys.length := by rw [← h.1]; exact e
    have := h.2 i
    simpa [List.getD, List.getElem?_append_left e, List.getElem?_append_left e2] using this
  · have e1 : xs.length ≤ i := Nat.le_of_not_lt e
    have e2 : ys.length ≤ i := by rw [← h.1]; exact e1
    have := h'.2 (i - xs.length)
    simp only [List.getD, List.getElem?_append_right e1, List.getElem?_append_right e2] at this ⊢
    rw [← h.1]; exact this
theorem RefL.val {xs ys : List UInt8} (h : RefL xs ys) (lit : Nat) : Ref (k1.val xs lit) (k1.val ys lit) := by
  unfold Kd.val
  split
  · exact (h.2 _).not
  · exact h.2 _
theorem RefL.gates : ∀ (l : List (Nat × Nat)) {xs ys : List UInt8}, RefL xs ys → RefL (k1.gates l xs) (k1.gates l ys)
  | [], _, _, h => h
  | g :: r, xs, ys, h => by
    rw [Kd.gates, Kd.gates]
    exact RefL.gates r (h.append (RefL.cons ((h.val g.1).and (h.val g.2)) RefL.nil))
theorem RefL.vars {c : NormC} {st st' ins ins' : List UInt8} (h : RefL st st') (h' : RefL ins ins') : RefL (k1.vars c st ins) (k1.vars c st' ins') :=
  RefL.gates _ (RefL.cons ref_zero (h'.append h))
theorem RefL.map (f g : Nat × Nat → UInt8) : ∀ (l : List (Nat × Nat)), (∀ p, Ref (f p) (g p)) → RefL (l.map f) (l.map g)
  | [], _ => RefL.nil
  | p :: r, h => RefL.cons (h p) (RefL.map f g r h)
theorem RefL.next {c : NormC} {vs vs' : List UInt8} (h : RefL vs vs') : RefL (k1.next c vs) (k1.next c vs') := RefL.map _ _ _ fun p => h.val p.1
def RefF (fs gs : List (List UInt8)) : Prop := fs.length = gs.length ∧ ∀ i, RefL (fs.getD i []) (gs.getD i [])
theorem RefF.cons {x y : List UInt8} {xs ys : List (List UInt8)} (h : RefL x y) (hl : RefF xs ys) : RefF (x :: xs) (y :: ys) := ⟨by simp [hl.1], fun i => by
  cases i with
  | zero => simpa using h
  | succ i => simpa using hl.2 i⟩
theorem RefF.nil : RefF [] [] := ⟨rfl, fun i => by simpa using RefL.nil⟩
theorem RefF.tail {x y : List UInt8} {xs ys : List (List UInt8)} (h : RefF (x :: xs) (y :: ys)) : RefL x y ∧ RefF xs ys := ⟨by simpa using h.2 0, by simpa using h.1, fun i => by simpa using h.2 (i + 1)⟩
theorem RefF.run (c : NormC) : ∀ {fs gs : List (List UInt8)} {st st' : List UInt8}, RefF fs gs → RefL st st' → RefF (k1.run c st fs) (k1.run c st' gs)
  | [], [], _, _, _, _ => RefF.nil
  | [], _ :: _, _, _, h, _ => by have := h.1; simp at this
  | _ :: _, [], _, _, h, _ => by have := h.1; simp at this
  | f :: fs, g :: gs, st, st', h, hs => by
    obtain ⟨h1, h2⟩ := h.tail
    rw [Kd.run, Kd.run]
    have hv := RefL.vars (c := c) hs h1
    exact RefF.cons hv (RefF.run c h2 hv.next)
theorem ref_cons (vs vs' : List UInt8) (h : RefL vs vs') : ∀ (l : List Nat) {a a' : UInt8}, Ref a a' → Ref (k1.cons vs a l) (k1.cons vs' a' l)
  | [], _, _, ha => ha
  | x :: r, _, _, ha => ref_cons vs vs' h r (ha.and (h.val x))
theorem ref_sum (c : NormC) (bad : Nat) : ∀ {l l' : List (List UInt8)} {p p' : UInt8 × UInt8}, RefF l l' → Ref p.1 p'.1 → Ref p.2 p'.2 → Ref (k1.sum c bad p l).1 (k1.sum c bad p' l').1 ∧ Ref (k1.sum c bad p l).2 (k1.sum c bad p' l').2
  | [], [], _, _, _, h1, h2 => ⟨h1, h2⟩
  | [], _ :: _, _, _, h, _, _ => by have := h.1; simp at this
  | _ :: _, [], _, _, h, _, _ => by have := h.1; simp at this
  | v :: l, v' :: l', p, p', h, h1, h2 => by
    obtain ⟨hv, ht⟩ := h.tail
    exact ref_sum c bad (p := (k1.cons v p.1 c.cons, k1.val v (c.bads.getD bad 0))) (p' := (k1.cons v' p'.1 c.cons, k1.val v' (c.bads.getD bad 0))) ht (ref_cons v v' hv _ h1) (hv.val _)
theorem ref_verdict (c : NormC) (bad : Nat) {st st' : List UInt8} {fs gs : List (List UInt8)} (h : RefL st st') (h' : RefF fs gs) : Ref (k1.verdict c bad st fs) (k1.verdict c bad st' gs) := by
  have hz : Ref (k1.nt k1.z) (k1.nt k1.z) := ref_zero.not
  have hs := ref_sum c bad (p := (k1.nt k1.z, k1.z)) (p' := (k1.nt k1.z, k1.z)) (RefF.run c h' h) hz ref_zero
  exact hs.1.and hs.2
theorem ref_fillU (bits : List Bool) (p : Nat) (u : UInt8) (h : u.toNat ≤ 2) : Ref u (fillU bits p u) := by
  unfold fillU
  split
  · rename_i h2
    refine ⟨.inl h2, ?_⟩
    unfold bitU
    split <;> decide
  · exact ⟨.inr rfl, by omega⟩
theorem ref_fillL (bits : List Bool) : ∀ (l : List UInt8) (p : Nat), (∀ u ∈ l, u.toNat ≤ 2) → RefL l (fillL bits p l)
  | [], _, _ => RefL.nil
  | u :: r, p, h => RefL.cons (ref_fillU bits p u (h u (by simp))) (ref_fillL bits r _ (fun x hx => h x (by simp [hx])))
theorem fillT_frame (bits : List Bool) (t : TraceC) (k : Nat) (hk : k < t.frames.length) : (fillT bits t).frames.getD k [] = fillL bits (startP (listsOf t) (k + 1)) (t.frames.getD k []) := by
  simp only [fillT, List.getD]
  rw [List.getElem?_map, List.getElem?_range hk]
  rfl
theorem fillT_len (bits : List Bool) (t : TraceC) : (fillT bits t).frames.length = t.frames.length := by simp [fillT]
theorem ref_fillT {c : NormC} {t : TraceC} (bits : List Bool) (h : FitsC c t) : RefL t.init (fillT bits t).init ∧ RefF t.frames (fillT bits t).frames := by
  refine ⟨ref_fillL bits _ _ h.inits, (fillT_len bits t).symm, fun i => ?_⟩
  by_cases e : i < t.frames.length
  · rw [fillT_frame bits t i e]
    exact ref_fillL bits _ _ (h.values _ (getD_mem e))
  · have e1 : t.frames.getD i [] = [] := by simp [List.getD, List.getElem?_eq_none (Nat.le_of_not_lt e)]
    have e2 : (fillT bits t).frames.getD i [] = [] := by simp [List.getD, List.getElem?_eq_none (show (fillT bits t).frames.length ≤ i by rw [fillT_len]; exact Nat.le_of_not_lt e)]
    rw [e1, e2]; exact RefL.nil
theorem run_at (c : NormC) : ∀ (fs : List (List UInt8)) (st : List UInt8) (j : Nat), j < fs.length → (k1.run c st fs).getD j [] = k1.vars c (k1.after c st (fs.take j)) (fs.getD j [])
  | [], _, _, h => by simp at h
  | f :: r, st, 0, _ => by rw [Kd.run]; rfl
  | f :: r, st, j + 1, h => by
    rw [Kd.run, List.getD_cons_succ, run_at c r _ j (by simpa using h)]
    rfl
theorem ref_varsAt {c : NormC} {t : TraceC} (bits : List Bool) (h : FitsC c t) (j : Nat) (hj : j < t.frames.length) : RefL (varsAt c t j) (varsAt c (fillT bits t) j) := by
  obtain ⟨h1, h2⟩ := ref_fillT bits h
  have h3 := (RefF.run c h2 h1).2 j
  rw [run_at c _ _ j hj, run_at c _ _ j (by rw [fillT_len]; exact hj)] at h3
  exact h3
theorem ref_le {xs ys : List UInt8} (h : RefL xs ys) : ∀ u ∈ ys, u.toNat ≤ 1 := by
  intro u hu
  obtain ⟨i, hi, he⟩ := List.getElem_of_mem hu
  have := (h.2 i).2
  simpa [List.getD, List.getElem?_eq_getElem hi, he] using this
theorem FitsC.fill {c : NormC} {t : TraceC} (bits : List Bool) (h : FitsC c t) : FitsC c (fillT bits t) := by
  obtain ⟨h1, h2⟩ := ref_fillT bits h
  refine ⟨h.may, h.pos, h.bad, h1.1.symm.trans h.init, fun u hu => by have := ref_le h1 u hu; omega, fun i hi => ?_, by rw [fillT_len]; exact h.one, by rw [fillT_len]; exact h.few, fun k hk => ?_, fun f hf u hu => ?_⟩
  · rcases h.resets i hi with h3 | h3
    · exact .inl h3
    · by_cases e : (c.lats.getD i (0, 0)).2 = 2
      · exact .inl e
      · refine .inr ?_
        rcases (h1.2 i).1 with h4 | h4
        · omega
        · rw [← h4]; exact h3
  · have hk2 : k < t.frames.length := by rw [← fillT_len bits t]; exact hk
    rw [← (h2.2 k).1]; exact h.frames k hk2
  · obtain ⟨i, hi, he⟩ := List.getElem_of_mem hf
    have h3 := ref_le (h2.2 i)
    have h4 : (fillT bits t).frames.getD i [] = f := by simp [List.getD, List.getElem?_eq_getElem hi, he]
    rw [h4] at h3
    have := h3 u hu; omega
theorem zeroL_id (l : List UInt8) (h : ∀ u ∈ l, u.toNat ≤ 1) : zeroL l = l := by
  unfold zeroL
  conv => rhs; rw [← List.map_id l]
  refine List.map_congr_left fun u hu => ?_
  have := h u hu
  unfold zeroU
  rw [if_neg (by omega)]
  rfl
theorem readT_fill {c : NormC} {t : TraceC} (bits : List Bool) (h : FitsC c t) : readT (fillT bits t) = fillT bits t := by
  obtain ⟨h1, h2⟩ := ref_fillT bits h
  have e1 := zeroL_id _ (ref_le h1)
  have e2 : (fillT bits t).frames.map zeroL = (fillT bits t).frames := by
    conv => rhs; rw [← List.map_id (fillT bits t).frames]
    refine List.map_congr_left fun f hf => ?_
    obtain ⟨i, hi, he⟩ := List.getElem_of_mem hf
    have h3 := ref_le (h2.2 i)
    have h4 : (fillT bits t).frames.getD i [] = f := by simp [List.getD, List.getElem?_eq_getElem hi, he]
    rw [h4] at h3
    exact zeroL_id f h3
  unfold readT
  rw [e1, e2]
/-- Whether the filled trace fails, and what was said of it. -/
theorem fill_verdict {c : NormC} {t : TraceC} (bits : List Bool) (h : FitsC c t) (bad : Nat) :
    Ref (k1.verdict c bad t.init t.frames) (k1.verdict c bad (readT (fillT bits t)).init (readT (fillT bits t)).frames) := by
  rw [readT_fill bits h]
  obtain ⟨h1, h2⟩ := ref_fillT bits h
  exact ref_verdict c bad h1 h2
theorem gates_head : ∀ (l : List (Nat × Nat)) (vs : List UInt8), 0 < vs.length → (k1.gates l vs).getD 0 0 = vs.getD 0 0
  | [], _, _ => rfl
  | g :: r, vs, h => by
    rw [Kd.gates, gates_head r _ (by simp), List.getD, List.getElem?_append_left h]; rfl
theorem varsAt_head (c : NormC) (t : TraceC) (j : Nat) : (varsAt c t j).getD 0 0 = 0 := by
  unfold varsAt Kd.vars
  rw [gates_head _ _ (by simp)]
  rfl
end Go.Proofs.Ytjmdgbdlhaaefaa
/- The law SimSure, walked. -/
namespace Go.Proofs.Ytjmdgbdlhaaefaa
open Go Go.RowKit Go.Joins

theorem keep9 {w w' : World} {a0 a1 a2 a3 a4 a5 a6 a7 a8 : Addr} {v0 v1 v2 v3 v4 v5 v6 v7 v8 : Value} (h : w.cell? a0 = some v0 ∧ w.cell? a1 = some v1 ∧ w.cell? a2 = some v2 ∧ w.cell? a3 = some v3 ∧ w.cell? a4 = some v4 ∧ w.cell? a5 = some v5 ∧ w.cell? a6 = some v6 ∧ w.cell? a7 = some v7 ∧ w.cell? a8 = some v8) (hb : Below w.heap.size w w') : w'.cell? a0 = some v0 ∧ w'.cell? a1 = some v1 ∧ w'.cell? a2 = some v2 ∧ w'.cell? a3 = some v3 ∧ w'.cell? a4 = some v4 ∧ w'.cell? a5 = some v5 ∧ w'.cell? a6 = some v6 ∧ w'.cell? a7 = some v7 ∧ w'.cell? a8 = some v8 := by
  obtain ⟨h0, h1, h2, h3, h4, h5, h6, h7, h8⟩ := h
  have one : ∀ {a : Addr} {v : Value}, w.cell? a = some v → w'.cell? a = some v := fun {a v} h => (hb.cell (World.block_lt_of_cell? _ _ h)).trans h
  exact ⟨one h0, one h1, one h2, one h3, one h4, one h5, one h6, one h7, one h8⟩

/-- Rows of one length that a slice of slices reads as. -/
structure RowsB (w : World) (b o n c : Nat) (ss : List Slc) (N : Nat) (F : Nat → List UInt8) : Prop where
  list : Sees w (some ⟨b, o, none⟩) n c (ss.map slV)
  len : ss.length = n
  rows : ∀ j, j < n → ∃ rb ro rc, ss.getD j slc0 = (some ⟨rb, ro, none⟩, N, rc) ∧ Sees w (some ⟨rb, ro, none⟩) N rc ((F j).map bv)
theorem RowsB.below {w w' : World} {b o n c : Nat} {ss : List Slc} {N : Nat} {F : Nat → List UInt8} (h : RowsB w b o n c ss N F) (hb : Below w.heap.size w w') : RowsB w' b o n c ss N F :=
  ⟨h.list.below hb, h.len, fun j hj => by
    obtain ⟨rb, ro, rc, e, hs⟩ := h.rows j hj
    exact ⟨rb, ro, rc, e, hs.below hb⟩⟩
theorem RowsB.at {w : World} {b o n c : Nat} {ss : List Slc} {N : Nat} {F : Nat → List UInt8} (h : RowsB w b o n c ss N F) (k : Nat) (hk : k < n) :
    ∃ rb ro rc, w.cell? ⟨b, o + k, none⟩ = some (.slice (some ⟨rb, ro, none⟩) N rc) ∧ (∀ m, m < N → w.cell? ⟨rb, ro + m, none⟩ = some (.int .u8 (((F k).getD m 0).toNat : Int))) := by
  obtain ⟨rb, ro, rc, e, hs⟩ := h.rows k hk
  refine ⟨rb, ro, rc, ?_, fun m hm => hs.byte m hm⟩
  rw [(h.list.cell k hk).2, List.getElem?_map, List.getElem?_eq_getElem (show k < ss.length by rw [h.len]; exact hk)]
  have : ss[k]'(by rw [h.len]; exact hk) = ss.getD k slc0 := by simp [List.getD, List.getElem?_eq_getElem (show k < ss.length by rw [h.len]; exact hk)]
  rw [this, e]; rfl
theorem runpost_yes {c : NormC} {t : TraceC} {w w' : World} {e : Ending} (hF : FitsC c t) (h : RunPost c t w e w') :
    ∃ b o cc ss, e = .returned (.tuple #[.slice (some ⟨b, o, none⟩) t.frames.length cc, .int .i64 0]) ∧ RowsB w' b o t.frames.length cc ss (1 + varsN c) (varsAt c t) ∧ Below w.heap.size w w' := by
  obtain ⟨h1, _, hb⟩ := h
  obtain ⟨v, ss, e1, hl, ho, hr⟩ := h1 (fits_iff.2 hF)
  obtain ⟨a, cc, rfl, _, hs⟩ := Sees.owned ho
  obtain ⟨b, o, rfl, _⟩ := hs.addr (by have := hF.one; omega)
  refine ⟨b, o, cc, ss, e1, ⟨hs, hl, fun j hj => ?_⟩, hb⟩
  have h2 := hr j hj
  have hlen := varsAt_len c t hF.init hF.frames j hj
  rw [hlen] at h2
  obtain ⟨x, hx⟩ : ∃ x : Slc, x = ss.getD j slc0 := ⟨_, rfl⟩
  rw [← hx] at h2 ⊢
  obtain ⟨xa, xn, xc⟩ := x
  unfold slV at h2
  simp only at h2
  obtain ⟨e2, h3⟩ := row_sees_slice h2
  subst e2
  obtain ⟨rb, ro, e3, _⟩ := h3.addr (by omega)
  subst e3
  exact ⟨rb, ro, xc, rfl, h3⟩

set_option maxRecDepth 100000 in
set_option maxHeartbeats 6400000 in
theorem sure_any (c : NormC) (t : TraceC) (bits : List Bool) (s : CSlots) (st : TSlots) (ba : Option Addr) (bn bc : Nat) (w : World) (h : SeesCir w s c) (ht : SeesTr w st t) (hbits : Sees w ba bn bc (bits.map bbv)) (hs : s.small) (hst : st.small) (hbn : bn ≤ 1048576)
    (hlo : -9223372036854775808 ≤ c.ins) (hhi : c.ins < 9223372036854775808) (hb1 : -9223372036854775808 ≤ t.bad ∧ t.bad < 9223372036854775808) (hw : Wide c) :
    Calls Try.prog 5 #[cirV c.ins s, traceV t.bad st, .slice ba bn bc] w fun e w' => e = .returned (.bool true) ∧ Below w.heap.size w w' := by
  have HGR := Lib.hid (fun W (hb : Below w.heap.size w W) => great7_any c t s st W (h.below hb) (ht.below hb))
  have HSU := Lib.hid (fun W (hb : Below w.heap.size w W) => surely_any c t s st W (h.below hb) (ht.below hb) hs hst hlo hhi hb1)
  have HRF := Lib.hid (fun W (hb : Below w.heap.size w W) => reffits_any c t s st W (h.below hb) (ht.below hb) hs hst hlo hhi hb1 hw)
  have HLV := Lib.hid lives7_any
  have HFL := Lib.hid (fun W (hb : Below w.heap.size w W) => filled_any bits t st ba bn bc W (ht.below hb) hst (hbits.below hb) hbn)
  have HRN := Lib.hid (fun W (hb : Below w.heap.size w W) => run_any2 c t s st W (h.below hb) (ht.below hb) hs hst hlo hhi hb1)
  have HFX := Lib.hid (fun (st' : TSlots) W (hb : Below w.heap.size w W) (ht' : SeesTr W st' (fillT bits t)) (hs' : st'.small) => fails_any c (fillT bits t) s st' W (h.below hb) ht' hs hs' hlo hhi hb1)
  have HRX := Lib.hid (fun (st' : TSlots) W (hb : Below w.heap.size w W) (ht' : SeesTr W st' (fillT bits t)) (hs' : st'.small) => run_any2 c (fillT bits t) s st' W (h.below hb) ht' hs hs' hlo hhi hb1)
  have HVR := Lib.hid (fun W (hb : Below w.heap.size w W) => refvars_any c s W (h.below hb) hs hlo hhi hw)
  have HNF : Hid (t.frames.length = st.n2) := ht.s2.n_eq
  have hfb : (fillT bits t).bad = t.bad := rfl
  rw [hfb] at HFX HRX
  clear hfb
  obtain ⟨q, hq⟩ : ∃ q, q = fitsS c t := ⟨_, rfl⟩
  have HQ := Lib.hid hq
  rw [← hq] at HRF
  have HYES : Hid (q = true → FitsC c t) := by rw [hq]; exact fits_iff.1
  obtain ⟨gq, hgq⟩ : ∃ g, g = great7 c t := ⟨_, rfl⟩
  rw [← hgq] at HGR
  have HSE : Hid (surelyE c t = if q = true then .returned (.tuple #[bv (k1.verdict c t.bad.toNat t.init t.frames), .int .i64 0]) else .returned (.tuple #[.int .u8 0, .int .i64 2])) := by rw [hq]; rfl
  obtain ⟨SE, hSE⟩ : ∃ e, e = surelyE c t := ⟨_, rfl⟩
  rw [← hSE] at HSU HSE
  clear hq hgq hSE h ht hbits hs hst hlo hhi hb1 hw
  unfold cirV traceV at *
  go_enter Try.func5, Try.ntmps5
  go_upto_region 1 with fail
  generalize hW : World.alloc (World.alloc w _) _ = W1
  have hb : Below w.heap.size w W1 := by subst hW; exact ext_trans (ext_alloc _ _) (ext_alloc _ _)
  have hx : W1.heap[w.heap.size]? = some (.cells #[.int .i64 c.ins, .slice s.a1 s.n1 s.c1, .slice s.a2 s.n2 s.c2, .slice s.a3 s.n3 s.c3, .slice s.a4 s.n4 s.c4, .slice s.a5 s.n5 s.c5] 26 (0, 0)) := by subst hW; exact heap_below (heap_new _ _ _ rfl) (ext_alloc _ _)
  have hy : W1.heap[w.heap.size + 1]? = some (.cells #[.int .i64 t.bad, .slice st.a1 st.n1 st.c1, .slice st.a2 st.n2 st.c2] 30 (0, 0)) := by subst hW; exact heap_new _ _ _ (by simp)
  have HB := Lib.hid hb
  have HX := Lib.hid hx
  have HY := Lib.hid hy
  clear hW hb hx hy
  have p0 := cell_of_block HX.out 0
  have p1 := cell_of_block HX.out 1
  have p2 := cell_of_block HX.out 2
  have p3 := cell_of_block HX.out 3
  have p4 := cell_of_block HX.out 4
  have p5 := cell_of_block HX.out 5
  have r0 := cell_of_block HY.out 0
  have r1 := cell_of_block HY.out 1
  have r2 := cell_of_block HY.out 2
  go_wp2_with fail
  refine (HGR.out W1 HB.out).mono ?_
  rintro e W2 ⟨rfl, hb⟩
  have HX2 := Lib.hid (heap_below HX.out hb)
  have HY2 := Lib.hid (heap_below HY.out hb)
  have HB2 := Lib.hid (ext_trans HB.out hb)
  clear p0 p1 p2 p3 p4 p5 r0 r1 r2 HX HY hb
  have p0 := cell_of_block HX2.out 0
  have p1 := cell_of_block HX2.out 1
  have p2 := cell_of_block HX2.out 2
  have p3 := cell_of_block HX2.out 3
  have p4 := cell_of_block HX2.out 4
  have p5 := cell_of_block HX2.out 5
  have r0 := cell_of_block HY2.out 0
  have r1 := cell_of_block HY2.out 1
  have r2 := cell_of_block HY2.out 2
  cases gq with
  | true =>
    clear p0 p1 p2 p3 p4 p5 r0 r1 r2
    go_wp2_with fail
    refine (HLV.out _).mono ?_
    rintro e W3 ⟨rfl, hb⟩
    have HB3 := Lib.hid (ext_trans HB2.out hb)
    clear hb
    go_wp2
    go_ret
    exact ⟨rfl, HB3.out⟩
  | false =>
  go_wp2_with fail
  refine (HSU.out W2 HB2.out).mono ?_
  rintro e W3 ⟨rfl, hb⟩
  have HX3 := Lib.hid (heap_below HX2.out hb)
  have HY3 := Lib.hid (heap_below HY2.out hb)
  have HB3 := Lib.hid (ext_trans HB2.out hb)
  clear p0 p1 p2 p3 p4 p5 r0 r1 r2 HX2 HY2 hb
  have p0 := cell_of_block HX3.out 0
  have p1 := cell_of_block HX3.out 1
  have p2 := cell_of_block HX3.out 2
  have p3 := cell_of_block HX3.out 3
  have p4 := cell_of_block HX3.out 4
  have p5 := cell_of_block HX3.out 5
  have r0 := cell_of_block HY3.out 0
  have r1 := cell_of_block HY3.out 1
  have r2 := cell_of_block HY3.out 2
  cases q with
  | false =>
    rw [HSE.out]
    simp only [Bool.false_eq_true, if_false]
    go_wp2_with fail
    refine (HRF.out W3 HB3.out).mono ?_
    rintro e W4 ⟨rfl, hb⟩
    have HB4 := Lib.hid (ext_trans HB3.out hb)
    clear hb p0 p1 p2 p3 p4 p5 r0 r1 r2
    go_wp2_with fail
    refine (HLV.out _).mono ?_
    rintro e W5 ⟨rfl, hb⟩
    have HB5 := Lib.hid (ext_trans HB4.out hb)
    clear hb
    go_wp2
    go_ret
    exact ⟨rfl, HB5.out⟩
  | true =>
  have HF := Lib.hid (HYES.out rfl)
  rw [HSE.out]
  simp only [if_true]
  obtain ⟨RV, hRV⟩ : ∃ v, v = k1.verdict c t.bad.toNat t.init t.frames := ⟨_, rfl⟩
  rw [← hRV]
  have HRV := Lib.hid hRV
  obtain ⟨vn, hvn⟩ : ∃ n : Nat, n = RV.toNat := ⟨_, rfl⟩
  have hbv : bv RV = .int .u8 (vn : Int) := by rw [hvn]; rfl
  rw [hbv]
  have HVN := Lib.hid hvn
  clear hRV hvn hbv
  go_wp2_with fail
  refine (HRF.out W3 HB3.out).mono ?_
  rintro e W4 ⟨rfl, hb⟩
  have HX4 := Lib.hid (heap_below HX3.out hb)
  have HY4 := Lib.hid (heap_below HY3.out hb)
  have HB4 := Lib.hid (ext_trans HB3.out hb)
  clear p0 p1 p2 p3 p4 p5 r0 r1 r2 HX3 HY3 hb
  have p0 := cell_of_block HX4.out 0
  have p1 := cell_of_block HX4.out 1
  have p2 := cell_of_block HX4.out 2
  have p3 := cell_of_block HX4.out 3
  have p4 := cell_of_block HX4.out 4
  have p5 := cell_of_block HX4.out 5
  have r0 := cell_of_block HY4.out 0
  have r1 := cell_of_block HY4.out 1
  have r2 := cell_of_block HY4.out 2
  obtain ⟨HBX⟩ : Nonempty (Hid True) := ⟨trivial⟩
  go_wp2_with fail
  refine (HFL.out W4 HB4.out).mono ?_
  rintro e W5 ⟨s', rfl, hO, hs', hb⟩
  have HX5 := Lib.hid (heap_below HX4.out hb)
  have HY5 := Lib.hid (heap_below HY4.out hb)
  have HB5 := Lib.hid (ext_trans HB4.out hb)
  have HO5 := Lib.hid hO
  have HS5 := Lib.hid hs'
  obtain ⟨b1, m1, d1, b2, m2, d2, ss'⟩ := s'
  clear p0 p1 p2 p3 p4 p5 r0 r1 r2 HX4 HY4 hb hO hs'
  simp only at *
  have p0 := cell_of_block HX5.out 0
  have p1 := cell_of_block HX5.out 1
  have p2 := cell_of_block HX5.out 2
  have p3 := cell_of_block HX5.out 3
  have p4 := cell_of_block HX5.out 4
  have p5 := cell_of_block HX5.out 5
  have r0 := cell_of_block HY5.out 0
  have r1 := cell_of_block HY5.out 1
  have r2 := cell_of_block HY5.out 2
  go_upto_region 9 with fail
  generalize hW : World.alloc W5 _ = W6
  have hb : Below W5.heap.size W5 W6 := by subst hW; exact ext_alloc _ _
  have hz : W6.heap[W5.heap.size]? = some (.cells #[.int .i64 t.bad, .slice b1 m1 d1, .slice b2 m2 d2] 30 (0, 0)) := by subst hW; exact heap_new _ _ _ rfl
  obtain ⟨Z, hZ⟩ : ∃ Z, Z = W5.heap.size := ⟨_, rfl⟩
  rw [← hZ] at hz
  try rw [← hZ]
  have HT6 := Lib.hid (HO5.out.below hb).sees
  have HX6 := Lib.hid (heap_below HX5.out hb)
  have HY6 := Lib.hid (heap_below HY5.out hb)
  have HZ6 := Lib.hid hz
  have HB6 := Lib.hid (ext_trans HB5.out hb)
  clear p0 p1 p2 p3 p4 p5 r0 r1 r2 HX5 HY5 HO5 hW hb hz hZ
  obtain ⟨FE, hFE⟩ : ∃ e, e = failsE c (fillT bits t) := ⟨_, rfl⟩
  rw [← hFE] at HFX
  obtain ⟨fb, HFE, HFB⟩ : ∃ fb : Bool, Hid (FE = .returned (.tuple #[.bool fb, .int .i64 0])) ∧ Hid (vn ≠ 2 → fb = decide (vn = 1)) := by
    refine ⟨decide ((k1.verdict c (fillT bits t).bad.toNat (readT (fillT bits t)).init (readT (fillT bits t)).frames).toNat = 1), ?_, ?_⟩
    · show FE = _
      rw [hFE]; unfold failsE; rw [if_pos (fits_iff.2 (HF.out.fill bits))]
    · show vn ≠ 2 → _
      intro h2
      have h3 := (fill_verdict bits HF.out t.bad.toNat).1
      rw [← HRV.out, ← HVN.out] at h3
      rcases h3 with h3 | h3
      · exact absurd h3 h2
      · have h4 : (k1.verdict c (fillT bits t).bad.toNat (readT (fillT bits t)).init (readT (fillT bits t)).frames).toNat = vn := by rw [HVN.out, h3]; rfl
        rw [h4]
  clear hFE
  have p0 := cell_of_block HX6.out 0
  have p1 := cell_of_block HX6.out 1
  have p2 := cell_of_block HX6.out 2
  have p3 := cell_of_block HX6.out 3
  have p4 := cell_of_block HX6.out 4
  have p5 := cell_of_block HX6.out 5
  have r0 := cell_of_block HY6.out 0
  have r1 := cell_of_block HY6.out 1
  have r2 := cell_of_block HY6.out 2
  have z0 := cell_of_block HZ6.out 0
  have z1 := cell_of_block HZ6.out 1
  have z2 := cell_of_block HZ6.out 2
  go_wp2_with fail
  refine (HFX.out ⟨b1, m1, d1, b2, m2, d2, ss'⟩ W6 HB6.out HT6.out HS5.out).mono ?_
  rintro e W7 ⟨rfl, hb⟩
  have HX7 := Lib.hid (heap_below HX6.out hb)
  have HY7 := Lib.hid (heap_below HY6.out hb)
  have HZ7 := Lib.hid (heap_below HZ6.out hb)
  have HB7 := Lib.hid (ext_trans HB6.out hb)
  have HT7 := Lib.hid (HT6.out.below hb)
  clear HT6
  clear p0 p1 p2 p3 p4 p5 r0 r1 r2 z0 z1 z2 HX6 HY6 HZ6 hb
  rw [HFE.out]
  have p0 := cell_of_block HX7.out 0
  have p1 := cell_of_block HX7.out 1
  have p2 := cell_of_block HX7.out 2
  have p3 := cell_of_block HX7.out 3
  have p4 := cell_of_block HX7.out 4
  have p5 := cell_of_block HX7.out 5
  have r0 := cell_of_block HY7.out 0
  have r1 := cell_of_block HY7.out 1
  have r2 := cell_of_block HY7.out 2
  have z0 := cell_of_block HZ7.out 0
  have z1 := cell_of_block HZ7.out 1
  have z2 := cell_of_block HZ7.out 2
  go_wp2_with fail
  refine (HRN.out W7 HB7.out).mono ?_
  rintro e W8 hp
  obtain ⟨B1, o1, c1, ss1, rfl, hR1, hb⟩ := runpost_yes HF.out hp
  clear hp
  have HT8 := Lib.hid (HT7.out.below hb)
  have HR8 := Lib.hid hR1
  clear hR1 HT7
  have HX8 := Lib.hid (heap_below HX7.out hb)
  have HY8 := Lib.hid (heap_below HY7.out hb)
  have HZ8 := Lib.hid (heap_below HZ7.out hb)
  have HB8 := Lib.hid (ext_trans HB7.out hb)
  clear p0 p1 p2 p3 p4 p5 r0 r1 r2 z0 z1 z2 HX7 HY7 HZ7 hb
  have p0 := cell_of_block HX8.out 0
  have p1 := cell_of_block HX8.out 1
  have p2 := cell_of_block HX8.out 2
  have p3 := cell_of_block HX8.out 3
  have p4 := cell_of_block HX8.out 4
  have p5 := cell_of_block HX8.out 5
  have r0 := cell_of_block HY8.out 0
  have r1 := cell_of_block HY8.out 1
  have r2 := cell_of_block HY8.out 2
  have z0 := cell_of_block HZ8.out 0
  have z1 := cell_of_block HZ8.out 1
  have z2 := cell_of_block HZ8.out 2
  go_wp2_with fail
  refine (HRX.out ⟨b1, m1, d1, b2, m2, d2, ss'⟩ W8 HB8.out HT8.out HS5.out).mono ?_
  rintro e W9 hp
  obtain ⟨B2, o2, c2, ss2, rfl, hR2, hb⟩ := runpost_yes (HF.out.fill bits) hp
  clear hp
  rw [fillT_len] at hR2
  rw [fillT_len]
  have HR9 := Lib.hid (HR8.out.below hb)
  have HS9 := Lib.hid hR2
  clear hR2 HR8 HT8
  have HX9 := Lib.hid (heap_below HX8.out hb)
  have HY9 := Lib.hid (heap_below HY8.out hb)
  have HZ9 := Lib.hid (heap_below HZ8.out hb)
  have HB9 := Lib.hid (ext_trans HB8.out hb)
  clear p0 p1 p2 p3 p4 p5 r0 r1 r2 z0 z1 z2 HX8 HY8 HZ8 hb
  obtain ⟨FN, hFN⟩ : ∃ n : Nat, n = t.frames.length := ⟨_, rfl⟩
  have hFS : FN ≤ 256 := by rw [hFN]; exact HF.out.few
  rw [← hFN] at HR9 HS9 HNF ⊢
  have HFN := Lib.hid hFN
  obtain ⟨N, hN⟩ : ∃ n : Nat, n = 1 + varsN c := ⟨_, rfl⟩
  have hNS : N ≤ 16385 := by rw [hN]; have := HF.out.may.few; omega
  rw [← hN] at HR9 HS9
  have HN := Lib.hid hN
  obtain ⟨VC, hVC⟩ : ∃ n : Nat, n = varsC c := ⟨_, rfl⟩
  have hVN : VC + 1 = N := by rw [hVC, hN]; unfold varsC; rw [if_pos (mayC_iff.2 HF.out.may)]; omega
  rw [← hVC] at HVR
  have W17 : IntKind.i64.wrap ((VC : Int) + 1) = (N : Int) := by rw [IntWalk.i64_in _ (by omega)]; omega
  have hN0 : 0 < N := by omega
  clear hVC hVN
  clear hFN hN
  have hz2 : HZ9 = HZ9 := rfl
  clear hz2
  have p0 := cell_of_block HX9.out 0
  have p1 := cell_of_block HX9.out 1
  have p2 := cell_of_block HX9.out 2
  have p3 := cell_of_block HX9.out 3
  have p4 := cell_of_block HX9.out 4
  have p5 := cell_of_block HX9.out 5
  have r0 := cell_of_block HY9.out 0
  have r1 := cell_of_block HY9.out 1
  have r2 := cell_of_block HY9.out 2
  rw [← HNF.out] at r2
  have HOK : Hid (vn = 2 ∧ ((vn : Int) != 2) = false ∨ ((vn : Int) != 2) = true ∧ ((vn : Int) == 1) = fb) := by
    by_cases e2 : vn = 2
    · left; subst e2; exact ⟨rfl, rfl⟩
    · right
      refine ⟨by simp; omega, ?_⟩
      rw [HFB.out e2]
      by_cases e3 : vn = 1
      · subst e3; rfl
      · rw [decide_eq_false e3]; simp; omega
  clear HFE HFB HFX HRN HRX HFL HSU HRF HSE HYES HGR HQ HVN
  rcases HOK.out with ⟨_, b2⟩ | ⟨b2, b3⟩
  · clear HOK
    go_wp2_with fail
    go_loopw [99, 16, 17] (fun i _ _ wr => ∃ k : Nat, k ≤ FN ∧ i = .int .i64 k ∧ Hid (Below W9.heap.size W9 wr)) (fun i _ _ _ => FN - (intOf i).toNat)
    case atStart => exact ⟨0, Nat.zero_le _, rfl, Below.refl _ _⟩
    case round =>
      obtain ⟨k, hk, rfl, hB⟩ := hrel
      by_cases hlt : k < FN
      · have HLT := Lib.hid hlt
        have hI : (k : Int) < (FN : Int) := by omega
        have hI0 : (0 : Int) ≤ (k : Int) := by omega
        have W1' : IntKind.i64.wrap ((k : Int) + 1) = (k : Int) + 1 := IntWalk.i64_in _ (by omega)
        obtain ⟨R1, f1, g1, q1, hr1⟩ := (HR9.out.below hB.out).at k hlt
        obtain ⟨R2, f2, g2, q2, hr2⟩ := (HS9.out.below hB.out).at k hlt
        have q3 := hr1 0 (by omega)
        rw [varsAt_head, Nat.add_zero] at q3
        have HREF := Lib.hid (ref_varsAt bits HF.out k (by rw [← HFN.out]; exact hlt))
        have HR1 := Lib.hid hr1
        have HR2 := Lib.hid hr2
        have hxw := heap_below HX9.out hB.out
        have HS0 := Lib.hid (And.intro q1 (And.intro q2 (And.intro q3 (And.intro (cell_of_block hxw 0) (And.intro (cell_of_block hxw 1) (And.intro (cell_of_block hxw 2) (And.intro (cell_of_block hxw 3) (And.intro (cell_of_block hxw 4) (cell_of_block hxw 5)))))))))
        have HBW := Lib.hid (ext_trans HB9.out hB.out)
        clear hr1 hr2 q1 q2 q3 hxw hlt
        go_upto_region 17 with fail
        refine wp_region_noPanic ?_
        refine wp_region_held (S := fun w' => w'.cell? ⟨B1, o1 + k, none⟩ = some (.slice (some ⟨R1, f1, none⟩) N g1) ∧ w'.cell? ⟨B2, o2 + k, none⟩ = some (.slice (some ⟨R2, f2, none⟩) N g2) ∧ w'.cell? ⟨R1, f1, none⟩ = some (.int .u8 0) ∧ w'.cell? ⟨w.heap.size, 0, none⟩ = some (.int .i64 c.ins) ∧ w'.cell? ⟨w.heap.size, 1, none⟩ = some (.slice s.a1 s.n1 s.c1) ∧ w'.cell? ⟨w.heap.size, 2, none⟩ = some (.slice s.a2 s.n2 s.c2) ∧ w'.cell? ⟨w.heap.size, 3, none⟩ = some (.slice s.a3 s.n3 s.c3) ∧ w'.cell? ⟨w.heap.size, 4, none⟩ = some (.slice s.a4 s.n4 s.c4) ∧ w'.cell? ⟨w.heap.size, 5, none⟩ = some (.slice s.a5 s.n5 s.c5)) (by kernel_rfl) ?_
        generalize hY : ({ wr with drawn := wr.drawn + 1 } : World) = Y0
        have hY0 : Below wr.heap.size wr Y0 := by subst hY; exact (Below.refl _ _).drew
        have HSD := Lib.hid (keep9 HS0.out hY0)
        have HYB := Lib.hid hY0
        clear hY0 hY
        refine wpAnyH_take (i := 0) (v := ?_) (by simp only [List.getElem?_toArray, List.getElem?_cons_zero]; rfl) (by kernel_rfl) (by kernel_rfl) (by kernel_rfl) (fun _ _ _ h => h) (Or.inl ⟨by rfl, ?_⟩) HSD.out ?_
        rotate_left
        · intro w hSw
          (try dsimp only at hSw)
          obtain ⟨q0_, q1_, q2_, q3_, q4_, q5_, q6_, q7_, q8_⟩ := hSw
          go_simp
          try with_reducible rfl
        try simp only [Act.put, List.setIfInBounds_toArray, List.set_cons_zero, List.set_cons_succ]
        refine wpAnyH_take (i := 1) (v := ?_) (by simp only [List.getElem?_toArray, List.getElem?_cons_zero, List.getElem?_cons_succ]; rfl) (by kernel_rfl) (by kernel_rfl) (by kernel_rfl) (fun _ _ _ h => h) (Or.inl ⟨by rfl, ?_⟩) HSD.out ?_
        rotate_left
        · intro w hSw
          (try dsimp only at hSw)
          obtain ⟨q0_, q1_, q2_, q3_, q4_, q5_, q6_, q7_, q8_⟩ := hSw
          go_simp
          try with_reducible rfl
        try simp only [Act.put, List.setIfInBounds_toArray, List.set_cons_zero, List.set_cons_succ]
        refine wpAnyH_take (i := 2) (v := ?_) (by simp only [List.getElem?_toArray, List.getElem?_cons_zero, List.getElem?_cons_succ]; rfl) (by kernel_rfl) (by kernel_rfl) (by kernel_rfl) (fun _ _ _ h => h) (Or.inl ⟨by rfl, ?_⟩) HSD.out ?_
        rotate_left
        · intro w hSw
          (try dsimp only at hSw)
          obtain ⟨q0_, q1_, q2_, q3_, q4_, q5_, q6_, q7_, q8_⟩ := hSw
          go_simp
          try with_reducible rfl
        try simp only [Act.put, List.setIfInBounds_toArray, List.set_cons_zero, List.set_cons_succ]
        refine wpAnyH_take (i := 3) (v := ?_) (by simp only [List.getElem?_toArray, List.getElem?_cons_zero, List.getElem?_cons_succ]; rfl) (by kernel_rfl) (by kernel_rfl) (by kernel_rfl) (fun _ _ _ h => h) (Or.inl ⟨by rfl, ?_⟩) HSD.out ?_
        rotate_left
        · intro w hSw
          (try dsimp only at hSw)
          obtain ⟨q0_, q1_, q2_, q3_, q4_, q5_, q6_, q7_, q8_⟩ := hSw
          go_simp
          try with_reducible rfl
        try simp only [Act.put, List.setIfInBounds_toArray, List.set_cons_zero, List.set_cons_succ]
        refine wpAnyH_take (i := 4) (v := ?_) (by simp only [List.getElem?_toArray, List.getElem?_cons_zero, List.getElem?_cons_succ]; rfl) (by kernel_rfl) (by kernel_rfl) (by kernel_rfl) (fun _ _ _ h => h) (Or.inl ⟨by rfl, ?_⟩) HSD.out ?_
        rotate_left
        · intro w hSw
          (try dsimp only at hSw)
          obtain ⟨q0_, q1_, q2_, q3_, q4_, q5_, q6_, q7_, q8_⟩ := hSw
          go_simp
          try with_reducible rfl
        try simp only [Act.put, List.setIfInBounds_toArray, List.set_cons_zero, List.set_cons_succ]
        refine wpAnyH_take (i := 5) (v := ?_) (by simp only [List.getElem?_toArray, List.getElem?_cons_zero, List.getElem?_cons_succ]; rfl) (by kernel_rfl) (by kernel_rfl) (by kernel_rfl) (fun _ _ _ h => h) (Or.inl ⟨by rfl, ?_⟩) HSD.out ?_
        rotate_left
        · intro w hSw
          (try dsimp only at hSw)
          obtain ⟨q0_, q1_, q2_, q3_, q4_, q5_, q6_, q7_, q8_⟩ := hSw
          go_simp
          try with_reducible rfl
        try simp only [Act.put, List.setIfInBounds_toArray, List.set_cons_zero, List.set_cons_succ]
        refine wpAnyH_ready (rs := [6]) (by kernel_rfl) (by simp) ?_
        refine AllReadyH.cons (by simp only [List.getElem?_toArray, List.getElem?_cons_zero, List.getElem?_cons_succ]; rfl) (fun K hK => ?_) AllReadyH.nil
        go_simp
        refine (HVR.out _ (ext_trans HBW.out HYB.out)).mono ?_
        rintro e s1 ⟨rfl, b1⟩
        have HB1 := Lib.hid (ext_trans HYB.out b1)
        have HS1 := Lib.hid (keep9 HS0.out HB1.out)
        clear b1
        refine hK.out _ _ HS1.out (fun _ => ?_)
        clear hK K
        try simp only [Act.put, List.setIfInBounds_toArray, List.set_cons_zero, List.set_cons_succ]
        refine wpAnyH_take (i := 7) (v := ?_) (by simp only [List.getElem?_toArray, List.getElem?_cons_zero, List.getElem?_cons_succ]; rfl) (by kernel_rfl) (by kernel_rfl) (by kernel_rfl) (fun _ _ _ h => h) (Or.inl ⟨by rfl, ?_⟩) HS1.out ?_
        rotate_left
        · intro w hSw
          (try dsimp only at hSw)
          obtain ⟨q0_, q1_, q2_, q3_, q4_, q5_, q6_, q7_, q8_⟩ := hSw
          go_simp
          try with_reducible rfl
        try simp only [Act.put, List.setIfInBounds_toArray, List.set_cons_zero, List.set_cons_succ]
        refine wpAnyH_take (i := 8) (v := ?_) (by simp only [List.getElem?_toArray, List.getElem?_cons_zero, List.getElem?_cons_succ]; rfl) (by kernel_rfl) (by kernel_rfl) (by kernel_rfl) (fun _ _ _ h => h) (Or.inl ⟨by rfl, ?_⟩) HS1.out ?_
        rotate_left
        · intro w hSw
          (try dsimp only at hSw)
          obtain ⟨q0_, q1_, q2_, q3_, q4_, q5_, q6_, q7_, q8_⟩ := hSw
          go_simp
          try with_reducible rfl
        try simp only [Act.put, List.setIfInBounds_toArray, List.set_cons_zero, List.set_cons_succ]
        refine wpAnyH_take (i := 9) (v := ?_) (by simp only [List.getElem?_toArray, List.getElem?_cons_zero, List.getElem?_cons_succ]; rfl) (by kernel_rfl) (by kernel_rfl) (by kernel_rfl) (fun _ _ _ h => h) (Or.inl ⟨by rfl, ?_⟩) HS1.out ?_
        rotate_left
        · intro w hSw
          (try dsimp only at hSw)
          obtain ⟨q0_, q1_, q2_, q3_, q4_, q5_, q6_, q7_, q8_⟩ := hSw
          go_simp
          try with_reducible rfl
        try simp only [Act.put, List.setIfInBounds_toArray, List.set_cons_zero, List.set_cons_succ]
        refine wpAnyH_take (i := 10) (v := ?_) (by simp only [List.getElem?_toArray, List.getElem?_cons_zero, List.getElem?_cons_succ]; rfl) (by kernel_rfl) (by kernel_rfl) (by kernel_rfl) (fun _ _ _ h => h) (Or.inl ⟨by rfl, ?_⟩) HS1.out ?_
        rotate_left
        · intro w hSw
          (try dsimp only at hSw)
          obtain ⟨q0_, q1_, q2_, q3_, q4_, q5_, q6_, q7_, q8_⟩ := hSw
          go_simp
          try with_reducible rfl
        try simp only [Act.put, List.setIfInBounds_toArray, List.set_cons_zero, List.set_cons_succ]
        refine wpAnyH_take (i := 11) (v := ?_) (by simp only [List.getElem?_toArray, List.getElem?_cons_zero, List.getElem?_cons_succ]; rfl) (by kernel_rfl) (by kernel_rfl) (by kernel_rfl) (fun _ _ _ h => h) (Or.inl ⟨by rfl, ?_⟩) HS1.out ?_
        rotate_left
        · intro w hSw
          (try dsimp only at hSw)
          obtain ⟨q0_, q1_, q2_, q3_, q4_, q5_, q6_, q7_, q8_⟩ := hSw
          go_simp
          try with_reducible rfl
        try simp only [Act.put, List.setIfInBounds_toArray, List.set_cons_zero, List.set_cons_succ]
        refine wpAnyH_take (i := 12) (v := ?_) (by simp only [List.getElem?_toArray, List.getElem?_cons_zero, List.getElem?_cons_succ]; rfl) (by kernel_rfl) (by kernel_rfl) (by kernel_rfl) (fun _ _ _ h => h) (Or.inl ⟨by rfl, ?_⟩) HS1.out ?_
        rotate_left
        · intro w hSw
          (try dsimp only at hSw)
          obtain ⟨q0_, q1_, q2_, q3_, q4_, q5_, q6_, q7_, q8_⟩ := hSw
          go_simp
          try with_reducible rfl
        try simp only [Act.put, List.setIfInBounds_toArray, List.set_cons_zero, List.set_cons_succ]
        refine wpAnyH_take (i := 13) (v := ?_) (by simp only [List.getElem?_toArray, List.getElem?_cons_zero, List.getElem?_cons_succ]; rfl) (by kernel_rfl) (by kernel_rfl) (by kernel_rfl) (fun _ _ _ h => h) (Or.inl ⟨by rfl, ?_⟩) HS1.out ?_
        rotate_left
        · intro w hSw
          (try dsimp only at hSw)
          obtain ⟨q0_, q1_, q2_, q3_, q4_, q5_, q6_, q7_, q8_⟩ := hSw
          go_simp
          try with_reducible rfl
        try simp only [Act.put, List.setIfInBounds_toArray, List.set_cons_zero, List.set_cons_succ]
        refine wpAnyH_take (i := 14) (v := ?_) (by simp only [List.getElem?_toArray, List.getElem?_cons_zero, List.getElem?_cons_succ]; rfl) (by kernel_rfl) (by kernel_rfl) (by kernel_rfl) (fun _ _ _ h => h) (Or.inl ⟨by rfl, ?_⟩) HS1.out ?_
        rotate_left
        · intro w hSw
          (try dsimp only at hSw)
          obtain ⟨q0_, q1_, q2_, q3_, q4_, q5_, q6_, q7_, q8_⟩ := hSw
          go_simp
          try with_reducible rfl
        try simp only [Act.put, List.setIfInBounds_toArray, List.set_cons_zero, List.set_cons_succ]
        refine wpAnyH_take (i := 15) (v := ?_) (by simp only [List.getElem?_toArray, List.getElem?_cons_zero, List.getElem?_cons_succ]; rfl) (by kernel_rfl) (by kernel_rfl) (by kernel_rfl) (fun _ _ _ h => h) (Or.inl ⟨by rfl, ?_⟩) HS1.out ?_
        rotate_left
        · intro w hSw
          (try dsimp only at hSw)
          obtain ⟨q0_, q1_, q2_, q3_, q4_, q5_, q6_, q7_, q8_⟩ := hSw
          go_simp
          try with_reducible rfl
        try simp only [Act.put, List.setIfInBounds_toArray, List.set_cons_zero, List.set_cons_succ]
        refine wpAnyH_take (i := 16) (v := ?_) (by simp only [List.getElem?_toArray, List.getElem?_cons_zero, List.getElem?_cons_succ]; rfl) (by kernel_rfl) (by kernel_rfl) (by kernel_rfl) (fun _ _ _ h => h) (Or.inl ⟨by rfl, ?_⟩) HS1.out ?_
        rotate_left
        · intro w hSw
          (try dsimp only at hSw)
          obtain ⟨q0_, q1_, q2_, q3_, q4_, q5_, q6_, q7_, q8_⟩ := hSw
          go_simp
          try with_reducible rfl
        try simp only [Act.put, List.setIfInBounds_toArray, List.set_cons_zero, List.set_cons_succ]
        refine wpAnyH_take (i := 17) (v := ?_) (by simp only [List.getElem?_toArray, List.getElem?_cons_zero, List.getElem?_cons_succ]; rfl) (by kernel_rfl) (by kernel_rfl) (by kernel_rfl) (fun _ _ _ h => h) (Or.inl ⟨by rfl, ?_⟩) HS1.out ?_
        rotate_left
        · intro w hSw
          (try dsimp only at hSw)
          obtain ⟨q0_, q1_, q2_, q3_, q4_, q5_, q6_, q7_, q8_⟩ := hSw
          go_simp
          try with_reducible rfl
        try simp only [Act.put, List.setIfInBounds_toArray, List.set_cons_zero, List.set_cons_succ]
        refine wpAnyH_take (i := 18) (v := ?_) (by simp only [List.getElem?_toArray, List.getElem?_cons_zero, List.getElem?_cons_succ]; rfl) (by kernel_rfl) (by kernel_rfl) (by kernel_rfl) (fun _ _ _ h => h) (Or.inl ⟨by rfl, ?_⟩) HS1.out ?_
        rotate_left
        · intro w hSw
          (try dsimp only at hSw)
          obtain ⟨q0_, q1_, q2_, q3_, q4_, q5_, q6_, q7_, q8_⟩ := hSw
          go_simp
          try with_reducible rfl
        try simp only [Act.put, List.setIfInBounds_toArray, List.set_cons_zero, List.set_cons_succ]
        refine wpAnyH_take (i := 19) (v := ?_) (by simp only [List.getElem?_toArray, List.getElem?_cons_zero, List.getElem?_cons_succ]; rfl) (by kernel_rfl) (by kernel_rfl) (by kernel_rfl) (fun _ _ _ h => h) (Or.inl ⟨by rfl, ?_⟩) HS1.out ?_
        rotate_left
        · intro w hSw
          (try dsimp only at hSw)
          obtain ⟨q0_, q1_, q2_, q3_, q4_, q5_, q6_, q7_, q8_⟩ := hSw
          go_simp
          try with_reducible rfl
        try simp only [Act.put, List.setIfInBounds_toArray, List.set_cons_zero, List.set_cons_succ]
        refine wpAnyH_take (i := 20) (v := ?_) (by simp only [List.getElem?_toArray, List.getElem?_cons_zero, List.getElem?_cons_succ]; rfl) (by kernel_rfl) (by kernel_rfl) (by kernel_rfl) (fun _ _ _ h => h) (Or.inl ⟨by rfl, ?_⟩) HS1.out ?_
        rotate_left
        · intro w hSw
          (try dsimp only at hSw)
          obtain ⟨q0_, q1_, q2_, q3_, q4_, q5_, q6_, q7_, q8_⟩ := hSw
          go_simp
          try with_reducible rfl
        try simp only [Act.put, List.setIfInBounds_toArray, List.set_cons_zero, List.set_cons_succ]
        refine wpAnyH_take (i := 21) (v := ?_) (by simp only [List.getElem?_toArray, List.getElem?_cons_zero, List.getElem?_cons_succ]; rfl) (by kernel_rfl) (by kernel_rfl) (by kernel_rfl) (fun _ _ _ h => h) (Or.inl ⟨by rfl, ?_⟩) HS1.out ?_
        rotate_left
        · intro w hSw
          (try dsimp only at hSw)
          obtain ⟨q0_, q1_, q2_, q3_, q4_, q5_, q6_, q7_, q8_⟩ := hSw
          go_simp
          try with_reducible rfl
        try simp only [Act.put, List.setIfInBounds_toArray, List.set_cons_zero, List.set_cons_succ]
        refine wpAnyH_take (i := 22) (v := ?_) (by simp only [List.getElem?_toArray, List.getElem?_cons_zero, List.getElem?_cons_succ]; rfl) (by kernel_rfl) (by kernel_rfl) (by kernel_rfl) (fun _ _ _ h => h) (Or.inl ⟨by rfl, ?_⟩) HS1.out ?_
        rotate_left
        · intro w hSw
          (try dsimp only at hSw)
          obtain ⟨q0_, q1_, q2_, q3_, q4_, q5_, q6_, q7_, q8_⟩ := hSw
          go_simp
          try with_reducible rfl
        try simp only [Act.put, List.setIfInBounds_toArray, List.set_cons_zero, List.set_cons_succ]
        refine wpAnyH_take (i := 23) (v := ?_) (by simp only [List.getElem?_toArray, List.getElem?_cons_zero, List.getElem?_cons_succ]; rfl) (by kernel_rfl) (by kernel_rfl) (by kernel_rfl) (fun _ _ _ h => h) (Or.inl ⟨by rfl, ?_⟩) HS1.out ?_
        rotate_left
        · intro w hSw
          (try dsimp only at hSw)
          obtain ⟨q0_, q1_, q2_, q3_, q4_, q5_, q6_, q7_, q8_⟩ := hSw
          go_simp
          try with_reducible rfl
        try simp only [Act.put, List.setIfInBounds_toArray, List.set_cons_zero, List.set_cons_succ]
        refine wpAnyH_take (i := 24) (v := ?_) (by simp only [List.getElem?_toArray, List.getElem?_cons_zero, List.getElem?_cons_succ]; rfl) (by kernel_rfl) (by kernel_rfl) (by kernel_rfl) (fun _ _ _ h => h) (Or.inl ⟨by rfl, ?_⟩) HS1.out ?_
        rotate_left
        · intro w hSw
          (try dsimp only at hSw)
          obtain ⟨q0_, q1_, q2_, q3_, q4_, q5_, q6_, q7_, q8_⟩ := hSw
          go_simp
          try with_reducible rfl
        try simp only [Act.put, List.setIfInBounds_toArray, List.set_cons_zero, List.set_cons_succ]
        refine wpAnyH_take (i := 25) (v := ?_) (by simp only [List.getElem?_toArray, List.getElem?_cons_zero, List.getElem?_cons_succ]; rfl) (by kernel_rfl) (by kernel_rfl) (by kernel_rfl) (fun _ _ _ h => h) (Or.inl ⟨by rfl, ?_⟩) HS1.out ?_
        rotate_left
        · intro w hSw
          (try dsimp only at hSw)
          obtain ⟨q0_, q1_, q2_, q3_, q4_, q5_, q6_, q7_, q8_⟩ := hSw
          go_simp
          try with_reducible rfl
        try simp only [Act.put, List.setIfInBounds_toArray, List.set_cons_zero, List.set_cons_succ]
        refine wpAnyH_take (i := 26) (v := ?_) (by simp only [List.getElem?_toArray, List.getElem?_cons_zero, List.getElem?_cons_succ]; rfl) (by kernel_rfl) (by kernel_rfl) (by kernel_rfl) (fun _ _ _ h => h) (Or.inl ⟨by rfl, ?_⟩) HS1.out ?_
        rotate_left
        · intro w hSw
          (try dsimp only at hSw)
          obtain ⟨q0_, q1_, q2_, q3_, q4_, q5_, q6_, q7_, q8_⟩ := hSw
          go_simp
          try with_reducible rfl
        try simp only [Act.put, List.setIfInBounds_toArray, List.set_cons_zero, List.set_cons_succ]
        refine wpAnyH_take (i := 27) (v := ?_) (by simp only [List.getElem?_toArray, List.getElem?_cons_zero, List.getElem?_cons_succ]; rfl) (by kernel_rfl) (by kernel_rfl) (by kernel_rfl) (fun _ _ _ h => h) (Or.inl ⟨by rfl, ?_⟩) HS1.out ?_
        rotate_left
        · intro w hSw
          (try dsimp only at hSw)
          obtain ⟨q0_, q1_, q2_, q3_, q4_, q5_, q6_, q7_, q8_⟩ := hSw
          go_simp
          try with_reducible rfl
        try simp only [Act.put, List.setIfInBounds_toArray, List.set_cons_zero, List.set_cons_succ]
        refine wpAnyH_take (i := 28) (v := ?_) (by simp only [List.getElem?_toArray, List.getElem?_cons_zero, List.getElem?_cons_succ]; rfl) (by kernel_rfl) (by kernel_rfl) (by kernel_rfl) (fun _ _ _ h => h) (Or.inl ⟨by rfl, ?_⟩) HS1.out ?_
        rotate_left
        · intro w hSw
          (try dsimp only at hSw)
          obtain ⟨q0_, q1_, q2_, q3_, q4_, q5_, q6_, q7_, q8_⟩ := hSw
          go_simp
          try with_reducible rfl
        try simp only [Act.put, List.setIfInBounds_toArray, List.set_cons_zero, List.set_cons_succ]
        refine wpAnyH_take (i := 29) (v := ?_) (by simp only [List.getElem?_toArray, List.getElem?_cons_zero, List.getElem?_cons_succ]; rfl) (by kernel_rfl) (by kernel_rfl) (by kernel_rfl) (fun _ _ _ h => h) (Or.inl ⟨by rfl, ?_⟩) HS1.out ?_
        rotate_left
        · intro w hSw
          (try dsimp only at hSw)
          obtain ⟨q0_, q1_, q2_, q3_, q4_, q5_, q6_, q7_, q8_⟩ := hSw
          go_simp
          try with_reducible rfl
        try simp only [Act.put, List.setIfInBounds_toArray, List.set_cons_zero, List.set_cons_succ]
        refine wpAnyH_take (i := 30) (v := ?_) (by simp only [List.getElem?_toArray, List.getElem?_cons_zero, List.getElem?_cons_succ]; rfl) (by kernel_rfl) (by kernel_rfl) (by kernel_rfl) (fun _ _ _ h => h) (Or.inl ⟨by rfl, ?_⟩) HS1.out ?_
        rotate_left
        · intro w hSw
          (try dsimp only at hSw)
          obtain ⟨q0_, q1_, q2_, q3_, q4_, q5_, q6_, q7_, q8_⟩ := hSw
          go_simp
          try with_reducible rfl
        try simp only [Act.put, List.setIfInBounds_toArray, List.set_cons_zero, List.set_cons_succ]
        refine wpAnyH_done (by kernel_rfl) ?_ _
        refine NoPanic.normal ?_

        have HBS := Lib.hid (ext_trans hB.out HB1.out)
        have HS1R := Lib.hid (fun m (hm : m < N) => (cell_below (HR1.out m hm) HB1.out))
        have HS2R := Lib.hid (fun m (hm : m < N) => (cell_below (HR2.out m hm) HB1.out))
        obtain ⟨W10, hW10⟩ : ∃ W, W = s1 := ⟨_, rfl⟩
        subst hW10
        clear HR1 HR2 HS0 HSD HYB HBW hB HB1
        go_wp2_with fail
        go_loopw [138, 17] (fun i _ wr2 => ∃ m : Nat, m ≤ N ∧ i = .int .i64 m ∧ Hid (Below W10.heap.size W10 wr2)) (fun i _ _ => N - (intOf i).toNat)
        case atStart => exact ⟨0, Nat.zero_le _, rfl, Below.refl _ _⟩
        case round =>
          obtain ⟨m, hm, rfl, hB⟩ := hrel
          by_cases hlt : m < N
          · obtain ⟨q1, q2, _⟩ := keep9 HS1.out hB.out
            have r1' := cell_below (HS1R.out m hlt) hB.out
            have r2' := cell_below (HS2R.out m hlt) hB.out
            have hJ : (m : Int) < (N : Int) := by omega
            have hJ0 : (0 : Int) ≤ (m : Int) := by omega
            have W2' : IntKind.i64.wrap ((m : Int) + 1) = (m : Int) + 1 := IntWalk.i64_in _ (by omega)
            have href := HREF.out.2 m
            obtain ⟨u, hu⟩ : ∃ u, u = (varsAt c t k).getD m 0 := ⟨_, rfl⟩
            obtain ⟨u', hu'⟩ : ∃ u, u = (varsAt c (fillT bits t) k).getD m 0 := ⟨_, rfl⟩
            rw [← hu, ← hu'] at href
            rw [← hu] at r1'
            rw [← hu'] at r2'
            have hor : u.toNat = 2 ∨ u.toNat = u'.toNat := href.1.imp id (fun e => by rw [e])
            have hle := href.2
            obtain ⟨y, hy⟩ : ∃ n : Nat, n = u.toNat := ⟨_, rfl⟩
            obtain ⟨v, hv⟩ : ∃ n : Nat, n = u'.toNat := ⟨_, rfl⟩
            rw [← hy] at hor r1'
            rw [← hv] at hor hle r2'
            have f5 : ((v : Int) == 2) = false := by simp; omega
            have f6 : ((v : Int) != 2) = true := by simp; omega
            clear hu hu' hy hv href hle hlt
            by_cases h2 : y = 2
            · have f1 : ((y : Int) != 2) = false := by simp; omega
              have f2 : ((y : Int) == 2) = true := by simp; omega
              clear h2 hor
              go_wp2
              go_quiet (fail)
              go_wp2
              go_roundw
              case rel =>
                rename_i nq
                exact ⟨m + 1, by omega, by go_num, ext_trans hB.out (ext_drewN _ nq)⟩
              case measure => simp [intOf]; omega
            · have f1 : ((y : Int) != 2) = true := by simp; omega
              have f2 : ((y : Int) == 2) = false := by simp; omega
              have h3 : y = v := by omega
              have f3 : ((y : Int) != (v : Int)) = false := by simp; omega
              have f4 : ((y : Int) == (v : Int)) = true := by simp; omega
              clear h2 h3 hor
              go_wp2
              go_quiet (fail)
              go_wp2
              go_roundw
              case rel =>
                rename_i nq
                exact ⟨m + 1, by omega, by go_num, ext_trans hB.out (ext_drewN _ nq)⟩
              case measure => simp [intOf]; omega
          · have HBE := Lib.hid (ext_trans HBS.out hB.out)
            clear hB
            go_wp2
            go_roundw
            case rel => exact ⟨k + 1, by omega, by go_num, HBE.out⟩
            case measure => simp [intOf]; omega
      · have HBE := Lib.hid (ext_trans HB9.out hB.out)
        clear hB
        go_wp2_with fail
        refine (HLV.out _).mono ?_
        rintro e W11 ⟨rfl, hb⟩
        have HBF := Lib.hid (ext_trans HBE.out hb)
        clear hb
        go_wp2
        go_ret
        exact ⟨rfl, HBF.out⟩
  · clear HOK
    go_wp2_with fail
    go_loopw [99, 16, 17] (fun i _ _ wr => ∃ k : Nat, k ≤ FN ∧ i = .int .i64 k ∧ Hid (Below W9.heap.size W9 wr)) (fun i _ _ _ => FN - (intOf i).toNat)
    case atStart => exact ⟨0, Nat.zero_le _, rfl, Below.refl _ _⟩
    case round =>
      obtain ⟨k, hk, rfl, hB⟩ := hrel
      by_cases hlt : k < FN
      · have HLT := Lib.hid hlt
        have hI : (k : Int) < (FN : Int) := by omega
        have hI0 : (0 : Int) ≤ (k : Int) := by omega
        have W1' : IntKind.i64.wrap ((k : Int) + 1) = (k : Int) + 1 := IntWalk.i64_in _ (by omega)
        obtain ⟨R1, f1, g1, q1, hr1⟩ := (HR9.out.below hB.out).at k hlt
        obtain ⟨R2, f2, g2, q2, hr2⟩ := (HS9.out.below hB.out).at k hlt
        have q3 := hr1 0 (by omega)
        rw [varsAt_head, Nat.add_zero] at q3
        have HREF := Lib.hid (ref_varsAt bits HF.out k (by rw [← HFN.out]; exact hlt))
        have HR1 := Lib.hid hr1
        have HR2 := Lib.hid hr2
        have hxw := heap_below HX9.out hB.out
        have HS0 := Lib.hid (And.intro q1 (And.intro q2 (And.intro q3 (And.intro (cell_of_block hxw 0) (And.intro (cell_of_block hxw 1) (And.intro (cell_of_block hxw 2) (And.intro (cell_of_block hxw 3) (And.intro (cell_of_block hxw 4) (cell_of_block hxw 5)))))))))
        have HBW := Lib.hid (ext_trans HB9.out hB.out)
        clear hr1 hr2 q1 q2 q3 hxw hlt
        go_upto_region 17 with fail
        refine wp_region_noPanic ?_
        refine wp_region_held (S := fun w' => w'.cell? ⟨B1, o1 + k, none⟩ = some (.slice (some ⟨R1, f1, none⟩) N g1) ∧ w'.cell? ⟨B2, o2 + k, none⟩ = some (.slice (some ⟨R2, f2, none⟩) N g2) ∧ w'.cell? ⟨R1, f1, none⟩ = some (.int .u8 0) ∧ w'.cell? ⟨w.heap.size, 0, none⟩ = some (.int .i64 c.ins) ∧ w'.cell? ⟨w.heap.size, 1, none⟩ = some (.slice s.a1 s.n1 s.c1) ∧ w'.cell? ⟨w.heap.size, 2, none⟩ = some (.slice s.a2 s.n2 s.c2) ∧ w'.cell? ⟨w.heap.size, 3, none⟩ = some (.slice s.a3 s.n3 s.c3) ∧ w'.cell? ⟨w.heap.size, 4, none⟩ = some (.slice s.a4 s.n4 s.c4) ∧ w'.cell? ⟨w.heap.size, 5, none⟩ = some (.slice s.a5 s.n5 s.c5)) (by kernel_rfl) ?_
        generalize hY : ({ wr with drawn := wr.drawn + 1 } : World) = Y0
        have hY0 : Below wr.heap.size wr Y0 := by subst hY; exact (Below.refl _ _).drew
        have HSD := Lib.hid (keep9 HS0.out hY0)
        have HYB := Lib.hid hY0
        clear hY0 hY
        refine wpAnyH_take (i := 0) (v := ?_) (by simp only [List.getElem?_toArray, List.getElem?_cons_zero]; rfl) (by kernel_rfl) (by kernel_rfl) (by kernel_rfl) (fun _ _ _ h => h) (Or.inl ⟨by rfl, ?_⟩) HSD.out ?_
        rotate_left
        · intro w hSw
          (try dsimp only at hSw)
          obtain ⟨q0_, q1_, q2_, q3_, q4_, q5_, q6_, q7_, q8_⟩ := hSw
          go_simp
          try with_reducible rfl
        try simp only [Act.put, List.setIfInBounds_toArray, List.set_cons_zero, List.set_cons_succ]
        refine wpAnyH_take (i := 1) (v := ?_) (by simp only [List.getElem?_toArray, List.getElem?_cons_zero, List.getElem?_cons_succ]; rfl) (by kernel_rfl) (by kernel_rfl) (by kernel_rfl) (fun _ _ _ h => h) (Or.inl ⟨by rfl, ?_⟩) HSD.out ?_
        rotate_left
        · intro w hSw
          (try dsimp only at hSw)
          obtain ⟨q0_, q1_, q2_, q3_, q4_, q5_, q6_, q7_, q8_⟩ := hSw
          go_simp
          try with_reducible rfl
        try simp only [Act.put, List.setIfInBounds_toArray, List.set_cons_zero, List.set_cons_succ]
        refine wpAnyH_take (i := 2) (v := ?_) (by simp only [List.getElem?_toArray, List.getElem?_cons_zero, List.getElem?_cons_succ]; rfl) (by kernel_rfl) (by kernel_rfl) (by kernel_rfl) (fun _ _ _ h => h) (Or.inl ⟨by rfl, ?_⟩) HSD.out ?_
        rotate_left
        · intro w hSw
          (try dsimp only at hSw)
          obtain ⟨q0_, q1_, q2_, q3_, q4_, q5_, q6_, q7_, q8_⟩ := hSw
          go_simp
          try with_reducible rfl
        try simp only [Act.put, List.setIfInBounds_toArray, List.set_cons_zero, List.set_cons_succ]
        refine wpAnyH_take (i := 3) (v := ?_) (by simp only [List.getElem?_toArray, List.getElem?_cons_zero, List.getElem?_cons_succ]; rfl) (by kernel_rfl) (by kernel_rfl) (by kernel_rfl) (fun _ _ _ h => h) (Or.inl ⟨by rfl, ?_⟩) HSD.out ?_
        rotate_left
        · intro w hSw
          (try dsimp only at hSw)
          obtain ⟨q0_, q1_, q2_, q3_, q4_, q5_, q6_, q7_, q8_⟩ := hSw
          go_simp
          try with_reducible rfl
        try simp only [Act.put, List.setIfInBounds_toArray, List.set_cons_zero, List.set_cons_succ]
        refine wpAnyH_take (i := 4) (v := ?_) (by simp only [List.getElem?_toArray, List.getElem?_cons_zero, List.getElem?_cons_succ]; rfl) (by kernel_rfl) (by kernel_rfl) (by kernel_rfl) (fun _ _ _ h => h) (Or.inl ⟨by rfl, ?_⟩) HSD.out ?_
        rotate_left
        · intro w hSw
          (try dsimp only at hSw)
          obtain ⟨q0_, q1_, q2_, q3_, q4_, q5_, q6_, q7_, q8_⟩ := hSw
          go_simp
          try with_reducible rfl
        try simp only [Act.put, List.setIfInBounds_toArray, List.set_cons_zero, List.set_cons_succ]
        refine wpAnyH_take (i := 5) (v := ?_) (by simp only [List.getElem?_toArray, List.getElem?_cons_zero, List.getElem?_cons_succ]; rfl) (by kernel_rfl) (by kernel_rfl) (by kernel_rfl) (fun _ _ _ h => h) (Or.inl ⟨by rfl, ?_⟩) HSD.out ?_
        rotate_left
        · intro w hSw
          (try dsimp only at hSw)
          obtain ⟨q0_, q1_, q2_, q3_, q4_, q5_, q6_, q7_, q8_⟩ := hSw
          go_simp
          try with_reducible rfl
        try simp only [Act.put, List.setIfInBounds_toArray, List.set_cons_zero, List.set_cons_succ]
        refine wpAnyH_ready (rs := [6]) (by kernel_rfl) (by simp) ?_
        refine AllReadyH.cons (by simp only [List.getElem?_toArray, List.getElem?_cons_zero, List.getElem?_cons_succ]; rfl) (fun K hK => ?_) AllReadyH.nil
        go_simp
        refine (HVR.out _ (ext_trans HBW.out HYB.out)).mono ?_
        rintro e s1 ⟨rfl, b1⟩
        have HB1 := Lib.hid (ext_trans HYB.out b1)
        have HS1 := Lib.hid (keep9 HS0.out HB1.out)
        clear b1
        refine hK.out _ _ HS1.out (fun _ => ?_)
        clear hK K
        try simp only [Act.put, List.setIfInBounds_toArray, List.set_cons_zero, List.set_cons_succ]
        refine wpAnyH_take (i := 7) (v := ?_) (by simp only [List.getElem?_toArray, List.getElem?_cons_zero, List.getElem?_cons_succ]; rfl) (by kernel_rfl) (by kernel_rfl) (by kernel_rfl) (fun _ _ _ h => h) (Or.inl ⟨by rfl, ?_⟩) HS1.out ?_
        rotate_left
        · intro w hSw
          (try dsimp only at hSw)
          obtain ⟨q0_, q1_, q2_, q3_, q4_, q5_, q6_, q7_, q8_⟩ := hSw
          go_simp
          try with_reducible rfl
        try simp only [Act.put, List.setIfInBounds_toArray, List.set_cons_zero, List.set_cons_succ]
        refine wpAnyH_take (i := 8) (v := ?_) (by simp only [List.getElem?_toArray, List.getElem?_cons_zero, List.getElem?_cons_succ]; rfl) (by kernel_rfl) (by kernel_rfl) (by kernel_rfl) (fun _ _ _ h => h) (Or.inl ⟨by rfl, ?_⟩) HS1.out ?_
        rotate_left
        · intro w hSw
          (try dsimp only at hSw)
          obtain ⟨q0_, q1_, q2_, q3_, q4_, q5_, q6_, q7_, q8_⟩ := hSw
          go_simp
          try with_reducible rfl
        try simp only [Act.put, List.setIfInBounds_toArray, List.set_cons_zero, List.set_cons_succ]
        refine wpAnyH_take (i := 9) (v := ?_) (by simp only [List.getElem?_toArray, List.getElem?_cons_zero, List.getElem?_cons_succ]; rfl) (by kernel_rfl) (by kernel_rfl) (by kernel_rfl) (fun _ _ _ h => h) (Or.inl ⟨by rfl, ?_⟩) HS1.out ?_
        rotate_left
        · intro w hSw
          (try dsimp only at hSw)
          obtain ⟨q0_, q1_, q2_, q3_, q4_, q5_, q6_, q7_, q8_⟩ := hSw
          go_simp
          try with_reducible rfl
        try simp only [Act.put, List.setIfInBounds_toArray, List.set_cons_zero, List.set_cons_succ]
        refine wpAnyH_take (i := 10) (v := ?_) (by simp only [List.getElem?_toArray, List.getElem?_cons_zero, List.getElem?_cons_succ]; rfl) (by kernel_rfl) (by kernel_rfl) (by kernel_rfl) (fun _ _ _ h => h) (Or.inl ⟨by rfl, ?_⟩) HS1.out ?_
        rotate_left
        · intro w hSw
          (try dsimp only at hSw)
          obtain ⟨q0_, q1_, q2_, q3_, q4_, q5_, q6_, q7_, q8_⟩ := hSw
          go_simp
          try with_reducible rfl
        try simp only [Act.put, List.setIfInBounds_toArray, List.set_cons_zero, List.set_cons_succ]
        refine wpAnyH_take (i := 11) (v := ?_) (by simp only [List.getElem?_toArray, List.getElem?_cons_zero, List.getElem?_cons_succ]; rfl) (by kernel_rfl) (by kernel_rfl) (by kernel_rfl) (fun _ _ _ h => h) (Or.inl ⟨by rfl, ?_⟩) HS1.out ?_
        rotate_left
        · intro w hSw
          (try dsimp only at hSw)
          obtain ⟨q0_, q1_, q2_, q3_, q4_, q5_, q6_, q7_, q8_⟩ := hSw
          go_simp
          try with_reducible rfl
        try simp only [Act.put, List.setIfInBounds_toArray, List.set_cons_zero, List.set_cons_succ]
        refine wpAnyH_take (i := 12) (v := ?_) (by simp only [List.getElem?_toArray, List.getElem?_cons_zero, List.getElem?_cons_succ]; rfl) (by kernel_rfl) (by kernel_rfl) (by kernel_rfl) (fun _ _ _ h => h) (Or.inl ⟨by rfl, ?_⟩) HS1.out ?_
        rotate_left
        · intro w hSw
          (try dsimp only at hSw)
          obtain ⟨q0_, q1_, q2_, q3_, q4_, q5_, q6_, q7_, q8_⟩ := hSw
          go_simp
          try with_reducible rfl
        try simp only [Act.put, List.setIfInBounds_toArray, List.set_cons_zero, List.set_cons_succ]
        refine wpAnyH_take (i := 13) (v := ?_) (by simp only [List.getElem?_toArray, List.getElem?_cons_zero, List.getElem?_cons_succ]; rfl) (by kernel_rfl) (by kernel_rfl) (by kernel_rfl) (fun _ _ _ h => h) (Or.inl ⟨by rfl, ?_⟩) HS1.out ?_
        rotate_left
        · intro w hSw
          (try dsimp only at hSw)
          obtain ⟨q0_, q1_, q2_, q3_, q4_, q5_, q6_, q7_, q8_⟩ := hSw
          go_simp
          try with_reducible rfl
        try simp only [Act.put, List.setIfInBounds_toArray, List.set_cons_zero, List.set_cons_succ]
        refine wpAnyH_take (i := 14) (v := ?_) (by simp only [List.getElem?_toArray, List.getElem?_cons_zero, List.getElem?_cons_succ]; rfl) (by kernel_rfl) (by kernel_rfl) (by kernel_rfl) (fun _ _ _ h => h) (Or.inl ⟨by rfl, ?_⟩) HS1.out ?_
        rotate_left
        · intro w hSw
          (try dsimp only at hSw)
          obtain ⟨q0_, q1_, q2_, q3_, q4_, q5_, q6_, q7_, q8_⟩ := hSw
          go_simp
          try with_reducible rfl
        try simp only [Act.put, List.setIfInBounds_toArray, List.set_cons_zero, List.set_cons_succ]
        refine wpAnyH_take (i := 15) (v := ?_) (by simp only [List.getElem?_toArray, List.getElem?_cons_zero, List.getElem?_cons_succ]; rfl) (by kernel_rfl) (by kernel_rfl) (by kernel_rfl) (fun _ _ _ h => h) (Or.inl ⟨by rfl, ?_⟩) HS1.out ?_
        rotate_left
        · intro w hSw
          (try dsimp only at hSw)
          obtain ⟨q0_, q1_, q2_, q3_, q4_, q5_, q6_, q7_, q8_⟩ := hSw
          go_simp
          try with_reducible rfl
        try simp only [Act.put, List.setIfInBounds_toArray, List.set_cons_zero, List.set_cons_succ]
        refine wpAnyH_take (i := 16) (v := ?_) (by simp only [List.getElem?_toArray, List.getElem?_cons_zero, List.getElem?_cons_succ]; rfl) (by kernel_rfl) (by kernel_rfl) (by kernel_rfl) (fun _ _ _ h => h) (Or.inl ⟨by rfl, ?_⟩) HS1.out ?_
        rotate_left
        · intro w hSw
          (try dsimp only at hSw)
          obtain ⟨q0_, q1_, q2_, q3_, q4_, q5_, q6_, q7_, q8_⟩ := hSw
          go_simp
          try with_reducible rfl
        try simp only [Act.put, List.setIfInBounds_toArray, List.set_cons_zero, List.set_cons_succ]
        refine wpAnyH_take (i := 17) (v := ?_) (by simp only [List.getElem?_toArray, List.getElem?_cons_zero, List.getElem?_cons_succ]; rfl) (by kernel_rfl) (by kernel_rfl) (by kernel_rfl) (fun _ _ _ h => h) (Or.inl ⟨by rfl, ?_⟩) HS1.out ?_
        rotate_left
        · intro w hSw
          (try dsimp only at hSw)
          obtain ⟨q0_, q1_, q2_, q3_, q4_, q5_, q6_, q7_, q8_⟩ := hSw
          go_simp
          try with_reducible rfl
        try simp only [Act.put, List.setIfInBounds_toArray, List.set_cons_zero, List.set_cons_succ]
        refine wpAnyH_take (i := 18) (v := ?_) (by simp only [List.getElem?_toArray, List.getElem?_cons_zero, List.getElem?_cons_succ]; rfl) (by kernel_rfl) (by kernel_rfl) (by kernel_rfl) (fun _ _ _ h => h) (Or.inl ⟨by rfl, ?_⟩) HS1.out ?_
        rotate_left
        · intro w hSw
          (try dsimp only at hSw)
          obtain ⟨q0_, q1_, q2_, q3_, q4_, q5_, q6_, q7_, q8_⟩ := hSw
          go_simp
          try with_reducible rfl
        try simp only [Act.put, List.setIfInBounds_toArray, List.set_cons_zero, List.set_cons_succ]
        refine wpAnyH_take (i := 19) (v := ?_) (by simp only [List.getElem?_toArray, List.getElem?_cons_zero, List.getElem?_cons_succ]; rfl) (by kernel_rfl) (by kernel_rfl) (by kernel_rfl) (fun _ _ _ h => h) (Or.inl ⟨by rfl, ?_⟩) HS1.out ?_
        rotate_left
        · intro w hSw
          (try dsimp only at hSw)
          obtain ⟨q0_, q1_, q2_, q3_, q4_, q5_, q6_, q7_, q8_⟩ := hSw
          go_simp
          try with_reducible rfl
        try simp only [Act.put, List.setIfInBounds_toArray, List.set_cons_zero, List.set_cons_succ]
        refine wpAnyH_take (i := 20) (v := ?_) (by simp only [List.getElem?_toArray, List.getElem?_cons_zero, List.getElem?_cons_succ]; rfl) (by kernel_rfl) (by kernel_rfl) (by kernel_rfl) (fun _ _ _ h => h) (Or.inl ⟨by rfl, ?_⟩) HS1.out ?_
        rotate_left
        · intro w hSw
          (try dsimp only at hSw)
          obtain ⟨q0_, q1_, q2_, q3_, q4_, q5_, q6_, q7_, q8_⟩ := hSw
          go_simp
          try with_reducible rfl
        try simp only [Act.put, List.setIfInBounds_toArray, List.set_cons_zero, List.set_cons_succ]
        refine wpAnyH_take (i := 21) (v := ?_) (by simp only [List.getElem?_toArray, List.getElem?_cons_zero, List.getElem?_cons_succ]; rfl) (by kernel_rfl) (by kernel_rfl) (by kernel_rfl) (fun _ _ _ h => h) (Or.inl ⟨by rfl, ?_⟩) HS1.out ?_
        rotate_left
        · intro w hSw
          (try dsimp only at hSw)
          obtain ⟨q0_, q1_, q2_, q3_, q4_, q5_, q6_, q7_, q8_⟩ := hSw
          go_simp
          try with_reducible rfl
        try simp only [Act.put, List.setIfInBounds_toArray, List.set_cons_zero, List.set_cons_succ]
        refine wpAnyH_take (i := 22) (v := ?_) (by simp only [List.getElem?_toArray, List.getElem?_cons_zero, List.getElem?_cons_succ]; rfl) (by kernel_rfl) (by kernel_rfl) (by kernel_rfl) (fun _ _ _ h => h) (Or.inl ⟨by rfl, ?_⟩) HS1.out ?_
        rotate_left
        · intro w hSw
          (try dsimp only at hSw)
          obtain ⟨q0_, q1_, q2_, q3_, q4_, q5_, q6_, q7_, q8_⟩ := hSw
          go_simp
          try with_reducible rfl
        try simp only [Act.put, List.setIfInBounds_toArray, List.set_cons_zero, List.set_cons_succ]
        refine wpAnyH_take (i := 23) (v := ?_) (by simp only [List.getElem?_toArray, List.getElem?_cons_zero, List.getElem?_cons_succ]; rfl) (by kernel_rfl) (by kernel_rfl) (by kernel_rfl) (fun _ _ _ h => h) (Or.inl ⟨by rfl, ?_⟩) HS1.out ?_
        rotate_left
        · intro w hSw
          (try dsimp only at hSw)
          obtain ⟨q0_, q1_, q2_, q3_, q4_, q5_, q6_, q7_, q8_⟩ := hSw
          go_simp
          try with_reducible rfl
        try simp only [Act.put, List.setIfInBounds_toArray, List.set_cons_zero, List.set_cons_succ]
        refine wpAnyH_take (i := 24) (v := ?_) (by simp only [List.getElem?_toArray, List.getElem?_cons_zero, List.getElem?_cons_succ]; rfl) (by kernel_rfl) (by kernel_rfl) (by kernel_rfl) (fun _ _ _ h => h) (Or.inl ⟨by rfl, ?_⟩) HS1.out ?_
        rotate_left
        · intro w hSw
          (try dsimp only at hSw)
          obtain ⟨q0_, q1_, q2_, q3_, q4_, q5_, q6_, q7_, q8_⟩ := hSw
          go_simp
          try with_reducible rfl
        try simp only [Act.put, List.setIfInBounds_toArray, List.set_cons_zero, List.set_cons_succ]
        refine wpAnyH_take (i := 25) (v := ?_) (by simp only [List.getElem?_toArray, List.getElem?_cons_zero, List.getElem?_cons_succ]; rfl) (by kernel_rfl) (by kernel_rfl) (by kernel_rfl) (fun _ _ _ h => h) (Or.inl ⟨by rfl, ?_⟩) HS1.out ?_
        rotate_left
        · intro w hSw
          (try dsimp only at hSw)
          obtain ⟨q0_, q1_, q2_, q3_, q4_, q5_, q6_, q7_, q8_⟩ := hSw
          go_simp
          try with_reducible rfl
        try simp only [Act.put, List.setIfInBounds_toArray, List.set_cons_zero, List.set_cons_succ]
        refine wpAnyH_take (i := 26) (v := ?_) (by simp only [List.getElem?_toArray, List.getElem?_cons_zero, List.getElem?_cons_succ]; rfl) (by kernel_rfl) (by kernel_rfl) (by kernel_rfl) (fun _ _ _ h => h) (Or.inl ⟨by rfl, ?_⟩) HS1.out ?_
        rotate_left
        · intro w hSw
          (try dsimp only at hSw)
          obtain ⟨q0_, q1_, q2_, q3_, q4_, q5_, q6_, q7_, q8_⟩ := hSw
          go_simp
          try with_reducible rfl
        try simp only [Act.put, List.setIfInBounds_toArray, List.set_cons_zero, List.set_cons_succ]
        refine wpAnyH_take (i := 27) (v := ?_) (by simp only [List.getElem?_toArray, List.getElem?_cons_zero, List.getElem?_cons_succ]; rfl) (by kernel_rfl) (by kernel_rfl) (by kernel_rfl) (fun _ _ _ h => h) (Or.inl ⟨by rfl, ?_⟩) HS1.out ?_
        rotate_left
        · intro w hSw
          (try dsimp only at hSw)
          obtain ⟨q0_, q1_, q2_, q3_, q4_, q5_, q6_, q7_, q8_⟩ := hSw
          go_simp
          try with_reducible rfl
        try simp only [Act.put, List.setIfInBounds_toArray, List.set_cons_zero, List.set_cons_succ]
        refine wpAnyH_take (i := 28) (v := ?_) (by simp only [List.getElem?_toArray, List.getElem?_cons_zero, List.getElem?_cons_succ]; rfl) (by kernel_rfl) (by kernel_rfl) (by kernel_rfl) (fun _ _ _ h => h) (Or.inl ⟨by rfl, ?_⟩) HS1.out ?_
        rotate_left
        · intro w hSw
          (try dsimp only at hSw)
          obtain ⟨q0_, q1_, q2_, q3_, q4_, q5_, q6_, q7_, q8_⟩ := hSw
          go_simp
          try with_reducible rfl
        try simp only [Act.put, List.setIfInBounds_toArray, List.set_cons_zero, List.set_cons_succ]
        refine wpAnyH_take (i := 29) (v := ?_) (by simp only [List.getElem?_toArray, List.getElem?_cons_zero, List.getElem?_cons_succ]; rfl) (by kernel_rfl) (by kernel_rfl) (by kernel_rfl) (fun _ _ _ h => h) (Or.inl ⟨by rfl, ?_⟩) HS1.out ?_
        rotate_left
        · intro w hSw
          (try dsimp only at hSw)
          obtain ⟨q0_, q1_, q2_, q3_, q4_, q5_, q6_, q7_, q8_⟩ := hSw
          go_simp
          try with_reducible rfl
        try simp only [Act.put, List.setIfInBounds_toArray, List.set_cons_zero, List.set_cons_succ]
        refine wpAnyH_take (i := 30) (v := ?_) (by simp only [List.getElem?_toArray, List.getElem?_cons_zero, List.getElem?_cons_succ]; rfl) (by kernel_rfl) (by kernel_rfl) (by kernel_rfl) (fun _ _ _ h => h) (Or.inl ⟨by rfl, ?_⟩) HS1.out ?_
        rotate_left
        · intro w hSw
          (try dsimp only at hSw)
          obtain ⟨q0_, q1_, q2_, q3_, q4_, q5_, q6_, q7_, q8_⟩ := hSw
          go_simp
          try with_reducible rfl
        try simp only [Act.put, List.setIfInBounds_toArray, List.set_cons_zero, List.set_cons_succ]
        refine wpAnyH_done (by kernel_rfl) ?_ _
        refine NoPanic.normal ?_

        have HBS := Lib.hid (ext_trans hB.out HB1.out)
        have HS1R := Lib.hid (fun m (hm : m < N) => (cell_below (HR1.out m hm) HB1.out))
        have HS2R := Lib.hid (fun m (hm : m < N) => (cell_below (HR2.out m hm) HB1.out))
        obtain ⟨W10, hW10⟩ : ∃ W, W = s1 := ⟨_, rfl⟩
        subst hW10
        clear HR1 HR2 HS0 HSD HYB HBW hB HB1
        go_wp2_with fail
        go_loopw [138, 17] (fun i _ wr2 => ∃ m : Nat, m ≤ N ∧ i = .int .i64 m ∧ Hid (Below W10.heap.size W10 wr2)) (fun i _ _ => N - (intOf i).toNat)
        case atStart => exact ⟨0, Nat.zero_le _, rfl, Below.refl _ _⟩
        case round =>
          obtain ⟨m, hm, rfl, hB⟩ := hrel
          by_cases hlt : m < N
          · obtain ⟨q1, q2, _⟩ := keep9 HS1.out hB.out
            have r1' := cell_below (HS1R.out m hlt) hB.out
            have r2' := cell_below (HS2R.out m hlt) hB.out
            have hJ : (m : Int) < (N : Int) := by omega
            have hJ0 : (0 : Int) ≤ (m : Int) := by omega
            have W2' : IntKind.i64.wrap ((m : Int) + 1) = (m : Int) + 1 := IntWalk.i64_in _ (by omega)
            have href := HREF.out.2 m
            obtain ⟨u, hu⟩ : ∃ u, u = (varsAt c t k).getD m 0 := ⟨_, rfl⟩
            obtain ⟨u', hu'⟩ : ∃ u, u = (varsAt c (fillT bits t) k).getD m 0 := ⟨_, rfl⟩
            rw [← hu, ← hu'] at href
            rw [← hu] at r1'
            rw [← hu'] at r2'
            have hor : u.toNat = 2 ∨ u.toNat = u'.toNat := href.1.imp id (fun e => by rw [e])
            have hle := href.2
            obtain ⟨y, hy⟩ : ∃ n : Nat, n = u.toNat := ⟨_, rfl⟩
            obtain ⟨v, hv⟩ : ∃ n : Nat, n = u'.toNat := ⟨_, rfl⟩
            rw [← hy] at hor r1'
            rw [← hv] at hor hle r2'
            have f5 : ((v : Int) == 2) = false := by simp; omega
            have f6 : ((v : Int) != 2) = true := by simp; omega
            clear hu hu' hy hv href hle hlt
            by_cases h2 : y = 2
            · have f1 : ((y : Int) != 2) = false := by simp; omega
              have f2 : ((y : Int) == 2) = true := by simp; omega
              clear h2 hor
              go_wp2
              go_quiet (fail)
              go_wp2
              go_roundw
              case rel =>
                rename_i nq
                exact ⟨m + 1, by omega, by go_num, ext_trans hB.out (ext_drewN _ nq)⟩
              case measure => simp [intOf]; omega
            · have f1 : ((y : Int) != 2) = true := by simp; omega
              have f2 : ((y : Int) == 2) = false := by simp; omega
              have h3 : y = v := by omega
              have f3 : ((y : Int) != (v : Int)) = false := by simp; omega
              have f4 : ((y : Int) == (v : Int)) = true := by simp; omega
              clear h2 h3 hor
              go_wp2
              go_quiet (fail)
              go_wp2
              go_roundw
              case rel =>
                rename_i nq
                exact ⟨m + 1, by omega, by go_num, ext_trans hB.out (ext_drewN _ nq)⟩
              case measure => simp [intOf]; omega
          · have HBE := Lib.hid (ext_trans HBS.out hB.out)
            clear hB
            go_wp2
            go_roundw
            case rel => exact ⟨k + 1, by omega, by go_num, HBE.out⟩
            case measure => simp [intOf]; omega
      · have HBE := Lib.hid (ext_trans HB9.out hB.out)
        clear hB
        go_wp2_with fail
        refine (HLV.out _).mono ?_
        rintro e W11 ⟨rfl, hb⟩
        have HBF := Lib.hid (ext_trans HBE.out hb)
        clear hb
        go_wp2
        go_ret
        exact ⟨rfl, HBF.out⟩

end Go.Proofs.Ytjmdgbdlhaaefaa
namespace Go.Proofs.Ytjmdgbdlhaaefaa.simSure
open Go Go.ChangeShapes Go.WideShapes Go.ChangeAt Go.RowKit

set_option maxRecDepth 100000 in
set_option maxHeartbeats 1600000 in
theorem contract (H : Type) (enc : TypeId × Value → H) (W : World) (base : Nat) (args : Array Value) (ds gs : List (DataW H)) (before : List MemPlace)
    (hval : ∀ (j : Nat) t v, Try.f5.params[j]? = some t → args[j]? = some v → Value.okWide Try.prog W .any base t v)
    (hW : DataW.Whole enc Try.prog Try.f5.params.toList Rows.simSureSpec.vars false W args.toList ds gs before)
    (hk : Rows.uptoSmall H (ds ++ gs) = true) :
    Calls Try.prog 5 args W fun e W' => ∃ v, e = .returned v ∧ Rows.simSureSpec.post enc Try.prog Try.f5 false true false false W args v W' := by
  have hW' := hW
  obtain ⟨p, q, hA0, hV, rfl, hfz, hnd⟩ := hW
  have hA : DataW.TrodAll enc Try.prog W 0 (fun _ => true) true Try.f5.params.toList args.toList ds p := hA0
  rw [Try.params5] at hA hval
  obtain ⟨v0, vs0, d0, ds0, p0, q0, hargs, rfl, rfl, h0, r0⟩ := trodAll_cons hA
  obtain ⟨v1, vs1, d1, ds1, p1, q1, rfl, rfl, rfl, h1, r1⟩ := trodAll_cons r0
  obtain ⟨v2, vs2, d2, ds2, p2, q2, rfl, rfl, rfl, h2, r2⟩ := trodAll_cons r1
  obtain ⟨rfl, rfl, rfl⟩ := trodAll_nil r2
  obtain rfl : args = #[v0, v1, v2] := by cases args; simp_all
  obtain ⟨rfl, rfl⟩ := trodVars_none hV
  have hb := bulk_bound hk
  have hb0 := bulk_part (d := d0) (l := [d0, d1, d2] ++ []) (by simp)
  obtain ⟨c0, s0, rfl, hs0, lo0, hi0, m01, m02, m03, m04, m05, w01, w02, w03, w04, w05⟩ := open_cir (hval 0 26 _ rfl rfl) h0
  have sm0 : s0.small := ⟨by omega, by omega, by omega, by omega, by omega⟩
  have wd0 : Wide c0 := ⟨w01, w02, w03, w04, w05⟩
  have hb1 := bulk_part (d := d1) (l := [d0, d1, d2] ++ []) (by simp)
  obtain ⟨t1, s1, rfl, hs1, lo1, hi1, m11, m12, m13⟩ := open_trace (hval 1 30 _ rfl rfl) h1
  have sm1 : s1.small := ⟨by omega, by omega, fun x hx => by have := m13 x hx; omega⟩
  have hb2 := bulk_part (d := d2) (l := [d0, d1, d2] ++ []) (by simp)
  obtain ⟨a2, n2, c2, bs2, rfl, hs2, m2⟩ := open_bools (hval 2 57 _ rfl rfl) h2
  clear hA0 hA
  refine (sure_any c0 t1 bs2 s0 s1 a2 n2 c2 W hs0 hs1 hs2 sm0 sm1 (by omega) lo0 hi0 ⟨lo1, hi1⟩ wd0).mono fun e W' ⟨he, hbel⟩ => ?_
  subst he
  exact ⟨_, rfl, law_end laidOut (by decide +kernel) rfl rfl Try.underlying4 hW' rfl rfl rfl hbel⟩

set_option maxRecDepth 100000 in
theorem lifted (os : Os) (started : os.Started) (H : Type) (enc : TypeId × Value → H) (F : Stop.Interp) :
    ReturnsInHanded {} Try.checked os 5 .any ((Rows.OpenSpec.upto Rows.simSureSpec).pre6 enc Try.prog Try.f5 Rows.simSureUptoRow.domain false) (((Rows.OpenSpec.upto Rows.simSureSpec).at F).post enc Try.prog Try.f5 false true false false) := by
  refine returnsInHanded_of_cond (C := Try.checked) (s := Rows.OpenSpec.upto Rows.simSureSpec) (k := Rows.uptoSmall) rfl own started (by kernel_rfl) Try.func5
    (OpenSpec.witness (enc := enc) (C := Try.checked) (s := Rows.OpenSpec.upto Rows.simSureSpec) (k := Rows.uptoSmall) rfl false ⟨#[], #[.agg #[.int .i64 0, .slice none 0 0, .slice none 0 0, .slice none 0 0, .slice none 0 0, .slice none 0 0], .agg #[.int .i64 0, .slice none 0 0, .slice none 0 0], .slice none 0 0], []⟩ 8 (by kernel_rfl) (by kernel_rfl) (by kernel_rfl)
      (x := ([.agg [.lit (.int .i64 0), .nil, .nil, .nil, .nil, .nil], .agg [.lit (.int .i64 0), .nil, .nil], .nil], [], [])) (by kernel_rfl) rfl (by kernel_rfl)) ?_
  intro W base args ds gs before hval hW _ hk _
  exact contract H enc W base args ds gs before hval hW hk

theorem proved : Rows.SimSureUptoSaid :=
  OpenClaim.holds_of_cond 5 Try.f5 rfl rfl rfl rfl rfl rfl rfl ⟨rfl, rfl, rfl, rfl, rfl⟩ rfl rfl rfl rfl rfl (by kernel_rfl) Try.func5 (by kernel_rfl)
    (of_decide_eq_true (by kernel_rfl)) (by unfold Func.isWrapper; first | (rw [if_pos (by decide +kernel)]; kernel_rfl) | (rw [if_neg (by decide +kernel)]; exact ⟨rfl, rfl⟩))
    (fun os started H enc _ F => lifted os started H enc F)
end Go.Proofs.Ytjmdgbdlhaaefaa.simSure
