/- sim.Run, by its contract. -/
import Derived.Test.YtgplkpfdbiapaaaGreatDoorLib
import Derived.Test.YtgplkpfdbiapaaaGreatDoorNBase
import Derived.Test.YtgplkpfdbiapaaaGreatDoorGA1
import Derived.Test.YtgplkpfdbiapaaaGreatDoorGA3
import Derived.Test.YtgplkpfdbiapaaaGreatDoorNHeap
import Derived.Test.YtgplkpfdbiapaaaGreatDoorGA4
import Derived.Test.YtgplkpfdbiapaaaGreatDoorGB
import Derived.Test.YtgplkpfdbiapaaaGreatDoorSRun
import Derived.Test.YtgplkpfdbiapaaaGreatDoorRows
import Derived.BigQuiet
import Derived.Deep.AppendLies
import Derived.Deep.CutRange
import Derived.Deep.QuietTactic
import Derived.Deep.RegionHeld3
import Derived.Deep.RegionLaw
import Derived.Deep.RegionWith
import Derived.KernelRfl
import Derived.Laws.Bits64b
import Derived.Laws.BitsAllLaws
import Derived.Laws.BitsLemmas
import Derived.Laws.EntriesVeiled
import Derived.Laws.Tables
import Derived.Lib.AppendStr
import Derived.Lib.AppendZeros
import Derived.Lib.ConvBytes
import Derived.Lib.Hide
import Derived.Lib.SlBytesRow
import Derived.Lib.SmallJoins
import Derived.LoopIn
import Derived.LoopNIn
import Derived.Maps.AppendAt
import Derived.OrdersHeld
import Derived.OrdersIn
import Derived.OwnWalkIn
import Derived.RangeFuncBox
import Derived.RangeFuncCalls
import Derived.RangeFuncLeaves
import Derived.RangeFuncNested
import Derived.RangeFuncWrites
import Derived.Shelf.Abstract
import Derived.Shelf.Bytes.SlSmallAll
import Derived.Shelf.RegionOpen
import Derived.Sort.CutIn
import Derived.Stop.RegionWithIn
import Derived.TacticsInMore
import Derived.WalkKit
import Derived.WalkLawsBesides
import Derived.WalkSpells
import Derived.Test.YtgplkpfdbiapaaaGreatDoorOwn
import Derived.Test.YtgplkpfdbiapaaaGreatDoorGE1
import Derived.Test.YtgplkpfdbiapaaaGreatDoorGD1
import Derived.Test.YtgplkpfdbiapaaaGreatDoorShelf
/- sim: the verdict over single values, by its contract. -/
namespace Go.Proofs.YtgplkpfdbiapaaaGreatDoor
open Go Go.RowKit Go.Joins
attribute [local go_sem] Oper.semAt_some

theorem keep4 {w w' : World} {a0 a1 a2 a3 : Addr} {v0 v1 v2 v3 : Value} (h : w.cell? a0 = some v0 ∧ w.cell? a1 = some v1 ∧ w.cell? a2 = some v2 ∧ w.cell? a3 = some v3) (hb : Below w.heap.size w w') : w'.cell? a0 = some v0 ∧ w'.cell? a1 = some v1 ∧ w'.cell? a2 = some v2 ∧ w'.cell? a3 = some v3 := by
  obtain ⟨h0, h1, h2, h3⟩ := h
  have one : ∀ {a : Addr} {v : Value}, w.cell? a = some v → w'.cell? a = some v := fun {a v} h => (hb.cell (World.block_lt_of_cell? _ _ h)).trans h
  exact ⟨one h0, one h1, one h2, one h3⟩
theorem keep6 {w w' : World} {a0 a1 a2 a3 a4 a5 : Addr} {v0 v1 v2 v3 v4 v5 : Value} (h : w.cell? a0 = some v0 ∧ w.cell? a1 = some v1 ∧ w.cell? a2 = some v2 ∧ w.cell? a3 = some v3 ∧ w.cell? a4 = some v4 ∧ w.cell? a5 = some v5) (hb : Below w.heap.size w w') :
    w'.cell? a0 = some v0 ∧ w'.cell? a1 = some v1 ∧ w'.cell? a2 = some v2 ∧ w'.cell? a3 = some v3 ∧ w'.cell? a4 = some v4 ∧ w'.cell? a5 = some v5 := by
  obtain ⟨h0, h1, h2, h3, h4, h5⟩ := h
  have one : ∀ {a : Addr} {v : Value}, w.cell? a = some v → w'.cell? a = some v := fun {a v} h => (hb.cell (World.block_lt_of_cell? _ _ h)).trans h
  exact ⟨one h0, one h1, one h2, one h3, one h4, one h5⟩
theorem keep2 {w w' : World} {a0 a1 : Addr} {v0 v1 : Value} (h : w.cell? a0 = some v0 ∧ w.cell? a1 = some v1) (hb : Below w.heap.size w w') : w'.cell? a0 = some v0 ∧ w'.cell? a1 = some v1 :=
  ⟨(hb.cell (World.block_lt_of_cell? _ _ h.1)).trans h.1, (hb.cell (World.block_lt_of_cell? _ _ h.2)).trans h.2⟩

theorem two_boxes (W : World) (x y : Value) (T : TypeId) : ((W.alloc (.cells #[x] T)).alloc (.cells #[y] T)).drew.heap[W.heap.size]? = some (.cells #[x] T (0, 0)) ∧ ((W.alloc (.cells #[x] T)).alloc (.cells #[y] T)).drew.heap[W.heap.size + 1]? = some (.cells #[y] T (0, 0)) ∧
    Below W.heap.size W ((W.alloc (.cells #[x] T)).alloc (.cells #[y] T)).drew :=
  ⟨heap_below (w := W.alloc (.cells #[x] T)) (heap_new _ _ _ rfl) ((ext_alloc _ _).drew), heap_new (W.alloc (.cells #[x] T)) (.cells #[y] T) _ (by simp), (ext_trans (ext_alloc _ _) (ext_alloc _ _)).drew⟩
theorem Kpt.weaken {base : Nat} {T : TypeId} {g1 g2 : Nat} {A B : World} (h : Kpt base T g1 g1 A B) : Kpt base T g1 g2 A B ∧ Kpt base T g2 g1 A B :=
  ⟨⟨h.low, fun D X t fr hD ht h1 _ => h.mid D X t fr hD ht h1 h1⟩, ⟨h.low, fun D X t fr hD ht _ h1 => h.mid D X t fr hD ht h1 h1⟩⟩
theorem box_set {W : World} {g : Nat} {T : TypeId} {v : Value} (h : W.heap[g]? = some (.cells #[v] T (0, 0))) (u : Value) : (W.setCell ⟨g, 0, none⟩ u).heap[g]? = some (.cells #[u] T (0, 0)) := by
  have h1 := block_setCell h (i := 0) u
  simpa using h1
/-- New memory, then a store into a box. -/
theorem box_step {base B g : Nat} {T : TypeId} {W1 W2 : World} (u : Value) (hb : Below W1.heap.size W1 W2) (h1 : base ≤ W1.heap.size) (h2 : base ≤ g) : Kpt base T g g W1 (W2.setCell ⟨g, 0, none⟩ u) ∧ KeepsFrom B W1 (W2.setCell ⟨g, 0, none⟩ u) :=
  ⟨(Kpt.below hb h1).trans (Kpt.set W2 ⟨g, 0, none⟩ u h2 (.inl rfl)), (keepsFrom_below hb).trans ((KeepsOthers.setCell _ _ _).from _)⟩
theorem varsAt_len (c : NormC) (t : TraceC) (hi : t.init.length = c.lats.length) (hf : ∀ k, k < t.frames.length → ((t.frames.getD k []).length : Int) = c.ins) (k : Nat) (hk : k < t.frames.length) : (varsAt c t k).length = 1 + varsN c := by
  have h1 := hf k hk
  have h2 := k1.after_len c (t.frames.take k) t.init hi
  unfold varsAt
  rw [Kd.vars_len, h2]
  unfold varsN
  omega
/-- What holds between two rounds. -/
structure VInv (c : NormC) (s : CSlots) (t : TraceC) (bad : Nat) (w : World) (g1 g2 k : Nat) (W : World) (p : UInt8 × UInt8) : Prop where
  sum : p = k1.sum c bad (1, 0) (k1.run c t.init (t.frames.take k))
  one : W.heap[g1]? = some (.cells #[bv p.1] 5 (0, 0))
  two : W.heap[g2]? = some (.cells #[bv p.2] 5 (0, 0))
  kind : W.heap[w.heap.size]? = some (.cells #[.int .u8 0, .func (.func 56) #[] #[], .func (.func 57) #[] #[]] 77 (0, 0))
  cir : W.heap[w.heap.size + 1]? = some (.cells #[.int .i64 c.ins, .slice s.a1 s.n1 s.c1, .slice s.a2 s.n2 s.c2, .slice s.a3 s.n3 s.c3, .slice s.a4 s.n4 s.c4, .slice s.a5 s.n5 s.c5] 26 (0, 0))
  bad : W.heap[w.heap.size + 1 + 1]? = some (.cells #[.int .i64 (bad : Int)] 3 (0, 0))
  low : Below w.heap.size w W
theorem VInv.below {c : NormC} {s : CSlots} {t : TraceC} {bad : Nat} {w : World} {g1 g2 k : Nat} {W W' : World} {p : UInt8 × UInt8} (h : VInv c s t bad w g1 g2 k W p) (hb : Below W.heap.size W W') : VInv c s t bad w g1 g2 k W' p :=
  ⟨h.sum, heap_below h.one hb, heap_below h.two hb, heap_below h.kind hb, heap_below h.cir hb, heap_below h.bad hb, ext_trans h.low hb⟩
theorem put_cells {A : World} {l D : Nat} {o o' : Obj} {C : Array Value} {T : TypeId} {fr : Nat × Nat} (hl : A.heap[l]? = some o) (ho : o.isCells = false) (hD : A.heap[D]? = some (.cells C T fr)) : (A.putObj l o').heap[D]? = some (.cells C T fr) :=
  (World.putObj_heap_other (fun e => by subst e; rw [hl] at hD; cases hD; cases ho)).trans hD
theorem VInv.put {c : NormC} {s : CSlots} {t : TraceC} {bad : Nat} {w : World} {g1 g2 k : Nat} {W : World} {p : UInt8 × UInt8} (h : VInv c s t bad w g1 g2 k W p) {l : Nat} {o o' : Obj} (hB : w.heap.size ≤ l) (hl : W.heap[l]? = some o) (ho : o.isCells = false) : VInv c s t bad w g1 g2 k (W.putObj l o') p :=
  ⟨h.sum, put_cells hl ho h.one, put_cells hl ho h.two, put_cells hl ho h.kind, put_cells hl ho h.cir, put_cells hl ho h.bad, h.low.grown (grownBy_putObj' W l o') h.low.size (fun k e => by cases e; exact hB)⟩

end Go.Proofs.YtgplkpfdbiapaaaGreatDoor
/- slices.AppendSeq, slices.Collect over the run's iterator, by their contracts. -/
namespace Go.Proofs.YtgplkpfdbiapaaaGreatDoor
open Go Go.RowKit Go.Joins
attribute [local go_sem] Oper.semAt_some

/-- What has been gathered: k slices, each a row of its own. -/
structure GInv (c : NormC) (t : TraceC) (w : World) (H B k : Nat) (W : World) (v : Value) (ss : List Slc) : Prop where
  len : ss.length = k
  box : W.heap[H]? = some (.cells #[v] 28 (0, 0))
  row : W.ownsRow w.heap.size 27 1 v k (ss.map slV)
  rows : ∀ j, j < k → Row isByte W w.heap.size 5 (slV (ss.getD j slc0)) (varsAt c t j).length ((varsAt c t j).map bv)
  low : Below w.heap.size w W
theorem GInv.below {c : NormC} {t : TraceC} {w : World} {H B k : Nat} {W W' : World} {v : Value} {ss : List Slc} (h : GInv c t w H B k W v ss) (hb : Below W.heap.size W W') : GInv c t w H B k W' v ss :=
  ⟨h.len, heap_below h.box hb, ownsN_below h.row hb, fun j hj => (h.rows j hj).below hb, ext_trans h.low hb⟩
theorem row_put {ok : Value → Prop} {w : World} {base : Nat} {e : TypeId} {v : Value} {n : Nat} {xs : List Value} (h : Row ok w base e v n xs) {l : Nat} {o o' : Obj} (hl : w.heap[l]? = some o) (ho : o.isCells = false) : Row ok (w.putObj l o') base e v n xs :=
  h.other fun q hq => World.putObj_heap_other (fun e2 => by
    subst e2
    rcases h.2 with ⟨h1, _⟩ | ⟨g, cap, cur, h1, _, h2, _⟩
    · rw [h1] at hq; cases hq
    · rw [h1] at hq
      have : g = q := by simpa [Value.ownBlock] using hq
      subst this
      rw [hl] at h2; cases h2; cases ho)
theorem owns_put {w : World} {base sz : Nat} {e : TypeId} {v : Value} {n : Nat} {xs : List Value} (h : w.ownsRow base e sz v n xs) {l : Nat} {o o' : Obj} (hl : w.heap[l]? = some o) (ho : o.isCells = false) : (w.putObj l o').ownsRow base e sz v n xs :=
  ownsN_other h fun q hq => World.putObj_heap_other (fun e2 => by
    subst e2
    rcases h.2 with ⟨h1, _⟩ | ⟨g, cap, cur, h1, _, h2, _⟩
    · rw [h1] at hq; cases hq
    · rw [h1] at hq
      have : g = q := by simpa [Value.ownBlock] using hq
      subst this
      rw [hl] at h2; cases h2; cases ho)
theorem GInv.put {c : NormC} {t : TraceC} {w : World} {H B k : Nat} {W : World} {v : Value} {ss : List Slc} (h : GInv c t w H B k W v ss) {l : Nat} {o o' : Obj} (hB : w.heap.size ≤ l) (hl : W.heap[l]? = some o) (ho : o.isCells = false) : GInv c t w H B k (W.putObj l o') v ss :=
  ⟨h.len, (World.putObj_heap_other (fun e => by subst e; have := h.box; rw [hl] at this; cases this; cases ho)).trans h.box, owns_put h.row hl ho, fun j hj => row_put (h.rows j hj) hl ho, h.low.grown (grownBy_putObj' W l o') h.low.size (fun k e => by cases e; exact hB)⟩

set_option maxRecDepth 100000 in
set_option maxHeartbeats 3200000 in
theorem appendseq_any (c : NormC) (s : CSlots) (t : TraceC) (st : TSlots) (w0 : World) (sb kb cb tb : Nat) (w : World)
    (hw0 : w0.heap.size ≤ w.heap.size) (hR : ∀ W : World, Below w.heap.size w W → w.heap.size < W.heap.size → RunAt c s t st w0 sb kb cb tb w.heap.size w.heap.size W) :
    Calls Tryz.prog 55 #[.slice none 0 0, .func (.func 58) #[] #[.pointer (some ⟨sb, 0, none⟩), .pointer (some ⟨kb, 0, none⟩), .pointer (some ⟨cb, 0, none⟩)]] w
      fun e W' => ∃ (v : Value) (ss : List Slc), e = .returned v ∧ ss.length = t.frames.length ∧ W'.ownsRow w.heap.size 27 1 v t.frames.length (ss.map slV) ∧ (∀ j, j < t.frames.length → Row isByte W' w.heap.size 5 (slV (ss.getD j slc0)) (varsAt c t j).length ((varsAt c t j).map bv)) ∧ Below w.heap.size w W' := by
  refine (callsIn_wide (n := 0)).1 ?_
  refine callsIn_of_wp_marks Tryz.func55 rfl trivial ?_ rfl
  simp only [Tryz.ntmps55, List.size_toArray, List.length_cons, List.length_nil, Nat.reduceAdd, Nat.reduceSub, Array.replicate_succ, Array.replicate_zero, List.push_toArray, List.append_toArray, List.nil_append, List.cons_append]
  have HW0 : Hid (w0.heap.size ≤ w.heap.size) := hw0
  have HR := Lib.hid hR
  clear hR hw0
  gi_wp2
  obtain ⟨W1, hW1⟩ : ∃ W1, W1 = w.alloc (.cells #[.slice none 0 0] 28) := ⟨_, rfl⟩
  rw [← hW1]
  have hb1 : Below w.heap.size w W1 := by rw [hW1]; exact ext_alloc _ _
  have hx1 : W1.heap[w.heap.size]? = some (.cells #[.slice none 0 0] 28 (0, 0)) := by rw [hW1]; exact heap_new _ _ _ rfl
  have hlt1 : w.heap.size < W1.heap.size := heap_lt hx1
  have HRA := Lib.hid (HR.out W1 hb1 hlt1)
  have HLT := Lib.hid hlt1
  clear hW1 HR hlt1
  obtain ⟨i0, hi, hz0, hz1, hz2⟩ := info_parts info_u8s
  refine wp_rangeFunc (gf := 58) (lb := #[.pointer (some ⟨sb, 0, none⟩), .pointer (some ⟨kb, 0, none⟩), .pointer (some ⟨cb, 0, none⟩)]) rfl (enters_of Tryz.func58 (by kernel_rfl) rfl)
    (run1_iter c s t st w0 sb kb cb tb w.heap.size w.heap.size W1 HRA.out) Kpt.trans (fun W l o o' hl h ho => Kpt.put W l o o' (Nat.le_trans HRA.out.low.size hl) h ho)
    (fun k xs W h => by obtain ⟨a, cp, e, _⟩ := h; rw [e]; rfl) (elem_puts _ _ _)
    (fun k W => ∃ v ss, GInv c t w w.heap.size 0 k W v ss) (fun k A B h hb => by obtain ⟨v, ss, h⟩ := h; exact ⟨v, ss, h.below hb⟩) (fun k A l o o' h hl ho hc => by obtain ⟨v, ss, h⟩ := h; exact ⟨v, ss, h.put (Nat.le_trans hb1.size hl) ho hc⟩)
    ⟨.slice none 0 0, [], rfl, hx1, ⟨rfl, .inl ⟨rfl, rfl⟩⟩, fun j hj => absurd hj (by omega), hb1⟩
    (fun xs => { tmps := #[.slice none 0 0, .func (.func 58) #[] #[.pointer (some ⟨sb, 0, none⟩), .pointer (some ⟨kb, 0, none⟩), .pointer (some ⟨cb, 0, none⟩)], .pointer (some ⟨w.heap.size, 0, none⟩), undef, .slice none 0 0, xs.getD 0 undef, .func (.func 58) #[] #[.pointer (some ⟨sb, 0, none⟩), .pointer (some ⟨kb, 0, none⟩), .pointer (some ⟨cb, 0, none⟩)], xs.getD 0 undef, undef, undef, undef, undef, undef], defers := [] }) ?assign ?body ?done
  case assign =>
    rintro l k xs W K ⟨va, vc, rfl, _⟩ hKK
    gi_wp2
    exact hKK
  case body =>
    rintro l k xs W hkN ⟨v, ss, hV⟩ ⟨va, vc, rfl, hrow⟩
    have hc := cell_of_block hV.box 0
    have hc2 : W.cell? ⟨w.heap.size, 0, none⟩ = some v := hc
    have hfew := HRA.out.few
    have hsz : w.heap.size < W.heap.size := heap_lt hV.box
    obtain ⟨N, hN⟩ : ∃ N, N = (varsAt c t k).length := ⟨_, rfl⟩
    rw [← hN] at hrow ⊢
    have HNN := Lib.hid hN
    clear hc hN
    have hfz := unfrozen_of_block hV.box 0
    obtain ⟨ga, gc, rfl⟩ := ownsN_form hV.row
    have HV := Lib.hid hV
    have HROW := Lib.hid hrow
    have HF := Lib.hid (And.intro hkN hfew)
    clear hV hrow hfew hkN
    gi_wp2_with (gi_at_builtin; refine wpListIn_append_own _ rfl _ _ 28 rfl w.heap.size 27 i0 (.slice none 0 0) 1 24 Tryz.underlying28 hi hz0 hz1 hz2 rfl (by decide) _ _ _ rfl (ownsN_below HV.out.row (ext_alloc _ _)) ⟨W.heap.size, 0, none⟩ 1 1 [.slice va N vc] rfl rfl (cell_one_new _ _ _) (by simp [Value.oneCell']) (by have := HF.out; unfold maxLen; omega) (by have := HF.out; omega) (by simp; omega) ?_; intro v' w1 hown' hgrow _; obtain ⟨a', c', rfl⟩ := ownsN_form hown'; have hbx := heap_grown (heap_below HV.out.box (ext_alloc W (.cells #[.slice va N vc] 27))) hgrow (ownsN_notown (ownsN_below HV.out.row (ext_alloc W (.cells #[.slice va N vc] 27))) (heap_below HV.out.box (ext_alloc W (.cells #[.slice va N vc] 27))) (by decide)); have hc3 : w1.cell? ⟨w.heap.size, 0, none⟩ = some (.slice ga k gc) := cell_of_block hbx 0; have hf3 := unfrozen_of_block hbx 0)
    have hal := ext_alloc W (.cells #[.slice va N vc] 27)
    have hro := ownsN_below HV.out.row hal
    obtain ⟨WA, hWA⟩ : ∃ WA, WA = W.alloc (.cells #[.slice va N vc] 27) := ⟨_, rfl⟩
    rw [← hWA] at hgrow hal hro
    have hne : ∀ (D : Nat) (C : Array Value) (T : TypeId) (fr : Nat × Nat), WA.heap[D]? = some (.cells C T fr) → T ≠ 27 → w1.heap[D]? = some (.cells C T fr) := fun D C T fr hD hT => heap_grown hD hgrow (ownsN_notown hro hD hT)
    have hcl : ∀ q, (Value.slice ga k gc).ownBlock = some q → ∀ o : Obj, WA.heap[q]? = some o → o.isCells = true := fun q hq o ho => by
      rcases hro.2 with ⟨h1, _⟩ | ⟨g, cap, cur, h1, _, h2, _⟩
      · rw [h1] at hq; cases hq
      · rw [h1] at hq
        have : g = q := by simpa [Value.ownBlock] using hq
        subst this
        rw [h2] at ho; cases ho; rfl
    have hbA : Below w.heap.size w WA := ext_trans HV.out.low hal
    have hb1' : Below w.heap.size w w1 := hbA.grown hgrow hbA.size (fun q hq => (hro.lt q hq).1)
    have hset : KeepsFrom W1.heap.size W (w1.setCell ⟨w.heap.size, 0, none⟩ (.slice a' (k + 1) c')) := (keepsFrom_below hal).trans (((KeepsOthers.of_grownBy hgrow (fun j o e ho => hcl j e o ho)).from _).trans ((KeepsOthers.setCell _ _ _).from _))
    have hkp : Kpt w0.heap.size 27 w.heap.size w.heap.size W (w1.setCell ⟨w.heap.size, 0, none⟩ (.slice a' (k + 1) c')) := by
      have h0 : w0.heap.size ≤ w.heap.size := HW0.out
      refine (Kpt.below hal (Nat.le_trans h0 HV.out.low.size)).trans (Kpt.trans (B := w1) ⟨?_, fun D C T fr hD hT _ _ => hne D C T fr hD hT⟩ (Kpt.set w1 ⟨w.heap.size, 0, none⟩ _ h0 (.inl rfl)))
      exact (Below.refl _ WA).grown hgrow (Nat.le_trans h0 hbA.size) (fun q hq => Nat.le_trans h0 (hro.lt q hq).1)
    refine ⟨hset, hkp, .slice a' (k + 1) c', ss ++ [(va, N, vc)], by simp [HV.out.len], box_set hbx _, ?_, fun j hj => ?_, hb1'.setCell (p := ⟨w.heap.size, 0, none⟩) (Nat.le_refl _) _⟩
    · have h1 : w1.ownsRow w.heap.size 27 1 (.slice a' (k + 1) c') (k + 1) ((ss ++ [(va, N, vc)]).map slV) := by simpa [slV] using hown'
      exact ownsN_other h1 fun q hq => Below.heap_setCell w1 ⟨w.heap.size, 0, none⟩ _ q (fun e => (ownsN_notown h1 hbx (by decide)) (by rw [hq, e]))
    · have one : ∀ {x : Slc} {V : List UInt8}, Row isByte WA w.heap.size 5 (slV x) V.length (V.map bv) → Row isByte (w1.setCell ⟨w.heap.size, 0, none⟩ (.slice a' (k + 1) c')) w.heap.size 5 (slV x) V.length (V.map bv) := fun {x V} hx => by
        have h1 := row_grown hx hro hgrow (by decide)
        exact h1.other fun q hq => Below.heap_setCell w1 ⟨w.heap.size, 0, none⟩ _ q (fun e => (h1.not_own hbx (by decide)) (by rw [hq, e]))
      by_cases e : j = k
      · subst e
        have e1 : (ss ++ [(va, N, vc)]).getD j slc0 = (va, N, vc) := by rw [← HV.out.len]; simp
        rw [e1]
        refine one ?_
        rw [← HNN.out]
        exact (HROW.out.below hal).base_le hb1.size
      · have e1 : (ss ++ [(va, N, vc)]).getD j slc0 = ss.getD j slc0 := by simp [List.getD, List.getElem?_append_left (show j < ss.length by rw [HV.out.len]; omega)]
        rw [e1]
        exact one ((HV.out.rows j (by omega)).below hal)
  case done =>
    rintro D W hDle ⟨v, ss, hV⟩ hD
    have hc := cell_of_block hV.box 0
    have hc2 : W.cell? ⟨w.heap.size, 0, none⟩ = some v := hc
    have HV := Lib.hid hV
    have HD := Lib.hid hD
    clear hc hV hD
    gi_wp2
    refine ⟨by simp, .inl ⟨_, _, rfl, run_takeDeferred HD.out, ?_⟩⟩
    exact ⟨_, results_tmp rfl _ _ _, ⟨v, ss, rfl, HV.out.len, owns_put HV.out.row HD.out rfl, fun j hj => row_put (HV.out.rows j hj) HD.out rfl, HV.out.low.grown (grownBy_putObj' _ _ _) HV.out.low.size (fun k e => by cases e; exact Nat.le_trans hb1.size hDle)⟩⟩

set_option maxRecDepth 100000 in
theorem collect_any (c : NormC) (s : CSlots) (t : TraceC) (st : TSlots) (w0 : World) (sb kb cb tb : Nat) (w : World)
    (hw0 : w0.heap.size ≤ w.heap.size) (hR : ∀ W : World, Below w.heap.size w W → w.heap.size < W.heap.size → RunAt c s t st w0 sb kb cb tb w.heap.size w.heap.size W) :
    Calls Tryz.prog 29 #[.func (.func 58) #[] #[.pointer (some ⟨sb, 0, none⟩), .pointer (some ⟨kb, 0, none⟩), .pointer (some ⟨cb, 0, none⟩)]] w
      fun e W' => ∃ (v : Value) (ss : List Slc), e = .returned v ∧ ss.length = t.frames.length ∧ W'.ownsRow w.heap.size 27 1 v t.frames.length (ss.map slV) ∧ (∀ j, j < t.frames.length → Row isByte W' w.heap.size 5 (slV (ss.getD j slc0)) (varsAt c t j).length ((varsAt c t j).map bv)) ∧ Below w.heap.size w W' := by
  have HA := Lib.hid (appendseq_any c s t st w0 sb kb cb tb w hw0 hR)
  clear hR hw0
  go_enter Tryz.func29, Tryz.ntmps29
  go_wp2_with fail
  refine HA.out.mono ?_
  rintro e W' ⟨v, ss, rfl, h1, h2, h3, h4⟩
  have H := Lib.hid (And.intro h1 (And.intro h2 (And.intro h3 h4)))
  clear h1 h2 h3 h4
  go_wp2
  go_ret
  exact ⟨v, ss, rfl, H.out⟩
end Go.Proofs.YtgplkpfdbiapaaaGreatDoor
namespace Go.Proofs.YtgplkpfdbiapaaaGreatDoor
open Go Go.RowKit Go.Joins

theorem owns_base {w : World} {base base' sz : Nat} {e : TypeId} {v : Value} {n : Nat} {xs : List Value} (h : w.ownsRow base e sz v n xs) (hb : base' ≤ base) : w.ownsRow base' e sz v n xs := by
  refine ⟨h.1, ?_⟩
  rcases h.2 with h2 | ⟨g, cap, cur, hv, hg, r⟩
  · exact .inl h2
  · exact .inr ⟨g, cap, cur, hv, Nat.le_trans hb hg, r⟩
theorem runat_of {c : NormC} {s : CSlots} {t : TraceC} {st : TSlots} {w w2 w3 W : World} {tb : Nat} (hC : SeesCir w s c) (hT : SeesTr w st t) (hF : FitsC c t) (hs : s.small) (hb : Below w.heap.size w W)
    (hr : w3.heap[w2.heap.size]? = some (.cells #[.int .u8 0, .func (.func 56) #[] #[], .func (.func 57) #[] #[]] 77 (0, 0)) ∧ w3.heap[w2.heap.size + 1]? = some (.cells #[.int .i64 c.ins, .slice s.a1 s.n1 s.c1, .slice s.a2 s.n2 s.c2, .slice s.a3 s.n3 s.c3, .slice s.a4 s.n4 s.c4, .slice s.a5 s.n5 s.c5] 26 (0, 0)) ∧
      w3.heap[w2.heap.size + 2]? = some (.cells #[.slice st.a1 st.n1 st.c1, .int .i64 (st.n2 : Int), .func (.func 60) #[] #[.pointer (some ⟨tb, 0, none⟩)]] 82 (0, 0)) ∧ w3.heap[tb]? = some (.cells #[.int .i64 t.bad, .slice st.a1 st.n1 st.c1, .slice st.a2 st.n2 st.c2] 30 (0, 0)))
    (hz : w2.heap.size ≤ w3.heap.size ∧ tb < w2.heap.size ∧ w2.heap.size + 2 < w3.heap.size) (hb3 : Below w3.heap.size w3 W) (hlt : w3.heap.size < W.heap.size) :
    RunAt c s t st w (w2.heap.size + 2) w2.heap.size (w2.heap.size + 1) tb w3.heap.size w3.heap.size W :=
  { cir := hC, tr := hT, low := hb, may := hF.may, small := hs, init := hF.init, frames := hF.frames, few := hF.few
    feed := heap_below hr.2.2.1 hb3, kind := heap_below hr.1 hb3, box := heap_below hr.2.1 hb3, tbox := heap_below hr.2.2.2 hb3, lt1 := hlt, lt2 := hlt
    ne1 := ⟨by omega, by omega, by omega, by omega⟩, ne2 := ⟨by omega, by omega, by omega, by omega⟩ }

/-- The run, list by list. -/
def runL (c : NormC) (t : TraceC) : List (List UInt8) := (List.range t.frames.length).map (varsAt c t)
/-- What Run answers. -/
def RunPost (c : NormC) (t : TraceC) (w : World) (e : Ending) (w' : World) : Prop :=
  (fitsS c t = true → ∃ (v : Value) (ss : List Slc), e = .returned (.tuple #[v, .int .i64 0]) ∧ ss.length = t.frames.length ∧ w'.ownsRow w.heap.size 27 1 v t.frames.length (ss.map slV) ∧ (∀ j, j < t.frames.length → Row isByte w' w.heap.size 5 (slV (ss.getD j slc0)) (varsAt c t j).length ((varsAt c t j).map bv))) ∧
  (fitsS c t = false → e = .returned (.tuple #[.slice none 0 0, .int .i64 2])) ∧ Below w.heap.size w w'
set_option maxRecDepth 100000 in
set_option maxHeartbeats 3200000 in
theorem run_any2 (c : NormC) (t : TraceC) (s : CSlots) (st : TSlots) (w : World) (h : SeesCir w s c) (ht : SeesTr w st t) (hs : s.small) (hst : st.small) (hlo : -9223372036854775808 ≤ c.ins) (hhi : c.ins < 9223372036854775808) (hb1 : -9223372036854775808 ≤ t.bad ∧ t.bad < 9223372036854775808) :
    Calls Tryz.prog 15 #[cirV c.ins s, traceV t.bad st] w (RunPost c t w) := by
  have HFIT := Lib.hid (fun W (hb : Below w.heap.size w W) => fits_any c t s st W (h.below hb) (ht.below hb) hs hst hlo hhi hb1)
  have HFC : Hid (fitsS c t = true → FitsC c t) := fits_iff.1
  have HE : Hid (∀ e w', RunPost c t w e w' ↔ (fitsS c t = true → ∃ (v : Value) (ss : List Slc), e = .returned (.tuple #[v, .int .i64 0]) ∧ ss.length = t.frames.length ∧ w'.ownsRow w.heap.size 27 1 v t.frames.length (ss.map slV) ∧ (∀ j, j < t.frames.length → Row isByte w' w.heap.size 5 (slV (ss.getD j slc0)) (varsAt c t j).length ((varsAt c t j).map bv))) ∧ (fitsS c t = false → e = .returned (.tuple #[.slice none 0 0, .int .i64 2])) ∧ Below w.heap.size w w') := fun _ _ => Iff.rfl
  obtain ⟨q, hq⟩ : ∃ q, q = fitsS c t := ⟨_, rfl⟩
  rw [← hq] at HFIT HFC HE
  clear hq
  have HC := Lib.hid h
  have HT := Lib.hid ht
  clear h ht hlo hhi hb1
  unfold cirV traceV at *
  go_enter Tryz.func15, Tryz.ntmps15
  go_upto_region 1 with fail
  generalize hW : World.alloc (World.alloc w _) _ = W1
  have hb : Below w.heap.size w W1 := by subst hW; exact ext_trans (ext_alloc _ _) (ext_alloc _ _)
  have hx : W1.heap[w.heap.size]? = some (.cells #[.int .i64 c.ins, .slice s.a1 s.n1 s.c1, .slice s.a2 s.n2 s.c2, .slice s.a3 s.n3 s.c3, .slice s.a4 s.n4 s.c4, .slice s.a5 s.n5 s.c5] 26 (0, 0)) := by subst hW; exact heap_below (heap_new _ _ _ rfl) (ext_alloc _ _)
  have hy : W1.heap[w.heap.size + 1]? = some (.cells #[.int .i64 t.bad, .slice st.a1 st.n1 st.c1, .slice st.a2 st.n2 st.c2] 30 (0, 0)) := by subst hW; exact heap_new _ _ _ (by simp)
  have HB := Lib.hid hb
  have HX := Lib.hid hx
  have HY := Lib.hid hy
  clear hW hb hx hy
  have p0 := cell_of_block HX.out 0
  have p1 := cell_of_block HX.out 1
  have p2 := cell_of_block HX.out 2
  have p3 := cell_of_block HX.out 3
  have p4 := cell_of_block HX.out 4
  have p5 := cell_of_block HX.out 5
  have r0 := cell_of_block HY.out 0
  have r1 := cell_of_block HY.out 1
  have r2 := cell_of_block HY.out 2
  go_wp2_with fail
  refine (HFIT.out W1 HB.out).mono ?_
  rintro e W2 ⟨rfl, hb⟩
  have HX2 := Lib.hid (heap_below HX.out hb)
  have HY2 := Lib.hid (heap_below HY.out hb)
  have HB2 := Lib.hid (ext_trans HB.out hb)
  clear hb p0 p1 p2 p3 p4 p5 r0 r1 r2 HFIT HX HY HB
  cases q with
  | false =>
    go_wp2
    go_ret2
    exact (HE.out _ _).2 ⟨(fun h => by cases h), fun _ => rfl, HB2.out⟩
  | true =>
    have HF := Lib.hid (HFC.out rfl)
    have HSG : Hid (∀ W, Calls Tryz.prog 30 #[] W fun e w' => e = .returned (.agg #[.int .u8 0, .func (.func 56) #[] #[], .func (.func 57) #[] #[]]) ∧ Below W.heap.size W w') := single_any
    have HAL := Lib.hid (fun W => alone_any t.bad st W)
    unfold traceV at HAL
    have HRN := Lib.hid (run_any #[.int .u8 0, .func (.func 56) #[] #[], .func (.func 57) #[] #[]] #[.int .i64 c.ins, .slice s.a1 s.n1 s.c1, .slice s.a2 s.n2 s.c2, .slice s.a3 s.n3 s.c3, .slice s.a4 s.n4 s.c4, .slice s.a5 s.n5 s.c5])
    have HS0 := Lib.hid (keep63 HX2.out HY2.out)
    clear HFC
    go_wp2_with fail
    go_region_held3 (fun w' => w'.cell? ⟨w.heap.size, 0, none⟩ = some (.int .i64 c.ins) ∧ w'.cell? ⟨w.heap.size, 1, none⟩ = some (.slice s.a1 s.n1 s.c1) ∧ w'.cell? ⟨w.heap.size, 2, none⟩ = some (.slice s.a2 s.n2 s.c2) ∧ w'.cell? ⟨w.heap.size, 3, none⟩ = some (.slice s.a3 s.n3 s.c3) ∧ w'.cell? ⟨w.heap.size, 4, none⟩ = some (.slice s.a4 s.n4 s.c4) ∧ w'.cell? ⟨w.heap.size, 5, none⟩ = some (.slice s.a5 s.n5 s.c5) ∧ w'.cell? ⟨w.heap.size + 1, 0, none⟩ = some (.int .i64 t.bad) ∧ w'.cell? ⟨w.heap.size + 1, 1, none⟩ = some (.slice st.a1 st.n1 st.c1) ∧ w'.cell? ⟨w.heap.size + 1, 2, none⟩ = some (.slice st.a2 st.n2 st.c2))
      (first | with_reducible exact HS0.out | with_reducible exact keep63 (heap_below HX2.out ((Below.refl _ W2).drew)) (heap_below HY2.out ((Below.refl _ W2).drew)) | with_reducible exact HS1.out | with_reducible exact HS2.out | with_reducible exact HS3.out | with_reducible exact HS4.out | go_keep)
      (first
        | (go_at_call 30; (with_reducible refine (HSG.out _).mono ?_); rintro e s1 ⟨rfl, b1⟩; have HB3 := Lib.hid (below_undrew b1); have HS1 := Lib.hid (keep63 (heap_below HX2.out HB3.out) (heap_below HY2.out HB3.out)); clear b1)
        | (go_at_call 32; (with_reducible refine (HAL.out _).mono ?_); rintro e s2 ⟨rfl, htb, b2⟩; have HTB := Lib.hid htb; have HB4 := Lib.hid (ext_trans HB3.out b2); have HS2 := Lib.hid (keep63 (heap_below HX2.out HB4.out) (heap_below HY2.out HB4.out)); clear b2 htb)
        | (go_at_call 31; (with_reducible refine (HRN.out _ _).mono ?_); rintro e s3 ⟨rfl, hkb, hcb, hsb, b3⟩; have HRB := Lib.hid (And.intro hkb (And.intro hcb (And.intro hsb (heap_below HTB.out b3)))); have HSZ := Lib.hid (And.intro b3.size (And.intro (heap_lt HTB.out) (heap_lt hsb))); have HB5 := Lib.hid (ext_trans HB4.out b3); have HS3 := Lib.hid (keep63 (heap_below HX2.out HB5.out) (heap_below HY2.out HB5.out)); clear b3 hkb hcb hsb)
        | (go_at_call 29; (with_reducible refine (collect_any c s t st w _ _ _ _ _ (ext_trans HB2.out HB5.out).size (fun W hb hlt => runat_of HC.out HT.out HF.out hs (ext_trans (ext_trans HB2.out HB5.out) hb) HRB.out HSZ.out hb hlt)).mono ?_); rintro e s4 ⟨v4, ss4, rfl, hl4, ho4, hr4, b4⟩; have HO4 := Lib.hid (And.intro hl4 (And.intro ho4 hr4)); have HB6 := Lib.hid (ext_trans HB5.out b4); have HS4 := Lib.hid (keep63 (heap_below HX2.out HB6.out) (heap_below HY2.out HB6.out)); clear b4 hl4 ho4 hr4))
    all_goals go_wp2
    all_goals go_ret2
    all_goals exact (HE.out _ _).2 ⟨fun _ => ⟨v4, ss4, rfl, HO4.out.1, owns_base HO4.out.2.1 (ext_trans HB2.out HB5.out).size, fun j hj => (HO4.out.2.2 j hj).base_le (ext_trans HB2.out HB5.out).size⟩, (fun h => by cases h), ext_trans HB2.out HB6.out⟩
end Go.Proofs.YtgplkpfdbiapaaaGreatDoor
