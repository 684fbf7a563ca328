/- sim: the verdict over single values, by its contract. -/
import Derived.Test.YtgpkghlhlabjcaaLib
import Derived.Test.YtgpkghlhlabjcaaNBase
import Derived.Test.YtgpkghlhlabjcaaRawPred
import Derived.Test.YtgpkghlhlabjcaaNStep
import Derived.Test.YtgpkghlhlabjcaaNSpec
import Derived.Test.YtgpkghlhlabjcaaNVal
import Derived.Test.YtgpkghlhlabjcaaNTrace
import Derived.Test.YtgpkghlhlabjcaaNCirc
import Derived.Test.YtgpkghlhlabjcaaNOwns
import Derived.Test.YtgpkghlhlabjcaaNHeap
import Derived.Test.YtgpkghlhlabjcaaNHeap2
import Derived.Test.YtgpkghlhlabjcaaNPeel
import Derived.Test.YtgpkghlhlabjcaaTBits
import Derived.Test.YtgpkghlhlabjcaaSSpec
import Derived.Test.YtgpkghlhlabjcaaTMay
import Derived.Test.YtgpkghlhlabjcaaSVal
import Derived.Test.YtgpkghlhlabjcaaSRange
import Derived.Test.YtgpkghlhlabjcaaSRun
import Derived.Test.YtgpkghlhlabjcaaLpF
import Derived.Test.YtgpkghlhlabjcaaRows
import Derived.BigQuiet
import Derived.Deep.AppendLies
import Derived.Deep.CutRange
import Derived.Deep.QuietTactic
import Derived.Deep.RegionHeld3
import Derived.Deep.RegionLaw
import Derived.Deep.RegionWith
import Derived.KernelRfl
import Derived.Laws.Bits64b
import Derived.Laws.BitsAllLaws
import Derived.Laws.BitsLemmas
import Derived.Laws.EntriesVeiled
import Derived.Laws.Tables
import Derived.Lib.AppendStr
import Derived.Lib.AppendZeros
import Derived.Lib.ConvBytes
import Derived.Lib.Hide
import Derived.Lib.SlBytesRow
import Derived.Lib.SmallJoins
import Derived.LoopIn
import Derived.LoopNIn
import Derived.Maps.AppendAt
import Derived.OrdersHeld
import Derived.OrdersIn
import Derived.OwnWalkIn
import Derived.RangeFuncBox
import Derived.RangeFuncCalls
import Derived.RangeFuncLeaves
import Derived.RangeFuncNested
import Derived.RangeFuncWrites
import Derived.Shelf.Abstract
import Derived.Shelf.Bytes.SlSmallAll
import Derived.Shelf.RegionOpen
import Derived.Sort.CutIn
import Derived.Stop.RegionWithIn
import Derived.TacticsInMore
import Derived.WalkKit
import Derived.WalkLawsBesides
import Derived.WalkSpells
namespace Go.Proofs.Ytgpkghlhlabjcaa
open Go Go.RowKit Go.Joins
attribute [local go_sem] Oper.semAt_some

theorem keep4 {w w' : World} {a0 a1 a2 a3 : Addr} {v0 v1 v2 v3 : Value} (h : w.cell? a0 = some v0 ∧ w.cell? a1 = some v1 ∧ w.cell? a2 = some v2 ∧ w.cell? a3 = some v3) (hb : Below w.heap.size w w') : w'.cell? a0 = some v0 ∧ w'.cell? a1 = some v1 ∧ w'.cell? a2 = some v2 ∧ w'.cell? a3 = some v3 := by
  obtain ⟨h0, h1, h2, h3⟩ := h
  have one : ∀ {a : Addr} {v : Value}, w.cell? a = some v → w'.cell? a = some v := fun {a v} h => (hb.cell (World.block_lt_of_cell? _ _ h)).trans h
  exact ⟨one h0, one h1, one h2, one h3⟩
theorem keep6 {w w' : World} {a0 a1 a2 a3 a4 a5 : Addr} {v0 v1 v2 v3 v4 v5 : Value} (h : w.cell? a0 = some v0 ∧ w.cell? a1 = some v1 ∧ w.cell? a2 = some v2 ∧ w.cell? a3 = some v3 ∧ w.cell? a4 = some v4 ∧ w.cell? a5 = some v5) (hb : Below w.heap.size w w') :
    w'.cell? a0 = some v0 ∧ w'.cell? a1 = some v1 ∧ w'.cell? a2 = some v2 ∧ w'.cell? a3 = some v3 ∧ w'.cell? a4 = some v4 ∧ w'.cell? a5 = some v5 := by
  obtain ⟨h0, h1, h2, h3, h4, h5⟩ := h
  have one : ∀ {a : Addr} {v : Value}, w.cell? a = some v → w'.cell? a = some v := fun {a v} h => (hb.cell (World.block_lt_of_cell? _ _ h)).trans h
  exact ⟨one h0, one h1, one h2, one h3, one h4, one h5⟩
theorem keep2 {w w' : World} {a0 a1 : Addr} {v0 v1 : Value} (h : w.cell? a0 = some v0 ∧ w.cell? a1 = some v1) (hb : Below w.heap.size w w') : w'.cell? a0 = some v0 ∧ w'.cell? a1 = some v1 :=
  ⟨(hb.cell (World.block_lt_of_cell? _ _ h.1)).trans h.1, (hb.cell (World.block_lt_of_cell? _ _ h.2)).trans h.2⟩

theorem two_boxes (W : World) (x y : Value) (T : TypeId) : ((W.alloc (.cells #[x] T)).alloc (.cells #[y] T)).drew.heap[W.heap.size]? = some (.cells #[x] T (0, 0)) ∧ ((W.alloc (.cells #[x] T)).alloc (.cells #[y] T)).drew.heap[W.heap.size + 1]? = some (.cells #[y] T (0, 0)) ∧
    Below W.heap.size W ((W.alloc (.cells #[x] T)).alloc (.cells #[y] T)).drew :=
  ⟨heap_below (w := W.alloc (.cells #[x] T)) (heap_new _ _ _ rfl) ((ext_alloc _ _).drew), heap_new (W.alloc (.cells #[x] T)) (.cells #[y] T) _ (by simp), (ext_trans (ext_alloc _ _) (ext_alloc _ _)).drew⟩
theorem Kpt.weaken {base : Nat} {T : TypeId} {g1 g2 : Nat} {A B : World} (h : Kpt base T g1 g1 A B) : Kpt base T g1 g2 A B ∧ Kpt base T g2 g1 A B :=
  ⟨⟨h.low, fun D X t fr hD ht h1 _ => h.mid D X t fr hD ht h1 h1⟩, ⟨h.low, fun D X t fr hD ht _ h1 => h.mid D X t fr hD ht h1 h1⟩⟩
theorem box_set {W : World} {g : Nat} {T : TypeId} {v : Value} (h : W.heap[g]? = some (.cells #[v] T (0, 0))) (u : Value) : (W.setCell ⟨g, 0, none⟩ u).heap[g]? = some (.cells #[u] T (0, 0)) := by
  have h1 := block_setCell h (i := 0) u
  simpa using h1
/-- New memory, then a store into a box. -/
theorem box_step {base B g : Nat} {T : TypeId} {W1 W2 : World} (u : Value) (hb : Below W1.heap.size W1 W2) (h1 : base ≤ W1.heap.size) (h2 : base ≤ g) : Kpt base T g g W1 (W2.setCell ⟨g, 0, none⟩ u) ∧ KeepsFrom B W1 (W2.setCell ⟨g, 0, none⟩ u) :=
  ⟨(Kpt.below hb h1).trans (Kpt.set W2 ⟨g, 0, none⟩ u h2 (.inl rfl)), (keepsFrom_below hb).trans ((KeepsOthers.setCell _ _ _).from _)⟩
theorem varsAt_len (c : NormC) (t : TraceC) (hi : t.init.length = c.lats.length) (hf : ∀ k, k < t.frames.length → ((t.frames.getD k []).length : Int) = c.ins) (k : Nat) (hk : k < t.frames.length) : (varsAt c t k).length = 1 + varsN c := by
  have h1 := hf k hk
  have h2 := k1.after_len c (t.frames.take k) t.init hi
  unfold varsAt
  rw [Kd.vars_len, h2]
  unfold varsN
  omega
/-- What holds between two rounds. -/
structure VInv (c : NormC) (s : CSlots) (t : TraceC) (bad : Nat) (w : World) (g1 g2 k : Nat) (W : World) (p : UInt8 × UInt8) : Prop where
  sum : p = k1.sum c bad (1, 0) (k1.run c t.init (t.frames.take k))
  one : W.heap[g1]? = some (.cells #[bv p.1] 5 (0, 0))
  two : W.heap[g2]? = some (.cells #[bv p.2] 5 (0, 0))
  kind : W.heap[w.heap.size]? = some (.cells #[.int .u8 0, .func (.func 54) #[] #[], .func (.func 55) #[] #[]] 72 (0, 0))
  cir : W.heap[w.heap.size + 1]? = some (.cells #[.int .i64 c.ins, .slice s.a1 s.n1 s.c1, .slice s.a2 s.n2 s.c2, .slice s.a3 s.n3 s.c3, .slice s.a4 s.n4 s.c4, .slice s.a5 s.n5 s.c5] 26 (0, 0))
  bad : W.heap[w.heap.size + 1 + 1]? = some (.cells #[.int .i64 (bad : Int)] 3 (0, 0))
  low : Below w.heap.size w W
theorem VInv.below {c : NormC} {s : CSlots} {t : TraceC} {bad : Nat} {w : World} {g1 g2 k : Nat} {W W' : World} {p : UInt8 × UInt8} (h : VInv c s t bad w g1 g2 k W p) (hb : Below W.heap.size W W') : VInv c s t bad w g1 g2 k W' p :=
  ⟨h.sum, heap_below h.one hb, heap_below h.two hb, heap_below h.kind hb, heap_below h.cir hb, heap_below h.bad hb, ext_trans h.low hb⟩
theorem put_cells {A : World} {l D : Nat} {o o' : Obj} {C : Array Value} {T : TypeId} {fr : Nat × Nat} (hl : A.heap[l]? = some o) (ho : o.isCells = false) (hD : A.heap[D]? = some (.cells C T fr)) : (A.putObj l o').heap[D]? = some (.cells C T fr) :=
  (World.putObj_heap_other (fun e => by subst e; rw [hl] at hD; cases hD; cases ho)).trans hD
theorem VInv.put {c : NormC} {s : CSlots} {t : TraceC} {bad : Nat} {w : World} {g1 g2 k : Nat} {W : World} {p : UInt8 × UInt8} (h : VInv c s t bad w g1 g2 k W p) {l : Nat} {o o' : Obj} (hB : w.heap.size ≤ l) (hl : W.heap[l]? = some o) (ho : o.isCells = false) : VInv c s t bad w g1 g2 k (W.putObj l o') p :=
  ⟨h.sum, put_cells hl ho h.one, put_cells hl ho h.two, put_cells hl ho h.kind, put_cells hl ho h.cir, put_cells hl ho h.bad, h.low.grown (grownBy_putObj' W l o') h.low.size (fun k e => by cases e; exact hB)⟩

set_option maxRecDepth 100000 in
set_option maxHeartbeats 3200000 in
theorem verdict_any (c : NormC) (s : CSlots) (t : TraceC) (st : TSlots) (bad : Nat) (w : World) (hc : SeesCir w s c) (ht : SeesTr w st t) (hm : MayC c) (hs : s.small) (hi : t.init.length = c.lats.length)
    (hf : ∀ k, k < t.frames.length → ((t.frames.getD k []).length : Int) = c.ins) (hfew : t.frames.length ≤ 256) (hbad : bad < c.bads.length) (tb : Nat) (htb : w.heap[tb]? = some (.cells #[.int .i64 t.bad, .slice st.a1 st.n1 st.c1, .slice st.a2 st.n2 st.c2] 30 (0, 0))) :
    Calls Try.prog 40 #[kv1, cirV c.ins s, .int .i64 (bad : Int), .agg #[.slice st.a1 st.n1 st.c1, .int .i64 (st.n2 : Int), .func (.func 57) #[] #[.pointer (some ⟨tb, 0, none⟩)]]] w
      fun e w' => e = .returned (bv (k1.verdict c bad t.init t.frames)) ∧ Below w.heap.size w w' := by
  have HC := Lib.hid hc
  have HT := Lib.hid ht
  have HTB := Lib.hid htb
  have HM := Lib.hid hm
  have HI := Lib.hid hi
  have HF := Lib.hid hf
  have HBAD := Lib.hid hbad
  clear hc ht htb hm hi hf hbad
  refine (callsIn_wide (n := 0)).1 ?_
  refine callsIn_of_wp_marks Try.func40 rfl trivial ?_ rfl
  simp only [Try.ntmps40, List.size_toArray, List.length_cons, List.length_nil, Nat.reduceAdd, Nat.reduceSub, Array.replicate_succ, Array.replicate_zero, List.push_toArray, List.append_toArray, List.nil_append, List.cons_append]
  unfold kv1 cirV
  gi_upto_region 1 with fail
  generalize hW : World.alloc (World.alloc (World.alloc (World.alloc w _) _) _) _ = W1
  have B1 : Below w.heap.size w W1 := by subst hW; exact ext_trans (ext_alloc _ _) (ext_trans (ext_alloc _ _) (ext_trans (ext_alloc _ _) (ext_alloc _ _)))
  have hK : W1.heap[w.heap.size]? = some (.cells #[.int .u8 0, .func (.func 54) #[] #[], .func (.func 55) #[] #[]] 72 (0, 0)) := by subst hW; exact heap_below (heap_below (heap_below (heap_new _ _ _ rfl) (ext_alloc _ _)) (ext_alloc _ _)) (ext_alloc _ _)
  have hX : W1.heap[w.heap.size + 1]? = some (.cells #[.int .i64 c.ins, .slice s.a1 s.n1 s.c1, .slice s.a2 s.n2 s.c2, .slice s.a3 s.n3 s.c3, .slice s.a4 s.n4 s.c4, .slice s.a5 s.n5 s.c5] 26 (0, 0)) := by subst hW; exact heap_below (heap_below (heap_new _ _ _ (by simp)) (ext_alloc _ _)) (ext_alloc _ _)
  have hY : W1.heap[w.heap.size + 1 + 1]? = some (.cells #[.int .i64 (bad : Int)] 3 (0, 0)) := by subst hW; exact heap_below (heap_new _ _ _ (by simp)) (ext_alloc _ _)
  have hZ : W1.heap[w.heap.size + 1 + 1 + 1]? = some (.cells #[.slice st.a1 st.n1 st.c1, .int .i64 (st.n2 : Int), .func (.func 57) #[] #[.pointer (some ⟨tb, 0, none⟩)]] 77 (0, 0)) := by subst hW; exact heap_new _ _ _ (by simp)
  have HB1 := Lib.hid B1
  have HK := Lib.hid hK
  have HX := Lib.hid hX
  have HY := Lib.hid hY
  have HZ := Lib.hid hZ
  clear hW B1 hK hX hY hZ
  gi_cut [9, 10] from 14 (fun v9 v10 wx => ∃ g1 g2 : Nat, v9 = .pointer (some ⟨g1, 0, none⟩) ∧ v10 = .pointer (some ⟨g2, 0, none⟩) ∧ Hid (W1.heap.size ≤ g1 ∧ W1.heap.size ≤ g2 ∧ g1 ≠ g2) ∧ Hid (wx.heap[g1]? = some (.cells #[bv 1] 5 (0, 0))) ∧ Hid (wx.heap[g2]? = some (.cells #[bv 0] 5 (0, 0))) ∧ Hid (Below W1.heap.size W1 wx))
  case first =>
    refine wpIn_wide.2 ?_
    have p0 : W1.cell? ⟨w.heap.size, 0, none⟩ = some (.int .u8 0) := cell_of_block HK.out 0
    have p1 : W1.cell? ⟨w.heap.size, 1, none⟩ = some (.func (.func 54) #[] #[]) := cell_of_block HK.out 1
    have HNOT : Hid (∀ W, Calls Try.prog 54 #[.int .u8 0] W fun e w' => e = .returned (.int .u8 1) ∧ w' = W) := fun W => not1_any 0 W
    have HP := Lib.hid (And.intro p0 p1)
    have HL := Lib.hid (And.intro (heap_lt HK.out) (heap_lt HZ.out))
    clear p0 p1
    go_region_held3 (fun w' => w'.cell? ⟨w.heap.size, 0, none⟩ = some (.int .u8 0) ∧ w'.cell? ⟨w.heap.size, 1, none⟩ = some (.func (.func 54) #[] #[]))
      (first | with_reducible exact HP.out | with_reducible exact ⟨cell_drew HP.out.1, cell_drew HP.out.2⟩ | exact keep2 HP.out (by repeat (first | with_reducible exact Below.refl _ _ | with_reducible refine Below.drew ?_ | with_reducible refine Below.setCell ?_ (by simp) _ | with_reducible refine Below.alloc ?_ (by simp) _)))
      (first
        | (go_at_call 54; (with_reducible refine (HNOT.out _).mono ?_); rintro e s1 ⟨rfl, rfl⟩))
    all_goals go_wp2
    all_goals go_meet
    all_goals first
      | exact ⟨_, _, rfl, rfl, ⟨Nat.le_refl _, Nat.le_succ _, by omega⟩, (two_boxes W1 (.int .u8 1) (.int .u8 0) _).1, (two_boxes W1 (.int .u8 1) (.int .u8 0) _).2.1, (two_boxes W1 (.int .u8 1) (.int .u8 0) _).2.2⟩
      | exact ⟨_, _, rfl, rfl, ⟨Nat.le_succ _, Nat.le_refl _, by omega⟩, (two_boxes W1 (.int .u8 0) (.int .u8 1) _).2.1, (two_boxes W1 (.int .u8 0) (.int .u8 1) _).1, (two_boxes W1 (.int .u8 0) (.int .u8 1) _).2.2⟩
  case rest =>
    obtain ⟨g1, g2, rfl, rfl, hg, hg1, hg2, hb⟩ := hcut
    have HK2 := Lib.hid (heap_below HK.out hb.out)
    have HX2 := Lib.hid (heap_below HX.out hb.out)
    have HY2 := Lib.hid (heap_below HY.out hb.out)
    have HZ2 := Lib.hid (heap_below HZ.out hb.out)
    have HB2 := Lib.hid (ext_trans HB1.out hb.out)
    have HLT := Lib.hid (And.intro (heap_lt HK.out) (And.intro (heap_lt HX.out) (And.intro (heap_lt HY.out) (heap_lt HZ.out))))
    have HW1 := Lib.hid HB1.out.size
    have p0 : wc.cell? ⟨w.heap.size, 0, none⟩ = some (.int .u8 0) := cell_of_block HK2.out 0
    have p1 : wc.cell? ⟨w.heap.size, 1, none⟩ = some (.func (.func 54) #[] #[]) := cell_of_block HK2.out 1
    have p2 : wc.cell? ⟨w.heap.size, 2, none⟩ = some (.func (.func 55) #[] #[]) := cell_of_block HK2.out 2
    have q0 : wc.cell? ⟨w.heap.size + 1, 0, none⟩ = some (.int .i64 c.ins) := cell_of_block HX2.out 0
    have q1 : wc.cell? ⟨w.heap.size + 1, 1, none⟩ = some (.slice s.a1 s.n1 s.c1) := cell_of_block HX2.out 1
    have q2 : wc.cell? ⟨w.heap.size + 1, 2, none⟩ = some (.slice s.a2 s.n2 s.c2) := cell_of_block HX2.out 2
    have q3 : wc.cell? ⟨w.heap.size + 1, 3, none⟩ = some (.slice s.a3 s.n3 s.c3) := cell_of_block HX2.out 3
    have q4 : wc.cell? ⟨w.heap.size + 1, 4, none⟩ = some (.slice s.a4 s.n4 s.c4) := cell_of_block HX2.out 4
    have q5 : wc.cell? ⟨w.heap.size + 1, 5, none⟩ = some (.slice s.a5 s.n5 s.c5) := cell_of_block HX2.out 5
    have r0 : wc.cell? ⟨w.heap.size + 1 + 1 + 1, 0, none⟩ = some (.slice st.a1 st.n1 st.c1) := cell_of_block HZ2.out 0
    have r1 : wc.cell? ⟨w.heap.size + 1 + 1 + 1, 1, none⟩ = some (.int .i64 (st.n2 : Int)) := cell_of_block HZ2.out 1
    have r2 : wc.cell? ⟨w.heap.size + 1 + 1 + 1, 2, none⟩ = some (.func (.func 57) #[] #[.pointer (some ⟨tb, 0, none⟩)]) := cell_of_block HZ2.out 2
    clear HK HX HY HZ HB1 hb
    gi_wp2_with fail
    refine ⟨trivial, rfl, ?_⟩
    refine (callsIn_wide.2 (run_any _ _ _ _)).mono ?_
    rintro e W2 ⟨rfl, hk, hx, hf, hb⟩
    have G1 := Lib.hid (heap_below hg1.out hb)
    have G2 := Lib.hid (heap_below hg2.out hb)
    have HK3 := Lib.hid (heap_below HK2.out hb)
    have HX3 := Lib.hid (heap_below HX2.out hb)
    have HY3 := Lib.hid (heap_below HY2.out hb)
    have HB3 := Lib.hid (ext_trans HB2.out hb)
    have hgl1 := heap_lt hg1.out
    have hgl2 := heap_lt hg2.out
    have HRA : Hid (RunAt c s t st w (wc.heap.size + 2) wc.heap.size (wc.heap.size + 1) tb g1 g2 W2) :=
      { cir := HC.out, tr := HT.out, low := HB3.out, may := HM.out, small := hs, init := HI.out, frames := HF.out, few := hfew, feed := hf, kind := hk, box := hx,
        tbox := heap_below HTB.out HB3.out, lt1 := Nat.lt_of_lt_of_le hgl1 hb.size, lt2 := Nat.lt_of_lt_of_le hgl2 hb.size,
        ne1 := by
          have h1 := heap_lt HTB.out
          have h2 := hg.out
          have h3 := HW1.out
          exact ⟨by omega, by omega, by omega, by omega⟩
        ne2 := by
          have h1 := heap_lt HTB.out
          have h2 := hg.out
          have h3 := HW1.out
          exact ⟨by omega, by omega, by omega, by omega⟩ }
    have HW2 := Lib.hid hb.size
    clear hk hx hf hb HK2 HX2 HY2 HZ2 HB2 hg1 hg2 p0 p1 p2 q0 q1 q2 q3 q4 q5 r0 r1 r2
    gi_wp2
    refine wp_rangeFunc (gf := 60) (lb := #[.pointer (some ⟨wc.heap.size + 2, 0, none⟩), .pointer (some ⟨wc.heap.size, 0, none⟩), .pointer (some ⟨wc.heap.size + 1, 0, none⟩)]) rfl (enters_of Try.func60 (by kernel_rfl) rfl)
      (run1_iter c s t st w (wc.heap.size + 2) wc.heap.size (wc.heap.size + 1) tb g1 g2 W2 HRA.out) Kpt.trans (fun W l o o' hl h ho => Kpt.put W l o o' (Nat.le_trans HB3.out.size hl) h ho)
      (fun k xs W h => by obtain ⟨a, cp, e, _⟩ := h; rw [e]; rfl) (elem_puts _ _ _)
      (fun k W => ∃ p, VInv c s t bad w g1 g2 k W p) (fun k A B h hb => by obtain ⟨p, h⟩ := h; exact ⟨p, h.below hb⟩) (fun k A l o o' h hl ho hc => by obtain ⟨p, h⟩ := h; exact ⟨p, h.put (Nat.le_trans HB3.out.size hl) ho hc⟩)
      ⟨(1, 0), rfl, G1.out, G2.out, HK3.out, HX3.out, HY3.out, HB3.out⟩ (fun xs => { tmps := #[.agg #[.int .u8 0, .func (.func 54) #[] #[], .func (.func 55) #[] #[]], .agg #[.int .i64 c.ins, .slice s.a1 s.n1 s.c1, .slice s.a2 s.n2 s.c2, .slice s.a3 s.n3 s.c3, .slice s.a4 s.n4 s.c4, .slice s.a5 s.n5 s.c5], .int .i64 (bad : Int), .agg #[.slice st.a1 st.n1 st.c1, .int .i64 (st.n2 : Int), .func (.func 57) #[] #[.pointer (some ⟨tb, 0, none⟩)]], .pointer (some ⟨w.heap.size, 0, none⟩), .pointer (some ⟨w.heap.size + 1, 0, none⟩), .pointer (some ⟨w.heap.size + 1 + 1, 0, none⟩), .pointer (some ⟨w.heap.size + 1 + 1 + 1, 0, none⟩), .int .u8 0, .pointer (some ⟨g1, 0, none⟩), .pointer (some ⟨g2, 0, none⟩), xs.getD 0 undef, undef, undef, u14, u15, u16, u17, u18, u19, u20, .agg #[.int .u8 0, .func (.func 54) #[] #[], .func (.func 55) #[] #[]], .agg #[.int .i64 c.ins, .slice s.a1 s.n1 s.c1, .slice s.a2 s.n2 s.c2, .slice s.a3 s.n3 s.c3, .slice s.a4 s.n4 s.c4, .slice s.a5 s.n5 s.c5], .agg #[.slice st.a1 st.n1 st.c1, .int .i64 (st.n2 : Int), .func (.func 57) #[] #[.pointer (some ⟨tb, 0, none⟩)]], .func (.func 60) #[] #[.pointer (some ⟨wc.heap.size + 2, 0, none⟩), .pointer (some ⟨wc.heap.size, 0, none⟩), .pointer (some ⟨wc.heap.size + 1, 0, none⟩)], xs.getD 0 undef, u26, u27, u28, u29, u30, u31, u32, u33, u34, u35, u36, u37, u38, u39, u40, u41, u42, u43, u44, u45, u46, u47, u48, u49, u50, u51, u52, u53, u54], defers := [] }) ?assign ?body ?done
    case assign =>
      rintro l k xs W K ⟨va, vc, rfl, _⟩ hKK
      gi_wp2
      exact hKK
    case body =>
      rintro l k xs W hkN ⟨p, hV⟩ ⟨va, vc, rfl, hrow⟩
      have hsee := (row_sees_slice hrow).2
      have q5 : W.cell? ⟨w.heap.size + 1, 5, none⟩ = some (.slice s.a5 s.n5 s.c5) := cell_of_block hV.cir 5
      have hvl := varsAt_len c t HI.out HF.out k hkN
      have hfew := HM.out.few
      have hcons : Hid (∀ j, j < s.n5 → c.cons.getD j 0 / 2 < (varsAt c t k).length ∧ c.cons.getD j 0 < 4294967296) := fun j hj => by
        have h1 := HM.out.cons _ (getD_mem (d := 0) (show j < c.cons.length by rw [HC.out.s5.lenMap]; exact hj))
        omega
      have hbadl : Hid (c.bads.getD bad 0 / 2 < (varsAt c t k).length ∧ c.bads.getD bad 0 < 4294967296) := by
        have h1 := HM.out.bads _ (getD_mem (d := 0) HBAD.out)
        show _ ∧ _
        omega
      have hn5 : Hid (c.cons.length = s.n5) := HC.out.s5.lenMap
      have hn5b : s.n5 ≤ 1048576 := hs.n5
      have HV := Lib.hid hV
      have HSEE : Hid (StOk w.heap.size W2.heap.size W va (varsAt c t k).length vc ((varsAt c t k).map bv)) := ⟨hsee, .inr hrow⟩
      have HGL := Lib.hid (And.intro (heap_lt G1.out) (heap_lt G2.out))
      clear hV hsee hrow hvl hfew
      gi_upto_region 4 with fail
      gi_wp2
      clear q5
      gi_loopw [29, 13] (fun i _ wr => ∃ (j : Nat), j ≤ s.n5 ∧ i = .int .i64 j ∧ Hid (wr.heap[g1]? = some (.cells #[bv (k1.cons (varsAt c t k) p.1 (c.cons.take j))] 5 (0, 0))) ∧ Hid (Kpt w.heap.size 27 g1 g1 W wr) ∧ Hid (KeepsFrom W2.heap.size W wr)) (fun i _ _ => s.n5 - (intOf i).toNat)
      case atStart => exact ⟨0, Nat.zero_le _, rfl, HV.out.one, Kpt.below (Below.refl _ _) HV.out.low.size, KeepsFrom.refl _ _⟩
      case round =>
        obtain ⟨j, hj, rfl, hone, hkp, hkf⟩ := hrel
        by_cases hlt : j < s.n5
        · obtain ⟨cb, off, hca, _⟩ := HC.out.s5.addr (show 0 < s.n5 by omega)
          have hlow : Below w.heap.size w wr := HV.out.low.trans hkp.out.low
          have hsx := HC.out.s5.below hlow
          rw [hca] at hsx
          have hcx := (hsx.cell j hlt).2
          rw [List.getElem?_map, List.getElem?_eq_getElem (show j < c.cons.length by rw [hn5.out]; exact hlt)] at hcx
          have hcd : c.cons[j]'(by rw [hn5.out]; exact hlt) = c.cons.getD j 0 := by simp [List.getD, List.getElem?_eq_getElem (show j < c.cons.length by rw [hn5.out]; exact hlt)]
          rw [hcd] at hcx
          have htk : c.cons.take (j + 1) = c.cons.take j ++ [c.cons.getD j 0] := by
            rw [List.take_add_one, List.getElem?_eq_getElem (by rw [hn5.out]; exact hlt)]; simp [hcd]
          have hlit := hcons.out j hlt
          obtain ⟨x, hx⟩ : ∃ x, x = c.cons.getD j 0 := ⟨_, rfl⟩
          rw [← hx] at hcx hlit htk
          have hcx2 : wr.cell? ⟨cb, off + j, none⟩ = some (.int .u32 (x : Int)) := hcx
          have hval := fun W' (hb : Below wr.heap.size wr W') => value_any (varsAt c t k) va (varsAt c t k).length vc x W' ((HSEE.out.kpt hkp.out (by decide) HGL.out.1 HGL.out.1).1.below hb) hlit.1 hlit.2
          have hk4 := hkp.out.mid _ _ _ _ HV.out.kind (by decide) (by have := heap_lt HV.out.kind; have := hg.out; have := HLT.out; have := HW1.out; omega) (by have := hg.out; have := HLT.out; have := HW1.out; omega)
          obtain ⟨XC, hXC⟩ : ∃ XC, XC = k1.cons (varsAt c t k) p.1 (c.cons.take j) := ⟨_, rfl⟩
          rw [← hXC] at hone
          obtain ⟨na, hna⟩ : ∃ na, na = k1.val (varsAt c t k) x := ⟨_, rfl⟩
          have HNEXT : Hid (k1.cons (varsAt c t k) p.1 (c.cons.take (j + 1)) = k1.an XC na) := by show _ = _; rw [htk, Kd.cons_snoc, hXC, hna]
          rw [← hna] at hval
          obtain ⟨nx, hnx⟩ : ∃ nx : Nat, nx = XC.toNat := ⟨_, rfl⟩
          have hbx : bv XC = .int .u8 (nx : Int) := by rw [hnx]; rfl
          have hba : bv na = .int .u8 (na.toNat : Int) := rfl
          obtain ⟨nn, hnn⟩ : ∃ nn : Nat, nn = na.toNat := ⟨_, rfl⟩
          rw [hba, ← hnn] at hval
          have HAND := Lib.hid (and1_any nx nn)
          have HRES : Hid (bv (k1.an XC na) = .int .u8 ((and1 nx nn : Nat) : Int)) := by show _ = _; rw [bv_and, hnx, hnn]
          obtain ⟨nr, hnr⟩ : ∃ nr : Nat, nr = and1 nx nn := ⟨_, rfl⟩
          rw [← hnr] at HAND HRES
          have HVAL := Lib.hid hval
          rw [hbx] at hone
          have p0 : wr.cell? ⟨w.heap.size, 0, none⟩ = some (.int .u8 0) := cell_of_block hk4 0
          have p1 : wr.cell? ⟨w.heap.size, 1, none⟩ = some (.func (.func 54) #[] #[]) := cell_of_block hk4 1
          have p2 : wr.cell? ⟨w.heap.size, 2, none⟩ = some (.func (.func 55) #[] #[]) := cell_of_block hk4 2
          have o1 : wr.cell? ⟨g1, 0, none⟩ = some (.int .u8 (nx : Int)) := cell_of_block hone.out 0
          have o2 := unfrozen_of_block hone.out 0
          have W1' : IntKind.i64.wrap ((j : Int) + 1) = (j : Int) + 1 := IntWalk.i64_in _ (by omega)
          have HLOW := Lib.hid hlow
          have HCA := Lib.hid hca
          rw [hca]
          clear hval hnx hbx hba hnn hnr hna hXC htk hlit hcd hcx hsx hx hk4 hlow hca
          gi_upto_region 7 with fail
          have HS0 := Lib.hid (And.intro p0 (And.intro p1 (And.intro p2 o1)))
          have HSD := Lib.hid (keep4 HS0.out ((Below.refl _ wr).drew))
          refine wpIn_region_peelN (S := fun w' => w'.cell? ⟨w.heap.size, 0, none⟩ = some (.int .u8 0) ∧ w'.cell? ⟨w.heap.size, 1, none⟩ = some (.func (.func 54) #[] #[]) ∧ w'.cell? ⟨w.heap.size, 2, none⟩ = some (.func (.func 55) #[] #[]) ∧ w'.cell? ⟨g1, 0, none⟩ = some (.int .u8 (nx : Int))) 8 (by kernel_rfl) (by kernel_rfl) rfl (by simp only [List.getElem?_toArray, List.getElem?_cons_zero, List.getElem?_cons_succ]; rfl) (by kernel_rfl) ?_
          simp only [List.pop_toArray, List.dropLast_cons_cons, List.dropLast_singleton]
          refine wpAnyH_take (i := 0) (v := ?_) (by simp only [List.getElem?_toArray, List.getElem?_cons_zero]; rfl) (by kernel_rfl) (by kernel_rfl) (by kernel_rfl) (fun _ _ _ h => h) (Or.inl ⟨by rfl, ?_⟩) HSD.out ?_
          rotate_left
          · intro w hSw
            (try dsimp only at hSw)
            obtain ⟨q0_, q1_, q2_, q3_⟩ := hSw
            go_simp
            try with_reducible rfl
          try simp only [Act.put, List.setIfInBounds_toArray, List.set_cons_zero, List.set_cons_succ]
          refine wpAnyH_take (i := 1) (v := ?_) (by simp only [List.getElem?_toArray, List.getElem?_cons_zero, List.getElem?_cons_succ]; rfl) (by kernel_rfl) (by kernel_rfl) (by kernel_rfl) (fun _ _ _ h => h) (Or.inl ⟨by rfl, ?_⟩) HSD.out ?_
          rotate_left
          · intro w hSw
            (try dsimp only at hSw)
            obtain ⟨q0_, q1_, q2_, q3_⟩ := hSw
            go_simp
            try with_reducible rfl
          try simp only [Act.put, List.setIfInBounds_toArray, List.set_cons_zero, List.set_cons_succ]
          refine wpAnyH_take (i := 2) (v := ?_) (by simp only [List.getElem?_toArray, List.getElem?_cons_zero, List.getElem?_cons_succ]; rfl) (by kernel_rfl) (by kernel_rfl) (by kernel_rfl) (fun _ _ _ h => h) (Or.inl ⟨by rfl, ?_⟩) HSD.out ?_
          rotate_left
          · intro w hSw
            (try dsimp only at hSw)
            obtain ⟨q0_, q1_, q2_, q3_⟩ := hSw
            go_simp
            try with_reducible rfl
          try simp only [Act.put, List.setIfInBounds_toArray, List.set_cons_zero, List.set_cons_succ]
          refine wpAnyH_take (i := 3) (v := ?_) (by simp only [List.getElem?_toArray, List.getElem?_cons_zero, List.getElem?_cons_succ]; rfl) (by kernel_rfl) (by kernel_rfl) (by kernel_rfl) (fun _ _ _ h => h) (Or.inl ⟨by rfl, ?_⟩) HSD.out ?_
          rotate_left
          · intro w hSw
            (try dsimp only at hSw)
            obtain ⟨q0_, q1_, q2_, q3_⟩ := hSw
            go_simp
            try with_reducible rfl
          try simp only [Act.put, List.setIfInBounds_toArray, List.set_cons_zero, List.set_cons_succ]
          refine wpAnyH_take (i := 4) (v := ?_) (by simp only [List.getElem?_toArray, List.getElem?_cons_zero, List.getElem?_cons_succ]; rfl) (by kernel_rfl) (by kernel_rfl) (by kernel_rfl) (fun _ _ _ h => h) (Or.inl ⟨by rfl, ?_⟩) HSD.out ?_
          rotate_left
          · intro w hSw
            (try dsimp only at hSw)
            obtain ⟨q0_, q1_, q2_, q3_⟩ := hSw
            go_simp
            try with_reducible rfl
          try simp only [Act.put, List.setIfInBounds_toArray, List.set_cons_zero, List.set_cons_succ]
          refine wpAnyH_take (i := 5) (v := ?_) (by simp only [List.getElem?_toArray, List.getElem?_cons_zero, List.getElem?_cons_succ]; rfl) (by kernel_rfl) (by kernel_rfl) (by kernel_rfl) (fun _ _ _ h => h) (Or.inl ⟨by rfl, ?_⟩) HSD.out ?_
          rotate_left
          · intro w hSw
            (try dsimp only at hSw)
            obtain ⟨q0_, q1_, q2_, q3_⟩ := hSw
            go_simp
            try with_reducible rfl
          try simp only [Act.put, List.setIfInBounds_toArray, List.set_cons_zero, List.set_cons_succ]
          refine wpAnyH_ready (rs := [6]) (by kernel_rfl) (by simp) ?_
          refine AllReadyH.cons (by simp only [List.getElem?_toArray, List.getElem?_cons_zero, List.getElem?_cons_succ]; rfl) (fun K hK => ?_) AllReadyH.nil
          go_simp
          refine (HVAL.out _ ((Below.refl _ wr).drew)).mono ?_
          rintro e s1 ⟨rfl, b1⟩
          have HB1 := Lib.hid (below_undrew b1)
          have HS1 := Lib.hid (keep4 HS0.out HB1.out)
          have d1 := HS1.out.2.2.2
          have d2 := unfrozen_of_block (heap_below hone.out HB1.out) 0
          clear b1
          refine hK.out _ _ HS1.out (fun _ => ?_)
          clear hK K
          try simp only [Act.put, List.setIfInBounds_toArray, List.set_cons_zero, List.set_cons_succ]
          refine wpAnyH_ready (rs := [7]) (by kernel_rfl) (by simp) ?_
          refine AllReadyH.cons (by simp only [List.getElem?_toArray, List.getElem?_cons_zero, List.getElem?_cons_succ]; rfl) (fun K hK => ?_) AllReadyH.nil
          go_simp
          refine (HAND.out _).mono ?_
          rintro e s2 ⟨rfl, rfl⟩
          refine hK.out _ _ HS1.out (fun _ => ?_)
          clear hK K
          try simp only [Act.put, List.setIfInBounds_toArray, List.set_cons_zero, List.set_cons_succ]
          refine wpAnyH_done (by kernel_rfl) ?_ _
          unfold LastQ wpOp
          simp only [List.getElem?_toArray, List.getElem?_cons_zero, List.getElem?_cons_succ]
          rw [if_pos (by rfl)]
          refine Or.inl ?_
          go_simp
          refine Calm.normal ?_
          clear HCA HS0 HSD p0 p1 p2 o1 o2 d1 d2 hcx2
          gi_wp2
          go_roundw
          case rel =>
            have hbs := box_step (B := W2.heap.size) (g := g1) (T := 27) (.int .u8 (nr : Int)) HB1.out HLOW.out.size (by have := hg.out; have := HW1.out; omega)
            have hbo := box_set (heap_below hone.out HB1.out) (.int .u8 (nr : Int))
            have hbe : Value.int .u8 (nr : Int) = bv (k1.cons (varsAt c t k) p.1 (c.cons.take (j + 1))) := by rw [HNEXT.out]; exact HRES.out.symm
            refine ⟨j + 1, by omega, by go_num, ?_, hkp.out.trans hbs.1, hkf.out.trans hbs.2⟩
            exact hbo.trans (by rw [hbe])
          case measure => simp [intOf]; omega
        · obtain rfl : s.n5 = j := by omega
          rw [List.take_of_length_le (by rw [hn5.out]; exact Nat.le_refl _)] at hone
          have hlow : Below w.heap.size w wr := HV.out.low.trans hkp.out.low
          have hne0 : w.heap.size ≠ g1 := by have := hg.out; have := HLT.out; have := HW1.out; omega
          have hne1 : w.heap.size + 1 ≠ g1 := by have := hg.out; have := HLT.out; have := HW1.out; omega
          have hne2 : w.heap.size + 1 + 1 ≠ g1 := by have := hg.out; have := HLT.out; have := HW1.out; omega
          have hk4 := hkp.out.mid _ _ _ _ HV.out.kind (by decide) hne0 hne0
          have hx4 := hkp.out.mid _ _ _ _ HV.out.cir (by decide) hne1 hne1
          have hy4 := hkp.out.mid _ _ _ _ HV.out.bad (by decide) hne2 hne2
          have hz4 := hkp.out.mid _ _ _ _ HV.out.two (by decide) (fun e => hg.out.2.2 e.symm) (fun e => hg.out.2.2 e.symm)
          have hlen4 : c.bads.length = s.n4 := HC.out.s4.lenMap
          have hltb : bad < s.n4 := by rw [← hlen4]; exact HBAD.out
          obtain ⟨cb, off, hca, _⟩ := HC.out.s4.addr (show 0 < s.n4 by omega)
          have hsx := HC.out.s4.below hlow
          rw [hca] at hsx
          have hcx := (hsx.cell bad hltb).2
          rw [List.getElem?_map, List.getElem?_eq_getElem (show bad < c.bads.length from HBAD.out)] at hcx
          have hcd : c.bads[bad]'HBAD.out = c.bads.getD bad 0 := by simp [List.getD, List.getElem?_eq_getElem HBAD.out]
          rw [hcd] at hcx
          have hlit := hbadl.out
          obtain ⟨x, hx⟩ : ∃ x, x = c.bads.getD bad 0 := ⟨_, rfl⟩
          rw [← hx] at hcx hlit
          have hcx2 : wr.cell? ⟨cb, off + bad, none⟩ = some (.int .u32 (x : Int)) := hcx
          have hval := fun W' (hb : Below wr.heap.size wr W') => value_any (varsAt c t k) va (varsAt c t k).length vc x W' ((HSEE.out.kpt hkp.out (by decide) HGL.out.1 HGL.out.1).1.below hb) hlit.1 hlit.2
          obtain ⟨na, hna⟩ : ∃ na, na = k1.val (varsAt c t k) x := ⟨_, rfl⟩
          have HNA : Hid (na = k1.val (varsAt c t k) (c.bads.getD bad 0)) := by show _ = _; rw [hna, hx]
          rw [← hna] at hval
          have hba : bv na = .int .u8 (na.toNat : Int) := rfl
          obtain ⟨nn, hnn⟩ : ∃ nn : Nat, nn = na.toNat := ⟨_, rfl⟩
          rw [hba, ← hnn] at hval
          have HBN : Hid (bv na = .int .u8 (nn : Int)) := by show _ = _; rw [hnn]; rfl
          have HVAL := Lib.hid hval
          have p0 : wr.cell? ⟨w.heap.size, 0, none⟩ = some (.int .u8 0) := cell_of_block hk4 0
          have p1 : wr.cell? ⟨w.heap.size, 1, none⟩ = some (.func (.func 54) #[] #[]) := cell_of_block hk4 1
          have p2 : wr.cell? ⟨w.heap.size, 2, none⟩ = some (.func (.func 55) #[] #[]) := cell_of_block hk4 2
          have q4 : wr.cell? ⟨w.heap.size + 1, 4, none⟩ = some (.slice (some ⟨cb, off, none⟩) s.n4 s.c4) := by rw [← hca]; exact cell_of_block hx4 4
          have y0 : wr.cell? ⟨w.heap.size + 1 + 1, 0, none⟩ = some (.int .i64 (bad : Int)) := cell_of_block hy4 0
          have HLOW := Lib.hid hlow
          have HZ4 := Lib.hid hz4
          have HS0 := Lib.hid (And.intro p0 (And.intro p1 (And.intro p2 (And.intro q4 (And.intro y0 hcx2)))))
          have hbi : ((bad : Nat) : Int) < (s.n4 : Int) := by omega
          have hbi2 : (0 : Int) ≤ (bad : Int) := by omega
          have HKX : Hid (wr.heap[w.heap.size]? = some (.cells #[.int .u8 0, .func (.func 54) #[] #[], .func (.func 55) #[] #[]] 72 (0, 0))) := hk4
          clear hval hba hnn hna hlit hcd hcx hsx hx hk4 hlow hca hx4 hy4 hz4 hne0 hne1 hne2 hlen4 hltb p0 p1 p2 q4 y0 hcx2
          gi_upto_region 9 with fail
          have HSD := Lib.hid (keep6 HS0.out ((Below.refl _ wr).drew))
          refine wpIn_region_peelN (S := fun w' => w'.cell? ⟨w.heap.size, 0, none⟩ = some (.int .u8 0) ∧ w'.cell? ⟨w.heap.size, 1, none⟩ = some (.func (.func 54) #[] #[]) ∧ w'.cell? ⟨w.heap.size, 2, none⟩ = some (.func (.func 55) #[] #[]) ∧ w'.cell? ⟨w.heap.size + 1, 4, none⟩ = some (.slice (some ⟨cb, off, none⟩) s.n4 s.c4) ∧ w'.cell? ⟨w.heap.size + 1 + 1, 0, none⟩ = some (.int .i64 (bad : Int)) ∧ w'.cell? ⟨cb, off + bad, none⟩ = some (.int .u32 (x : Int))) 8 (by kernel_rfl) (by kernel_rfl) rfl (by simp only [List.getElem?_toArray, List.getElem?_cons_zero, List.getElem?_cons_succ]; rfl) (by kernel_rfl) ?_
          simp only [List.pop_toArray, List.dropLast_cons_cons, List.dropLast_singleton]
          refine wpAnyH_take (i := 0) (v := ?_) (by simp only [List.getElem?_toArray, List.getElem?_cons_zero]; rfl) (by kernel_rfl) (by kernel_rfl) (by kernel_rfl) (fun _ _ _ h => h) (Or.inl ⟨by rfl, ?_⟩) HSD.out ?_
          rotate_left
          · intro w hSw
            (try dsimp only at hSw)
            obtain ⟨q0_, q1_, q2_, q3_, q4_, q5_⟩ := hSw
            go_simp
            try with_reducible rfl
          try simp only [Act.put, List.setIfInBounds_toArray, List.set_cons_zero, List.set_cons_succ]
          refine wpAnyH_take (i := 1) (v := ?_) (by simp only [List.getElem?_toArray, List.getElem?_cons_zero, List.getElem?_cons_succ]; rfl) (by kernel_rfl) (by kernel_rfl) (by kernel_rfl) (fun _ _ _ h => h) (Or.inl ⟨by rfl, ?_⟩) HSD.out ?_
          rotate_left
          · intro w hSw
            (try dsimp only at hSw)
            obtain ⟨q0_, q1_, q2_, q3_, q4_, q5_⟩ := hSw
            go_simp
            try with_reducible rfl
          try simp only [Act.put, List.setIfInBounds_toArray, List.set_cons_zero, List.set_cons_succ]
          refine wpAnyH_take (i := 2) (v := ?_) (by simp only [List.getElem?_toArray, List.getElem?_cons_zero, List.getElem?_cons_succ]; rfl) (by kernel_rfl) (by kernel_rfl) (by kernel_rfl) (fun _ _ _ h => h) (Or.inl ⟨by rfl, ?_⟩) HSD.out ?_
          rotate_left
          · intro w hSw
            (try dsimp only at hSw)
            obtain ⟨q0_, q1_, q2_, q3_, q4_, q5_⟩ := hSw
            go_simp
            try with_reducible rfl
          try simp only [Act.put, List.setIfInBounds_toArray, List.set_cons_zero, List.set_cons_succ]
          refine wpAnyH_take (i := 3) (v := ?_) (by simp only [List.getElem?_toArray, List.getElem?_cons_zero, List.getElem?_cons_succ]; rfl) (by kernel_rfl) (by kernel_rfl) (by kernel_rfl) (fun _ _ _ h => h) (Or.inl ⟨by rfl, ?_⟩) HSD.out ?_
          rotate_left
          · intro w hSw
            (try dsimp only at hSw)
            obtain ⟨q0_, q1_, q2_, q3_, q4_, q5_⟩ := hSw
            go_simp
            try with_reducible rfl
          try simp only [Act.put, List.setIfInBounds_toArray, List.set_cons_zero, List.set_cons_succ]
          refine wpAnyH_take (i := 4) (v := ?_) (by simp only [List.getElem?_toArray, List.getElem?_cons_zero, List.getElem?_cons_succ]; rfl) (by kernel_rfl) (by kernel_rfl) (by kernel_rfl) (fun _ _ _ h => h) (Or.inl ⟨by rfl, ?_⟩) HSD.out ?_
          rotate_left
          · intro w hSw
            (try dsimp only at hSw)
            obtain ⟨q0_, q1_, q2_, q3_, q4_, q5_⟩ := hSw
            go_simp
            try with_reducible rfl
          try simp only [Act.put, List.setIfInBounds_toArray, List.set_cons_zero, List.set_cons_succ]
          refine wpAnyH_take (i := 5) (v := ?_) (by simp only [List.getElem?_toArray, List.getElem?_cons_zero, List.getElem?_cons_succ]; rfl) (by kernel_rfl) (by kernel_rfl) (by kernel_rfl) (fun _ _ _ h => h) (Or.inl ⟨by rfl, ?_⟩) HSD.out ?_
          rotate_left
          · intro w hSw
            (try dsimp only at hSw)
            obtain ⟨q0_, q1_, q2_, q3_, q4_, q5_⟩ := hSw
            go_simp
            try with_reducible rfl
          try simp only [Act.put, List.setIfInBounds_toArray, List.set_cons_zero, List.set_cons_succ]
          refine wpAnyH_take (i := 6) (v := ?_) (by simp only [List.getElem?_toArray, List.getElem?_cons_zero, List.getElem?_cons_succ]; rfl) (by kernel_rfl) (by kernel_rfl) (by kernel_rfl) (fun _ _ _ h => h) (Or.inl ⟨by rfl, ?_⟩) HSD.out ?_
          rotate_left
          · intro w hSw
            (try dsimp only at hSw)
            obtain ⟨q0_, q1_, q2_, q3_, q4_, q5_⟩ := hSw
            go_simp
            try with_reducible rfl
          try simp only [Act.put, List.setIfInBounds_toArray, List.set_cons_zero, List.set_cons_succ]
          refine wpAnyH_ready (rs := [7]) (by kernel_rfl) (by simp) ?_
          refine AllReadyH.cons (by simp only [List.getElem?_toArray, List.getElem?_cons_zero, List.getElem?_cons_succ]; rfl) (fun K hK => ?_) AllReadyH.nil
          go_simp
          refine (HVAL.out _ ((Below.refl _ wr).drew)).mono ?_
          rintro e s1 ⟨rfl, b1⟩
          have HB1 := Lib.hid (below_undrew b1)
          have HS1 := Lib.hid (keep6 HS0.out HB1.out)
          have d1 := cell_of_block (heap_below HZ4.out HB1.out) 0
          have d2 := unfrozen_of_block (heap_below HZ4.out HB1.out) 0
          clear b1
          refine hK.out _ _ HS1.out (fun _ => ?_)
          clear hK K
          try simp only [Act.put, List.setIfInBounds_toArray, List.set_cons_zero, List.set_cons_succ]
          refine wpAnyH_done (by kernel_rfl) ?_ _
          unfold LastQ wpOp
          simp only [List.getElem?_toArray, List.getElem?_cons_zero, List.getElem?_cons_succ]
          rw [if_pos (by rfl)]
          refine Or.inl ?_
          go_simp
          refine Calm.normal ?_
          gi_wp2
          have hbs := box_step (B := W2.heap.size) (g := g2) (T := 27) (.int .u8 (nn : Int)) HB1.out HLOW.out.size (by have := hg.out; have := HW1.out; omega)
          have hKP : Kpt w.heap.size 27 g1 g2 W (s1.setCell ⟨g2, 0, none⟩ (.int .u8 (nn : Int))) := (Kpt.weaken hkp.out).1.trans (Kpt.weaken hbs.1).2
          have htake : k1.run c t.init (t.frames.take (k + 1)) = k1.run c t.init (t.frames.take k) ++ [varsAt c t k] := by
            rw [List.take_add_one, List.getElem?_eq_getElem hkN]
            simp only [Option.toList_some]
            rw [Kd.run_snoc]
            unfold varsAt
            simp [List.getD, List.getElem?_eq_getElem hkN]
          have h1 := heap_below hone.out HB1.out
          refine ⟨hkf.out.trans hbs.2, hKP, (k1.cons (varsAt c t k) p.1 c.cons, k1.val (varsAt c t k) (c.bads.getD bad 0)), ?_, ?_, ?_, ?_, ?_, ?_, HV.out.low.trans hKP.low⟩
          · rw [htake, Kd.sum_snoc, ← HV.out.sum]
          · exact (Below.heap_setCell s1 ⟨g2, 0, none⟩ _ g1 hg.out.2.2).trans h1
          · rw [← HNA.out, HBN.out]; exact box_set (heap_below HZ4.out HB1.out) _
          · exact hKP.mid _ _ _ _ HV.out.kind (by decide) (by have := hg.out; have := HLT.out; have := HW1.out; omega) (by have := hg.out; have := HLT.out; have := HW1.out; omega)
          · exact hKP.mid _ _ _ _ HV.out.cir (by decide) (by have := hg.out; have := HLT.out; have := HW1.out; omega) (by have := hg.out; have := HLT.out; have := HW1.out; omega)
          · exact hKP.mid _ _ _ _ HV.out.bad (by decide) (by have := hg.out; have := HLT.out; have := HW1.out; omega) (by have := hg.out; have := HLT.out; have := HW1.out; omega)
    case done =>
      rintro D W hDle ⟨p, hV⟩ hD
      have hsum := hV.sum
      rw [List.take_of_length_le (Nat.le_refl _)] at hsum
      have p0 : W.cell? ⟨w.heap.size, 2, none⟩ = some (.func (.func 55) #[] #[]) := cell_of_block hV.kind 2
      have HV := Lib.hid hV
      have HD := Lib.hid hD
      clear hD hV
      obtain ⟨A, B⟩ := p
      have hone := HV.out.one
      have htwo := HV.out.two
      obtain ⟨na, hna⟩ : ∃ na : Nat, na = A.toNat := ⟨_, rfl⟩
      obtain ⟨nb, hnb⟩ : ∃ nb : Nat, nb = B.toNat := ⟨_, rfl⟩
      have o1 : W.cell? ⟨g1, 0, none⟩ = some (.int .u8 (na : Int)) := by rw [hna]; exact cell_of_block hone 0
      have o2 : W.cell? ⟨g2, 0, none⟩ = some (.int .u8 (nb : Int)) := by rw [hnb]; exact cell_of_block htwo 0
      have HRES : Hid (Value.int .u8 ((and1 na nb : Nat) : Int) = bv (k1.verdict c bad t.init t.frames)) := by
        show _ = _
        have h1 : k1.sum c bad (k1.nt k1.z, k1.z) (k1.run c t.init t.frames) = (A, B) := hsum.symm
        unfold Kd.verdict
        simp only [h1]
        rw [bv_and, hna, hnb]
      have HAND := Lib.hid (and1_any na nb)
      obtain ⟨nr, hnr⟩ : ∃ nr, nr = and1 na nb := ⟨_, rfl⟩
      rw [← hnr] at HAND HRES
      clear hone htwo hna hnb hnr hsum
      gi_wp2_with fail
      refine ⟨trivial, rfl, ?_⟩
      refine (callsIn_wide.2 (HAND.out _)).mono ?_
      rintro e W5 ⟨rfl, rfl⟩
      gi_wp2
      refine ⟨by simp, .inl ⟨_, _, rfl, run_takeDeferred HD.out, ?_⟩⟩
      exact ⟨_, results_tmp rfl _ _ _, ⟨by rw [← HRES.out]; rfl, HV.out.low.grown (grownBy_putObj' _ _ _) HV.out.low.size (fun k e => by cases e; exact Nat.le_trans HB3.out.size hDle)⟩⟩
end Go.Proofs.Ytgpkghlhlabjcaa
