/- sim: the run of single values as an iterator, by its contract. -/
import Derived.Test.YtgplkpfdbiapaaaGreatDoorLib
import Derived.Test.YtgplkpfdbiapaaaGreatDoorOwn
import Derived.Test.YtgplkpfdbiapaaaGreatDoorGA3
import Derived.Test.YtgplkpfdbiapaaaGreatDoorNBase
import Derived.Test.YtgplkpfdbiapaaaGreatDoorGA1
import Derived.Test.YtgplkpfdbiapaaaGreatDoorNHeap
import Derived.Test.YtgplkpfdbiapaaaGreatDoorGA4
import Derived.Test.YtgplkpfdbiapaaaGreatDoorGB
import Derived.Test.YtgplkpfdbiapaaaGreatDoorSFrame
import Derived.Test.YtgplkpfdbiapaaaGreatDoorRows
import Derived.BigQuiet
import Derived.Deep.AppendLies
import Derived.Deep.CutRange
import Derived.Deep.QuietTactic
import Derived.Deep.RegionHeld3
import Derived.Deep.RegionLaw
import Derived.Deep.RegionWith
import Derived.KernelRfl
import Derived.Laws.Bits64b
import Derived.Laws.BitsAllLaws
import Derived.Laws.BitsLemmas
import Derived.Laws.EntriesVeiled
import Derived.Laws.Tables
import Derived.Lib.AppendStr
import Derived.Lib.AppendZeros
import Derived.Lib.ConvBytes
import Derived.Lib.Hide
import Derived.Lib.SlBytesRow
import Derived.Lib.SmallJoins
import Derived.LoopIn
import Derived.LoopNIn
import Derived.Maps.AppendAt
import Derived.OwnWalkIn
import Derived.RangeFuncBox
import Derived.RangeFuncCalls
import Derived.RangeFuncLeaves
import Derived.RangeFuncNested
import Derived.RangeFuncWrites
import Derived.Shelf.Abstract
import Derived.Shelf.Bytes.SlSmallAll
import Derived.Shelf.RegionOpen
import Derived.Sort.CutIn
import Derived.Stop.RegionWithIn
import Derived.TacticsInMore
import Derived.WalkKit
import Derived.WalkLawsBesides
import Derived.WalkSpells
namespace Go.Proofs.YtgplkpfdbiapaaaGreatDoor
open Go Go.RowKit Go.Joins
attribute [local go_sem] Oper.semAt_some

/-- A slice of bytes that lies in old memory, or in a row of its own from B on. -/
def StOk (base B : Nat) (W : World) (a : Option Addr) (n c : Nat) (xs : List Value) : Prop :=
  Sees W a n c xs ∧ ((0 < n → ∀ b off, a = some ⟨b, off, none⟩ → b < base) ∨ Row isByte W B 5 (.slice a n c) n xs)
theorem StOk.below {base B : Nat} {W W' : World} {a : Option Addr} {n c : Nat} {xs : List Value} (h : StOk base B W a n c xs) (hb : Below W.heap.size W W') : StOk base B W' a n c xs :=
  ⟨h.1.below hb, h.2.imp id (fun h => h.below hb)⟩
theorem StOk.kpt {base B g1 g2 : Nat} {T : TypeId} {W W' : World} {a : Option Addr} {n c : Nat} {xs : List Value} (h : StOk base B W a n c xs) (hk : Kpt base T g1 g2 W W') (hT : 5 ≠ T) (h1 : g1 < B) (h2 : g2 < B) : StOk base B W' a n c xs := by
  rcases h.2 with h3 | h3
  · refine ⟨⟨h.1.len, h.1.cap, h.1.nilc, fun h0 => ?_⟩, .inl h3⟩
    obtain ⟨b, off, e, hlt, hc⟩ := h.1.real h0
    have hb := h3 h0 b off e
    exact ⟨b, off, e, Nat.lt_of_lt_of_le hlt hk.low.size, fun j hj => (hk.low.cell (p := ⟨b, off + j, none⟩) hb).trans (hc j hj)⟩
  · have h4 : Row isByte W' B 5 (.slice a n c) n xs := h3.other fun q hq => by
      obtain ⟨hl, rest⟩ := h3
      rcases rest with ⟨e, _⟩ | ⟨g, cap, cur, e, hg, hh, _⟩
      · rw [e] at hq; cases hq
      · rw [e] at hq
        have : g = q := by simpa [Value.ownBlock] using hq
        subst this
        exact (hk.mid g cur _ _ hh hT (by omega) (by omega)).trans hh.symm
    exact ⟨(row_sees_slice h4).2, .inr h4⟩

/-- What the k-th round is handed. -/
def ElemAt (B : Nat) (V : Nat → List UInt8) (k : Nat) (xs : Array Value) (W : World) : Prop :=
  ∃ a cp, xs = #[.slice a (V k).length cp] ∧ Row isByte W B 5 (.slice a (V k).length cp) (V k).length ((V k).map bv)
theorem elem_puts (B : Nat) (V : Nat → List UInt8) (N : Nat) (k : Nat) : Puts N (ElemAt B V k) := by
  rintro xs A l o o' ⟨a, cp, e, hr⟩ _ hl ho
  refine ⟨a, cp, e, hr.other fun q hq => ?_⟩
  rcases hr.2 with ⟨h1, _⟩ | ⟨g, cap, cur, h1, _, h2, _⟩
  · rw [h1] at hq; cases hq
  · rw [h1] at hq
    have : g = q := by simpa [Value.ownBlock] using hq
    subst this
    exact World.putObj_heap_other (fun e => by subst e; rw [hl] at h2; cases h2; cases ho)

set_option maxRecDepth 100000 in
theorem aloneAt_any (t : TraceC) (a2 : Option Addr) (n2 c2 : Nat) (ss : List Slc) (v0 v1 : Value) (tb k : Nat) (w : World) (hs : SeesF w a2 n2 c2 ss t.frames) (hc : w.heap[tb]? = some (.cells #[v0, v1, .slice a2 n2 c2] 30 (0, 0))) (hk : k < n2) :
    Calls Tryz.prog 60 #[.int .i64 (k : Int), .pointer (some ⟨tb, 0, none⟩)] w fun e w' => e = .returned (slV (ss.getD k slc0)) ∧ w' = w := by
  obtain ⟨b, off, rfl, hbw⟩ := hs.row.addr (show 0 < n2 by omega)
  have hcx := hs.cellAt k hk
  have p2 : w.cell? ⟨tb, 2, none⟩ = some (.slice (some ⟨b, off, none⟩) n2 c2) := cell_of_block hc 2
  unfold slV
  obtain ⟨x, hx⟩ : ∃ x : Slc, x = ss.getD k slc0 := ⟨_, rfl⟩
  rw [← hx] at hcx ⊢
  obtain ⟨xa, xn, xc⟩ := x
  simp only at hcx
  have hI : ((k : Nat) : Int) < (n2 : Int) := by omega
  clear hs hc hbw hx
  go_enter Tryz.func60, Tryz.ntmps60
  go_wp2
  go_ret
  exact ⟨rfl, rfl⟩

set_option maxRecDepth 100000 in
theorem alone_any (bad : Int) (st : TSlots) (w : World) :
    Calls Tryz.prog 32 #[traceV bad st] w fun e w' => e = .returned (.agg #[.slice st.a1 st.n1 st.c1, .int .i64 (st.n2 : Int), .func (.func 60) #[] #[.pointer (some ⟨w.heap.size, 0, none⟩)]]) ∧
      w'.heap[w.heap.size]? = some (.cells #[.int .i64 bad, .slice st.a1 st.n1 st.c1, .slice st.a2 st.n2 st.c2] 30 (0, 0)) ∧ Below w.heap.size w w' := by
  obtain ⟨a1, n1, c1, a2, n2, c2, ss⟩ := st
  unfold traceV
  go_enter Tryz.func32, Tryz.ntmps32
  go_wp2
  refine bodyPost_ret (v := .agg #[.slice a1 n1 c1, .int .i64 (n2 : Int), .func (.func 60) #[] #[.pointer (some ⟨w.heap.size, 0, none⟩)]]) ?_ rfl ?_
  · simp [results, Tryz.results32, go_sem]
  · exact ⟨rfl, heap_below (heap_new _ _ _ rfl) (ext_alloc _ _), ext_trans (ext_alloc _ _) (ext_alloc _ _)⟩

set_option maxRecDepth 100000 in
theorem run_any (k c s : Array Value) (w : World) :
    Calls Tryz.prog 31 #[.agg k, .agg c, .agg s] w fun e w' => e = .returned (.func (.func 58) #[] #[.pointer (some ⟨w.heap.size + 2, 0, none⟩), .pointer (some ⟨w.heap.size, 0, none⟩), .pointer (some ⟨w.heap.size + 1, 0, none⟩)]) ∧
      w'.heap[w.heap.size]? = some (.cells k 77 (0, 0)) ∧ w'.heap[w.heap.size + 1]? = some (.cells c 26 (0, 0)) ∧ w'.heap[w.heap.size + 2]? = some (.cells s 82 (0, 0)) ∧ Below w.heap.size w w' := by
  go_enter Tryz.func31, Tryz.ntmps31
  go_wp2
  go_ret
  exact ⟨rfl, heap_below (heap_below (heap_new _ _ _ rfl) (ext_alloc _ _)) (ext_alloc _ _), heap_below (heap_new _ _ _ (by simp)) (ext_alloc _ _), heap_new _ _ _ (by simp), ext_trans (ext_alloc _ _) (ext_trans (ext_alloc _ _) (ext_alloc _ _))⟩

/-- What a run's iterator leans on. -/
structure RunAt (c : NormC) (s : CSlots) (t : TraceC) (st : TSlots) (w0 : World) (sb kb cb tb g1 g2 : Nat) (w : World) : Prop where
  cir : SeesCir w0 s c
  tr : SeesTr w0 st t
  low : Below w0.heap.size w0 w
  may : MayC c
  small : s.small
  init : t.init.length = c.lats.length
  frames : ∀ k, k < t.frames.length → ((t.frames.getD k []).length : Int) = c.ins
  few : t.frames.length ≤ 256
  feed : w.heap[sb]? = some (.cells #[.slice st.a1 st.n1 st.c1, .int .i64 (st.n2 : Int), .func (.func 60) #[] #[.pointer (some ⟨tb, 0, none⟩)]] 82 (0, 0))
  kind : w.heap[kb]? = some (.cells #[.int .u8 0, .func (.func 56) #[] #[], .func (.func 57) #[] #[]] 77 (0, 0))
  box : w.heap[cb]? = some (.cells #[.int .i64 c.ins, .slice s.a1 s.n1 s.c1, .slice s.a2 s.n2 s.c2, .slice s.a3 s.n3 s.c3, .slice s.a4 s.n4 s.c4, .slice s.a5 s.n5 s.c5] 26 (0, 0))
  tbox : w.heap[tb]? = some (.cells #[.int .i64 t.bad, .slice st.a1 st.n1 st.c1, .slice st.a2 st.n2 st.c2] 30 (0, 0))
  lt1 : g1 < w.heap.size
  lt2 : g2 < w.heap.size
  ne1 : sb ≠ g1 ∧ kb ≠ g1 ∧ cb ≠ g1 ∧ tb ≠ g1
  ne2 : sb ≠ g2 ∧ kb ≠ g2 ∧ cb ≠ g2 ∧ tb ≠ g2
/-- It abides what the rounds may do. -/
theorem RunAt.kpt {c : NormC} {s : CSlots} {t : TraceC} {st : TSlots} {w0 w w' : World} {sb kb cb tb g1 g2 : Nat} (h : RunAt c s t st w0 sb kb cb tb g1 g2 w) (hk : Kpt w0.heap.size 27 g1 g2 w w') : RunAt c s t st w0 sb kb cb tb g1 g2 w' :=
  { h with
    low := h.low.trans hk.low
    feed := hk.mid _ _ _ _ h.feed (by decide) h.ne1.1 h.ne2.1
    kind := hk.mid _ _ _ _ h.kind (by decide) h.ne1.2.1 h.ne2.2.1
    box := hk.mid _ _ _ _ h.box (by decide) h.ne1.2.2.1 h.ne2.2.2.1
    tbox := hk.mid _ _ _ _ h.tbox (by decide) h.ne1.2.2.2 h.ne2.2.2.2
    lt1 := Nat.lt_of_lt_of_le h.lt1 hk.low.size
    lt2 := Nat.lt_of_lt_of_le h.lt2 hk.low.size }
theorem RunAt.below {c : NormC} {s : CSlots} {t : TraceC} {st : TSlots} {w0 w w' : World} {sb kb cb tb g1 g2 : Nat} (h : RunAt c s t st w0 sb kb cb tb g1 g2 w) (hb : Below w.heap.size w w') : RunAt c s t st w0 sb kb cb tb g1 g2 w' := h.kpt (Kpt.below hb h.low.size)

/-- The values of the k-th frame. -/
def varsAt (c : NormC) (t : TraceC) (k : Nat) : List UInt8 := k1.vars c (k1.after c t.init (t.frames.take k)) (t.frames.getD k [])

set_option maxRecDepth 100000 in
set_option maxHeartbeats 3200000 in
theorem run1_iter (c : NormC) (s : CSlots) (t : TraceC) (st : TSlots) (w0 : World) (sb kb cb tb g1 g2 : Nat) (w : World) (hR : RunAt c s t st w0 sb kb cb tb g1 g2 w) :
    Iterates Tryz.prog 58 #[.pointer (some ⟨sb, 0, none⟩), .pointer (some ⟨kb, 0, none⟩), .pointer (some ⟨cb, 0, none⟩)] (ElemAt w.heap.size (varsAt c t)) (Kpt w0.heap.size 27 g1 g2) t.frames.length w := by
  intro l J W hJ hY hW h0
  have hA := hR.below hW
  have HA := Lib.hid hA
  have HY := Lib.hid hY
  have HJ := Lib.hid hJ
  have HW := Lib.hid hW
  have H0 := Lib.hid h0
  have HN : Hid (t.frames.length = st.n2) := hR.tr.s2.n_eq
  have HLT := Lib.hid (And.intro hR.lt1 hR.lt2)
  have p0 : W.cell? ⟨sb, 0, none⟩ = some (.slice st.a1 st.n1 st.c1) := cell_of_block hA.feed 0
  have p1 : W.cell? ⟨sb, 1, none⟩ = some (.int .i64 (st.n2 : Int)) := cell_of_block hA.feed 1
  clear hA hY hJ hW h0 hR
  refine callsIn_of_wp Tryz.func58 rfl trivial ?_ rfl
  simp only [Tryz.ntmps58, List.size_toArray, List.length_cons, List.length_nil, Nat.reduceAdd, Nat.reduceSub, Array.replicate_succ, Array.replicate_zero, List.push_toArray, List.append_toArray, List.nil_append, List.cons_append]
  gi_wp2
  clear p0 p1
  gi_loopw [13, 5, 6, 7, 8] (fun i v5 _ _ _ wr => ∃ (k : Nat) (a : Option Addr) (n cp : Nat), k ≤ st.n2 ∧ i = .int .i64 k ∧ v5 = .slice a n cp ∧ Hid (StOk w0.heap.size w.heap.size wr a n cp ((k1.after c t.init (t.frames.take k)).map bv)) ∧ Hid (J k wr) ∧ Hid (Below w.heap.size w W ∧ Kpt w0.heap.size 27 g1 g2 W wr))
    (fun i _ _ _ _ _ => st.n2 - (intOf i).toNat)
  case atStart =>
    refine ⟨0, st.a1, st.n1, st.c1, Nat.zero_le _, rfl, rfl, ⟨HA.out.tr.s1.below HA.out.low, .inl fun hn b off e => ?_⟩, H0.out, HW.out, Kpt.below (Below.refl _ _) HA.out.low.size⟩
    obtain ⟨b', off', e', hlt, _⟩ := HA.out.tr.s1.real hn
    rw [e] at e'
    cases e'
    exact hlt
  case round =>
    obtain ⟨k, va, vn, vc, hk, rfl, rfl, hS, hJk, hK⟩ := hrel
    have hRA := HA.out.kpt hK.out.2
    by_cases hlt : k < st.n2
    · have hsk := (hRA.tr.s2.below hRA.low).each k (by rw [HN.out]; exact hlt)
      have hal := fun W' (hb : Below wr.heap.size wr W') => aloneAt_any t st.a2 st.n2 st.c2 st.ss (.int .i64 t.bad) (.slice st.a1 st.n1 st.c1) tb k W' (hRA.tr.s2.below (ext_trans hRA.low hb)) (heap_below hRA.tbox hb) hlt
      unfold slV at hal
      obtain ⟨x, hx⟩ : ∃ x : Slc, x = st.ss.getD k slc0 := ⟨_, rfl⟩
      rw [← hx] at hsk hal
      obtain ⟨xa, xn, xc⟩ := x
      simp only at hsk hal
      have hfr := fun W' (hb : Below wr.heap.size wr W') => frame_any c hRA.may s (k1.after c t.init (t.frames.take k)) (t.frames.getD k []) va vn vc xa xn xc W' (hRA.cir.below (ext_trans hRA.low hb)) hRA.small (hS.out.1.below hb) (hsk.below hb) (Kd.after_len k1 c _ _ hRA.init) (hRA.frames k (by rw [HN.out]; exact hlt))
      have hvs : k1.vars c (k1.after c t.init (t.frames.take k)) (t.frames.getD k []) = varsAt c t k := rfl
      have hns : k1.next c (varsAt c t k) = k1.after c t.init (t.frames.take (k + 1)) := by
        rw [← hvs, ← Kd.after_snoc, List.take_add_one, List.getElem?_eq_getElem (by rw [HN.out]; exact hlt)]; simp [List.getD, List.getElem?_eq_getElem (show k < t.frames.length by rw [HN.out]; exact hlt)]
      rw [hvs, hns] at hfr
      obtain ⟨NS, hNS⟩ : ∃ NS, NS = k1.after c t.init (t.frames.take (k + 1)) := ⟨_, rfl⟩
      rw [← hNS] at hfr
      unfold kv1 cirV at hfr
      have p0 : wr.cell? ⟨kb, 0, none⟩ = some (.int .u8 0) := cell_of_block hRA.kind 0
      have p1 : wr.cell? ⟨kb, 1, none⟩ = some (.func (.func 56) #[] #[]) := cell_of_block hRA.kind 1
      have p2 : wr.cell? ⟨kb, 2, none⟩ = some (.func (.func 57) #[] #[]) := cell_of_block hRA.kind 2
      have q0 : wr.cell? ⟨cb, 0, none⟩ = some (.int .i64 c.ins) := cell_of_block hRA.box 0
      have q1 : wr.cell? ⟨cb, 1, none⟩ = some (.slice s.a1 s.n1 s.c1) := cell_of_block hRA.box 1
      have q2 : wr.cell? ⟨cb, 2, none⟩ = some (.slice s.a2 s.n2 s.c2) := cell_of_block hRA.box 2
      have q3 : wr.cell? ⟨cb, 3, none⟩ = some (.slice s.a3 s.n3 s.c3) := cell_of_block hRA.box 3
      have q4 : wr.cell? ⟨cb, 4, none⟩ = some (.slice s.a4 s.n4 s.c4) := cell_of_block hRA.box 4
      have q5 : wr.cell? ⟨cb, 5, none⟩ = some (.slice s.a5 s.n5 s.c5) := cell_of_block hRA.box 5
      have r2 : wr.cell? ⟨sb, 2, none⟩ = some (.func (.func 60) #[] #[.pointer (some ⟨tb, 0, none⟩)]) := cell_of_block hRA.feed 2
      have HAL := Lib.hid hal
      have HFR := Lib.hid hfr
      have HNS := Lib.hid hNS
      have hfew : st.n2 ≤ 256 := by have := hRA.few; have := HN.out; omega
      have W1' : IntKind.i64.wrap ((k : Int) + 1) = (k : Int) + 1 := IntWalk.i64_in _ (by omega)
      clear hal hfr hNS hvs hns hsk hRA hx
      gi_upto_region 4 with fail
      gi_cut [7, 8] from 16 (fun v7 v8 wx => ∃ (fa : Option Addr) (fc : Nat) (ga : Option Addr) (gc : Nat), v7 = .slice fa (varsAt c t k).length fc ∧ v8 = .slice ga NS.length gc ∧ Hid (Row isByte wx wr.heap.size 5 (.slice fa (varsAt c t k).length fc) (varsAt c t k).length ((varsAt c t k).map bv)) ∧ Hid (Row isByte wx wr.heap.size 5 (.slice ga NS.length gc) NS.length (NS.map bv)) ∧ Hid (Below wr.heap.size wr wx))
      case first =>
        gi_region_with (first
          | (refine ⟨trivial, rfl, ?_⟩; gi_at_call 60; refine (callsIn_wide.2 (HAL.out _ (by first | with_reducible exact Below.refl _ wr | with_reducible exact (Below.refl _ wr).drew))).mono ?_; rintro e w' ⟨rfl, rfl⟩)
          | (refine ⟨trivial, rfl, ?_⟩; gi_at_call 59; refine (callsIn_wide.2 (HFR.out _ (by first | with_reducible exact Below.refl _ wr | with_reducible exact (Below.refl _ wr).drew))).mono ?_; rintro e ws ⟨fa, fc, ga, gc, rfl, fr, gr, fb⟩))
        all_goals gi_wp2
        all_goals go_meet
        all_goals exact ⟨_, _, _, _, rfl, rfl, fr, gr, below_undrew fb⟩
      case rest =>
        obtain ⟨fa, fc, ga, gc, rfl, rfl, fr, gr, fb⟩ := hcut
        have hle : w.heap.size ≤ wr.heap.size := Nat.le_trans hK.out.1.size hK.out.2.low.size
        obtain ⟨fn, tmps, assign, body, hy, hRd⟩ := HY.out k #[.slice fa (varsAt c t k).length fc] wc (by rw [HN.out]; exact hlt) (HJ.out k wr wc hJk.out fb.out) ⟨fa, fc, rfl, fr.out.base_le hle⟩
        have HS2 : Hid (StOk w0.heap.size w.heap.size wc ga NS.length gc (NS.map bv)) := ⟨(row_sees_slice gr.out).2, .inr (gr.out.base_le hle)⟩
        have HK2 : Hid (Kpt w0.heap.size 27 g1 g2 W wc) := hK.out.2.trans (Kpt.below fb.out (Nat.le_trans HA.out.low.size hK.out.2.low.size))
        have HW1 := Lib.hid hK.out.1
        clear fr gr fb hle HAL HFR p0 p1 p2 q0 q1 q2 q3 q4 q5 r2 hK hS hJk
        gi_wp2
        refine ⟨rfl, hRd.mono ?_⟩
        rintro e W4 ⟨rfl, hJ4, hk4⟩
        have HS3 := Lib.hid (HS2.out.kpt hk4 (by decide) HLT.out.1 HLT.out.2)
        have HK3 := Lib.hid (HK2.out.trans hk4)
        rw [HNS.out] at HS3
        have HJ4 := Lib.hid hJ4
        clear hJ4 hk4 HS2 HK2 hy hRd
        gi_wp2
        go_roundw
        case rel => exact ⟨k + 1, ga, _, gc, by omega, by go_num, rfl, (by rw [HNS.out]; exact HS3.out), HJ4.out, HW1.out, HK3.out⟩
        case measure => simp [intOf]; omega
    · obtain rfl : st.n2 = k := by omega
      gi_wp2
      go_end0
      exact ⟨⟨_, rfl⟩, by rw [HN.out]; exact hJk.out⟩
end Go.Proofs.YtgplkpfdbiapaaaGreatDoor
