/- sim.Run, by its contract. -/
import Derived.Test.YtjmdgbdlhaaefaaLib
import Derived.Test.YtjmdgbdlhaaefaaOwn
import Derived.Test.YtjmdgbdlhaaefaaOwnStr
import Derived.Test.YtjmdgbdlhaaefaaNBase
import Derived.Test.YtjmdgbdlhaaefaaNStep
import Derived.Test.YtjmdgbdlhaaefaaNSpec
import Derived.Test.YtjmdgbdlhaaefaaNVal
import Derived.Test.YtjmdgbdlhaaefaaNTrace
import Derived.Test.YtjmdgbdlhaaefaaNCirc
import Derived.Test.YtjmdgbdlhaaefaaNOwns
import Derived.Test.YtjmdgbdlhaaefaaNHeap
import Derived.Test.YtjmdgbdlhaaefaaNFits
import Derived.Test.YtjmdgbdlhaaefaaTBits
import Derived.Test.YtjmdgbdlhaaefaaSVal
import Derived.Test.YtjmdgbdlhaaefaaSRun
import Derived.Test.YtjmdgbdlhaaefaaSCollect
import Derived.Test.YtjmdgbdlhaaefaaSSurely
import Derived.Test.YtjmdgbdlhaaefaaRows
import Derived.Test.YtjmdgbdlhaaefaaShelf
import Derived.BigQuiet
import Derived.Deep.AppendLies
import Derived.Deep.CutRange
import Derived.Deep.QuietTactic
import Derived.Deep.RegionHeld3
import Derived.Deep.RegionLaw
import Derived.Deep.RegionWith
import Derived.KernelRfl
import Derived.Laws.Bits64b
import Derived.Laws.BitsAllLaws
import Derived.Laws.BitsLemmas
import Derived.Laws.EntriesVeiled
import Derived.Laws.Tables
import Derived.Lib.AppendStr
import Derived.Lib.AppendZeros
import Derived.Lib.ConvBytes
import Derived.Lib.Hide
import Derived.Lib.SlBytesRow
import Derived.Lib.SmallJoins
import Derived.LoopIn
import Derived.LoopNIn
import Derived.Maps.AppendAt
import Derived.OrdersHeld
import Derived.OrdersIn
import Derived.OwnWalkIn
import Derived.RangeFuncBox
import Derived.RangeFuncCalls
import Derived.RangeFuncLeaves
import Derived.RangeFuncNested
import Derived.RangeFuncWrites
import Derived.Shelf.Abstract
import Derived.Shelf.Bytes.SlSmallAll
import Derived.Shelf.RegionOpen
import Derived.Sort.CutIn
import Derived.Stop.RegionWithIn
import Derived.TacticsInMore
import Derived.WalkKit
import Derived.WalkLawsBesides
import Derived.WalkSpells
namespace Go.Proofs.Ytjmdgbdlhaaefaa
open Go Go.RowKit Go.Joins

theorem owns_base {w : World} {base base' sz : Nat} {e : TypeId} {v : Value} {n : Nat} {xs : List Value} (h : w.ownsRow base e sz v n xs) (hb : base' ≤ base) : w.ownsRow base' e sz v n xs := by
  refine ⟨h.1, ?_⟩
  rcases h.2 with h2 | ⟨g, cap, cur, hv, hg, r⟩
  · exact .inl h2
  · exact .inr ⟨g, cap, cur, hv, Nat.le_trans hb hg, r⟩
theorem runat_of {c : NormC} {s : CSlots} {t : TraceC} {st : TSlots} {w w2 w3 W : World} {tb : Nat} (hC : SeesCir w s c) (hT : SeesTr w st t) (hF : FitsC c t) (hs : s.small) (hb : Below w.heap.size w W)
    (hr : w3.heap[w2.heap.size]? = some (.cells #[.int .u8 0, .func (.func 62) #[] #[], .func (.func 63) #[] #[]] 69 (0, 0)) ∧ w3.heap[w2.heap.size + 1]? = some (.cells #[.int .i64 c.ins, .slice s.a1 s.n1 s.c1, .slice s.a2 s.n2 s.c2, .slice s.a3 s.n3 s.c3, .slice s.a4 s.n4 s.c4, .slice s.a5 s.n5 s.c5] 26 (0, 0)) ∧
      w3.heap[w2.heap.size + 2]? = some (.cells #[.slice st.a1 st.n1 st.c1, .int .i64 (st.n2 : Int), .func (.func 70) #[] #[.pointer (some ⟨tb, 0, none⟩)]] 83 (0, 0)) ∧ w3.heap[tb]? = some (.cells #[.int .i64 t.bad, .slice st.a1 st.n1 st.c1, .slice st.a2 st.n2 st.c2] 30 (0, 0)))
    (hz : w2.heap.size ≤ w3.heap.size ∧ tb < w2.heap.size ∧ w2.heap.size + 2 < w3.heap.size) (hb3 : Below w3.heap.size w3 W) (hlt : w3.heap.size < W.heap.size) :
    RunAt c s t st w (w2.heap.size + 2) w2.heap.size (w2.heap.size + 1) tb w3.heap.size w3.heap.size W :=
  { cir := hC, tr := hT, low := hb, may := hF.may, small := hs, init := hF.init, frames := hF.frames, few := hF.few
    feed := heap_below hr.2.2.1 hb3, kind := heap_below hr.1 hb3, box := heap_below hr.2.1 hb3, tbox := heap_below hr.2.2.2 hb3, lt1 := hlt, lt2 := hlt
    ne1 := ⟨by omega, by omega, by omega, by omega⟩, ne2 := ⟨by omega, by omega, by omega, by omega⟩ }

/-- The run, list by list. -/
def runL (c : NormC) (t : TraceC) : List (List UInt8) := (List.range t.frames.length).map (varsAt c t)
/-- What Run answers. -/
def RunPost (c : NormC) (t : TraceC) (w : World) (e : Ending) (w' : World) : Prop :=
  (fitsS c t = true → ∃ (v : Value) (ss : List Slc), e = .returned (.tuple #[v, .int .i64 0]) ∧ ss.length = t.frames.length ∧ w'.ownsRow w.heap.size 27 1 v t.frames.length (ss.map slV) ∧ (∀ j, j < t.frames.length → Row isByte w' w.heap.size 5 (slV (ss.getD j slc0)) (varsAt c t j).length ((varsAt c t j).map bv))) ∧
  (fitsS c t = false → e = .returned (.tuple #[.slice none 0 0, .int .i64 2])) ∧ Below w.heap.size w w'
set_option maxRecDepth 100000 in
set_option maxHeartbeats 3200000 in
theorem run_any2 (c : NormC) (t : TraceC) (s : CSlots) (st : TSlots) (w : World) (h : SeesCir w s c) (ht : SeesTr w st t) (hs : s.small) (hst : st.small) (hlo : -9223372036854775808 ≤ c.ins) (hhi : c.ins < 9223372036854775808) (hb1 : -9223372036854775808 ≤ t.bad ∧ t.bad < 9223372036854775808) :
    Calls Try.prog 14 #[cirV c.ins s, traceV t.bad st] w (RunPost c t w) := by
  have HFIT := Lib.hid (fun W (hb : Below w.heap.size w W) => fits_any c t s st W (h.below hb) (ht.below hb) hs hst hlo hhi hb1)
  have HFC : Hid (fitsS c t = true → FitsC c t) := fits_iff.1
  have HE : Hid (∀ e w', RunPost c t w e w' ↔ (fitsS c t = true → ∃ (v : Value) (ss : List Slc), e = .returned (.tuple #[v, .int .i64 0]) ∧ ss.length = t.frames.length ∧ w'.ownsRow w.heap.size 27 1 v t.frames.length (ss.map slV) ∧ (∀ j, j < t.frames.length → Row isByte w' w.heap.size 5 (slV (ss.getD j slc0)) (varsAt c t j).length ((varsAt c t j).map bv))) ∧ (fitsS c t = false → e = .returned (.tuple #[.slice none 0 0, .int .i64 2])) ∧ Below w.heap.size w w') := fun _ _ => Iff.rfl
  obtain ⟨q, hq⟩ : ∃ q, q = fitsS c t := ⟨_, rfl⟩
  rw [← hq] at HFIT HFC HE
  clear hq
  have HC := Lib.hid h
  have HT := Lib.hid ht
  clear h ht hlo hhi hb1
  unfold cirV traceV at *
  go_enter Try.func14, Try.ntmps14
  go_upto_region 1 with fail
  generalize hW : World.alloc (World.alloc w _) _ = W1
  have hb : Below w.heap.size w W1 := by subst hW; exact ext_trans (ext_alloc _ _) (ext_alloc _ _)
  have hx : W1.heap[w.heap.size]? = some (.cells #[.int .i64 c.ins, .slice s.a1 s.n1 s.c1, .slice s.a2 s.n2 s.c2, .slice s.a3 s.n3 s.c3, .slice s.a4 s.n4 s.c4, .slice s.a5 s.n5 s.c5] 26 (0, 0)) := by subst hW; exact heap_below (heap_new _ _ _ rfl) (ext_alloc _ _)
  have hy : W1.heap[w.heap.size + 1]? = some (.cells #[.int .i64 t.bad, .slice st.a1 st.n1 st.c1, .slice st.a2 st.n2 st.c2] 30 (0, 0)) := by subst hW; exact heap_new _ _ _ (by simp)
  have HB := Lib.hid hb
  have HX := Lib.hid hx
  have HY := Lib.hid hy
  clear hW hb hx hy
  have p0 := cell_of_block HX.out 0
  have p1 := cell_of_block HX.out 1
  have p2 := cell_of_block HX.out 2
  have p3 := cell_of_block HX.out 3
  have p4 := cell_of_block HX.out 4
  have p5 := cell_of_block HX.out 5
  have r0 := cell_of_block HY.out 0
  have r1 := cell_of_block HY.out 1
  have r2 := cell_of_block HY.out 2
  go_wp2_with fail
  refine (HFIT.out W1 HB.out).mono ?_
  rintro e W2 ⟨rfl, hb⟩
  have HX2 := Lib.hid (heap_below HX.out hb)
  have HY2 := Lib.hid (heap_below HY.out hb)
  have HB2 := Lib.hid (ext_trans HB.out hb)
  clear hb p0 p1 p2 p3 p4 p5 r0 r1 r2 HFIT HX HY HB
  cases q with
  | false =>
    go_wp2
    go_ret2
    exact (HE.out _ _).2 ⟨(fun h => by cases h), fun _ => rfl, HB2.out⟩
  | true =>
    have HF := Lib.hid (HFC.out rfl)
    have HSG : Hid (∀ W, Calls Try.prog 34 #[] W fun e w' => e = .returned (.agg #[.int .u8 0, .func (.func 62) #[] #[], .func (.func 63) #[] #[]]) ∧ Below W.heap.size W w') := single_any
    have HAL := Lib.hid (fun W => alone_any t.bad st W)
    unfold traceV at HAL
    have HRN := Lib.hid (run_any #[.int .u8 0, .func (.func 62) #[] #[], .func (.func 63) #[] #[]] #[.int .i64 c.ins, .slice s.a1 s.n1 s.c1, .slice s.a2 s.n2 s.c2, .slice s.a3 s.n3 s.c3, .slice s.a4 s.n4 s.c4, .slice s.a5 s.n5 s.c5])
    have HS0 := Lib.hid (keep63 HX2.out HY2.out)
    clear HFC
    go_wp2_with fail
    go_region_held3 (fun w' => w'.cell? ⟨w.heap.size, 0, none⟩ = some (.int .i64 c.ins) ∧ w'.cell? ⟨w.heap.size, 1, none⟩ = some (.slice s.a1 s.n1 s.c1) ∧ w'.cell? ⟨w.heap.size, 2, none⟩ = some (.slice s.a2 s.n2 s.c2) ∧ w'.cell? ⟨w.heap.size, 3, none⟩ = some (.slice s.a3 s.n3 s.c3) ∧ w'.cell? ⟨w.heap.size, 4, none⟩ = some (.slice s.a4 s.n4 s.c4) ∧ w'.cell? ⟨w.heap.size, 5, none⟩ = some (.slice s.a5 s.n5 s.c5) ∧ w'.cell? ⟨w.heap.size + 1, 0, none⟩ = some (.int .i64 t.bad) ∧ w'.cell? ⟨w.heap.size + 1, 1, none⟩ = some (.slice st.a1 st.n1 st.c1) ∧ w'.cell? ⟨w.heap.size + 1, 2, none⟩ = some (.slice st.a2 st.n2 st.c2))
      (first | with_reducible exact HS0.out | with_reducible exact keep63 (heap_below HX2.out ((Below.refl _ W2).drew)) (heap_below HY2.out ((Below.refl _ W2).drew)) | with_reducible exact HS1.out | with_reducible exact HS2.out | with_reducible exact HS3.out | with_reducible exact HS4.out | go_keep)
      (first
        | (go_at_call 34; (with_reducible refine (HSG.out _).mono ?_); rintro e s1 ⟨rfl, b1⟩; have HB3 := Lib.hid (below_undrew b1); have HS1 := Lib.hid (keep63 (heap_below HX2.out HB3.out) (heap_below HY2.out HB3.out)); clear b1)
        | (go_at_call 45; (with_reducible refine (HAL.out _).mono ?_); rintro e s2 ⟨rfl, htb, b2⟩; have HTB := Lib.hid htb; have HB4 := Lib.hid (ext_trans HB3.out b2); have HS2 := Lib.hid (keep63 (heap_below HX2.out HB4.out) (heap_below HY2.out HB4.out)); clear b2 htb)
        | (go_at_call 44; (with_reducible refine (HRN.out _ _).mono ?_); rintro e s3 ⟨rfl, hkb, hcb, hsb, b3⟩; have HRB := Lib.hid (And.intro hkb (And.intro hcb (And.intro hsb (heap_below HTB.out b3)))); have HSZ := Lib.hid (And.intro b3.size (And.intro (heap_lt HTB.out) (heap_lt hsb))); have HB5 := Lib.hid (ext_trans HB4.out b3); have HS3 := Lib.hid (keep63 (heap_below HX2.out HB5.out) (heap_below HY2.out HB5.out)); clear b3 hkb hcb hsb)
        | (go_at_call 43; (with_reducible refine (collect_any c s t st w _ _ _ _ _ (ext_trans HB2.out HB5.out).size (fun W hb hlt => runat_of HC.out HT.out HF.out hs (ext_trans (ext_trans HB2.out HB5.out) hb) HRB.out HSZ.out hb hlt)).mono ?_); rintro e s4 ⟨v4, ss4, rfl, hl4, ho4, hr4, b4⟩; have HO4 := Lib.hid (And.intro hl4 (And.intro ho4 hr4)); have HB6 := Lib.hid (ext_trans HB5.out b4); have HS4 := Lib.hid (keep63 (heap_below HX2.out HB6.out) (heap_below HY2.out HB6.out)); clear b4 hl4 ho4 hr4))
    all_goals go_wp2
    all_goals go_ret2
    all_goals exact (HE.out _ _).2 ⟨fun _ => ⟨v4, ss4, rfl, HO4.out.1, owns_base HO4.out.2.1 (ext_trans HB2.out HB5.out).size, fun j hj => (HO4.out.2.2 j hj).base_le (ext_trans HB2.out HB5.out).size⟩, (fun h => by cases h), ext_trans HB2.out HB6.out⟩
end Go.Proofs.Ytjmdgbdlhaaefaa
