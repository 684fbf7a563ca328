/- sim.Surely, by its contract. -/
import Derived.Test.YtjmdgbdlhaaefaaLib
import Derived.Test.YtjmdgbdlhaaefaaNBase
import Derived.Test.YtjmdgbdlhaaefaaRawPred
import Derived.Test.YtjmdgbdlhaaefaaNStep
import Derived.Test.YtjmdgbdlhaaefaaNSpec
import Derived.Test.YtjmdgbdlhaaefaaNVal
import Derived.Test.YtjmdgbdlhaaefaaNTrace
import Derived.Test.YtjmdgbdlhaaefaaNCirc
import Derived.Test.YtjmdgbdlhaaefaaNOwns
import Derived.Test.YtjmdgbdlhaaefaaNHeap
import Derived.Test.YtjmdgbdlhaaefaaNFits
import Derived.Test.YtjmdgbdlhaaefaaTBits
import Derived.Test.YtjmdgbdlhaaefaaSSpec
import Derived.Test.YtjmdgbdlhaaefaaSVal
import Derived.Test.YtjmdgbdlhaaefaaSRun
import Derived.Test.YtjmdgbdlhaaefaaSVerd
import Derived.Test.YtjmdgbdlhaaefaaRows
import Derived.Test.YtjmdgbdlhaaefaaShelf
import Derived.BigQuiet
import Derived.Deep.AppendLies
import Derived.Deep.CutRange
import Derived.Deep.QuietTactic
import Derived.Deep.RegionHeld3
import Derived.Deep.RegionLaw
import Derived.Deep.RegionWith
import Derived.KernelRfl
import Derived.Laws.Bits64b
import Derived.Laws.BitsAllLaws
import Derived.Laws.BitsLemmas
import Derived.Laws.EntriesVeiled
import Derived.Laws.Tables
import Derived.Lib.AppendStr
import Derived.Lib.AppendZeros
import Derived.Lib.ConvBytes
import Derived.Lib.Hide
import Derived.Lib.SlBytesRow
import Derived.Lib.SmallJoins
import Derived.LoopIn
import Derived.LoopNIn
import Derived.Maps.AppendAt
import Derived.OrdersHeld
import Derived.OrdersIn
import Derived.OwnWalkIn
import Derived.RangeFuncBox
import Derived.RangeFuncCalls
import Derived.RangeFuncLeaves
import Derived.RangeFuncNested
import Derived.RangeFuncWrites
import Derived.Shelf.Abstract
import Derived.Shelf.Bytes.SlSmallAll
import Derived.Shelf.RegionOpen
import Derived.Sort.CutIn
import Derived.Stop.RegionWithIn
import Derived.TacticsInMore
import Derived.WalkKit
import Derived.WalkLawsBesides
import Derived.WalkSpells
namespace Go.Proofs.Ytjmdgbdlhaaefaa
open Go Go.RowKit Go.Joins

/-- What a trace that fits is. -/
structure FitsC (c : NormC) (t : TraceC) : Prop where
  may : MayC c
  pos : 0 ≤ t.bad
  bad : t.bad.toNat < c.bads.length
  init : t.init.length = c.lats.length
  inits : ∀ u ∈ t.init, u.toNat ≤ 2
  resets : ∀ i, i < c.lats.length → (c.lats.getD i (0, 0)).2 = 2 ∨ (t.init.getD i 0).toNat = (c.lats.getD i (0, 0)).2
  one : 1 ≤ t.frames.length
  few : t.frames.length ≤ 256
  frames : ∀ k, k < t.frames.length → ((t.frames.getD k []).length : Int) = c.ins
  values : ∀ f ∈ t.frames, ∀ u ∈ f, u.toNat ≤ 2
theorem fits_iff {c : NormC} {t : TraceC} : fitsS c t = true ↔ FitsC c t := by
  unfold fitsS valsOk initOk
  simp only [Bool.and_eq_true, Bool.not_eq_true', Bool.or_eq_false_iff, decide_eq_true_eq, decide_eq_false_iff_not, List.any_eq_false, List.all_eq_true, List.mem_range, Bool.or_eq_true, mayC_iff]
  constructor
  · rintro ⟨h1, ⟨h2, h3⟩, ⟨h4, h5⟩, h6, h7, h8, h9⟩
    refine ⟨h1, by omega, by omega, by omega, fun u hu => by have := h5 u hu; omega, fun i hi => h6 i hi, h7, h8, fun k hk => (h9 _ (getD_mem hk)).1, fun f hf u hu => by have := (h9 f hf).2 u hu; omega⟩
  · intro h
    refine ⟨h.may, ⟨by have := h.pos; omega, by have := h.bad; have := h.pos; omega⟩, ⟨by have := h.init; omega, fun u hu => by have := h.inits u hu; omega⟩, h.resets, h.one, h.few, fun f hf => ⟨?_, fun u hu => by have := h.values f hf u hu; omega⟩⟩
    obtain ⟨k, hk, he⟩ := List.getElem_of_mem hf
    have := h.frames k hk
    simpa [List.getD, List.getElem?_eq_getElem hk, he] using this

theorem keep63 {w : World} {x y : Nat} {a0 a1 a2 a3 a4 a5 b0 b1 b2 : Value} {T1 T2 : TypeId} (hx : w.heap[x]? = some (.cells #[a0, a1, a2, a3, a4, a5] T1 (0, 0))) (hy : w.heap[y]? = some (.cells #[b0, b1, b2] T2 (0, 0))) :
    w.cell? ⟨x, 0, none⟩ = some a0 ∧ w.cell? ⟨x, 1, none⟩ = some a1 ∧ w.cell? ⟨x, 2, none⟩ = some a2 ∧ w.cell? ⟨x, 3, none⟩ = some a3 ∧ w.cell? ⟨x, 4, none⟩ = some a4 ∧ w.cell? ⟨x, 5, none⟩ = some a5 ∧ w.cell? ⟨y, 0, none⟩ = some b0 ∧ w.cell? ⟨y, 1, none⟩ = some b1 ∧ w.cell? ⟨y, 2, none⟩ = some b2 :=
  ⟨cell_of_block hx 0, cell_of_block hx 1, cell_of_block hx 2, cell_of_block hx 3, cell_of_block hx 4, cell_of_block hx 5, cell_of_block hy 0, cell_of_block hy 1, cell_of_block hy 2⟩

/-- What Surely answers. -/
def surelyE (c : NormC) (t : TraceC) : Ending := if fitsS c t = true then .returned (.tuple #[bv (k1.verdict c t.bad.toNat t.init t.frames), .int .i64 0]) else .returned (.tuple #[.int .u8 0, .int .i64 2])

set_option maxRecDepth 100000 in
set_option maxHeartbeats 3200000 in
theorem surely_any (c : NormC) (t : TraceC) (s : CSlots) (st : TSlots) (w : World) (h : SeesCir w s c) (ht : SeesTr w st t) (hs : s.small) (hst : st.small) (hlo : -9223372036854775808 ≤ c.ins) (hhi : c.ins < 9223372036854775808) (hb1 : -9223372036854775808 ≤ t.bad ∧ t.bad < 9223372036854775808) :
    Calls Try.prog 23 #[cirV c.ins s, traceV t.bad st] w fun e w' => e = surelyE c t ∧ Below w.heap.size w w' := by
  have HFIT := Lib.hid (fun W (hb : Below w.heap.size w W) => fits_any c t s st W (h.below hb) (ht.below hb) hs hst hlo hhi hb1)
  have HFC : Hid (fitsS c t = true → FitsC c t) := fits_iff.1
  have HE : Hid (surelyE c t = if fitsS c t = true then .returned (.tuple #[bv (k1.verdict c t.bad.toNat t.init t.frames), .int .i64 0]) else .returned (.tuple #[.int .u8 0, .int .i64 2])) := rfl
  obtain ⟨q, hq⟩ : ∃ q, q = fitsS c t := ⟨_, rfl⟩
  rw [← hq] at HFIT HFC HE
  clear hq
  obtain ⟨E, hE⟩ : ∃ E, E = surelyE c t := ⟨_, rfl⟩
  rw [← hE] at HE ⊢
  clear hE
  have HC := Lib.hid h
  have HT := Lib.hid ht
  clear h ht hlo hhi hb1
  unfold cirV traceV at *
  go_enter Try.func23, Try.ntmps23
  go_upto_region 1 with fail
  generalize hW : World.alloc (World.alloc w _) _ = W1
  have hb : Below w.heap.size w W1 := by subst hW; exact ext_trans (ext_alloc _ _) (ext_alloc _ _)
  have hx : W1.heap[w.heap.size]? = some (.cells #[.int .i64 c.ins, .slice s.a1 s.n1 s.c1, .slice s.a2 s.n2 s.c2, .slice s.a3 s.n3 s.c3, .slice s.a4 s.n4 s.c4, .slice s.a5 s.n5 s.c5] 26 (0, 0)) := by subst hW; exact heap_below (heap_new _ _ _ rfl) (ext_alloc _ _)
  have hy : W1.heap[w.heap.size + 1]? = some (.cells #[.int .i64 t.bad, .slice st.a1 st.n1 st.c1, .slice st.a2 st.n2 st.c2] 30 (0, 0)) := by subst hW; exact heap_new _ _ _ (by simp)
  have HB := Lib.hid hb
  have HX := Lib.hid hx
  have HY := Lib.hid hy
  clear hW hb hx hy
  have p0 := cell_of_block HX.out 0
  have p1 := cell_of_block HX.out 1
  have p2 := cell_of_block HX.out 2
  have p3 := cell_of_block HX.out 3
  have p4 := cell_of_block HX.out 4
  have p5 := cell_of_block HX.out 5
  have r0 := cell_of_block HY.out 0
  have r1 := cell_of_block HY.out 1
  have r2 := cell_of_block HY.out 2
  go_wp2_with fail
  refine (HFIT.out W1 HB.out).mono ?_
  rintro e W2 ⟨rfl, hb⟩
  have HX2 := Lib.hid (heap_below HX.out hb)
  have HY2 := Lib.hid (heap_below HY.out hb)
  have HB2 := Lib.hid (ext_trans HB.out hb)
  clear hb p0 p1 p2 p3 p4 p5 r0 r1 r2 HFIT HX HY HB
  cases q with
  | false =>
    go_wp2
    go_ret2
    exact ⟨by rw [HE.out]; rfl, HB2.out⟩
  | true =>
    have HF := Lib.hid (HFC.out rfl)
    obtain ⟨nb, hnb⟩ := Int.eq_ofNat_of_zero_le HF.out.pos
    have hbad : nb < c.bads.length := by have := HF.out.bad; rw [hnb] at this; simpa using this
    have HVERD := fun (W : World) (tb : Nat) (hb : Below w.heap.size w W) (htb : W.heap[tb]? = some (.cells #[.int .i64 t.bad, .slice st.a1 st.n1 st.c1, .slice st.a2 st.n2 st.c2] 30 (0, 0))) => verdict_any c s t st nb W (HC.out.below hb) (HT.out.below hb) HF.out.may hs HF.out.init HF.out.frames HF.out.few hbad tb htb
    have hbn : t.bad.toNat = nb := by rw [hnb]; simp
    rw [hbn] at HE
    obtain ⟨bd, hbd⟩ : ∃ bd, bd = t.bad := ⟨_, rfl⟩
    rw [← hbd] at HVERD HY2 hnb ⊢
    obtain ⟨RV, hRV⟩ : ∃ RV, RV = k1.verdict c nb t.init t.frames := ⟨_, rfl⟩
    rw [← hRV] at HVERD HE
    subst hnb
    have HSG : Hid (∀ W, Calls Try.prog 34 #[] W fun e w' => e = .returned (.agg #[.int .u8 0, .func (.func 62) #[] #[], .func (.func 63) #[] #[]]) ∧ Below W.heap.size W w') := single_any
    have HAL := Lib.hid (fun W => alone_any (nb : Int) st W)
    have hrv : bv RV = .int .u8 (RV.toNat : Int) := rfl
    obtain ⟨nr, hnr⟩ : ∃ nr : Nat, nr = RV.toNat := ⟨_, rfl⟩
    rw [hrv, ← hnr] at HE
    rw [hrv, ← hnr] at HVERD
    unfold kv1 cirV at HVERD
    unfold traceV at HAL
    have HV := Lib.hid HVERD
    have HS0 := Lib.hid (keep63 HX2.out HY2.out)
    clear HVERD hRV hrv hnr hbn hbd hbad HFC
    go_wp2_with fail
    go_region_held3 (fun w' => w'.cell? ⟨w.heap.size, 0, none⟩ = some (.int .i64 c.ins) ∧ w'.cell? ⟨w.heap.size, 1, none⟩ = some (.slice s.a1 s.n1 s.c1) ∧ w'.cell? ⟨w.heap.size, 2, none⟩ = some (.slice s.a2 s.n2 s.c2) ∧ w'.cell? ⟨w.heap.size, 3, none⟩ = some (.slice s.a3 s.n3 s.c3) ∧ w'.cell? ⟨w.heap.size, 4, none⟩ = some (.slice s.a4 s.n4 s.c4) ∧ w'.cell? ⟨w.heap.size, 5, none⟩ = some (.slice s.a5 s.n5 s.c5) ∧ w'.cell? ⟨w.heap.size + 1, 0, none⟩ = some (.int .i64 (nb : Int)) ∧ w'.cell? ⟨w.heap.size + 1, 1, none⟩ = some (.slice st.a1 st.n1 st.c1) ∧ w'.cell? ⟨w.heap.size + 1, 2, none⟩ = some (.slice st.a2 st.n2 st.c2))
      (first | with_reducible exact HS0.out | with_reducible exact keep63 (heap_below HX2.out ((Below.refl _ W2).drew)) (heap_below HY2.out ((Below.refl _ W2).drew)) | with_reducible exact HS1.out | with_reducible exact HS2.out | with_reducible exact HS3.out | go_keep)
      (first
        | (go_at_call 34; (with_reducible refine (HSG.out _).mono ?_); rintro e s1 ⟨rfl, b1⟩; have HB3 := Lib.hid (below_undrew b1); have HS1 := Lib.hid (keep63 (heap_below HX2.out HB3.out) (heap_below HY2.out HB3.out)); clear b1)
        | (go_at_call 45; (with_reducible refine (HAL.out _).mono ?_); rintro e s2 ⟨rfl, htb, b2⟩; have HTB := Lib.hid htb; have HB4 := Lib.hid (ext_trans HB3.out b2); have HS2 := Lib.hid (keep63 (heap_below HX2.out HB4.out) (heap_below HY2.out HB4.out)); clear b2 htb)
        | (go_at_call 49; (with_reducible refine (HV.out _ _ (ext_trans HB2.out HB4.out) HTB.out).mono ?_); rintro e s3 ⟨rfl, b3⟩; have HB5 := Lib.hid (ext_trans HB4.out b3); have HS3 := Lib.hid (keep63 (heap_below HX2.out HB5.out) (heap_below HY2.out HB5.out)); clear b3))
    all_goals go_wp2
    all_goals go_ret2
    all_goals exact ⟨by rw [HE.out]; rfl, ext_trans HB2.out HB5.out⟩
end Go.Proofs.Ytjmdgbdlhaaefaa
