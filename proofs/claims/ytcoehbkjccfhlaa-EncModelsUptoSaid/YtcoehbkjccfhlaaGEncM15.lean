/- What a closure of package enc does with a clause, told for both of them. -/
import Derived.Test.YtcoehbkjccfhlaaGEncM00
import Derived.Test.YtcoehbkjccfhlaaGEncM01
import Derived.Test.YtcoehbkjccfhlaaGEncM03
import Derived.Test.YtcoehbkjccfhlaaGEncM02
import Derived.Test.YtcoehbkjccfhlaaGEncM04
import Derived.Test.YtcoehbkjccfhlaaGEncM10
import Derived.Test.YtcoehbkjccfhlaaGEncM05
import Derived.Test.YtcoehbkjccfhlaaGEncM12
import Derived.Test.YtcoehbkjccfhlaaNRefFits
import Derived.Test.YtcoehbkjccfhlaaSRRun
import Derived.Test.YtcoehbkjccfhlaaSRSurely
import Derived.Test.YtcoehbkjccfhlaaGEncM14
import Derived.Test.YtcoehbkjccfhlaaRows
import Derived.BigQuiet
import Derived.BigRegion
import Derived.Deep.AppendLies
import Derived.Deep.CutRange
import Derived.Deep.QuietTactic
import Derived.Deep.RegionHeld3
import Derived.Deep.RegionLaw
import Derived.Deep.RegionWith
import Derived.KernelRfl
import Derived.Laws.Bits64b
import Derived.Laws.BitsAllLaws
import Derived.Laws.BitsLemmas
import Derived.Laws.EntriesVeiled
import Derived.Laws.Tables
import Derived.Lib.AppendStr
import Derived.Lib.AppendZeros
import Derived.Lib.ConvBytes
import Derived.Lib.Hide
import Derived.Lib.SlBytesRow
import Derived.Lib.SmallJoins
import Derived.LoopIn
import Derived.LoopNIn
import Derived.Maps.AppendAt
import Derived.OrdersHeld
import Derived.OrdersIn
import Derived.OwnWalkIn
import Derived.RangeFuncBox
import Derived.RangeFuncCalls
import Derived.RangeFuncLeaves
import Derived.RangeFuncNested
import Derived.RangeFuncWrites
import Derived.Shelf.Abstract
import Derived.Shelf.Bytes.SlSmallAll
import Derived.Shelf.RegionOpen
import Derived.Sort.CutIn
import Derived.Stop.RegionWithIn
import Derived.TacticsInMore
import Derived.WalkKit
import Derived.WalkLawsBesides
import Derived.WalkSpells
/- The reference's Fails, by its contract. -/
namespace Go.Proofs.Ytcoehbkjccfhlaa
open Go Go.RowKit Go.Joins

set_option maxRecDepth 100000 in
set_option maxHeartbeats 6400000 in
theorem rfails_any (c : NormC) (t : TraceC) (s : CSlots) (st : TSlots) (w : World) (h : SeesCir w s c) (ht : SeesTr w st t) (hs : s.small) (hst : st.small) (hlo : -9223372036854775808 ≤ c.ins) (hhi : c.ins < 9223372036854775808) (hb1 : -9223372036854775808 ≤ t.bad ∧ t.bad < 9223372036854775808) (hw : Wide c) :
    Calls Try.prog 29 #[cirV c.ins s, traceV t.bad st] w fun e w' => e = failsE c t ∧ Below w.heap.size w w' := by
  have HFIT := Lib.hid (fun W (hb : Below w.heap.size w W) => reffits_any c t s st W (h.below hb) (ht.below hb) hs hst hlo hhi hb1 hw)
  have HREAD := Lib.hid (fun W (hb : Below w.heap.size w W) => refread_any t st W (ht.below hb) hst)
  have HSU := Lib.hid (fun (st' : TSlots) W (hb : Below w.heap.size w W) (ht' : SeesTr W st' (readT t)) (hs' : st'.small) => rsurely_any c (readT t) s st' W (h.below hb) ht' hs hs' hlo hhi hb1 hw)
  have hfb : (readT t).bad = t.bad := rfl
  rw [hfb] at HSU
  have HE : Hid (failsE c t = if fitsS c t = true then .returned (.tuple #[.bool (decide ((k1.verdict c t.bad.toNat (readT t).init (readT t).frames).toNat = 1)), .int .i64 0]) else .returned (.tuple #[.bool false, .int .i64 2])) := rfl
  obtain ⟨E, hE⟩ : ∃ E, E = failsE c t := ⟨_, rfl⟩
  rw [← hE] at HE ⊢
  have HSE : Hid (fitsS c t = true → surelyE c (readT t) = .returned (.tuple #[bv (k1.verdict c t.bad.toNat (readT t).init (readT t).frames), .int .i64 0])) := fun hq => by
    unfold surelyE
    rw [if_pos (fits_iff.2 (fits_iff.1 hq).read)]
    rfl
  obtain ⟨SE, hSE⟩ : ∃ E, E = surelyE c (readT t) := ⟨_, rfl⟩
  rw [← hSE] at HSU HSE
  obtain ⟨q, hq⟩ : ∃ q, q = fitsS c t := ⟨_, rfl⟩
  rw [← hq] at HFIT HE HSE
  clear hfb hE hSE hq h ht hs hst hlo hhi hb1 hw
  unfold cirV traceV at *
  go_enter Try.func29, Try.ntmps29
  go_upto_region 1 with fail
  generalize hW : World.alloc (World.alloc w _) _ = W1
  have hb : Below w.heap.size w W1 := by subst hW; exact ext_trans (ext_alloc _ _) (ext_alloc _ _)
  have hx : W1.heap[w.heap.size]? = some (.cells #[.int .i64 c.ins, .slice s.a1 s.n1 s.c1, .slice s.a2 s.n2 s.c2, .slice s.a3 s.n3 s.c3, .slice s.a4 s.n4 s.c4, .slice s.a5 s.n5 s.c5] 26 (0, 0)) := by subst hW; exact heap_below (heap_new _ _ _ rfl) (ext_alloc _ _)
  have hy : W1.heap[w.heap.size + 1]? = some (.cells #[.int .i64 t.bad, .slice st.a1 st.n1 st.c1, .slice st.a2 st.n2 st.c2] 30 (0, 0)) := by subst hW; exact heap_new _ _ _ (by simp)
  have HB := Lib.hid hb
  have HX := Lib.hid hx
  have HY := Lib.hid hy
  clear hW hb hx hy
  have p0 := cell_of_block HX.out 0
  have p1 := cell_of_block HX.out 1
  have p2 := cell_of_block HX.out 2
  have p3 := cell_of_block HX.out 3
  have p4 := cell_of_block HX.out 4
  have p5 := cell_of_block HX.out 5
  have r0 := cell_of_block HY.out 0
  have r1 := cell_of_block HY.out 1
  have r2 := cell_of_block HY.out 2
  go_wp2_with fail
  refine (HFIT.out W1 HB.out).mono ?_
  rintro e W2 ⟨rfl, hb⟩
  have HX2 := Lib.hid (heap_below HX.out hb)
  have HY2 := Lib.hid (heap_below HY.out hb)
  have HB2 := Lib.hid (ext_trans HB.out hb)
  clear p0 p1 p2 p3 p4 p5 r0 r1 r2 HX HY HB hb HFIT
  cases q with
  | false =>
    go_wp2
    refine bodyPost_ret (v := .tuple #[.bool false, .int .i64 2]) ?_ rfl ?_
    · simp [results, Try.results29, go_sem]
    · exact ⟨by rw [HE.out]; rfl, HB2.out⟩
  | true =>
  have hse := HSE.out rfl
  obtain ⟨RV, hRV⟩ : ∃ v, v = k1.verdict c t.bad.toNat (readT t).init (readT t).frames := ⟨_, rfl⟩
  rw [← hRV] at HE hse
  obtain ⟨vn, hvn⟩ : ∃ n : Nat, n = RV.toNat := ⟨_, rfl⟩
  have hbv : bv RV = .int .u8 (vn : Int) := by rw [hvn]; rfl
  rw [hbv] at hse
  rw [← hvn] at HE
  have HSE2 := Lib.hid hse
  have HS0 := Lib.hid (keep63 HX2.out HY2.out)
  clear hse hRV hvn hbv HSE
  go_upto_region 3 with fail
  refine wp_region_noPanic ?_
  refine wp_region_held (S := fun w' => w'.cell? ⟨w.heap.size, 0, none⟩ = some (.int .i64 c.ins) ∧ w'.cell? ⟨w.heap.size, 1, none⟩ = some (.slice s.a1 s.n1 s.c1) ∧ w'.cell? ⟨w.heap.size, 2, none⟩ = some (.slice s.a2 s.n2 s.c2) ∧ w'.cell? ⟨w.heap.size, 3, none⟩ = some (.slice s.a3 s.n3 s.c3) ∧ w'.cell? ⟨w.heap.size, 4, none⟩ = some (.slice s.a4 s.n4 s.c4) ∧ w'.cell? ⟨w.heap.size, 5, none⟩ = some (.slice s.a5 s.n5 s.c5) ∧ w'.cell? ⟨w.heap.size + 1, 0, none⟩ = some (.int .i64 t.bad) ∧ w'.cell? ⟨w.heap.size + 1, 1, none⟩ = some (.slice st.a1 st.n1 st.c1) ∧ w'.cell? ⟨w.heap.size + 1, 2, none⟩ = some (.slice st.a2 st.n2 st.c2)) (by kernel_rfl) ?_
  generalize hY : ({ W2 with drawn := W2.drawn + 1 } : World) = Y0
  have hY0 : Below W2.heap.size W2 Y0 := by subst hY; exact (Below.refl _ _).drew
  have HSD := Lib.hid (keep9 HS0.out hY0)
  have HYB := Lib.hid (ext_trans HB2.out hY0)
  clear hY0 hY
  refine wpAnyH_take (i := 0) (v := ?_) (by simp only [List.getElem?_toArray, List.getElem?_cons_zero]; rfl) (by kernel_rfl) (by kernel_rfl) (by kernel_rfl) (fun _ _ _ h => h) (Or.inl ⟨by rfl, ?_⟩) HSD.out ?_
  rotate_left
  · intro w hSw
    (try dsimp only at hSw)
    obtain ⟨q0_, q1_, q2_, q3_, q4_, q5_, q6_, q7_, q8_⟩ := hSw
    go_simp
    try with_reducible rfl
  try simp only [Act.put, List.setIfInBounds_toArray, List.set_cons_zero, List.set_cons_succ]
  refine wpAnyH_take (i := 1) (v := ?_) (by simp only [List.getElem?_toArray, List.getElem?_cons_zero, List.getElem?_cons_succ]; rfl) (by kernel_rfl) (by kernel_rfl) (by kernel_rfl) (fun _ _ _ h => h) (Or.inl ⟨by rfl, ?_⟩) HSD.out ?_
  rotate_left
  · intro w hSw
    (try dsimp only at hSw)
    obtain ⟨q0_, q1_, q2_, q3_, q4_, q5_, q6_, q7_, q8_⟩ := hSw
    go_simp
    try with_reducible rfl
  try simp only [Act.put, List.setIfInBounds_toArray, List.set_cons_zero, List.set_cons_succ]
  refine wpAnyH_ready (rs := [2]) (by kernel_rfl) (by simp) ?_
  refine AllReadyH.cons (by simp only [List.getElem?_toArray, List.getElem?_cons_zero, List.getElem?_cons_succ]; rfl) (fun K hK => ?_) AllReadyH.nil
  go_simp
  refine (HREAD.out _ HYB.out).mono ?_
  rintro e s1 ⟨st', rfl, ht', hs', b1⟩
  have HT1 := Lib.hid ht'
  have HSM1 := Lib.hid hs'
  have HB3 := Lib.hid (ext_trans HYB.out b1)
  have HS1 := Lib.hid (keep9 HSD.out b1)
  clear b1 ht' hs'
  refine hK.out _ _ HS1.out (fun _ => ?_)
  clear hK K
  try simp only [Act.put, List.setIfInBounds_toArray, List.set_cons_zero, List.set_cons_succ]
  refine wpAnyH_ready (rs := [3]) (by kernel_rfl) (by simp) ?_
  refine AllReadyH.cons (by simp only [List.getElem?_toArray, List.getElem?_cons_zero, List.getElem?_cons_succ]; rfl) (fun K hK => ?_) AllReadyH.nil
  go_simp
  refine (HSU.out st' _ HB3.out HT1.out HSM1.out).mono ?_
  rintro e s2 ⟨rfl, b2⟩
  have HB4 := Lib.hid (ext_trans HB3.out b2)
  have HS2 := Lib.hid (keep9 HS1.out b2)
  clear b2
  rw [HSE2.out]
  refine hK.out _ _ HS2.out (fun _ => ?_)
  clear hK K
  try simp only [Act.put, List.setIfInBounds_toArray, List.set_cons_zero, List.set_cons_succ]
  refine wpAnyH_take (i := 4) (v := ?_) (by simp only [List.getElem?_toArray, List.getElem?_cons_zero, List.getElem?_cons_succ]; rfl) (by kernel_rfl) (by kernel_rfl) (by kernel_rfl) (fun _ _ _ h => h) (Or.inl ⟨by rfl, ?_⟩) HS2.out ?_
  rotate_left
  · intro w hSw
    (try dsimp only at hSw)
    obtain ⟨q0_, q1_, q2_, q3_, q4_, q5_, q6_, q7_, q8_⟩ := hSw
    go_simp
    try with_reducible rfl
  try simp only [Act.put, List.setIfInBounds_toArray, List.set_cons_zero, List.set_cons_succ]
  refine wpAnyH_take (i := 5) (v := ?_) (by simp only [List.getElem?_toArray, List.getElem?_cons_zero, List.getElem?_cons_succ]; rfl) (by kernel_rfl) (by kernel_rfl) (by kernel_rfl) (fun _ _ _ h => h) (Or.inl ⟨by rfl, ?_⟩) HS2.out ?_
  rotate_left
  · intro w hSw
    (try dsimp only at hSw)
    obtain ⟨q0_, q1_, q2_, q3_, q4_, q5_, q6_, q7_, q8_⟩ := hSw
    go_simp
    try with_reducible rfl
  try simp only [Act.put, List.setIfInBounds_toArray, List.set_cons_zero, List.set_cons_succ]
  refine wpAnyH_take (i := 6) (v := ?_) (by simp only [List.getElem?_toArray, List.getElem?_cons_zero, List.getElem?_cons_succ]; rfl) (by kernel_rfl) (by kernel_rfl) (by kernel_rfl) (fun _ _ _ h => h) (Or.inl ⟨by rfl, ?_⟩) HS2.out ?_
  rotate_left
  · intro w hSw
    (try dsimp only at hSw)
    obtain ⟨q0_, q1_, q2_, q3_, q4_, q5_, q6_, q7_, q8_⟩ := hSw
    go_simp
    try with_reducible rfl
  try simp only [Act.put, List.setIfInBounds_toArray, List.set_cons_zero, List.set_cons_succ]
  refine wpAnyH_take (i := 7) (v := ?_) (by simp only [List.getElem?_toArray, List.getElem?_cons_zero, List.getElem?_cons_succ]; rfl) (by kernel_rfl) (by kernel_rfl) (by kernel_rfl) (fun _ _ _ h => h) (Or.inl ⟨by rfl, ?_⟩) HS2.out ?_
  rotate_left
  · intro w hSw
    (try dsimp only at hSw)
    obtain ⟨q0_, q1_, q2_, q3_, q4_, q5_, q6_, q7_, q8_⟩ := hSw
    go_simp
    try with_reducible rfl
  try simp only [Act.put, List.setIfInBounds_toArray, List.set_cons_zero, List.set_cons_succ]
  refine wpAnyH_take (i := 8) (v := ?_) (by simp only [List.getElem?_toArray, List.getElem?_cons_zero, List.getElem?_cons_succ]; rfl) (by kernel_rfl) (by kernel_rfl) (by kernel_rfl) (fun _ _ _ h => h) (Or.inl ⟨by rfl, ?_⟩) HS2.out ?_
  rotate_left
  · intro w hSw
    (try dsimp only at hSw)
    obtain ⟨q0_, q1_, q2_, q3_, q4_, q5_, q6_, q7_, q8_⟩ := hSw
    go_simp
    try with_reducible rfl
  try simp only [Act.put, List.setIfInBounds_toArray, List.set_cons_zero, List.set_cons_succ]
  refine wpAnyH_done (by kernel_rfl) ?_ _
  refine NoPanic.normal ?_
  have hdec : ((vn : Int) == 1) = decide (vn = 1) := by rw [Bool.eq_iff_iff]; simp; omega
  go_wp2
  refine bodyPost_ret (v := .tuple #[.bool (decide (vn = 1)), .int .i64 0]) ?_ rfl ?_
  · simp [results, Try.results29, go_sem]
  · exact ⟨by rw [HE.out]; rfl, HB4.out⟩
end Go.Proofs.Ytcoehbkjccfhlaa
/- enc.Relaxed's closure, by its contract. -/
namespace Go.Proofs.Ytcoehbkjccfhlaa
open Go Go.RowKit Go.Joins

set_option maxRecDepth 100000 in
set_option maxHeartbeats 3200000 in
theorem rel_any14 (g : Int) (C : List Int) (b off n : Nat) (w0 w : World) (B F first : Nat) (L : List (List Int)) (H : EnSt w0 B L w) (hL : L.length ≤ 100000000) (hC : OneZ w0 w (some ⟨b, off, none⟩, n, n) C)
    (hF : w.heap[F]? = some (.cells #[.int .i64 (first : Int)] 3 (0, 0))) (hf : first ≤ 100000000) (hg : -1 ≤ g ∧ g ≤ 100000000) (hn : n ≤ 1000) :
    Calls Try.prog 42 #[.int .i64 g, .slice (some ⟨b, off, none⟩) n n, .pointer (some ⟨F, 0, none⟩), .pointer (some ⟨B, 0, none⟩)] w fun e w' => e = .returned (.tuple #[]) ∧ EnSt w0 B (L ++ [withE first (g, C)]) w' ∧ EnGo B w w' := by
  obtain ⟨i0, hi, hz0, hz1, hz2⟩ := info_parts info_zs
  obtain ⟨j0, hj, hy0, hy1, hy2⟩ := info_parts info_int
  have hBel := H.bel
  have hsz := hBel.size
  have hsee := hC.sees hBel
  have hcl := hsee.zlen
  obtain ⟨hB, a', n', c', ss, hn', hbox, HL⟩ := H
  have hlen := HL.len
  have cF : w.cell? ⟨F, 0, none⟩ = some (.int .i64 (first : Int)) := cell_of_block hF 0
  by_cases e : g = -1
  · subst e
    have HROW := Lib.hid (HL.row.below (ext_alloc w (.cells #[.slice (some ⟨b, off, none⟩) n n] 45)))
    have cz : w.cell? ⟨B, 0, none⟩ = some (.slice a' n' c') := cell_of_block hbox 0
    have HBX := Lib.hid hbox
    have HNN := Lib.hid hn'
    have HLEN := Lib.hid hlen
    have HLL := Lib.hid HL
    have HCC := Lib.hid hC
    have hs8 : ss.length ≤ 100000000 := by omega
    have HE : Hid (withE first (-1, C) = C) := by show _ = _; simp [withE]
    clear hbox hn' hlen HL hC hL hsee hcl hg hBel hF
    go_enter Try.func42, Try.ntmps42
    go_wp2_with (at_builtin; refine wpList_append_row (fun _ => True) _ rfl _ _ 39 rfl w0.heap.size 45 i0 (.slice none 0 0) 24 Try.underlying39 hi hz0 hz1 hz2 rfl trivial (.slice a' n' c') ss.length (ss.map zsV) rfl HROW.out (some ⟨w.heap.size, 0, none⟩) 1 1 [.slice (some ⟨b, off, none⟩) n n] rfl (sees_lit w _ _ _ _ 1 rfl rfl) (by intro u hu; simp at hu; subst hu; rfl) (fun _ _ => trivial) ?c1 ?c2 ?c3 ?_)
    case c1 => unfold maxLen; omega
    case c2 => omega
    case c3 => simp; omega
    intro v' w2 hrow hg _
    obtain ⟨a2, c2, rfl⟩ := hrow.form
    have hm := EnSt.more (s := (some ⟨b, off, none⟩, n, n)) (C := C) hB HBX.out HLL.out (ext_alloc w (.cells #[.slice (some ⟨b, off, none⟩) n n] 45)) (HCC.out.imp id (fun hr => hr.below (ext_alloc _ _))) hrow hg
    have hbox2 : w2.heap[B]? = some (.cells #[.slice a' n' c'] 39 (0, 0)) := heap_grown (heap_below HBX.out (ext_alloc _ _)) hg (HROW.out.not_own (heap_below HBX.out (ext_alloc _ _)) (by decide))
    have d5 : w2.cell? ⟨B, 0, none⟩ = some (.slice a' n' c') := cell_of_block hbox2 0
    have f5 := unfrozen_of_block hbox2 0
    have HM := Lib.hid hm
    clear hm hbox2 hrow hg cz
    go_wp2
    go_end0
    exact ⟨rfl, by rw [HE.out]; exact HM.out⟩
  · have e1 : (g == (-1 : Int)) = false := by simpa using e
    have e2 : (g != (-1 : Int)) = true := by simp [bne, e1]
    have HE : Hid (withE first (g, C) = C ++ [(first : Int) + g]) := by show _ = _; simp [withE, e]
    obtain ⟨y, hy⟩ : ∃ y, y = (first : Int) + g := ⟨_, rfl⟩
    rw [← hy] at HE
    have W1 : IntKind.i64.wrap ((first : Int) + g) = y := by rw [hy]; exact IntWalk.i64_in _ (by omega)
    have HS : Hid (Sees (w.alloc (.cells #[.int .i64 y] 3)) (some ⟨b, off, none⟩) n n (zvs C)) := hsee.below (ext_alloc w (.cells #[.int .i64 y] 3))
    have HBX := Lib.hid hbox
    have HNN := Lib.hid hn'
    have HLEN := Lib.hid hlen
    have HLL := Lib.hid HL
    have HCN : Hid (n = C.length) := hcl.symm
    have hs8 : ss.length ≤ 100000000 := by omega
    have hbw : w0.heap.size ≤ (w.alloc (.cells #[.int .i64 y] 3)).heap.size := by simp; omega
    have HBW := Lib.hid hbw
    have HNEW : Hid ((w.alloc (.cells #[.int .i64 y] 3)).cell? ⟨w.heap.size, 0, none⟩ = some (.int .i64 y)) := cell_of_block (heap_new _ _ _ rfl) 0
    clear hbox hn' hlen HL hC hL hsee hcl hg hBel e hy hbw hF
    go_enter Try.func42, Try.ntmps42
    go_wp2_with (at_builtin; refine wpList_append_full14 rfl _ _ 45 rfl 3 j0 (.int .i64 0) Try.underlying45 hj hy0 hy1 hy2 rfl ⟨0, rfl⟩ b off n C HCN.out (by rfl) HS.out hn w.heap.size y (by rfl) HNEW.out w0.heap.size HBW.out ?_)
    intro a3 m3 c3 w3 hm3 hr3 hb3
    have HB3 := Lib.hid (ext_trans (ext_alloc w (.cells #[.int .i64 y] 3)) (by simpa using hb3))
    have HR3 := Lib.hid hr3
    have HM3 := Lib.hid hm3
    clear hm3 hr3 hb3 HS cF
    have HROW := Lib.hid ((HLL.out.row.below HB3.out).below (ext_alloc w3 (.cells #[.slice a3 m3 c3] 45)))
    have cz : w3.cell? ⟨B, 0, none⟩ = some (.slice a' n' c') := cell_of_block (heap_below HBX.out HB3.out) 0
    have hsz3 := HB3.out.size
    go_wp2_with (at_builtin; refine wpList_append_row (fun _ => True) _ rfl _ _ 39 rfl w0.heap.size 45 i0 (.slice none 0 0) 24 Try.underlying39 hi hz0 hz1 hz2 rfl trivial (.slice a' n' c') ss.length (ss.map zsV) rfl HROW.out (some ⟨w3.heap.size, 0, none⟩) 1 1 [.slice a3 m3 c3] rfl (sees_lit w3 _ _ _ _ 1 rfl rfl) (by intro u hu; simp at hu; subst hu; rfl) (fun _ _ => trivial) ?d1 ?d2 ?d3 ?_)
    case d1 => unfold maxLen; omega
    case d2 => omega
    case d3 => simp; omega
    intro v' w2 hrow hg _
    obtain ⟨a2, c2, rfl⟩ := hrow.form
    have hrr : Row isZ w3 w0.heap.size 3 (.slice a3 m3 c3) (C ++ [y]).length (zvs (C ++ [y])) := by rw [show (C ++ [y]).length = m3 by rw [HM3.out]; simp]; exact HR3.out
    have hm := EnSt.more (s := (a3, m3, c3)) (C := C ++ [y]) hB HBX.out HLL.out (ext_trans HB3.out (ext_alloc w3 (.cells #[.slice a3 m3 c3] 45))) (Or.inr (hrr.below (ext_alloc _ _))) hrow hg
    have hbox2 : w2.heap[B]? = some (.cells #[.slice a' n' c'] 39 (0, 0)) := heap_grown (heap_below (heap_below HBX.out HB3.out) (ext_alloc _ _)) hg (HROW.out.not_own (heap_below (heap_below HBX.out HB3.out) (ext_alloc _ _)) (by decide))
    have d5 : w2.cell? ⟨B, 0, none⟩ = some (.slice a' n' c') := cell_of_block hbox2 0
    have f5 := unfrozen_of_block hbox2 0
    have HM := Lib.hid hm
    clear hm hbox2 hrow hg cz hrr
    go_wp2
    go_end0
    exact ⟨rfl, by rw [HE.out]; exact HM.out⟩
end Go.Proofs.Ytcoehbkjccfhlaa
namespace Go.Proofs.Ytcoehbkjccfhlaa
open Go Go.RowKit Go.Joins

/-- The box B holds these lists; where there is a block F with the first switch, it is as it was. -/
structure EnX (F : Option (Nat × Nat)) (w0 : World) (B : Nat) (L : List (List Int)) (w : World) : Prop where
  st : EnSt w0 B L w
  fst : ∀ p, F = some p → w.heap[p.1]? = some (.cells #[.int .i64 (p.2 : Int)] 3 (0, 0)) ∧ p.1 ≠ B ∧ p.2 ≤ 100000000
def phiE (F : Option (Nat × Nat)) (t : TCl) : List Int := match F with
  | none => bareE t
  | some p => withE p.2 t
section
variable {F : Option (Nat × Nat)} {w0 w w' : World} {B : Nat} {L L' : List (List Int)}
theorem EnX.below (h : EnX F w0 B L w) (hb : Below w.heap.size w w') : EnX F w0 B L w' :=
  ⟨h.st.below hb, fun p hp => ⟨heap_below (h.fst p hp).1 hb, (h.fst p hp).2⟩⟩
theorem EnX.go (h : EnX F w0 B L w) (h' : EnSt w0 B L' w') (hg : EnGo B w w') : EnX F w0 B L' w' :=
  ⟨h', fun p hp => ⟨hg.at_ (h.fst p hp).1 (h.fst p hp).2.1 (by decide), (h.fst p hp).2⟩⟩
end
/-- A clause of one, two, three literals that was written out behind W. -/
theorem oneZ_of (w0 W : World) (hb : w0.heap.size ≤ W.heap.size) (xs : List Int) (n : Nat) (C : Array Value) (hC : C = (zvs xs).toArray) (hn : n = xs.length) (hs : xs.length ≤ 1000) : OneZ w0 (W.alloc (.cells C 3)) (some ⟨W.heap.size, 0, none⟩, n, n) xs :=
  .inr (row_zlit w0 W hb xs n C hC hn hs)
theorem doC_any (g : Int) (C : List Int) (b off n : Nat) (w0 w : World) (B : Nat) (L : List (List Int)) (H : EnX none w0 B L w) (hL : L.length ≤ 100000000) (hC : OneZ w0 w (some ⟨b, off, none⟩, n, n) C) (_hg : -1 ≤ g ∧ g ≤ 100000000) (_hn : n ≤ 1000) :
    Calls Try.prog 40 #[.int .i64 g, .slice (some ⟨b, off, none⟩) n n, .pointer (some ⟨B, 0, none⟩)] w fun e w' => e = .returned (.tuple #[]) ∧ EnX none w0 B (L ++ [phiE none (g, C)]) w' ∧ EnGo B w w' :=
  (put_any14 g C _ n n w0 w B L H.st hL hC).mono fun _ _ ⟨h1, h2, h3⟩ => ⟨h1, H.go h2 h3, h3⟩
theorem doR_any (g : Int) (C : List Int) (b off n : Nat) (w0 w : World) (B Fb first : Nat) (L : List (List Int)) (H : EnX (some (Fb, first)) w0 B L w) (hL : L.length ≤ 100000000) (hC : OneZ w0 w (some ⟨b, off, none⟩, n, n) C) (hg : -1 ≤ g ∧ g ≤ 100000000) (hn : n ≤ 1000) :
    Calls Try.prog 42 #[.int .i64 g, .slice (some ⟨b, off, none⟩) n n, .pointer (some ⟨Fb, 0, none⟩), .pointer (some ⟨B, 0, none⟩)] w fun e w' => e = .returned (.tuple #[]) ∧ EnX (some (Fb, first)) w0 B (L ++ [phiE (some (Fb, first)) (g, C)]) w' ∧ EnGo B w w' :=
  (rel_any14 g C b off n w0 w B Fb first L H.st hL hC (H.fst _ rfl).1 (H.fst _ rfl).2.2 hg hn).mono fun _ _ ⟨h1, h2, h3⟩ => ⟨h1, H.go h2 h3, h3⟩
end Go.Proofs.Ytcoehbkjccfhlaa
