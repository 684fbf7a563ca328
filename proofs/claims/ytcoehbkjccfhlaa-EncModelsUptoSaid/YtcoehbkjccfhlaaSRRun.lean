/- The reference's Run, by its contract. -/
import Derived.Test.YtcoehbkjccfhlaaGEncM00
import Derived.Test.YtcoehbkjccfhlaaGEncM03
import Derived.Test.YtcoehbkjccfhlaaGEncM01
import Derived.Test.YtcoehbkjccfhlaaGEncM02
import Derived.Test.YtcoehbkjccfhlaaGEncM04
import Derived.Test.YtcoehbkjccfhlaaGEncM05
import Derived.Test.YtcoehbkjccfhlaaNRefFits
import Derived.Test.YtcoehbkjccfhlaaSRFrame
import Derived.Test.YtcoehbkjccfhlaaGEncM08
import Derived.Test.YtcoehbkjccfhlaaRows
import Derived.BigQuiet
import Derived.BigRegion
import Derived.Deep.AppendLies
import Derived.Deep.CutRange
import Derived.Deep.QuietTactic
import Derived.Deep.RegionHeld3
import Derived.Deep.RegionLaw
import Derived.Deep.RegionWith
import Derived.KernelRfl
import Derived.Laws.Bits64b
import Derived.Laws.BitsAllLaws
import Derived.Laws.BitsLemmas
import Derived.Laws.EntriesVeiled
import Derived.Laws.Tables
import Derived.Lib.AppendStr
import Derived.Lib.AppendZeros
import Derived.Lib.ConvBytes
import Derived.Lib.Hide
import Derived.Lib.SlBytesRow
import Derived.Lib.SmallJoins
import Derived.LoopIn
import Derived.LoopNIn
import Derived.Maps.AppendAt
import Derived.OrdersHeld
import Derived.OrdersIn
import Derived.OwnWalkIn
import Derived.RangeFuncBox
import Derived.RangeFuncCalls
import Derived.RangeFuncLeaves
import Derived.RangeFuncNested
import Derived.RangeFuncWrites
import Derived.Shelf.Abstract
import Derived.Shelf.Bytes.SlSmallAll
import Derived.Shelf.RegionOpen
import Derived.Sort.CutIn
import Derived.Stop.RegionWithIn
import Derived.TacticsInMore
import Derived.WalkKit
import Derived.WalkLawsBesides
import Derived.WalkSpells
namespace Go.Proofs.Ytcoehbkjccfhlaa
open Go Go.RowKit Go.Joins

theorem k1_val_le {vs : List UInt8} (h : ∀ u ∈ vs, u.toNat ≤ 2) (lit : Nat) : (k1.val vs lit).toNat ≤ 2 := by
  unfold Kd.val
  split
  · exact k1_nt_le _
  · by_cases e : lit / 2 < vs.length
    · exact h _ (getD_mem e)
    · simp [List.getD, List.getElem?_eq_none (Nat.le_of_not_lt e), k1]
theorem after_le {c : NormC} : ∀ (fs : List (List UInt8)) (st : List UInt8), (∀ u ∈ st, u.toNat ≤ 2) → (∀ f ∈ fs, ∀ u ∈ f, u.toNat ≤ 2) → ∀ u ∈ k1.after c st fs, u.toNat ≤ 2
  | [], _, h, _ => h
  | f :: r, st, h, hf => by
    rw [Kd.after]
    refine after_le r _ (fun u hu => ?_) (fun g hg => hf g (by simp [hg]))
    unfold Kd.next at hu
    obtain ⟨p, _, rfl⟩ := List.mem_map.1 hu
    refine k1_val_le (gates_le2 _ _ (fun v hv => ?_)) _
    rcases List.mem_cons.1 hv with rfl | hv
    · decide
    · rcases List.mem_append.1 hv with hv | hv
      · exact hf f (by simp) v hv
      · exact h v hv
theorem frameOk_at {c : NormC} {t : TraceC} (h : FitsC c t) (k : Nat) (hk : k < t.frames.length) : frameOk c (k1.after c t.init (t.frames.take k)) (t.frames.getD k []) = true := by
  unfold frameOk
  rw [mayC_iff.2 h.may, valsOk_iff.2 ⟨by rw [k1.after_len c _ _ h.init], after_le _ _ h.inits (fun f hf => h.values f (List.mem_of_mem_take hf))⟩, valsOk_iff.2 ⟨h.frames k hk, h.values _ (getD_mem hk)⟩]
  rfl
theorem SeesF.at {w : World} {b off n c : Nat} {ss : List Slc} {fs : List (List UInt8)} (h : SeesF w (some ⟨b, off, none⟩) n c ss fs) (k : Nat) (hk : k < n) : w.cell? ⟨b, off + k, none⟩ = some (slV (ss.getD k slc0)) := by
  have hl : ss.length = n := h.1.lenMap
  rw [(h.1.cell k hk).2, List.getElem?_map, List.getElem?_eq_getElem (by rw [hl]; exact hk)]
  simp [List.getD, List.getElem?_eq_getElem (show k < ss.length by rw [hl]; exact hk)]
theorem keep8r {w w' : World} {a0 a1 a2 a3 a4 a5 a6 a7 : Addr} {v0 v1 v2 v3 v4 v5 v6 v7 : Value} (h : w.cell? a0 = some v0 ∧ w.cell? a1 = some v1 ∧ w.cell? a2 = some v2 ∧ w.cell? a3 = some v3 ∧ w.cell? a4 = some v4 ∧ w.cell? a5 = some v5 ∧ w.cell? a6 = some v6 ∧ w.cell? a7 = some v7) (hb : Below w.heap.size w w') : w'.cell? a0 = some v0 ∧ w'.cell? a1 = some v1 ∧ w'.cell? a2 = some v2 ∧ w'.cell? a3 = some v3 ∧ w'.cell? a4 = some v4 ∧ w'.cell? a5 = some v5 ∧ w'.cell? a6 = some v6 ∧ w'.cell? a7 = some v7 := by
  obtain ⟨h0, h1, h2, h3, h4, h5, h6, h7⟩ := h
  have one : ∀ {a : Addr} {v : Value}, w.cell? a = some v → w'.cell? a = some v := fun {a v} h => (hb.cell (World.block_lt_of_cell? _ _ h)).trans h
  exact ⟨one h0, one h1, one h2, one h3, one h4, one h5, one h6, one h7⟩


structure SrInv (c : NormC) (t : TraceC) (w : World) (k : Nat) (W : World) (v : Value) (ss : List Slc) : Prop where
  len : ss.length = k
  row : W.ownsRow w.heap.size 27 1 v k (ss.map slV)
  rows : ∀ j, j < k → Row isByte W w.heap.size 5 (slV (ss.getD j slc0)) (varsAt c t j).length ((varsAt c t j).map bv)
  low : Below w.heap.size w W
theorem SrInv.below {c : NormC} {t : TraceC} {w : World} {k : Nat} {W W' : World} {v : Value} {ss : List Slc} (h : SrInv c t w k W v ss) (hb : Below W.heap.size W W') : SrInv c t w k W' v ss :=
  ⟨h.len, ownsN_below h.row hb, fun j hj => (h.rows j hj).below hb, ext_trans h.low hb⟩

set_option maxRecDepth 100000 in
set_option maxHeartbeats 3200000 in
theorem rrun_any (c : NormC) (t : TraceC) (s : CSlots) (st : TSlots) (w : World) (h : SeesCir w s c) (ht : SeesTr w st t) (hs : s.small) (hst : st.small) (hlo : -9223372036854775808 ≤ c.ins) (hhi : c.ins < 9223372036854775808) (hb1 : -9223372036854775808 ≤ t.bad ∧ t.bad < 9223372036854775808) (hw : Wide c) :
    Calls Try.prog 27 #[cirV c.ins s, traceV t.bad st] w (RunPost c t w) := by
  obtain ⟨i0, hi, hz0, hz1, hz2⟩ := info_parts info_u8s
  have HFIT := Lib.hid (fun W (hb : Below w.heap.size w W) => reffits_any c t s st W (h.below hb) (ht.below hb) hs hst hlo hhi hb1 hw)
  have HRF := Lib.hid (fun (sv iv : List UInt8) (a1 : Option Addr) (n1 c1 : Nat) (a2 : Option Addr) (n2 c2 : Nat) W (hb : Below w.heap.size w W) h1 h2 hn1 hn2 => rframe_any c s sv iv a1 n1 c1 a2 n2 c2 W (h.below hb) hs h1 h2 hn1 hn2 hlo hhi hw)
  have HFC : Hid (fitsS c t = true → FitsC c t) := fits_iff.1
  have HE : Hid (∀ e w', RunPost c t w e w' ↔ (fitsS c t = true → ∃ (v : Value) (ss : List Slc), e = .returned (.tuple #[v, .int .i64 0]) ∧ ss.length = t.frames.length ∧ w'.ownsRow w.heap.size 27 1 v t.frames.length (ss.map slV) ∧ (∀ j, j < t.frames.length → Row isByte w' w.heap.size 5 (slV (ss.getD j slc0)) (varsAt c t j).length ((varsAt c t j).map bv))) ∧ (fitsS c t = false → e = .returned (.tuple #[.slice none 0 0, .int .i64 2])) ∧ Below w.heap.size w w') := fun _ _ => Iff.rfl
  obtain ⟨q, hq⟩ : ∃ q, q = fitsS c t := ⟨_, rfl⟩
  rw [← hq] at HFIT HFC HE
  have HT := Lib.hid ht
  have HST := Lib.hid hst
  have HNF : Hid (t.frames.length = st.n2) := ht.s2.n_eq
  clear hq h ht hs hst hlo hhi hb1 hw
  unfold cirV traceV at *
  go_enter Try.func27, Try.ntmps27
  go_upto_region 1 with fail
  generalize hW : World.alloc (World.alloc w _) _ = W1
  have hb : Below w.heap.size w W1 := by subst hW; exact ext_trans (ext_alloc _ _) (ext_alloc _ _)
  have hx : W1.heap[w.heap.size]? = some (.cells #[.int .i64 c.ins, .slice s.a1 s.n1 s.c1, .slice s.a2 s.n2 s.c2, .slice s.a3 s.n3 s.c3, .slice s.a4 s.n4 s.c4, .slice s.a5 s.n5 s.c5] 26 (0, 0)) := by subst hW; exact heap_below (heap_new _ _ _ rfl) (ext_alloc _ _)
  have hy : W1.heap[w.heap.size + 1]? = some (.cells #[.int .i64 t.bad, .slice st.a1 st.n1 st.c1, .slice st.a2 st.n2 st.c2] 30 (0, 0)) := by subst hW; exact heap_new _ _ _ (by simp)
  have HB := Lib.hid hb
  have HX := Lib.hid hx
  have HY := Lib.hid hy
  clear hW hb hx hy
  have p0 := cell_of_block HX.out 0
  have p1 := cell_of_block HX.out 1
  have p2 := cell_of_block HX.out 2
  have p3 := cell_of_block HX.out 3
  have p4 := cell_of_block HX.out 4
  have p5 := cell_of_block HX.out 5
  have r0 := cell_of_block HY.out 0
  have r1 := cell_of_block HY.out 1
  have r2 := cell_of_block HY.out 2
  go_wp2_with fail
  refine (HFIT.out W1 HB.out).mono ?_
  rintro e W2 ⟨rfl, hb⟩
  have HX2 := Lib.hid (heap_below HX.out hb)
  have HY2 := Lib.hid (heap_below HY.out hb)
  have HB2 := Lib.hid (ext_trans HB.out hb)
  clear p0 p1 p2 p3 p4 p5 r0 r1 r2 HX HY HB hb
  cases q with
  | false =>
    go_wp2
    refine bodyPost_ret (v := .tuple #[.slice none 0 0, .int .i64 2]) ?_ rfl ?_
    · simp [results, Try.results27, go_sem]
    · exact (HE.out _ _).2 ⟨(fun h => by cases h), (fun _ => rfl), HB2.out⟩
  | true =>
  have HF := Lib.hid (HFC.out rfl)
  have hn2 : 0 < st.n2 := by rw [← HNF.out]; exact HF.out.one
  have hn256 : st.n2 ≤ 256 := by rw [← HNF.out]; exact HF.out.few
  have r1 := cell_of_block HY2.out 1
  have r2 := cell_of_block HY2.out 2
  go_wp2_with fail
  clear r1 r2
  go_loopw [8, 6, 7, 9, 10, 11] (fun i l sv _ _ _ wr => ∃ (k : Nat) (ga : Option Addr) (gc : Nat) (ss : List Slc) (sa : Option Addr) (sn sc : Nat), k ≤ st.n2 ∧ i = .int .i64 k ∧ l = .slice ga k gc ∧ sv = .slice sa sn sc ∧ Hid (SrInv c t w k wr (.slice ga k gc) ss) ∧ Hid (Sees wr sa sn sc ((k1.after c t.init (t.frames.take k)).map bv)) ∧
      Hid (wr.heap[w.heap.size]? = some (.cells #[.int .i64 c.ins, .slice s.a1 s.n1 s.c1, .slice s.a2 s.n2 s.c2, .slice s.a3 s.n3 s.c3, .slice s.a4 s.n4 s.c4, .slice s.a5 s.n5 s.c5] 26 (0, 0))) ∧ Hid (wr.heap[w.heap.size + 1]? = some (.cells #[.int .i64 t.bad, .slice st.a1 st.n1 st.c1, .slice st.a2 st.n2 st.c2] 30 (0, 0)))) (fun i _ _ _ _ _ _ => st.n2 - (intOf i).toNat)
  case atStart =>
    refine ⟨0, none, 0, [], _, _, _, Nat.zero_le _, rfl, rfl, rfl, ⟨rfl, ⟨rfl, .inl ⟨rfl, rfl⟩⟩, fun j hj => absurd hj (by omega), HB2.out⟩, ?_, HX2.out, HY2.out⟩
    exact HT.out.s1.below HB2.out
  case round =>
    clear HX2 HY2
    obtain ⟨k, ga, gc, ss, sa, sn, sc, hk, rfl, rfl, rfl, hI, hS, hX, hY⟩ := hrel
    by_cases hlt : k < st.n2
    · obtain ⟨tb, off, ha2, _⟩ := HT.out.s2.1.addr hn2
      have hTr := HT.out.below hI.out.low
      have hs2 := hTr.s2
      rw [ha2] at hs2
      have hcx := hs2.at k hlt
      have hfs := hs2.each k (by rw [HNF.out]; exact hlt)
      have hfl : (st.ss.getD k slc0).2.1 ≤ 1048576 := HST.out.each _ (getD_mem (by rw [hs2.1.lenMap]; exact hlt))
      obtain ⟨x, hx⟩ : ∃ x : Slc, x = st.ss.getD k slc0 := ⟨_, rfl⟩
      rw [← hx] at hcx hfs hfl
      obtain ⟨xa, xn, xc⟩ := x
      simp only [slV] at hcx
      simp only at hfs hfl
      have hsl := hS.out.lenMap
      have hok := frameOk_at HF.out k (by rw [HNF.out]; exact hlt)
      have hlen := k1.after_len c (t.frames.take k) t.init HF.out.init
      have hsn : sn ≤ 1048576 := by
        rw [← hsl, hlen]
        have := HF.out.may.few
        unfold varsN at this
        omega
      have hcall := fun W (hb : Below w.heap.size w W) (h2 : Below wr.heap.size wr W) => HRF.out (k1.after c t.init (t.frames.take k)) (t.frames.getD k []) sa sn sc xa xn xc W hb (hS.out.below h2) (hfs.below h2) hsn hfl
      rw [hok] at hcall
      have hva : k1.vars c (k1.after c t.init (t.frames.take k)) (t.frames.getD k []) = varsAt c t k := rfl
      have hna : k1.next c (varsAt c t k) = k1.after c t.init (t.frames.take (k + 1)) := by
        have hkl : k < t.frames.length := by rw [HNF.out]; exact hlt
        rw [List.take_add_one, List.getElem?_eq_getElem hkl]
        simp only [Option.toList_some]
        rw [Kd.after_snoc]
        unfold varsAt
        simp [List.getD, List.getElem?_eq_getElem hkl]
      rw [hva, hna] at hcall
      have HCALL := Lib.hid hcall
      have p2 := cell_of_block hY.out 2
      rw [ha2] at p2
      have HS0 := Lib.hid (And.intro (cell_of_block hX.out 0) (And.intro (cell_of_block hX.out 1) (And.intro (cell_of_block hX.out 2) (And.intro (cell_of_block hX.out 3) (And.intro (cell_of_block hX.out 4) (And.intro (cell_of_block hX.out 5) (And.intro p2 hcx)))))))
      have W1' : IntKind.i64.wrap ((k : Int) + 1) = (k : Int) + 1 := IntWalk.i64_in _ (by omega)
      have hI1 : (k : Int) < (st.n2 : Int) := by omega
      have hI0 : (0 : Int) ≤ (k : Int) := by omega
      have HA2 := Lib.hid ha2
      clear hcall hva hna hok hlen hsl hx hs2 hTr hcx hfs hfl hsn ha2
      go_upto_region 8 with fail
      clear p2
      refine wp_region_noPanic ?_
      refine wp_region_held (S := fun w' => w'.cell? ⟨w.heap.size, 0, none⟩ = some (.int .i64 c.ins) ∧ w'.cell? ⟨w.heap.size, 1, none⟩ = some (.slice s.a1 s.n1 s.c1) ∧ w'.cell? ⟨w.heap.size, 2, none⟩ = some (.slice s.a2 s.n2 s.c2) ∧ w'.cell? ⟨w.heap.size, 3, none⟩ = some (.slice s.a3 s.n3 s.c3) ∧ w'.cell? ⟨w.heap.size, 4, none⟩ = some (.slice s.a4 s.n4 s.c4) ∧ w'.cell? ⟨w.heap.size, 5, none⟩ = some (.slice s.a5 s.n5 s.c5) ∧ w'.cell? ⟨w.heap.size + 1, 2, none⟩ = some (.slice (some ⟨tb, off, none⟩) st.n2 st.c2) ∧ w'.cell? ⟨tb, off + k, none⟩ = some (.slice xa xn xc)) (by kernel_rfl) ?_
      generalize hY2 : ({ wr with drawn := wr.drawn + 1 } : World) = Y0
      have hY0 : Below wr.heap.size wr Y0 := by subst hY2; exact (Below.refl _ _).drew
      have HSD := Lib.hid (keep8r HS0.out hY0)
      have HYB := Lib.hid hY0
      clear hY0 hY2
      refine wpAnyH_take (i := 0) (v := ?_) (by simp only [List.getElem?_toArray, List.getElem?_cons_zero]; rfl) (by kernel_rfl) (by kernel_rfl) (by kernel_rfl) (fun _ _ _ h => h) (Or.inl ⟨by rfl, ?_⟩) HSD.out ?_
      rotate_left
      · intro w hSw
        (try dsimp only at hSw)
        obtain ⟨q0_, q1_, q2_, q3_, q4_, q5_, q6_, q7_⟩ := hSw
        go_simp
        try with_reducible rfl
      try simp only [Act.put, List.setIfInBounds_toArray, List.set_cons_zero, List.set_cons_succ]
      refine wpAnyH_take (i := 1) (v := ?_) (by simp only [List.getElem?_toArray, List.getElem?_cons_zero, List.getElem?_cons_succ]; rfl) (by kernel_rfl) (by kernel_rfl) (by kernel_rfl) (fun _ _ _ h => h) (Or.inl ⟨by rfl, ?_⟩) HSD.out ?_
      rotate_left
      · intro w hSw
        (try dsimp only at hSw)
        obtain ⟨q0_, q1_, q2_, q3_, q4_, q5_, q6_, q7_⟩ := hSw
        go_simp
        try with_reducible rfl
      try simp only [Act.put, List.setIfInBounds_toArray, List.set_cons_zero, List.set_cons_succ]
      refine wpAnyH_take (i := 2) (v := ?_) (by simp only [List.getElem?_toArray, List.getElem?_cons_zero, List.getElem?_cons_succ]; rfl) (by kernel_rfl) (by kernel_rfl) (by kernel_rfl) (fun _ _ _ h => h) (Or.inl ⟨by rfl, ?_⟩) HSD.out ?_
      rotate_left
      · intro w hSw
        (try dsimp only at hSw)
        obtain ⟨q0_, q1_, q2_, q3_, q4_, q5_, q6_, q7_⟩ := hSw
        go_simp
        try with_reducible rfl
      try simp only [Act.put, List.setIfInBounds_toArray, List.set_cons_zero, List.set_cons_succ]
      refine wpAnyH_take (i := 3) (v := ?_) (by simp only [List.getElem?_toArray, List.getElem?_cons_zero, List.getElem?_cons_succ]; rfl) (by kernel_rfl) (by kernel_rfl) (by kernel_rfl) (fun _ _ _ h => h) (Or.inl ⟨by rfl, ?_⟩) HSD.out ?_
      rotate_left
      · intro w hSw
        (try dsimp only at hSw)
        obtain ⟨q0_, q1_, q2_, q3_, q4_, q5_, q6_, q7_⟩ := hSw
        go_simp
        try with_reducible rfl
      try simp only [Act.put, List.setIfInBounds_toArray, List.set_cons_zero, List.set_cons_succ]
      refine wpAnyH_take (i := 4) (v := ?_) (by simp only [List.getElem?_toArray, List.getElem?_cons_zero, List.getElem?_cons_succ]; rfl) (by kernel_rfl) (by kernel_rfl) (by kernel_rfl) (fun _ _ _ h => h) (Or.inl ⟨by rfl, ?_⟩) HSD.out ?_
      rotate_left
      · intro w hSw
        (try dsimp only at hSw)
        obtain ⟨q0_, q1_, q2_, q3_, q4_, q5_, q6_, q7_⟩ := hSw
        go_simp
        try with_reducible rfl
      try simp only [Act.put, List.setIfInBounds_toArray, List.set_cons_zero, List.set_cons_succ]
      refine wpAnyH_take (i := 5) (v := ?_) (by simp only [List.getElem?_toArray, List.getElem?_cons_zero, List.getElem?_cons_succ]; rfl) (by kernel_rfl) (by kernel_rfl) (by kernel_rfl) (fun _ _ _ h => h) (Or.inl ⟨by rfl, ?_⟩) HSD.out ?_
      rotate_left
      · intro w hSw
        (try dsimp only at hSw)
        obtain ⟨q0_, q1_, q2_, q3_, q4_, q5_, q6_, q7_⟩ := hSw
        go_simp
        try with_reducible rfl
      try simp only [Act.put, List.setIfInBounds_toArray, List.set_cons_zero, List.set_cons_succ]
      refine wpAnyH_take (i := 6) (v := ?_) (by simp only [List.getElem?_toArray, List.getElem?_cons_zero, List.getElem?_cons_succ]; rfl) (by kernel_rfl) (by kernel_rfl) (by kernel_rfl) (fun _ _ _ h => h) (Or.inl ⟨by rfl, ?_⟩) HSD.out ?_
      rotate_left
      · intro w hSw
        (try dsimp only at hSw)
        obtain ⟨q0_, q1_, q2_, q3_, q4_, q5_, q6_, q7_⟩ := hSw
        go_simp
        try with_reducible rfl
      try simp only [Act.put, List.setIfInBounds_toArray, List.set_cons_zero, List.set_cons_succ]
      refine wpAnyH_ready (rs := [7]) (by kernel_rfl) (by simp) ?_
      refine AllReadyH.cons (by simp only [List.getElem?_toArray, List.getElem?_cons_zero, List.getElem?_cons_succ]; rfl) (fun K hK => ?_) AllReadyH.nil
      go_simp
      refine (HCALL.out _ (ext_trans hI.out.low HYB.out) HYB.out).mono ?_
      rintro e s1 hp
      obtain ⟨⟨va, vn, vc⟩, ⟨na, nn, nc⟩, rfl, rv, rn, b1⟩ := hp
      simp only [if_true] at rv rn ⊢
      simp only [slV] at rv rn ⊢
      have HBS := Lib.hid (ext_trans HYB.out b1)
      have HS1 := Lib.hid (keep8r HSD.out b1)
      have HRV := Lib.hid (row_base rv HYB.out.size)
      have HRN := Lib.hid (row_base (row_base rn HYB.out.size) hI.out.low.size)
      clear b1 rv rn
      refine hK.out _ _ HS1.out (fun _ => ?_)
      clear hK K
      try simp only [Act.put, List.setIfInBounds_toArray, List.set_cons_zero, List.set_cons_succ]
      refine wpAnyH_take (i := 8) (v := ?_) (by simp only [List.getElem?_toArray, List.getElem?_cons_zero, List.getElem?_cons_succ]; rfl) (by kernel_rfl) (by kernel_rfl) (by kernel_rfl) (fun _ _ _ h => h) (Or.inl ⟨by rfl, ?_⟩) HS1.out ?_
      rotate_left
      · intro w hSw
        (try dsimp only at hSw)
        obtain ⟨q0_, q1_, q2_, q3_, q4_, q5_, q6_, q7_⟩ := hSw
        go_simp
        try with_reducible rfl
      try simp only [Act.put, List.setIfInBounds_toArray, List.set_cons_zero, List.set_cons_succ]
      refine wpAnyH_take (i := 9) (v := ?_) (by simp only [List.getElem?_toArray, List.getElem?_cons_zero, List.getElem?_cons_succ]; rfl) (by kernel_rfl) (by kernel_rfl) (by kernel_rfl) (fun _ _ _ h => h) (Or.inl ⟨by rfl, ?_⟩) HS1.out ?_
      rotate_left
      · intro w hSw
        (try dsimp only at hSw)
        obtain ⟨q0_, q1_, q2_, q3_, q4_, q5_, q6_, q7_⟩ := hSw
        go_simp
        try with_reducible rfl
      try simp only [Act.put, List.setIfInBounds_toArray, List.set_cons_zero, List.set_cons_succ]
      refine wpAnyH_take (i := 10) (v := ?_) (by simp only [List.getElem?_toArray, List.getElem?_cons_zero, List.getElem?_cons_succ]; rfl) (by kernel_rfl) (by kernel_rfl) (by kernel_rfl) (fun _ _ _ h => h) (Or.inl ⟨by rfl, ?_⟩) HS1.out ?_
      rotate_left
      · intro w hSw
        (try dsimp only at hSw)
        obtain ⟨q0_, q1_, q2_, q3_, q4_, q5_, q6_, q7_⟩ := hSw
        go_simp
        try with_reducible rfl
      try simp only [Act.put, List.setIfInBounds_toArray, List.set_cons_zero, List.set_cons_succ]
      refine wpAnyH_take (i := 11) (v := ?_) (by simp only [List.getElem?_toArray, List.getElem?_cons_zero, List.getElem?_cons_succ]; rfl) (by kernel_rfl) (by kernel_rfl) (by kernel_rfl) (fun _ _ _ h => h) (Or.inl ⟨by rfl, ?_⟩) HS1.out ?_
      rotate_left
      · intro w hSw
        (try dsimp only at hSw)
        obtain ⟨q0_, q1_, q2_, q3_, q4_, q5_, q6_, q7_⟩ := hSw
        go_simp
        try with_reducible rfl
      try simp only [Act.put, List.setIfInBounds_toArray, List.set_cons_zero, List.set_cons_succ]
      refine wpAnyH_take (i := 12) (v := ?_) (by simp only [List.getElem?_toArray, List.getElem?_cons_zero, List.getElem?_cons_succ]; rfl) (by kernel_rfl) (by kernel_rfl) (by kernel_rfl) (fun _ _ _ h => h) (Or.inl ⟨by rfl, ?_⟩) HS1.out ?_
      rotate_left
      · intro w hSw
        (try dsimp only at hSw)
        obtain ⟨q0_, q1_, q2_, q3_, q4_, q5_, q6_, q7_⟩ := hSw
        go_simp
        try with_reducible rfl
      try simp only [Act.put, List.setIfInBounds_toArray, List.set_cons_zero, List.set_cons_succ]
      refine wpAnyH_take (i := 13) (v := ?_) (by simp only [List.getElem?_toArray, List.getElem?_cons_zero, List.getElem?_cons_succ]; rfl) (by kernel_rfl) (by kernel_rfl) (by kernel_rfl) (fun _ _ _ h => h) (Or.inl ⟨by rfl, ?_⟩) HS1.out ?_
      rotate_left
      · intro w hSw
        (try dsimp only at hSw)
        obtain ⟨q0_, q1_, q2_, q3_, q4_, q5_, q6_, q7_⟩ := hSw
        go_simp
        try with_reducible rfl
      try simp only [Act.put, List.setIfInBounds_toArray, List.set_cons_zero, List.set_cons_succ]
      refine wpAnyH_take (i := 14) (v := ?_) (by simp only [List.getElem?_toArray, List.getElem?_cons_zero, List.getElem?_cons_succ]; rfl) (by kernel_rfl) (by kernel_rfl) (by kernel_rfl) (fun _ _ _ h => h) (Or.inl ⟨by rfl, ?_⟩) HS1.out ?_
      rotate_left
      · intro w hSw
        (try dsimp only at hSw)
        obtain ⟨q0_, q1_, q2_, q3_, q4_, q5_, q6_, q7_⟩ := hSw
        go_simp
        try with_reducible rfl
      try simp only [Act.put, List.setIfInBounds_toArray, List.set_cons_zero, List.set_cons_succ]
      refine wpAnyH_done (by kernel_rfl) ?_ _
      refine NoPanic.normal ?_
      have HI1 := Lib.hid (hI.out.below HBS.out)
      have HX1 := Lib.hid (heap_below hX.out HBS.out)
      have HY1 := Lib.hid (heap_below hY.out HBS.out)
      have HIW := Lib.hid (ext_trans hI.out.low HBS.out)
      have HRV2 := Lib.hid (row_base HRV.out hI.out.low.size)
      clear hI hX hY hS HS0 HSD HS1 HCALL HRV
      go_wp2_with (at_builtin; refine wpList_append_own_at _ rfl _ _ 28 rfl w.heap.size 27 i0 (.slice none 0 0) 1 24 Try.underlying28 hi hz0 hz1 hz2 rfl (by decide) (.slice ga k gc) k (ss.map slV) rfl (ownsN_below HI1.out.row (ext_alloc _ _)) ⟨s1.heap.size, 0, none⟩ 1 1 [.slice va vn vc] rfl rfl (cell_one_new _ _ _) (by simp [Value.oneCell']) ?c4 ?c5 ?c6 ?_)
      case c4 => unfold maxLen; omega
      case c5 => omega
      case c6 => have := HIW.out.size; simp; omega
      intro v' w1 hown' hgrow _ _
      have hal := ext_alloc s1 (.cells #[.slice va vn vc] 27)
      have hro := ownsN_below HI1.out.row hal
      obtain ⟨WA, hWA⟩ : ∃ WA, WA = s1.alloc (.cells #[.slice va vn vc] 27) := ⟨_, rfl⟩
      rw [← hWA] at hgrow hal hro
      have hb1' : Below w.heap.size w w1 := (ext_trans HIW.out hal).grown hgrow (ext_trans HIW.out hal).size (fun q hq => (hro.lt q hq).1)
      have HXW := Lib.hid (heap_grown (heap_below HX1.out hal) hgrow (ownsN_notown hro (heap_below HX1.out hal) (by decide)))
      have HYW := Lib.hid (heap_grown (heap_below HY1.out hal) hgrow (ownsN_notown hro (heap_below HY1.out hal) (by decide)))
      have HNEW : Hid (SrInv c t w (k + 1) w1 v' (ss ++ [(va, vn, vc)])) := by
        refine ⟨by simp [HI1.out.len], by simpa [slV] using hown', fun j hj => ?_, hb1'⟩
        have one : ∀ {x : Slc} {n : Nat} {V : List UInt8}, Row isByte WA w.heap.size 5 (slV x) n (V.map bv) → Row isByte w1 w.heap.size 5 (slV x) n (V.map bv) := fun {x n V} hx => row_grown hx hro hgrow (by decide)
        by_cases e : j = k
        · subst e
          have e1 : (ss ++ [(va, vn, vc)]).getD j slc0 = (va, vn, vc) := by rw [← HI1.out.len]; simp
          rw [e1]
          exact one (HRV2.out.below hal)
        · have e1 : (ss ++ [(va, vn, vc)]).getD j slc0 = ss.getD j slc0 := by simp [List.getD, List.getElem?_append_left (show j < ss.length by rw [HI1.out.len]; omega)]
          rw [e1]
          exact one ((HI1.out.rows j (by omega)).below hal)
      have HSN : Hid (Sees w1 na nn nc ((k1.after c t.init (t.frames.take (k + 1))).map bv)) := (row_sees_slice (row_grown (HRN.out.below hal) hro hgrow (by decide))).2
      obtain ⟨gx, gxc, rfl⟩ := ownsN_form hown'
      clear hal hro hWA hb1' hown' hgrow
      go_wp2
      go_roundw
      case rel => exact ⟨k + 1, gx, gxc, _, na, nn, nc, by omega, by go_num, rfl, rfl, HNEW.out, HSN.out, HXW.out, HYW.out⟩
      case measure => simp [intOf]; omega
    · obtain rfl : k = st.n2 := by omega
      have p2 := cell_of_block hY.out 2
      go_wp2
      refine bodyPost_ret (v := .tuple #[.slice ga st.n2 gc, .int .i64 0]) ?_ rfl ?_
      · simp [results, Try.results27, go_sem]
      · refine (HE.out _ _).2 ⟨(fun _ => ⟨_, ss, rfl, ?_, ?_, ?_⟩), (fun h => by cases h), hI.out.low⟩
        · rw [hI.out.len, HNF.out]
        · rw [HNF.out]; exact hI.out.row
        · rw [HNF.out]; exact hI.out.rows
end Go.Proofs.Ytcoehbkjccfhlaa
