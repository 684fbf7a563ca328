/- The reference's Frame, by its contract. -/
import Derived.Test.YtcoehbkjccfhlaaGEncM00
import Derived.Test.YtcoehbkjccfhlaaGEncM03
import Derived.Test.YtcoehbkjccfhlaaGEncM07
import Derived.Test.YtcoehbkjccfhlaaGEncM01
import Derived.Test.YtcoehbkjccfhlaaGEncM02
import Derived.Test.YtcoehbkjccfhlaaNRefMay3
import Derived.Test.YtcoehbkjccfhlaaGEncM04
import Derived.Test.YtcoehbkjccfhlaaGEncM08
import Derived.Test.YtcoehbkjccfhlaaRows
import Derived.Test.YtcoehbkjccfhlaaGEncM05
import Derived.BigQuiet
import Derived.BigRegion
import Derived.Deep.AppendLies
import Derived.Deep.CutRange
import Derived.Deep.QuietTactic
import Derived.Deep.RegionHeld3
import Derived.Deep.RegionLaw
import Derived.Deep.RegionWith
import Derived.KernelRfl
import Derived.Laws.Bits64b
import Derived.Laws.BitsAllLaws
import Derived.Laws.BitsLemmas
import Derived.Laws.EntriesVeiled
import Derived.Laws.Tables
import Derived.Lib.AppendStr
import Derived.Lib.AppendZeros
import Derived.Lib.ConvBytes
import Derived.Lib.Hide
import Derived.Lib.SlBytesRow
import Derived.Lib.SmallJoins
import Derived.Maps.AppendAt
import Derived.OrdersHeld
import Derived.Shelf.Bytes.SlSmallAll
import Derived.WalkKit
import Derived.WalkLawsBesides
import Derived.WalkSpells
namespace Go.Proofs.Ytcoehbkjccfhlaa
open Go Go.RowKit Go.Joins

/-- May a frame be? -/
def frameOk (c : NormC) (st ins : List UInt8) : Bool := mayC c && valsOk st c.lats.length && valsOk ins c.ins
/-- What a frame answers, or its error. -/
def SrFrPost (w : World) (ok : Bool) (vs ns : List UInt8) (e : Ending) (w' : World) : Prop :=
  ∃ x y : Slc, e = .returned (.tuple #[slV x, slV y, .int .i64 (if ok = true then 0 else 2)]) ∧ Row isByte w' w.heap.size 5 (slV x) (if ok = true then vs else []).length ((if ok = true then vs else []).map bv) ∧
    Row isByte w' w.heap.size 5 (slV y) (if ok = true then ns else []).length ((if ok = true then ns else []).map bv) ∧ Below w.heap.size w w'
theorem SrFrPost.no {w w' : World} {ok : Bool} {vs ns : List UInt8} (h : ok = false) (hb : Below w.heap.size w w') : SrFrPost w ok vs ns (.returned (.tuple #[.slice none 0 0, .slice none 0 0, .int .i64 2])) w' := by
  subst h
  exact ⟨slc0, slc0, rfl, Row.nil _ _ _ _, Row.nil _ _ _ _, hb⟩
theorem valsOk_iff {l : List UInt8} {m : Int} : valsOk l m = true ↔ (l.length : Int) = m ∧ ∀ u ∈ l, u.toNat ≤ 2 := by
  unfold valsOk
  simp only [Bool.and_eq_true, decide_eq_true_eq, Bool.not_eq_true', List.any_eq_false]
  exact ⟨fun h => ⟨h.1, fun u hu => by have := h.2 u hu; simpa using this⟩, fun h => ⟨h.1, fun u hu => by have := h.2 u hu; simpa using this⟩⟩
theorem k1_nt_le (a : UInt8) : (k1.nt a).toNat ≤ 2 := by
  show (UInt8.ofNat (not1 a.toNat)).toNat ≤ 2
  have := not1_le a.toNat
  rw [UInt8.toNat_ofNat', Nat.mod_eq_of_lt (by omega)]
  exact this
theorem k1_an_le (a b : UInt8) : (k1.an a b).toNat ≤ 2 := by
  show (UInt8.ofNat (and1 a.toNat b.toNat)).toNat ≤ 2
  have := and1_le a.toNat b.toNat
  rw [UInt8.toNat_ofNat', Nat.mod_eq_of_lt (by omega)]
  exact this
theorem gates_le2 : ∀ (l : List (Nat × Nat)) (vs : List UInt8), (∀ u ∈ vs, u.toNat ≤ 2) → ∀ u ∈ k1.gates l vs, u.toNat ≤ 2
  | [], _, h => h
  | g :: r, vs, h => by
    rw [Kd.gates]
    refine gates_le2 r _ (fun u hu => ?_)
    rcases List.mem_append.1 hu with hu | hu
    · exact h u hu
    · obtain rfl : u = _ := by simpa using hu
      exact k1_an_le _ _
theorem valueL_eq {vs : List UInt8} {lit : Nat} (h : lit / 2 < vs.length) (h2 : ∀ u ∈ vs, u.toNat ≤ 2) : valueL vs lit = k1.val vs lit := by
  unfold valueL
  rw [if_pos ⟨h, h2 _ (getD_mem h)⟩]

theorem keep3f {w w' : World} {a0 a1 a2 : Addr} {v0 v1 v2 : Value} (h : w.cell? a0 = some v0 ∧ w.cell? a1 = some v1 ∧ w.cell? a2 = some v2) (hb : Below w.heap.size w w') : w'.cell? a0 = some v0 ∧ w'.cell? a1 = some v1 ∧ w'.cell? a2 = some v2 := by
  obtain ⟨h0, h1, h2⟩ := h
  have one : ∀ {a : Addr} {v : Value}, w.cell? a = some v → w'.cell? a = some v := fun {a v} h => (hb.cell (World.block_lt_of_cell? _ _ h)).trans h
  exact ⟨one h0, one h1, one h2⟩

theorem row_base {ok : Value → Prop} {w : World} {base base' : Nat} {e : TypeId} {v : Value} {n : Nat} {xs : List Value} (h : Row ok w base e v n xs) (hb : base' ≤ base) : Row ok w base' e v n xs := by
  refine ⟨h.1, ?_⟩
  rcases h.2 with h2 | ⟨g, cap, cur, hv, hg, r⟩
  · exact .inl h2
  · exact .inr ⟨g, cap, cur, hv, Nat.le_trans hb hg, r⟩

set_option maxRecDepth 100000 in
set_option maxHeartbeats 3200000 in
theorem rframe_any (c : NormC) (s : CSlots) (st ins : List UInt8) (a1 : Option Addr) (n1 c1 : Nat) (a2 : Option Addr) (n2 c2 : Nat) (w : World) (hc : SeesCir w s c) (hs : s.small)
    (h1 : Sees w a1 n1 c1 (st.map bv)) (h2 : Sees w a2 n2 c2 (ins.map bv)) (hn1 : n1 ≤ 1048576) (hn2 : n2 ≤ 1048576) (hlo : -9223372036854775808 ≤ c.ins) (hhi : c.ins < 9223372036854775808) (hw : Wide c) :
    Calls Try.prog 56 #[cirV c.ins s, .slice a1 n1 c1, .slice a2 n2 c2] w (SrFrPost w (frameOk c st ins) (k1.vars c st ins) (k1.next c (k1.vars c st ins))) := by
  obtain ⟨i0, hi, hz0, hz1, hz2⟩ := info_parts info_byte
  have HMAY := Lib.hid (fun W (hb : Below w.heap.size w W) => refmay3_any c s W (hc.below hb) hs hlo hhi hw)
  have HF1 := Lib.hid (fun W (hb : Below w.heap.size w W) => fine_any (c.lats.length : Int) st a1 n1 c1 hn1 W (h1.below hb))
  have HF2 := Lib.hid (fun W (hb : Below w.heap.size w W) => fine_any c.ins ins a2 n2 c2 hn2 W (h2.below hb))
  obtain ⟨b1, m1, d1, b2, m2, d2, b3, m3, d3, b4, m4, d4, b5, m5, d5⟩ := s
  have hla : c.lats.length = m1 := hc.s1.1
  have hg : c.gates.length = m2 := hc.s2.1
  rw [hla] at HF1
  have HLA := Lib.hid hla
  have HG := Lib.hid hg
  have HC := Lib.hid hc
  have H1 := Lib.hid h1
  have H2 := Lib.hid h2
  obtain ⟨ok, hok⟩ : ∃ ok, ok = frameOk c st ins := ⟨_, rfl⟩
  obtain ⟨qm, hqm⟩ : ∃ q, q = mayC c := ⟨_, rfl⟩
  obtain ⟨q1, hq1⟩ : ∃ q, q = valsOk st (m1 : Int) := ⟨_, rfl⟩
  obtain ⟨q2, hq2⟩ : ∃ q, q = valsOk ins c.ins := ⟨_, rfl⟩
  have HOK : Hid (ok = (qm && q1 && q2)) := by show _ = _; rw [hok, hqm, hq1, hq2, ← hla]; rfl
  rw [← hok]
  rw [← hqm] at HMAY
  rw [← hq1] at HF1
  rw [← hq2] at HF2
  have HQM := Lib.hid hqm
  have HQ1 := Lib.hid hq1
  have HQ2 := Lib.hid hq2
  have HN1 : Hid (st.length = n1) := h1.lenMap
  have HN2 : Hid (ins.length = n2) := h2.lenMap
  clear hla hg hc h1 h2 hok hqm hq1 hq2 hlo hhi hw hs
  unfold cirV at *
  go_enter Try.func56, Try.ntmps56
  go_upto_region 1 with fail
  generalize hW : World.alloc w _ = W1
  have hb : Below w.heap.size w W1 := by subst hW; exact ext_alloc _ _
  have hx : W1.heap[w.heap.size]? = some (.cells #[.int .i64 c.ins, .slice b1 m1 d1, .slice b2 m2 d2, .slice b3 m3 d3, .slice b4 m4 d4, .slice b5 m5 d5] 26 (0, 0)) := by subst hW; exact heap_new _ _ _ rfl
  have HB := Lib.hid hb
  have HX := Lib.hid hx
  clear hW hb hx
  have p0 := cell_of_block HX.out 0
  have p1 := cell_of_block HX.out 1
  have p2 := cell_of_block HX.out 2
  have p3 := cell_of_block HX.out 3
  have p4 := cell_of_block HX.out 4
  have p5 := cell_of_block HX.out 5
  go_wp2_with fail
  refine (HMAY.out W1 HB.out).mono ?_
  rintro e W2 ⟨rfl, hb⟩
  have HX2 := Lib.hid (heap_below HX.out hb)
  have HB2 := Lib.hid (ext_trans HB.out hb)
  clear p0 p1 p2 p3 p4 p5 HX HB hb
  have p0 := cell_of_block HX2.out 0
  have p1 := cell_of_block HX2.out 1
  have p2 := cell_of_block HX2.out 2
  have p3 := cell_of_block HX2.out 3
  have p4 := cell_of_block HX2.out 4
  have p5 := cell_of_block HX2.out 5
  cases qm with
  | false =>
    have HO : Hid (ok = false) := by show _ = _; rw [HOK.out]; simp
    clear p0 p1 p2 p3 p4 p5
    go_wp2
    refine bodyPost_ret (v := .tuple #[.slice none 0 0, .slice none 0 0, .int .i64 2]) ?_ rfl ?_
    · simp [results, Try.results56, go_sem]
    · exact SrFrPost.no HO.out HB2.out
  | true =>
  go_wp2_with fail
  refine (HF1.out W2 HB2.out).mono ?_
  rintro e W3 ⟨rfl, rfl⟩
  cases q1 with
  | false =>
    have HO : Hid (ok = false) := by show _ = _; rw [HOK.out]; simp
    clear p0 p1 p2 p3 p4 p5
    go_wp2
    refine bodyPost_ret (v := .tuple #[.slice none 0 0, .slice none 0 0, .int .i64 2]) ?_ rfl ?_
    · simp [results, Try.results56, go_sem]
    · exact SrFrPost.no HO.out HB2.out
  | true =>
  go_wp2_with fail
  refine (HF2.out W2 HB2.out).mono ?_
  rintro e W4 ⟨rfl, rfl⟩
  cases q2 with
  | false =>
    have HO : Hid (ok = false) := by show _ = _; rw [HOK.out]; simp
    clear p0 p1 p2 p3 p4 p5
    go_wp2
    refine bodyPost_ret (v := .tuple #[.slice none 0 0, .slice none 0 0, .int .i64 2]) ?_ rfl ?_
    · simp [results, Try.results56, go_sem]
    · exact SrFrPost.no HO.out HB2.out
  | true =>
  have hmay := mayC_iff.1 HQM.out.symm
  obtain ⟨hl1, hv1⟩ := valsOk_iff.1 HQ1.out.symm
  obtain ⟨hl2, hv2⟩ := valsOk_iff.1 HQ2.out.symm
  have hl1' : st.length = m1 := by omega
  have hfew := hmay.few
  unfold varsN at hfew
  rw [← hl2, HLA.out, HG.out] at hfew
  simp only [Int.toNat_natCast] at hfew
  obtain rfl : m1 = n1 := by rw [← HN1.out]; exact hl1'.symm
  rw [HN2.out] at hfew
  have HF := Lib.hid hfew
  have HLT := Lib.hid (vars_lt c hmay st ins (by rw [HLA.out]; exact hl1') hl2)
  have HV1 := Lib.hid hv1
  have HV2 := Lib.hid hv2
  have HMC := Lib.hid hmay
  have HO : Hid (ok = true) := HOK.out
  have HINS : Hid ((n2 : Int) = c.ins) := by show _ = _; rw [← hl2, HN2.out]
  clear hl1 hl2 hv1 hv2 hl1' hfew hmay HF1 HF2 HMAY
  go_upto_region 4 with fail
  generalize hW : World.alloc W2 _ = W5
  have hb : Below W2.heap.size W2 W5 := by subst hW; exact ext_alloc _ _
  have hr0 : Row isByte W5 w.heap.size 5 (.slice (some ⟨W2.heap.size, 0, none⟩) 1 1) 1 [bv 0] := by
    subst hW
    exact ⟨rfl, .inr ⟨W2.heap.size, 1, #[.int .u8 0], rfl, HB2.out.size, heap_new _ _ _ rfl, Nat.le_refl _, by decide, rfl, rfl, fun u hu => isByte_all [0] u hu⟩⟩
  obtain ⟨F0, hF0⟩ : ∃ F, F = W2.heap.size := ⟨_, rfl⟩
  rw [← hF0] at hr0 ⊢
  have HX5 := Lib.hid (heap_below HX2.out hb)
  have HB5 := Lib.hid (ext_trans HB2.out hb)
  have R0 := Lib.hid hr0
  clear p0 p1 p2 p3 p4 p5 hW hb hr0 hF0 HX2 HB2
  go_wp2_with (at_builtin; refine wpList_append_row isByte _ rfl _ _ 27 rfl w.heap.size 5 i0 (.int .u8 0) 1 Try.underlying27 hi hz0 hz1 hz2 rfl isByte_zero _ _ _ rfl R0.out a2 n2 c2 (ins.map bv) rfl ?qb1 (bv_one _) (isByte_all _) ?qb4 ?qb5 ?qb6 ?_)
  case qb1 => exact H2.out.below HB5.out
  case qb4 => unfold maxLen; have := HF.out; omega
  case qb5 => have := HF.out; omega
  case qb6 => exact HB5.out.size
  intro v2 w2 r2 g2 _
  have HX6 := Lib.hid (heap_grown HX5.out g2 (R0.out.not_own HX5.out (by decide)))
  have HB6 := Lib.hid (HB5.out.grown g2 HB5.out.size (fun k hk => (R0.out.own.lt k hk).1))
  obtain ⟨e2, f2, rfl⟩ := r2.form
  have R2 := Lib.hid r2
  clear HX5 HB5 R0 g2 r2
  go_wp2_with (at_builtin; refine wpList_append_row isByte _ rfl _ _ 27 rfl w.heap.size 5 i0 (.int .u8 0) 1 Try.underlying27 hi hz0 hz1 hz2 rfl isByte_zero _ _ _ rfl R2.out a1 m1 c1 (st.map bv) rfl ?qc1 (bv_one _) (isByte_all _) ?qc4 ?qc5 ?qc6 ?_)
  case qc1 => exact H1.out.below HB6.out
  case qc4 => unfold maxLen; have := HF.out; omega
  case qc5 => have := HF.out; omega
  case qc6 => exact HB6.out.size
  intro v3 w3 r3 g3 _
  have HX7 := Lib.hid (heap_grown HX6.out g3 (R2.out.not_own HX6.out (by decide)))
  have HB7 := Lib.hid (HB6.out.grown g3 HB6.out.size (fun k hk => (R2.out.own.lt k hk).1))
  obtain ⟨V0, hV0⟩ : ∃ V0, V0 = (0 : UInt8) :: (ins ++ st) := ⟨_, rfl⟩
  obtain ⟨N0, hN0⟩ : ∃ N0, N0 = 1 + n2 + m1 := ⟨_, rfl⟩
  have HN0 : Hid (V0.length = N0) := by show _ = _; rw [hV0, hN0, List.length_cons, List.length_append, HN1.out, HN2.out]; omega
  have HV2L : Hid (∀ u ∈ V0, u.toNat ≤ 2) := by
    show ∀ u ∈ V0, _
    intro u hu
    rw [hV0] at hu
    rcases List.mem_cons.1 hu with rfl | hu
    · decide
    · rcases List.mem_append.1 hu with hu | hu
      · exact HV2.out u hu
      · exact HV1.out u hu
  have hr4 : Row isByte w3 w.heap.size 5 v3 N0 (V0.map bv) := by rw [hV0, hN0]; simpa using r3
  obtain ⟨e3, f3, rfl⟩ := hr4.form
  have R3 := Lib.hid hr4
  have HV0 := Lib.hid hV0
  have HNE := Lib.hid hN0
  clear HX6 HB6 R2 g3 r3 hr4 hV0 hN0
  have q2 := cell_of_block HX7.out 2
  go_wp2_with fail
  clear q2
  go_loopw [10, 9] (fun i v wr => ∃ (k : Nat) (a : Option Addr) (cp : Nat), k ≤ m2 ∧ i = .int .i64 k ∧ v = .slice a (N0 + k) cp ∧ Hid (Row isByte wr w.heap.size 5 (.slice a (N0 + k) cp) (N0 + k) ((k1.gates (c.gates.take k) V0).map bv)) ∧
      Hid (wr.heap[w.heap.size]? = some (.cells #[.int .i64 c.ins, .slice b1 m1 d1, .slice b2 m2 d2, .slice b3 m3 d3, .slice b4 m4 d4, .slice b5 m5 d5] 26 (0, 0))) ∧ Hid (Below w.heap.size w wr)) (fun i _ _ => m2 - (intOf i).toNat)
  case atStart => exact ⟨0, e3, f3, Nat.zero_le _, rfl, rfl, R3.out, HX7.out, HB7.out⟩
  case round =>
    clear HX7 HB7 R3
    obtain ⟨k, va, vc, hk, rfl, rfl, hR, hX, hB⟩ := hrel
    by_cases hlt : k < m2
    · obtain ⟨bb, off, rfl, hbb⟩ := HC.out.s2.addr (show 0 < m2 by omega)
      have HBB := Lib.hid hbb
      obtain ⟨qx, qy⟩ := (HC.out.below hB.out).s2.cells k hlt (0, 0)
      have hl4 := HLT.out k (by rw [HG.out]; exact hlt)
      have hsn : c.gates.take (k + 1) = c.gates.take k ++ [c.gates.getD k (0, 0)] := by
        rw [List.take_add_one, List.getElem?_eq_getElem (by rw [HG.out]; exact hlt)]; simp [List.getD, List.getElem?_eq_getElem (show k < c.gates.length by rw [HG.out]; exact hlt)]
      obtain ⟨p, hp⟩ : ∃ t, t = c.gates.getD k (0, 0) := ⟨_, rfl⟩
      rw [← hp] at qx qy hl4 hsn
      obtain ⟨x, y⟩ := p
      simp only [nv32] at qx qy
      simp only at hl4
      have hVl : (k1.gates (c.gates.take k) V0).length = N0 + k := by rw [Kd.gates_len, HN0.out, List.length_take, HG.out, Nat.min_eq_left (by omega)]
      have hV2 : ∀ u ∈ k1.gates (c.gates.take k) V0, u.toNat ≤ 2 := gates_le2 _ _ HV2L.out
      have HGS : Hid (k1.gates (c.gates.take (k + 1)) V0 = k1.gates (c.gates.take k) V0 ++ [k1.an (k1.val (k1.gates (c.gates.take k) V0) x) (k1.val (k1.gates (c.gates.take k) V0) y)]) := by show _ = _; rw [hsn, Kd.gates_snoc]
      obtain ⟨V, hV⟩ : ∃ V, V = k1.gates (c.gates.take k) V0 := ⟨_, rfl⟩
      rw [← hV] at HGS hVl hR hV2
      clear hV hsn hp
      have hsum : 1 + (ins.length + st.length) + k = N0 + k := by rw [HNE.out, HN1.out, HN2.out]; omega
      rw [hsum] at hl4
      have W1' : IntKind.i64.wrap ((k : Int) + 1) = (k : Int) + 1 := IntWalk.i64_in _ (by have := HF.out; omega)
      obtain ⟨av, cv, hrv, _, hsv⟩ := hR.out.sees
      cases hrv
      obtain ⟨na, hna⟩ : ∃ na, na = k1.val V x := ⟨_, rfl⟩
      obtain ⟨nb, hnb⟩ : ∃ nb, nb = k1.val V y := ⟨_, rfl⟩
      have EA : ∀ W, Below wr.heap.size wr W → Calls Try.prog 70 #[.slice va (N0 + k) vc, .int .u32 (x : Int)] W fun e w' => e = .returned (.int .u8 (na.toNat : Int)) ∧ w' = W := fun W hb => by
        rw [hna, ← valueL_eq (by rw [hVl]; exact hl4.1) hV2]; exact refvalue_any V va (N0 + k) vc x W (hsv.below hb) hl4.2.2.1
      have EB : ∀ W, Below wr.heap.size wr W → Calls Try.prog 70 #[.slice va (N0 + k) vc, .int .u32 (y : Int)] W fun e w' => e = .returned (.int .u8 (nb.toNat : Int)) ∧ w' = W := fun W hb => by
        rw [hnb, ← valueL_eq (by rw [hVl]; exact hl4.2.1) hV2]; exact refvalue_any V va (N0 + k) vc y W (hsv.below hb) hl4.2.2.2
      have HEA := Lib.hid EA
      have HEB := Lib.hid EB
      have HEC := Lib.hid (rand1_any na.toNat nb.toNat)
      rw [← hna, ← hnb] at HGS
      obtain ⟨nc, hnc⟩ : ∃ nc, nc = k1.an na nb := ⟨_, rfl⟩
      rw [← hnc] at HGS
      have HNC : Hid (Value.int .u8 ((and1 na.toNat nb.toNat : Nat) : Int) = bv nc) := by show _ = _; rw [hnc, bv_and]
      obtain ⟨nd, hnd⟩ : ∃ nd, nd = and1 na.toNat nb.toNat := ⟨_, rfl⟩
      rw [← hnd] at HEC HNC
      clear hna hnb hnc hnd EA EB hsv hV2 hVl hl4 hsum
      have hq4 : N0 + k + 1 ≤ maxLen := by unfold maxLen; have := HF.out; have := HNE.out; omega
      have hq5 : (N0 + k + 1) * 1 ≤ 140737488355328 := by have := HF.out; have := HNE.out; omega
      have H1C : Hid (∀ u ∈ [Value.int .u8 ((nd : Nat) : Int)], u.oneCell' = true) := by rw [HNC.out]; exact bv_one [nc]
      have HOC : Hid (∀ u ∈ [Value.int .u8 ((nd : Nat) : Int)], isByte u) := by rw [HNC.out]; exact isByte_all [nc]
      have HQ4 := Lib.hid hq4
      have HQ5 := Lib.hid hq5
      have hI : (k : Int) < (m2 : Int) := by omega
      have p2 := cell_of_block hX.out 2
      have HP := Lib.hid (And.intro p2 (And.intro qx qy))
      clear hq4 hq5
      clear qx qy
      go_upto_region 8 with fail
      clear p2
      refine wp_region_noPanic ?_
      refine wp_region_held (S := fun w' => w'.cell? ⟨w.heap.size, 2, none⟩ = some (.slice (some ⟨bb, off, none⟩) m2 d2) ∧ w'.cell? ⟨bb, off + k * 2, none⟩ = some (.int .u32 (x : Int)) ∧ w'.cell? ⟨bb, off + k * 2 + 1, none⟩ = some (.int .u32 (y : Int))) (by kernel_rfl) ?_
      generalize hY : ({ wr with drawn := wr.drawn + 1 } : World) = Y0
      have hY0 : Below wr.heap.size wr Y0 := by subst hY; exact (Below.refl _ _).drew
      have HSD := Lib.hid (keep3f HP.out hY0)
      have HYB := Lib.hid hY0
      clear hY0 hY
      refine wpAnyH_take (i := 0) (v := ?_) (by simp only [List.getElem?_toArray, List.getElem?_cons_zero]; rfl) (by kernel_rfl) (by kernel_rfl) (by kernel_rfl) (fun _ _ _ h => h) (Or.inl ⟨by rfl, ?_⟩) HSD.out ?_
      rotate_left
      · intro w hSw
        (try dsimp only at hSw)
        obtain ⟨q0_, q1_, q2_⟩ := hSw
        go_simp
        try with_reducible rfl
      try simp only [Act.put, List.setIfInBounds_toArray, List.set_cons_zero, List.set_cons_succ]
      refine wpAnyH_take (i := 1) (v := ?_) (by simp only [List.getElem?_toArray, List.getElem?_cons_zero, List.getElem?_cons_succ]; rfl) (by kernel_rfl) (by kernel_rfl) (by kernel_rfl) (fun _ _ _ h => h) (Or.inl ⟨by rfl, ?_⟩) HSD.out ?_
      rotate_left
      · intro w hSw
        (try dsimp only at hSw)
        obtain ⟨q0_, q1_, q2_⟩ := hSw
        go_simp
        try with_reducible rfl
      try simp only [Act.put, List.setIfInBounds_toArray, List.set_cons_zero, List.set_cons_succ]
      refine wpAnyH_take (i := 2) (v := ?_) (by simp only [List.getElem?_toArray, List.getElem?_cons_zero, List.getElem?_cons_succ]; rfl) (by kernel_rfl) (by kernel_rfl) (by kernel_rfl) (fun _ _ _ h => h) (Or.inl ⟨by rfl, ?_⟩) HSD.out ?_
      rotate_left
      · intro w hSw
        (try dsimp only at hSw)
        obtain ⟨q0_, q1_, q2_⟩ := hSw
        go_simp
        try with_reducible rfl
      try simp only [Act.put, List.setIfInBounds_toArray, List.set_cons_zero, List.set_cons_succ]
      refine wpAnyH_take (i := 3) (v := ?_) (by simp only [List.getElem?_toArray, List.getElem?_cons_zero, List.getElem?_cons_succ]; rfl) (by kernel_rfl) (by kernel_rfl) (by kernel_rfl) (fun _ _ _ h => h) (Or.inl ⟨by rfl, ?_⟩) HSD.out ?_
      rotate_left
      · intro w hSw
        (try dsimp only at hSw)
        obtain ⟨q0_, q1_, q2_⟩ := hSw
        go_simp
        try with_reducible rfl
      try simp only [Act.put, List.setIfInBounds_toArray, List.set_cons_zero, List.set_cons_succ]
      refine wpAnyH_take (i := 4) (v := ?_) (by simp only [List.getElem?_toArray, List.getElem?_cons_zero, List.getElem?_cons_succ]; rfl) (by kernel_rfl) (by kernel_rfl) (by kernel_rfl) (fun _ _ _ h => h) (Or.inl ⟨by rfl, ?_⟩) HSD.out ?_
      rotate_left
      · intro w hSw
        (try dsimp only at hSw)
        obtain ⟨q0_, q1_, q2_⟩ := hSw
        go_simp
        try with_reducible rfl
      try simp only [Act.put, List.setIfInBounds_toArray, List.set_cons_zero, List.set_cons_succ]
      refine wpAnyH_take (i := 5) (v := ?_) (by simp only [List.getElem?_toArray, List.getElem?_cons_zero, List.getElem?_cons_succ]; rfl) (by kernel_rfl) (by kernel_rfl) (by kernel_rfl) (fun _ _ _ h => h) (Or.inl ⟨by rfl, ?_⟩) HSD.out ?_
      rotate_left
      · intro w hSw
        (try dsimp only at hSw)
        obtain ⟨q0_, q1_, q2_⟩ := hSw
        go_simp
        try with_reducible rfl
      try simp only [Act.put, List.setIfInBounds_toArray, List.set_cons_zero, List.set_cons_succ]
      refine wpAnyH_take (i := 6) (v := ?_) (by simp only [List.getElem?_toArray, List.getElem?_cons_zero, List.getElem?_cons_succ]; rfl) (by kernel_rfl) (by kernel_rfl) (by kernel_rfl) (fun _ _ _ h => h) (Or.inl ⟨by rfl, ?_⟩) HSD.out ?_
      rotate_left
      · intro w hSw
        (try dsimp only at hSw)
        obtain ⟨q0_, q1_, q2_⟩ := hSw
        go_simp
        try with_reducible rfl
      try simp only [Act.put, List.setIfInBounds_toArray, List.set_cons_zero, List.set_cons_succ]
      refine wpAnyH_take (i := 7) (v := ?_) (by simp only [List.getElem?_toArray, List.getElem?_cons_zero, List.getElem?_cons_succ]; rfl) (by kernel_rfl) (by kernel_rfl) (by kernel_rfl) (fun _ _ _ h => h) (Or.inl ⟨by rfl, ?_⟩) HSD.out ?_
      rotate_left
      · intro w hSw
        (try dsimp only at hSw)
        obtain ⟨q0_, q1_, q2_⟩ := hSw
        go_simp
        try with_reducible rfl
      try simp only [Act.put, List.setIfInBounds_toArray, List.set_cons_zero, List.set_cons_succ]
      refine wpAnyH_take (i := 9) (v := ?_) (by simp only [List.getElem?_toArray, List.getElem?_cons_zero, List.getElem?_cons_succ]; rfl) (by kernel_rfl) (by kernel_rfl) (by kernel_rfl) (fun _ _ _ h => h) (Or.inl ⟨by rfl, ?_⟩) HSD.out ?_
      rotate_left
      · intro w hSw
        (try dsimp only at hSw)
        obtain ⟨q0_, q1_, q2_⟩ := hSw
        go_simp
        try with_reducible rfl
      try simp only [Act.put, List.setIfInBounds_toArray, List.set_cons_zero, List.set_cons_succ]
      refine wpAnyH_take (i := 10) (v := ?_) (by simp only [List.getElem?_toArray, List.getElem?_cons_zero, List.getElem?_cons_succ]; rfl) (by kernel_rfl) (by kernel_rfl) (by kernel_rfl) (fun _ _ _ h => h) (Or.inl ⟨by rfl, ?_⟩) HSD.out ?_
      rotate_left
      · intro w hSw
        (try dsimp only at hSw)
        obtain ⟨q0_, q1_, q2_⟩ := hSw
        go_simp
        try with_reducible rfl
      try simp only [Act.put, List.setIfInBounds_toArray, List.set_cons_zero, List.set_cons_succ]
      refine wpAnyH_take (i := 11) (v := ?_) (by simp only [List.getElem?_toArray, List.getElem?_cons_zero, List.getElem?_cons_succ]; rfl) (by kernel_rfl) (by kernel_rfl) (by kernel_rfl) (fun _ _ _ h => h) (Or.inl ⟨by rfl, ?_⟩) HSD.out ?_
      rotate_left
      · intro w hSw
        (try dsimp only at hSw)
        obtain ⟨q0_, q1_, q2_⟩ := hSw
        go_simp
        try with_reducible rfl
      try simp only [Act.put, List.setIfInBounds_toArray, List.set_cons_zero, List.set_cons_succ]
      refine wpAnyH_take (i := 12) (v := ?_) (by simp only [List.getElem?_toArray, List.getElem?_cons_zero, List.getElem?_cons_succ]; rfl) (by kernel_rfl) (by kernel_rfl) (by kernel_rfl) (fun _ _ _ h => h) (Or.inl ⟨by rfl, ?_⟩) HSD.out ?_
      rotate_left
      · intro w hSw
        (try dsimp only at hSw)
        obtain ⟨q0_, q1_, q2_⟩ := hSw
        go_simp
        try with_reducible rfl
      try simp only [Act.put, List.setIfInBounds_toArray, List.set_cons_zero, List.set_cons_succ]
      refine wpAnyH_take (i := 13) (v := ?_) (by simp only [List.getElem?_toArray, List.getElem?_cons_zero, List.getElem?_cons_succ]; rfl) (by kernel_rfl) (by kernel_rfl) (by kernel_rfl) (fun _ _ _ h => h) (Or.inl ⟨by rfl, ?_⟩) HSD.out ?_
      rotate_left
      · intro w hSw
        (try dsimp only at hSw)
        obtain ⟨q0_, q1_, q2_⟩ := hSw
        go_simp
        try with_reducible rfl
      try simp only [Act.put, List.setIfInBounds_toArray, List.set_cons_zero, List.set_cons_succ]
      refine wpAnyH_take (i := 14) (v := ?_) (by simp only [List.getElem?_toArray, List.getElem?_cons_zero, List.getElem?_cons_succ]; rfl) (by kernel_rfl) (by kernel_rfl) (by kernel_rfl) (fun _ _ _ h => h) (Or.inl ⟨by rfl, ?_⟩) HSD.out ?_
      rotate_left
      · intro w hSw
        (try dsimp only at hSw)
        obtain ⟨q0_, q1_, q2_⟩ := hSw
        go_simp
        try with_reducible rfl
      try simp only [Act.put, List.setIfInBounds_toArray, List.set_cons_zero, List.set_cons_succ]
      refine wpAnyH_take (i := 15) (v := ?_) (by simp only [List.getElem?_toArray, List.getElem?_cons_zero, List.getElem?_cons_succ]; rfl) (by kernel_rfl) (by kernel_rfl) (by kernel_rfl) (fun _ _ _ h => h) (Or.inl ⟨by rfl, ?_⟩) HSD.out ?_
      rotate_left
      · intro w hSw
        (try dsimp only at hSw)
        obtain ⟨q0_, q1_, q2_⟩ := hSw
        go_simp
        try with_reducible rfl
      try simp only [Act.put, List.setIfInBounds_toArray, List.set_cons_zero, List.set_cons_succ]
      refine wpAnyH_ready (rs := [8]) (by kernel_rfl) (by simp) ?_
      refine AllReadyH.cons (by simp only [List.getElem?_toArray, List.getElem?_cons_zero, List.getElem?_cons_succ]; rfl) (fun K hK => ?_) AllReadyH.nil
      go_simp
      refine (HEA.out _ HYB.out).mono ?_
      rintro e s1 ⟨rfl, rfl⟩
      refine hK.out _ _ HSD.out (fun _ => ?_)
      clear hK K
      try simp only [Act.put, List.setIfInBounds_toArray, List.set_cons_zero, List.set_cons_succ]
      refine wpAnyH_ready (rs := [16]) (by kernel_rfl) (by simp) ?_
      refine AllReadyH.cons (by simp only [List.getElem?_toArray, List.getElem?_cons_zero, List.getElem?_cons_succ]; rfl) (fun K hK => ?_) AllReadyH.nil
      go_simp
      refine (HEB.out _ HYB.out).mono ?_
      rintro e s1 ⟨rfl, rfl⟩
      refine hK.out _ _ HSD.out (fun _ => ?_)
      clear hK K
      try simp only [Act.put, List.setIfInBounds_toArray, List.set_cons_zero, List.set_cons_succ]
      refine wpAnyH_ready (rs := [17]) (by kernel_rfl) (by simp) ?_
      refine AllReadyH.cons (by simp only [List.getElem?_toArray, List.getElem?_cons_zero, List.getElem?_cons_succ]; rfl) (fun K hK => ?_) AllReadyH.nil
      go_simp
      refine (HEC.out _).mono ?_
      rintro e s1 ⟨rfl, rfl⟩
      refine hK.out _ _ HSD.out (fun _ => ?_)
      clear hK K
      try simp only [Act.put, List.setIfInBounds_toArray, List.set_cons_zero, List.set_cons_succ]
      refine wpAnyH_ready (rs := [18]) (by kernel_rfl) (by simp) ?_
      refine AllReadyH.cons (by simp only [List.getElem?_toArray, List.getElem?_cons_zero, List.getElem?_cons_succ]; rfl) (fun K hK => ?_) AllReadyH.nil
      go_simp
      have HBA := Lib.hid (ext_trans HYB.out (ext_alloc _ (.cells #[.int .u8 (nd : Int)] 5)))
      have HSA := Lib.hid (keep3f HP.out HBA.out)
      refine hK.out _ _ HSA.out (fun _ => ?_)
      clear hK K
      try simp only [Act.put, List.setIfInBounds_toArray, List.set_cons_zero, List.set_cons_succ]
      refine wpAnyH_ready (rs := [19]) (by kernel_rfl) (by simp) ?_
      refine AllReadyH.cons (by simp only [List.getElem?_toArray, List.getElem?_cons_zero, List.getElem?_cons_succ]; rfl) (fun K hK => ?_) AllReadyH.nil
      refine step_append_row isByte _ rfl _ _ 27 rfl w.heap.size 5 i0 (.int .u8 0) 1 Try.underlying27 hi hz0 hz1 hz2 rfl isByte_zero _ _ _ (by simp [Act.eval]) (hR.out.below HBA.out) _ _ _ _ (by simp [Act.eval]) (sees_box1 _ _ _) H1C.out HOC.out HQ4.out HQ5.out (ext_trans hB.out HBA.out).size ?_
      intro v2 w2 r2 g2
      have hrz := hR.out.below HBA.out
      have HXZ := Lib.hid (heap_grown (heap_below hX.out HBA.out) g2 (hrz.not_own (heap_below hX.out HBA.out) (by decide)))
      have HBZ := Lib.hid ((ext_trans hB.out HBA.out).grown g2 (ext_trans hB.out HBA.out).size (fun k hk => (hrz.own.lt k hk).1))
      have HS3 := Lib.hid (And.intro (cell_of_block HXZ.out 2) (And.intro (((HBZ.out.cell HBB.out).trans (hB.out.cell HBB.out).symm).trans HP.out.2.1) (((HBZ.out.cell HBB.out).trans (hB.out.cell HBB.out).symm).trans HP.out.2.2)))
      obtain ⟨a2z, c2z, rfl⟩ := r2.form
      have R2 := Lib.hid r2
      clear r2 g2 hrz
      refine hK.out _ _ HS3.out (fun _ => ?_)
      clear hK K
      try simp only [Act.put, List.setIfInBounds_toArray, List.set_cons_zero, List.set_cons_succ]
      refine wpAnyH_take (i := 20) (v := ?_) (by simp only [List.getElem?_toArray, List.getElem?_cons_zero, List.getElem?_cons_succ]; rfl) (by kernel_rfl) (by kernel_rfl) (by kernel_rfl) (fun _ _ _ h => h) (Or.inl ⟨by rfl, ?_⟩) HS3.out ?_
      rotate_left
      · intro w hSw
        (try dsimp only at hSw)
        obtain ⟨q0_, q1_, q2_⟩ := hSw
        go_simp
        try with_reducible rfl
      try simp only [Act.put, List.setIfInBounds_toArray, List.set_cons_zero, List.set_cons_succ]
      refine wpAnyH_done (by kernel_rfl) ?_ _
      refine NoPanic.normal ?_
      go_wp2
      go_roundw
      case rel => exact ⟨k + 1, _, _, by omega, by go_num, rfl, (by rw [HGS.out, List.map_append]; have h := R2.out; rw [HNC.out] at h; exact h), HXZ.out, HBZ.out⟩
      case measure => simp [intOf]; omega
    · obtain rfl : m2 = k := by omega
      rw [List.take_of_length_le (by rw [HG.out]; exact Nat.le_refl _)] at hR
      have hVV : k1.gates c.gates V0 = k1.vars c st ins := by rw [HV0.out]; rfl
      have hVA : ∀ u ∈ k1.gates c.gates V0, u.toNat ≤ 2 := gates_le2 _ _ HV2L.out
      rw [hVV] at hR hVA
      clear hVV
      obtain ⟨VS, hVS⟩ : ∃ VS, VS = k1.vars c st ins := ⟨_, rfl⟩
      rw [← hVS] at hR hVA
      have hVL : VS.length = N0 + m2 := by rw [hVS, Kd.vars_len, HG.out, HN1.out, HN2.out, HNE.out]; omega
      have HLL : Hid (∀ j, j < m1 → (c.lats.getD j (0, 0)).1 / 2 < N0 + m2 ∧ (c.lats.getD j (0, 0)).1 < 4294967296) := fun j hj => by
        have h1 := (HMC.out.lats _ (getD_mem (d := (0, 0)) (show j < c.lats.length by rw [HLA.out]; exact hj))).1
        have h2 : varsN c = n2 + m1 + m2 := by
          unfold varsN
          have h3 := HINS.out
          rw [HG.out, HLA.out]
          omega
        have h4 := HF.out
        have h5 := HNE.out
        omega
      have HVS := Lib.hid hVS
      have HVL := Lib.hid hVL
      have HVA := Lib.hid hVA
      have q2 := cell_of_block hX.out 2
      have q1 := cell_of_block hX.out 1
      obtain ⟨BB, hBB⟩ : ∃ B, B = wr.heap.size := ⟨_, rfl⟩
      have HVB : Hid (∀ q, (Value.slice va (N0 + m2) vc).ownBlock = some q → q < BB) := fun q hq => by rw [hBB]; exact (hR.out.own.lt q hq).2
      have HWB : Hid (w.heap.size ≤ BB) := by show _ ≤ _; rw [hBB]; exact hB.out.size
      have HBB0 : Hid (BB ≤ wr.heap.size) := by show _ ≤ _; rw [hBB]; exact Nat.le_refl _
      clear hVS hVL hVA hlt hk HLT hBB
      go_wp2_with fail
      clear q1 q2
      go_loopw [12, 11] (fun i v wr2 => ∃ (k : Nat) (a : Option Addr) (cp : Nat), k ≤ m1 ∧ i = .int .i64 k ∧ v = .slice a k cp ∧ Hid (Row isByte wr2 BB 5 (.slice a k cp) k (((k1.next c VS).take k).map bv)) ∧ Hid (Row isByte wr2 w.heap.size 5 (.slice va (N0 + m2) vc) (N0 + m2) (VS.map bv)) ∧ Hid (BB ≤ wr2.heap.size) ∧
        Hid (wr2.heap[w.heap.size]? = some (.cells #[.int .i64 c.ins, .slice b1 m1 d1, .slice b2 m2 d2, .slice b3 m3 d3, .slice b4 m4 d4, .slice b5 m5 d5] 26 (0, 0))) ∧ Hid (Below w.heap.size w wr2)) (fun i _ _ => m1 - (intOf i).toNat)
      case atStart =>
        exact ⟨0, none, 0, Nat.zero_le _, rfl, rfl, Row.nil _ _ _ _, hR.out, HBB0.out, hX.out, hB.out⟩
      case round =>
        clear hR hX hB
        obtain ⟨k, na, nc, hk, rfl, rfl, hN, hR, hAP, hX, hB⟩ := hrel
        by_cases hlt : k < m1
        · obtain ⟨bb, off, rfl, hbb⟩ := HC.out.s1.addr (show 0 < m1 by omega)
          obtain ⟨qx, qy⟩ := (HC.out.below hB.out).s1.cells k hlt (0, 0)
          have hl4 := HLL.out k hlt
          have hsn : (k1.next c VS).take (k + 1) = (k1.next c VS).take k ++ [k1.val VS (c.lats.getD k (0, 0)).1] := by
            have hkl : k < c.lats.length := by rw [HLA.out]; exact hlt
            rw [List.take_add_one]
            simp [Kd.next, List.getElem?_eq_getElem hkl, List.getD]
          obtain ⟨p, hp⟩ : ∃ t, t = c.lats.getD k (0, 0) := ⟨_, rfl⟩
          rw [← hp] at qx qy hl4 hsn
          obtain ⟨x, y⟩ := p
          simp only [nv32, nv8] at qx qy
          simp only at hl4
          obtain ⟨av, cv, hrv, _, hsv⟩ := hR.out.sees
          cases hrv
          have HV := refvalue_any VS va (N0 + m2) vc x wr hsv hl4.2
          rw [valueL_eq (by rw [HVL.out]; exact hl4.1) HVA.out] at HV
          obtain ⟨u, hu⟩ : ∃ u, u = k1.val VS x := ⟨_, rfl⟩
          rw [← hu] at HV hsn
          have HSN := Lib.hid hsn
          obtain ⟨nd, hnd⟩ : ∃ n, n = u.toNat := ⟨_, rfl⟩
          have HNC : Hid (Value.int .u8 (nd : Int) = bv u) := by show _ = _; rw [hnd]; rfl
          rw [← HNC.out] at HV
          have HV2 := Lib.hid HV
          have H1C : Hid (∀ v ∈ [Value.int .u8 ((nd : Nat) : Int)], v.oneCell' = true) := by rw [HNC.out]; exact bv_one [u]
          have HOC : Hid (∀ v ∈ [Value.int .u8 ((nd : Nat) : Int)], isByte v) := by rw [HNC.out]; exact isByte_all [u]
          have hI : (k : Int) < (m1 : Int) := by omega
          have W1' : IntKind.i64.wrap ((k : Int) + 1) = (k : Int) + 1 := IntWalk.i64_in _ (by have := HF.out; omega)
          have q1 := cell_of_block hX.out 1
          clear hsn hu hnd hp hsv HV hl4 qy
          go_wp2_with fail
          refine HV2.out.mono ?_
          rintro e s1 ⟨rfl, rfl⟩
          clear qx
          go_wp2_with (at_builtin; refine wpList_append_row isByte _ rfl _ _ 27 rfl BB 5 i0 (.int .u8 0) 1 Try.underlying27 hi hz0 hz1 hz2 rfl isByte_zero _ _ _ rfl (hN.out.below (ext_alloc _ _)) _ 1 1 [.int .u8 (nd : Int)] rfl ?qd1 H1C.out HOC.out ?qd4 ?qd5 ?qd6 ?_)
          case qd1 => exact sees_box1 _ _ _
          case qd4 => unfold maxLen; have := HF.out; omega
          case qd5 => have := HF.out; omega
          case qd6 => have := hAP.out; simp; omega
          intro v' w' r' g' _
          have hbz := ext_alloc s1 (.cells #[.int .u8 (nd : Int)] 5)
          have hnz := hN.out.below hbz
          have HXZ := Lib.hid (heap_grown (heap_below hX.out hbz) g' (hnz.not_own (heap_below hX.out hbz) (by decide)))
          have HBZ := Lib.hid ((ext_trans hB.out hbz).grown g' (ext_trans hB.out hbz).size (fun k hk => Nat.le_trans HWB.out (hnz.own.lt k hk).1))
          have HRZ := Lib.hid ((hR.out.below hbz).other fun q hq => g'.block q ((hR.out.below hbz).own.lt q hq).2 (fun e' => by have h1 := (hnz.own.lt q e'.symm).1; have h2 := HVB.out q hq; omega))
          have HAZ : Hid (BB ≤ w'.heap.size) := by
            have h1 := hAP.out
            have h2 := hbz.size
            have h3 := g'.size
            show _ ≤ _
            omega
          obtain ⟨a2z, c2z, rfl⟩ := r'.form
          have R2 := Lib.hid r'
          clear hbz hnz r' g' hN hR hAP hX hB q1
          go_wp2
          go_roundw
          case rel =>
            exact ⟨k + 1, _, _, by omega, by go_num, rfl, (by rw [HSN.out, List.map_append, List.map_take]; have h := R2.out; rw [HNC.out] at h; exact h), HRZ.out, HAZ.out, HXZ.out, HBZ.out⟩
          case measure => simp [intOf]; omega
        · obtain rfl : m1 = k := by omega
          have q1 := cell_of_block hX.out 1
          have hlen : (k1.next c VS).length = m1 := by rw [Kd.next_len, HLA.out]
          rw [List.take_of_length_le (by rw [hlen]; exact Nat.le_refl _)] at hN
          have HNL := Lib.hid hlen
          clear hlen
          go_wp2
          refine bodyPost_ret (v := .tuple #[.slice va (N0 + m2) vc, .slice na m1 nc, .int .i64 0]) ?_ rfl ?_
          · simp [results, Try.results56, go_sem]
          · rw [HO.out, ← HVS.out]
            refine ⟨(va, N0 + m2, vc), (na, m1, nc), rfl, ?_, ?_, hB.out⟩
            · simp only [if_true, HVL.out]; exact hR.out
            · simp only [if_true, HNL.out]; exact row_base hN.out HWB.out
end Go.Proofs.Ytcoehbkjccfhlaa
