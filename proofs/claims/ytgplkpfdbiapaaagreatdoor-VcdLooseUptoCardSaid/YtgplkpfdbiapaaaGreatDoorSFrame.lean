/- sim: the values of a frame (single values), by its contract. -/
import Derived.Test.YtgplkpfdbiapaaaGreatDoorLib
import Derived.Test.YtgplkpfdbiapaaaGreatDoorOwn
import Derived.Test.YtgplkpfdbiapaaaGreatDoorGA3
import Derived.Test.YtgplkpfdbiapaaaGreatDoorGB
import Derived.Test.YtgplkpfdbiapaaaGreatDoorNBase
import Derived.Test.YtgplkpfdbiapaaaGreatDoorGA1
import Derived.Test.YtgplkpfdbiapaaaGreatDoorNHeap
import Derived.Test.YtgplkpfdbiapaaaGreatDoorGA4
import Derived.Test.YtgplkpfdbiapaaaGreatDoorRows
import Derived.BigQuiet
import Derived.Deep.AppendLies
import Derived.Deep.CutRange
import Derived.Deep.QuietTactic
import Derived.Deep.RegionHeld3
import Derived.Deep.RegionLaw
import Derived.Deep.RegionWith
import Derived.KernelRfl
import Derived.Laws.Bits64b
import Derived.Laws.BitsAllLaws
import Derived.Laws.BitsLemmas
import Derived.Laws.EntriesVeiled
import Derived.Laws.Tables
import Derived.Lib.AppendStr
import Derived.Lib.AppendZeros
import Derived.Lib.ConvBytes
import Derived.Lib.Hide
import Derived.Lib.SlBytesRow
import Derived.Lib.SmallJoins
import Derived.Maps.AppendAt
import Derived.Shelf.Bytes.SlSmallAll
import Derived.WalkKit
import Derived.WalkLawsBesides
import Derived.WalkSpells
namespace Go.Proofs.YtgplkpfdbiapaaaGreatDoor
open Go Go.RowKit Go.Joins

theorem vars_lt {V : Type} (c : NormC) (hm : MayC c) (st ins : List V) (h1 : st.length = c.lats.length) (h2 : (ins.length : Int) = c.ins) (i : Nat) (hi : i < c.gates.length) :
    (c.gates.getD i (0, 0)).1 / 2 < 1 + (ins.length + st.length) + i ∧ (c.gates.getD i (0, 0)).2 / 2 < 1 + (ins.length + st.length) + i ∧ (c.gates.getD i (0, 0)).1 < 4294967296 ∧ (c.gates.getD i (0, 0)).2 < 4294967296 := by
  have h := hm.gates i hi
  have hf := hm.few
  unfold varsN at hf
  rw [← h2, ← h1] at h hf
  simp only [Int.toNat_natCast] at h hf
  omega

theorem sees_box1 (w : World) (u : Value) (e : TypeId) : Sees (w.alloc (.cells #[u] e)) (some ⟨w.heap.size, 0, none⟩) 1 1 [u] :=
  ⟨rfl, Nat.le_refl _, (fun e => by cases e), fun _ => ⟨w.heap.size, 0, rfl, by simp, fun j hj => by
    obtain rfl : j = 0 := by omega
    exact (cell_of_block (heap_new w (.cells #[u] e) _ rfl) 0).trans rfl⟩⟩

theorem keep5 {w w' : World} {a0 a1 a2 a3 a4 : Addr} {v0 v1 v2 v3 v4 : Value} (h : w.cell? a0 = some v0 ∧ w.cell? a1 = some v1 ∧ w.cell? a2 = some v2 ∧ w.cell? a3 = some v3 ∧ w.cell? a4 = some v4) (hb : Below w.heap.size w w') :
    w'.cell? a0 = some v0 ∧ w'.cell? a1 = some v1 ∧ w'.cell? a2 = some v2 ∧ w'.cell? a3 = some v3 ∧ w'.cell? a4 = some v4 :=
  by
  obtain ⟨h0, h1, h2, h3, h4⟩ := h
  have one : ∀ {a : Addr} {v : Value}, w.cell? a = some v → w'.cell? a = some v := fun {a v} h => (hb.cell (World.block_lt_of_cell? _ _ h)).trans h
  exact ⟨one h0, one h1, one h2, one h3, one h4⟩
theorem keep5_of {w : World} {k g : Nat} {v0 v1 v2 v3 v4 : Value} {T1 T2 : TypeId} (hk : w.heap[k]? = some (.cells #[v0, v1, v2] T1 (0, 0))) (hg : w.heap[g]? = some (.cells #[v3, v4] T2 (0, 0))) :
    w.cell? ⟨k, 0, none⟩ = some v0 ∧ w.cell? ⟨k, 1, none⟩ = some v1 ∧ w.cell? ⟨k, 2, none⟩ = some v2 ∧ w.cell? ⟨g, 0, none⟩ = some v3 ∧ w.cell? ⟨g, 1, none⟩ = some v4 :=
  ⟨cell_of_block hk 0, cell_of_block hk 1, cell_of_block hk 2, cell_of_block hg 0, cell_of_block hg 1⟩

/-- What a frame answers. -/
def FramePost (w : World) (vs ns : List UInt8) (e : Ending) (w' : World) : Prop :=
  ∃ a1 c1 a2 c2, e = .returned (.tuple #[.slice a1 vs.length c1, .slice a2 ns.length c2]) ∧ Row isByte w' w.heap.size 5 (.slice a1 vs.length c1) vs.length (vs.map bv) ∧ Row isByte w' w.heap.size 5 (.slice a2 ns.length c2) ns.length (ns.map bv) ∧ Below w.heap.size w w'

set_option maxRecDepth 100000 in
set_option maxHeartbeats 3200000 in
theorem frame_any (c : NormC) (hm : MayC c) (s : CSlots) (st ins : List UInt8) (a1 : Option Addr) (n1 c1 : Nat) (a2 : Option Addr) (n2 c2 : Nat) (w : World) (hc : SeesCir w s c) (hs : s.small)
    (h1 : Sees w a1 n1 c1 (st.map bv)) (h2 : Sees w a2 n2 c2 (ins.map bv)) (hl1 : st.length = c.lats.length) (hl2 : (ins.length : Int) = c.ins) :
    Calls Tryz.prog 59 #[kv1, cirV c.ins s, .slice a1 n1 c1, .slice a2 n2 c2] w (FramePost w (k1.vars c st ins) (k1.next c (k1.vars c st ins))) := by
  obtain ⟨i0, hi, hz0, hz1, hz2⟩ := info_parts info_byte
  have hn1 : st.length = n1 := h1.lenMap
  have hn2 : ins.length = n2 := h2.lenMap
  have HLT := Lib.hid (vars_lt c hm st ins hl1 hl2)
  have hfew := hm.few
  unfold varsN at hfew
  rw [← hl2, ← hl1, hn1, hn2] at hfew
  simp only [Int.toNat_natCast] at hfew
  obtain ⟨b1, m1, d1, b2, m2, d2, b3, m3, d3, b4, m4, d4, b5, m5, d5⟩ := s
  have hg : c.gates.length = m2 := hc.s2.1
  have hla : c.lats.length = m1 := hc.s1.1
  rw [hg] at hfew
  obtain rfl : m1 = n1 := by omega
  obtain ⟨M, hM⟩ : ∃ M, M = 1 + n2 + m1 + m2 := ⟨_, rfl⟩
  have W1 : IntKind.i64.wrap (1 + (n2 : Int)) = 1 + (n2 : Int) := IntWalk.i64_in _ (by omega)
  have W2 : IntKind.i64.wrap (1 + (n2 : Int) + (m1 : Int)) = 1 + (n2 : Int) + (m1 : Int) := IntWalk.i64_in _ (by omega)
  have W3 : IntKind.i64.wrap (1 + (n2 : Int) + (m1 : Int) + (m2 : Int)) = (M : Int) := by rw [IntWalk.i64_in _ (by omega)]; omega
  have mk := fun W => run_make_cap (P := Tryz.prog) Tryz.underlying27 hi hz0 hz1 hz2 rfl M (M : Int) rfl (by omega) (by omega) W
  have mk2 := fun W => run_make_n (P := Tryz.prog) Tryz.underlying27 hi hz0 hz1 hz2 rfl m1 (by omega) (by omega) W
  have HC := Lib.hid hc
  have H1 := Lib.hid h1
  have H2 := Lib.hid h2
  have HN1 := Lib.hid hn1
  have HN2 := Lib.hid hn2
  have HG := Lib.hid hg
  have HLA := Lib.hid hla
  have HM := Lib.hid hM
  have HF := Lib.hid hfew
  have HINS : Hid ((n2 : Int) = c.ins) := by show _ = _; rw [← hn2]; exact hl2
  clear hc h1 h2 hn1 hn2 hg hla hM hfew hl1 hl2
  unfold cirV
  have hkv : kv1 = .agg #[.int .u8 0, .func (.func 56) #[] #[], .func (.func 57) #[] #[]] := rfl
  rw [hkv]
  clear hkv
  go_enter Tryz.func59, Tryz.ntmps59
  go_upto_region 1 with fail
  generalize hW : World.alloc (World.alloc w _) _ = W1
  have B1 : Below w.heap.size w W1 := by subst hW; exact ext_trans (ext_alloc _ _) (ext_alloc _ _)
  have hK : W1.heap[w.heap.size]? = some (.cells #[.int .u8 0, .func (.func 56) #[] #[], .func (.func 57) #[] #[]] 77 (0, 0)) := by subst hW; exact heap_below (heap_new _ _ _ rfl) (ext_alloc _ _)
  have hX : W1.heap[w.heap.size + 1]? = some (.cells #[.int .i64 c.ins, .slice b1 m1 d1, .slice b2 m2 d2, .slice b3 m3 d3, .slice b4 m4 d4, .slice b5 m5 d5] 26 (0, 0)) := by subst hW; exact heap_new _ _ _ (by simp)
  have HB := Lib.hid B1
  have HK := Lib.hid hK
  have HX := Lib.hid hX
  clear hW B1 hK hX
  have p0 := cell_of_block HK.out 0
  have q2 := cell_of_block HX.out 2
  go_upto_region 2 with fail
  generalize hW : World.alloc W1 _ = W2
  have B2 : Below W1.heap.size W1 W2 := by subst hW; exact ext_alloc _ _
  have hrow0 : Row isByte W2 w.heap.size 5 (.slice (some ⟨W1.heap.size, 0, none⟩) 0 M) 0 [] := by
    subst hW
    have h := Row.made (ok := isByte) (w := W1) (base := w.heap.size) (e := 5) (zeros (.int .u8 0) M) 0 HB.out.size (by rw [size_zeros]; unfold maxLen; have := HM.out; have := HF.out; omega) (Nat.zero_le _) (by intro u hu; simp only [zeros, List.mem_replicate] at hu; rw [hu.2]; exact isByte_zero)
    rw [size_zeros] at h
    simpa using h
  have HK2 := Lib.hid (heap_below HK.out B2)
  have HX2 := Lib.hid (heap_below HX.out B2)
  have HB2 := Lib.hid (ext_trans HB.out B2)
  have HR := Lib.hid hrow0
  clear hW B2 hrow0 p0 q2 mk HK HX HB
  have p0 := cell_of_block HK2.out 0
  go_wp2_with (at_builtin; refine wpList_append_row isByte _ rfl _ _ 27 rfl w.heap.size 5 i0 (.int .u8 0) 1 Tryz.underlying27 hi hz0 hz1 hz2 rfl isByte_zero _ _ _ rfl (HR.out.below (ext_alloc _ _)) (some ⟨W2.heap.size, 0, none⟩) 1 1 [bv 0] rfl ?qa1 (bv_one [0]) (isByte_all [0]) ?qa4 ?qa5 ?qa6 ?_)
  case qa1 => exact sees_box1 _ _ _
  case qa4 => decide
  case qa5 => omega
  case qa6 => have := HB2.out.size; simp; omega
  intro v1 w1 r1 g1 _
  have hx1 := HR.out.below (ext_alloc W2 (.cells #[.int .u8 0] 5))
  have HK3 := Lib.hid (heap_grown (heap_below HK2.out (ext_alloc _ _)) g1 (hx1.not_own (heap_below HK2.out (ext_alloc _ _)) (by decide)))
  have HX3 := Lib.hid (heap_grown (heap_below HX2.out (ext_alloc _ _)) g1 (hx1.not_own (heap_below HX2.out (ext_alloc _ _)) (by decide)))
  have HB3 := Lib.hid ((ext_trans HB2.out (ext_alloc _ _)).grown g1 (by have := HB2.out.size; simp; omega) (fun k hk => (hx1.own.lt k hk).1))
  obtain ⟨e1, f1, rfl⟩ := r1.form
  have R1 := Lib.hid r1
  clear HK2 HX2 HB2 HR g1 r1 hx1 p0
  go_wp2_with (at_builtin; refine wpList_append_row isByte _ rfl _ _ 27 rfl w.heap.size 5 i0 (.int .u8 0) 1 Tryz.underlying27 hi hz0 hz1 hz2 rfl isByte_zero _ _ _ rfl R1.out a2 n2 c2 (ins.map bv) rfl ?qb1 (bv_one _) (isByte_all _) ?qb4 ?qb5 ?qb6 ?_)
  case qb1 => exact H2.out.below HB3.out
  case qb4 => unfold maxLen; have := HF.out; omega
  case qb5 => have := HF.out; omega
  case qb6 => exact HB3.out.size
  intro v2 w2 r2 g2 _
  have HK4 := Lib.hid (heap_grown HK3.out g2 (R1.out.not_own HK3.out (by decide)))
  have HX4 := Lib.hid (heap_grown HX3.out g2 (R1.out.not_own HX3.out (by decide)))
  have HB4 := Lib.hid (HB3.out.grown g2 HB3.out.size (fun k hk => (R1.out.own.lt k hk).1))
  obtain ⟨e2, f2, rfl⟩ := r2.form
  have R2 := Lib.hid r2
  clear HK3 HX3 HB3 R1 g2 r2
  go_wp2_with (at_builtin; refine wpList_append_row isByte _ rfl _ _ 27 rfl w.heap.size 5 i0 (.int .u8 0) 1 Tryz.underlying27 hi hz0 hz1 hz2 rfl isByte_zero _ _ _ rfl R2.out a1 m1 c1 (st.map bv) rfl ?qc1 (bv_one _) (isByte_all _) ?qc4 ?qc5 ?qc6 ?_)
  case qc1 => exact H1.out.below HB4.out
  case qc4 => unfold maxLen; have := HF.out; omega
  case qc5 => have := HF.out; omega
  case qc6 => exact HB4.out.size
  intro v3 w3 r3 g3 _
  have HK5 := Lib.hid (heap_grown HK4.out g3 (R2.out.not_own HK4.out (by decide)))
  have HX5 := Lib.hid (heap_grown HX4.out g3 (R2.out.not_own HX4.out (by decide)))
  have HB5 := Lib.hid (HB4.out.grown g3 HB4.out.size (fun k hk => (R2.out.own.lt k hk).1))
  obtain ⟨V0, hV0⟩ : ∃ V0, V0 = (0 : UInt8) :: (ins ++ st) := ⟨_, rfl⟩
  obtain ⟨N0, hN0⟩ : ∃ N0, N0 = 1 + n2 + m1 := ⟨_, rfl⟩
  have HN0 : Hid (V0.length = N0) := by show _ = _; rw [hV0, hN0, List.length_cons, List.length_append, HN1.out, HN2.out]; omega
  have hr4 : Row isByte w3 w.heap.size 5 v3 N0 (V0.map bv) := by rw [hV0, hN0]; simpa using r3
  obtain ⟨e3, f3, rfl⟩ := hr4.form
  have R3 := Lib.hid hr4
  have HV0 := Lib.hid hV0
  have HNE := Lib.hid hN0
  clear HK4 HX4 HB4 R2 g3 r3 hr4 hV0 hN0
  have q2 := cell_of_block HX5.out 2
  go_wp2_with fail
  clear q2
  have HCB := Lib.hid (HC.out.below HB5.out)
  have mk2' := Lib.hid mk2
  clear mk2
  go_loopw [39, 8, 11] (fun i v _ wr => ∃ (k : Nat) (a : Option Addr) (cp : Nat), k ≤ m2 ∧ i = .int .i64 k ∧ v = .slice a (N0 + k) cp ∧ Hid (Row isByte wr w.heap.size 5 (.slice a (N0 + k) cp) (N0 + k) ((k1.gates (c.gates.take k) V0).map bv)) ∧
      Hid (wr.heap[w.heap.size]? = some (.cells #[.int .u8 0, .func (.func 56) #[] #[], .func (.func 57) #[] #[]] 77 (0, 0))) ∧ Hid (wr.heap[w.heap.size + 1]? = some (.cells #[.int .i64 c.ins, .slice b1 m1 d1, .slice b2 m2 d2, .slice b3 m3 d3, .slice b4 m4 d4, .slice b5 m5 d5] 26 (0, 0))) ∧ Hid (Below w.heap.size w wr)) (fun i _ _ _ => m2 - (intOf i).toNat)
  case atStart => exact ⟨0, e3, f3, Nat.zero_le _, rfl, rfl, R3.out, HK5.out, HX5.out, HB5.out⟩
  case round =>
    clear HK5 HX5 HB5 R3 HCB
    obtain ⟨k, va, vc, hk, rfl, rfl, hR, hK, hX, hB⟩ := hrel
    by_cases hlt : k < m2
    · obtain ⟨bb, off, rfl, _⟩ := HC.out.s2.addr (show 0 < m2 by omega)
      obtain ⟨qx, qy⟩ := (HC.out.below hB.out).s2.cells k hlt (0, 0)
      have hl4 := HLT.out k (by rw [HG.out]; exact hlt)
      have hsn : c.gates.take (k + 1) = c.gates.take k ++ [c.gates.getD k (0, 0)] := by
        rw [List.take_add_one, List.getElem?_eq_getElem (by rw [HG.out]; exact hlt)]; simp [List.getD, List.getElem?_eq_getElem (show k < c.gates.length by rw [HG.out]; exact hlt)]
      obtain ⟨p, hp⟩ : ∃ t, t = c.gates.getD k (0, 0) := ⟨_, rfl⟩
      rw [← hp] at qx qy hl4 hsn
      obtain ⟨x, y⟩ := p
      simp only [nv32] at qx qy
      simp only at hl4
      have hVl : (k1.gates (c.gates.take k) V0).length = N0 + k := by rw [Kd.gates_len, HN0.out, List.length_take, HG.out, Nat.min_eq_left (by omega)]
      have HGS : Hid (k1.gates (c.gates.take (k + 1)) V0 = k1.gates (c.gates.take k) V0 ++ [k1.an (k1.val (k1.gates (c.gates.take k) V0) x) (k1.val (k1.gates (c.gates.take k) V0) y)]) := by show _ = _; rw [hsn, Kd.gates_snoc]
      obtain ⟨V, hV⟩ : ∃ V, V = k1.gates (c.gates.take k) V0 := ⟨_, rfl⟩
      rw [← hV] at HGS hVl hR
      clear hV hsn hp
      have hsum : 1 + (ins.length + st.length) + k = N0 + k := by rw [HNE.out, HN1.out, HN2.out]; omega
      rw [hsum] at hl4
      have HL4 := Lib.hid hl4
      clear hl4 hsum
      have W1' : IntKind.i64.wrap ((k : Int) + 1) = (k : Int) + 1 := IntWalk.i64_in _ (by have := HF.out; omega)
      go_upto_region 8 with fail
      generalize hW : World.alloc wr _ = X0
      have B0 : Below wr.heap.size wr X0 := by subst hW; exact ext_alloc _ _
      have hGB : X0.heap[wr.heap.size]? = some (.cells #[.int .u32 (x : Int), .int .u32 (y : Int)] 100 (0, 0)) := by subst hW; exact heap_new _ _ _ rfl
      have HKX := Lib.hid (heap_below hK.out B0)
      have HXX := Lib.hid (heap_below hX.out B0)
      have HRX := Lib.hid (hR.out.below B0)
      have HBX := Lib.hid (ext_trans hB.out B0)
      have HGB := Lib.hid hGB
      have HS0 := Lib.hid (keep5_of HKX.out HGB.out)
      clear hW hK hX hB qx qy B0 hGB
      obtain ⟨av, cv, hrv, _, hsv⟩ := HRX.out.sees
      cases hrv
      obtain ⟨na, hna⟩ : ∃ na, na = k1.val V x := ⟨_, rfl⟩
      obtain ⟨nb, hnb⟩ : ∃ nb, nb = k1.val V y := ⟨_, rfl⟩
      have EA : ∀ W, Below X0.heap.size X0 W → Calls Tryz.prog 40 #[.agg #[.int .u8 0, .func (.func 56) #[] #[], .func (.func 57) #[] #[]], .slice va (N0 + k) vc, .int .u32 (x : Int)] W fun e w' => e = .returned (.int .u8 (na.toNat : Int)) ∧ Below W.heap.size W w' := fun W hb => by
        rw [hna]; exact value_any V va (N0 + k) vc x W (hsv.below hb) HL4.out.1 HL4.out.2.2.1
      have EB : ∀ W, Below X0.heap.size X0 W → Calls Tryz.prog 40 #[.agg #[.int .u8 0, .func (.func 56) #[] #[], .func (.func 57) #[] #[]], .slice va (N0 + k) vc, .int .u32 (y : Int)] W fun e w' => e = .returned (.int .u8 (nb.toNat : Int)) ∧ Below W.heap.size W w' := fun W hb => by
        rw [hnb]; exact value_any V va (N0 + k) vc y W (hsv.below hb) HL4.out.2.1 HL4.out.2.2.2
      have HEA := Lib.hid EA
      have HEB := Lib.hid EB
      have HEC := Lib.hid (and1_any na.toNat nb.toNat)
      rw [← hna, ← hnb] at HGS
      obtain ⟨nc, hnc⟩ : ∃ nc, nc = k1.an na nb := ⟨_, rfl⟩
      rw [← hnc] at HGS
      have HNC : Hid (Value.int .u8 ((and1 na.toNat nb.toNat : Nat) : Int) = bv nc) := by show _ = _; rw [hnc, bv_and]
      obtain ⟨nd, hnd⟩ : ∃ nd, nd = and1 na.toNat nb.toNat := ⟨_, rfl⟩
      rw [← hnd] at HEC HNC
      clear hna hnb hnc hnd EA EB hsv
      have hq4 : N0 + k + 1 ≤ maxLen := by unfold maxLen; have := HF.out; have := HNE.out; omega
      have hq5 : (N0 + k + 1) * 1 ≤ 140737488355328 := by have := HF.out; have := HNE.out; omega
      have H1C : Hid (∀ u ∈ [Value.int .u8 ((nd : Nat) : Int)], u.oneCell' = true) := by rw [HNC.out]; exact bv_one [nc]
      have HOC : Hid (∀ u ∈ [Value.int .u8 ((nd : Nat) : Int)], isByte u) := by rw [HNC.out]; exact isByte_all [nc]
      have HQ4 := Lib.hid hq4
      have HQ5 := Lib.hid hq5
      clear hq4 hq5
      go_region_held3 (fun w' => w'.cell? ⟨w.heap.size, 0, none⟩ = some (.int .u8 0) ∧ w'.cell? ⟨w.heap.size, 1, none⟩ = some (.func (.func 56) #[] #[]) ∧ w'.cell? ⟨w.heap.size, 2, none⟩ = some (.func (.func 57) #[] #[]) ∧ w'.cell? ⟨wr.heap.size, 0, none⟩ = some (.int .u32 (x : Int)) ∧ w'.cell? ⟨wr.heap.size, 1, none⟩ = some (.int .u32 (y : Int)))
        (first | with_reducible exact HS3.out | with_reducible exact HS2.out | with_reducible exact HS1.out | with_reducible exact HS0.out | with_reducible exact keep5 HS0.out (Below.refl _ X0).drew | with_reducible exact keep5 HS2.out (ext_alloc _ _) | go_keep)
        (first
          | (go_at_call 40; (with_reducible refine (HEA.out _ (by first | with_reducible exact Below.refl _ X0 | with_reducible exact (Below.refl _ X0).drew)).mono ?_); rintro e s1 ⟨rfl, b1⟩; have hb1 : Below X0.heap.size X0 s1 := (by first | exact b1 | exact below_undrew b1); have HB1 := Lib.hid hb1; have HS1 := Lib.hid (keep5 HS0.out hb1); clear b1 hb1)
          | (go_at_call 40; (with_reducible refine (HEB.out _ HB1.out).mono ?_); rintro e s2 ⟨rfl, b2⟩; have HS2 := Lib.hid (keep5 HS1.out b2); have HB2 := Lib.hid (ext_trans HB1.out b2); clear b2)
          | (go_at_call 57; (with_reducible refine (HEC.out _).mono ?_); rintro e s3 ⟨rfl, rfl⟩)
          | (refine step_append_row isByte _ rfl _ _ 27 rfl w.heap.size 5 i0 (.int .u8 0) 1 Tryz.underlying27 hi hz0 hz1 hz2 rfl isByte_zero _ _ _ (by simp [Act.eval]) (HRX.out.below (ext_trans HB2.out (ext_alloc _ (.cells #[.int .u8 (nd : Int)] 5)))) _ _ _ _ (by simp [Act.eval]) (sees_box1 _ _ _) H1C.out HOC.out HQ4.out HQ5.out (ext_trans HBX.out (ext_trans HB2.out (ext_alloc _ _))).size ?_; intro v2 w2 r2 g2; have hrz := HRX.out.below (ext_trans HB2.out (ext_alloc _ (.cells #[.int .u8 (nd : Int)] 5))); have HKZ := Lib.hid (heap_grown (heap_below HKX.out (ext_trans HB2.out (ext_alloc _ _))) g2 (hrz.not_own (heap_below HKX.out (ext_trans HB2.out (ext_alloc _ _))) (by decide))); have HXZ := Lib.hid (heap_grown (heap_below HXX.out (ext_trans HB2.out (ext_alloc _ _))) g2 (hrz.not_own (heap_below HXX.out (ext_trans HB2.out (ext_alloc _ _))) (by decide))); have HGZ := Lib.hid (heap_grown (heap_below HGB.out (ext_trans HB2.out (ext_alloc _ _))) g2 (hrz.not_own (heap_below HGB.out (ext_trans HB2.out (ext_alloc _ _))) (by decide))); have HBZ := Lib.hid ((ext_trans HBX.out (ext_trans HB2.out (ext_alloc _ _))).grown g2 (ext_trans HBX.out (ext_trans HB2.out (ext_alloc _ _))).size (fun k hk => (hrz.own.lt k hk).1)); have HS3 := Lib.hid (keep5_of HKZ.out HGZ.out); obtain ⟨a2z, c2z, rfl⟩ := r2.form; have R2 := Lib.hid r2; clear r2 g2 hrz))
      all_goals go_wp2
      all_goals go_roundw
      case rel =>
        exact ⟨k + 1, _, _, by omega, by go_num, rfl, (by rw [HGS.out, List.map_append]; have h := R2.out; rw [HNC.out] at h; exact h), HKZ.out, HXZ.out, HBZ.out⟩
      case measure => simp [intOf]; omega
    · obtain rfl : m2 = k := by omega
      rw [List.take_of_length_le (by rw [HG.out]; exact Nat.le_refl _)] at hR
      have hVV : k1.gates c.gates V0 = k1.vars c st ins := by rw [HV0.out]; rfl
      rw [hVV] at hR
      clear hVV
      obtain ⟨VS, hVS⟩ : ∃ VS, VS = k1.vars c st ins := ⟨_, rfl⟩
      rw [← hVS] at hR
      have hVL : VS.length = N0 + m2 := by rw [hVS, Kd.vars_len, HG.out, HN1.out, HN2.out, HNE.out]; omega
      have HLL : Hid (∀ j, j < m1 → (c.lats.getD j (0, 0)).1 / 2 < N0 + m2 ∧ (c.lats.getD j (0, 0)).1 < 4294967296) := fun j hj => by
        have h1 := (hm.lats _ (getD_mem (d := (0, 0)) (show j < c.lats.length by rw [HLA.out]; exact hj))).1
        have h2 : varsN c = n2 + m1 + m2 := by
          unfold varsN
          have h3 := HINS.out
          rw [HG.out, HLA.out]
          omega
        have h4 := HF.out
        have h5 := HNE.out
        omega
      have HVS := Lib.hid hVS
      have HVL := Lib.hid hVL
      have mk2 := mk2'.out
      have q1 := cell_of_block hX.out 1
      clear hVS hVL hlt hk HLT
      go_upto_region 11 with fail
      generalize hW : World.alloc wr _ = X0
      have B0 : Below wr.heap.size wr X0 := by subst hW; exact ext_alloc _ _
      obtain ⟨F, hF⟩ : ∃ F, F = wr.heap.size := ⟨_, rfl⟩
      have hFB : X0.heap[F]? = some (.cells (fcells m1 (fun _ => .int .u8 0)) 5 (0, 0)) := by subst hW; subst hF; rw [← fcells_zero]; exact heap_new _ _ _ rfl
      have hFw : w.heap.size ≤ F := by rw [hF]; exact hB.out.size
      have HKX := Lib.hid (heap_below hK.out B0)
      have HXX := Lib.hid (heap_below hX.out B0)
      have HRX := Lib.hid (hR.out.below B0)
      have HBX := Lib.hid (ext_trans hB.out B0)
      have HFB := Lib.hid hFB
      have hK1 : w.heap.size ≠ F := by have := heap_lt hK.out; omega
      have hX1 : w.heap.size + 1 ≠ F := by have := heap_lt hX.out; omega
      have HK1 := Lib.hid hK1
      have HX1 := Lib.hid hX1
      have hF2 : Hid (∀ g cap cur, va = some ⟨g, 0, none⟩ → wr.heap[g]? = some (.cells cur 5 (0, 0)) → g ≠ F) := fun g cap cur e h => by have := heap_lt h; omega
      have HFW := Lib.hid hFw
      obtain ⟨av, cv, hrv, _, hsv⟩ := HRX.out.sees
      cases hrv
      have HROWF : Hid ((Value.slice va (N0 + m2) vc).ownBlock ≠ some F) := by
        intro e
        rcases hR.out.2 with ⟨h1, _⟩ | ⟨g, cap, cur, h1, _, h2, _⟩
        · rw [h1] at e; cases e
        · rw [h1] at e
          have h3 := heap_lt h2
          have h4 : g = F := by simpa [Value.ownBlock] using e
          omega
      rw [← hF]
      clear hW hF hK hX hR hB B0 hFB q1 mk2 hFw hK1 hX1 hF2
      have q1 := cell_of_block HXX.out 1
      go_wp2_with fail
      clear q1
      go_loopw [67, 12, 13] (fun i _ _ wr2 => ∃ (k : Nat), k ≤ m1 ∧ i = .int .i64 k ∧ Hid (wr2.heap[F]? = some (.cells (fcells m1 (fun j => if j < k then bv (k1.val VS (c.lats.getD j (0, 0)).1) else .int .u8 0)) 5 (0, 0))) ∧ Hid (Row isByte wr2 w.heap.size 5 (.slice va (N0 + m2) vc) (N0 + m2) (VS.map bv)) ∧
        Hid (wr2.heap[w.heap.size]? = some (.cells #[.int .u8 0, .func (.func 56) #[] #[], .func (.func 57) #[] #[]] 77 (0, 0))) ∧ Hid (wr2.heap[w.heap.size + 1]? = some (.cells #[.int .i64 c.ins, .slice b1 m1 d1, .slice b2 m2 d2, .slice b3 m3 d3, .slice b4 m4 d4, .slice b5 m5 d5] 26 (0, 0))) ∧ Hid (Below w.heap.size w wr2)) (fun i _ _ _ => m1 - (intOf i).toNat)
      case atStart =>
        refine ⟨0, Nat.zero_le _, rfl, ?_, HRX.out, HKX.out, HXX.out, HBX.out⟩
        exact HFB.out
      case round =>
        clear HKX HXX HRX HBX HFB hsv
        obtain ⟨k, hk, rfl, hFB, hR, hK, hX, hB⟩ := hrel
        by_cases hlt : k < m1
        · obtain ⟨bb, off, rfl, _⟩ := HC.out.s1.addr (show 0 < m1 by omega)
          obtain ⟨qx, qy⟩ := (HC.out.below hB.out).s1.cells k hlt (0, 0)
          have hl4 := HLL.out k hlt
          obtain ⟨p, hp⟩ : ∃ t, t = c.lats.getD k (0, 0) := ⟨_, rfl⟩
          have HP := Lib.hid hp
          rw [← hp] at qx qy hl4
          clear hp
          obtain ⟨x, y⟩ := p
          simp only [nv32, nv8] at qx qy
          simp only at hl4
          have W1' : IntKind.i64.wrap ((k : Int) + 1) = (k : Int) + 1 := IntWalk.i64_in _ (by have := HF.out; omega)
          go_upto_region 14 with fail
          generalize hW : World.alloc wr _ = X1
          have B0 : Below wr.heap.size wr X1 := by subst hW; exact ext_alloc _ _
          have hGB : X1.heap[wr.heap.size]? = some (.cells #[.int .u32 (x : Int), .int .u8 (y : Int)] 61 (0, 0)) := by subst hW; exact heap_new _ _ _ rfl
          obtain ⟨av, cv, hrv, _, hsv⟩ := (hR.out.below B0).sees
          cases hrv
          have HV := Lib.hid (value_any VS va (N0 + m2) vc x X1 hsv hl4.1 hl4.2)
          have p0 : X1.cell? ⟨w.heap.size, 0, none⟩ = some (.int .u8 0) := cell_of_block (heap_below hK.out B0) 0
          have p1 : X1.cell? ⟨w.heap.size, 1, none⟩ = some (.func (.func 56) #[] #[]) := cell_of_block (heap_below hK.out B0) 1
          have p2 : X1.cell? ⟨w.heap.size, 2, none⟩ = some (.func (.func 57) #[] #[]) := cell_of_block (heap_below hK.out B0) 2
          have p3 : X1.cell? ⟨wr.heap.size, 0, none⟩ = some (.int .u32 (x : Int)) := cell_of_block hGB 0
          have HB0 := Lib.hid B0
          clear hW qx qy B0 hGB hsv hl4
          go_wp2_with fail
          refine HV.out.mono ?_
          rintro e X2 ⟨rfl, b2⟩
          have hb := ext_trans HB0.out b2
          have HFZ := Lib.hid (heap_below hFB.out hb)
          have HRZ := Lib.hid (hR.out.below hb)
          have HKZ := Lib.hid (heap_below hK.out hb)
          have HXZ := Lib.hid (heap_below hX.out hb)
          have HBZ := Lib.hid (ext_trans hB.out hb)
          clear p0 p1 p2 p3 b2 hb HB0 HV hFB hR hK hX hB
          have f0 : X2.cell? ⟨F, k, none⟩ = some (.int .u8 0) := (cell_of_block HFZ.out k).trans ((fcells_get _ _ _ hlt).trans (by rw [if_neg (Nat.lt_irrefl k)]))
          have f1 := unfrozen_of_block HFZ.out k
          obtain ⟨nx, hnx⟩ : ∃ nx, nx = (k1.val VS x).toNat := ⟨_, rfl⟩
          have hbx : bv (k1.val VS x) = .int .u8 (nx : Int) := by rw [hnx]; rfl
          rw [hbx]
          have HNX := Lib.hid hbx
          clear hnx hbx
          go_wp2
          go_roundw
          case rel =>
            refine ⟨k + 1, by omega, by go_num, ?_, ?_, ?_, ?_, ?_⟩
            · have h := block_setCell HFZ.out (i := k) (.int .u8 (nx : Int))
              rw [fcells_set] at h
              refine h.trans ?_
              rw [fcells_congr]
              intro j _
              by_cases e : j = k
              · subst e; rw [if_pos rfl, if_pos (Nat.lt_succ_self j), ← HP.out]; exact HNX.out.symm
              · by_cases e2 : j < k
                · rw [if_neg e, if_pos e2, if_pos (by omega)]
                · rw [if_neg e, if_neg e2, if_neg (by omega)]
            · exact HRZ.out.other fun q hq => Below.heap_setCell X2 ⟨F, k, none⟩ _ q (fun e => HROWF.out (by rw [hq, e]))
            · exact (Below.heap_setCell X2 ⟨F, k, none⟩ _ _ HK1.out).trans HKZ.out
            · exact (Below.heap_setCell X2 ⟨F, k, none⟩ _ _ HX1.out).trans HXZ.out
            · exact HBZ.out.setCell (p := ⟨F, k, none⟩) HFW.out _
          case measure => simp [intOf]; omega
        · obtain rfl : m1 = k := by omega
          go_wp2
          go_ret2
          have hnl : (k1.next c VS).length = m1 := by rw [Kd.next_len, HLA.out]
          have hnc : fcells m1 (fun j => if j < m1 then bv (k1.val VS (c.lats.getD j (0, 0)).1) else .int .u8 0) = ((k1.next c VS).map bv).toArray := by
            apply Array.ext_getElem?
            intro j
            by_cases e : j < m1
            · rw [fcells_get _ _ _ e, if_pos e]
              have e2 : j < c.lats.length := by rw [HLA.out]; exact e
              simp [Kd.next, List.getElem?_eq_getElem e2, List.getD]
            · simp [fcells, hnl, e]
          have h1 := hFB.out
          rw [hnc] at h1
          rw [← HVS.out]
          refine ⟨va, vc, some ⟨F, 0, none⟩, m1, by rw [HVL.out, hnl]; rfl, by rw [HVL.out]; exact hR.out, ?_, hB.out⟩
          rw [hnl]
          refine ⟨by simp [hnl], .inr ⟨F, m1, _, rfl, HFW.out, h1, Nat.le_refl _, by unfold maxLen; have := HF.out; omega, by simp [hnl], by rw [List.take_of_length_le (by simp [hnl])], ?_⟩⟩
          intro u hu
          exact isByte_all _ u (by simpa using hu)
end Go.Proofs.YtgplkpfdbiapaaaGreatDoor
