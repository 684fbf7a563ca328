/- sim: isValue, areValues, Value; the reference's fine and Value, by their contracts. -/
import Derived.Test.YtgplkpfdbiapaaaGreatDoorLib
import Derived.Test.YtgplkpfdbiapaaaGreatDoorOwn
import Derived.Test.YtgplkpfdbiapaaaGreatDoorOwnStr
import Derived.Test.YtgplkpfdbiapaaaGreatDoorVC
import Derived.Test.YtgplkpfdbiapaaaGreatDoorNBase
import Derived.Test.YtgplkpfdbiapaaaGreatDoorNStep
import Derived.Test.YtgplkpfdbiapaaaGreatDoorNSpec
import Derived.Test.YtgplkpfdbiapaaaGreatDoorNVal
import Derived.Test.YtgplkpfdbiapaaaGreatDoorNTrace
import Derived.Test.YtgplkpfdbiapaaaGreatDoorNCirc
import Derived.Test.YtgplkpfdbiapaaaGreatDoorNHeap
import Derived.Test.YtgplkpfdbiapaaaGreatDoorNHeap2
import Derived.Test.YtgplkpfdbiapaaaGreatDoorNOwns
import Derived.Test.YtgplkpfdbiapaaaGreatDoorVB
import Derived.Test.YtgplkpfdbiapaaaGreatDoorRows
import Derived.BigQuiet
import Derived.Deep.AppendLies
import Derived.Deep.CutRange
import Derived.Deep.QuietTactic
import Derived.Deep.RegionHeld3
import Derived.Deep.RegionLaw
import Derived.Deep.RegionWith
import Derived.KernelRfl
import Derived.Laws.Bits64b
import Derived.Laws.BitsAllLaws
import Derived.Laws.BitsLemmas
import Derived.Laws.EntriesVeiled
import Derived.Laws.Tables
import Derived.Lib.AppendStr
import Derived.Lib.AppendZeros
import Derived.Lib.ConvBytes
import Derived.Lib.Hide
import Derived.Lib.SlBytesRow
import Derived.Lib.SmallJoins
import Derived.Maps.AppendAt
import Derived.Shelf.Bytes.SlSmallAll
import Derived.WalkKit
import Derived.WalkLawsBesides
import Derived.WalkSpells
import Derived.LoopIn
import Derived.LoopNIn
import Derived.OwnWalkIn
import Derived.RangeFuncBox
import Derived.RangeFuncCalls
import Derived.RangeFuncLeaves
import Derived.RangeFuncNested
import Derived.RangeFuncWrites
import Derived.Shelf.Abstract
import Derived.Shelf.RegionOpen
import Derived.Sort.CutIn
import Derived.Stop.RegionWithIn
import Derived.TacticsInMore
import Derived.Test.YtgplkpfdbiapaaaGreatDoorShelf
import Derived.OrdersHeld
import Derived.OrdersIn
import Derived.BigRegion
/- sim: the values of a frame (single values), by its contract. -/
namespace Go.Proofs.YtgplkpfdbiapaaaGreatDoor
open Go Go.RowKit Go.Joins

theorem vars_lt {V : Type} (c : NormC) (hm : MayC c) (st ins : List V) (h1 : st.length = c.lats.length) (h2 : (ins.length : Int) = c.ins) (i : Nat) (hi : i < c.gates.length) :
    (c.gates.getD i (0, 0)).1 / 2 < 1 + (ins.length + st.length) + i ∧ (c.gates.getD i (0, 0)).2 / 2 < 1 + (ins.length + st.length) + i ∧ (c.gates.getD i (0, 0)).1 < 4294967296 ∧ (c.gates.getD i (0, 0)).2 < 4294967296 := by
  have h := hm.gates i hi
  have hf := hm.few
  unfold varsN at hf
  rw [← h2, ← h1] at h hf
  simp only [Int.toNat_natCast] at h hf
  omega

theorem sees_box1 (w : World) (u : Value) (e : TypeId) : Sees (w.alloc (.cells #[u] e)) (some ⟨w.heap.size, 0, none⟩) 1 1 [u] :=
  ⟨rfl, Nat.le_refl _, (fun e => by cases e), fun _ => ⟨w.heap.size, 0, rfl, by simp, fun j hj => by
    obtain rfl : j = 0 := by omega
    exact (cell_of_block (heap_new w (.cells #[u] e) _ rfl) 0).trans rfl⟩⟩

theorem keep5 {w w' : World} {a0 a1 a2 a3 a4 : Addr} {v0 v1 v2 v3 v4 : Value} (h : w.cell? a0 = some v0 ∧ w.cell? a1 = some v1 ∧ w.cell? a2 = some v2 ∧ w.cell? a3 = some v3 ∧ w.cell? a4 = some v4) (hb : Below w.heap.size w w') :
    w'.cell? a0 = some v0 ∧ w'.cell? a1 = some v1 ∧ w'.cell? a2 = some v2 ∧ w'.cell? a3 = some v3 ∧ w'.cell? a4 = some v4 :=
  by
  obtain ⟨h0, h1, h2, h3, h4⟩ := h
  have one : ∀ {a : Addr} {v : Value}, w.cell? a = some v → w'.cell? a = some v := fun {a v} h => (hb.cell (World.block_lt_of_cell? _ _ h)).trans h
  exact ⟨one h0, one h1, one h2, one h3, one h4⟩
theorem keep5_of {w : World} {k g : Nat} {v0 v1 v2 v3 v4 : Value} {T1 T2 : TypeId} (hk : w.heap[k]? = some (.cells #[v0, v1, v2] T1 (0, 0))) (hg : w.heap[g]? = some (.cells #[v3, v4] T2 (0, 0))) :
    w.cell? ⟨k, 0, none⟩ = some v0 ∧ w.cell? ⟨k, 1, none⟩ = some v1 ∧ w.cell? ⟨k, 2, none⟩ = some v2 ∧ w.cell? ⟨g, 0, none⟩ = some v3 ∧ w.cell? ⟨g, 1, none⟩ = some v4 :=
  ⟨cell_of_block hk 0, cell_of_block hk 1, cell_of_block hk 2, cell_of_block hg 0, cell_of_block hg 1⟩

/-- What a frame answers. -/
def FramePost (w : World) (vs ns : List UInt8) (e : Ending) (w' : World) : Prop :=
  ∃ a1 c1 a2 c2, e = .returned (.tuple #[.slice a1 vs.length c1, .slice a2 ns.length c2]) ∧ Row isByte w' w.heap.size 5 (.slice a1 vs.length c1) vs.length (vs.map bv) ∧ Row isByte w' w.heap.size 5 (.slice a2 ns.length c2) ns.length (ns.map bv) ∧ Below w.heap.size w w'

set_option maxRecDepth 100000 in
set_option maxHeartbeats 3200000 in
theorem frame_any (c : NormC) (hm : MayC c) (s : CSlots) (st ins : List UInt8) (a1 : Option Addr) (n1 c1 : Nat) (a2 : Option Addr) (n2 c2 : Nat) (w : World) (hc : SeesCir w s c) (hs : s.small)
    (h1 : Sees w a1 n1 c1 (st.map bv)) (h2 : Sees w a2 n2 c2 (ins.map bv)) (hl1 : st.length = c.lats.length) (hl2 : (ins.length : Int) = c.ins) :
    Calls Tryz.prog 59 #[kv1, cirV c.ins s, .slice a1 n1 c1, .slice a2 n2 c2] w (FramePost w (k1.vars c st ins) (k1.next c (k1.vars c st ins))) := by
  obtain ⟨i0, hi, hz0, hz1, hz2⟩ := info_parts info_byte
  have hn1 : st.length = n1 := h1.lenMap
  have hn2 : ins.length = n2 := h2.lenMap
  have HLT := Lib.hid (vars_lt c hm st ins hl1 hl2)
  have hfew := hm.few
  unfold varsN at hfew
  rw [← hl2, ← hl1, hn1, hn2] at hfew
  simp only [Int.toNat_natCast] at hfew
  obtain ⟨b1, m1, d1, b2, m2, d2, b3, m3, d3, b4, m4, d4, b5, m5, d5⟩ := s
  have hg : c.gates.length = m2 := hc.s2.1
  have hla : c.lats.length = m1 := hc.s1.1
  rw [hg] at hfew
  obtain rfl : m1 = n1 := by omega
  obtain ⟨M, hM⟩ : ∃ M, M = 1 + n2 + m1 + m2 := ⟨_, rfl⟩
  have W1 : IntKind.i64.wrap (1 + (n2 : Int)) = 1 + (n2 : Int) := IntWalk.i64_in _ (by omega)
  have W2 : IntKind.i64.wrap (1 + (n2 : Int) + (m1 : Int)) = 1 + (n2 : Int) + (m1 : Int) := IntWalk.i64_in _ (by omega)
  have W3 : IntKind.i64.wrap (1 + (n2 : Int) + (m1 : Int) + (m2 : Int)) = (M : Int) := by rw [IntWalk.i64_in _ (by omega)]; omega
  have mk := fun W => run_make_cap (P := Tryz.prog) Tryz.underlying27 hi hz0 hz1 hz2 rfl M (M : Int) rfl (by omega) (by omega) W
  have mk2 := fun W => run_make_n (P := Tryz.prog) Tryz.underlying27 hi hz0 hz1 hz2 rfl m1 (by omega) (by omega) W
  have HC := Lib.hid hc
  have H1 := Lib.hid h1
  have H2 := Lib.hid h2
  have HN1 := Lib.hid hn1
  have HN2 := Lib.hid hn2
  have HG := Lib.hid hg
  have HLA := Lib.hid hla
  have HM := Lib.hid hM
  have HF := Lib.hid hfew
  have HINS : Hid ((n2 : Int) = c.ins) := by show _ = _; rw [← hn2]; exact hl2
  clear hc h1 h2 hn1 hn2 hg hla hM hfew hl1 hl2
  unfold cirV
  have hkv : kv1 = .agg #[.int .u8 0, .func (.func 56) #[] #[], .func (.func 57) #[] #[]] := rfl
  rw [hkv]
  clear hkv
  go_enter Tryz.func59, Tryz.ntmps59
  go_upto_region 1 with fail
  generalize hW : World.alloc (World.alloc w _) _ = W1
  have B1 : Below w.heap.size w W1 := by subst hW; exact ext_trans (ext_alloc _ _) (ext_alloc _ _)
  have hK : W1.heap[w.heap.size]? = some (.cells #[.int .u8 0, .func (.func 56) #[] #[], .func (.func 57) #[] #[]] 77 (0, 0)) := by subst hW; exact heap_below (heap_new _ _ _ rfl) (ext_alloc _ _)
  have hX : W1.heap[w.heap.size + 1]? = some (.cells #[.int .i64 c.ins, .slice b1 m1 d1, .slice b2 m2 d2, .slice b3 m3 d3, .slice b4 m4 d4, .slice b5 m5 d5] 26 (0, 0)) := by subst hW; exact heap_new _ _ _ (by simp)
  have HB := Lib.hid B1
  have HK := Lib.hid hK
  have HX := Lib.hid hX
  clear hW B1 hK hX
  have p0 := cell_of_block HK.out 0
  have q2 := cell_of_block HX.out 2
  go_upto_region 2 with fail
  generalize hW : World.alloc W1 _ = W2
  have B2 : Below W1.heap.size W1 W2 := by subst hW; exact ext_alloc _ _
  have hrow0 : Row isByte W2 w.heap.size 5 (.slice (some ⟨W1.heap.size, 0, none⟩) 0 M) 0 [] := by
    subst hW
    have h := Row.made (ok := isByte) (w := W1) (base := w.heap.size) (e := 5) (zeros (.int .u8 0) M) 0 HB.out.size (by rw [size_zeros]; unfold maxLen; have := HM.out; have := HF.out; omega) (Nat.zero_le _) (by intro u hu; simp only [zeros, List.mem_replicate] at hu; rw [hu.2]; exact isByte_zero)
    rw [size_zeros] at h
    simpa using h
  have HK2 := Lib.hid (heap_below HK.out B2)
  have HX2 := Lib.hid (heap_below HX.out B2)
  have HB2 := Lib.hid (ext_trans HB.out B2)
  have HR := Lib.hid hrow0
  clear hW B2 hrow0 p0 q2 mk HK HX HB
  have p0 := cell_of_block HK2.out 0
  go_wp2_with (at_builtin; refine wpList_append_row isByte _ rfl _ _ 27 rfl w.heap.size 5 i0 (.int .u8 0) 1 Tryz.underlying27 hi hz0 hz1 hz2 rfl isByte_zero _ _ _ rfl (HR.out.below (ext_alloc _ _)) (some ⟨W2.heap.size, 0, none⟩) 1 1 [bv 0] rfl ?qa1 (bv_one [0]) (isByte_all [0]) ?qa4 ?qa5 ?qa6 ?_)
  case qa1 => exact sees_box1 _ _ _
  case qa4 => decide
  case qa5 => omega
  case qa6 => have := HB2.out.size; simp; omega
  intro v1 w1 r1 g1 _
  have hx1 := HR.out.below (ext_alloc W2 (.cells #[.int .u8 0] 5))
  have HK3 := Lib.hid (heap_grown (heap_below HK2.out (ext_alloc _ _)) g1 (hx1.not_own (heap_below HK2.out (ext_alloc _ _)) (by decide)))
  have HX3 := Lib.hid (heap_grown (heap_below HX2.out (ext_alloc _ _)) g1 (hx1.not_own (heap_below HX2.out (ext_alloc _ _)) (by decide)))
  have HB3 := Lib.hid ((ext_trans HB2.out (ext_alloc _ _)).grown g1 (by have := HB2.out.size; simp; omega) (fun k hk => (hx1.own.lt k hk).1))
  obtain ⟨e1, f1, rfl⟩ := r1.form
  have R1 := Lib.hid r1
  clear HK2 HX2 HB2 HR g1 r1 hx1 p0
  go_wp2_with (at_builtin; refine wpList_append_row isByte _ rfl _ _ 27 rfl w.heap.size 5 i0 (.int .u8 0) 1 Tryz.underlying27 hi hz0 hz1 hz2 rfl isByte_zero _ _ _ rfl R1.out a2 n2 c2 (ins.map bv) rfl ?qb1 (bv_one _) (isByte_all _) ?qb4 ?qb5 ?qb6 ?_)
  case qb1 => exact H2.out.below HB3.out
  case qb4 => unfold maxLen; have := HF.out; omega
  case qb5 => have := HF.out; omega
  case qb6 => exact HB3.out.size
  intro v2 w2 r2 g2 _
  have HK4 := Lib.hid (heap_grown HK3.out g2 (R1.out.not_own HK3.out (by decide)))
  have HX4 := Lib.hid (heap_grown HX3.out g2 (R1.out.not_own HX3.out (by decide)))
  have HB4 := Lib.hid (HB3.out.grown g2 HB3.out.size (fun k hk => (R1.out.own.lt k hk).1))
  obtain ⟨e2, f2, rfl⟩ := r2.form
  have R2 := Lib.hid r2
  clear HK3 HX3 HB3 R1 g2 r2
  go_wp2_with (at_builtin; refine wpList_append_row isByte _ rfl _ _ 27 rfl w.heap.size 5 i0 (.int .u8 0) 1 Tryz.underlying27 hi hz0 hz1 hz2 rfl isByte_zero _ _ _ rfl R2.out a1 m1 c1 (st.map bv) rfl ?qc1 (bv_one _) (isByte_all _) ?qc4 ?qc5 ?qc6 ?_)
  case qc1 => exact H1.out.below HB4.out
  case qc4 => unfold maxLen; have := HF.out; omega
  case qc5 => have := HF.out; omega
  case qc6 => exact HB4.out.size
  intro v3 w3 r3 g3 _
  have HK5 := Lib.hid (heap_grown HK4.out g3 (R2.out.not_own HK4.out (by decide)))
  have HX5 := Lib.hid (heap_grown HX4.out g3 (R2.out.not_own HX4.out (by decide)))
  have HB5 := Lib.hid (HB4.out.grown g3 HB4.out.size (fun k hk => (R2.out.own.lt k hk).1))
  obtain ⟨V0, hV0⟩ : ∃ V0, V0 = (0 : UInt8) :: (ins ++ st) := ⟨_, rfl⟩
  obtain ⟨N0, hN0⟩ : ∃ N0, N0 = 1 + n2 + m1 := ⟨_, rfl⟩
  have HN0 : Hid (V0.length = N0) := by show _ = _; rw [hV0, hN0, List.length_cons, List.length_append, HN1.out, HN2.out]; omega
  have hr4 : Row isByte w3 w.heap.size 5 v3 N0 (V0.map bv) := by rw [hV0, hN0]; simpa using r3
  obtain ⟨e3, f3, rfl⟩ := hr4.form
  have R3 := Lib.hid hr4
  have HV0 := Lib.hid hV0
  have HNE := Lib.hid hN0
  clear HK4 HX4 HB4 R2 g3 r3 hr4 hV0 hN0
  have q2 := cell_of_block HX5.out 2
  go_wp2_with fail
  clear q2
  have HCB := Lib.hid (HC.out.below HB5.out)
  have mk2' := Lib.hid mk2
  clear mk2
  go_loopw [39, 8, 11] (fun i v _ wr => ∃ (k : Nat) (a : Option Addr) (cp : Nat), k ≤ m2 ∧ i = .int .i64 k ∧ v = .slice a (N0 + k) cp ∧ Hid (Row isByte wr w.heap.size 5 (.slice a (N0 + k) cp) (N0 + k) ((k1.gates (c.gates.take k) V0).map bv)) ∧
      Hid (wr.heap[w.heap.size]? = some (.cells #[.int .u8 0, .func (.func 56) #[] #[], .func (.func 57) #[] #[]] 77 (0, 0))) ∧ Hid (wr.heap[w.heap.size + 1]? = some (.cells #[.int .i64 c.ins, .slice b1 m1 d1, .slice b2 m2 d2, .slice b3 m3 d3, .slice b4 m4 d4, .slice b5 m5 d5] 26 (0, 0))) ∧ Hid (Below w.heap.size w wr)) (fun i _ _ _ => m2 - (intOf i).toNat)
  case atStart => exact ⟨0, e3, f3, Nat.zero_le _, rfl, rfl, R3.out, HK5.out, HX5.out, HB5.out⟩
  case round =>
    clear HK5 HX5 HB5 R3 HCB
    obtain ⟨k, va, vc, hk, rfl, rfl, hR, hK, hX, hB⟩ := hrel
    by_cases hlt : k < m2
    · obtain ⟨bb, off, rfl, _⟩ := HC.out.s2.addr (show 0 < m2 by omega)
      obtain ⟨qx, qy⟩ := (HC.out.below hB.out).s2.cells k hlt (0, 0)
      have hl4 := HLT.out k (by rw [HG.out]; exact hlt)
      have hsn : c.gates.take (k + 1) = c.gates.take k ++ [c.gates.getD k (0, 0)] := by
        rw [List.take_add_one, List.getElem?_eq_getElem (by rw [HG.out]; exact hlt)]; simp [List.getD, List.getElem?_eq_getElem (show k < c.gates.length by rw [HG.out]; exact hlt)]
      obtain ⟨p, hp⟩ : ∃ t, t = c.gates.getD k (0, 0) := ⟨_, rfl⟩
      rw [← hp] at qx qy hl4 hsn
      obtain ⟨x, y⟩ := p
      simp only [nv32] at qx qy
      simp only at hl4
      have hVl : (k1.gates (c.gates.take k) V0).length = N0 + k := by rw [Kd.gates_len, HN0.out, List.length_take, HG.out, Nat.min_eq_left (by omega)]
      have HGS : Hid (k1.gates (c.gates.take (k + 1)) V0 = k1.gates (c.gates.take k) V0 ++ [k1.an (k1.val (k1.gates (c.gates.take k) V0) x) (k1.val (k1.gates (c.gates.take k) V0) y)]) := by show _ = _; rw [hsn, Kd.gates_snoc]
      obtain ⟨V, hV⟩ : ∃ V, V = k1.gates (c.gates.take k) V0 := ⟨_, rfl⟩
      rw [← hV] at HGS hVl hR
      clear hV hsn hp
      have hsum : 1 + (ins.length + st.length) + k = N0 + k := by rw [HNE.out, HN1.out, HN2.out]; omega
      rw [hsum] at hl4
      have HL4 := Lib.hid hl4
      clear hl4 hsum
      have W1' : IntKind.i64.wrap ((k : Int) + 1) = (k : Int) + 1 := IntWalk.i64_in _ (by have := HF.out; omega)
      go_upto_region 8 with fail
      generalize hW : World.alloc wr _ = X0
      have B0 : Below wr.heap.size wr X0 := by subst hW; exact ext_alloc _ _
      have hGB : X0.heap[wr.heap.size]? = some (.cells #[.int .u32 (x : Int), .int .u32 (y : Int)] 100 (0, 0)) := by subst hW; exact heap_new _ _ _ rfl
      have HKX := Lib.hid (heap_below hK.out B0)
      have HXX := Lib.hid (heap_below hX.out B0)
      have HRX := Lib.hid (hR.out.below B0)
      have HBX := Lib.hid (ext_trans hB.out B0)
      have HGB := Lib.hid hGB
      have HS0 := Lib.hid (keep5_of HKX.out HGB.out)
      clear hW hK hX hB qx qy B0 hGB
      obtain ⟨av, cv, hrv, _, hsv⟩ := HRX.out.sees
      cases hrv
      obtain ⟨na, hna⟩ : ∃ na, na = k1.val V x := ⟨_, rfl⟩
      obtain ⟨nb, hnb⟩ : ∃ nb, nb = k1.val V y := ⟨_, rfl⟩
      have EA : ∀ W, Below X0.heap.size X0 W → Calls Tryz.prog 40 #[.agg #[.int .u8 0, .func (.func 56) #[] #[], .func (.func 57) #[] #[]], .slice va (N0 + k) vc, .int .u32 (x : Int)] W fun e w' => e = .returned (.int .u8 (na.toNat : Int)) ∧ Below W.heap.size W w' := fun W hb => by
        rw [hna]; exact value_any V va (N0 + k) vc x W (hsv.below hb) HL4.out.1 HL4.out.2.2.1
      have EB : ∀ W, Below X0.heap.size X0 W → Calls Tryz.prog 40 #[.agg #[.int .u8 0, .func (.func 56) #[] #[], .func (.func 57) #[] #[]], .slice va (N0 + k) vc, .int .u32 (y : Int)] W fun e w' => e = .returned (.int .u8 (nb.toNat : Int)) ∧ Below W.heap.size W w' := fun W hb => by
        rw [hnb]; exact value_any V va (N0 + k) vc y W (hsv.below hb) HL4.out.2.1 HL4.out.2.2.2
      have HEA := Lib.hid EA
      have HEB := Lib.hid EB
      have HEC := Lib.hid (and1_any na.toNat nb.toNat)
      rw [← hna, ← hnb] at HGS
      obtain ⟨nc, hnc⟩ : ∃ nc, nc = k1.an na nb := ⟨_, rfl⟩
      rw [← hnc] at HGS
      have HNC : Hid (Value.int .u8 ((and1 na.toNat nb.toNat : Nat) : Int) = bv nc) := by show _ = _; rw [hnc, bv_and]
      obtain ⟨nd, hnd⟩ : ∃ nd, nd = and1 na.toNat nb.toNat := ⟨_, rfl⟩
      rw [← hnd] at HEC HNC
      clear hna hnb hnc hnd EA EB hsv
      have hq4 : N0 + k + 1 ≤ maxLen := by unfold maxLen; have := HF.out; have := HNE.out; omega
      have hq5 : (N0 + k + 1) * 1 ≤ 140737488355328 := by have := HF.out; have := HNE.out; omega
      have H1C : Hid (∀ u ∈ [Value.int .u8 ((nd : Nat) : Int)], u.oneCell' = true) := by rw [HNC.out]; exact bv_one [nc]
      have HOC : Hid (∀ u ∈ [Value.int .u8 ((nd : Nat) : Int)], isByte u) := by rw [HNC.out]; exact isByte_all [nc]
      have HQ4 := Lib.hid hq4
      have HQ5 := Lib.hid hq5
      clear hq4 hq5
      go_region_held3 (fun w' => w'.cell? ⟨w.heap.size, 0, none⟩ = some (.int .u8 0) ∧ w'.cell? ⟨w.heap.size, 1, none⟩ = some (.func (.func 56) #[] #[]) ∧ w'.cell? ⟨w.heap.size, 2, none⟩ = some (.func (.func 57) #[] #[]) ∧ w'.cell? ⟨wr.heap.size, 0, none⟩ = some (.int .u32 (x : Int)) ∧ w'.cell? ⟨wr.heap.size, 1, none⟩ = some (.int .u32 (y : Int)))
        (first | with_reducible exact HS3.out | with_reducible exact HS2.out | with_reducible exact HS1.out | with_reducible exact HS0.out | with_reducible exact keep5 HS0.out (Below.refl _ X0).drew | with_reducible exact keep5 HS2.out (ext_alloc _ _) | go_keep)
        (first
          | (go_at_call 40; (with_reducible refine (HEA.out _ (by first | with_reducible exact Below.refl _ X0 | with_reducible exact (Below.refl _ X0).drew)).mono ?_); rintro e s1 ⟨rfl, b1⟩; have hb1 : Below X0.heap.size X0 s1 := (by first | exact b1 | exact below_undrew b1); have HB1 := Lib.hid hb1; have HS1 := Lib.hid (keep5 HS0.out hb1); clear b1 hb1)
          | (go_at_call 40; (with_reducible refine (HEB.out _ HB1.out).mono ?_); rintro e s2 ⟨rfl, b2⟩; have HS2 := Lib.hid (keep5 HS1.out b2); have HB2 := Lib.hid (ext_trans HB1.out b2); clear b2)
          | (go_at_call 57; (with_reducible refine (HEC.out _).mono ?_); rintro e s3 ⟨rfl, rfl⟩)
          | (refine step_append_row isByte _ rfl _ _ 27 rfl w.heap.size 5 i0 (.int .u8 0) 1 Tryz.underlying27 hi hz0 hz1 hz2 rfl isByte_zero _ _ _ (by simp [Act.eval]) (HRX.out.below (ext_trans HB2.out (ext_alloc _ (.cells #[.int .u8 (nd : Int)] 5)))) _ _ _ _ (by simp [Act.eval]) (sees_box1 _ _ _) H1C.out HOC.out HQ4.out HQ5.out (ext_trans HBX.out (ext_trans HB2.out (ext_alloc _ _))).size ?_; intro v2 w2 r2 g2; have hrz := HRX.out.below (ext_trans HB2.out (ext_alloc _ (.cells #[.int .u8 (nd : Int)] 5))); have HKZ := Lib.hid (heap_grown (heap_below HKX.out (ext_trans HB2.out (ext_alloc _ _))) g2 (hrz.not_own (heap_below HKX.out (ext_trans HB2.out (ext_alloc _ _))) (by decide))); have HXZ := Lib.hid (heap_grown (heap_below HXX.out (ext_trans HB2.out (ext_alloc _ _))) g2 (hrz.not_own (heap_below HXX.out (ext_trans HB2.out (ext_alloc _ _))) (by decide))); have HGZ := Lib.hid (heap_grown (heap_below HGB.out (ext_trans HB2.out (ext_alloc _ _))) g2 (hrz.not_own (heap_below HGB.out (ext_trans HB2.out (ext_alloc _ _))) (by decide))); have HBZ := Lib.hid ((ext_trans HBX.out (ext_trans HB2.out (ext_alloc _ _))).grown g2 (ext_trans HBX.out (ext_trans HB2.out (ext_alloc _ _))).size (fun k hk => (hrz.own.lt k hk).1)); have HS3 := Lib.hid (keep5_of HKZ.out HGZ.out); obtain ⟨a2z, c2z, rfl⟩ := r2.form; have R2 := Lib.hid r2; clear r2 g2 hrz))
      all_goals go_wp2
      all_goals go_roundw
      case rel =>
        exact ⟨k + 1, _, _, by omega, by go_num, rfl, (by rw [HGS.out, List.map_append]; have h := R2.out; rw [HNC.out] at h; exact h), HKZ.out, HXZ.out, HBZ.out⟩
      case measure => simp [intOf]; omega
    · obtain rfl : m2 = k := by omega
      rw [List.take_of_length_le (by rw [HG.out]; exact Nat.le_refl _)] at hR
      have hVV : k1.gates c.gates V0 = k1.vars c st ins := by rw [HV0.out]; rfl
      rw [hVV] at hR
      clear hVV
      obtain ⟨VS, hVS⟩ : ∃ VS, VS = k1.vars c st ins := ⟨_, rfl⟩
      rw [← hVS] at hR
      have hVL : VS.length = N0 + m2 := by rw [hVS, Kd.vars_len, HG.out, HN1.out, HN2.out, HNE.out]; omega
      have HLL : Hid (∀ j, j < m1 → (c.lats.getD j (0, 0)).1 / 2 < N0 + m2 ∧ (c.lats.getD j (0, 0)).1 < 4294967296) := fun j hj => by
        have h1 := (hm.lats _ (getD_mem (d := (0, 0)) (show j < c.lats.length by rw [HLA.out]; exact hj))).1
        have h2 : varsN c = n2 + m1 + m2 := by
          unfold varsN
          have h3 := HINS.out
          rw [HG.out, HLA.out]
          omega
        have h4 := HF.out
        have h5 := HNE.out
        omega
      have HVS := Lib.hid hVS
      have HVL := Lib.hid hVL
      have mk2 := mk2'.out
      have q1 := cell_of_block hX.out 1
      clear hVS hVL hlt hk HLT
      go_upto_region 11 with fail
      generalize hW : World.alloc wr _ = X0
      have B0 : Below wr.heap.size wr X0 := by subst hW; exact ext_alloc _ _
      obtain ⟨F, hF⟩ : ∃ F, F = wr.heap.size := ⟨_, rfl⟩
      have hFB : X0.heap[F]? = some (.cells (fcells m1 (fun _ => .int .u8 0)) 5 (0, 0)) := by subst hW; subst hF; rw [← fcells_zero]; exact heap_new _ _ _ rfl
      have hFw : w.heap.size ≤ F := by rw [hF]; exact hB.out.size
      have HKX := Lib.hid (heap_below hK.out B0)
      have HXX := Lib.hid (heap_below hX.out B0)
      have HRX := Lib.hid (hR.out.below B0)
      have HBX := Lib.hid (ext_trans hB.out B0)
      have HFB := Lib.hid hFB
      have hK1 : w.heap.size ≠ F := by have := heap_lt hK.out; omega
      have hX1 : w.heap.size + 1 ≠ F := by have := heap_lt hX.out; omega
      have HK1 := Lib.hid hK1
      have HX1 := Lib.hid hX1
      have hF2 : Hid (∀ g cap cur, va = some ⟨g, 0, none⟩ → wr.heap[g]? = some (.cells cur 5 (0, 0)) → g ≠ F) := fun g cap cur e h => by have := heap_lt h; omega
      have HFW := Lib.hid hFw
      obtain ⟨av, cv, hrv, _, hsv⟩ := HRX.out.sees
      cases hrv
      have HROWF : Hid ((Value.slice va (N0 + m2) vc).ownBlock ≠ some F) := by
        intro e
        rcases hR.out.2 with ⟨h1, _⟩ | ⟨g, cap, cur, h1, _, h2, _⟩
        · rw [h1] at e; cases e
        · rw [h1] at e
          have h3 := heap_lt h2
          have h4 : g = F := by simpa [Value.ownBlock] using e
          omega
      rw [← hF]
      clear hW hF hK hX hR hB B0 hFB q1 mk2 hFw hK1 hX1 hF2
      have q1 := cell_of_block HXX.out 1
      go_wp2_with fail
      clear q1
      go_loopw [67, 12, 13] (fun i _ _ wr2 => ∃ (k : Nat), k ≤ m1 ∧ i = .int .i64 k ∧ Hid (wr2.heap[F]? = some (.cells (fcells m1 (fun j => if j < k then bv (k1.val VS (c.lats.getD j (0, 0)).1) else .int .u8 0)) 5 (0, 0))) ∧ Hid (Row isByte wr2 w.heap.size 5 (.slice va (N0 + m2) vc) (N0 + m2) (VS.map bv)) ∧
        Hid (wr2.heap[w.heap.size]? = some (.cells #[.int .u8 0, .func (.func 56) #[] #[], .func (.func 57) #[] #[]] 77 (0, 0))) ∧ Hid (wr2.heap[w.heap.size + 1]? = some (.cells #[.int .i64 c.ins, .slice b1 m1 d1, .slice b2 m2 d2, .slice b3 m3 d3, .slice b4 m4 d4, .slice b5 m5 d5] 26 (0, 0))) ∧ Hid (Below w.heap.size w wr2)) (fun i _ _ _ => m1 - (intOf i).toNat)
      case atStart =>
        refine ⟨0, Nat.zero_le _, rfl, ?_, HRX.out, HKX.out, HXX.out, HBX.out⟩
        exact HFB.out
      case round =>
        clear HKX HXX HRX HBX HFB hsv
        obtain ⟨k, hk, rfl, hFB, hR, hK, hX, hB⟩ := hrel
        by_cases hlt : k < m1
        · obtain ⟨bb, off, rfl, _⟩ := HC.out.s1.addr (show 0 < m1 by omega)
          obtain ⟨qx, qy⟩ := (HC.out.below hB.out).s1.cells k hlt (0, 0)
          have hl4 := HLL.out k hlt
          obtain ⟨p, hp⟩ : ∃ t, t = c.lats.getD k (0, 0) := ⟨_, rfl⟩
          have HP := Lib.hid hp
          rw [← hp] at qx qy hl4
          clear hp
          obtain ⟨x, y⟩ := p
          simp only [nv32, nv8] at qx qy
          simp only at hl4
          have W1' : IntKind.i64.wrap ((k : Int) + 1) = (k : Int) + 1 := IntWalk.i64_in _ (by have := HF.out; omega)
          go_upto_region 14 with fail
          generalize hW : World.alloc wr _ = X1
          have B0 : Below wr.heap.size wr X1 := by subst hW; exact ext_alloc _ _
          have hGB : X1.heap[wr.heap.size]? = some (.cells #[.int .u32 (x : Int), .int .u8 (y : Int)] 61 (0, 0)) := by subst hW; exact heap_new _ _ _ rfl
          obtain ⟨av, cv, hrv, _, hsv⟩ := (hR.out.below B0).sees
          cases hrv
          have HV := Lib.hid (value_any VS va (N0 + m2) vc x X1 hsv hl4.1 hl4.2)
          have p0 : X1.cell? ⟨w.heap.size, 0, none⟩ = some (.int .u8 0) := cell_of_block (heap_below hK.out B0) 0
          have p1 : X1.cell? ⟨w.heap.size, 1, none⟩ = some (.func (.func 56) #[] #[]) := cell_of_block (heap_below hK.out B0) 1
          have p2 : X1.cell? ⟨w.heap.size, 2, none⟩ = some (.func (.func 57) #[] #[]) := cell_of_block (heap_below hK.out B0) 2
          have p3 : X1.cell? ⟨wr.heap.size, 0, none⟩ = some (.int .u32 (x : Int)) := cell_of_block hGB 0
          have HB0 := Lib.hid B0
          clear hW qx qy B0 hGB hsv hl4
          go_wp2_with fail
          refine HV.out.mono ?_
          rintro e X2 ⟨rfl, b2⟩
          have hb := ext_trans HB0.out b2
          have HFZ := Lib.hid (heap_below hFB.out hb)
          have HRZ := Lib.hid (hR.out.below hb)
          have HKZ := Lib.hid (heap_below hK.out hb)
          have HXZ := Lib.hid (heap_below hX.out hb)
          have HBZ := Lib.hid (ext_trans hB.out hb)
          clear p0 p1 p2 p3 b2 hb HB0 HV hFB hR hK hX hB
          have f0 : X2.cell? ⟨F, k, none⟩ = some (.int .u8 0) := (cell_of_block HFZ.out k).trans ((fcells_get _ _ _ hlt).trans (by rw [if_neg (Nat.lt_irrefl k)]))
          have f1 := unfrozen_of_block HFZ.out k
          obtain ⟨nx, hnx⟩ : ∃ nx, nx = (k1.val VS x).toNat := ⟨_, rfl⟩
          have hbx : bv (k1.val VS x) = .int .u8 (nx : Int) := by rw [hnx]; rfl
          rw [hbx]
          have HNX := Lib.hid hbx
          clear hnx hbx
          go_wp2
          go_roundw
          case rel =>
            refine ⟨k + 1, by omega, by go_num, ?_, ?_, ?_, ?_, ?_⟩
            · have h := block_setCell HFZ.out (i := k) (.int .u8 (nx : Int))
              rw [fcells_set] at h
              refine h.trans ?_
              rw [fcells_congr]
              intro j _
              by_cases e : j = k
              · subst e; rw [if_pos rfl, if_pos (Nat.lt_succ_self j), ← HP.out]; exact HNX.out.symm
              · by_cases e2 : j < k
                · rw [if_neg e, if_pos e2, if_pos (by omega)]
                · rw [if_neg e, if_neg e2, if_neg (by omega)]
            · exact HRZ.out.other fun q hq => Below.heap_setCell X2 ⟨F, k, none⟩ _ q (fun e => HROWF.out (by rw [hq, e]))
            · exact (Below.heap_setCell X2 ⟨F, k, none⟩ _ _ HK1.out).trans HKZ.out
            · exact (Below.heap_setCell X2 ⟨F, k, none⟩ _ _ HX1.out).trans HXZ.out
            · exact HBZ.out.setCell (p := ⟨F, k, none⟩) HFW.out _
          case measure => simp [intOf]; omega
        · obtain rfl : m1 = k := by omega
          go_wp2
          go_ret2
          have hnl : (k1.next c VS).length = m1 := by rw [Kd.next_len, HLA.out]
          have hnc : fcells m1 (fun j => if j < m1 then bv (k1.val VS (c.lats.getD j (0, 0)).1) else .int .u8 0) = ((k1.next c VS).map bv).toArray := by
            apply Array.ext_getElem?
            intro j
            by_cases e : j < m1
            · rw [fcells_get _ _ _ e, if_pos e]
              have e2 : j < c.lats.length := by rw [HLA.out]; exact e
              simp [Kd.next, List.getElem?_eq_getElem e2, List.getD]
            · simp [fcells, hnl, e]
          have h1 := hFB.out
          rw [hnc] at h1
          rw [← HVS.out]
          refine ⟨va, vc, some ⟨F, 0, none⟩, m1, by rw [HVL.out, hnl]; rfl, by rw [HVL.out]; exact hR.out, ?_, hB.out⟩
          rw [hnl]
          refine ⟨by simp [hnl], .inr ⟨F, m1, _, rfl, HFW.out, h1, Nat.le_refl _, by unfold maxLen; have := HF.out; omega, by simp [hnl], by rw [List.take_of_length_le (by simp [hnl])], ?_⟩⟩
          intro u hu
          exact isByte_all _ u (by simpa using hu)
end Go.Proofs.YtgplkpfdbiapaaaGreatDoor
/- sim: the run of single values as an iterator, by its contract. -/
namespace Go.Proofs.YtgplkpfdbiapaaaGreatDoor
open Go Go.RowKit Go.Joins
attribute [local go_sem] Oper.semAt_some

/-- A slice of bytes that lies in old memory, or in a row of its own from B on. -/
def StOk (base B : Nat) (W : World) (a : Option Addr) (n c : Nat) (xs : List Value) : Prop :=
  Sees W a n c xs ∧ ((0 < n → ∀ b off, a = some ⟨b, off, none⟩ → b < base) ∨ Row isByte W B 5 (.slice a n c) n xs)
theorem StOk.below {base B : Nat} {W W' : World} {a : Option Addr} {n c : Nat} {xs : List Value} (h : StOk base B W a n c xs) (hb : Below W.heap.size W W') : StOk base B W' a n c xs :=
  ⟨h.1.below hb, h.2.imp id (fun h => h.below hb)⟩
theorem StOk.kpt {base B g1 g2 : Nat} {T : TypeId} {W W' : World} {a : Option Addr} {n c : Nat} {xs : List Value} (h : StOk base B W a n c xs) (hk : Kpt base T g1 g2 W W') (hT : 5 ≠ T) (h1 : g1 < B) (h2 : g2 < B) : StOk base B W' a n c xs := by
  rcases h.2 with h3 | h3
  · refine ⟨⟨h.1.len, h.1.cap, h.1.nilc, fun h0 => ?_⟩, .inl h3⟩
    obtain ⟨b, off, e, hlt, hc⟩ := h.1.real h0
    have hb := h3 h0 b off e
    exact ⟨b, off, e, Nat.lt_of_lt_of_le hlt hk.low.size, fun j hj => (hk.low.cell (p := ⟨b, off + j, none⟩) hb).trans (hc j hj)⟩
  · have h4 : Row isByte W' B 5 (.slice a n c) n xs := h3.other fun q hq => by
      obtain ⟨hl, rest⟩ := h3
      rcases rest with ⟨e, _⟩ | ⟨g, cap, cur, e, hg, hh, _⟩
      · rw [e] at hq; cases hq
      · rw [e] at hq
        have : g = q := by simpa [Value.ownBlock] using hq
        subst this
        exact (hk.mid g cur _ _ hh hT (by omega) (by omega)).trans hh.symm
    exact ⟨(row_sees_slice h4).2, .inr h4⟩

/-- What the k-th round is handed. -/
def ElemAt (B : Nat) (V : Nat → List UInt8) (k : Nat) (xs : Array Value) (W : World) : Prop :=
  ∃ a cp, xs = #[.slice a (V k).length cp] ∧ Row isByte W B 5 (.slice a (V k).length cp) (V k).length ((V k).map bv)
theorem elem_puts (B : Nat) (V : Nat → List UInt8) (N : Nat) (k : Nat) : Puts N (ElemAt B V k) := by
  rintro xs A l o o' ⟨a, cp, e, hr⟩ _ hl ho
  refine ⟨a, cp, e, hr.other fun q hq => ?_⟩
  rcases hr.2 with ⟨h1, _⟩ | ⟨g, cap, cur, h1, _, h2, _⟩
  · rw [h1] at hq; cases hq
  · rw [h1] at hq
    have : g = q := by simpa [Value.ownBlock] using hq
    subst this
    exact World.putObj_heap_other (fun e => by subst e; rw [hl] at h2; cases h2; cases ho)

set_option maxRecDepth 100000 in
theorem aloneAt_any (t : TraceC) (a2 : Option Addr) (n2 c2 : Nat) (ss : List Slc) (v0 v1 : Value) (tb k : Nat) (w : World) (hs : SeesF w a2 n2 c2 ss t.frames) (hc : w.heap[tb]? = some (.cells #[v0, v1, .slice a2 n2 c2] 30 (0, 0))) (hk : k < n2) :
    Calls Tryz.prog 60 #[.int .i64 (k : Int), .pointer (some ⟨tb, 0, none⟩)] w fun e w' => e = .returned (slV (ss.getD k slc0)) ∧ w' = w := by
  obtain ⟨b, off, rfl, hbw⟩ := hs.row.addr (show 0 < n2 by omega)
  have hcx := hs.cellAt k hk
  have p2 : w.cell? ⟨tb, 2, none⟩ = some (.slice (some ⟨b, off, none⟩) n2 c2) := cell_of_block hc 2
  unfold slV
  obtain ⟨x, hx⟩ : ∃ x : Slc, x = ss.getD k slc0 := ⟨_, rfl⟩
  rw [← hx] at hcx ⊢
  obtain ⟨xa, xn, xc⟩ := x
  simp only at hcx
  have hI : ((k : Nat) : Int) < (n2 : Int) := by omega
  clear hs hc hbw hx
  go_enter Tryz.func60, Tryz.ntmps60
  go_wp2
  go_ret
  exact ⟨rfl, rfl⟩

set_option maxRecDepth 100000 in
theorem alone_any (bad : Int) (st : TSlots) (w : World) :
    Calls Tryz.prog 32 #[traceV bad st] w fun e w' => e = .returned (.agg #[.slice st.a1 st.n1 st.c1, .int .i64 (st.n2 : Int), .func (.func 60) #[] #[.pointer (some ⟨w.heap.size, 0, none⟩)]]) ∧
      w'.heap[w.heap.size]? = some (.cells #[.int .i64 bad, .slice st.a1 st.n1 st.c1, .slice st.a2 st.n2 st.c2] 30 (0, 0)) ∧ Below w.heap.size w w' := by
  obtain ⟨a1, n1, c1, a2, n2, c2, ss⟩ := st
  unfold traceV
  go_enter Tryz.func32, Tryz.ntmps32
  go_wp2
  refine bodyPost_ret (v := .agg #[.slice a1 n1 c1, .int .i64 (n2 : Int), .func (.func 60) #[] #[.pointer (some ⟨w.heap.size, 0, none⟩)]]) ?_ rfl ?_
  · simp [results, Tryz.results32, go_sem]
  · exact ⟨rfl, heap_below (heap_new _ _ _ rfl) (ext_alloc _ _), ext_trans (ext_alloc _ _) (ext_alloc _ _)⟩

set_option maxRecDepth 100000 in
theorem run_any (k c s : Array Value) (w : World) :
    Calls Tryz.prog 31 #[.agg k, .agg c, .agg s] w fun e w' => e = .returned (.func (.func 58) #[] #[.pointer (some ⟨w.heap.size + 2, 0, none⟩), .pointer (some ⟨w.heap.size, 0, none⟩), .pointer (some ⟨w.heap.size + 1, 0, none⟩)]) ∧
      w'.heap[w.heap.size]? = some (.cells k 77 (0, 0)) ∧ w'.heap[w.heap.size + 1]? = some (.cells c 26 (0, 0)) ∧ w'.heap[w.heap.size + 2]? = some (.cells s 82 (0, 0)) ∧ Below w.heap.size w w' := by
  go_enter Tryz.func31, Tryz.ntmps31
  go_wp2
  go_ret
  exact ⟨rfl, heap_below (heap_below (heap_new _ _ _ rfl) (ext_alloc _ _)) (ext_alloc _ _), heap_below (heap_new _ _ _ (by simp)) (ext_alloc _ _), heap_new _ _ _ (by simp), ext_trans (ext_alloc _ _) (ext_trans (ext_alloc _ _) (ext_alloc _ _))⟩

/-- What a run's iterator leans on. -/
structure RunAt (c : NormC) (s : CSlots) (t : TraceC) (st : TSlots) (w0 : World) (sb kb cb tb g1 g2 : Nat) (w : World) : Prop where
  cir : SeesCir w0 s c
  tr : SeesTr w0 st t
  low : Below w0.heap.size w0 w
  may : MayC c
  small : s.small
  init : t.init.length = c.lats.length
  frames : ∀ k, k < t.frames.length → ((t.frames.getD k []).length : Int) = c.ins
  few : t.frames.length ≤ 256
  feed : w.heap[sb]? = some (.cells #[.slice st.a1 st.n1 st.c1, .int .i64 (st.n2 : Int), .func (.func 60) #[] #[.pointer (some ⟨tb, 0, none⟩)]] 82 (0, 0))
  kind : w.heap[kb]? = some (.cells #[.int .u8 0, .func (.func 56) #[] #[], .func (.func 57) #[] #[]] 77 (0, 0))
  box : w.heap[cb]? = some (.cells #[.int .i64 c.ins, .slice s.a1 s.n1 s.c1, .slice s.a2 s.n2 s.c2, .slice s.a3 s.n3 s.c3, .slice s.a4 s.n4 s.c4, .slice s.a5 s.n5 s.c5] 26 (0, 0))
  tbox : w.heap[tb]? = some (.cells #[.int .i64 t.bad, .slice st.a1 st.n1 st.c1, .slice st.a2 st.n2 st.c2] 30 (0, 0))
  lt1 : g1 < w.heap.size
  lt2 : g2 < w.heap.size
  ne1 : sb ≠ g1 ∧ kb ≠ g1 ∧ cb ≠ g1 ∧ tb ≠ g1
  ne2 : sb ≠ g2 ∧ kb ≠ g2 ∧ cb ≠ g2 ∧ tb ≠ g2
/-- It abides what the rounds may do. -/
theorem RunAt.kpt {c : NormC} {s : CSlots} {t : TraceC} {st : TSlots} {w0 w w' : World} {sb kb cb tb g1 g2 : Nat} (h : RunAt c s t st w0 sb kb cb tb g1 g2 w) (hk : Kpt w0.heap.size 27 g1 g2 w w') : RunAt c s t st w0 sb kb cb tb g1 g2 w' :=
  { h with
    low := h.low.trans hk.low
    feed := hk.mid _ _ _ _ h.feed (by decide) h.ne1.1 h.ne2.1
    kind := hk.mid _ _ _ _ h.kind (by decide) h.ne1.2.1 h.ne2.2.1
    box := hk.mid _ _ _ _ h.box (by decide) h.ne1.2.2.1 h.ne2.2.2.1
    tbox := hk.mid _ _ _ _ h.tbox (by decide) h.ne1.2.2.2 h.ne2.2.2.2
    lt1 := Nat.lt_of_lt_of_le h.lt1 hk.low.size
    lt2 := Nat.lt_of_lt_of_le h.lt2 hk.low.size }
theorem RunAt.below {c : NormC} {s : CSlots} {t : TraceC} {st : TSlots} {w0 w w' : World} {sb kb cb tb g1 g2 : Nat} (h : RunAt c s t st w0 sb kb cb tb g1 g2 w) (hb : Below w.heap.size w w') : RunAt c s t st w0 sb kb cb tb g1 g2 w' := h.kpt (Kpt.below hb h.low.size)

/-- The values of the k-th frame. -/
def varsAt (c : NormC) (t : TraceC) (k : Nat) : List UInt8 := k1.vars c (k1.after c t.init (t.frames.take k)) (t.frames.getD k [])

set_option maxRecDepth 100000 in
set_option maxHeartbeats 3200000 in
theorem run1_iter (c : NormC) (s : CSlots) (t : TraceC) (st : TSlots) (w0 : World) (sb kb cb tb g1 g2 : Nat) (w : World) (hR : RunAt c s t st w0 sb kb cb tb g1 g2 w) :
    Iterates Tryz.prog 58 #[.pointer (some ⟨sb, 0, none⟩), .pointer (some ⟨kb, 0, none⟩), .pointer (some ⟨cb, 0, none⟩)] (ElemAt w.heap.size (varsAt c t)) (Kpt w0.heap.size 27 g1 g2) t.frames.length w := by
  intro l J W hJ hY hW h0
  have hA := hR.below hW
  have HA := Lib.hid hA
  have HY := Lib.hid hY
  have HJ := Lib.hid hJ
  have HW := Lib.hid hW
  have H0 := Lib.hid h0
  have HN : Hid (t.frames.length = st.n2) := hR.tr.s2.n_eq
  have HLT := Lib.hid (And.intro hR.lt1 hR.lt2)
  have p0 : W.cell? ⟨sb, 0, none⟩ = some (.slice st.a1 st.n1 st.c1) := cell_of_block hA.feed 0
  have p1 : W.cell? ⟨sb, 1, none⟩ = some (.int .i64 (st.n2 : Int)) := cell_of_block hA.feed 1
  clear hA hY hJ hW h0 hR
  refine callsIn_of_wp Tryz.func58 rfl trivial ?_ rfl
  simp only [Tryz.ntmps58, List.size_toArray, List.length_cons, List.length_nil, Nat.reduceAdd, Nat.reduceSub, Array.replicate_succ, Array.replicate_zero, List.push_toArray, List.append_toArray, List.nil_append, List.cons_append]
  gi_wp2
  clear p0 p1
  gi_loopw [13, 5, 6, 7, 8] (fun i v5 _ _ _ wr => ∃ (k : Nat) (a : Option Addr) (n cp : Nat), k ≤ st.n2 ∧ i = .int .i64 k ∧ v5 = .slice a n cp ∧ Hid (StOk w0.heap.size w.heap.size wr a n cp ((k1.after c t.init (t.frames.take k)).map bv)) ∧ Hid (J k wr) ∧ Hid (Below w.heap.size w W ∧ Kpt w0.heap.size 27 g1 g2 W wr))
    (fun i _ _ _ _ _ => st.n2 - (intOf i).toNat)
  case atStart =>
    refine ⟨0, st.a1, st.n1, st.c1, Nat.zero_le _, rfl, rfl, ⟨HA.out.tr.s1.below HA.out.low, .inl fun hn b off e => ?_⟩, H0.out, HW.out, Kpt.below (Below.refl _ _) HA.out.low.size⟩
    obtain ⟨b', off', e', hlt, _⟩ := HA.out.tr.s1.real hn
    rw [e] at e'
    cases e'
    exact hlt
  case round =>
    obtain ⟨k, va, vn, vc, hk, rfl, rfl, hS, hJk, hK⟩ := hrel
    have hRA := HA.out.kpt hK.out.2
    by_cases hlt : k < st.n2
    · have hsk := (hRA.tr.s2.below hRA.low).each k (by rw [HN.out]; exact hlt)
      have hal := fun W' (hb : Below wr.heap.size wr W') => aloneAt_any t st.a2 st.n2 st.c2 st.ss (.int .i64 t.bad) (.slice st.a1 st.n1 st.c1) tb k W' (hRA.tr.s2.below (ext_trans hRA.low hb)) (heap_below hRA.tbox hb) hlt
      unfold slV at hal
      obtain ⟨x, hx⟩ : ∃ x : Slc, x = st.ss.getD k slc0 := ⟨_, rfl⟩
      rw [← hx] at hsk hal
      obtain ⟨xa, xn, xc⟩ := x
      simp only at hsk hal
      have hfr := fun W' (hb : Below wr.heap.size wr W') => frame_any c hRA.may s (k1.after c t.init (t.frames.take k)) (t.frames.getD k []) va vn vc xa xn xc W' (hRA.cir.below (ext_trans hRA.low hb)) hRA.small (hS.out.1.below hb) (hsk.below hb) (Kd.after_len k1 c _ _ hRA.init) (hRA.frames k (by rw [HN.out]; exact hlt))
      have hvs : k1.vars c (k1.after c t.init (t.frames.take k)) (t.frames.getD k []) = varsAt c t k := rfl
      have hns : k1.next c (varsAt c t k) = k1.after c t.init (t.frames.take (k + 1)) := by
        rw [← hvs, ← Kd.after_snoc, List.take_add_one, List.getElem?_eq_getElem (by rw [HN.out]; exact hlt)]; simp [List.getD, List.getElem?_eq_getElem (show k < t.frames.length by rw [HN.out]; exact hlt)]
      rw [hvs, hns] at hfr
      obtain ⟨NS, hNS⟩ : ∃ NS, NS = k1.after c t.init (t.frames.take (k + 1)) := ⟨_, rfl⟩
      rw [← hNS] at hfr
      unfold kv1 cirV at hfr
      have p0 : wr.cell? ⟨kb, 0, none⟩ = some (.int .u8 0) := cell_of_block hRA.kind 0
      have p1 : wr.cell? ⟨kb, 1, none⟩ = some (.func (.func 56) #[] #[]) := cell_of_block hRA.kind 1
      have p2 : wr.cell? ⟨kb, 2, none⟩ = some (.func (.func 57) #[] #[]) := cell_of_block hRA.kind 2
      have q0 : wr.cell? ⟨cb, 0, none⟩ = some (.int .i64 c.ins) := cell_of_block hRA.box 0
      have q1 : wr.cell? ⟨cb, 1, none⟩ = some (.slice s.a1 s.n1 s.c1) := cell_of_block hRA.box 1
      have q2 : wr.cell? ⟨cb, 2, none⟩ = some (.slice s.a2 s.n2 s.c2) := cell_of_block hRA.box 2
      have q3 : wr.cell? ⟨cb, 3, none⟩ = some (.slice s.a3 s.n3 s.c3) := cell_of_block hRA.box 3
      have q4 : wr.cell? ⟨cb, 4, none⟩ = some (.slice s.a4 s.n4 s.c4) := cell_of_block hRA.box 4
      have q5 : wr.cell? ⟨cb, 5, none⟩ = some (.slice s.a5 s.n5 s.c5) := cell_of_block hRA.box 5
      have r2 : wr.cell? ⟨sb, 2, none⟩ = some (.func (.func 60) #[] #[.pointer (some ⟨tb, 0, none⟩)]) := cell_of_block hRA.feed 2
      have HAL := Lib.hid hal
      have HFR := Lib.hid hfr
      have HNS := Lib.hid hNS
      have hfew : st.n2 ≤ 256 := by have := hRA.few; have := HN.out; omega
      have W1' : IntKind.i64.wrap ((k : Int) + 1) = (k : Int) + 1 := IntWalk.i64_in _ (by omega)
      clear hal hfr hNS hvs hns hsk hRA hx
      gi_upto_region 4 with fail
      gi_cut [7, 8] from 16 (fun v7 v8 wx => ∃ (fa : Option Addr) (fc : Nat) (ga : Option Addr) (gc : Nat), v7 = .slice fa (varsAt c t k).length fc ∧ v8 = .slice ga NS.length gc ∧ Hid (Row isByte wx wr.heap.size 5 (.slice fa (varsAt c t k).length fc) (varsAt c t k).length ((varsAt c t k).map bv)) ∧ Hid (Row isByte wx wr.heap.size 5 (.slice ga NS.length gc) NS.length (NS.map bv)) ∧ Hid (Below wr.heap.size wr wx))
      case first =>
        gi_region_with (first
          | (refine ⟨trivial, rfl, ?_⟩; gi_at_call 60; refine (callsIn_wide.2 (HAL.out _ (by first | with_reducible exact Below.refl _ wr | with_reducible exact (Below.refl _ wr).drew))).mono ?_; rintro e w' ⟨rfl, rfl⟩)
          | (refine ⟨trivial, rfl, ?_⟩; gi_at_call 59; refine (callsIn_wide.2 (HFR.out _ (by first | with_reducible exact Below.refl _ wr | with_reducible exact (Below.refl _ wr).drew))).mono ?_; rintro e ws ⟨fa, fc, ga, gc, rfl, fr, gr, fb⟩))
        all_goals gi_wp2
        all_goals go_meet
        all_goals exact ⟨_, _, _, _, rfl, rfl, fr, gr, below_undrew fb⟩
      case rest =>
        obtain ⟨fa, fc, ga, gc, rfl, rfl, fr, gr, fb⟩ := hcut
        have hle : w.heap.size ≤ wr.heap.size := Nat.le_trans hK.out.1.size hK.out.2.low.size
        obtain ⟨fn, tmps, assign, body, hy, hRd⟩ := HY.out k #[.slice fa (varsAt c t k).length fc] wc (by rw [HN.out]; exact hlt) (HJ.out k wr wc hJk.out fb.out) ⟨fa, fc, rfl, fr.out.base_le hle⟩
        have HS2 : Hid (StOk w0.heap.size w.heap.size wc ga NS.length gc (NS.map bv)) := ⟨(row_sees_slice gr.out).2, .inr (gr.out.base_le hle)⟩
        have HK2 : Hid (Kpt w0.heap.size 27 g1 g2 W wc) := hK.out.2.trans (Kpt.below fb.out (Nat.le_trans HA.out.low.size hK.out.2.low.size))
        have HW1 := Lib.hid hK.out.1
        clear fr gr fb hle HAL HFR p0 p1 p2 q0 q1 q2 q3 q4 q5 r2 hK hS hJk
        gi_wp2
        refine ⟨rfl, hRd.mono ?_⟩
        rintro e W4 ⟨rfl, hJ4, hk4⟩
        have HS3 := Lib.hid (HS2.out.kpt hk4 (by decide) HLT.out.1 HLT.out.2)
        have HK3 := Lib.hid (HK2.out.trans hk4)
        rw [HNS.out] at HS3
        have HJ4 := Lib.hid hJ4
        clear hJ4 hk4 HS2 HK2 hy hRd
        gi_wp2
        go_roundw
        case rel => exact ⟨k + 1, ga, _, gc, by omega, by go_num, rfl, (by rw [HNS.out]; exact HS3.out), HJ4.out, HW1.out, HK3.out⟩
        case measure => simp [intOf]; omega
    · obtain rfl : st.n2 = k := by omega
      gi_wp2
      go_end0
      exact ⟨⟨_, rfl⟩, by rw [HN.out]; exact hJk.out⟩
end Go.Proofs.YtgplkpfdbiapaaaGreatDoor
/- sim.Surely, by its contract. -/
namespace Go.Proofs.YtgplkpfdbiapaaaGreatDoor
open Go Go.RowKit Go.Joins

/-- What a trace that fits is. -/
structure FitsC (c : NormC) (t : TraceC) : Prop where
  may : MayC c
  pos : 0 ≤ t.bad
  bad : t.bad.toNat < c.bads.length
  init : t.init.length = c.lats.length
  inits : ∀ u ∈ t.init, u.toNat ≤ 2
  resets : ∀ i, i < c.lats.length → (c.lats.getD i (0, 0)).2 = 2 ∨ (t.init.getD i 0).toNat = (c.lats.getD i (0, 0)).2
  one : 1 ≤ t.frames.length
  few : t.frames.length ≤ 256
  frames : ∀ k, k < t.frames.length → ((t.frames.getD k []).length : Int) = c.ins
  values : ∀ f ∈ t.frames, ∀ u ∈ f, u.toNat ≤ 2
theorem fits_iff {c : NormC} {t : TraceC} : fitsS c t = true ↔ FitsC c t := by
  unfold fitsS valsOk initOk
  simp only [Bool.and_eq_true, Bool.not_eq_true', Bool.or_eq_false_iff, decide_eq_true_eq, decide_eq_false_iff_not, List.any_eq_false, List.all_eq_true, List.mem_range, Bool.or_eq_true, mayC_iff]
  constructor
  · rintro ⟨h1, ⟨h2, h3⟩, ⟨h4, h5⟩, h6, h7, h8, h9⟩
    refine ⟨h1, by omega, by omega, by omega, fun u hu => by have := h5 u hu; omega, fun i hi => h6 i hi, h7, h8, fun k hk => (h9 _ (getD_mem hk)).1, fun f hf u hu => by have := (h9 f hf).2 u hu; omega⟩
  · intro h
    refine ⟨h.may, ⟨by have := h.pos; omega, by have := h.bad; have := h.pos; omega⟩, ⟨by have := h.init; omega, fun u hu => by have := h.inits u hu; omega⟩, h.resets, h.one, h.few, fun f hf => ⟨?_, fun u hu => by have := h.values f hf u hu; omega⟩⟩
    obtain ⟨k, hk, he⟩ := List.getElem_of_mem hf
    have := h.frames k hk
    simpa [List.getD, List.getElem?_eq_getElem hk, he] using this

theorem keep63 {w : World} {x y : Nat} {a0 a1 a2 a3 a4 a5 b0 b1 b2 : Value} {T1 T2 : TypeId} (hx : w.heap[x]? = some (.cells #[a0, a1, a2, a3, a4, a5] T1 (0, 0))) (hy : w.heap[y]? = some (.cells #[b0, b1, b2] T2 (0, 0))) :
    w.cell? ⟨x, 0, none⟩ = some a0 ∧ w.cell? ⟨x, 1, none⟩ = some a1 ∧ w.cell? ⟨x, 2, none⟩ = some a2 ∧ w.cell? ⟨x, 3, none⟩ = some a3 ∧ w.cell? ⟨x, 4, none⟩ = some a4 ∧ w.cell? ⟨x, 5, none⟩ = some a5 ∧ w.cell? ⟨y, 0, none⟩ = some b0 ∧ w.cell? ⟨y, 1, none⟩ = some b1 ∧ w.cell? ⟨y, 2, none⟩ = some b2 :=
  ⟨cell_of_block hx 0, cell_of_block hx 1, cell_of_block hx 2, cell_of_block hx 3, cell_of_block hx 4, cell_of_block hx 5, cell_of_block hy 0, cell_of_block hy 1, cell_of_block hy 2⟩

/-- What Surely answers. -/
def surelyE (c : NormC) (t : TraceC) : Ending := if fitsS c t = true then .returned (.tuple #[bv (k1.verdict c t.bad.toNat t.init t.frames), .int .i64 0]) else .returned (.tuple #[.int .u8 0, .int .i64 2])

end Go.Proofs.YtgplkpfdbiapaaaGreatDoor
/- The reference's bit, at, May, with, Not1, And1 for words, by their contracts. -/
namespace Go.Proofs.YtgplkpfdbiapaaaGreatDoor
open Go Go.RowKit Go.Joins

theorem rshr (x k : Nat) : ((x : Int) / 2 ^ k).tmod 2 = ((x.testBit k).toNat : Int) := by
  have e : (x : Int) / 2 ^ k = ((x / 2 ^ k : Nat) : Int) := by
    rw [Int.natCast_ediv]
    norm_cast
  rw [e, Nat.testBit_eq_decide_div_mod_eq]
  obtain ⟨y, hy⟩ : ∃ y, y = x / 2 ^ k := ⟨_, rfl⟩
  rw [← hy]
  by_cases h1 : y % 2 = 1
  · rw [h1]
    rw [Int.tmod_eq_emod_of_nonneg (by omega)]
    show (y : Int) % 2 = 1
    omega
  · have h0 : y % 2 = 0 := by omega
    rw [h0]
    rw [Int.tmod_eq_emod_of_nonneg (by omega)]
    show (y : Int) % 2 = 0
    omega

set_option maxRecDepth 100000 in
theorem rnot1_any (v : Nat) (w : World) : Calls Tryz.prog 27 #[.int .u8 (v : Int)] w fun e w' => e = .returned (.int .u8 (not1 v : Nat)) ∧ w' = w := by
  go_enter Tryz.func27, Tryz.ntmps27
  by_cases h0 : v = 0
  · subst h0
    go_wp2
    go_ret
    exact ⟨rfl, rfl⟩
  · have e0 : ((v : Int) == 0) = false := by simp; omega
    by_cases h1 : v = 1
    · subst h1
      go_wp2
      go_ret
      exact ⟨rfl, rfl⟩
    · have e1 : ((v : Int) == 1) = false := by simp; omega
      have HE : Hid (not1 v = 2) := by show _ = _; unfold not1; rw [if_neg h0, if_neg h1]
      clear h0 h1
      go_wp2
      go_ret
      exact ⟨by rw [HE.out]; rfl, rfl⟩

set_option maxRecDepth 100000 in
theorem rand1_any (a b : Nat) (w : World) : Calls Tryz.prog 50 #[.int .u8 (a : Int), .int .u8 (b : Int)] w fun e w' => e = .returned (.int .u8 (and1 a b : Nat)) ∧ w' = w := by
  go_enter Tryz.func50, Tryz.ntmps50
  by_cases h0 : a = 0
  · subst h0
    go_wp2
    go_ret
    exact ⟨rfl, rfl⟩
  · have e0 : ((a : Int) == 0) = false := by simp; omega
    by_cases h1 : b = 0
    · subst h1
      have HE : Hid (and1 a 0 = 0) := by show _ = _; unfold and1; simp
      clear h0
      go_wp2
      go_ret
      exact ⟨by rw [HE.out]; rfl, rfl⟩
    · have e1 : ((b : Int) == 0) = false := by simp; omega
      by_cases h2 : a = 1
      · subst h2
        by_cases h3 : b = 1
        · subst h3
          go_wp2
          go_ret
          exact ⟨rfl, rfl⟩
        · have e3 : ((b : Int) == 1) = false := by simp; omega
          have HE : Hid (and1 1 b = 2) := by show _ = _; unfold and1; simp [h1, h3]
          clear h0 h1 h3
          go_wp2
          go_ret
          exact ⟨by rw [HE.out]; rfl, rfl⟩
      · have e2 : ((a : Int) == 1) = false := by simp; omega
        have HE : Hid (and1 a b = 2) := by show _ = _; unfold and1; simp [h0, h1, h2]
        clear h0 h1 h2
        go_wp2
        go_ret
        exact ⟨by rw [HE.out]; rfl, rfl⟩

/-- The place has a bit. -/
def hasW (a : W2) (j : Nat) : Bool := a.1.testBit j || a.2.testBit j
theorem mayW_of {a : W2} (ha : a.in) (h : ∀ j, j < 64 → hasW a j = true) : mayW a = true := by
  rw [mayW_iff ha]
  intro j hj
  have := h j hj
  unfold hasW at this
  simpa using this
theorem mayW_not {a : W2} (ha : a.in) {j : Nat} (hj : j < 64) (h : hasW a j = false) : mayW a = false := by
  cases hm : mayW a with
  | false => rfl
  | true =>
    have := (mayW_iff ha).1 hm j hj
    unfold hasW at h
    simp only [Bool.or_eq_false_iff] at h
    rw [h.1, h.2] at this
    simp at this

end Go.Proofs.YtgplkpfdbiapaaaGreatDoor
namespace Go.Proofs.YtgplkpfdbiapaaaGreatDoor
open Go Go.RowKit Go.Joins

theorem isvalue_any (v : Nat) (w : World) : Calls Tryz.prog 39 #[.int .u8 (v : Int)] w fun e w' => e = .returned (.bool (decide (v ≤ 2))) ∧ w' = w := by
  have e : decide ((v : Int) ≤ 2) = decide (v ≤ 2) := decide_eq_decide.2 (by omega)
  have E := Lib.hid e
  clear e
  go_enter Tryz.func39, Tryz.ntmps39
  go_wp2
  go_ret
  exact ⟨congrArg (fun b => Ending.returned (.bool b)) E.out, rfl⟩
set_option maxRecDepth 100000 in
theorem fine_any (many : Int) (l : List UInt8) (a : Option Addr) (n c : Nat) (hn : n ≤ 1048576) (w : World) (h : Sees w a n c (l.map bv)) :
    Calls Tryz.prog 49 #[.slice a n c, .int .i64 many] w fun e w' => e = .returned (.bool (valsOk l many)) ∧ w = w' := by
  have hl := h.lenMap
  obtain ⟨q, hq⟩ : ∃ q, q = valsOk l many := ⟨_, rfl⟩
  have NO : Hid (∀ k, k < n → 2 < (l.getD k 0).toNat → q = false) := fun k hk hb => by
    rw [hq]; unfold valsOk
    rw [show l.any (fun u => decide (2 < u.toNat)) = true from List.any_eq_true.2 ⟨_, getD_mem (by rw [hl]; exact hk), decide_eq_true hb⟩]; simp
  have YES : Hid ((∀ k, k < n → ¬ 2 < (l.getD k 0).toNat) → q = decide ((n : Int) = many)) := fun hh => by
    rw [hq]; unfold valsOk
    rw [hl, show l.any (fun u => decide (2 < u.toNat)) = false from any_none (all_of_getD (d := 0) (fun j hj => decide_eq_false (hh j (by rw [← hl]; exact hj))))]; simp
  have HS := Lib.hid h
  have HL := Lib.hid hl
  rw [← hq]
  clear hq h hl
  go_enter Tryz.func49, Tryz.ntmps49
  go_wp2
  go_loop [5] (fun i => ∃ k : Nat, k ≤ n ∧ i = .int .i64 k ∧ Hid (∀ j, j < k → ¬ 2 < (l.getD j 0).toNat)) (fun i => n - (intOf i).toNat)
  case atStart => exact ⟨0, Nat.zero_le _, rfl, fun j hj => absurd hj (by omega)⟩
  case round =>
    obtain ⟨k, hk, rfl, hno⟩ := hrel
    by_cases hlt : k < n
    · obtain ⟨b, off, rfl, hbw⟩ := HS.out.addr (by omega)
      have hcx := HS.out.byte k hlt
      have W1 : IntKind.i64.wrap ((k : Int) + 1) = (k : Int) + 1 := IntWalk.i64_in _ (by omega)
      obtain ⟨u, hu⟩ : ∃ u, u = (l.getD k 0).toNat := ⟨_, rfl⟩
      have hcx2 : w.cell? ⟨b, off + k, none⟩ = some (.int .u8 (u : Int)) := by rw [hu]; exact hcx
      have HU := Lib.hid hu
      clear hcx hu
      by_cases hq : 2 < u
      · have e1 : decide ((2 : Int) < (u : Int)) = true := by simp; omega
        have HQ : Hid (q = false) := NO.out k hlt (by rw [← HU.out]; exact hq)
        go_wp2
        go_ret
        exact ⟨by rw [HQ.out]; rfl, rfl⟩
      · have e1 : decide ((2 : Int) < (u : Int)) = false := by simp; omega
        have HQ := Lib.hid hq
        clear hq
        go_wp2
        go_round
        case rel =>
          refine ⟨k + 1, by omega, by go_num, fun j hj => ?_⟩
          rcases Nat.lt_or_ge j k with h | h
          · exact hno.out j h
          · have : j = k := by omega
            subst this
            rw [← HU.out]; exact HQ.out
        case measure => simp [intOf]; omega
    · have hkn : k = n := by omega
      subst hkn
      have Y := Lib.hid (YES.out hno.out)
      by_cases hq : (k : Int) = many
      · have e1 : ((k : Int) == many) = true := by simpa using hq
        have HQ := Lib.hid hq
        clear hq
        go_wp2
        go_ret
        exact ⟨by rw [Y.out]; have := HQ.out; simp [this], rfl⟩
      · have e1 : ((k : Int) == many) = false := by simpa using hq
        have e2 : ((k : Int) = many) = False := by simpa using hq
        have HQ := Lib.hid hq
        clear hq
        go_wp2
        go_ret
        exact ⟨by rw [Y.out]; have := HQ.out; simp [this], rfl⟩

/-- What is told of a literal. -/
def valueL (vars : List UInt8) (lit : Nat) : UInt8 := if lit / 2 < vars.length ∧ (vars.getD (lit / 2) 0).toNat ≤ 2 then k1.val vars lit else 2

set_option maxRecDepth 100000 in
theorem simvalue_any (vars : List UInt8) (a : Option Addr) (n c lit : Nat) (w : World) (h : Sees w a n c (vars.map bv)) (h2 : lit < 4294967296) :
    Calls Tryz.prog 20 #[.slice a n c, .int .u32 lit] w fun e w' => e = .returned (bv (valueL vars lit)) ∧ Below w.heap.size w w' := by
  have hl := h.lenMap
  have HV := Lib.hid (fun (h1 : lit / 2 < n) W (hb : Below w.heap.size w W) => value_any vars a n c lit W (h.below hb) h1 h2)
  have HSG := Lib.hid single_any
  have D1 : (lit : Int) / 2 = ((lit / 2 : Nat) : Int) := by omega
  have hE : ∀ d, d = lit / 2 → valueL vars lit = if d < n ∧ (vars.getD d 0).toNat ≤ 2 then k1.val vars lit else 2 := fun d hd => by unfold valueL; rw [hl, hd]
  obtain ⟨d, hd⟩ : ∃ d, d = lit / 2 := ⟨_, rfl⟩
  have HE := Lib.hid (hE d hd)
  rw [← hd] at D1 HV
  have hd32 : d < 4294967296 := by omega
  have U1 : IntKind.u32.wrap (d : Int) = (d : Int) := IntWalk.u32_in _ (by omega)
  have U2 : IntKind.i64.wrap (d : Int) = (d : Int) := IntWalk.i64_in _ (by omega)
  clear hE hl hd
  have HS := Lib.hid h
  obtain ⟨V, hV⟩ : ∃ V, V = valueL vars lit := ⟨_, rfl⟩
  rw [← hV] at HE ⊢
  obtain ⟨V2, hV2⟩ : ∃ V, V = k1.val vars lit := ⟨_, rfl⟩
  rw [← hV2] at HE HV
  clear hV hV2 h h2 hd32
  unfold kv1 at HSG HV
  go_enter Tryz.func20, Tryz.ntmps20
  by_cases h1 : d < n
  · obtain ⟨b, off, rfl, hbw⟩ := HS.out.addr (by omega)
    have hcx := HS.out.byte d h1
    obtain ⟨x, hx⟩ : ∃ x, x = (vars.getD d 0).toNat := ⟨_, rfl⟩
    rw [← hx] at hcx HE
    have hI : (d : Int) < (n : Int) := by omega
    have hI2 : ¬ (n : Int) ≤ (d : Int) := by omega
    have HI := Lib.hid (isvalue_any x)
    have HV2 := Lib.hid (HV.out h1)
    clear hx
    by_cases h3 : x ≤ 2
    · have e3 : decide (x ≤ 2) = true := decide_eq_true h3
      rw [e3] at HI
      have HF : Hid (V = V2) := by show _ = _; rw [HE.out, if_pos ⟨h1, h3⟩]
      clear e3 h3 HE
      go_wp2_with fail
      refine (HI.out _).mono ?_
      rintro e w1 ⟨rfl, rfl⟩
      go_wp2_with fail
      refine (HSG.out _).mono ?_
      rintro e w2 ⟨rfl, hb⟩
      have HB := Lib.hid hb
      clear hb hcx
      go_wp2_with fail
      refine (HV2.out _ HB.out).mono ?_
      rintro e w3 ⟨rfl, hb⟩
      have HB2 := Lib.hid (ext_trans HB.out hb)
      clear hb
      go_wp2
      go_ret
      exact ⟨by rw [HF.out]; rfl, HB2.out⟩
    · have e3 : decide (x ≤ 2) = false := decide_eq_false h3
      rw [e3] at HI
      have HF : Hid (V = 2) := by show _ = _; rw [HE.out, if_neg (fun h => h3 h.2)]
      clear e3 h3 HE
      go_wp2_with fail
      refine (HI.out _).mono ?_
      rintro e w1 ⟨rfl, rfl⟩
      go_wp2
      go_ret
      exact ⟨by rw [HF.out]; rfl, Below.refl _ _⟩
  · have hI2 : (n : Int) ≤ (d : Int) := by omega
    have HF : Hid (V = 2) := by show _ = _; rw [HE.out, if_neg (fun h => h1 h.1)]
    clear h1 HE
    go_wp2
    go_ret
    exact ⟨by rw [HF.out]; rfl, Below.refl _ _⟩

set_option maxRecDepth 100000 in
theorem refvalue_any (vars : List UInt8) (a : Option Addr) (n c lit : Nat) (w : World) (h : Sees w a n c (vars.map bv)) (h2 : lit < 4294967296) :
    Calls Tryz.prog 12 #[.slice a n c, .int .u32 lit] w fun e w' => e = .returned (bv (valueL vars lit)) ∧ w' = w := by
  have hl := h.lenMap
  have D1 : Int.tdiv (lit : Int) 2 = ((lit / 2 : Nat) : Int) := by rw [Int.tdiv_eq_ediv_of_nonneg (by omega)]; omega
  have D2 : Int.tmod (lit : Int) 2 = ((lit % 2 : Nat) : Int) := by rw [Int.tmod_eq_emod_of_nonneg (by omega)]; omega
  have hE : ∀ d m, d = lit / 2 → m = lit % 2 → valueL vars lit = if d < n ∧ (vars.getD d 0).toNat ≤ 2 then (if m = 1 then k1.nt (vars.getD d 0) else vars.getD d 0) else 2 := fun d m hd hm => by unfold valueL; rw [hl, hd, hm]; rfl
  obtain ⟨d, hd⟩ : ∃ d, d = lit / 2 := ⟨_, rfl⟩
  obtain ⟨m, hm⟩ : ∃ m, m = lit % 2 := ⟨_, rfl⟩
  have HE := Lib.hid (hE d m hd hm)
  rw [← hd] at D1
  rw [← hm] at D2
  have hd32 : d < 4294967296 := by omega
  have hm2 : m < 2 := by omega
  have U1 : IntKind.u32.wrap (d : Int) = (d : Int) := IntWalk.u32_in _ (by omega)
  have U2 : IntKind.i64.wrap (d : Int) = (d : Int) := IntWalk.i64_in _ (by omega)
  have U3 : IntKind.u32.wrap (m : Int) = (m : Int) := IntWalk.u32_in _ (by omega)
  clear hE hl hd hm
  have HS := Lib.hid h
  obtain ⟨V, hV⟩ : ∃ V, V = valueL vars lit := ⟨_, rfl⟩
  rw [← hV] at HE ⊢
  clear hV h h2 hd32
  go_enter Tryz.func12, Tryz.ntmps12
  by_cases h1 : d < n
  · obtain ⟨b, off, rfl, hbw⟩ := HS.out.addr (by omega)
    have hcx := HS.out.byte d h1
    obtain ⟨u, hu⟩ : ∃ u, u = vars.getD d 0 := ⟨_, rfl⟩
    rw [← hu] at hcx HE
    obtain ⟨x, hx⟩ : ∃ x, x = u.toNat := ⟨_, rfl⟩
    rw [← hx] at hcx HE
    have hI : (d : Int) < (n : Int) := by omega
    have hI2 : ¬ (n : Int) ≤ (d : Int) := by omega
    have HN := Lib.hid (rnot1_any x)
    by_cases h3 : x ≤ 2
    · have e3 : decide ((2 : Int) < (x : Int)) = false := by simp; omega
      have HF : Hid (V = if m = 1 then k1.nt u else u) := by show _ = _; rw [HE.out, if_pos ⟨h1, h3⟩]
      have HU := Lib.hid hx
      clear h3 HE hu hx
      by_cases h4 : m = 1
      · subst h4
        go_wp2_with fail
        refine (HN.out _).mono ?_
        rintro e w1 ⟨rfl, rfl⟩
        go_wp2
        go_ret
        exact ⟨by rw [HF.out]; simp only [if_true]; rw [bv_not, ← HU.out]; rfl, rfl⟩
      · have e1 : ((m : Int) == 1) = false := by simp; omega
        have H4 := Lib.hid h4
        clear h4 hm2
        go_wp2
        go_ret
        exact ⟨by rw [HF.out, if_neg H4.out]; show _ = Ending.returned (.int .u8 ((u.toNat : Nat) : Int)); rw [← HU.out]; rfl, rfl⟩
    · have e3 : decide ((2 : Int) < (x : Int)) = true := by simp; omega
      have HF : Hid (V = 2) := by show _ = _; rw [HE.out, if_neg (fun h => h3 h.2)]
      clear h3 HE hu hx
      go_wp2
      go_ret
      exact ⟨by rw [HF.out]; rfl, rfl⟩
  · have hI2 : (n : Int) ≤ (d : Int) := by omega
    have HF : Hid (V = 2) := by show _ = _; rw [HE.out, if_neg (fun h => h1 h.1)]
    clear h1 HE
    go_wp2
    go_ret
    exact ⟨by rw [HF.out]; rfl, rfl⟩
end Go.Proofs.YtgplkpfdbiapaaaGreatDoor
