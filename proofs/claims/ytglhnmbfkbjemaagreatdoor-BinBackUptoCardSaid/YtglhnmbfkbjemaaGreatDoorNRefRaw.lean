/- inquestref03.Raw, by its contract. -/
import Derived.Test.YtglhnmbfkbjemaaGreatDoorBkQ
import Derived.Test.YtglhnmbfkbjemaaGreatDoorBkK
import Derived.Test.YtglhnmbfkbjemaaGreatDoorBkN
import Derived.Test.YtglhnmbfkbjemaaGreatDoorNOwns
import Derived.Deep.RegionHeld3
namespace Go.Proofs.YtglhnmbfkbjemaaGreatDoor
open Go Go.RowKit Go.Joins
structure RFin (w3 : World) (RB m : Nat) (v1 v2 v3 v4 v5 v6 : Value) (is : List Nat) (ls gs : List Tri) (o3 o4 o5 : List Nat) (w : World) : Prop where
  var : w.heap[RB]? = some (.cells #[.int .u32 m, v1, v2, v3, v4, v5, v6] 39 (0, 0))
  f1 : w.ownsRow w3.heap.size 35 1 v1 is.length (is.map nv32)
  f2 : own3 55 w w3.heap.size v2 ls
  f3 : w.ownsRow w3.heap.size 35 1 v3 o3.length (o3.map nv32)
  f4 : w.ownsRow w3.heap.size 35 1 v4 o4.length (o4.map nv32)
  f5 : w.ownsRow w3.heap.size 35 1 v5 o5.length (o5.map nv32)
  f6 : own3 58 w w3.heap.size v6 gs
  but : But2 w3.heap.size RB RB w3 w
theorem RInv.toFin {w3 : World} {RB m : Nat} {v1 v2 v6 : Value} {is : List Nat} {ls gs : List Tri} {w : World} (h : RInv w3 RB m v1 v2 (.slice none 0 0) (.slice none 0 0) (.slice none 0 0) v6 is ls gs w) : RFin w3 RB m v1 v2 (.slice none 0 0) (.slice none 0 0) (.slice none 0 0) v6 is ls gs [] [] [] w :=
  ⟨h.var, h.f1, h.f2, ownsN_nil _ _ _ _, ownsN_nil _ _ _ _, ownsN_nil _ _ _ _, h.f6, h.but⟩
theorem RFin.below {w3 : World} {RB m : Nat} {v1 v2 v3 v4 v5 v6 : Value} {is : List Nat} {ls gs : List Tri} {o3 o4 o5 : List Nat} {w w' : World} (h : RFin w3 RB m v1 v2 v3 v4 v5 v6 is ls gs o3 o4 o5 w) (hb : Below w.heap.size w w') : RFin w3 RB m v1 v2 v3 v4 v5 v6 is ls gs o3 o4 o5 w' :=
  ⟨heap_below h.var hb, ownsN_below h.f1 hb, own3_below h.f2 hb, ownsN_below h.f3 hb, ownsN_below h.f4 hb, ownsN_below h.f5 hb, own3_below h.f6 hb, h.but.trans (But2.of_below (hb.mono h.but.size))⟩
theorem nbut_set {base U : Nat} {w3 w : World} (h1 : But2 base U U w3 w) (j : Nat) (u : Value) : But2 base U U w3 (w.setCell ⟨U, j, .none⟩ u) := by
  refine ⟨h1.os, h1.tape, h1.output, by have := h1.size; simpa using this, fun D d1 d2 d3 => ?_⟩
  rw [Below.heap_setCell w ⟨U, j, .none⟩ u D d2]
  exact h1.block D d1 d2 d3
section
variable {w3 : World} {RB m : Nat} {v1 v2 v3 v4 v5 v6 v' : Value} {is : List Nat} {ls gs : List Tri} {o3 o4 o5 o' : List Nat} {w : World}
theorem RFin.put3 (h : RFin w3 RB m v1 v2 v3 v4 v5 v6 is ls gs o3 o4 o5 w) (hRB : RB < w3.heap.size) (hr : w.ownsRow w3.heap.size 35 1 v' o'.length (o'.map nv32)) : RFin w3 RB m v1 v2 v' v4 v5 v6 is ls gs o' o4 o5 (w.setCell ⟨RB, 3, .none⟩ v') :=
  ⟨by simpa using block_setCell h.var (i := 3) v', owns_setR h.f1 hRB _, owns_setR h.f2 hRB _, owns_setR hr hRB _, owns_setR h.f4 hRB _, owns_setR h.f5 hRB _, owns_setR h.f6 hRB _, nbut_set h.but 3 v'⟩
theorem RFin.put4 (h : RFin w3 RB m v1 v2 v3 v4 v5 v6 is ls gs o3 o4 o5 w) (hRB : RB < w3.heap.size) (hr : w.ownsRow w3.heap.size 35 1 v' o'.length (o'.map nv32)) : RFin w3 RB m v1 v2 v3 v' v5 v6 is ls gs o3 o' o5 (w.setCell ⟨RB, 4, .none⟩ v') :=
  ⟨by simpa using block_setCell h.var (i := 4) v', owns_setR h.f1 hRB _, owns_setR h.f2 hRB _, owns_setR h.f3 hRB _, owns_setR hr hRB _, owns_setR h.f5 hRB _, owns_setR h.f6 hRB _, nbut_set h.but 4 v'⟩
theorem RFin.put5 (h : RFin w3 RB m v1 v2 v3 v4 v5 v6 is ls gs o3 o4 o5 w) (hRB : RB < w3.heap.size) (hr : w.ownsRow w3.heap.size 35 1 v' o'.length (o'.map nv32)) : RFin w3 RB m v1 v2 v3 v4 v' v6 is ls gs o3 o4 o' (w.setCell ⟨RB, 5, .none⟩ v') :=
  ⟨by simpa using block_setCell h.var (i := 5) v', owns_setR h.f1 hRB _, owns_setR h.f2 hRB _, owns_setR h.f3 hRB _, owns_setR h.f4 hRB _, owns_setR hr hRB _, owns_setR h.f6 hRB _, nbut_set h.but 5 v'⟩
end
def RefRawPost (c : NormC) (w : World) (e : Ending) (w' : World) : Prop :=
  Below w.heap.size w w' ∧ ((mayC c = true ∧ ∃ s, e = .returned (.tuple #[rawV (varsN c) s, .int .i64 0]) ∧ SeesRaw w' s (rawS c)) ∨
    (mayC c = false ∧ e = .returned (.tuple #[zeroRawV, .int .i64 2])))
set_option maxRecDepth 100000 in
set_option maxHeartbeats 6400000 in
theorem refraw_any (c : NormC) (s : CSlots) (w : World) (h : SeesCir w s c) (hs : s.small) (hlo : -9223372036854775808 ≤ c.ins) (hhi : c.ins < 9223372036854775808) (hw : Wide c) :
    Calls Tryz.prog 10 #[cirV c.ins s] w (RefRawPost c w) := by
  obtain ⟨i0, hi, hz0, hz1, hz2⟩ := info_parts info_u32
  have HMAY := Lib.hid (fun W (hb : Below w.heap.size w W) => refmay3_any c s W (h.below hb) hs hlo hhi hw)
  have HVARS := Lib.hid (fun W (hb : Below w.heap.size w W) => refvars_any c s W (h.below hb) hs hlo hhi hw)
  have YES := Lib.hid (fun (hm : mayC c = true) (i : Nat) (h0 : (i : Int) = c.ins) => varsC_yes hm h0 h.s1.1 h.s2.1)
  have POS := Lib.hid (fun (hm : mayC c = true) => (mayC_iff.1 hm).pos)
  obtain ⟨a1, n1, c1, a2, n2, c2, a3, n3, c3, a4, n4, c4, a5, n5, c5⟩ := s
  obtain ⟨hs1, hs2, hs3, hs4, hs5⟩ := hs
  simp only at hs1 hs2 hs3 hs4 hs5
  have L1 : Hid (c.lats.length = n1) := h.s1.1
  have L2 : Hid (c.gates.length = n2) := h.s2.1
  have L3 : Hid (c.outs.length = n3) := h.s3.lenMap
  have L4 : Hid (c.bads.length = n4) := h.s4.lenMap
  have L5 : Hid (c.cons.length = n5) := h.s5.lenMap
  obtain ⟨z, hz⟩ : ∃ z, z = c.ins := ⟨_, rfl⟩
  obtain ⟨v, hv⟩ : ∃ v, v = varsC c := ⟨_, rfl⟩
  obtain ⟨q, hq⟩ : ∃ q, q = mayC c := ⟨_, rfl⟩
  rw [← hz]
  rw [← hz, ← hq] at HMAY
  rw [← hz, ← hv] at HVARS
  rw [← hz, ← hv, ← hq] at YES
  rw [← hz, ← hq] at POS
  have HZ := Lib.hid hz
  have HQ := Lib.hid hq
  have HVC := Lib.hid hv
  have HW := Lib.hid hw
  have HS := Lib.hid h
  clear hz hv hq h hlo hhi hw
  unfold cirV at *
  go_enter Tryz.func10, Tryz.ntmps10
  go_upto_region 1 with fail
  generalize hW : World.alloc (World.alloc w _) _ = W0
  have hb : Below w.heap.size w W0 := by subst hW; exact ext_trans (ext_alloc _ _) (ext_alloc _ _)
  have hx : W0.heap[w.heap.size]? = some (.cells #[.int .i64 z, .slice a1 n1 c1, .slice a2 n2 c2, .slice a3 n3 c3, .slice a4 n4 c4, .slice a5 n5 c5] 26 (0, 0)) := by subst hW; exact heap_below (heap_new _ _ _ rfl) (ext_alloc _ _)
  have hr : W0.heap[w.heap.size + 1]? = some (.cells #[.int .u32 0, .slice none 0 0, .slice none 0 0, .slice none 0 0, .slice none 0 0, .slice none 0 0, .slice none 0 0] 39 (0, 0)) := by subst hW; exact heap_new _ _ _ (by simp)
  have HB := Lib.hid hb
  have HX := Lib.hid hx
  have HR := Lib.hid hr
  clear hW hb hx hr
  have p0 := cell_of_block HX.out 0
  have p1 := cell_of_block HX.out 1
  have p2 := cell_of_block HX.out 2
  have p3 := cell_of_block HX.out 3
  have p4 := cell_of_block HX.out 4
  have p5 := cell_of_block HX.out 5
  go_wp2_with fail
  refine (HMAY.out W0 HB.out).mono ?_
  rintro e W1 ⟨rfl, hb⟩
  have HX1 := Lib.hid (heap_below HX.out hb)
  have HR1 := Lib.hid (heap_below HR.out hb)
  have HB1 := Lib.hid (ext_trans HB.out hb)
  clear hb p0 p1 p2 p3 p4 p5 HMAY HX HR HB
  cases q with
  | false =>
    have hzr := HR1.out
    have z0 := cell_of_block hzr 0
    have z1 := cell_of_block hzr 1
    have z2 := cell_of_block hzr 2
    have z3 := cell_of_block hzr 3
    have z4 := cell_of_block hzr 4
    have z5 := cell_of_block hzr 5
    have z6 := cell_of_block hzr 6
    have y0 := unfrozen_of_block hzr 0
    have y1 := unfrozen_of_block hzr 1
    have y2 := unfrozen_of_block hzr 2
    have y3 := unfrozen_of_block hzr 3
    have y4 := unfrozen_of_block hzr 4
    have y5 := unfrozen_of_block hzr 5
    have y6 := unfrozen_of_block hzr 6
    clear hzr
    go_wp2
    refine bodyPost_ret (v := .tuple #[zeroRawV, .int .i64 2]) ?_ rfl ?_
    · have h6 := raw_set HR1.out rfl (.int .u32 0) (.slice none 0 0) (.slice none 0 0) (.slice none 0 0) (.slice none 0 0) (.slice none 0 0) (.slice none 0 0)
      have g0 := cell_of_block h6 0
      have g1 := cell_of_block h6 1
      have g2 := cell_of_block h6 2
      have g3 := cell_of_block h6 3
      have g4 := cell_of_block h6 4
      have g5 := cell_of_block h6 5
      have g6 := cell_of_block h6 6
      simp [results, Tryz.results10, go_sem, g0, g1, g2, g3, g4, g5, g6]
      rfl
    · exact ⟨set7 (w.heap.size + 1) (Nat.le_succ _) HB1.out, Or.inr ⟨HQ.out.symm, rfl⟩⟩
  | true =>
  obtain ⟨i, hie⟩ := Int.eq_ofNat_of_zero_le (POS.out rfl)
  have hy := YES.out rfl i hie.symm
  have hi16 : i + n1 + n2 ≤ 16384 := hy.2
  have HVE := Lib.hid hy.1
  clear hy YES POS
  subst hie
  have CVT : IntKind.u32.wrap (v : Int) = (v : Int) := IntWalk.u32_in _ (by have := HVE.out; omega)
  go_upto_region 4 with fail
  obtain ⟨RB, hRB⟩ : ∃ RB, RB = W1.heap.size := ⟨_, rfl⟩
  rw [← hRB]
  generalize hW : World.alloc W1 _ = W2
  have hb : Below W1.heap.size W1 W2 := by subst hW; exact ext_alloc _ _
  have hvar : W2.heap[RB]? = some (.cells #[.int .u32 0, .slice none 0 0, .slice none 0 0, .slice none 0 0, .slice none 0 0, .slice none 0 0, .slice none 0 0] 39 (0, 0)) := by subst hW; exact heap_new _ _ _ hRB
  have HX2 := Lib.hid (heap_below HX1.out hb)
  have HR2 := Lib.hid (heap_below HR1.out hb)
  have HB2 := Lib.hid (ext_trans HB1.out hb)
  have HV2 := Lib.hid hvar
  have hwRB : w.heap.size + 1 < RB := by have := heap_lt HR1.out; omega
  clear hW hb hvar HX1 HR1 hRB
  have p0 := cell_of_block HX2.out 0
  have p1 := cell_of_block HX2.out 1
  have p2 := cell_of_block HX2.out 2
  have p3 := cell_of_block HX2.out 3
  have p4 := cell_of_block HX2.out 4
  have p5 := cell_of_block HX2.out 5
  go_wp2_with fail
  refine (HVARS.out W2 HB2.out).mono ?_
  rintro e V3 ⟨rfl, hb⟩
  have hv3 := heap_below HV2.out hb
  have hx3 := heap_below HX2.out hb
  have hr3 := heap_below HR2.out hb
  have hb3 := ext_trans HB2.out hb
  have r0 := cell_of_block hv3 0
  have r0f := unfrozen_of_block hv3 0
  have HV3 : Hid ((World.setCell V3 ⟨RB, 0, .none⟩ (.int .u32 (v : Int))).heap[RB]? = some (.cells #[.int .u32 (v : Int), .slice none 0 0, .slice none 0 0, .slice none 0 0, .slice none 0 0, .slice none 0 0, .slice none 0 0] 39 (0, 0))) := by
    show _ = _
    simpa using block_setCell hv3 (i := 0) (.int .u32 (v : Int))
  have HX3 : Hid ((World.setCell V3 ⟨RB, 0, .none⟩ (.int .u32 (v : Int))).heap[w.heap.size]? = some (.cells #[.int .i64 i, .slice a1 n1 c1, .slice a2 n2 c2, .slice a3 n3 c3, .slice a4 n4 c4, .slice a5 n5 c5] 26 (0, 0))) := by
    show _ = _
    rw [Below.heap_setCell V3 ⟨RB, 0, .none⟩ _ w.heap.size (show w.heap.size ≠ RB by omega)]
    exact hx3
  have HR3 : Hid ((World.setCell V3 ⟨RB, 0, .none⟩ (.int .u32 (v : Int))).heap[w.heap.size + 1]? = some (.cells #[.int .u32 0, .slice none 0 0, .slice none 0 0, .slice none 0 0, .slice none 0 0, .slice none 0 0, .slice none 0 0] 39 (0, 0))) := by
    show _ = _
    rw [Below.heap_setCell V3 ⟨RB, 0, .none⟩ _ (w.heap.size + 1) (show w.heap.size + 1 ≠ RB by omega)]
    exact hr3
  have HB3 : Hid (Below w.heap.size w (World.setCell V3 ⟨RB, 0, .none⟩ (.int .u32 (v : Int)))) := hb3.setCell (show w.heap.size ≤ RB by omega) _
  clear hb hv3 hx3 hr3 hb3 p0 p1 p2 p3 p4 p5 HVARS HX2 HR2 HB2 HV2
  go_upto_region 5 with fail
  clear r0 r0f CVT
  generalize hW : World.setCell V3 ⟨RB, 0, .none⟩ (.int .u32 (v : Int)) = W3 at HV3 HX3 HR3 HB3 ⊢
  have hRB3 : RB < W3.heap.size := heap_lt HV3.out
  have HI0 : Hid (RInv W3 RB v (.slice none 0 0) (.slice none 0 0) (.slice none 0 0) (.slice none 0 0) (.slice none 0 0) (.slice none 0 0) ((List.range 0).map fun q => 2 * (1 + q)) [] [] W3) := ⟨HV3.out, ownsN_nil _ _ _ _, own3_nil _ _ _, own3_nil _ _ _, But2.refl _ _ _ _⟩
  have HXX : Hid (∀ wr, But2 W3.heap.size RB RB W3 wr → wr.heap[w.heap.size]? = some (.cells #[.int .i64 i, .slice a1 n1 c1, .slice a2 n2 c2, .slice a3 n3 c3, .slice a4 n4 c4, .slice a5 n5 c5] 26 (0, 0))) := fun wr hb => hb.at HX3.out (heap_lt HX3.out) (by omega) (by omega)
  have HSS : Hid (∀ wr, But2 W3.heap.size RB RB W3 wr → SeesCir wr ⟨a1, n1, c1, a2, n2, c2, a3, n3, c3, a4, n4, c4, a5, n5, c5⟩ c) := fun wr hb => (HS.out).below (HB3.out.trans (hb.low (Nat.le_trans (by omega) (Nat.le_of_lt hRB3)) (by omega) (by omega)))
  clear hW HX3
  go_wp2
  go_loopw [5, 6] (fun vz j wr => ∃ (k vv : Nat) (v1 : Value), k ≤ i ∧ vz = .int .u32 (vv : Int) ∧ j = .int .i64 k ∧ Hid (vv = 1 + k) ∧ Hid (RInv W3 RB v v1 (.slice none 0 0) (.slice none 0 0) (.slice none 0 0) (.slice none 0 0) (.slice none 0 0) ((List.range k).map fun q => 2 * (1 + q)) [] [] wr))
    (fun _ j _ => i - (intOf j).toNat)
  case atStart => exact ⟨0, 1, _, Nat.zero_le _, rfl, rfl, rfl, HI0.out⟩
  case round =>
    clear HI0
    obtain ⟨k, vv, v1, hk, rfl, rfl, hvv, hI⟩ := hrel
    have p0 := cell_of_block (HXX.out wr hI.out.but) 0
    by_cases hlt : k < i
    · obtain ⟨va, vc, hv1⟩ := ownsN_form hI.out.f1
      have hlen : ((List.range k).map fun q => 2 * (1 + q)).length = k := by simp
      rw [hlen] at hv1
      subst hv1
      have W1' : IntKind.i64.wrap ((k : Int) + 1) = (k : Int) + 1 := IntWalk.i64_in _ (by omega)
      have hv9 : vv ≤ 20000 := by have := hvv.out; omega
      have M1 : IntKind.u32.wrap (2 * (vv : Int)) = 2 * (vv : Int) := IntWalk.u32_in _ (by omega)
      have M2 : IntKind.u32.wrap ((vv : Int) + 1) = (vv : Int) + 1 := IntWalk.u32_in _ (by omega)
      have HLEN := Lib.hid hlen
      have cR : wr.cell? ⟨RB, 1, none⟩ = some (.slice va k vc) := cell_of_block hI.out.var 1
      obtain ⟨L, hL⟩ : ∃ L, L = ((List.range k).map fun q => 2 * (1 + q)).map nv32 := ⟨_, rfl⟩
      have hown0 := hI.out.f1
      rw [← hL, hlen] at hown0
      have HL := Lib.hid hL
      have HOWN0 := Lib.hid hown0
      have hws := hI.out.but.size
      clear hlen hL hown0
      go_wp2_with (at_builtin; refine wpList_append_own_at _ rfl _ _ 24 rfl W3.heap.size 35 i0 (.int .u32 0) 1 4 Tryz.underlying24 hi hz0 hz1 hz2 rfl (by omega) _ _ L rfl (ownsN_below HOWN0.out (ext_alloc _ _)) ⟨wr.heap.size, 0, none⟩ 1 1 [.int .u32 (2 * (vv : Int))] rfl rfl ?c1 ?c2 ?c4 ?c5 ?c6 ?_)
      case c1 => exact World.news_of_block (heap_new wr (.cells #[.int .u32 (2 * (vv : Int))] 35) wr.heap.size rfl)
      case c2 => first | rfl | exact ⟨rfl, rfl⟩ | (intro u hu; simp at hu; subst hu; rfl)
      case c4 => unfold maxLen; omega
      case c5 => omega
      case c6 => simp; omega
      intro v2 w2 hr2 hg2 _ _
      obtain ⟨va2, vc2, rfl⟩ := ownsN_form hr2
      have hC2 := heap_grown (heap_below hI.out.var (ext_alloc wr (.cells #[.int .u32 (2 * (vv : Int))] 35))) hg2 (fun e => by have := (HOWN0.out.lt RB e).1; omega)
      have s1 : w2.cell? ⟨RB, 1, none⟩ = some (.slice va k vc) := cell_of_block hC2 1
      have s2 : w2.frozen? ⟨RB, 1, none⟩ = false := unfrozen_of_block hC2 1
      have hgrow := hI.out.grow_ins hRB3 (ext_alloc wr (.cells #[.int .u32 (2 * (vv : Int))] 35)) hg2 (x := 2 * (1 + k)) hr2 (by rw [HLEN.out]) (by
        rw [HL.out]
        unfold nv32
        rw [show ((2 * (1 + k) : Nat) : Int) = 2 * (vv : Int) by have := hvv.out; omega])
      have ht : ((List.range k).map fun q => 2 * (1 + q)) ++ [2 * (1 + k)] = (List.range (k + 1)).map fun q => 2 * (1 + q) := by rw [List.range_succ, List.map_append]; rfl
      rw [ht] at hgrow
      have HG := Lib.hid hgrow
      have HVV : Hid (vv + 1 = 1 + (k + 1)) := by have := hvv.out; show _ = _; omega
      clear hgrow ht hC2 hg2 hr2 hI cR hvv HOWN0
      go_wp2
      go_roundw
      case rel => exact ⟨k + 1, vv + 1, _, by omega, by go_num, by go_num, HVV.out, HG.out⟩
      case measure => simp [intOf]; omega
    · obtain rfl : i = k := by omega
      have HI1 := Lib.hid hI.out
      have HVS := Lib.hid hvv.out
      obtain ⟨e1, d1, hv1⟩ := ownsN_form hI.out.f1
      rw [List.length_map, List.length_range] at hv1
      subst hv1
      obtain ⟨w5, hw5⟩ : ∃ w5 : World, w5 = wr := ⟨_, rfl⟩
      subst hw5
      clear hI hvv hlt hk
      go_wp2
      clear p0
      go_loopw [5, 7, 8] (fun vz j v8 wr => ∃ (k vv : Nat) (v2 : Value), k ≤ n1 ∧ vz = .int .u32 (vv : Int) ∧ j = .int .i64 k ∧ Hid (vv = 1 + i + k) ∧ Hid (RInv W3 RB v (.slice e1 i d1) v2 (.slice none 0 0) (.slice none 0 0) (.slice none 0 0) (.slice none 0 0) ((List.range i).map fun q => 2 * (1 + q)) ((upFrom latR (1 + i) c.lats).take k) [] wr))
        (fun _ j _ _ => n1 - (intOf j).toNat)
      case atStart => exact ⟨0, vv, _, Nat.zero_le _, rfl, rfl, HVS.out, by show RInv _ _ _ _ _ _ _ _ _ _ _ _ _; rw [List.take_zero]; exact HI1.out⟩
      case round =>
        clear HI1 HVS
        obtain ⟨k, vv, v2, hk, rfl, rfl, hvv, hI⟩ := hrel
        have p1 := cell_of_block (HXX.out wr hI.out.but) 1
        by_cases hlt : k < n1
        · obtain ⟨b, off, rfl, hbw⟩ := HS.out.s1.addr (show 0 < n1 by omega)
          obtain ⟨qx, qy⟩ := (HSS.out wr hI.out.but).s1.cells k hlt (0, 0)
          have hwd := HW.out.lats (c.lats.getD k (0, 0)) (getD_mem (by rw [L1.out]; exact hlt))
          obtain ⟨p, hp⟩ : ∃ t, t = c.lats.getD k (0, 0) := ⟨_, rfl⟩
          rw [← hp] at qx qy hwd
          have HP := Lib.hid hp
          clear hp
          obtain ⟨x, y⟩ := p
          simp only [nv32, nv8] at qx qy
          simp only at hwd
          obtain ⟨va, vc, hv2⟩ := own3_form hI.out.f2
          have hlen : ((upFrom latR (1 + i) c.lats).take k).length = k := by rw [List.length_take, upFrom_len, L1.out]; omega
          rw [hlen] at hv2
          subst hv2
          obtain ⟨L, hL⟩ : ∃ L, L = triCs ((upFrom latR (1 + i) c.lats).take k) := ⟨_, rfl⟩
          have hown0 := hI.out.f2
          unfold own3 at hown0
          rw [← hL, hlen] at hown0
          have W1' : IntKind.i64.wrap ((k : Int) + 1) = (k : Int) + 1 := IntWalk.i64_in _ (by omega)
          have hv9 : vv ≤ 20000 := by have := hvv.out; omega
          have M1 : IntKind.u32.wrap (2 * (vv : Int)) = 2 * (vv : Int) := IntWalk.u32_in _ (by omega)
          have M2 : IntKind.u32.wrap ((vv : Int) + 1) = (vv : Int) + 1 := IntWalk.u32_in _ (by omega)
          have CY : IntKind.u32.wrap (y : Int) = (y : Int) := IntWalk.u32_in _ (by omega)
          have hws := hI.out.but.size
          have hbW : b < W3.heap.size := Nat.lt_of_lt_of_le hbw (by have := HB3.out.size; exact this)
          have hwW : w.heap.size < W3.heap.size := by omega
          have HLEN := Lib.hid hlen
          have HL := Lib.hid hL
          have HOWN0 := Lib.hid hown0
          have HQX := Lib.hid qx
          have HQ1 := Lib.hid p1
          have FIN : Hid (∀ (zr : Nat) (hzr : zr = if y = 2 then 2 * vv else y) (a' : Option Addr) (c' : Nat) (s2 w2 : World), Below wr.heap.size wr s2 → s2.grownBy w2 (Value.slice va k vc).ownBlock → w2.ownsRow W3.heap.size 55 3 (.slice a' (k + 1) c') (k + 1) (L ++ [.int .u32 (2 * (vv : Int)), .int .u32 (x : Int), .int .u32 (zr : Int)]) →
              RInv W3 RB v (.slice e1 i d1) (.slice a' (k + 1) c') (.slice none 0 0) (.slice none 0 0) (.slice none 0 0) (.slice none 0 0) ((List.range i).map fun q => 2 * (1 + q)) ((upFrom latR (1 + i) c.lats).take (k + 1)) [] (w2.setCell ⟨RB, 2, none⟩ (.slice a' (k + 1) c'))) := fun zr hzr a' c' s2 w2 hb2 hg2 hr2 => by
            rw [upFrom_take latR (1 + i) c.lats k (by rw [L1.out]; exact hlt)]
            refine RInv.grow_lat hI.out hRB3 hb2 hg2 hr2 (by rw [HLEN.out]) ?_
            rw [HL.out, ← HP.out]
            unfold latR triC
            have e1 : 1 + i + k = vv := by have := hvv.out; omega
            rw [e1, ← hzr]
            rfl
          have HVV : Hid (vv + 1 = 1 + i + (k + 1)) := by have := hvv.out; show _ = _; omega
          have HVAR := Lib.hid hI.out.var
          clear hlen hL hown0 hI hvv hbw
          by_cases hy2 : y = 2
          · have f1 : ((y : Int) == 2) = true := by simp; omega
            go_upto_region 17 with fail
            refine reg_NRefRawA RB w.heap.size b off k n1 vv x (2 * vv) W3.heap.size c1 va vc L wr HVAR.out HQ1.out hlt HQX.out hwW hbW (by omega) HOWN0 hws (by unfold maxLen; omega) (by omega) _ ?_
            intro a' c' s2 w2 _ _ _ _ _ _ _ _ _ _ _ _ _ _ _ hb2 hg2 hr2
            have HN := Lib.hid (FIN.out (2 * vv) (by rw [if_pos hy2]) a' c' s2 w2 hb2 hg2 hr2)
            clear hb2 hg2 hr2 f1 qx qy p1 CY FIN HVAR
            go_wp2
            go_roundw
            case rel => exact ⟨k + 1, vv + 1, _, by omega, by go_num, by go_num, HVV.out, HN.out⟩
            case measure => simp [intOf]; omega
          · have f1 : ((y : Int) == 2) = false := by simp; omega
            go_upto_region 17 with fail
            refine reg_NRefRawA RB w.heap.size b off k n1 vv x y W3.heap.size c1 va vc L wr HVAR.out HQ1.out hlt HQX.out hwW hbW (by omega) HOWN0 hws (by unfold maxLen; omega) (by omega) _ ?_
            intro a' c' s2 w2 _ _ _ _ _ _ _ _ _ _ _ _ _ _ _ hb2 hg2 hr2
            have HN := Lib.hid (FIN.out y (by rw [if_neg hy2]) a' c' s2 w2 hb2 hg2 hr2)
            clear hb2 hg2 hr2 f1 qx qy p1 CY FIN HVAR
            go_wp2
            go_roundw
            case rel => exact ⟨k + 1, vv + 1, _, by omega, by go_num, by go_num, HVV.out, HN.out⟩
            case measure => simp [intOf]; omega
        · obtain rfl : n1 = k := by omega
          have hI' := hI.out
          rw [List.take_of_length_le (by rw [upFrom_len, L1.out]; exact Nat.le_refl _)] at hI'
          obtain ⟨e2, d2, hv2⟩ := own3_form hI'.f2
          rw [upFrom_len, L1.out] at hv2
          subst hv2
          have HI1 := Lib.hid hI'
          have HVS := Lib.hid hvv.out
          obtain ⟨w6, hw6⟩ : ∃ w6 : World, w6 = wr := ⟨_, rfl⟩
          subst hw6
          clear hI hI' hvv hlt hk
          go_wp2
          clear p1
          go_loopw [5, 9] (fun vz j wr => ∃ (k vv : Nat) (v6 : Value), k ≤ n2 ∧ vz = .int .u32 (vv : Int) ∧ j = .int .i64 k ∧ Hid (vv = 1 + i + n1 + k) ∧ Hid (RInv W3 RB v (.slice e1 i d1) (.slice e2 n1 d2) (.slice none 0 0) (.slice none 0 0) (.slice none 0 0) v6 ((List.range i).map fun q => 2 * (1 + q)) (upFrom latR (1 + i) c.lats) ((upFrom gateR (1 + i + n1) c.gates).take k) wr))
            (fun _ j _ => n2 - (intOf j).toNat)
          case atStart => exact ⟨0, vv, _, Nat.zero_le _, rfl, rfl, HVS.out, by show RInv _ _ _ _ _ _ _ _ _ _ _ _ _; rw [List.take_zero]; exact HI1.out⟩
          case round =>
            clear HI1 HVS
            obtain ⟨k, vv, v6, hk, rfl, rfl, hvv, hI⟩ := hrel
            have p2 := cell_of_block (HXX.out wr hI.out.but) 2
            by_cases hlt : k < n2
            · obtain ⟨b, off, rfl, hbw⟩ := HS.out.s2.addr (show 0 < n2 by omega)
              obtain ⟨qx, qy⟩ := (HSS.out wr hI.out.but).s2.cells k hlt (0, 0)
              obtain ⟨p, hp⟩ : ∃ t, t = c.gates.getD k (0, 0) := ⟨_, rfl⟩
              rw [← hp] at qx qy
              have HP := Lib.hid hp
              clear hp
              obtain ⟨x, y⟩ := p
              simp only [nv32] at qx qy
              obtain ⟨va, vc, hv6⟩ := own3_form hI.out.f6
              have hlen : ((upFrom gateR (1 + i + n1) c.gates).take k).length = k := by rw [List.length_take, upFrom_len, L2.out]; omega
              rw [hlen] at hv6
              subst hv6
              obtain ⟨L, hL⟩ : ∃ L, L = triCs ((upFrom gateR (1 + i + n1) c.gates).take k) := ⟨_, rfl⟩
              have hown0 := hI.out.f6
              unfold own3 at hown0
              rw [← hL, hlen] at hown0
              have W1' : IntKind.i64.wrap ((k : Int) + 1) = (k : Int) + 1 := IntWalk.i64_in _ (by omega)
              have hv9 : vv ≤ 20000 := by have := hvv.out; omega
              have M2 : IntKind.u32.wrap ((vv : Int) + 1) = (vv : Int) + 1 := IntWalk.u32_in _ (by omega)
              have hws := hI.out.but.size
              have hbW : b < W3.heap.size := Nat.lt_of_lt_of_le hbw (by have := HB3.out.size; exact this)
              have hwW : w.heap.size < W3.heap.size := by omega
              have HLEN := Lib.hid hlen
              have HL := Lib.hid hL
              have HOWN0 := Lib.hid hown0
              have HQX := Lib.hid qx
              have HQY := Lib.hid qy
              have HQ2 := Lib.hid p2
              have FIN : Hid (∀ (a' : Option Addr) (c' : Nat) (s2 w2 : World), Below wr.heap.size wr s2 → s2.grownBy w2 (Value.slice va k vc).ownBlock → w2.ownsRow W3.heap.size 58 3 (.slice a' (k + 1) c') (k + 1) (L ++ [.int .u32 (2 * (vv : Int)), .int .u32 (x : Int), .int .u32 (y : Int)]) →
                  RInv W3 RB v (.slice e1 i d1) (.slice e2 n1 d2) (.slice none 0 0) (.slice none 0 0) (.slice none 0 0) (.slice a' (k + 1) c') ((List.range i).map fun q => 2 * (1 + q)) (upFrom latR (1 + i) c.lats) ((upFrom gateR (1 + i + n1) c.gates).take (k + 1)) (w2.setCell ⟨RB, 6, none⟩ (.slice a' (k + 1) c'))) := fun a' c' s2 w2 hb2 hg2 hr2 => by
                rw [upFrom_take gateR (1 + i + n1) c.gates k (by rw [L2.out]; exact hlt)]
                refine RInv.grow_gate hI.out hRB3 hb2 hg2 hr2 (by rw [HLEN.out]) ?_
                rw [HL.out, ← HP.out]
                unfold gateR triC
                have e1 : 1 + i + n1 + k = vv := by have := hvv.out; omega
                rw [e1]
                rfl
              have HVV : Hid (vv + 1 = 1 + i + n1 + (k + 1)) := by have := hvv.out; show _ = _; omega
              have HVAR := Lib.hid hI.out.var
              clear hlen hL hown0 hI hvv hbw
              go_upto_region 22 with fail
              refine reg_NRefRawB RB w.heap.size b off k n2 vv x y W3.heap.size c2 va vc L wr HVAR.out HQ2.out hlt HQX.out HQY.out hwW hbW (by omega) HOWN0 hws (by unfold maxLen; omega) (by omega) _ ?_
              intro a' c' s2 w2 _ _ _ _ _ _ _ _ _ _ _ _ _ _ _ _ _ _ _ _ hb2 hg2 hr2
              have HN := Lib.hid (FIN.out a' c' s2 w2 hb2 hg2 hr2)
              clear hb2 hg2 hr2 qx qy p2 FIN HVAR
              go_wp2
              go_roundw
              case rel => exact ⟨k + 1, vv + 1, _, by omega, by go_num, by go_num, HVV.out, HN.out⟩
              case measure => simp [intOf]; omega
            · obtain rfl : n2 = k := by omega
              have hI' := hI.out
              rw [List.take_of_length_le (by rw [upFrom_len, L2.out]; exact Nat.le_refl _)] at hI'
              obtain ⟨e6, d6, hv6⟩ := own3_form hI'.f6
              rw [upFrom_len, L2.out] at hv6
              subst hv6
              have HF := Lib.hid hI'.toFin
              obtain ⟨w7, hw7⟩ : ∃ w7 : World, w7 = wr := ⟨_, rfl⟩
              subst hw7
              clear hI hI' hvv hlt hk
              go_upto_region 25 with fail
              clear p2
              have px := cell_of_block (HXX.out w7 HF.out.but) 3
              have S9 := Lib.hid ((HSS.out w7 HF.out.but).s3)
              have hbs := HF.out.but.size
              go_wp2_with (at_builtin; refine wpList_append_row isU32 _ rfl _ _ 24 rfl w7.heap.size 35 i0 (.int .u32 0) 4 Tryz.underlying24 hi hz0 hz1 hz2 rfl zero_isU32 _ _ _ rfl (Row.nil _ _ _ _) a3 n3 c3 (c.outs.map nv32) rfl S9.out (nv32_one _) (nv32_ok HW.out.outs) ?q31 ?q32 ?q33 ?_)
              case q31 => unfold maxLen; omega
              case q32 => omega
              intro v9 w80 hrow hgr _
              have hb : Below w7.heap.size w7 w80 := (Below.refl _ _).grown hgr (Nat.le_refl _) (fun k hk => by cases hk)
              obtain ⟨e3, d3, hv9⟩ := hrow.form
              try rw [Nat.zero_add] at hv9
              subst hv9
              have hFb := HF.out.below hb
              have c9c := cell_of_block hFb.var 3
              have c9f := unfrozen_of_block hFb.var 3
              have HF2 : Hid (RFin W3 RB v (.slice e1 i d1) (.slice e2 n1 d2) (.slice e3 n3 d3) (.slice none 0 0) (.slice none 0 0) (.slice e6 n2 d6) ((List.range i).map fun q => 2 * (1 + q)) (upFrom latR (1 + i) c.lats) (upFrom gateR (1 + i + n1) c.gates) c.outs [] [] (World.setCell w80 ⟨RB, 3, .none⟩ (.slice e3 n3 d3))) := hFb.put3 hRB3 (by rw [L3.out]; have h9 := ownsN_base hrow.own hbs; first | exact h9 | simpa using h9)
              clear hrow hgr hb hFb HF S9 px hbs
              go_upto_region 26 with fail
              clear c9c c9f
              generalize hW : (World.setCell w80 ⟨RB, 3, .none⟩ (.slice e3 n3 d3)) = w90 at HF2 ⊢
              have HF := Lib.hid HF2.out
              clear hW HF2
              have px := cell_of_block (HXX.out w90 HF.out.but) 4
              have S9 := Lib.hid ((HSS.out w90 HF.out.but).s4)
              have hbs := HF.out.but.size
              go_wp2_with (at_builtin; refine wpList_append_row isU32 _ rfl _ _ 24 rfl w90.heap.size 35 i0 (.int .u32 0) 4 Tryz.underlying24 hi hz0 hz1 hz2 rfl zero_isU32 _ _ _ rfl (Row.nil _ _ _ _) a4 n4 c4 (c.bads.map nv32) rfl S9.out (nv32_one _) (nv32_ok HW.out.bads) ?q41 ?q42 ?q43 ?_)
              case q41 => unfold maxLen; omega
              case q42 => omega
              intro v9 w81 hrow hgr _
              have hb : Below w90.heap.size w90 w81 := (Below.refl _ _).grown hgr (Nat.le_refl _) (fun k hk => by cases hk)
              obtain ⟨e4, d4, hv9⟩ := hrow.form
              try rw [Nat.zero_add] at hv9
              subst hv9
              have hFb := HF.out.below hb
              have c9c := cell_of_block hFb.var 4
              have c9f := unfrozen_of_block hFb.var 4
              have HF2 : Hid (RFin W3 RB v (.slice e1 i d1) (.slice e2 n1 d2) (.slice e3 n3 d3) (.slice e4 n4 d4) (.slice none 0 0) (.slice e6 n2 d6) ((List.range i).map fun q => 2 * (1 + q)) (upFrom latR (1 + i) c.lats) (upFrom gateR (1 + i + n1) c.gates) c.outs c.bads [] (World.setCell w81 ⟨RB, 4, .none⟩ (.slice e4 n4 d4))) := hFb.put4 hRB3 (by rw [L4.out]; have h9 := ownsN_base hrow.own hbs; first | exact h9 | simpa using h9)
              clear hrow hgr hb hFb HF S9 px hbs
              go_upto_region 27 with fail
              clear c9c c9f
              generalize hW : (World.setCell w81 ⟨RB, 4, .none⟩ (.slice e4 n4 d4)) = w91 at HF2 ⊢
              have HF := Lib.hid HF2.out
              clear hW HF2
              have px := cell_of_block (HXX.out w91 HF.out.but) 5
              have S9 := Lib.hid ((HSS.out w91 HF.out.but).s5)
              have hbs := HF.out.but.size
              go_wp2_with (at_builtin; refine wpList_append_row isU32 _ rfl _ _ 24 rfl w91.heap.size 35 i0 (.int .u32 0) 4 Tryz.underlying24 hi hz0 hz1 hz2 rfl zero_isU32 _ _ _ rfl (Row.nil _ _ _ _) a5 n5 c5 (c.cons.map nv32) rfl S9.out (nv32_one _) (nv32_ok HW.out.cons) ?q51 ?q52 ?q53 ?_)
              case q51 => unfold maxLen; omega
              case q52 => omega
              intro v9 w82 hrow hgr _
              have hb : Below w91.heap.size w91 w82 := (Below.refl _ _).grown hgr (Nat.le_refl _) (fun k hk => by cases hk)
              obtain ⟨e5, d5, hv9⟩ := hrow.form
              try rw [Nat.zero_add] at hv9
              subst hv9
              have hFb := HF.out.below hb
              have c9c := cell_of_block hFb.var 5
              have c9f := unfrozen_of_block hFb.var 5
              have HF2 : Hid (RFin W3 RB v (.slice e1 i d1) (.slice e2 n1 d2) (.slice e3 n3 d3) (.slice e4 n4 d4) (.slice e5 n5 d5) (.slice e6 n2 d6) ((List.range i).map fun q => 2 * (1 + q)) (upFrom latR (1 + i) c.lats) (upFrom gateR (1 + i + n1) c.gates) c.outs c.bads c.cons (World.setCell w82 ⟨RB, 5, .none⟩ (.slice e5 n5 d5))) := hFb.put5 hRB3 (by rw [L5.out]; have h9 := ownsN_base hrow.own hbs; first | exact h9 | simpa using h9)
              clear hrow hgr hb hFb HF S9 px hbs
              go_upto_region 28 with fail
              clear c9c c9f
              generalize hW : (World.setCell w82 ⟨RB, 5, .none⟩ (.slice e5 n5 d5)) = w92 at HF2 ⊢
              have HF := Lib.hid HF2.out
              clear hW HF2
              have HRR := Lib.hid (HF.out.but.at HR3.out (heap_lt HR3.out) (by omega) (by omega))
              have HBL := Lib.hid (HB3.out.trans (HF.out.but.low (Nat.le_trans (show w.heap.size ≤ RB by omega) (Nat.le_of_lt hRB3)) (by omega) (by omega)))
              have t0 := cell_of_block HF.out.var 0
              have t1 := cell_of_block HF.out.var 1
              have t2 := cell_of_block HF.out.var 2
              have t3 := cell_of_block HF.out.var 3
              have t4 := cell_of_block HF.out.var 4
              have t5 := cell_of_block HF.out.var 5
              have t6 := cell_of_block HF.out.var 6
              have z0 := cell_of_block HRR.out 0
              have z1 := cell_of_block HRR.out 1
              have z2 := cell_of_block HRR.out 2
              have z3 := cell_of_block HRR.out 3
              have z4 := cell_of_block HRR.out 4
              have z5 := cell_of_block HRR.out 5
              have z6 := cell_of_block HRR.out 6
              have y0 := unfrozen_of_block HRR.out 0
              have y1 := unfrozen_of_block HRR.out 1
              have y2 := unfrozen_of_block HRR.out 2
              have y3 := unfrozen_of_block HRR.out 3
              have y4 := unfrozen_of_block HRR.out 4
              have y5 := unfrozen_of_block HRR.out 5
              have y6 := unfrozen_of_block HRR.out 6
              have hltR := heap_lt HR3.out
              go_wp2
              refine bodyPost_ret (v := .tuple #[rawV v ⟨e1, i, d1, e2, n1, d2, e3, n3, d3, e4, n4, d4, e5, n5, d5, e6, n2, d6⟩, .int .i64 0]) ?_ rfl ?_
              · have h6 := raw_set HRR.out rfl (.int .u32 v) (.slice e1 i d1) (.slice e2 n1 d2) (.slice e3 n3 d3) (.slice e4 n4 d4) (.slice e5 n5 d5) (.slice e6 n2 d6)
                have g0 := cell_of_block h6 0
                have g1 := cell_of_block h6 1
                have g2 := cell_of_block h6 2
                have g3 := cell_of_block h6 3
                have g4 := cell_of_block h6 4
                have g5 := cell_of_block h6 5
                have g6 := cell_of_block h6 6
                simp [results, Tryz.results10, go_sem, g0, g1, g2, g3, g4, g5, g6]
                rfl
              · have hvn : v = varsN c := by rw [HVC.out]; unfold varsC; rw [← HQ.out]; rfl
                have hrs : rawS c = ⟨v, (List.range i).map fun q => 2 * (1 + q), upFrom latR (1 + i) c.lats, c.outs, c.bads, c.cons, upFrom gateR (1 + i + n1) c.gates⟩ := by
                  unfold rawS
                  rw [← hvn, ← HZ.out, L1.out]
                  simp
                refine ⟨set7 (w.heap.size + 1) (Nat.le_succ _) HBL.out, Or.inl ⟨HQ.out.symm, _, by rw [hvn], ?_⟩⟩
                rw [hrs]
                exact ⟨owns1_sees (owns_set7 HF.out.f1 hltR), own3_sees_slice (owns_set7 HF.out.f2 hltR), owns1_sees (owns_set7 HF.out.f3 hltR), owns1_sees (owns_set7 HF.out.f4 hltR), owns1_sees (owns_set7 HF.out.f5 hltR), own3_sees_slice (owns_set7 HF.out.f6 hltR)⟩
end Go.Proofs.YtglhnmbfkbjemaaGreatDoor
