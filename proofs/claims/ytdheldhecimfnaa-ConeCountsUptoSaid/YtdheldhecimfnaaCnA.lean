/- What is reached across is what is reached within, again and again; frames reach no more (on lists). -/
import Derived.Test.YtdheldhecimfnaaNBase
import Derived.Test.YtdheldhecimfnaaSRange
import Derived.Test.YtdheldhecimfnaaRows
import Derived.BigQuiet
import Derived.Deep.AppendLies
import Derived.Deep.QuietTactic
import Derived.Deep.RegionLaw
import Derived.Deep.RegionWith
import Derived.KernelRfl
import Derived.Laws.EntriesVeiled
import Derived.Lib.ConvBytes
import Derived.Lib.Hide
import Derived.Lib.SlBytesRow
import Derived.Lib.SmallJoins
import Derived.LoopIn
import Derived.LoopNIn
import Derived.OwnWalkIn
import Derived.RangeFuncBox
import Derived.RangeFuncCalls
import Derived.RangeFuncLeaves
import Derived.RangeFuncNested
import Derived.RangeFuncWrites
import Derived.Shelf.Abstract
import Derived.Shelf.Bytes.SlSmallAll
import Derived.Shelf.RegionOpen
import Derived.Sort.CutIn
import Derived.Stop.RegionWithIn
import Derived.TacticsInMore
import Derived.WalkKit
import Derived.WalkLawsBesides
import Derived.WalkSpells
import Derived.Test.YtdheldhecimfnaaLib
import Derived.Test.YtdheldhecimfnaaOwn
import Derived.Test.YtdheldhecimfnaaNHeap
import Derived.Test.YtdheldhecimfnaaNGrow
import Derived.Test.YtdheldhecimfnaaNCloneU
import Derived.Deep.RegionHeld3
import Derived.Laws.Tables
import Derived.Lib.AppendZeros
import Derived.Maps.AppendAt
import Derived.Test.YtdheldhecimfnaaNSpec
import Derived.Test.YtdheldhecimfnaaNVal
import Derived.Test.YtdheldhecimfnaaNTrace
import Derived.Test.YtdheldhecimfnaaNCirc
import Derived.Test.YtdheldhecimfnaaNSmall
import Derived.Test.YtdheldhecimfnaaNMayC
import Derived.Test.YtdheldhecimfnaaNRefVars
import Derived.Deep.CutRange
import Derived.Test.YtdheldhecimfnaaCnSpec
import Derived.Test.YtdheldhecimfnaaCnSmall
import Derived.Test.YtdheldhecimfnaaRawPred
import Derived.Test.YtdheldhecimfnaaNOwnsN
import Derived.Test.YtdheldhecimfnaaNStep
import Derived.Test.YtdheldhecimfnaaNBools
import Derived.Test.YtdheldhecimfnaaNTwo
import Derived.Lib.AppendStr
import Derived.OrdersHeld
import Derived.Test.YtdheldhecimfnaaNPeel
import Derived.OrdersIn
import Derived.Test.YtdheldhecimfnaaNOwns
import Derived.Test.YtdheldhecimfnaaFCells
import Derived.Test.YtdheldhecimfnaaCnNexts
import Derived.Test.YtdheldhecimfnaaTBits
import Derived.Test.YtdheldhecimfnaaSVerd
import Derived.Laws.Bits64b
import Derived.Laws.BitsAllLaws
import Derived.Laws.BitsLemmas
/- slices.Backward over rows of marks, as an iterator, by its contract. -/
namespace Go.Proofs.Ytdheldhecimfnaa
open Go Go.RowKit Go.Joins
attribute [local go_sem] Oper.semAt_some

/-- Below base nothing has turned; nor any block of cells but F and L; and F is a row of n slices still. -/
structure KpB (base F n L : Nat) (W W' : World) : Prop where
  low : Below base W W'
  mid : ∀ D C t fr, W.heap[D]? = some (.cells C t fr) → D ≠ F → D ≠ L → W'.heap[D]? = some (.cells C t fr)
  row : ∀ C, W.heap[F]? = some (.cells C 33 (0, 0)) → C.size = n → ∃ C', W'.heap[F]? = some (.cells C' 33 (0, 0)) ∧ C'.size = n
theorem KpB.trans {base F n L : Nat} {A B C : World} (h : KpB base F n L A B) (k : KpB base F n L B C) : KpB base F n L A C :=
  ⟨h.low.trans k.low, fun D X t fr hD h1 h2 => k.mid D X t fr (h.mid D X t fr hD h1 h2) h1 h2, fun C hC hn => by obtain ⟨C', h1, h2⟩ := h.row C hC hn; exact k.row C' h1 h2⟩
theorem KpB.below {base F n L : Nat} {A B : World} (h : Below A.heap.size A B) (hb : base ≤ A.heap.size) : KpB base F n L A B :=
  ⟨h.mono hb, fun _ _ _ _ hD _ _ => heap_below hD h, fun C hC hn => ⟨C, heap_below hC h, hn⟩⟩
theorem KpB.put {base F n L : Nat} (W : World) (l : Nat) (o o' : Obj) (hl : base ≤ l) (h : W.heap[l]? = some o) (ho : o.isCells = false) : KpB base F n L W (W.putObj l o') := by
  have hne : ∀ {D : Nat} {C : Array Value} {t : TypeId} {fr : Nat × Nat}, W.heap[D]? = some (.cells C t fr) → (W.putObj l o').heap[D]? = some (.cells C t fr) := fun {D C t fr} hD => by
    have : D ≠ l := fun e => by subst e; rw [h] at hD; cases hD; cases ho
    exact (World.putObj_heap_other this).trans hD
  exact ⟨(Below.refl _ W).grown (grownBy_putObj' W l o') (by have := (Array.getElem?_eq_some_iff.1 h).1; omega) (fun k e => by cases e; exact hl), fun D C t fr hD _ _ => hne hD, fun C hC hn => ⟨C, hne hC, hn⟩⟩

/-- What the k-th round is handed. -/
def HandB (n k : Nat) (xs : Array Value) (_ : World) : Prop := ∃ (j : Nat) (v : Value), j + k + 1 = n ∧ xs = #[.int .i64 (j : Int), v]

set_option maxRecDepth 100000 in
set_option maxHeartbeats 3200000 in
theorem back_iter (base S F n L : Nat) (w : World) (hS : w.heap[S]? = some (.cells #[.slice (some ⟨F, 0, none⟩) n n] 38 (0, 0))) (C : Array Value) (hF : w.heap[F]? = some (.cells C 33 (0, 0))) (hC : C.size = n) (hSF : S ≠ F) (hSL : S ≠ L) (hn : n ≤ 1000000) (hb : base ≤ w.heap.size) :
    Iterates Try.prog 59 #[.pointer (some ⟨S, 0, none⟩)] (HandB n) (KpB base F n L) n w := by
  intro l J W hJ hY hW h0
  have HS := Lib.hid (heap_below hS hW)
  have HF := Lib.hid (heap_below hF hW)
  have HC := Lib.hid hC
  have HY := Lib.hid hY
  have HJ := Lib.hid hJ
  have HW := Lib.hid hW
  have H0 := Lib.hid h0
  have HNE := Lib.hid (And.intro hSF hSL)
  have HB0 : Hid (base ≤ W.heap.size) := Nat.le_trans hb hW.size
  clear hS hF hC hY hJ hW h0 hSF hSL
  have p0 : W.cell? ⟨S, 0, none⟩ = some (.slice (some ⟨F, 0, none⟩) n n) := cell_of_block HS.out 0
  have W0 : IntKind.i64.wrap ((n : Int) - 1) = (n : Int) - 1 := IntWalk.i64_in _ (by omega)
  refine callsIn_of_wp Try.func59 rfl trivial ?_ rfl
  simp only [Try.ntmps59, List.size_toArray, List.length_cons, List.length_nil, Nat.reduceAdd, Nat.reduceSub, Array.replicate_succ, Array.replicate_zero, List.push_toArray, List.append_toArray, List.nil_append, List.cons_append]
  gi_wp2
  clear p0
  gi_loopw [3] (fun iv wr => ∃ (k : Nat) (z : Int), k ≤ n ∧ z + (k : Int) + 1 = (n : Int) ∧ iv = .int .i64 z ∧ Hid (J k wr) ∧ Hid (KpB base F n L W wr))
    (fun iv _ => (intOf iv + 1).toNat)
  case atStart => exact ⟨0, (n : Int) - 1, Nat.zero_le _, by omega, rfl, H0.out, KpB.below (Below.refl _ _) HB0.out⟩
  case round =>
    obtain ⟨k, z, hk, hz, rfl, hJk, hK⟩ := hrel
    have HS2 := Lib.hid (hK.out.mid _ _ _ _ HS.out HNE.out.1 HNE.out.2)
    have p0 : wr.cell? ⟨S, 0, none⟩ = some (.slice (some ⟨F, 0, none⟩) n n) := cell_of_block HS2.out 0
    by_cases hlt : k < n
    · obtain ⟨j, hj⟩ : ∃ j : Nat, j + k + 1 = n := ⟨n - k - 1, by omega⟩
      obtain rfl : z = (j : Int) := by omega
      obtain ⟨C', hF', hC'⟩ := hK.out.row C HF.out HC.out
      have hjC : j < C'.size := by omega
      have hcell : wr.cell? ⟨F, j, none⟩ = some C'[j] := by rw [cell_of_block hF' j, Array.getElem?_eq_getElem hjC]
      obtain ⟨v, hv⟩ : ∃ v, v = C'[j] := ⟨_, rfl⟩
      rw [← hv] at hcell
      obtain ⟨fn, tmps, assign, body, hy, hRd⟩ := HY.out k #[.int .i64 (j : Int), v] wr hlt hJk.out ⟨j, v, hj, rfl⟩
      have hjz : (0 : Int) ≤ (j : Int) := by omega
      have hjn : (j : Int) < (n : Int) := by omega
      have W1' : IntKind.i64.wrap ((j : Int) - 1) = (j : Int) - 1 := IntWalk.i64_in _ (by omega)
      have HK := Lib.hid hK.out
      have HZ := Lib.hid (And.intro hz hj)
      clear hz hj hv hK hJk hF' hC' hjC HS2
      gi_wp2
      refine ⟨rfl, hRd.mono ?_⟩
      rintro e W4 ⟨rfl, hJ4, hk4⟩
      have HJ4 := Lib.hid hJ4
      have HK4 := Lib.hid (HK.out.trans hk4)
      clear hJ4 hk4 HK hRd hy hcell p0
      gi_wp2
      go_roundw
      case rel => exact ⟨k + 1, (j : Int) - 1, by omega, by have := HZ.out; omega, rfl, HJ4.out, HK4.out⟩
      case measure => simp [intOf]
    · obtain rfl : k = n := by omega
      have hzn : z < 0 := by omega
      clear hK HS2
      gi_wp2
      go_end0
      exact ⟨⟨_, rfl⟩, hJk.out⟩
end Go.Proofs.Ytdheldhecimfnaa
/- slices.Concat of two lists of numbers, by its contract. -/
namespace Go.Proofs.Ytdheldhecimfnaa
open Go Go.RowKit Go.Joins

set_option maxRecDepth 100000 in
set_option maxHeartbeats 1600000 in
theorem concatU2_any (xs ys : List Nat) (a1 a2 : Option Addr) (n1 c1 n2 c2 D : Nat) (w : World) (h1 : Sees w a1 n1 c1 (xs.map nv32)) (h2 : Sees w a2 n2 c2 (ys.map nv32))
    (hD : w.heap[D]? = some (.cells #[.slice a1 n1 c1, .slice a2 n2 c2] 24 (0, 0))) (b1 : n1 ≤ 1048576) (b2 : n2 ≤ 1048576) (x1 : ∀ x ∈ xs, x < 4294967296) (x2 : ∀ x ∈ ys, x < 4294967296) :
    Calls Try.prog 35 #[.slice (some ⟨D, 0, .none⟩) 2 2] w fun e w' => ∃ v, e = .returned v ∧ Row isU32 w' w.heap.size 53 v (n1 + n2) ((xs ++ ys).map nv32) ∧ Below w.heap.size w w' := by
  obtain ⟨i0, hi, hz0, hz1, hz2⟩ := info_parts info_u32
  have q0 := cell_of_block hD 0
  have q1 := cell_of_block hD 1
  have ok (l : List Nat) (h : ∀ x ∈ l, x < 4294967296) : ∀ u ∈ l.map nv32, isU32 u := by
    intro u hu
    obtain ⟨x, hx, rfl⟩ := List.mem_map.1 hu
    exact ⟨x, h x hx, rfl⟩
  have X1 := Lib.hid (ok xs x1)
  have X2 := Lib.hid (ok ys x2)
  have H1 := Lib.hid h1
  have H2 := Lib.hid h2
  have HD := Lib.hid hD
  clear h1 h2 hD ok x1 x2
  have W0 : IntKind.i64.wrap (0 + (n1 : Int)) = (n1 : Int) := by rw [Int.zero_add]; exact IntWalk.i64_in _ (by omega)
  have W1 : IntKind.i64.wrap ((n1 : Int) + (n2 : Int)) = (n1 : Int) + (n2 : Int) := IntWalk.i64_in _ (by omega)
  have e0 : decide ((n1 : Int) < 0) = false := by simp
  have e1 : decide ((n1 : Int) + (n2 : Int) < 0) = false := by simp; omega
  go_enter Try.func35, Try.ntmps35
  go_wp2
  refine wp_loop_rounds 3 ?_
  rw [rounds_succ]
  go_wp2
  rw [rounds_succ]
  go_wp2
  rw [rounds_succ]
  go_wp2_with fail
  rw [show (n1 : Int) + (n2 : Int) = ((n1 + n2 : Nat) : Int) by omega]
  refine (grow_nil (n1 + n2) w (by omega)).mono ?_
  rintro e V0 ⟨v0, rfl, hr0, hb0⟩
  clear W0 W1 e0 e1 q0 q1
  have R0 : Hid (Row isU32 V0 w.heap.size 53 v0 0 ([] : List Value)) := hr0
  have B0 := Lib.hid hb0
  obtain ⟨va0, vc0, rfl⟩ := hr0.form
  have q0 := cell_of_block (heap_below HD.out hb0) 0
  clear hr0 hb0
  go_wp2
  refine wp_loop_rounds 3 ?_
  rw [rounds_succ]
  go_wp2_with (at_builtin; refine wpList_append_row isU32 _ rfl _ _ 24 rfl w.heap.size 53 i0 (.int .u32 0) 4 Try.underlying24 hi hz0 hz1 hz2 rfl zero_isU32 _ _ _ rfl R0.out a1 n1 c1 (xs.map nv32) rfl (H1.out.below B0.out) (nv32_one _) X1.out ?c1 ?c2 ?c3 ?_)
  case c1 => unfold maxLen; omega
  case c2 => omega
  case c3 => exact B0.out.size
  intro v1 V1 hr1 hg1 _
  have hb1 : Below w.heap.size w V1 := B0.out.grown hg1 B0.out.size (fun k hk => (R0.out.own.lt k hk).1)
  have B1 := Lib.hid hb1
  obtain ⟨va1, vc1, rfl⟩ := hr1.form
  have R1 := Lib.hid hr1
  clear hg1 q0
  have q1 := cell_of_block (heap_below HD.out hb1) 1
  clear hr1 hb1
  go_wp2
  rw [rounds_succ]
  go_wp2_with (at_builtin; refine wpList_append_row isU32 _ rfl _ _ 24 rfl w.heap.size 53 i0 (.int .u32 0) 4 Try.underlying24 hi hz0 hz1 hz2 rfl zero_isU32 _ _ _ rfl R1.out a2 n2 c2 (ys.map nv32) rfl (H2.out.below B1.out) (nv32_one _) X2.out ?c1 ?c2 ?c3 ?_)
  case c1 => unfold maxLen; omega
  case c2 => omega
  case c3 => exact B1.out.size
  intro v2 V2 hr2 hg2 _
  have hb2 : Below w.heap.size w V2 := B1.out.grown hg2 B1.out.size (fun k hk => (R1.out.own.lt k hk).1)
  have B2 := Lib.hid hb2
  obtain ⟨va2, vc2, rfl⟩ := hr2.form
  have R2 := Lib.hid hr2
  clear hg2 q1
  clear hr2 hb2
  go_wp2
  rw [rounds_succ]
  go_wp2
  go_ret
  refine ⟨_, rfl, ?_, B2.out⟩
  have h := R2.out
  rw [List.map_append]
  exact h
end Go.Proofs.Ytdheldhecimfnaa
/- Two numbers as an array. -/
namespace Go.Proofs.Ytdheldhecimfnaa
open Go Go.RowKit Go.Joins
/-- A gate's two literals, by place. -/
theorem lit_index (a b x j : Nat) (hj : j < 2) (hx : x = if j = 0 then a else b) (W : World) : (Instr.index 84 (.agg #[.int .u32 a, .int .u32 b]) (.int .i64 j)).run Try.prog W = .ok (.int .u32 x) W := by
  subst hx
  match j, hj with
  | 0, _ => exact Eq.trans (by kernel_rfl : _ = Result.ok (.int .u32 (a : Int)) W) rfl
  | 1, _ => exact Eq.trans (by kernel_rfl : _ = Result.ok (.int .u32 (b : Int)) W) rfl
end Go.Proofs.Ytdheldhecimfnaa
/- norm.Vars and inquestref03.Vars, by their contracts. -/
namespace Go.Proofs.Ytdheldhecimfnaa
open Go Go.RowKit Go.Joins

set_option maxRecDepth 100000 in
set_option maxHeartbeats 1600000 in
theorem vars_any (c : NormC) (s : CSlots) (w : World) (h : SeesCir w s c) (hs : s.small) (hlo : -9223372036854775808 ≤ c.ins) (hhi : c.ins < 9223372036854775808) :
    Calls Try.prog 48 #[cirV c.ins s] w fun e w' => e = .returned (.int .i64 ((varsC c : Nat) : Int)) ∧ Below w.heap.size w w' := by
  have HMAY := Lib.hid (fun W (hb : Below w.heap.size w W) => may3_any c s W (h.below hb) hs hlo hhi)
  have HCNT := Lib.hid (fun (j : Nat) (hj : j ≤ 1048576) W => count_any j s hj hs W)
  have YES := Lib.hid (fun (hm : mayC c = true) (i : Nat) (h0 : (i : Int) = c.ins) => varsC_yes hm h0 h.s1.1 h.s2.1)
  have POS := Lib.hid (fun (hm : mayC c = true) => (mayC_iff.1 hm).pos)
  have NO : Hid (mayC c = false → varsC c = 0) := fun h => by unfold varsC; rw [h]; rfl
  obtain ⟨a1, n1, c1, a2, n2, c2, a3, n3, c3, a4, n4, c4, a5, n5, c5⟩ := s
  obtain ⟨z, hz⟩ : ∃ z, z = c.ins := ⟨_, rfl⟩
  obtain ⟨v, hv⟩ : ∃ v, v = varsC c := ⟨_, rfl⟩
  obtain ⟨q, hq⟩ : ∃ q, q = mayC c := ⟨_, rfl⟩
  rw [← hz, ← hv]
  rw [← hz, ← hq] at HMAY
  rw [← hz, ← hv, ← hq] at YES
  rw [← hz, ← hq] at POS
  rw [← hq, ← hv] at NO
  clear hz hv hq h hs hlo hhi
  unfold cirV at *
  go_enter Try.func48, Try.ntmps48
  go_upto_region 1 with fail
  generalize hW : World.alloc _ _ = W1
  have B1 : Below w.heap.size w W1 := by subst hW; exact ext_alloc _ _
  have hX : W1.heap[w.heap.size]? = some (.cells #[.int .i64 z, .slice a1 n1 c1, .slice a2 n2 c2, .slice a3 n3 c3, .slice a4 n4 c4, .slice a5 n5 c5] 26 (0, 0)) := by subst hW; exact heap_new _ _ _ rfl
  have HX := Lib.hid hX
  have HB := Lib.hid B1
  clear hW B1 hX
  have p0 := cell_of_block HX.out 0
  have p1 := cell_of_block HX.out 1
  have p2 := cell_of_block HX.out 2
  have p3 := cell_of_block HX.out 3
  have p4 := cell_of_block HX.out 4
  have p5 := cell_of_block HX.out 5
  go_wp2_with fail
  refine (HMAY.out W1 HB.out).mono ?_
  rintro e W2 ⟨rfl, hb⟩
  have HX2 := Lib.hid (heap_below HX.out hb)
  have HB2 := Lib.hid (ext_trans HB.out hb)
  clear hb p0 p1 p2 p3 p4 p5
  cases q with
  | false =>
    have N := Lib.hid (NO.out rfl)
    go_wp2
    go_ret
    exact ⟨by rw [N.out]; rfl, HB2.out⟩
  | true =>
    obtain ⟨i, hi⟩ := Int.eq_ofNat_of_zero_le (POS.out rfl)
    have hy := YES.out rfl i hi.symm
    have hi16 : i ≤ 1048576 := by omega
    have HY := Lib.hid hy.1
    clear hy
    subst hi
    have p0 := cell_of_block HX2.out 0
    have p1 := cell_of_block HX2.out 1
    have p2 := cell_of_block HX2.out 2
    have p3 := cell_of_block HX2.out 3
    have p4 := cell_of_block HX2.out 4
    have p5 := cell_of_block HX2.out 5
    go_wp2_with fail
    refine (HCNT.out i hi16 W2).mono ?_
    rintro e W3 ⟨rfl, hb⟩
    have HB3 := Lib.hid (ext_trans HB2.out hb)
    clear hb
    go_wp2
    go_ret
    exact ⟨by rw [HY.out]; simp, HB3.out⟩
end Go.Proofs.Ytdheldhecimfnaa
/- cone.within, by its contract. -/
namespace Go.Proofs.Ytdheldhecimfnaa
open Go Go.RowKit Go.Joins

set_option maxRecDepth 100000 in
set_option maxHeartbeats 3200000 in
theorem within_any (c : NormC) (s : CSlots) (v : Nat) (w : World) (h : SeesCir w s c) (hs : s.small) (hm : MayC c) (hv : v ≤ varsN c) :
    Calls Try.prog 26 #[cirV c.ins s, .int .i64 (v : Int)] w fun e w' => e = .returned (.agg #[.int .u32 ((inW c v).1 : Int), .int .u32 ((inW c v).2 : Int)]) ∧ Below w.heap.size w w' := by
  obtain ⟨i, hi, hi2, hL, hG⟩ := insN hm
  have HF := fun W => cfirstGate_any i s (by omega) hs W
  have hl1 : c.lats.length = s.n1 := h.s1.1
  have hl2 : c.gates.length = s.n2 := h.s2.1
  have hfew := hm.few
  have hvv : v < fstG c + s.n2 := by unfold varsN at hv; unfold fstG; omega
  obtain ⟨FG, hFG⟩ : ∃ FG, FG = 1 + i + s.n1 := ⟨_, rfl⟩
  rw [← hFG] at HF
  have hGG : fstG c = FG := by rw [hG, hFG, hl1]
  have hFGs : FG ≤ 1200000 := by have := hs.n1; omega
  have hvs : v ≤ 16384 := by omega
  have HS := Lib.hid h
  have hinw : inW c v = if FG ≤ v then c.gates.getD (v - FG) (0, 0) else (0, 0) := by unfold inW; rw [hGG]
  obtain ⟨g, hg⟩ : ∃ g, g = inW c v := ⟨_, rfl⟩
  rw [← hg] at hinw ⊢
  obtain ⟨x, y⟩ := g
  have HINW := Lib.hid hinw
  clear hinw hg
  rw [hGG] at hvv
  have HL2 := Lib.hid hl2
  have HGS := Lib.hid hs.n2
  rw [hi]
  have HFF := Lib.hid HF
  clear hi hL hG hl1 hl2 hFG hGG h hs hm hv hfew HF
  obtain ⟨a1, n1, c1, a2, n2, c2, a3, n3, c3, a4, n4, c4, a5, n5, c5⟩ := s
  simp only at hvv HL2 HGS
  unfold cirV at *
  go_enter Try.func26, Try.ntmps26
  go_upto_region 1 with fail
  generalize hW : World.alloc (World.alloc w _) _ = W1
  have B1 : Below w.heap.size w W1 := by subst hW; exact ext_trans (ext_alloc _ _) (ext_alloc _ _)
  have hX : W1.heap[w.heap.size]? = some (.cells #[.int .i64 i, .slice a1 n1 c1, .slice a2 n2 c2, .slice a3 n3 c3, .slice a4 n4 c4, .slice a5 n5 c5] 26 (0, 0)) := by subst hW; exact heap_below (heap_new _ _ _ rfl) (ext_alloc _ _)
  have hY : W1.heap[w.heap.size + 1]? = some (.cells #[.int .u32 0, .int .u32 0] 84 (0, 0)) := by subst hW; exact heap_new _ _ _ (by simp)
  have HX := Lib.hid hX
  have HY := Lib.hid hY
  have HB := Lib.hid B1
  clear hW B1 hX hY
  have p0 : W1.cell? ⟨w.heap.size, 0, none⟩ = some (.int .i64 i) := cell_of_block HX.out 0
  have p1 : W1.cell? ⟨w.heap.size, 1, none⟩ = some (.slice a1 n1 c1) := cell_of_block HX.out 1
  have p2 : W1.cell? ⟨w.heap.size, 2, none⟩ = some (.slice a2 n2 c2) := cell_of_block HX.out 2
  have p3 : W1.cell? ⟨w.heap.size, 3, none⟩ = some (.slice a3 n3 c3) := cell_of_block HX.out 3
  have p4 : W1.cell? ⟨w.heap.size, 4, none⟩ = some (.slice a4 n4 c4) := cell_of_block HX.out 4
  have p5 : W1.cell? ⟨w.heap.size, 5, none⟩ = some (.slice a5 n5 c5) := cell_of_block HX.out 5
  go_wp2_with fail
  refine (HFF.out W1).mono ?_
  rintro e W2 ⟨rfl, hb⟩
  have HX2 := Lib.hid (heap_below HX.out hb)
  have HY2 := Lib.hid (heap_below HY.out hb)
  have HB2 := Lib.hid (ext_trans HB.out hb)
  clear hb p0 p1 p2 p3 p4 p5 HX HY HB HFF
  by_cases hle : FG ≤ v
  · obtain ⟨j, hj⟩ : ∃ j, v = FG + j := ⟨v - FG, by omega⟩
    have W1' : IntKind.i64.wrap ((v : Int) - (FG : Int)) = (j : Int) := by rw [hj, IntWalk.i64_in _ (by omega)]; omega
    have hjn : j < n2 := by omega
    have HR : (x, y) = c.gates.getD j (0, 0) := by rw [HINW.out, if_pos hle, hj, Nat.add_sub_cancel_left]
    obtain ⟨b, off, rfl, hbw⟩ := HS.out.s2.addr (show 0 < n2 by omega)
    obtain ⟨q0, q1⟩ := (HS.out.s2.below HB2.out).cells j hjn (0, 0)
    rw [← HR] at q0 q1
    unfold nv32 at q0 q1
    have p2 : W2.cell? ⟨w.heap.size, 2, none⟩ = some (.slice (some ⟨b, off, none⟩) n2 c2) := cell_of_block HX2.out 2
    have r0 : W2.cell? ⟨w.heap.size + 1, 0, none⟩ = some (.int .u32 0) := cell_of_block HY2.out 0
    have r1 : W2.cell? ⟨w.heap.size + 1, 1, none⟩ = some (.int .u32 0) := cell_of_block HY2.out 1
    have f0 : W2.frozen? ⟨w.heap.size + 1, 0, none⟩ = false := unfrozen_of_block HY2.out 0
    have f1 : W2.frozen? ⟨w.heap.size + 1, 1, none⟩ = false := unfrozen_of_block HY2.out 1
    have hjz : (0 : Int) ≤ (j : Int) := by omega
    clear HR HINW HS hj hle hbw HL2
    go_wp2_with fail
    go_region
    all_goals go_wp2
    have h6 : (((W2.setCell ⟨w.heap.size + 1, 0, none⟩ (.int .u32 (x : Int))).setCell ⟨w.heap.size + 1, 1, none⟩ (.int .u32 (y : Int))).drew).heap[w.heap.size + 1]? = some (.cells #[.int .u32 (x : Int), .int .u32 (y : Int)] 84 (0, 0)) := two_set HY2.out rfl _ _
    have g0 := cell_of_block h6 0
    have g1 := cell_of_block h6 1
    refine bodyPost_ret (v := .agg #[.int .u32 (x : Int), .int .u32 (y : Int)]) ?_ rfl ?_
    · simp [results, Try.results26, go_sem, g0, g1]
    · exact ⟨rfl, ((HB2.out.setCell (p := ⟨w.heap.size + 1, 0, none⟩) (by simp) _).setCell (p := ⟨w.heap.size + 1, 1, none⟩) (by simp) _).drew⟩
  · obtain ⟨z, hz⟩ : ∃ z : Int, z = (v : Int) - (FG : Int) := ⟨_, rfl⟩
    have W1' : IntKind.i64.wrap ((v : Int) - (FG : Int)) = z := by rw [IntWalk.i64_in _ (by omega), hz]
    have hz0 : z < 0 := by omega
    have HR : (x, y) = (0, 0) := by rw [HINW.out, if_neg hle]
    obtain ⟨rfl, rfl⟩ : x = 0 ∧ y = 0 := by cases HR; exact ⟨rfl, rfl⟩
    have r0 : W2.cell? ⟨w.heap.size + 1, 0, none⟩ = some (.int .u32 0) := cell_of_block HY2.out 0
    have r1 : W2.cell? ⟨w.heap.size + 1, 1, none⟩ = some (.int .u32 0) := cell_of_block HY2.out 1
    have f0 : W2.frozen? ⟨w.heap.size + 1, 0, none⟩ = false := unfrozen_of_block HY2.out 0
    have f1 : W2.frozen? ⟨w.heap.size + 1, 1, none⟩ = false := unfrozen_of_block HY2.out 1
    clear HR HINW HS hz hle HL2
    go_wp2
    have h6 : ((W2.setCell ⟨w.heap.size + 1, 0, none⟩ (.int .u32 0)).setCell ⟨w.heap.size + 1, 1, none⟩ (.int .u32 0)).heap[w.heap.size + 1]? = some (.cells #[.int .u32 0, .int .u32 0] 84 (0, 0)) := two_set HY2.out rfl _ _
    have g0 := cell_of_block h6 0
    have g1 := cell_of_block h6 1
    refine bodyPost_ret (v := .agg #[.int .u32 0, .int .u32 0]) ?_ rfl ?_
    · simp [results, Try.results26, go_sem, g0, g1]
    · exact ⟨rfl, (HB2.out.setCell (p := ⟨w.heap.size + 1, 0, none⟩) (by simp) _).setCell (p := ⟨w.heap.size + 1, 1, none⟩) (by simp) _⟩
end Go.Proofs.Ytdheldhecimfnaa
/- What the search for what is reached keeps, on plain lists. -/
namespace Go.Proofs.Ytdheldhecimfnaa
open Go Go.RowKit

/-- One more literal: the marks; those that wait. -/
def addM (M : List Bool) (x : Nat) : List Bool := if 0 < x / 2 ∧ M.getD (x / 2) false = false then M.set (x / 2) true else M
def addQ (M : List Bool) (Q : List Nat) (x : Nat) : List Nat := if 0 < x / 2 ∧ M.getD (x / 2) false = false then Q ++ [x / 2] else Q
theorem addM_len (M : List Bool) (x : Nat) : (addM M x).length = M.length := by unfold addM; split <;> simp

structure RCore (nd : Nat → Nat × Nat) (roots : List Nat) (n : Nat) (M : List Bool) (Q : List Nat) : Prop where
  len : M.length = n
  mem : ∀ v, M.getD v false = true ↔ v ∈ Q
  cnt : Q.length = M.count true
  pos : ∀ v ∈ Q, 0 < v
  snd : ∀ v ∈ Q, Rch nd roots v
section
variable {nd : Nat → Nat × Nat} {roots : List Nat} {n : Nat} {M : List Bool} {Q : List Nat}
theorem RCore.zero : RCore nd roots n (List.replicate n false) [] :=
  ⟨by simp, (fun v => by simp [List.getD, List.getElem?_replicate]; split <;> simp), by simp [List.count_replicate], (fun v h => by cases h), (fun v h => by cases h)⟩
theorem RCore.qlen (h : RCore nd roots n M Q) : Q.length ≤ n := by
  rw [h.cnt, ← h.len]
  exact List.count_le_length
theorem RCore.lt (h : RCore nd roots n M Q) : ∀ v ∈ Q, v < n := fun v hv => by
  rw [← h.len]
  exact getD_true_lt ((h.mem v).2 hv)
theorem RCore.add (h : RCore nd roots n M Q) (x : Nat) (hx : x / 2 < n) (hr : 0 < x / 2 → Rch nd roots (x / 2)) :
    RCore nd roots n (addM M x) (addQ M Q x) ∧ Q <+: addQ M Q x ∧ (0 < x / 2 → x / 2 ∈ addQ M Q x) := by
  unfold addM addQ
  split
  · rename_i h1
    refine ⟨⟨by rw [List.length_set]; exact h.len, fun v => ?_, ?_, fun v hv => ?_, fun v hv => ?_⟩, List.prefix_append _ _, fun _ => by simp⟩
    · rw [List.mem_append, List.mem_singleton, ← h.mem v]
      by_cases e : x / 2 = v
      · subst e
        simp [List.getD, h.len, hx]
      · have e2 : v ≠ x / 2 := fun h => e h.symm
        simp [List.getD, e, e2]
    · have hl : x / 2 < M.length := by rw [h.len]; exact hx
      have h2 : M[x / 2] = false := by
        have := h1.2
        simpa [List.getD, List.getElem?_eq_getElem hl] using this
      rw [List.count_set hl, h2, List.length_append, h.cnt]
      simp
    · rcases List.mem_append.1 hv with h2 | h2
      · exact h.pos v h2
      · rw [List.mem_singleton.1 h2]; exact h1.1
    · rcases List.mem_append.1 hv with h2 | h2
      · exact h.snd v h2
      · rw [List.mem_singleton.1 h2]; exact hr h1.1
  · rename_i h1
    refine ⟨h, List.prefix_refl _, fun h0 => (h.mem _).1 ?_⟩
    cases hb : M.getD (x / 2) false with
    | true => rfl
    | false => exact absurd ⟨h0, hb⟩ h1
end

/-- Is all there that a variable needs? -/
def Ok2 (nd : Nat → Nat × Nat) (Q : List Nat) (v : Nat) : Prop := (0 < (nd v).1 / 2 → (nd v).1 / 2 ∈ Q) ∧ (0 < (nd v).2 / 2 → (nd v).2 / 2 ∈ Q)
def nd2 (nd : Nat → Nat × Nat) (v p : Nat) : Nat := if p = 0 then (nd v).1 else (nd v).2
theorem Ok2.mono {nd : Nat → Nat × Nat} {Q Q' : List Nat} {v : Nat} (h : Ok2 nd Q v) (hq : Q <+: Q') : Ok2 nd Q' v := ⟨fun h0 => hq.subset (h.1 h0), fun h0 => hq.subset (h.2 h0)⟩
theorem prefix_getD {Q Q' : List Nat} (h : Q <+: Q') {j : Nat} (hj : j < Q.length) : Q'.getD j 0 = Q.getD j 0 := by
  obtain ⟨r, rfl⟩ := h
  simp [List.getD, List.getElem?_append_left hj]
/-- k roots, and i of those that wait, are done. -/
structure RInv (nd : Nat → Nat × Nat) (roots : List Nat) (n : Nat) (M : List Bool) (Q : List Nat) (k i : Nat) : Prop where
  core : RCore nd roots n M Q
  rts : ∀ x ∈ roots.take k, 0 < x / 2 → x / 2 ∈ Q
  le : i ≤ Q.length
  cls : ∀ j, j < i → Ok2 nd Q (Q.getD j 0)
/-- Of the next one p needs are done, too. -/
structure RMid (nd : Nat → Nat × Nat) (roots : List Nat) (n : Nat) (M : List Bool) (Q : List Nat) (i v p : Nat) : Prop where
  inv : RInv nd roots n M Q roots.length i
  lt : i < Q.length
  eq : Q.getD i 0 = v
  some : ∀ q, q < p → 0 < nd2 nd v q / 2 → nd2 nd v q / 2 ∈ Q
section
variable {nd : Nat → Nat × Nat} {roots : List Nat} {n : Nat} {M : List Bool} {Q : List Nat}
theorem RInv.zero : RInv nd roots n (List.replicate n false) [] 0 0 := ⟨RCore.zero, fun x h => by simp at h, Nat.zero_le _, fun j h => by omega⟩
theorem RInv.root {k : Nat} (h : RInv nd roots n M Q k 0) (hk : k < roots.length) {x : Nat} (hx : x = roots.getD k 0) (hn : x / 2 < n) : RInv nd roots n (addM M x) (addQ M Q x) (k + 1) 0 := by
  have hm : x ∈ roots := by rw [hx]; exact getD_mem hk
  obtain ⟨h1, h2, h3⟩ := h.core.add x hn (fun h0 => Rch.root hm h0)
  refine ⟨h1, fun y hy h0 => ?_, Nat.zero_le _, fun j hj => by omega⟩
  rw [take_snocN _ _ hk] at hy
  rcases List.mem_append.1 hy with h4 | h4
  · exact h2.subset (h.rts y h4 h0)
  · rw [List.mem_singleton.1 h4, ← hx] at h0 ⊢
    exact h3 h0
theorem RInv.mid {i : Nat} (h : RInv nd roots n M Q roots.length i) (hi : i < Q.length) : RMid nd roots n M Q i (Q.getD i 0) 0 := ⟨h, hi, rfl, fun q hq => by omega⟩
theorem RMid.step {i v p : Nat} (h : RMid nd roots n M Q i v p) {x : Nat} (hx : x = nd2 nd v p) (hn : x / 2 < n) : RMid nd roots n (addM M x) (addQ M Q x) i v (p + 1) := by
  have hv : Rch nd roots v := by rw [← h.eq]; exact h.inv.core.snd _ (getD_mem h.lt)
  obtain ⟨h1, h2, h3⟩ := h.inv.core.add x hn (fun h0 => by
    rw [hx] at h0 ⊢
    unfold nd2 at h0 ⊢
    split at h0
    · rename_i e; rw [if_pos e]; exact hv.fst h0
    · rename_i e; rw [if_neg e]; exact hv.snd h0)
  have hl := h2.length_le
  refine ⟨⟨h1, fun y hy h0 => h2.subset (h.inv.rts y hy h0), Nat.le_trans h.inv.le hl, fun j hj => ?_⟩, Nat.lt_of_lt_of_le h.lt hl, by rw [prefix_getD h2 h.lt]; exact h.eq, fun q hq h0 => ?_⟩
  · rw [prefix_getD h2 (by have := h.lt; omega)]
    exact (h.inv.cls j hj).mono h2
  · rcases Nat.lt_or_ge q p with h4 | h4
    · exact h2.subset (h.some q h4 h0)
    · obtain rfl : q = p := by omega
      rw [← hx] at h0 ⊢
      exact h3 h0
theorem RMid.next {i v : Nat} (h : RMid nd roots n M Q i v 2) : RInv nd roots n M Q roots.length (i + 1) := by
  refine ⟨h.inv.core, h.inv.rts, h.lt, fun j hj => ?_⟩
  rcases Nat.lt_or_ge j i with h1 | h1
  · exact h.inv.cls j h1
  · obtain rfl : j = i := by omega
    rw [h.eq]
    exact ⟨fun h0 => h.some 0 (by omega) h0, fun h0 => h.some 1 (by omega) h0⟩
theorem RInv.done (h : RInv nd roots n M Q roots.length Q.length) : IsCone nd roots n M := by
  have hi : ∀ u, M.getD u false = true → Ok2 nd Q u := fun u hu => by
    obtain ⟨j, hj, rfl⟩ := List.mem_iff_getElem.1 ((h.core.mem u).1 hu)
    have := h.cls j hj
    simpa [List.getD, List.getElem?_eq_getElem hj] using this
  refine IsCone.of h.core.len (fun v _ hv => h.core.snd v ((h.core.mem v).1 hv)) (fun x hx h0 => (h.core.mem _).2 (h.rts x (by rw [List.take_of_length_le (Nat.le_refl _)]; exact hx) h0)) (fun u hu h0 => (h.core.mem _).2 ((hi u hu).1 h0)) (fun u hu h0 => (h.core.mem _).2 ((hi u hu).2 h0))
end
end Go.Proofs.Ytdheldhecimfnaa
/- cone.reach's closure, by its contract: it marks a literal's variable, and lets it wait. -/
namespace Go.Proofs.Ytdheldhecimfnaa
open Go Go.RowKit Go.Joins

theorem info_i64c : (Try.prog.info? 3).map (fun i => (i.zero, i.size, i.bytes)) = some (some (.int .i64 0), 1, 8) := by kernel_rfl
/-- What lies in memory in a search. -/
structure RSt (z : Int) (s : CSlots) (w0 : World) (g D7 D8 n : Nat) (w : World) (M : List Bool) (Q : List Nat) : Prop where
  low : Below w0.heap.size w0 w
  cir : w.heap[w0.heap.size]? = some (.cells (cirCells z s) 26 (0, 0))
  ml : M.length = n
  mb : w.heap[D7]? = some (.cells #[.slice (some ⟨g, 0, none⟩) n n] 33 (0, 0))
  mr : w.heap[g]? = some (.cells (bcells M) 4 (0, 0))
  qb : ∃ v, w.heap[D8]? = some (.cells #[v] 82 (0, 0)) ∧ w.ownsRow w0.heap.size 3 1 v Q.length (Q.map iv)
  g0 : w0.heap.size ≤ g
  d7 : w0.heap.size ≤ D7
  d8 : w0.heap.size ≤ D8
theorem RSt.below {z : Int} {s : CSlots} {w0 : World} {g D7 D8 n : Nat} {w w' : World} {M : List Bool} {Q : List Nat} (h : RSt z s w0 g D7 D8 n w M Q) (hb : Below w.heap.size w w') : RSt z s w0 g D7 D8 n w' M Q := by
  obtain ⟨v, h1, h2⟩ := h.qb
  exact ⟨ext_trans h.low hb, heap_below h.cir hb, h.ml, heap_below h.mb hb, heap_below h.mr hb, ⟨v, heap_below h1 hb, ownsN_below h2 hb⟩, h.g0, h.d7, h.d8⟩
/-- What the search answers. -/
def ReachPost (nd : Nat → Nat × Nat) (roots : List Nat) (n : Nat) (w : World) (e : Ending) (w' : World) : Prop :=
  ∃ (M : List Bool) (g : Nat), e = .returned (.slice (some ⟨g, 0, none⟩) n n) ∧ IsCone nd roots n M ∧ w'.heap[g]? = some (.cells (bcells M) 4 (0, 0)) ∧ w.heap.size ≤ g ∧ Below w.heap.size w w'

set_option maxRecDepth 100000 in
set_option maxHeartbeats 3200000 in
theorem radd_any (z : Int) (s : CSlots) (w0 : World) (g D7 D8 n : Nat) (w : World) (M : List Bool) (Q : List Nat) (x : Nat) (h : RSt z s w0 g D7 D8 n w M Q) (hx : x / 2 < n) (hn : n ≤ 1000000) (hq : Q.length ≤ 1000000) :
    Calls Try.prog 51 #[.int .u32 (x : Int), .pointer (some ⟨D7, 0, none⟩), .pointer (some ⟨D8, 0, none⟩)] w fun e w' => e = .returned (.tuple #[]) ∧ RSt z s w0 g D7 D8 n w' (addM M x) (addQ M Q x) := by
  obtain ⟨i0, hi, hz0, hz1, hz2⟩ := info_parts info_i64c
  obtain ⟨v, hv, hrow⟩ := h.qb
  obtain ⟨va, vc, rfl⟩ := ownsN_form hrow
  have m0 : w.cell? ⟨D7, 0, none⟩ = some (.slice (some ⟨g, 0, none⟩) n n) := cell_of_block h.mb 0
  have q0 : w.cell? ⟨D8, 0, none⟩ = some (.slice va Q.length vc) := cell_of_block hv 0
  have qf : w.frozen? ⟨D8, 0, none⟩ = false := unfrozen_of_block hv 0
  obtain ⟨y, hy⟩ : ∃ y, y = x / 2 := ⟨_, rfl⟩
  have W1 : wrap64 ((x : Int) / 2) = (y : Int) := by rw [hy, IntWalk.wrap64_in _ (by omega)]; omega
  have HM : Hid (addM M x = if 0 < y ∧ M.getD y false = false then M.set y true else M) := by unfold Hid addM; rw [hy]
  have HQ : Hid (addQ M Q x = if 0 < y ∧ M.getD y false = false then Q ++ [y] else Q) := by unfold Hid addQ; rw [hy]
  rw [← hy] at hx
  have c0 : w.cell? ⟨g, y, none⟩ = some (.bool (M.getD y false)) := (cell_of_block h.mr y).trans (bcells_get M y (by rw [h.ml]; exact hx))
  have cf : w.frozen? ⟨g, y, none⟩ = false := unfrozen_of_block h.mr y
  obtain ⟨b, hb⟩ : ∃ b, b = M.getD y false := ⟨_, rfl⟩
  rw [← hb] at c0 HM HQ
  obtain ⟨M2, hM2⟩ : ∃ M2, M2 = addM M x := ⟨_, rfl⟩
  obtain ⟨Q2, hQ2⟩ : ∃ Q2, Q2 = addQ M Q x := ⟨_, rfl⟩
  rw [← hM2] at HM ⊢
  rw [← hQ2] at HQ ⊢
  have H := Lib.hid h
  have HV := Lib.hid hv
  have HR := Lib.hid hrow
  clear hb hM2 hQ2 h hv hrow hy
  by_cases h0 : 0 < y
  · cases b with
    | true =>
      have e1 : M2 = M := by rw [HM.out, if_neg (by simp)]
      have e2 : Q2 = Q := by rw [HQ.out, if_neg (by simp)]
      subst e1
      subst e2
      go_enter Try.func51, Try.ntmps51
      go_wp2
      go_end0
      exact ⟨rfl, H.out⟩
    | false =>
      have e1 : M2 = M.set y true := by rw [HM.out, if_pos ⟨h0, rfl⟩]
      have e2 : Q2 = Q ++ [y] := by rw [HQ.out, if_pos ⟨h0, rfl⟩]
      obtain ⟨w1, hw1⟩ : ∃ w1, w1 = w.setCell ⟨g, y, none⟩ (.bool true) := ⟨_, rfl⟩
      have hmr : w1.heap[g]? = some (.cells (bcells (M.set y true)) 4 (0, 0)) := by
        have := block_setCell H.out.mr (i := y) (.bool true)
        rw [bcells_set] at this
        rw [hw1]; exact this
      have oth : ∀ D, D ≠ g → w1.heap[D]? = w.heap[D]? := fun D hD => by rw [hw1]; exact Below.heap_setCell w ⟨g, y, none⟩ _ D hD
      have gne : ∀ {D : Nat} {C : Array Value} {t : TypeId} {fr : Nat × Nat}, w.heap[D]? = some (.cells C t fr) → t ≠ 4 → D ≠ g := fun hD ht e => by
        subst e
        rw [H.out.mr] at hD
        cases hD
        exact ht rfl
      have hcir := (oth _ (gne H.out.cir (by decide))).trans H.out.cir
      have hmb := (oth _ (gne H.out.mb (by decide))).trans H.out.mb
      have hqb := (oth _ (gne HV.out (by decide))).trans HV.out
      have hqr : w1.ownsRow w0.heap.size 3 1 (.slice va Q.length vc) Q.length (Q.map iv) := ownsN_other HR.out fun k hk => oth k (fun e => (ownsN_notown HR.out H.out.mr (by decide)) (by rw [hk, e]))
      have hlow : Below w0.heap.size w0 w1 := by rw [hw1]; exact H.out.low.setCell (p := ⟨g, y, none⟩) H.out.g0 _
      have r0 : w1.cell? ⟨D8, 0, none⟩ = some (.slice va Q.length vc) := cell_of_block hqb 0
      have HML : Hid ((M.set y true).length = n) := by unfold Hid; rw [List.length_set]; exact H.out.ml
      have HCIR := Lib.hid hcir
      have HMB := Lib.hid hmb
      have HQB := Lib.hid hqb
      have HQR := Lib.hid hqr
      have HMR := Lib.hid hmr
      have HLOW := Lib.hid hlow
      have HW1 := Lib.hid hw1
      have E1 := Lib.hid e1
      have E2 := Lib.hid e2
      have HG := Lib.hid (And.intro H.out.g0 (And.intro H.out.d7 H.out.d8))
      clear hcir hmb hqb hqr hmr hlow oth gne hw1 e1 e2 HM HQ H HV HR
      go_enter Try.func51, Try.ntmps51
      go_upto_region 3 with fail
      rw [← HW1.out]
      clear m0 q0 qf c0 cf HW1
      go_wp2_with (at_builtin; refine wpList_append_own_at _ rfl _ _ 82 rfl w0.heap.size 3 i0 (.int .i64 0) 1 8 Try.underlying82 hi hz0 hz1 hz2 rfl (by decide) (.slice va Q.length vc) Q.length (Q.map iv) rfl (ownsN_below HQR.out (ext_alloc _ _)) ⟨w1.heap.size, 0, none⟩ 1 1 [.int .i64 (y : Int)] rfl rfl (cell_one_new _ _ _) (by simp [Value.oneCell']) ?c4 ?c5 ?c6 ?_)
      case c4 => unfold maxLen; omega
      case c5 => omega
      case c6 => have := HLOW.out.size; simp; omega
      intro v' w2 hown' hgrow _ _
      have hal := ext_alloc w1 (.cells #[.int .i64 (y : Int)] 3)
      have hro := ownsN_below HQR.out hal
      have hcir := heap_below HCIR.out hal
      have hmb := heap_below HMB.out hal
      have hmr := heap_below HMR.out hal
      have hqb := heap_below HQB.out hal
      have hlow := ext_trans HLOW.out hal
      generalize hWA : w1.alloc (.cells #[.int .i64 (y : Int)] 3) = WA at hgrow hal hro hcir hmb hmr hqb hlow
      have HCIR2 := Lib.hid (heap_grown hcir hgrow (ownsN_notown hro hcir (by decide)))
      have HMB2 := Lib.hid (heap_grown hmb hgrow (ownsN_notown hro hmb (by decide)))
      have HMR2 := Lib.hid (heap_grown hmr hgrow (ownsN_notown hro hmr (by decide)))
      have hqb2 := heap_grown hqb hgrow (ownsN_notown hro hqb (by decide))
      have HLOW2 := Lib.hid (hlow.grown hgrow hlow.size (fun q hq => (hro.lt q hq).1))
      have e1 : Q.map iv ++ [.int .i64 (y : Int)] = (Q ++ [y]).map iv := by simp [iv]
      rw [e1] at hown'
      have HO1 : Hid (w2.ownsRow w0.heap.size 3 1 v' (Q ++ [y]).length ((Q ++ [y]).map iv)) := by unfold Hid; simpa using hown'
      obtain ⟨gx, gxc, rfl⟩ := ownsN_form HO1.out
      rw [← E2.out] at HO1 ⊢
      have HQB2 := Lib.hid hqb2
      have d0 : w2.cell? ⟨D8, 0, none⟩ = some (.slice va Q.length vc) := cell_of_block hqb2 0
      have d1 : w2.frozen? ⟨D8, 0, none⟩ = false := unfrozen_of_block hqb2 0
      clear hal hro hcir hmb hmr hqb hlow hWA hown' hgrow e1 hqb2 HCIR HMB HMR HQB HQR HLOW r0
      go_wp2
      go_end0
      have oth : ∀ D, D ≠ D8 → (w2.setCell ⟨D8, 0, none⟩ (.slice gx Q2.length gxc)).heap[D]? = w2.heap[D]? := fun D hD => Below.heap_setCell w2 ⟨D8, 0, none⟩ _ D hD
      have gne : ∀ {D : Nat} {C : Array Value} {t : TypeId} {fr : Nat × Nat}, w2.heap[D]? = some (.cells C t fr) → t ≠ 82 → D ≠ D8 := fun hD ht e => by
        subst e
        rw [HQB2.out] at hD
        cases hD
        exact ht rfl
      have hbx := block_setCell HQB2.out (i := 0) (.slice gx Q2.length gxc)
      refine ⟨rfl, HLOW2.out.setCell (p := ⟨D8, 0, none⟩) HG.out.2.2 _, (oth _ (gne HCIR2.out (by decide))).trans HCIR2.out, by rw [E1.out]; exact HML.out, (oth _ (gne HMB2.out (by decide))).trans HMB2.out, by rw [E1.out]; exact (oth _ (gne HMR2.out (by decide))).trans HMR2.out, ⟨.slice gx Q2.length gxc, by simpa using hbx, ownsN_other HO1.out fun k hk => oth k (fun e => (ownsN_notown HO1.out HQB2.out (by decide)) (by rw [hk, e]))⟩, HG.out.1, HG.out.2.1, HG.out.2.2⟩
  · have e1 : M2 = M := by rw [HM.out, if_neg (by omega)]
    have e2 : Q2 = Q := by rw [HQ.out, if_neg (by omega)]
    have h00 : y = 0 := by omega
    subst h00
    subst e1
    subst e2
    go_enter Try.func51, Try.ntmps51
    go_wp2
    go_end0
    exact ⟨rfl, H.out⟩
end Go.Proofs.Ytdheldhecimfnaa
/- cone.reach with cone.within, by its contract. -/
namespace Go.Proofs.Ytdheldhecimfnaa
open Go Go.RowKit Go.Joins

set_option maxRecDepth 100000 in
set_option maxHeartbeats 6400000 in
theorem reachW_any (c : NormC) (lits : List Nat) (s : CSlots) (a : Option Addr) (n cp : Nat) (w : World) (h : SeesCir w s c) (hs : s.small) (hlo : -9223372036854775808 ≤ c.ins) (hhi : c.ins < 9223372036854775808) (hm : MayC c) (hl : Sees w a n cp (lits.map nv32)) (hn : n ≤ 1048576) (hx : ∀ x ∈ lits, x / 2 ≤ varsN c) :
    Calls Try.prog 25 #[cirV c.ins s, .slice a n cp, .func (.func 26) #[] #[]] w (ReachPost (inW c) lits (1 + varsN c) w) := by
  obtain ⟨i0, hi, hz0, hz1, hz2⟩ := info_parts info_bool
  have HVARS := fun W (hb : Below w.heap.size w W) => vars_any c s W (h.below hb) hs hlo hhi
  have HNEED := fun (v : Nat) (hv : v ≤ varsN c) W (hb : Below w.heap.size w W) => within_any c s v W (h.below hb) hs hm hv
  have HND : Hid (∀ v, (inW c v).1 / 2 ≤ varsN c ∧ (inW c v).2 / 2 ≤ varsN c) := inW_lt hm
  have hvc : varsC c = varsN c := by unfold varsC; rw [if_pos (mayC_iff.2 hm)]
  rw [hvc] at HVARS
  have hV : varsN c ≤ 16384 := hm.few
  obtain ⟨nd, hnd⟩ : ∃ nd, nd = inW c := ⟨_, rfl⟩
  rw [← hnd] at HNEED HND ⊢
  obtain ⟨V, hVV⟩ : ∃ V, V = varsN c := ⟨_, rfl⟩
  rw [← hVV] at HVARS HNEED HND hV hx ⊢
  obtain ⟨N, hN⟩ : ∃ N, N = 1 + V := ⟨_, rfl⟩
  rw [← hN]
  have hN2 : N ≤ 16385 := by omega
  have HNV : Hid (∀ x : Nat, x ≤ V ↔ x < N) := fun x => by omega
  have W0 : IntKind.i64.wrap ((1 : Int) + (V : Int)) = (N : Int) := by rw [IntWalk.i64_in _ (by omega)]; omega
  obtain ⟨z, hz⟩ : ∃ z, z = c.ins := ⟨_, rfl⟩
  rw [← hz] at HVARS HNEED ⊢
  have mk := fun W => run_make_n (P := Try.prog) Try.underlying33 hi hz0 hz1 hz2 rfl N (by omega) (by omega) W
  rw [bcells_zero] at mk
  have HLEN : Hid (lits.length = n) := hl.lenMap
  have HL := Lib.hid hl
  have HX := Lib.hid hx
  have HVA := Lib.hid HVARS
  have HNE := Lib.hid HNEED
  have HADD := Lib.hid (fun (g D7 D8 : Nat) (W : World) (M : List Bool) (Q : List Nat) (x : Nat) (hst : RSt z s w g D7 D8 N W M Q) (hx : x / 2 < N) (hq : Q.length ≤ 1000000) => radd_any z s w g D7 D8 N W M Q x hst hx (by omega) hq)
  clear hnd hVV hN hz hvc h hs hlo hhi hm hl hx HVARS HNEED
  unfold cirV at *
  go_enter Try.func25, Try.ntmps25
  go_upto_region 1 with fail
  generalize hW : World.alloc w _ = W1
  have hX : W1.heap[w.heap.size]? = some (.cells (cirCells z s) 26 (0, 0)) := by subst hW; exact heap_new _ _ _ rfl
  have HCX := Lib.hid hX
  have HB := Lib.hid (show Below w.heap.size w W1 by subst hW; exact ext_alloc _ _)
  clear hW hX
  have p0 : W1.cell? ⟨w.heap.size, 0, none⟩ = some (.int .i64 z) := cell_of_block HCX.out 0
  have p1 : W1.cell? ⟨w.heap.size, 1, none⟩ = some (.slice s.a1 s.n1 s.c1) := cell_of_block HCX.out 1
  have p2 : W1.cell? ⟨w.heap.size, 2, none⟩ = some (.slice s.a2 s.n2 s.c2) := cell_of_block HCX.out 2
  have p3 : W1.cell? ⟨w.heap.size, 3, none⟩ = some (.slice s.a3 s.n3 s.c3) := cell_of_block HCX.out 3
  have p4 : W1.cell? ⟨w.heap.size, 4, none⟩ = some (.slice s.a4 s.n4 s.c4) := cell_of_block HCX.out 4
  have p5 : W1.cell? ⟨w.heap.size, 5, none⟩ = some (.slice s.a5 s.n5 s.c5) := cell_of_block HCX.out 5
  go_wp2_with fail
  refine (HVA.out W1 HB.out).mono ?_
  rintro e W2 ⟨rfl, hb⟩
  have HCX2 := Lib.hid (heap_below HCX.out hb)
  have HB2 := Lib.hid (ext_trans HB.out hb)
  clear hb p0 p1 p2 p3 p4 p5 HCX HB HVA
  go_upto_region 4 with fail
  have hw1 := ext_alloc W2 (.cells (bcells (List.replicate N false)) 4)
  have hw2 := ext_trans hw1 (ext_alloc (W2.alloc (.cells (bcells (List.replicate N false)) 4)) (.cells #[.slice (some ⟨W2.heap.size, 0, none⟩) N N] 33))
  have hr1 : ((W2.alloc (.cells (bcells (List.replicate N false)) 4)).alloc (.cells #[.slice (some ⟨W2.heap.size, 0, none⟩) N N] 33)).heap[W2.heap.size]? = some (.cells (bcells (List.replicate N false)) 4 (0, 0)) := heap_below (heap_new _ _ _ rfl) (ext_alloc _ _)
  have hr2 : ((W2.alloc (.cells (bcells (List.replicate N false)) 4)).alloc (.cells #[.slice (some ⟨W2.heap.size, 0, none⟩) N N] 33)).heap[W2.heap.size + 1]? = some (.cells #[.slice (some ⟨W2.heap.size, 0, none⟩) N N] 33 (0, 0)) := heap_new _ _ _ (by simp)
  have hsz : ((W2.alloc (.cells (bcells (List.replicate N false)) 4)).alloc (.cells #[.slice (some ⟨W2.heap.size, 0, none⟩) N N] 33)).heap.size = W2.heap.size + 1 + 1 := by simp
  generalize hWA : (W2.alloc (.cells (bcells (List.replicate N false)) 4)).alloc (.cells #[.slice (some ⟨W2.heap.size, 0, none⟩) N N] 33) = WA at hw2 hr1 hr2 hsz ⊢
  have hr3 : (WA.alloc (.cells #[.slice none 0 0] 82)).heap[W2.heap.size + 1 + 1]? = some (.cells #[.slice none 0 0] 82 (0, 0)) := heap_new _ _ _ hsz.symm
  have hw3 := ext_alloc WA (.cells #[.slice none 0 0] 82)
  have HST : Hid (RSt z s w W2.heap.size (W2.heap.size + 1) (W2.heap.size + 1 + 1) N (WA.alloc (.cells #[.slice none 0 0] 82)) (List.replicate N false) []) := by
    have h0 := HB2.out.size
    exact ⟨ext_trans HB2.out (ext_trans hw2 hw3), heap_below HCX2.out (ext_trans hw2 hw3), by simp, heap_below hr2 hw3, heap_below hr1 hw3, ⟨.slice none 0 0, hr3, ⟨rfl, .inl ⟨rfl, rfl⟩⟩⟩, h0, by omega, by omega⟩
  obtain ⟨g, hg⟩ : ∃ g, g = W2.heap.size := ⟨_, rfl⟩
  obtain ⟨D7, hD7⟩ : ∃ D7, D7 = W2.heap.size + 1 := ⟨_, rfl⟩
  obtain ⟨D8, hD8⟩ : ∃ D8, D8 = W2.heap.size + 1 + 1 := ⟨_, rfl⟩
  rw [← hD8, ← hD7, ← hg] at HST ⊢
  generalize hWB : WA.alloc (.cells #[.slice none 0 0] 82) = WB at HST ⊢
  clear hWB hWA hw1 hw2 hw3 hr1 hr2 hr3 hsz hg hD7 hD8 mk W0 HCX2 HB2
  go_wp2
  go_loopw [22, 11] (fun iv xv wr => ∃ (k : Nat) (M : List Bool) (Q : List Nat), k ≤ n ∧ iv = .int .i64 k ∧ Hid (RInv nd lits N M Q k 0) ∧ Hid (RSt z s w g D7 D8 N wr M Q)) (fun iv _ _ => n - (intOf iv).toNat)
  case atStart => exact ⟨0, List.replicate N false, [], Nat.zero_le _, rfl, RInv.zero, HST.out⟩
  case round =>
    clear HST
    obtain ⟨k, M, Q, hk, rfl, hI, hS⟩ := hrel
    by_cases hlt : k < n
    · obtain ⟨b, off, rfl, hbw⟩ := HL.out.addr (show 0 < n by omega)
      have hcx := (HL.out.below hS.out.low).num k hlt
      have hxn := (HNV.out _).1 (HX.out (lits.getD k 0) (by have := HLEN.out; exact getD_mem (by omega)))
      obtain ⟨x, hx⟩ : ∃ x, x = lits.getD k 0 := ⟨_, rfl⟩
      rw [← hx] at hcx hxn
      have HC := Lib.hid (HADD.out g D7 D8 wr M Q x hS.out hxn (by have := hI.out.core.qlen; omega))
      have HI2 := Lib.hid (hI.out.root (by have := HLEN.out; omega) hx hxn)
      have W1' : IntKind.i64.wrap ((k : Int) + 1) = (k : Int) + 1 := IntWalk.i64_in _ (by omega)
      clear hx hxn hI hS hbw
      go_wp2_with fail
      refine HC.out.mono ?_
      rintro e w2 ⟨rfl, hS2⟩
      have HS2 := Lib.hid hS2
      clear hS2 HC
      go_wp2
      go_roundw
      case rel => exact ⟨k + 1, addM M x, addQ M Q x, by omega, by go_num, HI2.out, HS2.out⟩
      case measure => simp [intOf]; omega
    · obtain rfl : n = k := by omega
      have HI0 : Hid (RInv nd lits N M Q lits.length 0) := by unfold Hid; rw [HLEN.out]; exact hI.out
      have HS0 := Lib.hid hS.out
      clear hI hS
      go_wp2
      go_loopw [12, 14, 43] (fun iv _ _ wr => ∃ (i : Nat) (M : List Bool) (Q : List Nat), iv = .int .i64 i ∧ i ≤ N ∧ Hid (RInv nd lits N M Q lits.length i) ∧ Hid (RSt z s w g D7 D8 N wr M Q)) (fun iv _ _ _ => N - (intOf iv).toNat)
      case atStart => exact ⟨0, M, Q, rfl, Nat.zero_le _, HI0.out, HS0.out⟩
      case round =>
        clear HI0 HS0
        obtain ⟨i, M, Q, rfl, hiN, hI, hS⟩ := hrel
        obtain ⟨qv, hqb, hqr⟩ := hS.out.qb
        obtain ⟨qa, qc, rfl⟩ := ownsN_form hqr
        have q0 : wr.cell? ⟨D8, 0, none⟩ = some (.slice qa Q.length qc) := cell_of_block hqb 0
        by_cases hlt2 : i < Q.length
        · obtain ⟨qa', qc', eq, _, hqs⟩ := Sees.owned hqr
          cases eq
          obtain ⟨qb, qo, rfl, hqw⟩ := hqs.addr (show 0 < Q.length by omega)
          have hcx := (hqs.cell i hlt2).2
          rw [List.getElem?_map, List.getElem?_eq_getElem hlt2] at hcx
          have hge0 : Q[i] = Q.getD i 0 := by simp [List.getD, List.getElem?_eq_getElem hlt2]
          rw [hge0] at hcx
          have hmid := hI.out.mid hlt2
          have hvn : Q.getD i 0 ≤ V := (HNV.out _).2 (hI.out.core.lt _ (getD_mem hlt2))
          obtain ⟨v, hv⟩ : ∃ v, v = Q.getD i 0 := ⟨_, rfl⟩
          rw [← hv] at hcx hmid hvn
          have hcx2 : wr.cell? ⟨qb, qo + i, none⟩ = some (.int .i64 (v : Int)) := hcx
          obtain ⟨x1, hx1⟩ : ∃ x, x = (nd v).1 := ⟨_, rfl⟩
          obtain ⟨x2, hx2⟩ : ∃ x, x = (nd v).2 := ⟨_, rfl⟩
          have hne := fun W (hb : Below wr.heap.size wr W) => HNE.out v hvn W (ext_trans hS.out.low hb)
          rw [← hx1, ← hx2] at hne
          have HX12 : Hid (x1 / 2 < N ∧ x2 / 2 < N ∧ ∀ p, nd2 nd v p = if p = 0 then x1 else x2) := by
            refine ⟨?_, ?_, fun p => ?_⟩
            · rw [hx1]; exact (HNV.out _).1 (HND.out v).1
            · rw [hx2]; exact (HNV.out _).1 (HND.out v).2
            · unfold nd2; rw [← hx1, ← hx2]
          have p0 : wr.cell? ⟨w.heap.size, 0, none⟩ = some (.int .i64 z) := cell_of_block hS.out.cir 0
          have p1 : wr.cell? ⟨w.heap.size, 1, none⟩ = some (.slice s.a1 s.n1 s.c1) := cell_of_block hS.out.cir 1
          have p2 : wr.cell? ⟨w.heap.size, 2, none⟩ = some (.slice s.a2 s.n2 s.c2) := cell_of_block hS.out.cir 2
          have p3 : wr.cell? ⟨w.heap.size, 3, none⟩ = some (.slice s.a3 s.n3 s.c3) := cell_of_block hS.out.cir 3
          have p4 : wr.cell? ⟨w.heap.size, 4, none⟩ = some (.slice s.a4 s.n4 s.c4) := cell_of_block hS.out.cir 4
          have p5 : wr.cell? ⟨w.heap.size, 5, none⟩ = some (.slice s.a5 s.n5 s.c5) := cell_of_block hS.out.cir 5
          have hiz : (0 : Int) ≤ (i : Int) := by omega
          have hil : (i : Int) < (Q.length : Int) := by omega
          have HMID := Lib.hid hmid
          have HNE2 := Lib.hid hne
          have HS := Lib.hid hS.out
          clear hx1 hx2 hne hv hvn hmid hcx hge0 hqs hqw hqr hqb hI hS
          go_upto_region 12 with fail
          go_cut [42, 43] from 30 to 49 (fun v42 v43 wx => v42 = .agg #[.int .u32 (x1 : Int), .int .u32 (x2 : Int)] ∧ v43 = .int .i64 0 ∧ Hid (RSt z s w g D7 D8 N wx M Q))
          case first =>
            go_region_with (go_at_call 26; refine (HNE2.out _ (by first | exact Below.refl _ _ | exact (Below.refl _ _).drew)).mono ?_; rintro e w5 ⟨rfl, hb5⟩)
            all_goals go_wp2
            all_goals go_meet
            all_goals exact ⟨rfl, rfl, HS.out.below (by first | exact hb5 | exact below_undrew hb5 | exact hb5.drew | exact (below_undrew hb5).drew)⟩
          case rest =>
            obtain ⟨rfl, rfl, hS5⟩ := hcut
            clear p0 p1 p2 p3 p4 p5 q0 hcx2 HNE2 HS
            go_wp2
            go_loopw [43, 14] (fun jv _ wi => ∃ (p : Nat) (M' : List Bool) (Q' : List Nat), p ≤ 2 ∧ jv = .int .i64 p ∧ Hid (RMid nd lits N M' Q' i v p) ∧ Hid (RSt z s w g D7 D8 N wi M' Q')) (fun jv _ _ => 2 - (intOf jv).toNat)
            case atStart => exact ⟨0, M, Q, by omega, rfl, HMID.out, hS5.out⟩
            case round =>
              clear hS5 HMID
              obtain ⟨p, M', Q', hp, rfl, hM, hS⟩ := hrel
              by_cases hlp : p < 2
              · have hxp := HX12.out.2.2 p
                have hn1 := HX12.out.1
                have hn2 := HX12.out.2.1
                obtain ⟨xp, hxe⟩ : ∃ xp, xp = nd2 nd v p := ⟨_, rfl⟩
                rw [← hxe] at hxp
                have ix := lit_index x1 x2 xp p hlp hxp
                have hxn : xp / 2 < N := by rw [hxp]; split <;> assumption
                have HC := Lib.hid (HADD.out g D7 D8 wr M' Q' xp hS.out hxn (by have := hM.out.inv.core.qlen; omega))
                have HM2 := Lib.hid (hM.out.step hxe hxn)
                have W1' : IntKind.i64.wrap ((p : Int) + 1) = (p : Int) + 1 := IntWalk.i64_in _ (by omega)
                have hlp2 : (p : Int) < 2 := by omega
                clear hxp hn1 hn2 hxe hxn hM hS
                go_wp2_with fail
                refine HC.out.mono ?_
                rintro e w6 ⟨rfl, hS6⟩
                have HS6 := Lib.hid hS6
                clear hS6 HC
                go_wp2
                go_roundw
                case rel => exact ⟨p + 1, addM M' xp, addQ M' Q' xp, by omega, by go_num, HM2.out, HS6.out⟩
                case measure => simp [intOf]; omega
              · obtain rfl : p = 2 := by omega
                have HI9 := Lib.hid hM.out.next
                have HS9 := Lib.hid hS.out
                have W1' : IntKind.i64.wrap ((i : Int) + 1) = (i : Int) + 1 := IntWalk.i64_in _ (by omega)
                have hiq : i + 1 ≤ N := by have h1 := hM.out.lt; have h2 := hM.out.inv.core.qlen; omega
                clear hM hS
                go_wp2
                go_roundw
                case rel => exact ⟨i + 1, M', Q', by go_num, hiq, HI9.out, HS9.out⟩
                case measure => simp [intOf]; omega
        · have hiQ : i = Q.length := by have := hI.out.le; omega
          have HD : Hid (IsCone nd lits N M) := by
            have h1 := hI.out
            rw [hiQ] at h1
            exact h1.done
          have HS0 := Lib.hid hS.out
          have hge : (Q.length : Int) ≤ (i : Int) := by omega
          have m0 : wr.cell? ⟨D7, 0, none⟩ = some (.slice (some ⟨g, 0, none⟩) N N) := cell_of_block hS.out.mb 0
          clear hI hS hqb hqr hiQ
          go_wp2
          go_ret
          exact ⟨M, g, rfl, HD.out, HS0.out.mr, HS0.out.g0, HS0.out.low⟩
end Go.Proofs.Ytdheldhecimfnaa
/- A region that draws its order, walked as a plain one, within a round of a range over a function. No function of the program is named here. -/
namespace Go.Proofs.Ytdheldhecimfnaa
open Go

/-- Q, but False at a panic, and where memory has run out. -/
def Calm (Q : Exit → Act → World → Prop) : Exit → Act → World → Prop
  | .panic _, _, _ => False
  | .outgrown, _, _ => False
  | e, a, w => Q e a w
theorem Calm.imp {Q : Exit → Act → World → Prop} : ∀ (e : Exit) (a : Act) (w : World), Calm Q e a w → Q e a w := fun e a w h => by
  cases e <;> first | exact h | exact (h : False).elim
theorem Calm.normal {Q : Exit → Act → World → Prop} {a : Act} {w : World} (h : Q .normal a w) : Calm Q .normal a w := h
/-- Does no operation defer? -/
def noDefer (ops : Array Oper) : Bool := ops.toList.all fun o => match o.op with | .defer _ => false | _ => true
theorem noDefer_at {ops : Array Oper} (h : noDefer ops = true) {i : Nat} {o : Oper} (ho : ops[i]? = some o) : ∀ c, o.op ≠ .defer c := by
  intro c e
  have hm : o ∈ ops.toList := by
    rw [Array.mem_toList_iff]
    obtain ⟨hlt, he⟩ := Array.getElem?_eq_some_iff.1 ho
    rw [← he]
    exact Array.getElem_mem hlt
  have h2 := List.all_eq_true.1 h o hm
  rw [e] at h2
  cases h2

section
variable {P : Program} {md : Region.Mode} {ops : Array Oper} {Q : Exit → Act → World → Prop} {l n : Nat}

theorem oper_in {o : Oper} {a : Act} {w : World} {K : Act → World → Prop} (hd : ∀ c, o.op ≠ .defer c) (h : o.wp P a w K (Calm Q)) : o.wpIn (Fence.wide.inRound l) n P a w K (Calm Q) := by
  refine ⟨fun _ _ => trivial, ?_⟩
  rw [Oper.semAt_eq _ _ _ hd]
  unfold Oper.wp at h
  generalize (execOp a.eval o).run P w = r at h ⊢
  cases r with
  | ok x w' =>
    cases x with
    | value v => exact h
    | skip => exact h
    | defer d => exact h
    | enter f args =>
      refine ⟨fun h => by simp [Fence.wide] at h, ?_⟩
      exact CallsIn.mono (show CallsIn (Fence.wide.inRound l) (n - 1) P f args w' _ from (callsIn_wide (n := n - 1)).2 h) fun e w'' he => by
        cases e <;> exact he
    | row row args =>
      refine ⟨fun h => by simp [Fence.wide] at h, fun c cs _ => ?_⟩
      obtain ⟨v, w'', hr, hs⟩ := h c cs
      exact ⟨v, w'', hr, stepsIn_wide.2 hs⟩
    | round => exact h.elim
    | _ => exact h.elim
  | halt x w' =>
    cases x <;> exact h

theorem any_in (hd : noDefer ops = true) : ∀ (fuel : Nat) (listed : Array Bool) (a : Act) (w : World), wpAny P md ops (Calm Q) fuel listed a w → wpAnyIn (Fence.wide.inRound l) n P md ops (Calm Q) fuel listed a w
  | 0, _, _, _, h => h
  | fuel + 1, listed, a, w, h => ⟨h.1, fun i hi => by
      have h1 := h.2 i hi
      unfold wpOp at h1
      unfold wpOpIn
      cases ho : ops[i]? with
      | none => rw [ho] at h1; exact any_in hd fuel _ _ _ h1
      | some o =>
        rw [ho] at h1
        simp only at h1 ⊢
        by_cases hw : Region.wanted o (yielded ops a.tmps) = true
        · rw [if_pos hw] at h1 ⊢
          rcases h1 with h1 | ⟨_, a', w', h1⟩
          · exact Oper.wpIn_mono (fun a w h => any_in hd fuel _ _ _ h) (oper_in (noDefer_at hd ho) h1)
          · exact h1.elim
        · rw [if_neg hw] at h1 ⊢
          exact ⟨fun _ _ => trivial, any_in hd fuel _ _ _ h1⟩⟩

/-- The law: from the world behind the draw, in whatever order, S held. -/
theorem wpIn_region_held {id : Nat} {a : Act} {w : World} {S : World → Prop} (hm : P.follows .mixedOrders = true) (hd : noDefer ops = true)
    (h : wpAnyH P .any ops (Calm Q) S ops.size (Array.replicate ops.size false) a w.drew) : (Code.region id ops true).wpIn (Fence.wide.inRound l) n P Q a w :=
  wpIn_mono (wpIn_region_any hm (any_in hd _ _ _ _ (wpAny_of_held _ _ _ _ h))) Calm.imp
/-- The same, the last operation (which waits for all others) peeled. -/
theorem wpIn_region_peelN {id : Nat} {a : Act} {w : World} {last : Oper} {S : World → Prop} (m : Nat) (hm : P.follows .mixedOrders = true) (hd : noDefer ops = true) (hn : ops.size = m + 1) (ho : ops[m]? = some last) (hB : peelB .any ops.pop last = true)
    (h : wpAnyH P .any ops.pop (LastQ P ops (Calm Q) m) S m (Array.replicate m false) a w.drew) : (Code.region id ops true).wpIn (Fence.wide.inRound l) n P Q a w :=
  wpIn_mono (wpIn_region_any hm (any_in hd _ _ _ _ (any_peelN m hn ho hB (wpAny_of_held _ _ _ _ h)))) Calm.imp
end
end Go.Proofs.Ytdheldhecimfnaa
/- cone.Frames, by its contract. -/
namespace Go.Proofs.Ytdheldhecimfnaa
open Go Go.RowKit Go.Joins
attribute [local go_sem] Oper.semAt_some

theorem info_bools : (Try.prog.info? 33).map (fun i => (i.zero, i.size, i.bytes)) = some (some (.slice none 0 0), 1, 24) := by kernel_rfl
/-- Rows of marks, from frame a on. -/
def rowsB (n N a : Nat) (G : Nat → Nat) : Array Value := fcells n fun f => if a ≤ f then .slice (some ⟨G f, 0, none⟩) N N else .slice none 0 0
/-- What Frames answers. -/
def FrPost (c : NormC) (bad frames : Int) (w : World) (e : Ending) (w' : World) : Prop :=
  (frOk c bad frames = false ∧ e = .returned (.tuple #[.slice none 0 0, .int .i64 2]) ∧ Below w.heap.size w w') ∨
  (frOk c bad frames = true ∧ ∃ (ms : List (List Bool)) (G : Nat → Nat) (F n : Nat), frames = (n : Int) ∧ e = .returned (.tuple #[.slice (some ⟨F, 0, none⟩) n n, .int .i64 0]) ∧ IsFr c bad.toNat n ms ∧
    w'.heap[F]? = some (.cells (rowsB n (1 + varsN c) 0 G) 33 (0, 0)) ∧ (∀ f, f < n → w'.heap[G f]? = some (.cells (bcells (ms.getD f [])) 4 (0, 0)) ∧ w.heap.size ≤ G f) ∧ w.heap.size ≤ F ∧ Below w.heap.size w w')
theorem frOk_cases (c : NormC) (bad frames : Int) : (mayC c = false → frOk c bad frames = false) ∧ (bad < 0 → frOk c bad frames = false) ∧ ((c.bads.length : Int) ≤ bad → frOk c bad frames = false) ∧ (frames < 1 → frOk c bad frames = false) ∧ (256 < frames → frOk c bad frames = false) ∧
    (mayC c = true → 0 ≤ bad → bad < c.bads.length → 1 ≤ frames → frames ≤ 256 → frOk c bad frames = true) := by
  unfold frOk
  refine ⟨fun h => by rw [h]; rfl, fun h => ?_, fun h => ?_, fun h => ?_, fun h => ?_, fun h h1 h2 h3 h4 => ?_⟩
  · simp [h]
  · simp [h]
  · simp [h]
  · simp [h]
  · rw [h]
    simp
    omega

/-- What holds between two frames: from frame a on all are done. -/
structure FCore (c : NormC) (s : CSlots) (nb n : Nat) (w : World) (AB F a : Nat) (G : Nat → Nat) (ms : Nat → List Bool) (W : World) : Prop where
  low : Below w.heap.size w W
  cir : W.heap[w.heap.size]? = some (.cells (cirCells c.ins s) 26 (0, 0))
  box : W.heap[AB]? = some (.cells #[.slice (some ⟨F, 0, none⟩) n n] 38 (0, 0))
  row : W.heap[F]? = some (.cells (rowsB n (1 + varsN c) a G) 33 (0, 0))
  rows : ∀ f, a ≤ f → f < n → W.heap[G f]? = some (.cells (bcells (ms f)) 4 (0, 0)) ∧ w.heap.size ≤ G f
  cone : ∀ f, a ≤ f → f < n → IsCone (inW c) ((if f + 1 = n then [c.bads.getD nb 0] else nxL c (ms (f + 1))) ++ c.cons) (1 + varsN c) (ms f)
theorem FCore.below {c : NormC} {s : CSlots} {nb n : Nat} {w : World} {AB F a : Nat} {G : Nat → Nat} {ms : Nat → List Bool} {W W' : World} (h : FCore c s nb n w AB F a G ms W) (hb : Below W.heap.size W W') : FCore c s nb n w AB F a G ms W' :=
  ⟨ext_trans h.low hb, heap_below h.cir hb, heap_below h.box hb, heap_below h.row hb, fun f h1 h2 => ⟨heap_below (h.rows f h1 h2).1 hb, (h.rows f h1 h2).2⟩, h.cone⟩
theorem FCore.put {c : NormC} {s : CSlots} {nb n : Nat} {w : World} {AB F a : Nat} {G : Nat → Nat} {ms : Nat → List Bool} {W : World} (h : FCore c s nb n w AB F a G ms W) {l : Nat} {o o' : Obj} (hB : w.heap.size ≤ l) (hl : W.heap[l]? = some o) (ho : o.isCells = false) : FCore c s nb n w AB F a G ms (W.putObj l o') :=
  ⟨h.low.grown (grownBy_putObj' W l o') h.low.size (fun k e => by cases e; exact hB), put_cells hl ho h.cir, put_cells hl ho h.box, put_cells hl ho h.row, fun f h1 h2 => ⟨put_cells hl ho (h.rows f h1 h2).1, (h.rows f h1 h2).2⟩, h.cone⟩
theorem heap_apart {W : World} {D E : Nat} {C C' : Array Value} {t t' : TypeId} {fr fr' : Nat × Nat} (h : W.heap[D]? = some (.cells C t fr)) (h' : W.heap[E]? = some (.cells C' t' fr')) (hne : t ≠ t') : D ≠ E := fun e => by
  subst e
  rw [h] at h'
  cases h'
  exact hne rfl
theorem rowsB_set (n N j g : Nat) (G : Nat → Nat) : (rowsB n N (j + 1) G).setIfInBounds j (.slice (some ⟨g, 0, none⟩) N N) = rowsB n N j (fun f => if f = j then g else G f) := by
  unfold rowsB
  rw [fcells_set]
  refine fcells_congr fun i hi => ?_
  by_cases e : i = j
  · subst e; simp
  · by_cases h : j + 1 ≤ i
    · rw [if_neg e, if_pos h, if_pos (by omega)]; simp [e]
    · rw [if_neg e, if_neg h, if_neg (by omega)]
theorem FCore.setF {c : NormC} {s : CSlots} {nb n : Nat} {w : World} {AB F j : Nat} {G : Nat → Nat} {ms : Nat → List Bool} {W : World} (h : FCore c s nb n w AB F (j + 1) G ms W) (hF : w.heap.size ≤ F) {M : List Bool} {g : Nat}
    (hM : IsCone (inW c) ((if j + 1 = n then [c.bads.getD nb 0] else nxL c (ms (j + 1))) ++ c.cons) (1 + varsN c) M) (hg : W.heap[g]? = some (.cells (bcells M) 4 (0, 0))) (hgl : w.heap.size ≤ g) :
    FCore c s nb n w AB F j (fun f => if f = j then g else G f) (fun f => if f = j then M else ms f) (W.setCell ⟨F, j, none⟩ (.slice (some ⟨g, 0, none⟩) (1 + varsN c) (1 + varsN c))) := by
  have oth : ∀ {D : Nat} {C : Array Value} {t : TypeId} {fr : Nat × Nat}, W.heap[D]? = some (.cells C t fr) → t ≠ 33 → (W.setCell ⟨F, j, none⟩ (.slice (some ⟨g, 0, none⟩) (1 + varsN c) (1 + varsN c))).heap[D]? = some (.cells C t fr) := fun hD ht => (Below.heap_setCell W ⟨F, j, none⟩ _ _ (heap_apart hD h.row ht)).trans hD
  refine ⟨h.low.setCell (p := ⟨F, j, none⟩) hF _, oth h.cir (by decide), oth h.box (by decide), ?_, fun f h1 h2 => ?_, fun f h1 h2 => ?_⟩
  · have := block_setCell h.row (i := j) (.slice (some ⟨g, 0, none⟩) (1 + varsN c) (1 + varsN c))
    rw [rowsB_set] at this
    exact this
  · by_cases e : f = j
    · subst e
      simp only [if_pos]
      exact ⟨oth hg (by decide), hgl⟩
    · simp only [if_neg e]
      exact ⟨oth (h.rows f (by omega) h2).1 (by decide), (h.rows f (by omega) h2).2⟩
  · by_cases e : f = j
    · subst e
      simp only [if_pos, if_neg (show f + 1 ≠ f by omega)]
      exact hM
    · simp only [if_neg e, if_neg (show f + 1 ≠ j by omega)]
      exact h.cone f (by omega) h2
theorem FCore.setL {c : NormC} {s : CSlots} {nb n : Nat} {w : World} {AB F a : Nat} {G : Nat → Nat} {ms : Nat → List Bool} {W : World} (h : FCore c s nb n w AB F a G ms W) {LB : Nat} {C : Array Value} (hL : W.heap[LB]? = some (.cells C 24 (0, 0))) (hw : w.heap.size ≤ LB) (v : Value) :
    FCore c s nb n w AB F a G ms (W.setCell ⟨LB, 0, none⟩ v) := by
  have oth : ∀ {D : Nat} {C : Array Value} {t : TypeId} {fr : Nat × Nat}, W.heap[D]? = some (.cells C t fr) → t ≠ 24 → (W.setCell ⟨LB, 0, none⟩ v).heap[D]? = some (.cells C t fr) := fun hD ht => (Below.heap_setCell W ⟨LB, 0, none⟩ _ _ (heap_apart hD hL ht)).trans hD
  exact ⟨h.low.setCell (p := ⟨LB, 0, none⟩) hw _, oth h.cir (by decide), oth h.box (by decide), oth h.row (by decide), fun f h1 h2 => ⟨oth (h.rows f h1 h2).1 (by decide), (h.rows f h1 h2).2⟩, h.cone⟩
/-- The roots of the frame that comes next. -/
structure FInv (c : NormC) (s : CSlots) (nb n : Nat) (w : World) (AB F LB a : Nat) (G : Nat → Nat) (ms : Nat → List Bool) (W : World) : Prop where
  core : FCore c s nb n w AB F a G ms W
  lits : ∃ (la : Option Addr) (lc m : Nat) (L : List Nat), W.heap[LB]? = some (.cells #[.slice la m lc] 24 (0, 0)) ∧ W.ownsRow w.heap.size 53 1 (.slice la m lc) m (L.map nv32) ∧ L = (if a = n then [c.bads.getD nb 0] else nxL c (ms a))
theorem FInv.below {c : NormC} {s : CSlots} {nb n : Nat} {w : World} {AB F LB a : Nat} {G : Nat → Nat} {ms : Nat → List Bool} {W W' : World} (h : FInv c s nb n w AB F LB a G ms W) (hb : Below W.heap.size W W') : FInv c s nb n w AB F LB a G ms W' := by
  obtain ⟨la, lc, m, L, h1, h2, h3⟩ := h.lits
  exact ⟨h.core.below hb, la, lc, m, L, heap_below h1 hb, ownsN_below h2 hb, h3⟩
theorem owns_put1 {w : World} {base sz : Nat} {e : TypeId} {v : Value} {n : Nat} {xs : List Value} (h : w.ownsRow base e sz v n xs) {l : Nat} {o o' : Obj} (hl : w.heap[l]? = some o) (ho : o.isCells = false) : (w.putObj l o').ownsRow base e sz v n xs :=
  ownsN_other h fun q hq => World.putObj_heap_other (fun e2 => by
    subst e2
    rcases h.2 with ⟨h1, _⟩ | ⟨g, cap, cur, h1, _, h2, _⟩
    · rw [h1] at hq; cases hq
    · rw [h1] at hq
      have : g = q := by simpa [Value.ownBlock] using hq
      subst this
      rw [hl] at h2; cases h2; cases ho)
theorem FInv.put {c : NormC} {s : CSlots} {nb n : Nat} {w : World} {AB F LB a : Nat} {G : Nat → Nat} {ms : Nat → List Bool} {W : World} (h : FInv c s nb n w AB F LB a G ms W) {l : Nat} {o o' : Obj} (hB : w.heap.size ≤ l) (hl : W.heap[l]? = some o) (ho : o.isCells = false) : FInv c s nb n w AB F LB a G ms (W.putObj l o') := by
  obtain ⟨la, lc, m, L, h1, h2, h3⟩ := h.lits
  exact ⟨h.core.put hB hl ho, la, lc, m, L, put_cells hl ho h1, owns_put1 h2 hl ho, h3⟩
theorem KpB.setF {base F n L : Nat} (W : World) (j : Nat) (v : Value) (hF : base ≤ F) : KpB base F n L W (W.setCell ⟨F, j, none⟩ v) :=
  ⟨(Below.refl _ W).setCell (p := ⟨F, j, none⟩) hF v, fun D _ _ _ hD h1 _ => (Below.heap_setCell W ⟨F, j, none⟩ v D h1).trans hD, fun C hC hn => ⟨_, block_setCell hC (i := j) v, by simpa using hn⟩⟩
theorem KpB.setL {base F n L : Nat} (W : World) (v : Value) (hL : base ≤ L) (hne : F ≠ L) : KpB base F n L W (W.setCell ⟨L, 0, none⟩ v) :=
  ⟨(Below.refl _ W).setCell (p := ⟨L, 0, none⟩) hL v, fun D _ _ _ hD _ h2 => (Below.heap_setCell W ⟨L, 0, none⟩ v D h2).trans hD, fun C hC hn => ⟨C, (Below.heap_setCell W ⟨L, 0, none⟩ v F hne).trans hC, hn⟩⟩
/-- Eight cells are kept. -/
theorem keep8 {w w' : World} {a0 a1 a2 a3 a4 a5 a6 a7 : Addr} {v0 v1 v2 v3 v4 v5 v6 v7 : Value} (h : w.cell? a0 = some v0 ∧ w.cell? a1 = some v1 ∧ w.cell? a2 = some v2 ∧ w.cell? a3 = some v3 ∧ w.cell? a4 = some v4 ∧ w.cell? a5 = some v5 ∧ w.cell? a6 = some v6 ∧ w.cell? a7 = some v7) (hb : Below w.heap.size w w') :
    w'.cell? a0 = some v0 ∧ w'.cell? a1 = some v1 ∧ w'.cell? a2 = some v2 ∧ w'.cell? a3 = some v3 ∧ w'.cell? a4 = some v4 ∧ w'.cell? a5 = some v5 ∧ w'.cell? a6 = some v6 ∧ w'.cell? a7 = some v7 := by
  obtain ⟨h0, h1, h2, h3, h4, h5, h6, h7⟩ := h
  have one : ∀ {a : Addr} {v : Value}, w.cell? a = some v → w'.cell? a = some v := fun {a v} h => (hb.cell (World.block_lt_of_cell? _ _ h)).trans h
  exact ⟨one h0, one h1, one h2, one h3, one h4, one h5, one h6, one h7⟩
theorem sees_bcells {w : World} {g n : Nat} {M : List Bool} (h : w.heap[g]? = some (.cells (bcells M) 4 (0, 0))) (hn : M.length = n) : Sees w (some ⟨g, 0, none⟩) n n (M.map Value.bool) := by
  refine ⟨by simpa using hn, Nat.le_refl _, (fun e => by cases e), fun _ => ⟨g, 0, rfl, heap_lt h, fun j hj => ?_⟩⟩
  rw [Nat.zero_add, cell_of_block h j]
  simp [bcells]
theorem nxL_le {c : NormC} (h : MayC c) (m : List Bool) : ∀ x ∈ nxL c m, x ≤ 2 * varsN c + 1 := nxP_le h m c.lats.length (Nat.le_refl _)

set_option maxRecDepth 100000 in
theorem backward_any (a : Option Addr) (n cp : Nat) (w : World) :
    Calls Try.prog 34 #[.slice a n cp] w fun e w' => e = .returned (.func (.func 59) #[] #[.pointer (some ⟨w.heap.size, 0, none⟩)]) ∧ w'.heap[w.heap.size]? = some (.cells #[.slice a n cp] 38 (0, 0)) ∧ Below w.heap.size w w' := by
  go_enter Try.func34, Try.ntmps34
  go_wp2
  go_ret
  exact ⟨rfl, heap_new _ _ _ rfl, ext_alloc _ _⟩

set_option maxRecDepth 100000 in
set_option maxHeartbeats 6400000 in
theorem frames9_any (c : NormC) (bad frames : Int) (s : CSlots) (w : World) (h : SeesCir w s c) (hs : s.small) (hlo : -9223372036854775808 ≤ c.ins) (hhi : c.ins < 9223372036854775808) :
    Calls Try.prog 13 #[cirV c.ins s, .int .i64 bad, .int .i64 frames] w (FrPost c bad frames w) := by
  obtain ⟨i0, hi, hz0, hz1, hz2⟩ := info_parts info_bools
  have HMAY := Lib.hid (fun W (hb : Below w.heap.size w W) => may3_any c s W (h.below hb) hs hlo hhi)
  obtain ⟨F1, F2, F3, F4, F5, F6⟩ := frOk_cases c bad frames
  have HERR : Hid (frOk c bad frames = false → ∀ w', Below w.heap.size w w' → FrPost c bad frames w (.returned (.tuple #[.slice none 0 0, .int .i64 2])) w') := fun h w' hb => .inl ⟨h, rfl, hb⟩
  have HOK : Hid (∀ (n nb : Nat), frames = (n : Int) → bad = (nb : Int) → frOk c bad frames = true → ∀ (w' : World) (ms : List (List Bool)) (G : Nat → Nat) (F N : Nat), N = 1 + varsN c → IsFr c nb n ms → w'.heap[F]? = some (.cells (rowsB n N 0 G) 33 (0, 0)) → (∀ f, f < n → w'.heap[G f]? = some (.cells (bcells (ms.getD f [])) 4 (0, 0)) ∧ w.heap.size ≤ G f) → w.heap.size ≤ F → Below w.heap.size w w' → FrPost c bad frames w (.returned (.tuple #[.slice (some ⟨F, 0, none⟩) n n, .int .i64 0])) w') := fun n nb h1 h2 h3 w' ms G F N hN h4 h5 h6 h7 h8 => by
    subst hN
    exact .inr ⟨h3, ms, G, F, n, h1, rfl, by rw [h2]; exact h4, h5, h6, h7, h8⟩
  have HQ : Hid (mayC c = true → MayC c) := mayC_iff.1
  have HL4 : Hid (c.bads.length = s.n4) := h.s4.lenMap
  obtain ⟨q, hq⟩ : ∃ q, q = mayC c := ⟨_, rfl⟩
  rw [← hq] at HMAY F1 F6 HQ
  rw [HL4.out] at F3 F6
  have G1 := Lib.hid F1
  have G2 := Lib.hid F2
  have G3 := Lib.hid F3
  have G4 := Lib.hid F4
  have G5 := Lib.hid F5
  have G6 := Lib.hid F6
  have HC := Lib.hid h
  have HSM := Lib.hid hs
  have HLO := Lib.hid (And.intro hlo hhi)
  clear hq h hs hlo hhi F1 F2 F3 F4 F5 F6
  refine (callsIn_wide (n := 0)).1 ?_
  refine callsIn_of_wp_marks Try.func13 rfl trivial ?_ rfl
  simp only [Try.ntmps13, List.size_toArray, List.length_cons, List.length_nil, Nat.reduceAdd, Nat.reduceSub, Array.replicate_succ, Array.replicate_zero, List.push_toArray, List.append_toArray, List.nil_append, List.cons_append]
  unfold cirV at *
  gi_upto_region 1 with fail
  generalize hW : World.alloc w _ = W1
  have hX : W1.heap[w.heap.size]? = some (.cells (cirCells c.ins s) 26 (0, 0)) := by subst hW; exact heap_new _ _ _ rfl
  have HX := Lib.hid hX
  have HB := Lib.hid (show Below w.heap.size w W1 by subst hW; exact ext_alloc _ _)
  clear hW hX
  have p0 : W1.cell? ⟨w.heap.size, 0, none⟩ = some (.int .i64 c.ins) := cell_of_block HX.out 0
  have p1 : W1.cell? ⟨w.heap.size, 1, none⟩ = some (.slice s.a1 s.n1 s.c1) := cell_of_block HX.out 1
  have p2 : W1.cell? ⟨w.heap.size, 2, none⟩ = some (.slice s.a2 s.n2 s.c2) := cell_of_block HX.out 2
  have p3 : W1.cell? ⟨w.heap.size, 3, none⟩ = some (.slice s.a3 s.n3 s.c3) := cell_of_block HX.out 3
  have p4 : W1.cell? ⟨w.heap.size, 4, none⟩ = some (.slice s.a4 s.n4 s.c4) := cell_of_block HX.out 4
  have p5 : W1.cell? ⟨w.heap.size, 5, none⟩ = some (.slice s.a5 s.n5 s.c5) := cell_of_block HX.out 5
  gi_wp2_with fail
  refine ⟨trivial, rfl, ?_⟩
  refine (callsIn_wide.2 (HMAY.out W1 HB.out)).mono ?_
  rintro e W2 ⟨rfl, hb⟩
  have HX2 := Lib.hid (heap_below HX.out hb)
  have HB2 := Lib.hid (ext_trans HB.out hb)
  clear hb p0 p1 p2 p3 p4 p5 HX HB HMAY
  cases q with
  | false =>
    have HP := Lib.hid (HERR.out (G1.out rfl) W2 HB2.out)
    gi_wp2
    exact ⟨.tuple #[.slice none 0 0, .int .i64 2], results_tmp2 (t := 6) (u := 7) rfl _ _ _, HP.out⟩
  | true =>
    have HM := Lib.hid (HQ.out rfl)
    by_cases hb1 : bad < 0
    · have HP := Lib.hid (HERR.out (G2.out hb1) W2 HB2.out)
      gi_wp2
      exact ⟨.tuple #[.slice none 0 0, .int .i64 2], results_tmp2 (t := 6) (u := 7) rfl _ _ _, HP.out⟩
    · obtain ⟨nb, rfl⟩ := Int.eq_ofNat_of_zero_le (Int.not_lt.1 hb1)
      clear hb1
      have p4 : W2.cell? ⟨w.heap.size, 4, none⟩ = some (.slice s.a4 s.n4 s.c4) := cell_of_block HX2.out 4
      by_cases hb2 : (s.n4 : Int) ≤ (nb : Int)
      · have HP := Lib.hid (HERR.out (G3.out hb2) W2 HB2.out)
        gi_wp2
        exact ⟨.tuple #[.slice none 0 0, .int .i64 2], results_tmp2 (t := 6) (u := 7) rfl _ _ _, HP.out⟩
      · have hb3 : (nb : Int) < (s.n4 : Int) := by omega
        clear hb2
        by_cases hf1 : frames < 1
        · have HP := Lib.hid (HERR.out (G4.out hf1) W2 HB2.out)
          gi_wp2
          exact ⟨.tuple #[.slice none 0 0, .int .i64 2], results_tmp2 (t := 6) (u := 7) rfl _ _ _, HP.out⟩
        · obtain ⟨n, rfl⟩ := Int.eq_ofNat_of_zero_le (show 0 ≤ frames by omega)
          have hn1 : (1 : Int) ≤ (n : Int) := by omega
          clear hf1
          by_cases hf2 : (256 : Int) < (n : Int)
          · have HP := Lib.hid (HERR.out (G5.out hf2) W2 HB2.out)
            gi_wp2
            exact ⟨.tuple #[.slice none 0 0, .int .i64 2], results_tmp2 (t := 6) (u := 7) rfl _ _ _, HP.out⟩
          · have hn2 : (n : Int) ≤ 256 := by omega
            clear hf2
            have HP := Lib.hid (HOK.out n nb rfl rfl (G6.out rfl (by omega) hb3 hn1 hn2))
            obtain ⟨b4, o4, ha4, _⟩ := HC.out.s4.addr (show 0 < s.n4 by omega)
            have e1 : decide ((nb : Int) < 0) = false := by simp
            have e2 : decide (s.n4 ≤ nb) = false := by simp; omega
            have e2' : decide ((s.n4 : Int) ≤ (nb : Int)) = false := by simp; omega
            have e3 : decide ((n : Int) < 1) = false := by simp; omega
            have e3' : decide (n < 1) = false := by simp; omega
            have e4 : decide ((256 : Int) < (n : Int)) = false := by simp; omega
            have e4' : decide (256 < n) = false := by simp; omega
            have mk := fun W => run_make_n (P := Try.prog) Try.underlying38 hi hz0 hz1 hz2 rfl n (by omega) (by omega) W
            rw [fcells_zero] at mk
            gi_upto_region 4 with fail
            clear p4 e1 e2 e2' e3 e3' e4 e4'
            have hal1 := ext_alloc W2 (.cells (fcells n fun _ => .slice none 0 0) 33)
            have hal2 := ext_trans hal1 (ext_alloc (W2.alloc (.cells (fcells n fun _ => .slice none 0 0) 33)) (.cells #[.slice (some ⟨W2.heap.size, 0, none⟩) n n] 38))
            have hF := heap_below (heap_new W2 (.cells (fcells n fun _ => .slice none 0 0) 33) W2.heap.size rfl) (ext_alloc (W2.alloc (.cells (fcells n fun _ => .slice none 0 0) 33)) (.cells #[.slice (some ⟨W2.heap.size, 0, none⟩) n n] 38))
            have hA := heap_new (W2.alloc (.cells (fcells n fun _ => .slice none 0 0) 33)) (.cells #[.slice (some ⟨W2.heap.size, 0, none⟩) n n] 38) (W2.heap.size + 1) (by simp)
            generalize hWA : (W2.alloc (.cells (fcells n fun _ => .slice none 0 0) 33)).alloc (.cells #[.slice (some ⟨W2.heap.size, 0, none⟩) n n] 38) = W3 at hal2 hF hA ⊢
            have HX3 := Lib.hid (heap_below HX2.out hal2)
            have HB3 := Lib.hid (ext_trans HB2.out hal2)
            have HF3 := Lib.hid hF
            have HA3 := Lib.hid hA
            obtain ⟨F, hFF⟩ : ∃ F, F = W2.heap.size := ⟨_, rfl⟩
            obtain ⟨AB, hAB⟩ : ∃ AB, AB = W2.heap.size + 1 := ⟨_, rfl⟩
            rw [← hFF] at HF3
            rw [← hAB, ← hFF] at HA3
            rw [← hAB, ← hFF]
            have HFG : Hid (w.heap.size ≤ F ∧ w.heap.size ≤ AB) := by have := HB2.out.size; exact ⟨by omega, by omega⟩
            clear hal1 hal2 hF hA hWA mk HX2 HB2 hFF hAB
            have q4 := HC.out.s4.below HB3.out
            have p4 : W3.cell? ⟨w.heap.size, 4, none⟩ = some (.slice s.a4 s.n4 s.c4) := cell_of_block HX3.out 4
            rw [ha4] at q4 p4
            have q4n := q4.num nb (by omega)
            obtain ⟨x, hx⟩ : ∃ x, x = c.bads.getD nb 0 := ⟨_, rfl⟩
            rw [← hx] at q4n
            have HXE := Lib.hid hx
            have HA4 := Lib.hid ha4
            clear q4 hx ha4
            gi_upto_region 5 with fail
            have hal1 := ext_alloc W3 (.cells #[.int .u32 (x : Int)] 53)
            have hal2 := ext_trans hal1 (ext_alloc (W3.alloc (.cells #[.int .u32 (x : Int)] 53)) (.cells #[.slice (some ⟨W3.heap.size, 0, none⟩) 1 1] 24))
            have hF := heap_below (heap_new W3 (.cells #[.int .u32 (x : Int)] 53) W3.heap.size rfl) (ext_alloc (W3.alloc (.cells #[.int .u32 (x : Int)] 53)) (.cells #[.slice (some ⟨W3.heap.size, 0, none⟩) 1 1] 24))
            have hA := heap_new (W3.alloc (.cells #[.int .u32 (x : Int)] 53)) (.cells #[.slice (some ⟨W3.heap.size, 0, none⟩) 1 1] 24) (W3.heap.size + 1) (by simp)
            generalize hWA : (W3.alloc (.cells #[.int .u32 (x : Int)] 53)).alloc (.cells #[.slice (some ⟨W3.heap.size, 0, none⟩) 1 1] 24) = W4 at hal2 hF hA ⊢
            obtain ⟨LB, hLB⟩ : ∃ LB, LB = W3.heap.size + 1 := ⟨_, rfl⟩
            obtain ⟨XB, hXB⟩ : ∃ XB, XB = W3.heap.size := ⟨_, rfl⟩
            rw [← hLB, ← hXB] at hA ⊢
            rw [← hXB] at hF
            have HLB : Hid (w.heap.size ≤ LB ∧ w.heap.size ≤ XB ∧ F < LB ∧ AB < LB) := by
              have h1 := HB3.out.size
              have h2 := heap_lt HF3.out
              have h3 := heap_lt HA3.out
              exact ⟨by omega, by omega, by omega, by omega⟩
            have HROWL : Hid (W4.ownsRow w.heap.size 53 1 (.slice (some ⟨XB, 0, none⟩) 1 1) 1 ([c.bads.getD nb 0].map nv32)) := by
              rw [← HXE.out]
              exact ⟨rfl, .inr ⟨XB, 1, #[.int .u32 (x : Int)], rfl, HLB.out.2.1, hF, Nat.le_refl _, by unfold maxLen; omega, rfl, rfl⟩⟩
            have hrow0 : W4.heap[F]? = some (.cells (rowsB n (1 + varsN c) n (fun _ => 0)) 33 (0, 0)) := by
              have e : rowsB n (1 + varsN c) n (fun _ => 0) = fcells n fun _ => .slice none 0 0 := fcells_congr fun i hi => if_neg (by omega)
              rw [e]
              exact heap_below HF3.out hal2
            have HI4 : Hid (FInv c s nb n w AB F LB n (fun _ => 0) (fun _ => []) W4) :=
              ⟨⟨ext_trans HB3.out hal2, heap_below HX3.out hal2, heap_below HA3.out hal2, hrow0, fun f h1 h2 => absurd h1 (by omega), fun f h1 h2 => absurd h1 (by omega)⟩, some ⟨XB, 0, none⟩, 1, 1, [c.bads.getD nb 0], hA, HROWL.out, by rw [if_pos rfl]⟩
            have HF4 := Lib.hid hrow0
            clear hal1 hal2 hF hA hWA hrow0 HX3 HB3 HF3 HA3 hLB hXB HROWL q4n p4 HXE
            have a0 : W4.cell? ⟨AB, 0, none⟩ = some (.slice (some ⟨F, 0, none⟩) n n) := cell_of_block HI4.out.core.box 0
            gi_wp2_with fail
            refine ⟨trivial, rfl, ?_⟩
            refine (callsIn_wide.2 (backward_any _ _ _ W4)).mono ?_
            rintro e W5 ⟨rfl, hsb, hb5⟩
            obtain ⟨SB, hSB⟩ : ∃ SB, SB = W4.heap.size := ⟨_, rfl⟩
            rw [← hSB] at hsb ⊢
            have HSB : Hid (F < SB ∧ LB < SB ∧ AB < SB) := by
              have h1 := heap_lt HI4.out.core.row
              have h2 := heap_lt HI4.out.core.box
              obtain ⟨la, lc, m, L, h3, _⟩ := HI4.out.lits
              have h3 := heap_lt h3
              exact ⟨by omega, by omega, by omega⟩
            have HI5 := Lib.hid (HI4.out.below hb5)
            have HSX := Lib.hid hsb
            clear hsb hb5 hSB HI4 HF4 a0
            gi_wp2
            have hcon : Hid (∀ x ∈ c.cons, x ≤ 2 * varsN c + 1) := HM.out.cons
            have hbx : Hid (c.bads.getD nb 0 ≤ 2 * varsN c + 1) := HM.out.bads _ (getD_mem (by rw [HL4.out]; omega))
            have hNfew : Hid (varsN c ≤ 16384) := HM.out.few
            refine wp_rangeFunc (gf := 59) (lb := #[.pointer (some ⟨SB, 0, none⟩)]) rfl (enters_of Try.func59 (by kernel_rfl) rfl)
              (back_iter w.heap.size SB F n LB W5 HSX.out _ HI5.out.core.row (fcells_size _ _) (by have := HSB.out; omega) (by have := HSB.out; omega) (by omega) HI5.out.core.low.size) KpB.trans (fun W l o o' hl h ho => KpB.put W l o o' (Nat.le_trans HI5.out.core.low.size hl) h ho)
              (fun k xs W h => by obtain ⟨j, v, _, e⟩ := h; rw [e]; rfl) (fun k xs W l o o' h _ _ _ => h)
              (fun k W => ∃ (a : Nat) (G : Nat → Nat) (ms : Nat → List Bool), a + k = n ∧ FInv c s nb n w AB F LB a G ms W) (fun k A B h hb => by obtain ⟨a, G, ms, e, h⟩ := h; exact ⟨a, G, ms, e, h.below hb⟩) (fun k A l o o' h hl ho hc => by obtain ⟨a, G, ms, e, h⟩ := h; exact ⟨a, G, ms, e, h.put (Nat.le_trans HI5.out.core.low.size hl) ho hc⟩)
              ⟨n, _, _, rfl, HI5.out⟩ (fun xs => { tmps := #[.agg #[.int .i64 c.ins, .slice s.a1 s.n1 s.c1, .slice s.a2 s.n2 s.c2, .slice s.a3 s.n3 s.c3, .slice (some ⟨b4, o4, none⟩) s.n4 s.c4, .slice s.a5 s.n5 s.c5], .int .i64 (nb : Int), .int .i64 (n : Int), .pointer (some ⟨w.heap.size, 0, none⟩), undef, undef, .slice none 0 0, .int .i64 0, .pointer (some ⟨AB, 0, none⟩), .pointer (some ⟨LB, 0, none⟩), xs.getD 0 undef, .agg #[.int .i64 c.ins, .slice s.a1 s.n1 s.c1, .slice s.a2 s.n2 s.c2, .slice s.a3 s.n3 s.c3, .slice (some ⟨b4, o4, none⟩) s.n4 s.c4, .slice s.a5 s.n5 s.c5], .bool true, .bool false, .bool false, .int .i64 (nb : Int), .bool false, .bool false, .bool false, .int .i64 (nb : Int), .pointer (some ⟨w.heap.size, 4, none⟩), .slice (some ⟨b4, o4, none⟩) s.n4 s.c4, .int .i64 (s.n4 : Int), .bool false, .bool false, .bool false, .int .i64 (n : Int), .bool false, .bool false, .bool false, .int .i64 (n : Int), .bool false, .bool false, .int .i64 (n : Int), .slice (some ⟨F, 0, none⟩) n n, .pointer (some ⟨w.heap.size, 4, none⟩), .slice (some ⟨b4, o4, none⟩) s.n4 s.c4, .int .i64 (nb : Int), .pointer (some ⟨b4, o4 + nb, none⟩), .int .u32 (x : Int), .slice (some ⟨XB, 0, none⟩) 1 1, .slice (some ⟨F, 0, none⟩) n n, .func (.func 59) #[] #[.pointer (some ⟨SB, 0, none⟩)], xs.getD 0 undef, xs.getD 1 undef, undef, undef, undef, undef, undef, undef, undef, undef, undef, undef, undef, undef, undef, undef, undef, undef, undef], defers := [] }) ?assign ?body ?done
            case assign =>
              rintro l k xs W K ⟨j, v, hj, rfl⟩ hKK
              gi_wp2
              exact hKK
            case body =>
              rintro l k xs W hkN ⟨a, G, ms, hak, hI⟩ ⟨j, v, hj, rfl⟩
              obtain rfl : a = j + 1 := by omega
              obtain ⟨la, lc, m, L, hlb, hown, hL⟩ := hI.lits
              have hm : m = L.length := by have := hown.1; simpa using this.symm
              have hLle : ∀ x ∈ L, x ≤ 2 * varsN c + 1 := by
                intro x hx
                rw [hL] at hx
                split at hx
                · rw [List.mem_singleton.1 hx]; exact hbx.out
                · exact nxL_le HM.out _ x hx
              have hLlen : L.length ≤ 20000 := by
                rw [hL]
                split
                · simp
                · have h1 := nxL_len c (ms (j + 1)); have h2 := hNfew.out; unfold varsN at h2; omega
              have hlen5 : c.cons.length = s.n5 := HC.out.s5.lenMap
              have h5 : s.n5 ≤ 1024 := by rw [← hlen5]; exact HM.out.lens.2.2
              obtain ⟨la', lc', el, _, hsl⟩ := Sees.owned hown
              cases el
              have HCORE := Lib.hid hI.core
              have HLBX := Lib.hid hlb
              have HOWN := Lib.hid hown
              have HSL := Lib.hid hsl
              have HLE := Lib.hid hLle
              have HLL := Lib.hid hL
              have HMM := Lib.hid hm
              have p0 : W.cell? ⟨w.heap.size, 0, none⟩ = some (.int .i64 c.ins) := cell_of_block HCORE.out.cir 0
              have p1 : W.cell? ⟨w.heap.size, 1, none⟩ = some (.slice s.a1 s.n1 s.c1) := cell_of_block HCORE.out.cir 1
              have p2 : W.cell? ⟨w.heap.size, 2, none⟩ = some (.slice s.a2 s.n2 s.c2) := cell_of_block HCORE.out.cir 2
              have p3 : W.cell? ⟨w.heap.size, 3, none⟩ = some (.slice s.a3 s.n3 s.c3) := cell_of_block HCORE.out.cir 3
              have p4 : W.cell? ⟨w.heap.size, 4, none⟩ = some (.slice s.a4 s.n4 s.c4) := cell_of_block HCORE.out.cir 4
              have p5 : W.cell? ⟨w.heap.size, 5, none⟩ = some (.slice s.a5 s.n5 s.c5) := cell_of_block HCORE.out.cir 5
              have a0 : W.cell? ⟨AB, 0, none⟩ = some (.slice (some ⟨F, 0, none⟩) n n) := cell_of_block HCORE.out.box 0
              have l0 : W.cell? ⟨LB, 0, none⟩ = some (.slice la m lc) := cell_of_block HLBX.out 0
              have HS0 := Lib.hid (And.intro a0 (And.intro p0 (And.intro p1 (And.intro p2 (And.intro p3 (And.intro p4 (And.intro p5 l0)))))))
              have HSD := Lib.hid (keep8 HS0.out ((Below.refl _ W).drew))
              have hjn : (j : Int) < (n : Int) := by omega
              have hjz : (0 : Int) ≤ (j : Int) := by omega
              have HJ := Lib.hid (And.intro hak hj)
              have H5 := Lib.hid (And.intro hlen5 h5)
              have HLEN := Lib.hid hLlen
              clear hI hlb hown hL hm hLle hLlen hlen5 h5 hsl p0 p1 p2 p3 p4 p5 a0 l0 hak hj
              gi_upto_region 7 with fail
              refine wpIn_region_peelN (S := fun w' => w'.cell? ⟨AB, 0, none⟩ = some (.slice (some ⟨F, 0, none⟩) n n) ∧ w'.cell? ⟨w.heap.size, 0, none⟩ = some (.int .i64 c.ins) ∧ w'.cell? ⟨w.heap.size, 1, none⟩ = some (.slice s.a1 s.n1 s.c1) ∧ w'.cell? ⟨w.heap.size, 2, none⟩ = some (.slice s.a2 s.n2 s.c2) ∧ w'.cell? ⟨w.heap.size, 3, none⟩ = some (.slice s.a3 s.n3 s.c3) ∧ w'.cell? ⟨w.heap.size, 4, none⟩ = some (.slice s.a4 s.n4 s.c4) ∧ w'.cell? ⟨w.heap.size, 5, none⟩ = some (.slice s.a5 s.n5 s.c5) ∧ w'.cell? ⟨LB, 0, none⟩ = some (.slice la m lc)) 10 (by kernel_rfl) (by kernel_rfl) rfl (by simp only [List.getElem?_toArray, List.getElem?_cons_zero, List.getElem?_cons_succ]; rfl) (by kernel_rfl) ?_
              simp only [List.pop_toArray, List.dropLast_cons_cons, List.dropLast_singleton]
              refine wpAnyH_take (i := 0) (v := ?_) (by simp only [List.getElem?_toArray, List.getElem?_cons_zero]; rfl) (by kernel_rfl) (by kernel_rfl) (by kernel_rfl) (fun _ _ _ h => h) (Or.inl ⟨by rfl, ?_⟩) HSD.out ?_
              rotate_left
              · intro w hSw
                (try dsimp only at hSw)
                obtain ⟨q0_, q1_, q2_, q3_, q4_, q5_, q6_, q7_⟩ := hSw
                go_simp
                try with_reducible rfl
              try simp only [Act.put, List.setIfInBounds_toArray, List.set_cons_zero, List.set_cons_succ]
              refine wpAnyH_take (i := 1) (v := ?_) (by simp only [List.getElem?_toArray, List.getElem?_cons_zero, List.getElem?_cons_succ]; rfl) (by kernel_rfl) (by kernel_rfl) (by kernel_rfl) (fun _ _ _ h => h) (Or.inl ⟨by rfl, ?_⟩) HSD.out ?_
              rotate_left
              · intro w hSw
                (try dsimp only at hSw)
                obtain ⟨q0_, q1_, q2_, q3_, q4_, q5_, q6_, q7_⟩ := hSw
                go_simp
                try with_reducible rfl
              try simp only [Act.put, List.setIfInBounds_toArray, List.set_cons_zero, List.set_cons_succ]
              refine wpAnyH_take (i := 2) (v := ?_) (by simp only [List.getElem?_toArray, List.getElem?_cons_zero, List.getElem?_cons_succ]; rfl) (by kernel_rfl) (by kernel_rfl) (by kernel_rfl) (fun _ _ _ h => h) (Or.inl ⟨by rfl, ?_⟩) HSD.out ?_
              rotate_left
              · intro w hSw
                (try dsimp only at hSw)
                obtain ⟨q0_, q1_, q2_, q3_, q4_, q5_, q6_, q7_⟩ := hSw
                go_simp
                try with_reducible rfl
              try simp only [Act.put, List.setIfInBounds_toArray, List.set_cons_zero, List.set_cons_succ]
              refine wpAnyH_take (i := 3) (v := ?_) (by simp only [List.getElem?_toArray, List.getElem?_cons_zero, List.getElem?_cons_succ]; rfl) (by kernel_rfl) (by kernel_rfl) (by kernel_rfl) (fun _ _ _ h => h) (Or.inl ⟨by rfl, ?_⟩) HSD.out ?_
              rotate_left
              · intro w hSw
                (try dsimp only at hSw)
                obtain ⟨q0_, q1_, q2_, q3_, q4_, q5_, q6_, q7_⟩ := hSw
                go_simp
                try with_reducible rfl
              try simp only [Act.put, List.setIfInBounds_toArray, List.set_cons_zero, List.set_cons_succ]
              refine wpAnyH_take (i := 4) (v := ?_) (by simp only [List.getElem?_toArray, List.getElem?_cons_zero, List.getElem?_cons_succ]; rfl) (by kernel_rfl) (by kernel_rfl) (by kernel_rfl) (fun _ _ _ h => h) (Or.inl ⟨by rfl, ?_⟩) HSD.out ?_
              rotate_left
              · intro w hSw
                (try dsimp only at hSw)
                obtain ⟨q0_, q1_, q2_, q3_, q4_, q5_, q6_, q7_⟩ := hSw
                go_simp
                try with_reducible rfl
              try simp only [Act.put, List.setIfInBounds_toArray, List.set_cons_zero, List.set_cons_succ]
              refine wpAnyH_take (i := 5) (v := ?_) (by simp only [List.getElem?_toArray, List.getElem?_cons_zero, List.getElem?_cons_succ]; rfl) (by kernel_rfl) (by kernel_rfl) (by kernel_rfl) (fun _ _ _ h => h) (Or.inl ⟨by rfl, ?_⟩) HSD.out ?_
              rotate_left
              · intro w hSw
                (try dsimp only at hSw)
                obtain ⟨q0_, q1_, q2_, q3_, q4_, q5_, q6_, q7_⟩ := hSw
                go_simp
                try with_reducible rfl
              try simp only [Act.put, List.setIfInBounds_toArray, List.set_cons_zero, List.set_cons_succ]
              refine wpAnyH_ready (rs := [6]) (by kernel_rfl) (by simp) ?_
              refine AllReadyH.cons (by simp only [List.getElem?_toArray, List.getElem?_cons_zero, List.getElem?_cons_succ]; rfl) (fun K hK => ?_) AllReadyH.nil
              go_simp
              obtain ⟨V1, hV1⟩ : ∃ V1, V1 = (W.alloc (.cells #[.slice la m lc, .slice s.a5 s.n5 s.c5] 24)).drew := ⟨_, rfl⟩
              obtain ⟨D, hD⟩ : ∃ D, D = W.heap.size := ⟨_, rfl⟩
              have hb1 : Below W.heap.size W V1 := by rw [hV1]; exact (ext_alloc _ _).drew
              have hd1 : V1.heap[D]? = some (.cells #[.slice la m lc, .slice s.a5 s.n5 s.c5] 24 (0, 0)) := by rw [hV1]; exact heap_new _ _ _ hD
              have HB1 := Lib.hid hb1
              have HD1 := Lib.hid hd1
              have HS1 := Lib.hid (keep8 HS0.out hb1)
              have HV1 : Hid ((W.alloc (.cells #[.slice la m lc, .slice s.a5 s.n5 s.c5] 24)).drew = V1) := hV1.symm
              have HDE : Hid (W.heap.size = D) := hD.symm
              clear hV1 hD hb1 hd1
              rw [HV1.out, HDE.out]
              clear HV1 HDE
              refine hK.out _ _ HS1.out (fun _ => ?_)
              clear hK K
              try simp only [Act.put, List.setIfInBounds_toArray, List.set_cons_zero, List.set_cons_succ]
              refine wpAnyH_ready (rs := [7]) (by kernel_rfl) (by simp) ?_
              refine AllReadyH.cons (by simp only [List.getElem?_toArray, List.getElem?_cons_zero, List.getElem?_cons_succ]; rfl) (fun K hK => ?_) AllReadyH.nil
              go_simp
              have hcc := concatU2_any L c.cons la s.a5 m lc s.n5 s.c5 D V1 (HSL.out.below HB1.out) ((HC.out.s5.below HCORE.out.low).below HB1.out) HD1.out (by have := HLEN.out; have := HMM.out; omega) (by have := H5.out.2; omega) (fun x hx => by have := HLE.out x hx; have := hNfew.out; omega) (fun x hx => by have := hcon.out x hx; have := hNfew.out; omega)
              refine hcc.mono ?_
              rintro e V2 ⟨v2, rfl, hrow2, hb2⟩
              clear hcc
              obtain ⟨ra, rc, rfl, _, hs2⟩ := hrow2.sees
              have HB2x := Lib.hid (ext_trans HB1.out hb2)
              have HS2 := Lib.hid (keep8 HS0.out HB2x.out)
              have HR2 := Lib.hid hs2
              clear hrow2 hb2 hs2
              refine hK.out _ _ HS2.out (fun _ => ?_)
              clear hK K
              try simp only [Act.put, List.setIfInBounds_toArray, List.set_cons_zero, List.set_cons_succ]
              refine wpAnyH_ready (rs := [8]) (by kernel_rfl) (by simp) ?_
              refine AllReadyH.cons (by simp only [List.getElem?_toArray, List.getElem?_cons_zero, List.getElem?_cons_succ]; rfl) (fun K hK => ?_) AllReadyH.nil
              go_simp
              have hre := reachW_any c (L ++ c.cons) s ra (m + s.n5) rc V2 ((HC.out.below HCORE.out.low).below HB2x.out) HSM.out HLO.out.1 HLO.out.2 HM.out HR2.out (by have := HLEN.out; have := HMM.out; have := H5.out.2; omega) (fun x hx => by
                rcases List.mem_append.1 hx with h1 | h1
                · have := HLE.out x h1; omega
                · have := hcon.out x h1; omega)
              unfold cirV at hre
              refine hre.mono ?_
              rintro e V3 ⟨M, g, rfl, hcone, hg, hgl, hb3⟩
              clear hre
              have HB3x := Lib.hid (ext_trans HB2x.out hb3)
              have HS3 := Lib.hid (keep8 HS0.out HB3x.out)
              have HCN := Lib.hid hcone
              have HG := Lib.hid hg
              have HGL : Hid (w.heap.size ≤ g) := Nat.le_trans HCORE.out.low.size (Nat.le_trans HB2x.out.size hgl)
              clear hcone hg hgl hb3 HS2 HR2
              refine hK.out _ _ HS3.out (fun _ => ?_)
              clear hK K
              try simp only [Act.put, List.setIfInBounds_toArray, List.set_cons_zero, List.set_cons_succ]
              refine wpAnyH_take (i := 9) (v := ?_) (by simp only [List.getElem?_toArray, List.getElem?_cons_zero, List.getElem?_cons_succ]; rfl) (by kernel_rfl) (by kernel_rfl) (by kernel_rfl) (fun _ _ _ h => h) (Or.inl ⟨by rfl, ?_⟩) HS3.out ?_
              rotate_left
              · intro w hSw
                (try dsimp only at hSw)
                obtain ⟨q0_, q1_, q2_, q3_, q4_, q5_, q6_, q7_⟩ := hSw
                go_simp
                try with_reducible rfl
              try simp only [Act.put, List.setIfInBounds_toArray, List.set_cons_zero, List.set_cons_succ]
              have hcF := cell_of_block (heap_below HCORE.out.row HB3x.out) j
              have huF := unfrozen_of_block (heap_below HCORE.out.row HB3x.out) j
              unfold rowsB at hcF
              rw [fcells_get _ _ _ (by have := HJ.out; omega), if_neg (by omega)] at hcF
              refine wpAnyH_done (by kernel_rfl) ?_ _
              unfold LastQ wpOp
              simp only [List.getElem?_toArray, List.getElem?_cons_zero, List.getElem?_cons_succ]
              rw [if_pos (by rfl)]
              refine Or.inl ?_
              go_simp
              refine Calm.normal ?_
              have hc4 := (HCORE.out.below HB3x.out).setF HFG.out.1 (by rw [← HLL.out]; exact HCN.out) HG.out HGL.out
              have hl4 := (Below.heap_setCell V3 ⟨F, j, none⟩ (.slice (some ⟨g, 0, none⟩) (1 + varsN c) (1 + varsN c)) LB (by have := HLB.out; show LB ≠ F; omega)).trans (heap_below HLBX.out HB3x.out)
              have hg4 := (Below.heap_setCell V3 ⟨F, j, none⟩ (.slice (some ⟨g, 0, none⟩) (1 + varsN c) (1 + varsN c)) g (heap_apart HG.out (heap_below HCORE.out.row HB3x.out) (by decide))).trans HG.out
              have hk4 : KpB w.heap.size F n LB W (V3.setCell ⟨F, j, none⟩ (.slice (some ⟨g, 0, none⟩) (1 + varsN c) (1 + varsN c))) := (KpB.below HB3x.out HCORE.out.low.size).trans (KpB.setF V3 j _ HFG.out.1)
              have hf4 : KeepsFrom W5.heap.size W (V3.setCell ⟨F, j, none⟩ (.slice (some ⟨g, 0, none⟩) (1 + varsN c) (1 + varsN c))) := (keepsFrom_below HB3x.out).trans ((KeepsOthers.setCell _ _ _).from _)
              have e4 : (rowsB n (1 + varsN c) j (fun f => if f = j then g else G f))[j]? = some (.slice (some ⟨g, 0, none⟩) (1 + varsN c) (1 + varsN c)) := by
                unfold rowsB
                rw [fcells_get _ _ _ (by have := HJ.out; omega), if_pos (Nat.le_refl _)]
                simp
              have c4 := (cell_of_block hc4.row j).trans e4
              obtain ⟨V4, hV4⟩ : ∃ V4, V4 = V3.setCell ⟨F, j, none⟩ (.slice (some ⟨g, 0, none⟩) (1 + varsN c) (1 + varsN c)) := ⟨_, rfl⟩
              rw [← hV4] at hc4 hl4 hg4 hk4 hf4 c4 ⊢
              have HC4 := Lib.hid hc4
              have HL4x := Lib.hid hl4
              have HG4 := Lib.hid hg4
              have HK4 := Lib.hid hk4
              have HF4 := Lib.hid hf4
              have p0 : V4.cell? ⟨w.heap.size, 0, none⟩ = some (.int .i64 c.ins) := cell_of_block HC4.out.cir 0
              have p1 : V4.cell? ⟨w.heap.size, 1, none⟩ = some (.slice s.a1 s.n1 s.c1) := cell_of_block HC4.out.cir 1
              have p2 : V4.cell? ⟨w.heap.size, 2, none⟩ = some (.slice s.a2 s.n2 s.c2) := cell_of_block HC4.out.cir 2
              have p3 : V4.cell? ⟨w.heap.size, 3, none⟩ = some (.slice s.a3 s.n3 s.c3) := cell_of_block HC4.out.cir 3
              have p4 : V4.cell? ⟨w.heap.size, 4, none⟩ = some (.slice s.a4 s.n4 s.c4) := cell_of_block HC4.out.cir 4
              have p5 : V4.cell? ⟨w.heap.size, 5, none⟩ = some (.slice s.a5 s.n5 s.c5) := cell_of_block HC4.out.cir 5
              have a0 : V4.cell? ⟨AB, 0, none⟩ = some (.slice (some ⟨F, 0, none⟩) n n) := cell_of_block HC4.out.box 0
              have HS5 := Lib.hid (And.intro a0 (And.intro p0 (And.intro p1 (And.intro p2 (And.intro p3 (And.intro p4 (And.intro p5 c4)))))))
              have HSD5 := Lib.hid (keep8 HS5.out ((Below.refl _ V4).drew))
              clear hc4 hl4 hg4 hk4 hf4 e4 c4 hV4 hcF huF p0 p1 p2 p3 p4 p5 a0 HS0 HSD HS1 HS3 HB1 HB2x HD1
              gi_upto_region 8 with fail
              refine wpIn_region_peelN (S := fun w' => w'.cell? ⟨AB, 0, none⟩ = some (.slice (some ⟨F, 0, none⟩) n n) ∧ w'.cell? ⟨w.heap.size, 0, none⟩ = some (.int .i64 c.ins) ∧ w'.cell? ⟨w.heap.size, 1, none⟩ = some (.slice s.a1 s.n1 s.c1) ∧ w'.cell? ⟨w.heap.size, 2, none⟩ = some (.slice s.a2 s.n2 s.c2) ∧ w'.cell? ⟨w.heap.size, 3, none⟩ = some (.slice s.a3 s.n3 s.c3) ∧ w'.cell? ⟨w.heap.size, 4, none⟩ = some (.slice s.a4 s.n4 s.c4) ∧ w'.cell? ⟨w.heap.size, 5, none⟩ = some (.slice s.a5 s.n5 s.c5) ∧ w'.cell? ⟨F, j, none⟩ = some (.slice (some ⟨g, 0, none⟩) (1 + varsN c) (1 + varsN c))) 6 (by kernel_rfl) (by kernel_rfl) rfl (by simp only [List.getElem?_toArray, List.getElem?_cons_zero, List.getElem?_cons_succ]; rfl) (by kernel_rfl) ?_
              simp only [List.pop_toArray, List.dropLast_cons_cons, List.dropLast_singleton]
              refine wpAnyH_take (i := 0) (v := ?_) (by simp only [List.getElem?_toArray, List.getElem?_cons_zero]; rfl) (by kernel_rfl) (by kernel_rfl) (by kernel_rfl) (fun _ _ _ h => h) (Or.inl ⟨by rfl, ?_⟩) HSD5.out ?_
              rotate_left
              · intro w hSw
                (try dsimp only at hSw)
                obtain ⟨q0_, q1_, q2_, q3_, q4_, q5_, q6_, q7_⟩ := hSw
                go_simp
                try with_reducible rfl
              try simp only [Act.put, List.setIfInBounds_toArray, List.set_cons_zero, List.set_cons_succ]
              refine wpAnyH_take (i := 1) (v := ?_) (by simp only [List.getElem?_toArray, List.getElem?_cons_zero, List.getElem?_cons_succ]; rfl) (by kernel_rfl) (by kernel_rfl) (by kernel_rfl) (fun _ _ _ h => h) (Or.inl ⟨by rfl, ?_⟩) HSD5.out ?_
              rotate_left
              · intro w hSw
                (try dsimp only at hSw)
                obtain ⟨q0_, q1_, q2_, q3_, q4_, q5_, q6_, q7_⟩ := hSw
                go_simp
                try with_reducible rfl
              try simp only [Act.put, List.setIfInBounds_toArray, List.set_cons_zero, List.set_cons_succ]
              refine wpAnyH_take (i := 2) (v := ?_) (by simp only [List.getElem?_toArray, List.getElem?_cons_zero, List.getElem?_cons_succ]; rfl) (by kernel_rfl) (by kernel_rfl) (by kernel_rfl) (fun _ _ _ h => h) (Or.inl ⟨by rfl, ?_⟩) HSD5.out ?_
              rotate_left
              · intro w hSw
                (try dsimp only at hSw)
                obtain ⟨q0_, q1_, q2_, q3_, q4_, q5_, q6_, q7_⟩ := hSw
                go_simp
                try with_reducible rfl
              try simp only [Act.put, List.setIfInBounds_toArray, List.set_cons_zero, List.set_cons_succ]
              refine wpAnyH_take (i := 3) (v := ?_) (by simp only [List.getElem?_toArray, List.getElem?_cons_zero, List.getElem?_cons_succ]; rfl) (by kernel_rfl) (by kernel_rfl) (by kernel_rfl) (fun _ _ _ h => h) (Or.inl ⟨by rfl, ?_⟩) HSD5.out ?_
              rotate_left
              · intro w hSw
                (try dsimp only at hSw)
                obtain ⟨q0_, q1_, q2_, q3_, q4_, q5_, q6_, q7_⟩ := hSw
                go_simp
                try with_reducible rfl
              try simp only [Act.put, List.setIfInBounds_toArray, List.set_cons_zero, List.set_cons_succ]
              refine wpAnyH_take (i := 4) (v := ?_) (by simp only [List.getElem?_toArray, List.getElem?_cons_zero, List.getElem?_cons_succ]; rfl) (by kernel_rfl) (by kernel_rfl) (by kernel_rfl) (fun _ _ _ h => h) (Or.inl ⟨by rfl, ?_⟩) HSD5.out ?_
              rotate_left
              · intro w hSw
                (try dsimp only at hSw)
                obtain ⟨q0_, q1_, q2_, q3_, q4_, q5_, q6_, q7_⟩ := hSw
                go_simp
                try with_reducible rfl
              try simp only [Act.put, List.setIfInBounds_toArray, List.set_cons_zero, List.set_cons_succ]
              refine wpAnyH_ready (rs := [5]) (by kernel_rfl) (by simp) ?_
              refine AllReadyH.cons (by simp only [List.getElem?_toArray, List.getElem?_cons_zero, List.getElem?_cons_succ]; rfl) (fun K hK => ?_) AllReadyH.nil
              go_simp
              have hnx := nexts_any c M s (some ⟨g, 0, none⟩) (1 + varsN c) (1 + varsN c) V4.drew ((HC.out.below HC4.out.low).below ((Below.refl _ V4).drew)) HSM.out HM.out (sees_bcells (heap_below HG4.out ((Below.refl _ V4).drew)) HCN.out.len) rfl
              unfold cirV at hnx
              refine hnx.mono ?_
              rintro e V5 ⟨na, nc, rfl, hno, hb6⟩
              clear hnx
              have HB6 := Lib.hid (below_undrew hb6)
              have HS6 := Lib.hid (keep8 HS5.out HB6.out)
              have HNO : Hid (V5.ownsRow w.heap.size 53 1 (.slice na (nxL c M).length nc) (nxL c M).length ((nxL c M).map nv32)) := ownsN_base hno HC4.out.low.size
              clear hno hb6
              refine hK.out _ _ HS6.out (fun _ => ?_)
              clear hK K
              try simp only [Act.put, List.setIfInBounds_toArray, List.set_cons_zero, List.set_cons_succ]
              have l6 := heap_below HL4x.out HB6.out
              have d0 := cell_of_block l6 0
              have d1 := unfrozen_of_block l6 0
              refine wpAnyH_done (by kernel_rfl) ?_ _
              unfold LastQ wpOp
              simp only [List.getElem?_toArray, List.getElem?_cons_zero, List.getElem?_cons_succ]
              rw [if_pos (by rfl)]
              refine Or.inl ?_
              go_simp
              refine Calm.normal ?_
              gi_wp2
              have hc7 := (HC4.out.below HB6.out).setL l6 HLB.out.1 (.slice na (nxL c M).length nc)
              have hkp := HK4.out.trans ((KpB.below HB6.out HC4.out.low.size).trans (KpB.setL V5 (.slice na (nxL c M).length nc) HLB.out.1 (by have := HLB.out; omega)))
              have hkf := HF4.out.trans ((keepsFrom_below HB6.out).trans ((KeepsOthers.setCell V5 ⟨LB, 0, none⟩ (.slice na (nxL c M).length nc)).from _))
              refine ⟨hkf, hkp, j, _, _, by have := HJ.out; omega, hc7, na, nc, (nxL c M).length, nxL c M, box_set l6 _, ownsN_other HNO.out fun q hq => Below.heap_setCell V5 ⟨LB, 0, none⟩ _ q (fun e => (ownsN_notown HNO.out l6 (by decide)) (by rw [hq, e])), ?_⟩
              rw [if_neg (by have := HJ.out; omega)]
              simp
            case done =>
              rintro D W hDle ⟨a, G, ms, hak, hI⟩ hD
              obtain rfl : a = 0 := by omega
              have HI := Lib.hid hI
              have HD := Lib.hid hD
              have a0 : W.cell? ⟨AB, 0, none⟩ = some (.slice (some ⟨F, 0, none⟩) n n) := cell_of_block HI.out.core.box 0
              clear hD hI hak
              gi_wp2
              have hw : w.heap.size ≤ D := Nat.le_trans HI5.out.core.low.size hDle
              have hI9 := (HI.out.put (o' := .deferred none) hw HD.out rfl).core
              refine ⟨by simp, .inl ⟨_, _, rfl, run_takeDeferred HD.out, ?_⟩⟩
              refine ⟨.tuple #[.slice (some ⟨F, 0, none⟩) n n, .int .i64 0], results_tmp2 (t := 6) (u := 7) rfl _ _ _, ?_⟩
              have hms : ∀ f, f < n → ((List.range n).map ms).getD f [] = ms f := fun f hf => by simp [List.getD, hf]
              refine HP.out _ ((List.range n).map ms) G F _ rfl ⟨by simp, fun f hf => ?_⟩ hI9.row (fun f hf => ?_) HFG.out.1 hI9.low
              · rw [hms f hf]
                unfold rootsAt
                have := hI9.cone f (Nat.zero_le _) hf
                by_cases e : f + 1 = n
                · rw [if_pos e] at this ⊢; exact this
                · rw [if_neg e] at this ⊢
                  rw [hms (f + 1) (by omega)]
                  exact this
              · rw [hms f hf]
                exact hI9.rows f (Nat.zero_le _) hf
end Go.Proofs.Ytdheldhecimfnaa
/- The law's great, by its contract. -/
namespace Go.Proofs.Ytdheldhecimfnaa
open Go Go.RowKit Go.Joins

def great9 (c : NormC) (t : TraceC) : Bool := decide (2000 < c.ins) || (decide (300 < c.lats.length) || (decide (300 < c.gates.length) || (decide (300 < c.cons.length) || decide (300 < t.frames.length))))
set_option maxRecDepth 100000 in
set_option maxHeartbeats 3200000 in
theorem great9_any (c : NormC) (t : TraceC) (s : CSlots) (st : TSlots) (w : World) (h : SeesCir w s c) (ht : SeesTr w st t) :
    Calls Try.prog 6 #[cirV c.ins s, traceV t.bad st] w fun e w' => e = .returned (.bool (great9 c t)) ∧ Below w.heap.size w w' := by
  obtain ⟨a1, n1, c1, a2, n2, c2, a3, n3, c3, a4, n4, c4, a5, n5, c5⟩ := s
  obtain ⟨b1, m1, d1, b2, m2, d2, ss⟩ := st
  have l1 : c.lats.length = n1 := h.s1.1
  have l2 : c.gates.length = n2 := h.s2.1
  have l5 : c.cons.length = n5 := h.s5.lenMap
  have l6 : t.frames.length = m2 := ht.s2.n_eq
  obtain ⟨z, hz⟩ : ∃ z, z = c.ins := ⟨_, rfl⟩
  obtain ⟨y, hy⟩ : ∃ y, y = t.bad := ⟨_, rfl⟩
  have HE : Hid (great9 c t = (decide (2000 < z) || (decide (300 < n1) || (decide (300 < n2) || (decide (300 < n5) || decide (300 < m2)))))) := by
    show _ = _; unfold great9; rw [l1, l2, l5, l6, ← hz]
  rw [← hz, ← hy]
  clear l1 l2 l5 l6 hz hy h ht
  unfold cirV traceV
  go_enter Try.func6, Try.ntmps6
  go_upto_region 1 with fail
  generalize hW : World.alloc (World.alloc w _) _ = W1
  have hb : Below w.heap.size w W1 := by subst hW; exact ext_trans (ext_alloc _ _) (ext_alloc _ _)
  have hx : W1.heap[w.heap.size]? = some (.cells #[.int .i64 z, .slice a1 n1 c1, .slice a2 n2 c2, .slice a3 n3 c3, .slice a4 n4 c4, .slice a5 n5 c5] 26 (0, 0)) := by subst hW; exact heap_below (heap_new _ _ _ rfl) (ext_alloc _ _)
  have ht : W1.heap[w.heap.size + 1]? = some (.cells #[.int .i64 y, .slice b1 m1 d1, .slice b2 m2 d2] 30 (0, 0)) := by subst hW; exact heap_new _ _ _ (by simp)
  have HB := Lib.hid hb
  have p0 := cell_of_block hx 0
  have p1 := cell_of_block hx 1
  have p2 := cell_of_block hx 2
  have p5 := cell_of_block hx 5
  have r2 := cell_of_block ht 2
  clear hW hb hx ht
  by_cases t1 : 2000 < z
  · have e1 : decide ((2000 : Int) < z) = true := by simpa using t1
    have HF : Hid (great9 c t = true) := by show _ = _; rw [HE.out, e1]; rfl
    go_wp2
    go_ret
    exact ⟨by rw [HF.out]; rfl, HB.out⟩
  have e1 : decide ((2000 : Int) < z) = false := by simpa using t1
  by_cases t2 : 300 < n1
  · have e2 : decide ((300 : Int) < (n1 : Int)) = true := by simp; omega
    have HF : Hid (great9 c t = true) := by show _ = _; rw [HE.out, decide_eq_true t2]; simp
    go_wp2
    go_ret
    exact ⟨by rw [HF.out]; rfl, HB.out⟩
  have e2 : decide ((300 : Int) < (n1 : Int)) = false := by simp; omega
  by_cases t3 : 300 < n2
  · have e3 : decide ((300 : Int) < (n2 : Int)) = true := by simp; omega
    have HF : Hid (great9 c t = true) := by show _ = _; rw [HE.out, decide_eq_true t3]; simp
    go_wp2
    go_ret
    exact ⟨by rw [HF.out]; rfl, HB.out⟩
  have e3 : decide ((300 : Int) < (n2 : Int)) = false := by simp; omega
  by_cases t4 : 300 < n5
  · have e4 : decide ((300 : Int) < (n5 : Int)) = true := by simp; omega
    have HF : Hid (great9 c t = true) := by show _ = _; rw [HE.out, decide_eq_true t4]; simp
    go_wp2
    go_ret
    exact ⟨by rw [HF.out]; rfl, HB.out⟩
  have e4 : decide ((300 : Int) < (n5 : Int)) = false := by simp; omega
  have e5 : decide ((300 : Int) < (m2 : Int)) = decide (300 < m2) := decide_eq_decide.2 (by omega)
  have HF : Hid (great9 c t = decide (300 < m2)) := by show _ = _; rw [HE.out, e1, decide_eq_false t2, decide_eq_false t3, decide_eq_false t4]; rfl
  obtain ⟨q, hq⟩ : ∃ q, q = decide (300 < m2) := ⟨_, rfl⟩
  rw [← hq] at e5 HF
  clear hq
  go_wp2
  go_ret
  exact ⟨by rw [HF.out]; rfl, HB.out⟩

end Go.Proofs.Ytdheldhecimfnaa
namespace Go.Proofs.Ytdheldhecimfnaa
open Go Go.RowKit

section
variable {c : NormC}
/-- A latch that is reached across: so is what it was to be. -/
theorem rch_next {roots : List Nat} {i : Nat} (hi : i < c.lats.length) (h : Rch (inA c) roots (fstL c + i)) (h0 : 0 < (c.lats.getD i (0, 0)).1 / 2) : Rch (inA c) roots ((c.lats.getD i (0, 0)).1 / 2) := by
  have e : (inA c (fstL c + i)).1 = (c.lats.getD i (0, 0)).1 := by
    unfold inA
    rw [if_pos ⟨by omega, by unfold fstL fstG; omega⟩, Nat.add_sub_cancel_left]
  have := h.fst (by rw [e]; exact h0)
  rw [e] at this
  exact this
theorem told_next (hm : MayC c) {lits : List Nat} (hl : ∀ x ∈ lits, x / 2 ≤ varsN c) (E : List Bool) : ∀ x ∈ lits ++ nxL c E, x / 2 ≤ varsN c := fun x hx => by
  rcases List.mem_append.1 hx with h | h
  · exact hl x h
  · obtain ⟨i, hi, _, rfl⟩ := mem_nxL.1 h
    have := (hm.lats _ (getD_mem (d := (0, 0)) hi)).1
    omega
theorem grow_again {lits : List Nat} {E A : List Bool} (hE : IsCone (inA c) lits (1 + varsN c) E) (hA : IsCone (inW c) (lits ++ nxL c E) (1 + varsN c) A) : A = E := by
  have hrt : ∀ x ∈ lits ++ nxL c E, 0 < x / 2 → Rch (inA c) lits (x / 2) := fun x hx h0 => by
    rcases List.mem_append.1 hx with h | h
    · exact Rch.root h h0
    · obtain ⟨i, hi, hm2, rfl⟩ := mem_nxL.1 h
      exact rch_next hi ((hE.iff _ (by unfold fstL varsN; omega)).1 hm2) h0
  refine ext_getD hA.len hE.len fun v hv => ?_
  rw [hA.iff v hv, hE.iff v hv]
  constructor
  · intro h
    exact (rch_across h).again hrt
  · intro h
    have key : Rch (inA c) lits v ∧ Rch (inW c) (lits ++ nxL c E) v := by
      have step : ∀ u, (Rch (inA c) lits u ∧ Rch (inW c) (lits ++ nxL c E) u) → (0 < (inA c u).1 / 2 → Rch (inW c) (lits ++ nxL c E) ((inA c u).1 / 2)) ∧ (0 < (inA c u).2 / 2 → Rch (inW c) (lits ++ nxL c E) ((inA c u).2 / 2)) := fun u hu => by
        by_cases e : fstL c ≤ u ∧ u < fstG c
        · have e1 : inA c u = ((c.lats.getD (u - fstL c) (0, 0)).1, 0) := by unfold inA; rw [if_pos e]
          have hi : u - fstL c < c.lats.length := by unfold fstL fstG at *; omega
          have hu2 : fstL c + (u - fstL c) = u := by omega
          rw [e1]
          refine ⟨fun h0 => Rch.root (List.mem_append.2 (.inr (mem_nxL.2 ⟨_, hi, ?_, rfl⟩))) h0, fun h0 => by simp at h0⟩
          rw [hu2]
          exact (hE.iff _ (by unfold fstL fstG varsN at *; omega)).2 hu.1
        · have e1 : inA c u = inW c u := by unfold inA; rw [if_neg e]
          rw [e1]
          exact ⟨fun h0 => hu.2.fst h0, fun h0 => hu.2.snd h0⟩
      refine h (fun u => Rch (inA c) lits u ∧ Rch (inW c) (lits ++ nxL c E) u) (fun x hx h0 => ⟨Rch.root hx h0, Rch.root (List.mem_append.2 (.inl hx)) h0⟩) (fun u hu h0 => ⟨hu.1.fst h0, (step u hu).1 h0⟩) (fun u hu h0 => ⟨hu.1.snd h0, (step u hu).2 h0⟩)
    exact key.2
theorem grow_more {lits more : List Nat} {E B : List Bool} (hE : IsCone (inA c) lits (1 + varsN c) E) (hB : IsCone (inA c) ((lits ++ nxL c E) ++ more) (1 + varsN c) B) {v : Nat} (h : E.getD v false = true) : B.getD v false = true := by
  have hv : v < 1 + varsN c := by rw [← hE.len]; exact getD_true_lt h
  refine (hB.iff v hv).2 (((hE.iff v hv).1 h).mono fun x hx => ?_)
  exact List.mem_append.2 (.inl (List.mem_append.2 (.inl hx)))
theorem grow_frames {nb n : Nat} {ms : List (List Bool)} (hF : IsFr c nb n ms) {L : List Bool} (hL : IsCone (inA c) (c.cons ++ [c.bads.getD nb 0]) (1 + varsN c) L) {f v : Nat} (hf : f < n) (h : (ms.getD f []).getD v false = true) : L.getD v false = true := by
  have key : ∀ d f, f + d + 1 = n → ∀ v, v < 1 + varsN c → (ms.getD f []).getD v false = true → Rch (inA c) (c.cons ++ [c.bads.getD nb 0]) v := by
    intro d
    induction d with
    | zero =>
      intro f hf v hv h
      have h1 := ((hF.cone f (by omega)).iff v hv).1 h
      unfold rootsAt at h1
      rw [if_pos (by omega)] at h1
      refine (rch_across h1).mono fun x hx => ?_
      rcases List.mem_append.1 hx with h2 | h2
      · exact List.mem_append.2 (.inr h2)
      · exact List.mem_append.2 (.inl h2)
    | succ d ih =>
      intro f hf v hv h
      have h1 := ((hF.cone f (by omega)).iff v hv).1 h
      unfold rootsAt at h1
      rw [if_neg (by omega)] at h1
      refine (rch_across h1).again fun x hx h0 => ?_
      rcases List.mem_append.1 hx with h2 | h2
      · obtain ⟨i, hi, hm2, rfl⟩ := mem_nxL.1 h2
        exact rch_next hi (ih (f + 1) (by omega) _ (by unfold fstL varsN; omega) hm2) h0
      · exact Rch.root (List.mem_append.2 (.inl h2)) h0
  have hv : v < 1 + varsN c := by rw [← (hF.cone f hf).len]; exact getD_true_lt h
  exact (hL.iff v hv).2 (key (n - 1 - f) f (by omega) v hv h)
end
end Go.Proofs.Ytdheldhecimfnaa
