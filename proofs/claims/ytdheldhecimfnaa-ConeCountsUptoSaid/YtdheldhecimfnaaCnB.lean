/- The law's own examples hold. -/
import Derived.Test.YtdheldhecimfnaaLib
import Derived.Test.YtdheldhecimfnaaNBase
import Derived.Test.YtdheldhecimfnaaRawPred
import Derived.Test.YtdheldhecimfnaaNSpec
import Derived.Test.YtdheldhecimfnaaNVal
import Derived.Test.YtdheldhecimfnaaNTrace
import Derived.Test.YtdheldhecimfnaaNCirc
import Derived.Test.YtdheldhecimfnaaNMayC
import Derived.Test.YtdheldhecimfnaaNRefVars
import Derived.Test.YtdheldhecimfnaaCnSpec
import Derived.Test.YtdheldhecimfnaaCnA
import Derived.Test.YtdheldhecimfnaaRows
import Derived.BigQuiet
import Derived.Deep.AppendLies
import Derived.Deep.CutRange
import Derived.Deep.QuietTactic
import Derived.Deep.RegionHeld3
import Derived.Deep.RegionLaw
import Derived.Deep.RegionWith
import Derived.KernelRfl
import Derived.Laws.EntriesVeiled
import Derived.Laws.Tables
import Derived.Lib.ConvBytes
import Derived.Lib.Hide
import Derived.Lib.SlBytesRow
import Derived.Lib.SmallJoins
import Derived.Maps.AppendAt
import Derived.Shelf.Bytes.SlSmallAll
import Derived.WalkKit
import Derived.WalkLawsBesides
import Derived.WalkSpells
import Derived.Test.YtdheldhecimfnaaCnSmall
import Derived.Test.YtdheldhecimfnaaOwn
import Derived.Test.YtdheldhecimfnaaNOwnsN
import Derived.Test.YtdheldhecimfnaaNStep
import Derived.Test.YtdheldhecimfnaaNBools
import Derived.Test.YtdheldhecimfnaaNTwo
import Derived.Lib.AppendStr
import Derived.OrdersHeld
import Derived.Test.YtdheldhecimfnaaNHeap
import Derived.Test.YtdheldhecimfnaaNOwns
import Derived.Test.YtdheldhecimfnaaCnBools
import Derived.Test.YtdheldhecimfnaaTBits
import Derived.Test.YtdheldhecimfnaaSSpec
import Derived.Laws.Bits64b
import Derived.Laws.BitsAllLaws
import Derived.Laws.BitsLemmas
import Derived.Lib.AppendZeros
import Derived.LoopIn
import Derived.LoopNIn
import Derived.OrdersIn
import Derived.OwnWalkIn
import Derived.RangeFuncBox
import Derived.RangeFuncCalls
import Derived.RangeFuncLeaves
import Derived.RangeFuncNested
import Derived.RangeFuncWrites
import Derived.Shelf.Abstract
import Derived.Shelf.RegionOpen
import Derived.Sort.CutIn
import Derived.Stop.RegionWithIn
import Derived.TacticsInMore
/- cone.exist, by its contract. -/
namespace Go.Proofs.Ytdheldhecimfnaa
open Go Go.RowKit Go.Joins

def missC (V x : Nat) : Bool := decide (V < x / 2)
theorem told_miss {c : NormC} {lits : List Nat} (h : mayC c = true) : toldB c lits = !lits.any (missC (varsC c)) := by
  unfold toldB varsC
  rw [if_pos h, h, Bool.true_and]
  rw [Bool.eq_iff_iff]
  simp only [List.all_eq_true, Bool.not_eq_true', List.any_eq_false, missC, decide_eq_true_eq]
  exact ⟨fun k x hx => by have := k x hx; omega, fun k x hx => by have := k x hx; omega⟩

theorem emiss_any (V x B : Nat) (hx : x < 4294967296) (w : World) (hc : w.cell? ⟨B, 0, .none⟩ = some (.int .i64 (V : Int))) :
    Calls Try.prog 49 #[.int .u32 x, .pointer (some ⟨B, 0, .none⟩)] w fun e w' => e = .returned (.bool (missC V x)) ∧ w = w' := by
  have e : decide ((V : Int) < (x : Int) / 2) = missC V x := by unfold missC; apply decide_eq_decide.2; omega
  have E := Lib.hid e
  clear e
  go_enter Try.func49, Try.ntmps49
  go_wp2
  go_ret
  exact ⟨congrArg (fun b => Ending.returned (.bool b)) E.out, rfl⟩

theorem eidx_u32 (V B : Nat) (l : List Nat) (a : Option Addr) (n c : Nat) (hn : n ≤ 1048576) (h32 : ∀ x ∈ l, x < 4294967296) (w : World) (h : Sees w a n c (l.map nv32)) (hc : w.cell? ⟨B, 0, .none⟩ = some (.int .i64 (V : Int))) :
    Calls Try.prog 68 #[.slice a n c, .func (.func 49) #[] #[.pointer (some ⟨B, 0, .none⟩)]] w (IdxPost (missC V) l w) := by
  have hl := h.lenMap
  have HS := Lib.hid h
  have HL := Lib.hid hl
  have H32 := Lib.hid h32
  have HC := Lib.hid (fun x (hx : x < 4294967296) => emiss_any V x B hx w hc)
  clear h hl hc h32
  go_enter Try.func68, Try.ntmps68
  go_wp2
  go_loop [5, 8] (fun v i => ∃ k : Nat, k ≤ n ∧ i = .int .i64 k ∧ Hid (∀ j, j < k → missC V (l.getD j 0) = false)) (fun _ i => n - (intOf i).toNat)
  case atStart => exact ⟨0, Nat.zero_le _, rfl, fun j hj => absurd hj (by omega)⟩
  case round =>
    obtain ⟨k, hk, rfl, hno⟩ := hrel
    by_cases hlt : k < n
    · obtain ⟨b, off, rfl, hbw⟩ := HS.out.addr (by omega)
      have hcx := HS.out.num k hlt
      have hx32 := H32.out (l.getD k 0) (getD_mem (d := 0) (by rw [HL.out]; exact hlt))
      obtain ⟨x, hx⟩ : ∃ x, x = l.getD k 0 := ⟨_, rfl⟩
      rw [← hx] at hcx hx32
      have HX := Lib.hid hx
      have HCX := Lib.hid (HC.out x hx32)
      clear hx hx32
      have W1 : IntKind.i64.wrap ((k : Int) + 1) = (k : Int) + 1 := IntWalk.i64_in _ (by omega)
      obtain ⟨q, hq⟩ : ∃ q, q = missC V x := ⟨_, rfl⟩
      have HQ := Lib.hid hq
      clear hq
      go_wp2_with fail
      refine HCX.out.mono ?_
      rw [← HQ.out]
      rintro e w' ⟨rfl, rfl⟩
      cases q with
      | true =>
        go_wp2
        go_ret
        refine ⟨k, rfl, by omega, ⟨fun _ => ?_, fun _ => by omega⟩, Below.refl _ _⟩
        exact List.any_eq_true.2 ⟨l.getD k 0, getD_mem (by rw [HL.out]; exact hlt), by rw [← HX.out]; exact HQ.out.symm⟩
      | false =>
        go_wp2
        go_round
        case rel =>
          refine ⟨k + 1, by omega, by go_num, fun j hj => ?_⟩
          rcases Nat.lt_or_ge j k with h | h
          · exact hno.out j h
          · have : j = k := by omega
            subst this
            rw [← HX.out]; exact HQ.out.symm
        case measure => simp [intOf]; omega
    · have hkn : k = n := by omega
      subst hkn
      go_wp2
      go_ret
      refine ⟨-1, rfl, by omega, ⟨fun h => absurd h (by decide), fun h => ?_⟩, Below.refl _ _⟩
      rw [any_none (all_of_getD (d := 0) (fun j hj => hno.out j (by rw [← HL.out]; exact hj)))] at h
      cases h

theorem ehas_u32 (V B : Nat) (l : List Nat) (a : Option Addr) (n c : Nat) (hn : n ≤ 1048576) (h32 : ∀ x ∈ l, x < 4294967296) (w : World) (h : Sees w a n c (l.map nv32)) (hc : w.cell? ⟨B, 0, .none⟩ = some (.int .i64 (V : Int))) :
    Calls Try.prog 50 #[.slice a n c, .func (.func 49) #[] #[.pointer (some ⟨B, 0, .none⟩)]] w (fun e w' => e = .returned (.bool (l.any (missC V))) ∧ Below w.heap.size w w') := by
  have HI := Lib.hid (eidx_u32 V B l a n c hn h32 w h hc)
  clear h hc h32
  obtain ⟨f, hf⟩ : ∃ f, f = Value.func (.func 49) #[] #[.pointer (some ⟨B, 0, .none⟩)] := ⟨_, rfl⟩
  rw [← hf] at HI ⊢
  have HF := Lib.hid hf
  clear hf
  go_enter Try.func50, Try.ntmps50
  go_wp2_with fail
  refine HI.out.mono ?_
  rintro e w' ⟨z, rfl, hz, hiff, hb⟩
  have e : decide (0 ≤ z) = l.any (missC V) := by
    cases hq : l.any (missC V) with
    | true => simpa using hiff.2 hq
    | false => simp; have := fun h => hiff.1 h; rw [hq] at this; exact Int.not_le.1 (fun h => by cases this h)
  have E := Lib.hid e
  clear e hiff
  go_wp2
  go_ret
  exact ⟨congrArg (fun b => Ending.returned (.bool b)) E.out, hb⟩

set_option maxRecDepth 100000 in
set_option maxHeartbeats 3200000 in
theorem exist_any (c : NormC) (lits : List Nat) (s : CSlots) (a : Option Addr) (n cp : Nat) (w : World) (h : SeesCir w s c) (hs : s.small) (hlo : -9223372036854775808 ≤ c.ins) (hhi : c.ins < 9223372036854775808) (hl : Sees w a n cp (lits.map nv32)) (hn : n ≤ 1048576) (h32 : ∀ x ∈ lits, x < 4294967296) :
    Calls Try.prog 24 #[cirV c.ins s, .slice a n cp] w fun e w' => e = .returned (.bool (toldB c lits)) ∧ Below w.heap.size w w' := by
  have HVARS := Lib.hid (fun W (hb : Below w.heap.size w W) => vars_any c s W (h.below hb) hs hlo hhi)
  have HMAY := Lib.hid (fun W (hb : Below w.heap.size w W) => may3_any c s W (h.below hb) hs hlo hhi)
  have HHAS := Lib.hid (fun (V B : Nat) W (hb : Below w.heap.size w W) (hc : W.cell? ⟨B, 0, .none⟩ = some (.int .i64 (V : Int))) => ehas_u32 V B lits a n cp hn h32 W (hl.below hb) hc)
  have YES : Hid (mayC c = true → toldB c lits = !lits.any (missC (varsC c))) := told_miss
  have NO : Hid (mayC c = false → toldB c lits = false) := fun h => by unfold toldB; rw [h]; rfl
  obtain ⟨z, hz⟩ : ∃ z, z = c.ins := ⟨_, rfl⟩
  obtain ⟨V, hv⟩ : ∃ v, v = varsC c := ⟨_, rfl⟩
  obtain ⟨q, hq⟩ : ∃ q, q = mayC c := ⟨_, rfl⟩
  obtain ⟨T, hT⟩ : ∃ T, T = toldB c lits := ⟨_, rfl⟩
  rw [← hz, ← hT]
  rw [← hz, ← hv] at HVARS
  rw [← hz, ← hq] at HMAY
  rw [← hq, ← hT, ← hv] at YES
  rw [← hq, ← hT] at NO
  clear hz hv hq hT h hs hlo hhi hl hn h32
  unfold cirV at *
  go_enter Try.func24, Try.ntmps24
  go_upto_region 1 with fail
  generalize hW : World.alloc _ _ = W1
  have B1 : Below w.heap.size w W1 := by subst hW; exact ext_alloc _ _
  have hX : W1.heap[w.heap.size]? = some (.cells #[.int .i64 z, .slice s.a1 s.n1 s.c1, .slice s.a2 s.n2 s.c2, .slice s.a3 s.n3 s.c3, .slice s.a4 s.n4 s.c4, .slice s.a5 s.n5 s.c5] 26 (0, 0)) := by subst hW; exact heap_new _ _ _ rfl
  have HX := Lib.hid hX
  have HB := Lib.hid B1
  clear hW B1 hX
  have p0 := cell_of_block HX.out 0
  have p1 := cell_of_block HX.out 1
  have p2 := cell_of_block HX.out 2
  have p3 := cell_of_block HX.out 3
  have p4 := cell_of_block HX.out 4
  have p5 := cell_of_block HX.out 5
  go_wp2_with fail
  refine (HVARS.out W1 HB.out).mono ?_
  rintro e W2 ⟨rfl, hb⟩
  have HX2 := Lib.hid (heap_below HX.out hb)
  have HB2 := Lib.hid (ext_trans HB.out hb)
  clear hb p0 p1 p2 p3 p4 p5 HX HB
  go_upto_region 2 with fail
  generalize hW : World.alloc W2 _ = W3
  have hb3 : Below W2.heap.size W2 W3 := by subst hW; exact ext_alloc _ _
  have hv3 : W3.heap[W2.heap.size]? = some (.cells #[.int .i64 (V : Int)] 3 (0, 0)) := by subst hW; exact heap_new _ _ _ rfl
  have HX3 := Lib.hid (heap_below HX2.out hb3)
  have HB3 := Lib.hid (ext_trans HB2.out hb3)
  have HV3 := Lib.hid hv3
  clear hW hb3 hv3 HX2 HB2
  obtain ⟨B, hB⟩ : ∃ B, B = W2.heap.size := ⟨_, rfl⟩
  rw [← hB] at HV3 ⊢
  clear hB
  have p0 := cell_of_block HX3.out 0
  have p1 := cell_of_block HX3.out 1
  have p2 := cell_of_block HX3.out 2
  have p3 := cell_of_block HX3.out 3
  have p4 := cell_of_block HX3.out 4
  have p5 := cell_of_block HX3.out 5
  go_wp2_with fail
  refine (HMAY.out W3 HB3.out).mono ?_
  rintro e W4 ⟨rfl, hb⟩
  have HV4 := Lib.hid (heap_below HV3.out hb)
  have HB4 := Lib.hid (ext_trans HB3.out hb)
  clear hb p0 p1 p2 p3 p4 p5 HX3 HB3 HV3
  cases q with
  | false =>
    have N := Lib.hid (NO.out rfl)
    go_wp2
    go_ret
    exact ⟨by rw [N.out]; rfl, HB4.out⟩
  | true =>
    have Y := Lib.hid (YES.out rfl)
    have HC := Lib.hid (HHAS.out V B W4 HB4.out (cell_of_block HV4.out 0))
    obtain ⟨b, hb⟩ : ∃ b, b = lits.any (missC V) := ⟨_, rfl⟩
    rw [← hb] at Y HC
    clear hb
    go_wp2_with fail
    refine HC.out.mono ?_
    rintro e W5 ⟨rfl, hb⟩
    have HB5 := Lib.hid (ext_trans HB4.out hb)
    clear hb
    go_wp2
    go_ret
    exact ⟨by rw [Y.out]; rfl, HB5.out⟩
end Go.Proofs.Ytdheldhecimfnaa
/- cone.across, by its contract. -/
namespace Go.Proofs.Ytdheldhecimfnaa
open Go Go.RowKit Go.Joins

set_option maxRecDepth 100000 in
set_option maxHeartbeats 3200000 in
theorem across_any (c : NormC) (s : CSlots) (v : Nat) (w : World) (h : SeesCir w s c) (hs : s.small) (hm : MayC c) (hv : v ≤ varsN c) :
    Calls Try.prog 30 #[cirV c.ins s, .int .i64 (v : Int)] w fun e w' => e = .returned (.agg #[.int .u32 ((inA c v).1 : Int), .int .u32 ((inA c v).2 : Int)]) ∧ Below w.heap.size w w' := by
  have HWI := fun W (hb : Below w.heap.size w W) => within_any c s v W (h.below hb) hs hm hv
  obtain ⟨i, hi, hi2, hL, hG⟩ := insN hm
  have HF := fun W => cfirstLatch_any i s (by omega) W
  have hl1 : c.lats.length = s.n1 := h.s1.1
  have hfew := hm.few
  obtain ⟨FL, hFL⟩ : ∃ FL, FL = 1 + i := ⟨_, rfl⟩
  rw [← hFL] at HF
  have hLL : fstL c = FL := by rw [hL, hFL]
  have hGG : fstG c = FL + s.n1 := by rw [hG, hFL, hl1]
  have hFLs : FL ≤ 20000 := by omega
  have hvs : v ≤ 16384 := by omega
  have HS := Lib.hid h
  have hina : inA c v = if FL ≤ v ∧ v < FL + s.n1 then ((c.lats.getD (v - FL) (0, 0)).1, 0) else inW c v := by unfold inA; rw [hGG, hLL]
  obtain ⟨u, hu⟩ : ∃ u, u = inW c v := ⟨_, rfl⟩
  obtain ⟨g, hg⟩ : ∃ g, g = inA c v := ⟨_, rfl⟩
  rw [← hu] at HWI hina
  rw [← hg] at hina ⊢
  rw [hi] at HWI ⊢
  obtain ⟨x, y⟩ := g
  obtain ⟨ux, uy⟩ := u
  have HINA := Lib.hid hina
  have HGS := Lib.hid hs.n1
  have HFF := Lib.hid HF
  have HW := Lib.hid HWI
  clear hi hL hG hl1 hFL hGG hLL h hs hm hv hfew HF hina hg hu HWI
  obtain ⟨a1, n1, c1, a2, n2, c2, a3, n3, c3, a4, n4, c4, a5, n5, c5⟩ := s
  simp only at HGS HINA
  unfold cirV at *
  go_enter Try.func30, Try.ntmps30
  go_upto_region 1 with fail
  generalize hW : World.alloc (World.alloc w _) _ = W1
  have B1 : Below w.heap.size w W1 := by subst hW; exact ext_trans (ext_alloc _ _) (ext_alloc _ _)
  have hX : W1.heap[w.heap.size]? = some (.cells #[.int .i64 i, .slice a1 n1 c1, .slice a2 n2 c2, .slice a3 n3 c3, .slice a4 n4 c4, .slice a5 n5 c5] 26 (0, 0)) := by subst hW; exact heap_below (heap_new _ _ _ rfl) (ext_alloc _ _)
  have hY : W1.heap[w.heap.size + 1]? = some (.cells #[.int .u32 0, .int .u32 0] 84 (0, 0)) := by subst hW; exact heap_new _ _ _ (by simp)
  have HX := Lib.hid hX
  have HY := Lib.hid hY
  have HB := Lib.hid B1
  clear hW B1 hX hY
  have p0 : W1.cell? ⟨w.heap.size, 0, none⟩ = some (.int .i64 i) := cell_of_block HX.out 0
  have p1 : W1.cell? ⟨w.heap.size, 1, none⟩ = some (.slice a1 n1 c1) := cell_of_block HX.out 1
  have p2 : W1.cell? ⟨w.heap.size, 2, none⟩ = some (.slice a2 n2 c2) := cell_of_block HX.out 2
  have p3 : W1.cell? ⟨w.heap.size, 3, none⟩ = some (.slice a3 n3 c3) := cell_of_block HX.out 3
  have p4 : W1.cell? ⟨w.heap.size, 4, none⟩ = some (.slice a4 n4 c4) := cell_of_block HX.out 4
  have p5 : W1.cell? ⟨w.heap.size, 5, none⟩ = some (.slice a5 n5 c5) := cell_of_block HX.out 5
  go_wp2_with fail
  refine (HFF.out W1).mono ?_
  rintro e W2 ⟨rfl, hb⟩
  have HX2 := Lib.hid (heap_below HX.out hb)
  have HY2 := Lib.hid (heap_below HY.out hb)
  have HB2 := Lib.hid (ext_trans HB.out hb)
  clear hb p0 p1 p2 p3 p4 p5 HX HY HB HFF
  by_cases hle : FL ≤ v
  · obtain ⟨j, hj⟩ : ∃ j, v = FL + j := ⟨v - FL, by omega⟩
    have W1' : IntKind.i64.wrap ((v : Int) - (FL : Int)) = (j : Int) := by rw [hj, IntWalk.i64_in _ (by omega)]; omega
    have hjz : (0 : Int) ≤ (j : Int) := by omega
    have p1 : W2.cell? ⟨w.heap.size, 1, none⟩ = some (.slice a1 n1 c1) := cell_of_block HX2.out 1
    by_cases hjn : j < n1
    · have HR : (x, y) = ((c.lats.getD j (0, 0)).1, 0) := by rw [HINA.out, if_pos ⟨hle, by omega⟩, hj, Nat.add_sub_cancel_left]
      obtain ⟨b, off, rfl, hbw⟩ := HS.out.s1.addr (show 0 < n1 by omega)
      obtain ⟨q0, q1⟩ := (HS.out.s1.below HB2.out).cells j hjn (0, 0)
      obtain ⟨rfl, rfl⟩ : x = (c.lats.getD j (0, 0)).1 ∧ y = 0 := by cases HR; exact ⟨rfl, rfl⟩
      obtain ⟨x, hx⟩ : ∃ x, x = (c.lats.getD j (0, 0)).1 := ⟨_, rfl⟩
      rw [← hx] at q0
      have hx2 := hx.symm
      unfold nv32 at q0
      have r0 : W2.cell? ⟨w.heap.size + 1, 0, none⟩ = some (.int .u32 0) := cell_of_block HY2.out 0
      have r1 : W2.cell? ⟨w.heap.size + 1, 1, none⟩ = some (.int .u32 0) := cell_of_block HY2.out 1
      have f0 : W2.frozen? ⟨w.heap.size + 1, 0, none⟩ = false := unfrozen_of_block HY2.out 0
      have f1 : W2.frozen? ⟨w.heap.size + 1, 1, none⟩ = false := unfrozen_of_block HY2.out 1
      have HXE := Lib.hid hx2
      clear HR HINA HS hj hle hbw q1 HW hx hx2
      go_wp2
      have h6 : ((W2.setCell ⟨w.heap.size + 1, 0, none⟩ (.int .u32 (x : Int))).setCell ⟨w.heap.size + 1, 1, none⟩ (.int .u32 0)).heap[w.heap.size + 1]? = some (.cells #[.int .u32 (x : Int), .int .u32 0] 84 (0, 0)) := two_set HY2.out rfl _ _
      have g0 := cell_of_block h6 0
      have g1 := cell_of_block h6 1
      refine bodyPost_ret (v := .agg #[.int .u32 (x : Int), .int .u32 0]) ?_ rfl ?_
      · simp [results, Try.results30, go_sem, g0, g1]
      · rw [HXE.out]
        exact ⟨rfl, (HB2.out.setCell (p := ⟨w.heap.size + 1, 0, none⟩) (by simp) _).setCell (p := ⟨w.heap.size + 1, 1, none⟩) (by simp) _⟩
    · have HR : (x, y) = (ux, uy) := by rw [HINA.out, if_neg (by omega)]
      obtain ⟨rfl, rfl⟩ : x = ux ∧ y = uy := by cases HR; exact ⟨rfl, rfl⟩
      have hjn2 : (n1 : Int) ≤ (j : Int) := by omega
      have p0 : W2.cell? ⟨w.heap.size, 0, none⟩ = some (.int .i64 i) := cell_of_block HX2.out 0
      have p2 : W2.cell? ⟨w.heap.size, 2, none⟩ = some (.slice a2 n2 c2) := cell_of_block HX2.out 2
      have p3 : W2.cell? ⟨w.heap.size, 3, none⟩ = some (.slice a3 n3 c3) := cell_of_block HX2.out 3
      have p4 : W2.cell? ⟨w.heap.size, 4, none⟩ = some (.slice a4 n4 c4) := cell_of_block HX2.out 4
      have p5 : W2.cell? ⟨w.heap.size, 5, none⟩ = some (.slice a5 n5 c5) := cell_of_block HX2.out 5
      clear HR HINA HS hj hle hjn
      go_wp2_with fail
      refine (HW.out W2 HB2.out).mono ?_
      rintro e W3 ⟨rfl, hb⟩
      have HY3 := Lib.hid (heap_below HY2.out hb)
      have HB3 := Lib.hid (ext_trans HB2.out hb)
      have r0 : W3.cell? ⟨w.heap.size + 1, 0, none⟩ = some (.int .u32 0) := cell_of_block HY3.out 0
      have r1 : W3.cell? ⟨w.heap.size + 1, 1, none⟩ = some (.int .u32 0) := cell_of_block HY3.out 1
      have f0 : W3.frozen? ⟨w.heap.size + 1, 0, none⟩ = false := unfrozen_of_block HY3.out 0
      have f1 : W3.frozen? ⟨w.heap.size + 1, 1, none⟩ = false := unfrozen_of_block HY3.out 1
      clear hb p0 p1 p2 p3 p4 p5 HW
      go_wp2
      have h6 : ((W3.setCell ⟨w.heap.size + 1, 0, none⟩ (.int .u32 (x : Int))).setCell ⟨w.heap.size + 1, 1, none⟩ (.int .u32 (y : Int))).heap[w.heap.size + 1]? = some (.cells #[.int .u32 (x : Int), .int .u32 (y : Int)] 84 (0, 0)) := two_set HY3.out rfl _ _
      have g0 := cell_of_block h6 0
      have g1 := cell_of_block h6 1
      refine bodyPost_ret (v := .agg #[.int .u32 (x : Int), .int .u32 (y : Int)]) ?_ rfl ?_
      · simp [results, Try.results30, go_sem, g0, g1]
      · exact ⟨rfl, (HB3.out.setCell (p := ⟨w.heap.size + 1, 0, none⟩) (by simp) _).setCell (p := ⟨w.heap.size + 1, 1, none⟩) (by simp) _⟩
  · obtain ⟨z, hz⟩ : ∃ z : Int, z = (v : Int) - (FL : Int) := ⟨_, rfl⟩
    have W1' : IntKind.i64.wrap ((v : Int) - (FL : Int)) = z := by rw [IntWalk.i64_in _ (by omega), hz]
    have hz0 : z < 0 := by omega
    have HR : (x, y) = (ux, uy) := by rw [HINA.out, if_neg (by omega)]
    obtain ⟨rfl, rfl⟩ : x = ux ∧ y = uy := by cases HR; exact ⟨rfl, rfl⟩
    have p0 : W2.cell? ⟨w.heap.size, 0, none⟩ = some (.int .i64 i) := cell_of_block HX2.out 0
    have p1 : W2.cell? ⟨w.heap.size, 1, none⟩ = some (.slice a1 n1 c1) := cell_of_block HX2.out 1
    have p2 : W2.cell? ⟨w.heap.size, 2, none⟩ = some (.slice a2 n2 c2) := cell_of_block HX2.out 2
    have p3 : W2.cell? ⟨w.heap.size, 3, none⟩ = some (.slice a3 n3 c3) := cell_of_block HX2.out 3
    have p4 : W2.cell? ⟨w.heap.size, 4, none⟩ = some (.slice a4 n4 c4) := cell_of_block HX2.out 4
    have p5 : W2.cell? ⟨w.heap.size, 5, none⟩ = some (.slice a5 n5 c5) := cell_of_block HX2.out 5
    clear HR HINA HS hz hle
    go_wp2_with fail
    refine (HW.out W2 HB2.out).mono ?_
    rintro e W3 ⟨rfl, hb⟩
    have HY3 := Lib.hid (heap_below HY2.out hb)
    have HB3 := Lib.hid (ext_trans HB2.out hb)
    have r0 : W3.cell? ⟨w.heap.size + 1, 0, none⟩ = some (.int .u32 0) := cell_of_block HY3.out 0
    have r1 : W3.cell? ⟨w.heap.size + 1, 1, none⟩ = some (.int .u32 0) := cell_of_block HY3.out 1
    have f0 : W3.frozen? ⟨w.heap.size + 1, 0, none⟩ = false := unfrozen_of_block HY3.out 0
    have f1 : W3.frozen? ⟨w.heap.size + 1, 1, none⟩ = false := unfrozen_of_block HY3.out 1
    clear hb p0 p1 p2 p3 p4 p5 HW
    go_wp2
    have h6 : ((W3.setCell ⟨w.heap.size + 1, 0, none⟩ (.int .u32 (x : Int))).setCell ⟨w.heap.size + 1, 1, none⟩ (.int .u32 (y : Int))).heap[w.heap.size + 1]? = some (.cells #[.int .u32 (x : Int), .int .u32 (y : Int)] 84 (0, 0)) := two_set HY3.out rfl _ _
    have g0 := cell_of_block h6 0
    have g1 := cell_of_block h6 1
    refine bodyPost_ret (v := .agg #[.int .u32 (x : Int), .int .u32 (y : Int)]) ?_ rfl ?_
    · simp [results, Try.results30, go_sem, g0, g1]
    · exact ⟨rfl, (HB3.out.setCell (p := ⟨w.heap.size + 1, 0, none⟩) (by simp) _).setCell (p := ⟨w.heap.size + 1, 1, none⟩) (by simp) _⟩
end Go.Proofs.Ytdheldhecimfnaa
/- cone.reach with cone.across, by its contract. -/
namespace Go.Proofs.Ytdheldhecimfnaa
open Go Go.RowKit Go.Joins

set_option maxRecDepth 100000 in
set_option maxHeartbeats 6400000 in
theorem reachA_any (c : NormC) (lits : List Nat) (s : CSlots) (a : Option Addr) (n cp : Nat) (w : World) (h : SeesCir w s c) (hs : s.small) (hlo : -9223372036854775808 ≤ c.ins) (hhi : c.ins < 9223372036854775808) (hm : MayC c) (hl : Sees w a n cp (lits.map nv32)) (hn : n ≤ 1048576) (hx : ∀ x ∈ lits, x / 2 ≤ varsN c) :
    Calls Try.prog 25 #[cirV c.ins s, .slice a n cp, .func (.func 30) #[] #[]] w (ReachPost (inA c) lits (1 + varsN c) w) := by
  obtain ⟨i0, hi, hz0, hz1, hz2⟩ := info_parts info_bool
  have HVARS := fun W (hb : Below w.heap.size w W) => vars_any c s W (h.below hb) hs hlo hhi
  have HNEED := fun (v : Nat) (hv : v ≤ varsN c) W (hb : Below w.heap.size w W) => across_any c s v W (h.below hb) hs hm hv
  have HND : Hid (∀ v, (inA c v).1 / 2 ≤ varsN c ∧ (inA c v).2 / 2 ≤ varsN c) := inA_lt hm
  have hvc : varsC c = varsN c := by unfold varsC; rw [if_pos (mayC_iff.2 hm)]
  rw [hvc] at HVARS
  have hV : varsN c ≤ 16384 := hm.few
  obtain ⟨nd, hnd⟩ : ∃ nd, nd = inA c := ⟨_, rfl⟩
  rw [← hnd] at HNEED HND ⊢
  obtain ⟨V, hVV⟩ : ∃ V, V = varsN c := ⟨_, rfl⟩
  rw [← hVV] at HVARS HNEED HND hV hx ⊢
  obtain ⟨N, hN⟩ : ∃ N, N = 1 + V := ⟨_, rfl⟩
  rw [← hN]
  have hN2 : N ≤ 16385 := by omega
  have HNV : Hid (∀ x : Nat, x ≤ V ↔ x < N) := fun x => by omega
  have W0 : IntKind.i64.wrap ((1 : Int) + (V : Int)) = (N : Int) := by rw [IntWalk.i64_in _ (by omega)]; omega
  obtain ⟨z, hz⟩ : ∃ z, z = c.ins := ⟨_, rfl⟩
  rw [← hz] at HVARS HNEED ⊢
  have mk := fun W => run_make_n (P := Try.prog) Try.underlying33 hi hz0 hz1 hz2 rfl N (by omega) (by omega) W
  rw [bcells_zero] at mk
  have HLEN : Hid (lits.length = n) := hl.lenMap
  have HL := Lib.hid hl
  have HX := Lib.hid hx
  have HVA := Lib.hid HVARS
  have HNE := Lib.hid HNEED
  have HADD := Lib.hid (fun (g D7 D8 : Nat) (W : World) (M : List Bool) (Q : List Nat) (x : Nat) (hst : RSt z s w g D7 D8 N W M Q) (hx : x / 2 < N) (hq : Q.length ≤ 1000000) => radd_any z s w g D7 D8 N W M Q x hst hx (by omega) hq)
  clear hnd hVV hN hz hvc h hs hlo hhi hm hl hx HVARS HNEED
  unfold cirV at *
  go_enter Try.func25, Try.ntmps25
  go_upto_region 1 with fail
  generalize hW : World.alloc w _ = W1
  have hX : W1.heap[w.heap.size]? = some (.cells (cirCells z s) 26 (0, 0)) := by subst hW; exact heap_new _ _ _ rfl
  have HCX := Lib.hid hX
  have HB := Lib.hid (show Below w.heap.size w W1 by subst hW; exact ext_alloc _ _)
  clear hW hX
  have p0 : W1.cell? ⟨w.heap.size, 0, none⟩ = some (.int .i64 z) := cell_of_block HCX.out 0
  have p1 : W1.cell? ⟨w.heap.size, 1, none⟩ = some (.slice s.a1 s.n1 s.c1) := cell_of_block HCX.out 1
  have p2 : W1.cell? ⟨w.heap.size, 2, none⟩ = some (.slice s.a2 s.n2 s.c2) := cell_of_block HCX.out 2
  have p3 : W1.cell? ⟨w.heap.size, 3, none⟩ = some (.slice s.a3 s.n3 s.c3) := cell_of_block HCX.out 3
  have p4 : W1.cell? ⟨w.heap.size, 4, none⟩ = some (.slice s.a4 s.n4 s.c4) := cell_of_block HCX.out 4
  have p5 : W1.cell? ⟨w.heap.size, 5, none⟩ = some (.slice s.a5 s.n5 s.c5) := cell_of_block HCX.out 5
  go_wp2_with fail
  refine (HVA.out W1 HB.out).mono ?_
  rintro e W2 ⟨rfl, hb⟩
  have HCX2 := Lib.hid (heap_below HCX.out hb)
  have HB2 := Lib.hid (ext_trans HB.out hb)
  clear hb p0 p1 p2 p3 p4 p5 HCX HB HVA
  go_upto_region 4 with fail
  have hw1 := ext_alloc W2 (.cells (bcells (List.replicate N false)) 4)
  have hw2 := ext_trans hw1 (ext_alloc (W2.alloc (.cells (bcells (List.replicate N false)) 4)) (.cells #[.slice (some ⟨W2.heap.size, 0, none⟩) N N] 33))
  have hr1 : ((W2.alloc (.cells (bcells (List.replicate N false)) 4)).alloc (.cells #[.slice (some ⟨W2.heap.size, 0, none⟩) N N] 33)).heap[W2.heap.size]? = some (.cells (bcells (List.replicate N false)) 4 (0, 0)) := heap_below (heap_new _ _ _ rfl) (ext_alloc _ _)
  have hr2 : ((W2.alloc (.cells (bcells (List.replicate N false)) 4)).alloc (.cells #[.slice (some ⟨W2.heap.size, 0, none⟩) N N] 33)).heap[W2.heap.size + 1]? = some (.cells #[.slice (some ⟨W2.heap.size, 0, none⟩) N N] 33 (0, 0)) := heap_new _ _ _ (by simp)
  have hsz : ((W2.alloc (.cells (bcells (List.replicate N false)) 4)).alloc (.cells #[.slice (some ⟨W2.heap.size, 0, none⟩) N N] 33)).heap.size = W2.heap.size + 1 + 1 := by simp
  generalize hWA : (W2.alloc (.cells (bcells (List.replicate N false)) 4)).alloc (.cells #[.slice (some ⟨W2.heap.size, 0, none⟩) N N] 33) = WA at hw2 hr1 hr2 hsz ⊢
  have hr3 : (WA.alloc (.cells #[.slice none 0 0] 82)).heap[W2.heap.size + 1 + 1]? = some (.cells #[.slice none 0 0] 82 (0, 0)) := heap_new _ _ _ hsz.symm
  have hw3 := ext_alloc WA (.cells #[.slice none 0 0] 82)
  have HST : Hid (RSt z s w W2.heap.size (W2.heap.size + 1) (W2.heap.size + 1 + 1) N (WA.alloc (.cells #[.slice none 0 0] 82)) (List.replicate N false) []) := by
    have h0 := HB2.out.size
    exact ⟨ext_trans HB2.out (ext_trans hw2 hw3), heap_below HCX2.out (ext_trans hw2 hw3), by simp, heap_below hr2 hw3, heap_below hr1 hw3, ⟨.slice none 0 0, hr3, ⟨rfl, .inl ⟨rfl, rfl⟩⟩⟩, h0, by omega, by omega⟩
  obtain ⟨g, hg⟩ : ∃ g, g = W2.heap.size := ⟨_, rfl⟩
  obtain ⟨D7, hD7⟩ : ∃ D7, D7 = W2.heap.size + 1 := ⟨_, rfl⟩
  obtain ⟨D8, hD8⟩ : ∃ D8, D8 = W2.heap.size + 1 + 1 := ⟨_, rfl⟩
  rw [← hD8, ← hD7, ← hg] at HST ⊢
  generalize hWB : WA.alloc (.cells #[.slice none 0 0] 82) = WB at HST ⊢
  clear hWB hWA hw1 hw2 hw3 hr1 hr2 hr3 hsz hg hD7 hD8 mk W0 HCX2 HB2
  go_wp2
  go_loopw [22, 11] (fun iv xv wr => ∃ (k : Nat) (M : List Bool) (Q : List Nat), k ≤ n ∧ iv = .int .i64 k ∧ Hid (RInv nd lits N M Q k 0) ∧ Hid (RSt z s w g D7 D8 N wr M Q)) (fun iv _ _ => n - (intOf iv).toNat)
  case atStart => exact ⟨0, List.replicate N false, [], Nat.zero_le _, rfl, RInv.zero, HST.out⟩
  case round =>
    clear HST
    obtain ⟨k, M, Q, hk, rfl, hI, hS⟩ := hrel
    by_cases hlt : k < n
    · obtain ⟨b, off, rfl, hbw⟩ := HL.out.addr (show 0 < n by omega)
      have hcx := (HL.out.below hS.out.low).num k hlt
      have hxn := (HNV.out _).1 (HX.out (lits.getD k 0) (by have := HLEN.out; exact getD_mem (by omega)))
      obtain ⟨x, hx⟩ : ∃ x, x = lits.getD k 0 := ⟨_, rfl⟩
      rw [← hx] at hcx hxn
      have HC := Lib.hid (HADD.out g D7 D8 wr M Q x hS.out hxn (by have := hI.out.core.qlen; omega))
      have HI2 := Lib.hid (hI.out.root (by have := HLEN.out; omega) hx hxn)
      have W1' : IntKind.i64.wrap ((k : Int) + 1) = (k : Int) + 1 := IntWalk.i64_in _ (by omega)
      clear hx hxn hI hS hbw
      go_wp2_with fail
      refine HC.out.mono ?_
      rintro e w2 ⟨rfl, hS2⟩
      have HS2 := Lib.hid hS2
      clear hS2 HC
      go_wp2
      go_roundw
      case rel => exact ⟨k + 1, addM M x, addQ M Q x, by omega, by go_num, HI2.out, HS2.out⟩
      case measure => simp [intOf]; omega
    · obtain rfl : n = k := by omega
      have HI0 : Hid (RInv nd lits N M Q lits.length 0) := by unfold Hid; rw [HLEN.out]; exact hI.out
      have HS0 := Lib.hid hS.out
      clear hI hS
      go_wp2
      go_loopw [12, 14, 43] (fun iv _ _ wr => ∃ (i : Nat) (M : List Bool) (Q : List Nat), iv = .int .i64 i ∧ i ≤ N ∧ Hid (RInv nd lits N M Q lits.length i) ∧ Hid (RSt z s w g D7 D8 N wr M Q)) (fun iv _ _ _ => N - (intOf iv).toNat)
      case atStart => exact ⟨0, M, Q, rfl, Nat.zero_le _, HI0.out, HS0.out⟩
      case round =>
        clear HI0 HS0
        obtain ⟨i, M, Q, rfl, hiN, hI, hS⟩ := hrel
        obtain ⟨qv, hqb, hqr⟩ := hS.out.qb
        obtain ⟨qa, qc, rfl⟩ := ownsN_form hqr
        have q0 : wr.cell? ⟨D8, 0, none⟩ = some (.slice qa Q.length qc) := cell_of_block hqb 0
        by_cases hlt2 : i < Q.length
        · obtain ⟨qa', qc', eq, _, hqs⟩ := Sees.owned hqr
          cases eq
          obtain ⟨qb, qo, rfl, hqw⟩ := hqs.addr (show 0 < Q.length by omega)
          have hcx := (hqs.cell i hlt2).2
          rw [List.getElem?_map, List.getElem?_eq_getElem hlt2] at hcx
          have hge0 : Q[i] = Q.getD i 0 := by simp [List.getD, List.getElem?_eq_getElem hlt2]
          rw [hge0] at hcx
          have hmid := hI.out.mid hlt2
          have hvn : Q.getD i 0 ≤ V := (HNV.out _).2 (hI.out.core.lt _ (getD_mem hlt2))
          obtain ⟨v, hv⟩ : ∃ v, v = Q.getD i 0 := ⟨_, rfl⟩
          rw [← hv] at hcx hmid hvn
          have hcx2 : wr.cell? ⟨qb, qo + i, none⟩ = some (.int .i64 (v : Int)) := hcx
          obtain ⟨x1, hx1⟩ : ∃ x, x = (nd v).1 := ⟨_, rfl⟩
          obtain ⟨x2, hx2⟩ : ∃ x, x = (nd v).2 := ⟨_, rfl⟩
          have hne := fun W (hb : Below wr.heap.size wr W) => HNE.out v hvn W (ext_trans hS.out.low hb)
          rw [← hx1, ← hx2] at hne
          have HX12 : Hid (x1 / 2 < N ∧ x2 / 2 < N ∧ ∀ p, nd2 nd v p = if p = 0 then x1 else x2) := by
            refine ⟨?_, ?_, fun p => ?_⟩
            · rw [hx1]; exact (HNV.out _).1 (HND.out v).1
            · rw [hx2]; exact (HNV.out _).1 (HND.out v).2
            · unfold nd2; rw [← hx1, ← hx2]
          have p0 : wr.cell? ⟨w.heap.size, 0, none⟩ = some (.int .i64 z) := cell_of_block hS.out.cir 0
          have p1 : wr.cell? ⟨w.heap.size, 1, none⟩ = some (.slice s.a1 s.n1 s.c1) := cell_of_block hS.out.cir 1
          have p2 : wr.cell? ⟨w.heap.size, 2, none⟩ = some (.slice s.a2 s.n2 s.c2) := cell_of_block hS.out.cir 2
          have p3 : wr.cell? ⟨w.heap.size, 3, none⟩ = some (.slice s.a3 s.n3 s.c3) := cell_of_block hS.out.cir 3
          have p4 : wr.cell? ⟨w.heap.size, 4, none⟩ = some (.slice s.a4 s.n4 s.c4) := cell_of_block hS.out.cir 4
          have p5 : wr.cell? ⟨w.heap.size, 5, none⟩ = some (.slice s.a5 s.n5 s.c5) := cell_of_block hS.out.cir 5
          have hiz : (0 : Int) ≤ (i : Int) := by omega
          have hil : (i : Int) < (Q.length : Int) := by omega
          have HMID := Lib.hid hmid
          have HNE2 := Lib.hid hne
          have HS := Lib.hid hS.out
          clear hx1 hx2 hne hv hvn hmid hcx hge0 hqs hqw hqr hqb hI hS
          go_upto_region 12 with fail
          go_cut [42, 43] from 30 to 49 (fun v42 v43 wx => v42 = .agg #[.int .u32 (x1 : Int), .int .u32 (x2 : Int)] ∧ v43 = .int .i64 0 ∧ Hid (RSt z s w g D7 D8 N wx M Q))
          case first =>
            go_region_with (go_at_call 30; refine (HNE2.out _ (by first | exact Below.refl _ _ | exact (Below.refl _ _).drew)).mono ?_; rintro e w5 ⟨rfl, hb5⟩)
            all_goals go_wp2
            all_goals go_meet
            all_goals exact ⟨rfl, rfl, HS.out.below (by first | exact hb5 | exact below_undrew hb5 | exact hb5.drew | exact (below_undrew hb5).drew)⟩
          case rest =>
            obtain ⟨rfl, rfl, hS5⟩ := hcut
            clear p0 p1 p2 p3 p4 p5 q0 hcx2 HNE2 HS
            go_wp2
            go_loopw [43, 14] (fun jv _ wi => ∃ (p : Nat) (M' : List Bool) (Q' : List Nat), p ≤ 2 ∧ jv = .int .i64 p ∧ Hid (RMid nd lits N M' Q' i v p) ∧ Hid (RSt z s w g D7 D8 N wi M' Q')) (fun jv _ _ => 2 - (intOf jv).toNat)
            case atStart => exact ⟨0, M, Q, by omega, rfl, HMID.out, hS5.out⟩
            case round =>
              clear hS5 HMID
              obtain ⟨p, M', Q', hp, rfl, hM, hS⟩ := hrel
              by_cases hlp : p < 2
              · have hxp := HX12.out.2.2 p
                have hn1 := HX12.out.1
                have hn2 := HX12.out.2.1
                obtain ⟨xp, hxe⟩ : ∃ xp, xp = nd2 nd v p := ⟨_, rfl⟩
                rw [← hxe] at hxp
                have ix := lit_index x1 x2 xp p hlp hxp
                have hxn : xp / 2 < N := by rw [hxp]; split <;> assumption
                have HC := Lib.hid (HADD.out g D7 D8 wr M' Q' xp hS.out hxn (by have := hM.out.inv.core.qlen; omega))
                have HM2 := Lib.hid (hM.out.step hxe hxn)
                have W1' : IntKind.i64.wrap ((p : Int) + 1) = (p : Int) + 1 := IntWalk.i64_in _ (by omega)
                have hlp2 : (p : Int) < 2 := by omega
                clear hxp hn1 hn2 hxe hxn hM hS
                go_wp2_with fail
                refine HC.out.mono ?_
                rintro e w6 ⟨rfl, hS6⟩
                have HS6 := Lib.hid hS6
                clear hS6 HC
                go_wp2
                go_roundw
                case rel => exact ⟨p + 1, addM M' xp, addQ M' Q' xp, by omega, by go_num, HM2.out, HS6.out⟩
                case measure => simp [intOf]; omega
              · obtain rfl : p = 2 := by omega
                have HI9 := Lib.hid hM.out.next
                have HS9 := Lib.hid hS.out
                have W1' : IntKind.i64.wrap ((i : Int) + 1) = (i : Int) + 1 := IntWalk.i64_in _ (by omega)
                have hiq : i + 1 ≤ N := by have h1 := hM.out.lt; have h2 := hM.out.inv.core.qlen; omega
                clear hM hS
                go_wp2
                go_roundw
                case rel => exact ⟨i + 1, M', Q', by go_num, hiq, HI9.out, HS9.out⟩
                case measure => simp [intOf]; omega
        · have hiQ : i = Q.length := by have := hI.out.le; omega
          have HD : Hid (IsCone nd lits N M) := by
            have h1 := hI.out
            rw [hiQ] at h1
            exact h1.done
          have HS0 := Lib.hid hS.out
          have hge : (Q.length : Int) ≤ (i : Int) := by omega
          have m0 : wr.cell? ⟨D7, 0, none⟩ = some (.slice (some ⟨g, 0, none⟩) N N) := cell_of_block hS.out.mb 0
          clear hI hS hqb hqr hiQ
          go_wp2
          go_ret
          exact ⟨M, g, rfl, HD.out, HS0.out.mr, HS0.out.g0, HS0.out.low⟩
end Go.Proofs.Ytdheldhecimfnaa
/- cone.Of and cone.Ever, by their contracts. -/
namespace Go.Proofs.Ytdheldhecimfnaa
open Go Go.RowKit Go.Joins

/-- What Of, and Ever, answer. -/
def OfPost (nd : Nat → Nat × Nat) (c : NormC) (lits : List Nat) (w : World) (e : Ending) (w' : World) : Prop :=
  (toldB c lits = false ∧ e = .returned (.tuple #[.slice none 0 0, .int .i64 2]) ∧ Below w.heap.size w w') ∨
  (toldB c lits = true ∧ ∃ (M : List Bool) (g : Nat), e = .returned (.tuple #[.slice (some ⟨g, 0, none⟩) (1 + varsN c) (1 + varsN c), .int .i64 0]) ∧ IsCone nd lits (1 + varsN c) M ∧ w'.heap[g]? = some (.cells (bcells M) 4 (0, 0)) ∧ w.heap.size ≤ g ∧ Below w.heap.size w w')

theorem OfPost.any {nd : Nat → Nat × Nat} {c : NormC} {lits : List Nat} {w : World} {e : Ending} {w' : World} (h : OfPost nd c lits w e w') : ∃ (a : Option Addr) (n : Nat) (er : Int) (M : List Bool), e = .returned (.tuple #[.slice a n n, .int .i64 er]) ∧ (er = 0 ∨ er = 2) ∧ (er = 2 → toldB c lits = false ∧ a = none ∧ n = 0) ∧ (er = 0 → toldB c lits = true ∧ n = 1 + varsN c ∧ IsCone nd lits (1 + varsN c) M ∧ ∃ g, a = some ⟨g, 0, none⟩ ∧ w'.heap[g]? = some (.cells (bcells M) 4 (0, 0)) ∧ w.heap.size ≤ g) ∧ Below w.heap.size w w' := by
  rcases h with ⟨h1, h2, h3⟩ | ⟨h1, M, g, h2, h3, h4, h5, h6⟩
  · exact ⟨none, 0, 2, [], h2, .inr rfl, fun _ => ⟨h1, rfl, rfl⟩, (fun h => by cases h), h3⟩
  · exact ⟨some ⟨g, 0, none⟩, 1 + varsN c, 0, M, h2, (.inl rfl), (fun h => by cases h), fun _ => ⟨h1, rfl, h3, g, rfl, h4, h5⟩, h6⟩
-- ofpost_any

set_option maxRecDepth 100000 in
set_option maxHeartbeats 3200000 in
theorem of9_any (c : NormC) (lits : List Nat) (s : CSlots) (a : Option Addr) (n cp : Nat) (w : World) (h : SeesCir w s c) (hs : s.small) (hlo : -9223372036854775808 ≤ c.ins) (hhi : c.ins < 9223372036854775808) (hl : Sees w a n cp (lits.map nv32)) (hn : n ≤ 1048576) (h32 : ∀ x ∈ lits, x < 4294967296) :
    Calls Try.prog 8 #[cirV c.ins s, .slice a n cp] w (OfPost (inW c) c lits w) := by
  have HEX := Lib.hid (fun W (hb : Below w.heap.size w W) => exist_any c lits s a n cp W (h.below hb) hs hlo hhi (hl.below hb) hn h32)
  have HRE := Lib.hid (fun (ht : toldB c lits = true) W (hb : Below w.heap.size w W) => reachW_any c lits s a n cp W (h.below hb) hs hlo hhi (toldB_iff.1 ht).1 (hl.below hb) hn (toldB_iff.1 ht).2)
  have PNO : Hid (toldB c lits = false → ∀ w', Below w.heap.size w w' → OfPost (inW c) c lits w (.returned (.tuple #[.slice none 0 0, .int .i64 2])) w') := fun ht w' hb => .inl ⟨ht, rfl, hb⟩
  have PYES : Hid (toldB c lits = true → ∀ w' M g N, N = 1 + varsN c → IsCone (inW c) lits N M → w'.heap[g]? = some (.cells (bcells M) 4 (0, 0)) → w.heap.size ≤ g → Below w.heap.size w w' → OfPost (inW c) c lits w (.returned (.tuple #[.slice (some ⟨g, 0, none⟩) N N, .int .i64 0])) w') := fun ht w' M g N e h1 h2 h3 h4 => by subst e; exact .inr ⟨ht, M, g, rfl, h1, h2, h3, h4⟩
  obtain ⟨z, hz⟩ : ∃ z, z = c.ins := ⟨_, rfl⟩
  obtain ⟨q, hq⟩ : ∃ q, q = toldB c lits := ⟨_, rfl⟩
  rw [← hz, ← hq] at HEX HRE
  rw [← hq] at PNO PYES
  rw [← hz]
  obtain ⟨N, hN⟩ : ∃ N, N = 1 + varsN c := ⟨_, rfl⟩
  have HN := Lib.hid hN
  rw [← hN] at HRE
  clear hz hq h hs hlo hhi hl hn h32 hN
  unfold cirV at *
  go_enter Try.func8, Try.ntmps8
  go_upto_region 1 with fail
  generalize hW : World.alloc _ _ = W1
  have B1 : Below w.heap.size w W1 := by subst hW; exact ext_alloc _ _
  have hX : W1.heap[w.heap.size]? = some (.cells #[.int .i64 z, .slice s.a1 s.n1 s.c1, .slice s.a2 s.n2 s.c2, .slice s.a3 s.n3 s.c3, .slice s.a4 s.n4 s.c4, .slice s.a5 s.n5 s.c5] 26 (0, 0)) := by subst hW; exact heap_new _ _ _ rfl
  have HX := Lib.hid hX
  have HB := Lib.hid B1
  clear hW B1 hX
  have p0 := cell_of_block HX.out 0
  have p1 := cell_of_block HX.out 1
  have p2 := cell_of_block HX.out 2
  have p3 := cell_of_block HX.out 3
  have p4 := cell_of_block HX.out 4
  have p5 := cell_of_block HX.out 5
  go_wp2_with fail
  refine (HEX.out W1 HB.out).mono ?_
  rintro e W2 ⟨rfl, hb⟩
  have HX2 := Lib.hid (heap_below HX.out hb)
  have HB2 := Lib.hid (ext_trans HB.out hb)
  clear hb p0 p1 p2 p3 p4 p5 HX HB HEX
  cases q with
  | false =>
    have HP := Lib.hid (PNO.out rfl W2 HB2.out)
    go_wp2
    go_ret2
    exact HP.out
  | true =>
    have HC := Lib.hid (HRE.out rfl W2 HB2.out)
    have HP := Lib.hid (PYES.out rfl)
    have p0 := cell_of_block HX2.out 0
    have p1 := cell_of_block HX2.out 1
    have p2 := cell_of_block HX2.out 2
    have p3 := cell_of_block HX2.out 3
    have p4 := cell_of_block HX2.out 4
    have p5 := cell_of_block HX2.out 5
    go_wp2_with fail
    refine HC.out.mono ?_
    rintro e W3 ⟨M, g, rfl, h1, h2, h3, h4⟩
    have HP2 := Lib.hid (HP.out W3 M g N HN.out h1 h2 (Nat.le_trans HB2.out.size h3) (ext_trans HB2.out h4))
    clear h1 h2 h3 h4 HC HP p0 p1 p2 p3 p4 p5
    go_wp2
    go_ret2
    exact HP2.out

set_option maxRecDepth 100000 in
set_option maxHeartbeats 3200000 in
theorem ever9_any (c : NormC) (lits : List Nat) (s : CSlots) (a : Option Addr) (n cp : Nat) (w : World) (h : SeesCir w s c) (hs : s.small) (hlo : -9223372036854775808 ≤ c.ins) (hhi : c.ins < 9223372036854775808) (hl : Sees w a n cp (lits.map nv32)) (hn : n ≤ 1048576) (h32 : ∀ x ∈ lits, x < 4294967296) :
    Calls Try.prog 11 #[cirV c.ins s, .slice a n cp] w (OfPost (inA c) c lits w) := by
  have HEX := Lib.hid (fun W (hb : Below w.heap.size w W) => exist_any c lits s a n cp W (h.below hb) hs hlo hhi (hl.below hb) hn h32)
  have HRE := Lib.hid (fun (ht : toldB c lits = true) W (hb : Below w.heap.size w W) => reachA_any c lits s a n cp W (h.below hb) hs hlo hhi (toldB_iff.1 ht).1 (hl.below hb) hn (toldB_iff.1 ht).2)
  have PNO : Hid (toldB c lits = false → ∀ w', Below w.heap.size w w' → OfPost (inA c) c lits w (.returned (.tuple #[.slice none 0 0, .int .i64 2])) w') := fun ht w' hb => .inl ⟨ht, rfl, hb⟩
  have PYES : Hid (toldB c lits = true → ∀ w' M g N, N = 1 + varsN c → IsCone (inA c) lits N M → w'.heap[g]? = some (.cells (bcells M) 4 (0, 0)) → w.heap.size ≤ g → Below w.heap.size w w' → OfPost (inA c) c lits w (.returned (.tuple #[.slice (some ⟨g, 0, none⟩) N N, .int .i64 0])) w') := fun ht w' M g N e h1 h2 h3 h4 => by subst e; exact .inr ⟨ht, M, g, rfl, h1, h2, h3, h4⟩
  obtain ⟨z, hz⟩ : ∃ z, z = c.ins := ⟨_, rfl⟩
  obtain ⟨q, hq⟩ : ∃ q, q = toldB c lits := ⟨_, rfl⟩
  rw [← hz, ← hq] at HEX HRE
  rw [← hq] at PNO PYES
  rw [← hz]
  obtain ⟨N, hN⟩ : ∃ N, N = 1 + varsN c := ⟨_, rfl⟩
  have HN := Lib.hid hN
  rw [← hN] at HRE
  clear hz hq h hs hlo hhi hl hn h32 hN
  unfold cirV at *
  go_enter Try.func11, Try.ntmps11
  go_upto_region 1 with fail
  generalize hW : World.alloc _ _ = W1
  have B1 : Below w.heap.size w W1 := by subst hW; exact ext_alloc _ _
  have hX : W1.heap[w.heap.size]? = some (.cells #[.int .i64 z, .slice s.a1 s.n1 s.c1, .slice s.a2 s.n2 s.c2, .slice s.a3 s.n3 s.c3, .slice s.a4 s.n4 s.c4, .slice s.a5 s.n5 s.c5] 26 (0, 0)) := by subst hW; exact heap_new _ _ _ rfl
  have HX := Lib.hid hX
  have HB := Lib.hid B1
  clear hW B1 hX
  have p0 := cell_of_block HX.out 0
  have p1 := cell_of_block HX.out 1
  have p2 := cell_of_block HX.out 2
  have p3 := cell_of_block HX.out 3
  have p4 := cell_of_block HX.out 4
  have p5 := cell_of_block HX.out 5
  go_wp2_with fail
  refine (HEX.out W1 HB.out).mono ?_
  rintro e W2 ⟨rfl, hb⟩
  have HX2 := Lib.hid (heap_below HX.out hb)
  have HB2 := Lib.hid (ext_trans HB.out hb)
  clear hb p0 p1 p2 p3 p4 p5 HX HB HEX
  cases q with
  | false =>
    have HP := Lib.hid (PNO.out rfl W2 HB2.out)
    go_wp2
    go_ret2
    exact HP.out
  | true =>
    have HC := Lib.hid (HRE.out rfl W2 HB2.out)
    have HP := Lib.hid (PYES.out rfl)
    have p0 := cell_of_block HX2.out 0
    have p1 := cell_of_block HX2.out 1
    have p2 := cell_of_block HX2.out 2
    have p3 := cell_of_block HX2.out 3
    have p4 := cell_of_block HX2.out 4
    have p5 := cell_of_block HX2.out 5
    go_wp2_with fail
    refine HC.out.mono ?_
    rintro e W3 ⟨M, g, rfl, h1, h2, h3, h4⟩
    have HP2 := Lib.hid (HP.out W3 M g N HN.out h1 h2 (Nat.le_trans HB2.out.size h3) (ext_trans HB2.out h4))
    clear h1 h2 h3 h4 HC HP p0 p1 p2 p3 p4 p5
    go_wp2
    go_ret2
    exact HP2.out
end Go.Proofs.Ytdheldhecimfnaa
/- A block read as a slice. -/
namespace Go.Proofs.Ytdheldhecimfnaa
open Go Go.RowKit Go.Joins
theorem sees_cells {w : World} {g : Nat} {C : Array Value} {t : TypeId} {fr : Nat × Nat} (h : w.heap[g]? = some (.cells C t fr)) (xs : List Value) (n : Nat) (hC : C = xs.toArray) (hn : xs.length = n) : Sees w (some ⟨g, 0, none⟩) n n xs := by
  subst hC
  refine ⟨hn, Nat.le_refl _, (fun e => by cases e), fun _ => ⟨g, 0, rfl, heap_lt h, fun j hj => ?_⟩⟩
  rw [cell_of_block h]
  simp
end Go.Proofs.Ytdheldhecimfnaa
namespace Go.Proofs.Ytdheldhecimfnaa
open Go Go.RowKit Go.Joins

/-- The circuit of the examples, and its marks. -/
def oneE : NormC := ⟨2, [(8, 0)], [(6, 2)], [], [6], []⟩
def ownE : List Bool := [false, false, false, true, false]
def everE : List Bool := [false, true, false, true, true]
theorem ex_told : toldB oneE [6] = true := by decide
theorem ex_frok : frOk oneE 0 2 = true := by decide
theorem ex_own : IsCone (inW oneE) [6] 5 ownE := by
  refine IsCone.of rfl (fun v hv h => ?_) (fun x hx h0 => ?_) (fun u hu h0 => ?_) (fun u hu h0 => ?_)
  · match v, hv with
    | 0, _ => cases h
    | 1, _ => cases h
    | 2, _ => cases h
    | 3, _ => exact Rch.root (x := 6) (by simp) (by omega)
    | 4, _ => cases h
  · rw [List.mem_singleton.1 hx]; rfl
  · have := getD_true_lt hu
    match u, this with
    | 0, _ => cases hu
    | 1, _ => cases hu
    | 2, _ => cases hu
    | 3, _ => exact absurd h0 (by decide)
    | 4, _ => cases hu
  · have := getD_true_lt hu
    match u, this with
    | 0, _ => cases hu
    | 1, _ => cases hu
    | 2, _ => cases hu
    | 3, _ => exact absurd h0 (by decide)
    | 4, _ => cases hu
/-- From variable 4 on, within. -/
theorem ex_four {nd : Nat → Nat × Nat} {roots : List Nat} (h4 : nd 4 = (6, 2)) (h : Rch nd roots 4) : Rch nd roots 3 ∧ Rch nd roots 1 := by
  have h1 := h.fst (by rw [h4]; omega)
  have h2 := h.snd (by rw [h4]; omega)
  rw [h4] at h1 h2
  exact ⟨h1, h2⟩
theorem ex_ever : IsCone (inA oneE) [6] 5 everE := by
  have r3 : Rch (inA oneE) [6] 3 := Rch.root (x := 6) (by simp) (by omega)
  have r4 : Rch (inA oneE) [6] 4 := r3.fst (by decide)
  have r1 := (ex_four (by decide) r4).2
  refine IsCone.of rfl (fun v hv h => ?_) (fun x hx h0 => ?_) (fun u hu h0 => ?_) (fun u hu h0 => ?_)
  · match v, hv with
    | 0, _ => cases h
    | 1, _ => exact r1
    | 2, _ => cases h
    | 3, _ => exact r3
    | 4, _ => exact r4
  · rw [List.mem_singleton.1 hx]; rfl
  · have := getD_true_lt hu
    match u, this with
    | 0, _ => cases hu
    | 1, _ => exact absurd h0 (by decide)
    | 2, _ => cases hu
    | 3, _ => decide
    | 4, _ => decide
  · have := getD_true_lt hu
    match u, this with
    | 0, _ => cases hu
    | 1, _ => exact absurd h0 (by decide)
    | 2, _ => cases hu
    | 3, _ => exact absurd h0 (by decide)
    | 4, _ => decide
theorem ex_eight : IsCone (inW oneE) [8] 5 everE := by
  have r4 : Rch (inW oneE) [8] 4 := Rch.root (x := 8) (by simp) (by omega)
  obtain ⟨r3, r1⟩ := ex_four (by decide) r4
  refine IsCone.of rfl (fun v hv h => ?_) (fun x hx h0 => ?_) (fun u hu h0 => ?_) (fun u hu h0 => ?_)
  · match v, hv with
    | 0, _ => cases h
    | 1, _ => exact r1
    | 2, _ => cases h
    | 3, _ => exact r3
    | 4, _ => exact r4
  · rw [List.mem_singleton.1 hx]; rfl
  · have := getD_true_lt hu
    match u, this with
    | 0, _ => cases hu
    | 1, _ => exact absurd h0 (by decide)
    | 2, _ => cases hu
    | 3, _ => exact absurd h0 (by decide)
    | 4, _ => decide
  · have := getD_true_lt hu
    match u, this with
    | 0, _ => cases hu
    | 1, _ => exact absurd h0 (by decide)
    | 2, _ => cases hu
    | 3, _ => exact absurd h0 (by decide)
    | 4, _ => decide
theorem ex_fr : IsFr oneE 0 2 [everE, ownE] := by
  refine ⟨rfl, fun f hf => ?_⟩
  match f, hf with
  | 0, _ => exact ex_eight
  | 1, _ => exact ex_own

set_option maxRecDepth 100000 in
set_option maxHeartbeats 6400000 in
theorem lives9_any (w : World) : Calls Try.prog 7 #[] w fun e w' => e = .returned (.bool true) ∧ Below w.heap.size w w' := by
  go_enter Try.func7, Try.ntmps7
  go_upto_region 2 with fail
  generalize hW : World.alloc (World.alloc (World.alloc (World.alloc w _) _) _) _ = W1
  have hb : Below w.heap.size w W1 := by subst hW; exact ext_trans (ext_alloc _ _) (ext_trans (ext_alloc _ _) (ext_trans (ext_alloc _ _) (ext_alloc _ _)))
  have h0 : W1.heap[w.heap.size]? = some (.cells #[.int .u32 8, .int .u8 0] 55 (0, 0)) := by subst hW; exact heap_below (heap_below (heap_below (heap_new _ _ _ rfl) (ext_alloc _ _)) (ext_alloc _ _)) (ext_alloc _ _)
  have h1 : W1.heap[w.heap.size + 1]? = some (.cells #[.int .u32 6, .int .u32 2] 58 (0, 0)) := by subst hW; exact heap_below (heap_below (heap_new _ _ _ (by simp)) (ext_alloc _ _)) (ext_alloc _ _)
  have h2 : W1.heap[w.heap.size + 1 + 1]? = some (.cells #[.int .u32 6] 53 (0, 0)) := by subst hW; exact heap_below (heap_new _ _ _ (by simp)) (ext_alloc _ _)
  have h3 : W1.heap[w.heap.size + 1 + 1 + 1]? = some (.cells #[.int .i64 2, .slice (some ⟨w.heap.size, 0, none⟩) 1 1, .slice (some ⟨w.heap.size + 1, 0, none⟩) 1 1, .slice none 0 0, .slice (some ⟨w.heap.size + 1 + 1, 0, none⟩) 1 1, .slice none 0 0] 26 (0, 0)) := by subst hW; exact heap_new _ _ _ (by simp)
  clear hW
  obtain ⟨sC, hC⟩ : ∃ s : CSlots, s = ⟨some ⟨w.heap.size, 0, none⟩, 1, 1, some ⟨w.heap.size + 1, 0, none⟩, 1, 1, none, 0, 0, some ⟨w.heap.size + 1 + 1, 0, none⟩, 1, 1, none, 0, 0⟩ := ⟨_, rfl⟩
  have hsC : SeesCir W1 sC oneE := by
    subst hC
    refine ⟨⟨rfl, Nat.le_refl _, ?_⟩, ⟨rfl, Nat.le_refl _, ?_⟩, Sees.nil _ _ _ (fun _ => rfl), ?_, Sees.nil _ _ _ (fun _ => rfl)⟩
    · exact sees_cells h0 [.int .u32 8, .int .u8 0] 2 rfl rfl
    · exact sees_cells h1 [.int .u32 6, .int .u32 2] 2 rfl rfl
    · exact sees_cells h2 [.int .u32 6] 1 rfl rfl
  have hmC : sC.small := by subst hC; exact ⟨by show (1 : Nat) ≤ 1048576; omega, by show (1 : Nat) ≤ 1048576; omega, Nat.zero_le _, by show (1 : Nat) ≤ 1048576; omega, Nat.zero_le _⟩
  have HOF : Hid (∀ W D, Below W1.heap.size W1 W → W.heap[D]? = some (.cells #[.int .u32 6] 53 (0, 0)) → Calls Try.prog 8 #[.agg #[.int .i64 2, .slice (some ⟨w.heap.size, 0, none⟩) 1 1, .slice (some ⟨w.heap.size + 1, 0, none⟩) 1 1, .slice none 0 0, .slice (some ⟨w.heap.size + 1 + 1, 0, none⟩) 1 1, .slice none 0 0], .slice (some ⟨D, 0, none⟩) 1 1] W fun e W' => ∃ g, e = .returned (.tuple #[.slice (some ⟨g, 0, none⟩) 5 5, .int .i64 0]) ∧ Sees W' (some ⟨g, 0, none⟩) 5 5 (ownE.map Value.bool) ∧ Below W.heap.size W W') := by
    intro W D hb hD
    have h := of9_any oneE [6] sC (some ⟨D, 0, none⟩) 1 1 W (hsC.below hb) hmC (by decide) (by decide) (sees_cells hD [.int .u32 6] 1 rfl rfl) (by omega) (by decide)
    rw [hC] at h
    refine h.mono ?_
    rintro e W' (⟨h1, _⟩ | ⟨_, M, g, h1, h2, h3, _, h4⟩)
    · rw [ex_told] at h1; cases h1
    · have e2 : M = ownE := h2.uniq ex_own
      subst e2
      exact ⟨g, h1, sees_bcells h3 rfl, h4⟩
  have HEV : Hid (∀ W D, Below W1.heap.size W1 W → W.heap[D]? = some (.cells #[.int .u32 6] 53 (0, 0)) → Calls Try.prog 11 #[.agg #[.int .i64 2, .slice (some ⟨w.heap.size, 0, none⟩) 1 1, .slice (some ⟨w.heap.size + 1, 0, none⟩) 1 1, .slice none 0 0, .slice (some ⟨w.heap.size + 1 + 1, 0, none⟩) 1 1, .slice none 0 0], .slice (some ⟨D, 0, none⟩) 1 1] W fun e W' => ∃ g, e = .returned (.tuple #[.slice (some ⟨g, 0, none⟩) 5 5, .int .i64 0]) ∧ Sees W' (some ⟨g, 0, none⟩) 5 5 (everE.map Value.bool) ∧ Below W.heap.size W W') := by
    intro W D hb hD
    have h := ever9_any oneE [6] sC (some ⟨D, 0, none⟩) 1 1 W (hsC.below hb) hmC (by decide) (by decide) (sees_cells hD [.int .u32 6] 1 rfl rfl) (by omega) (by decide)
    rw [hC] at h
    refine h.mono ?_
    rintro e W' (⟨h1, _⟩ | ⟨_, M, g, h1, h2, h3, _, h4⟩)
    · rw [ex_told] at h1; cases h1
    · have e2 : M = everE := h2.uniq ex_ever
      subst e2
      exact ⟨g, h1, sees_bcells h3 rfl, h4⟩
  have HFR : Hid (∀ W, Below W1.heap.size W1 W → Calls Try.prog 13 #[.agg #[.int .i64 2, .slice (some ⟨w.heap.size, 0, none⟩) 1 1, .slice (some ⟨w.heap.size + 1, 0, none⟩) 1 1, .slice none 0 0, .slice (some ⟨w.heap.size + 1 + 1, 0, none⟩) 1 1, .slice none 0 0], .int .i64 0, .int .i64 2] W fun e W' => ∃ F g0 g1, e = .returned (.tuple #[.slice (some ⟨F, 0, none⟩) 2 2, .int .i64 0]) ∧ W'.heap[F]? = some (.cells #[.slice (some ⟨g0, 0, none⟩) 5 5, .slice (some ⟨g1, 0, none⟩) 5 5] 33 (0, 0)) ∧ Sees W' (some ⟨g0, 0, none⟩) 5 5 (everE.map Value.bool) ∧ Sees W' (some ⟨g1, 0, none⟩) 5 5 (ownE.map Value.bool) ∧ Below W.heap.size W W') := by
    intro W hb
    have h := frames9_any oneE 0 2 sC W (hsC.below hb) hmC (by decide) (by decide)
    rw [hC] at h
    refine h.mono ?_
    rintro e W' (⟨h1, _⟩ | ⟨_, ms, G, F, n, hn, h1, h2, h3, h4, _, h5⟩)
    · rw [ex_frok] at h1; cases h1
    · obtain rfl : n = 2 := by omega
      have e2 : ms = [everE, ownE] := h2.uniq ex_fr
      subst e2
      have h40 := (h4 0 (by omega)).1
      have h41 := (h4 1 (by omega)).1
      exact ⟨F, G 0, G 1, h1, h3, sees_bcells h40 rfl, sees_bcells h41 rfl, h5⟩
  have HX := Lib.hid h3
  have HB := Lib.hid hb
  clear hb h0 h1 h2 h3 hsC hmC hC
  have p0 := cell_of_block HX.out 0
  have p1 := cell_of_block HX.out 1
  have p2 := cell_of_block HX.out 2
  have p3 := cell_of_block HX.out 3
  have p4 := cell_of_block HX.out 4
  have p5 := cell_of_block HX.out 5
  go_wp2_with fail
  generalize hW : World.alloc W1 _ = W2
  have hb : Below W1.heap.size W1 W2 := by subst hW; exact ext_alloc _ _
  have hl : W2.heap[W1.heap.size]? = some (.cells #[.int .u32 6] 53 (0, 0)) := by subst hW; exact heap_new _ _ _ rfl
  clear hW
  refine (HOF.out W2 _ hb hl).mono ?_
  rintro e W3 ⟨g1, rfl, hs, hb3⟩
  have HB3 := Lib.hid (ext_trans hb hb3)
  have HX3 := Lib.hid (heap_below HX.out HB3.out)
  have HS3 := Lib.hid hs
  clear hs hb3 hb hl p0 p1 p2 p3 p4 p5
  have p0 := cell_of_block HX3.out 0
  have p1 := cell_of_block HX3.out 1
  have p2 := cell_of_block HX3.out 2
  have p3 := cell_of_block HX3.out 3
  have p4 := cell_of_block HX3.out 4
  have p5 := cell_of_block HX3.out 5
  go_wp2_with fail
  generalize hW : World.alloc W3 _ = W4
  have hb : Below W3.heap.size W3 W4 := by subst hW; exact ext_alloc _ _
  have hl : W4.heap[W3.heap.size]? = some (.cells #[.int .u32 6] 53 (0, 0)) := by subst hW; exact heap_new _ _ _ rfl
  clear hW
  refine (HEV.out W4 _ (ext_trans HB3.out hb) hl).mono ?_
  rintro e W5 ⟨g2, rfl, hs, hb5⟩
  have hb35 := ext_trans hb hb5
  have HB5 := Lib.hid (ext_trans HB3.out hb35)
  have HX5 := Lib.hid (heap_below HX3.out hb35)
  have HS5 := Lib.hid hs
  have HS35 := Lib.hid (HS3.out.below hb35)
  clear hs hb5 hb hb35 hl p0 p1 p2 p3 p4 p5
  have p0 := cell_of_block HX5.out 0
  have p1 := cell_of_block HX5.out 1
  have p2 := cell_of_block HX5.out 2
  have p3 := cell_of_block HX5.out 3
  have p4 := cell_of_block HX5.out 4
  have p5 := cell_of_block HX5.out 5
  go_wp2_with fail
  refine (HFR.out W5 HB5.out).mono ?_
  rintro e W6 ⟨F, k0, k1, rfl, hF, hs0, hs1, hb6⟩
  have HB6 := Lib.hid (ext_trans HB.out (ext_trans HB5.out hb6))
  have HA6 := Lib.hid (HS35.out.below hb6)
  have HE6 := Lib.hid (HS5.out.below hb6)
  have HF6 := Lib.hid hF
  have H06 := Lib.hid hs0
  have H16 := Lib.hid hs1
  clear hF hs0 hs1 hb6 p0 p1 p2 p3 p4 p5 HX HX3 HX5 HB3 HB5 HS3 HS5 HS35 HOF HEV HFR HB
  go_upto_region 6 with fail
  generalize hW : World.alloc (World.alloc W6 _) _ = W7
  have hb : Below W6.heap.size W6 W7 := by subst hW; exact ext_trans (ext_alloc _ _) (ext_alloc _ _)
  have h0 : W7.heap[W6.heap.size]? = some (.cells #[.bool false, .bool false, .bool false, .bool true, .bool false] 4 (0, 0)) := by subst hW; exact heap_below (heap_new _ _ _ rfl) (ext_alloc _ _)
  have h1 : W7.heap[W6.heap.size + 1]? = some (.cells #[.bool false, .bool true, .bool false, .bool true, .bool true] 4 (0, 0)) := by subst hW; exact heap_new _ _ _ (by simp)
  have HB7 := Lib.hid (ext_trans HB6.out hb)
  have f0 : W7.cell? ⟨F, 0, none⟩ = some (.slice (some ⟨k0, 0, none⟩) 5 5) := cell_of_block (heap_below HF6.out hb) 0
  have f1 : W7.cell? ⟨F, 1, none⟩ = some (.slice (some ⟨k1, 0, none⟩) 5 5) := cell_of_block (heap_below HF6.out hb) 1
  have so := sees_cells h0 (ownE.map Value.bool) 5 rfl rfl
  have se := sees_cells h1 (everE.map Value.bool) 5 rfl rfl
  have C1 := Lib.hid (bools_any ownE ownE _ _ 5 5 5 5 W7 (HA6.out.below hb) so (by omega))
  have C2 := Lib.hid (bools_any everE everE _ _ 5 5 5 5 W7 (HE6.out.below hb) se (by omega))
  have C3 := Lib.hid (bools_any everE everE _ _ 5 5 5 5 W7 (H06.out.below hb) se (by omega))
  have C4 := Lib.hid (bools_any ownE ownE _ _ 5 5 5 5 W7 (H16.out.below hb) so (by omega))
  rw [decide_eq_true (show ownE = ownE from rfl)] at C1 C4
  rw [decide_eq_true (show everE = everE from rfl)] at C2 C3
  clear hW hb h0 h1 so se HA6 HE6 HF6 H06 H16 HB6
  go_wp2_with fail
  refine C1.out.mono ?_
  rintro e w1 ⟨rfl, rfl⟩
  go_wp2_with fail
  refine C2.out.mono ?_
  rintro e w1 ⟨rfl, rfl⟩
  go_wp2_with fail
  refine C3.out.mono ?_
  rintro e w1 ⟨rfl, rfl⟩
  go_wp2_with fail
  refine C4.out.mono ?_
  rintro e w1 ⟨rfl, rfl⟩
  go_wp2
  go_ret
  exact ⟨rfl, HB7.out⟩
end Go.Proofs.Ytdheldhecimfnaa
