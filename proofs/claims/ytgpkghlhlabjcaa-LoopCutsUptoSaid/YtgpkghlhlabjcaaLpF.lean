/- A region that draws its order, walked as a plain one, within a round of a range over a function. No function of the program is named here. -/
import Derived.Test.YtgpkghlhlabjcaaRows
import Derived.BigQuiet
import Derived.Deep.AppendLies
import Derived.Deep.QuietTactic
import Derived.Deep.RegionLaw
import Derived.Deep.RegionWith
import Derived.KernelRfl
import Derived.Laws.EntriesVeiled
import Derived.Lib.ConvBytes
import Derived.Lib.Hide
import Derived.Lib.SlBytesRow
import Derived.Lib.SmallJoins
import Derived.Shelf.Bytes.SlSmallAll
import Derived.WalkKit
import Derived.WalkLawsBesides
import Derived.WalkSpells
import Derived.Test.YtgpkghlhlabjcaaNBase
import Derived.Test.YtgpkghlhlabjcaaRawMay
import Derived.Test.YtgpkghlhlabjcaaNVal
import Derived.Test.YtgpkghlhlabjcaaNTrace
import Derived.Test.YtgpkghlhlabjcaaLib
import Derived.Test.YtgpkghlhlabjcaaRawPred
import Derived.Test.YtgpkghlhlabjcaaNCirc
import Derived.Test.YtgpkghlhlabjcaaNSpec
import Derived.Deep.RegionHeld3
import Derived.Laws.Tables
import Derived.Maps.AppendAt
import Derived.Test.YtgpkghlhlabjcaaNHeap
import Derived.Test.YtgpkghlhlabjcaaShelf
import Derived.Deep.CutRange
import Derived.Lib.AppendStr
import Derived.Lib.AppendZeros
import Derived.OrdersHeld
import Derived.Test.YtgpkghlhlabjcaaNOwns
import Derived.Test.YtgpkghlhlabjcaaNWide
import Derived.Test.YtgpkghlhlabjcaaNRefMay3
import Derived.Test.YtgpkghlhlabjcaaNRefX
import Derived.Test.YtgpkghlhlabjcaaNPeel
import Derived.OrdersIn
/- norm.literal, by its contract. -/
namespace Go.Proofs.Ytgpkghlhlabjcaa
open Go Go.RowKit Go.Joins
theorem literal_any (v : Nat) (hv : v ≤ 1000000000) (w : World) : Calls Try.prog 62 #[.int .i64 v] w fun e w' => e = .returned (.int .u32 ((2 * v : Nat) : Int)) ∧ w = w' := by
  have h0 : (0 : Int) ≤ v := by omega
  have h1 : (v : Int) ≤ 1000000000 := by omega
  have W1 : IntKind.u32.wrap (v : Int) = (v : Int) := by rw [IntKind.wrap_u32]; omega
  have W2 : IntKind.u32.wrap (2 * (v : Int)) = 2 * (v : Int) := by rw [IntKind.wrap_u32]; omega
  go_enter Try.func62, Try.ntmps62
  go_wp2
  go_ret
  simp
theorem literal_at (z : Int) (v : Nat) (hz : z = (v : Int)) (hv : v ≤ 1000000000) (w : World) : Calls Try.prog 62 #[.int .i64 z] w fun e w' => e = .returned (.int .u32 ((2 * v : Nat) : Int)) ∧ w = w' := by
  subst hz; exact literal_any v hv w
end Go.Proofs.Ytgpkghlhlabjcaa
/- The small functions of package norm on circuits, by their contracts. -/
namespace Go.Proofs.Ytgpkghlhlabjcaa
open Go Go.RowKit Go.Joins

set_option maxRecDepth 100000 in
theorem count_any (i : Nat) (s : CSlots) (hi : i ≤ 1048576) (hs : s.small) (w : World) : Calls Try.prog 63 #[cirV i s] w fun e w' => e = .returned (.int .i64 ((i + s.n1 + s.n2 : Nat) : Int)) ∧ Below w.heap.size w w' := by
  obtain ⟨a1, n1, c1, a2, n2, c2, a3, n3, c3, a4, n4, c4, a5, n5, c5⟩ := s
  obtain ⟨h1, h2, h3, h4, h5⟩ := hs
  simp only at h1 h2 h3 h4 h5 ⊢
  have W1 : IntKind.i64.wrap ((i : Int) + n1) = (i : Int) + n1 := IntWalk.i64_in _ (by omega)
  have W2 : IntKind.i64.wrap ((i : Int) + n1 + n2) = (i : Int) + n1 + n2 := IntWalk.i64_in _ (by omega)
  unfold cirV
  go_enter Try.func63, Try.ntmps63
  go_wp2
  go_ret
  exact ⟨by simp, ext_alloc _ _⟩

set_option maxRecDepth 100000 in
theorem firstLatch_any (i : Nat) (s : CSlots) (hi : i ≤ 1048576) (w : World) : Calls Try.prog 76 #[cirV i s] w fun e w' => e = .returned (.int .i64 ((1 + i : Nat) : Int)) ∧ Below w.heap.size w w' := by
  obtain ⟨a1, n1, c1, a2, n2, c2, a3, n3, c3, a4, n4, c4, a5, n5, c5⟩ := s
  have W1 : IntKind.i64.wrap ((1 : Int) + i) = (1 : Int) + i := IntWalk.i64_in _ (by omega)
  unfold cirV
  go_enter Try.func76, Try.ntmps76
  go_wp2
  go_ret
  exact ⟨by simp, ext_alloc _ _⟩

set_option maxRecDepth 100000 in
theorem firstGate_any (i : Nat) (s : CSlots) (hi : i ≤ 1048576) (hs : s.small) (w : World) : Calls Try.prog 74 #[cirV i s] w fun e w' => e = .returned (.int .i64 ((1 + i + s.n1 : Nat) : Int)) ∧ Below w.heap.size w w' := by
  have HF := Lib.hid (fun W => firstLatch_any i s hi W)
  obtain ⟨a1, n1, c1, a2, n2, c2, a3, n3, c3, a4, n4, c4, a5, n5, c5⟩ := s
  obtain ⟨h1, h2, h3, h4, h5⟩ := hs
  simp only at h1 h2 h3 h4 h5 ⊢
  have W2 : IntKind.i64.wrap ((1 : Int) + i + n1) = (1 : Int) + i + n1 := IntWalk.i64_in _ (by omega)
  unfold cirV at *
  go_enter Try.func74, Try.ntmps74
  go_wp2_with fail
  generalize hW : World.alloc w _ = W0
  have B1 : Below w.heap.size w W0 := by subst hW; exact ext_alloc _ _
  have hX : W0.heap[w.heap.size]? = some (.cells #[.int .i64 i, .slice a1 n1 c1, .slice a2 n2 c2, .slice a3 n3 c3, .slice a4 n4 c4, .slice a5 n5 c5] 26 (0, 0)) := by
    subst hW; exact heap_new _ _ _ rfl
  clear hW
  have p0 := cell_of_block hX 0
  have p1 := cell_of_block hX 1
  have p2 := cell_of_block hX 2
  have p3 := cell_of_block hX 3
  have p4 := cell_of_block hX 4
  have p5 := cell_of_block hX 5
  have HC : Hid (∀ W, Below W0.heap.size W0 W → Calls Try.prog 76 #[cirV i ⟨a1, n1, c1, a2, n2, c2, a3, n3, c3, a4, n4, c4, a5, n5, c5⟩] W (fun e w' => e = .returned (.int .i64 ((1 + i : Nat) : Int)) ∧ Below W0.heap.size W0 w' ∧ w'.cell? ⟨w.heap.size, 1, .none⟩ = some (.slice a1 n1 c1))) := fun W hb => by
    refine (HF.out W).mono ?_
    rintro e w' ⟨he, h'⟩
    have hb' := ext_trans hb h'
    exact ⟨he, hb', cell_below (show W0.cell? ⟨w.heap.size, 1, .none⟩ = some (.slice a1 n1 c1) from p1) hb'⟩
  unfold cirV at HC
  clear HF
  have HB1 := Lib.hid B1
  clear B1 hX
  go_wp2_with fail
  go_region_with (go_at_call 76; refine (HC.out _ (by first | exact Below.refl _ _ | exact (Below.refl _ _).drew)).mono ?_; rintro e w1 ⟨rfl, hb, hc⟩)
  all_goals go_wp2
  all_goals go_ret
  all_goals exact ⟨by first | (simp; done) | (simp; rfl), by first | exact ext_trans HB1.out hb | exact (ext_trans HB1.out hb).drew⟩
end Go.Proofs.Ytgpkghlhlabjcaa
/- norm.May, by its contract. -/
namespace Go.Proofs.Ytgpkghlhlabjcaa
open Go Go.RowKit Go.Joins

/-- May's first closure: what it captured lies at block B. -/
theorem nabove_any (m x B : Nat) (w : World) (hc : w.cell? ⟨B, 0, .none⟩ = some (.int .u32 ((2 * m + 1 : Nat) : Int))) :
    Calls Try.prog 64 #[.int .u32 x, .pointer (some ⟨B, 0, .none⟩)] w fun e w' => e = .returned (.bool (above m x)) ∧ w = w' := by
  obtain ⟨M, hM⟩ : ∃ M : Nat, M = 2 * m + 1 := ⟨_, rfl⟩
  have e : decide (M < x) = above m x := by unfold above; rw [hM]
  rw [← hM] at hc
  have E := Lib.hid e
  clear e hM
  go_enter Try.func64, Try.ntmps64
  go_wp2
  go_ret
  exact ⟨congrArg (fun b => Ending.returned (.bool b)) E.out, rfl⟩

theorem nidx_u32 (m B : Nat) (l : List Nat) (a : Option Addr) (n c : Nat) (hn : n ≤ 1048576) (w : World) (h : Sees w a n c (l.map nv32)) (hc : w.cell? ⟨B, 0, .none⟩ = some (.int .u32 ((2 * m + 1 : Nat) : Int))) :
    Calls Try.prog 72 #[.slice a n c, .func (.func 64) #[] #[.pointer (some ⟨B, 0, .none⟩)]] w (IdxPost (above m) l w) := by
  have hl := h.lenMap
  have HS := Lib.hid h
  have HL := Lib.hid hl
  have HC := Lib.hid (fun x => nabove_any m x B w hc)
  clear h hl hc
  go_enter Try.func72, Try.ntmps72
  go_wp2
  go_loop [5, 8] (fun v i => ∃ k : Nat, k ≤ n ∧ i = .int .i64 k ∧ Hid (∀ j, j < k → above m (l.getD j 0) = false)) (fun _ i => n - (intOf i).toNat)
  case atStart => exact ⟨0, Nat.zero_le _, rfl, fun j hj => absurd hj (by omega)⟩
  case round =>
    obtain ⟨k, hk, rfl, hno⟩ := hrel
    by_cases hlt : k < n
    · obtain ⟨b, off, rfl, hbw⟩ := HS.out.addr (by omega)
      have hcx := HS.out.num k hlt
      obtain ⟨x, hx⟩ : ∃ x, x = l.getD k 0 := ⟨_, rfl⟩
      rw [← hx] at hcx
      have HX := Lib.hid hx
      clear hx
      have W1 : IntKind.i64.wrap ((k : Int) + 1) = (k : Int) + 1 := IntWalk.i64_in _ (by omega)
      obtain ⟨q, hq⟩ : ∃ q, q = above m x := ⟨_, rfl⟩
      have HQ := Lib.hid hq
      clear hq
      go_wp2_with fail
      refine (HC.out x).mono ?_
      rw [← HQ.out]
      rintro e w' ⟨rfl, rfl⟩
      cases q with
      | true =>
        go_wp2
        go_ret
        refine ⟨k, rfl, by omega, ⟨fun _ => ?_, fun _ => by omega⟩, Below.refl _ _⟩
        exact List.any_eq_true.2 ⟨l.getD k 0, getD_mem (by rw [HL.out]; exact hlt), by rw [← HX.out]; exact HQ.out.symm⟩
      | false =>
        go_wp2
        go_round
        case rel =>
          refine ⟨k + 1, by omega, by go_num, fun j hj => ?_⟩
          rcases Nat.lt_or_ge j k with h | h
          · exact hno.out j h
          · have : j = k := by omega
            subst this
            rw [← HX.out]; exact HQ.out.symm
        case measure => simp [intOf]; omega
    · have hkn : k = n := by omega
      subst hkn
      go_wp2
      go_ret
      refine ⟨-1, rfl, by omega, ⟨fun h => absurd h (by decide), fun h => ?_⟩, Below.refl _ _⟩
      rw [any_none (all_of_getD (d := 0) (fun j hj => hno.out j (by rw [← HL.out]; exact hj)))] at h
      cases h

theorem nhas_u32 (m B : Nat) (l : List Nat) (a : Option Addr) (n c : Nat) (hn : n ≤ 1048576) (w : World) (h : Sees w a n c (l.map nv32)) (hc : w.cell? ⟨B, 0, .none⟩ = some (.int .u32 ((2 * m + 1 : Nat) : Int))) :
    Calls Try.prog 65 #[.slice a n c, .func (.func 64) #[] #[.pointer (some ⟨B, 0, .none⟩)]] w (fun e w' => e = .returned (.bool (l.any (above m))) ∧ Below w.heap.size w w') := by
  have HI := Lib.hid (nidx_u32 m B l a n c hn w h hc)
  clear h hc
  obtain ⟨f, hf⟩ : ∃ f, f = Value.func (.func 64) #[] #[.pointer (some ⟨B, 0, .none⟩)] := ⟨_, rfl⟩
  rw [← hf] at HI ⊢
  have HF := Lib.hid hf
  clear hf
  go_enter Try.func65, Try.ntmps65
  go_wp2_with fail
  refine HI.out.mono ?_
  rintro e w' ⟨z, rfl, hz, hiff, hb⟩
  have e : decide (0 ≤ z) = l.any (above m) := by
    cases hq : l.any (above m) with
    | true => simpa using hiff.2 hq
    | false => simp; have := fun h => hiff.1 h; rw [hq] at this; exact Int.not_le.1 (fun h => by cases this h)
  have E := Lib.hid e
  clear e hiff
  go_wp2
  go_ret
  exact ⟨congrArg (fun b => Ending.returned (.bool b)) E.out, hb⟩

/-- The cells that the closure on latches needs. -/
structure NCaps (m B C : Nat) (w : World) : Prop where
  b : w.cell? ⟨B, 0, .none⟩ = some (.int .u32 ((2 * m + 1 : Nat) : Int))
  c : w.cell? ⟨C, 0, .none⟩ = some (.func (.func 64) #[] #[.pointer (some ⟨B, 0, .none⟩)])
theorem NCaps.below {m B C : Nat} {w w' : World} (h : NCaps m B C w) (hb : Below w.heap.size w w') : NCaps m B C w' := ⟨cell_below h.b hb, cell_below h.c hb⟩

theorem nlat_bad (m x y B C : Nat) (w : World) (h : NCaps m B C w) :
    Calls Try.prog 66 #[.agg #[.int .u32 x, .int .u8 y], .pointer (some ⟨C, 0, .none⟩)] w fun e w' => e = .returned (.bool (badLat2 m (x, y))) ∧ Below w.heap.size w w' := by
  obtain ⟨q1, h1⟩ : ∃ q, q = above m x := ⟨_, rfl⟩
  obtain ⟨q2, h2⟩ : ∃ q, q = decide ((2 : Int) < (y : Int)) := ⟨_, rfl⟩
  have hv : badLat2 m (x, y) = (q1 || q2) := by
    rw [h1, h2]
    unfold badLat2
    simp only
    congr 1
    apply decide_eq_decide.2
    omega
  rw [hv]
  have hc1 : (w.alloc (.cells #[.int .u32 x, .int .u8 y] 51)).cell? ⟨C, 0, .none⟩ = some (.func (.func 64) #[] #[.pointer (some ⟨B, 0, .none⟩)]) := (h.below (ext_alloc _ _)).c
  have HA : Hid (∀ o : Obj, Calls Try.prog 64 #[.int .u32 x, .pointer (some ⟨B, 0, .none⟩)] (w.alloc o) fun e w' => e = .returned (.bool q1) ∧ w.alloc o = w') := fun o => by
    rw [h1]
    exact nabove_any m x B (w.alloc o) (h.below (ext_alloc _ _)).b
  have H2 := Lib.hid h2
  clear h1 h2 hv h
  go_enter Try.func66, Try.ntmps66
  go_wp2_with fail
  refine (HA.out _).mono ?_
  rintro e w' ⟨rfl, rfl⟩
  cases q1 with
  | true =>
    go_wp2
    go_ret
    exact ⟨rfl, ext_alloc _ _⟩
  | false =>
    go_wp2
    go_ret
    exact ⟨by rw [H2.out]; rfl, ext_alloc _ _⟩
theorem nidx_lat (m B C : Nat) (l : List (Nat × Nat)) (a : Option Addr) (n c : Nat) (hn : n ≤ 1048576) (w : World) (h : Sees2 nv8 w a n c l) (hc : NCaps m B C w) :
    Calls Try.prog 73 #[.slice a n c, .func (.func 66) #[] #[.pointer (some ⟨C, 0, .none⟩)]] w (IdxPost (badLat2 m) l w) := by
  have hl := h.1
  have HS := Lib.hid h
  have HL := Lib.hid hl
  have HC := Lib.hid hc
  clear h hl hc
  go_enter Try.func73, Try.ntmps73
  go_wp2
  go_loopw [5, 8] (fun v i wr => ∃ k : Nat, k ≤ n ∧ i = .int .i64 k ∧ Hid (∀ j, j < k → badLat2 m (l.getD j (0, 0)) = false) ∧ Hid (Below w.heap.size w wr)) (fun _ i _ => n - (intOf i).toNat)
  case atStart => exact ⟨0, Nat.zero_le _, rfl, fun j hj => absurd hj (by omega), Below.refl _ _⟩
  case round =>
    obtain ⟨k, hk, rfl, hno, hbel⟩ := hrel
    by_cases hlt : k < n
    · obtain ⟨b, off, rfl, hbw⟩ := HS.out.addr (by omega)
      obtain ⟨hx, hy⟩ := (HS.out.below hbel.out).cells k hlt (0, 0)
      obtain ⟨t, ht⟩ : ∃ t, t = l.getD k (0, 0) := ⟨_, rfl⟩
      rw [← ht] at hx hy
      have HX := Lib.hid ht
      clear ht
      obtain ⟨x, y⟩ := t
      simp only [nv32, nv8] at hx hy
      have W1 : IntKind.i64.wrap ((k : Int) + 1) = (k : Int) + 1 := IntWalk.i64_in _ (by omega)
      obtain ⟨q, hq⟩ : ∃ q, q = badLat2 m (x, y) := ⟨_, rfl⟩
      have HQ := Lib.hid hq
      clear hq
      go_wp2_with fail
      refine (nlat_bad m x y B C wr (HC.out.below hbel.out)).mono ?_
      rw [← HQ.out]
      rintro e w' ⟨rfl, hb'⟩
      have HB' := Lib.hid (ext_trans hbel.out hb')
      clear hb' hx hy
      cases q with
      | true =>
        go_wp2
        go_ret
        refine ⟨k, rfl, by omega, ⟨fun _ => ?_, fun _ => by omega⟩, HB'.out⟩
        exact List.any_eq_true.2 ⟨l.getD k (0, 0), getD_mem (by rw [HL.out]; exact hlt), by rw [← HX.out]; exact HQ.out.symm⟩
      | false =>
        go_wp2
        go_roundw
        case rel =>
          refine ⟨k + 1, by omega, by go_num, fun j hj => ?_, HB'.out⟩
          rcases Nat.lt_or_ge j k with h | h
          · exact hno.out j h
          · have : j = k := by omega
            subst this
            rw [← HX.out]; exact HQ.out.symm
        case measure => simp [intOf]; omega
    · have hkn : k = n := by omega
      subst hkn
      go_wp2
      go_ret
      refine ⟨-1, rfl, by omega, ⟨fun h => absurd h (by decide), fun h => ?_⟩, hbel.out⟩
      rw [any_none (all_of_getD (d := ((0, 0) : Nat × Nat)) (fun j hj => hno.out j (by rw [← HL.out]; exact hj)))] at h
      cases h

theorem nhas_lat (m B C : Nat) (l : List (Nat × Nat)) (a : Option Addr) (n c : Nat) (hn : n ≤ 1048576) (w : World) (h : Sees2 nv8 w a n c l) (hc : NCaps m B C w) :
    Calls Try.prog 67 #[.slice a n c, .func (.func 66) #[] #[.pointer (some ⟨C, 0, .none⟩)]] w (fun e w' => e = .returned (.bool (l.any (badLat2 m))) ∧ Below w.heap.size w w') := by
  have HI := Lib.hid (nidx_lat m B C l a n c hn w h hc)
  clear h hc
  obtain ⟨f, hf⟩ : ∃ f, f = Value.func (.func 66) #[] #[.pointer (some ⟨C, 0, .none⟩)] := ⟨_, rfl⟩
  rw [← hf] at HI ⊢
  have HF := Lib.hid hf
  clear hf
  go_enter Try.func67, Try.ntmps67
  go_wp2_with fail
  refine HI.out.mono ?_
  rintro e w' ⟨z, rfl, hz, hiff, hb⟩
  have e : decide (0 ≤ z) = l.any (badLat2 m) := by
    cases hq : l.any (badLat2 m) with
    | true => simpa using hiff.2 hq
    | false => simp; have := fun h => hiff.1 h; rw [hq] at this; exact Int.not_le.1 (fun h => by cases this h)
  have E := Lib.hid e
  clear e hiff
  go_wp2
  go_ret
  exact ⟨congrArg (fun b => Ending.returned (.bool b)) E.out, hb⟩
end Go.Proofs.Ytgpkghlhlabjcaa
/- norm.mayGates, by its contract. -/
namespace Go.Proofs.Ytgpkghlhlabjcaa
open Go Go.RowKit Go.Joins

set_option maxRecDepth 100000 in
set_option maxHeartbeats 1600000 in
theorem mayGates_any (c : NormC) (i : Nat) (s : CSlots) (w : World) (h : SeesCir w s c) (hs : s.small) (hi : i ≤ 16384) (hm : c.lats.length + c.gates.length ≤ 16384) :
    Calls Try.prog 68 #[cirV i s] w fun e w' => e = .returned (.bool (!badGates (1 + i + c.lats.length) c.gates)) ∧ Below w.heap.size w w' := by
  have HF := Lib.hid (fun W => firstGate_any i s (by omega) hs W)
  obtain ⟨a1, n1, c1, a2, n2, c2, a3, n3, c3, a4, n4, c4, a5, n5, c5⟩ := s
  obtain ⟨hs1, hs2, hs3, hs4, hs5⟩ := hs
  simp only at hs1 hs2 hs3 hs4 hs5
  have l1 : c.lats.length = n1 := h.s1.1
  have l2 : c.gates.length = n2 := h.s2.1
  rw [l1]
  rw [l1, l2] at hm
  simp only at HF
  have L2 := Lib.hid l2
  have HS := Lib.hid h
  clear l1 l2 h
  obtain ⟨F, hFF⟩ : ∃ F, F = 1 + i + n1 := ⟨_, rfl⟩
  rw [← hFF] at HF ⊢
  have hF1 : 1 ≤ F := by omega
  have hF2 : F + n2 ≤ 40000 := by omega
  clear hFF
  unfold cirV at *
  go_enter Try.func68, Try.ntmps68
  go_wp2_with fail
  generalize hW : World.alloc w _ = W0
  have B0 : Below w.heap.size w W0 := by subst hW; exact ext_alloc _ _
  have hX : W0.heap[w.heap.size]? = some (.cells #[.int .i64 i, .slice a1 n1 c1, .slice a2 n2 c2, .slice a3 n3 c3, .slice a4 n4 c4, .slice a5 n5 c5] 26 (0, 0)) := by
    subst hW; exact heap_new _ _ _ rfl
  clear hW
  refine (HF.out W0).mono ?_
  rintro e W1 ⟨rfl, hb⟩
  have p2 := cell_of_block (heap_below hX hb) 2
  have HB := Lib.hid (ext_trans B0 hb)
  clear B0 hX hb HF
  go_wp2
  clear p2
  go_loopw [11] (fun j wr => ∃ k : Nat, k ≤ n2 ∧ j = .int .i64 k ∧ Hid (∀ j, j < k → badGate2 (F + j) (c.gates.getD j (0, 0)) = false) ∧ Hid (Below w.heap.size w wr))
    (fun j _ => n2 - (intOf j).toNat)
  case atStart => exact ⟨0, Nat.zero_le _, rfl, fun j hj => absurd hj (by omega), HB.out⟩
  case round =>
    clear HB
    obtain ⟨k, hk, rfl, hno, hb⟩ := hrel
    by_cases hlt : k < n2
    · obtain ⟨b, off, rfl, hbw⟩ := HS.out.s2.addr (show 0 < n2 by omega)
      obtain ⟨hx, hy⟩ := (HS.out.s2.below hb.out).cells k hlt (0, 0)
      obtain ⟨t, ht⟩ : ∃ t, t = c.gates.getD k (0, 0) := ⟨_, rfl⟩
      rw [← ht] at hx hy
      have HT := Lib.hid ht
      clear ht
      obtain ⟨x, y⟩ := t
      simp only [nv32] at hx hy
      have W1 : IntKind.i64.wrap ((k : Int) + 1) = (k : Int) + 1 := IntWalk.i64_in _ (by omega)
      have W2 : IntKind.i64.wrap ((F : Int) + (k : Int)) = (F : Int) + (k : Int) := IntWalk.i64_in _ (by omega)
      have HLIT := Lib.hid (fun W => literal_at ((F : Int) + (k : Int)) (F + k) (by omega) (by omega) W)
      obtain ⟨L, hL⟩ : ∃ L, L = 2 * (F + k) := ⟨_, rfl⟩
      rw [← hL] at HLIT
      have HB2 := Lib.hid (fun o => (ext_trans hb.out (ext_alloc wr o)))
      have hbad : badGate2 (F + k) (x, y) = (decide (x < y) || decide (L ≤ x)) := by rw [hL]; rfl
      have YES : badGate2 (F + k) (x, y) = true → badGates F c.gates = true := fun hq => (badGates_at c.gates F).2 ⟨k, by rw [L2.out]; exact hlt, by rw [← HT.out]; exact hq⟩
      clear hL
      by_cases h1 : x < y
      · have e1 : decide (x < y) = true := by simpa using h1
        have HY : Hid (badGates F c.gates = true) := YES (by rw [hbad, e1]; rfl)
        clear hbad YES hb
        go_wp2
        go_quiet (fail)
        go_wp2
        go_ret
        rename_i nq
        exact ⟨by rw [HY.out]; rfl, ext_trans (HB2.out _) (ext_drewN _ nq)⟩
      · have e1 : decide (x < y) = false := by simpa using h1
        by_cases h2 : L ≤ x
        · have e2 : decide (L ≤ x) = true := by simpa using h2
          have HY : Hid (badGates F c.gates = true) := YES (by rw [hbad, e1, e2]; rfl)
          clear hbad YES hb
          go_wp2
          go_quiet ((go_at_call 62; exact Calls.quiet_of_same ((HLIT.out _).mono fun _ _ ⟨h1, h2⟩ => ⟨h1, h2.symm⟩)))
          go_wp2
          go_ret
          rename_i nq
          exact ⟨by rw [HY.out]; rfl, ext_trans (HB2.out _) (ext_drewN _ nq)⟩
        · have e2 : decide (L ≤ x) = false := by simpa using h2
          have HN : Hid (badGate2 (F + k) (c.gates.getD k (0, 0)) = false) := by
            show _ = _
            rw [← HT.out, hbad, e1, e2]; rfl
          clear hbad YES hb
          go_wp2
          go_quiet ((go_at_call 62; exact Calls.quiet_of_same ((HLIT.out _).mono fun _ _ ⟨h1, h2⟩ => ⟨h1, h2.symm⟩)))
          go_wp2
          go_roundw
          case rel =>
            rename_i nq
            refine ⟨k + 1, by omega, by go_num, fun j hj => ?_, ext_trans (HB2.out _) (ext_drewN _ nq)⟩
            rcases Nat.lt_or_ge j k with h | h
            · exact hno.out j h
            · have : j = k := by omega
              subst this
              exact HN.out
          case measure => simp [intOf]; omega
    · obtain rfl : n2 = k := by omega
      have HN : Hid (badGates F c.gates = false) := badGates_no.2 (fun j hj => hno.out j (by rw [← L2.out]; exact hj))
      go_wp2
      go_ret
      exact ⟨by rw [HN.out]; rfl, hb.out⟩
end Go.Proofs.Ytgpkghlhlabjcaa
/- norm.May, by its contract. -/
namespace Go.Proofs.Ytgpkghlhlabjcaa
open Go Go.RowKit Go.Joins

/-- What lies in memory while May looks at the lists. -/
structure NMayF (w0 w : World) (m : Nat) (B : Nat) (i : Nat) (v1 v2 v3 v4 v5 : Value) : Prop where
  x : w.heap[w0.heap.size]? = some (.cells #[.int .i64 i, v1, v2, v3, v4, v5] 26 (0, 0))
  b : w.heap[B]? = some (.cells #[.int .u32 ((2 * m + 1 : Nat) : Int)] 49 (0, 0))
  c : w.heap[B + 1]? = some (.cells #[.func (.func 64) #[] #[.pointer (some ⟨B, 0, .none⟩)]] 96 (0, 0))
  d : w.heap[B + 1 + 1]? = some (.cells #[v3, v4, v5] 24 (0, 0))
  bel : Below w0.heap.size w0 w
theorem NMayF.below {w0 w w' : World} {m B i : Nat} {v1 v2 v3 v4 v5 : Value} (h : NMayF w0 w m B i v1 v2 v3 v4 v5) (hb : Below w.heap.size w w') : NMayF w0 w' m B i v1 v2 v3 v4 v5 :=
  ⟨heap_below h.x hb, heap_below h.b hb, heap_below h.c hb, heap_below h.d hb, ext_trans h.bel hb⟩
theorem NMayF.caps {w0 w : World} {m B i : Nat} {v1 v2 v3 v4 v5 : Value} (h : NMayF w0 w m B i v1 v2 v3 v4 v5) : NCaps m B (B + 1) w := ⟨cell_of_block h.b 0, cell_of_block h.c 0⟩

set_option maxRecDepth 100000 in
set_option maxHeartbeats 3200000 in
theorem may3_any (c : NormC) (s : CSlots) (w : World) (h : SeesCir w s c) (hs : s.small) (hlo : -9223372036854775808 ≤ c.ins) (hhi : c.ins < 9223372036854775808) :
    Calls Try.prog 50 #[cirV c.ins s] w fun e w' => e = .returned (.bool (mayC c)) ∧ Below w.heap.size w w' := by
  have HCNT := Lib.hid (fun (j : Nat) (hj : j ≤ 1048576) W => count_any j s hj hs W)
  have HGT := Lib.hid (fun (i : Nat) W (hb : Below w.heap.size w W) (h1 : i ≤ 16384) (h2 : c.lats.length + c.gates.length ≤ 16384) => mayGates_any c i s W (h.below hb) hs h1 h2)
  obtain ⟨a1, n1, c1, a2, n2, c2, a3, n3, c3, a4, n4, c4, a5, n5, c5⟩ := s
  obtain ⟨hs1, hs2, hs3, hs4, hs5⟩ := hs
  simp only at hs1 hs2 hs3 hs4 hs5 HCNT
  have l1 : c.lats.length = n1 := h.s1.1
  have l2 : c.gates.length = n2 := h.s2.1
  have L1 := Lib.hid l1
  have L2 := Lib.hid l2
  have HS := Lib.hid h
  clear l1 l2 h
  obtain ⟨z, hz⟩ : ∃ z, z = c.ins := ⟨_, rfl⟩
  rw [← hz] at hlo hhi ⊢
  have HZ := Lib.hid hz
  clear hz
  by_cases hneg : z < 0
  · have e1 : decide (z < 0) = true := by simpa using hneg
    have HV : Hid (mayC c = false) := by
      show _ = _
      unfold mayC tooMany
      rw [← HZ.out, e1]; rfl
    clear HCNT HGT
    unfold cirV
    go_enter Try.func50, Try.ntmps50
    go_wp2
    go_ret
    exact ⟨by rw [HV.out]; rfl, ext_alloc _ _⟩
  obtain ⟨i, rfl⟩ := Int.eq_ofNat_of_zero_le (show 0 ≤ z by omega)
  have e1 : decide ((i : Int) < 0) = false := by simp
  by_cases hmany : 16384 < i + n1 + n2
  · have e2 : decide ((16384 : Int) - (i : Int) < (n1 : Int) + (n2 : Int)) = true := by simp; omega
    have HV : Hid (mayC c = false) := by
      show _ = _
      unfold mayC tooMany
      rw [← HZ.out, L1.out, L2.out, show ((n1 + n2 : Nat) : Int) = (n1 : Int) + n2 by omega, e2]; simp
    clear HCNT HGT
    unfold cirV
    go_enter Try.func50, Try.ntmps50
    go_wp2
    go_ret
    exact ⟨by rw [HV.out]; rfl, ext_alloc _ _⟩
  have e2 : decide ((16384 : Int) - (i : Int) < (n1 : Int) + (n2 : Int)) = false := by simp; omega
  obtain ⟨m, hm⟩ : ∃ m, m = i + n1 + n2 := ⟨_, rfl⟩
  have hv : mayC c = (!badList m c.outs && (!badList m c.bads && (!badList m c.cons && (!c.lats.any (badLat2 m) && !badGates (1 + i + c.lats.length) c.gates)))) := by
    have e3 : varsN c = m := by unfold varsN; rw [← HZ.out, L1.out, L2.out, hm]; simp
    unfold mayC tooMany
    rw [e3, ← HZ.out, L1.out, L2.out, show ((n1 + n2 : Nat) : Int) = (n1 : Int) + n2 by omega, e1, e2]
    simp
  obtain ⟨q3, hq3⟩ : ∃ q, q = badList m c.outs := ⟨_, rfl⟩
  obtain ⟨q4, hq4⟩ : ∃ q, q = badList m c.bads := ⟨_, rfl⟩
  obtain ⟨q5, hq5⟩ : ∃ q, q = badList m c.cons := ⟨_, rfl⟩
  obtain ⟨q1, hq1⟩ : ∃ q, q = c.lats.any (badLat2 m) := ⟨_, rfl⟩
  obtain ⟨q2, hq2⟩ : ∃ q, q = badGates (1 + i + c.lats.length) c.gates := ⟨_, rfl⟩
  rw [← hq1, ← hq2, ← hq3, ← hq4, ← hq5] at hv
  have g3 : q3 = (decide (1024 < n3) || c.outs.any (above m)) := by rw [hq3, badList, HS.out.s3.lenMap]
  have g4 : q4 = (decide (1024 < n4) || c.bads.any (above m)) := by rw [hq4, badList, HS.out.s4.lenMap]
  have g5 : q5 = (decide (1024 < n5) || c.cons.any (above m)) := by rw [hq5, badList, HS.out.s5.lenMap]
  have HCN : Hid (∀ W, Calls Try.prog 63 #[cirV i ⟨a1, n1, c1, a2, n2, c2, a3, n3, c3, a4, n4, c4, a5, n5, c5⟩] W fun e w' => e = .returned (.int .i64 (m : Int)) ∧ Below W.heap.size W w') := fun W => by rw [hm]; exact HCNT.out i (by omega) W
  have HG2 : Hid (∀ W, Below w.heap.size w W → Calls Try.prog 68 #[cirV i ⟨a1, n1, c1, a2, n2, c2, a3, n3, c3, a4, n4, c4, a5, n5, c5⟩] W fun e w' => e = .returned (.bool (!q2)) ∧ Below W.heap.size W w') := fun W hb => by rw [hq2]; exact HGT.out i W hb (by omega) (by rw [L1.out, L2.out]; omega)
  have hm2 : m ≤ 16384 := by omega
  have HV := Lib.hid hv
  have Q1 := Lib.hid hq1
  have G3 := Lib.hid g3
  have G4 := Lib.hid g4
  have G5 := Lib.hid g5
  clear hv hq1 hq2 hq3 hq4 hq5 g3 g4 g5 HCNT HGT hm hneg hmany
  have W1 : IntKind.u32.wrap ((2 * m : Nat) : Int) = ((2 * m : Nat) : Int) := by rw [IntKind.wrap_u32]; omega
  have W2 : IntKind.u32.wrap (((2 * m : Nat) : Int) + 1) = ((2 * m + 1 : Nat) : Int) := by rw [IntKind.wrap_u32]; omega
  unfold cirV at *
  go_enter Try.func50, Try.ntmps50
  go_wp2_with fail
  generalize hW : World.alloc w _ = W0
  have B0 : Below w.heap.size w W0 := by subst hW; exact ext_alloc _ _
  have hX : W0.heap[w.heap.size]? = some (.cells #[.int .i64 i, .slice a1 n1 c1, .slice a2 n2 c2, .slice a3 n3 c3, .slice a4 n4 c4, .slice a5 n5 c5] 26 (0, 0)) := by subst hW; exact heap_new _ _ _ rfl
  clear hW
  refine (HCN.out W0).mono ?_
  rintro e V0 ⟨rfl, hb⟩
  have hX2 := heap_below hX hb
  have B2 := ext_trans B0 hb
  clear hb B0 hX HCN
  have HX := Lib.hid hX2
  have HB := Lib.hid B2
  clear hX2 B2
  go_wp2_with fail
  refine (literal_any m (by omega) V0).mono ?_
  rintro e V1 ⟨rfl, rfl⟩
  have hlt := heap_lt HX.out
  have p3 := cell_of_block HX.out 3
  have p4 := cell_of_block HX.out 4
  have p5 := cell_of_block HX.out 5
  by_cases t3 : 1024 < n3
  · have e3 : decide ((1024 : Int) < (n3 : Int)) = true := by simp; omega
    have z3 : Hid (q3 = true) := by show _ = _; rw [G3.out]; simp [t3]
    go_wp2
    refine wp_loop_rounds 4 ?_
    rw [rounds_succ]
    go_wp2
    go_ret
    exact ⟨by rw [HV.out, z3.out]; rfl, ext_trans HB.out (ext_trans (ext_alloc _ _) (ext_trans (ext_alloc _ _) (ext_alloc _ _)))⟩
  have e3 : decide ((1024 : Int) < (n3 : Int)) = false := by simp; omega
  go_wp2
  refine wp_loop_rounds 4 ?_
  rw [rounds_succ]
  go_wp2_with fail
  rw [show (2 * (m : Int) + 1) = ((2 * m + 1 : Nat) : Int) by omega]
  generalize hW : World.alloc (World.alloc (World.alloc V0 _) _) _ = W3
  obtain ⟨B, hB⟩ : ∃ B, B = V0.heap.size := ⟨_, rfl⟩
  rw [← hB]
  have F : NMayF w W3 m B i (.slice a1 n1 c1) (.slice a2 n2 c2) (.slice a3 n3 c3) (.slice a4 n4 c4) (.slice a5 n5 c5) := by
    subst hW
    subst hB
    exact ⟨heap_below HX.out (ext_trans (ext_alloc _ _) (ext_trans (ext_alloc _ _) (ext_alloc _ _))), heap_below (heap_new V0 _ _ rfl) (ext_trans (ext_alloc _ _) (ext_alloc _ _)), heap_below (heap_new (V0.alloc (.cells #[.int .u32 ((2 * m + 1 : Nat) : Int)] 49)) _ _ (by simp)) (ext_alloc _ _), heap_new _ _ _ (by simp), ext_trans HB.out (ext_trans (ext_alloc _ _) (ext_trans (ext_alloc _ _) (ext_alloc _ _)))⟩
  have F := Lib.hid F
  clear hW hB p3 p4 p5 hlt HX HB
  refine (nhas_u32 m B c.outs a3 n3 c3 hs3 W3 (HS.out.s3.below F.out.bel) F.out.caps.b).mono ?_
  obtain ⟨p3, hp3⟩ : ∃ p, p = c.outs.any (above m) := ⟨_, rfl⟩
  rw [← hp3]
  rw [← hp3] at G3
  clear hp3
  rintro e V3 ⟨rfl, hb⟩
  replace F := Lib.hid (F.out.below hb)
  clear hb
  have d0 := cell_of_block F.out.d 0
  have d1 := cell_of_block F.out.d 1
  have d2 := cell_of_block F.out.d 2
  have f0 := F.out.caps.c
  cases p3 with
  | true =>
    have z3 : Hid (q3 = true) := by show _ = _; rw [G3.out]; simp
    go_wp2
    go_ret
    exact ⟨by rw [HV.out, z3.out]; simp, F.out.bel⟩
  | false =>
  have Z3 : Hid (q3 = false) := by show _ = _; rw [G3.out]; simp [t3]
  by_cases t4 : 1024 < n4
  · have e4 : decide ((1024 : Int) < (n4 : Int)) = true := by simp; omega
    have z4 : Hid (q4 = true) := by show _ = _; rw [G4.out]; simp [t4]
    go_wp2
    rw [rounds_succ]
    go_wp2
    go_ret
    exact ⟨by rw [HV.out, z4.out]; simp, F.out.bel⟩
  have e4 : decide ((1024 : Int) < (n4 : Int)) = false := by simp; omega
  go_wp2
  rw [rounds_succ]
  go_wp2_with fail
  clear d0 d1 d2 f0
  refine (nhas_u32 m B c.bads a4 n4 c4 hs4 V3 (HS.out.s4.below F.out.bel) F.out.caps.b).mono ?_
  obtain ⟨p4, hp4⟩ : ∃ p, p = c.bads.any (above m) := ⟨_, rfl⟩
  rw [← hp4]
  rw [← hp4] at G4
  clear hp4
  rintro e V4 ⟨rfl, hb⟩
  replace F := Lib.hid (F.out.below hb)
  clear hb
  have d0 := cell_of_block F.out.d 0
  have d1 := cell_of_block F.out.d 1
  have d2 := cell_of_block F.out.d 2
  have f0 := F.out.caps.c
  cases p4 with
  | true =>
    have z4 : Hid (q4 = true) := by show _ = _; rw [G4.out]; simp
    go_wp2
    go_ret
    exact ⟨by rw [HV.out, z4.out]; simp, F.out.bel⟩
  | false =>
  have Z4 : Hid (q4 = false) := by show _ = _; rw [G4.out]; simp [t4]
  by_cases t5 : 1024 < n5
  · have e5 : decide ((1024 : Int) < (n5 : Int)) = true := by simp; omega
    have z5 : Hid (q5 = true) := by show _ = _; rw [G5.out]; simp [t5]
    go_wp2
    rw [rounds_succ]
    go_wp2
    go_ret
    exact ⟨by rw [HV.out, z5.out]; simp, F.out.bel⟩
  have e5 : decide ((1024 : Int) < (n5 : Int)) = false := by simp; omega
  go_wp2
  rw [rounds_succ]
  go_wp2_with fail
  clear d0 d1 d2 f0
  refine (nhas_u32 m B c.cons a5 n5 c5 hs5 V4 (HS.out.s5.below F.out.bel) F.out.caps.b).mono ?_
  obtain ⟨p5, hp5⟩ : ∃ p, p = c.cons.any (above m) := ⟨_, rfl⟩
  rw [← hp5]
  rw [← hp5] at G5
  clear hp5
  rintro e V5 ⟨rfl, hb⟩
  replace F := Lib.hid (F.out.below hb)
  clear hb
  have d0 := cell_of_block F.out.d 0
  have d1 := cell_of_block F.out.d 1
  have d2 := cell_of_block F.out.d 2
  have f0 := F.out.caps.c
  cases p5 with
  | true =>
    have z5 : Hid (q5 = true) := by show _ = _; rw [G5.out]; simp
    go_wp2
    go_ret
    exact ⟨by rw [HV.out, z5.out]; simp, F.out.bel⟩
  | false =>
  have Z5 : Hid (q5 = false) := by show _ = _; rw [G5.out]; simp [t5]
  have x0 := cell_of_block F.out.x 0
  have x1 := cell_of_block F.out.x 1
  go_wp2
  rw [rounds_succ]
  go_wp2_with fail
  clear d0 d1 d2 f0 x0 x1
  refine (nhas_lat m B (B + 1) c.lats a1 n1 c1 hs1 _ (HS.out.s1.below F.out.bel) F.out.caps).mono ?_
  rw [← Q1.out]
  rintro e V6 ⟨rfl, hb⟩
  replace F := Lib.hid (F.out.below hb)
  clear hb
  cases q1 with
  | true =>
    go_wp2
    go_ret
    exact ⟨by rw [HV.out]; simp, F.out.bel⟩
  | false =>
  have x0 := cell_of_block F.out.x 0
  have x1 := cell_of_block F.out.x 1
  have x2 := cell_of_block F.out.x 2
  have x3 := cell_of_block F.out.x 3
  have x4 := cell_of_block F.out.x 4
  have x5 := cell_of_block F.out.x 5
  go_wp2_with fail
  refine (HG2.out V6 F.out.bel).mono ?_
  rintro e V7 ⟨rfl, hb⟩
  have HB := Lib.hid (ext_trans F.out.bel hb)
  clear x0 x1 x2 x3 x4 x5 hb F
  go_wp2
  go_ret
  exact ⟨by rw [HV.out, Z3.out, Z4.out, Z5.out]; simp, HB.out⟩
end Go.Proofs.Ytgpkghlhlabjcaa
/- norm.areValues, norm.Fits's closure, slices.ContainsFunc on values and on frames, by their contracts. -/
namespace Go.Proofs.Ytgpkghlhlabjcaa
open Go Go.RowKit Go.Joins

def big2 (u : UInt8) : Bool := decide (2 < u.toNat)
theorem wrongv_any (u : UInt8) (w : World) :
    Calls Try.prog 69 #[bv u] w fun e w' => e = .returned (.bool (big2 u)) ∧ w = w' := by
  obtain ⟨x, hx⟩ : ∃ x, x = u.toNat := ⟨_, rfl⟩
  have e : decide ((2 : Int) < (x : Int)) = big2 u := by unfold big2; rw [hx]; exact decide_eq_decide.2 (by omega)
  have E := Lib.hid e
  unfold bv
  rw [← hx]
  clear e hx
  go_enter Try.func69, Try.ntmps69
  go_wp2
  go_ret
  exact ⟨congrArg (fun b => Ending.returned (.bool b)) E.out, rfl⟩
set_option maxRecDepth 100000 in
theorem idx_vals (l : List UInt8) (a : Option Addr) (n c : Nat) (hn : n ≤ 1048576) (w : World) (h : Sees w a n c (l.map bv)) :
    Calls Try.prog 75 #[.slice a n c, .func (.func 69) #[] #[]] w (IdxPost big2 l w) := by
  have hl := h.lenMap
  have HS := Lib.hid h
  have HL := Lib.hid hl
  have HA := Lib.hid (fun h0 : 0 < n => h.addr h0)
  have HC : Hid (∀ k, k < n → ∀ W, Below w.heap.size w W → Calls Try.prog 69 #[bv (l.getD k 0)] W fun e w' => e = .returned (.bool (big2 (l.getD k 0))) ∧ Below W.heap.size W w') := fun k hk W hb => (wrongv_any (l.getD k 0) W).mono fun e w' ⟨h1, h2⟩ => ⟨h1, by subst h2; exact Below.refl _ _⟩
  clear h hl
  go_enter Try.func75, Try.ntmps75
  go_wp2
  go_loopw [5, 8] (fun v i wr => ∃ k : Nat, k ≤ n ∧ i = .int .i64 k ∧ Hid (∀ j, j < k → big2 (l.getD j 0) = false) ∧ Hid (Below w.heap.size w wr)) (fun _ i _ => n - (intOf i).toNat)
  case atStart => exact ⟨0, Nat.zero_le _, rfl, fun j hj => absurd hj (by omega), Below.refl _ _⟩
  case round =>
    obtain ⟨k, hk, rfl, hno, hB⟩ := hrel
    by_cases hlt : k < n
    · obtain ⟨b, off, rfl, hbw⟩ := HA.out (by omega)
      have hcx := (HS.out.below hB.out).byte k hlt
      obtain ⟨u, hu⟩ : ∃ u, u = l.getD k 0 := ⟨_, rfl⟩
      have W1 : IntKind.i64.wrap ((k : Int) + 1) = (k : Int) + 1 := IntWalk.i64_in _ (by omega)
      obtain ⟨q, hq⟩ : ∃ q, q = big2 (l.getD k 0) := ⟨_, rfl⟩
      have HQ := Lib.hid hq
      have HB := Lib.hid hB.out
      have HNO := Lib.hid hno.out
      have HC1 := HC.out k hlt wr hB.out
      rw [← hq] at HC1
      have HC2 := Lib.hid HC1
      clear hq hB hno HC1
      go_wp2_with fail
      refine HC2.out.mono ?_
      rintro e w' ⟨rfl, hb⟩
      have HB2 := Lib.hid (ext_trans HB.out hb)
      clear hb hbw HC2
      cases q with
      | true =>
        go_wp2
        go_ret
        refine ⟨k, rfl, by omega, ⟨fun _ => ?_, fun _ => by omega⟩, HB2.out⟩
        exact List.any_eq_true.2 ⟨l.getD k 0, getD_mem (by rw [HL.out]; exact hlt), HQ.out.symm⟩
      | false =>
        have HN : Hid (∀ j, j < k + 1 → big2 (l.getD j 0) = false) := fun j hj => by
          rcases Nat.lt_or_ge j k with h | h
          · exact HNO.out j h
          · have : j = k := by omega
            subst this
            exact HQ.out.symm
        go_wp2
        go_roundw
        case rel => exact ⟨k + 1, by omega, by go_num, HN.out, HB2.out⟩
        case measure => simp [intOf]; omega
    · have hkn : k = n := by omega
      subst hkn
      have HB := Lib.hid hB.out
      have HNO := Lib.hid hno.out
      clear hB hno
      go_wp2
      go_ret
      refine ⟨-1, rfl, by omega, ⟨fun h => absurd h (by decide), fun h => ?_⟩, HB.out⟩
      rw [any_none (all_of_getD (d := 0) (fun j hj => HNO.out j (by rw [← HL.out]; exact hj)))] at h
      cases h
theorem has_vals (l : List UInt8) (a : Option Addr) (n c : Nat) (hn : n ≤ 1048576) (w : World) (h : Sees w a n c (l.map bv)) :
    Calls Try.prog 70 #[.slice a n c, .func (.func 69) #[] #[]] w (fun e w' => e = .returned (.bool (l.any big2)) ∧ Below w.heap.size w w') := by
  have HI := Lib.hid (idx_vals l a n c hn w h)
  clear h
  obtain ⟨f, hf⟩ : ∃ f, f = (.func (.func 69) #[] #[] : Value) := ⟨_, rfl⟩
  rw [← hf] at HI ⊢
  have HF := Lib.hid hf
  clear hf
  go_enter Try.func70, Try.ntmps70
  go_wp2_with fail
  refine HI.out.mono ?_
  rintro e w' ⟨z, rfl, hz, hiff, hb⟩
  have e : decide (0 ≤ z) = l.any big2 := by
    cases hq : l.any big2 with
    | true => simpa using hiff.2 hq
    | false => simp; have := fun h => hiff.1 h; rw [hq] at this; exact Int.not_le.1 (fun h => by cases this h)
  have E := Lib.hid e
  clear e hiff
  go_wp2
  go_ret
  exact ⟨congrArg (fun b => Ending.returned (.bool b)) E.out, hb⟩
theorem valsOk_any (l : List UInt8) (many : Int) : valsOk l many = (decide ((l.length : Int) = many) && !l.any big2) := rfl
set_option maxRecDepth 100000 in
theorem arevals_any (many : Int) (l : List UInt8) (a : Option Addr) (n c : Nat) (hn : n ≤ 1048576) (w : World) (h : Sees w a n c (l.map bv)) :
    Calls Try.prog 51 #[.slice a n c, .int .i64 many] w fun e w' => e = .returned (.bool (valsOk l many)) ∧ Below w.heap.size w w' := by
  have hl := h.lenMap
  obtain ⟨q, hq⟩ : ∃ q, q = l.any big2 := ⟨_, rfl⟩
  have HV : Hid (valsOk l many = (decide ((n : Int) = many) && !q)) := by show _ = _; rw [valsOk_any, hl, hq]
  have HI := has_vals l a n c hn w h
  rw [← hq] at HI
  have HH := Lib.hid HI
  clear hq HI h hl
  go_enter Try.func51, Try.ntmps51
  by_cases hm : (n : Int) = many
  · have e1 : ((n : Int) == many) = true := by simpa using hm
    have HM := Lib.hid hm
    clear hm
    go_wp2_with fail
    refine HH.out.mono ?_
    rintro e w' ⟨rfl, hb⟩
    have HB := Lib.hid hb
    clear hb
    cases q with
    | true =>
      go_wp2
      go_ret
      exact ⟨by rw [HV.out]; simp, HB.out⟩
    | false =>
      go_wp2
      go_ret
      exact ⟨by rw [HV.out, decide_eq_true HM.out]; simp, HB.out⟩
  · have e1 : ((n : Int) == many) = false := by simpa using hm
    have e2 : ((n : Int) = many) = False := by simpa using hm
    have HM := Lib.hid hm
    clear hm
    go_wp2
    go_ret
    exact ⟨by rw [HV.out, decide_eq_false HM.out]; simp, Below.refl _ _⟩
end Go.Proofs.Ytgpkghlhlabjcaa
/- norm.Fits, by its contract. -/
namespace Go.Proofs.Ytgpkghlhlabjcaa
open Go Go.RowKit Go.Joins

def wrongF (z : Int) (f : List UInt8) : Bool := !valsOk f z
set_option maxRecDepth 100000 in
theorem wrongf_any (z : Int) (C : Nat) (f : List UInt8) (a : Option Addr) (n c : Nat) (hn : n ≤ 1048576) (w : World) (h : Sees w a n c (f.map bv)) (hc : w.cell? ⟨C, 0, .none⟩ = some (.int .i64 z)) :
    Calls Try.prog 52 #[.slice a n c, .pointer (some ⟨C, 0, .none⟩)] w fun e w' => e = .returned (.bool (wrongF z f)) ∧ Below w.heap.size w w' := by
  obtain ⟨q, hq⟩ : ∃ q, q = valsOk f z := ⟨_, rfl⟩
  have H1 := arevals_any z f a n c hn w h
  unfold wrongF
  rw [← hq] at H1 ⊢
  have HA := Lib.hid H1
  clear H1 hq h
  go_enter Try.func52, Try.ntmps52
  go_wp2_with fail
  refine HA.out.mono ?_
  rintro e w' ⟨rfl, hb⟩
  have HB := Lib.hid hb
  clear hb
  go_wp2
  go_ret
  exact ⟨rfl, HB.out⟩

set_option maxRecDepth 100000 in
theorem idx_frames (z : Int) (C : Nat) (l : List (List UInt8)) (ss : List Slc) (a : Option Addr) (n c : Nat) (hn : n ≤ 1048576) (hss : ∀ x ∈ ss, x.2.1 ≤ 1048576) (w : World) (h : SeesF w a n c ss l) (hc : w.cell? ⟨C, 0, .none⟩ = some (.int .i64 z)) :
    Calls Try.prog 71 #[.slice a n c, .func (.func 52) #[] #[.pointer (some ⟨C, 0, .none⟩)]] w (IdxPost (wrongF z) l w) := by
  have hl := h.n_eq
  have HS := Lib.hid h
  have HL := Lib.hid hl
  have HSS := Lib.hid hss
  have HCC := Lib.hid hc
  clear h hl hss hc
  go_enter Try.func71, Try.ntmps71
  go_wp2
  go_loopw [5, 8] (fun v i wr => ∃ k : Nat, k ≤ n ∧ i = .int .i64 k ∧ Hid (∀ j, j < k → wrongF z (l.getD j []) = false) ∧ Hid (Below w.heap.size w wr)) (fun _ i _ => n - (intOf i).toNat)
  case atStart => exact ⟨0, Nat.zero_le _, rfl, fun j hj => absurd hj (by omega), Below.refl _ _⟩
  case round =>
    obtain ⟨k, hk, rfl, hno, hB⟩ := hrel
    by_cases hlt : k < n
    · obtain ⟨b, off, rfl, hbw⟩ := HS.out.row.addr (by omega)
      have hcx := (HS.out.below hB.out).cellAt k hlt
      have hsx := (HS.out.below hB.out).each k (by rw [HL.out]; exact hlt)
      have hsm := HSS.out (ss.getD k slc0) (getD_mem (by rw [HS.out.len, HL.out]; exact hlt))
      obtain ⟨x, hx⟩ : ∃ x : Slc, x = ss.getD k slc0 := ⟨_, rfl⟩
      rw [← hx] at hcx hsx hsm
      clear hx
      obtain ⟨xa, xn, xc⟩ := x
      simp only at hcx hsx hsm
      have W1 : IntKind.i64.wrap ((k : Int) + 1) = (k : Int) + 1 := IntWalk.i64_in _ (by omega)
      obtain ⟨q, hq⟩ : ∃ q, q = wrongF z (l.getD k []) := ⟨_, rfl⟩
      have HC1 := wrongf_any z C (l.getD k []) xa xn xc hsm wr hsx (cell_below HCC.out hB.out)
      rw [← hq] at HC1
      have HC2 := Lib.hid HC1
      have HQ := Lib.hid hq
      have HB := Lib.hid hB.out
      have HNO := Lib.hid hno.out
      clear hq hB hno HC1 hsx
      go_wp2_with fail
      refine HC2.out.mono ?_
      rintro e w' ⟨rfl, hb⟩
      have HB2 := Lib.hid (ext_trans HB.out hb)
      clear hb hbw HC2 hcx
      cases q with
      | true =>
        go_wp2
        go_ret
        refine ⟨k, rfl, by omega, ⟨fun _ => ?_, fun _ => by omega⟩, HB2.out⟩
        exact List.any_eq_true.2 ⟨l.getD k [], getD_mem (by rw [HL.out]; exact hlt), HQ.out.symm⟩
      | false =>
        have HN : Hid (∀ j, j < k + 1 → wrongF z (l.getD j []) = false) := fun j hj => by
          rcases Nat.lt_or_ge j k with h | h
          · exact HNO.out j h
          · have : j = k := by omega
            subst this
            exact HQ.out.symm
        go_wp2
        go_roundw
        case rel => exact ⟨k + 1, by omega, by go_num, HN.out, HB2.out⟩
        case measure => simp [intOf]; omega
    · have hkn : k = n := by omega
      subst hkn
      have HB := Lib.hid hB.out
      have HNO := Lib.hid hno.out
      clear hB hno
      go_wp2
      go_ret
      refine ⟨-1, rfl, by omega, ⟨fun h => absurd h (by decide), fun h => ?_⟩, HB.out⟩
      rw [any_none (all_of_getD (d := []) (fun j hj => HNO.out j (by rw [← HL.out]; exact hj)))] at h
      cases h

theorem has_frames (z : Int) (C : Nat) (l : List (List UInt8)) (ss : List Slc) (a : Option Addr) (n c : Nat) (hn : n ≤ 1048576) (hss : ∀ x ∈ ss, x.2.1 ≤ 1048576) (w : World) (h : SeesF w a n c ss l) (hc : w.cell? ⟨C, 0, .none⟩ = some (.int .i64 z)) :
    Calls Try.prog 53 #[.slice a n c, .func (.func 52) #[] #[.pointer (some ⟨C, 0, .none⟩)]] w (fun e w' => e = .returned (.bool (l.any (wrongF z))) ∧ Below w.heap.size w w') := by
  have HI := Lib.hid (idx_frames z C l ss a n c hn hss w h hc)
  clear h hc hss
  obtain ⟨f, hf⟩ : ∃ f, f = (.func (.func 52) #[] #[.pointer (some ⟨C, 0, .none⟩)] : Value) := ⟨_, rfl⟩
  rw [← hf] at HI ⊢
  have HF := Lib.hid hf
  clear hf
  go_enter Try.func53, Try.ntmps53
  go_wp2_with fail
  refine HI.out.mono ?_
  rintro e w' ⟨z1, rfl, hz, hiff, hb⟩
  have e : decide (0 ≤ z1) = l.any (wrongF z) := by
    cases hq : l.any (wrongF z) with
    | true => simpa using hiff.2 hq
    | false => simp; have := fun h => hiff.1 h; rw [hq] at this; exact Int.not_le.1 (fun h => by cases this h)
  have E := Lib.hid e
  clear e hiff
  go_wp2
  go_ret
  exact ⟨congrArg (fun b => Ending.returned (.bool b)) E.out, hb⟩

/-- What is known ahead of Fits's walk. -/
structure FitI (c : NormC) (t : TraceC) (z bad : Int) (n1 n4 m1 m2 : Nat) (q qm qv : Bool) : Prop where
  no1 : qm = false → q = false
  no2 : bad < 0 → q = false
  no3 : (n4 : Int) ≤ bad → q = false
  nov : qv = false → q = false
  len : qv = true → m1 = n1
  noi : ∀ k, k < n1 → (c.lats.getD k (0, 0)).2 ≠ 2 → (t.init.getD k 0).toNat ≠ (c.lats.getD k (0, 0)).2 → q = false
  yes : qm = true → ¬ bad < 0 → ¬ (n4 : Int) ≤ bad → qv = true → (∀ k, k < n1 → (c.lats.getD k (0, 0)).2 = 2 ∨ (t.init.getD k 0).toNat = (c.lats.getD k (0, 0)).2) → q = (decide (1 ≤ m2) && (decide (m2 ≤ 256) && !t.frames.any (wrongF z)))
theorem fitI_of (c : NormC) (t : TraceC) {n1 n4 m1 m2 : Nat} (l1 : c.lats.length = n1) (l4 : c.bads.length = n4) (lm : t.init.length = m1) (lf : t.frames.length = m2) : FitI c t c.ins t.bad n1 n4 m1 m2 (fitsS c t) (mayC c) (valsOk t.init (n1 : Int)) := by
  refine ⟨fun h => ?_, fun h => ?_, fun h => ?_, fun h => ?_, fun h => ?_, fun k hk h1 h2 => ?_, fun h1 h2 h3 h4 h5 => ?_⟩
  · unfold fitsS; rw [h]; rfl
  · unfold fitsS; rw [decide_eq_true h]; simp
  · unfold fitsS; rw [l4, decide_eq_true h]; simp
  · unfold fitsS; rw [l1, h]; simp
  · unfold valsOk at h
    rw [Bool.and_eq_true, decide_eq_true_eq] at h
    omega
  · have : initOk c t = false := by
      unfold initOk
      rw [List.all_eq_false]
      exact ⟨k, List.mem_range.2 (by rw [l1]; exact hk), by simp only [h1, h2, decide_false, Bool.or_self]; simp⟩
    unfold fitsS; rw [this]; simp
  · have hi : initOk c t = true := by
      unfold initOk
      rw [List.all_eq_true]
      intro k hk
      have := h5 k (by rw [← l1]; exact List.mem_range.1 hk)
      rcases this with h | h <;> simp only [h, decide_true, Bool.true_or, Bool.or_true]
    have hf : t.frames.all (fun f => valsOk f c.ins) = !t.frames.any (wrongF c.ins) := by
      unfold wrongF
      rw [List.all_eq_not_any_not]
    unfold fitsS
    rw [h1, decide_eq_false h2, l4, decide_eq_false h3, l1, h4, hi, lf, hf]
    simp
set_option maxRecDepth 100000 in
set_option maxHeartbeats 3200000 in
theorem fits_any (c : NormC) (t : TraceC) (s : CSlots) (st : TSlots) (w : World) (h : SeesCir w s c) (ht : SeesTr w st t) (hs : s.small) (hst : st.small) (hlo : -9223372036854775808 ≤ c.ins) (hhi : c.ins < 9223372036854775808) (hb1 : -9223372036854775808 ≤ t.bad ∧ t.bad < 9223372036854775808) :
    Calls Try.prog 38 #[cirV c.ins s, traceV t.bad st] w fun e w' => e = .returned (.bool (fitsS c t)) ∧ Below w.heap.size w w' := by
  have HMAY := Lib.hid (fun W (hb : Below w.heap.size w W) => may3_any c s W (h.below hb) hs hlo hhi)
  obtain ⟨a1, n1, c1, a2, n2, c2, a3, n3, c3, a4, n4, c4, a5, n5, c5⟩ := s
  obtain ⟨b1, m1, d1, b2, m2, d2, ss⟩ := st
  have FI := fitI_of c t h.s1.1 h.s4.lenMap ht.s1.lenMap ht.s2.n_eq
  simp only at FI
  have hs1 : n1 ≤ 1048576 := hs.n1
  have hs4 : n4 ≤ 1048576 := hs.n4
  have hm1 : m1 ≤ 1048576 := hst.n1
  have hm2 : m2 ≤ 1048576 := hst.n2
  obtain ⟨z, hz⟩ : ∃ z, z = c.ins := ⟨_, rfl⟩
  obtain ⟨bad, hbad⟩ : ∃ z, z = t.bad := ⟨_, rfl⟩
  obtain ⟨q, hq⟩ : ∃ q, q = fitsS c t := ⟨_, rfl⟩
  obtain ⟨qm, hqm⟩ : ∃ q, q = mayC c := ⟨_, rfl⟩
  obtain ⟨qv, hqv⟩ : ∃ q, q = valsOk t.init (n1 : Int) := ⟨_, rfl⟩
  rw [← hz, ← hbad, ← hq, ← hqm, ← hqv] at FI
  rw [← hz, ← hqm] at HMAY
  have HVAL : Hid (∀ W, Below w.heap.size w W → Calls Try.prog 51 #[.slice b1 m1 d1, .int .i64 (n1 : Int)] W fun e w' => e = .returned (.bool qv) ∧ Below W.heap.size W w') := fun W hb => by
    have h1 := arevals_any (n1 : Int) t.init b1 m1 d1 hm1 W (ht.s1.below hb)
    rw [← hqv] at h1
    exact h1
  have HFR : Hid (∀ (C : Nat) W, Below w.heap.size w W → W.cell? ⟨C, 0, .none⟩ = some (.int .i64 z) → Calls Try.prog 53 #[.slice b2 m2 d2, .func (.func 52) #[] #[.pointer (some ⟨C, 0, .none⟩)]] W (fun e w' => e = .returned (.bool (t.frames.any (wrongF z))) ∧ Below W.heap.size W w')) := fun C W hb hc => has_frames z C t.frames ss b2 m2 d2 hm2 hst.each W (ht.s2.below hb) hc
  have HS := Lib.hid h
  have HT := Lib.hid ht
  have HFI := Lib.hid FI
  have hb2 := hb1.2
  have hb3 := hb1.1
  rw [← hbad] at hb2 hb3
  rw [← hz, ← hbad, ← hq]
  clear hz hbad hq hqm hqv FI h ht hs hst hlo hhi hb1
  unfold cirV traceV at *
  go_enter Try.func38, Try.ntmps38
  go_upto_region 1 with fail
  generalize hW : World.alloc (World.alloc w _) _ = W1
  have hb : Below w.heap.size w W1 := by subst hW; exact ext_trans (ext_alloc _ _) (ext_alloc _ _)
  have hx : W1.heap[w.heap.size]? = some (.cells #[.int .i64 z, .slice a1 n1 c1, .slice a2 n2 c2, .slice a3 n3 c3, .slice a4 n4 c4, .slice a5 n5 c5] 26 (0, 0)) := by subst hW; exact heap_below (heap_new _ _ _ rfl) (ext_alloc _ _)
  have hy : W1.heap[w.heap.size + 1]? = some (.cells #[.int .i64 bad, .slice b1 m1 d1, .slice b2 m2 d2] 30 (0, 0)) := by subst hW; exact heap_new _ _ _ (by simp)
  have HB := Lib.hid hb
  have HX := Lib.hid hx
  have HY := Lib.hid hy
  clear hW hb hx hy
  have p0 := cell_of_block HX.out 0
  have p1 := cell_of_block HX.out 1
  have p2 := cell_of_block HX.out 2
  have p3 := cell_of_block HX.out 3
  have p4 := cell_of_block HX.out 4
  have p5 := cell_of_block HX.out 5
  go_wp2_with fail
  refine (HMAY.out W1 HB.out).mono ?_
  rintro e W2 ⟨rfl, hb⟩
  have HX2 := Lib.hid (heap_below HX.out hb)
  have HY2 := Lib.hid (heap_below HY.out hb)
  have HB2 := Lib.hid (ext_trans HB.out hb)
  clear hb p0 p1 p2 p3 p4 p5 HMAY HX HY HB
  cases qm with
  | false =>
    have HF : Hid (q = false) := HFI.out.no1 rfl
    go_wp2
    go_ret
    exact ⟨by rw [HF.out]; rfl, HB2.out⟩
  | true =>
  have p4 := cell_of_block HX2.out 4
  have p1 := cell_of_block HX2.out 1
  have r0 := cell_of_block HY2.out 0
  have r1 := cell_of_block HY2.out 1
  by_cases t1 : bad < 0
  · have e1 : decide (bad < 0) = true := by simpa using t1
    have HF : Hid (q = false) := HFI.out.no2 t1
    go_wp2
    go_ret
    exact ⟨by rw [HF.out]; rfl, HB2.out⟩
  have e1 : decide (bad < 0) = false := by simpa using t1
  by_cases t2 : (n4 : Int) ≤ bad
  · have e2 : decide ((n4 : Int) ≤ bad) = true := by simpa using t2
    have HF : Hid (q = false) := HFI.out.no3 t2
    go_wp2
    go_ret
    exact ⟨by rw [HF.out]; rfl, HB2.out⟩
  have e2 : decide ((n4 : Int) ≤ bad) = false := by simpa using t2
  have T1 := Lib.hid t1
  have T2 := Lib.hid t2
  clear t1 t2
  go_wp2_with fail
  refine (HVAL.out W2 HB2.out).mono ?_
  rintro e W3 ⟨rfl, hb⟩
  have HX3 := Lib.hid (heap_below HX2.out hb)
  have HY3 := Lib.hid (heap_below HY2.out hb)
  have HB3 := Lib.hid (ext_trans HB2.out hb)
  clear hb p1 p4 r0 r1 HVAL HX2 HY2 HB2 e1 e2
  cases qv with
  | false =>
    have HF : Hid (q = false) := HFI.out.nov rfl
    go_wp2
    go_ret
    exact ⟨by rw [HF.out]; rfl, HB3.out⟩
  | true =>
  obtain rfl : m1 = n1 := HFI.out.len rfl
  have p1 := cell_of_block HX3.out 1
  go_wp2
  clear p1
  go_loopw [36, 5, 6] (fun i v5 v6 wr => ∃ k : Nat, k ≤ m1 ∧ i = .int .i64 k ∧ Hid (∀ j, j < k → (c.lats.getD j (0, 0)).2 = 2 ∨ (t.init.getD j 0).toNat = (c.lats.getD j (0, 0)).2) ∧ Hid (Below W3.heap.size W3 wr)) (fun i _ _ _ => m1 - (intOf i).toNat)
  case atStart => exact ⟨0, Nat.zero_le _, rfl, fun j hj => absurd hj (by omega), Below.refl _ _⟩
  case round =>
    obtain ⟨k, hk, rfl, hno, hB⟩ := hrel
    by_cases hlt : k < m1
    · obtain ⟨b, off, rfl, hbw⟩ := HS.out.s1.addr (show 0 < m1 by omega)
      obtain ⟨b', off', rfl, hbw'⟩ := HT.out.s1.addr (show 0 < m1 by omega)
      obtain ⟨qx, qy⟩ := ((HS.out.below HB3.out).s1.below hB.out).cells k hlt (0, 0)
      have hby := ((HT.out.below HB3.out).s1.below hB.out).byte k hlt
      have hnoi := HFI.out.noi k hlt
      obtain ⟨v, hv⟩ : ∃ v, v = (t.init.getD k 0).toNat := ⟨_, rfl⟩
      have hby2 : wr.cell? ⟨b', off' + k, none⟩ = some (.int .u8 (v : Int)) := by rw [hv]; exact hby
      obtain ⟨p, hp⟩ : ∃ t, t = c.lats.getD k (0, 0) := ⟨_, rfl⟩
      rw [← hp] at qx qy hnoi
      rw [← hv] at hnoi
      have STEP : Hid ((p.2 = 2 ∨ v = p.2) → ∀ j, j < k + 1 → (c.lats.getD j (0, 0)).2 = 2 ∨ (t.init.getD j 0).toNat = (c.lats.getD j (0, 0)).2) := fun hh j hj => by
        rcases Nat.lt_or_ge j k with h | h
        · exact hno.out j h
        · have : j = k := by omega
          subst this
          rw [← hp, ← hv]; exact hh
      clear hv hp hby hno
      obtain ⟨x, y⟩ := p
      simp only [nv32, nv8] at qx qy
      simp only at hnoi STEP
      have HNOI := Lib.hid hnoi
      have W1' : IntKind.i64.wrap ((k : Int) + 1) = (k : Int) + 1 := IntWalk.i64_in _ (by omega)
      clear hnoi
      go_upto_region 6 with fail
      generalize hW : World.alloc wr _ = Wg
      have Bg : Below wr.heap.size wr Wg := by subst hW; exact ext_alloc _ _
      have hG : Wg.heap[wr.heap.size]? = some (.cells #[.int .u32 x, .int .u8 y] 51 (0, 0)) := by subst hW; exact heap_new _ _ _ rfl
      have HBB := Lib.hid (ext_trans hB.out Bg)
      have hby3 := cell_below hby2 Bg
      have g1 : Wg.cell? ⟨wr.heap.size, 1, none⟩ = some (.int .u8 y) := cell_of_block hG 1
      have r1 := cell_of_block (heap_below HY3.out HBB.out) 1
      clear hW hG Bg qx qy hby2 hB hbw hbw'
      by_cases hy2 : y = 2
      · have f1 : ((y : Int) != 2) = false := by simp; omega
        have f2 : ((y : Int) == 2) = true := by simp; omega
        have HN := Lib.hid (STEP.out (Or.inl hy2))
        clear STEP hy2
        go_quiet (fail)
        go_wp2
        go_roundw
        case rel =>
          rename_i nq
          exact ⟨k + 1, by omega, by go_num, HN.out, ext_trans HBB.out (ext_drewN _ nq)⟩
        case measure => simp [intOf]; omega
      · have f1 : ((y : Int) != 2) = true := by simp; omega
        have f2 : ((y : Int) == 2) = false := by simp; omega
        by_cases hvy : v = y
        · have f3 : ((v : Int) != (y : Int)) = false := by simp; omega
          have f4 : ((v : Int) == (y : Int)) = true := by simp; omega
          have HN := Lib.hid (STEP.out (Or.inr hvy))
          clear STEP hy2 hvy
          go_quiet (fail)
          go_wp2
          go_roundw
          case rel =>
            rename_i nq
            exact ⟨k + 1, by omega, by go_num, HN.out, ext_trans HBB.out (ext_drewN _ nq)⟩
          case measure => simp [intOf]; omega
        · have f3 : ((v : Int) != (y : Int)) = true := by simp; omega
          have f4 : ((v : Int) == (y : Int)) = false := by simp; omega
          have HF : Hid (q = false) := HNOI.out hy2 hvy
          clear STEP hy2 hvy
          go_quiet (fail)
          go_wp2
          go_ret
          rename_i nq
          exact ⟨by rw [HF.out]; rfl, ext_trans HB3.out (ext_trans HBB.out (ext_drewN _ nq))⟩
    · obtain rfl : m1 = k := by omega
      have hQ := HFI.out.yes rfl (by have := T1.out; omega) (by have := T2.out; omega) rfl hno.out
      have HXR := Lib.hid (heap_below HX3.out hB.out)
      have HYR := Lib.hid (heap_below HY3.out hB.out)
      have HBR := Lib.hid (ext_trans HB3.out hB.out)
      obtain ⟨qf, hqf⟩ : ∃ q, q = t.frames.any (wrongF z) := ⟨_, rfl⟩
      have HF1 := HFR.out w.heap.size wr HBR.out (cell_of_block HXR.out 0)
      rw [← hqf] at hQ HF1
      have HQ := Lib.hid hQ
      have HF2 := Lib.hid HF1
      clear hQ hqf HF1 hno hB hlt hk
      have r2 := cell_of_block HYR.out 2
      by_cases t1 : 1 ≤ m2
      case neg =>
        have e1 : decide ((1 : Int) ≤ (m2 : Int)) = false := by simp; omega
        have HF : Hid (q = false) := by show _ = _; rw [HQ.out, decide_eq_false t1]; rfl
        clear t1
        go_wp2
        go_ret
        exact ⟨by rw [HF.out]; rfl, HBR.out⟩
      have e1 : decide ((1 : Int) ≤ (m2 : Int)) = true := by simp; omega
      by_cases t2 : m2 ≤ 256
      case neg =>
        have e2 : decide ((m2 : Int) ≤ 256) = false := by simp; omega
        have HF : Hid (q = false) := by show _ = _; rw [HQ.out, decide_eq_false t2]; simp
        clear t1 t2
        go_wp2
        go_ret
        exact ⟨by rw [HF.out]; rfl, HBR.out⟩
      have e2 : decide ((m2 : Int) ≤ 256) = true := by simp; omega
      have HF : Hid (q = !qf) := by show _ = _; rw [HQ.out, decide_eq_true t1, decide_eq_true t2]; rfl
      clear t1 t2
      go_wp2_with fail
      refine HF2.out.mono ?_
      rintro e W4 ⟨rfl, hb⟩
      have HB4 := Lib.hid (ext_trans HBR.out hb)
      clear hb
      go_wp2
      go_ret
      exact ⟨by rw [HF.out]; rfl, HB4.out⟩
end Go.Proofs.Ytgpkghlhlabjcaa
/- inquestref03.Fits, by its contract. -/
namespace Go.Proofs.Ytgpkghlhlabjcaa
open Go Go.RowKit Go.Joins

structure FitJ (c : NormC) (t : TraceC) (z bad : Int) (n1 n4 m1 m2 : Nat) (q qm qv : Bool) : Prop where
  no1 : qm = false → q = false
  no2 : bad < 0 → q = false
  no3 : (n4 : Int) ≤ bad → q = false
  nov : qv = false → q = false
  len : qv = true → m1 = n1
  no4 : ¬ 1 ≤ m2 → q = false
  no5 : ¬ m2 ≤ 256 → q = false
  nof : ∀ k, k < m2 → valsOk (t.frames.getD k []) z = false → q = false
  noi : ∀ k, k < n1 → (c.lats.getD k (0, 0)).2 ≠ 2 → (t.init.getD k 0).toNat ≠ (c.lats.getD k (0, 0)).2 → q = false
  yes : qm = true → ¬ bad < 0 → ¬ (n4 : Int) ≤ bad → qv = true → 1 ≤ m2 → m2 ≤ 256 → (∀ k, k < m2 → valsOk (t.frames.getD k []) z = true) → (∀ k, k < n1 → (c.lats.getD k (0, 0)).2 = 2 ∨ (t.init.getD k 0).toNat = (c.lats.getD k (0, 0)).2) → q = true
theorem fitJ_of (c : NormC) (t : TraceC) {n1 n4 m1 m2 : Nat} (l1 : c.lats.length = n1) (l4 : c.bads.length = n4) (lm : t.init.length = m1) (lf : t.frames.length = m2) : FitJ c t c.ins t.bad n1 n4 m1 m2 (fitsS c t) (mayC c) (valsOk t.init (n1 : Int)) := by
  have I := fitI_of c t l1 l4 lm lf
  refine ⟨I.no1, I.no2, I.no3, I.nov, I.len, fun h => ?_, fun h => ?_, fun k hk h => ?_, I.noi, fun h1 h2 h3 h4 h5 h6 h7 h8 => ?_⟩
  · unfold fitsS; rw [lf, decide_eq_false h]; simp
  · unfold fitsS; rw [lf, decide_eq_false h]; simp
  · have hf : t.frames.all (fun f => valsOk f c.ins) = false := by
      rw [List.all_eq_false]
      exact ⟨t.frames.getD k [], getD_mem (by rw [lf]; exact hk), by rw [h]; simp⟩
    unfold fitsS; rw [hf]; simp
  · rw [I.yes h1 h2 h3 h4 h8, decide_eq_true h5, decide_eq_true h6, any_noD (d := []) lf (fun k hk => by unfold wrongF; rw [h7 k hk]; rfl)]
    rfl

set_option maxRecDepth 100000 in
set_option maxHeartbeats 3200000 in
theorem reffits_any (c : NormC) (t : TraceC) (s : CSlots) (st : TSlots) (w : World) (h : SeesCir w s c) (ht : SeesTr w st t) (hs : s.small) (hst : st.small) (hlo : -9223372036854775808 ≤ c.ins) (hhi : c.ins < 9223372036854775808) (hb1 : -9223372036854775808 ≤ t.bad ∧ t.bad < 9223372036854775808) (hwd : Wide c) :
    Calls Try.prog 23 #[cirV c.ins s, traceV t.bad st] w fun e w' => e = .returned (.bool (fitsS c t)) ∧ Below w.heap.size w w' := by
  have HMAY := Lib.hid (fun W (hb : Below w.heap.size w W) => refmay3_any c s W (h.below hb) hs hlo hhi hwd)
  obtain ⟨a1, n1, c1, a2, n2, c2, a3, n3, c3, a4, n4, c4, a5, n5, c5⟩ := s
  obtain ⟨b1, m1, d1, b2, m2, d2, ss⟩ := st
  have FI := fitJ_of c t h.s1.1 h.s4.lenMap ht.s1.lenMap ht.s2.n_eq
  simp only at FI
  have hs1 : n1 ≤ 1048576 := hs.n1
  have hs4 : n4 ≤ 1048576 := hs.n4
  have hm1 : m1 ≤ 1048576 := hst.n1
  have hm2 : m2 ≤ 1048576 := hst.n2
  have HSS := Lib.hid hst.each
  have HLF := Lib.hid ht.s2.n_eq
  obtain ⟨z, hz⟩ : ∃ z, z = c.ins := ⟨_, rfl⟩
  obtain ⟨bad, hbad⟩ : ∃ z, z = t.bad := ⟨_, rfl⟩
  obtain ⟨q, hq⟩ : ∃ q, q = fitsS c t := ⟨_, rfl⟩
  obtain ⟨qm, hqm⟩ : ∃ q, q = mayC c := ⟨_, rfl⟩
  obtain ⟨qv, hqv⟩ : ∃ q, q = valsOk t.init (n1 : Int) := ⟨_, rfl⟩
  rw [← hz, ← hbad, ← hq, ← hqm, ← hqv] at FI
  rw [← hz, ← hqm] at HMAY
  have HVAL : Hid (∀ W, Below w.heap.size w W → Calls Try.prog 35 #[.slice b1 m1 d1, .int .i64 (n1 : Int)] W fun e w' => e = .returned (.bool qv) ∧ W = w') := fun W hb => by
    have h1 := refvalues_any (n1 : Int) t.init b1 m1 d1 hm1 W (ht.s1.below hb)
    rw [← hqv] at h1
    exact h1
  have HS := Lib.hid h
  have HT := Lib.hid ht
  have HFI := Lib.hid FI
  have hb2 := hb1.2
  have hb3 := hb1.1
  rw [← hbad] at hb2 hb3
  rw [← hz] at hlo hhi
  rw [← hz, ← hbad, ← hq]
  clear hz hbad hq hqm hqv FI h ht hs hst hb1
  unfold cirV traceV at *
  go_enter Try.func23, Try.ntmps23
  go_upto_region 1 with fail
  generalize hW : World.alloc (World.alloc w _) _ = W1
  have hb : Below w.heap.size w W1 := by subst hW; exact ext_trans (ext_alloc _ _) (ext_alloc _ _)
  have hx : W1.heap[w.heap.size]? = some (.cells #[.int .i64 z, .slice a1 n1 c1, .slice a2 n2 c2, .slice a3 n3 c3, .slice a4 n4 c4, .slice a5 n5 c5] 26 (0, 0)) := by subst hW; exact heap_below (heap_new _ _ _ rfl) (ext_alloc _ _)
  have hy : W1.heap[w.heap.size + 1]? = some (.cells #[.int .i64 bad, .slice b1 m1 d1, .slice b2 m2 d2] 30 (0, 0)) := by subst hW; exact heap_new _ _ _ (by simp)
  have HB := Lib.hid hb
  have HX := Lib.hid hx
  have HY := Lib.hid hy
  clear hW hb hx hy
  have p0 := cell_of_block HX.out 0
  have p1 := cell_of_block HX.out 1
  have p2 := cell_of_block HX.out 2
  have p3 := cell_of_block HX.out 3
  have p4 := cell_of_block HX.out 4
  have p5 := cell_of_block HX.out 5
  go_wp2_with fail
  refine (HMAY.out W1 HB.out).mono ?_
  rintro e W2 ⟨rfl, hb⟩
  have HX2 := Lib.hid (heap_below HX.out hb)
  have HY2 := Lib.hid (heap_below HY.out hb)
  have HB2 := Lib.hid (ext_trans HB.out hb)
  clear hb p0 p1 p2 p3 p4 p5 HMAY HX HY HB
  cases qm with
  | false =>
    have HF : Hid (q = false) := HFI.out.no1 rfl
    go_wp2
    go_ret
    exact ⟨by rw [HF.out]; rfl, HB2.out⟩
  | true =>
  have p4 := cell_of_block HX2.out 4
  have p1 := cell_of_block HX2.out 1
  have r0 := cell_of_block HY2.out 0
  have r1 := cell_of_block HY2.out 1
  have r2 := cell_of_block HY2.out 2
  by_cases t1 : bad < 0
  · have e1 : decide (bad < 0) = true := by simpa using t1
    have HF : Hid (q = false) := HFI.out.no2 t1
    go_wp2
    go_ret
    exact ⟨by rw [HF.out]; rfl, HB2.out⟩
  have e1 : decide (bad < 0) = false := by simpa using t1
  by_cases t2 : (n4 : Int) ≤ bad
  · have e2 : decide ((n4 : Int) ≤ bad) = true := by simpa using t2
    have HF : Hid (q = false) := HFI.out.no3 t2
    go_wp2
    go_ret
    exact ⟨by rw [HF.out]; rfl, HB2.out⟩
  have e2 : decide ((n4 : Int) ≤ bad) = false := by simpa using t2
  have T1 := Lib.hid t1
  have T2 := Lib.hid t2
  clear t1 t2
  go_wp2_with fail
  refine (HVAL.out W2 HB2.out).mono ?_
  rintro e W3 ⟨rfl, rfl⟩
  clear HVAL
  cases qv with
  | false =>
    have HF : Hid (q = false) := HFI.out.nov rfl
    go_wp2
    go_ret
    exact ⟨by rw [HF.out]; rfl, HB2.out⟩
  | true =>
  obtain rfl : m1 = n1 := HFI.out.len rfl
  by_cases t1 : 1 ≤ m2
  case neg =>
    have g1 : decide ((m2 : Int) < 1) = true := by simp; omega
    have HF : Hid (q = false) := HFI.out.no4 t1
    clear t1
    go_wp2
    go_ret
    exact ⟨by rw [HF.out]; rfl, HB2.out⟩
  have g1 : decide ((m2 : Int) < 1) = false := by simp; omega
  by_cases t2 : m2 ≤ 256
  case neg =>
    have g2 : decide ((256 : Int) < (m2 : Int)) = true := by simp; omega
    have HF : Hid (q = false) := HFI.out.no5 t2
    clear t1 t2
    go_wp2
    go_ret
    exact ⟨by rw [HF.out]; rfl, HB2.out⟩
  have g2 : decide ((256 : Int) < (m2 : Int)) = false := by simp; omega
  have T3 := Lib.hid t1
  have T4 := Lib.hid t2
  clear t1 t2
  go_upto_region 3 with fail
  clear e1 e2 g1 g2 p4 p1 r0 r1 r2
  go_wp2
  go_loopw [5] (fun i wr => ∃ k : Nat, k ≤ m2 ∧ i = .int .i64 k ∧ Hid (∀ j, j < k → valsOk (t.frames.getD j []) z = true) ∧ Hid (Below W2.heap.size W2 wr)) (fun i _ => m2 - (intOf i).toNat)
  case atStart => exact ⟨0, Nat.zero_le _, rfl, fun j hj => absurd hj (by omega), Below.refl _ _⟩
  case round =>
    obtain ⟨k, hk, rfl, hno, hB⟩ := hrel
    have r2 := cell_of_block (heap_below HY2.out hB.out) 2
    by_cases hlt : k < m2
    · have p0 := cell_of_block (heap_below HX2.out hB.out) 0
      obtain ⟨b, off, rfl, hbw⟩ := HT.out.s2.row.addr (show 0 < m2 by omega)
      have hcx := ((HT.out.below HB2.out).below hB.out).s2.cellAt k hlt
      have hsx := ((HT.out.below HB2.out).below hB.out).s2.each k (by rw [HLF.out]; exact hlt)
      have hsm := HSS.out (ss.getD k slc0) (getD_mem (by rw [HT.out.s2.len, HLF.out]; exact hlt))
      have hnof := HFI.out.nof k hlt
      obtain ⟨x, hx⟩ : ∃ x : Slc, x = ss.getD k slc0 := ⟨_, rfl⟩
      rw [← hx] at hcx hsx hsm
      clear hx
      obtain ⟨xa, xn, xc⟩ := x
      simp only at hcx hsx hsm
      have W1' : IntKind.i64.wrap ((k : Int) + 1) = (k : Int) + 1 := IntWalk.i64_in _ (by omega)
      obtain ⟨p, hp⟩ : ∃ q, q = valsOk (t.frames.getD k []) z := ⟨_, rfl⟩
      have HCALL : Hid (∀ n, Calls Try.prog 35 #[.slice xa xn xc, .int .i64 z] (wr.drewN n) fun e w' => e = .returned (.bool p) ∧ w' = wr.drewN n) := fun n => by
        have h1 := refvalues_any z (t.frames.getD k []) xa xn xc hsm (wr.drewN n) (hsx.below (ext_drewN wr n))
        rw [← hp] at h1
        exact h1.mono fun e w' ⟨h2, h3⟩ => ⟨h2, h3.symm⟩
      rw [← hp] at hnof
      have HNOF := Lib.hid hnof
      have STEP : Hid (p = true → ∀ j, j < k + 1 → valsOk (t.frames.getD j []) z = true) := fun hh j hj => by
        rcases Nat.lt_or_ge j k with h | h
        · exact hno.out j h
        · have : j = k := by omega
          subst this
          rw [← hp]; exact hh
      have HBB := Lib.hid hB.out
      clear hsx hnof hp hno hB
      cases p with
      | false =>
        have HF : Hid (q = false) := HNOF.out rfl
        go_wp2
        go_quiet ((go_at_call 35; exact Calls.quiet_of_same (HCALL.out _)))
        go_wp2
        go_ret
        exact ⟨by rw [HF.out]; rfl, ext_trans HB2.out (ext_trans HBB.out (ext_drewN _ _))⟩
      | true =>
        have HN := Lib.hid (STEP.out rfl)
        go_wp2
        go_quiet ((go_at_call 35; exact Calls.quiet_of_same (HCALL.out _)))
        go_wp2
        go_roundw
        case rel => exact ⟨k + 1, by omega, by go_num, HN.out, ext_trans HBB.out (ext_drewN _ _)⟩
        case measure => simp [intOf]; omega
    · obtain rfl : m2 = k := by omega
      obtain ⟨W4, hW4⟩ : ∃ W4 : World, W4 = wr := ⟨_, rfl⟩
      subst hW4
      have HNF := Lib.hid hno.out
      have HX4 := Lib.hid (heap_below HX2.out hB.out)
      have HY4 := Lib.hid (heap_below HY2.out hB.out)
      have HB4 := Lib.hid (ext_trans HB2.out hB.out)
      clear hno hB hlt hk
      go_wp2
      clear r2
      go_loopw [6] (fun i wr => ∃ k : Nat, k ≤ m1 ∧ i = .int .i64 k ∧ Hid (∀ j, j < k → (c.lats.getD j (0, 0)).2 = 2 ∨ (t.init.getD j 0).toNat = (c.lats.getD j (0, 0)).2) ∧ Hid (Below W4.heap.size W4 wr)) (fun i _ => m1 - (intOf i).toNat)
      case atStart => exact ⟨0, Nat.zero_le _, rfl, fun j hj => absurd hj (by omega), Below.refl _ _⟩
      case round =>
        obtain ⟨k, hk, rfl, hno, hB⟩ := hrel
        have r1 := cell_of_block (heap_below HY4.out hB.out) 1
        by_cases hlt : k < m1
        · have p1 := cell_of_block (heap_below HX4.out hB.out) 1
          obtain ⟨b, off, rfl, hbw⟩ := HS.out.s1.addr (show 0 < m1 by omega)
          obtain ⟨b', off', rfl, hbw'⟩ := HT.out.s1.addr (show 0 < m1 by omega)
          obtain ⟨qx, qy⟩ := ((HS.out.below HB4.out).s1.below hB.out).cells k hlt (0, 0)
          have hby := ((HT.out.below HB4.out).s1.below hB.out).byte k hlt
          have hnoi := HFI.out.noi k hlt
          obtain ⟨v, hv⟩ : ∃ v, v = (t.init.getD k 0).toNat := ⟨_, rfl⟩
          have hby2 : wr.cell? ⟨b', off' + k, none⟩ = some (.int .u8 (v : Int)) := by rw [hv]; exact hby
          obtain ⟨p, hp⟩ : ∃ t, t = c.lats.getD k (0, 0) := ⟨_, rfl⟩
          rw [← hp] at qx qy hnoi
          rw [← hv] at hnoi
          have STEP : Hid ((p.2 = 2 ∨ v = p.2) → ∀ j, j < k + 1 → (c.lats.getD j (0, 0)).2 = 2 ∨ (t.init.getD j 0).toNat = (c.lats.getD j (0, 0)).2) := fun hh j hj => by
            rcases Nat.lt_or_ge j k with h | h
            · exact hno.out j h
            · have : j = k := by omega
              subst this
              rw [← hp, ← hv]; exact hh
          clear hv hp hby hno
          obtain ⟨x, y⟩ := p
          simp only [nv32, nv8] at qx qy
          simp only at hnoi STEP
          have HNOI := Lib.hid hnoi
          have HBB := Lib.hid hB.out
          have W1' : IntKind.i64.wrap ((k : Int) + 1) = (k : Int) + 1 := IntWalk.i64_in _ (by omega)
          clear hnoi hB
          by_cases hy2 : y = 2
          · have f1 : ((y : Int) != 2) = false := by simp; omega
            have f2 : ((y : Int) == 2) = true := by simp; omega
            have HN := Lib.hid (STEP.out (Or.inl hy2))
            clear STEP hy2
            go_wp2
            go_quiet (fail)
            go_wp2
            go_roundw
            case rel =>
              rename_i nq
              exact ⟨k + 1, by omega, by go_num, HN.out, ext_trans HBB.out (ext_drewN _ nq)⟩
            case measure => simp [intOf]; omega
          · have f1 : ((y : Int) != 2) = true := by simp; omega
            have f2 : ((y : Int) == 2) = false := by simp; omega
            by_cases hvy : v = y
            · have f3 : ((y : Int) != (v : Int)) = false := by simp; omega
              have f4 : ((y : Int) == (v : Int)) = true := by simp; omega
              have HN := Lib.hid (STEP.out (Or.inr hvy))
              clear STEP hy2 hvy
              go_wp2
              go_quiet (fail)
              go_wp2
              go_roundw
              case rel =>
                rename_i nq
                exact ⟨k + 1, by omega, by go_num, HN.out, ext_trans HBB.out (ext_drewN _ nq)⟩
              case measure => simp [intOf]; omega
            · have f3 : ((y : Int) != (v : Int)) = true := by simp; omega
              have f4 : ((y : Int) == (v : Int)) = false := by simp; omega
              have HF : Hid (q = false) := HNOI.out hy2 hvy
              clear STEP hy2 hvy
              go_wp2
              go_quiet (fail)
              go_wp2
              go_ret
              rename_i nq
              exact ⟨by rw [HF.out]; rfl, ext_trans HB4.out (ext_trans HBB.out (ext_drewN _ nq))⟩
        · obtain rfl : m1 = k := by omega
          have HQ : Hid (q = true) := HFI.out.yes rfl (by have := T1.out; omega) (by have := T2.out; omega) rfl (by have := T3.out; omega) (by have := T4.out; omega) HNF.out hno.out
          have HBB := Lib.hid hB.out
          clear hno hB hlt hk
          go_wp2
          go_ret
          exact ⟨by rw [HQ.out]; rfl, ext_trans HB4.out HBB.out⟩
end Go.Proofs.Ytgpkghlhlabjcaa
namespace Go.Proofs.Ytgpkghlhlabjcaa
open Go

/-- Q, but False at a panic, and where memory has run out. -/
def Calm (Q : Exit → Act → World → Prop) : Exit → Act → World → Prop
  | .panic _, _, _ => False
  | .outgrown, _, _ => False
  | e, a, w => Q e a w
theorem Calm.imp {Q : Exit → Act → World → Prop} : ∀ (e : Exit) (a : Act) (w : World), Calm Q e a w → Q e a w := fun e a w h => by
  cases e <;> first | exact h | exact (h : False).elim
theorem Calm.normal {Q : Exit → Act → World → Prop} {a : Act} {w : World} (h : Q .normal a w) : Calm Q .normal a w := h
/-- Does no operation defer? -/
def noDefer (ops : Array Oper) : Bool := ops.toList.all fun o => match o.op with | .defer _ => false | _ => true
theorem noDefer_at {ops : Array Oper} (h : noDefer ops = true) {i : Nat} {o : Oper} (ho : ops[i]? = some o) : ∀ c, o.op ≠ .defer c := by
  intro c e
  have hm : o ∈ ops.toList := by
    rw [Array.mem_toList_iff]
    obtain ⟨hlt, he⟩ := Array.getElem?_eq_some_iff.1 ho
    rw [← he]
    exact Array.getElem_mem hlt
  have h2 := List.all_eq_true.1 h o hm
  rw [e] at h2
  cases h2

section
variable {P : Program} {md : Region.Mode} {ops : Array Oper} {Q : Exit → Act → World → Prop} {l n : Nat}

theorem oper_in {o : Oper} {a : Act} {w : World} {K : Act → World → Prop} (hd : ∀ c, o.op ≠ .defer c) (h : o.wp P a w K (Calm Q)) : o.wpIn (Fence.wide.inRound l) n P a w K (Calm Q) := by
  refine ⟨fun _ _ => trivial, ?_⟩
  rw [Oper.semAt_eq _ _ _ hd]
  unfold Oper.wp at h
  generalize (execOp a.eval o).run P w = r at h ⊢
  cases r with
  | ok x w' =>
    cases x with
    | value v => exact h
    | skip => exact h
    | defer d => exact h
    | enter f args =>
      refine ⟨fun h => by simp [Fence.wide] at h, ?_⟩
      exact CallsIn.mono (show CallsIn (Fence.wide.inRound l) (n - 1) P f args w' _ from (callsIn_wide (n := n - 1)).2 h) fun e w'' he => by
        cases e <;> exact he
    | row row args =>
      refine ⟨fun h => by simp [Fence.wide] at h, fun c cs _ => ?_⟩
      obtain ⟨v, w'', hr, hs⟩ := h c cs
      exact ⟨v, w'', hr, stepsIn_wide.2 hs⟩
    | round => exact h.elim
    | _ => exact h.elim
  | halt x w' =>
    cases x <;> exact h

theorem any_in (hd : noDefer ops = true) : ∀ (fuel : Nat) (listed : Array Bool) (a : Act) (w : World), wpAny P md ops (Calm Q) fuel listed a w → wpAnyIn (Fence.wide.inRound l) n P md ops (Calm Q) fuel listed a w
  | 0, _, _, _, h => h
  | fuel + 1, listed, a, w, h => ⟨h.1, fun i hi => by
      have h1 := h.2 i hi
      unfold wpOp at h1
      unfold wpOpIn
      cases ho : ops[i]? with
      | none => rw [ho] at h1; exact any_in hd fuel _ _ _ h1
      | some o =>
        rw [ho] at h1
        simp only at h1 ⊢
        by_cases hw : Region.wanted o (yielded ops a.tmps) = true
        · rw [if_pos hw] at h1 ⊢
          rcases h1 with h1 | ⟨_, a', w', h1⟩
          · exact Oper.wpIn_mono (fun a w h => any_in hd fuel _ _ _ h) (oper_in (noDefer_at hd ho) h1)
          · exact h1.elim
        · rw [if_neg hw] at h1 ⊢
          exact ⟨fun _ _ => trivial, any_in hd fuel _ _ _ h1⟩⟩

/-- The law: from the world behind the draw, in whatever order, S held. -/
theorem wpIn_region_held {id : Nat} {a : Act} {w : World} {S : World → Prop} (hm : P.follows .mixedOrders = true) (hd : noDefer ops = true)
    (h : wpAnyH P .any ops (Calm Q) S ops.size (Array.replicate ops.size false) a w.drew) : (Code.region id ops true).wpIn (Fence.wide.inRound l) n P Q a w :=
  wpIn_mono (wpIn_region_any hm (any_in hd _ _ _ _ (wpAny_of_held _ _ _ _ h))) Calm.imp
/-- The same, the last operation (which waits for all others) peeled. -/
theorem wpIn_region_peelN {id : Nat} {a : Act} {w : World} {last : Oper} {S : World → Prop} (m : Nat) (hm : P.follows .mixedOrders = true) (hd : noDefer ops = true) (hn : ops.size = m + 1) (ho : ops[m]? = some last) (hB : peelB .any ops.pop last = true)
    (h : wpAnyH P .any ops.pop (LastQ P ops (Calm Q) m) S m (Array.replicate m false) a w.drew) : (Code.region id ops true).wpIn (Fence.wide.inRound l) n P Q a w :=
  wpIn_mono (wpIn_region_any hm (any_in hd _ _ _ _ (any_peelN m hn ho hB (wpAny_of_held _ _ _ _ h)))) Calm.imp
end
end Go.Proofs.Ytgpkghlhlabjcaa
