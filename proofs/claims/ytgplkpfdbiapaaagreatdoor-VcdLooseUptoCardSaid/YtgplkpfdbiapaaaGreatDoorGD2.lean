/- norm.May, by its contract. -/
import Derived.Test.YtgplkpfdbiapaaaGreatDoorRows
import Derived.BigQuiet
import Derived.Deep.AppendLies
import Derived.Deep.QuietTactic
import Derived.Deep.RegionLaw
import Derived.Deep.RegionWith
import Derived.KernelRfl
import Derived.Laws.EntriesVeiled
import Derived.Lib.ConvBytes
import Derived.Lib.Hide
import Derived.Lib.SlBytesRow
import Derived.Lib.SmallJoins
import Derived.Shelf.Bytes.SlSmallAll
import Derived.WalkKit
import Derived.WalkLawsBesides
import Derived.WalkSpells
import Derived.Test.YtgplkpfdbiapaaaGreatDoorNBase
import Derived.Test.YtgplkpfdbiapaaaGreatDoorGA1
import Derived.Test.YtgplkpfdbiapaaaGreatDoorGA3
import Derived.Test.YtgplkpfdbiapaaaGreatDoorLib
import Derived.Deep.RegionHeld3
import Derived.Laws.Tables
import Derived.Maps.AppendAt
/- norm.literal, by its contract. -/
namespace Go.Proofs.YtgplkpfdbiapaaaGreatDoor
open Go Go.RowKit Go.Joins
theorem literal_any (v : Nat) (hv : v ≤ 1000000000) (w : World) : Calls Tryz.prog 74 #[.int .i64 v] w fun e w' => e = .returned (.int .u32 ((2 * v : Nat) : Int)) ∧ w = w' := by
  have h0 : (0 : Int) ≤ v := by omega
  have h1 : (v : Int) ≤ 1000000000 := by omega
  have W1 : IntKind.u32.wrap (v : Int) = (v : Int) := by rw [IntKind.wrap_u32]; omega
  have W2 : IntKind.u32.wrap (2 * (v : Int)) = 2 * (v : Int) := by rw [IntKind.wrap_u32]; omega
  go_enter Tryz.func74, Tryz.ntmps74
  go_wp2
  go_ret
  simp
theorem literal_at (z : Int) (v : Nat) (hz : z = (v : Int)) (hv : v ≤ 1000000000) (w : World) : Calls Tryz.prog 74 #[.int .i64 z] w fun e w' => e = .returned (.int .u32 ((2 * v : Nat) : Int)) ∧ w = w' := by
  subst hz; exact literal_any v hv w
end Go.Proofs.YtgplkpfdbiapaaaGreatDoor
/- The small functions of package norm on circuits, by their contracts. -/
namespace Go.Proofs.YtgplkpfdbiapaaaGreatDoor
open Go Go.RowKit Go.Joins

set_option maxRecDepth 100000 in
theorem count_any (i : Nat) (s : CSlots) (hi : i ≤ 1048576) (hs : s.small) (w : World) : Calls Tryz.prog 75 #[cirV i s] w fun e w' => e = .returned (.int .i64 ((i + s.n1 + s.n2 : Nat) : Int)) ∧ Below w.heap.size w w' := by
  obtain ⟨a1, n1, c1, a2, n2, c2, a3, n3, c3, a4, n4, c4, a5, n5, c5⟩ := s
  obtain ⟨h1, h2, h3, h4, h5⟩ := hs
  simp only at h1 h2 h3 h4 h5 ⊢
  have W1 : IntKind.i64.wrap ((i : Int) + n1) = (i : Int) + n1 := IntWalk.i64_in _ (by omega)
  have W2 : IntKind.i64.wrap ((i : Int) + n1 + n2) = (i : Int) + n1 + n2 := IntWalk.i64_in _ (by omega)
  unfold cirV
  go_enter Tryz.func75, Tryz.ntmps75
  go_wp2
  go_ret
  exact ⟨by simp, ext_alloc _ _⟩

set_option maxRecDepth 100000 in
theorem firstLatch_any (i : Nat) (s : CSlots) (hi : i ≤ 1048576) (w : World) : Calls Tryz.prog 121 #[cirV i s] w fun e w' => e = .returned (.int .i64 ((1 + i : Nat) : Int)) ∧ Below w.heap.size w w' := by
  obtain ⟨a1, n1, c1, a2, n2, c2, a3, n3, c3, a4, n4, c4, a5, n5, c5⟩ := s
  have W1 : IntKind.i64.wrap ((1 : Int) + i) = (1 : Int) + i := IntWalk.i64_in _ (by omega)
  unfold cirV
  go_enter Tryz.func121, Tryz.ntmps121
  go_wp2
  go_ret
  exact ⟨by simp, ext_alloc _ _⟩

set_option maxRecDepth 100000 in
theorem firstGate_any (i : Nat) (s : CSlots) (hi : i ≤ 1048576) (hs : s.small) (w : World) : Calls Tryz.prog 104 #[cirV i s] w fun e w' => e = .returned (.int .i64 ((1 + i + s.n1 : Nat) : Int)) ∧ Below w.heap.size w w' := by
  have HF := Lib.hid (fun W => firstLatch_any i s hi W)
  obtain ⟨a1, n1, c1, a2, n2, c2, a3, n3, c3, a4, n4, c4, a5, n5, c5⟩ := s
  obtain ⟨h1, h2, h3, h4, h5⟩ := hs
  simp only at h1 h2 h3 h4 h5 ⊢
  have W2 : IntKind.i64.wrap ((1 : Int) + i + n1) = (1 : Int) + i + n1 := IntWalk.i64_in _ (by omega)
  unfold cirV at *
  go_enter Tryz.func104, Tryz.ntmps104
  go_wp2_with fail
  generalize hW : World.alloc w _ = W0
  have B1 : Below w.heap.size w W0 := by subst hW; exact ext_alloc _ _
  have hX : W0.heap[w.heap.size]? = some (.cells #[.int .i64 i, .slice a1 n1 c1, .slice a2 n2 c2, .slice a3 n3 c3, .slice a4 n4 c4, .slice a5 n5 c5] 26 (0, 0)) := by
    subst hW; exact heap_new _ _ _ rfl
  clear hW
  have p0 := cell_of_block hX 0
  have p1 := cell_of_block hX 1
  have p2 := cell_of_block hX 2
  have p3 := cell_of_block hX 3
  have p4 := cell_of_block hX 4
  have p5 := cell_of_block hX 5
  have HC : Hid (∀ W, Below W0.heap.size W0 W → Calls Tryz.prog 121 #[cirV i ⟨a1, n1, c1, a2, n2, c2, a3, n3, c3, a4, n4, c4, a5, n5, c5⟩] W (fun e w' => e = .returned (.int .i64 ((1 + i : Nat) : Int)) ∧ Below W0.heap.size W0 w' ∧ w'.cell? ⟨w.heap.size, 1, .none⟩ = some (.slice a1 n1 c1))) := fun W hb => by
    refine (HF.out W).mono ?_
    rintro e w' ⟨he, h'⟩
    have hb' := ext_trans hb h'
    exact ⟨he, hb', cell_below (show W0.cell? ⟨w.heap.size, 1, .none⟩ = some (.slice a1 n1 c1) from p1) hb'⟩
  unfold cirV at HC
  clear HF
  have HB1 := Lib.hid B1
  clear B1 hX
  go_wp2_with fail
  go_region_with (go_at_call 121; refine (HC.out _ (by first | exact Below.refl _ _ | exact (Below.refl _ _).drew)).mono ?_; rintro e w1 ⟨rfl, hb, hc⟩)
  all_goals go_wp2
  all_goals go_ret
  all_goals exact ⟨by first | (simp; done) | (simp; rfl), by first | exact ext_trans HB1.out hb | exact (ext_trans HB1.out hb).drew⟩
end Go.Proofs.YtgplkpfdbiapaaaGreatDoor
/- norm.May, by its contract. -/
namespace Go.Proofs.YtgplkpfdbiapaaaGreatDoor
open Go Go.RowKit Go.Joins

/-- May's first closure: what it captured lies at block B. -/
theorem nabove_any (m x B : Nat) (w : World) (hc : w.cell? ⟨B, 0, .none⟩ = some (.int .u32 ((2 * m + 1 : Nat) : Int))) :
    Calls Tryz.prog 76 #[.int .u32 x, .pointer (some ⟨B, 0, .none⟩)] w fun e w' => e = .returned (.bool (above m x)) ∧ w = w' := by
  obtain ⟨M, hM⟩ : ∃ M : Nat, M = 2 * m + 1 := ⟨_, rfl⟩
  have e : decide (M < x) = above m x := by unfold above; rw [hM]
  rw [← hM] at hc
  have E := Lib.hid e
  clear e hM
  go_enter Tryz.func76, Tryz.ntmps76
  go_wp2
  go_ret
  exact ⟨congrArg (fun b => Ending.returned (.bool b)) E.out, rfl⟩

theorem nidx_u32 (m B : Nat) (l : List Nat) (a : Option Addr) (n c : Nat) (hn : n ≤ 1048576) (w : World) (h : Sees w a n c (l.map nv32)) (hc : w.cell? ⟨B, 0, .none⟩ = some (.int .u32 ((2 * m + 1 : Nat) : Int))) :
    Calls Tryz.prog 102 #[.slice a n c, .func (.func 76) #[] #[.pointer (some ⟨B, 0, .none⟩)]] w (IdxPost (above m) l w) := by
  have hl := h.lenMap
  have HS := Lib.hid h
  have HL := Lib.hid hl
  have HC := Lib.hid (fun x => nabove_any m x B w hc)
  clear h hl hc
  go_enter Tryz.func102, Tryz.ntmps102
  go_wp2
  go_loop [5, 8] (fun v i => ∃ k : Nat, k ≤ n ∧ i = .int .i64 k ∧ Hid (∀ j, j < k → above m (l.getD j 0) = false)) (fun _ i => n - (intOf i).toNat)
  case atStart => exact ⟨0, Nat.zero_le _, rfl, fun j hj => absurd hj (by omega)⟩
  case round =>
    obtain ⟨k, hk, rfl, hno⟩ := hrel
    by_cases hlt : k < n
    · obtain ⟨b, off, rfl, hbw⟩ := HS.out.addr (by omega)
      have hcx := HS.out.num k hlt
      obtain ⟨x, hx⟩ : ∃ x, x = l.getD k 0 := ⟨_, rfl⟩
      rw [← hx] at hcx
      have HX := Lib.hid hx
      clear hx
      have W1 : IntKind.i64.wrap ((k : Int) + 1) = (k : Int) + 1 := IntWalk.i64_in _ (by omega)
      obtain ⟨q, hq⟩ : ∃ q, q = above m x := ⟨_, rfl⟩
      have HQ := Lib.hid hq
      clear hq
      go_wp2_with fail
      refine (HC.out x).mono ?_
      rw [← HQ.out]
      rintro e w' ⟨rfl, rfl⟩
      cases q with
      | true =>
        go_wp2
        go_ret
        refine ⟨k, rfl, by omega, ⟨fun _ => ?_, fun _ => by omega⟩, Below.refl _ _⟩
        exact List.any_eq_true.2 ⟨l.getD k 0, getD_mem (by rw [HL.out]; exact hlt), by rw [← HX.out]; exact HQ.out.symm⟩
      | false =>
        go_wp2
        go_round
        case rel =>
          refine ⟨k + 1, by omega, by go_num, fun j hj => ?_⟩
          rcases Nat.lt_or_ge j k with h | h
          · exact hno.out j h
          · have : j = k := by omega
            subst this
            rw [← HX.out]; exact HQ.out.symm
        case measure => simp [intOf]; omega
    · have hkn : k = n := by omega
      subst hkn
      go_wp2
      go_ret
      refine ⟨-1, rfl, by omega, ⟨fun h => absurd h (by decide), fun h => ?_⟩, Below.refl _ _⟩
      rw [any_none (all_of_getD (d := 0) (fun j hj => hno.out j (by rw [← HL.out]; exact hj)))] at h
      cases h

theorem nhas_u32 (m B : Nat) (l : List Nat) (a : Option Addr) (n c : Nat) (hn : n ≤ 1048576) (w : World) (h : Sees w a n c (l.map nv32)) (hc : w.cell? ⟨B, 0, .none⟩ = some (.int .u32 ((2 * m + 1 : Nat) : Int))) :
    Calls Tryz.prog 77 #[.slice a n c, .func (.func 76) #[] #[.pointer (some ⟨B, 0, .none⟩)]] w (fun e w' => e = .returned (.bool (l.any (above m))) ∧ Below w.heap.size w w') := by
  have HI := Lib.hid (nidx_u32 m B l a n c hn w h hc)
  clear h hc
  obtain ⟨f, hf⟩ : ∃ f, f = Value.func (.func 76) #[] #[.pointer (some ⟨B, 0, .none⟩)] := ⟨_, rfl⟩
  rw [← hf] at HI ⊢
  have HF := Lib.hid hf
  clear hf
  go_enter Tryz.func77, Tryz.ntmps77
  go_wp2_with fail
  refine HI.out.mono ?_
  rintro e w' ⟨z, rfl, hz, hiff, hb⟩
  have e : decide (0 ≤ z) = l.any (above m) := by
    cases hq : l.any (above m) with
    | true => simpa using hiff.2 hq
    | false => simp; have := fun h => hiff.1 h; rw [hq] at this; exact Int.not_le.1 (fun h => by cases this h)
  have E := Lib.hid e
  clear e hiff
  go_wp2
  go_ret
  exact ⟨congrArg (fun b => Ending.returned (.bool b)) E.out, hb⟩

/-- The cells that the closure on latches needs. -/
structure NCaps (m B C : Nat) (w : World) : Prop where
  b : w.cell? ⟨B, 0, .none⟩ = some (.int .u32 ((2 * m + 1 : Nat) : Int))
  c : w.cell? ⟨C, 0, .none⟩ = some (.func (.func 76) #[] #[.pointer (some ⟨B, 0, .none⟩)])
theorem NCaps.below {m B C : Nat} {w w' : World} (h : NCaps m B C w) (hb : Below w.heap.size w w') : NCaps m B C w' := ⟨cell_below h.b hb, cell_below h.c hb⟩

theorem nlat_bad (m x y B C : Nat) (w : World) (h : NCaps m B C w) :
    Calls Tryz.prog 78 #[.agg #[.int .u32 x, .int .u8 y], .pointer (some ⟨C, 0, .none⟩)] w fun e w' => e = .returned (.bool (badLat2 m (x, y))) ∧ Below w.heap.size w w' := by
  obtain ⟨q1, h1⟩ : ∃ q, q = above m x := ⟨_, rfl⟩
  obtain ⟨q2, h2⟩ : ∃ q, q = decide ((2 : Int) < (y : Int)) := ⟨_, rfl⟩
  have hv : badLat2 m (x, y) = (q1 || q2) := by
    rw [h1, h2]
    unfold badLat2
    simp only
    congr 1
    apply decide_eq_decide.2
    omega
  rw [hv]
  have hc1 : (w.alloc (.cells #[.int .u32 x, .int .u8 y] 61)).cell? ⟨C, 0, .none⟩ = some (.func (.func 76) #[] #[.pointer (some ⟨B, 0, .none⟩)]) := (h.below (ext_alloc _ _)).c
  have HA : Hid (∀ o : Obj, Calls Tryz.prog 76 #[.int .u32 x, .pointer (some ⟨B, 0, .none⟩)] (w.alloc o) fun e w' => e = .returned (.bool q1) ∧ w.alloc o = w') := fun o => by
    rw [h1]
    exact nabove_any m x B (w.alloc o) (h.below (ext_alloc _ _)).b
  have H2 := Lib.hid h2
  clear h1 h2 hv h
  go_enter Tryz.func78, Tryz.ntmps78
  go_wp2_with fail
  refine (HA.out _).mono ?_
  rintro e w' ⟨rfl, rfl⟩
  cases q1 with
  | true =>
    go_wp2
    go_ret
    exact ⟨rfl, ext_alloc _ _⟩
  | false =>
    go_wp2
    go_ret
    exact ⟨by rw [H2.out]; rfl, ext_alloc _ _⟩
theorem nidx_lat (m B C : Nat) (l : List (Nat × Nat)) (a : Option Addr) (n c : Nat) (hn : n ≤ 1048576) (w : World) (h : Sees2 nv8 w a n c l) (hc : NCaps m B C w) :
    Calls Tryz.prog 103 #[.slice a n c, .func (.func 78) #[] #[.pointer (some ⟨C, 0, .none⟩)]] w (IdxPost (badLat2 m) l w) := by
  have hl := h.1
  have HS := Lib.hid h
  have HL := Lib.hid hl
  have HC := Lib.hid hc
  clear h hl hc
  go_enter Tryz.func103, Tryz.ntmps103
  go_wp2
  go_loopw [5, 8] (fun v i wr => ∃ k : Nat, k ≤ n ∧ i = .int .i64 k ∧ Hid (∀ j, j < k → badLat2 m (l.getD j (0, 0)) = false) ∧ Hid (Below w.heap.size w wr)) (fun _ i _ => n - (intOf i).toNat)
  case atStart => exact ⟨0, Nat.zero_le _, rfl, fun j hj => absurd hj (by omega), Below.refl _ _⟩
  case round =>
    obtain ⟨k, hk, rfl, hno, hbel⟩ := hrel
    by_cases hlt : k < n
    · obtain ⟨b, off, rfl, hbw⟩ := HS.out.addr (by omega)
      obtain ⟨hx, hy⟩ := (HS.out.below hbel.out).cells k hlt (0, 0)
      obtain ⟨t, ht⟩ : ∃ t, t = l.getD k (0, 0) := ⟨_, rfl⟩
      rw [← ht] at hx hy
      have HX := Lib.hid ht
      clear ht
      obtain ⟨x, y⟩ := t
      simp only [nv32, nv8] at hx hy
      have W1 : IntKind.i64.wrap ((k : Int) + 1) = (k : Int) + 1 := IntWalk.i64_in _ (by omega)
      obtain ⟨q, hq⟩ : ∃ q, q = badLat2 m (x, y) := ⟨_, rfl⟩
      have HQ := Lib.hid hq
      clear hq
      go_wp2_with fail
      refine (nlat_bad m x y B C wr (HC.out.below hbel.out)).mono ?_
      rw [← HQ.out]
      rintro e w' ⟨rfl, hb'⟩
      have HB' := Lib.hid (ext_trans hbel.out hb')
      clear hb' hx hy
      cases q with
      | true =>
        go_wp2
        go_ret
        refine ⟨k, rfl, by omega, ⟨fun _ => ?_, fun _ => by omega⟩, HB'.out⟩
        exact List.any_eq_true.2 ⟨l.getD k (0, 0), getD_mem (by rw [HL.out]; exact hlt), by rw [← HX.out]; exact HQ.out.symm⟩
      | false =>
        go_wp2
        go_roundw
        case rel =>
          refine ⟨k + 1, by omega, by go_num, fun j hj => ?_, HB'.out⟩
          rcases Nat.lt_or_ge j k with h | h
          · exact hno.out j h
          · have : j = k := by omega
            subst this
            rw [← HX.out]; exact HQ.out.symm
        case measure => simp [intOf]; omega
    · have hkn : k = n := by omega
      subst hkn
      go_wp2
      go_ret
      refine ⟨-1, rfl, by omega, ⟨fun h => absurd h (by decide), fun h => ?_⟩, hbel.out⟩
      rw [any_none (all_of_getD (d := ((0, 0) : Nat × Nat)) (fun j hj => hno.out j (by rw [← HL.out]; exact hj)))] at h
      cases h

theorem nhas_lat (m B C : Nat) (l : List (Nat × Nat)) (a : Option Addr) (n c : Nat) (hn : n ≤ 1048576) (w : World) (h : Sees2 nv8 w a n c l) (hc : NCaps m B C w) :
    Calls Tryz.prog 79 #[.slice a n c, .func (.func 78) #[] #[.pointer (some ⟨C, 0, .none⟩)]] w (fun e w' => e = .returned (.bool (l.any (badLat2 m))) ∧ Below w.heap.size w w') := by
  have HI := Lib.hid (nidx_lat m B C l a n c hn w h hc)
  clear h hc
  obtain ⟨f, hf⟩ : ∃ f, f = Value.func (.func 78) #[] #[.pointer (some ⟨C, 0, .none⟩)] := ⟨_, rfl⟩
  rw [← hf] at HI ⊢
  have HF := Lib.hid hf
  clear hf
  go_enter Tryz.func79, Tryz.ntmps79
  go_wp2_with fail
  refine HI.out.mono ?_
  rintro e w' ⟨z, rfl, hz, hiff, hb⟩
  have e : decide (0 ≤ z) = l.any (badLat2 m) := by
    cases hq : l.any (badLat2 m) with
    | true => simpa using hiff.2 hq
    | false => simp; have := fun h => hiff.1 h; rw [hq] at this; exact Int.not_le.1 (fun h => by cases this h)
  have E := Lib.hid e
  clear e hiff
  go_wp2
  go_ret
  exact ⟨congrArg (fun b => Ending.returned (.bool b)) E.out, hb⟩
end Go.Proofs.YtgplkpfdbiapaaaGreatDoor
/- norm.mayGates, by its contract. -/
namespace Go.Proofs.YtgplkpfdbiapaaaGreatDoor
open Go Go.RowKit Go.Joins

set_option maxRecDepth 100000 in
set_option maxHeartbeats 1600000 in
theorem mayGates_any (c : NormC) (i : Nat) (s : CSlots) (w : World) (h : SeesCir w s c) (hs : s.small) (hi : i ≤ 16384) (hm : c.lats.length + c.gates.length ≤ 16384) :
    Calls Tryz.prog 80 #[cirV i s] w fun e w' => e = .returned (.bool (!badGates (1 + i + c.lats.length) c.gates)) ∧ Below w.heap.size w w' := by
  have HF := Lib.hid (fun W => firstGate_any i s (by omega) hs W)
  obtain ⟨a1, n1, c1, a2, n2, c2, a3, n3, c3, a4, n4, c4, a5, n5, c5⟩ := s
  obtain ⟨hs1, hs2, hs3, hs4, hs5⟩ := hs
  simp only at hs1 hs2 hs3 hs4 hs5
  have l1 : c.lats.length = n1 := h.s1.1
  have l2 : c.gates.length = n2 := h.s2.1
  rw [l1]
  rw [l1, l2] at hm
  simp only at HF
  have L2 := Lib.hid l2
  have HS := Lib.hid h
  clear l1 l2 h
  obtain ⟨F, hFF⟩ : ∃ F, F = 1 + i + n1 := ⟨_, rfl⟩
  rw [← hFF] at HF ⊢
  have hF1 : 1 ≤ F := by omega
  have hF2 : F + n2 ≤ 40000 := by omega
  clear hFF
  unfold cirV at *
  go_enter Tryz.func80, Tryz.ntmps80
  go_wp2_with fail
  generalize hW : World.alloc w _ = W0
  have B0 : Below w.heap.size w W0 := by subst hW; exact ext_alloc _ _
  have hX : W0.heap[w.heap.size]? = some (.cells #[.int .i64 i, .slice a1 n1 c1, .slice a2 n2 c2, .slice a3 n3 c3, .slice a4 n4 c4, .slice a5 n5 c5] 26 (0, 0)) := by
    subst hW; exact heap_new _ _ _ rfl
  clear hW
  refine (HF.out W0).mono ?_
  rintro e W1 ⟨rfl, hb⟩
  have p2 := cell_of_block (heap_below hX hb) 2
  have HB := Lib.hid (ext_trans B0 hb)
  clear B0 hX hb HF
  go_wp2
  clear p2
  go_loopw [11] (fun j wr => ∃ k : Nat, k ≤ n2 ∧ j = .int .i64 k ∧ Hid (∀ j, j < k → badGate2 (F + j) (c.gates.getD j (0, 0)) = false) ∧ Hid (Below w.heap.size w wr))
    (fun j _ => n2 - (intOf j).toNat)
  case atStart => exact ⟨0, Nat.zero_le _, rfl, fun j hj => absurd hj (by omega), HB.out⟩
  case round =>
    clear HB
    obtain ⟨k, hk, rfl, hno, hb⟩ := hrel
    by_cases hlt : k < n2
    · obtain ⟨b, off, rfl, hbw⟩ := HS.out.s2.addr (show 0 < n2 by omega)
      obtain ⟨hx, hy⟩ := (HS.out.s2.below hb.out).cells k hlt (0, 0)
      obtain ⟨t, ht⟩ : ∃ t, t = c.gates.getD k (0, 0) := ⟨_, rfl⟩
      rw [← ht] at hx hy
      have HT := Lib.hid ht
      clear ht
      obtain ⟨x, y⟩ := t
      simp only [nv32] at hx hy
      have W1 : IntKind.i64.wrap ((k : Int) + 1) = (k : Int) + 1 := IntWalk.i64_in _ (by omega)
      have W2 : IntKind.i64.wrap ((F : Int) + (k : Int)) = (F : Int) + (k : Int) := IntWalk.i64_in _ (by omega)
      have HLIT := Lib.hid (fun W => literal_at ((F : Int) + (k : Int)) (F + k) (by omega) (by omega) W)
      obtain ⟨L, hL⟩ : ∃ L, L = 2 * (F + k) := ⟨_, rfl⟩
      rw [← hL] at HLIT
      have HB2 := Lib.hid (fun o => (ext_trans hb.out (ext_alloc wr o)))
      have hbad : badGate2 (F + k) (x, y) = (decide (x < y) || decide (L ≤ x)) := by rw [hL]; rfl
      have YES : badGate2 (F + k) (x, y) = true → badGates F c.gates = true := fun hq => (badGates_at c.gates F).2 ⟨k, by rw [L2.out]; exact hlt, by rw [← HT.out]; exact hq⟩
      clear hL
      by_cases h1 : x < y
      · have e1 : decide (x < y) = true := by simpa using h1
        have HY : Hid (badGates F c.gates = true) := YES (by rw [hbad, e1]; rfl)
        clear hbad YES hb
        go_wp2
        go_quiet (fail)
        go_wp2
        go_ret
        rename_i nq
        exact ⟨by rw [HY.out]; rfl, ext_trans (HB2.out _) (ext_drewN _ nq)⟩
      · have e1 : decide (x < y) = false := by simpa using h1
        by_cases h2 : L ≤ x
        · have e2 : decide (L ≤ x) = true := by simpa using h2
          have HY : Hid (badGates F c.gates = true) := YES (by rw [hbad, e1, e2]; rfl)
          clear hbad YES hb
          go_wp2
          go_quiet ((go_at_call 74; exact Calls.quiet_of_same ((HLIT.out _).mono fun _ _ ⟨h1, h2⟩ => ⟨h1, h2.symm⟩)))
          go_wp2
          go_ret
          rename_i nq
          exact ⟨by rw [HY.out]; rfl, ext_trans (HB2.out _) (ext_drewN _ nq)⟩
        · have e2 : decide (L ≤ x) = false := by simpa using h2
          have HN : Hid (badGate2 (F + k) (c.gates.getD k (0, 0)) = false) := by
            show _ = _
            rw [← HT.out, hbad, e1, e2]; rfl
          clear hbad YES hb
          go_wp2
          go_quiet ((go_at_call 74; exact Calls.quiet_of_same ((HLIT.out _).mono fun _ _ ⟨h1, h2⟩ => ⟨h1, h2.symm⟩)))
          go_wp2
          go_roundw
          case rel =>
            rename_i nq
            refine ⟨k + 1, by omega, by go_num, fun j hj => ?_, ext_trans (HB2.out _) (ext_drewN _ nq)⟩
            rcases Nat.lt_or_ge j k with h | h
            · exact hno.out j h
            · have : j = k := by omega
              subst this
              exact HN.out
          case measure => simp [intOf]; omega
    · obtain rfl : n2 = k := by omega
      have HN : Hid (badGates F c.gates = false) := badGates_no.2 (fun j hj => hno.out j (by rw [← L2.out]; exact hj))
      go_wp2
      go_ret
      exact ⟨by rw [HN.out]; rfl, hb.out⟩
end Go.Proofs.YtgplkpfdbiapaaaGreatDoor
namespace Go.Proofs.YtgplkpfdbiapaaaGreatDoor
open Go Go.RowKit Go.Joins

/-- What lies in memory while May looks at the lists. -/
structure NMayF (w0 w : World) (m : Nat) (B : Nat) (i : Nat) (v1 v2 v3 v4 v5 : Value) : Prop where
  x : w.heap[w0.heap.size]? = some (.cells #[.int .i64 i, v1, v2, v3, v4, v5] 26 (0, 0))
  b : w.heap[B]? = some (.cells #[.int .u32 ((2 * m + 1 : Nat) : Int)] 42 (0, 0))
  c : w.heap[B + 1]? = some (.cells #[.func (.func 76) #[] #[.pointer (some ⟨B, 0, .none⟩)]] 119 (0, 0))
  d : w.heap[B + 1 + 1]? = some (.cells #[v3, v4, v5] 24 (0, 0))
  bel : Below w0.heap.size w0 w
theorem NMayF.below {w0 w w' : World} {m B i : Nat} {v1 v2 v3 v4 v5 : Value} (h : NMayF w0 w m B i v1 v2 v3 v4 v5) (hb : Below w.heap.size w w') : NMayF w0 w' m B i v1 v2 v3 v4 v5 :=
  ⟨heap_below h.x hb, heap_below h.b hb, heap_below h.c hb, heap_below h.d hb, ext_trans h.bel hb⟩
theorem NMayF.caps {w0 w : World} {m B i : Nat} {v1 v2 v3 v4 v5 : Value} (h : NMayF w0 w m B i v1 v2 v3 v4 v5) : NCaps m B (B + 1) w := ⟨cell_of_block h.b 0, cell_of_block h.c 0⟩

set_option maxRecDepth 100000 in
set_option maxHeartbeats 3200000 in
theorem may3_any (c : NormC) (s : CSlots) (w : World) (h : SeesCir w s c) (hs : s.small) (hlo : -9223372036854775808 ≤ c.ins) (hhi : c.ins < 9223372036854775808) :
    Calls Tryz.prog 51 #[cirV c.ins s] w fun e w' => e = .returned (.bool (mayC c)) ∧ Below w.heap.size w w' := by
  have HCNT := Lib.hid (fun (j : Nat) (hj : j ≤ 1048576) W => count_any j s hj hs W)
  have HGT := Lib.hid (fun (i : Nat) W (hb : Below w.heap.size w W) (h1 : i ≤ 16384) (h2 : c.lats.length + c.gates.length ≤ 16384) => mayGates_any c i s W (h.below hb) hs h1 h2)
  obtain ⟨a1, n1, c1, a2, n2, c2, a3, n3, c3, a4, n4, c4, a5, n5, c5⟩ := s
  obtain ⟨hs1, hs2, hs3, hs4, hs5⟩ := hs
  simp only at hs1 hs2 hs3 hs4 hs5 HCNT
  have l1 : c.lats.length = n1 := h.s1.1
  have l2 : c.gates.length = n2 := h.s2.1
  have L1 := Lib.hid l1
  have L2 := Lib.hid l2
  have HS := Lib.hid h
  clear l1 l2 h
  obtain ⟨z, hz⟩ : ∃ z, z = c.ins := ⟨_, rfl⟩
  rw [← hz] at hlo hhi ⊢
  have HZ := Lib.hid hz
  clear hz
  by_cases hneg : z < 0
  · have e1 : decide (z < 0) = true := by simpa using hneg
    have HV : Hid (mayC c = false) := by
      show _ = _
      unfold mayC tooMany
      rw [← HZ.out, e1]; rfl
    clear HCNT HGT
    unfold cirV
    go_enter Tryz.func51, Tryz.ntmps51
    go_wp2
    go_ret
    exact ⟨by rw [HV.out]; rfl, ext_alloc _ _⟩
  obtain ⟨i, rfl⟩ := Int.eq_ofNat_of_zero_le (show 0 ≤ z by omega)
  have e1 : decide ((i : Int) < 0) = false := by simp
  by_cases hmany : 16384 < i + n1 + n2
  · have e2 : decide ((16384 : Int) - (i : Int) < (n1 : Int) + (n2 : Int)) = true := by simp; omega
    have HV : Hid (mayC c = false) := by
      show _ = _
      unfold mayC tooMany
      rw [← HZ.out, L1.out, L2.out, show ((n1 + n2 : Nat) : Int) = (n1 : Int) + n2 by omega, e2]; simp
    clear HCNT HGT
    unfold cirV
    go_enter Tryz.func51, Tryz.ntmps51
    go_wp2
    go_ret
    exact ⟨by rw [HV.out]; rfl, ext_alloc _ _⟩
  have e2 : decide ((16384 : Int) - (i : Int) < (n1 : Int) + (n2 : Int)) = false := by simp; omega
  obtain ⟨m, hm⟩ : ∃ m, m = i + n1 + n2 := ⟨_, rfl⟩
  have hv : mayC c = (!badList m c.outs && (!badList m c.bads && (!badList m c.cons && (!c.lats.any (badLat2 m) && !badGates (1 + i + c.lats.length) c.gates)))) := by
    have e3 : varsN c = m := by unfold varsN; rw [← HZ.out, L1.out, L2.out, hm]; simp
    unfold mayC tooMany
    rw [e3, ← HZ.out, L1.out, L2.out, show ((n1 + n2 : Nat) : Int) = (n1 : Int) + n2 by omega, e1, e2]
    simp
  obtain ⟨q3, hq3⟩ : ∃ q, q = badList m c.outs := ⟨_, rfl⟩
  obtain ⟨q4, hq4⟩ : ∃ q, q = badList m c.bads := ⟨_, rfl⟩
  obtain ⟨q5, hq5⟩ : ∃ q, q = badList m c.cons := ⟨_, rfl⟩
  obtain ⟨q1, hq1⟩ : ∃ q, q = c.lats.any (badLat2 m) := ⟨_, rfl⟩
  obtain ⟨q2, hq2⟩ : ∃ q, q = badGates (1 + i + c.lats.length) c.gates := ⟨_, rfl⟩
  rw [← hq1, ← hq2, ← hq3, ← hq4, ← hq5] at hv
  have g3 : q3 = (decide (1024 < n3) || c.outs.any (above m)) := by rw [hq3, badList, HS.out.s3.lenMap]
  have g4 : q4 = (decide (1024 < n4) || c.bads.any (above m)) := by rw [hq4, badList, HS.out.s4.lenMap]
  have g5 : q5 = (decide (1024 < n5) || c.cons.any (above m)) := by rw [hq5, badList, HS.out.s5.lenMap]
  have HCN : Hid (∀ W, Calls Tryz.prog 75 #[cirV i ⟨a1, n1, c1, a2, n2, c2, a3, n3, c3, a4, n4, c4, a5, n5, c5⟩] W fun e w' => e = .returned (.int .i64 (m : Int)) ∧ Below W.heap.size W w') := fun W => by rw [hm]; exact HCNT.out i (by omega) W
  have HG2 : Hid (∀ W, Below w.heap.size w W → Calls Tryz.prog 80 #[cirV i ⟨a1, n1, c1, a2, n2, c2, a3, n3, c3, a4, n4, c4, a5, n5, c5⟩] W fun e w' => e = .returned (.bool (!q2)) ∧ Below W.heap.size W w') := fun W hb => by rw [hq2]; exact HGT.out i W hb (by omega) (by rw [L1.out, L2.out]; omega)
  have hm2 : m ≤ 16384 := by omega
  have HV := Lib.hid hv
  have Q1 := Lib.hid hq1
  have G3 := Lib.hid g3
  have G4 := Lib.hid g4
  have G5 := Lib.hid g5
  clear hv hq1 hq2 hq3 hq4 hq5 g3 g4 g5 HCNT HGT hm hneg hmany
  have W1 : IntKind.u32.wrap ((2 * m : Nat) : Int) = ((2 * m : Nat) : Int) := by rw [IntKind.wrap_u32]; omega
  have W2 : IntKind.u32.wrap (((2 * m : Nat) : Int) + 1) = ((2 * m + 1 : Nat) : Int) := by rw [IntKind.wrap_u32]; omega
  unfold cirV at *
  go_enter Tryz.func51, Tryz.ntmps51
  go_wp2_with fail
  generalize hW : World.alloc w _ = W0
  have B0 : Below w.heap.size w W0 := by subst hW; exact ext_alloc _ _
  have hX : W0.heap[w.heap.size]? = some (.cells #[.int .i64 i, .slice a1 n1 c1, .slice a2 n2 c2, .slice a3 n3 c3, .slice a4 n4 c4, .slice a5 n5 c5] 26 (0, 0)) := by subst hW; exact heap_new _ _ _ rfl
  clear hW
  refine (HCN.out W0).mono ?_
  rintro e V0 ⟨rfl, hb⟩
  have hX2 := heap_below hX hb
  have B2 := ext_trans B0 hb
  clear hb B0 hX HCN
  have HX := Lib.hid hX2
  have HB := Lib.hid B2
  clear hX2 B2
  go_wp2_with fail
  refine (literal_any m (by omega) V0).mono ?_
  rintro e V1 ⟨rfl, rfl⟩
  have hlt := heap_lt HX.out
  have p3 := cell_of_block HX.out 3
  have p4 := cell_of_block HX.out 4
  have p5 := cell_of_block HX.out 5
  by_cases t3 : 1024 < n3
  · have e3 : decide ((1024 : Int) < (n3 : Int)) = true := by simp; omega
    have z3 : Hid (q3 = true) := by show _ = _; rw [G3.out]; simp [t3]
    go_wp2
    refine wp_loop_rounds 4 ?_
    rw [rounds_succ]
    go_wp2
    go_ret
    exact ⟨by rw [HV.out, z3.out]; rfl, ext_trans HB.out (ext_trans (ext_alloc _ _) (ext_trans (ext_alloc _ _) (ext_alloc _ _)))⟩
  have e3 : decide ((1024 : Int) < (n3 : Int)) = false := by simp; omega
  go_wp2
  refine wp_loop_rounds 4 ?_
  rw [rounds_succ]
  go_wp2_with fail
  rw [show (2 * (m : Int) + 1) = ((2 * m + 1 : Nat) : Int) by omega]
  generalize hW : World.alloc (World.alloc (World.alloc V0 _) _) _ = W3
  obtain ⟨B, hB⟩ : ∃ B, B = V0.heap.size := ⟨_, rfl⟩
  rw [← hB]
  have F : NMayF w W3 m B i (.slice a1 n1 c1) (.slice a2 n2 c2) (.slice a3 n3 c3) (.slice a4 n4 c4) (.slice a5 n5 c5) := by
    subst hW
    subst hB
    exact ⟨heap_below HX.out (ext_trans (ext_alloc _ _) (ext_trans (ext_alloc _ _) (ext_alloc _ _))), heap_below (heap_new V0 _ _ rfl) (ext_trans (ext_alloc _ _) (ext_alloc _ _)), heap_below (heap_new (V0.alloc (.cells #[.int .u32 ((2 * m + 1 : Nat) : Int)] 42)) _ _ (by simp)) (ext_alloc _ _), heap_new _ _ _ (by simp), ext_trans HB.out (ext_trans (ext_alloc _ _) (ext_trans (ext_alloc _ _) (ext_alloc _ _)))⟩
  have F := Lib.hid F
  clear hW hB p3 p4 p5 hlt HX HB
  refine (nhas_u32 m B c.outs a3 n3 c3 hs3 W3 (HS.out.s3.below F.out.bel) F.out.caps.b).mono ?_
  obtain ⟨p3, hp3⟩ : ∃ p, p = c.outs.any (above m) := ⟨_, rfl⟩
  rw [← hp3]
  rw [← hp3] at G3
  clear hp3
  rintro e V3 ⟨rfl, hb⟩
  replace F := Lib.hid (F.out.below hb)
  clear hb
  have d0 := cell_of_block F.out.d 0
  have d1 := cell_of_block F.out.d 1
  have d2 := cell_of_block F.out.d 2
  have f0 := F.out.caps.c
  cases p3 with
  | true =>
    have z3 : Hid (q3 = true) := by show _ = _; rw [G3.out]; simp
    go_wp2
    go_ret
    exact ⟨by rw [HV.out, z3.out]; simp, F.out.bel⟩
  | false =>
  have Z3 : Hid (q3 = false) := by show _ = _; rw [G3.out]; simp [t3]
  by_cases t4 : 1024 < n4
  · have e4 : decide ((1024 : Int) < (n4 : Int)) = true := by simp; omega
    have z4 : Hid (q4 = true) := by show _ = _; rw [G4.out]; simp [t4]
    go_wp2
    rw [rounds_succ]
    go_wp2
    go_ret
    exact ⟨by rw [HV.out, z4.out]; simp, F.out.bel⟩
  have e4 : decide ((1024 : Int) < (n4 : Int)) = false := by simp; omega
  go_wp2
  rw [rounds_succ]
  go_wp2_with fail
  clear d0 d1 d2 f0
  refine (nhas_u32 m B c.bads a4 n4 c4 hs4 V3 (HS.out.s4.below F.out.bel) F.out.caps.b).mono ?_
  obtain ⟨p4, hp4⟩ : ∃ p, p = c.bads.any (above m) := ⟨_, rfl⟩
  rw [← hp4]
  rw [← hp4] at G4
  clear hp4
  rintro e V4 ⟨rfl, hb⟩
  replace F := Lib.hid (F.out.below hb)
  clear hb
  have d0 := cell_of_block F.out.d 0
  have d1 := cell_of_block F.out.d 1
  have d2 := cell_of_block F.out.d 2
  have f0 := F.out.caps.c
  cases p4 with
  | true =>
    have z4 : Hid (q4 = true) := by show _ = _; rw [G4.out]; simp
    go_wp2
    go_ret
    exact ⟨by rw [HV.out, z4.out]; simp, F.out.bel⟩
  | false =>
  have Z4 : Hid (q4 = false) := by show _ = _; rw [G4.out]; simp [t4]
  by_cases t5 : 1024 < n5
  · have e5 : decide ((1024 : Int) < (n5 : Int)) = true := by simp; omega
    have z5 : Hid (q5 = true) := by show _ = _; rw [G5.out]; simp [t5]
    go_wp2
    rw [rounds_succ]
    go_wp2
    go_ret
    exact ⟨by rw [HV.out, z5.out]; simp, F.out.bel⟩
  have e5 : decide ((1024 : Int) < (n5 : Int)) = false := by simp; omega
  go_wp2
  rw [rounds_succ]
  go_wp2_with fail
  clear d0 d1 d2 f0
  refine (nhas_u32 m B c.cons a5 n5 c5 hs5 V4 (HS.out.s5.below F.out.bel) F.out.caps.b).mono ?_
  obtain ⟨p5, hp5⟩ : ∃ p, p = c.cons.any (above m) := ⟨_, rfl⟩
  rw [← hp5]
  rw [← hp5] at G5
  clear hp5
  rintro e V5 ⟨rfl, hb⟩
  replace F := Lib.hid (F.out.below hb)
  clear hb
  have d0 := cell_of_block F.out.d 0
  have d1 := cell_of_block F.out.d 1
  have d2 := cell_of_block F.out.d 2
  have f0 := F.out.caps.c
  cases p5 with
  | true =>
    have z5 : Hid (q5 = true) := by show _ = _; rw [G5.out]; simp
    go_wp2
    go_ret
    exact ⟨by rw [HV.out, z5.out]; simp, F.out.bel⟩
  | false =>
  have Z5 : Hid (q5 = false) := by show _ = _; rw [G5.out]; simp [t5]
  have x0 := cell_of_block F.out.x 0
  have x1 := cell_of_block F.out.x 1
  go_wp2
  rw [rounds_succ]
  go_wp2_with fail
  clear d0 d1 d2 f0 x0 x1
  refine (nhas_lat m B (B + 1) c.lats a1 n1 c1 hs1 _ (HS.out.s1.below F.out.bel) F.out.caps).mono ?_
  rw [← Q1.out]
  rintro e V6 ⟨rfl, hb⟩
  replace F := Lib.hid (F.out.below hb)
  clear hb
  cases q1 with
  | true =>
    go_wp2
    go_ret
    exact ⟨by rw [HV.out]; simp, F.out.bel⟩
  | false =>
  have x0 := cell_of_block F.out.x 0
  have x1 := cell_of_block F.out.x 1
  have x2 := cell_of_block F.out.x 2
  have x3 := cell_of_block F.out.x 3
  have x4 := cell_of_block F.out.x 4
  have x5 := cell_of_block F.out.x 5
  go_wp2_with fail
  refine (HG2.out V6 F.out.bel).mono ?_
  rintro e V7 ⟨rfl, hb⟩
  have HB := Lib.hid (ext_trans F.out.bel hb)
  clear x0 x1 x2 x3 x4 x5 hb F
  go_wp2
  go_ret
  exact ⟨by rw [HV.out, Z3.out, Z4.out, Z5.out]; simp, HB.out⟩
end Go.Proofs.YtgplkpfdbiapaaaGreatDoor
