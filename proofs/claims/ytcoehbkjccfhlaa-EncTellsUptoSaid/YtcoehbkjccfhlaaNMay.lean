/- norm.May, by its contract. -/
import Derived.Test.YtcoehbkjccfhlaaGEncT00
import Derived.Test.YtcoehbkjccfhlaaGEncT01
import Derived.Test.YtcoehbkjccfhlaaGEncT06
import Derived.Test.YtcoehbkjccfhlaaGEncT03
import Derived.Test.YtcoehbkjccfhlaaGEncT02
import Derived.Test.YtcoehbkjccfhlaaGEncT07
import Derived.Test.YtcoehbkjccfhlaaRows
import Derived.BigQuiet
import Derived.Deep.AppendLies
import Derived.Deep.QuietTactic
import Derived.Deep.RegionLaw
import Derived.Deep.RegionWith
import Derived.KernelRfl
import Derived.Laws.EntriesVeiled
import Derived.Lib.ConvBytes
import Derived.Lib.Hide
import Derived.Lib.SlBytesRow
import Derived.Lib.SmallJoins
import Derived.Shelf.Bytes.SlSmallAll
import Derived.WalkKit
import Derived.WalkLawsBesides
import Derived.WalkSpells
namespace Go.Proofs.Ytcoehbkjccfhlaa
open Go Go.RowKit Go.Joins

/-- May's first closure: what it captured lies at block B. -/
theorem nabove_any (m x B : Nat) (w : World) (hc : w.cell? ⟨B, 0, .none⟩ = some (.int .u32 ((2 * m + 1 : Nat) : Int))) :
    Calls Try.prog 73 #[.int .u32 x, .pointer (some ⟨B, 0, .none⟩)] w fun e w' => e = .returned (.bool (above m x)) ∧ w = w' := by
  obtain ⟨M, hM⟩ : ∃ M : Nat, M = 2 * m + 1 := ⟨_, rfl⟩
  have e : decide (M < x) = above m x := by unfold above; rw [hM]
  rw [← hM] at hc
  have E := Lib.hid e
  clear e hM
  go_enter Try.func73, Try.ntmps73
  go_wp2
  go_ret
  exact ⟨congrArg (fun b => Ending.returned (.bool b)) E.out, rfl⟩

theorem nidx_u32 (m B : Nat) (l : List Nat) (a : Option Addr) (n c : Nat) (hn : n ≤ 1048576) (w : World) (h : Sees w a n c (l.map nv32)) (hc : w.cell? ⟨B, 0, .none⟩ = some (.int .u32 ((2 * m + 1 : Nat) : Int))) :
    Calls Try.prog 83 #[.slice a n c, .func (.func 73) #[] #[.pointer (some ⟨B, 0, .none⟩)]] w (IdxPost (above m) l w) := by
  have hl := h.lenMap
  have HS := Lib.hid h
  have HL := Lib.hid hl
  have HC := Lib.hid (fun x => nabove_any m x B w hc)
  clear h hl hc
  go_enter Try.func83, Try.ntmps83
  go_wp2
  go_loop [5, 8] (fun v i => ∃ k : Nat, k ≤ n ∧ i = .int .i64 k ∧ Hid (∀ j, j < k → above m (l.getD j 0) = false)) (fun _ i => n - (intOf i).toNat)
  case atStart => exact ⟨0, Nat.zero_le _, rfl, fun j hj => absurd hj (by omega)⟩
  case round =>
    obtain ⟨k, hk, rfl, hno⟩ := hrel
    by_cases hlt : k < n
    · obtain ⟨b, off, rfl, hbw⟩ := HS.out.addr (by omega)
      have hcx := HS.out.num k hlt
      obtain ⟨x, hx⟩ : ∃ x, x = l.getD k 0 := ⟨_, rfl⟩
      rw [← hx] at hcx
      have HX := Lib.hid hx
      clear hx
      have W1 : IntKind.i64.wrap ((k : Int) + 1) = (k : Int) + 1 := IntWalk.i64_in _ (by omega)
      obtain ⟨q, hq⟩ : ∃ q, q = above m x := ⟨_, rfl⟩
      have HQ := Lib.hid hq
      clear hq
      go_wp2_with fail
      refine (HC.out x).mono ?_
      rw [← HQ.out]
      rintro e w' ⟨rfl, rfl⟩
      cases q with
      | true =>
        go_wp2
        go_ret
        refine ⟨k, rfl, by omega, ⟨fun _ => ?_, fun _ => by omega⟩, Below.refl _ _⟩
        exact List.any_eq_true.2 ⟨l.getD k 0, getD_mem (by rw [HL.out]; exact hlt), by rw [← HX.out]; exact HQ.out.symm⟩
      | false =>
        go_wp2
        go_round
        case rel =>
          refine ⟨k + 1, by omega, by go_num, fun j hj => ?_⟩
          rcases Nat.lt_or_ge j k with h | h
          · exact hno.out j h
          · have : j = k := by omega
            subst this
            rw [← HX.out]; exact HQ.out.symm
        case measure => simp [intOf]; omega
    · have hkn : k = n := by omega
      subst hkn
      go_wp2
      go_ret
      refine ⟨-1, rfl, by omega, ⟨fun h => absurd h (by decide), fun h => ?_⟩, Below.refl _ _⟩
      rw [any_none (all_of_getD (d := 0) (fun j hj => hno.out j (by rw [← HL.out]; exact hj)))] at h
      cases h

theorem nhas_u32 (m B : Nat) (l : List Nat) (a : Option Addr) (n c : Nat) (hn : n ≤ 1048576) (w : World) (h : Sees w a n c (l.map nv32)) (hc : w.cell? ⟨B, 0, .none⟩ = some (.int .u32 ((2 * m + 1 : Nat) : Int))) :
    Calls Try.prog 74 #[.slice a n c, .func (.func 73) #[] #[.pointer (some ⟨B, 0, .none⟩)]] w (fun e w' => e = .returned (.bool (l.any (above m))) ∧ Below w.heap.size w w') := by
  have HI := Lib.hid (nidx_u32 m B l a n c hn w h hc)
  clear h hc
  obtain ⟨f, hf⟩ : ∃ f, f = Value.func (.func 73) #[] #[.pointer (some ⟨B, 0, .none⟩)] := ⟨_, rfl⟩
  rw [← hf] at HI ⊢
  have HF := Lib.hid hf
  clear hf
  go_enter Try.func74, Try.ntmps74
  go_wp2_with fail
  refine HI.out.mono ?_
  rintro e w' ⟨z, rfl, hz, hiff, hb⟩
  have e : decide (0 ≤ z) = l.any (above m) := by
    cases hq : l.any (above m) with
    | true => simpa using hiff.2 hq
    | false => simp; have := fun h => hiff.1 h; rw [hq] at this; exact Int.not_le.1 (fun h => by cases this h)
  have E := Lib.hid e
  clear e hiff
  go_wp2
  go_ret
  exact ⟨congrArg (fun b => Ending.returned (.bool b)) E.out, hb⟩

/-- The cells that the closure on latches needs. -/
structure NCaps (m B C : Nat) (w : World) : Prop where
  b : w.cell? ⟨B, 0, .none⟩ = some (.int .u32 ((2 * m + 1 : Nat) : Int))
  c : w.cell? ⟨C, 0, .none⟩ = some (.func (.func 73) #[] #[.pointer (some ⟨B, 0, .none⟩)])
theorem NCaps.below {m B C : Nat} {w w' : World} (h : NCaps m B C w) (hb : Below w.heap.size w w') : NCaps m B C w' := ⟨cell_below h.b hb, cell_below h.c hb⟩

theorem nlat_bad (m x y B C : Nat) (w : World) (h : NCaps m B C w) :
    Calls Try.prog 75 #[.agg #[.int .u32 x, .int .u8 y], .pointer (some ⟨C, 0, .none⟩)] w fun e w' => e = .returned (.bool (badLat2 m (x, y))) ∧ Below w.heap.size w w' := by
  obtain ⟨q1, h1⟩ : ∃ q, q = above m x := ⟨_, rfl⟩
  obtain ⟨q2, h2⟩ : ∃ q, q = decide ((2 : Int) < (y : Int)) := ⟨_, rfl⟩
  have hv : badLat2 m (x, y) = (q1 || q2) := by
    rw [h1, h2]
    unfold badLat2
    simp only
    congr 1
    apply decide_eq_decide.2
    omega
  rw [hv]
  have hc1 : (w.alloc (.cells #[.int .u32 x, .int .u8 y] 63)).cell? ⟨C, 0, .none⟩ = some (.func (.func 73) #[] #[.pointer (some ⟨B, 0, .none⟩)]) := (h.below (ext_alloc _ _)).c
  have HA : Hid (∀ o : Obj, Calls Try.prog 73 #[.int .u32 x, .pointer (some ⟨B, 0, .none⟩)] (w.alloc o) fun e w' => e = .returned (.bool q1) ∧ w.alloc o = w') := fun o => by
    rw [h1]
    exact nabove_any m x B (w.alloc o) (h.below (ext_alloc _ _)).b
  have H2 := Lib.hid h2
  clear h1 h2 hv h
  go_enter Try.func75, Try.ntmps75
  go_wp2_with fail
  refine (HA.out _).mono ?_
  rintro e w' ⟨rfl, rfl⟩
  cases q1 with
  | true =>
    go_wp2
    go_ret
    exact ⟨rfl, ext_alloc _ _⟩
  | false =>
    go_wp2
    go_ret
    exact ⟨by rw [H2.out]; rfl, ext_alloc _ _⟩
theorem nidx_lat (m B C : Nat) (l : List (Nat × Nat)) (a : Option Addr) (n c : Nat) (hn : n ≤ 1048576) (w : World) (h : Sees2 nv8 w a n c l) (hc : NCaps m B C w) :
    Calls Try.prog 84 #[.slice a n c, .func (.func 75) #[] #[.pointer (some ⟨C, 0, .none⟩)]] w (IdxPost (badLat2 m) l w) := by
  have hl := h.1
  have HS := Lib.hid h
  have HL := Lib.hid hl
  have HC := Lib.hid hc
  clear h hl hc
  go_enter Try.func84, Try.ntmps84
  go_wp2
  go_loopw [5, 8] (fun v i wr => ∃ k : Nat, k ≤ n ∧ i = .int .i64 k ∧ Hid (∀ j, j < k → badLat2 m (l.getD j (0, 0)) = false) ∧ Hid (Below w.heap.size w wr)) (fun _ i _ => n - (intOf i).toNat)
  case atStart => exact ⟨0, Nat.zero_le _, rfl, fun j hj => absurd hj (by omega), Below.refl _ _⟩
  case round =>
    obtain ⟨k, hk, rfl, hno, hbel⟩ := hrel
    by_cases hlt : k < n
    · obtain ⟨b, off, rfl, hbw⟩ := HS.out.addr (by omega)
      obtain ⟨hx, hy⟩ := (HS.out.below hbel.out).cells k hlt (0, 0)
      obtain ⟨t, ht⟩ : ∃ t, t = l.getD k (0, 0) := ⟨_, rfl⟩
      rw [← ht] at hx hy
      have HX := Lib.hid ht
      clear ht
      obtain ⟨x, y⟩ := t
      simp only [nv32, nv8] at hx hy
      have W1 : IntKind.i64.wrap ((k : Int) + 1) = (k : Int) + 1 := IntWalk.i64_in _ (by omega)
      obtain ⟨q, hq⟩ : ∃ q, q = badLat2 m (x, y) := ⟨_, rfl⟩
      have HQ := Lib.hid hq
      clear hq
      go_wp2_with fail
      refine (nlat_bad m x y B C wr (HC.out.below hbel.out)).mono ?_
      rw [← HQ.out]
      rintro e w' ⟨rfl, hb'⟩
      have HB' := Lib.hid (ext_trans hbel.out hb')
      clear hb' hx hy
      cases q with
      | true =>
        go_wp2
        go_ret
        refine ⟨k, rfl, by omega, ⟨fun _ => ?_, fun _ => by omega⟩, HB'.out⟩
        exact List.any_eq_true.2 ⟨l.getD k (0, 0), getD_mem (by rw [HL.out]; exact hlt), by rw [← HX.out]; exact HQ.out.symm⟩
      | false =>
        go_wp2
        go_roundw
        case rel =>
          refine ⟨k + 1, by omega, by go_num, fun j hj => ?_, HB'.out⟩
          rcases Nat.lt_or_ge j k with h | h
          · exact hno.out j h
          · have : j = k := by omega
            subst this
            rw [← HX.out]; exact HQ.out.symm
        case measure => simp [intOf]; omega
    · have hkn : k = n := by omega
      subst hkn
      go_wp2
      go_ret
      refine ⟨-1, rfl, by omega, ⟨fun h => absurd h (by decide), fun h => ?_⟩, hbel.out⟩
      rw [any_none (all_of_getD (d := ((0, 0) : Nat × Nat)) (fun j hj => hno.out j (by rw [← HL.out]; exact hj)))] at h
      cases h

theorem nhas_lat (m B C : Nat) (l : List (Nat × Nat)) (a : Option Addr) (n c : Nat) (hn : n ≤ 1048576) (w : World) (h : Sees2 nv8 w a n c l) (hc : NCaps m B C w) :
    Calls Try.prog 76 #[.slice a n c, .func (.func 75) #[] #[.pointer (some ⟨C, 0, .none⟩)]] w (fun e w' => e = .returned (.bool (l.any (badLat2 m))) ∧ Below w.heap.size w w') := by
  have HI := Lib.hid (nidx_lat m B C l a n c hn w h hc)
  clear h hc
  obtain ⟨f, hf⟩ : ∃ f, f = Value.func (.func 75) #[] #[.pointer (some ⟨C, 0, .none⟩)] := ⟨_, rfl⟩
  rw [← hf] at HI ⊢
  have HF := Lib.hid hf
  clear hf
  go_enter Try.func76, Try.ntmps76
  go_wp2_with fail
  refine HI.out.mono ?_
  rintro e w' ⟨z, rfl, hz, hiff, hb⟩
  have e : decide (0 ≤ z) = l.any (badLat2 m) := by
    cases hq : l.any (badLat2 m) with
    | true => simpa using hiff.2 hq
    | false => simp; have := fun h => hiff.1 h; rw [hq] at this; exact Int.not_le.1 (fun h => by cases this h)
  have E := Lib.hid e
  clear e hiff
  go_wp2
  go_ret
  exact ⟨congrArg (fun b => Ending.returned (.bool b)) E.out, hb⟩
end Go.Proofs.Ytcoehbkjccfhlaa
