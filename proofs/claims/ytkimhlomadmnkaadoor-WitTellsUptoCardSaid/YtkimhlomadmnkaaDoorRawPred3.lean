/- slices.ContainsFunc at the closures of raw.May that look at latches and gates. -/
import Derived.Test.YtkimhlomadmnkaaDoorRawPred
namespace Go.Proofs.YtkimhlomadmnkaaDoor
open Go Go.RowKit Go.Joins

/-- The cells that May's other closures capture. -/
structure Caps (m B C : Nat) (w : World) : Prop where
  b : w.cell? ⟨B, 0, .none⟩ = some (.int .u32 m)
  c : w.cell? ⟨C, 0, .none⟩ = some (.func (.func 91) #[] #[.pointer (some ⟨B, 0, .none⟩)])
theorem Caps.lt {m B C : Nat} {w : World} (h : Caps m B C w) : B < w.heap.size ∧ C < w.heap.size :=
  ⟨World.block_lt_of_cell? w ⟨B, 0, .none⟩ h.b, World.block_lt_of_cell? w ⟨C, 0, .none⟩ h.c⟩
theorem Caps.below {m B C : Nat} {w w' : World} (h : Caps m B C w) (hb : Below w.heap.size w w') : Caps m B C w' :=
  ⟨(hb.cell (p := ⟨B, 0, .none⟩) h.lt.1).trans h.b, (hb.cell (p := ⟨C, 0, .none⟩) h.lt.2).trans h.c⟩

theorem above_at (m x B C : Nat) (q : Bool) (hm : m ≤ 16384) (w : World) (h : Caps m B C w) (hq : q = above m x) :
    Calls Tryd.prog 91 #[.int .u32 x, .pointer (some ⟨B, 0, .none⟩)] w fun e w' => e = .returned (.bool q) ∧ w = w' := by
  subst hq; exact above_any m x B hm w h.b

theorem latch_bad (m x y z B C : Nat) (hm : m ≤ 16384) (w : World) (h : Caps m B C w) :
    Calls Tryd.prog 93 #[.agg #[.int .u32 x, .int .u32 y, .int .u32 z], .pointer (some ⟨C, 0, .none⟩)] w fun e w' => e = .returned (.bool (badLatch m (x, y, z))) ∧ Below w.heap.size w w' := by
  obtain ⟨q1, h1⟩ : ∃ q, q = above m x := ⟨_, rfl⟩
  obtain ⟨q2, h2⟩ : ∃ q, q = above m y := ⟨_, rfl⟩
  obtain ⟨q3, h3⟩ : ∃ q, q = mayReset (x, y, z) := ⟨_, rfl⟩
  have hv : badLatch m (x, y, z) = (q1 || q2 || !q3) := by subst h1; subst h2; subst h3; rfl
  rw [hv]
  have hc1 : (w.alloc (.cells #[.int .u32 x, .int .u32 y, .int .u32 z] 81)).cell? ⟨C, 0, .none⟩ = some (.func (.func 91) #[] #[.pointer (some ⟨B, 0, .none⟩)]) := (h.below (ext_alloc _ _)).c
  have HC := fun o : Obj => (above_at m x B C q1 hm (w.alloc o) (h.below (ext_alloc _ _)) h1)
  have HC2 := fun o : Obj => (above_at m y B C q2 hm (w.alloc o) (h.below (ext_alloc _ _)) h2)
  have HA := Lib.hid HC
  have HA2 := Lib.hid HC2
  have H3 := Lib.hid h3
  clear HC HC2 h1 h2 h3 hv h
  go_enter Tryd.func93, Tryd.ntmps93
  go_wp2_with fail
  refine (HA.out _).mono ?_
  rintro e w' ⟨rfl, rfl⟩
  cases q1 with
  | true =>
    go_wp2
    go_ret
    exact ⟨rfl, ext_alloc _ _⟩
  | false =>
    go_wp2_with fail
    refine (HA2.out _).mono ?_
    rintro e w' ⟨rfl, rfl⟩
    cases q2 with
    | true =>
      go_wp2
      go_ret
      exact ⟨rfl, ext_alloc _ _⟩
    | false =>
      go_wp2_with fail
      refine (mayReset_any x y z _).mono ?_
      rw [← H3.out]
      rintro e w' ⟨rfl, hb⟩
      go_wp2
      go_ret
      exact ⟨rfl, ext_behind hb⟩

theorem gate_bad (m x y z B C : Nat) (hm : m ≤ 16384) (w : World) (h : Caps m B C w) :
    Calls Tryd.prog 95 #[.agg #[.int .u32 x, .int .u32 y, .int .u32 z], .pointer (some ⟨C, 0, .none⟩)] w fun e w' => e = .returned (.bool (badGate m (x, y, z))) ∧ Below w.heap.size w w' := by
  obtain ⟨q1, h1⟩ : ∃ q, q = above m x := ⟨_, rfl⟩
  obtain ⟨q2, h2⟩ : ∃ q, q = above m y := ⟨_, rfl⟩
  obtain ⟨q3, h3⟩ : ∃ q, q = above m z := ⟨_, rfl⟩
  have hv : badGate m (x, y, z) = (q1 || q2 || q3) := by subst h1; subst h2; subst h3; rfl
  rw [hv]
  have hc1 : (w.alloc (.cells #[.int .u32 x, .int .u32 y, .int .u32 z] 84)).cell? ⟨C, 0, .none⟩ = some (.func (.func 91) #[] #[.pointer (some ⟨B, 0, .none⟩)]) := (h.below (ext_alloc _ _)).c
  have HC := fun o : Obj => (above_at m x B C q1 hm (w.alloc o) (h.below (ext_alloc _ _)) h1)
  have HC2 := fun o : Obj => (above_at m y B C q2 hm (w.alloc o) (h.below (ext_alloc _ _)) h2)
  have HC3 := fun o : Obj => (above_at m z B C q3 hm (w.alloc o) (h.below (ext_alloc _ _)) h3)
  have HA := Lib.hid HC
  have HA2 := Lib.hid HC2
  have HA3 := Lib.hid HC3
  clear HC HC2 HC3 h1 h2 h3 hv h
  go_enter Tryd.func95, Tryd.ntmps95
  go_wp2_with fail
  refine (HA.out _).mono ?_
  rintro e w' ⟨rfl, rfl⟩
  cases q1 with
  | true =>
    go_wp2
    go_ret
    exact ⟨rfl, ext_alloc _ _⟩
  | false =>
    go_wp2_with fail
    refine (HA2.out _).mono ?_
    rintro e w' ⟨rfl, rfl⟩
    cases q2 with
    | true =>
      go_wp2
      go_ret
      exact ⟨rfl, ext_alloc _ _⟩
    | false =>
      go_wp2_with fail
      refine (HA3.out _).mono ?_
      rintro e w' ⟨rfl, rfl⟩
      go_wp2
      go_ret
      exact ⟨rfl, ext_alloc _ _⟩

theorem idx_lat (m B C : Nat) (l : List Tri) (a : Option Addr) (n c : Nat) (hm : m ≤ 16384) (hn : n ≤ 140737488355328) (w : World) (h : Sees3 w a n c l) (hc : Caps m B C w) :
    Calls Tryd.prog 108 #[.slice a n c, .func (.func 93) #[] #[.pointer (some ⟨C, 0, .none⟩)]] w (IdxPost (badLatch m) l w) := by
  have hl := h.1
  have HS := Lib.hid h
  have HL := Lib.hid hl
  have HC := Lib.hid hc
  clear h hl hc
  go_enter Tryd.func108, Tryd.ntmps108
  go_wp2
  go_loopw [5, 8] (fun v i wr => ∃ k : Nat, k ≤ n ∧ i = .int .i64 k ∧ Hid (∀ j, j < k → badLatch m (l.getD j (0, 0, 0)) = false) ∧ Hid (Below w.heap.size w wr)) (fun _ i _ => n - (intOf i).toNat)
  case atStart => exact ⟨0, Nat.zero_le _, rfl, fun j hj => absurd hj (by omega), Below.refl _ _⟩
  case round =>
    obtain ⟨k, hk, rfl, hno, hbel⟩ := hrel
    by_cases hlt : k < n
    · obtain ⟨b, off, rfl, hbw⟩ := HS.out.addr (by omega)
      obtain ⟨hx, hy, hz⟩ := (HS.out.below hbel.out).cells k hlt (0, 0, 0)
      obtain ⟨t, ht⟩ : ∃ t, t = l.getD k (0, 0, 0) := ⟨_, rfl⟩
      rw [← ht] at hx hy hz
      have HX := Lib.hid ht
      clear ht
      obtain ⟨x, y, z⟩ := t
      unfold nv32 at hx hy hz
      have W1 : IntKind.i64.wrap ((k : Int) + 1) = (k : Int) + 1 := IntWalk.i64_in _ (by omega)
      obtain ⟨q, hq⟩ : ∃ q, q = badLatch m (x, y, z) := ⟨_, rfl⟩
      have HQ := Lib.hid hq
      clear hq
      go_wp2_with fail
      refine (latch_bad m x y z B C hm wr (HC.out.below hbel.out)).mono ?_
      rw [← HQ.out]
      rintro e w' ⟨rfl, hb'⟩
      have HB' := Lib.hid (ext_trans hbel.out hb')
      clear hb' hx hy hz
      cases q with
      | true =>
        go_wp2
        go_ret
        refine ⟨k, rfl, by omega, ⟨fun _ => ?_, fun _ => by omega⟩, HB'.out⟩
        exact List.any_eq_true.2 ⟨l.getD k (0, 0, 0), getD_mem (by rw [HL.out]; exact hlt), by rw [← HX.out]; exact HQ.out.symm⟩
      | false =>
        go_wp2
        go_roundw
        case rel =>
          refine ⟨k + 1, by omega, by go_num, fun j hj => ?_, HB'.out⟩
          rcases Nat.lt_or_ge j k with h | h
          · exact hno.out j h
          · have : j = k := by omega
            subst this
            rw [← HX.out]; exact HQ.out.symm
        case measure => simp [intOf]; omega
    · have hkn : k = n := by omega
      subst hkn
      go_wp2
      go_ret
      refine ⟨-1, rfl, by omega, ⟨fun h => absurd h (by decide), fun h => ?_⟩, hbel.out⟩
      rw [any_none (all_of_getD (d := ((0, 0, 0) : Tri)) (fun j hj => hno.out j (by rw [← HL.out]; exact hj)))] at h
      cases h

theorem has_lat (m B C : Nat) (l : List Tri) (a : Option Addr) (n c : Nat) (hm : m ≤ 16384) (hn : n ≤ 140737488355328) (w : World) (h : Sees3 w a n c l) (hc : Caps m B C w) :
    Calls Tryd.prog 96 #[.slice a n c, .func (.func 93) #[] #[.pointer (some ⟨C, 0, .none⟩)]] w (fun e w' => e = .returned (.bool (l.any (badLatch m))) ∧ Below w.heap.size w w') := by
  have HI := Lib.hid (idx_lat m B C l a n c hm hn w h hc)
  clear h hc
  obtain ⟨f, hf⟩ : ∃ f, f = Value.func (.func 93) #[] #[.pointer (some ⟨C, 0, .none⟩)] := ⟨_, rfl⟩
  rw [← hf] at HI ⊢
  have HF := Lib.hid hf
  clear hf
  go_enter Tryd.func96, Tryd.ntmps96
  go_wp2_with fail
  refine HI.out.mono ?_
  rintro e w' ⟨z, rfl, hz, hiff, hb⟩
  have e : decide (0 ≤ z) = l.any (badLatch m) := by
    cases hq : l.any (badLatch m) with
    | true => simpa using hiff.2 hq
    | false => simp; have := fun h => hiff.1 h; rw [hq] at this; exact Int.not_le.1 (fun h => by cases this h)
  have E := Lib.hid e
  clear e hiff
  go_wp2
  go_ret
  exact ⟨congrArg (fun b => Ending.returned (.bool b)) E.out, hb⟩

theorem idx_gate (m B C : Nat) (l : List Tri) (a : Option Addr) (n c : Nat) (hm : m ≤ 16384) (hn : n ≤ 140737488355328) (w : World) (h : Sees3 w a n c l) (hc : Caps m B C w) :
    Calls Tryd.prog 109 #[.slice a n c, .func (.func 95) #[] #[.pointer (some ⟨C, 0, .none⟩)]] w (IdxPost (badGate m) l w) := by
  have hl := h.1
  have HS := Lib.hid h
  have HL := Lib.hid hl
  have HC := Lib.hid hc
  clear h hl hc
  go_enter Tryd.func109, Tryd.ntmps109
  go_wp2
  go_loopw [5, 8] (fun v i wr => ∃ k : Nat, k ≤ n ∧ i = .int .i64 k ∧ Hid (∀ j, j < k → badGate m (l.getD j (0, 0, 0)) = false) ∧ Hid (Below w.heap.size w wr)) (fun _ i _ => n - (intOf i).toNat)
  case atStart => exact ⟨0, Nat.zero_le _, rfl, fun j hj => absurd hj (by omega), Below.refl _ _⟩
  case round =>
    obtain ⟨k, hk, rfl, hno, hbel⟩ := hrel
    by_cases hlt : k < n
    · obtain ⟨b, off, rfl, hbw⟩ := HS.out.addr (by omega)
      obtain ⟨hx, hy, hz⟩ := (HS.out.below hbel.out).cells k hlt (0, 0, 0)
      obtain ⟨t, ht⟩ : ∃ t, t = l.getD k (0, 0, 0) := ⟨_, rfl⟩
      rw [← ht] at hx hy hz
      have HX := Lib.hid ht
      clear ht
      obtain ⟨x, y, z⟩ := t
      unfold nv32 at hx hy hz
      have W1 : IntKind.i64.wrap ((k : Int) + 1) = (k : Int) + 1 := IntWalk.i64_in _ (by omega)
      obtain ⟨q, hq⟩ : ∃ q, q = badGate m (x, y, z) := ⟨_, rfl⟩
      have HQ := Lib.hid hq
      clear hq
      go_wp2_with fail
      refine (gate_bad m x y z B C hm wr (HC.out.below hbel.out)).mono ?_
      rw [← HQ.out]
      rintro e w' ⟨rfl, hb'⟩
      have HB' := Lib.hid (ext_trans hbel.out hb')
      clear hb' hx hy hz
      cases q with
      | true =>
        go_wp2
        go_ret
        refine ⟨k, rfl, by omega, ⟨fun _ => ?_, fun _ => by omega⟩, HB'.out⟩
        exact List.any_eq_true.2 ⟨l.getD k (0, 0, 0), getD_mem (by rw [HL.out]; exact hlt), by rw [← HX.out]; exact HQ.out.symm⟩
      | false =>
        go_wp2
        go_roundw
        case rel =>
          refine ⟨k + 1, by omega, by go_num, fun j hj => ?_, HB'.out⟩
          rcases Nat.lt_or_ge j k with h | h
          · exact hno.out j h
          · have : j = k := by omega
            subst this
            rw [← HX.out]; exact HQ.out.symm
        case measure => simp [intOf]; omega
    · have hkn : k = n := by omega
      subst hkn
      go_wp2
      go_ret
      refine ⟨-1, rfl, by omega, ⟨fun h => absurd h (by decide), fun h => ?_⟩, hbel.out⟩
      rw [any_none (all_of_getD (d := ((0, 0, 0) : Tri)) (fun j hj => hno.out j (by rw [← HL.out]; exact hj)))] at h
      cases h

theorem has_gate (m B C : Nat) (l : List Tri) (a : Option Addr) (n c : Nat) (hm : m ≤ 16384) (hn : n ≤ 140737488355328) (w : World) (h : Sees3 w a n c l) (hc : Caps m B C w) :
    Calls Tryd.prog 97 #[.slice a n c, .func (.func 95) #[] #[.pointer (some ⟨C, 0, .none⟩)]] w (fun e w' => e = .returned (.bool (l.any (badGate m))) ∧ Below w.heap.size w w') := by
  have HI := Lib.hid (idx_gate m B C l a n c hm hn w h hc)
  clear h hc
  obtain ⟨f, hf⟩ : ∃ f, f = Value.func (.func 95) #[] #[.pointer (some ⟨C, 0, .none⟩)] := ⟨_, rfl⟩
  rw [← hf] at HI ⊢
  have HF := Lib.hid hf
  clear hf
  go_enter Tryd.func97, Tryd.ntmps97
  go_wp2_with fail
  refine HI.out.mono ?_
  rintro e w' ⟨z, rfl, hz, hiff, hb⟩
  have e : decide (0 ≤ z) = l.any (badGate m) := by
    cases hq : l.any (badGate m) with
    | true => simpa using hiff.2 hq
    | false => simp; have := fun h => hiff.1 h; rw [hq] at this; exact Int.not_le.1 (fun h => by cases this h)
  have E := Lib.hid e
  clear e hiff
  go_wp2
  go_ret
  exact ⟨congrArg (fun b => Ending.returned (.bool b)) E.out, hb⟩

end Go.Proofs.YtkimhlomadmnkaaDoor
