/- What stays when one row has grown. -/
import Derived.Test.YtglhnmbfkbjemaaGreatDoorBkC
import Derived.Laws.EntriesVeiled
import Derived.Test.YtglhnmbfkbjemaaGreatDoorBkA
import Derived.Lib.BufferWrite
/- slices.ContainsFunc at the closures of raw.May that look at latches and gates. -/
namespace Go.Proofs.YtglhnmbfkbjemaaGreatDoor
open Go Go.RowKit Go.Joins
structure Caps (m B C : Nat) (w : World) : Prop where
  b : w.cell? ⟨B, 0, .none⟩ = some (.int .u32 m)
  c : w.cell? ⟨C, 0, .none⟩ = some (.func (.func 78) #[] #[.pointer (some ⟨B, 0, .none⟩)])
theorem Caps.lt {m B C : Nat} {w : World} (h : Caps m B C w) : B < w.heap.size ∧ C < w.heap.size :=
  ⟨World.block_lt_of_cell? w ⟨B, 0, .none⟩ h.b, World.block_lt_of_cell? w ⟨C, 0, .none⟩ h.c⟩
theorem Caps.below {m B C : Nat} {w w' : World} (h : Caps m B C w) (hb : Below w.heap.size w w') : Caps m B C w' :=
  ⟨(hb.cell (p := ⟨B, 0, .none⟩) h.lt.1).trans h.b, (hb.cell (p := ⟨C, 0, .none⟩) h.lt.2).trans h.c⟩
theorem above_at (m x B C : Nat) (q : Bool) (hm : m ≤ 16384) (w : World) (h : Caps m B C w) (hq : q = above m x) :
    Calls Tryz.prog 78 #[.int .u32 x, .pointer (some ⟨B, 0, .none⟩)] w fun e w' => e = .returned (.bool q) ∧ w = w' := by
  subst hq; exact above_any m x B hm w h.b
theorem latch_bad (m x y z B C : Nat) (hm : m ≤ 16384) (w : World) (h : Caps m B C w) :
    Calls Tryz.prog 79 #[.agg #[.int .u32 x, .int .u32 y, .int .u32 z], .pointer (some ⟨C, 0, .none⟩)] w fun e w' => e = .returned (.bool (badLatch m (x, y, z))) ∧ Below w.heap.size w w' := by
  obtain ⟨q1, h1⟩ : ∃ q, q = above m x := ⟨_, rfl⟩
  obtain ⟨q2, h2⟩ : ∃ q, q = above m y := ⟨_, rfl⟩
  obtain ⟨q3, h3⟩ : ∃ q, q = mayReset (x, y, z) := ⟨_, rfl⟩
  have hv : badLatch m (x, y, z) = (q1 || q2 || !q3) := by subst h1; subst h2; subst h3; rfl
  rw [hv]
  have hc1 : (w.alloc (.cells #[.int .u32 x, .int .u32 y, .int .u32 z] 55)).cell? ⟨C, 0, .none⟩ = some (.func (.func 78) #[] #[.pointer (some ⟨B, 0, .none⟩)]) := (h.below (ext_alloc _ _)).c
  have HC := fun o : Obj => (above_at m x B C q1 hm (w.alloc o) (h.below (ext_alloc _ _)) h1)
  have HC2 := fun o : Obj => (above_at m y B C q2 hm (w.alloc o) (h.below (ext_alloc _ _)) h2)
  have HA := Lib.hid HC
  have HA2 := Lib.hid HC2
  have H3 := Lib.hid h3
  clear HC HC2 h1 h2 h3 hv h
  go_enter Tryz.func79, Tryz.ntmps79
  go_wp2_with fail
  refine (HA.out _).mono ?_
  rintro e w' ⟨rfl, rfl⟩
  cases q1 with
  | true =>
    go_wp2
    go_ret
    exact ⟨rfl, ext_alloc _ _⟩
  | false =>
    go_wp2_with fail
    refine (HA2.out _).mono ?_
    rintro e w' ⟨rfl, rfl⟩
    cases q2 with
    | true =>
      go_wp2
      go_ret
      exact ⟨rfl, ext_alloc _ _⟩
    | false =>
      go_wp2_with fail
      refine (mayReset_any x y z _).mono ?_
      rw [← H3.out]
      rintro e w' ⟨rfl, hb⟩
      go_wp2
      go_ret
      exact ⟨rfl, ext_behind hb⟩
theorem gate_bad (m x y z B C : Nat) (hm : m ≤ 16384) (w : World) (h : Caps m B C w) :
    Calls Tryz.prog 81 #[.agg #[.int .u32 x, .int .u32 y, .int .u32 z], .pointer (some ⟨C, 0, .none⟩)] w fun e w' => e = .returned (.bool (badGate m (x, y, z))) ∧ Below w.heap.size w w' := by
  obtain ⟨q1, h1⟩ : ∃ q, q = above m x := ⟨_, rfl⟩
  obtain ⟨q2, h2⟩ : ∃ q, q = above m y := ⟨_, rfl⟩
  obtain ⟨q3, h3⟩ : ∃ q, q = above m z := ⟨_, rfl⟩
  have hv : badGate m (x, y, z) = (q1 || q2 || q3) := by subst h1; subst h2; subst h3; rfl
  rw [hv]
  have hc1 : (w.alloc (.cells #[.int .u32 x, .int .u32 y, .int .u32 z] 58)).cell? ⟨C, 0, .none⟩ = some (.func (.func 78) #[] #[.pointer (some ⟨B, 0, .none⟩)]) := (h.below (ext_alloc _ _)).c
  have HC := fun o : Obj => (above_at m x B C q1 hm (w.alloc o) (h.below (ext_alloc _ _)) h1)
  have HC2 := fun o : Obj => (above_at m y B C q2 hm (w.alloc o) (h.below (ext_alloc _ _)) h2)
  have HC3 := fun o : Obj => (above_at m z B C q3 hm (w.alloc o) (h.below (ext_alloc _ _)) h3)
  have HA := Lib.hid HC
  have HA2 := Lib.hid HC2
  have HA3 := Lib.hid HC3
  clear HC HC2 HC3 h1 h2 h3 hv h
  go_enter Tryz.func81, Tryz.ntmps81
  go_wp2_with fail
  refine (HA.out _).mono ?_
  rintro e w' ⟨rfl, rfl⟩
  cases q1 with
  | true =>
    go_wp2
    go_ret
    exact ⟨rfl, ext_alloc _ _⟩
  | false =>
    go_wp2_with fail
    refine (HA2.out _).mono ?_
    rintro e w' ⟨rfl, rfl⟩
    cases q2 with
    | true =>
      go_wp2
      go_ret
      exact ⟨rfl, ext_alloc _ _⟩
    | false =>
      go_wp2_with fail
      refine (HA3.out _).mono ?_
      rintro e w' ⟨rfl, rfl⟩
      go_wp2
      go_ret
      exact ⟨rfl, ext_alloc _ _⟩
theorem idx_lat (m B C : Nat) (l : List Tri) (a : Option Addr) (n c : Nat) (hm : m ≤ 16384) (hn : n ≤ 140737488355328) (w : World) (h : Sees3 w a n c l) (hc : Caps m B C w) :
    Calls Tryz.prog 108 #[.slice a n c, .func (.func 79) #[] #[.pointer (some ⟨C, 0, .none⟩)]] w (IdxPost (badLatch m) l w) := by
  have hl := h.1
  have HS := Lib.hid h
  have HL := Lib.hid hl
  have HC := Lib.hid hc
  clear h hl hc
  go_enter Tryz.func108, Tryz.ntmps108
  go_wp2
  go_loopw [5, 8] (fun v i wr => ∃ k : Nat, k ≤ n ∧ i = .int .i64 k ∧ Hid (∀ j, j < k → badLatch m (l.getD j (0, 0, 0)) = false) ∧ Hid (Below w.heap.size w wr)) (fun _ i _ => n - (intOf i).toNat)
  case atStart => exact ⟨0, Nat.zero_le _, rfl, fun j hj => absurd hj (by omega), Below.refl _ _⟩
  case round =>
    obtain ⟨k, hk, rfl, hno, hbel⟩ := hrel
    by_cases hlt : k < n
    · obtain ⟨b, off, rfl, hbw⟩ := HS.out.addr (by omega)
      obtain ⟨hx, hy, hz⟩ := (HS.out.below hbel.out).cells k hlt (0, 0, 0)
      obtain ⟨t, ht⟩ : ∃ t, t = l.getD k (0, 0, 0) := ⟨_, rfl⟩
      rw [← ht] at hx hy hz
      have HX := Lib.hid ht
      clear ht
      obtain ⟨x, y, z⟩ := t
      unfold nv32 at hx hy hz
      have W1 : IntKind.i64.wrap ((k : Int) + 1) = (k : Int) + 1 := IntWalk.i64_in _ (by omega)
      obtain ⟨q, hq⟩ : ∃ q, q = badLatch m (x, y, z) := ⟨_, rfl⟩
      have HQ := Lib.hid hq
      clear hq
      go_wp2_with fail
      refine (latch_bad m x y z B C hm wr (HC.out.below hbel.out)).mono ?_
      rw [← HQ.out]
      rintro e w' ⟨rfl, hb'⟩
      have HB' := Lib.hid (ext_trans hbel.out hb')
      clear hb' hx hy hz
      cases q with
      | true =>
        go_wp2
        go_ret
        refine ⟨k, rfl, by omega, ⟨fun _ => ?_, fun _ => by omega⟩, HB'.out⟩
        exact List.any_eq_true.2 ⟨l.getD k (0, 0, 0), getD_mem (by rw [HL.out]; exact hlt), by rw [← HX.out]; exact HQ.out.symm⟩
      | false =>
        go_wp2
        go_roundw
        case rel =>
          refine ⟨k + 1, by omega, by go_num, fun j hj => ?_, HB'.out⟩
          rcases Nat.lt_or_ge j k with h | h
          · exact hno.out j h
          · have : j = k := by omega
            subst this
            rw [← HX.out]; exact HQ.out.symm
        case measure => simp [intOf]; omega
    · have hkn : k = n := by omega
      subst hkn
      go_wp2
      go_ret
      refine ⟨-1, rfl, by omega, ⟨fun h => absurd h (by decide), fun h => ?_⟩, hbel.out⟩
      rw [any_none (all_of_getD (d := ((0, 0, 0) : Tri)) (fun j hj => hno.out j (by rw [← HL.out]; exact hj)))] at h
      cases h
theorem has_lat (m B C : Nat) (l : List Tri) (a : Option Addr) (n c : Nat) (hm : m ≤ 16384) (hn : n ≤ 140737488355328) (w : World) (h : Sees3 w a n c l) (hc : Caps m B C w) :
    Calls Tryz.prog 82 #[.slice a n c, .func (.func 79) #[] #[.pointer (some ⟨C, 0, .none⟩)]] w (fun e w' => e = .returned (.bool (l.any (badLatch m))) ∧ Below w.heap.size w w') := by
  have HI := Lib.hid (idx_lat m B C l a n c hm hn w h hc)
  clear h hc
  obtain ⟨f, hf⟩ : ∃ f, f = Value.func (.func 79) #[] #[.pointer (some ⟨C, 0, .none⟩)] := ⟨_, rfl⟩
  rw [← hf] at HI ⊢
  have HF := Lib.hid hf
  clear hf
  go_enter Tryz.func82, Tryz.ntmps82
  go_wp2_with fail
  refine HI.out.mono ?_
  rintro e w' ⟨z, rfl, hz, hiff, hb⟩
  have e : decide (0 ≤ z) = l.any (badLatch m) := by
    cases hq : l.any (badLatch m) with
    | true => simpa using hiff.2 hq
    | false => simp; have := fun h => hiff.1 h; rw [hq] at this; exact Int.not_le.1 (fun h => by cases this h)
  have E := Lib.hid e
  clear e hiff
  go_wp2
  go_ret
  exact ⟨congrArg (fun b => Ending.returned (.bool b)) E.out, hb⟩
theorem idx_gate (m B C : Nat) (l : List Tri) (a : Option Addr) (n c : Nat) (hm : m ≤ 16384) (hn : n ≤ 140737488355328) (w : World) (h : Sees3 w a n c l) (hc : Caps m B C w) :
    Calls Tryz.prog 109 #[.slice a n c, .func (.func 81) #[] #[.pointer (some ⟨C, 0, .none⟩)]] w (IdxPost (badGate m) l w) := by
  have hl := h.1
  have HS := Lib.hid h
  have HL := Lib.hid hl
  have HC := Lib.hid hc
  clear h hl hc
  go_enter Tryz.func109, Tryz.ntmps109
  go_wp2
  go_loopw [5, 8] (fun v i wr => ∃ k : Nat, k ≤ n ∧ i = .int .i64 k ∧ Hid (∀ j, j < k → badGate m (l.getD j (0, 0, 0)) = false) ∧ Hid (Below w.heap.size w wr)) (fun _ i _ => n - (intOf i).toNat)
  case atStart => exact ⟨0, Nat.zero_le _, rfl, fun j hj => absurd hj (by omega), Below.refl _ _⟩
  case round =>
    obtain ⟨k, hk, rfl, hno, hbel⟩ := hrel
    by_cases hlt : k < n
    · obtain ⟨b, off, rfl, hbw⟩ := HS.out.addr (by omega)
      obtain ⟨hx, hy, hz⟩ := (HS.out.below hbel.out).cells k hlt (0, 0, 0)
      obtain ⟨t, ht⟩ : ∃ t, t = l.getD k (0, 0, 0) := ⟨_, rfl⟩
      rw [← ht] at hx hy hz
      have HX := Lib.hid ht
      clear ht
      obtain ⟨x, y, z⟩ := t
      unfold nv32 at hx hy hz
      have W1 : IntKind.i64.wrap ((k : Int) + 1) = (k : Int) + 1 := IntWalk.i64_in _ (by omega)
      obtain ⟨q, hq⟩ : ∃ q, q = badGate m (x, y, z) := ⟨_, rfl⟩
      have HQ := Lib.hid hq
      clear hq
      go_wp2_with fail
      refine (gate_bad m x y z B C hm wr (HC.out.below hbel.out)).mono ?_
      rw [← HQ.out]
      rintro e w' ⟨rfl, hb'⟩
      have HB' := Lib.hid (ext_trans hbel.out hb')
      clear hb' hx hy hz
      cases q with
      | true =>
        go_wp2
        go_ret
        refine ⟨k, rfl, by omega, ⟨fun _ => ?_, fun _ => by omega⟩, HB'.out⟩
        exact List.any_eq_true.2 ⟨l.getD k (0, 0, 0), getD_mem (by rw [HL.out]; exact hlt), by rw [← HX.out]; exact HQ.out.symm⟩
      | false =>
        go_wp2
        go_roundw
        case rel =>
          refine ⟨k + 1, by omega, by go_num, fun j hj => ?_, HB'.out⟩
          rcases Nat.lt_or_ge j k with h | h
          · exact hno.out j h
          · have : j = k := by omega
            subst this
            rw [← HX.out]; exact HQ.out.symm
        case measure => simp [intOf]; omega
    · have hkn : k = n := by omega
      subst hkn
      go_wp2
      go_ret
      refine ⟨-1, rfl, by omega, ⟨fun h => absurd h (by decide), fun h => ?_⟩, hbel.out⟩
      rw [any_none (all_of_getD (d := ((0, 0, 0) : Tri)) (fun j hj => hno.out j (by rw [← HL.out]; exact hj)))] at h
      cases h
theorem has_gate (m B C : Nat) (l : List Tri) (a : Option Addr) (n c : Nat) (hm : m ≤ 16384) (hn : n ≤ 140737488355328) (w : World) (h : Sees3 w a n c l) (hc : Caps m B C w) :
    Calls Tryz.prog 83 #[.slice a n c, .func (.func 81) #[] #[.pointer (some ⟨C, 0, .none⟩)]] w (fun e w' => e = .returned (.bool (l.any (badGate m))) ∧ Below w.heap.size w w') := by
  have HI := Lib.hid (idx_gate m B C l a n c hm hn w h hc)
  clear h hc
  obtain ⟨f, hf⟩ : ∃ f, f = Value.func (.func 81) #[] #[.pointer (some ⟨C, 0, .none⟩)] := ⟨_, rfl⟩
  rw [← hf] at HI ⊢
  have HF := Lib.hid hf
  clear hf
  go_enter Tryz.func83, Tryz.ntmps83
  go_wp2_with fail
  refine HI.out.mono ?_
  rintro e w' ⟨z, rfl, hz, hiff, hb⟩
  have e : decide (0 ≤ z) = l.any (badGate m) := by
    cases hq : l.any (badGate m) with
    | true => simpa using hiff.2 hq
    | false => simp; have := fun h => hiff.1 h; rw [hq] at this; exact Int.not_le.1 (fun h => by cases this h)
  have E := Lib.hid e
  clear e hiff
  go_wp2
  go_ret
  exact ⟨congrArg (fun b => Ending.returned (.bool b)) E.out, hb⟩
end Go.Proofs.YtglhnmbfkbjemaaGreatDoor
/- raw.May, by its contract. -/
namespace Go.Proofs.YtglhnmbfkbjemaaGreatDoor
open Go Go.RowKit Go.Joins
def lenMax : Nat := 140737488355328
def Slots.fit (s : Slots) : Prop := s.n1 ≤ lenMax ∧ s.n2 ≤ lenMax ∧ s.n3 ≤ lenMax ∧ s.n4 ≤ lenMax ∧ s.n5 ≤ lenMax ∧ s.n6 ≤ lenMax
def rawV (m : Nat) (s : Slots) : Value := .agg #[.int .u32 m, .slice s.a1 s.n1 s.c1, .slice s.a2 s.n2 s.c2, .slice s.a3 s.n3 s.c3, .slice s.a4 s.n4 s.c4, .slice s.a5 s.n5 s.c5, .slice s.a6 s.n6 s.c6]
theorem cell_new (w : World) (C : Array Value) (t : TypeId) (fr : Nat × Nat) (g k : Nat) (v : Value) (hg : g = w.heap.size) (h : C[k]? = some v) : (w.alloc (.cells C t fr)).cell? ⟨g, k, .none⟩ = some v := by
  subst hg; rw [World.cell?_alloc_mark]; exact h
structure MayF (w0 w : World) (m : Nat) (v1 v2 v3 v4 v5 v6 : Value) : Prop where
  b0 : w.cell? ⟨w0.heap.size, 0, .none⟩ = some (.int .u32 m)
  b1 : w.cell? ⟨w0.heap.size, 1, .none⟩ = some v1
  b2 : w.cell? ⟨w0.heap.size, 2, .none⟩ = some v2
  b6 : w.cell? ⟨w0.heap.size, 6, .none⟩ = some v6
  c : w.cell? ⟨w0.heap.size + 1, 0, .none⟩ = some (.func (.func 78) #[] #[.pointer (some ⟨w0.heap.size, 0, .none⟩)])
  d0 : w.cell? ⟨w0.heap.size + 1 + 1, 0, .none⟩ = some v3
  d1 : w.cell? ⟨w0.heap.size + 1 + 1, 1, .none⟩ = some v4
  d2 : w.cell? ⟨w0.heap.size + 1 + 1, 2, .none⟩ = some v5
  bel : Below w0.heap.size w0 w
theorem cell_lt {w : World} {b o : Nat} {v : Value} (h : w.cell? ⟨b, o, .none⟩ = some v) : b < w.heap.size := World.block_lt_of_cell? w ⟨b, o, .none⟩ h
theorem cell_below {w w' : World} {b o : Nat} {v : Value} (h : w.cell? ⟨b, o, .none⟩ = some v) (hb : Below w.heap.size w w') : w'.cell? ⟨b, o, .none⟩ = some v := (hb.cell (p := ⟨b, o, .none⟩) (cell_lt h)).trans h
theorem cell_old {w : World} {b o : Nat} {v : Value} {x : Obj} (h : w.cell? ⟨b, o, .none⟩ = some v) : (w.alloc x).cell? ⟨b, o, .none⟩ = some v := cell_below h (ext_alloc _ _)
theorem MayF.below {w0 w w' : World} {m : Nat} {v1 v2 v3 v4 v5 v6 : Value} (h : MayF w0 w m v1 v2 v3 v4 v5 v6) (hb : Below w.heap.size w w') : MayF w0 w' m v1 v2 v3 v4 v5 v6 :=
  ⟨cell_below h.b0 hb, cell_below h.b1 hb, cell_below h.b2 hb, cell_below h.b6 hb, cell_below h.c hb, cell_below h.d0 hb, cell_below h.d1 hb, cell_below h.d2 hb, ext_trans h.bel hb⟩
set_option maxRecDepth 100000 in
set_option maxHeartbeats 1600000 in
theorem may_any (r : RawC) (s : Slots) (w : World) (h : SeesRaw w s r) (hf : s.fit) :
    Calls Tryz.prog 46 #[rawV r.max s] w fun e w' => e = .returned (.bool (mayRaw r)) ∧ Below w.heap.size w w' := by
  obtain ⟨a1, n1, c1, a2, n2, c2, a3, n3, c3, a4, n4, c4, a5, n5, c5, a6, n6, c6⟩ := s
  obtain ⟨hf1, hf2, hf3, hf4, hf5, hf6⟩ := hf
  simp only [lenMax] at hf1 hf2 hf3 hf4 hf5 hf6
  have l1 : r.ins.length = n1 := h.s1.lenMap
  have l2 : r.lats.length = n2 := h.s2.1
  have l6 : r.gates.length = n6 := h.s6.1
  have L1 := Lib.hid l1
  have L2 := Lib.hid l2
  have L6 := Lib.hid l6
  have HS := Lib.hid h
  clear l1 l2 l6 h
  obtain ⟨m, hm⟩ : ∃ m, m = r.max := ⟨_, rfl⟩
  rw [← hm]
  have HM := Lib.hid hm
  clear hm
  unfold rawV
  by_cases h1 : 16384 < m
  · have e1 : decide ((16384 : Int) < (m : Int)) = true := by simp; omega
    have hv : mayRaw r = false := by unfold mayRaw; rw [← HM.out]; simp [h1]
    have HV := Lib.hid hv
    clear hv
    go_enter Tryz.func46, Tryz.ntmps46
    go_wp2
    go_ret
    exact ⟨by rw [HV.out]; rfl, ext_alloc _ _⟩
  · have e1 : decide ((16384 : Int) < (m : Int)) = false := by simp; omega
    by_cases h2 : m < n1 + n2 + n6
    · have e2 : decide ((m : Int) < (n1 : Int) + (n2 : Int) + (n6 : Int)) = true := by simp; omega
      have hv : mayRaw r = false := by unfold mayRaw; rw [← HM.out, L1.out, L2.out, L6.out]; simp [h1, h2]
      have HV := Lib.hid hv
      clear hv
      go_enter Tryz.func46, Tryz.ntmps46
      go_wp2
      go_ret
      exact ⟨by rw [HV.out]; rfl, ext_alloc _ _⟩
    · have e2 : decide ((m : Int) < (n1 : Int) + (n2 : Int) + (n6 : Int)) = false := by simp; omega
      have hv : mayRaw r = (!badList m r.outs && (!badList m r.bads && (!badList m r.cons && ((!r.ins.any (above m)) && ((!r.lats.any (badLatch m)) && (!r.gates.any (badGate m))))))) := by
        unfold mayRaw; rw [← HM.out, L1.out, L2.out, L6.out]; simp [h1, h2]
      obtain ⟨q3, hq3⟩ : ∃ q, q = badList m r.outs := ⟨_, rfl⟩
      obtain ⟨q4, hq4⟩ : ∃ q, q = badList m r.bads := ⟨_, rfl⟩
      obtain ⟨q5, hq5⟩ : ∃ q, q = badList m r.cons := ⟨_, rfl⟩
      obtain ⟨q1, hq1⟩ : ∃ q, q = r.ins.any (above m) := ⟨_, rfl⟩
      obtain ⟨q2, hq2⟩ : ∃ q, q = r.lats.any (badLatch m) := ⟨_, rfl⟩
      obtain ⟨q6, hq6⟩ : ∃ q, q = r.gates.any (badGate m) := ⟨_, rfl⟩
      rw [← hq1, ← hq2, ← hq3, ← hq4, ← hq5, ← hq6] at hv
      have g3 : q3 = (decide (1024 < n3) || r.outs.any (above m)) := by rw [hq3, badList, HS.out.s3.lenMap]
      have g4 : q4 = (decide (1024 < n4) || r.bads.any (above m)) := by rw [hq4, badList, HS.out.s4.lenMap]
      have g5 : q5 = (decide (1024 < n5) || r.cons.any (above m)) := by rw [hq5, badList, HS.out.s5.lenMap]
      have HV := Lib.hid hv
      have Q1 := Lib.hid hq1
      have Q2 := Lib.hid hq2
      have Q6 := Lib.hid hq6
      have G3 := Lib.hid g3
      have G4 := Lib.hid g4
      have G5 := Lib.hid g5
      clear hv hq1 hq2 hq3 hq4 hq5 hq6 g3 g4 g5
      have hm' : m ≤ 16384 := by omega
      go_enter Tryz.func46, Tryz.ntmps46
      by_cases t3 : 1024 < n3
      · have e3 : decide ((1024 : Int) < (n3 : Int)) = true := by simp; omega
        have z3 : q3 = true := by rw [G3.out]; simp [t3]
        go_wp2
        refine wp_loop_rounds 4 ?_
        rw [rounds_succ]
        go_wp2
        go_ret
        exact ⟨by rw [HV.out]; simp [z3], ext_trans (ext_alloc _ _) (ext_trans (ext_alloc _ _) (ext_alloc _ _))⟩
      have e3 : decide ((1024 : Int) < (n3 : Int)) = false := by simp; omega
      go_wp2
      refine wp_loop_rounds 4 ?_
      rw [rounds_succ]
      go_wp2_with fail
      generalize hW : World.alloc _ _ = W3
      have F : MayF w W3 m (.slice a1 n1 c1) (.slice a2 n2 c2) (.slice a3 n3 c3) (.slice a4 n4 c4) (.slice a5 n5 c5) (.slice a6 n6 c6) := by
        subst hW
        constructor
        all_goals first
          | exact ext_trans (ext_alloc _ _) (ext_trans (ext_alloc _ _) (ext_alloc _ _))
          | exact cell_new _ _ _ _ _ _ _ (by simp) rfl
          | exact cell_old (cell_new _ _ _ _ _ _ _ (by simp) rfl)
          | exact cell_old (cell_old (cell_new _ _ _ _ _ _ _ rfl rfl))
      clear hW
      obtain ⟨f0, f1, f2, f6, fc, fd0, fd1, fd2, fbel⟩ := F
      have F := Lib.hid (show MayF w W3 m (.slice a1 n1 c1) (.slice a2 n2 c2) (.slice a3 n3 c3) (.slice a4 n4 c4) (.slice a5 n5 c5) (.slice a6 n6 c6) from ⟨f0, f1, f2, f6, fc, fd0, fd1, fd2, fbel⟩)
      refine (has_u32 m w.heap.size r.outs a3 n3 c3 hm' hf3 W3 (HS.out.s3.below fbel) f0).mono ?_
      clear f0 f1 f2 f6 fc fd0 fd1 fd2 fbel
      obtain ⟨p3, hp3⟩ : ∃ p, p = r.outs.any (above m) := ⟨_, rfl⟩
      rw [← hp3]
      rw [← hp3] at G3
      clear hp3
      rintro e V3 ⟨rfl, hb⟩
      replace F := F.out.below hb
      clear hb
      cases p3 with
      | true =>
        have z3 : q3 = true := by rw [G3.out]; simp
        obtain ⟨f0, f1, f2, f6, fc, fd0, fd1, fd2, fbel⟩ := F
        have FB := Lib.hid fbel
        clear fbel
        go_wp2
        go_ret
        exact ⟨by rw [HV.out]; simp [z3], FB.out⟩
      | false =>
      have z3 : q3 = false := by rw [G3.out]; simp [t3]
      have Z3 := Lib.hid z3
      clear z3
      by_cases t4 : 1024 < n4
      · have e4 : decide ((1024 : Int) < (n4 : Int)) = true := by simp; omega
        have z4 : q4 = true := by rw [G4.out]; simp [t4]
        obtain ⟨f0, f1, f2, f6, fc, fd0, fd1, fd2, fbel⟩ := F
        have FB := Lib.hid fbel
        clear fbel
        go_wp2
        rw [rounds_succ]
        go_wp2
        go_ret
        exact ⟨by rw [HV.out]; simp [z4], FB.out⟩
      have e4 : decide ((1024 : Int) < (n4 : Int)) = false := by simp; omega
      obtain ⟨f0, f1, f2, f6, fc, fd0, fd1, fd2, fbel⟩ := F
      have FB := Lib.hid fbel
      clear fbel
      go_wp2
      rw [rounds_succ]
      go_wp2_with fail
      have fbel := FB.out
      have F := Lib.hid (show MayF w V3 m (.slice a1 n1 c1) (.slice a2 n2 c2) (.slice a3 n3 c3) (.slice a4 n4 c4) (.slice a5 n5 c5) (.slice a6 n6 c6) from ⟨f0, f1, f2, f6, fc, fd0, fd1, fd2, fbel⟩)
      refine (has_u32 m w.heap.size r.bads a4 n4 c4 hm' hf4 V3 (HS.out.s4.below fbel) f0).mono ?_
      clear f0 f1 f2 f6 fc fd0 fd1 fd2 fbel
      obtain ⟨p4, hp4⟩ : ∃ p, p = r.bads.any (above m) := ⟨_, rfl⟩
      rw [← hp4]
      rw [← hp4] at G4
      clear hp4
      rintro e V4 ⟨rfl, hb⟩
      replace F := F.out.below hb
      clear hb
      cases p4 with
      | true =>
        have z4 : q4 = true := by rw [G4.out]; simp
        obtain ⟨f0, f1, f2, f6, fc, fd0, fd1, fd2, fbel⟩ := F
        have FB := Lib.hid fbel
        clear fbel
        go_wp2
        go_ret
        exact ⟨by rw [HV.out]; simp [z4], FB.out⟩
      | false =>
      have z4 : q4 = false := by rw [G4.out]; simp [t4]
      have Z4 := Lib.hid z4
      clear z4
      by_cases t5 : 1024 < n5
      · have e5 : decide ((1024 : Int) < (n5 : Int)) = true := by simp; omega
        have z5 : q5 = true := by rw [G5.out]; simp [t5]
        obtain ⟨f0, f1, f2, f6, fc, fd0, fd1, fd2, fbel⟩ := F
        have FB := Lib.hid fbel
        clear fbel
        go_wp2
        rw [rounds_succ]
        go_wp2
        go_ret
        exact ⟨by rw [HV.out]; simp [z5], FB.out⟩
      have e5 : decide ((1024 : Int) < (n5 : Int)) = false := by simp; omega
      obtain ⟨f0, f1, f2, f6, fc, fd0, fd1, fd2, fbel⟩ := F
      have FB := Lib.hid fbel
      clear fbel
      go_wp2
      rw [rounds_succ]
      go_wp2_with fail
      have fbel := FB.out
      have F := Lib.hid (show MayF w V4 m (.slice a1 n1 c1) (.slice a2 n2 c2) (.slice a3 n3 c3) (.slice a4 n4 c4) (.slice a5 n5 c5) (.slice a6 n6 c6) from ⟨f0, f1, f2, f6, fc, fd0, fd1, fd2, fbel⟩)
      refine (has_u32 m w.heap.size r.cons a5 n5 c5 hm' hf5 V4 (HS.out.s5.below fbel) f0).mono ?_
      clear f0 f1 f2 f6 fc fd0 fd1 fd2 fbel
      obtain ⟨p5, hp5⟩ : ∃ p, p = r.cons.any (above m) := ⟨_, rfl⟩
      rw [← hp5]
      rw [← hp5] at G5
      clear hp5
      rintro e V5 ⟨rfl, hb⟩
      replace F := F.out.below hb
      clear hb
      cases p5 with
      | true =>
        have z5 : q5 = true := by rw [G5.out]; simp
        obtain ⟨f0, f1, f2, f6, fc, fd0, fd1, fd2, fbel⟩ := F
        have FB := Lib.hid fbel
        clear fbel
        go_wp2
        go_ret
        exact ⟨by rw [HV.out]; simp [z5], FB.out⟩
      | false =>
      have z5 : q5 = false := by rw [G5.out]; simp [t5]
      have Z5 := Lib.hid z5
      clear z5
      obtain ⟨f0, f1, f2, f6, fc, fd0, fd1, fd2, fbel⟩ := F
      have F := Lib.hid (show MayF w V5 m (.slice a1 n1 c1) (.slice a2 n2 c2) (.slice a3 n3 c3) (.slice a4 n4 c4) (.slice a5 n5 c5) (.slice a6 n6 c6) from ⟨f0, f1, f2, f6, fc, fd0, fd1, fd2, fbel⟩)
      clear fbel
      go_wp2
      rw [rounds_succ]
      go_wp2_with fail
      refine (has_u32 m w.heap.size r.ins a1 n1 c1 hm' hf1 V5 (HS.out.s1.below F.out.bel) f0).mono ?_
      rw [← Q1.out]
      clear f0 f1 f2 f6 fc fd0 fd1 fd2
      rintro e U1 ⟨rfl, hb⟩
      replace F := F.out.below hb
      clear hb
      obtain ⟨f0, f1, f2, f6, fc, fd0, fd1, fd2, fbel⟩ := F
      have F := Lib.hid (show MayF w U1 m (.slice a1 n1 c1) (.slice a2 n2 c2) (.slice a3 n3 c3) (.slice a4 n4 c4) (.slice a5 n5 c5) (.slice a6 n6 c6) from ⟨f0, f1, f2, f6, fc, fd0, fd1, fd2, fbel⟩)
      clear fbel
      cases q1 with
      | true =>
        go_wp2
        go_ret
        exact ⟨by rw [HV.out]; simp, F.out.bel⟩
      | false =>
      go_wp2_with fail
      refine (has_lat m w.heap.size (w.heap.size + 1) r.lats a2 n2 c2 hm' hf2 U1 (HS.out.s2.below F.out.bel) ⟨f0, fc⟩).mono ?_
      rw [← Q2.out]
      clear f0 f1 f2 f6 fc fd0 fd1 fd2
      rintro e U2 ⟨rfl, hb⟩
      replace F := F.out.below hb
      clear hb
      obtain ⟨f0, f1, f2, f6, fc, fd0, fd1, fd2, fbel⟩ := F
      have F := Lib.hid (show MayF w U2 m (.slice a1 n1 c1) (.slice a2 n2 c2) (.slice a3 n3 c3) (.slice a4 n4 c4) (.slice a5 n5 c5) (.slice a6 n6 c6) from ⟨f0, f1, f2, f6, fc, fd0, fd1, fd2, fbel⟩)
      clear fbel
      cases q2 with
      | true =>
        go_wp2
        go_ret
        exact ⟨by rw [HV.out]; simp, F.out.bel⟩
      | false =>
      go_wp2_with fail
      refine (has_gate m w.heap.size (w.heap.size + 1) r.gates a6 n6 c6 hm' hf6 U2 (HS.out.s6.below F.out.bel) ⟨f0, fc⟩).mono ?_
      rw [← Q6.out]
      clear f0 f1 f2 f6 fc fd0 fd1 fd2
      rintro e U6 ⟨rfl, hb⟩
      replace F := F.out.below hb
      clear hb
      have FB := Lib.hid F.bel
      clear F
      go_wp2
      go_ret
      exact ⟨by rw [HV.out, Z3.out, Z4.out, Z5.out]; simp, FB.out⟩
end Go.Proofs.YtglhnmbfkbjemaaGreatDoor
/- raw.counts, by its contract. -/
namespace Go.Proofs.YtglhnmbfkbjemaaGreatDoor
open Go Go.RowKit Go.Joins
def lensOf (r : RawC) : List Nat := [r.ins.length, r.lats.length, r.outs.length, r.gates.length, r.bads.length, r.cons.length]
set_option maxRecDepth 100000 in
set_option maxHeartbeats 1600000 in
theorem counts_any (r : RawC) (s : Slots) (w : World) (h : SeesRaw w s r) (hm : r.max ≤ 16384) (hl : ∀ x ∈ lensOf r, x ≤ 16384) :
    Calls Tryz.prog 48 #[rawV r.max s] w fun e w' => ∃ a n c, e = .returned (.slice a n c) ∧ n ≤ 7 ∧ Sees w' a n c ((countsOf r).map nv32) ∧ Below w.heap.size w w' := by
  obtain ⟨i0, hi, hz0, hz1, hz2⟩ := info_parts info_u32
  obtain ⟨a1, n1, c1, a2, n2, c2, a3, n3, c3, a4, n4, c4, a5, n5, c5, a6, n6, c6⟩ := s
  have hle : lensOf r = [n1, n2, n3, n6, n4, n5] := by
    have l1 : r.ins.length = n1 := h.s1.lenMap
    have l2 : r.lats.length = n2 := h.s2.1
    have l3 : r.outs.length = n3 := h.s3.lenMap
    have l4 : r.bads.length = n4 := h.s4.lenMap
    have l5 : r.cons.length = n5 := h.s5.lenMap
    have l6 : r.gates.length = n6 := h.s6.1
    unfold lensOf
    rw [l1, l2, l3, l4, l5, l6]
  obtain ⟨m, hmm⟩ : ∃ m, m = r.max := ⟨_, rfl⟩
  rw [← hmm] at hm ⊢
  have hca : countsAll r = m :: lensOf r := by rw [hmm]; rfl
  rw [hle] at hl hca
  have b1 : n1 ≤ 16384 := hl _ (by simp)
  have b2 : n2 ≤ 16384 := hl _ (by simp)
  have b3 : n3 ≤ 16384 := hl _ (by simp)
  have b4 : n4 ≤ 16384 := hl _ (by simp)
  have b5 : n5 ≤ 16384 := hl _ (by simp)
  have b6 : n6 ≤ 16384 := hl _ (by simp)
  have HCA := Lib.hid hca
  have HM := Lib.hid hmm
  clear h hca hmm hl hle
  obtain ⟨A, hA⟩ : ∃ A, A = m :: [n1, n2, n3, n6, n4, n5] := ⟨_, rfl⟩
  have hAl : A.length = 7 := by rw [hA]; rfl
  have hget : ∀ k, k < 6 → (#[iv n1, iv n2, iv n3, iv n6, iv n4, iv n5] : Array Value)[k]? = some (.int .i64 ((A.getD (k + 1) 0 : Nat) : Int)) := by
    intro k hk
    rw [hA]
    match k, hk with
    | 0, _ => rfl
    | 1, _ => rfl
    | 2, _ => rfl
    | 3, _ => rfl
    | 4, _ => rfl
    | 5, _ => rfl
  have hle : ∀ k, A.getD k 0 ≤ 16384 := by
    intro k
    rw [hA]
    match k with
    | 0 => exact hm
    | 1 => exact b1
    | 2 => exact b2
    | 3 => exact b3
    | 4 => exact b6
    | 5 => exact b4
    | 6 => exact b5
    | k + 7 => simp [List.getD]
  have hco : countsOf r = if n5 = 0 then (if n4 = 0 then A.take 5 else A.take 6) else A := by
    have e5 : r.cons.length = n5 := by
      have h := congrArg (fun l : List Nat => l.getD 6 0) HCA.out
      exact h
    have e4 : r.bads.length = n4 := by
      have h := congrArg (fun l : List Nat => l.getD 5 0) HCA.out
      exact h
    unfold countsOf
    rw [HCA.out, e5, e4, ← hA]
  have HCO := Lib.hid hco
  have HG := Lib.hid hget
  have HLE := Lib.hid hle
  have HAL := Lib.hid hAl
  have HA := Lib.hid hA
  clear hget hle hAl hA hco
  unfold rawV
  go_enter Tryz.func48, Tryz.ntmps48
  go_wp2
  go_loopw [3, 5, 29] (fun v nn i wr => ∃ k : Nat, k ≤ 6 ∧ i = .int .i64 k ∧ Hid (Row isU32 wr w.heap.size 35 v (k + 1) ((A.take (k + 1)).map nv32)) ∧
      Hid (wr.heap[w.heap.size + 1 + 1]? = some (.cells #[iv n1, iv n2, iv n3, iv n6, iv n4, iv n5] 3 (0, 0))) ∧ Hid (Below w.heap.size w wr))
    (fun _ _ i _ => 6 - (intOf i).toNat)
  case atStart =>
    refine ⟨0, by omega, rfl, ?_, ?_, ?_⟩
    · have e : (A.take 1).map nv32 = [nv32 m] := by rw [HA.out]; rfl
      show Row _ _ _ _ _ _ _
      rw [Nat.zero_add, e]
      exact (Row.made_at (ok := isU32) (base := w.heap.size) #[nv32 m] 1 (w.heap.size + 1) 1 [nv32 m] (by simp) rfl rfl (by simp) (by simp [maxLen]) (by simp) (fun u hu => ⟨m, by omega, by simpa using hu⟩)).below (ext_alloc _ _)
    · show _ = _
      exact heap_new _ _ _ (by simp)
    · exact ext_trans (ext_alloc _ _) (ext_trans (ext_alloc _ _) (ext_alloc _ _))
  case round =>
    obtain ⟨k, hk, rfl, hrow, hD, hbel⟩ := hrel
    by_cases hlt : k < 6
    · have hcx := (cell_of_block hD.out k).trans (HG.out k hlt)
      have hx := HLE.out (k + 1)
      obtain ⟨x, hxx⟩ : ∃ x, x = A.getD (k + 1) 0 := ⟨_, rfl⟩
      rw [← hxx] at hcx hx
      have HX := Lib.hid hxx
      clear hxx
      obtain ⟨L, hL⟩ : ∃ L, L = (A.take (k + 1)).map nv32 := ⟨_, rfl⟩
      rw [← hL] at hrow
      have HLL := Lib.hid hL
      clear hL
      have W1 : IntKind.i64.wrap ((k : Int) + 1) = (k : Int) + 1 := IntWalk.i64_in _ (by omega)
      go_wp2_with (at_builtin; refine wpList_append_row isU32 _ rfl _ _ 24 rfl w.heap.size 35 i0 (.int .u32 0) 4 Tryz.underlying24 hi hz0 hz1 hz2 rfl ⟨0, by omega, rfl⟩ _ _ _ rfl (hrow.out.below (ext_alloc _ _)) (some ⟨wr.heap.size, 0, none⟩) 1 1 [nv32 x] rfl (sees_one _ _ _) ?c1 ?c2 ?c4 ?c5 ?c6 ?_)
      case c1 => intro u hu; simp at hu; subst hu; rfl
      case c2 => intro u hu; simp at hu; subst hu; exact ⟨x, by omega, rfl⟩
      case c4 => unfold maxLen; omega
      case c5 => omega
      case c6 => have := hbel.out.size; simp; omega
      intro v' w1 hrow1 hgrow1 _
      have hno := (hrow.out.below (ext_alloc wr (.cells #[nv32 x] 35))).not_own (heap_below hD.out (ext_alloc wr (.cells #[nv32 x] 35))) (by decide)
      have hD1 := heap_grown (heap_below hD.out (ext_alloc wr (.cells #[nv32 x] 35))) hgrow1 hno
      have hb1 : Below w.heap.size w w1 := (hbel.out.alloc (by have := hbel.out.size; omega) _).grown hgrow1 (by have := hbel.out.size; simp; omega) (fun k hk => (hrow.out.own.lt k hk).1)
      have R1 : Hid (Row isU32 w1 w.heap.size 35 v' (k + 1 + 1) ((A.take (k + 1 + 1)).map nv32)) := by
        have e : (A.take (k + 1 + 1)).map nv32 = L ++ [nv32 x] := by rw [HLL.out, take_snocN A (k + 1) (by rw [HAL.out]; omega), HX.out]; simp
        show Row _ _ _ _ _ _ _
        rw [e]; exact hrow1
      have D1 := Lib.hid hD1
      have B1 := Lib.hid hb1
      clear hrow1 hgrow1 hno hD1 hb1 hcx
      go_wp2
      go_roundw
      case rel => exact ⟨k + 1, by omega, by go_num, R1, D1, B1⟩
      case measure => simp [intOf]; omega
    · have hk6 : k = 6 := by omega
      subst hk6
      obtain ⟨a, c, rfl, hc, see⟩ := hrow.out.sees
      have eA : A.take 7 = A := List.take_of_length_le (by rw [HAL.out]; exact Nat.le_refl _)
      have see' : Sees wr a 7 c (A.map nv32) := by
        rw [show (6 : Nat) + 1 = 7 from rfl, eA] at see; exact see
      obtain ⟨b, off, rfl, hbw⟩ := see'.addr (by omega)
      have hc7 := see'.cap
      have x6 := see'.num 6 (by omega)
      have x5 := see'.num 5 (by omega)
      have y6 : A.getD 6 0 = n5 := by rw [HA.out]; rfl
      have y5 : A.getD 5 0 = n4 := by rw [HA.out]; rfl
      rw [y6] at x6
      rw [y5] at x5
      obtain ⟨a1', ec1, see1⟩ := see'.cut 0 6 (by omega) (by omega)
      have ec1' : sliced (some ⟨b, off, .none⟩) 0 6 c 1 = .slice a1' 6 c := ec1
      have see1' : Sees wr a1' 6 c ((A.take 6).map nv32) := by rw [List.map_take]; exact see1
      obtain ⟨b', off', rfl, hbw'⟩ := see1'.addr (by omega)
      have x5' := see1'.num 5 (by omega)
      have y5' : (A.take 6).getD 5 0 = n4 := by rw [HA.out]; rfl
      rw [y5'] at x5'
      obtain ⟨a2', ec2, see2⟩ := see1'.cut 0 5 (by omega) (by omega)
      have ec2' : sliced (some ⟨b', off', .none⟩) 0 5 c 1 = .slice a2' 5 c := ec2
      have see2' : Sees wr a2' 5 c ((A.take 5).map nv32) := by
        have e : (A.take 5).map nv32 = List.drop 0 (List.take 5 ((A.take 6).map nv32)) := by rw [HA.out]; rfl
        rw [e]; exact see2
      have q1 := fun W => (run_upto (P := Tryz.prog) Tryz.underlying24 size_u32 W (some ⟨b, off, none⟩) 7 c 6 6 rfl (by omega)).trans (congrArg (fun v => Result.ok v W) ec1')
      have q2 := fun W => (run_upto (P := Tryz.prog) Tryz.underlying24 size_u32 W (some ⟨b', off', none⟩) 6 c 5 5 rfl (by omega)).trans (congrArg (fun v => Result.ok v W) ec2')
      have S0 := Lib.hid see'
      have S1 := Lib.hid see1'
      have S2 := Lib.hid see2'
      clear ec1 ec2 ec1' ec2' see see' see1 see1' see2 see2' y6 y5 y5' eA
      by_cases z5 : n5 = 0
      · by_cases z4 : n4 = 0
        · subst z5
          subst z4
          have eC : countsOf r = A.take 5 := by rw [HCO.out]; simp
          have EC := Lib.hid eC
          clear eC
          go_wp2
          refine wp_loop_rounds 3 ?_
          rw [rounds_succ]
          go_wp2
          rw [rounds_succ]
          go_wp2
          rw [rounds_succ]
          go_wp2
          go_ret
          exact ⟨a2', 5, c, rfl, by omega, by rw [EC.out]; exact S2.out, hbel.out⟩
        · subst z5
          have eC : countsOf r = A.take 6 := by rw [HCO.out]; simp [z4]
          have EC := Lib.hid eC
          have e4 : ((n4 : Int) == 0) = false := by simp; omega
          have Z4 := Lib.hid z4
          clear eC z4
          go_wp2
          refine wp_loop_rounds 3 ?_
          rw [rounds_succ]
          go_wp2
          rw [rounds_succ]
          go_wp2
          go_ret
          exact ⟨_, 6, c, rfl, by omega, by rw [EC.out]; exact S1.out, hbel.out⟩
      · have eC : countsOf r = A := by rw [HCO.out]; simp [z5]
        have EC := Lib.hid eC
        have e5 : ((n5 : Int) == 0) = false := by simp; omega
        have Z5 := Lib.hid z5
        clear eC z5
        go_wp2
        refine wp_loop_rounds 3 ?_
        rw [rounds_succ]
        go_wp2
        go_ret
        exact ⟨_, 7, c, rfl, by omega, by rw [EC.out]; exact S0.out, hbel.out⟩
end Go.Proofs.YtglhnmbfkbjemaaGreatDoor
namespace Go.Proofs.YtglhnmbfkbjemaaGreatDoor
open Go Go.RowKit Go.Joins
theorem cell_but {w w' : World} {b o R : Nat} {v : Value} (h : w.cell? ⟨b, o, .none⟩ = some v) (hg : w.grownBy w' (some R)) (hne : b ≠ R) : w'.cell? ⟨b, o, .none⟩ = some v :=
  (World.cell?_of_block (w := w) (hg.block b (cell_lt h) (fun e => hne (by cases e; rfl)))).trans h
theorem cell_grown {w w' : World} {b o : Nat} {v : Value} {row : Option Nat} (h : w.cell? ⟨b, o, .none⟩ = some v) (hg : w.grownBy w' row) (hne : ¬ row = some b) : w'.cell? ⟨b, o, .none⟩ = some v :=
  (World.cell?_of_block (w := w) (hg.block b (cell_lt h) (fun e => hne e.symm))).trans h
theorem but_below {w w1 w2 : World} {R : Nat} (h : w.grownBy w1 (some R)) (k : Below w1.heap.size w1 w2) : w.grownBy w2 (some R) :=
  ⟨k.os.trans h.os, k.tape.trans h.tape, k.output.trans h.output, Nat.le_trans h.size k.size, fun b hb hr => (k.block b (Nat.lt_of_lt_of_le hb h.size)).trans (h.block b hb hr)⟩
theorem but_trans {w w1 w2 : World} {R : Nat} (h : w.grownBy w1 (some R)) (k : w1.grownBy w2 (some R)) : w.grownBy w2 (some R) :=
  ⟨k.os.trans h.os, k.tape.trans h.tape, k.output.trans h.output, Nat.le_trans h.size k.size, fun b hb hr => (k.block b (Nat.lt_of_lt_of_le hb h.size) hr).trans (h.block b hb hr)⟩
theorem sees_old {w w2 w5 : World} {R : Nat} {a : Option Addr} {n c : Nat} {xs : List Value} (h : Sees w2 a n c xs) (g2 : w.grownBy w2 (some R)) (g5 : w.grownBy w5 (some R)) (hb : ∀ b, a.map Addr.block = some b → b < w.heap.size ∧ b ≠ R) : Sees w5 a n c xs := by
  refine ⟨h.len, h.cap, h.nilc, fun h0 => ?_⟩
  obtain ⟨b, off, e, hlt, hc⟩ := h.real h0
  obtain ⟨h1, h2⟩ := hb b (by rw [e]; rfl)
  refine ⟨b, off, e, Nat.lt_of_lt_of_le h1 g5.size, fun j hj => ?_⟩
  have e2 := g2.block b h1 (fun e' => h2 (by cases e'; rfl))
  have e5 := g5.block b h1 (fun e' => h2 (by cases e'; rfl))
  exact (World.cell?_of_block (w := w2) (e5.trans e2.symm)).trans (hc j hj)
theorem sees_but {w w' : World} {R : Nat} {a : Option Addr} {n c : Nat} {xs : List Value} (h : Sees w a n c xs) (hg : w.grownBy w' (some R)) (hne : ∀ b off, a = some ⟨b, off, none⟩ → b ≠ R) : Sees w' a n c xs := by
  refine ⟨h.len, h.cap, h.nilc, fun h0 => ?_⟩
  obtain ⟨b, off, e, hlt, hc⟩ := h.real h0
  refine ⟨b, off, e, Nat.lt_of_lt_of_le hlt hg.size, fun j hj => ?_⟩
  have hb := hg.block b hlt (fun e' => hne b off e (by cases e'; rfl))
  exact (World.cell?_of_block (w := w) hb).trans (hc j hj)
theorem sees3_but {w w' : World} {R : Nat} {a : Option Addr} {n c : Nat} {xs : List Tri} (h : Sees3 w a n c xs) (hg : w.grownBy w' (some R)) (hne : ∀ b off, a = some ⟨b, off, none⟩ → b ≠ R) : Sees3 w' a n c xs := ⟨h.1, h.2.1, sees_but h.2.2 hg hne⟩
theorem cutS_len {b line rest : List UInt8} (h : cutS b = some (line, rest)) : line.length ≤ b.length ∧ rest.length < b.length := by
  unfold cutS at h
  split at h
  · cases h
    simp
    omega
  · cases h
theorem but_own {w w3 w4 : World} {R : Nat} {ok : Value → Prop} {e : TypeId} {v : Value} {n : Nat} {xs : List Value} (h : w.grownBy w3 (some R)) (hrow : Row ok w3 w.heap.size e v n xs) (hg : w3.grownBy w4 v.ownBlock) : w.grownBy w4 (some R) :=
  ⟨hg.os.trans h.os, hg.tape.trans h.tape, hg.output.trans h.output, Nat.le_trans h.size hg.size, fun b hb hr => (hg.block b (Nat.lt_of_lt_of_le hb h.size) (fun e => by have := (hrow.own.lt b e.symm).1; omega)).trans (h.block b hb hr)⟩
theorem but_set {w w4 : World} {R f : Nat} {v : Value} (h : w.grownBy w4 (some R)) : w.grownBy (w4.setCell ⟨R, f, .none⟩ v) (some R) :=
  but_trans h (Lib.grownBy_setCell w4 R f v)
theorem set_set (CR : Array Value) (f : Nat) (v v' : Value) : (CR.setIfInBounds f v).setIfInBounds f v' = CR.setIfInBounds f v' := by
  apply Array.ext_getElem?
  intro i
  simp only [Array.getElem?_setIfInBounds]
  split <;> simp_all
theorem lit_le {line : List UInt8} {most x : Nat} (h : litS line most = .ok x) : x ≤ most := by
  unfold litS at h
  split at h
  · cases h
    unfold numsOf
    rw [List.getD_eq_getElem?_getD, List.getElem?_map]
    cases ((wordsOf line).getD [])[0]? with
    | none => simp
    | some y => simpa using numOf_le y most
  · cases h
end Go.Proofs.YtglhnmbfkbjemaaGreatDoor
