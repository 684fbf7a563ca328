/- The reference's small functions on literals: inquestref02.all, inquestref03.numbered, .have, by their contracts. -/
import Derived.Test.YtkbdebdhebphpaaNCircOf
namespace Go.Proofs.Ytkbdebdhebphpaa
open Go Go.RowKit Go.Joins

theorem refall_any (m : Nat) (l : List Nat) (a : Option Addr) (n c : Nat) (hn : n ≤ 1048576) (w : World) (h : Sees w a n c (l.map nv32)) :
    Calls Try.prog 68 #[.slice a n c, .int .u32 ((2 * m + 1 : Nat) : Int)] w fun e w' => e = .returned (.bool (!l.any (above m))) ∧ w = w' := by
  have hl := h.lenMap
  obtain ⟨M, hM⟩ : ∃ M : Nat, M = 2 * m + 1 := ⟨_, rfl⟩
  have e : ∀ x, decide (M < x) = above m x := by intro x; unfold above; rw [hM]
  rw [← hM]
  have E := Lib.hid e
  have HS := Lib.hid h
  have HL := Lib.hid hl
  clear e hM h hl
  go_enter Try.func68, Try.ntmps68
  go_wp2
  go_loop [5] (fun i => ∃ k : Nat, k ≤ n ∧ i = .int .i64 k ∧ Hid (∀ j, j < k → above m (l.getD j 0) = false)) (fun i => n - (intOf i).toNat)
  case atStart => exact ⟨0, Nat.zero_le _, rfl, fun j hj => absurd hj (by omega)⟩
  case round =>
    obtain ⟨k, hk, rfl, hno⟩ := hrel
    by_cases hlt : k < n
    · obtain ⟨b, off, rfl, hbw⟩ := HS.out.addr (by omega)
      have hcx := HS.out.num k hlt
      obtain ⟨x, hx⟩ : ∃ x, x = l.getD k 0 := ⟨_, rfl⟩
      rw [← hx] at hcx
      have HX := Lib.hid hx
      clear hx
      have W1 : IntKind.i64.wrap ((k : Int) + 1) = (k : Int) + 1 := IntWalk.i64_in _ (by omega)
      by_cases hq : M < x
      · have HQ : Hid (above m x = true) := by rw [← E.out x]; exact decide_eq_true hq
        go_wp2
        go_ret
        have ha : l.any (above m) = true := List.any_eq_true.2 ⟨l.getD k 0, getD_mem (by rw [HL.out]; exact hlt), by rw [← HX.out]; exact HQ.out⟩
        exact ⟨by rw [ha]; rfl, rfl⟩
      · have HQ : Hid (above m x = false) := by rw [← E.out x]; exact decide_eq_false hq
        go_wp2
        go_round
        case rel =>
          refine ⟨k + 1, by omega, by go_num, fun j hj => ?_⟩
          rcases Nat.lt_or_ge j k with h | h
          · exact hno.out j h
          · have : j = k := by omega
            subst this
            rw [← HX.out]; exact HQ.out
        case measure => simp [intOf]; omega
    · have hkn : k = n := by omega
      subst hkn
      go_wp2
      go_ret
      have ha : l.any (above m) = false := any_none (all_of_getD (d := 0) (fun j hj => hno.out j (by rw [← HL.out]; exact hj)))
      exact ⟨by rw [ha]; rfl, rfl⟩

/-- A literal by the numbers of the variables. -/
def numL (t : List Nat) (x : Nat) : Nat := 2 * t.getD (x / 2) 0 + x % 2
/-- Has a literal no number? -/
def lackL (t : List Nat) (x : Nat) : Bool := decide (1 < x) && decide (t.getD (x / 2) 0 = 0)

theorem numbered_any (t : List Nat) (x : Nat) (a : Option Addr) (n c : Nat) (w : World) (h : Sees w a n c (t.map nv32)) (hx : x / 2 < n) (hs : ∀ v, t.getD v 0 ≤ 16385) (hx32 : x < 4294967296) :
    Calls Try.prog 66 #[.slice a n c, .int .u32 (x : Int)] w fun e w' => e = .returned (.int .u32 ((numL t x : Nat) : Int)) ∧ w = w' := by
  obtain ⟨b, off, rfl, hbw⟩ := h.addr (by omega)
  have hc := h.num (x / 2) hx
  have hv := hs (x / 2)
  unfold numL
  obtain ⟨y, hy⟩ : ∃ y, y = t.getD (x / 2) 0 := ⟨_, rfl⟩
  rw [← hy] at hc hv ⊢
  clear hy hs h
  have D1 : Int.tdiv (x : Int) 2 = ((x / 2 : Nat) : Int) := by rw [Int.tdiv_eq_ediv_of_nonneg (by omega)]; omega
  have D2 : Int.tmod (x : Int) 2 = ((x % 2 : Nat) : Int) := by rw [Int.tmod_eq_emod_of_nonneg (by omega)]; omega
  have W1 : IntKind.u32.wrap ((x / 2 : Nat) : Int) = ((x / 2 : Nat) : Int) := by unfold IntKind.wrap; simp [IntKind.bits, IntKind.signed]; omega
  obtain ⟨q, hq⟩ : ∃ q, q = x / 2 := ⟨_, rfl⟩
  obtain ⟨z, hz⟩ : ∃ z, z = x % 2 := ⟨_, rfl⟩
  have hz2 : z < 2 := by omega
  go_enter Try.func66, Try.ntmps66
  go_wp2
  go_ret
  exact ⟨by simp, rfl⟩

theorem have_any (t l : List Nat) (a : Option Addr) (n c : Nat) (a2 : Option Addr) (n2 c2 : Nat) (w : World) (h : Sees w a n c (t.map nv32)) (h2 : Sees w a2 n2 c2 (l.map nv32)) (hn1 : n ≤ 1048576) (hn : n2 ≤ 1000000000) (hx : ∀ x ∈ l, x / 2 < n) :
    Calls Try.prog 64 #[.slice a n c, .slice a2 n2 c2] w fun e w' => e = .returned (.bool (!l.any (lackL t))) ∧ w = w' := by
  have hl := h2.lenMap
  have HT := Lib.hid h
  have HS := Lib.hid h2
  have HL := Lib.hid hl
  have HX := Lib.hid hx
  clear h h2 hl hx
  go_enter Try.func64, Try.ntmps64
  go_wp2
  go_loop [5] (fun i => ∃ k : Nat, k ≤ n2 ∧ i = .int .i64 k ∧ Hid (∀ j, j < k → lackL t (l.getD j 0) = false)) (fun i => n2 - (intOf i).toNat)
  case atStart => exact ⟨0, Nat.zero_le _, rfl, fun j hj => absurd hj (by omega)⟩
  case round =>
    obtain ⟨k, hk, rfl, hno⟩ := hrel
    by_cases hlt : k < n2
    · obtain ⟨b, off, rfl, hbw⟩ := HS.out.addr (by omega)
      have hcx := HS.out.num k hlt
      have hxn := HX.out _ (getD_mem (d := 0) (show k < l.length by rw [HL.out]; exact hlt))
      obtain ⟨x, hx⟩ : ∃ x, x = l.getD k 0 := ⟨_, rfl⟩
      rw [← hx] at hcx hxn
      have HE := Lib.hid hx
      clear hx
      obtain ⟨b1, off1, rfl, hbw1⟩ := HT.out.addr (show 0 < n by omega)
      have hcy := HT.out.num (x / 2) hxn
      obtain ⟨y, hy⟩ : ∃ y, y = t.getD (x / 2) 0 := ⟨_, rfl⟩
      rw [← hy] at hcy
      have HY := Lib.hid hy
      clear hy
      have D1 : Int.tdiv (x : Int) 2 = ((x / 2 : Nat) : Int) := by rw [Int.tdiv_eq_ediv_of_nonneg (by omega)]; omega
      have W1 : IntKind.i64.wrap ((k : Int) + 1) = (k : Int) + 1 := IntWalk.i64_in _ (by omega)
      have STEP : lackL t x = false → Hid (∀ j, j < k + 1 → lackL t (l.getD j 0) = false) := fun hq j hj => by
        rcases Nat.lt_or_ge j k with h | h
        · exact hno.out j h
        · have : j = k := by omega
          subst this
          rw [← HE.out]; exact hq
      have STEP := Lib.hid STEP
      have STOP : Hid (lackL t x = true → l.any (lackL t) = true) := fun hq => List.any_eq_true.2 ⟨l.getD k 0, getD_mem (by rw [HL.out]; exact hlt), by rw [← HE.out]; exact hq⟩
      obtain ⟨q, hq⟩ : ∃ q, q = x / 2 := ⟨_, rfl⟩
      rw [← hq] at D1 hcy hxn
      have W2 : IntKind.u32.wrap ((q : Nat) : Int) = (q : Int) := IntWalk.u32_in _ (by omega)
      clear hq
      by_cases h1 : 1 < x
      · have e1 : decide ((1 : Int) < (x : Int)) = true := by simp; omega
        by_cases h0 : y = 0
        · subst h0
          have ha : Hid (l.any (lackL t) = true) := STOP.out (by unfold lackL; rw [← HY.out]; simp [h1])
          go_wp2
          go_ret
          exact ⟨by rw [ha.out]; rfl, rfl⟩
        · have e2 : ((y : Int) == 0) = false := by simp; omega
          have hs := STEP.out (by unfold lackL; rw [← HY.out]; simp [h0])
          clear STEP STOP
          go_wp2
          go_round
          case rel => exact ⟨k + 1, by omega, by go_num, hs.out⟩
          case measure => simp [intOf]; omega
      · have e1 : decide ((1 : Int) < (x : Int)) = false := by simp; omega
        have hs := STEP.out (by unfold lackL; simp [h1])
        clear STEP STOP
        go_wp2
        go_round
        case rel => exact ⟨k + 1, by omega, by go_num, hs.out⟩
        case measure => simp [intOf]; omega
    · have hkn : k = n2 := by omega
      subst hkn
      go_wp2
      go_ret
      have ha : l.any (lackL t) = false := any_none (all_of_getD (d := 0) (fun j hj => hno.out j (by rw [← HL.out]; exact hj)))
      exact ⟨by rw [ha]; rfl, rfl⟩
end Go.Proofs.Ytkbdebdhebphpaa
