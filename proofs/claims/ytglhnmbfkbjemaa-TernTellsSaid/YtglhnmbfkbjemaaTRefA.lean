/- The reference's bit, at, May, with, Not1, And1 for words, by their contracts. -/
import Derived.Test.YtglhnmbfkbjemaaTLives
namespace Go.Proofs.Ytglhnmbfkbjemaa
open Go Go.RowKit Go.Joins

theorem rshr (x k : Nat) : ((x : Int) / 2 ^ k).tmod 2 = ((x.testBit k).toNat : Int) := by
  have e : (x : Int) / 2 ^ k = ((x / 2 ^ k : Nat) : Int) := by
    rw [Int.natCast_ediv]
    norm_cast
  rw [e, Nat.testBit_eq_decide_div_mod_eq]
  obtain ⟨y, hy⟩ : ∃ y, y = x / 2 ^ k := ⟨_, rfl⟩
  rw [← hy]
  by_cases h1 : y % 2 = 1
  · rw [h1]
    rw [Int.tmod_eq_emod_of_nonneg (by omega)]
    show (y : Int) % 2 = 1
    omega
  · have h0 : y % 2 = 0 := by omega
    rw [h0]
    rw [Int.tmod_eq_emod_of_nonneg (by omega)]
    show (y : Int) % 2 = 0
    omega

set_option maxRecDepth 100000 in
theorem rbit_any (x k : Nat) (hk : k < 64) (w : World) : Calls Try.prog 31 #[.int .u64 (x : Int), .int .i64 (k : Int)] w fun e w' => e = .returned (.bool (x.testBit k)) ∧ w' = w := by
  have S := rshr x k
  obtain ⟨t, ht⟩ : ∃ t, t = x.testBit k := ⟨_, rfl⟩
  rw [← ht] at S ⊢
  have W2 : IntKind.u64.wrap (k : Int) = (k : Int) := by rw [IntKind.wrap_u64]; omega
  clear ht
  go_enter Try.func31, Try.ntmps31
  cases t with
  | true =>
    simp only [Bool.toNat_true] at S
    go_wp2
    go_ret
    exact ⟨rfl, rfl⟩
  | false =>
    simp only [Bool.toNat_false] at S
    go_wp2
    go_ret
    exact ⟨rfl, rfl⟩

set_option maxRecDepth 100000 in
theorem rat_any (a : W2) (k : Nat) (hk : k < 64) (w : World) : Calls Try.prog 33 #[wv a, .int .i64 (k : Int)] w fun e w' => e = .returned (.int .u8 (atW a k : Nat)) ∧ Below w.heap.size w w' := by
  obtain ⟨z, o⟩ := a
  have HO := Lib.hid (rbit_any o k hk)
  have HZ := Lib.hid (rbit_any z k hk)
  have HV : Hid (atW (z, o) k = if o.testBit k = false then 0 else if z.testBit k = false then 1 else 2) := rfl
  obtain ⟨t1, h1⟩ : ∃ t, t = o.testBit k := ⟨_, rfl⟩
  obtain ⟨t2, h2⟩ : ∃ t, t = z.testBit k := ⟨_, rfl⟩
  rw [← h1] at HO HV
  rw [← h2] at HZ HV
  obtain ⟨v, hv⟩ : ∃ v, v = atW (z, o) k := ⟨_, rfl⟩
  rw [← hv] at HV ⊢
  clear h1 h2 hv
  show Calls Try.prog 33 #[.agg #[.int .u64 (z : Int), .int .u64 (o : Int)], .int .i64 (k : Int)] w _
  go_enter Try.func33, Try.ntmps33
  go_wp2_with fail
  refine (HO.out _).mono ?_
  rintro e w1 ⟨rfl, rfl⟩
  cases t1 with
  | false =>
    go_wp2
    go_ret
    exact ⟨by rw [HV.out]; rfl, text_alloc _ _⟩
  | true =>
    go_wp2_with fail
    refine (HZ.out _).mono ?_
    rintro e w2 ⟨rfl, rfl⟩
    cases t2 with
    | false =>
      go_wp2
      go_ret
      exact ⟨by rw [HV.out]; rfl, text_alloc _ _⟩
    | true =>
      go_wp2
      go_ret
      exact ⟨by rw [HV.out]; rfl, text_alloc _ _⟩

set_option maxRecDepth 100000 in
theorem rnot1_any (v : Nat) (w : World) : Calls Try.prog 23 #[.int .u8 (v : Int)] w fun e w' => e = .returned (.int .u8 (not1 v : Nat)) ∧ w' = w := by
  go_enter Try.func23, Try.ntmps23
  by_cases h0 : v = 0
  · subst h0
    go_wp2
    go_ret
    exact ⟨rfl, rfl⟩
  · have e0 : ((v : Int) == 0) = false := by simp; omega
    by_cases h1 : v = 1
    · subst h1
      go_wp2
      go_ret
      exact ⟨rfl, rfl⟩
    · have e1 : ((v : Int) == 1) = false := by simp; omega
      have HE : Hid (not1 v = 2) := by show _ = _; unfold not1; rw [if_neg h0, if_neg h1]
      clear h0 h1
      go_wp2
      go_ret
      exact ⟨by rw [HE.out]; rfl, rfl⟩

set_option maxRecDepth 100000 in
theorem rand1_any (a b : Nat) (w : World) : Calls Try.prog 25 #[.int .u8 (a : Int), .int .u8 (b : Int)] w fun e w' => e = .returned (.int .u8 (and1 a b : Nat)) ∧ w' = w := by
  go_enter Try.func25, Try.ntmps25
  by_cases h0 : a = 0
  · subst h0
    go_wp2
    go_ret
    exact ⟨rfl, rfl⟩
  · have e0 : ((a : Int) == 0) = false := by simp; omega
    by_cases h1 : b = 0
    · subst h1
      have HE : Hid (and1 a 0 = 0) := by show _ = _; unfold and1; simp
      clear h0
      go_wp2
      go_ret
      exact ⟨by rw [HE.out]; rfl, rfl⟩
    · have e1 : ((b : Int) == 0) = false := by simp; omega
      by_cases h2 : a = 1
      · subst h2
        by_cases h3 : b = 1
        · subst h3
          go_wp2
          go_ret
          exact ⟨rfl, rfl⟩
        · have e3 : ((b : Int) == 1) = false := by simp; omega
          have HE : Hid (and1 1 b = 2) := by show _ = _; unfold and1; simp [h1, h3]
          clear h0 h1 h3
          go_wp2
          go_ret
          exact ⟨by rw [HE.out]; rfl, rfl⟩
      · have e2 : ((a : Int) == 1) = false := by simp; omega
        have HE : Hid (and1 a b = 2) := by show _ = _; unfold and1; simp [h0, h1, h2]
        clear h0 h1 h2
        go_wp2
        go_ret
        exact ⟨by rw [HE.out]; rfl, rfl⟩

/-- The place has a bit. -/
def hasW (a : W2) (j : Nat) : Bool := a.1.testBit j || a.2.testBit j
theorem mayW_of {a : W2} (ha : a.in) (h : ∀ j, j < 64 → hasW a j = true) : mayW a = true := by
  rw [mayW_iff ha]
  intro j hj
  have := h j hj
  unfold hasW at this
  simpa using this
theorem mayW_not {a : W2} (ha : a.in) {j : Nat} (hj : j < 64) (h : hasW a j = false) : mayW a = false := by
  cases hm : mayW a with
  | false => rfl
  | true =>
    have := (mayW_iff ha).1 hm j hj
    unfold hasW at h
    simp only [Bool.or_eq_false_iff] at h
    rw [h.1, h.2] at this
    simp at this

set_option maxRecDepth 100000 in
theorem rmay_any (a : W2) (ha : a.in) (w : World) : Calls Try.prog 11 #[wv a] w fun e w' => e = .returned (.bool (mayW a)) ∧ Below w.heap.size w w' := by
  have HB := Lib.hid rbit_any
  have HYES : Hid ((∀ j, j < 64 → hasW a j = true) → mayW a = true) := mayW_of ha
  have HNO : Hid (∀ j, j < 64 → hasW a j = false → mayW a = false) := fun j hj h => mayW_not ha hj h
  obtain ⟨m, hm⟩ : ∃ m, m = mayW a := ⟨_, rfl⟩
  rw [← hm] at HYES HNO ⊢
  clear hm ha
  obtain ⟨z, o⟩ := a
  show Calls Try.prog 11 #[.agg #[.int .u64 (z : Int), .int .u64 (o : Int)]] w _
  go_enter Try.func11, Try.ntmps11
  go_wp2_with fail
  go_loop [2, 3] (fun _ i => ∃ k : Nat, k ≤ 64 ∧ i = .int .i64 k ∧ Hid (∀ j, j < k → hasW (z, o) j = true)) (fun _ i => 64 - (intOf i).toNat)
  case atStart => exact ⟨0, by omega, rfl, fun j hj => absurd hj (by omega)⟩
  case round =>
    obtain ⟨k, hk, rfl, hall⟩ := hrel
    by_cases hlt : k < 64
    · have HZ := Lib.hid (HB.out z k hlt)
      have HO := Lib.hid (HB.out o k hlt)
      have HH : Hid (hasW (z, o) k = (z.testBit k || o.testBit k)) := rfl
      have HK := Lib.hid hlt
      obtain ⟨t1, h1⟩ : ∃ t, t = z.testBit k := ⟨_, rfl⟩
      obtain ⟨t2, h2⟩ : ∃ t, t = o.testBit k := ⟨_, rfl⟩
      rw [← h1] at HZ HH
      rw [← h2] at HO HH
      have W1 : IntKind.i64.wrap ((k : Int) + 1) = (k : Int) + 1 := IntWalk.i64_in _ (by omega)
      have HA := Lib.hid hall.out
      clear h1 h2 HB hall
      have HN : Hid (hasW (z, o) k = true → ∀ j, j < k + 1 → hasW (z, o) j = true) := fun h j hj => by
        rcases Nat.lt_or_ge j k with h' | h'
        · exact HA.out j h'
        · have : j = k := by omega
          subst this; exact h
      go_wp2_with fail
      refine (HZ.out _).mono ?_
      rintro e w1 ⟨rfl, rfl⟩
      cases t1 with
      | true =>
        go_wp2
        go_round
        case rel => exact ⟨k + 1, by omega, by go_num, HN.out HH.out⟩
        case measure => simp [intOf]; omega
      | false =>
        go_wp2_with fail
        refine (HO.out _).mono ?_
        rintro e w2 ⟨rfl, rfl⟩
        cases t2 with
        | true =>
          go_wp2
          go_round
          case rel => exact ⟨k + 1, by omega, by go_num, HN.out HH.out⟩
          case measure => simp [intOf]; omega
        | false =>
          go_wp2
          go_ret
          exact ⟨by rw [HNO.out k HK.out HH.out]; rfl, text_alloc _ _⟩
    · have hk6 : k = 64 := by omega
      subst hk6
      clear hk
      go_wp2
      go_ret
      exact ⟨by rw [HYES.out hall.out]; rfl, text_alloc _ _⟩
end Go.Proofs.Ytglhnmbfkbjemaa
