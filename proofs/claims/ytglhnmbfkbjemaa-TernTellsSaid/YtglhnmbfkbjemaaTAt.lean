/- tern.bits, put, At, With, by their contracts. -/
import Derived.Test.YtglhnmbfkbjemaaTMay
namespace Go.Proofs.Ytglhnmbfkbjemaa
open Go Go.RowKit

theorem and64 {a b : Nat} (ha : a < 18446744073709551616) (hb : b < 18446744073709551616) : bits .and .u64 (a : Int) (b : Int) = ((a &&& b : Nat) : Int) := bits_and_u64_nat a b ha hb
theorem andNot64 {a b : Nat} (ha : a < 18446744073709551616) (hb : b < 18446744073709551616) : bits .andNot .u64 (a : Int) (b : Int) = ((a &&& (full - b) : Nat) : Int) := u64_andNot_nat a b ha hb
theorem test64 (n k : Nat) : (((n &&& 2 ^ k : Nat) : Int) == 0) = !n.testBit k := by
  rw [Bool.eq_iff_iff]
  simp only [beq_iff_eq, Bool.not_eq_true']
  constructor
  · intro h
    have h0 : n &&& 2 ^ k = 0 := by omega
    have := congrArg (fun x => x.testBit k) h0
    simpa [Nat.testBit_two_pow] using this
  · intro h
    have h0 : n &&& 2 ^ k = 0 := by
      apply Nat.eq_of_testBit_eq
      intro j
      rw [Nat.testBit_and, Nat.testBit_two_pow, Nat.zero_testBit]
      by_cases e : k = j
      · subst e; rw [h]; rfl
      · simp [e]
    rw [h0]; rfl

theorem text_behind {w w' : World} {o : Obj} (k : Below (w.alloc o).heap.size (w.alloc o) w') : Below w.heap.size w w' := text_trans (text_alloc w o) k
/-- A box of two cells, behind a call. -/
theorem box_cells {w w1 : World} {x y : Value} {t : TypeId} (hb : Below (w.alloc (.cells #[x, y] t)).heap.size (w.alloc (.cells #[x, y] t)) w1) :
    w1.cell? ⟨w.heap.size, 0, none⟩ = some x ∧ w1.cell? ⟨w.heap.size, 1, none⟩ = some y := by
  have h0 : (w.alloc (.cells #[x, y] t)).cell? ⟨w.heap.size, 0, none⟩ = some x := by rw [World.cell?_alloc_mark]; rfl
  have h1 : (w.alloc (.cells #[x, y] t)).cell? ⟨w.heap.size, 1, none⟩ = some y := by rw [World.cell?_alloc_mark]; rfl
  exact ⟨(hb.cell (World.block_lt_of_cell? _ _ h0)).trans h0, (hb.cell (World.block_lt_of_cell? _ _ h1)).trans h1⟩

set_option maxRecDepth 100000 in
theorem bits_any (v : Nat) (w : World) : Calls Try.prog 30 #[.int .u8 (v : Int)] w fun e w' => e = .returned (wv ((bz v).toNat, (bo v).toNat)) ∧ Below w.heap.size w w' := by
  go_enter Try.func30, Try.ntmps30
  by_cases h0 : v = 0
  · subst h0
    go_wp2
    refine bodyPost_ret (v := wv (1, 0)) ?_ rfl ?_
    · simp [results, Try.results30, go_sem]
      rfl
    · exact ⟨rfl, text_alloc _ _⟩
  · have e0 : ((v : Int) == 0) = false := by simp; omega
    by_cases h1 : v = 1
    · subst h1
      go_wp2
      refine bodyPost_ret (v := wv (0, 1)) ?_ rfl ?_
      · simp [results, Try.results30, go_sem]
        rfl
      · exact ⟨rfl, text_alloc _ _⟩
    · have e1 : ((v : Int) == 1) = false := by simp; omega
      have HE : Hid (bz v = true ∧ bo v = true) := by unfold bz bo; exact ⟨decide_eq_true h1, decide_eq_true h0⟩
      clear h0 h1
      go_wp2
      refine bodyPost_ret (v := wv (1, 1)) ?_ rfl ?_
      · simp [results, Try.results30, go_sem]
        rfl
      · exact ⟨by rw [HE.out.1, HE.out.2]; rfl, text_alloc _ _⟩

theorem wrap_pow {k : Nat} (hk : k < 64) : IntKind.u64.wrap ((2 : Int) ^ k) = ((2 ^ k : Nat) : Int) := by
  have h := pow_lt hk
  have e : (2 : Int) ^ k = ((2 ^ k : Nat) : Int) := by norm_cast
  rw [e]
  obtain ⟨p, hp⟩ : ∃ p, p = 2 ^ k := ⟨_, rfl⟩
  rw [← hp] at h ⊢
  rw [IntKind.wrap_u64]
  omega
/-- What At answers. -/
def atE (m : Bool) (a : W2) (i : Int) : Ending := if m = true ∧ 0 ≤ i ∧ i < 64 then .returned (.tuple #[.int .u8 (atW a i.toNat : Nat), .bool true]) else .returned (.tuple #[.int .u8 0, .bool false])
theorem atE_yes {a : W2} {k : Nat} (hk : k < 64) : atE true a (k : Int) = .returned (.tuple #[.int .u8 (atW a k : Nat), .bool true]) := by
  unfold atE; rw [if_pos ⟨rfl, by omega, by omega⟩]; rfl
theorem atE_no {m : Bool} {a : W2} {i : Int} (h : ¬ (m = true ∧ 0 ≤ i ∧ i < 64)) : atE m a i = .returned (.tuple #[.int .u8 0, .bool false]) := by
  unfold atE; rw [if_neg h]

set_option maxRecDepth 100000 in
theorem at_any (a : W2) (ha : a.in) (i : Int) (w : World) : Calls Try.prog 12 #[wv a, .int .i64 i] w fun e w' => e = atE (mayW a) a i ∧ Below w.heap.size w w' := by
  have HM := Lib.hid (may_any a ha)
  have HI := Lib.hid (index_any i)
  obtain ⟨z, o⟩ := a
  unfold wv at HM ⊢
  simp only at HM ⊢
  obtain ⟨m, hm⟩ : ∃ m, m = mayW (z, o) := ⟨_, rfl⟩
  rw [← hm] at HM ⊢
  clear hm
  obtain ⟨q, hq⟩ : ∃ q, q = (decide (0 ≤ i) && decide (i < 64)) := ⟨_, rfl⟩
  rw [← hq] at HI
  have HQ := Lib.hid hq
  clear hq
  go_enter Try.func12, Try.ntmps12
  go_wp2_with fail
  refine (HM.out _).mono ?_
  rintro e w1 ⟨rfl, hb1⟩
  have hc := box_cells hb1
  obtain ⟨hc0, hc1⟩ := hc
  have hB := Lib.hid (text_behind hb1)
  clear hb1 HM
  cases m with
  | false =>
    clear HI HQ
    go_wp2
    go_ret2
    exact ⟨(atE_no (fun h => by cases h.1)).symm, hB.out⟩
  | true =>
    go_wp2_with fail
    refine (HI.out _).mono ?_
    rintro e w2 ⟨rfl, rfl⟩
    cases q with
    | false =>
      clear HI
      go_wp2
      go_ret2
      have hn : ¬ (0 ≤ i ∧ i < 64) := by
        have h := HQ.out
        intro h2
        simp [h2] at h
      exact ⟨(atE_no (fun h => hn h.2)).symm, hB.out⟩
    | true =>
      have hi : 0 ≤ i ∧ i < 64 := by
        have h := HQ.out
        rw [eq_comm, Bool.and_eq_true, decide_eq_true_iff, decide_eq_true_iff] at h
        exact h
      obtain ⟨k, hk⟩ := Int.eq_ofNat_of_zero_le hi.1
      have hk6 : k < 64 := by omega
      clear HI HQ
      subst hk
      have P1 := wrap_pow hk6
      have T1 := and64 ha.2 (pow_lt hk6)
      have T2 := and64 ha.1 (pow_lt hk6)
      have S1 := test64 o k
      have S2 := test64 z k
      have HE := Lib.hid (atE_yes (a := (z, o)) hk6)
      have HA : Hid (atW (z, o) k = if o.testBit k = false then 0 else if z.testBit k = false then 1 else 2) := rfl
      obtain ⟨p, hp⟩ : ∃ p : Nat, p = 2 ^ k := ⟨_, rfl⟩
      rw [← hp] at P1
      simp only at T1 T2
      rw [← hp] at T1 T2 S1 S2
      obtain ⟨x1, hx1⟩ : ∃ x : Nat, x = o &&& p := ⟨_, rfl⟩
      obtain ⟨x2, hx2⟩ : ∃ x : Nat, x = z &&& p := ⟨_, rfl⟩
      rw [← hx1] at T1 S1
      rw [← hx2] at T2 S2
      clear hx1 hx2 hp hi ha
      cases hb : o.testBit k with
      | false =>
        rw [hb] at S1
        simp only [Bool.not_false] at S1
        have HV : Hid (atW (z, o) k = 0) := by show _ = _; rw [HA.out, hb]; rfl
        clear hb S2 T2 HA
        go_wp2
        go_ret2
        exact ⟨by rw [HE.out, HV.out]; rfl, hB.out⟩
      | true =>
        rw [hb] at S1
        simp only [Bool.not_true] at S1
        cases hb2 : z.testBit k with
        | false =>
          rw [hb2] at S2
          simp only [Bool.not_false] at S2
          have HV : Hid (atW (z, o) k = 1) := by show _ = _; rw [HA.out, hb, hb2]; rfl
          clear hb hb2 HA
          go_wp2
          go_ret2
          exact ⟨by rw [HE.out, HV.out]; rfl, hB.out⟩
        | true =>
          rw [hb2] at S2
          simp only [Bool.not_true] at S2
          have HV : Hid (atW (z, o) k = 2) := by show _ = _; rw [HA.out, hb, hb2]; rfl
          clear hb hb2 HA
          go_wp2
          go_ret2
          exact ⟨by rw [HE.out, HV.out]; rfl, hB.out⟩
end Go.Proofs.Ytglhnmbfkbjemaa
