/- The reference's At, With, Of for words, by their contracts. -/
import Derived.Test.YtglhnmbfkbjemaaTRefB
import Derived.Deep.RegionWith
namespace Go.Proofs.Ytglhnmbfkbjemaa
open Go Go.RowKit Go.Joins

set_option maxRecDepth 100000 in
theorem rAt_any (a : W2) (ha : a.in) (i : Int) (w : World) : Calls Try.prog 13 #[wv a, .int .i64 i] w fun e w' => e = atE (mayW a) a i ∧ Below w.heap.size w w' := by
  have HM := Lib.hid (rmay_any a ha)
  have HA := Lib.hid (rat_any a)
  obtain ⟨m, hm⟩ : ∃ m, m = mayW a := ⟨_, rfl⟩
  rw [← hm] at HM ⊢
  clear hm ha
  have HNO : Hid (¬ (m = true ∧ 0 ≤ i ∧ i < 64) → atE m a i = .returned (.tuple #[.int .u8 0, .bool false])) := fun h => atE_no h
  have HYES : Hid (∀ k : Nat, m = true → k < 64 → i = (k : Int) → atE m a i = .returned (.tuple #[.int .u8 (atW a k : Nat), .bool true])) := fun k h1 h2 h3 => by subst h1 h3; exact atE_yes h2
  obtain ⟨E, hE⟩ : ∃ E, E = atE m a i := ⟨_, rfl⟩
  rw [← hE] at HNO HYES ⊢
  clear hE
  obtain ⟨z, o⟩ := a
  unfold wv at HM HA
  show Calls Try.prog 13 #[.agg #[.int .u64 (z : Int), .int .u64 (o : Int)], .int .i64 i] w _
  go_enter Try.func13, Try.ntmps13
  go_wp2_with fail
  refine (HM.out _).mono ?_
  rintro e w1 ⟨rfl, hb1⟩
  obtain ⟨hc0, hc1⟩ := box_cells hb1
  have hB := Lib.hid (text_behind hb1)
  clear hb1 HM
  cases m with
  | false =>
    clear HA
    go_wp2
    go_ret2
    exact ⟨(HNO.out (fun h => by cases h.1)).symm, hB.out⟩
  | true =>
    by_cases h1 : i < 0
    · have e1 : decide (i < (0 : Int)) = true := decide_eq_true h1
      have HH := Lib.hid (HNO.out (fun h => by omega))
      clear HA h1 HNO HYES
      go_wp2
      go_ret2
      exact ⟨HH.out.symm, hB.out⟩
    · have e1 : decide (i < (0 : Int)) = false := decide_eq_false h1
      by_cases h2 : 64 ≤ i
      · have e2 : decide ((64 : Int) ≤ i) = true := decide_eq_true h2
        have HH := Lib.hid (HNO.out (fun h => by omega))
        clear HA h1 h2 HNO HYES
        go_wp2
        go_ret2
        exact ⟨HH.out.symm, hB.out⟩
      · have e2 : decide ((64 : Int) ≤ i) = false := decide_eq_false h2
        obtain ⟨k, hk⟩ := Int.eq_ofNat_of_zero_le (show 0 ≤ i by omega)
        have hk6 : k < 64 := by omega
        have HH := Lib.hid (HYES.out k (by trivial) hk6 hk)
        have HA1 := Lib.hid (HA.out k hk6)
        subst hk
        clear HA h1 h2 HNO HYES
        go_wp2_with fail
        refine (HA1.out _).mono ?_
        rintro e w2 ⟨rfl, hb2⟩
        have hB2 := Lib.hid (text_trans hB.out hb2)
        clear hb2 hB hc0 hc1
        go_wp2
        go_ret2
        exact ⟨HH.out.symm, hB2.out⟩

set_option maxRecDepth 100000 in
theorem rWith_any (a : W2) (ha : a.in) (i : Int) (v : Nat) (w : World) : Calls Try.prog 15 #[wv a, .int .i64 i, .int .u8 (v : Int)] w fun e w' => e = w2E (withR a i v) ∧ Below w.heap.size w w' := by
  have HM := Lib.hid (rmay_any a ha)
  have HP := Lib.hid (fun (k : Nat) (hk : k < 64) => rwith_any a ha k v hk)
  obtain ⟨E, hE⟩ : ∃ E, E = w2E (withR a i v) := ⟨_, rfl⟩
  have HNO : Hid (¬ (mayW a = true ∧ (0 ≤ i ∧ i < 64) ∧ v ≤ 2) → E = .returned (.tuple #[.agg #[.int .u64 0, .int .u64 0], .int .i64 2])) := by
    intro h; rw [hE, withR_no h]; rfl
  have HYES : Hid (∀ k : Nat, mayW a = true → k < 64 → v ≤ 2 → i = (k : Int) → E = .returned (.tuple #[wv (putW a k v), .int .i64 0])) := by
    intro k hm hk hv hi; subst hi; rw [hE, withR_yes hm hk hv]; rfl
  rw [← hE]
  clear hE
  obtain ⟨z, o⟩ := a
  have hwv : wv (z, o) = .agg #[.int .u64 (z : Int), .int .u64 (o : Int)] := rfl
  rw [hwv] at HM HP ⊢
  clear hwv
  obtain ⟨m, hm⟩ : ∃ m, m = mayW (z, o) := ⟨_, rfl⟩
  rw [← hm] at HM HNO HYES
  clear hm ha
  go_enter Try.func15, Try.ntmps15
  go_wp2_with fail
  refine (HM.out _).mono ?_
  generalize hW : World.alloc _ _ = W
  rintro e w1 ⟨rfl, hb1⟩
  have hW0 := tmade2 hW
  clear hW
  have h0 := theap_below hW0.1 hb1
  have h1 := theap_below hW0.2.1 hb1
  have hB := Lib.hid (text_trans hW0.2.2 hb1)
  clear hW0 hb1 HM
  have a0 := cell_of_block h0 0
  have a1 := cell_of_block h0 1
  have H1 := Lib.hid h1
  have f0 := unfrozen_of_block h1 0
  have f1 := unfrozen_of_block h1 1
  have d0 := cell_of_block h1 0
  have d1 := cell_of_block h1 1
  clear h0 h1
  cases m with
  | false =>
    clear HP
    go_wp2
    refine bodyPost_ret (v := .tuple #[.agg #[.int .u64 0, .int .u64 0], .int .i64 2]) ?_ rfl ?_
    · have h6 := tcell2 H1.out rfl (.int .u64 0) (.int .u64 0)
      simp [results, Try.results15, go_sem, cell_of_block h6 0, cell_of_block h6 1]
    · exact ⟨(HNO.out (fun h => by cases h.1)).symm, tset hB.out (by omega) _ _⟩
  | true =>
    by_cases hi : (0 ≤ i ∧ i < 64) ∧ v ≤ 2
    · obtain ⟨k, hk⟩ := Int.eq_ofNat_of_zero_le hi.1.1
      have hk6 : k < 64 := by omega
      have hv2 := hi.2
      subst hk
      have e1 : decide ((k : Int) < 0) = false := by simp
      have e2 : decide ((64 : Int) ≤ (k : Int)) = false := by simp; omega
      have e3 : decide ((2 : Int) < (v : Int)) = false := by simp; omega
      have HP2 := Lib.hid (HP.out k hk6)
      have HY := Lib.hid (HYES.out k (by trivial) hk6 hv2 (by trivial))
      obtain ⟨r, hr⟩ : ∃ r, r = putW (z, o) k v := ⟨_, rfl⟩
      rw [← hr] at HP2 HY
      obtain ⟨r1, r2⟩ := r
      have hwv : wv (r1, r2) = .agg #[.int .u64 (r1 : Int), .int .u64 (r2 : Int)] := rfl
      rw [hwv] at HP2 HY
      clear hr hwv hi hv2 HP hk6 HNO HYES
      go_wp2_with fail
      refine (HP2.out _).mono ?_
      rintro e w3 ⟨rfl, hb3⟩
      have h3 := theap_below H1.out hb3
      have hB3 := Lib.hid (text_trans hB.out hb3)
      clear a0 a1 d0 d1 f0 f1 hb3
      have f0 := unfrozen_of_block h3 0
      have f1 := unfrozen_of_block h3 1
      have d0 := cell_of_block h3 0
      have d1 := cell_of_block h3 1
      have H3 := Lib.hid h3
      clear h3 H1 hB
      go_wp2
      refine bodyPost_ret (v := .tuple #[.agg #[.int .u64 (r1 : Int), .int .u64 (r2 : Int)], .int .i64 0]) ?_ rfl ?_
      · have h6 := tcell2 H3.out rfl (.int .u64 (r1 : Int)) (.int .u64 (r2 : Int))
        simp [results, Try.results15, go_sem, cell_of_block h6 0, cell_of_block h6 1]
      · exact ⟨HY.out.symm, tset hB3.out (by omega) _ _⟩
    · have HH := Lib.hid (HNO.out (fun h => hi h.2))
      clear HP HNO HYES
      by_cases h1 : i < 0
      · have e1 : decide (i < (0 : Int)) = true := decide_eq_true h1
        clear hi h1
        go_wp2
        refine bodyPost_ret (v := .tuple #[.agg #[.int .u64 0, .int .u64 0], .int .i64 2]) ?_ rfl ?_
        · have h6 := tcell2 H1.out rfl (.int .u64 0) (.int .u64 0)
          simp [results, Try.results15, go_sem, cell_of_block h6 0, cell_of_block h6 1]
        · exact ⟨HH.out.symm, tset hB.out (by omega) _ _⟩
      · have e1 : decide (i < (0 : Int)) = false := decide_eq_false h1
        by_cases h2 : 64 ≤ i
        · have e2 : decide ((64 : Int) ≤ i) = true := decide_eq_true h2
          clear hi h1 h2
          go_wp2
          refine bodyPost_ret (v := .tuple #[.agg #[.int .u64 0, .int .u64 0], .int .i64 2]) ?_ rfl ?_
          · have h6 := tcell2 H1.out rfl (.int .u64 0) (.int .u64 0)
            simp [results, Try.results15, go_sem, cell_of_block h6 0, cell_of_block h6 1]
          · exact ⟨HH.out.symm, tset hB.out (by omega) _ _⟩
        · have e2 : decide ((64 : Int) ≤ i) = false := decide_eq_false h2
          have e3 : decide ((2 : Int) < (v : Int)) = true := by
            rw [decide_eq_true_iff]
            have h4 : ¬ v ≤ 2 := fun hv => hi ⟨⟨by omega, by omega⟩, hv⟩
            omega
          clear hi h1 h2
          go_wp2
          refine bodyPost_ret (v := .tuple #[.agg #[.int .u64 0, .int .u64 0], .int .i64 2]) ?_ rfl ?_
          · have h6 := tcell2 H1.out rfl (.int .u64 0) (.int .u64 0)
            simp [results, Try.results15, go_sem, cell_of_block h6 0, cell_of_block h6 1]
          · exact ⟨HH.out.symm, tset hB.out (by omega) _ _⟩
end Go.Proofs.Ytglhnmbfkbjemaa
