/- The reference's Of for words, by its contract. -/
import Derived.Test.YtglhnmbfkbjemaaTRefC
namespace Go.Proofs.Ytglhnmbfkbjemaa
open Go Go.RowKit Go.Joins

theorem ones_step {k : Nat} (hk : k < 64) : putW (2 ^ k - 1, 0) k 0 = (2 ^ (k + 1) - 1, 0) := by
  have l0 : 2 ^ k - 1 < 18446744073709551616 := by have := pow_lt hk; omega
  have l1 : 2 ^ (k + 1) - 1 < 18446744073709551616 := by
    have : 2 ^ (k + 1) ≤ 2 ^ 64 := Nat.pow_le_pow_right (by omega) (by omega)
    have h0 := Nat.two_pow_pos (k + 1)
    omega
  refine W2.ext (putW_in ⟨l0, Nat.zero_lt_succ _⟩ hk) ⟨l1, Nat.zero_lt_succ _⟩ fun j hj => ?_
  show (putB _ _ _).testBit j = _ ∧ (putB _ _ _).testBit j = _
  rw [putB_bit hk hj, putB_bit hk hj]
  show (if k = j then bz 0 else (2 ^ k - 1).testBit j) = (2 ^ (k + 1) - 1).testBit j ∧ (if k = j then bo 0 else (0 : Nat).testBit j) = (0 : Nat).testBit j
  rw [Nat.testBit_two_pow_sub_one, Nat.testBit_two_pow_sub_one, Nat.zero_testBit]
  by_cases e : k = j
  · subst e
    rw [if_pos rfl, if_pos rfl]
    exact ⟨by rw [decide_eq_true (by omega)]; rfl, rfl⟩
  · rw [if_neg e, if_neg e]
    refine ⟨?_, rfl⟩
    by_cases h : j < k
    · rw [decide_eq_true h, decide_eq_true (by omega)]
    · rw [decide_eq_false h, decide_eq_false (by omega)]

set_option maxRecDepth 100000 in
set_option maxHeartbeats 1600000 in
theorem rof_any (l : List UInt8) (a : Option Addr) (n c : Nat) (w : World) (hs : Sees w a n c (l.map bv)) : Calls Try.prog 7 #[.slice a n c] w fun e w' => e = w2E (ofR l) ∧ Below w.heap.size w w' := by
  have hl : l.length = n := by have := hs.len; simpa using this
  have HS := Lib.hid hs
  have HL := Lib.hid hl
  have HP := Lib.hid rwith_any
  have HZ1 : Hid (∀ k : Nat, k < 64 → ∀ W : World, Calls Try.prog 29 #[.agg #[.int .u64 ((2 ^ k - 1 : Nat) : Int), .int .u64 0], .int .i64 (k : Int), .int .u8 0] W fun e w' => e = .returned (.agg #[.int .u64 ((2 ^ (k + 1) - 1 : Nat) : Int), .int .u64 0]) ∧ Below W.heap.size W w') := by
    intro k hk W
    have l0 : 2 ^ k - 1 < 18446744073709551616 := by have := pow_lt hk; omega
    have := rwith_any (2 ^ k - 1, 0) ⟨l0, Nat.zero_lt_succ _⟩ k 0 hk W
    rw [ones_step hk] at this
    exact this
  obtain ⟨E, hE⟩ : ∃ E, E = w2E (ofR l) := ⟨_, rfl⟩
  have HLONG : Hid (64 < n → E = .returned (.tuple #[.agg #[.int .u64 0, .int .u64 0], .int .i64 2])) := by
    intro h; rw [hE]; unfold ofR; rw [if_pos (by omega)]; rfl
  have HNO : Hid (¬ 64 < n → ofGo zeroW 0 l = none → E = .returned (.tuple #[.agg #[.int .u64 0, .int .u64 0], .int .i64 2])) := by
    intro h h2; rw [hE]; unfold ofR; rw [if_neg (by omega), h2]; rfl
  have HYES : Hid (∀ r1 r2 : Nat, ¬ 64 < n → ofGo zeroW 0 l = some (r1, r2) → E = .returned (.tuple #[.agg #[.int .u64 (r1 : Int), .int .u64 (r2 : Int)], .int .i64 0])) := by
    intro r1 r2 h h2; rw [hE]; unfold ofR; rw [if_neg (by omega), h2]; rfl
  rw [← hE]
  clear hE hs hl
  go_enter Try.func7, Try.ntmps7
  go_wp2_with fail
  generalize hW : World.alloc _ _ = W0
  have hW0 := tmade2 hW
  have HW0 := Lib.hid hW0.1
  have HW1 := Lib.hid hW0.2.1
  have HWB := Lib.hid hW0.2.2
  clear hW0 hW
  go_loopw [5] (fun i wr => ∃ (z : Int) (k x : Nat), k ≤ 64 ∧ z = (k : Int) ∧ i = .int .i64 z ∧ Hid (x = 2 ^ k - 1) ∧ Hid (wr.heap[w.heap.size + 1]? = some (.cells #[.int .u64 (x : Int), .int .u64 0] 24 (0, 0))) ∧ Hid (wr.heap[w.heap.size]? = some (.cells #[.int .u64 0, .int .u64 0] 24 (0, 0))) ∧ Hid (Below w.heap.size w wr)) (fun i _ => 64 - (intOf i).toNat)
  case atStart => exact ⟨0, 0, 0, by omega, rfl, rfl, rfl, HW1.out, HW0.out, HWB.out⟩
  case round =>
    obtain ⟨z, k, x, hk, hz, rfl, hx, hc, hr, hb⟩ := hrel
    clear HW0 HW1 HWB
    have g0 := cell_of_block hc.out 0
    have g1 := cell_of_block hc.out 1
    by_cases hlt : k < 64
    · subst hz
      have HP1 := HZ1.out k hlt
      rw [← hx.out] at HP1
      obtain ⟨y, hy⟩ : ∃ y, y = 2 ^ (k + 1) - 1 := ⟨_, rfl⟩
      rw [← hy] at HP1
      have HP2 := Lib.hid HP1
      have HY := Lib.hid hy
      have W1 : IntKind.i64.wrap ((k : Int) + 1) = (k : Int) + 1 := IntWalk.i64_in _ (by omega)
      clear HP1 hy hx HZ1 HP HLONG HNO HYES
      go_wp2_with fail
      refine (HP2.out _).mono ?_
      rintro e w2 ⟨rfl, hb2⟩
      have h3 := theap_below hc.out hb2
      have HR2 := Lib.hid (theap_below hr.out hb2)
      have HB2 := Lib.hid (text_trans hb.out hb2)
      have HC2 := Lib.hid h3
      clear g0 g1 hb2 hc hr hb
      have g0 := cell_of_block h3 0
      have g1 := cell_of_block h3 1
      have g2 := unfrozen_of_block h3 0
      have g3 := unfrozen_of_block h3 1
      clear h3
      go_wp2
      go_roundw
      case rel => exact ⟨_, k + 1, y, by omega, by omega, rfl, HY.out, tcell2 HC2.out rfl _ _, tset_other HR2.out (by omega) _ _, tset HB2.out (by omega) _ _⟩
      case measure => simp [intOf]; omega
    · have hk6 : k = 64 := by omega
      subst hk6
      obtain rfl : z = 64 := by omega
      obtain rfl : x = full := hx.out
      clear hz
      clear hk hlt HZ1 hx
      have f0 := unfrozen_of_block hr.out 0
      have f1 := unfrozen_of_block hr.out 1
      have d0 := cell_of_block hr.out 0
      have d1 := cell_of_block hr.out 1
      by_cases h64 : 64 < n
      · have e1 : decide ((64 : Int) < (n : Int)) = true := by simp; omega
        have HY := Lib.hid (HLONG.out h64)
        clear h64 HLONG HNO HYES HP
        go_wp2
        refine bodyPost_ret (v := .tuple #[.agg #[.int .u64 0, .int .u64 0], .int .i64 2]) ?_ rfl ?_
        · have h6 := tcell2 hr.out rfl (.int .u64 0) (.int .u64 0)
          simp [results, Try.results7, go_sem, cell_of_block h6 0, cell_of_block h6 1]
        · exact ⟨HY.out.symm, tset hb.out (Nat.le_refl _) _ _⟩
      · have e1 : decide ((64 : Int) < (n : Int)) = false := by simp; omega
        have hn64 : n ≤ 64 := by omega
        have HN := Lib.hid (HNO.out h64)
        have HY := Lib.hid (fun r1 r2 => HYES.out r1 r2 h64)
        have HC0 := Lib.hid hc.out
        have HR0 := Lib.hid hr.out
        have HB0 := Lib.hid hb.out
        clear h64 HLONG HNO HYES hc hr hb
        go_wp2_with fail
        clear f0 f1 d0 d1 g0 g1
        go_loopw [6] (fun i wr => ∃ k r1 r2 : Nat, k ≤ n ∧ i = .int .i64 k ∧ Hid (wr.heap[w.heap.size + 1]? = some (.cells #[.int .u64 (r1 : Int), .int .u64 (r2 : Int)] 24 (0, 0))) ∧ Hid (wr.heap[w.heap.size]? = some (.cells #[.int .u64 0, .int .u64 0] 24 (0, 0))) ∧ Hid (W2.in (r1, r2)) ∧ Hid (ofGo zeroW 0 l = ofGo (r1, r2) k (l.drop k)) ∧ Hid (Below w.heap.size w wr)) (fun i _ => n - (intOf i).toNat)
        case atStart => exact ⟨0, full, 0, Nat.zero_le _, rfl, HC0.out, HR0.out, zeroW_in, rfl, HB0.out⟩
        case round =>
          obtain ⟨k, r1, r2, hk, rfl, hc, hr, hin, hgo, hb⟩ := hrel
          clear HC0 HR0 HB0
          by_cases hlt : k < n
          · obtain ⟨b, off, rfl, hbw⟩ := HS.out.addr (by omega)
            have hcx := (HS.out.below hb.out).byte k hlt
            obtain ⟨x, hx⟩ : ∃ x, x = (l.getD k 0).toNat := ⟨_, rfl⟩
            rw [← hx] at hcx
            have hdr : l.drop k = l.getD k 0 :: l.drop (k + 1) := by
              rw [List.drop_eq_getElem_cons (by rw [HL.out]; exact hlt)]; simp [List.getD, List.getElem?_eq_getElem (show k < l.length by rw [HL.out]; exact hlt)]
            have hst : ofGo zeroW 0 l = if 2 < x then none else ofGo (putW (r1, r2) k x) (k + 1) (l.drop (k + 1)) := by
              rw [hgo.out, hdr, ofGo, ← hx]
            have HST := Lib.hid hst
            clear hst hdr hx hbw hgo
            have g0 := cell_of_block hc.out 0
            have g1 := cell_of_block hc.out 1
            have f0 := unfrozen_of_block hr.out 0
            have f1 := unfrozen_of_block hr.out 1
            have d0 := cell_of_block hr.out 0
            have d1 := cell_of_block hr.out 1
            have W1 : IntKind.i64.wrap ((k : Int) + 1) = (k : Int) + 1 := IntWalk.i64_in _ (by omega)
            by_cases h2 : 2 < x
            · have e2 : decide ((2 : Int) < (x : Int)) = true := by simp; omega
              have HE := Lib.hid (HN.out (by rw [HST.out, if_pos h2]))
              clear h2 HN HY HP HST
              go_wp2
              refine bodyPost_ret (v := .tuple #[.agg #[.int .u64 0, .int .u64 0], .int .i64 2]) ?_ rfl ?_
              · have h6 := tcell2 hr.out rfl (.int .u64 0) (.int .u64 0)
                simp [results, Try.results7, go_sem, cell_of_block h6 0, cell_of_block h6 1]
              · exact ⟨HE.out.symm, tset hb.out (Nat.le_refl _) _ _⟩
            · have e2 : decide ((2 : Int) < (x : Int)) = false := by simp; omega
              have hk6 : k < 64 := by omega
              have HP2 := HP.out (r1, r2) hin.out k x hk6
              have HGO : Hid (ofGo zeroW 0 l = ofGo (putW (r1, r2) k x) (k + 1) (l.drop (k + 1))) := by show _ = _; rw [HST.out, if_neg h2]
              have HIN : Hid (W2.in (putW (r1, r2) k x)) := putW_in hin.out hk6
              obtain ⟨r, hr3⟩ : ∃ r, r = putW (r1, r2) k x := ⟨_, rfl⟩
              rw [← hr3] at HP2 HGO HIN
              obtain ⟨s1, s2⟩ := r
              have HP3 : Hid (∀ W, Calls Try.prog 29 #[.agg #[.int .u64 (r1 : Int), .int .u64 (r2 : Int)], .int .i64 (k : Int), .int .u8 (x : Int)] W fun e w' => e = .returned (.agg #[.int .u64 (s1 : Int), .int .u64 (s2 : Int)]) ∧ Below W.heap.size W w') := HP2
              clear h2 HN HY HP HP2 HST hr3 hin f0 f1 d0 d1
              go_upto_region 13 with fail
              go_region_with (go_at_call 29; refine (HP3.out _).mono ?_; rintro e w2 ⟨rfl, hb2⟩; have hbb := ((Below.refl _ wr).drew).trans hb2; have h3 := theap_below hc.out hbb; have g0 := cell_of_block h3 0; have g1 := cell_of_block h3 1; have g2 := unfrozen_of_block h3 0; have g3 := unfrozen_of_block h3 1)
              all_goals (
                have HR2 := Lib.hid (theap_below hr.out hbb)
                have HB2 := Lib.hid (text_trans hb.out hbb)
                have HC2 := Lib.hid h3
                clear hb2 hbb hcx hc hr hb h3
                go_wp2)
              all_goals first
                | exact ⟨⟨k + 1, s1, s2, by omega, by go_num, tcell2 HC2.out rfl _ _, tset_other HR2.out (by omega) _ _, HIN.out, HGO.out, tset HB2.out (by omega) _ _⟩, by simp [intOf]; omega⟩
                | (go_roundw
                   case rel => exact ⟨k + 1, s1, s2, by omega, by go_num, tcell2 HC2.out rfl _ _, tset_other HR2.out (by omega) _ _, HIN.out, HGO.out, tset HB2.out (by omega) _ _⟩
                   case measure => simp [intOf]; omega)
          · have hkn : k = n := by omega
            subst hkn
            have HE := Lib.hid (HY.out r1 r2 (by rw [hgo.out, List.drop_of_length_le (by rw [HL.out]; exact Nat.le_refl _)]; rfl))
            have g0 := cell_of_block hc.out 0
            have g1 := cell_of_block hc.out 1
            have f0 := unfrozen_of_block hr.out 0
            have f1 := unfrozen_of_block hr.out 1
            have d0 := cell_of_block hr.out 0
            have d1 := cell_of_block hr.out 1
            clear HN HY HP hgo hin
            go_wp2
            refine bodyPost_ret (v := .tuple #[.agg #[.int .u64 (r1 : Int), .int .u64 (r2 : Int)], .int .i64 0]) ?_ rfl ?_
            · have h6 := tcell2 hr.out rfl (.int .u64 (r1 : Int)) (.int .u64 (r2 : Int))
              simp [results, Try.results7, go_sem, cell_of_block h6 0, cell_of_block h6 1]
            · exact ⟨HE.out.symm, tset hb.out (Nat.le_refl _) _ _⟩
end Go.Proofs.Ytglhnmbfkbjemaa
