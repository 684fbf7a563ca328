/- The reference's Not, And, Within for words, by their contracts. -/
import Derived.Test.YtglhnmbfkbjemaaTRefD
import Derived.Test.YtglhnmbfkbjemaaTRefP
import Derived.Test.YtglhnmbfkbjemaaTWLaw
namespace Go.Proofs.Ytglhnmbfkbjemaa
open Go Go.RowKit Go.Joins

set_option maxRecDepth 100000 in
set_option maxHeartbeats 1600000 in
theorem rnot_any (a : W2) (ha : a.in) (w : World) : Calls Try.prog 17 #[wv a] w fun e w' => e = .returned (wv (notW a)) ∧ Below w.heap.size w w' := by
  have HM := Lib.hid (rmay_any a ha)
  have HAT := Lib.hid (rat_any a)
  have HN := Lib.hid (fun j => rnot1_any (atW a j))
  have HW := Lib.hid rwith_any
  have HF : Hid (∃ f : Nat → Nat, (mayW a = true → f = fun j => not1 (atW a j)) ∧ (mayW a = false → f = fun _ => 0) ∧ buildW f 64 = notW a) := by
    show ∃ _, _
    cases hm : mayW a with
    | true => exact ⟨_, fun _ => rfl, (fun h => by cases h), build_not ha hm⟩
    | false => exact ⟨_, (fun h => by cases h), fun _ => rfl, by rw [build_zero]; unfold notW; rw [if_neg (by rw [hm]; decide)]⟩
  obtain ⟨f, hf1, hf2, hf3⟩ := HF.out
  obtain ⟨m, hm⟩ : ∃ m, m = mayW a := ⟨_, rfl⟩
  rw [← hm] at HM hf1 hf2
  have HF1 := Lib.hid (fun h j => congrFun (hf1 h) j)
  have HF2 := Lib.hid (fun h j => congrFun (hf2 h) j)
  obtain ⟨V, hVv⟩ : ∃ V, V = wv (notW a) := ⟨_, rfl⟩
  rw [← hVv]
  have HV : Hid (V = wv (buildW f 64)) := by show _ = _; rw [hVv, hf3]
  clear hm hf1 hf2 hf3 hVv HF ha
  obtain ⟨a1, a2⟩ := a
  unfold wv at HM HAT
  show Calls Try.prog 17 #[.agg #[.int .u64 (a1 : Int), .int .u64 (a2 : Int)]] w _
  go_enter Try.func17, Try.ntmps17
  go_wp2_with fail
  generalize hW : World.alloc _ _ = W
  have hW0 := tmade3 hW
  clear hW
  have A0 := Lib.hid hW0.1
  have R0 := Lib.hid hW0.2.1
  have X0 := Lib.hid hW0.2.2.1
  have K0 := Lib.hid hW0.2.2.2
  clear hW0
  go_loopw [4] (fun i wr => ∃ (z : Int) (k x1 x2 : Nat), k ≤ 64 ∧ z = (k : Int) ∧ i = .int .i64 z ∧ Hid ((x1, x2) = buildW f k) ∧ Hid (wr.heap[w.heap.size + 2]? = some (.cells #[.int .u64 (x1 : Int), .int .u64 (x2 : Int)] 24 (0, 0))) ∧ Hid (wr.heap[w.heap.size + 1]? = some (.cells #[.int .u64 0, .int .u64 0] 24 (0, 0))) ∧ Hid (wr.heap[w.heap.size]? = some (.cells #[.int .u64 (a1 : Int), .int .u64 (a2 : Int)] 24 (0, 0))) ∧ Hid (Below w.heap.size w wr)) (fun i _ => 64 - (intOf i).toNat)
  case atStart => exact ⟨0, 0, 0, 0, by omega, rfl, rfl, rfl, X0.out, R0.out, A0.out, K0.out⟩
  case round =>
    obtain ⟨z, k, x1, x2, hk, hz, rfl, hx, hc, hr, haa, hb⟩ := hrel
    clear A0 R0 X0 K0
    by_cases hlt : k < 64
    · subst hz
      have W1 : IntKind.i64.wrap ((k : Int) + 1) = (k : Int) + 1 := IntWalk.i64_in _ (by omega)
      have hin : W2.in (x1, x2) := by rw [hx.out]; exact buildW_in f (by omega)
      have hst : buildW f (k + 1) = putW (x1, x2) k (f k) := by rw [hx.out]; rfl
      have HP := HW.out (x1, x2) hin k (f k) hlt
      rw [← hst] at HP
      obtain ⟨r, hr3⟩ : ∃ r, r = buildW f (k + 1) := ⟨_, rfl⟩
      rw [← hr3] at HP
      have HR3 := Lib.hid hr3
      have HAT1 := Lib.hid (HAT.out k hlt)
      have HN1 := Lib.hid (HN.out k)
      have HF1k := Lib.hid (fun h => HF1.out h k)
      have HF2k := Lib.hid (fun h => HF2.out h k)
      clear hst hr3 hin hx HW HAT HN HF1 HF2
      obtain ⟨p, hp⟩ : ∃ p, p = atW (a1, a2) k := ⟨_, rfl⟩
      rw [← hp] at HAT1 HN1 HF1k
      obtain ⟨fk, hfk⟩ : ∃ x, x = f k := ⟨_, rfl⟩
      rw [← hfk] at HP HF1k HF2k
      clear hp hfk
      obtain ⟨s1, s2⟩ := r
      have HP3 : Hid (∀ W, Calls Try.prog 29 #[.agg #[.int .u64 (x1 : Int), .int .u64 (x2 : Int)], .int .i64 (k : Int), .int .u8 (fk : Int)] W fun e w' => e = .returned (.agg #[.int .u64 (s1 : Int), .int .u64 (s2 : Int)]) ∧ Below W.heap.size W w') := HP
      clear HP
      have a0 := cell_of_block haa.out 0
      have a1' := cell_of_block haa.out 1
      have x0 := cell_of_block hc.out 0
      have x1' := cell_of_block hc.out 1
      go_wp2_with fail
      refine (HM.out _).mono ?_
      rintro e w1 ⟨rfl, hb1⟩
      have hc1 := Lib.hid (theap_below hc.out hb1)
      have hr1 := Lib.hid (theap_below hr.out hb1)
      have ha1 := Lib.hid (theap_below haa.out hb1)
      have hb2 := Lib.hid (text_trans hb.out hb1)
      clear hb1 hc hr haa hb a0 a1' x0 x1' HM
      have fa0 : w1.cell? ⟨w.heap.size, 0, none⟩ = some (.int .u64 (a1 : Int)) := cell_of_block ha1.out 0
      have fa1 : w1.cell? ⟨w.heap.size, 1, none⟩ = some (.int .u64 (a2 : Int)) := cell_of_block ha1.out 1
      have fx0 : w1.cell? ⟨w.heap.size + 2, 0, none⟩ = some (.int .u64 (x1 : Int)) := cell_of_block hc1.out 0
      have fx1 : w1.cell? ⟨w.heap.size + 2, 1, none⟩ = some (.int .u64 (x2 : Int)) := cell_of_block hc1.out 1
      have fy0 := unfrozen_of_block hc1.out 0
      have fy1 := unfrozen_of_block hc1.out 1
      cases m with
      | true =>
        obtain rfl : fk = not1 p := HF1k.out rfl
        clear HF1k HF2k
        go_upto_region 6 with fail
        go_region_with (first
          | (go_at_call 33; (with_reducible refine (HAT1.out _).mono ?_); rintro e s1w ⟨rfl, sb1⟩; have SB1 : Below w1.heap.size w1 s1w := ((Below.refl _ w1).drew).trans sb1; have g0 := tcell_below fx0 SB1; have g1 := tcell_below fx1 SB1)
          | (go_at_call 23; (with_reducible refine (HN1.out _).mono ?_); rintro e s2w ⟨rfl, rfl⟩)
          | (go_at_call 29; (with_reducible refine (HP3.out _).mono ?_); rintro e s3w ⟨rfl, sb3⟩; have SB3 := text_trans SB1 sb3; have h3 := theap_below hc1.out SB3; have z0 := cell_of_block h3 0; have z1 := cell_of_block h3 1; have z2 := unfrozen_of_block h3 0; have z3 := unfrozen_of_block h3 1))
        all_goals (
          have HR2 := Lib.hid (theap_below hr1.out SB3)
          have HA2 := Lib.hid (theap_below ha1.out SB3)
          have HB2 := Lib.hid (text_trans hb2.out SB3)
          have HC2 := Lib.hid h3
          clear sb1 SB1 g0 g1 sb3 SB3 h3 hc1 hr1 ha1 hb2 fa0 fa1 fx0 fx1 fy0 fy1 HAT1 HN1 HP3
          go_wp2)
        all_goals first
          | exact ⟨⟨_, k + 1, s1, s2, by omega, by omega, rfl, HR3.out, tcell2 HC2.out rfl _ _, tset_other HR2.out (by omega) _ _, tset_other HA2.out (by omega) _ _, tset HB2.out (by omega) _ _⟩, by simp [intOf]; omega⟩
          | (go_roundw
             case rel => exact ⟨_, k + 1, s1, s2, by omega, by omega, rfl, HR3.out, tcell2 HC2.out rfl _ _, tset_other HR2.out (by omega) _ _, tset_other HA2.out (by omega) _ _, tset HB2.out (by omega) _ _⟩
             case measure => simp [intOf]; omega)
      | false =>
        obtain rfl : fk = 0 := HF2k.out rfl
        have HP4 : Hid (∀ W, Calls Try.prog 29 #[.agg #[.int .u64 (x1 : Int), .int .u64 (x2 : Int)], .int .i64 (k : Int), .int .u8 0] W fun e w' => e = .returned (.agg #[.int .u64 (s1 : Int), .int .u64 (s2 : Int)]) ∧ Below W.heap.size W w') := HP3
        clear HF1k HF2k HP3 HAT1 HN1
        go_wp2_with fail
        refine (HP4.out _).mono ?_
        rintro e s3w ⟨rfl, SB3⟩
        have h3 := theap_below hc1.out SB3
        have HR2 := Lib.hid (theap_below hr1.out SB3)
        have HA2 := Lib.hid (theap_below ha1.out SB3)
        have HB2 := Lib.hid (text_trans hb2.out SB3)
        have HC2 := Lib.hid h3
        have z0 := cell_of_block h3 0
        have z1 := cell_of_block h3 1
        have z2 := unfrozen_of_block h3 0
        have z3 := unfrozen_of_block h3 1
        clear SB3 h3 hc1 hr1 ha1 hb2 fa0 fa1 fx0 fx1 fy0 fy1 HP4
        go_wp2
        go_roundw
        case rel => exact ⟨_, k + 1, s1, s2, by omega, by omega, rfl, HR3.out, tcell2 HC2.out rfl _ _, tset_other HR2.out (by omega) _ _, tset_other HA2.out (by omega) _ _, tset HB2.out (by omega) _ _⟩
        case measure => simp [intOf]; omega
    · have hk6 : k = 64 := by omega
      subst hk6
      obtain rfl : z = 64 := by omega
      have HX := Lib.hid hx.out
      clear hk hlt hz hx HM HAT HN HW HF1 HF2
      have g0 := cell_of_block hc.out 0
      have g1 := cell_of_block hc.out 1
      have f0 := unfrozen_of_block hr.out 0
      have f1 := unfrozen_of_block hr.out 1
      have d0 := cell_of_block hr.out 0
      have d1 := cell_of_block hr.out 1
      go_wp2
      refine bodyPost_ret (v := .agg #[.int .u64 (x1 : Int), .int .u64 (x2 : Int)]) ?_ rfl ?_
      · have h6 := tcell2 hr.out rfl (.int .u64 (x1 : Int)) (.int .u64 (x2 : Int))
        simp [results, Try.results17, go_sem, cell_of_block h6 0, cell_of_block h6 1]
      · exact ⟨by rw [HV.out, ← HX.out]; rfl, tset hb.out (by omega) _ _⟩
end Go.Proofs.Ytglhnmbfkbjemaa
