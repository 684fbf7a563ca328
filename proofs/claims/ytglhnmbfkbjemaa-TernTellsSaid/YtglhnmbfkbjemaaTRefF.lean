/- The reference's Within for words, by its contract. -/
import Derived.Test.YtglhnmbfkbjemaaTRefD
import Derived.Test.YtglhnmbfkbjemaaTRefP
import Derived.Test.YtglhnmbfkbjemaaTPLaw
namespace Go.Proofs.Ytglhnmbfkbjemaa
open Go Go.RowKit Go.Joins

theorem build_none : ∀ k, buildN (fun _ => false) k = 0
  | 0 => rfl
  | k + 1 => by
    unfold buildN
    rw [if_neg (by decide)]
    exact build_none k

set_option maxRecDepth 100000 in
set_option maxHeartbeats 6400000 in
theorem rwithin_any (a b : W2) (ha : a.in) (hb : b.in) (w : World) : Calls Try.prog 21 #[wv a, wv b] w fun e w' => e = .returned (.int .u64 (withinW a b : Nat)) ∧ Below w.heap.size w w' := by
  have HM := Lib.hid (rmay_any a ha)
  have HM2 := Lib.hid (rmay_any b hb)
  have HAT := Lib.hid (rat_any a)
  have HBT := Lib.hid (rat_any b)
  have HF : Hid (∃ g : Nat → Bool, ((mayW a && mayW b) = true → g = inW a b) ∧ ((mayW a && mayW b) = false → g = fun _ => false) ∧ buildN g 64 = withinW a b) := by
    show ∃ _, _
    cases hm : (mayW a && mayW b) with
    | true =>
      have h2 := Bool.and_eq_true_iff.1 hm
      exact ⟨_, fun _ => rfl, (fun h => by cases h), build_within ha hb h2.1 h2.2⟩
    | false => exact ⟨_, (fun h => by cases h), fun _ => rfl, by rw [build_none]; unfold withinW; rw [if_neg (fun h => by rw [h.1, h.2] at hm; cases hm)]⟩
  obtain ⟨g, hf1, hf2, hf3⟩ := HF.out
  obtain ⟨m, hm⟩ : ∃ m, m = mayW a := ⟨_, rfl⟩
  obtain ⟨m2, hm2⟩ : ∃ m, m = mayW b := ⟨_, rfl⟩
  rw [← hm] at HM hf1 hf2
  rw [← hm2] at HM2 hf1 hf2
  have HF1 := Lib.hid (fun h j => congrFun (hf1 h) j)
  have HF2 := Lib.hid (fun h j => congrFun (hf2 h) j)
  obtain ⟨V, hVv⟩ : ∃ V, V = withinW a b := ⟨_, rfl⟩
  rw [← hVv]
  have HV : Hid (buildN g 64 = V) := by show _ = _; rw [hVv, hf3]
  clear hm hm2 hf1 hf2 hf3 hVv HF ha hb
  obtain ⟨a1, a2⟩ := a
  obtain ⟨b1, b2⟩ := b
  unfold wv at HM HM2 HAT HBT
  show Calls Try.prog 21 #[.agg #[.int .u64 (a1 : Int), .int .u64 (a2 : Int)], .agg #[.int .u64 (b1 : Int), .int .u64 (b2 : Int)]] w _
  go_enter Try.func21, Try.ntmps21
  go_wp2_with fail
  generalize hW : World.alloc _ _ = W
  have B0 : Hid (Box2 w (a1, a2) (b1, b2) W) := by
    obtain ⟨h1, h2, h3⟩ := tmade2 hW
    exact ⟨h1, h2, h3⟩
  clear hW
  go_loopw [5, 6] (fun n i wr => ∃ (z : Int) (k nn : Nat), k ≤ 64 ∧ z = (k : Int) ∧ i = .int .i64 z ∧ n = .int .u64 (nn : Int) ∧ Hid (nn = buildN g k) ∧ Hid (Box2 w (a1, a2) (b1, b2) wr)) (fun _ i _ => 64 - (intOf i).toNat)
  case atStart => exact ⟨0, 0, 0, by omega, rfl, rfl, rfl, rfl, B0.out⟩
  case round =>
    obtain ⟨z, k, nn, hk, hz, rfl, rfl, hn, hB⟩ := hrel
    clear B0
    by_cases hlt : k < 64
    · subst hz
      have W1 : IntKind.i64.wrap ((k : Int) + 1) = (k : Int) + 1 := IntWalk.i64_in _ (by omega)
      have W2 : IntKind.u64.wrap (k : Int) = (k : Int) := by rw [IntKind.wrap_u64]; omega
      have P1 := wrap_pow hlt
      have HYES : Hid (g k = true → nn + 2 ^ k = buildN g (k + 1)) := fun h => by rw [hn.out]; show _ = if g k = true then _ else _; rw [if_pos h]
      have HNO : Hid (g k = false → nn = buildN g (k + 1)) := fun h => by rw [hn.out]; show _ = if g k = true then _ else _; rw [if_neg (by rw [h]; decide)]
      have hnn : nn < 2 ^ k := by rw [hn.out]; exact buildN_lt g k
      have hpw : 2 ^ k + 2 ^ k ≤ 18446744073709551616 := by
        have h1 : 2 ^ (k + 1) ≤ 2 ^ 64 := Nat.pow_le_pow_right (by omega) (by omega)
        rw [Nat.pow_succ] at h1
        omega
      obtain ⟨pw, hp2⟩ : ∃ p : Nat, p = 2 ^ k := ⟨_, rfl⟩
      rw [← hp2] at P1 HYES hnn hpw
      have S1 : IntKind.u64.wrap ((nn : Int) + (pw : Int)) = ((nn + pw : Nat) : Int) := by rw [IntKind.wrap_u64]; omega
      obtain ⟨n2, hn2⟩ : ∃ p : Nat, p = nn + pw := ⟨_, rfl⟩
      rw [← hn2] at S1 HYES
      clear hp2 hnn hpw hn2 hn
      have HAT1 := Lib.hid (HAT.out k hlt)
      have HBT1 := Lib.hid (HBT.out k hlt)
      have HF1k := Lib.hid (fun h => HF1.out h k)
      have HF2k := Lib.hid (fun h => HF2.out h k)
      clear HAT HBT HF1 HF2 HV
      have HIN : Hid (inW (a1, a2) (b1, b2) k = (decide (atW (b1, b2) k = 2) || decide (atW (a1, a2) k = atW (b1, b2) k))) := rfl
      obtain ⟨iw, hiw⟩ : ∃ x, x = inW (a1, a2) (b1, b2) k := ⟨_, rfl⟩
      rw [← hiw] at HF1k HIN
      obtain ⟨p, hp⟩ : ∃ p, p = atW (a1, a2) k := ⟨_, rfl⟩
      obtain ⟨q, hq⟩ : ∃ q, q = atW (b1, b2) k := ⟨_, rfl⟩
      rw [← hp] at HAT1 HIN
      rw [← hq] at HBT1 HIN
      have HB := Lib.hid hB.out
      clear hp hq hiw hB
      have fa0 : wr.cell? ⟨w.heap.size, 0, none⟩ = some (.int .u64 (a1 : Int)) := cell_of_block HB.out.a 0
      have fa1 : wr.cell? ⟨w.heap.size, 1, none⟩ = some (.int .u64 (a2 : Int)) := cell_of_block HB.out.a 1
      have fb0 : wr.cell? ⟨w.heap.size + 1, 0, none⟩ = some (.int .u64 (b1 : Int)) := cell_of_block HB.out.b 0
      have fb1 : wr.cell? ⟨w.heap.size + 1, 1, none⟩ = some (.int .u64 (b2 : Int)) := cell_of_block HB.out.b 1
      go_upto_region 5 with fail
      cases m with
      | false =>
        refine wp_region_noPanic ?_
        refine wp_region_held (S := fun w' => w'.cell? ⟨w.heap.size, 0, none⟩ = some (.int .u64 (a1 : Int)) ∧ w'.cell? ⟨w.heap.size, 1, none⟩ = some (.int .u64 (a2 : Int)) ∧ w'.cell? ⟨w.heap.size + 1, 0, none⟩ = some (.int .u64 (b1 : Int)) ∧ w'.cell? ⟨w.heap.size + 1, 1, none⟩ = some (.int .u64 (b2 : Int))) (by kernel_rfl) ?_
        generalize hY : ({ wr with drawn := wr.drawn + 1 } : World) = Y0
        have HY0 : Hid (Below wr.heap.size wr Y0) := by subst hY; exact (Below.refl _ _).drew
        have HELD : Hid (Y0.cell? ⟨w.heap.size, 0, none⟩ = some (.int .u64 (a1 : Int)) ∧ Y0.cell? ⟨w.heap.size, 1, none⟩ = some (.int .u64 (a2 : Int)) ∧ Y0.cell? ⟨w.heap.size + 1, 0, none⟩ = some (.int .u64 (b1 : Int)) ∧ Y0.cell? ⟨w.heap.size + 1, 1, none⟩ = some (.int .u64 (b2 : Int))) := ⟨tcell_below fa0 HY0.out, tcell_below fa1 HY0.out, tcell_below fb0 HY0.out, tcell_below fb1 HY0.out⟩
        clear hY
        refine wpAnyH_take (i := 0) (v := ?_) (by simp only [List.getElem?_toArray, List.getElem?_cons_zero]; rfl) (by kernel_rfl) (by kernel_rfl) (by kernel_rfl) (fun _ _ _ h => h) (Or.inl ⟨by rfl, ?_⟩) HELD.out ?_
        rotate_left
        · intro wz hSw
          (try dsimp only at hSw)
          obtain ⟨q0, q1, q2, q3⟩ := hSw
          go_simp
          try with_reducible rfl
        try simp only [Act.put, List.setIfInBounds_toArray, List.set_cons_zero, List.set_cons_succ]
        refine wpAnyH_ready (rs := [1]) (by kernel_rfl) (by simp) ?_
        refine AllReadyH.cons (by simp only [List.getElem?_toArray, List.getElem?_cons_zero, List.getElem?_cons_succ]; rfl) (fun K hK => ?_) AllReadyH.nil
        go_simp
        refine (HM.out _).mono ?_
        rintro e sw1 ⟨rfl, sb1⟩
        have HY1x := Lib.hid (text_trans HY0.out sb1)
        have HELD1 : Hid (sw1.cell? ⟨w.heap.size, 0, none⟩ = some (.int .u64 (a1 : Int)) ∧ sw1.cell? ⟨w.heap.size, 1, none⟩ = some (.int .u64 (a2 : Int)) ∧ sw1.cell? ⟨w.heap.size + 1, 0, none⟩ = some (.int .u64 (b1 : Int)) ∧ sw1.cell? ⟨w.heap.size + 1, 1, none⟩ = some (.int .u64 (b2 : Int))) := ⟨tcell_below fa0 HY1x.out, tcell_below fa1 HY1x.out, tcell_below fb0 HY1x.out, tcell_below fb1 HY1x.out⟩
        clear sb1
        refine hK.out _ _ HELD1.out (fun _ => ?_)
        clear hK K
        try simp only [Act.put, List.setIfInBounds_toArray, List.set_cons_zero, List.set_cons_succ]
        refine wpAnyH_take (i := 2) (v := ?_) (by simp only [List.getElem?_toArray, List.getElem?_cons_zero, List.getElem?_cons_succ]; rfl) (by kernel_rfl) (by kernel_rfl) (by kernel_rfl) (fun _ _ _ h => h) (Or.inl ⟨by rfl, ?_⟩) HELD1.out ?_
        rotate_left
        · intro wz hSw
          (try dsimp only at hSw)
          obtain ⟨q0, q1, q2, q3⟩ := hSw
          go_simp
          try with_reducible rfl
        try simp only [Act.put, List.setIfInBounds_toArray, List.set_cons_zero, List.set_cons_succ]
        refine wpAnyH_take (i := 3) (v := undef) (by simp only [List.getElem?_toArray, List.getElem?_cons_zero, List.getElem?_cons_succ]; rfl) (by kernel_rfl) (by kernel_rfl) (by kernel_rfl) (fun _ _ _ h => h) (Or.inr ⟨by rfl, rfl⟩) HELD1.out ?_
        try simp only [Act.put, List.setIfInBounds_toArray, List.set_cons_zero, List.set_cons_succ]
        refine wpAnyH_take (i := 4) (v := undef) (by simp only [List.getElem?_toArray, List.getElem?_cons_zero, List.getElem?_cons_succ]; rfl) (by kernel_rfl) (by kernel_rfl) (by kernel_rfl) (fun _ _ _ h => h) (Or.inr ⟨by rfl, rfl⟩) HELD1.out ?_
        try simp only [Act.put, List.setIfInBounds_toArray, List.set_cons_zero, List.set_cons_succ]
        refine wpAnyH_take (i := 5) (v := ?_) (by simp only [List.getElem?_toArray, List.getElem?_cons_zero, List.getElem?_cons_succ]; rfl) (by kernel_rfl) (by kernel_rfl) (by kernel_rfl) (fun _ _ _ h => h) (Or.inl ⟨by rfl, ?_⟩) HELD1.out ?_
        rotate_left
        · intro wz hSw
          (try dsimp only at hSw)
          obtain ⟨q0, q1, q2, q3⟩ := hSw
          go_simp
          try with_reducible rfl
        try simp only [Act.put, List.setIfInBounds_toArray, List.set_cons_zero, List.set_cons_succ]
        refine wpAnyH_take (i := 6) (v := ?_) (by simp only [List.getElem?_toArray, List.getElem?_cons_zero, List.getElem?_cons_succ]; rfl) (by kernel_rfl) (by kernel_rfl) (by kernel_rfl) (fun _ _ _ h => h) (Or.inl ⟨by rfl, ?_⟩) HELD1.out ?_
        rotate_left
        · intro wz hSw
          (try dsimp only at hSw)
          obtain ⟨q0, q1, q2, q3⟩ := hSw
          go_simp
          try with_reducible rfl
        try simp only [Act.put, List.setIfInBounds_toArray, List.set_cons_zero, List.set_cons_succ]
        refine wpAnyH_take (i := 7) (v := undef) (by simp only [List.getElem?_toArray, List.getElem?_cons_zero, List.getElem?_cons_succ]; rfl) (by kernel_rfl) (by kernel_rfl) (by kernel_rfl) (fun _ _ _ h => h) (Or.inr ⟨by rfl, rfl⟩) HELD1.out ?_
        try simp only [Act.put, List.setIfInBounds_toArray, List.set_cons_zero, List.set_cons_succ]
        refine wpAnyH_take (i := 8) (v := undef) (by simp only [List.getElem?_toArray, List.getElem?_cons_zero, List.getElem?_cons_succ]; rfl) (by kernel_rfl) (by kernel_rfl) (by kernel_rfl) (fun _ _ _ h => h) (Or.inr ⟨by rfl, rfl⟩) HELD1.out ?_
        try simp only [Act.put, List.setIfInBounds_toArray, List.set_cons_zero, List.set_cons_succ]
        refine wpAnyH_take (i := 9) (v := undef) (by simp only [List.getElem?_toArray, List.getElem?_cons_zero, List.getElem?_cons_succ]; rfl) (by kernel_rfl) (by kernel_rfl) (by kernel_rfl) (fun _ _ _ h => h) (Or.inr ⟨by rfl, rfl⟩) HELD1.out ?_
        try simp only [Act.put, List.setIfInBounds_toArray, List.set_cons_zero, List.set_cons_succ]
        refine wpAnyH_take (i := 10) (v := undef) (by simp only [List.getElem?_toArray, List.getElem?_cons_zero, List.getElem?_cons_succ]; rfl) (by kernel_rfl) (by kernel_rfl) (by kernel_rfl) (fun _ _ _ h => h) (Or.inr ⟨by rfl, rfl⟩) HELD1.out ?_
        try simp only [Act.put, List.setIfInBounds_toArray, List.set_cons_zero, List.set_cons_succ]
        refine wpAnyH_take (i := 11) (v := undef) (by simp only [List.getElem?_toArray, List.getElem?_cons_zero, List.getElem?_cons_succ]; rfl) (by kernel_rfl) (by kernel_rfl) (by kernel_rfl) (fun _ _ _ h => h) (Or.inr ⟨by rfl, rfl⟩) HELD1.out ?_
        try simp only [Act.put, List.setIfInBounds_toArray, List.set_cons_zero, List.set_cons_succ]
        refine wpAnyH_take (i := 12) (v := undef) (by simp only [List.getElem?_toArray, List.getElem?_cons_zero, List.getElem?_cons_succ]; rfl) (by kernel_rfl) (by kernel_rfl) (by kernel_rfl) (fun _ _ _ h => h) (Or.inr ⟨by rfl, rfl⟩) HELD1.out ?_
        try simp only [Act.put, List.setIfInBounds_toArray, List.set_cons_zero, List.set_cons_succ]
        refine wpAnyH_take (i := 13) (v := undef) (by simp only [List.getElem?_toArray, List.getElem?_cons_zero, List.getElem?_cons_succ]; rfl) (by kernel_rfl) (by kernel_rfl) (by kernel_rfl) (fun _ _ _ h => h) (Or.inr ⟨by rfl, rfl⟩) HELD1.out ?_
        try simp only [Act.put, List.setIfInBounds_toArray, List.set_cons_zero, List.set_cons_succ]
        refine wpAnyH_take (i := 14) (v := undef) (by simp only [List.getElem?_toArray, List.getElem?_cons_zero, List.getElem?_cons_succ]; rfl) (by kernel_rfl) (by kernel_rfl) (by kernel_rfl) (fun _ _ _ h => h) (Or.inr ⟨by rfl, rfl⟩) HELD1.out ?_
        try simp only [Act.put, List.setIfInBounds_toArray, List.set_cons_zero, List.set_cons_succ]
        refine wpAnyH_take (i := 15) (v := undef) (by simp only [List.getElem?_toArray, List.getElem?_cons_zero, List.getElem?_cons_succ]; rfl) (by kernel_rfl) (by kernel_rfl) (by kernel_rfl) (fun _ _ _ h => h) (Or.inr ⟨by rfl, rfl⟩) HELD1.out ?_
        try simp only [Act.put, List.setIfInBounds_toArray, List.set_cons_zero, List.set_cons_succ]
        refine wpAnyH_take (i := 16) (v := undef) (by simp only [List.getElem?_toArray, List.getElem?_cons_zero, List.getElem?_cons_succ]; rfl) (by kernel_rfl) (by kernel_rfl) (by kernel_rfl) (fun _ _ _ h => h) (Or.inr ⟨by rfl, rfl⟩) HELD1.out ?_
        try simp only [Act.put, List.setIfInBounds_toArray, List.set_cons_zero, List.set_cons_succ]
        refine wpAnyH_take (i := 17) (v := undef) (by simp only [List.getElem?_toArray, List.getElem?_cons_zero, List.getElem?_cons_succ]; rfl) (by kernel_rfl) (by kernel_rfl) (by kernel_rfl) (fun _ _ _ h => h) (Or.inr ⟨by rfl, rfl⟩) HELD1.out ?_
        try simp only [Act.put, List.setIfInBounds_toArray, List.set_cons_zero, List.set_cons_succ]
        refine wpAnyH_take (i := 18) (v := undef) (by simp only [List.getElem?_toArray, List.getElem?_cons_zero, List.getElem?_cons_succ]; rfl) (by kernel_rfl) (by kernel_rfl) (by kernel_rfl) (fun _ _ _ h => h) (Or.inr ⟨by rfl, rfl⟩) HELD1.out ?_
        try simp only [Act.put, List.setIfInBounds_toArray, List.set_cons_zero, List.set_cons_succ]
        refine wpAnyH_take (i := 19) (v := undef) (by simp only [List.getElem?_toArray, List.getElem?_cons_zero, List.getElem?_cons_succ]; rfl) (by kernel_rfl) (by kernel_rfl) (by kernel_rfl) (fun _ _ _ h => h) (Or.inr ⟨by rfl, rfl⟩) HELD1.out ?_
        try simp only [Act.put, List.setIfInBounds_toArray, List.set_cons_zero, List.set_cons_succ]
        refine wpAnyH_take (i := 20) (v := ?_) (by simp only [List.getElem?_toArray, List.getElem?_cons_zero, List.getElem?_cons_succ]; rfl) (by kernel_rfl) (by kernel_rfl) (by kernel_rfl) (fun _ _ _ h => h) (Or.inl ⟨by rfl, ?_⟩) HELD1.out ?_
        rotate_left
        · intro wz hSw
          (try dsimp only at hSw)
          obtain ⟨q0, q1, q2, q3⟩ := hSw
          go_simp
          try with_reducible rfl
        try simp only [Act.put, List.setIfInBounds_toArray, List.set_cons_zero, List.set_cons_succ]
        refine wpAnyH_done (by kernel_rfl) ?_ _
        refine NoPanic.normal ?_
        have BZ := Lib.hid (HB.out.below HY1x.out)
        clear fa0 fa1 fb0 fb1 HB
        have HE := Lib.hid (HNO.out (HF2k.out rfl))
        clear HYES HNO HF1k HF2k HIN HAT1 HBT1 HM HM2
        go_wp2
        go_roundw
        case rel => exact ⟨_, k + 1, nn, by omega, by omega, rfl, rfl, HE.out, BZ.out⟩
        case measure => simp [intOf]; omega
      | true =>
        cases m2 with
        | false =>
          refine wp_region_noPanic ?_
          refine wp_region_held (S := fun w' => w'.cell? ⟨w.heap.size, 0, none⟩ = some (.int .u64 (a1 : Int)) ∧ w'.cell? ⟨w.heap.size, 1, none⟩ = some (.int .u64 (a2 : Int)) ∧ w'.cell? ⟨w.heap.size + 1, 0, none⟩ = some (.int .u64 (b1 : Int)) ∧ w'.cell? ⟨w.heap.size + 1, 1, none⟩ = some (.int .u64 (b2 : Int))) (by kernel_rfl) ?_
          generalize hY : ({ wr with drawn := wr.drawn + 1 } : World) = Y0
          have HY0 : Hid (Below wr.heap.size wr Y0) := by subst hY; exact (Below.refl _ _).drew
          have HELD : Hid (Y0.cell? ⟨w.heap.size, 0, none⟩ = some (.int .u64 (a1 : Int)) ∧ Y0.cell? ⟨w.heap.size, 1, none⟩ = some (.int .u64 (a2 : Int)) ∧ Y0.cell? ⟨w.heap.size + 1, 0, none⟩ = some (.int .u64 (b1 : Int)) ∧ Y0.cell? ⟨w.heap.size + 1, 1, none⟩ = some (.int .u64 (b2 : Int))) := ⟨tcell_below fa0 HY0.out, tcell_below fa1 HY0.out, tcell_below fb0 HY0.out, tcell_below fb1 HY0.out⟩
          clear hY
          refine wpAnyH_take (i := 0) (v := ?_) (by simp only [List.getElem?_toArray, List.getElem?_cons_zero]; rfl) (by kernel_rfl) (by kernel_rfl) (by kernel_rfl) (fun _ _ _ h => h) (Or.inl ⟨by rfl, ?_⟩) HELD.out ?_
          rotate_left
          · intro wz hSw
            (try dsimp only at hSw)
            obtain ⟨q0, q1, q2, q3⟩ := hSw
            go_simp
            try with_reducible rfl
          try simp only [Act.put, List.setIfInBounds_toArray, List.set_cons_zero, List.set_cons_succ]
          refine wpAnyH_ready (rs := [1]) (by kernel_rfl) (by simp) ?_
          refine AllReadyH.cons (by simp only [List.getElem?_toArray, List.getElem?_cons_zero, List.getElem?_cons_succ]; rfl) (fun K hK => ?_) AllReadyH.nil
          go_simp
          refine (HM.out _).mono ?_
          rintro e sw1 ⟨rfl, sb1⟩
          have HY1x := Lib.hid (text_trans HY0.out sb1)
          have HELD1 : Hid (sw1.cell? ⟨w.heap.size, 0, none⟩ = some (.int .u64 (a1 : Int)) ∧ sw1.cell? ⟨w.heap.size, 1, none⟩ = some (.int .u64 (a2 : Int)) ∧ sw1.cell? ⟨w.heap.size + 1, 0, none⟩ = some (.int .u64 (b1 : Int)) ∧ sw1.cell? ⟨w.heap.size + 1, 1, none⟩ = some (.int .u64 (b2 : Int))) := ⟨tcell_below fa0 HY1x.out, tcell_below fa1 HY1x.out, tcell_below fb0 HY1x.out, tcell_below fb1 HY1x.out⟩
          clear sb1
          refine hK.out _ _ HELD1.out (fun _ => ?_)
          clear hK K
          try simp only [Act.put, List.setIfInBounds_toArray, List.set_cons_zero, List.set_cons_succ]
          refine wpAnyH_take (i := 2) (v := ?_) (by simp only [List.getElem?_toArray, List.getElem?_cons_zero, List.getElem?_cons_succ]; rfl) (by kernel_rfl) (by kernel_rfl) (by kernel_rfl) (fun _ _ _ h => h) (Or.inl ⟨by rfl, ?_⟩) HELD1.out ?_
          rotate_left
          · intro wz hSw
            (try dsimp only at hSw)
            obtain ⟨q0, q1, q2, q3⟩ := hSw
            go_simp
            try with_reducible rfl
          try simp only [Act.put, List.setIfInBounds_toArray, List.set_cons_zero, List.set_cons_succ]
          refine wpAnyH_take (i := 3) (v := ?_) (by simp only [List.getElem?_toArray, List.getElem?_cons_zero, List.getElem?_cons_succ]; rfl) (by kernel_rfl) (by kernel_rfl) (by kernel_rfl) (fun _ _ _ h => h) (Or.inl ⟨by rfl, ?_⟩) HELD1.out ?_
          rotate_left
          · intro wz hSw
            (try dsimp only at hSw)
            obtain ⟨q0, q1, q2, q3⟩ := hSw
            go_simp
            try with_reducible rfl
          try simp only [Act.put, List.setIfInBounds_toArray, List.set_cons_zero, List.set_cons_succ]
          refine wpAnyH_ready (rs := [4]) (by kernel_rfl) (by simp) ?_
          refine AllReadyH.cons (by simp only [List.getElem?_toArray, List.getElem?_cons_zero, List.getElem?_cons_succ]; rfl) (fun K hK => ?_) AllReadyH.nil
          go_simp
          refine (HM2.out _).mono ?_
          rintro e sw2 ⟨rfl, sb2⟩
          have HY2x := Lib.hid (text_trans HY1x.out sb2)
          have HELD2 : Hid (sw2.cell? ⟨w.heap.size, 0, none⟩ = some (.int .u64 (a1 : Int)) ∧ sw2.cell? ⟨w.heap.size, 1, none⟩ = some (.int .u64 (a2 : Int)) ∧ sw2.cell? ⟨w.heap.size + 1, 0, none⟩ = some (.int .u64 (b1 : Int)) ∧ sw2.cell? ⟨w.heap.size + 1, 1, none⟩ = some (.int .u64 (b2 : Int))) := ⟨tcell_below fa0 HY2x.out, tcell_below fa1 HY2x.out, tcell_below fb0 HY2x.out, tcell_below fb1 HY2x.out⟩
          clear sb2
          refine hK.out _ _ HELD2.out (fun _ => ?_)
          clear hK K
          try simp only [Act.put, List.setIfInBounds_toArray, List.set_cons_zero, List.set_cons_succ]
          refine wpAnyH_take (i := 5) (v := ?_) (by simp only [List.getElem?_toArray, List.getElem?_cons_zero, List.getElem?_cons_succ]; rfl) (by kernel_rfl) (by kernel_rfl) (by kernel_rfl) (fun _ _ _ h => h) (Or.inl ⟨by rfl, ?_⟩) HELD2.out ?_
          rotate_left
          · intro wz hSw
            (try dsimp only at hSw)
            obtain ⟨q0, q1, q2, q3⟩ := hSw
            go_simp
            try with_reducible rfl
          try simp only [Act.put, List.setIfInBounds_toArray, List.set_cons_zero, List.set_cons_succ]
          refine wpAnyH_take (i := 6) (v := ?_) (by simp only [List.getElem?_toArray, List.getElem?_cons_zero, List.getElem?_cons_succ]; rfl) (by kernel_rfl) (by kernel_rfl) (by kernel_rfl) (fun _ _ _ h => h) (Or.inl ⟨by rfl, ?_⟩) HELD2.out ?_
          rotate_left
          · intro wz hSw
            (try dsimp only at hSw)
            obtain ⟨q0, q1, q2, q3⟩ := hSw
            go_simp
            try with_reducible rfl
          try simp only [Act.put, List.setIfInBounds_toArray, List.set_cons_zero, List.set_cons_succ]
          refine wpAnyH_take (i := 7) (v := undef) (by simp only [List.getElem?_toArray, List.getElem?_cons_zero, List.getElem?_cons_succ]; rfl) (by kernel_rfl) (by kernel_rfl) (by kernel_rfl) (fun _ _ _ h => h) (Or.inr ⟨by rfl, rfl⟩) HELD2.out ?_
          try simp only [Act.put, List.setIfInBounds_toArray, List.set_cons_zero, List.set_cons_succ]
          refine wpAnyH_take (i := 8) (v := undef) (by simp only [List.getElem?_toArray, List.getElem?_cons_zero, List.getElem?_cons_succ]; rfl) (by kernel_rfl) (by kernel_rfl) (by kernel_rfl) (fun _ _ _ h => h) (Or.inr ⟨by rfl, rfl⟩) HELD2.out ?_
          try simp only [Act.put, List.setIfInBounds_toArray, List.set_cons_zero, List.set_cons_succ]
          refine wpAnyH_take (i := 9) (v := undef) (by simp only [List.getElem?_toArray, List.getElem?_cons_zero, List.getElem?_cons_succ]; rfl) (by kernel_rfl) (by kernel_rfl) (by kernel_rfl) (fun _ _ _ h => h) (Or.inr ⟨by rfl, rfl⟩) HELD2.out ?_
          try simp only [Act.put, List.setIfInBounds_toArray, List.set_cons_zero, List.set_cons_succ]
          refine wpAnyH_take (i := 10) (v := undef) (by simp only [List.getElem?_toArray, List.getElem?_cons_zero, List.getElem?_cons_succ]; rfl) (by kernel_rfl) (by kernel_rfl) (by kernel_rfl) (fun _ _ _ h => h) (Or.inr ⟨by rfl, rfl⟩) HELD2.out ?_
          try simp only [Act.put, List.setIfInBounds_toArray, List.set_cons_zero, List.set_cons_succ]
          refine wpAnyH_take (i := 11) (v := undef) (by simp only [List.getElem?_toArray, List.getElem?_cons_zero, List.getElem?_cons_succ]; rfl) (by kernel_rfl) (by kernel_rfl) (by kernel_rfl) (fun _ _ _ h => h) (Or.inr ⟨by rfl, rfl⟩) HELD2.out ?_
          try simp only [Act.put, List.setIfInBounds_toArray, List.set_cons_zero, List.set_cons_succ]
          refine wpAnyH_take (i := 12) (v := undef) (by simp only [List.getElem?_toArray, List.getElem?_cons_zero, List.getElem?_cons_succ]; rfl) (by kernel_rfl) (by kernel_rfl) (by kernel_rfl) (fun _ _ _ h => h) (Or.inr ⟨by rfl, rfl⟩) HELD2.out ?_
          try simp only [Act.put, List.setIfInBounds_toArray, List.set_cons_zero, List.set_cons_succ]
          refine wpAnyH_take (i := 13) (v := undef) (by simp only [List.getElem?_toArray, List.getElem?_cons_zero, List.getElem?_cons_succ]; rfl) (by kernel_rfl) (by kernel_rfl) (by kernel_rfl) (fun _ _ _ h => h) (Or.inr ⟨by rfl, rfl⟩) HELD2.out ?_
          try simp only [Act.put, List.setIfInBounds_toArray, List.set_cons_zero, List.set_cons_succ]
          refine wpAnyH_take (i := 14) (v := undef) (by simp only [List.getElem?_toArray, List.getElem?_cons_zero, List.getElem?_cons_succ]; rfl) (by kernel_rfl) (by kernel_rfl) (by kernel_rfl) (fun _ _ _ h => h) (Or.inr ⟨by rfl, rfl⟩) HELD2.out ?_
          try simp only [Act.put, List.setIfInBounds_toArray, List.set_cons_zero, List.set_cons_succ]
          refine wpAnyH_take (i := 15) (v := undef) (by simp only [List.getElem?_toArray, List.getElem?_cons_zero, List.getElem?_cons_succ]; rfl) (by kernel_rfl) (by kernel_rfl) (by kernel_rfl) (fun _ _ _ h => h) (Or.inr ⟨by rfl, rfl⟩) HELD2.out ?_
          try simp only [Act.put, List.setIfInBounds_toArray, List.set_cons_zero, List.set_cons_succ]
          refine wpAnyH_take (i := 16) (v := undef) (by simp only [List.getElem?_toArray, List.getElem?_cons_zero, List.getElem?_cons_succ]; rfl) (by kernel_rfl) (by kernel_rfl) (by kernel_rfl) (fun _ _ _ h => h) (Or.inr ⟨by rfl, rfl⟩) HELD2.out ?_
          try simp only [Act.put, List.setIfInBounds_toArray, List.set_cons_zero, List.set_cons_succ]
          refine wpAnyH_take (i := 17) (v := undef) (by simp only [List.getElem?_toArray, List.getElem?_cons_zero, List.getElem?_cons_succ]; rfl) (by kernel_rfl) (by kernel_rfl) (by kernel_rfl) (fun _ _ _ h => h) (Or.inr ⟨by rfl, rfl⟩) HELD2.out ?_
          try simp only [Act.put, List.setIfInBounds_toArray, List.set_cons_zero, List.set_cons_succ]
          refine wpAnyH_take (i := 18) (v := undef) (by simp only [List.getElem?_toArray, List.getElem?_cons_zero, List.getElem?_cons_succ]; rfl) (by kernel_rfl) (by kernel_rfl) (by kernel_rfl) (fun _ _ _ h => h) (Or.inr ⟨by rfl, rfl⟩) HELD2.out ?_
          try simp only [Act.put, List.setIfInBounds_toArray, List.set_cons_zero, List.set_cons_succ]
          refine wpAnyH_take (i := 19) (v := undef) (by simp only [List.getElem?_toArray, List.getElem?_cons_zero, List.getElem?_cons_succ]; rfl) (by kernel_rfl) (by kernel_rfl) (by kernel_rfl) (fun _ _ _ h => h) (Or.inr ⟨by rfl, rfl⟩) HELD2.out ?_
          try simp only [Act.put, List.setIfInBounds_toArray, List.set_cons_zero, List.set_cons_succ]
          refine wpAnyH_take (i := 20) (v := ?_) (by simp only [List.getElem?_toArray, List.getElem?_cons_zero, List.getElem?_cons_succ]; rfl) (by kernel_rfl) (by kernel_rfl) (by kernel_rfl) (fun _ _ _ h => h) (Or.inl ⟨by rfl, ?_⟩) HELD2.out ?_
          rotate_left
          · intro wz hSw
            (try dsimp only at hSw)
            obtain ⟨q0, q1, q2, q3⟩ := hSw
            go_simp
            try with_reducible rfl
          try simp only [Act.put, List.setIfInBounds_toArray, List.set_cons_zero, List.set_cons_succ]
          refine wpAnyH_done (by kernel_rfl) ?_ _
          refine NoPanic.normal ?_
          have BZ := Lib.hid (HB.out.below HY2x.out)
          clear fa0 fa1 fb0 fb1 HB
          have HE := Lib.hid (HNO.out (HF2k.out rfl))
          clear HYES HNO HF1k HF2k HIN HAT1 HBT1 HM HM2
          go_wp2
          go_roundw
          case rel => exact ⟨_, k + 1, nn, by omega, by omega, rfl, rfl, HE.out, BZ.out⟩
          case measure => simp [intOf]; omega
        | true =>
          have HG : Hid (g k = iw) := HF1k.out rfl
          by_cases c1 : q = 2
          · have e1 : ((q : Int) == 2) = true := by simp; omega
            have HG2 : Hid (g k = true) := by show _ = _; rw [HG.out, HIN.out, decide_eq_true c1]; rfl
            clear c1 HG
            refine wp_region_noPanic ?_
            refine wp_region_held (S := fun w' => w'.cell? ⟨w.heap.size, 0, none⟩ = some (.int .u64 (a1 : Int)) ∧ w'.cell? ⟨w.heap.size, 1, none⟩ = some (.int .u64 (a2 : Int)) ∧ w'.cell? ⟨w.heap.size + 1, 0, none⟩ = some (.int .u64 (b1 : Int)) ∧ w'.cell? ⟨w.heap.size + 1, 1, none⟩ = some (.int .u64 (b2 : Int))) (by kernel_rfl) ?_
            generalize hY : ({ wr with drawn := wr.drawn + 1 } : World) = Y0
            have HY0 : Hid (Below wr.heap.size wr Y0) := by subst hY; exact (Below.refl _ _).drew
            have HELD : Hid (Y0.cell? ⟨w.heap.size, 0, none⟩ = some (.int .u64 (a1 : Int)) ∧ Y0.cell? ⟨w.heap.size, 1, none⟩ = some (.int .u64 (a2 : Int)) ∧ Y0.cell? ⟨w.heap.size + 1, 0, none⟩ = some (.int .u64 (b1 : Int)) ∧ Y0.cell? ⟨w.heap.size + 1, 1, none⟩ = some (.int .u64 (b2 : Int))) := ⟨tcell_below fa0 HY0.out, tcell_below fa1 HY0.out, tcell_below fb0 HY0.out, tcell_below fb1 HY0.out⟩
            clear hY
            refine wpAnyH_take (i := 0) (v := ?_) (by simp only [List.getElem?_toArray, List.getElem?_cons_zero]; rfl) (by kernel_rfl) (by kernel_rfl) (by kernel_rfl) (fun _ _ _ h => h) (Or.inl ⟨by rfl, ?_⟩) HELD.out ?_
            rotate_left
            · intro wz hSw
              (try dsimp only at hSw)
              obtain ⟨q0, q1, q2, q3⟩ := hSw
              go_simp
              try with_reducible rfl
            try simp only [Act.put, List.setIfInBounds_toArray, List.set_cons_zero, List.set_cons_succ]
            refine wpAnyH_ready (rs := [1]) (by kernel_rfl) (by simp) ?_
            refine AllReadyH.cons (by simp only [List.getElem?_toArray, List.getElem?_cons_zero, List.getElem?_cons_succ]; rfl) (fun K hK => ?_) AllReadyH.nil
            go_simp
            refine (HM.out _).mono ?_
            rintro e sw1 ⟨rfl, sb1⟩
            have HY1x := Lib.hid (text_trans HY0.out sb1)
            have HELD1 : Hid (sw1.cell? ⟨w.heap.size, 0, none⟩ = some (.int .u64 (a1 : Int)) ∧ sw1.cell? ⟨w.heap.size, 1, none⟩ = some (.int .u64 (a2 : Int)) ∧ sw1.cell? ⟨w.heap.size + 1, 0, none⟩ = some (.int .u64 (b1 : Int)) ∧ sw1.cell? ⟨w.heap.size + 1, 1, none⟩ = some (.int .u64 (b2 : Int))) := ⟨tcell_below fa0 HY1x.out, tcell_below fa1 HY1x.out, tcell_below fb0 HY1x.out, tcell_below fb1 HY1x.out⟩
            clear sb1
            refine hK.out _ _ HELD1.out (fun _ => ?_)
            clear hK K
            try simp only [Act.put, List.setIfInBounds_toArray, List.set_cons_zero, List.set_cons_succ]
            refine wpAnyH_take (i := 2) (v := ?_) (by simp only [List.getElem?_toArray, List.getElem?_cons_zero, List.getElem?_cons_succ]; rfl) (by kernel_rfl) (by kernel_rfl) (by kernel_rfl) (fun _ _ _ h => h) (Or.inl ⟨by rfl, ?_⟩) HELD1.out ?_
            rotate_left
            · intro wz hSw
              (try dsimp only at hSw)
              obtain ⟨q0, q1, q2, q3⟩ := hSw
              go_simp
              try with_reducible rfl
            try simp only [Act.put, List.setIfInBounds_toArray, List.set_cons_zero, List.set_cons_succ]
            refine wpAnyH_take (i := 3) (v := ?_) (by simp only [List.getElem?_toArray, List.getElem?_cons_zero, List.getElem?_cons_succ]; rfl) (by kernel_rfl) (by kernel_rfl) (by kernel_rfl) (fun _ _ _ h => h) (Or.inl ⟨by rfl, ?_⟩) HELD1.out ?_
            rotate_left
            · intro wz hSw
              (try dsimp only at hSw)
              obtain ⟨q0, q1, q2, q3⟩ := hSw
              go_simp
              try with_reducible rfl
            try simp only [Act.put, List.setIfInBounds_toArray, List.set_cons_zero, List.set_cons_succ]
            refine wpAnyH_ready (rs := [4]) (by kernel_rfl) (by simp) ?_
            refine AllReadyH.cons (by simp only [List.getElem?_toArray, List.getElem?_cons_zero, List.getElem?_cons_succ]; rfl) (fun K hK => ?_) AllReadyH.nil
            go_simp
            refine (HM2.out _).mono ?_
            rintro e sw2 ⟨rfl, sb2⟩
            have HY2x := Lib.hid (text_trans HY1x.out sb2)
            have HELD2 : Hid (sw2.cell? ⟨w.heap.size, 0, none⟩ = some (.int .u64 (a1 : Int)) ∧ sw2.cell? ⟨w.heap.size, 1, none⟩ = some (.int .u64 (a2 : Int)) ∧ sw2.cell? ⟨w.heap.size + 1, 0, none⟩ = some (.int .u64 (b1 : Int)) ∧ sw2.cell? ⟨w.heap.size + 1, 1, none⟩ = some (.int .u64 (b2 : Int))) := ⟨tcell_below fa0 HY2x.out, tcell_below fa1 HY2x.out, tcell_below fb0 HY2x.out, tcell_below fb1 HY2x.out⟩
            clear sb2
            refine hK.out _ _ HELD2.out (fun _ => ?_)
            clear hK K
            try simp only [Act.put, List.setIfInBounds_toArray, List.set_cons_zero, List.set_cons_succ]
            refine wpAnyH_take (i := 5) (v := ?_) (by simp only [List.getElem?_toArray, List.getElem?_cons_zero, List.getElem?_cons_succ]; rfl) (by kernel_rfl) (by kernel_rfl) (by kernel_rfl) (fun _ _ _ h => h) (Or.inl ⟨by rfl, ?_⟩) HELD2.out ?_
            rotate_left
            · intro wz hSw
              (try dsimp only at hSw)
              obtain ⟨q0, q1, q2, q3⟩ := hSw
              go_simp
              try with_reducible rfl
            try simp only [Act.put, List.setIfInBounds_toArray, List.set_cons_zero, List.set_cons_succ]
            refine wpAnyH_take (i := 6) (v := ?_) (by simp only [List.getElem?_toArray, List.getElem?_cons_zero, List.getElem?_cons_succ]; rfl) (by kernel_rfl) (by kernel_rfl) (by kernel_rfl) (fun _ _ _ h => h) (Or.inl ⟨by rfl, ?_⟩) HELD2.out ?_
            rotate_left
            · intro wz hSw
              (try dsimp only at hSw)
              obtain ⟨q0, q1, q2, q3⟩ := hSw
              go_simp
              try with_reducible rfl
            try simp only [Act.put, List.setIfInBounds_toArray, List.set_cons_zero, List.set_cons_succ]
            refine wpAnyH_take (i := 7) (v := ?_) (by simp only [List.getElem?_toArray, List.getElem?_cons_zero, List.getElem?_cons_succ]; rfl) (by kernel_rfl) (by kernel_rfl) (by kernel_rfl) (fun _ _ _ h => h) (Or.inl ⟨by rfl, ?_⟩) HELD2.out ?_
            rotate_left
            · intro wz hSw
              (try dsimp only at hSw)
              obtain ⟨q0, q1, q2, q3⟩ := hSw
              go_simp
              try with_reducible rfl
            try simp only [Act.put, List.setIfInBounds_toArray, List.set_cons_zero, List.set_cons_succ]
            refine wpAnyH_take (i := 8) (v := ?_) (by simp only [List.getElem?_toArray, List.getElem?_cons_zero, List.getElem?_cons_succ]; rfl) (by kernel_rfl) (by kernel_rfl) (by kernel_rfl) (fun _ _ _ h => h) (Or.inl ⟨by rfl, ?_⟩) HELD2.out ?_
            rotate_left
            · intro wz hSw
              (try dsimp only at hSw)
              obtain ⟨q0, q1, q2, q3⟩ := hSw
              go_simp
              try with_reducible rfl
            try simp only [Act.put, List.setIfInBounds_toArray, List.set_cons_zero, List.set_cons_succ]
            refine wpAnyH_ready (rs := [9]) (by kernel_rfl) (by simp) ?_
            refine AllReadyH.cons (by simp only [List.getElem?_toArray, List.getElem?_cons_zero, List.getElem?_cons_succ]; rfl) (fun K hK => ?_) AllReadyH.nil
            go_simp
            refine (HBT1.out _).mono ?_
            rintro e sw3 ⟨rfl, sb3⟩
            have HY3x := Lib.hid (text_trans HY2x.out sb3)
            have HELD3 : Hid (sw3.cell? ⟨w.heap.size, 0, none⟩ = some (.int .u64 (a1 : Int)) ∧ sw3.cell? ⟨w.heap.size, 1, none⟩ = some (.int .u64 (a2 : Int)) ∧ sw3.cell? ⟨w.heap.size + 1, 0, none⟩ = some (.int .u64 (b1 : Int)) ∧ sw3.cell? ⟨w.heap.size + 1, 1, none⟩ = some (.int .u64 (b2 : Int))) := ⟨tcell_below fa0 HY3x.out, tcell_below fa1 HY3x.out, tcell_below fb0 HY3x.out, tcell_below fb1 HY3x.out⟩
            clear sb3
            refine hK.out _ _ HELD3.out (fun _ => ?_)
            clear hK K
            try simp only [Act.put, List.setIfInBounds_toArray, List.set_cons_zero, List.set_cons_succ]
            refine wpAnyH_take (i := 10) (v := ?_) (by simp only [List.getElem?_toArray, List.getElem?_cons_zero, List.getElem?_cons_succ]; rfl) (by kernel_rfl) (by kernel_rfl) (by kernel_rfl) (fun _ _ _ h => h) (Or.inl ⟨by rfl, ?_⟩) HELD3.out ?_
            rotate_left
            · intro wz hSw
              (try dsimp only at hSw)
              obtain ⟨q0, q1, q2, q3⟩ := hSw
              go_simp
              try with_reducible rfl
            try simp only [Act.put, List.setIfInBounds_toArray, List.set_cons_zero, List.set_cons_succ]
            refine wpAnyH_take (i := 11) (v := ?_) (by simp only [List.getElem?_toArray, List.getElem?_cons_zero, List.getElem?_cons_succ]; rfl) (by kernel_rfl) (by kernel_rfl) (by kernel_rfl) (fun _ _ _ h => h) (Or.inl ⟨by rfl, ?_⟩) HELD3.out ?_
            rotate_left
            · intro wz hSw
              (try dsimp only at hSw)
              obtain ⟨q0, q1, q2, q3⟩ := hSw
              go_simp
              try with_reducible rfl
            try simp only [Act.put, List.setIfInBounds_toArray, List.set_cons_zero, List.set_cons_succ]
            refine wpAnyH_take (i := 12) (v := undef) (by simp only [List.getElem?_toArray, List.getElem?_cons_zero, List.getElem?_cons_succ]; rfl) (by kernel_rfl) (by kernel_rfl) (by kernel_rfl) (fun _ _ _ h => h) (Or.inr ⟨by rfl, rfl⟩) HELD3.out ?_
            try simp only [Act.put, List.setIfInBounds_toArray, List.set_cons_zero, List.set_cons_succ]
            refine wpAnyH_take (i := 13) (v := undef) (by simp only [List.getElem?_toArray, List.getElem?_cons_zero, List.getElem?_cons_succ]; rfl) (by kernel_rfl) (by kernel_rfl) (by kernel_rfl) (fun _ _ _ h => h) (Or.inr ⟨by rfl, rfl⟩) HELD3.out ?_
            try simp only [Act.put, List.setIfInBounds_toArray, List.set_cons_zero, List.set_cons_succ]
            refine wpAnyH_take (i := 14) (v := undef) (by simp only [List.getElem?_toArray, List.getElem?_cons_zero, List.getElem?_cons_succ]; rfl) (by kernel_rfl) (by kernel_rfl) (by kernel_rfl) (fun _ _ _ h => h) (Or.inr ⟨by rfl, rfl⟩) HELD3.out ?_
            try simp only [Act.put, List.setIfInBounds_toArray, List.set_cons_zero, List.set_cons_succ]
            refine wpAnyH_take (i := 15) (v := undef) (by simp only [List.getElem?_toArray, List.getElem?_cons_zero, List.getElem?_cons_succ]; rfl) (by kernel_rfl) (by kernel_rfl) (by kernel_rfl) (fun _ _ _ h => h) (Or.inr ⟨by rfl, rfl⟩) HELD3.out ?_
            try simp only [Act.put, List.setIfInBounds_toArray, List.set_cons_zero, List.set_cons_succ]
            refine wpAnyH_take (i := 16) (v := undef) (by simp only [List.getElem?_toArray, List.getElem?_cons_zero, List.getElem?_cons_succ]; rfl) (by kernel_rfl) (by kernel_rfl) (by kernel_rfl) (fun _ _ _ h => h) (Or.inr ⟨by rfl, rfl⟩) HELD3.out ?_
            try simp only [Act.put, List.setIfInBounds_toArray, List.set_cons_zero, List.set_cons_succ]
            refine wpAnyH_take (i := 17) (v := undef) (by simp only [List.getElem?_toArray, List.getElem?_cons_zero, List.getElem?_cons_succ]; rfl) (by kernel_rfl) (by kernel_rfl) (by kernel_rfl) (fun _ _ _ h => h) (Or.inr ⟨by rfl, rfl⟩) HELD3.out ?_
            try simp only [Act.put, List.setIfInBounds_toArray, List.set_cons_zero, List.set_cons_succ]
            refine wpAnyH_take (i := 18) (v := undef) (by simp only [List.getElem?_toArray, List.getElem?_cons_zero, List.getElem?_cons_succ]; rfl) (by kernel_rfl) (by kernel_rfl) (by kernel_rfl) (fun _ _ _ h => h) (Or.inr ⟨by rfl, rfl⟩) HELD3.out ?_
            try simp only [Act.put, List.setIfInBounds_toArray, List.set_cons_zero, List.set_cons_succ]
            refine wpAnyH_take (i := 19) (v := ?_) (by simp only [List.getElem?_toArray, List.getElem?_cons_zero, List.getElem?_cons_succ]; rfl) (by kernel_rfl) (by kernel_rfl) (by kernel_rfl) (fun _ _ _ h => h) (Or.inl ⟨by rfl, ?_⟩) HELD3.out ?_
            rotate_left
            · intro wz hSw
              (try dsimp only at hSw)
              obtain ⟨q0, q1, q2, q3⟩ := hSw
              go_simp
              try with_reducible rfl
            try simp only [Act.put, List.setIfInBounds_toArray, List.set_cons_zero, List.set_cons_succ]
            refine wpAnyH_take (i := 20) (v := ?_) (by simp only [List.getElem?_toArray, List.getElem?_cons_zero, List.getElem?_cons_succ]; rfl) (by kernel_rfl) (by kernel_rfl) (by kernel_rfl) (fun _ _ _ h => h) (Or.inl ⟨by rfl, ?_⟩) HELD3.out ?_
            rotate_left
            · intro wz hSw
              (try dsimp only at hSw)
              obtain ⟨q0, q1, q2, q3⟩ := hSw
              go_simp
              try with_reducible rfl
            try simp only [Act.put, List.setIfInBounds_toArray, List.set_cons_zero, List.set_cons_succ]
            refine wpAnyH_done (by kernel_rfl) ?_ _
            refine NoPanic.normal ?_
            have BZ := Lib.hid (HB.out.below HY3x.out)
            clear fa0 fa1 fb0 fb1 HB
            have HE := Lib.hid (HYES.out HG2.out)
            clear HYES HNO HF1k HF2k HIN HAT1 HBT1 HM HM2
            go_wp2
            go_roundw
            case rel => exact ⟨_, k + 1, n2, by omega, by omega, rfl, rfl, HE.out, BZ.out⟩
            case measure => simp [intOf]; omega
          · have e1 : ((q : Int) == 2) = false := by simp; omega
            by_cases c2 : p = q
            · have e2 : ((p : Int) == (q : Int)) = true := by simp [c2]
              have HG2 : Hid (g k = true) := by show _ = _; rw [HG.out, HIN.out, decide_eq_true c2, Bool.or_true]
              clear c1 c2 HG
              go_region_held3 (fun w' => w'.cell? ⟨w.heap.size, 0, none⟩ = some (.int .u64 (a1 : Int)) ∧ w'.cell? ⟨w.heap.size, 1, none⟩ = some (.int .u64 (a2 : Int)) ∧ w'.cell? ⟨w.heap.size + 1, 0, none⟩ = some (.int .u64 (b1 : Int)) ∧ w'.cell? ⟨w.heap.size + 1, 1, none⟩ = some (.int .u64 (b2 : Int)))
                (first | with_reducible exact ⟨fa0, fa1, fb0, fb1⟩ | with_reducible exact ⟨tcell_drew fa0, tcell_drew fa1, tcell_drew fb0, tcell_drew fb1⟩ | with_reducible exact ⟨s1_0, s1_1, s1_2, s1_3⟩ | with_reducible exact ⟨tcell_drew s1_0, tcell_drew s1_1, tcell_drew s1_2, tcell_drew s1_3⟩ | with_reducible exact ⟨s2_0, s2_1, s2_2, s2_3⟩ | with_reducible exact ⟨tcell_drew s2_0, tcell_drew s2_1, tcell_drew s2_2, tcell_drew s2_3⟩ | with_reducible exact ⟨s3_0, s3_1, s3_2, s3_3⟩ | with_reducible exact ⟨tcell_drew s3_0, tcell_drew s3_1, tcell_drew s3_2, tcell_drew s3_3⟩ | with_reducible exact ⟨s4_0, s4_1, s4_2, s4_3⟩ | with_reducible exact ⟨tcell_drew s4_0, tcell_drew s4_1, tcell_drew s4_2, tcell_drew s4_3⟩ | with_reducible exact ⟨s5_0, s5_1, s5_2, s5_3⟩ | with_reducible exact ⟨tcell_drew s5_0, tcell_drew s5_1, tcell_drew s5_2, tcell_drew s5_3⟩)
                (first
                  | (go_at_call 11; (with_reducible refine (HM.out _).mono ?_); rintro e sw1 ⟨rfl, sb1⟩; have sB1 : Below wr.heap.size wr sw1 := (by first | exact text_trans (Below.refl wr.heap.size wr) sb1 | exact text_trans ((Below.refl wr.heap.size wr).drew) sb1); have s1_0 := tcell_below fa0 sB1; have s1_1 := tcell_below fa1 sB1; have s1_2 := tcell_below fb0 sB1; have s1_3 := tcell_below fb1 sB1)
                  | (go_at_call 11; (with_reducible refine (HM2.out _).mono ?_); rintro e sw2 ⟨rfl, sb2⟩; have sB2 : Below wr.heap.size wr sw2 := (by first | exact text_trans sB1 sb2 | exact text_trans (sB1.drew) sb2); have s2_0 := tcell_below fa0 sB2; have s2_1 := tcell_below fa1 sB2; have s2_2 := tcell_below fb0 sB2; have s2_3 := tcell_below fb1 sB2)
                  | (go_at_call 33; (with_reducible refine (HBT1.out _).mono ?_); rintro e sw3 ⟨rfl, sb3⟩; have sB3 : Below wr.heap.size wr sw3 := (by first | exact text_trans sB2 sb3 | exact text_trans (sB2.drew) sb3); have s3_0 := tcell_below fa0 sB3; have s3_1 := tcell_below fa1 sB3; have s3_2 := tcell_below fb0 sB3; have s3_3 := tcell_below fb1 sB3)
                  | (go_at_call 33; (with_reducible refine (HAT1.out _).mono ?_); rintro e sw4 ⟨rfl, sb4⟩; have sB4 : Below wr.heap.size wr sw4 := (by first | exact text_trans sB3 sb4 | exact text_trans (sB3.drew) sb4); have s4_0 := tcell_below fa0 sB4; have s4_1 := tcell_below fa1 sB4; have s4_2 := tcell_below fb0 sB4; have s4_3 := tcell_below fb1 sB4)
                  | (go_at_call 33; (with_reducible refine (HBT1.out _).mono ?_); rintro e sw5 ⟨rfl, sb5⟩; have sB5 : Below wr.heap.size wr sw5 := (by first | exact text_trans sB4 sb5 | exact text_trans (sB4.drew) sb5); have s5_0 := tcell_below fa0 sB5; have s5_1 := tcell_below fa1 sB5; have s5_2 := tcell_below fb0 sB5; have s5_3 := tcell_below fb1 sB5))
              have BZ := Lib.hid (HB.out.below sB5)
              clear s1_0 s1_1 s1_2 s1_3 s2_0 s2_1 s2_2 s2_3 s3_0 s3_1 s3_2 s3_3 s4_0 s4_1 s4_2 s4_3 s5_0 s5_1 s5_2 s5_3 sB1 sb1 sB2 sb2 sB3 sb3 sB4 sb4 sB5 sb5 fa0 fa1 fb0 fb1 HB
              have HE := Lib.hid (HYES.out HG2.out)
              clear HYES HNO HF1k HF2k HIN HAT1 HBT1 HM HM2
              go_wp2
              go_roundw
              case rel => exact ⟨_, k + 1, n2, by omega, by omega, rfl, rfl, HE.out, BZ.out⟩
              case measure => simp [intOf]; omega
            · have e2 : ((p : Int) == (q : Int)) = false := by simp; omega
              have HG2 : Hid (g k = false) := by show _ = _; rw [HG.out, HIN.out, decide_eq_false c1, decide_eq_false c2]; rfl
              clear c1 c2 HG
              go_region_held3 (fun w' => w'.cell? ⟨w.heap.size, 0, none⟩ = some (.int .u64 (a1 : Int)) ∧ w'.cell? ⟨w.heap.size, 1, none⟩ = some (.int .u64 (a2 : Int)) ∧ w'.cell? ⟨w.heap.size + 1, 0, none⟩ = some (.int .u64 (b1 : Int)) ∧ w'.cell? ⟨w.heap.size + 1, 1, none⟩ = some (.int .u64 (b2 : Int)))
                (first | with_reducible exact ⟨fa0, fa1, fb0, fb1⟩ | with_reducible exact ⟨tcell_drew fa0, tcell_drew fa1, tcell_drew fb0, tcell_drew fb1⟩ | with_reducible exact ⟨s1_0, s1_1, s1_2, s1_3⟩ | with_reducible exact ⟨tcell_drew s1_0, tcell_drew s1_1, tcell_drew s1_2, tcell_drew s1_3⟩ | with_reducible exact ⟨s2_0, s2_1, s2_2, s2_3⟩ | with_reducible exact ⟨tcell_drew s2_0, tcell_drew s2_1, tcell_drew s2_2, tcell_drew s2_3⟩ | with_reducible exact ⟨s3_0, s3_1, s3_2, s3_3⟩ | with_reducible exact ⟨tcell_drew s3_0, tcell_drew s3_1, tcell_drew s3_2, tcell_drew s3_3⟩ | with_reducible exact ⟨s4_0, s4_1, s4_2, s4_3⟩ | with_reducible exact ⟨tcell_drew s4_0, tcell_drew s4_1, tcell_drew s4_2, tcell_drew s4_3⟩ | with_reducible exact ⟨s5_0, s5_1, s5_2, s5_3⟩ | with_reducible exact ⟨tcell_drew s5_0, tcell_drew s5_1, tcell_drew s5_2, tcell_drew s5_3⟩)
                (first
                  | (go_at_call 11; (with_reducible refine (HM.out _).mono ?_); rintro e sw1 ⟨rfl, sb1⟩; have sB1 : Below wr.heap.size wr sw1 := (by first | exact text_trans (Below.refl wr.heap.size wr) sb1 | exact text_trans ((Below.refl wr.heap.size wr).drew) sb1); have s1_0 := tcell_below fa0 sB1; have s1_1 := tcell_below fa1 sB1; have s1_2 := tcell_below fb0 sB1; have s1_3 := tcell_below fb1 sB1)
                  | (go_at_call 11; (with_reducible refine (HM2.out _).mono ?_); rintro e sw2 ⟨rfl, sb2⟩; have sB2 : Below wr.heap.size wr sw2 := (by first | exact text_trans sB1 sb2 | exact text_trans (sB1.drew) sb2); have s2_0 := tcell_below fa0 sB2; have s2_1 := tcell_below fa1 sB2; have s2_2 := tcell_below fb0 sB2; have s2_3 := tcell_below fb1 sB2)
                  | (go_at_call 33; (with_reducible refine (HBT1.out _).mono ?_); rintro e sw3 ⟨rfl, sb3⟩; have sB3 : Below wr.heap.size wr sw3 := (by first | exact text_trans sB2 sb3 | exact text_trans (sB2.drew) sb3); have s3_0 := tcell_below fa0 sB3; have s3_1 := tcell_below fa1 sB3; have s3_2 := tcell_below fb0 sB3; have s3_3 := tcell_below fb1 sB3)
                  | (go_at_call 33; (with_reducible refine (HAT1.out _).mono ?_); rintro e sw4 ⟨rfl, sb4⟩; have sB4 : Below wr.heap.size wr sw4 := (by first | exact text_trans sB3 sb4 | exact text_trans (sB3.drew) sb4); have s4_0 := tcell_below fa0 sB4; have s4_1 := tcell_below fa1 sB4; have s4_2 := tcell_below fb0 sB4; have s4_3 := tcell_below fb1 sB4)
                  | (go_at_call 33; (with_reducible refine (HBT1.out _).mono ?_); rintro e sw5 ⟨rfl, sb5⟩; have sB5 : Below wr.heap.size wr sw5 := (by first | exact text_trans sB4 sb5 | exact text_trans (sB4.drew) sb5); have s5_0 := tcell_below fa0 sB5; have s5_1 := tcell_below fa1 sB5; have s5_2 := tcell_below fb0 sB5; have s5_3 := tcell_below fb1 sB5))
              have BZ := Lib.hid (HB.out.below sB5)
              clear s1_0 s1_1 s1_2 s1_3 s2_0 s2_1 s2_2 s2_3 s3_0 s3_1 s3_2 s3_3 s4_0 s4_1 s4_2 s4_3 s5_0 s5_1 s5_2 s5_3 sB1 sb1 sB2 sb2 sB3 sb3 sB4 sb4 sB5 sb5 fa0 fa1 fb0 fb1 HB
              have HE := Lib.hid (HNO.out HG2.out)
              clear HYES HNO HF1k HF2k HIN HAT1 HBT1 HM HM2
              go_wp2
              go_roundw
              case rel => exact ⟨_, k + 1, nn, by omega, by omega, rfl, rfl, HE.out, BZ.out⟩
              case measure => simp [intOf]; omega
    · have hk6 : k = 64 := by omega
      subst hk6
      obtain rfl : z = 64 := by omega
      have HE : Hid (nn = V) := hn.out.trans HV.out
      clear hk hlt hz HM HM2 HAT HBT HF1 HF2 hn HV
      go_wp2
      go_ret
      exact ⟨by rw [← HE.out]; rfl, hB.out.low⟩
end Go.Proofs.Ytglhnmbfkbjemaa
