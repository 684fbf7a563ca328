/- The reference's And for words, by its contract. -/
import Derived.Test.YtglhnmbfkbjemaaTRefD
import Derived.Test.YtglhnmbfkbjemaaTRefP
import Derived.Test.YtglhnmbfkbjemaaTWLaw
import Derived.Test.YtglhnmbfkbjemaaNPeel
namespace Go.Proofs.Ytglhnmbfkbjemaa
open Go Go.RowKit Go.Joins

set_option maxRecDepth 100000 in
set_option maxHeartbeats 6400000 in
theorem rand_any (a b : W2) (ha : a.in) (hb : b.in) (w : World) : Calls Try.prog 19 #[wv a, wv b] w fun e w' => e = .returned (wv (andW a b)) ∧ Below w.heap.size w w' := by
  have HM := Lib.hid (rmay_any a ha)
  have HM2 := Lib.hid (rmay_any b hb)
  have HAT := Lib.hid (rat_any a)
  have HBT := Lib.hid (rat_any b)
  have HN := Lib.hid (fun j => rand1_any (atW a j) (atW b j))
  have HW := Lib.hid rwith_any
  have HF : Hid (∃ f : Nat → Nat, ((mayW a && mayW b) = true → f = fun j => and1 (atW a j) (atW b j)) ∧ ((mayW a && mayW b) = false → f = fun _ => 0) ∧ buildW f 64 = andW a b) := by
    show ∃ _, _
    cases hm : (mayW a && mayW b) with
    | true =>
      have h2 := Bool.and_eq_true_iff.1 hm
      exact ⟨_, fun _ => rfl, (fun h => by cases h), build_and ha hb h2.1 h2.2⟩
    | false => exact ⟨_, (fun h => by cases h), fun _ => rfl, by rw [build_zero]; unfold andW; rw [if_neg (fun h => by rw [h.1, h.2] at hm; cases hm)]⟩
  obtain ⟨f, hf1, hf2, hf3⟩ := HF.out
  obtain ⟨m, hm⟩ : ∃ m, m = mayW a := ⟨_, rfl⟩
  obtain ⟨m2, hm2⟩ : ∃ m, m = mayW b := ⟨_, rfl⟩
  rw [← hm] at HM hf1 hf2
  rw [← hm2] at HM2 hf1 hf2
  have HF1 := Lib.hid (fun h j => congrFun (hf1 h) j)
  have HF2 := Lib.hid (fun h j => congrFun (hf2 h) j)
  obtain ⟨V, hVv⟩ : ∃ V, V = wv (andW a b) := ⟨_, rfl⟩
  rw [← hVv]
  have HV : Hid (V = wv (buildW f 64)) := by show _ = _; rw [hVv, hf3]
  clear hm hm2 hf1 hf2 hf3 hVv HF ha hb
  obtain ⟨a1, a2⟩ := a
  obtain ⟨b1, b2⟩ := b
  unfold wv at HM HM2 HAT HBT
  show Calls Try.prog 19 #[.agg #[.int .u64 (a1 : Int), .int .u64 (a2 : Int)], .agg #[.int .u64 (b1 : Int), .int .u64 (b2 : Int)]] w _
  go_enter Try.func19, Try.ntmps19
  go_wp2_with fail
  generalize hW : World.alloc _ _ = W
  have B0 : Hid (Box4 w (a1, a2) (b1, b2) (0, 0) (0, 0) W) := by
    obtain ⟨h1, h2, h3, h4, h5⟩ := tmade4 hW
    exact ⟨h1, h2, h3, h4, h5⟩
  clear hW
  go_loopw [6] (fun i wr => ∃ (z : Int) (k x1 x2 : Nat), k ≤ 64 ∧ z = (k : Int) ∧ i = .int .i64 z ∧ Hid ((x1, x2) = buildW f k) ∧ Hid (Box4 w (a1, a2) (b1, b2) (0, 0) (x1, x2) wr)) (fun i _ => 64 - (intOf i).toNat)
  case atStart => exact ⟨0, 0, 0, 0, by omega, rfl, rfl, rfl, B0.out⟩
  case round =>
    obtain ⟨z, k, x1, x2, hk, hz, rfl, hx, hB⟩ := hrel
    clear B0
    by_cases hlt : k < 64
    · subst hz
      have W1 : IntKind.i64.wrap ((k : Int) + 1) = (k : Int) + 1 := IntWalk.i64_in _ (by omega)
      have hin : W2.in (x1, x2) := by rw [hx.out]; exact buildW_in f (by omega)
      have hst : buildW f (k + 1) = putW (x1, x2) k (f k) := by rw [hx.out]; rfl
      have HP := HW.out (x1, x2) hin k (f k) hlt
      rw [← hst] at HP
      obtain ⟨r, hr3⟩ : ∃ r, r = buildW f (k + 1) := ⟨_, rfl⟩
      rw [← hr3] at HP
      have HR3 := Lib.hid hr3
      have HAT1 := Lib.hid (HAT.out k hlt)
      have HBT1 := Lib.hid (HBT.out k hlt)
      have HN1 := Lib.hid (HN.out k)
      have HF1k := Lib.hid (fun h => HF1.out h k)
      have HF2k := Lib.hid (fun h => HF2.out h k)
      clear hst hr3 hin hx HW HAT HBT HN HF1 HF2
      obtain ⟨p, hp⟩ : ∃ p, p = atW (a1, a2) k := ⟨_, rfl⟩
      obtain ⟨q, hq⟩ : ∃ q, q = atW (b1, b2) k := ⟨_, rfl⟩
      rw [← hp] at HAT1 HN1 HF1k
      rw [← hq] at HBT1 HN1 HF1k
      obtain ⟨fk, hfk⟩ : ∃ x, x = f k := ⟨_, rfl⟩
      rw [← hfk] at HP HF1k HF2k
      obtain ⟨pq, hpq⟩ : ∃ x, x = and1 p q := ⟨_, rfl⟩
      rw [← hpq] at HN1 HF1k
      clear hp hq hfk hpq
      obtain ⟨s1, s2⟩ := r
      have HP3 : Hid (∀ W, Calls Try.prog 29 #[.agg #[.int .u64 (x1 : Int), .int .u64 (x2 : Int)], .int .i64 (k : Int), .int .u8 (fk : Int)] W fun e w' => e = .returned (.agg #[.int .u64 (s1 : Int), .int .u64 (s2 : Int)]) ∧ Below W.heap.size W w') := HP
      clear HP
      have ZERO : Hid (∀ w1 : World, Hid (Box4 w (a1, a2) (b1, b2) (0, 0) (x1, x2) w1) → fk = 0 → Hid (∀ W, Calls Try.prog 29 #[.agg #[.int .u64 (x1 : Int), .int .u64 (x2 : Int)], .int .i64 (k : Int), .int .u8 0] W fun e w' => e = .returned (.agg #[.int .u64 (s1 : Int), .int .u64 (s2 : Int)]) ∧ Below W.heap.size W w')) := fun _ _ h => by subst h; exact HP3
      have fa0 := cell_of_block hB.out.a 0
      have fa1 := cell_of_block hB.out.a 1
      have fb0 := cell_of_block hB.out.b 0
      have fb1 := cell_of_block hB.out.b 1
      go_wp2_with fail
      refine (HM.out _).mono ?_
      rintro e w1 ⟨rfl, hb1⟩
      have hB1 := Lib.hid (hB.out.below hb1)
      clear hb1 hB fa0 fa1 fb0 fb1 HM
      cases m with
      | false =>
        have HP4 := ZERO.out w1 hB1 (HF2k.out rfl)
        clear HF1k HF2k HP3 HAT1 HBT1 HN1 HM2 ZERO
        have fa0 : w1.cell? ⟨w.heap.size, 0, none⟩ = some (.int .u64 (a1 : Int)) := cell_of_block hB1.out.a 0
        have fa1 : w1.cell? ⟨w.heap.size, 1, none⟩ = some (.int .u64 (a2 : Int)) := cell_of_block hB1.out.a 1
        have fb0 : w1.cell? ⟨w.heap.size + 1, 0, none⟩ = some (.int .u64 (b1 : Int)) := cell_of_block hB1.out.b 0
        have fb1 : w1.cell? ⟨w.heap.size + 1, 1, none⟩ = some (.int .u64 (b2 : Int)) := cell_of_block hB1.out.b 1
        have fx0 : w1.cell? ⟨w.heap.size + 3, 0, none⟩ = some (.int .u64 (x1 : Int)) := cell_of_block hB1.out.d 0
        have fx1 : w1.cell? ⟨w.heap.size + 3, 1, none⟩ = some (.int .u64 (x2 : Int)) := cell_of_block hB1.out.d 1
        have fy0 := unfrozen_of_block hB1.out.d 0
        have fy1 := unfrozen_of_block hB1.out.d 1
        go_wp2_with fail
        refine (HP4.out _).mono ?_
        rintro e s3w ⟨rfl, SB3⟩
        have BB := Lib.hid (hB1.out.below SB3)
        have z0 := cell_of_block BB.out.d 0
        have z1 := cell_of_block BB.out.d 1
        have z2 := unfrozen_of_block BB.out.d 0
        have z3 := unfrozen_of_block BB.out.d 1
        clear SB3 hB1 HP4
        clear fa0 fa1 fb0 fb1 fx0 fx1 fy0 fy1
        go_wp2
        go_roundw
        case rel => exact ⟨_, k + 1, s1, s2, by omega, by omega, rfl, HR3.out, ⟨tset_other BB.out.a (by omega) _ _, tset_other BB.out.b (by omega) _ _, tset_other BB.out.c (by omega) _ _, tcell2 BB.out.d rfl _ _, tset BB.out.low (by omega) _ _⟩⟩
        case measure => simp [intOf]; omega
      | true =>
        have fa0 : w1.cell? ⟨w.heap.size, 0, none⟩ = some (.int .u64 (a1 : Int)) := cell_of_block hB1.out.a 0
        have fa1 : w1.cell? ⟨w.heap.size, 1, none⟩ = some (.int .u64 (a2 : Int)) := cell_of_block hB1.out.a 1
        have fb0 : w1.cell? ⟨w.heap.size + 1, 0, none⟩ = some (.int .u64 (b1 : Int)) := cell_of_block hB1.out.b 0
        have fb1 : w1.cell? ⟨w.heap.size + 1, 1, none⟩ = some (.int .u64 (b2 : Int)) := cell_of_block hB1.out.b 1
        have fx0 : w1.cell? ⟨w.heap.size + 3, 0, none⟩ = some (.int .u64 (x1 : Int)) := cell_of_block hB1.out.d 0
        have fx1 : w1.cell? ⟨w.heap.size + 3, 1, none⟩ = some (.int .u64 (x2 : Int)) := cell_of_block hB1.out.d 1
        have fy0 := unfrozen_of_block hB1.out.d 0
        have fy1 := unfrozen_of_block hB1.out.d 1
        go_wp2_with fail
        refine (HM2.out _).mono ?_
        rintro e w2 ⟨rfl, hb2⟩
        have hB2 := Lib.hid (hB1.out.below hb2)
        clear hb2 hB1 HM2
        clear fa0 fa1 fb0 fb1 fx0 fx1 fy0 fy1
        cases m2 with
        | false =>
          have HP4 := ZERO.out w2 hB2 (HF2k.out rfl)
          clear HF1k HF2k HP3 HAT1 HBT1 HN1 ZERO
          have fa0 : w2.cell? ⟨w.heap.size, 0, none⟩ = some (.int .u64 (a1 : Int)) := cell_of_block hB2.out.a 0
          have fa1 : w2.cell? ⟨w.heap.size, 1, none⟩ = some (.int .u64 (a2 : Int)) := cell_of_block hB2.out.a 1
          have fb0 : w2.cell? ⟨w.heap.size + 1, 0, none⟩ = some (.int .u64 (b1 : Int)) := cell_of_block hB2.out.b 0
          have fb1 : w2.cell? ⟨w.heap.size + 1, 1, none⟩ = some (.int .u64 (b2 : Int)) := cell_of_block hB2.out.b 1
          have fx0 : w2.cell? ⟨w.heap.size + 3, 0, none⟩ = some (.int .u64 (x1 : Int)) := cell_of_block hB2.out.d 0
          have fx1 : w2.cell? ⟨w.heap.size + 3, 1, none⟩ = some (.int .u64 (x2 : Int)) := cell_of_block hB2.out.d 1
          have fy0 := unfrozen_of_block hB2.out.d 0
          have fy1 := unfrozen_of_block hB2.out.d 1
          go_wp2_with fail
          refine (HP4.out _).mono ?_
          rintro e s3w ⟨rfl, SB3⟩
          have BB := Lib.hid (hB2.out.below SB3)
          have z0 := cell_of_block BB.out.d 0
          have z1 := cell_of_block BB.out.d 1
          have z2 := unfrozen_of_block BB.out.d 0
          have z3 := unfrozen_of_block BB.out.d 1
          clear SB3 hB2 HP4
          clear fa0 fa1 fb0 fb1 fx0 fx1 fy0 fy1
          go_wp2
          go_roundw
          case rel => exact ⟨_, k + 1, s1, s2, by omega, by omega, rfl, HR3.out, ⟨tset_other BB.out.a (by omega) _ _, tset_other BB.out.b (by omega) _ _, tset_other BB.out.c (by omega) _ _, tcell2 BB.out.d rfl _ _, tset BB.out.low (by omega) _ _⟩⟩
          case measure => simp [intOf]; omega
        | true =>
          obtain rfl : fk = pq := HF1k.out rfl
          clear HF1k HF2k ZERO
          have fa0 : w2.cell? ⟨w.heap.size, 0, none⟩ = some (.int .u64 (a1 : Int)) := cell_of_block hB2.out.a 0
          have fa1 : w2.cell? ⟨w.heap.size, 1, none⟩ = some (.int .u64 (a2 : Int)) := cell_of_block hB2.out.a 1
          have fb0 : w2.cell? ⟨w.heap.size + 1, 0, none⟩ = some (.int .u64 (b1 : Int)) := cell_of_block hB2.out.b 0
          have fb1 : w2.cell? ⟨w.heap.size + 1, 1, none⟩ = some (.int .u64 (b2 : Int)) := cell_of_block hB2.out.b 1
          have fx0 : w2.cell? ⟨w.heap.size + 3, 0, none⟩ = some (.int .u64 (x1 : Int)) := cell_of_block hB2.out.d 0
          have fx1 : w2.cell? ⟨w.heap.size + 3, 1, none⟩ = some (.int .u64 (x2 : Int)) := cell_of_block hB2.out.d 1
          have fy0 := unfrozen_of_block hB2.out.d 0
          have fy1 := unfrozen_of_block hB2.out.d 1
          go_upto_region 6 with fail
          refine wp_region_noPanic ?_
          refine wp_region_peelN 10 (by kernel_rfl) rfl (by simp only [List.getElem?_toArray, List.getElem?_cons_zero, List.getElem?_cons_succ]; rfl) (by kernel_rfl) ?_
          simp only [List.pop_toArray, List.dropLast_cons_cons, List.dropLast_singleton]
          refine wpAny_of_held (S := fun w' => w'.cell? ⟨w.heap.size, 0, none⟩ = some (.int .u64 (a1 : Int)) ∧ w'.cell? ⟨w.heap.size, 1, none⟩ = some (.int .u64 (a2 : Int)) ∧ w'.cell? ⟨w.heap.size + 1, 0, none⟩ = some (.int .u64 (b1 : Int)) ∧ w'.cell? ⟨w.heap.size + 1, 1, none⟩ = some (.int .u64 (b2 : Int)) ∧ w'.cell? ⟨w.heap.size + 3, 0, none⟩ = some (.int .u64 (x1 : Int)) ∧ w'.cell? ⟨w.heap.size + 3, 1, none⟩ = some (.int .u64 (x2 : Int))) _ _ _ _ ?_
          generalize hY : w2.drew = Y0
          have HY0 : Hid (Below w2.heap.size w2 Y0) := by subst hY; exact (Below.refl _ _).drew
          have HELD : Hid (Y0.cell? ⟨w.heap.size, 0, none⟩ = some (.int .u64 (a1 : Int)) ∧ Y0.cell? ⟨w.heap.size, 1, none⟩ = some (.int .u64 (a2 : Int)) ∧ Y0.cell? ⟨w.heap.size + 1, 0, none⟩ = some (.int .u64 (b1 : Int)) ∧ Y0.cell? ⟨w.heap.size + 1, 1, none⟩ = some (.int .u64 (b2 : Int)) ∧ Y0.cell? ⟨w.heap.size + 3, 0, none⟩ = some (.int .u64 (x1 : Int)) ∧ Y0.cell? ⟨w.heap.size + 3, 1, none⟩ = some (.int .u64 (x2 : Int))) := ⟨tcell_below fa0 HY0.out, tcell_below fa1 HY0.out, tcell_below fb0 HY0.out, tcell_below fb1 HY0.out, tcell_below fx0 HY0.out, tcell_below fx1 HY0.out⟩
          clear hY
          refine wpAnyH_take (i := 0) (v := ?_) (by simp only [List.getElem?_toArray, List.getElem?_cons_zero]; rfl) (by kernel_rfl) (by kernel_rfl) (by kernel_rfl) (fun _ _ _ h => h) (Or.inl ⟨by rfl, ?_⟩) HELD.out ?_
          rotate_left
          · intro wz hSw
            (try dsimp only at hSw)
            obtain ⟨q0, q1, q2, q3, q4, q5⟩ := hSw
            go_simp
            try with_reducible rfl
          try simp only [Act.put, List.setIfInBounds_toArray, List.set_cons_zero, List.set_cons_succ]
          refine wpAnyH_take (i := 1) (v := ?_) (by simp only [List.getElem?_toArray, List.getElem?_cons_zero, List.getElem?_cons_succ]; rfl) (by kernel_rfl) (by kernel_rfl) (by kernel_rfl) (fun _ _ _ h => h) (Or.inl ⟨by rfl, ?_⟩) HELD.out ?_
          rotate_left
          · intro wz hSw
            (try dsimp only at hSw)
            obtain ⟨q0, q1, q2, q3, q4, q5⟩ := hSw
            go_simp
            try with_reducible rfl
          try simp only [Act.put, List.setIfInBounds_toArray, List.set_cons_zero, List.set_cons_succ]
          refine wpAnyH_take (i := 2) (v := ?_) (by simp only [List.getElem?_toArray, List.getElem?_cons_zero, List.getElem?_cons_succ]; rfl) (by kernel_rfl) (by kernel_rfl) (by kernel_rfl) (fun _ _ _ h => h) (Or.inl ⟨by rfl, ?_⟩) HELD.out ?_
          rotate_left
          · intro wz hSw
            (try dsimp only at hSw)
            obtain ⟨q0, q1, q2, q3, q4, q5⟩ := hSw
            go_simp
            try with_reducible rfl
          try simp only [Act.put, List.setIfInBounds_toArray, List.set_cons_zero, List.set_cons_succ]
          refine wpAnyH_take (i := 3) (v := ?_) (by simp only [List.getElem?_toArray, List.getElem?_cons_zero, List.getElem?_cons_succ]; rfl) (by kernel_rfl) (by kernel_rfl) (by kernel_rfl) (fun _ _ _ h => h) (Or.inl ⟨by rfl, ?_⟩) HELD.out ?_
          rotate_left
          · intro wz hSw
            (try dsimp only at hSw)
            obtain ⟨q0, q1, q2, q3, q4, q5⟩ := hSw
            go_simp
            try with_reducible rfl
          try simp only [Act.put, List.setIfInBounds_toArray, List.set_cons_zero, List.set_cons_succ]
          refine wpAnyH_take (i := 5) (v := ?_) (by simp only [List.getElem?_toArray, List.getElem?_cons_zero, List.getElem?_cons_succ]; rfl) (by kernel_rfl) (by kernel_rfl) (by kernel_rfl) (fun _ _ _ h => h) (Or.inl ⟨by rfl, ?_⟩) HELD.out ?_
          rotate_left
          · intro wz hSw
            (try dsimp only at hSw)
            obtain ⟨q0, q1, q2, q3, q4, q5⟩ := hSw
            go_simp
            try with_reducible rfl
          try simp only [Act.put, List.setIfInBounds_toArray, List.set_cons_zero, List.set_cons_succ]
          refine wpAnyH_take (i := 6) (v := ?_) (by simp only [List.getElem?_toArray, List.getElem?_cons_zero, List.getElem?_cons_succ]; rfl) (by kernel_rfl) (by kernel_rfl) (by kernel_rfl) (fun _ _ _ h => h) (Or.inl ⟨by rfl, ?_⟩) HELD.out ?_
          rotate_left
          · intro wz hSw
            (try dsimp only at hSw)
            obtain ⟨q0, q1, q2, q3, q4, q5⟩ := hSw
            go_simp
            try with_reducible rfl
          try simp only [Act.put, List.setIfInBounds_toArray, List.set_cons_zero, List.set_cons_succ]
          refine wpAnyH_ready (rs := [4]) (by kernel_rfl) (by simp) ?_
          refine AllReadyH.cons (by simp only [List.getElem?_toArray, List.getElem?_cons_zero, List.getElem?_cons_succ]; rfl) (fun K hK => ?_) AllReadyH.nil
          go_simp
          refine (HAT1.out _).mono ?_
          rintro e sw1 ⟨rfl, sb1⟩
          have HY1x := Lib.hid (text_trans HY0.out sb1)
          have HELD1 : Hid (sw1.cell? ⟨w.heap.size, 0, none⟩ = some (.int .u64 (a1 : Int)) ∧ sw1.cell? ⟨w.heap.size, 1, none⟩ = some (.int .u64 (a2 : Int)) ∧ sw1.cell? ⟨w.heap.size + 1, 0, none⟩ = some (.int .u64 (b1 : Int)) ∧ sw1.cell? ⟨w.heap.size + 1, 1, none⟩ = some (.int .u64 (b2 : Int)) ∧ sw1.cell? ⟨w.heap.size + 3, 0, none⟩ = some (.int .u64 (x1 : Int)) ∧ sw1.cell? ⟨w.heap.size + 3, 1, none⟩ = some (.int .u64 (x2 : Int))) := ⟨tcell_below fa0 HY1x.out, tcell_below fa1 HY1x.out, tcell_below fb0 HY1x.out, tcell_below fb1 HY1x.out, tcell_below fx0 HY1x.out, tcell_below fx1 HY1x.out⟩
          clear sb1
          refine hK.out _ _ HELD1.out (fun _ => ?_)
          clear hK K
          try simp only [Act.put, List.setIfInBounds_toArray, List.set_cons_zero, List.set_cons_succ]
          refine wpAnyH_ready (rs := [7]) (by kernel_rfl) (by simp) ?_
          refine AllReadyH.cons (by simp only [List.getElem?_toArray, List.getElem?_cons_zero, List.getElem?_cons_succ]; rfl) (fun K hK => ?_) AllReadyH.nil
          go_simp
          refine (HBT1.out _).mono ?_
          rintro e sw2 ⟨rfl, sb2⟩
          have HY2x := Lib.hid (text_trans HY1x.out sb2)
          have HELD2 : Hid (sw2.cell? ⟨w.heap.size, 0, none⟩ = some (.int .u64 (a1 : Int)) ∧ sw2.cell? ⟨w.heap.size, 1, none⟩ = some (.int .u64 (a2 : Int)) ∧ sw2.cell? ⟨w.heap.size + 1, 0, none⟩ = some (.int .u64 (b1 : Int)) ∧ sw2.cell? ⟨w.heap.size + 1, 1, none⟩ = some (.int .u64 (b2 : Int)) ∧ sw2.cell? ⟨w.heap.size + 3, 0, none⟩ = some (.int .u64 (x1 : Int)) ∧ sw2.cell? ⟨w.heap.size + 3, 1, none⟩ = some (.int .u64 (x2 : Int))) := ⟨tcell_below fa0 HY2x.out, tcell_below fa1 HY2x.out, tcell_below fb0 HY2x.out, tcell_below fb1 HY2x.out, tcell_below fx0 HY2x.out, tcell_below fx1 HY2x.out⟩
          clear sb2
          refine hK.out _ _ HELD2.out (fun _ => ?_)
          clear hK K
          try simp only [Act.put, List.setIfInBounds_toArray, List.set_cons_zero, List.set_cons_succ]
          refine wpAnyH_ready (rs := [8]) (by kernel_rfl) (by simp) ?_
          refine AllReadyH.cons (by simp only [List.getElem?_toArray, List.getElem?_cons_zero, List.getElem?_cons_succ]; rfl) (fun K hK => ?_) AllReadyH.nil
          go_simp
          refine (HN1.out _).mono ?_
          rintro e sw8 ⟨rfl, rfl⟩
          refine hK.out _ _ HELD2.out (fun _ => ?_)
          clear hK K
          try simp only [Act.put, List.setIfInBounds_toArray, List.set_cons_zero, List.set_cons_succ]
          refine wpAnyH_ready (rs := [9]) (by kernel_rfl) (by simp) ?_
          refine AllReadyH.cons (by simp only [List.getElem?_toArray, List.getElem?_cons_zero, List.getElem?_cons_succ]; rfl) (fun K hK => ?_) AllReadyH.nil
          go_simp
          refine (HP3.out _).mono ?_
          rintro e sw9 ⟨rfl, sb9⟩
          have HY9x := Lib.hid (text_trans HY2x.out sb9)
          have HELD9 : Hid (sw9.cell? ⟨w.heap.size, 0, none⟩ = some (.int .u64 (a1 : Int)) ∧ sw9.cell? ⟨w.heap.size, 1, none⟩ = some (.int .u64 (a2 : Int)) ∧ sw9.cell? ⟨w.heap.size + 1, 0, none⟩ = some (.int .u64 (b1 : Int)) ∧ sw9.cell? ⟨w.heap.size + 1, 1, none⟩ = some (.int .u64 (b2 : Int)) ∧ sw9.cell? ⟨w.heap.size + 3, 0, none⟩ = some (.int .u64 (x1 : Int)) ∧ sw9.cell? ⟨w.heap.size + 3, 1, none⟩ = some (.int .u64 (x2 : Int))) := ⟨tcell_below fa0 HY9x.out, tcell_below fa1 HY9x.out, tcell_below fb0 HY9x.out, tcell_below fb1 HY9x.out, tcell_below fx0 HY9x.out, tcell_below fx1 HY9x.out⟩
          clear sb9
          refine hK.out _ _ HELD9.out (fun _ => ?_)
          clear hK K
          try simp only [Act.put, List.setIfInBounds_toArray, List.set_cons_zero, List.set_cons_succ]
          have BB := Lib.hid (hB2.out.below HY9x.out)
          clear hB2 fa0 fa1 fb0 fb1 fx0 fx1 fy0 fy1
          have z0 := cell_of_block BB.out.d 0
          have z1 := cell_of_block BB.out.d 1
          have z2 := unfrozen_of_block BB.out.d 0
          have z3 := unfrozen_of_block BB.out.d 1
          refine wpAnyH_done (by kernel_rfl) ?_ _
          unfold LastQ wpOp
          simp only [List.getElem?_toArray, List.getElem?_cons_zero, List.getElem?_cons_succ]
          rw [if_pos (by rfl)]
          refine Or.inl ?_
          go_simp
          refine NoPanic.normal ?_
          clear HAT1 HBT1 HN1 HP3
          go_wp2
          go_roundw
          case rel => exact ⟨_, k + 1, s1, s2, by omega, by omega, rfl, HR3.out, ⟨tset_other BB.out.a (by omega) _ _, tset_other BB.out.b (by omega) _ _, tset_other BB.out.c (by omega) _ _, tcell2 BB.out.d rfl _ _, tset BB.out.low (by omega) _ _⟩⟩
          case measure => simp [intOf]; omega
    · have hk6 : k = 64 := by omega
      subst hk6
      obtain rfl : z = 64 := by omega
      have HX := Lib.hid hx.out
      clear hk hlt hz hx HM HM2 HAT HBT HN HW HF1 HF2
      have g0 := cell_of_block hB.out.d 0
      have g1 := cell_of_block hB.out.d 1
      have f0 := unfrozen_of_block hB.out.c 0
      have f1 := unfrozen_of_block hB.out.c 1
      have d0 := cell_of_block hB.out.c 0
      have d1 := cell_of_block hB.out.c 1
      go_wp2
      refine bodyPost_ret (v := .agg #[.int .u64 (x1 : Int), .int .u64 (x2 : Int)]) ?_ rfl ?_
      · have h6 := tcell2 hB.out.c rfl (.int .u64 (x1 : Int)) (.int .u64 (x2 : Int))
        simp [results, Try.results19, go_sem, cell_of_block h6 0, cell_of_block h6 1]
      · exact ⟨by rw [HV.out, ← HX.out]; rfl, tset hB.out.low (by omega) _ _⟩
end Go.Proofs.Ytglhnmbfkbjemaa
