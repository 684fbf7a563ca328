/- The law's row and lives of tern, by their contracts. -/
import Derived.Test.YtglhnmbfkbjemaaTOf
namespace Go.Proofs.Ytglhnmbfkbjemaa
open Go Go.RowKit Go.Joins

theorem tset1 {w w1 : World} (hb : Below w.heap.size w w1) {g j : Nat} (hg : w.heap.size ≤ g) (u0 : Value) : Below w.heap.size w (w1.setCell ⟨g, j, none⟩ u0) := hb.setCell (p := ⟨g, j, none⟩) hg u0
theorem tset1_other {X : World} {g d j : Nat} {o : Obj} (h : X.heap[d]? = some o) (hne : g ≠ d) (u0 : Value) : (X.setCell ⟨g, j, none⟩ u0).heap[d]? = some o :=
  (Below.heap_setCell _ ⟨g, j, none⟩ u0 d (fun e => hne (by simpa using e.symm))).trans h
/-- A row of three values, as a value. -/
def row3 (v0 v1 v2 : Nat) : Value := .agg #[.int .u8 (v0 : Int), .int .u8 (v1 : Int), .int .u8 (v2 : Int)]

set_option maxRecDepth 100000 in
set_option maxHeartbeats 1600000 in
theorem row_any (a : W2) (ha : a.in) (hm : mayW a = true) (w : World) : Calls Try.prog 34 #[wv a] w fun e w' => e = .returned (row3 (atW a 0) (atW a 1) (atW a 2)) ∧ Below w.heap.size w w' := by
  have AT : ∀ k : Nat, k < 64 → ∀ W : World, Calls Try.prog 12 #[wv a, .int .i64 (k : Int)] W fun e w' => e = .returned (.tuple #[.int .u8 (atW a k : Nat), .bool true]) ∧ Below W.heap.size W w' := by
    intro k hk W
    refine (at_any a ha k W).mono ?_
    rintro e w' ⟨h1, h2⟩
    rw [hm, atE_yes hk] at h1
    exact ⟨h1, h2⟩
  have A0 := AT 0 (by omega)
  have A1 := AT 1 (by omega)
  have A2 := AT 2 (by omega)
  clear AT hm ha
  obtain ⟨v0, hv0⟩ : ∃ v, v = atW a 0 := ⟨_, rfl⟩
  obtain ⟨v1, hv1⟩ : ∃ v, v = atW a 1 := ⟨_, rfl⟩
  obtain ⟨v2, hv2⟩ : ∃ v, v = atW a 2 := ⟨_, rfl⟩
  rw [← hv0] at A0 ⊢
  rw [← hv1] at A1 ⊢
  rw [← hv2] at A2 ⊢
  clear hv0 hv1 hv2
  obtain ⟨z, o⟩ := a
  have hwv : wv (z, o) = .agg #[.int .u64 (z : Int), .int .u64 (o : Int)] := rfl
  rw [hwv] at A0 A1 A2 ⊢
  have H0 := Lib.hid A0
  have H1 := Lib.hid A1
  have H2 := Lib.hid A2
  clear A0 A1 A2 hwv
  unfold row3
  go_enter Try.func34, Try.ntmps34
  go_wp2_with fail
  generalize hW : World.alloc _ _ = W
  have hW0 := tmade3 hW
  clear hW
  have B0 := Lib.hid hW0.1
  have R0 := Lib.hid hW0.2.1
  have L0 := Lib.hid hW0.2.2.1
  have K0 := Lib.hid hW0.2.2.2
  have a0 := cell_of_block hW0.1 0
  have a1 := cell_of_block hW0.1 1
  clear hW0
  refine wp_loop_rounds 4 ?_
  rw [rounds_succ]
  go_wp2_with fail
  refine (H0.out _).mono ?_
  rintro e w1 ⟨rfl, hb1⟩
  have B1 := Lib.hid (theap_below B0.out hb1)
  have R1 := Lib.hid (theap_below R0.out hb1)
  have L1 := Lib.hid (theap_below L0.out hb1)
  have K1 := Lib.hid (text_trans K0.out hb1)
  clear B0 R0 L0 K0 hb1 a0 a1 H0
  have l0 := cell_of_block L1.out 0
  have m0 := unfrozen_of_block L1.out 0
  go_wp2_with fail
  generalize hW : World.setCell _ _ _ = W2
  have B2 := Lib.hid (show W2.heap[w.heap.size]? = _ by subst hW; exact tset1_other B1.out (by omega) _)
  have R2 := Lib.hid (show W2.heap[w.heap.size + 1]? = _ by subst hW; exact tset1_other R1.out (by omega) _)
  have L2 := Lib.hid (show W2.heap[w.heap.size + 2]? = some (.cells #[.int .u8 (v0 : Int), .int .u8 0, .int .u8 0] 50 (0, 0)) by subst hW; exact block_setCell L1.out _)
  have K2 := Lib.hid (show Below w.heap.size w W2 by subst hW; exact tset1 K1.out (by omega) _)
  clear hW B1 R1 L1 K1 l0 m0
  have a0 := cell_of_block B2.out 0
  have a1 := cell_of_block B2.out 1
  rw [rounds_succ]
  go_wp2_with fail
  refine (H1.out _).mono ?_
  rintro e w2 ⟨rfl, hb2⟩
  have B3 := Lib.hid (theap_below B2.out hb2)
  have R3 := Lib.hid (theap_below R2.out hb2)
  have L3 := Lib.hid (theap_below L2.out hb2)
  have K3 := Lib.hid (text_trans K2.out hb2)
  clear B2 R2 L2 K2 hb2 a0 a1 H1
  have l0 := cell_of_block L3.out 1
  have m0 := unfrozen_of_block L3.out 1
  go_wp2_with fail
  generalize hW : World.setCell _ _ _ = W4
  have B4 := Lib.hid (show W4.heap[w.heap.size]? = _ by subst hW; exact tset1_other B3.out (by omega) _)
  have R4 := Lib.hid (show W4.heap[w.heap.size + 1]? = _ by subst hW; exact tset1_other R3.out (by omega) _)
  have L4 := Lib.hid (show W4.heap[w.heap.size + 2]? = some (.cells #[.int .u8 (v0 : Int), .int .u8 (v1 : Int), .int .u8 0] 50 (0, 0)) by subst hW; exact block_setCell L3.out _)
  have K4 := Lib.hid (show Below w.heap.size w W4 by subst hW; exact tset1 K3.out (by omega) _)
  clear hW B3 R3 L3 K3 l0 m0
  have a0 := cell_of_block B4.out 0
  have a1 := cell_of_block B4.out 1
  rw [rounds_succ]
  go_wp2_with fail
  refine (H2.out _).mono ?_
  rintro e w3 ⟨rfl, hb3⟩
  have B5 := Lib.hid (theap_below B4.out hb3)
  have R5 := Lib.hid (theap_below R4.out hb3)
  have L5 := Lib.hid (theap_below L4.out hb3)
  have K5 := Lib.hid (text_trans K4.out hb3)
  clear B4 R4 L4 K4 hb3 a0 a1 H2
  have l0 := cell_of_block L5.out 2
  have m0 := unfrozen_of_block L5.out 2
  go_wp2_with fail
  generalize hW : World.setCell _ _ _ = W6
  have B6 := Lib.hid (show W6.heap[w.heap.size]? = _ by subst hW; exact tset1_other B5.out (by omega) _)
  have R6 := Lib.hid (show W6.heap[w.heap.size + 1]? = _ by subst hW; exact tset1_other R5.out (by omega) _)
  have L6 := Lib.hid (show W6.heap[w.heap.size + 2]? = some (.cells #[.int .u8 (v0 : Int), .int .u8 (v1 : Int), .int .u8 (v2 : Int)] 50 (0, 0)) by subst hW; exact block_setCell L5.out _)
  have K6 := Lib.hid (show Below w.heap.size w W6 by subst hW; exact tset1 K5.out (by omega) _)
  clear hW B5 R5 L5 K5 l0 m0
  have a0 := cell_of_block B6.out 0
  have a1 := cell_of_block B6.out 1
  rw [rounds_succ]
  have l0 := cell_of_block L6.out 0
  have l1 := cell_of_block L6.out 1
  have l2 := cell_of_block L6.out 2
  have r0 := cell_of_block R6.out 0
  have r1 := cell_of_block R6.out 1
  have r2 := cell_of_block R6.out 2
  have f0 := unfrozen_of_block R6.out 0
  have f1 := unfrozen_of_block R6.out 1
  have f2 := unfrozen_of_block R6.out 2
  go_wp2
  refine bodyPost_ret (v := row3 v0 v1 v2) ?_ rfl ?_
  · have h6 := block_setCell (i := 2) (block_setCell (i := 1) (block_setCell (i := 0) R6.out (.int .u8 (v0 : Int))) (.int .u8 (v1 : Int))) (.int .u8 (v2 : Int))
    simp [results, Try.results34, go_sem, cell_of_block h6 0, cell_of_block h6 1, cell_of_block h6 2]
    rfl
  · exact ⟨rfl, tset1 (tset1 (tset1 K6.out (by omega) _) (by omega) _) (by omega) _⟩

set_option maxRecDepth 100000 in
set_option maxHeartbeats 1600000 in
theorem lives6_any (w : World) : Calls Try.prog 26 #[] w fun e w' => e = .returned (.bool true) ∧ Below w.heap.size w w' := by
  have OF : Hid (∀ (a : Option Addr) (W : World), Sees W a 3 3 ([0, 1, 2].map bv) → Calls Try.prog 6 #[.slice a 3 3] W fun e w' => e = .returned (.tuple #[.agg #[.int .u64 18446744073709551613, .int .u64 6], .int .i64 0]) ∧ Below W.heap.size W w') := by
    intro a W h
    refine (tof_any [0, 1, 2] a 3 3 W h).mono ?_
    rintro e w' ⟨rfl, hb⟩
    exact ⟨by kernel_rfl, hb⟩
  have AX : Hid (∀ (W : World), Calls Try.prog 8 #[.int .u8 2] W fun e w' => e = .returned (.tuple #[.agg #[.int .u64 18446744073709551615, .int .u64 18446744073709551615], .int .i64 0]) ∧ Below W.heap.size W w') := by
    intro W
    refine (tall_any 2 W).mono ?_
    rintro e w' ⟨rfl, hb⟩
    exact ⟨by kernel_rfl, hb⟩
  have AZ : Hid (∀ (W : World), Calls Try.prog 8 #[.int .u8 0] W fun e w' => e = .returned (.tuple #[.agg #[.int .u64 18446744073709551615, .int .u64 0], .int .i64 0]) ∧ Below W.heap.size W w') := by
    intro W
    refine (tall_any 0 W).mono ?_
    rintro e w' ⟨rfl, hb⟩
    exact ⟨by kernel_rfl, hb⟩
  have AT : Hid (∀ (W : World), Calls Try.prog 12 #[.agg #[.int .u64 18446744073709551613, .int .u64 6], .int .i64 2] W fun e w' => e = .returned (.tuple #[.int .u8 2, .bool true]) ∧ Below W.heap.size W w') := by
    intro W
    refine (at_any (18446744073709551613, 6) ⟨by decide, by decide⟩ 2 W).mono ?_
    rintro e w' ⟨rfl, hb⟩
    exact ⟨by kernel_rfl, hb⟩
  have AN : Hid (∀ (W : World), Calls Try.prog 12 #[.agg #[.int .u64 0, .int .u64 0], .int .i64 0] W fun e w' => e = .returned (.tuple #[.int .u8 0, .bool false]) ∧ Below W.heap.size W w') := by
    intro W
    refine (at_any (0, 0) ⟨by decide, by decide⟩ 0 W).mono ?_
    rintro e w' ⟨rfl, hb⟩
    exact ⟨by kernel_rfl, hb⟩
  have AND : Hid (∀ (W : World), Calls Try.prog 18 #[.agg #[.int .u64 18446744073709551613, .int .u64 6], .agg #[.int .u64 18446744073709551615, .int .u64 18446744073709551615]] W fun e w' => e = .returned (.agg #[.int .u64 18446744073709551615, .int .u64 6]) ∧ Below W.heap.size W w') := by
    intro W
    refine (tand_any (18446744073709551613, 6) (18446744073709551615, 18446744073709551615) ⟨by decide, by decide⟩ ⟨by decide, by decide⟩ W).mono ?_
    rintro e w' ⟨rfl, hb⟩
    exact ⟨by kernel_rfl, hb⟩
  have NOT : Hid (∀ (W : World), Calls Try.prog 16 #[.agg #[.int .u64 18446744073709551613, .int .u64 6]] W fun e w' => e = .returned (.agg #[.int .u64 6, .int .u64 18446744073709551613]) ∧ Below W.heap.size W w') := by
    intro W
    refine (tnot_any (18446744073709551613, 6) ⟨by decide, by decide⟩ W).mono ?_
    rintro e w' ⟨rfl, hb⟩
    exact ⟨by kernel_rfl, hb⟩
  have RA : Hid (∀ (W : World), Calls Try.prog 34 #[.agg #[.int .u64 18446744073709551615, .int .u64 6]] W fun e w' => e = .returned (.agg #[.int .u8 0, .int .u8 2, .int .u8 2]) ∧ Below W.heap.size W w') := by
    intro W
    refine (row_any (18446744073709551615, 6) ⟨by decide, by decide⟩ (by decide +kernel) W).mono ?_
    rintro e w' ⟨rfl, hb⟩
    exact ⟨by kernel_rfl, hb⟩
  have RN : Hid (∀ (W : World), Calls Try.prog 34 #[.agg #[.int .u64 6, .int .u64 18446744073709551613]] W fun e w' => e = .returned (.agg #[.int .u8 1, .int .u8 0, .int .u8 2]) ∧ Below W.heap.size W w') := by
    intro W
    refine (row_any (6, 18446744073709551613) ⟨by decide, by decide⟩ (by decide +kernel) W).mono ?_
    rintro e w' ⟨rfl, hb⟩
    exact ⟨by kernel_rfl, hb⟩
  have WI : Hid (∀ (W : World), Calls Try.prog 20 #[.agg #[.int .u64 18446744073709551615, .int .u64 0], .agg #[.int .u64 18446744073709551615, .int .u64 18446744073709551615]] W fun e w' => e = .returned (.int .u64 18446744073709551615) ∧ Below W.heap.size W w') := by
    intro W
    refine (twithin_any (18446744073709551615, 0) (18446744073709551615, 18446744073709551615) ⟨by decide, by decide⟩ ⟨by decide, by decide⟩ W).mono ?_
    rintro e w' ⟨rfl, hb⟩
    exact ⟨by kernel_rfl, hb⟩
  have A1 : Hid (∀ (W : World), Calls Try.prog 24 #[.int .u8 0, .int .u8 2] W fun e w' => e = .returned (.int .u8 0) ∧ w' = W) := fun W => and1_any 0 2 W
  have A2 : Hid (∀ (W : World), Calls Try.prog 24 #[.int .u8 1, .int .u8 2] W fun e w' => e = .returned (.int .u8 2) ∧ w' = W) := fun W => and1_any 1 2 W
  have EQ1 : ∀ W : World, Sem.run Try.prog (Op.equalIn 10000 50 (.agg #[.int .u8 0, .int .u8 2, .int .u8 2]) (.agg #[.int .u8 0, .int .u8 2, .int .u8 2])) W = .ok true W := by intro W; kernel_rfl
  have EQ2 : ∀ W : World, Sem.run Try.prog (Op.equalIn 10000 50 (.agg #[.int .u8 1, .int .u8 0, .int .u8 2]) (.agg #[.int .u8 1, .int .u8 0, .int .u8 2])) W = .ok true W := by intro W; kernel_rfl
  go_enter Try.func26, Try.ntmps26
  go_wp2_with fail
  refine (OF.out _ _ ?_).mono ?_
  · exact ⟨rfl, Nat.le_refl _, (fun e => by cases e), fun _ => ⟨w.heap.size, 0, rfl, by simp, fun j hj => by rw [World.cell?_alloc_mark]; match j, hj with | 0, _ => rfl | 1, _ => rfl | 2, _ => rfl⟩⟩
  rintro e w1 ⟨rfl, hb1⟩
  have K1 := Lib.hid (text_behind hb1)
  clear hb1 OF
  obtain ⟨G1, hG1⟩ : ∃ G, G = w1.heap.size := ⟨_, rfl⟩
  have N1 : Hid (∀ x y : Value, (w1.alloc (.cells #[x, y] 24)).heap[G1]? = some (.cells #[x, y] 24 (0, 0))) := fun x y => by rw [hG1]; exact theap_new _ _
  go_wp2_with fail
  rw [← hG1]
  generalize hW : World.alloc _ _ = W1
  have C1 := Lib.hid (show W1.heap[G1]? = some (.cells #[.int .u64 18446744073709551613, .int .u64 6] 24 (0, 0)) by subst hW; exact N1.out _ _)
  have K1' := Lib.hid (show Below w.heap.size w W1 by subst hW; exact text_trans K1.out (text_alloc _ _))
  clear hW hG1 K1 N1
  refine (AX.out _).mono ?_
  rintro e w2 ⟨rfl, hb2⟩
  have C2 := Lib.hid (theap_below C1.out hb2)
  have K2 := Lib.hid (text_trans K1'.out hb2)
  clear hb2 AX C1 K1'
  obtain ⟨G3, hG3⟩ : ∃ G, G = w2.heap.size := ⟨_, rfl⟩
  have N2 : Hid (∀ x y : Value, (w2.alloc (.cells #[x, y] 24)).heap[G3]? = some (.cells #[x, y] 24 (0, 0))) := fun x y => by rw [hG3]; exact theap_new _ _
  go_wp2_with fail
  rw [← hG3]
  generalize hW : World.alloc _ _ = W2
  have D2 := Lib.hid (show W2.heap[G3]? = some (.cells #[.int .u64 18446744073709551615, .int .u64 18446744073709551615] 24 (0, 0)) by subst hW; exact N2.out _ _)
  have C3 := Lib.hid (show W2.heap[G1]? = _ by subst hW; exact theap_below C2.out (text_alloc _ _))
  have K2' := Lib.hid (show Below w.heap.size w W2 by subst hW; exact text_trans K2.out (text_alloc _ _))
  clear hW hG3 K2 N2 C2
  refine (AZ.out _).mono ?_
  rintro e w3 ⟨rfl, hb3⟩
  have C4 := Lib.hid (theap_below C3.out hb3)
  have D3 := Lib.hid (theap_below D2.out hb3)
  have K3 := Lib.hid (text_trans K2'.out hb3)
  clear hb3 AZ C3 D2 K2'
  obtain ⟨G5, hG5⟩ : ∃ G, G = w3.heap.size := ⟨_, rfl⟩
  have N3 : Hid (∀ x y : Value, (w3.alloc (.cells #[x, y] 24)).heap[G5]? = some (.cells #[x, y] 24 (0, 0))) := fun x y => by rw [hG5]; exact theap_new _ _
  have c0 := cell_of_block (theap_below C4.out (text_alloc w3 (.cells #[.int .u64 18446744073709551615, .int .u64 0] 24))) 0
  have c1 := cell_of_block (theap_below C4.out (text_alloc w3 (.cells #[.int .u64 18446744073709551615, .int .u64 0] 24))) 1
  have q0 := cell_of_block C4.out 0
  have q1 := cell_of_block C4.out 1
  have b1 : bits .and .u64 18446744073709551613 7 = 5 := by decide +kernel
  have b2 : bits .and .u64 6 7 = 6 := by decide +kernel
  go_wp2_with fail
  rw [← hG5]
  generalize hW : World.alloc _ _ = W3
  have F3 := Lib.hid (show W3.heap[G5]? = some (.cells #[.int .u64 18446744073709551615, .int .u64 0] 24 (0, 0)) by subst hW; exact N3.out _ _)
  have C5 := Lib.hid (show W3.heap[G1]? = _ by subst hW; exact theap_below C4.out (text_alloc _ _))
  have D4 := Lib.hid (show W3.heap[G3]? = _ by subst hW; exact theap_below D3.out (text_alloc _ _))
  have K3' := Lib.hid (show Below w.heap.size w W3 by subst hW; exact text_trans K3.out (text_alloc _ _))
  clear hW hG5 K3 N3 C4 D3 c0 c1 q0 q1 b1 b2
  refine (AT.out _).mono ?_
  rintro e w4 ⟨rfl, hb4⟩
  have F4 := Lib.hid (theap_below F3.out hb4)
  have C4x := Lib.hid (theap_below C5.out hb4)
  have D4x := Lib.hid (theap_below D4.out hb4)
  have K4 := Lib.hid (text_trans K3'.out hb4)
  clear hb4 F3 C5 D4 K3'
  have c0 := cell_of_block C4x.out 0
  have c1 := cell_of_block C4x.out 1
  have d0 := cell_of_block D4x.out 0
  have d1 := cell_of_block D4x.out 1
  have f0 := cell_of_block F4.out 0
  have f1 := cell_of_block F4.out 1
  go_wp2_with fail
  refine (AN.out _).mono ?_
  clear c0 c1 d0 d1 f0 f1
  rintro e w5 ⟨rfl, hb5⟩
  have F5 := Lib.hid (theap_below F4.out hb5)
  have C5x := Lib.hid (theap_below C4x.out hb5)
  have D5x := Lib.hid (theap_below D4x.out hb5)
  have K5 := Lib.hid (text_trans K4.out hb5)
  clear hb5 F4 C4x D4x K4
  have c0 := cell_of_block C5x.out 0
  have c1 := cell_of_block C5x.out 1
  have d0 := cell_of_block D5x.out 0
  have d1 := cell_of_block D5x.out 1
  have f0 := cell_of_block F5.out 0
  have f1 := cell_of_block F5.out 1
  go_wp2_with fail
  refine (AND.out _).mono ?_
  clear c0 c1 d0 d1 f0 f1
  rintro e w6 ⟨rfl, hb6⟩
  have F6 := Lib.hid (theap_below F5.out hb6)
  have C6x := Lib.hid (theap_below C5x.out hb6)
  have D6x := Lib.hid (theap_below D5x.out hb6)
  have K6 := Lib.hid (text_trans K5.out hb6)
  clear hb6 F5 C5x D5x K5
  have c0 := cell_of_block C6x.out 0
  have c1 := cell_of_block C6x.out 1
  have d0 := cell_of_block D6x.out 0
  have d1 := cell_of_block D6x.out 1
  have f0 := cell_of_block F6.out 0
  have f1 := cell_of_block F6.out 1
  go_wp2_with fail
  refine (RA.out _).mono ?_
  clear c0 c1 d0 d1 f0 f1
  rintro e w7 ⟨rfl, hb7⟩
  have F7 := Lib.hid (theap_below F6.out hb7)
  have C7x := Lib.hid (theap_below C6x.out hb7)
  have D7x := Lib.hid (theap_below D6x.out hb7)
  have K7 := Lib.hid (text_trans K6.out hb7)
  clear hb7 F6 C6x D6x K6
  have c0 := cell_of_block C7x.out 0
  have c1 := cell_of_block C7x.out 1
  have d0 := cell_of_block D7x.out 0
  have d1 := cell_of_block D7x.out 1
  have f0 := cell_of_block F7.out 0
  have f1 := cell_of_block F7.out 1
  go_wp2_with fail
  refine (NOT.out _).mono ?_
  clear c0 c1 d0 d1 f0 f1
  rintro e w8 ⟨rfl, hb8⟩
  have F8 := Lib.hid (theap_below F7.out hb8)
  have C8x := Lib.hid (theap_below C7x.out hb8)
  have D8x := Lib.hid (theap_below D7x.out hb8)
  have K8 := Lib.hid (text_trans K7.out hb8)
  clear hb8 F7 C7x D7x K7
  have c0 := cell_of_block C8x.out 0
  have c1 := cell_of_block C8x.out 1
  have d0 := cell_of_block D8x.out 0
  have d1 := cell_of_block D8x.out 1
  have f0 := cell_of_block F8.out 0
  have f1 := cell_of_block F8.out 1
  go_wp2_with fail
  refine (RN.out _).mono ?_
  clear c0 c1 d0 d1 f0 f1
  rintro e w9 ⟨rfl, hb9⟩
  have F9 := Lib.hid (theap_below F8.out hb9)
  have C9x := Lib.hid (theap_below C8x.out hb9)
  have D9x := Lib.hid (theap_below D8x.out hb9)
  have K9 := Lib.hid (text_trans K8.out hb9)
  clear hb9 F8 C8x D8x K8
  have c0 := cell_of_block C9x.out 0
  have c1 := cell_of_block C9x.out 1
  have d0 := cell_of_block D9x.out 0
  have d1 := cell_of_block D9x.out 1
  have f0 := cell_of_block F9.out 0
  have f1 := cell_of_block F9.out 1
  go_wp2_with fail
  refine (WI.out _).mono ?_
  clear c0 c1 d0 d1 f0 f1
  rintro e w10 ⟨rfl, hb10⟩
  have F10 := Lib.hid (theap_below F9.out hb10)
  have C10x := Lib.hid (theap_below C9x.out hb10)
  have D10x := Lib.hid (theap_below D9x.out hb10)
  have K10 := Lib.hid (text_trans K9.out hb10)
  clear hb10 F9 C9x D9x K9
  have c0 := cell_of_block C10x.out 0
  have c1 := cell_of_block C10x.out 1
  have d0 := cell_of_block D10x.out 0
  have d1 := cell_of_block D10x.out 1
  have f0 := cell_of_block F10.out 0
  have f1 := cell_of_block F10.out 1
  go_wp2_with fail
  refine (A1.out _).mono ?_
  rintro e w11 ⟨rfl, rfl⟩
  clear c0 c1 d0 d1 f0 f1
  have c0 := cell_of_block C10x.out 0
  have c1 := cell_of_block C10x.out 1
  have d0 := cell_of_block D10x.out 0
  have d1 := cell_of_block D10x.out 1
  have f0 := cell_of_block F10.out 0
  have f1 := cell_of_block F10.out 1
  go_wp2_with fail
  refine (A2.out _).mono ?_
  rintro e w12 ⟨rfl, rfl⟩
  clear c0 c1 d0 d1 f0 f1
  go_wp2
  go_ret
  exact ⟨rfl, K10.out⟩
end Go.Proofs.Ytglhnmbfkbjemaa
