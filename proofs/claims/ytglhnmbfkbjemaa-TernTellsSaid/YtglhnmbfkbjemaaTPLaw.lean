/- TernPlaces, walked. -/
import Derived.Test.YtglhnmbfkbjemaaTWLaw
namespace Go.Proofs.Ytglhnmbfkbjemaa
open Go Go.RowKit Go.Joins

/-- What stands in the two boxes. -/
structure Box2 (w : World) (a b : W2) (W : World) : Prop where
  a : W.heap[w.heap.size]? = some (.cells #[.int .u64 (a.1 : Int), .int .u64 (a.2 : Int)] 24 (0, 0))
  b : W.heap[w.heap.size + 1]? = some (.cells #[.int .u64 (b.1 : Int), .int .u64 (b.2 : Int)] 24 (0, 0))
  low : Below w.heap.size w W
theorem Box2.below {w W W' : World} {a b : W2} (h : Box2 w a b W) (k : Below W.heap.size W W') : Box2 w a b W' :=
  ⟨theap_below h.a k, theap_below h.b k, text_trans h.low k⟩

set_option maxRecDepth 100000 in
set_option maxHeartbeats 1600000 in
/-- The law where one of the words is none. -/
theorem tplaces_no (a b : W2) (i : Int) (v : Nat) (ha : a.in) (hb : b.in) (hno : ¬ (mayW a = true ∧ mayW b = true)) (w : World) :
    Calls Try.prog 4 #[wv a, wv b, .int .i64 i, .int .u8 (v : Int)] w fun e w' => e = .returned (.bool true) ∧ Below w.heap.size w w' := by
  have MA := Lib.hid (may_any a ha)
  have MB := Lib.hid (may_any b hb)
  have LV := Lib.hid lives6_any
  have AZ : Hid (∀ (W : World), Calls Try.prog 8 #[.int .u8 0] W fun e w' => e = .returned (.tuple #[.agg #[.int .u64 18446744073709551615, .int .u64 0], .int .i64 0]) ∧ Below W.heap.size W w') := by
    intro W
    refine (tall_any 0 W).mono ?_
    rintro e w' ⟨rfl, hb⟩
    exact ⟨by kernel_rfl, hb⟩
  have AB : Hid (∀ W : World, Calls Try.prog 18 #[wv a, wv b] W fun e w' => e = .returned (.agg #[.int .u64 18446744073709551615, .int .u64 0]) ∧ Below W.heap.size W w') := by
    intro W
    refine (tand_any a b ha hb W).mono ?_
    rintro e w' ⟨rfl, hb⟩
    exact ⟨by unfold andW; rw [if_neg hno]; rfl, hb⟩
  have XB : Hid (∀ W : World, Calls Try.prog 20 #[wv a, wv b] W fun e w' => e = .returned (.int .u64 0) ∧ Below W.heap.size W w') := by
    intro W
    refine (twithin_any a b ha hb W).mono ?_
    rintro e w' ⟨rfl, hb⟩
    exact ⟨by unfold withinW; rw [if_neg hno]; rfl, hb⟩
  obtain ⟨ma, hma⟩ : ∃ x, x = mayW a := ⟨_, rfl⟩
  obtain ⟨mb, hmb⟩ : ∃ x, x = mayW b := ⟨_, rfl⟩
  rw [← hma] at MA hno
  rw [← hmb] at MB hno
  clear hma hmb ha hb
  have HNO := Lib.hid hno
  clear hno
  obtain ⟨a1, a2⟩ := a
  obtain ⟨b1, b2⟩ := b
  unfold wv at MA MB AB XB
  show Calls Try.prog 4 #[.agg #[.int .u64 (a1 : Int), .int .u64 (a2 : Int)], .agg #[.int .u64 (b1 : Int), .int .u64 (b2 : Int)], .int .i64 i, .int .u8 (v : Int)] w _
  go_enter Try.func4, Try.ntmps4
  go_wp2_with fail
  generalize hW : World.alloc _ _ = W
  have B0 : Hid (Box2 w (a1, a2) (b1, b2) W) := by
    obtain ⟨h1, h2, h3⟩ := tmade2 hW
    exact ⟨h1, h2, h3⟩
  clear hW
  have fa0 : W.cell? ⟨w.heap.size, 0, none⟩ = some (.int .u64 (a1 : Int)) := cell_of_block B0.out.a 0
  have fa1 : W.cell? ⟨w.heap.size, 1, none⟩ = some (.int .u64 (a2 : Int)) := cell_of_block B0.out.a 1
  have fb0 : W.cell? ⟨w.heap.size + 1, 0, none⟩ = some (.int .u64 (b1 : Int)) := cell_of_block B0.out.b 0
  have fb1 : W.cell? ⟨w.heap.size + 1, 1, none⟩ = some (.int .u64 (b2 : Int)) := cell_of_block B0.out.b 1
  refine (MA.out _).mono ?_
  rintro e naw ⟨rfl, nab⟩
  have Bna := Lib.hid (B0.out.below nab)
  clear nab B0
  clear fa0 fa1 fb0 fb1
  cases ma with
  | false =>
    clear HNO
    have fa0 : naw.cell? ⟨w.heap.size, 0, none⟩ = some (.int .u64 (a1 : Int)) := cell_of_block Bna.out.a 0
    have fa1 : naw.cell? ⟨w.heap.size, 1, none⟩ = some (.int .u64 (a2 : Int)) := cell_of_block Bna.out.a 1
    have fb0 : naw.cell? ⟨w.heap.size + 1, 0, none⟩ = some (.int .u64 (b1 : Int)) := cell_of_block Bna.out.b 0
    have fb1 : naw.cell? ⟨w.heap.size + 1, 1, none⟩ = some (.int .u64 (b2 : Int)) := cell_of_block Bna.out.b 1
    go_wp2_with fail
    refine (AZ.out _).mono ?_
    rintro e z1 ⟨rfl, zb⟩
    have BZ := Lib.hid (Bna.out.below zb)
    clear zb Bna
    clear fa0 fa1 fb0 fb1
    have fa0 : z1.cell? ⟨w.heap.size, 0, none⟩ = some (.int .u64 (a1 : Int)) := cell_of_block BZ.out.a 0
    have fa1 : z1.cell? ⟨w.heap.size, 1, none⟩ = some (.int .u64 (a2 : Int)) := cell_of_block BZ.out.a 1
    have fb0 : z1.cell? ⟨w.heap.size + 1, 0, none⟩ = some (.int .u64 (b1 : Int)) := cell_of_block BZ.out.b 0
    have fb1 : z1.cell? ⟨w.heap.size + 1, 1, none⟩ = some (.int .u64 (b2 : Int)) := cell_of_block BZ.out.b 1
    obtain ⟨G, hG⟩ : ∃ G, G = z1.heap.size := ⟨_, rfl⟩
    go_upto_region 3 with fail
    generalize hW : World.alloc _ _ = W1
    rw [← hG]
    have BW := Lib.hid (show Box2 w (a1, a2) (b1, b2) W1 by subst hW; exact BZ.out.below (text_alloc _ _))
    have hg : W1.heap[G]? = some (.cells #[.int .u64 18446744073709551615, .int .u64 0] 24 (0, 0)) := by subst hW; rw [hG]; exact theap_new _ _
    clear hW hG BZ
    clear fa0 fa1 fb0 fb1
    have fa0 : W1.cell? ⟨w.heap.size, 0, none⟩ = some (.int .u64 (a1 : Int)) := cell_of_block BW.out.a 0
    have fa1 : W1.cell? ⟨w.heap.size, 1, none⟩ = some (.int .u64 (a2 : Int)) := cell_of_block BW.out.a 1
    have fb0 : W1.cell? ⟨w.heap.size + 1, 0, none⟩ = some (.int .u64 (b1 : Int)) := cell_of_block BW.out.b 0
    have fb1 : W1.cell? ⟨w.heap.size + 1, 1, none⟩ = some (.int .u64 (b2 : Int)) := cell_of_block BW.out.b 1
    have fg0 : W1.cell? ⟨G, 0, none⟩ = some (.int .u64 18446744073709551615) := cell_of_block hg 0
    have fg1 : W1.cell? ⟨G, 1, none⟩ = some (.int .u64 0) := cell_of_block hg 1
    clear hg
    go_region_held3 (fun w' => w'.cell? ⟨w.heap.size, 0, none⟩ = some (.int .u64 (a1 : Int)) ∧ w'.cell? ⟨w.heap.size, 1, none⟩ = some (.int .u64 (a2 : Int)) ∧ w'.cell? ⟨w.heap.size + 1, 0, none⟩ = some (.int .u64 (b1 : Int)) ∧ w'.cell? ⟨w.heap.size + 1, 1, none⟩ = some (.int .u64 (b2 : Int)) ∧ w'.cell? ⟨G, 0, none⟩ = some (.int .u64 18446744073709551615) ∧ w'.cell? ⟨G, 1, none⟩ = some (.int .u64 0))
      (first | with_reducible exact ⟨fa0, fa1, fb0, fb1, fg0, fg1⟩ | with_reducible exact ⟨tcell_drew fa0, tcell_drew fa1, tcell_drew fb0, tcell_drew fb1, tcell_drew fg0, tcell_drew fg1⟩ | with_reducible exact ⟨s1_0, s1_1, s1_2, s1_3, s1_4, s1_5⟩ | with_reducible exact ⟨tcell_drew s1_0, tcell_drew s1_1, tcell_drew s1_2, tcell_drew s1_3, tcell_drew s1_4, tcell_drew s1_5⟩ | with_reducible exact ⟨s2_0, s2_1, s2_2, s2_3, s2_4, s2_5⟩ | with_reducible exact ⟨tcell_drew s2_0, tcell_drew s2_1, tcell_drew s2_2, tcell_drew s2_3, tcell_drew s2_4, tcell_drew s2_5⟩ | with_reducible exact ⟨s3_0, s3_1, s3_2, s3_3, s3_4, s3_5⟩ | with_reducible exact ⟨tcell_drew s3_0, tcell_drew s3_1, tcell_drew s3_2, tcell_drew s3_3, tcell_drew s3_4, tcell_drew s3_5⟩)
      (first
        | (go_at_call 18; (with_reducible refine (AB.out _).mono ?_); rintro e sw1 ⟨rfl, sb1⟩; have sB1 : Below W1.heap.size W1 sw1 := (by first | exact text_trans (Below.refl W1.heap.size W1) sb1 | exact text_trans ((Below.refl W1.heap.size W1).drew) sb1); have s1_0 := tcell_below fa0 sB1; have s1_1 := tcell_below fa1 sB1; have s1_2 := tcell_below fb0 sB1; have s1_3 := tcell_below fb1 sB1; have s1_4 := tcell_below fg0 sB1; have s1_5 := tcell_below fg1 sB1)
        | (go_at_call 20; (with_reducible refine (XB.out _).mono ?_); rintro e sw2 ⟨rfl, sb2⟩; have sB2 : Below W1.heap.size W1 sw2 := (by first | exact text_trans sB1 sb2 | exact text_trans (sB1.drew) sb2); have s2_0 := tcell_below fa0 sB2; have s2_1 := tcell_below fa1 sB2; have s2_2 := tcell_below fb0 sB2; have s2_3 := tcell_below fb1 sB2; have s2_4 := tcell_below fg0 sB2; have s2_5 := tcell_below fg1 sB2)
        | (go_at_call 26; (with_reducible refine (LV.out _).mono ?_); rintro e sw3 ⟨rfl, sb3⟩; have sB3 : Below W1.heap.size W1 sw3 := (by first | exact text_trans sB2 sb3 | exact text_trans (sB2.drew) sb3); have s3_0 := tcell_below fa0 sB3; have s3_1 := tcell_below fa1 sB3; have s3_2 := tcell_below fb0 sB3; have s3_3 := tcell_below fb1 sB3; have s3_4 := tcell_below fg0 sB3; have s3_5 := tcell_below fg1 sB3))
    go_wp2
    go_ret
    exact ⟨rfl, text_trans BW.out.low sB3⟩
  | true =>
    have fa0 : naw.cell? ⟨w.heap.size, 0, none⟩ = some (.int .u64 (a1 : Int)) := cell_of_block Bna.out.a 0
    have fa1 : naw.cell? ⟨w.heap.size, 1, none⟩ = some (.int .u64 (a2 : Int)) := cell_of_block Bna.out.a 1
    have fb0 : naw.cell? ⟨w.heap.size + 1, 0, none⟩ = some (.int .u64 (b1 : Int)) := cell_of_block Bna.out.b 0
    have fb1 : naw.cell? ⟨w.heap.size + 1, 1, none⟩ = some (.int .u64 (b2 : Int)) := cell_of_block Bna.out.b 1
    go_wp2_with fail
    refine (MB.out _).mono ?_
    rintro e nbw ⟨rfl, nbb⟩
    have Bnb := Lib.hid (Bna.out.below nbb)
    clear nbb Bna
    clear fa0 fa1 fb0 fb1
    cases mb with
    | false =>
      clear HNO
      have fa0 : nbw.cell? ⟨w.heap.size, 0, none⟩ = some (.int .u64 (a1 : Int)) := cell_of_block Bnb.out.a 0
      have fa1 : nbw.cell? ⟨w.heap.size, 1, none⟩ = some (.int .u64 (a2 : Int)) := cell_of_block Bnb.out.a 1
      have fb0 : nbw.cell? ⟨w.heap.size + 1, 0, none⟩ = some (.int .u64 (b1 : Int)) := cell_of_block Bnb.out.b 0
      have fb1 : nbw.cell? ⟨w.heap.size + 1, 1, none⟩ = some (.int .u64 (b2 : Int)) := cell_of_block Bnb.out.b 1
      go_wp2_with fail
      refine (AZ.out _).mono ?_
      rintro e z1 ⟨rfl, zb⟩
      have BZ := Lib.hid (Bnb.out.below zb)
      clear zb Bnb
      clear fa0 fa1 fb0 fb1
      have fa0 : z1.cell? ⟨w.heap.size, 0, none⟩ = some (.int .u64 (a1 : Int)) := cell_of_block BZ.out.a 0
      have fa1 : z1.cell? ⟨w.heap.size, 1, none⟩ = some (.int .u64 (a2 : Int)) := cell_of_block BZ.out.a 1
      have fb0 : z1.cell? ⟨w.heap.size + 1, 0, none⟩ = some (.int .u64 (b1 : Int)) := cell_of_block BZ.out.b 0
      have fb1 : z1.cell? ⟨w.heap.size + 1, 1, none⟩ = some (.int .u64 (b2 : Int)) := cell_of_block BZ.out.b 1
      obtain ⟨G, hG⟩ : ∃ G, G = z1.heap.size := ⟨_, rfl⟩
      go_upto_region 3 with fail
      generalize hW : World.alloc _ _ = W1
      rw [← hG]
      have BW := Lib.hid (show Box2 w (a1, a2) (b1, b2) W1 by subst hW; exact BZ.out.below (text_alloc _ _))
      have hg : W1.heap[G]? = some (.cells #[.int .u64 18446744073709551615, .int .u64 0] 24 (0, 0)) := by subst hW; rw [hG]; exact theap_new _ _
      clear hW hG BZ
      clear fa0 fa1 fb0 fb1
      have fa0 : W1.cell? ⟨w.heap.size, 0, none⟩ = some (.int .u64 (a1 : Int)) := cell_of_block BW.out.a 0
      have fa1 : W1.cell? ⟨w.heap.size, 1, none⟩ = some (.int .u64 (a2 : Int)) := cell_of_block BW.out.a 1
      have fb0 : W1.cell? ⟨w.heap.size + 1, 0, none⟩ = some (.int .u64 (b1 : Int)) := cell_of_block BW.out.b 0
      have fb1 : W1.cell? ⟨w.heap.size + 1, 1, none⟩ = some (.int .u64 (b2 : Int)) := cell_of_block BW.out.b 1
      have fg0 : W1.cell? ⟨G, 0, none⟩ = some (.int .u64 18446744073709551615) := cell_of_block hg 0
      have fg1 : W1.cell? ⟨G, 1, none⟩ = some (.int .u64 0) := cell_of_block hg 1
      clear hg
      go_region_held3 (fun w' => w'.cell? ⟨w.heap.size, 0, none⟩ = some (.int .u64 (a1 : Int)) ∧ w'.cell? ⟨w.heap.size, 1, none⟩ = some (.int .u64 (a2 : Int)) ∧ w'.cell? ⟨w.heap.size + 1, 0, none⟩ = some (.int .u64 (b1 : Int)) ∧ w'.cell? ⟨w.heap.size + 1, 1, none⟩ = some (.int .u64 (b2 : Int)) ∧ w'.cell? ⟨G, 0, none⟩ = some (.int .u64 18446744073709551615) ∧ w'.cell? ⟨G, 1, none⟩ = some (.int .u64 0))
        (first | with_reducible exact ⟨fa0, fa1, fb0, fb1, fg0, fg1⟩ | with_reducible exact ⟨tcell_drew fa0, tcell_drew fa1, tcell_drew fb0, tcell_drew fb1, tcell_drew fg0, tcell_drew fg1⟩ | with_reducible exact ⟨s1_0, s1_1, s1_2, s1_3, s1_4, s1_5⟩ | with_reducible exact ⟨tcell_drew s1_0, tcell_drew s1_1, tcell_drew s1_2, tcell_drew s1_3, tcell_drew s1_4, tcell_drew s1_5⟩ | with_reducible exact ⟨s2_0, s2_1, s2_2, s2_3, s2_4, s2_5⟩ | with_reducible exact ⟨tcell_drew s2_0, tcell_drew s2_1, tcell_drew s2_2, tcell_drew s2_3, tcell_drew s2_4, tcell_drew s2_5⟩ | with_reducible exact ⟨s3_0, s3_1, s3_2, s3_3, s3_4, s3_5⟩ | with_reducible exact ⟨tcell_drew s3_0, tcell_drew s3_1, tcell_drew s3_2, tcell_drew s3_3, tcell_drew s3_4, tcell_drew s3_5⟩)
        (first
          | (go_at_call 18; (with_reducible refine (AB.out _).mono ?_); rintro e sw1 ⟨rfl, sb1⟩; have sB1 : Below W1.heap.size W1 sw1 := (by first | exact text_trans (Below.refl W1.heap.size W1) sb1 | exact text_trans ((Below.refl W1.heap.size W1).drew) sb1); have s1_0 := tcell_below fa0 sB1; have s1_1 := tcell_below fa1 sB1; have s1_2 := tcell_below fb0 sB1; have s1_3 := tcell_below fb1 sB1; have s1_4 := tcell_below fg0 sB1; have s1_5 := tcell_below fg1 sB1)
          | (go_at_call 20; (with_reducible refine (XB.out _).mono ?_); rintro e sw2 ⟨rfl, sb2⟩; have sB2 : Below W1.heap.size W1 sw2 := (by first | exact text_trans sB1 sb2 | exact text_trans (sB1.drew) sb2); have s2_0 := tcell_below fa0 sB2; have s2_1 := tcell_below fa1 sB2; have s2_2 := tcell_below fb0 sB2; have s2_3 := tcell_below fb1 sB2; have s2_4 := tcell_below fg0 sB2; have s2_5 := tcell_below fg1 sB2)
          | (go_at_call 26; (with_reducible refine (LV.out _).mono ?_); rintro e sw3 ⟨rfl, sb3⟩; have sB3 : Below W1.heap.size W1 sw3 := (by first | exact text_trans sB2 sb3 | exact text_trans (sB2.drew) sb3); have s3_0 := tcell_below fa0 sB3; have s3_1 := tcell_below fa1 sB3; have s3_2 := tcell_below fb0 sB3; have s3_3 := tcell_below fb1 sB3; have s3_4 := tcell_below fg0 sB3; have s3_5 := tcell_below fg1 sB3))
      go_wp2
      go_ret
      exact ⟨rfl, text_trans BW.out.low sB3⟩
    | true =>
      exact (HNO.out (by simp)).elim

set_option maxRecDepth 100000 in
set_option maxHeartbeats 3200000 in
/-- The law where both words are. -/
theorem tplaces_yes (a b : W2) (i : Int) (v : Nat) (ha : a.in) (hb : b.in) (hma : mayW a = true) (hmb : mayW b = true) (w : World) :
    Calls Try.prog 4 #[wv a, wv b, .int .i64 i, .int .u8 (v : Int)] w fun e w' => e = .returned (.bool true) ∧ Below w.heap.size w w' := by
  have MA := Lib.hid (may_any a ha)
  have MB := Lib.hid (may_any b hb)
  rw [hma] at MA
  rw [hmb] at MB
  have LV := Lib.hid lives6_any
  have NA := Lib.hid (tnot_any a ha)
  have AB := Lib.hid (tand_any a b ha hb)
  have ATS : ∀ c : W2, c.in → mayW c = true → ∀ k : Nat, k < 64 → ∀ W : World, Calls Try.prog 12 #[wv c, .int .i64 (k : Int)] W fun e w' => e = .returned (.tuple #[.int .u8 (atW c k : Nat), .bool true]) ∧ Below W.heap.size W w' := by
    intro c hc hmc k hk W
    refine (at_any c hc k W).mono ?_
    rintro e w' ⟨h1, h2⟩
    rw [hmc, atE_yes hk] at h1
    exact ⟨h1, h2⟩
  have TA := Lib.hid (ATS a ha hma)
  have TB := Lib.hid (ATS b hb hmb)
  have TN : Hid (∀ k : Nat, k < 64 → ∀ W : World, Calls Try.prog 12 #[wv (notW a), .int .i64 (k : Int)] W fun e w' => e = .returned (.tuple #[.int .u8 (not1 (atW a k) : Nat), .bool true]) ∧ Below W.heap.size W w') := by
    intro k hk W
    have := ATS (notW a) (notW_in ha) (notW_may hma) k hk W
    rw [at_not ha hma hk] at this
    exact this
  have TM : Hid (∀ k : Nat, k < 64 → ∀ W : World, Calls Try.prog 12 #[wv (andW a b), .int .i64 (k : Int)] W fun e w' => e = .returned (.tuple #[.int .u8 (and1 (atW a k) (atW b k) : Nat), .bool true]) ∧ Below W.heap.size W w') := by
    intro k hk W
    have := ATS (andW a b) (andW_in ha hb) (andW_may ha hb hma hmb) k hk W
    rw [at_and ha hb hma hmb hk] at this
    exact this
  have WNO : Hid (¬ ((0 ≤ i ∧ i < 64) ∧ v ≤ 2) → ∀ W : World, Calls Try.prog 14 #[wv a, .int .i64 i, .int .u8 (v : Int)] W fun e w' => e = .returned (.tuple #[.agg #[.int .u64 0, .int .u64 0], .int .i64 2]) ∧ Below W.heap.size W w') := by
    intro h W
    refine (twith_any a ha i v W).mono ?_
    rintro e w' ⟨h1, h2⟩
    rw [withR_no (fun h3 => h h3.2)] at h1
    exact ⟨h1, h2⟩
  have WYES : Hid (∀ k : Nat, k < 64 → v ≤ 2 → ∃ r1 r2 : Nat, (∀ W : World, Calls Try.prog 14 #[wv a, .int .i64 (k : Int), .int .u8 (v : Int)] W fun e w' => e = .returned (.tuple #[.agg #[.int .u64 (r1 : Int), .int .u64 (r2 : Int)], .int .i64 0]) ∧ Below W.heap.size W w')
      ∧ (∀ W : World, Calls Try.prog 12 #[.agg #[.int .u64 (r1 : Int), .int .u64 (r2 : Int)], .int .i64 (k : Int)] W fun e w' => e = .returned (.tuple #[.int .u8 (v : Nat), .bool true]) ∧ Below W.heap.size W w')
      ∧ (∀ W : World, Calls Try.prog 14 #[.agg #[.int .u64 (r1 : Int), .int .u64 (r2 : Int)], .int .i64 (k : Int), .int .u8 (atW a k : Nat)] W fun e w' => e = .returned (.tuple #[wv a, .int .i64 0]) ∧ Below W.heap.size W w')) := by
    intro k hk hv
    refine ⟨(putW a k v).1, (putW a k v).2, fun W => ?_, fun W => ?_, fun W => ?_⟩
    · refine (twith_any a ha k v W).mono ?_
      rintro e w' ⟨h1, h2⟩
      rw [withR_yes hma hk hv] at h1
      exact ⟨h1, h2⟩
    · have := ATS (putW a k v) (putW_in ha hk) (putW_may ha hma hk) k hk W
      rw [atW_put hk hv] at this
      exact this
    · refine (twith_any (putW a k v) (putW_in ha hk) k (atW a k) W).mono ?_
      rintro e w' ⟨h1, h2⟩
      rw [withR_yes (putW_may ha hma hk) hk (atW_le a k), put_back ha hma hk] at h1
      exact ⟨h1, h2⟩
  have LE : Hid (∀ k, atW a k ≤ 2) := atW_le a
  obtain ⟨na, hn1⟩ : ∃ x, x = notW a := ⟨_, rfl⟩
  obtain ⟨ab, hm1⟩ : ∃ x, x = andW a b := ⟨_, rfl⟩
  rw [← hn1] at NA TN
  rw [← hm1] at AB TM
  clear hn1 hm1 hma hmb ha hb ATS
  obtain ⟨a1, a2⟩ := a
  obtain ⟨b1, b2⟩ := b
  obtain ⟨n1, n2⟩ := na
  obtain ⟨m1, m2⟩ := ab
  unfold wv at MA MB NA AB TA TB TN TM WNO WYES
  show Calls Try.prog 4 #[.agg #[.int .u64 (a1 : Int), .int .u64 (a2 : Int)], .agg #[.int .u64 (b1 : Int), .int .u64 (b2 : Int)], .int .i64 i, .int .u8 (v : Int)] w _
  go_enter Try.func4, Try.ntmps4
  go_wp2_with fail
  generalize hW : World.alloc _ _ = W
  have B0 : Hid (Box2 w (a1, a2) (b1, b2) W) := by
    obtain ⟨h1, h2, h3⟩ := tmade2 hW
    exact ⟨h1, h2, h3⟩
  clear hW
  have fa0 : W.cell? ⟨w.heap.size, 0, none⟩ = some (.int .u64 (a1 : Int)) := cell_of_block B0.out.a 0
  have fa1 : W.cell? ⟨w.heap.size, 1, none⟩ = some (.int .u64 (a2 : Int)) := cell_of_block B0.out.a 1
  have fb0 : W.cell? ⟨w.heap.size + 1, 0, none⟩ = some (.int .u64 (b1 : Int)) := cell_of_block B0.out.b 0
  have fb1 : W.cell? ⟨w.heap.size + 1, 1, none⟩ = some (.int .u64 (b2 : Int)) := cell_of_block B0.out.b 1
  refine (MA.out _).mono ?_
  rintro e pw ⟨rfl, pb⟩
  have Bp := Lib.hid (B0.out.below pb)
  clear pb B0
  clear fa0 fa1 fb0 fb1
  have fa0 : pw.cell? ⟨w.heap.size, 0, none⟩ = some (.int .u64 (a1 : Int)) := cell_of_block Bp.out.a 0
  have fa1 : pw.cell? ⟨w.heap.size, 1, none⟩ = some (.int .u64 (a2 : Int)) := cell_of_block Bp.out.a 1
  have fb0 : pw.cell? ⟨w.heap.size + 1, 0, none⟩ = some (.int .u64 (b1 : Int)) := cell_of_block Bp.out.b 0
  have fb1 : pw.cell? ⟨w.heap.size + 1, 1, none⟩ = some (.int .u64 (b2 : Int)) := cell_of_block Bp.out.b 1
  go_wp2_with fail
  refine (MB.out _).mono ?_
  rintro e qw ⟨rfl, qb⟩
  have Bq := Lib.hid (Bp.out.below qb)
  clear qb Bp
  clear fa0 fa1 fb0 fb1
  have fa0 : qw.cell? ⟨w.heap.size, 0, none⟩ = some (.int .u64 (a1 : Int)) := cell_of_block Bq.out.a 0
  have fa1 : qw.cell? ⟨w.heap.size, 1, none⟩ = some (.int .u64 (a2 : Int)) := cell_of_block Bq.out.a 1
  have fb0 : qw.cell? ⟨w.heap.size + 1, 0, none⟩ = some (.int .u64 (b1 : Int)) := cell_of_block Bq.out.b 0
  have fb1 : qw.cell? ⟨w.heap.size + 1, 1, none⟩ = some (.int .u64 (b2 : Int)) := cell_of_block Bq.out.b 1
  go_wp2_with fail
  clear fa0 fa1 fb0 fb1
  have HW := Lib.hid Bq.out
  clear Bq MA MB
  go_loopw [8, 11, 12, 13, 14, 15, 16, 17, 18, 19] (fun _ j _ _ _ _ _ _ _ _ wr => ∃ k : Nat, k ≤ 64 ∧ j = .int .i64 k ∧ Hid (Box2 w (a1, a2) (b1, b2) wr)) (fun _ j _ _ _ _ _ _ _ _ _ => 64 - (intOf j).toNat)
  case atStart => exact ⟨0, by omega, rfl, HW.out⟩
  case round =>
    obtain ⟨k, hk, rfl, BW⟩ := hrel
    clear HW
    by_cases hlt : k < 64
    · have TA1 := Lib.hid (TA.out k hlt)
      have TB1 := Lib.hid (TB.out k hlt)
      have TN1 := Lib.hid (TN.out k hlt)
      have TM1 := Lib.hid (TM.out k hlt)
      have LE1 := LE.out k
      obtain ⟨p, hp⟩ : ∃ p, p = atW (a1, a2) k := ⟨_, rfl⟩
      obtain ⟨q, hq⟩ : ∃ q, q = atW (b1, b2) k := ⟨_, rfl⟩
      rw [← hp] at TA1 TN1 TM1 LE1
      rw [← hq] at TB1 TM1
      have N1 := Lib.hid (not1_any p)
      have A1 := Lib.hid (and1_any p q)
      obtain ⟨r, hr⟩ : ∃ r, r = not1 p := ⟨_, rfl⟩
      obtain ⟨s, hs⟩ : ∃ s, s = and1 p q := ⟨_, rfl⟩
      rw [← hr] at TN1 N1
      rw [← hs] at TM1 A1
      have e1 : decide ((2 : Int) < (p : Int)) = false := by simp; omega
      have W1 : IntKind.i64.wrap ((k : Int) + 1) = (k : Int) + 1 := IntWalk.i64_in _ (by omega)
      clear hp hq hr hs LE1 TA TB TN TM WNO WYES LV LE
      have fa0 : wr.cell? ⟨w.heap.size, 0, none⟩ = some (.int .u64 (a1 : Int)) := cell_of_block BW.out.a 0
      have fa1 : wr.cell? ⟨w.heap.size, 1, none⟩ = some (.int .u64 (a2 : Int)) := cell_of_block BW.out.a 1
      have fb0 : wr.cell? ⟨w.heap.size + 1, 0, none⟩ = some (.int .u64 (b1 : Int)) := cell_of_block BW.out.b 0
      have fb1 : wr.cell? ⟨w.heap.size + 1, 1, none⟩ = some (.int .u64 (b2 : Int)) := cell_of_block BW.out.b 1
      go_wp2_with fail
      refine (TA1.out _).mono ?_
      rintro e cw ⟨rfl, cb⟩
      have Bc := Lib.hid (BW.out.below cb)
      clear cb BW
      clear fa0 fa1 fb0 fb1
      have fa0 : cw.cell? ⟨w.heap.size, 0, none⟩ = some (.int .u64 (a1 : Int)) := cell_of_block Bc.out.a 0
      have fa1 : cw.cell? ⟨w.heap.size, 1, none⟩ = some (.int .u64 (a2 : Int)) := cell_of_block Bc.out.a 1
      have fb0 : cw.cell? ⟨w.heap.size + 1, 0, none⟩ = some (.int .u64 (b1 : Int)) := cell_of_block Bc.out.b 0
      have fb1 : cw.cell? ⟨w.heap.size + 1, 1, none⟩ = some (.int .u64 (b2 : Int)) := cell_of_block Bc.out.b 1
      go_wp2_with fail
      refine (TB1.out _).mono ?_
      rintro e dw ⟨rfl, db⟩
      have Bd := Lib.hid (Bc.out.below db)
      clear db Bc
      clear fa0 fa1 fb0 fb1
      have fa0 : dw.cell? ⟨w.heap.size, 0, none⟩ = some (.int .u64 (a1 : Int)) := cell_of_block Bd.out.a 0
      have fa1 : dw.cell? ⟨w.heap.size, 1, none⟩ = some (.int .u64 (a2 : Int)) := cell_of_block Bd.out.a 1
      have fb0 : dw.cell? ⟨w.heap.size + 1, 0, none⟩ = some (.int .u64 (b1 : Int)) := cell_of_block Bd.out.b 0
      have fb1 : dw.cell? ⟨w.heap.size + 1, 1, none⟩ = some (.int .u64 (b2 : Int)) := cell_of_block Bd.out.b 1
      go_wp2_with fail
      refine (NA.out _).mono ?_
      rintro e xw ⟨rfl, xb⟩
      have Bx := Lib.hid (Bd.out.below xb)
      clear xb Bd
      clear fa0 fa1 fb0 fb1
      have fa0 : xw.cell? ⟨w.heap.size, 0, none⟩ = some (.int .u64 (a1 : Int)) := cell_of_block Bx.out.a 0
      have fa1 : xw.cell? ⟨w.heap.size, 1, none⟩ = some (.int .u64 (a2 : Int)) := cell_of_block Bx.out.a 1
      have fb0 : xw.cell? ⟨w.heap.size + 1, 0, none⟩ = some (.int .u64 (b1 : Int)) := cell_of_block Bx.out.b 0
      have fb1 : xw.cell? ⟨w.heap.size + 1, 1, none⟩ = some (.int .u64 (b2 : Int)) := cell_of_block Bx.out.b 1
      go_wp2_with fail
      refine (TN1.out _).mono ?_
      rintro e yw ⟨rfl, yb⟩
      have By := Lib.hid (Bx.out.below yb)
      clear yb Bx
      clear fa0 fa1 fb0 fb1
      have fa0 : yw.cell? ⟨w.heap.size, 0, none⟩ = some (.int .u64 (a1 : Int)) := cell_of_block By.out.a 0
      have fa1 : yw.cell? ⟨w.heap.size, 1, none⟩ = some (.int .u64 (a2 : Int)) := cell_of_block By.out.a 1
      have fb0 : yw.cell? ⟨w.heap.size + 1, 0, none⟩ = some (.int .u64 (b1 : Int)) := cell_of_block By.out.b 0
      have fb1 : yw.cell? ⟨w.heap.size + 1, 1, none⟩ = some (.int .u64 (b2 : Int)) := cell_of_block By.out.b 1
      go_wp2_with fail
      refine (AB.out _).mono ?_
      rintro e zw ⟨rfl, zb⟩
      have Bz := Lib.hid (By.out.below zb)
      clear zb By
      clear fa0 fa1 fb0 fb1
      have fa0 : zw.cell? ⟨w.heap.size, 0, none⟩ = some (.int .u64 (a1 : Int)) := cell_of_block Bz.out.a 0
      have fa1 : zw.cell? ⟨w.heap.size, 1, none⟩ = some (.int .u64 (a2 : Int)) := cell_of_block Bz.out.a 1
      have fb0 : zw.cell? ⟨w.heap.size + 1, 0, none⟩ = some (.int .u64 (b1 : Int)) := cell_of_block Bz.out.b 0
      have fb1 : zw.cell? ⟨w.heap.size + 1, 1, none⟩ = some (.int .u64 (b2 : Int)) := cell_of_block Bz.out.b 1
      go_wp2_with fail
      refine (TM1.out _).mono ?_
      rintro e uw ⟨rfl, ub⟩
      have Bu := Lib.hid (Bz.out.below ub)
      clear ub Bz
      clear fa0 fa1 fb0 fb1
      have fa0 : uw.cell? ⟨w.heap.size, 0, none⟩ = some (.int .u64 (a1 : Int)) := cell_of_block Bu.out.a 0
      have fa1 : uw.cell? ⟨w.heap.size, 1, none⟩ = some (.int .u64 (a2 : Int)) := cell_of_block Bu.out.a 1
      have fb0 : uw.cell? ⟨w.heap.size + 1, 0, none⟩ = some (.int .u64 (b1 : Int)) := cell_of_block Bu.out.b 0
      have fb1 : uw.cell? ⟨w.heap.size + 1, 1, none⟩ = some (.int .u64 (b2 : Int)) := cell_of_block Bu.out.b 1
      go_wp2_with fail
      refine (N1.out _).mono ?_
      rintro e sN1w ⟨rfl, rfl⟩
      clear fa0 fa1 fb0 fb1
      have fa0 : sN1w.cell? ⟨w.heap.size, 0, none⟩ = some (.int .u64 (a1 : Int)) := cell_of_block Bu.out.a 0
      have fa1 : sN1w.cell? ⟨w.heap.size, 1, none⟩ = some (.int .u64 (a2 : Int)) := cell_of_block Bu.out.a 1
      have fb0 : sN1w.cell? ⟨w.heap.size + 1, 0, none⟩ = some (.int .u64 (b1 : Int)) := cell_of_block Bu.out.b 0
      have fb1 : sN1w.cell? ⟨w.heap.size + 1, 1, none⟩ = some (.int .u64 (b2 : Int)) := cell_of_block Bu.out.b 1
      go_wp2_with fail
      refine (A1.out _).mono ?_
      rintro e sA1w ⟨rfl, rfl⟩
      clear fa0 fa1 fb0 fb1
      have fa0 : sA1w.cell? ⟨w.heap.size, 0, none⟩ = some (.int .u64 (a1 : Int)) := cell_of_block Bu.out.a 0
      have fa1 : sA1w.cell? ⟨w.heap.size, 1, none⟩ = some (.int .u64 (a2 : Int)) := cell_of_block Bu.out.a 1
      have fb0 : sA1w.cell? ⟨w.heap.size + 1, 0, none⟩ = some (.int .u64 (b1 : Int)) := cell_of_block Bu.out.b 0
      have fb1 : sA1w.cell? ⟨w.heap.size + 1, 1, none⟩ = some (.int .u64 (b2 : Int)) := cell_of_block Bu.out.b 1
      go_wp2
      go_roundw
      case rel => exact ⟨k + 1, by omega, by go_num, Bu.out⟩
      case measure => simp [intOf]; omega
    · have hk6 : k = 64 := by omega
      subst hk6
      clear hk hlt TB TN TM NA AB
      by_cases hi : (0 ≤ i ∧ i < 64) ∧ v ≤ 2
      · obtain ⟨k, hk⟩ := Int.eq_ofNat_of_zero_le hi.1.1
        have hk6 : k < 64 := by omega
        have hv2 := hi.2
        subst hk
        obtain ⟨r1, r2, C1, C2, C3⟩ := WYES.out k hk6 hv2
        have TA1 := Lib.hid (TA.out k hk6)
        obtain ⟨p, hp⟩ : ∃ p, p = atW (a1, a2) k := ⟨_, rfl⟩
        rw [← hp] at TA1 C3
        have HC1 := Lib.hid C1
        have HC2 := Lib.hid C2
        have HC3 := Lib.hid C3
        have e1 : decide ((0 : Int) ≤ (k : Int)) = true := by simp
        have e2 : decide ((k : Int) < 64) = true := by simp; omega
        have e3 : decide ((v : Int) ≤ 2) = true := by simp; omega
        clear C1 C2 C3 hp WYES WNO TA hi hk6 hv2 LE
        have fa0 : wr.cell? ⟨w.heap.size, 0, none⟩ = some (.int .u64 (a1 : Int)) := cell_of_block BW.out.a 0
        have fa1 : wr.cell? ⟨w.heap.size, 1, none⟩ = some (.int .u64 (a2 : Int)) := cell_of_block BW.out.a 1
        have fb0 : wr.cell? ⟨w.heap.size + 1, 0, none⟩ = some (.int .u64 (b1 : Int)) := cell_of_block BW.out.b 0
        have fb1 : wr.cell? ⟨w.heap.size + 1, 1, none⟩ = some (.int .u64 (b2 : Int)) := cell_of_block BW.out.b 1
        go_wp2_with fail
        refine (HC1.out _).mono ?_
        rintro e cw ⟨rfl, cb⟩
        have Bc := Lib.hid (BW.out.below cb)
        clear cb BW
        clear fa0 fa1 fb0 fb1
        have fa0 : cw.cell? ⟨w.heap.size, 0, none⟩ = some (.int .u64 (a1 : Int)) := cell_of_block Bc.out.a 0
        have fa1 : cw.cell? ⟨w.heap.size, 1, none⟩ = some (.int .u64 (a2 : Int)) := cell_of_block Bc.out.a 1
        have fb0 : cw.cell? ⟨w.heap.size + 1, 0, none⟩ = some (.int .u64 (b1 : Int)) := cell_of_block Bc.out.b 0
        have fb1 : cw.cell? ⟨w.heap.size + 1, 1, none⟩ = some (.int .u64 (b2 : Int)) := cell_of_block Bc.out.b 1
        obtain ⟨G, hG⟩ : ∃ G, G = cw.heap.size := ⟨_, rfl⟩
        have HGN : Hid (∀ x y : Value, (cw.alloc (.cells #[x, y] 24)).heap[G]? = some (.cells #[x, y] 24 (0, 0))) := fun x y => by rw [hG]; exact theap_new _ _
        go_wp2_with fail
        rw [← hG]
        generalize hW : World.alloc _ _ = W1
        have G1 := Lib.hid (show W1.heap[G]? = some (.cells #[.int .u64 (r1 : Int), .int .u64 (r2 : Int)] 24 (0, 0)) by subst hW; exact HGN.out _ _)
        have BX := Lib.hid (show Box2 w (a1, a2) (b1, b2) W1 by subst hW; exact Bc.out.below (text_alloc _ _))
        clear hW hG HGN Bc
        clear fa0 fa1 fb0 fb1
        refine (HC2.out _).mono ?_
        rintro e d1 ⟨rfl, db⟩
        have BD := Lib.hid (BX.out.below db)
        have G2 := Lib.hid (theap_below G1.out db)
        clear db BX G1
        have fa0 : d1.cell? ⟨w.heap.size, 0, none⟩ = some (.int .u64 (a1 : Int)) := cell_of_block BD.out.a 0
        have fa1 : d1.cell? ⟨w.heap.size, 1, none⟩ = some (.int .u64 (a2 : Int)) := cell_of_block BD.out.a 1
        have fb0 : d1.cell? ⟨w.heap.size + 1, 0, none⟩ = some (.int .u64 (b1 : Int)) := cell_of_block BD.out.b 0
        have fb1 : d1.cell? ⟨w.heap.size + 1, 1, none⟩ = some (.int .u64 (b2 : Int)) := cell_of_block BD.out.b 1
        go_wp2_with fail
        refine (TA1.out _).mono ?_
        rintro e d2 ⟨rfl, db⟩
        have BE := Lib.hid (BD.out.below db)
        have G3 := Lib.hid (theap_below G2.out db)
        clear db BD G2
        clear fa0 fa1 fb0 fb1
        have fg0 : d2.cell? ⟨G, 0, none⟩ = some (.int .u64 (r1 : Int)) := cell_of_block G3.out 0
        have fg1 : d2.cell? ⟨G, 1, none⟩ = some (.int .u64 (r2 : Int)) := cell_of_block G3.out 1
        go_wp2_with fail
        refine (HC3.out _).mono ?_
        rintro e d3 ⟨rfl, db⟩
        have BF := Lib.hid (BE.out.below db)
        clear db BE G3 fg0 fg1
        have fa0 : d3.cell? ⟨w.heap.size, 0, none⟩ = some (.int .u64 (a1 : Int)) := cell_of_block BF.out.a 0
        have fa1 : d3.cell? ⟨w.heap.size, 1, none⟩ = some (.int .u64 (a2 : Int)) := cell_of_block BF.out.a 1
        have fb0 : d3.cell? ⟨w.heap.size + 1, 0, none⟩ = some (.int .u64 (b1 : Int)) := cell_of_block BF.out.b 0
        have fb1 : d3.cell? ⟨w.heap.size + 1, 1, none⟩ = some (.int .u64 (b2 : Int)) := cell_of_block BF.out.b 1
        obtain ⟨G4, hG⟩ : ∃ G, G = d3.heap.size := ⟨_, rfl⟩
        have HGN : Hid (∀ x y : Value, (d3.alloc (.cells #[x, y] 24)).heap[G4]? = some (.cells #[x, y] 24 (0, 0))) := fun x y => by rw [hG]; exact theap_new _ _
        go_upto_region 21 with fail
        rw [← hG]
        generalize hW : World.alloc _ _ = W2
        have G5 := Lib.hid (show W2.heap[G4]? = some (.cells #[.int .u64 (a1 : Int), .int .u64 (a2 : Int)] 24 (0, 0)) by subst hW; exact HGN.out _ _)
        have BY := Lib.hid (show Box2 w (a1, a2) (b1, b2) W2 by subst hW; exact BF.out.below (text_alloc _ _))
        clear hW hG HGN BF
        clear fa0 fa1 fb0 fb1
        have fa0 : W2.cell? ⟨w.heap.size, 0, none⟩ = some (.int .u64 (a1 : Int)) := cell_of_block BY.out.a 0
        have fa1 : W2.cell? ⟨w.heap.size, 1, none⟩ = some (.int .u64 (a2 : Int)) := cell_of_block BY.out.a 1
        have fb0 : W2.cell? ⟨w.heap.size + 1, 0, none⟩ = some (.int .u64 (b1 : Int)) := cell_of_block BY.out.b 0
        have fb1 : W2.cell? ⟨w.heap.size + 1, 1, none⟩ = some (.int .u64 (b2 : Int)) := cell_of_block BY.out.b 1
        have fg0 : W2.cell? ⟨G4, 0, none⟩ = some (.int .u64 (a1 : Int)) := cell_of_block G5.out 0
        have fg1 : W2.cell? ⟨G4, 1, none⟩ = some (.int .u64 (a2 : Int)) := cell_of_block G5.out 1
        go_wp2_with fail
        refine (LV.out _).mono ?_
        rintro e d4 ⟨rfl, db⟩
        have BZ := Lib.hid (BY.out.below db)
        clear db BY G5 fg0 fg1
        clear fa0 fa1 fb0 fb1
        go_wp2
        go_ret
        exact ⟨rfl, BZ.out.low⟩
      · have HC := Lib.hid (WNO.out hi)
        clear WNO WYES TA LE
        by_cases h1 : 0 ≤ i
        · have e1 : decide ((0 : Int) ≤ i) = true := decide_eq_true h1
          by_cases h2 : i < 64
          · have e2 : decide (i < (64 : Int)) = true := decide_eq_true h2
            have e3 : decide ((v : Int) ≤ 2) = false := decide_eq_false (fun h => hi ⟨⟨h1, h2⟩, by omega⟩)
            clear hi h1 h2
            have fa0 : wr.cell? ⟨w.heap.size, 0, none⟩ = some (.int .u64 (a1 : Int)) := cell_of_block BW.out.a 0
            have fa1 : wr.cell? ⟨w.heap.size, 1, none⟩ = some (.int .u64 (a2 : Int)) := cell_of_block BW.out.a 1
            have fb0 : wr.cell? ⟨w.heap.size + 1, 0, none⟩ = some (.int .u64 (b1 : Int)) := cell_of_block BW.out.b 0
            have fb1 : wr.cell? ⟨w.heap.size + 1, 1, none⟩ = some (.int .u64 (b2 : Int)) := cell_of_block BW.out.b 1
            go_wp2_with fail
            refine (HC.out _).mono ?_
            rintro e cw ⟨rfl, cb⟩
            have Bc := Lib.hid (BW.out.below cb)
            clear cb BW
            clear fa0 fa1 fb0 fb1
            go_wp2_with fail
            refine (LV.out _).mono ?_
            rintro e d4 ⟨rfl, db⟩
            have BZ := Lib.hid (text_trans Bc.out.low (text_behind db))
            clear db Bc
            go_wp2
            go_ret
            exact ⟨rfl, BZ.out⟩
          · have e2 : decide (i < (64 : Int)) = false := decide_eq_false h2
            clear hi h1 h2
            have fa0 : wr.cell? ⟨w.heap.size, 0, none⟩ = some (.int .u64 (a1 : Int)) := cell_of_block BW.out.a 0
            have fa1 : wr.cell? ⟨w.heap.size, 1, none⟩ = some (.int .u64 (a2 : Int)) := cell_of_block BW.out.a 1
            have fb0 : wr.cell? ⟨w.heap.size + 1, 0, none⟩ = some (.int .u64 (b1 : Int)) := cell_of_block BW.out.b 0
            have fb1 : wr.cell? ⟨w.heap.size + 1, 1, none⟩ = some (.int .u64 (b2 : Int)) := cell_of_block BW.out.b 1
            go_wp2_with fail
            refine (HC.out _).mono ?_
            rintro e cw ⟨rfl, cb⟩
            have Bc := Lib.hid (BW.out.below cb)
            clear cb BW
            clear fa0 fa1 fb0 fb1
            go_wp2_with fail
            refine (LV.out _).mono ?_
            rintro e d4 ⟨rfl, db⟩
            have BZ := Lib.hid (text_trans Bc.out.low (text_behind db))
            clear db Bc
            go_wp2
            go_ret
            exact ⟨rfl, BZ.out⟩
        · have e1 : decide ((0 : Int) ≤ i) = false := decide_eq_false h1
          clear hi h1
          have fa0 : wr.cell? ⟨w.heap.size, 0, none⟩ = some (.int .u64 (a1 : Int)) := cell_of_block BW.out.a 0
          have fa1 : wr.cell? ⟨w.heap.size, 1, none⟩ = some (.int .u64 (a2 : Int)) := cell_of_block BW.out.a 1
          have fb0 : wr.cell? ⟨w.heap.size + 1, 0, none⟩ = some (.int .u64 (b1 : Int)) := cell_of_block BW.out.b 0
          have fb1 : wr.cell? ⟨w.heap.size + 1, 1, none⟩ = some (.int .u64 (b2 : Int)) := cell_of_block BW.out.b 1
          go_wp2_with fail
          refine (HC.out _).mono ?_
          rintro e cw ⟨rfl, cb⟩
          have Bc := Lib.hid (BW.out.below cb)
          clear cb BW
          clear fa0 fa1 fb0 fb1
          go_wp2_with fail
          refine (LV.out _).mono ?_
          rintro e d4 ⟨rfl, db⟩
          have BZ := Lib.hid (text_trans Bc.out.low (text_behind db))
          clear db Bc
          go_wp2
          go_ret
          exact ⟨rfl, BZ.out⟩

theorem tplaces_any (a b : W2) (i : Int) (v : Nat) (ha : a.in) (hb : b.in) (w : World) :
    Calls Try.prog 4 #[wv a, wv b, .int .i64 i, .int .u8 (v : Int)] w fun e w' => e = .returned (.bool true) ∧ Below w.heap.size w w' := by
  by_cases h : mayW a = true ∧ mayW b = true
  · exact tplaces_yes a b i v ha hb h.1 h.2 w
  · exact tplaces_no a b i v ha hb h w
end Go.Proofs.Ytglhnmbfkbjemaa
