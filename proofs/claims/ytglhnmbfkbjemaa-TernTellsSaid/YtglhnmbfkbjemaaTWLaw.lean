/- TernWithin, walked. -/
import Derived.Test.YtglhnmbfkbjemaaTLives
import Derived.Deep.RegionHeld3
namespace Go.Proofs.Ytglhnmbfkbjemaa
open Go Go.RowKit Go.Joins

theorem tcell_below {w w' : World} {p : Addr} {v : Value} (h : w.cell? p = some v) (hb : Below w.heap.size w w') : w'.cell? p = some v := (hb.cell (World.block_lt_of_cell? w p h)).trans h
theorem tcell_drew {w : World} {p : Addr} {v : Value} (h : w.cell? p = some v) : w.drew.cell? p = some v := h
/-- Four blocks made. -/
theorem tmade4 {w W : World} {A B C D : Obj} (h : (((w.alloc A).alloc B).alloc C).alloc D = W) : W.heap[w.heap.size]? = some A ∧ W.heap[w.heap.size + 1]? = some B ∧ W.heap[w.heap.size + 2]? = some C ∧ W.heap[w.heap.size + 3]? = some D ∧ Below w.heap.size w W := by
  obtain ⟨h1, h2, h3, h4⟩ := tmade3 (w := w) (A := A) (B := B) (C := C) rfl
  subst h
  have hs : (((w.alloc A).alloc B).alloc C).heap.size = w.heap.size + 3 := by simp
  refine ⟨theap_below h1 (text_alloc _ _), theap_below h2 (text_alloc _ _), theap_below h3 (text_alloc _ _), ?_, text_trans h4 (text_alloc _ _)⟩
  have := theap_new (((w.alloc A).alloc B).alloc C) D
  rw [hs] at this
  exact this

theorem tshr (x k : Nat) (hx : x < 18446744073709551616) : bits .and .u64 ((x : Int) / 2 ^ k) 1 = ((x.testBit k).toNat : Int) := by
  have e : (x : Int) / 2 ^ k = ((x / 2 ^ k : Nat) : Int) := by
    rw [Int.natCast_ediv]
    norm_cast
  have hl : x / 2 ^ k < 18446744073709551616 := Nat.lt_of_le_of_lt (Nat.div_le_self _ _) hx
  have h := and64 hl (b := 1) (by omega)
  rw [e]
  refine Eq.trans h ?_
  rw [Nat.and_one_is_mod, Nat.testBit_eq_decide_div_mod_eq]
  obtain ⟨y, hy⟩ : ∃ y, y = x / 2 ^ k := ⟨_, rfl⟩
  rw [← hy]
  by_cases h1 : y % 2 = 1
  · rw [h1]; rfl
  · have h0 : y % 2 = 0 := by omega
    rw [h0]; rfl
/-- What stands in the boxes. -/
structure Box4 (w : World) (a b c d : W2) (W : World) : Prop where
  a : W.heap[w.heap.size]? = some (.cells #[.int .u64 (a.1 : Int), .int .u64 (a.2 : Int)] 24 (0, 0))
  b : W.heap[w.heap.size + 1]? = some (.cells #[.int .u64 (b.1 : Int), .int .u64 (b.2 : Int)] 24 (0, 0))
  c : W.heap[w.heap.size + 2]? = some (.cells #[.int .u64 (c.1 : Int), .int .u64 (c.2 : Int)] 24 (0, 0))
  d : W.heap[w.heap.size + 3]? = some (.cells #[.int .u64 (d.1 : Int), .int .u64 (d.2 : Int)] 24 (0, 0))
  low : Below w.heap.size w W
theorem Box4.below {w W W' : World} {a b c d : W2} (h : Box4 w a b c d W) (k : Below W.heap.size W W') : Box4 w a b c d W' :=
  ⟨theap_below h.a k, theap_below h.b k, theap_below h.c k, theap_below h.d k, text_trans h.low k⟩

set_option maxRecDepth 100000 in
set_option maxHeartbeats 3200000 in
/-- The law where all four words are. -/
theorem tlaw_yes (a b c d : W2) (ha : a.in) (hb : b.in) (hc : c.in) (hd : d.in) (hma : mayW a = true) (hmb : mayW b = true) (hmc : mayW c = true) (hmd : mayW d = true) (w : World) :
    Calls Try.prog 5 #[wv a, wv b, wv c, wv d] w fun e w' => e = .returned (.bool true) ∧ Below w.heap.size w w' := by
  have MA := Lib.hid (may_any a ha)
  have MB := Lib.hid (may_any b hb)
  have MC := Lib.hid (may_any c hc)
  have MD := Lib.hid (may_any d hd)
  rw [hma] at MA
  rw [hmb] at MB
  rw [hmc] at MC
  rw [hmd] at MD
  have XAB := Lib.hid (twithin_any a b ha hb)
  have XCD := Lib.hid (twithin_any c d hc hd)
  have XBA := Lib.hid (twithin_any b a hb ha)
  have XAA := Lib.hid (twithin_any a a ha ha)
  rw [within_self ha hma] at XAA
  have NA := Lib.hid (tnot_any a ha)
  have NB := Lib.hid (tnot_any b hb)
  have NNA := Lib.hid (tnot_any (notW a) (notW_in ha))
  rw [not_not hma] at NNA
  have XN := Lib.hid (twithin_any (notW a) (notW b) (notW_in ha) (notW_in hb))
  have AC := Lib.hid (tand_any a c ha hc)
  have BD := Lib.hid (tand_any b d hb hd)
  have XA := Lib.hid (twithin_any (andW a c) (andW b d) (andW_in ha hc) (andW_in hb hd))
  have LV := Lib.hid lives6_any
  have TA : Hid (∀ k : Nat, k < 64 → ∀ W : World, Calls Try.prog 12 #[wv a, .int .i64 (k : Int)] W fun e w' => e = .returned (.tuple #[.int .u8 (atW a k : Nat), .bool true]) ∧ Below W.heap.size W w') := by
    intro k hk W
    refine (at_any a ha k W).mono ?_
    rintro e w' ⟨h1, h2⟩
    rw [hma, atE_yes hk] at h1
    exact ⟨h1, h2⟩
  have TB : Hid (∀ k : Nat, k < 64 → ∀ W : World, Calls Try.prog 12 #[wv b, .int .i64 (k : Int)] W fun e w' => e = .returned (.tuple #[.int .u8 (atW b k : Nat), .bool true]) ∧ Below W.heap.size W w') := by
    intro k hk W
    refine (at_any b hb k W).mono ?_
    rintro e w' ⟨h1, h2⟩
    rw [hmb, atE_yes hk] at h1
    exact ⟨h1, h2⟩
  have L1 := withinW_lt a b
  have L2 := withinW_lt c d
  have L3 := withinW_lt b a
  have L4 := withinW_lt (notW a) (notW b)
  have L5 := withinW_lt (andW a c) (andW b d)
  have Q1 := andNot64 L1 L4
  rw [within_not ha hb hma hmb] at Q1
  have Q2 := and64 L1 L2
  have Q3 := andNot64 (a := withinW a b &&& withinW c d) (and_lt L1) L5
  rw [within_and ha hb hc hd hma hmb hmc hmd] at Q3
  have Q4 := and64 L1 L3
  have BK : Hid (∀ k : Nat, k < 64 → (withinW a b &&& withinW b a).testBit k = true → atW a k = atW b k) := fun k hk h => within_back ha hb hma hmb hk h
  have L6 : withinW a b &&& withinW b a < 18446744073709551616 := and_lt L1
  clear L2 L3 L4 L5
  obtain ⟨x1, hx1⟩ : ∃ x, x = withinW a b := ⟨_, rfl⟩
  obtain ⟨x2, hx2⟩ : ∃ x, x = withinW c d := ⟨_, rfl⟩
  obtain ⟨x3, hx3⟩ : ∃ x, x = withinW b a := ⟨_, rfl⟩
  obtain ⟨x4, hx4⟩ : ∃ x, x = withinW (notW a) (notW b) := ⟨_, rfl⟩
  obtain ⟨x5, hx5⟩ : ∃ x, x = withinW (andW a c) (andW b d) := ⟨_, rfl⟩
  rw [← hx1] at XAB Q1 Q2 Q3 Q4 BK L6
  rw [← hx2] at XCD Q2 Q3
  rw [← hx3] at XBA Q4 BK L6
  rw [← hx4] at XN Q1
  rw [← hx5] at XA Q3
  obtain ⟨x6, hx6⟩ : ∃ x, x = x1 &&& x2 := ⟨_, rfl⟩
  obtain ⟨x7, hx7⟩ : ∃ x, x = x1 &&& x3 := ⟨_, rfl⟩
  rw [← hx6] at Q2 Q3
  rw [← hx7] at Q4 BK L6
  clear hx1 hx2 hx3 hx4 hx5 hx6 hx7 L1
  obtain ⟨na, hn1⟩ : ∃ x, x = notW a := ⟨_, rfl⟩
  obtain ⟨nb, hn2⟩ : ∃ x, x = notW b := ⟨_, rfl⟩
  obtain ⟨ac, hm1⟩ : ∃ x, x = andW a c := ⟨_, rfl⟩
  obtain ⟨bd, hm2⟩ : ∃ x, x = andW b d := ⟨_, rfl⟩
  rw [← hn1] at NA NNA XN
  rw [← hn2] at NB XN
  rw [← hm1] at AC XA
  rw [← hm2] at BD XA
  clear hn1 hn2 hm1 hm2 hma hmb hmc hmd ha hb hc hd
  obtain ⟨a1, a2⟩ := a
  obtain ⟨b1, b2⟩ := b
  obtain ⟨c1, c2⟩ := c
  obtain ⟨d1, d2⟩ := d
  obtain ⟨n1, n2⟩ := na
  obtain ⟨k1, k2⟩ := nb
  obtain ⟨m1, m3⟩ := ac
  obtain ⟨p1, p2⟩ := bd
  unfold wv at MA MB MC MD XAB XCD XBA XAA NA NB NNA XN AC BD XA TA TB
  show Calls Try.prog 5 #[.agg #[.int .u64 (a1 : Int), .int .u64 (a2 : Int)], .agg #[.int .u64 (b1 : Int), .int .u64 (b2 : Int)], .agg #[.int .u64 (c1 : Int), .int .u64 (c2 : Int)], .agg #[.int .u64 (d1 : Int), .int .u64 (d2 : Int)]] w _
  go_enter Try.func5, Try.ntmps5
  go_wp2_with fail
  generalize hW : World.alloc _ _ = W
  have B0 : Hid (Box4 w (a1, a2) (b1, b2) (c1, c2) (d1, d2) W) := by
    obtain ⟨h1, h2, h3, h4, h5⟩ := tmade4 hW
    exact ⟨h1, h2, h3, h4, h5⟩
  clear hW
  have fa0 : W.cell? ⟨w.heap.size, 0, none⟩ = some (.int .u64 (a1 : Int)) := cell_of_block B0.out.a 0
  have fa1 : W.cell? ⟨w.heap.size, 1, none⟩ = some (.int .u64 (a2 : Int)) := cell_of_block B0.out.a 1
  have fb0 : W.cell? ⟨w.heap.size + 1, 0, none⟩ = some (.int .u64 (b1 : Int)) := cell_of_block B0.out.b 0
  have fb1 : W.cell? ⟨w.heap.size + 1, 1, none⟩ = some (.int .u64 (b2 : Int)) := cell_of_block B0.out.b 1
  have fc0 : W.cell? ⟨w.heap.size + 2, 0, none⟩ = some (.int .u64 (c1 : Int)) := cell_of_block B0.out.c 0
  have fc1 : W.cell? ⟨w.heap.size + 2, 1, none⟩ = some (.int .u64 (c2 : Int)) := cell_of_block B0.out.c 1
  have fd0 : W.cell? ⟨w.heap.size + 3, 0, none⟩ = some (.int .u64 (d1 : Int)) := cell_of_block B0.out.d 0
  have fd1 : W.cell? ⟨w.heap.size + 3, 1, none⟩ = some (.int .u64 (d2 : Int)) := cell_of_block B0.out.d 1
  refine (MA.out _).mono ?_
  rintro e w1 ⟨rfl, hb1⟩
  have B1 := Lib.hid (B0.out.below hb1)
  clear hb1 B0
  clear fa0 fa1 fb0 fb1 fc0 fc1 fd0 fd1
  have fa0 : w1.cell? ⟨w.heap.size, 0, none⟩ = some (.int .u64 (a1 : Int)) := cell_of_block B1.out.a 0
  have fa1 : w1.cell? ⟨w.heap.size, 1, none⟩ = some (.int .u64 (a2 : Int)) := cell_of_block B1.out.a 1
  have fb0 : w1.cell? ⟨w.heap.size + 1, 0, none⟩ = some (.int .u64 (b1 : Int)) := cell_of_block B1.out.b 0
  have fb1 : w1.cell? ⟨w.heap.size + 1, 1, none⟩ = some (.int .u64 (b2 : Int)) := cell_of_block B1.out.b 1
  have fc0 : w1.cell? ⟨w.heap.size + 2, 0, none⟩ = some (.int .u64 (c1 : Int)) := cell_of_block B1.out.c 0
  have fc1 : w1.cell? ⟨w.heap.size + 2, 1, none⟩ = some (.int .u64 (c2 : Int)) := cell_of_block B1.out.c 1
  have fd0 : w1.cell? ⟨w.heap.size + 3, 0, none⟩ = some (.int .u64 (d1 : Int)) := cell_of_block B1.out.d 0
  have fd1 : w1.cell? ⟨w.heap.size + 3, 1, none⟩ = some (.int .u64 (d2 : Int)) := cell_of_block B1.out.d 1
  go_wp2_with fail
  refine (MB.out _).mono ?_
  rintro e w2 ⟨rfl, hb2⟩
  have B2 := Lib.hid (B1.out.below hb2)
  clear hb2 B1
  clear fa0 fa1 fb0 fb1 fc0 fc1 fd0 fd1
  have fa0 : w2.cell? ⟨w.heap.size, 0, none⟩ = some (.int .u64 (a1 : Int)) := cell_of_block B2.out.a 0
  have fa1 : w2.cell? ⟨w.heap.size, 1, none⟩ = some (.int .u64 (a2 : Int)) := cell_of_block B2.out.a 1
  have fb0 : w2.cell? ⟨w.heap.size + 1, 0, none⟩ = some (.int .u64 (b1 : Int)) := cell_of_block B2.out.b 0
  have fb1 : w2.cell? ⟨w.heap.size + 1, 1, none⟩ = some (.int .u64 (b2 : Int)) := cell_of_block B2.out.b 1
  have fc0 : w2.cell? ⟨w.heap.size + 2, 0, none⟩ = some (.int .u64 (c1 : Int)) := cell_of_block B2.out.c 0
  have fc1 : w2.cell? ⟨w.heap.size + 2, 1, none⟩ = some (.int .u64 (c2 : Int)) := cell_of_block B2.out.c 1
  have fd0 : w2.cell? ⟨w.heap.size + 3, 0, none⟩ = some (.int .u64 (d1 : Int)) := cell_of_block B2.out.d 0
  have fd1 : w2.cell? ⟨w.heap.size + 3, 1, none⟩ = some (.int .u64 (d2 : Int)) := cell_of_block B2.out.d 1
  go_wp2_with fail
  refine (MC.out _).mono ?_
  rintro e w3 ⟨rfl, hb3⟩
  have B3 := Lib.hid (B2.out.below hb3)
  clear hb3 B2
  clear fa0 fa1 fb0 fb1 fc0 fc1 fd0 fd1
  have fa0 : w3.cell? ⟨w.heap.size, 0, none⟩ = some (.int .u64 (a1 : Int)) := cell_of_block B3.out.a 0
  have fa1 : w3.cell? ⟨w.heap.size, 1, none⟩ = some (.int .u64 (a2 : Int)) := cell_of_block B3.out.a 1
  have fb0 : w3.cell? ⟨w.heap.size + 1, 0, none⟩ = some (.int .u64 (b1 : Int)) := cell_of_block B3.out.b 0
  have fb1 : w3.cell? ⟨w.heap.size + 1, 1, none⟩ = some (.int .u64 (b2 : Int)) := cell_of_block B3.out.b 1
  have fc0 : w3.cell? ⟨w.heap.size + 2, 0, none⟩ = some (.int .u64 (c1 : Int)) := cell_of_block B3.out.c 0
  have fc1 : w3.cell? ⟨w.heap.size + 2, 1, none⟩ = some (.int .u64 (c2 : Int)) := cell_of_block B3.out.c 1
  have fd0 : w3.cell? ⟨w.heap.size + 3, 0, none⟩ = some (.int .u64 (d1 : Int)) := cell_of_block B3.out.d 0
  have fd1 : w3.cell? ⟨w.heap.size + 3, 1, none⟩ = some (.int .u64 (d2 : Int)) := cell_of_block B3.out.d 1
  go_wp2_with fail
  refine (MD.out _).mono ?_
  rintro e w4 ⟨rfl, hb4⟩
  have B4 := Lib.hid (B3.out.below hb4)
  clear hb4 B3
  clear fa0 fa1 fb0 fb1 fc0 fc1 fd0 fd1
  have fa0 : w4.cell? ⟨w.heap.size, 0, none⟩ = some (.int .u64 (a1 : Int)) := cell_of_block B4.out.a 0
  have fa1 : w4.cell? ⟨w.heap.size, 1, none⟩ = some (.int .u64 (a2 : Int)) := cell_of_block B4.out.a 1
  have fb0 : w4.cell? ⟨w.heap.size + 1, 0, none⟩ = some (.int .u64 (b1 : Int)) := cell_of_block B4.out.b 0
  have fb1 : w4.cell? ⟨w.heap.size + 1, 1, none⟩ = some (.int .u64 (b2 : Int)) := cell_of_block B4.out.b 1
  have fc0 : w4.cell? ⟨w.heap.size + 2, 0, none⟩ = some (.int .u64 (c1 : Int)) := cell_of_block B4.out.c 0
  have fc1 : w4.cell? ⟨w.heap.size + 2, 1, none⟩ = some (.int .u64 (c2 : Int)) := cell_of_block B4.out.c 1
  have fd0 : w4.cell? ⟨w.heap.size + 3, 0, none⟩ = some (.int .u64 (d1 : Int)) := cell_of_block B4.out.d 0
  have fd1 : w4.cell? ⟨w.heap.size + 3, 1, none⟩ = some (.int .u64 (d2 : Int)) := cell_of_block B4.out.d 1
  go_upto_region 3 with fail
  go_region_held3 (fun w' => w'.cell? ⟨w.heap.size, 0, none⟩ = some (.int .u64 (a1 : Int)) ∧ w'.cell? ⟨w.heap.size, 1, none⟩ = some (.int .u64 (a2 : Int)) ∧ w'.cell? ⟨w.heap.size + 1, 0, none⟩ = some (.int .u64 (b1 : Int)) ∧ w'.cell? ⟨w.heap.size + 1, 1, none⟩ = some (.int .u64 (b2 : Int)) ∧ w'.cell? ⟨w.heap.size + 2, 0, none⟩ = some (.int .u64 (c1 : Int)) ∧ w'.cell? ⟨w.heap.size + 2, 1, none⟩ = some (.int .u64 (c2 : Int)) ∧ w'.cell? ⟨w.heap.size + 3, 0, none⟩ = some (.int .u64 (d1 : Int)) ∧ w'.cell? ⟨w.heap.size + 3, 1, none⟩ = some (.int .u64 (d2 : Int)))
    (first | with_reducible exact ⟨fa0, fa1, fb0, fb1, fc0, fc1, fd0, fd1⟩ | with_reducible exact ⟨tcell_drew fa0, tcell_drew fa1, tcell_drew fb0, tcell_drew fb1, tcell_drew fc0, tcell_drew fc1, tcell_drew fd0, tcell_drew fd1⟩ | with_reducible exact ⟨s1_0, s1_1, s1_2, s1_3, s1_4, s1_5, s1_6, s1_7⟩ | with_reducible exact ⟨tcell_drew s1_0, tcell_drew s1_1, tcell_drew s1_2, tcell_drew s1_3, tcell_drew s1_4, tcell_drew s1_5, tcell_drew s1_6, tcell_drew s1_7⟩ | with_reducible exact ⟨s2_0, s2_1, s2_2, s2_3, s2_4, s2_5, s2_6, s2_7⟩ | with_reducible exact ⟨tcell_drew s2_0, tcell_drew s2_1, tcell_drew s2_2, tcell_drew s2_3, tcell_drew s2_4, tcell_drew s2_5, tcell_drew s2_6, tcell_drew s2_7⟩)
    (first
      | (go_at_call 20; (with_reducible refine (XAB.out _).mono ?_); rintro e sw1 ⟨rfl, sb1⟩; have sB1 : Below w4.heap.size w4 sw1 := (by first | exact text_trans (Below.refl w4.heap.size w4) sb1 | exact text_trans ((Below.refl w4.heap.size w4).drew) sb1); have s1_0 := tcell_below fa0 sB1; have s1_1 := tcell_below fa1 sB1; have s1_2 := tcell_below fb0 sB1; have s1_3 := tcell_below fb1 sB1; have s1_4 := tcell_below fc0 sB1; have s1_5 := tcell_below fc1 sB1; have s1_6 := tcell_below fd0 sB1; have s1_7 := tcell_below fd1 sB1)
      | (go_at_call 20; (with_reducible refine (XCD.out _).mono ?_); rintro e sw2 ⟨rfl, sb2⟩; have sB2 : Below w4.heap.size w4 sw2 := (by first | exact text_trans sB1 sb2 | exact text_trans (sB1.drew) sb2); have s2_0 := tcell_below fa0 sB2; have s2_1 := tcell_below fa1 sB2; have s2_2 := tcell_below fb0 sB2; have s2_3 := tcell_below fb1 sB2; have s2_4 := tcell_below fc0 sB2; have s2_5 := tcell_below fc1 sB2; have s2_6 := tcell_below fd0 sB2; have s2_7 := tcell_below fd1 sB2))
  have Bs := Lib.hid (B4.out.below sB2)
  clear s1_0 s1_1 s1_2 s1_3 s1_4 s1_5 s1_6 s1_7 s2_0 s2_1 s2_2 s2_3 s2_4 s2_5 s2_6 s2_7 sB1 sb1 sB2 sb2 B4
  clear fa0 fa1 fb0 fb1 fc0 fc1 fd0 fd1
  clear XAB XCD MA MB MC MD
  have fa0 : sw2.cell? ⟨w.heap.size, 0, none⟩ = some (.int .u64 (a1 : Int)) := cell_of_block Bs.out.a 0
  have fa1 : sw2.cell? ⟨w.heap.size, 1, none⟩ = some (.int .u64 (a2 : Int)) := cell_of_block Bs.out.a 1
  have fb0 : sw2.cell? ⟨w.heap.size + 1, 0, none⟩ = some (.int .u64 (b1 : Int)) := cell_of_block Bs.out.b 0
  have fb1 : sw2.cell? ⟨w.heap.size + 1, 1, none⟩ = some (.int .u64 (b2 : Int)) := cell_of_block Bs.out.b 1
  have fc0 : sw2.cell? ⟨w.heap.size + 2, 0, none⟩ = some (.int .u64 (c1 : Int)) := cell_of_block Bs.out.c 0
  have fc1 : sw2.cell? ⟨w.heap.size + 2, 1, none⟩ = some (.int .u64 (c2 : Int)) := cell_of_block Bs.out.c 1
  have fd0 : sw2.cell? ⟨w.heap.size + 3, 0, none⟩ = some (.int .u64 (d1 : Int)) := cell_of_block Bs.out.d 0
  have fd1 : sw2.cell? ⟨w.heap.size + 3, 1, none⟩ = some (.int .u64 (d2 : Int)) := cell_of_block Bs.out.d 1
  go_upto_region 4 with fail
  go_region_held3 (fun w' => w'.cell? ⟨w.heap.size, 0, none⟩ = some (.int .u64 (a1 : Int)) ∧ w'.cell? ⟨w.heap.size, 1, none⟩ = some (.int .u64 (a2 : Int)) ∧ w'.cell? ⟨w.heap.size + 1, 0, none⟩ = some (.int .u64 (b1 : Int)) ∧ w'.cell? ⟨w.heap.size + 1, 1, none⟩ = some (.int .u64 (b2 : Int)) ∧ w'.cell? ⟨w.heap.size + 2, 0, none⟩ = some (.int .u64 (c1 : Int)) ∧ w'.cell? ⟨w.heap.size + 2, 1, none⟩ = some (.int .u64 (c2 : Int)) ∧ w'.cell? ⟨w.heap.size + 3, 0, none⟩ = some (.int .u64 (d1 : Int)) ∧ w'.cell? ⟨w.heap.size + 3, 1, none⟩ = some (.int .u64 (d2 : Int)))
    (first | with_reducible exact ⟨fa0, fa1, fb0, fb1, fc0, fc1, fd0, fd1⟩ | with_reducible exact ⟨tcell_drew fa0, tcell_drew fa1, tcell_drew fb0, tcell_drew fb1, tcell_drew fc0, tcell_drew fc1, tcell_drew fd0, tcell_drew fd1⟩ | with_reducible exact ⟨r1_0, r1_1, r1_2, r1_3, r1_4, r1_5, r1_6, r1_7⟩ | with_reducible exact ⟨tcell_drew r1_0, tcell_drew r1_1, tcell_drew r1_2, tcell_drew r1_3, tcell_drew r1_4, tcell_drew r1_5, tcell_drew r1_6, tcell_drew r1_7⟩ | with_reducible exact ⟨r2_0, r2_1, r2_2, r2_3, r2_4, r2_5, r2_6, r2_7⟩ | with_reducible exact ⟨tcell_drew r2_0, tcell_drew r2_1, tcell_drew r2_2, tcell_drew r2_3, tcell_drew r2_4, tcell_drew r2_5, tcell_drew r2_6, tcell_drew r2_7⟩ | with_reducible exact ⟨r3_0, r3_1, r3_2, r3_3, r3_4, r3_5, r3_6, r3_7⟩ | with_reducible exact ⟨tcell_drew r3_0, tcell_drew r3_1, tcell_drew r3_2, tcell_drew r3_3, tcell_drew r3_4, tcell_drew r3_5, tcell_drew r3_6, tcell_drew r3_7⟩ | with_reducible exact ⟨r4_0, r4_1, r4_2, r4_3, r4_4, r4_5, r4_6, r4_7⟩ | with_reducible exact ⟨tcell_drew r4_0, tcell_drew r4_1, tcell_drew r4_2, tcell_drew r4_3, tcell_drew r4_4, tcell_drew r4_5, tcell_drew r4_6, tcell_drew r4_7⟩ | with_reducible exact ⟨r5_0, r5_1, r5_2, r5_3, r5_4, r5_5, r5_6, r5_7⟩ | with_reducible exact ⟨tcell_drew r5_0, tcell_drew r5_1, tcell_drew r5_2, tcell_drew r5_3, tcell_drew r5_4, tcell_drew r5_5, tcell_drew r5_6, tcell_drew r5_7⟩ | with_reducible exact ⟨r6_0, r6_1, r6_2, r6_3, r6_4, r6_5, r6_6, r6_7⟩ | with_reducible exact ⟨tcell_drew r6_0, tcell_drew r6_1, tcell_drew r6_2, tcell_drew r6_3, tcell_drew r6_4, tcell_drew r6_5, tcell_drew r6_6, tcell_drew r6_7⟩)
    (first
      | (go_at_call 16; (with_reducible refine (NA.out _).mono ?_); rintro e rw1 ⟨rfl, rb1⟩; have rB1 : Below sw2.heap.size sw2 rw1 := (by first | exact text_trans (Below.refl sw2.heap.size sw2) rb1 | exact text_trans ((Below.refl sw2.heap.size sw2).drew) rb1); have r1_0 := tcell_below fa0 rB1; have r1_1 := tcell_below fa1 rB1; have r1_2 := tcell_below fb0 rB1; have r1_3 := tcell_below fb1 rB1; have r1_4 := tcell_below fc0 rB1; have r1_5 := tcell_below fc1 rB1; have r1_6 := tcell_below fd0 rB1; have r1_7 := tcell_below fd1 rB1)
      | (go_at_call 16; (with_reducible refine (NB.out _).mono ?_); rintro e rw2 ⟨rfl, rb2⟩; have rB2 : Below sw2.heap.size sw2 rw2 := (by first | exact text_trans rB1 rb2 | exact text_trans (rB1.drew) rb2); have r2_0 := tcell_below fa0 rB2; have r2_1 := tcell_below fa1 rB2; have r2_2 := tcell_below fb0 rB2; have r2_3 := tcell_below fb1 rB2; have r2_4 := tcell_below fc0 rB2; have r2_5 := tcell_below fc1 rB2; have r2_6 := tcell_below fd0 rB2; have r2_7 := tcell_below fd1 rB2)
      | (go_at_call 20; (with_reducible refine (XN.out _).mono ?_); rintro e rw3 ⟨rfl, rb3⟩; have rB3 : Below sw2.heap.size sw2 rw3 := (by first | exact text_trans rB2 rb3 | exact text_trans (rB2.drew) rb3); have r3_0 := tcell_below fa0 rB3; have r3_1 := tcell_below fa1 rB3; have r3_2 := tcell_below fb0 rB3; have r3_3 := tcell_below fb1 rB3; have r3_4 := tcell_below fc0 rB3; have r3_5 := tcell_below fc1 rB3; have r3_6 := tcell_below fd0 rB3; have r3_7 := tcell_below fd1 rB3)
      | (go_at_call 18; (with_reducible refine (AC.out _).mono ?_); rintro e rw4 ⟨rfl, rb4⟩; have rB4 : Below sw2.heap.size sw2 rw4 := (by first | exact text_trans rB3 rb4 | exact text_trans (rB3.drew) rb4); have r4_0 := tcell_below fa0 rB4; have r4_1 := tcell_below fa1 rB4; have r4_2 := tcell_below fb0 rB4; have r4_3 := tcell_below fb1 rB4; have r4_4 := tcell_below fc0 rB4; have r4_5 := tcell_below fc1 rB4; have r4_6 := tcell_below fd0 rB4; have r4_7 := tcell_below fd1 rB4)
      | (go_at_call 18; (with_reducible refine (BD.out _).mono ?_); rintro e rw5 ⟨rfl, rb5⟩; have rB5 : Below sw2.heap.size sw2 rw5 := (by first | exact text_trans rB4 rb5 | exact text_trans (rB4.drew) rb5); have r5_0 := tcell_below fa0 rB5; have r5_1 := tcell_below fa1 rB5; have r5_2 := tcell_below fb0 rB5; have r5_3 := tcell_below fb1 rB5; have r5_4 := tcell_below fc0 rB5; have r5_5 := tcell_below fc1 rB5; have r5_6 := tcell_below fd0 rB5; have r5_7 := tcell_below fd1 rB5)
      | (go_at_call 20; (with_reducible refine (XA.out _).mono ?_); rintro e rw6 ⟨rfl, rb6⟩; have rB6 : Below sw2.heap.size sw2 rw6 := (by first | exact text_trans rB5 rb6 | exact text_trans (rB5.drew) rb6); have r6_0 := tcell_below fa0 rB6; have r6_1 := tcell_below fa1 rB6; have r6_2 := tcell_below fb0 rB6; have r6_3 := tcell_below fb1 rB6; have r6_4 := tcell_below fc0 rB6; have r6_5 := tcell_below fc1 rB6; have r6_6 := tcell_below fd0 rB6; have r6_7 := tcell_below fd1 rB6))
  have Br := Lib.hid (Bs.out.below rB6)
  clear r1_0 r1_1 r1_2 r1_3 r1_4 r1_5 r1_6 r1_7 r2_0 r2_1 r2_2 r2_3 r2_4 r2_5 r2_6 r2_7 r3_0 r3_1 r3_2 r3_3 r3_4 r3_5 r3_6 r3_7 r4_0 r4_1 r4_2 r4_3 r4_4 r4_5 r4_6 r4_7 r5_0 r5_1 r5_2 r5_3 r5_4 r5_5 r5_6 r5_7 r6_0 r6_1 r6_2 r6_3 r6_4 r6_5 r6_6 r6_7 rB1 rb1 rB2 rb2 rB3 rb3 rB4 rb4 rB5 rb5 rB6 rb6 Bs
  clear fa0 fa1 fb0 fb1 fc0 fc1 fd0 fd1
  clear NB XN AC BD XA Q1 Q2 Q3
  have fa0 : rw6.cell? ⟨w.heap.size, 0, none⟩ = some (.int .u64 (a1 : Int)) := cell_of_block Br.out.a 0
  have fa1 : rw6.cell? ⟨w.heap.size, 1, none⟩ = some (.int .u64 (a2 : Int)) := cell_of_block Br.out.a 1
  have fb0 : rw6.cell? ⟨w.heap.size + 1, 0, none⟩ = some (.int .u64 (b1 : Int)) := cell_of_block Br.out.b 0
  have fb1 : rw6.cell? ⟨w.heap.size + 1, 1, none⟩ = some (.int .u64 (b2 : Int)) := cell_of_block Br.out.b 1
  have fc0 : rw6.cell? ⟨w.heap.size + 2, 0, none⟩ = some (.int .u64 (c1 : Int)) := cell_of_block Br.out.c 0
  have fc1 : rw6.cell? ⟨w.heap.size + 2, 1, none⟩ = some (.int .u64 (c2 : Int)) := cell_of_block Br.out.c 1
  have fd0 : rw6.cell? ⟨w.heap.size + 3, 0, none⟩ = some (.int .u64 (d1 : Int)) := cell_of_block Br.out.d 0
  have fd1 : rw6.cell? ⟨w.heap.size + 3, 1, none⟩ = some (.int .u64 (d2 : Int)) := cell_of_block Br.out.d 1
  go_wp2_with fail
  refine (XBA.out _).mono ?_
  rintro e tw ⟨rfl, tb⟩
  have Bt := Lib.hid (Br.out.below tb)
  clear tb Br
  clear fa0 fa1 fb0 fb1 fc0 fc1 fd0 fd1
  have fa0 : tw.cell? ⟨w.heap.size, 0, none⟩ = some (.int .u64 (a1 : Int)) := cell_of_block Bt.out.a 0
  have fa1 : tw.cell? ⟨w.heap.size, 1, none⟩ = some (.int .u64 (a2 : Int)) := cell_of_block Bt.out.a 1
  have fb0 : tw.cell? ⟨w.heap.size + 1, 0, none⟩ = some (.int .u64 (b1 : Int)) := cell_of_block Bt.out.b 0
  have fb1 : tw.cell? ⟨w.heap.size + 1, 1, none⟩ = some (.int .u64 (b2 : Int)) := cell_of_block Bt.out.b 1
  have fc0 : tw.cell? ⟨w.heap.size + 2, 0, none⟩ = some (.int .u64 (c1 : Int)) := cell_of_block Bt.out.c 0
  have fc1 : tw.cell? ⟨w.heap.size + 2, 1, none⟩ = some (.int .u64 (c2 : Int)) := cell_of_block Bt.out.c 1
  have fd0 : tw.cell? ⟨w.heap.size + 3, 0, none⟩ = some (.int .u64 (d1 : Int)) := cell_of_block Bt.out.d 0
  have fd1 : tw.cell? ⟨w.heap.size + 3, 1, none⟩ = some (.int .u64 (d2 : Int)) := cell_of_block Bt.out.d 1
  go_wp2_with fail
  clear fa0 fa1 fb0 fb1 fc0 fc1 fd0 fd1
  have HW := Lib.hid Bt.out
  clear Bt
  go_loopw [12, 13, 14, 15, 16] (fun i _ _ _ _ wr => ∃ k : Nat, k ≤ 64 ∧ i = .int .i64 k ∧ Hid (Box4 w (a1, a2) (b1, b2) (c1, c2) (d1, d2) wr)) (fun i _ _ _ _ _ => 64 - (intOf i).toNat)
  case atStart => exact ⟨0, by omega, rfl, HW.out⟩
  case round =>
    obtain ⟨k, hk, rfl, BW⟩ := hrel
    clear HW
    by_cases hlt : k < 64
    · have TA1 := Lib.hid (TA.out k hlt)
      have TB1 := Lib.hid (TB.out k hlt)
      have BK1 := BK.out k hlt
      have SH := tshr x7 k L6
      obtain ⟨p, hp⟩ : ∃ p, p = atW (a1, a2) k := ⟨_, rfl⟩
      obtain ⟨q, hq⟩ : ∃ q, q = atW (b1, b2) k := ⟨_, rfl⟩
      obtain ⟨t, ht⟩ : ∃ t, t = x7.testBit k := ⟨_, rfl⟩
      rw [← hp] at TA1 BK1
      rw [← hq] at TB1 BK1
      rw [← ht] at SH BK1
      have BK2 := Lib.hid BK1
      have W1 : IntKind.i64.wrap ((k : Int) + 1) = (k : Int) + 1 := IntWalk.i64_in _ (by omega)
      have W2 : IntKind.u64.wrap (k : Int) = (k : Int) := by rw [IntKind.wrap_u64]; omega
      clear hp hq ht BK1 BK
      have fa0 : wr.cell? ⟨w.heap.size, 0, none⟩ = some (.int .u64 (a1 : Int)) := cell_of_block BW.out.a 0
      have fa1 : wr.cell? ⟨w.heap.size, 1, none⟩ = some (.int .u64 (a2 : Int)) := cell_of_block BW.out.a 1
      have fb0 : wr.cell? ⟨w.heap.size + 1, 0, none⟩ = some (.int .u64 (b1 : Int)) := cell_of_block BW.out.b 0
      have fb1 : wr.cell? ⟨w.heap.size + 1, 1, none⟩ = some (.int .u64 (b2 : Int)) := cell_of_block BW.out.b 1
      have fc0 : wr.cell? ⟨w.heap.size + 2, 0, none⟩ = some (.int .u64 (c1 : Int)) := cell_of_block BW.out.c 0
      have fc1 : wr.cell? ⟨w.heap.size + 2, 1, none⟩ = some (.int .u64 (c2 : Int)) := cell_of_block BW.out.c 1
      have fd0 : wr.cell? ⟨w.heap.size + 3, 0, none⟩ = some (.int .u64 (d1 : Int)) := cell_of_block BW.out.d 0
      have fd1 : wr.cell? ⟨w.heap.size + 3, 1, none⟩ = some (.int .u64 (d2 : Int)) := cell_of_block BW.out.d 1
      go_wp2_with fail
      refine (TA1.out _).mono ?_
      rintro e uw ⟨rfl, ub⟩
      have Bu := Lib.hid (BW.out.below ub)
      clear ub BW
      clear fa0 fa1 fb0 fb1 fc0 fc1 fd0 fd1
      have fa0 : uw.cell? ⟨w.heap.size, 0, none⟩ = some (.int .u64 (a1 : Int)) := cell_of_block Bu.out.a 0
      have fa1 : uw.cell? ⟨w.heap.size, 1, none⟩ = some (.int .u64 (a2 : Int)) := cell_of_block Bu.out.a 1
      have fb0 : uw.cell? ⟨w.heap.size + 1, 0, none⟩ = some (.int .u64 (b1 : Int)) := cell_of_block Bu.out.b 0
      have fb1 : uw.cell? ⟨w.heap.size + 1, 1, none⟩ = some (.int .u64 (b2 : Int)) := cell_of_block Bu.out.b 1
      have fc0 : uw.cell? ⟨w.heap.size + 2, 0, none⟩ = some (.int .u64 (c1 : Int)) := cell_of_block Bu.out.c 0
      have fc1 : uw.cell? ⟨w.heap.size + 2, 1, none⟩ = some (.int .u64 (c2 : Int)) := cell_of_block Bu.out.c 1
      have fd0 : uw.cell? ⟨w.heap.size + 3, 0, none⟩ = some (.int .u64 (d1 : Int)) := cell_of_block Bu.out.d 0
      have fd1 : uw.cell? ⟨w.heap.size + 3, 1, none⟩ = some (.int .u64 (d2 : Int)) := cell_of_block Bu.out.d 1
      go_wp2_with fail
      refine (TB1.out _).mono ?_
      rintro e vw ⟨rfl, vb⟩
      have Bv := Lib.hid (Bu.out.below vb)
      clear vb Bu
      clear fa0 fa1 fb0 fb1 fc0 fc1 fd0 fd1
      have fa0 : vw.cell? ⟨w.heap.size, 0, none⟩ = some (.int .u64 (a1 : Int)) := cell_of_block Bv.out.a 0
      have fa1 : vw.cell? ⟨w.heap.size, 1, none⟩ = some (.int .u64 (a2 : Int)) := cell_of_block Bv.out.a 1
      have fb0 : vw.cell? ⟨w.heap.size + 1, 0, none⟩ = some (.int .u64 (b1 : Int)) := cell_of_block Bv.out.b 0
      have fb1 : vw.cell? ⟨w.heap.size + 1, 1, none⟩ = some (.int .u64 (b2 : Int)) := cell_of_block Bv.out.b 1
      have fc0 : vw.cell? ⟨w.heap.size + 2, 0, none⟩ = some (.int .u64 (c1 : Int)) := cell_of_block Bv.out.c 0
      have fc1 : vw.cell? ⟨w.heap.size + 2, 1, none⟩ = some (.int .u64 (c2 : Int)) := cell_of_block Bv.out.c 1
      have fd0 : vw.cell? ⟨w.heap.size + 3, 0, none⟩ = some (.int .u64 (d1 : Int)) := cell_of_block Bv.out.d 0
      have fd1 : vw.cell? ⟨w.heap.size + 3, 1, none⟩ = some (.int .u64 (d2 : Int)) := cell_of_block Bv.out.d 1
      cases t with
      | true =>
        simp only [Bool.toNat_true] at SH
        obtain rfl : p = q := BK2.out rfl
        clear BK2
        go_wp2
        go_roundw
        case rel => exact ⟨k + 1, by omega, by go_num, Bv.out⟩
        case measure => simp [intOf]; omega
      | false =>
        simp only [Bool.toNat_false] at SH
        clear BK2
        go_wp2
        go_roundw
        case rel => exact ⟨k + 1, by omega, by go_num, Bv.out⟩
        case measure => simp [intOf]; omega
    · have hk6 : k = 64 := by omega
      subst hk6
      clear hk hlt TA TB BK Q4 L6
      go_wp2_with fail
      have fa0 : wr.cell? ⟨w.heap.size, 0, none⟩ = some (.int .u64 (a1 : Int)) := cell_of_block BW.out.a 0
      have fa1 : wr.cell? ⟨w.heap.size, 1, none⟩ = some (.int .u64 (a2 : Int)) := cell_of_block BW.out.a 1
      have fb0 : wr.cell? ⟨w.heap.size + 1, 0, none⟩ = some (.int .u64 (b1 : Int)) := cell_of_block BW.out.b 0
      have fb1 : wr.cell? ⟨w.heap.size + 1, 1, none⟩ = some (.int .u64 (b2 : Int)) := cell_of_block BW.out.b 1
      have fc0 : wr.cell? ⟨w.heap.size + 2, 0, none⟩ = some (.int .u64 (c1 : Int)) := cell_of_block BW.out.c 0
      have fc1 : wr.cell? ⟨w.heap.size + 2, 1, none⟩ = some (.int .u64 (c2 : Int)) := cell_of_block BW.out.c 1
      have fd0 : wr.cell? ⟨w.heap.size + 3, 0, none⟩ = some (.int .u64 (d1 : Int)) := cell_of_block BW.out.d 0
      have fd1 : wr.cell? ⟨w.heap.size + 3, 1, none⟩ = some (.int .u64 (d2 : Int)) := cell_of_block BW.out.d 1
      go_upto_region 14 with fail
      go_region_held3 (fun w' => w'.cell? ⟨w.heap.size, 0, none⟩ = some (.int .u64 (a1 : Int)) ∧ w'.cell? ⟨w.heap.size, 1, none⟩ = some (.int .u64 (a2 : Int)) ∧ w'.cell? ⟨w.heap.size + 1, 0, none⟩ = some (.int .u64 (b1 : Int)) ∧ w'.cell? ⟨w.heap.size + 1, 1, none⟩ = some (.int .u64 (b2 : Int)) ∧ w'.cell? ⟨w.heap.size + 2, 0, none⟩ = some (.int .u64 (c1 : Int)) ∧ w'.cell? ⟨w.heap.size + 2, 1, none⟩ = some (.int .u64 (c2 : Int)) ∧ w'.cell? ⟨w.heap.size + 3, 0, none⟩ = some (.int .u64 (d1 : Int)) ∧ w'.cell? ⟨w.heap.size + 3, 1, none⟩ = some (.int .u64 (d2 : Int)))
        (first | with_reducible exact ⟨fa0, fa1, fb0, fb1, fc0, fc1, fd0, fd1⟩ | with_reducible exact ⟨tcell_drew fa0, tcell_drew fa1, tcell_drew fb0, tcell_drew fb1, tcell_drew fc0, tcell_drew fc1, tcell_drew fd0, tcell_drew fd1⟩ | with_reducible exact ⟨y1_0, y1_1, y1_2, y1_3, y1_4, y1_5, y1_6, y1_7⟩ | with_reducible exact ⟨tcell_drew y1_0, tcell_drew y1_1, tcell_drew y1_2, tcell_drew y1_3, tcell_drew y1_4, tcell_drew y1_5, tcell_drew y1_6, tcell_drew y1_7⟩ | with_reducible exact ⟨y2_0, y2_1, y2_2, y2_3, y2_4, y2_5, y2_6, y2_7⟩ | with_reducible exact ⟨tcell_drew y2_0, tcell_drew y2_1, tcell_drew y2_2, tcell_drew y2_3, tcell_drew y2_4, tcell_drew y2_5, tcell_drew y2_6, tcell_drew y2_7⟩ | with_reducible exact ⟨y3_0, y3_1, y3_2, y3_3, y3_4, y3_5, y3_6, y3_7⟩ | with_reducible exact ⟨tcell_drew y3_0, tcell_drew y3_1, tcell_drew y3_2, tcell_drew y3_3, tcell_drew y3_4, tcell_drew y3_5, tcell_drew y3_6, tcell_drew y3_7⟩ | with_reducible exact ⟨y4_0, y4_1, y4_2, y4_3, y4_4, y4_5, y4_6, y4_7⟩ | with_reducible exact ⟨tcell_drew y4_0, tcell_drew y4_1, tcell_drew y4_2, tcell_drew y4_3, tcell_drew y4_4, tcell_drew y4_5, tcell_drew y4_6, tcell_drew y4_7⟩)
        (first
          | (go_at_call 20; (with_reducible refine (XAA.out _).mono ?_); rintro e yw1 ⟨rfl, yb1⟩; have yB1 : Below wr.heap.size wr yw1 := (by first | exact text_trans (Below.refl wr.heap.size wr) yb1 | exact text_trans ((Below.refl wr.heap.size wr).drew) yb1); have y1_0 := tcell_below fa0 yB1; have y1_1 := tcell_below fa1 yB1; have y1_2 := tcell_below fb0 yB1; have y1_3 := tcell_below fb1 yB1; have y1_4 := tcell_below fc0 yB1; have y1_5 := tcell_below fc1 yB1; have y1_6 := tcell_below fd0 yB1; have y1_7 := tcell_below fd1 yB1)
          | (go_at_call 16; (with_reducible refine (NA.out _).mono ?_); rintro e yw2 ⟨rfl, yb2⟩; have yB2 : Below wr.heap.size wr yw2 := (by first | exact text_trans yB1 yb2 | exact text_trans (yB1.drew) yb2); have y2_0 := tcell_below fa0 yB2; have y2_1 := tcell_below fa1 yB2; have y2_2 := tcell_below fb0 yB2; have y2_3 := tcell_below fb1 yB2; have y2_4 := tcell_below fc0 yB2; have y2_5 := tcell_below fc1 yB2; have y2_6 := tcell_below fd0 yB2; have y2_7 := tcell_below fd1 yB2)
          | (go_at_call 16; (with_reducible refine (NNA.out _).mono ?_); rintro e yw3 ⟨rfl, yb3⟩; have yB3 : Below wr.heap.size wr yw3 := (by first | exact text_trans yB2 yb3 | exact text_trans (yB2.drew) yb3); have y3_0 := tcell_below fa0 yB3; have y3_1 := tcell_below fa1 yB3; have y3_2 := tcell_below fb0 yB3; have y3_3 := tcell_below fb1 yB3; have y3_4 := tcell_below fc0 yB3; have y3_5 := tcell_below fc1 yB3; have y3_6 := tcell_below fd0 yB3; have y3_7 := tcell_below fd1 yB3)
          | (go_at_call 26; (with_reducible refine (LV.out _).mono ?_); rintro e yw4 ⟨rfl, yb4⟩; have yB4 : Below wr.heap.size wr yw4 := (by first | exact text_trans yB3 yb4 | exact text_trans (yB3.drew) yb4); have y4_0 := tcell_below fa0 yB4; have y4_1 := tcell_below fa1 yB4; have y4_2 := tcell_below fb0 yB4; have y4_3 := tcell_below fb1 yB4; have y4_4 := tcell_below fc0 yB4; have y4_5 := tcell_below fc1 yB4; have y4_6 := tcell_below fd0 yB4; have y4_7 := tcell_below fd1 yB4))
      have By := Lib.hid (BW.out.below yB4)
      clear y1_0 y1_1 y1_2 y1_3 y1_4 y1_5 y1_6 y1_7 y2_0 y2_1 y2_2 y2_3 y2_4 y2_5 y2_6 y2_7 y3_0 y3_1 y3_2 y3_3 y3_4 y3_5 y3_6 y3_7 y4_0 y4_1 y4_2 y4_3 y4_4 y4_5 y4_6 y4_7 yB1 yb1 yB2 yb2 yB3 yb3 yB4 yb4 BW
      clear fa0 fa1 fb0 fb1 fc0 fc1 fd0 fd1
      go_wp2
      go_ret
      exact ⟨rfl, By.out.low⟩

set_option maxRecDepth 100000 in
set_option maxHeartbeats 1600000 in
/-- The law where one of the words is none. -/
theorem tlaw_no (a b c d : W2) (ha : a.in) (hb : b.in) (hc : c.in) (hd : d.in) (hno : ¬ (mayW a = true ∧ mayW b = true ∧ mayW c = true ∧ mayW d = true)) (w : World) :
    Calls Try.prog 5 #[wv a, wv b, wv c, wv d] w fun e w' => e = .returned (.bool true) ∧ Below w.heap.size w w' := by
  have MA := Lib.hid (may_any a ha)
  have MB := Lib.hid (may_any b hb)
  have MC := Lib.hid (may_any c hc)
  have MD := Lib.hid (may_any d hd)
  have LV := Lib.hid lives6_any
  obtain ⟨ma, hma⟩ : ∃ x, x = mayW a := ⟨_, rfl⟩
  obtain ⟨mb, hmb⟩ : ∃ x, x = mayW b := ⟨_, rfl⟩
  obtain ⟨mc, hmc⟩ : ∃ x, x = mayW c := ⟨_, rfl⟩
  obtain ⟨md, hmd⟩ : ∃ x, x = mayW d := ⟨_, rfl⟩
  rw [← hma] at MA hno
  rw [← hmb] at MB hno
  rw [← hmc] at MC hno
  rw [← hmd] at MD hno
  clear hma hmb hmc hmd ha hb hc hd
  have HNO := Lib.hid hno
  clear hno
  obtain ⟨a1, a2⟩ := a
  obtain ⟨b1, b2⟩ := b
  obtain ⟨c1, c2⟩ := c
  obtain ⟨d1, d2⟩ := d
  unfold wv at MA MB MC MD
  show Calls Try.prog 5 #[.agg #[.int .u64 (a1 : Int), .int .u64 (a2 : Int)], .agg #[.int .u64 (b1 : Int), .int .u64 (b2 : Int)], .agg #[.int .u64 (c1 : Int), .int .u64 (c2 : Int)], .agg #[.int .u64 (d1 : Int), .int .u64 (d2 : Int)]] w _
  go_enter Try.func5, Try.ntmps5
  go_wp2_with fail
  generalize hW : World.alloc _ _ = W
  have B0 : Hid (Box4 w (a1, a2) (b1, b2) (c1, c2) (d1, d2) W) := by
    obtain ⟨h1, h2, h3, h4, h5⟩ := tmade4 hW
    exact ⟨h1, h2, h3, h4, h5⟩
  clear hW
  have fa0 : W.cell? ⟨w.heap.size, 0, none⟩ = some (.int .u64 (a1 : Int)) := cell_of_block B0.out.a 0
  have fa1 : W.cell? ⟨w.heap.size, 1, none⟩ = some (.int .u64 (a2 : Int)) := cell_of_block B0.out.a 1
  have fb0 : W.cell? ⟨w.heap.size + 1, 0, none⟩ = some (.int .u64 (b1 : Int)) := cell_of_block B0.out.b 0
  have fb1 : W.cell? ⟨w.heap.size + 1, 1, none⟩ = some (.int .u64 (b2 : Int)) := cell_of_block B0.out.b 1
  have fc0 : W.cell? ⟨w.heap.size + 2, 0, none⟩ = some (.int .u64 (c1 : Int)) := cell_of_block B0.out.c 0
  have fc1 : W.cell? ⟨w.heap.size + 2, 1, none⟩ = some (.int .u64 (c2 : Int)) := cell_of_block B0.out.c 1
  have fd0 : W.cell? ⟨w.heap.size + 3, 0, none⟩ = some (.int .u64 (d1 : Int)) := cell_of_block B0.out.d 0
  have fd1 : W.cell? ⟨w.heap.size + 3, 1, none⟩ = some (.int .u64 (d2 : Int)) := cell_of_block B0.out.d 1
  refine (MA.out _).mono ?_
  rintro e naw ⟨rfl, nab⟩
  have Bna := Lib.hid (B0.out.below nab)
  clear nab B0
  clear fa0 fa1 fb0 fb1 fc0 fc1 fd0 fd1
  cases ma with
  | false =>
    clear HNO
    go_wp2_with fail
    refine (LV.out _).mono ?_
    rintro e wl ⟨rfl, lb⟩
    have BL := Lib.hid (text_trans Bna.out.low lb)
    clear lb
    go_wp2
    go_ret
    exact ⟨rfl, BL.out⟩
  | true =>
    have fa0 : naw.cell? ⟨w.heap.size, 0, none⟩ = some (.int .u64 (a1 : Int)) := cell_of_block Bna.out.a 0
    have fa1 : naw.cell? ⟨w.heap.size, 1, none⟩ = some (.int .u64 (a2 : Int)) := cell_of_block Bna.out.a 1
    have fb0 : naw.cell? ⟨w.heap.size + 1, 0, none⟩ = some (.int .u64 (b1 : Int)) := cell_of_block Bna.out.b 0
    have fb1 : naw.cell? ⟨w.heap.size + 1, 1, none⟩ = some (.int .u64 (b2 : Int)) := cell_of_block Bna.out.b 1
    have fc0 : naw.cell? ⟨w.heap.size + 2, 0, none⟩ = some (.int .u64 (c1 : Int)) := cell_of_block Bna.out.c 0
    have fc1 : naw.cell? ⟨w.heap.size + 2, 1, none⟩ = some (.int .u64 (c2 : Int)) := cell_of_block Bna.out.c 1
    have fd0 : naw.cell? ⟨w.heap.size + 3, 0, none⟩ = some (.int .u64 (d1 : Int)) := cell_of_block Bna.out.d 0
    have fd1 : naw.cell? ⟨w.heap.size + 3, 1, none⟩ = some (.int .u64 (d2 : Int)) := cell_of_block Bna.out.d 1
    go_wp2_with fail
    refine (MB.out _).mono ?_
    rintro e nbw ⟨rfl, nbb⟩
    have Bnb := Lib.hid (Bna.out.below nbb)
    clear nbb Bna
    clear fa0 fa1 fb0 fb1 fc0 fc1 fd0 fd1
    cases mb with
    | false =>
      clear HNO
      go_wp2_with fail
      refine (LV.out _).mono ?_
      rintro e wl ⟨rfl, lb⟩
      have BL := Lib.hid (text_trans Bnb.out.low lb)
      clear lb
      go_wp2
      go_ret
      exact ⟨rfl, BL.out⟩
    | true =>
      have fa0 : nbw.cell? ⟨w.heap.size, 0, none⟩ = some (.int .u64 (a1 : Int)) := cell_of_block Bnb.out.a 0
      have fa1 : nbw.cell? ⟨w.heap.size, 1, none⟩ = some (.int .u64 (a2 : Int)) := cell_of_block Bnb.out.a 1
      have fb0 : nbw.cell? ⟨w.heap.size + 1, 0, none⟩ = some (.int .u64 (b1 : Int)) := cell_of_block Bnb.out.b 0
      have fb1 : nbw.cell? ⟨w.heap.size + 1, 1, none⟩ = some (.int .u64 (b2 : Int)) := cell_of_block Bnb.out.b 1
      have fc0 : nbw.cell? ⟨w.heap.size + 2, 0, none⟩ = some (.int .u64 (c1 : Int)) := cell_of_block Bnb.out.c 0
      have fc1 : nbw.cell? ⟨w.heap.size + 2, 1, none⟩ = some (.int .u64 (c2 : Int)) := cell_of_block Bnb.out.c 1
      have fd0 : nbw.cell? ⟨w.heap.size + 3, 0, none⟩ = some (.int .u64 (d1 : Int)) := cell_of_block Bnb.out.d 0
      have fd1 : nbw.cell? ⟨w.heap.size + 3, 1, none⟩ = some (.int .u64 (d2 : Int)) := cell_of_block Bnb.out.d 1
      go_wp2_with fail
      refine (MC.out _).mono ?_
      rintro e ncw ⟨rfl, ncb⟩
      have Bnc := Lib.hid (Bnb.out.below ncb)
      clear ncb Bnb
      clear fa0 fa1 fb0 fb1 fc0 fc1 fd0 fd1
      cases mc with
      | false =>
        clear HNO
        go_wp2_with fail
        refine (LV.out _).mono ?_
        rintro e wl ⟨rfl, lb⟩
        have BL := Lib.hid (text_trans Bnc.out.low lb)
        clear lb
        go_wp2
        go_ret
        exact ⟨rfl, BL.out⟩
      | true =>
        have fa0 : ncw.cell? ⟨w.heap.size, 0, none⟩ = some (.int .u64 (a1 : Int)) := cell_of_block Bnc.out.a 0
        have fa1 : ncw.cell? ⟨w.heap.size, 1, none⟩ = some (.int .u64 (a2 : Int)) := cell_of_block Bnc.out.a 1
        have fb0 : ncw.cell? ⟨w.heap.size + 1, 0, none⟩ = some (.int .u64 (b1 : Int)) := cell_of_block Bnc.out.b 0
        have fb1 : ncw.cell? ⟨w.heap.size + 1, 1, none⟩ = some (.int .u64 (b2 : Int)) := cell_of_block Bnc.out.b 1
        have fc0 : ncw.cell? ⟨w.heap.size + 2, 0, none⟩ = some (.int .u64 (c1 : Int)) := cell_of_block Bnc.out.c 0
        have fc1 : ncw.cell? ⟨w.heap.size + 2, 1, none⟩ = some (.int .u64 (c2 : Int)) := cell_of_block Bnc.out.c 1
        have fd0 : ncw.cell? ⟨w.heap.size + 3, 0, none⟩ = some (.int .u64 (d1 : Int)) := cell_of_block Bnc.out.d 0
        have fd1 : ncw.cell? ⟨w.heap.size + 3, 1, none⟩ = some (.int .u64 (d2 : Int)) := cell_of_block Bnc.out.d 1
        go_wp2_with fail
        refine (MD.out _).mono ?_
        rintro e ndw ⟨rfl, ndb⟩
        have Bnd := Lib.hid (Bnc.out.below ndb)
        clear ndb Bnc
        clear fa0 fa1 fb0 fb1 fc0 fc1 fd0 fd1
        cases md with
        | false =>
          clear HNO
          go_wp2_with fail
          refine (LV.out _).mono ?_
          rintro e wl ⟨rfl, lb⟩
          have BL := Lib.hid (text_trans Bnd.out.low lb)
          clear lb
          go_wp2
          go_ret
          exact ⟨rfl, BL.out⟩
        | true =>
          exact (HNO.out (by simp)).elim

theorem tlaw_any (a b c d : W2) (ha : a.in) (hb : b.in) (hc : c.in) (hd : d.in) (w : World) :
    Calls Try.prog 5 #[wv a, wv b, wv c, wv d] w fun e w' => e = .returned (.bool true) ∧ Below w.heap.size w w' := by
  by_cases h : mayW a = true ∧ mayW b = true ∧ mayW c = true ∧ mayW d = true
  · exact tlaw_yes a b c d ha hb hc hd h.1 h.2.1 h.2.2.1 h.2.2.2 w
  · exact tlaw_no a b c d ha hb hc hd h w
end Go.Proofs.Ytglhnmbfkbjemaa
