/- TernTells, walked. -/
import Derived.Test.YtglhnmbfkbjemaaTRefC
import Derived.Test.YtglhnmbfkbjemaaTRefE
import Derived.Test.YtglhnmbfkbjemaaTRefF
import Derived.Test.YtglhnmbfkbjemaaTRefG
import Derived.Test.YtglhnmbfkbjemaaTRefN
import Derived.Test.YtglhnmbfkbjemaaTPLaw
namespace Go.Proofs.Ytglhnmbfkbjemaa
open Go Go.RowKit Go.Joins

theorem w2E_parts (r : W2 × Int) : ∃ (r1 r2 : Nat) (er : Int), w2E r = .returned (.tuple #[.agg #[.int .u64 (r1 : Int), .int .u64 (r2 : Int)], .int .i64 er]) := ⟨r.1.1, r.1.2, r.2, rfl⟩
theorem atE_parts (m : Bool) (a : W2) (i : Int) : ∃ (p : Nat) (q : Bool), atE m a i = .returned (.tuple #[.int .u8 (p : Int), .bool q]) := by
  unfold atE
  split
  · exact ⟨_, _, rfl⟩
  · exact ⟨0, false, rfl⟩

set_option maxRecDepth 100000 in
set_option maxHeartbeats 12800000 in
theorem ttells_any (a b : W2) (l : List UInt8) (al : Option Addr) (nl cl : Nat) (i : Int) (v u : Nat) (hv : v < 256) (w : World) (ha : a.in) (hb : b.in) (hs : Sees w al nl cl (l.map bv)) :
    Calls Try.prog 3 #[wv a, wv b, .slice al nl cl, .int .i64 i, .int .u8 (v : Int), .int .u8 (u : Int)] w fun e w' => e = .returned (.bool true) ∧ Below w.heap.size w w' := by
  have O1 := Lib.hid (tof_any l al nl cl)
  have O2 := Lib.hid (rof_any l al nl cl)
  have L1 := Lib.hid (tall_any v)
  have L2 : Hid (∀ W, Calls Try.prog 9 #[.int .u8 (v : Int)] W fun e w' => e = w2E (allR v) ∧ Below W.heap.size W w') := by
    have h := rall_any (UInt8.ofNat v)
    have e : (UInt8.ofNat v).toNat = v := by rw [UInt8.toNat_ofNat']; omega
    unfold bv at h
    rw [e] at h
    exact h
  have M1 := Lib.hid (may_any a ha)
  have M2 := Lib.hid (rmay_any a ha)
  have T1 := Lib.hid (at_any a ha i)
  have T2 := Lib.hid (rAt_any a ha i)
  have H1 := Lib.hid (twith_any a ha i v)
  have H2 := Lib.hid (rWith_any a ha i v)
  have N1 := Lib.hid (tnot_any a ha)
  have N2 := Lib.hid (rnot_any a ha)
  have A1 := Lib.hid (tand_any a b ha hb)
  have A2 := Lib.hid (rand_any a b ha hb)
  have X1 := Lib.hid (twithin_any a b ha hb)
  have X2 := Lib.hid (rwithin_any a b ha hb)
  have P1 := Lib.hid (not1_any v)
  have P2 := Lib.hid (rnot1_any v)
  have D1 := Lib.hid (and1_any v u)
  have D2 := Lib.hid (rand1_any v u)
  have LV := Lib.hid lives6_any
  obtain ⟨o1, o2, eo, ho⟩ := w2E_parts (ofR l)
  rw [ho] at O1 O2
  obtain ⟨l1, l2, el, hl⟩ := w2E_parts (allR v)
  rw [hl] at L1 L2
  obtain ⟨h1, h2, eh, hh⟩ := w2E_parts (withR a i v)
  rw [hh] at H1 H2
  obtain ⟨p, q, hp⟩ := atE_parts (mayW a) a i
  rw [hp] at T1 T2
  clear ho hl hh hp ha hb
  obtain ⟨m, hm⟩ : ∃ m, m = mayW a := ⟨_, rfl⟩
  rw [← hm] at M1 M2
  obtain ⟨na, hn⟩ : ∃ m, m = notW a := ⟨_, rfl⟩
  rw [← hn] at N1 N2
  obtain ⟨ab, hab⟩ : ∃ m, m = andW a b := ⟨_, rfl⟩
  rw [← hab] at A1 A2
  obtain ⟨xx, hxx⟩ : ∃ m, m = withinW a b := ⟨_, rfl⟩
  rw [← hxx] at X1 X2
  obtain ⟨nv, hnv⟩ : ∃ m, m = not1 v := ⟨_, rfl⟩
  rw [← hnv] at P1 P2
  obtain ⟨av, hav⟩ : ∃ m, m = and1 v u := ⟨_, rfl⟩
  rw [← hav] at D1 D2
  clear hm hn hab hxx hnv hav
  obtain ⟨a1, a2⟩ := a
  obtain ⟨b1, b2⟩ := b
  obtain ⟨n1, n2⟩ := na
  obtain ⟨m1, m2⟩ := ab
  unfold wv at M1 M2 T1 T2 H1 H2 N1 N2 A1 A2 X1 X2
  have HS := Lib.hid hs
  clear hs
  show Calls Try.prog 3 #[.agg #[.int .u64 (a1 : Int), .int .u64 (a2 : Int)], .agg #[.int .u64 (b1 : Int), .int .u64 (b2 : Int)], .slice al nl cl, .int .i64 i, .int .u8 (v : Int), .int .u8 (u : Int)] w _
  go_enter Try.func3, Try.ntmps3
  go_wp2_with fail
  generalize hW : World.alloc _ _ = W
  have B0 : Hid (Box2 w (a1, a2) (b1, b2) W) := by
    obtain ⟨h1, h2, h3⟩ := tmade2 hW
    exact ⟨h1, h2, h3⟩
  clear hW
  refine (O1.out _ (HS.out.below B0.out.low)).mono ?_
  rintro e w1 ⟨rfl, hb1⟩
  have B1 := Lib.hid (B0.out.below hb1)
  clear hb1 B0 O1
  obtain ⟨g1, hg1⟩ : ∃ G, G = w1.heap.size := ⟨_, rfl⟩
  have Ng1 : Hid (∀ x y : Value, (w1.alloc (.cells #[x, y] 24)).heap[g1]? = some (.cells #[x, y] 24 (0, 0))) := fun x y => by rw [hg1]; exact theap_new _ _
  have Sg1 : Hid (w1.heap.size ≤ g1 ∧ g1 < (w1.alloc (.cells #[.int .u64 0, .int .u64 0] 24)).heap.size) := ⟨by rw [hg1]; exact Nat.le_refl _, by rw [hg1]; simp⟩
  go_wp2_with fail
  rw [← hg1]
  generalize hW : World.alloc _ _ = W2
  have B2 := Lib.hid (show Box2 w (a1, a2) (b1, b2) W2 by subst hW; exact B1.out.below (text_alloc _ _))
  have Kg1 := Lib.hid (show W2.heap[g1]? = some (.cells #[.int .u64 (o1 : Int), .int .u64 (o2 : Int)] 24 (0, 0)) by subst hW; exact Ng1.out _ _)
  have Lg1 := Lib.hid (show w.heap.size + 2 ≤ g1 by have h1 := Sg1.out.1; have h2 := B1.out.b; have h3 := (Array.getElem?_eq_some_iff.1 h2).1; omega)
  clear hW hg1 Ng1 Sg1 B1
  refine (O2.out _ (HS.out.below B2.out.low)).mono ?_
  rintro e w3 ⟨rfl, hb3⟩
  have B3 := Lib.hid (B2.out.below hb3)
  have Kg13 := Lib.hid (theap_below Kg1.out hb3)
  clear Kg1
  clear hb3 B2 O2
  obtain ⟨g2, hg2⟩ : ∃ G, G = w3.heap.size := ⟨_, rfl⟩
  have Ng2 : Hid (∀ x y : Value, (w3.alloc (.cells #[x, y] 24)).heap[g2]? = some (.cells #[x, y] 24 (0, 0))) := fun x y => by rw [hg2]; exact theap_new _ _
  have Sg2 : Hid (w3.heap.size ≤ g2 ∧ g2 < (w3.alloc (.cells #[.int .u64 0, .int .u64 0] 24)).heap.size) := ⟨by rw [hg2]; exact Nat.le_refl _, by rw [hg2]; simp⟩
  go_wp2_with fail
  rw [← hg2]
  generalize hW : World.alloc _ _ = W4
  have B4 := Lib.hid (show Box2 w (a1, a2) (b1, b2) W4 by subst hW; exact B3.out.below (text_alloc _ _))
  have Kg2 := Lib.hid (show W4.heap[g2]? = some (.cells #[.int .u64 (o1 : Int), .int .u64 (o2 : Int)] 24 (0, 0)) by subst hW; exact Ng2.out _ _)
  have Lg2 := Lib.hid (show w.heap.size + 2 ≤ g2 by have h1 := Sg2.out.1; have h2 := B3.out.b; have h3 := (Array.getElem?_eq_some_iff.1 h2).1; omega)
  have Kg13a := Lib.hid (show W4.heap[g1]? = _ by subst hW; exact theap_below Kg13.out (text_alloc _ _))
  have NEg2g1 := Lib.hid (show g2 ≠ g1 by have h1 := Sg2.out.1; have h2 := (Array.getElem?_eq_some_iff.1 Kg13.out).1; omega)
  clear Kg13
  clear hW hg2 Ng2 Sg2 B3
  refine (L1.out _).mono ?_
  rintro e w5 ⟨rfl, hb5⟩
  have B5 := Lib.hid (B4.out.below hb5)
  have Kg13a5 := Lib.hid (theap_below Kg13a.out hb5)
  clear Kg13a
  have Kg25 := Lib.hid (theap_below Kg2.out hb5)
  clear Kg2
  clear hb5 B4 L1
  obtain ⟨g3, hg3⟩ : ∃ G, G = w5.heap.size := ⟨_, rfl⟩
  have Ng3 : Hid (∀ x y : Value, (w5.alloc (.cells #[x, y] 24)).heap[g3]? = some (.cells #[x, y] 24 (0, 0))) := fun x y => by rw [hg3]; exact theap_new _ _
  have Sg3 : Hid (w5.heap.size ≤ g3 ∧ g3 < (w5.alloc (.cells #[.int .u64 0, .int .u64 0] 24)).heap.size) := ⟨by rw [hg3]; exact Nat.le_refl _, by rw [hg3]; simp⟩
  go_wp2_with fail
  rw [← hg3]
  generalize hW : World.alloc _ _ = W6
  have B6 := Lib.hid (show Box2 w (a1, a2) (b1, b2) W6 by subst hW; exact B5.out.below (text_alloc _ _))
  have Kg3 := Lib.hid (show W6.heap[g3]? = some (.cells #[.int .u64 (l1 : Int), .int .u64 (l2 : Int)] 24 (0, 0)) by subst hW; exact Ng3.out _ _)
  have Lg3 := Lib.hid (show w.heap.size + 2 ≤ g3 by have h1 := Sg3.out.1; have h2 := B5.out.b; have h3 := (Array.getElem?_eq_some_iff.1 h2).1; omega)
  have Kg13a5a := Lib.hid (show W6.heap[g1]? = _ by subst hW; exact theap_below Kg13a5.out (text_alloc _ _))
  have NEg3g1 := Lib.hid (show g3 ≠ g1 by have h1 := Sg3.out.1; have h2 := (Array.getElem?_eq_some_iff.1 Kg13a5.out).1; omega)
  clear Kg13a5
  have Kg25a := Lib.hid (show W6.heap[g2]? = _ by subst hW; exact theap_below Kg25.out (text_alloc _ _))
  have NEg3g2 := Lib.hid (show g3 ≠ g2 by have h1 := Sg3.out.1; have h2 := (Array.getElem?_eq_some_iff.1 Kg25.out).1; omega)
  clear Kg25
  clear hW hg3 Ng3 Sg3 B5
  refine (L2.out _).mono ?_
  rintro e w7 ⟨rfl, hb7⟩
  have B7 := Lib.hid (B6.out.below hb7)
  have Kg13a5a7 := Lib.hid (theap_below Kg13a5a.out hb7)
  clear Kg13a5a
  have Kg25a7 := Lib.hid (theap_below Kg25a.out hb7)
  clear Kg25a
  have Kg37 := Lib.hid (theap_below Kg3.out hb7)
  clear Kg3
  clear hb7 B6 L2
  obtain ⟨g4, hg4⟩ : ∃ G, G = w7.heap.size := ⟨_, rfl⟩
  have Ng4 : Hid (∀ x y : Value, (w7.alloc (.cells #[x, y] 24)).heap[g4]? = some (.cells #[x, y] 24 (0, 0))) := fun x y => by rw [hg4]; exact theap_new _ _
  have Sg4 : Hid (w7.heap.size ≤ g4 ∧ g4 < (w7.alloc (.cells #[.int .u64 0, .int .u64 0] 24)).heap.size) := ⟨by rw [hg4]; exact Nat.le_refl _, by rw [hg4]; simp⟩
  go_upto_region 5 with fail
  rw [← hg4]
  generalize hW : World.alloc _ _ = W8
  have B8 := Lib.hid (show Box2 w (a1, a2) (b1, b2) W8 by subst hW; exact B7.out.below (text_alloc _ _))
  have Kg4 := Lib.hid (show W8.heap[g4]? = some (.cells #[.int .u64 (l1 : Int), .int .u64 (l2 : Int)] 24 (0, 0)) by subst hW; exact Ng4.out _ _)
  have Lg4 := Lib.hid (show w.heap.size + 2 ≤ g4 by have h1 := Sg4.out.1; have h2 := B7.out.b; have h3 := (Array.getElem?_eq_some_iff.1 h2).1; omega)
  have Kg13a5a7a := Lib.hid (show W8.heap[g1]? = _ by subst hW; exact theap_below Kg13a5a7.out (text_alloc _ _))
  have NEg4g1 := Lib.hid (show g4 ≠ g1 by have h1 := Sg4.out.1; have h2 := (Array.getElem?_eq_some_iff.1 Kg13a5a7.out).1; omega)
  clear Kg13a5a7
  have Kg25a7a := Lib.hid (show W8.heap[g2]? = _ by subst hW; exact theap_below Kg25a7.out (text_alloc _ _))
  have NEg4g2 := Lib.hid (show g4 ≠ g2 by have h1 := Sg4.out.1; have h2 := (Array.getElem?_eq_some_iff.1 Kg25a7.out).1; omega)
  clear Kg25a7
  have Kg37a := Lib.hid (show W8.heap[g3]? = _ by subst hW; exact theap_below Kg37.out (text_alloc _ _))
  have NEg4g3 := Lib.hid (show g4 ≠ g3 by have h1 := Sg4.out.1; have h2 := (Array.getElem?_eq_some_iff.1 Kg37.out).1; omega)
  clear Kg37
  clear hW hg4 Ng4 Sg4 B7
  have fa0 : W8.cell? ⟨w.heap.size, 0, none⟩ = some (.int .u64 (a1 : Int)) := cell_of_block B8.out.a 0
  have fa1 : W8.cell? ⟨w.heap.size, 1, none⟩ = some (.int .u64 (a2 : Int)) := cell_of_block B8.out.a 1
  have fg10 : W8.cell? ⟨g1, 0, none⟩ = some (.int .u64 (o1 : Int)) := cell_of_block Kg13a5a7a.out 0
  have fg11 : W8.cell? ⟨g1, 1, none⟩ = some (.int .u64 (o2 : Int)) := cell_of_block Kg13a5a7a.out 1
  have fg20 : W8.cell? ⟨g2, 0, none⟩ = some (.int .u64 (o1 : Int)) := cell_of_block Kg25a7a.out 0
  have fg21 : W8.cell? ⟨g2, 1, none⟩ = some (.int .u64 (o2 : Int)) := cell_of_block Kg25a7a.out 1
  have fg30 : W8.cell? ⟨g3, 0, none⟩ = some (.int .u64 (l1 : Int)) := cell_of_block Kg37a.out 0
  have fg31 : W8.cell? ⟨g3, 1, none⟩ = some (.int .u64 (l2 : Int)) := cell_of_block Kg37a.out 1
  have fg40 : W8.cell? ⟨g4, 0, none⟩ = some (.int .u64 (l1 : Int)) := cell_of_block Kg4.out 0
  have fg41 : W8.cell? ⟨g4, 1, none⟩ = some (.int .u64 (l2 : Int)) := cell_of_block Kg4.out 1
  go_region_held3 (fun w' => w'.cell? ⟨w.heap.size, 0, none⟩ = some (.int .u64 (a1 : Int)) ∧ w'.cell? ⟨w.heap.size, 1, none⟩ = some (.int .u64 (a2 : Int)) ∧ w'.cell? ⟨g1, 0, none⟩ = some (.int .u64 (o1 : Int)) ∧ w'.cell? ⟨g1, 1, none⟩ = some (.int .u64 (o2 : Int)) ∧ w'.cell? ⟨g2, 0, none⟩ = some (.int .u64 (o1 : Int)) ∧ w'.cell? ⟨g2, 1, none⟩ = some (.int .u64 (o2 : Int)) ∧ w'.cell? ⟨g3, 0, none⟩ = some (.int .u64 (l1 : Int)) ∧ w'.cell? ⟨g3, 1, none⟩ = some (.int .u64 (l2 : Int)) ∧ w'.cell? ⟨g4, 0, none⟩ = some (.int .u64 (l1 : Int)) ∧ w'.cell? ⟨g4, 1, none⟩ = some (.int .u64 (l2 : Int)))
    (first | with_reducible exact ⟨fa0, fa1, fg10, fg11, fg20, fg21, fg30, fg31, fg40, fg41⟩ | with_reducible exact ⟨tcell_drew fa0, tcell_drew fa1, tcell_drew fg10, tcell_drew fg11, tcell_drew fg20, tcell_drew fg21, tcell_drew fg30, tcell_drew fg31, tcell_drew fg40, tcell_drew fg41⟩ | with_reducible exact ⟨s1_0, s1_1, s1_2, s1_3, s1_4, s1_5, s1_6, s1_7, s1_8, s1_9⟩ | with_reducible exact ⟨tcell_drew s1_0, tcell_drew s1_1, tcell_drew s1_2, tcell_drew s1_3, tcell_drew s1_4, tcell_drew s1_5, tcell_drew s1_6, tcell_drew s1_7, tcell_drew s1_8, tcell_drew s1_9⟩ | with_reducible exact ⟨s2_0, s2_1, s2_2, s2_3, s2_4, s2_5, s2_6, s2_7, s2_8, s2_9⟩ | with_reducible exact ⟨tcell_drew s2_0, tcell_drew s2_1, tcell_drew s2_2, tcell_drew s2_3, tcell_drew s2_4, tcell_drew s2_5, tcell_drew s2_6, tcell_drew s2_7, tcell_drew s2_8, tcell_drew s2_9⟩)
    (first
      | (go_at_call 10; (with_reducible refine (M1.out _).mono ?_); rintro e sw1 ⟨rfl, sb1⟩; have sB1 : Below W8.heap.size W8 sw1 := (by first | exact text_trans (Below.refl W8.heap.size W8) sb1 | exact text_trans ((Below.refl W8.heap.size W8).drew) sb1); have s1_0 := tcell_below fa0 sB1; have s1_1 := tcell_below fa1 sB1; have s1_2 := tcell_below fg10 sB1; have s1_3 := tcell_below fg11 sB1; have s1_4 := tcell_below fg20 sB1; have s1_5 := tcell_below fg21 sB1; have s1_6 := tcell_below fg30 sB1; have s1_7 := tcell_below fg31 sB1; have s1_8 := tcell_below fg40 sB1; have s1_9 := tcell_below fg41 sB1)
      | (go_at_call 11; (with_reducible refine (M2.out _).mono ?_); rintro e sw2 ⟨rfl, sb2⟩; have sB2 : Below W8.heap.size W8 sw2 := (by first | exact text_trans sB1 sb2 | exact text_trans (sB1.drew) sb2); have s2_0 := tcell_below fa0 sB2; have s2_1 := tcell_below fa1 sB2; have s2_2 := tcell_below fg10 sB2; have s2_3 := tcell_below fg11 sB2; have s2_4 := tcell_below fg20 sB2; have s2_5 := tcell_below fg21 sB2; have s2_6 := tcell_below fg30 sB2; have s2_7 := tcell_below fg31 sB2; have s2_8 := tcell_below fg40 sB2; have s2_9 := tcell_below fg41 sB2))
  have Bs := Lib.hid (B8.out.below sB2)
  have Kg13a5a7as := Lib.hid (theap_below Kg13a5a7a.out sB2)
  clear Kg13a5a7a
  have Kg25a7as := Lib.hid (theap_below Kg25a7a.out sB2)
  clear Kg25a7a
  have Kg37as := Lib.hid (theap_below Kg37a.out sB2)
  clear Kg37a
  have Kg4s := Lib.hid (theap_below Kg4.out sB2)
  clear Kg4
  clear s1_0 s1_1 s1_2 s1_3 s1_4 s1_5 s1_6 s1_7 s1_8 s1_9 s2_0 s2_1 s2_2 s2_3 s2_4 s2_5 s2_6 s2_7 s2_8 s2_9 sB1 sb1 sB2 sb2 B8 M1 M2
  clear fa0 fa1 fg10 fg11 fg20 fg21 fg30 fg31 fg40 fg41
  have fa0 : sw2.cell? ⟨w.heap.size, 0, none⟩ = some (.int .u64 (a1 : Int)) := cell_of_block Bs.out.a 0
  have fa1 : sw2.cell? ⟨w.heap.size, 1, none⟩ = some (.int .u64 (a2 : Int)) := cell_of_block Bs.out.a 1
  go_wp2_with fail
  refine (T1.out _).mono ?_
  rintro e w9 ⟨rfl, hb9⟩
  have B9 := Lib.hid (Bs.out.below hb9)
  have Kg13a5a7as9 := Lib.hid (theap_below Kg13a5a7as.out hb9)
  clear Kg13a5a7as
  have Kg25a7as9 := Lib.hid (theap_below Kg25a7as.out hb9)
  clear Kg25a7as
  have Kg37as9 := Lib.hid (theap_below Kg37as.out hb9)
  clear Kg37as
  have Kg4s9 := Lib.hid (theap_below Kg4s.out hb9)
  clear Kg4s
  clear hb9 Bs T1
  clear fa0 fa1
  have fa0 : w9.cell? ⟨w.heap.size, 0, none⟩ = some (.int .u64 (a1 : Int)) := cell_of_block B9.out.a 0
  have fa1 : w9.cell? ⟨w.heap.size, 1, none⟩ = some (.int .u64 (a2 : Int)) := cell_of_block B9.out.a 1
  go_wp2_with fail
  refine (T2.out _).mono ?_
  rintro e w10 ⟨rfl, hb10⟩
  have B10 := Lib.hid (B9.out.below hb10)
  have Kg13a5a7as910 := Lib.hid (theap_below Kg13a5a7as9.out hb10)
  clear Kg13a5a7as9
  have Kg25a7as910 := Lib.hid (theap_below Kg25a7as9.out hb10)
  clear Kg25a7as9
  have Kg37as910 := Lib.hid (theap_below Kg37as9.out hb10)
  clear Kg37as9
  have Kg4s910 := Lib.hid (theap_below Kg4s9.out hb10)
  clear Kg4s9
  clear hb10 B9 T2
  clear fa0 fa1
  have fa0 : w10.cell? ⟨w.heap.size, 0, none⟩ = some (.int .u64 (a1 : Int)) := cell_of_block B10.out.a 0
  have fa1 : w10.cell? ⟨w.heap.size, 1, none⟩ = some (.int .u64 (a2 : Int)) := cell_of_block B10.out.a 1
  go_wp2_with fail
  refine (H1.out _).mono ?_
  rintro e w11 ⟨rfl, hb11⟩
  have B11 := Lib.hid (B10.out.below hb11)
  have Kg13a5a7as91011 := Lib.hid (theap_below Kg13a5a7as910.out hb11)
  clear Kg13a5a7as910
  have Kg25a7as91011 := Lib.hid (theap_below Kg25a7as910.out hb11)
  clear Kg25a7as910
  have Kg37as91011 := Lib.hid (theap_below Kg37as910.out hb11)
  clear Kg37as910
  have Kg4s91011 := Lib.hid (theap_below Kg4s910.out hb11)
  clear Kg4s910
  clear hb11 B10 H1
  clear fa0 fa1
  have fa0 : w11.cell? ⟨w.heap.size, 0, none⟩ = some (.int .u64 (a1 : Int)) := cell_of_block B11.out.a 0
  have fa1 : w11.cell? ⟨w.heap.size, 1, none⟩ = some (.int .u64 (a2 : Int)) := cell_of_block B11.out.a 1
  have fg10 : w11.cell? ⟨g1, 0, none⟩ = some (.int .u64 (o1 : Int)) := cell_of_block Kg13a5a7as91011.out 0
  have fg11 : w11.cell? ⟨g1, 1, none⟩ = some (.int .u64 (o2 : Int)) := cell_of_block Kg13a5a7as91011.out 1
  have y0 := unfrozen_of_block Kg13a5a7as91011.out 0
  have y1 := unfrozen_of_block Kg13a5a7as91011.out 1
  go_upto_region 10 with fail
  generalize hW : World.setCell (World.setCell _ _ _) _ _ = W12
  have B12 := Lib.hid (show Box2 w (a1, a2) (b1, b2) W12 by subst hW; exact ⟨tset_other B11.out.a (by have := Lg1.out; omega) _ _, tset_other B11.out.b (by have := Lg1.out; omega) _ _, tset B11.out.low (by have := Lg1.out; omega) _ _⟩)
  have Kg13a5a7as91011s := Lib.hid (show W12.heap[g1]? = some (.cells #[.int .u64 (h1 : Int), .int .u64 (h2 : Int)] 24 (0, 0)) by subst hW; exact tcell2 Kg13a5a7as91011.out rfl _ _)
  have Kg25a7as91011s := Lib.hid (show W12.heap[g2]? = _ by subst hW; exact tset_other Kg25a7as91011.out (fun e => NEg2g1.out e.symm) _ _)
  have Kg37as91011s := Lib.hid (show W12.heap[g3]? = _ by subst hW; exact tset_other Kg37as91011.out (fun e => NEg3g1.out e.symm) _ _)
  have Kg4s91011s := Lib.hid (show W12.heap[g4]? = _ by subst hW; exact tset_other Kg4s91011.out (fun e => NEg4g1.out e.symm) _ _)
  clear hW B11 y0 y1 Kg13a5a7as91011 Kg25a7as91011 Kg37as91011 Kg4s91011 fg10 fg11
  clear fa0 fa1
  have fa0 : W12.cell? ⟨w.heap.size, 0, none⟩ = some (.int .u64 (a1 : Int)) := cell_of_block B12.out.a 0
  have fa1 : W12.cell? ⟨w.heap.size, 1, none⟩ = some (.int .u64 (a2 : Int)) := cell_of_block B12.out.a 1
  go_wp2_with fail
  refine (H2.out _).mono ?_
  rintro e w13 ⟨rfl, hb13⟩
  have B13 := Lib.hid (B12.out.below hb13)
  have Kg13a5a7as91011s13 := Lib.hid (theap_below Kg13a5a7as91011s.out hb13)
  clear Kg13a5a7as91011s
  have Kg25a7as91011s13 := Lib.hid (theap_below Kg25a7as91011s.out hb13)
  clear Kg25a7as91011s
  have Kg37as91011s13 := Lib.hid (theap_below Kg37as91011s.out hb13)
  clear Kg37as91011s
  have Kg4s91011s13 := Lib.hid (theap_below Kg4s91011s.out hb13)
  clear Kg4s91011s
  clear hb13 B12 H2
  clear fa0 fa1
  have fg20 : w13.cell? ⟨g2, 0, none⟩ = some (.int .u64 (o1 : Int)) := cell_of_block Kg25a7as91011s13.out 0
  have fg21 : w13.cell? ⟨g2, 1, none⟩ = some (.int .u64 (o2 : Int)) := cell_of_block Kg25a7as91011s13.out 1
  have y0 := unfrozen_of_block Kg25a7as91011s13.out 0
  have y1 := unfrozen_of_block Kg25a7as91011s13.out 1
  go_upto_region 11 with fail
  generalize hW : World.setCell (World.setCell _ _ _) _ _ = W14
  have B14 := Lib.hid (show Box2 w (a1, a2) (b1, b2) W14 by subst hW; exact ⟨tset_other B13.out.a (by have := Lg2.out; omega) _ _, tset_other B13.out.b (by have := Lg2.out; omega) _ _, tset B13.out.low (by have := Lg2.out; omega) _ _⟩)
  have Kg13a5a7as91011s13s := Lib.hid (show W14.heap[g1]? = _ by subst hW; exact tset_other Kg13a5a7as91011s13.out NEg2g1.out _ _)
  have Kg25a7as91011s13s := Lib.hid (show W14.heap[g2]? = some (.cells #[.int .u64 (h1 : Int), .int .u64 (h2 : Int)] 24 (0, 0)) by subst hW; exact tcell2 Kg25a7as91011s13.out rfl _ _)
  have Kg37as91011s13s := Lib.hid (show W14.heap[g3]? = _ by subst hW; exact tset_other Kg37as91011s13.out (fun e => NEg3g2.out e.symm) _ _)
  have Kg4s91011s13s := Lib.hid (show W14.heap[g4]? = _ by subst hW; exact tset_other Kg4s91011s13.out (fun e => NEg4g2.out e.symm) _ _)
  clear hW B13 y0 y1 Kg13a5a7as91011s13 Kg25a7as91011s13 Kg37as91011s13 Kg4s91011s13 fg20 fg21
  have fa0 : W14.cell? ⟨w.heap.size, 0, none⟩ = some (.int .u64 (a1 : Int)) := cell_of_block B14.out.a 0
  have fa1 : W14.cell? ⟨w.heap.size, 1, none⟩ = some (.int .u64 (a2 : Int)) := cell_of_block B14.out.a 1
  have fb0 : W14.cell? ⟨w.heap.size + 1, 0, none⟩ = some (.int .u64 (b1 : Int)) := cell_of_block B14.out.b 0
  have fb1 : W14.cell? ⟨w.heap.size + 1, 1, none⟩ = some (.int .u64 (b2 : Int)) := cell_of_block B14.out.b 1
  have fg10 : W14.cell? ⟨g1, 0, none⟩ = some (.int .u64 (h1 : Int)) := cell_of_block Kg13a5a7as91011s13s.out 0
  have fg11 : W14.cell? ⟨g1, 1, none⟩ = some (.int .u64 (h2 : Int)) := cell_of_block Kg13a5a7as91011s13s.out 1
  have fg20 : W14.cell? ⟨g2, 0, none⟩ = some (.int .u64 (h1 : Int)) := cell_of_block Kg25a7as91011s13s.out 0
  have fg21 : W14.cell? ⟨g2, 1, none⟩ = some (.int .u64 (h2 : Int)) := cell_of_block Kg25a7as91011s13s.out 1
  go_region_held3 (fun w' => w'.cell? ⟨w.heap.size, 0, none⟩ = some (.int .u64 (a1 : Int)) ∧ w'.cell? ⟨w.heap.size, 1, none⟩ = some (.int .u64 (a2 : Int)) ∧ w'.cell? ⟨w.heap.size + 1, 0, none⟩ = some (.int .u64 (b1 : Int)) ∧ w'.cell? ⟨w.heap.size + 1, 1, none⟩ = some (.int .u64 (b2 : Int)) ∧ w'.cell? ⟨g1, 0, none⟩ = some (.int .u64 (h1 : Int)) ∧ w'.cell? ⟨g1, 1, none⟩ = some (.int .u64 (h2 : Int)) ∧ w'.cell? ⟨g2, 0, none⟩ = some (.int .u64 (h1 : Int)) ∧ w'.cell? ⟨g2, 1, none⟩ = some (.int .u64 (h2 : Int)))
    (first | with_reducible exact ⟨fa0, fa1, fb0, fb1, fg10, fg11, fg20, fg21⟩ | with_reducible exact ⟨tcell_drew fa0, tcell_drew fa1, tcell_drew fb0, tcell_drew fb1, tcell_drew fg10, tcell_drew fg11, tcell_drew fg20, tcell_drew fg21⟩ | with_reducible exact ⟨r1_0, r1_1, r1_2, r1_3, r1_4, r1_5, r1_6, r1_7⟩ | with_reducible exact ⟨tcell_drew r1_0, tcell_drew r1_1, tcell_drew r1_2, tcell_drew r1_3, tcell_drew r1_4, tcell_drew r1_5, tcell_drew r1_6, tcell_drew r1_7⟩ | with_reducible exact ⟨r2_0, r2_1, r2_2, r2_3, r2_4, r2_5, r2_6, r2_7⟩ | with_reducible exact ⟨tcell_drew r2_0, tcell_drew r2_1, tcell_drew r2_2, tcell_drew r2_3, tcell_drew r2_4, tcell_drew r2_5, tcell_drew r2_6, tcell_drew r2_7⟩ | with_reducible exact ⟨r3_0, r3_1, r3_2, r3_3, r3_4, r3_5, r3_6, r3_7⟩ | with_reducible exact ⟨tcell_drew r3_0, tcell_drew r3_1, tcell_drew r3_2, tcell_drew r3_3, tcell_drew r3_4, tcell_drew r3_5, tcell_drew r3_6, tcell_drew r3_7⟩ | with_reducible exact ⟨r4_0, r4_1, r4_2, r4_3, r4_4, r4_5, r4_6, r4_7⟩ | with_reducible exact ⟨tcell_drew r4_0, tcell_drew r4_1, tcell_drew r4_2, tcell_drew r4_3, tcell_drew r4_4, tcell_drew r4_5, tcell_drew r4_6, tcell_drew r4_7⟩)
    (first
      | (go_at_call 16; (with_reducible refine (N1.out _).mono ?_); rintro e rw1 ⟨rfl, rb1⟩; have rB1 : Below W14.heap.size W14 rw1 := (by first | exact text_trans (Below.refl W14.heap.size W14) rb1 | exact text_trans ((Below.refl W14.heap.size W14).drew) rb1); have r1_0 := tcell_below fa0 rB1; have r1_1 := tcell_below fa1 rB1; have r1_2 := tcell_below fb0 rB1; have r1_3 := tcell_below fb1 rB1; have r1_4 := tcell_below fg10 rB1; have r1_5 := tcell_below fg11 rB1; have r1_6 := tcell_below fg20 rB1; have r1_7 := tcell_below fg21 rB1)
      | (go_at_call 17; (with_reducible refine (N2.out _).mono ?_); rintro e rw2 ⟨rfl, rb2⟩; have rB2 : Below W14.heap.size W14 rw2 := (by first | exact text_trans rB1 rb2 | exact text_trans (rB1.drew) rb2); have r2_0 := tcell_below fa0 rB2; have r2_1 := tcell_below fa1 rB2; have r2_2 := tcell_below fb0 rB2; have r2_3 := tcell_below fb1 rB2; have r2_4 := tcell_below fg10 rB2; have r2_5 := tcell_below fg11 rB2; have r2_6 := tcell_below fg20 rB2; have r2_7 := tcell_below fg21 rB2)
      | (go_at_call 18; (with_reducible refine (A1.out _).mono ?_); rintro e rw3 ⟨rfl, rb3⟩; have rB3 : Below W14.heap.size W14 rw3 := (by first | exact text_trans rB2 rb3 | exact text_trans (rB2.drew) rb3); have r3_0 := tcell_below fa0 rB3; have r3_1 := tcell_below fa1 rB3; have r3_2 := tcell_below fb0 rB3; have r3_3 := tcell_below fb1 rB3; have r3_4 := tcell_below fg10 rB3; have r3_5 := tcell_below fg11 rB3; have r3_6 := tcell_below fg20 rB3; have r3_7 := tcell_below fg21 rB3)
      | (go_at_call 19; (with_reducible refine (A2.out _).mono ?_); rintro e rw4 ⟨rfl, rb4⟩; have rB4 : Below W14.heap.size W14 rw4 := (by first | exact text_trans rB3 rb4 | exact text_trans (rB3.drew) rb4); have r4_0 := tcell_below fa0 rB4; have r4_1 := tcell_below fa1 rB4; have r4_2 := tcell_below fb0 rB4; have r4_3 := tcell_below fb1 rB4; have r4_4 := tcell_below fg10 rB4; have r4_5 := tcell_below fg11 rB4; have r4_6 := tcell_below fg20 rB4; have r4_7 := tcell_below fg21 rB4))
  have Br := Lib.hid (B14.out.below rB4)
  have Kg13a5a7as91011s13sr := Lib.hid (theap_below Kg13a5a7as91011s13s.out rB4)
  clear Kg13a5a7as91011s13s
  have Kg25a7as91011s13sr := Lib.hid (theap_below Kg25a7as91011s13s.out rB4)
  clear Kg25a7as91011s13s
  have Kg37as91011s13sr := Lib.hid (theap_below Kg37as91011s13s.out rB4)
  clear Kg37as91011s13s
  have Kg4s91011s13sr := Lib.hid (theap_below Kg4s91011s13s.out rB4)
  clear Kg4s91011s13s
  clear r1_0 r1_1 r1_2 r1_3 r1_4 r1_5 r1_6 r1_7 r2_0 r2_1 r2_2 r2_3 r2_4 r2_5 r2_6 r2_7 r3_0 r3_1 r3_2 r3_3 r3_4 r3_5 r3_6 r3_7 r4_0 r4_1 r4_2 r4_3 r4_4 r4_5 r4_6 r4_7 rB1 rb1 rB2 rb2 rB3 rb3 rB4 rb4 B14 N1 N2 A1 A2
  clear fa0 fa1 fb0 fb1 fg10 fg11 fg20 fg21
  go_upto_region 13 with fail
  have fa0 : rw4.cell? ⟨w.heap.size, 0, none⟩ = some (.int .u64 (a1 : Int)) := cell_of_block Br.out.a 0
  have fa1 : rw4.cell? ⟨w.heap.size, 1, none⟩ = some (.int .u64 (a2 : Int)) := cell_of_block Br.out.a 1
  have fb0 : rw4.cell? ⟨w.heap.size + 1, 0, none⟩ = some (.int .u64 (b1 : Int)) := cell_of_block Br.out.b 0
  have fb1 : rw4.cell? ⟨w.heap.size + 1, 1, none⟩ = some (.int .u64 (b2 : Int)) := cell_of_block Br.out.b 1
  go_region_held3 (fun w' => w'.cell? ⟨w.heap.size, 0, none⟩ = some (.int .u64 (a1 : Int)) ∧ w'.cell? ⟨w.heap.size, 1, none⟩ = some (.int .u64 (a2 : Int)) ∧ w'.cell? ⟨w.heap.size + 1, 0, none⟩ = some (.int .u64 (b1 : Int)) ∧ w'.cell? ⟨w.heap.size + 1, 1, none⟩ = some (.int .u64 (b2 : Int)))
    (first | with_reducible exact ⟨fa0, fa1, fb0, fb1⟩ | with_reducible exact ⟨tcell_drew fa0, tcell_drew fa1, tcell_drew fb0, tcell_drew fb1⟩ | with_reducible exact ⟨t1_0, t1_1, t1_2, t1_3⟩ | with_reducible exact ⟨tcell_drew t1_0, tcell_drew t1_1, tcell_drew t1_2, tcell_drew t1_3⟩ | with_reducible exact ⟨t2_0, t2_1, t2_2, t2_3⟩ | with_reducible exact ⟨tcell_drew t2_0, tcell_drew t2_1, tcell_drew t2_2, tcell_drew t2_3⟩ | with_reducible exact ⟨t7_0, t7_1, t7_2, t7_3⟩ | with_reducible exact ⟨tcell_drew t7_0, tcell_drew t7_1, tcell_drew t7_2, tcell_drew t7_3⟩)
    (first
      | (go_at_call 20; (with_reducible refine (X1.out _).mono ?_); rintro e tw1 ⟨rfl, tb1⟩; have tB1 : Below rw4.heap.size rw4 tw1 := (by first | exact text_trans (Below.refl rw4.heap.size rw4) tb1 | exact text_trans ((Below.refl rw4.heap.size rw4).drew) tb1); have t1_0 := tcell_below fa0 tB1; have t1_1 := tcell_below fa1 tB1; have t1_2 := tcell_below fb0 tB1; have t1_3 := tcell_below fb1 tB1)
      | (go_at_call 21; (with_reducible refine (X2.out _).mono ?_); rintro e tw2 ⟨rfl, tb2⟩; have tB2 : Below rw4.heap.size rw4 tw2 := (by first | exact text_trans tB1 tb2 | exact text_trans (tB1.drew) tb2); have t2_0 := tcell_below fa0 tB2; have t2_1 := tcell_below fa1 tB2; have t2_2 := tcell_below fb0 tB2; have t2_3 := tcell_below fb1 tB2)
      | (go_at_call 22; (with_reducible refine (P1.out _).mono ?_); rintro e tw3 ⟨rfl, rfl⟩)
      | (go_at_call 23; (with_reducible refine (P2.out _).mono ?_); rintro e tw4 ⟨rfl, rfl⟩)
      | (go_at_call 24; (with_reducible refine (D1.out _).mono ?_); rintro e tw5 ⟨rfl, rfl⟩)
      | (go_at_call 25; (with_reducible refine (D2.out _).mono ?_); rintro e tw6 ⟨rfl, rfl⟩)
      | (go_at_call 26; (with_reducible refine (LV.out _).mono ?_); rintro e tw7 ⟨rfl, tb7⟩; have tB7 : Below rw4.heap.size rw4 tw7 := (by first | exact text_trans tB2 tb7 | exact text_trans (tB2.drew) tb7); have t7_0 := tcell_below fa0 tB7; have t7_1 := tcell_below fa1 tB7; have t7_2 := tcell_below fb0 tB7; have t7_3 := tcell_below fb1 tB7))
  have Bt := Lib.hid (Br.out.below tB7)
  have Kg13a5a7as91011s13srt := Lib.hid (theap_below Kg13a5a7as91011s13sr.out tB7)
  clear Kg13a5a7as91011s13sr
  have Kg25a7as91011s13srt := Lib.hid (theap_below Kg25a7as91011s13sr.out tB7)
  clear Kg25a7as91011s13sr
  have Kg37as91011s13srt := Lib.hid (theap_below Kg37as91011s13sr.out tB7)
  clear Kg37as91011s13sr
  have Kg4s91011s13srt := Lib.hid (theap_below Kg4s91011s13sr.out tB7)
  clear Kg4s91011s13sr
  clear t1_0 t1_1 t1_2 t1_3 t2_0 t2_1 t2_2 t2_3 t7_0 t7_1 t7_2 t7_3 tB1 tb1 tB2 tb2 tB7 tb7 Br X1 X2 P1 P2 D1 D2 LV
  clear fa0 fa1 fb0 fb1
  go_wp2
  go_ret
  exact ⟨rfl, Bt.out.low⟩
end Go.Proofs.Ytglhnmbfkbjemaa
