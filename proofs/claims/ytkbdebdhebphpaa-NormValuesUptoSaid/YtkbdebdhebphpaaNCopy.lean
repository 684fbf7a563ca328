/- norm.Copy, by its contract. -/
import Derived.Test.YtkbdebdhebphpaaNClone2
import Derived.Deep.RegionHeld3
namespace Go.Proofs.Ytkbdebdhebphpaa
open Go Go.RowKit Go.Joins

/-- The numbers of a circuit's lists are of 32 bits, resets of 8. -/
structure Wide (c : NormC) : Prop where
  lats : ∀ p ∈ c.lats, p.1 < 4294967296 ∧ p.2 < 256
  gates : ∀ p ∈ c.gates, p.1 < 4294967296 ∧ p.2 < 4294967296
  outs : ∀ x ∈ c.outs, x < 4294967296
  bads : ∀ x ∈ c.bads, x < 4294967296
  cons : ∀ x ∈ c.cons, x < 4294967296

theorem below_undrew {w w' : World} (h : Below w.drew.heap.size w.drew w') : Below w.heap.size w w' := (Below.refl _ w).drew.trans h

theorem cell_set6 {w : World} {G b k : Nat} {v u0 u1 u2 u3 u4 u5 : Value} (h : w.cell? ⟨b, k, none⟩ = some v) (hne : b ≠ G) :
    ((((((w.setCell ⟨G, 0, .none⟩ u0).setCell ⟨G, 1, .none⟩ u1).setCell ⟨G, 2, .none⟩ u2).setCell ⟨G, 3, .none⟩ u3).setCell ⟨G, 4, .none⟩ u4).setCell ⟨G, 5, .none⟩ u5).cell? ⟨b, k, none⟩ = some v := by
  have ne : ∀ j, (⟨G, j, none⟩ : Addr) ≠ ⟨b, k, none⟩ := fun j e => hne (by cases e; rfl)
  rw [World.cell?_setCell_other _ _ _ _ (ne 5), World.cell?_setCell_other _ _ _ _ (ne 4), World.cell?_setCell_other _ _ _ _ (ne 3), World.cell?_setCell_other _ _ _ _ (ne 2), World.cell?_setCell_other _ _ _ _ (ne 1), World.cell?_setCell_other _ _ _ _ (ne 0)]
  exact h
theorem cell_drew {w : World} {a : Addr} {v : Value} (h : w.cell? a = some v) : w.drew.cell? a = some v := h
theorem cell_row {w : World} {G b k : Nat} {v : Value} {C : Array Value} (h : w.cell? ⟨b, k, none⟩ = some v) (hne : b ≠ G) : (w.setRow G C).cell? ⟨b, k, none⟩ = some v := by
  have one : (w.setRow G C).cell? ⟨b, k, none⟩ = w.cell? ⟨b, k, none⟩ := World.cell?_of_block (setRow_other w G b C hne)
  exact one.trans h
def zero6 : Array Value := #[.int .i64 0, .slice none 0 0, .slice none 0 0, .slice none 0 0, .slice none 0 0, .slice none 0 0]
set_option maxRecDepth 100000 in
set_option maxHeartbeats 3200000 in
theorem copy_any (c : NormC) (s : CSlots) (w : World) (h : SeesCir w s c) (hs : s.small) (hw : Wide c) :
    Calls Try.prog 22 #[cirV c.ins s] w fun e w' => ∃ s', e = .returned (cirV c.ins s') ∧ OwnCir w' w.heap.size s' c ∧ Below w.heap.size w w' := by
  obtain ⟨a1, n1, c1, a2, n2, c2, a3, n3, c3, a4, n4, c4, a5, n5, c5⟩ := s
  obtain ⟨hs1, hs2, hs3, hs4, hs5⟩ := hs
  simp only at hs1 hs2 hs3 hs4 hs5
  have l1 : c.lats.length = n1 := h.s1.1
  have l2 : c.gates.length = n2 := h.s2.1
  have l3 : c.outs.length = n3 := h.s3.lenMap
  have l4 : c.bads.length = n4 := h.s4.lenMap
  have l5 : c.cons.length = n5 := h.s5.lenMap
  obtain ⟨z, hz⟩ : ∃ z, z = c.ins := ⟨_, rfl⟩
  rw [← hz]
  clear hz
  have L1 := Lib.hid l1
  have L2 := Lib.hid l2
  have L3 := Lib.hid l3
  have L4 := Lib.hid l4
  have L5 := Lib.hid l5
  have HS := Lib.hid h
  have HW := Lib.hid hw
  clear l1 l2 l3 l4 l5 h hw
  unfold cirV
  go_enter Try.func22, Try.ntmps22
  go_wp2_with fail
  generalize hW : World.alloc (World.alloc w _) _ = W0
  have B0 : Below w.heap.size w W0 := by subst hW; exact ext_trans (ext_alloc _ _) (ext_alloc _ _)
  have hX : W0.heap[w.heap.size]? = some (.cells #[.int .i64 z, .slice a1 n1 c1, .slice a2 n2 c2, .slice a3 n3 c3, .slice a4 n4 c4, .slice a5 n5 c5] 26 (0, 0)) := by
    subst hW; exact heap_below (heap_new _ _ _ rfl) (ext_alloc _ _)
  have hR : W0.heap[w.heap.size + 1]? = some (.cells #[.int .i64 0, .slice none 0 0, .slice none 0 0, .slice none 0 0, .slice none 0 0, .slice none 0 0] 26 (0, 0)) := by
    subst hW; exact heap_new _ _ _ (by simp)
  clear hW
  have p0 := cell_of_block hX 0
  have p1 := cell_of_block hX 1
  have p2 := cell_of_block hX 2
  have p3 := cell_of_block hX 3
  have p4 := cell_of_block hX 4
  have p5 := cell_of_block hX 5
  have E1 : Hid (∀ W, Below W0.heap.size W0 W → Calls Try.prog 54 #[.slice a1 n1 c1] W fun e w' => ∃ v, e = .returned v ∧ own2 nv8 61 w' W.heap.size v c.lats ∧ Below W.heap.size W w') := fun W hb => clone_lat c.lats a1 n1 c1 W (HS.out.s1.below (ext_trans B0 hb)) (by omega)
  have E2 : Hid (∀ W, Below W0.heap.size W0 W → Calls Try.prog 55 #[.slice a2 n2 c2] W fun e w' => ∃ v, e = .returned v ∧ own2 nv32 56 w' W.heap.size v c.gates ∧ Below W.heap.size W w') := fun W hb => clone_gate c.gates a2 n2 c2 W (HS.out.s2.below (ext_trans B0 hb)) (by omega)
  have E3 : Hid (∀ W, Below W0.heap.size W0 W → Calls Try.prog 32 #[.slice a3 n3 c3] W fun e w' => ∃ v, e = .returned v ∧ Row isU32 w' W.heap.size 33 v c.outs.length (c.outs.map nv32) ∧ Below W.heap.size W w') := fun W hb => by rw [L3.out]; exact clone_u32 c.outs a3 n3 c3 W (HS.out.s3.below (ext_trans B0 hb)) (by omega) HW.out.outs
  have E4 : Hid (∀ W, Below W0.heap.size W0 W → Calls Try.prog 32 #[.slice a4 n4 c4] W fun e w' => ∃ v, e = .returned v ∧ Row isU32 w' W.heap.size 33 v c.bads.length (c.bads.map nv32) ∧ Below W.heap.size W w') := fun W hb => by rw [L4.out]; exact clone_u32 c.bads a4 n4 c4 W (HS.out.s4.below (ext_trans B0 hb)) (by omega) HW.out.bads
  have E5 : Hid (∀ W, Below W0.heap.size W0 W → Calls Try.prog 32 #[.slice a5 n5 c5] W fun e w' => ∃ v, e = .returned v ∧ Row isU32 w' W.heap.size 33 v c.cons.length (c.cons.map nv32) ∧ Below W.heap.size W w') := fun W hb => by rw [L5.out]; exact clone_u32 c.cons a5 n5 c5 W (HS.out.s5.below (ext_trans B0 hb)) (by omega) HW.out.cons
  have HB0 := Lib.hid B0
  have HR := Lib.hid hR
  have hlt : w.heap.size + 1 < W0.heap.size := heap_lt hR
  clear B0 hR hX
  go_region_held3 (fun w' => w'.cell? ⟨w.heap.size, 0, none⟩ = some (.int .i64 z) ∧ w'.cell? ⟨w.heap.size, 1, none⟩ = some (.slice a1 n1 c1) ∧ w'.cell? ⟨w.heap.size, 2, none⟩ = some (.slice a2 n2 c2) ∧ w'.cell? ⟨w.heap.size, 3, none⟩ = some (.slice a3 n3 c3) ∧ w'.cell? ⟨w.heap.size, 4, none⟩ = some (.slice a4 n4 c4) ∧ w'.cell? ⟨w.heap.size, 5, none⟩ = some (.slice a5 n5 c5))
    (first | with_reducible exact ⟨p0, p1, p2, p3, p4, p5⟩ | with_reducible exact ⟨cell_drew p0, cell_drew p1, cell_drew p2, cell_drew p3, cell_drew p4, cell_drew p5⟩ | with_reducible exact ⟨d1_0, d1_1, d1_2, d1_3, d1_4, d1_5⟩ | with_reducible exact ⟨cell_drew d1_0, cell_drew d1_1, cell_drew d1_2, cell_drew d1_3, cell_drew d1_4, cell_drew d1_5⟩ | with_reducible exact ⟨d2_0, d2_1, d2_2, d2_3, d2_4, d2_5⟩ | with_reducible exact ⟨cell_drew d2_0, cell_drew d2_1, cell_drew d2_2, cell_drew d2_3, cell_drew d2_4, cell_drew d2_5⟩ | with_reducible exact ⟨d3_0, d3_1, d3_2, d3_3, d3_4, d3_5⟩ | with_reducible exact ⟨cell_drew d3_0, cell_drew d3_1, cell_drew d3_2, cell_drew d3_3, cell_drew d3_4, cell_drew d3_5⟩ | with_reducible exact ⟨d4_0, d4_1, d4_2, d4_3, d4_4, d4_5⟩ | with_reducible exact ⟨cell_drew d4_0, cell_drew d4_1, cell_drew d4_2, cell_drew d4_3, cell_drew d4_4, cell_drew d4_5⟩ | with_reducible exact ⟨d5_0, d5_1, d5_2, d5_3, d5_4, d5_5⟩ | with_reducible exact ⟨cell_drew d5_0, cell_drew d5_1, cell_drew d5_2, cell_drew d5_3, cell_drew d5_4, cell_drew d5_5⟩ | with_reducible exact ⟨cell_set6 d5_0 (by omega), cell_set6 d5_1 (by omega), cell_set6 d5_2 (by omega), cell_set6 d5_3 (by omega), cell_set6 d5_4 (by omega), cell_set6 d5_5 (by omega)⟩ | with_reducible exact ⟨cell_row d5_0 (by omega), cell_row d5_1 (by omega), cell_row d5_2 (by omega), cell_row d5_3 (by omega), cell_row d5_4 (by omega), cell_row d5_5 (by omega)⟩ | go_keep)
    (first
      | (go_at_call 54; (with_reducible refine (E1.out _ (by first | with_reducible exact Below.refl _ W0 | with_reducible exact (Below.refl _ W0).drew)).mono ?_); rintro e s1 ⟨v1, rfl, r1, b1⟩; have HB1 : Below W0.heap.size W0 s1 := (by first | exact ext_trans (Below.refl _ W0) b1 | exact ext_trans ((Below.refl _ W0).drew) b1); have d1_0 := cell_below p0 HB1; have d1_1 := cell_below p1 HB1; have d1_2 := cell_below p2 HB1; have d1_3 := cell_below p3 HB1; have d1_4 := cell_below p4 HB1; have d1_5 := cell_below p5 HB1; have R1 := Lib.hid r1; obtain ⟨e1, f1, rfl⟩ := own2_form r1; clear r1)
      | (go_at_call 55; (with_reducible refine (E2.out _ (by first | with_reducible exact HB1 | with_reducible exact (HB1).drew)).mono ?_); rintro e s2 ⟨v2, rfl, r2, b2⟩; have HB2 : Below W0.heap.size W0 s2 := (by first | exact ext_trans (HB1) b2 | exact ext_trans ((HB1).drew) b2); have d2_0 := cell_below p0 HB2; have d2_1 := cell_below p1 HB2; have d2_2 := cell_below p2 HB2; have d2_3 := cell_below p3 HB2; have d2_4 := cell_below p4 HB2; have d2_5 := cell_below p5 HB2; have R2 := Lib.hid r2; obtain ⟨e2, f2, rfl⟩ := own2_form r2; clear r2; have R1 := Lib.hid (own2_below R1.out (by first | exact b2 | exact below_undrew b2)))
      | (go_at_call 32; (with_reducible refine (E3.out _ (by first | with_reducible exact HB2 | with_reducible exact (HB2).drew)).mono ?_); rintro e s3 ⟨v3, rfl, r3, b3⟩; have HB3 : Below W0.heap.size W0 s3 := (by first | exact ext_trans (HB2) b3 | exact ext_trans ((HB2).drew) b3); have d3_0 := cell_below p0 HB3; have d3_1 := cell_below p1 HB3; have d3_2 := cell_below p2 HB3; have d3_3 := cell_below p3 HB3; have d3_4 := cell_below p4 HB3; have d3_5 := cell_below p5 HB3; have R3 := Lib.hid r3; obtain ⟨e3, f3, rfl⟩ := r3.form; clear r3; have R1 := Lib.hid (own2_below R1.out (by first | exact b3 | exact below_undrew b3)); have R2 := Lib.hid (own2_below R2.out (by first | exact b3 | exact below_undrew b3)))
      | (go_at_call 32; (with_reducible refine (E4.out _ (by first | with_reducible exact HB3 | with_reducible exact (HB3).drew)).mono ?_); rintro e s4 ⟨v4, rfl, r4, b4⟩; have HB4 : Below W0.heap.size W0 s4 := (by first | exact ext_trans (HB3) b4 | exact ext_trans ((HB3).drew) b4); have d4_0 := cell_below p0 HB4; have d4_1 := cell_below p1 HB4; have d4_2 := cell_below p2 HB4; have d4_3 := cell_below p3 HB4; have d4_4 := cell_below p4 HB4; have d4_5 := cell_below p5 HB4; have R4 := Lib.hid r4; obtain ⟨e4, f4, rfl⟩ := r4.form; clear r4; have R1 := Lib.hid (own2_below R1.out (by first | exact b4 | exact below_undrew b4)); have R2 := Lib.hid (own2_below R2.out (by first | exact b4 | exact below_undrew b4)); have R3 := Lib.hid (R3.out.below (by first | exact b4 | exact below_undrew b4)))
      | (go_at_call 32; (with_reducible refine (E5.out _ (by first | with_reducible exact HB4 | with_reducible exact (HB4).drew)).mono ?_); rintro e s5 ⟨v5, rfl, r5, b5⟩; have HB5 : Below W0.heap.size W0 s5 := (by first | exact ext_trans (HB4) b5 | exact ext_trans ((HB4).drew) b5); have d5_0 := cell_below p0 HB5; have d5_1 := cell_below p1 HB5; have d5_2 := cell_below p2 HB5; have d5_3 := cell_below p3 HB5; have d5_4 := cell_below p4 HB5; have d5_5 := cell_below p5 HB5; have R5 := Lib.hid r5; obtain ⟨e5, f5, rfl⟩ := r5.form; clear r5; have R1 := Lib.hid (own2_below R1.out (by first | exact b5 | exact below_undrew b5)); have R2 := Lib.hid (own2_below R2.out (by first | exact b5 | exact below_undrew b5)); have R3 := Lib.hid (R3.out.below (by first | exact b5 | exact below_undrew b5)); have R4 := Lib.hid (R4.out.below (by first | exact b5 | exact below_undrew b5)); have hz := heap_below HR.out HB5; have z0 := cell_of_block hz 0; have y0 := unfrozen_of_block hz 0; have z1 := cell_of_block hz 1; have y1 := unfrozen_of_block hz 1; have z2 := cell_of_block hz 2; have y2 := unfrozen_of_block hz 2; have z3 := cell_of_block hz 3; have y3 := unfrozen_of_block hz 3; have z4 := cell_of_block hz 4; have y4 := unfrozen_of_block hz 4; have z5 := cell_of_block hz 5; have y5 := unfrozen_of_block hz 5; have HZ := Lib.hid hz; clear hz))
  have q1 := HB1.size
  have q2 := HB2.size
  have q3 := HB3.size
  have q4 := HB4.size
  have HQ := Lib.hid HB5
  go_wp2
  refine bodyPost_ret (v := cirV z ⟨e1, c.lats.length, f1, e2, c.gates.length, f2, e3, c.outs.length, f3, e4, c.bads.length, f4, e5, c.cons.length, f5⟩) ?_ rfl ?_
  · have h6 := cir_set HZ.out rfl (.int .i64 z) (.slice e1 c.lats.length f1) (.slice e2 c.gates.length f2) (.slice e3 c.outs.length f3) (.slice e4 c.bads.length f4) (.slice e5 c.cons.length f5)
    have g0 := cell_of_block h6 0
    have g1 := cell_of_block h6 1
    have g2 := cell_of_block h6 2
    have g3 := cell_of_block h6 3
    have g4 := cell_of_block h6 4
    have g5 := cell_of_block h6 5
    simp [results, Try.results22, go_sem, g0, g1, g2, g3, g4, g5]
    rfl
  · refine ⟨_, rfl, ⟨own_set6 (B := w.heap.size) R1.out hlt (show w.heap.size ≤ W0.heap.size by omega), own_set6 (B := w.heap.size) R2.out (by omega) (by omega), rowb_set6 (B := w.heap.size) R3.out (by omega) (by omega), rowb_set6 (B := w.heap.size) R4.out (by omega) (by omega), rowb_set6 (B := w.heap.size) R5.out (by omega) (by omega)⟩, ?_⟩
    exact set6 (w.heap.size + 1) (Nat.le_succ _) (ext_trans HB0.out HQ.out)
end Go.Proofs.Ytkbdebdhebphpaa
