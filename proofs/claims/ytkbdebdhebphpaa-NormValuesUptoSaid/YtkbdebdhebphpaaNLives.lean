/- The law's own examples. -/
import Derived.Test.YtkbdebdhebphpaaNRaw
namespace Go.Proofs.Ytkbdebdhebphpaa
open Go Go.RowKit Go.Joins

theorem sees_blk3 {w : World} {g : Nat} {C : Array Value} {t : TypeId} {fr : Nat × Nat} (h : w.heap[g]? = some (.cells C t fr)) (xs : List Value) (n : Nat) (hC : C = xs.toArray) (hn : xs.length = n) : Sees w (some ⟨g, 0, none⟩) n n xs := by
  subst hC
  refine ⟨hn, Nat.le_refl _, (fun e => by cases e), fun _ => ⟨g, 0, rfl, heap_lt h, fun j hj => ?_⟩⟩
  rw [cell_of_block h]
  simp
/-- The slots of a raw circuit of inputs and gates alone. -/
def slotsIG (a1 : Option Addr) (n1 c1 : Nat) (a6 : Option Addr) (n6 c6 : Nat) : Slots := ⟨a1, n1, c1, none, 0, 0, none, 0, 0, none, 0, 0, none, 0, 0, a6, n6, c6⟩
theorem sees_IG {w : World} {a1 : Option Addr} {n1 c1 : Nat} {a6 : Option Addr} {n6 c6 m : Nat} {is : List Nat} {gs : List Tri} (h1 : Sees w a1 n1 c1 (is.map nv32)) (h6 : Sees3 w a6 n6 c6 gs) : SeesRaw w (slotsIG a1 n1 c1 a6 n6 c6) ⟨m, is, [], [], [], [], gs⟩ :=
  ⟨h1, Sees3.nil w, Sees.nil _ _ _ (fun _ => rfl), Sees.nil _ _ _ (fun _ => rfl), Sees.nil _ _ _ (fun _ => rfl), h6⟩
theorem small_IG {a1 : Option Addr} {n1 c1 : Nat} {a6 : Option Addr} {n6 c6 : Nat} (h1 : n1 ≤ 1048576) (h6 : n6 ≤ 1048576) : (slotsIG a1 n1 c1 a6 n6 c6).small := ⟨h1, Nat.zero_le _, Nat.zero_le _, Nat.zero_le _, Nat.zero_le _, h6⟩

set_option maxRecDepth 100000 in
theorem rawIG_any (m : Nat) (a1 : Option Addr) (n1 c1 : Nat) (a6 : Option Addr) (n6 c6 : Nat) (w : World) :
    Calls Try.prog 29 #[.int .u32 m, .slice a1 n1 c1, .slice a6 n6 c6] w fun e w' => e = .returned (.agg #[.int .u32 m, .slice a1 n1 c1, .slice none 0 0, .slice none 0 0, .slice none 0 0, .slice none 0 0, .slice a6 n6 c6]) ∧ Below w.heap.size w w' := by
  go_enter Try.func29, Try.ntmps29
  go_wp2
  refine bodyPost_ret (v := .agg #[.int .u32 m, .slice a1 n1 c1, .slice none 0 0, .slice none 0 0, .slice none 0 0, .slice none 0 0, .slice a6 n6 c6]) (by simp [results, Try.results29, go_sem]) rfl ⟨rfl, ext_alloc _ _⟩

set_option maxRecDepth 100000 in
set_option maxHeartbeats 1600000 in
theorem failed_any (r : RawC) (s : Slots) (er : Int) (w : World) (h : SeesRaw w s r) (hf : s.small) (hr : ofS r = .error er) :
    Calls Try.prog 30 #[rawV r.max s] w fun e w' => e = .returned (.int .i64 er) ∧ Below w.heap.size w w' := by
  have HOF := Lib.hid (fun W (hb : Below w.heap.size w W) => of_any r s W (h.below hb) hf)
  obtain ⟨m, hm⟩ : ∃ m, m = r.max := ⟨_, rfl⟩
  rw [← hm] at HOF ⊢
  have HR := Lib.hid hr
  clear hr hm h
  unfold rawV at *
  go_enter Try.func30, Try.ntmps30
  go_wp2_with fail
  refine (HOF.out _ (ext_alloc _ _)).mono ?_
  rintro e W1 ⟨hb, hcase⟩
  rcases hcase with ⟨c, s', h1, _⟩ | ⟨er', h1, _, rfl⟩
  · rw [HR.out] at h1; cases h1
  · rw [HR.out] at h1
    cases h1
    have HB := Lib.hid (ext_behind hb)
    clear hb HOF
    unfold zeroCir
    go_wp2
    go_ret
    exact ⟨rfl, ext_trans HB.out (ext_alloc _ _)⟩

theorem ex1 : ofS ⟨3, [6], [], [], [], [], [(2, 4, 6), (4, 7, 6)]⟩ = .ok ⟨1, [], [(3, 2), (4, 2)], [], [], []⟩ := by rfl
theorem ex2 : ofS ⟨2, [], [], [], [], [], [(2, 4, 1), (4, 2, 1)]⟩ = .error 9 := by rfl
theorem ex3 : ofS ⟨2, [], [], [], [], [], [(2, 4, 1)]⟩ = .error 7 := by rfl
theorem ex4 : ofS ⟨2, [2], [], [], [], [], [(2, 1, 1)]⟩ = .error 8 := by rfl
theorem ex5 : ofS ⟨1, [3], [], [], [], [], []⟩ = .error 8 := by rfl
theorem ex6 : ofS ⟨1, [0], [], [], [], [], []⟩ = .error 8 := by rfl

set_option maxRecDepth 100000 in
set_option maxHeartbeats 6400000 in
theorem lives3_any (w : World) : Calls Try.prog 8 #[] w fun e w' => e = .returned (.bool true) ∧ Below w.heap.size w w' := by
  go_enter Try.func8, Try.ntmps8
  go_wp2_with fail
  generalize hW : World.alloc (World.alloc w _) _ = W1
  have B1 : Below w.heap.size w W1 := by subst hW; exact ext_trans (ext_alloc _ _) (ext_alloc _ _)
  have y1 : W1.heap[w.heap.size]? = some (.cells #[.int .u32 6] 33 (0, 0)) := by subst hW; exact heap_below (heap_new _ _ _ rfl) (ext_alloc _ _)
  have y2 : W1.heap[w.heap.size + 1]? = some (.cells #[.int .u32 2, .int .u32 4, .int .u32 6, .int .u32 4, .int .u32 7, .int .u32 6] 59 (0, 0)) := by subst hW; exact heap_new _ _ _ (by simp)
  have HS : Hid (SeesRaw W1 (slotsIG (some ⟨w.heap.size, 0, none⟩) 1 1 (some ⟨w.heap.size + 1, 0, none⟩) 2 2) ⟨3, [6], [], [], [], [], [(2, 4, 6), (4, 7, 6)]⟩) :=
    sees_IG (sees_blk3 y1 [nv32 6] 1 rfl rfl) ⟨rfl, Nat.le_refl _, sees_blk3 y2 (triCs [(2, 4, 6), (4, 7, 6)]) 6 rfl rfl⟩
  have HB := Lib.hid B1
  clear hW y1 y2 B1
  refine (rawIG_any 3 (some ⟨w.heap.size, 0, none⟩) 1 1 (some ⟨w.heap.size + 1, 0, none⟩) 2 2 W1).mono ?_
  rintro e W2 ⟨rfl, hb⟩
  have HOF : Hid (Calls Try.prog 24 #[.agg #[.int .u32 3, .slice (some ⟨w.heap.size, 0, none⟩) 1 1, .slice none 0 0, .slice none 0 0, .slice none 0 0, .slice none 0 0, .slice (some ⟨w.heap.size + 1, 0, none⟩) 2 2]] W2 (OfPost ⟨3, [6], [], [], [], [], [(2, 4, 6), (4, 7, 6)]⟩ W2)) := of_any ⟨3, [6], [], [], [], [], [(2, 4, 6), (4, 7, 6)]⟩ (slotsIG (some ⟨w.heap.size, 0, none⟩) 1 1 (some ⟨w.heap.size + 1, 0, none⟩) 2 2) W2 (HS.out.below hb) (small_IG (by omega) (by omega))
  have HB2 := Lib.hid (ext_trans HB.out hb)
  clear hb HB HS
  go_wp2_with fail
  refine HOF.out.mono ?_
  rintro e W3 ⟨hb, hcase⟩
  rcases hcase with ⟨c, s', h1, rfl, hown⟩ | ⟨er', h1, _⟩
  case inr => rw [ex1] at h1; cases h1
  rw [ex1] at h1
  cases h1
  obtain ⟨a1, n1, c1, a2, n2, c2, a3, n3, c3, a4, n4, c4, a5, n5, c5⟩ := s'
  have hs2 := hown.sees.s2
  have hn2 : n2 = 2 := hs2.1.symm
  subst hn2
  obtain ⟨b, off, rfl, hbl⟩ := hs2.addr (show 0 < 2 by decide)
  have g0 := hs2.cells 0 (show 0 < 2 by decide) (0, 0)
  have g1 := hs2.cells 1 (show 1 < 2 by decide) (0, 0)
  have k00 : W3.cell? ⟨b, off, none⟩ = some (.int .u32 3) := g0.1
  have k01 : W3.cell? ⟨b, off + 1, none⟩ = some (.int .u32 2) := g0.2
  have k10 : W3.cell? ⟨b, off + 2, none⟩ = some (.int .u32 4) := g1.1
  have k11 : W3.cell? ⟨b, off + 2 + 1, none⟩ = some (.int .u32 2) := g1.2
  have HB3 := Lib.hid (ext_trans HB2.out hb)
  clear g0 g1 hs2 hown hb HB2 HOF
  unfold cirV
  go_wp2_with fail
  generalize hW : World.alloc (World.alloc W3 _) _ = X2
  have hbX : Below W3.heap.size W3 X2 := by subst hW; exact ext_trans (ext_alloc _ _) (ext_alloc _ _)
  have y2 : X2.heap[W3.heap.size + 1]? = some (.cells #[.int .u32 2, .int .u32 4, .int .u32 1, .int .u32 4, .int .u32 2, .int .u32 1] 59 (0, 0)) := by subst hW; exact heap_new _ _ _ (by simp)
  have HS : Hid (SeesRaw X2 (slotsIG none 0 0 (some ⟨W3.heap.size + 1, 0, none⟩) 2 2) ⟨2, [], [], [], [], [], [(2, 4, 1), (4, 2, 1)]⟩) := sees_IG (Sees.nil _ _ _ (fun _ => rfl)) ⟨rfl, Nat.le_refl _, sees_blk3 y2 (triCs [(2, 4, 1), (4, 2, 1)]) 6 rfl rfl⟩
  have HBx := Lib.hid (ext_trans HB3.out hbX)
  clear hW hbX y2 HB3
  refine (rawIG_any 2 none 0 0 (some ⟨W3.heap.size + 1, 0, none⟩) 2 2 X2).mono ?_
  rintro e A2 ⟨rfl, hb⟩
  have HF : Hid (Calls Try.prog 30 #[.agg #[.int .u32 2, .slice none 0 0, .slice none 0 0, .slice none 0 0, .slice none 0 0, .slice none 0 0, .slice (some ⟨W3.heap.size + 1, 0, none⟩) 2 2]] A2 fun e w' => e = .returned (.int .i64 9) ∧ Below A2.heap.size A2 w') := failed_any ⟨2, [], [], [], [], [], [(2, 4, 1), (4, 2, 1)]⟩ (slotsIG none 0 0 (some ⟨W3.heap.size + 1, 0, none⟩) 2 2) 9 A2 (HS.out.below hb) (small_IG (by omega) (by omega)) ex2
  have HBa := Lib.hid (ext_trans HBx.out hb)
  clear hb HBx HS
  go_wp2_with fail
  refine HF.out.mono ?_
  rintro e V2 ⟨rfl, hb⟩
  have HB2v := Lib.hid (ext_trans HBa.out hb)
  clear hb HBa HF
  go_wp2_with fail
  generalize hW : World.alloc V2 _ = X3
  have hbX : Below V2.heap.size V2 X3 := by subst hW; exact ext_alloc _ _
  have y2 : X3.heap[V2.heap.size]? = some (.cells #[.int .u32 2, .int .u32 4, .int .u32 1] 59 (0, 0)) := by subst hW; exact heap_new _ _ _ rfl
  have HS : Hid (SeesRaw X3 (slotsIG none 0 0 (some ⟨V2.heap.size, 0, none⟩) 1 1) ⟨2, [], [], [], [], [], [(2, 4, 1)]⟩) := sees_IG (Sees.nil _ _ _ (fun _ => rfl)) ⟨rfl, Nat.le_refl _, sees_blk3 y2 (triCs [(2, 4, 1)]) 3 rfl rfl⟩
  have HBx := Lib.hid (ext_trans HB2v.out hbX)
  clear hW hbX y2 HB2v
  refine (rawIG_any 2 none 0 0 (some ⟨V2.heap.size, 0, none⟩) 1 1 X3).mono ?_
  rintro e A3 ⟨rfl, hb⟩
  have HF : Hid (Calls Try.prog 30 #[.agg #[.int .u32 2, .slice none 0 0, .slice none 0 0, .slice none 0 0, .slice none 0 0, .slice none 0 0, .slice (some ⟨V2.heap.size, 0, none⟩) 1 1]] A3 fun e w' => e = .returned (.int .i64 7) ∧ Below A3.heap.size A3 w') := failed_any ⟨2, [], [], [], [], [], [(2, 4, 1)]⟩ (slotsIG none 0 0 (some ⟨V2.heap.size, 0, none⟩) 1 1) 7 A3 (HS.out.below hb) (small_IG (by omega) (by omega)) ex3
  have HBa := Lib.hid (ext_trans HBx.out hb)
  clear hb HBx HS
  go_wp2_with fail
  refine HF.out.mono ?_
  rintro e V3 ⟨rfl, hb⟩
  have HB3v := Lib.hid (ext_trans HBa.out hb)
  clear hb HBa HF
  go_wp2_with fail
  generalize hW : World.alloc (World.alloc V3 _) _ = X4
  have hbX : Below V3.heap.size V3 X4 := by subst hW; exact ext_trans (ext_alloc _ _) (ext_alloc _ _)
  have y1 : X4.heap[V3.heap.size]? = some (.cells #[.int .u32 2] 33 (0, 0)) := by subst hW; exact heap_below (heap_new _ _ _ rfl) (ext_alloc _ _)
  have y2 : X4.heap[V3.heap.size + 1]? = some (.cells #[.int .u32 2, .int .u32 1, .int .u32 1] 59 (0, 0)) := by subst hW; exact heap_new _ _ _ (by simp)
  have HS : Hid (SeesRaw X4 (slotsIG (some ⟨V3.heap.size, 0, none⟩) 1 1 (some ⟨V3.heap.size + 1, 0, none⟩) 1 1) ⟨2, [2], [], [], [], [], [(2, 1, 1)]⟩) := sees_IG (sees_blk3 y1 [nv32 2] 1 rfl rfl) ⟨rfl, Nat.le_refl _, sees_blk3 y2 (triCs [(2, 1, 1)]) 3 rfl rfl⟩
  have HBx := Lib.hid (ext_trans HB3v.out hbX)
  clear hW hbX y1 y2 HB3v
  refine (rawIG_any 2 (some ⟨V3.heap.size, 0, none⟩) 1 1 (some ⟨V3.heap.size + 1, 0, none⟩) 1 1 X4).mono ?_
  rintro e A4 ⟨rfl, hb⟩
  have HF : Hid (Calls Try.prog 30 #[.agg #[.int .u32 2, .slice (some ⟨V3.heap.size, 0, none⟩) 1 1, .slice none 0 0, .slice none 0 0, .slice none 0 0, .slice none 0 0, .slice (some ⟨V3.heap.size + 1, 0, none⟩) 1 1]] A4 fun e w' => e = .returned (.int .i64 8) ∧ Below A4.heap.size A4 w') := failed_any ⟨2, [2], [], [], [], [], [(2, 1, 1)]⟩ (slotsIG (some ⟨V3.heap.size, 0, none⟩) 1 1 (some ⟨V3.heap.size + 1, 0, none⟩) 1 1) 8 A4 (HS.out.below hb) (small_IG (by omega) (by omega)) ex4
  have HBa := Lib.hid (ext_trans HBx.out hb)
  clear hb HBx HS
  go_wp2_with fail
  refine HF.out.mono ?_
  rintro e V4 ⟨rfl, hb⟩
  have HB4v := Lib.hid (ext_trans HBa.out hb)
  clear hb HBa HF
  go_wp2_with fail
  generalize hW : World.alloc V4 _ = X5
  have hbX : Below V4.heap.size V4 X5 := by subst hW; exact ext_alloc _ _
  have y1 : X5.heap[V4.heap.size]? = some (.cells #[.int .u32 3] 33 (0, 0)) := by subst hW; exact heap_new _ _ _ rfl
  have HS : Hid (SeesRaw X5 (slotsIG (some ⟨V4.heap.size, 0, none⟩) 1 1 none 0 0) ⟨1, [3], [], [], [], [], []⟩) := sees_IG (sees_blk3 y1 [nv32 3] 1 rfl rfl) (Sees3.nil _)
  have HBx := Lib.hid (ext_trans HB4v.out hbX)
  clear hW hbX y1 HB4v
  refine (rawIG_any 1 (some ⟨V4.heap.size, 0, none⟩) 1 1 none 0 0 X5).mono ?_
  rintro e A5 ⟨rfl, hb⟩
  have HF : Hid (Calls Try.prog 30 #[.agg #[.int .u32 1, .slice (some ⟨V4.heap.size, 0, none⟩) 1 1, .slice none 0 0, .slice none 0 0, .slice none 0 0, .slice none 0 0, .slice none 0 0]] A5 fun e w' => e = .returned (.int .i64 8) ∧ Below A5.heap.size A5 w') := failed_any ⟨1, [3], [], [], [], [], []⟩ (slotsIG (some ⟨V4.heap.size, 0, none⟩) 1 1 none 0 0) 8 A5 (HS.out.below hb) (small_IG (by omega) (by omega)) ex5
  have HBa := Lib.hid (ext_trans HBx.out hb)
  clear hb HBx HS
  go_wp2_with fail
  refine HF.out.mono ?_
  rintro e V5 ⟨rfl, hb⟩
  have HB5v := Lib.hid (ext_trans HBa.out hb)
  clear hb HBa HF
  go_wp2_with fail
  generalize hW : World.alloc V5 _ = X6
  have hbX : Below V5.heap.size V5 X6 := by subst hW; exact ext_alloc _ _
  have y1 : X6.heap[V5.heap.size]? = some (.cells #[.int .u32 0] 33 (0, 0)) := by subst hW; exact heap_new _ _ _ rfl
  have HS : Hid (SeesRaw X6 (slotsIG (some ⟨V5.heap.size, 0, none⟩) 1 1 none 0 0) ⟨1, [0], [], [], [], [], []⟩) := sees_IG (sees_blk3 y1 [nv32 0] 1 rfl rfl) (Sees3.nil _)
  have HBx := Lib.hid (ext_trans HB5v.out hbX)
  clear hW hbX y1 HB5v
  refine (rawIG_any 1 (some ⟨V5.heap.size, 0, none⟩) 1 1 none 0 0 X6).mono ?_
  rintro e A6 ⟨rfl, hb⟩
  have HF : Hid (Calls Try.prog 30 #[.agg #[.int .u32 1, .slice (some ⟨V5.heap.size, 0, none⟩) 1 1, .slice none 0 0, .slice none 0 0, .slice none 0 0, .slice none 0 0, .slice none 0 0]] A6 fun e w' => e = .returned (.int .i64 8) ∧ Below A6.heap.size A6 w') := failed_any ⟨1, [0], [], [], [], [], []⟩ (slotsIG (some ⟨V5.heap.size, 0, none⟩) 1 1 none 0 0) 8 A6 (HS.out.below hb) (small_IG (by omega) (by omega)) ex6
  have HBa := Lib.hid (ext_trans HBx.out hb)
  clear hb HBx HS
  go_wp2_with fail
  refine HF.out.mono ?_
  rintro e V6 ⟨rfl, hb⟩
  have HB6v := Lib.hid (ext_trans HBa.out hb)
  clear hb HBa HF
  go_wp2
  go_ret
  exact ⟨rfl, HB6v.out⟩
end Go.Proofs.Ytkbdebdhebphpaa
