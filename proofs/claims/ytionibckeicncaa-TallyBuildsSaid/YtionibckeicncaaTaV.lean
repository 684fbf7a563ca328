/- inquestlaw15.lives: the tallies that the document tells of. -/
import Derived.Test.YtionibckeicncaaLib
import Derived.Test.YtionibckeicncaaNBase
import Derived.Test.YtionibckeicncaaRawMay
import Derived.Test.YtionibckeicncaaCuInts
import Derived.Test.YtionibckeicncaaEnInts
import Derived.Test.YtionibckeicncaaTaC
import Derived.Test.YtionibckeicncaaTaB
import Derived.Test.YtionibckeicncaaTaG
import Derived.Test.YtionibckeicncaaTaS
import Derived.Test.YtionibckeicncaaTaT
import Derived.Test.YtionibckeicncaaRows
import Derived.Test.YtionibckeicncaaShelf
import Derived.BigQuiet
import Derived.Deep.AppendLies
import Derived.Deep.CutRange
import Derived.Deep.QuietTactic
import Derived.Deep.RegionHeld3
import Derived.Deep.RegionLaw
import Derived.Deep.RegionWith
import Derived.KernelRfl
import Derived.Laws.EntriesVeiled
import Derived.Laws.Tables
import Derived.Lib.ConvBytes
import Derived.Lib.Hide
import Derived.Lib.SlBytesRow
import Derived.Lib.SlicesCompact
import Derived.Lib.SmallJoins
import Derived.Maps.AppendAt
import Derived.OrdersHeld
import Derived.Shelf.Bytes.SlSmallAll
import Derived.Sort.Statements
import Derived.WalkKit
import Derived.WalkLawsBesides
import Derived.WalkSpells
namespace Go.Proofs.Ytionibckeicncaa
open Go Go.RowKit Go.Joins

def clsX : List (List Int) := [[-3, 1, 2], [3, -2], [-4, 1], [3, -1], [-4, 2], [4, -1, -2]]
theorem outT_ex : outT [1, 2] 2 3 = ⟨[3, 4], clsX, 5⟩ := rfl
theorem build_ex1 {W W' : World} {e : Ending} (h : BuildPost [1, 2] 2 3 W e W') : Below W.heap.size W W' ∧ ∃ (la : Option Addr) (lc : Nat) (lss : List ZSlc) (oa : Option Addr) (oc ln v : Nat) (af y0 y1 z0 z1 : Int), e = .returned (.tuple #[.slice la ln lc, .slice oa 2 oc, .int .i64 af, .int .i64 0]) ∧ SeesZ W' la ln lc lss clsX ∧ Sees W' oa 2 oc (zvs [y0, y1]) ∧
    ln = 6 ∧ v = 4 ∧ y0 = 3 ∧ y1 = 4 ∧ z0 = -3 ∧ z1 = -4 ∧ wrap64 (af - 1) = (v : Int) ∧ wrap64 (-y0) = z0 ∧ wrap64 (-y1) = z1 := by
  obtain ⟨hb, h⟩ := h
  rcases h with ⟨h, _⟩ | ⟨_, h, _⟩ | ⟨_, _, _, la, lc, lss, oa, oc, h1, h2, h3⟩
  · exact absurd h (by unfold badT; decide)
  · exact absurd h (by decide)
  · rw [outT_ex] at h1 h2 h3
    exact ⟨hb, la, lc, lss, oa, oc, 6, 4, 5, 3, 4, -3, -4, h1, h2, h3, rfl, rfl, rfl, rfl, rfl, rfl, by unfold wrap64; omega, by unfold wrap64; omega, by unfold wrap64; omega⟩
theorem build_ex2 {x : Int} {W W' : World} {e : Ending} (hx : x = 0 ∨ x = 3) (h : BuildPost [x] 1 3 W e W') : Below W.heap.size W W' ∧ e = .returned (.tuple #[.slice none 0 0, .slice none 0 0, .int .i64 0, .int .i64 2]) := by
  obtain ⟨hb, h⟩ := h
  have hbad : badT [x] 1 3 := by rcases hx with rfl | rfl <;> (unfold badT; decide)
  rcases h with ⟨_, h⟩ | ⟨h, _⟩ | ⟨h, _⟩
  · exact ⟨hb, h⟩
  · exact absurd hbad h
  · exact absurd hbad h
theorem build_ex4 {W W' : World} {e : Ending} (h : BuildPost [] 5 3 W e W') : Below W.heap.size W W' ∧ ∃ (la : Option Addr) (lc : Nat) (oa : Option Addr) (oc : Nat), e = .returned (.tuple #[.slice la 0 lc, .slice oa 0 oc, .int .i64 3, .int .i64 0]) := by
  obtain ⟨hb, h⟩ := h
  rcases h with ⟨h, _⟩ | ⟨_, h, _⟩ | ⟨_, _, _, la, lc, lss, oa, oc, h1, h2, h3⟩
  · exact absurd h (by unfold badT; decide)
  · exact absurd h (by decide)
  · exact ⟨hb, la, lc, oa, oc, h1⟩
theorem can_ex1 : CanP clsX [1, -2, 3, -4] 4 := ⟨by decide, by decide, [false, true, false, true, false], rfl, by decide, by decide⟩
theorem can_ex {x : Int} (hx : x = -3 ∨ x = 4) : ¬ CanP clsX [1, -2, x] 4 := by
  rintro ⟨_, _, M, lM, hL, hG⟩
  obtain ⟨a, b, c, d, e, rfl⟩ : ∃ a b c d e, M = [a, b, c, d, e] := by
    match M, lM with
    | [a, b, c, d, e], _ => exact ⟨a, b, c, d, e, rfl⟩
  have g1 := hG 1 (by simp)
  have g2 := hG (-2) (by simp)
  have g3 := hG x (by simp)
  rcases hx with rfl | rfl
  · revert hL g1 g2 g3
    clear hG lM
    revert a b c d e
    decide
  · revert hL g1 g2 g3
    clear hG lM
    revert a b c d e
    decide
theorem seesI_lit (w : World) (xs : List Int) (n : Nat) (C : Array Value) (hC : C = (zvs xs).toArray) (hn : n = xs.length) : Sees (w.alloc (.cells C 3)) (some ⟨w.heap.size, 0, none⟩) n n (zvs xs) := by
  subst hC
  subst hn
  exact sees_lit w _ _ _ _ _ rfl (by rw [zvs_len])
theorem clsX_small : SmallZ clsX := by
  intro c hc
  unfold clsX at hc
  simp only [List.mem_cons, List.not_mem_nil, or_false] at hc
  rcases hc with rfl | rfl | rfl | rfl | rfl | rfl <;> decide
set_option maxRecDepth 100000 in
set_option maxHeartbeats 6400000 in
theorem lives15_any (w : World) : Calls Try.prog 8 #[] w fun e w' => e = .returned (.bool true) ∧ Below w.heap.size w w' := by
  have HB1 := Lib.hid (fun W => build_any [1, 2] 2 3 (some ⟨W.heap.size, 0, none⟩) 2 2 _ (seesI_lit W [1, 2] 2 _ rfl rfl) (by omega) (by omega))
  have HB2 := Lib.hid (fun (x : Int) W => build_any [x] 1 3 (some ⟨W.heap.size, 0, none⟩) 1 1 _ (seesI_lit W [x] 1 _ rfl rfl) (by omega) (by omega))
  have HB4 := Lib.hid (fun W => build_any [] 5 3 none 0 0 W (Sees.nil _ _ _ (fun _ => rfl)) (by omega) (by omega))
  go_enter Try.func8, Try.ntmps8
  go_wp2_with fail
  refine (HB1.out w).mono ?_
  intro e W1 hp
  obtain ⟨hb, la, lc, lss, oa, oc, ln, v, af, y0, y1, z0, z1, rfl, hz, ho, eln, ev, ey0, ey1, ez0, ez1, wa, wn0, wn1⟩ := build_ex1 hp
  have HZ1 := Lib.hid hz
  have HO1 := Lib.hid ho
  have HW1 := Lib.hid (ext_trans (ext_alloc _ _) hb)
  have HE := Lib.hid (And.intro eln (And.intro ev (And.intro ey0 (And.intro ey1 (And.intro ez0 ez1)))))
  clear hp hb hz ho eln ev ey0 ey1 ez0 ez1 HB1
  go_wp2_with fail
  refine (HB2.out 0 W1).mono ?_
  intro e W2 hp
  obtain ⟨hb, rfl⟩ := build_ex2 (.inl rfl) hp
  have HB12 := Lib.hid (ext_trans (ext_alloc _ _) hb)
  clear hp hb
  go_wp2_with fail
  refine (HB2.out 3 W2).mono ?_
  intro e W3 hp
  obtain ⟨hb, rfl⟩ := build_ex2 (.inr rfl) hp
  have HB13 := Lib.hid (ext_trans HB12.out (ext_trans (ext_alloc _ _) hb))
  clear hp hb HB12 HB2
  go_wp2_with fail
  refine (HB4.out W3).mono ?_
  intro e W4 hp
  obtain ⟨hb, na, nc, ma, mc, rfl⟩ := build_ex4 hp
  have HB14 := Lib.hid (ext_trans HB13.out hb)
  clear hp hb HB13 HB4
  have HZ4 := Lib.hid (HZ1.out.below HB14.out)
  have HO4 := Lib.hid (HO1.out.below HB14.out)
  have HW4 := Lib.hid (ext_trans HW1.out HB14.out)
  have HM1 := Lib.hid (most_any [y0, y1] 1 oa 2 oc W4 HO4.out (by omega))
  clear HZ1 HO1 HW1 HB14
  go_wp2_with fail
  refine HM1.out.mono ?_
  intro e W5 hp
  have hp2 : e = .returned (.tuple #[.slice (some ⟨W4.heap.size, 0, none⟩) 1 1, .int .i64 0]) ∧ W5 = W4.alloc (.cells #[.int .i64 z1] 3) := by
    rcases hp with ⟨h, _⟩ | ⟨h, _⟩ | ⟨_, _, h1, h2⟩
    · omega
    · omega
    · exact ⟨h1, by rw [h2, ← wn1]; rfl⟩
  obtain ⟨rfl, hW5⟩ := hp2
  have HSA : Hid (Sees W5 (some ⟨W4.heap.size, 0, none⟩) 1 1 (zvs [z1])) := by subst hW5; exact seesI_lit W4 [z1] 1 _ rfl rfl
  have HB5 : Hid (Below W4.heap.size W4 W5) := by subst hW5; exact ext_alloc _ _
  clear hp hW5 HM1
  have HO5 := Lib.hid (HO4.out.below HB5.out)
  have HM2 := Lib.hid (most_any [y0, y1] 2 oa 2 oc W5 HO5.out (by omega))
  go_wp2_with fail
  refine HM2.out.mono ?_
  intro e W6 hp
  have hp2 : e = .returned (.tuple #[.slice none 0 0, .int .i64 0]) ∧ W6 = W5 := by
    rcases hp with ⟨h, _⟩ | ⟨_, h1, h2⟩ | ⟨_, h, _⟩
    · omega
    · exact ⟨h1, h2⟩
    · omega
  obtain ⟨rfl, rfl⟩ := hp2
  clear hp HM2
  obtain ⟨b, o, rfl, _⟩ := HO5.out.addr (by omega)
  have c1 : W6.cell? ⟨b, o + 1, none⟩ = some (.int .i64 y1) := HO5.out.z_at 1 (by omega)
  have c0 : W6.cell? ⟨b, o, none⟩ = some (.int .i64 y0) := HO5.out.z_at 0 (by omega)
  have HIN := Lib.hid (fun (W : World) (hb : Below W6.heap.size W6 W) (k : Option Addr) (h : Sees W k 1 1 (zvs [z1])) => ints14_any [z1] [z1] _ k 1 1 1 1 W (HSA.out.below hb) h (by omega) (by omega))
  have wn1' : IntKind.i64.wrap (-y1) = z1 := by rw [IntWalk.i64_left]; exact wn1
  have wn0' : IntKind.i64.wrap (-y0) = z0 := by rw [IntWalk.i64_left]; exact wn0
  have wa' : IntKind.i64.wrap (af - 1) = (v : Int) := by rw [IntWalk.i64_left]; exact wa
  go_wp2_with fail
  refine (HIN.out _ (ext_alloc _ _) _ (seesI_lit W6 [z1] 1 _ rfl rfl)).mono ?_
  rintro e W7 ⟨rfl, hW7⟩
  simp only [decide_true]
  have hb7 : Below W6.heap.size W6 W7 := by rw [hW7]; exact ext_alloc _ _
  have p0 : W7.cell? ⟨b, o, none⟩ = some (.int .i64 y0) := cell_below c0 hb7
  have p1 : W7.cell? ⟨b, o + 1, none⟩ = some (.int .i64 y1) := cell_below c1 hb7
  have HW7 := Lib.hid (ext_trans HW4.out (ext_trans HB5.out hb7))
  have HZ7 := Lib.hid ((HZ4.out.below HB5.out).below hb7)
  have HCA : Hid (∀ (W : World) (G : List Int) (k : Option Addr) (m : Nat), Below W7.heap.size W7 W → Sees W k m m (zvs G) → m ≤ 100 → Calls Try.prog 12 #[.slice la ln lc, .slice k m m, .int .i64 (v : Int)] W (CanPost clsX G v W)) := fun W G k m hb h hm =>
    refCan_any clsX G v la k ln lc m m lss W (HZ7.out.below hb) h (by have := HE.out.1; omega) clsX_small (by omega) (by have := HE.out.2.1; omega)
  have HX1 : Hid (CanP clsX [1, -2, y0, z1] v) := by
    obtain ⟨_, rfl, rfl, _, _, rfl⟩ := HE.out
    exact can_ex1
  have HX2 : Hid (¬ CanP clsX [1, -2, z0] v) := by
    obtain ⟨_, rfl, _, _, rfl, _⟩ := HE.out
    exact can_ex (.inl rfl)
  have HX3 : Hid (¬ CanP clsX [1, -2, y1] v) := by
    obtain ⟨_, rfl, _, rfl, _, _⟩ := HE.out
    exact can_ex (.inr rfl)
  clear hW7 hb7 c0 c1 HIN HSA HB5 HO5 HO4 HZ4 HW4 HZ7
  go_upto_region 11 with fail
  refine wp_region_noPanic ?_
  refine wp_region_held (S := fun w' => w'.cell? ⟨b, o, none⟩ = some (.int .i64 y0) ∧ w'.cell? ⟨b, o + 1, none⟩ = some (.int .i64 y1)) (by kernel_rfl) ?_
  generalize hYY : ({ W7 with drawn := W7.drawn + 1 } : World) = Y0
  have HY0 : Hid (Below W7.heap.size W7 Y0) := by subst hYY; exact (Below.refl _ _).drew
  have HS0 : Hid (Y0.cell? ⟨b, o, none⟩ = some (.int .i64 y0) ∧ Y0.cell? ⟨b, o + 1, none⟩ = some (.int .i64 y1)) := ⟨cell_below p0 HY0.out, cell_below p1 HY0.out⟩
  clear hYY
  refine wpAnyH_take (i := 0) (v := ?_) (by simp only [List.getElem?_toArray, List.getElem?_cons_zero]; rfl) (by kernel_rfl) (by kernel_rfl) (by kernel_rfl) (fun _ _ _ h => h) (Or.inl ⟨by rfl, ?_⟩) HS0.out ?_
  rotate_left
  · intro w hSw
    (try dsimp only at hSw)
    obtain ⟨q0_, q1_⟩ := hSw
    go_simp
    try with_reducible rfl
  try simp only [Act.put, List.setIfInBounds_toArray, List.set_cons_zero, List.set_cons_succ]
  refine wpAnyH_take (i := 1) (v := ?_) (by simp only [List.getElem?_toArray, List.getElem?_cons_zero, List.getElem?_cons_succ]; rfl) (by kernel_rfl) (by kernel_rfl) (by kernel_rfl) (fun _ _ _ h => h) (Or.inl ⟨by rfl, ?_⟩) HS0.out ?_
  rotate_left
  · intro w hSw
    (try dsimp only at hSw)
    obtain ⟨q0_, q1_⟩ := hSw
    go_simp
    try with_reducible rfl
  try simp only [Act.put, List.setIfInBounds_toArray, List.set_cons_zero, List.set_cons_succ]
  refine wpAnyH_take (i := 2) (v := ?_) (by simp only [List.getElem?_toArray, List.getElem?_cons_zero, List.getElem?_cons_succ]; rfl) (by kernel_rfl) (by kernel_rfl) (by kernel_rfl) (fun _ _ _ h => h) (Or.inl ⟨by rfl, ?_⟩) HS0.out ?_
  rotate_left
  · intro w hSw
    (try dsimp only at hSw)
    obtain ⟨q0_, q1_⟩ := hSw
    go_simp
    try with_reducible rfl
  try simp only [Act.put, List.setIfInBounds_toArray, List.set_cons_zero, List.set_cons_succ]
  refine wpAnyH_take (i := 3) (v := ?_) (by simp only [List.getElem?_toArray, List.getElem?_cons_zero, List.getElem?_cons_succ]; rfl) (by kernel_rfl) (by kernel_rfl) (by kernel_rfl) (fun _ _ _ h => h) (Or.inl ⟨by rfl, ?_⟩) HS0.out ?_
  rotate_left
  · intro w hSw
    (try dsimp only at hSw)
    obtain ⟨q0_, q1_⟩ := hSw
    go_simp
    try with_reducible rfl
  try simp only [Act.put, List.setIfInBounds_toArray, List.set_cons_zero, List.set_cons_succ]
  refine wpAnyH_take (i := 4) (v := ?_) (by simp only [List.getElem?_toArray, List.getElem?_cons_zero, List.getElem?_cons_succ]; rfl) (by kernel_rfl) (by kernel_rfl) (by kernel_rfl) (fun _ _ _ h => h) (Or.inl ⟨by rfl, ?_⟩) HS0.out ?_
  rotate_left
  · intro w hSw
    (try dsimp only at hSw)
    obtain ⟨q0_, q1_⟩ := hSw
    go_simp
    try with_reducible rfl
  try simp only [Act.put, List.setIfInBounds_toArray, List.set_cons_zero, List.set_cons_succ]
  refine wpAnyH_take (i := 5) (v := ?_) (by simp only [List.getElem?_toArray, List.getElem?_cons_zero, List.getElem?_cons_succ]; rfl) (by kernel_rfl) (by kernel_rfl) (by kernel_rfl) (fun _ _ _ h => h) (Or.inl ⟨by rfl, ?_⟩) HS0.out ?_
  rotate_left
  · intro w hSw
    (try dsimp only at hSw)
    obtain ⟨q0_, q1_⟩ := hSw
    go_simp
    try with_reducible rfl
  try simp only [Act.put, List.setIfInBounds_toArray, List.set_cons_zero, List.set_cons_succ]
  refine wpAnyH_take (i := 6) (v := ?_) (by simp only [List.getElem?_toArray, List.getElem?_cons_zero, List.getElem?_cons_succ]; rfl) (by kernel_rfl) (by kernel_rfl) (by kernel_rfl) (fun _ _ _ h => h) (Or.inl ⟨by rfl, ?_⟩) HS0.out ?_
  rotate_left
  · intro w hSw
    (try dsimp only at hSw)
    obtain ⟨q0_, q1_⟩ := hSw
    go_simp
    try with_reducible rfl
  try simp only [Act.put, List.setIfInBounds_toArray, List.set_cons_zero, List.set_cons_succ]
  refine wpAnyH_take (i := 7) (v := ?_) (by simp only [List.getElem?_toArray, List.getElem?_cons_zero, List.getElem?_cons_succ]; rfl) (by kernel_rfl) (by kernel_rfl) (by kernel_rfl) (fun _ _ _ h => h) (Or.inl ⟨by rfl, ?_⟩) HS0.out ?_
  rotate_left
  · intro w hSw
    (try dsimp only at hSw)
    obtain ⟨q0_, q1_⟩ := hSw
    go_simp
    try with_reducible rfl
  try simp only [Act.put, List.setIfInBounds_toArray, List.set_cons_zero, List.set_cons_succ]
  refine wpAnyH_take (i := 9) (v := ?_) (by simp only [List.getElem?_toArray, List.getElem?_cons_zero, List.getElem?_cons_succ]; rfl) (by kernel_rfl) (by kernel_rfl) (by kernel_rfl) (fun _ _ _ h => h) (Or.inl ⟨by rfl, ?_⟩) HS0.out ?_
  rotate_left
  · intro w hSw
    (try dsimp only at hSw)
    obtain ⟨q0_, q1_⟩ := hSw
    go_simp
    try with_reducible rfl
  try simp only [Act.put, List.setIfInBounds_toArray, List.set_cons_zero, List.set_cons_succ]
  refine wpAnyH_take (i := 10) (v := ?_) (by simp only [List.getElem?_toArray, List.getElem?_cons_zero, List.getElem?_cons_succ]; rfl) (by kernel_rfl) (by kernel_rfl) (by kernel_rfl) (fun _ _ _ h => h) (Or.inl ⟨by rfl, ?_⟩) HS0.out ?_
  rotate_left
  · intro w hSw
    (try dsimp only at hSw)
    obtain ⟨q0_, q1_⟩ := hSw
    go_simp
    try with_reducible rfl
  try simp only [Act.put, List.setIfInBounds_toArray, List.set_cons_zero, List.set_cons_succ]
  refine wpAnyH_ready (rs := [8]) (by kernel_rfl) (by simp) ?_
  refine AllReadyH.cons (by simp only [List.getElem?_toArray, List.getElem?_cons_zero, List.getElem?_cons_succ]; rfl) (fun K hK => ?_) AllReadyH.nil
  go_simp
  generalize hYV : World.alloc Y0 _ = s1
  have hbv : Below Y0.heap.size Y0 s1 := by subst hYV; exact ext_alloc _ _
  have HY1 : Hid (Below W7.heap.size W7 s1) := by subst hYV; exact ext_trans HY0.out (ext_alloc _ _)
  have HL_s1 : Hid (Sees s1 (some ⟨Y0.heap.size, 0, none⟩) 4 4 (zvs [1, -2, y0, z1])) := by subst hYV; exact seesI_lit Y0 [1, -2, y0, z1] 4 _ rfl rfl
  have HS1 : Hid (s1.cell? ⟨b, o, none⟩ = some (.int .i64 y0) ∧ s1.cell? ⟨b, o + 1, none⟩ = some (.int .i64 y1)) := ⟨cell_below HS0.out.1 hbv, cell_below HS0.out.2 hbv⟩
  clear hYV hbv
  refine hK.out _ _ HS1.out (fun _ => ?_)
  clear hK K
  try simp only [Act.put, List.setIfInBounds_toArray, List.set_cons_zero, List.set_cons_succ]
  refine wpAnyH_ready (rs := [11]) (by kernel_rfl) (by simp) ?_
  refine AllReadyH.cons (by simp only [List.getElem?_toArray, List.getElem?_cons_zero, List.getElem?_cons_succ]; rfl) (fun K hK => ?_) AllReadyH.nil
  go_simp
  refine (HCA.out s1 [1, -2, y0, z1] _ 4 HY1.out HL_s1.out (by omega)).mono ?_
  rintro e s2 ⟨⟨bb, rfl, hbi⟩, hb⟩
  obtain rfl : bb = true := by
    exact hbi.2 HX1.out
  have HY2 := Lib.hid (ext_trans HY1.out hb)
  have HS2 : Hid (s2.cell? ⟨b, o, none⟩ = some (.int .i64 y0) ∧ s2.cell? ⟨b, o + 1, none⟩ = some (.int .i64 y1)) := ⟨cell_below HS1.out.1 hb, cell_below HS1.out.2 hb⟩
  clear hbi hb
  refine hK.out _ _ HS2.out (fun _ => ?_)
  clear hK K
  try simp only [Act.put, List.setIfInBounds_toArray, List.set_cons_zero, List.set_cons_succ]
  refine wpAnyH_take (i := 12) (v := ?_) (by simp only [List.getElem?_toArray, List.getElem?_cons_zero, List.getElem?_cons_succ]; rfl) (by kernel_rfl) (by kernel_rfl) (by kernel_rfl) (fun _ _ _ h => h) (Or.inl ⟨by rfl, ?_⟩) HS2.out ?_
  rotate_left
  · intro w hSw
    (try dsimp only at hSw)
    obtain ⟨q0_, q1_⟩ := hSw
    go_simp
    try with_reducible rfl
  try simp only [Act.put, List.setIfInBounds_toArray, List.set_cons_zero, List.set_cons_succ]
  refine wpAnyH_take (i := 13) (v := ?_) (by simp only [List.getElem?_toArray, List.getElem?_cons_zero, List.getElem?_cons_succ]; rfl) (by kernel_rfl) (by kernel_rfl) (by kernel_rfl) (fun _ _ _ h => h) (Or.inl ⟨by rfl, ?_⟩) HS2.out ?_
  rotate_left
  · intro w hSw
    (try dsimp only at hSw)
    obtain ⟨q0_, q1_⟩ := hSw
    go_simp
    try with_reducible rfl
  try simp only [Act.put, List.setIfInBounds_toArray, List.set_cons_zero, List.set_cons_succ]
  refine wpAnyH_take (i := 14) (v := ?_) (by simp only [List.getElem?_toArray, List.getElem?_cons_zero, List.getElem?_cons_succ]; rfl) (by kernel_rfl) (by kernel_rfl) (by kernel_rfl) (fun _ _ _ h => h) (Or.inl ⟨by rfl, ?_⟩) HS2.out ?_
  rotate_left
  · intro w hSw
    (try dsimp only at hSw)
    obtain ⟨q0_, q1_⟩ := hSw
    go_simp
    try with_reducible rfl
  try simp only [Act.put, List.setIfInBounds_toArray, List.set_cons_zero, List.set_cons_succ]
  refine wpAnyH_take (i := 15) (v := ?_) (by simp only [List.getElem?_toArray, List.getElem?_cons_zero, List.getElem?_cons_succ]; rfl) (by kernel_rfl) (by kernel_rfl) (by kernel_rfl) (fun _ _ _ h => h) (Or.inl ⟨by rfl, ?_⟩) HS2.out ?_
  rotate_left
  · intro w hSw
    (try dsimp only at hSw)
    obtain ⟨q0_, q1_⟩ := hSw
    go_simp
    try with_reducible rfl
  try simp only [Act.put, List.setIfInBounds_toArray, List.set_cons_zero, List.set_cons_succ]
  refine wpAnyH_take (i := 16) (v := ?_) (by simp only [List.getElem?_toArray, List.getElem?_cons_zero, List.getElem?_cons_succ]; rfl) (by kernel_rfl) (by kernel_rfl) (by kernel_rfl) (fun _ _ _ h => h) (Or.inl ⟨by rfl, ?_⟩) HS2.out ?_
  rotate_left
  · intro w hSw
    (try dsimp only at hSw)
    obtain ⟨q0_, q1_⟩ := hSw
    go_simp
    try with_reducible rfl
  try simp only [Act.put, List.setIfInBounds_toArray, List.set_cons_zero, List.set_cons_succ]
  refine wpAnyH_take (i := 17) (v := ?_) (by simp only [List.getElem?_toArray, List.getElem?_cons_zero, List.getElem?_cons_succ]; rfl) (by kernel_rfl) (by kernel_rfl) (by kernel_rfl) (fun _ _ _ h => h) (Or.inl ⟨by rfl, ?_⟩) HS2.out ?_
  rotate_left
  · intro w hSw
    (try dsimp only at hSw)
    obtain ⟨q0_, q1_⟩ := hSw
    go_simp
    try with_reducible rfl
  try simp only [Act.put, List.setIfInBounds_toArray, List.set_cons_zero, List.set_cons_succ]
  refine wpAnyH_take (i := 19) (v := ?_) (by simp only [List.getElem?_toArray, List.getElem?_cons_zero, List.getElem?_cons_succ]; rfl) (by kernel_rfl) (by kernel_rfl) (by kernel_rfl) (fun _ _ _ h => h) (Or.inl ⟨by rfl, ?_⟩) HS2.out ?_
  rotate_left
  · intro w hSw
    (try dsimp only at hSw)
    obtain ⟨q0_, q1_⟩ := hSw
    go_simp
    try with_reducible rfl
  try simp only [Act.put, List.setIfInBounds_toArray, List.set_cons_zero, List.set_cons_succ]
  refine wpAnyH_take (i := 20) (v := ?_) (by simp only [List.getElem?_toArray, List.getElem?_cons_zero, List.getElem?_cons_succ]; rfl) (by kernel_rfl) (by kernel_rfl) (by kernel_rfl) (fun _ _ _ h => h) (Or.inl ⟨by rfl, ?_⟩) HS2.out ?_
  rotate_left
  · intro w hSw
    (try dsimp only at hSw)
    obtain ⟨q0_, q1_⟩ := hSw
    go_simp
    try with_reducible rfl
  try simp only [Act.put, List.setIfInBounds_toArray, List.set_cons_zero, List.set_cons_succ]
  refine wpAnyH_ready (rs := [18]) (by kernel_rfl) (by simp) ?_
  refine AllReadyH.cons (by simp only [List.getElem?_toArray, List.getElem?_cons_zero, List.getElem?_cons_succ]; rfl) (fun K hK => ?_) AllReadyH.nil
  go_simp
  generalize hYV : World.alloc s2 _ = s3
  have hbv : Below s2.heap.size s2 s3 := by subst hYV; exact ext_alloc _ _
  have HY3 : Hid (Below W7.heap.size W7 s3) := by subst hYV; exact ext_trans HY2.out (ext_alloc _ _)
  have HL_s3 : Hid (Sees s3 (some ⟨s2.heap.size, 0, none⟩) 3 3 (zvs [1, -2, z0])) := by subst hYV; exact seesI_lit s2 [1, -2, z0] 3 _ rfl rfl
  have HS3 : Hid (s3.cell? ⟨b, o, none⟩ = some (.int .i64 y0) ∧ s3.cell? ⟨b, o + 1, none⟩ = some (.int .i64 y1)) := ⟨cell_below HS2.out.1 hbv, cell_below HS2.out.2 hbv⟩
  clear hYV hbv
  refine hK.out _ _ HS3.out (fun _ => ?_)
  clear hK K
  try simp only [Act.put, List.setIfInBounds_toArray, List.set_cons_zero, List.set_cons_succ]
  refine wpAnyH_ready (rs := [21]) (by kernel_rfl) (by simp) ?_
  refine AllReadyH.cons (by simp only [List.getElem?_toArray, List.getElem?_cons_zero, List.getElem?_cons_succ]; rfl) (fun K hK => ?_) AllReadyH.nil
  go_simp
  refine (HCA.out s3 [1, -2, z0] _ 3 HY3.out HL_s3.out (by omega)).mono ?_
  rintro e s4 ⟨⟨bb, rfl, hbi⟩, hb⟩
  obtain rfl : bb = false := by
    cases bb with
    | false => rfl
    | true => exact absurd (hbi.1 rfl) HX2.out
  have HY4 := Lib.hid (ext_trans HY3.out hb)
  have HS4 : Hid (s4.cell? ⟨b, o, none⟩ = some (.int .i64 y0) ∧ s4.cell? ⟨b, o + 1, none⟩ = some (.int .i64 y1)) := ⟨cell_below HS3.out.1 hb, cell_below HS3.out.2 hb⟩
  clear hbi hb
  refine hK.out _ _ HS4.out (fun _ => ?_)
  clear hK K
  try simp only [Act.put, List.setIfInBounds_toArray, List.set_cons_zero, List.set_cons_succ]
  refine wpAnyH_take (i := 22) (v := ?_) (by simp only [List.getElem?_toArray, List.getElem?_cons_zero, List.getElem?_cons_succ]; rfl) (by kernel_rfl) (by kernel_rfl) (by kernel_rfl) (fun _ _ _ h => h) (Or.inl ⟨by rfl, ?_⟩) HS4.out ?_
  rotate_left
  · intro w hSw
    (try dsimp only at hSw)
    obtain ⟨q0_, q1_⟩ := hSw
    go_simp
    try with_reducible rfl
  try simp only [Act.put, List.setIfInBounds_toArray, List.set_cons_zero, List.set_cons_succ]
  refine wpAnyH_take (i := 23) (v := ?_) (by simp only [List.getElem?_toArray, List.getElem?_cons_zero, List.getElem?_cons_succ]; rfl) (by kernel_rfl) (by kernel_rfl) (by kernel_rfl) (fun _ _ _ h => h) (Or.inl ⟨by rfl, ?_⟩) HS4.out ?_
  rotate_left
  · intro w hSw
    (try dsimp only at hSw)
    obtain ⟨q0_, q1_⟩ := hSw
    go_simp
    try with_reducible rfl
  try simp only [Act.put, List.setIfInBounds_toArray, List.set_cons_zero, List.set_cons_succ]
  refine wpAnyH_take (i := 24) (v := ?_) (by simp only [List.getElem?_toArray, List.getElem?_cons_zero, List.getElem?_cons_succ]; rfl) (by kernel_rfl) (by kernel_rfl) (by kernel_rfl) (fun _ _ _ h => h) (Or.inl ⟨by rfl, ?_⟩) HS4.out ?_
  rotate_left
  · intro w hSw
    (try dsimp only at hSw)
    obtain ⟨q0_, q1_⟩ := hSw
    go_simp
    try with_reducible rfl
  try simp only [Act.put, List.setIfInBounds_toArray, List.set_cons_zero, List.set_cons_succ]
  refine wpAnyH_take (i := 25) (v := ?_) (by simp only [List.getElem?_toArray, List.getElem?_cons_zero, List.getElem?_cons_succ]; rfl) (by kernel_rfl) (by kernel_rfl) (by kernel_rfl) (fun _ _ _ h => h) (Or.inl ⟨by rfl, ?_⟩) HS4.out ?_
  rotate_left
  · intro w hSw
    (try dsimp only at hSw)
    obtain ⟨q0_, q1_⟩ := hSw
    go_simp
    try with_reducible rfl
  try simp only [Act.put, List.setIfInBounds_toArray, List.set_cons_zero, List.set_cons_succ]
  refine wpAnyH_take (i := 26) (v := ?_) (by simp only [List.getElem?_toArray, List.getElem?_cons_zero, List.getElem?_cons_succ]; rfl) (by kernel_rfl) (by kernel_rfl) (by kernel_rfl) (fun _ _ _ h => h) (Or.inl ⟨by rfl, ?_⟩) HS4.out ?_
  rotate_left
  · intro w hSw
    (try dsimp only at hSw)
    obtain ⟨q0_, q1_⟩ := hSw
    go_simp
    try with_reducible rfl
  try simp only [Act.put, List.setIfInBounds_toArray, List.set_cons_zero, List.set_cons_succ]
  refine wpAnyH_take (i := 27) (v := ?_) (by simp only [List.getElem?_toArray, List.getElem?_cons_zero, List.getElem?_cons_succ]; rfl) (by kernel_rfl) (by kernel_rfl) (by kernel_rfl) (fun _ _ _ h => h) (Or.inl ⟨by rfl, ?_⟩) HS4.out ?_
  rotate_left
  · intro w hSw
    (try dsimp only at hSw)
    obtain ⟨q0_, q1_⟩ := hSw
    go_simp
    try with_reducible rfl
  try simp only [Act.put, List.setIfInBounds_toArray, List.set_cons_zero, List.set_cons_succ]
  refine wpAnyH_take (i := 28) (v := ?_) (by simp only [List.getElem?_toArray, List.getElem?_cons_zero, List.getElem?_cons_succ]; rfl) (by kernel_rfl) (by kernel_rfl) (by kernel_rfl) (fun _ _ _ h => h) (Or.inl ⟨by rfl, ?_⟩) HS4.out ?_
  rotate_left
  · intro w hSw
    (try dsimp only at hSw)
    obtain ⟨q0_, q1_⟩ := hSw
    go_simp
    try with_reducible rfl
  try simp only [Act.put, List.setIfInBounds_toArray, List.set_cons_zero, List.set_cons_succ]
  refine wpAnyH_take (i := 30) (v := ?_) (by simp only [List.getElem?_toArray, List.getElem?_cons_zero, List.getElem?_cons_succ]; rfl) (by kernel_rfl) (by kernel_rfl) (by kernel_rfl) (fun _ _ _ h => h) (Or.inl ⟨by rfl, ?_⟩) HS4.out ?_
  rotate_left
  · intro w hSw
    (try dsimp only at hSw)
    obtain ⟨q0_, q1_⟩ := hSw
    go_simp
    try with_reducible rfl
  try simp only [Act.put, List.setIfInBounds_toArray, List.set_cons_zero, List.set_cons_succ]
  refine wpAnyH_take (i := 31) (v := ?_) (by simp only [List.getElem?_toArray, List.getElem?_cons_zero, List.getElem?_cons_succ]; rfl) (by kernel_rfl) (by kernel_rfl) (by kernel_rfl) (fun _ _ _ h => h) (Or.inl ⟨by rfl, ?_⟩) HS4.out ?_
  rotate_left
  · intro w hSw
    (try dsimp only at hSw)
    obtain ⟨q0_, q1_⟩ := hSw
    go_simp
    try with_reducible rfl
  try simp only [Act.put, List.setIfInBounds_toArray, List.set_cons_zero, List.set_cons_succ]
  refine wpAnyH_ready (rs := [29]) (by kernel_rfl) (by simp) ?_
  refine AllReadyH.cons (by simp only [List.getElem?_toArray, List.getElem?_cons_zero, List.getElem?_cons_succ]; rfl) (fun K hK => ?_) AllReadyH.nil
  go_simp
  generalize hYV : World.alloc s4 _ = s5
  have hbv : Below s4.heap.size s4 s5 := by subst hYV; exact ext_alloc _ _
  have HY5 : Hid (Below W7.heap.size W7 s5) := by subst hYV; exact ext_trans HY4.out (ext_alloc _ _)
  have HL_s5 : Hid (Sees s5 (some ⟨s4.heap.size, 0, none⟩) 3 3 (zvs [1, -2, y1])) := by subst hYV; exact seesI_lit s4 [1, -2, y1] 3 _ rfl rfl
  have HS5 : Hid (s5.cell? ⟨b, o, none⟩ = some (.int .i64 y0) ∧ s5.cell? ⟨b, o + 1, none⟩ = some (.int .i64 y1)) := ⟨cell_below HS4.out.1 hbv, cell_below HS4.out.2 hbv⟩
  clear hYV hbv
  refine hK.out _ _ HS5.out (fun _ => ?_)
  clear hK K
  try simp only [Act.put, List.setIfInBounds_toArray, List.set_cons_zero, List.set_cons_succ]
  refine wpAnyH_ready (rs := [32]) (by kernel_rfl) (by simp) ?_
  refine AllReadyH.cons (by simp only [List.getElem?_toArray, List.getElem?_cons_zero, List.getElem?_cons_succ]; rfl) (fun K hK => ?_) AllReadyH.nil
  go_simp
  refine (HCA.out s5 [1, -2, y1] _ 3 HY5.out HL_s5.out (by omega)).mono ?_
  rintro e s6 ⟨⟨bb, rfl, hbi⟩, hb⟩
  obtain rfl : bb = false := by
    cases bb with
    | false => rfl
    | true => exact absurd (hbi.1 rfl) HX3.out
  have HY6 := Lib.hid (ext_trans HY5.out hb)
  have HS6 : Hid (s6.cell? ⟨b, o, none⟩ = some (.int .i64 y0) ∧ s6.cell? ⟨b, o + 1, none⟩ = some (.int .i64 y1)) := ⟨cell_below HS5.out.1 hb, cell_below HS5.out.2 hb⟩
  clear hbi hb
  refine hK.out _ _ HS6.out (fun _ => ?_)
  clear hK K
  try simp only [Act.put, List.setIfInBounds_toArray, List.set_cons_zero, List.set_cons_succ]
  refine wpAnyH_take (i := 33) (v := ?_) (by simp only [List.getElem?_toArray, List.getElem?_cons_zero, List.getElem?_cons_succ]; rfl) (by kernel_rfl) (by kernel_rfl) (by kernel_rfl) (fun _ _ _ h => h) (Or.inl ⟨by rfl, ?_⟩) HS6.out ?_
  rotate_left
  · intro w hSw
    (try dsimp only at hSw)
    obtain ⟨q0_, q1_⟩ := hSw
    go_simp
    try with_reducible rfl
  try simp only [Act.put, List.setIfInBounds_toArray, List.set_cons_zero, List.set_cons_succ]
  refine wpAnyH_take (i := 34) (v := ?_) (by simp only [List.getElem?_toArray, List.getElem?_cons_zero, List.getElem?_cons_succ]; rfl) (by kernel_rfl) (by kernel_rfl) (by kernel_rfl) (fun _ _ _ h => h) (Or.inl ⟨by rfl, ?_⟩) HS6.out ?_
  rotate_left
  · intro w hSw
    (try dsimp only at hSw)
    obtain ⟨q0_, q1_⟩ := hSw
    go_simp
    try with_reducible rfl
  try simp only [Act.put, List.setIfInBounds_toArray, List.set_cons_zero, List.set_cons_succ]
  refine wpAnyH_take (i := 35) (v := ?_) (by simp only [List.getElem?_toArray, List.getElem?_cons_zero, List.getElem?_cons_succ]; rfl) (by kernel_rfl) (by kernel_rfl) (by kernel_rfl) (fun _ _ _ h => h) (Or.inl ⟨by rfl, ?_⟩) HS6.out ?_
  rotate_left
  · intro w hSw
    (try dsimp only at hSw)
    obtain ⟨q0_, q1_⟩ := hSw
    go_simp
    try with_reducible rfl
  try simp only [Act.put, List.setIfInBounds_toArray, List.set_cons_zero]
  refine wpAnyH_done (by kernel_rfl) ?_ _
  refine NoPanic.normal ?_
  go_wp2
  go_ret
  exact ⟨rfl, ext_trans HW7.out HY6.out⟩
end Go.Proofs.Ytionibckeicncaa
