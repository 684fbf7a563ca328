/- enc.of, by its contract. -/
import Derived.Test.YtcoehbkjccfhlaaGEncT01
import Derived.Test.YtcoehbkjccfhlaaGEncT03
import Derived.Test.YtcoehbkjccfhlaaGEncT02
import Derived.Test.YtcoehbkjccfhlaaGEncT07
import Derived.Test.YtcoehbkjccfhlaaNMayC
import Derived.Test.YtcoehbkjccfhlaaGEncT10
import Derived.Test.YtcoehbkjccfhlaaRows
import Derived.BigQuiet
import Derived.Deep.AppendLies
import Derived.Deep.CutRange
import Derived.Deep.QuietTactic
import Derived.Deep.RegionHeld3
import Derived.Deep.RegionLaw
import Derived.Deep.RegionWith
import Derived.KernelRfl
import Derived.Laws.EntriesVeiled
import Derived.Laws.Tables
import Derived.Lib.ConvBytes
import Derived.Lib.Hide
import Derived.Lib.SlBytesRow
import Derived.Lib.SmallJoins
import Derived.Maps.AppendAt
import Derived.Shelf.Bytes.SlSmallAll
import Derived.WalkKit
import Derived.WalkLawsBesides
import Derived.WalkSpells
namespace Go.Proofs.Ytcoehbkjccfhlaa
open Go Go.RowKit Go.Joins

/-- The zero unrolling. -/
def uZ : Value := .agg #[.int .i64 0, .slice none 0 0, .slice none 0 0, .slice none 0 0, .slice none 0 0, .slice none 0 0, .int .i64 0, .int .i64 0]
theorem u_set {X : World} {g : Nat} {C : Array Value} {t : TypeId} (h : X.heap[g]? = some (.cells C t (0, 0))) (hC : C.size = 8) (u0 u1 u2 u3 u4 u5 u6 u7 : Value) :
    ((((((((X.setCell ⟨g, 0, .none⟩ u0).setCell ⟨g, 1, .none⟩ u1).setCell ⟨g, 2, .none⟩ u2).setCell ⟨g, 3, .none⟩ u3).setCell ⟨g, 4, .none⟩ u4).setCell ⟨g, 5, .none⟩ u5).setCell ⟨g, 6, .none⟩ u6).setCell ⟨g, 7, .none⟩ u7).heap[g]? = some (.cells #[u0, u1, u2, u3, u4, u5, u6, u7] t (0, 0)) := by
  obtain ⟨l⟩ := C
  match l, hC with
  | [_, _, _, _, _, _, _, _], _ =>
    have h0 := block_setCell h (i := 0) u0
    have h1 := block_setCell h0 (i := 1) u1
    have h2 := block_setCell h1 (i := 2) u2
    have h3 := block_setCell h2 (i := 3) u3
    have h4 := block_setCell h3 (i := 4) u4
    have h5 := block_setCell h4 (i := 5) u5
    have h6 := block_setCell h5 (i := 6) u6
    have h7 := block_setCell h6 (i := 7) u7
    simpa using h7
theorem set8 {B : Nat} {w X : World} (g : Nat) (hg : B ≤ g) (h : Below B w X) {u0 u1 u2 u3 u4 u5 u6 u7 : Value} :
    Below B w ((((((((X.setCell ⟨g, 0, .none⟩ u0).setCell ⟨g, 1, .none⟩ u1).setCell ⟨g, 2, .none⟩ u2).setCell ⟨g, 3, .none⟩ u3).setCell ⟨g, 4, .none⟩ u4).setCell ⟨g, 5, .none⟩ u5).setCell ⟨g, 6, .none⟩ u6).setCell ⟨g, 7, .none⟩ u7) :=
  (((((((h.setCell hg _).setCell hg _).setCell hg _).setCell hg _).setCell hg _).setCell hg _).setCell hg _).setCell hg _
theorem set8_other {X : World} (g D : Nat) (hD : D ≠ g) (u0 u1 u2 u3 u4 u5 u6 u7 : Value) :
    ((((((((X.setCell ⟨g, 0, .none⟩ u0).setCell ⟨g, 1, .none⟩ u1).setCell ⟨g, 2, .none⟩ u2).setCell ⟨g, 3, .none⟩ u3).setCell ⟨g, 4, .none⟩ u4).setCell ⟨g, 5, .none⟩ u5).setCell ⟨g, 6, .none⟩ u6).setCell ⟨g, 7, .none⟩ u7).heap[D]? = X.heap[D]? := by
  rw [Below.heap_setCell _ ⟨g, 7, .none⟩ _ D hD, Below.heap_setCell _ ⟨g, 6, .none⟩ _ D hD, Below.heap_setCell _ ⟨g, 5, .none⟩ _ D hD, Below.heap_setCell _ ⟨g, 4, .none⟩ _ D hD, Below.heap_setCell _ ⟨g, 3, .none⟩ _ D hD, Below.heap_setCell _ ⟨g, 2, .none⟩ _ D hD, Below.heap_setCell _ ⟨g, 1, .none⟩ _ D hD, Below.heap_setCell _ ⟨g, 0, .none⟩ _ D hD]
/-- What 'of' answers. -/
def OfE (c : NormC) (s : CSlots) (z : Int) (w : World) (e : Ending) (w' : World) : Prop :=
  Below w.heap.size w w' ∧ ((ofOk c z = true ∧ e = .returned (.tuple #[uV c.ins s (varsN c) z.toNat, .int .i64 0])) ∨ (ofOk c z = false ∧ e = .returned (.tuple #[uZ, .int .i64 2])))
set_option maxRecDepth 100000 in
set_option maxHeartbeats 3200000 in
theorem enof_any (c : NormC) (s : CSlots) (z : Int) (w : World) (h : SeesCir w s c) (hs : s.small) (hlo : -9223372036854775808 ≤ c.ins) (hhi : c.ins < 9223372036854775808) :
    Calls Try.prog 30 #[cirV c.ins s, .int .i64 z] w (OfE c s z w) := by
  have HMAY := Lib.hid (fun W (hb : Below w.heap.size w W) => may3_any c s W (h.below hb) hs hlo hhi)
  have HVAR := Lib.hid (fun W (hb : Below w.heap.size w W) => vars_any c s W (h.below hb) hs hlo hhi)
  have HV : Hid (mayC c = true → varsC c = varsN c) := fun h => by unfold varsC; rw [if_pos h]
  clear h hs hlo hhi
  obtain ⟨a1, n1, c1, a2, n2, c2, a3, n3, c3, a4, n4, c4, a5, n5, c5⟩ := s
  obtain ⟨x, hx⟩ : ∃ x, x = c.ins := ⟨_, rfl⟩
  obtain ⟨q, hq⟩ : ∃ q, q = mayC c := ⟨_, rfl⟩
  have HOK : Hid (ofOk c z = (framesOk z && q)) := by rw [hq]; rfl
  obtain ⟨o, ho⟩ : ∃ o, o = ofOk c z := ⟨_, rfl⟩
  unfold OfE
  rw [← hx, ← ho]
  rw [← ho] at HOK
  rw [← hx, ← hq] at HMAY
  rw [← hx] at HVAR
  rw [← hq] at HV
  clear hx hq ho
  unfold cirV uV at *
  by_cases z1 : z < 1
  · have e1 : decide (z < (1 : Int)) = true := by simpa using z1
    have HO : Hid (o = false) := by show _ = _; rw [HOK.out]; simp [framesOk]; omega
    clear HOK z1 HMAY HVAR HV
    go_enter Try.func30, Try.ntmps30
    go_wp2_with fail
    generalize hW : World.alloc (World.alloc w _) _ = W2
    have hR : W2.heap[w.heap.size + 1]? = some (.cells #[.int .i64 0, .slice none 0 0, .slice none 0 0, .slice none 0 0, .slice none 0 0, .slice none 0 0, .int .i64 0, .int .i64 0] 67 (0, 0)) := by subst hW; exact heap_new _ _ _ (by simp)
    have hB : Below w.heap.size w W2 := by subst hW; exact ext_trans (ext_alloc _ _) (ext_alloc _ _)
    clear hW
    refine bodyPost_ret (v := .tuple #[uZ, .int .i64 2]) ?_ rfl ?_
    · have h6 := hR
      have g0 := cell_of_block h6 0
      have g1 := cell_of_block h6 1
      have g2 := cell_of_block h6 2
      have g3 := cell_of_block h6 3
      have g4 := cell_of_block h6 4
      have g5 := cell_of_block h6 5
      have g6 := cell_of_block h6 6
      have g7 := cell_of_block h6 7
      simp [results, Try.results30, go_sem, g0, g1, g2, g3, g4, g5, g6, g7]
      rfl
    · exact ⟨hB, Or.inr ⟨HO.out, rfl⟩⟩
  by_cases z2 : 256 < z
  · have e1 : decide (z < (1 : Int)) = false := by simpa using z1
    have e2 : decide ((256 : Int) < z) = true := by simpa using z2
    have HO : Hid (o = false) := by show _ = _; rw [HOK.out]; simp [framesOk]; omega
    clear HOK z1 z2 HMAY HVAR HV
    go_enter Try.func30, Try.ntmps30
    go_wp2_with fail
    generalize hW : World.alloc (World.alloc w _) _ = W2
    have hR : W2.heap[w.heap.size + 1]? = some (.cells #[.int .i64 0, .slice none 0 0, .slice none 0 0, .slice none 0 0, .slice none 0 0, .slice none 0 0, .int .i64 0, .int .i64 0] 67 (0, 0)) := by subst hW; exact heap_new _ _ _ (by simp)
    have hB : Below w.heap.size w W2 := by subst hW; exact ext_trans (ext_alloc _ _) (ext_alloc _ _)
    clear hW
    refine bodyPost_ret (v := .tuple #[uZ, .int .i64 2]) ?_ rfl ?_
    · have h6 := hR
      have g0 := cell_of_block h6 0
      have g1 := cell_of_block h6 1
      have g2 := cell_of_block h6 2
      have g3 := cell_of_block h6 3
      have g4 := cell_of_block h6 4
      have g5 := cell_of_block h6 5
      have g6 := cell_of_block h6 6
      have g7 := cell_of_block h6 7
      simp [results, Try.results30, go_sem, g0, g1, g2, g3, g4, g5, g6, g7]
      rfl
    · exact ⟨hB, Or.inr ⟨HO.out, rfl⟩⟩
  have e1 : decide (z < (1 : Int)) = false := by simpa using z1
  have e2 : decide ((256 : Int) < z) = false := by simpa using z2
  have HO : Hid (o = q) := by show _ = _; rw [HOK.out]; simp [framesOk]; omega
  clear HOK
  go_enter Try.func30, Try.ntmps30
  obtain ⟨nf, rfl⟩ := Int.eq_ofNat_of_zero_le (show 0 ≤ z by omega)
  clear z1 z2
  go_upto_region 1 with fail
  generalize hW : World.alloc (World.alloc w _) _ = W2
  have hR : W2.heap[w.heap.size + 1]? = some (.cells #[.int .i64 0, .slice none 0 0, .slice none 0 0, .slice none 0 0, .slice none 0 0, .slice none 0 0, .int .i64 0, .int .i64 0] 67 (0, 0)) := by subst hW; exact heap_new _ _ _ (by simp)
  have hX : W2.heap[w.heap.size]? = some (.cells #[.int .i64 x, .slice a1 n1 c1, .slice a2 n2 c2, .slice a3 n3 c3, .slice a4 n4 c4, .slice a5 n5 c5] 26 (0, 0)) := by subst hW; exact heap_below (heap_new _ _ _ rfl) (ext_alloc _ _)
  have hB : Below w.heap.size w W2 := by subst hW; exact ext_trans (ext_alloc _ _) (ext_alloc _ _)
  have HR := Lib.hid hR
  have HX := Lib.hid hX
  have HB := Lib.hid hB
  clear hW hR hX hB
  have p0 := cell_of_block HX.out 0
  have p1 := cell_of_block HX.out 1
  have p2 := cell_of_block HX.out 2
  have p3 := cell_of_block HX.out 3
  have p4 := cell_of_block HX.out 4
  have p5 := cell_of_block HX.out 5
  go_wp2_with fail
  refine (HMAY.out W2 HB.out).mono ?_
  rintro e W3 ⟨rfl, hb⟩
  have hX3 := heap_below HX.out hb
  have hR3 := heap_below HR.out hb
  have hB3 := ext_trans HB.out hb
  clear p0 p1 p2 p3 p4 p5 hb HX HR HB HMAY
  cases q with
  | false =>
    have HR := Lib.hid hR3
    have HB := Lib.hid hB3
    clear hR3 hB3 hX3
    have y0 := unfrozen_of_block HR.out 0
    have y1 := unfrozen_of_block HR.out 1
    have y2 := unfrozen_of_block HR.out 2
    have y3 := unfrozen_of_block HR.out 3
    have y4 := unfrozen_of_block HR.out 4
    have y5 := unfrozen_of_block HR.out 5
    have y6 := unfrozen_of_block HR.out 6
    have y7 := unfrozen_of_block HR.out 7
    have r0 := cell_of_block HR.out 0
    have r1 := cell_of_block HR.out 1
    have r2 := cell_of_block HR.out 2
    have r3 := cell_of_block HR.out 3
    have r4 := cell_of_block HR.out 4
    have r5 := cell_of_block HR.out 5
    have r6 := cell_of_block HR.out 6
    have r7 := cell_of_block HR.out 7
    go_wp2_with fail
    refine bodyPost_ret (v := .tuple #[uZ, .int .i64 2]) ?_ rfl ?_
    · have h6 := u_set HR.out rfl (.int .i64 0) (.slice none 0 0) (.slice none 0 0) (.slice none 0 0) (.slice none 0 0) (.slice none 0 0) (.int .i64 0) (.int .i64 0)
      have g0 := cell_of_block h6 0
      have g1 := cell_of_block h6 1
      have g2 := cell_of_block h6 2
      have g3 := cell_of_block h6 3
      have g4 := cell_of_block h6 4
      have g5 := cell_of_block h6 5
      have g6 := cell_of_block h6 6
      have g7 := cell_of_block h6 7
      simp [results, Try.results30, go_sem, g0, g1, g2, g3, g4, g5, g6, g7]
      rfl
    · exact ⟨by with_reducible exact set8 (w.heap.size + 1) (Nat.le_succ _) HB.out, Or.inr ⟨HO.out, rfl⟩⟩
  | true =>
    have HV2 := Lib.hid (HV.out rfl)
    obtain ⟨V, hVV⟩ : ∃ V, V = varsC c := ⟨_, rfl⟩
    have HX := Lib.hid hX3
    have HR := Lib.hid hR3
    have HB := Lib.hid hB3
    clear hX3 hR3 hB3
    rw [← hVV] at HV2 HVAR
    have HC : Hid (∀ W, Below W3.heap.size W3 W → Calls Try.prog 59 #[.agg #[.int .i64 x, .slice a1 n1 c1, .slice a2 n2 c2, .slice a3 n3 c3, .slice a4 n4 c4, .slice a5 n5 c5]] W (fun e w' => e = .returned (.int .i64 (V : Int)) ∧ Below W.heap.size W w')) := fun W hb => HVAR.out W (ext_trans HB.out hb)
    clear hVV HVAR
    have p0 : W3.cell? ⟨w.heap.size, 0, none⟩ = some (.int .i64 x) := cell_of_block HX.out 0
    have p1 : W3.cell? ⟨w.heap.size, 1, none⟩ = some (.slice a1 n1 c1) := cell_of_block HX.out 1
    have p2 : W3.cell? ⟨w.heap.size, 2, none⟩ = some (.slice a2 n2 c2) := cell_of_block HX.out 2
    have p3 : W3.cell? ⟨w.heap.size, 3, none⟩ = some (.slice a3 n3 c3) := cell_of_block HX.out 3
    have p4 : W3.cell? ⟨w.heap.size, 4, none⟩ = some (.slice a4 n4 c4) := cell_of_block HX.out 4
    have p5 : W3.cell? ⟨w.heap.size, 5, none⟩ = some (.slice a5 n5 c5) := cell_of_block HX.out 5
    go_upto_region 3 with fail
    refine wp_region_noPanic ?_
    refine wp_region_held (S := fun w' => w'.cell? ⟨w.heap.size, 0, none⟩ = some (.int .i64 x) ∧ w'.cell? ⟨w.heap.size, 1, none⟩ = some (.slice a1 n1 c1) ∧ w'.cell? ⟨w.heap.size, 2, none⟩ = some (.slice a2 n2 c2) ∧ w'.cell? ⟨w.heap.size, 3, none⟩ = some (.slice a3 n3 c3) ∧ w'.cell? ⟨w.heap.size, 4, none⟩ = some (.slice a4 n4 c4) ∧ w'.cell? ⟨w.heap.size, 5, none⟩ = some (.slice a5 n5 c5)) (by kernel_rfl) ?_
    generalize hYY : ({ W3 with drawn := W3.drawn + 1 } : World) = Y0
    have HY0 : Hid (Below W3.heap.size W3 Y0) := by subst hYY; exact (Below.refl _ _).drew
    have HS0 : Hid (Y0.cell? ⟨w.heap.size, 0, none⟩ = some (.int .i64 x) ∧ Y0.cell? ⟨w.heap.size, 1, none⟩ = some (.slice a1 n1 c1) ∧ Y0.cell? ⟨w.heap.size, 2, none⟩ = some (.slice a2 n2 c2) ∧ Y0.cell? ⟨w.heap.size, 3, none⟩ = some (.slice a3 n3 c3) ∧ Y0.cell? ⟨w.heap.size, 4, none⟩ = some (.slice a4 n4 c4) ∧ Y0.cell? ⟨w.heap.size, 5, none⟩ = some (.slice a5 n5 c5)) := ⟨cell_below p0 HY0.out, cell_below p1 HY0.out, cell_below p2 HY0.out, cell_below p3 HY0.out, cell_below p4 HY0.out, cell_below p5 HY0.out⟩
    clear hYY
    refine wpAnyH_take (i := 0) (v := ?_) (by simp only [List.getElem?_toArray, List.getElem?_cons_zero]; rfl) (by kernel_rfl) (by kernel_rfl) (by kernel_rfl) (fun _ _ _ h => h) (Or.inl ⟨by rfl, ?_⟩) HS0.out ?_
    rotate_left
    · intro w hSw
      (try dsimp only at hSw)
      obtain ⟨q0_, q1_, q2_, q3_, q4_, q5_⟩ := hSw
      go_simp
      try with_reducible rfl
    try simp only [Act.put, List.setIfInBounds_toArray, List.set_cons_zero, List.set_cons_succ]
    refine wpAnyH_take (i := 1) (v := ?_) (by simp only [List.getElem?_toArray, List.getElem?_cons_zero, List.getElem?_cons_succ]; rfl) (by kernel_rfl) (by kernel_rfl) (by kernel_rfl) (fun _ _ _ h => h) (Or.inl ⟨by rfl, ?_⟩) HS0.out ?_
    rotate_left
    · intro w hSw
      (try dsimp only at hSw)
      obtain ⟨q0_, q1_, q2_, q3_, q4_, q5_⟩ := hSw
      go_simp
      try with_reducible rfl
    try simp only [Act.put, List.setIfInBounds_toArray, List.set_cons_zero, List.set_cons_succ]
    refine wpAnyH_take (i := 3) (v := ?_) (by simp only [List.getElem?_toArray, List.getElem?_cons_zero, List.getElem?_cons_succ]; rfl) (by kernel_rfl) (by kernel_rfl) (by kernel_rfl) (fun _ _ _ h => h) (Or.inl ⟨by rfl, ?_⟩) HS0.out ?_
    rotate_left
    · intro w hSw
      (try dsimp only at hSw)
      obtain ⟨q0_, q1_, q2_, q3_, q4_, q5_⟩ := hSw
      go_simp
      try with_reducible rfl
    try simp only [Act.put, List.setIfInBounds_toArray, List.set_cons_zero, List.set_cons_succ]
    refine wpAnyH_ready (rs := [2]) (by kernel_rfl) (by simp) ?_
    refine AllReadyH.cons (by simp only [List.getElem?_toArray, List.getElem?_cons_zero, List.getElem?_cons_succ]; rfl) (fun K hK => ?_) AllReadyH.nil
    go_simp
    refine (HC.out _ HY0.out).mono ?_
    rintro e s1 ⟨rfl, b1⟩
    have HB1 := Lib.hid (ext_trans HY0.out b1)
    have HS1 : Hid (s1.cell? ⟨w.heap.size, 0, none⟩ = some (.int .i64 x) ∧ s1.cell? ⟨w.heap.size, 1, none⟩ = some (.slice a1 n1 c1) ∧ s1.cell? ⟨w.heap.size, 2, none⟩ = some (.slice a2 n2 c2) ∧ s1.cell? ⟨w.heap.size, 3, none⟩ = some (.slice a3 n3 c3) ∧ s1.cell? ⟨w.heap.size, 4, none⟩ = some (.slice a4 n4 c4) ∧ s1.cell? ⟨w.heap.size, 5, none⟩ = some (.slice a5 n5 c5)) := ⟨cell_below HS0.out.1 b1, cell_below HS0.out.2.1 b1, cell_below HS0.out.2.2.1 b1, cell_below HS0.out.2.2.2.1 b1, cell_below HS0.out.2.2.2.2.1 b1, cell_below HS0.out.2.2.2.2.2 b1⟩
    refine hK.out _ _ HS1.out (fun _ => ?_)
    clear hK K
    try simp only [Act.put, List.setIfInBounds_toArray, List.set_cons_zero, List.set_cons_succ]
    clear b1
    refine wpAnyH_take (i := 4) (v := ?_) (by simp only [List.getElem?_toArray, List.getElem?_cons_zero, List.getElem?_cons_succ]; rfl) (by kernel_rfl) (by kernel_rfl) (by kernel_rfl) (fun _ _ _ h => h) (Or.inl ⟨by rfl, ?_⟩) HS1.out ?_
    rotate_left
    · intro w hSw
      (try dsimp only at hSw)
      obtain ⟨q0_, q1_, q2_, q3_, q4_, q5_⟩ := hSw
      go_simp
      try with_reducible rfl
    try simp only [Act.put, List.setIfInBounds_toArray, List.set_cons_zero, List.set_cons_succ]
    have hz := heap_below HR.out HB1.out
    have z0 := cell_of_block hz 0
    have y0 := unfrozen_of_block hz 0
    have z1 := cell_of_block hz 1
    have y1 := unfrozen_of_block hz 1
    have z2 := cell_of_block hz 2
    have y2 := unfrozen_of_block hz 2
    have z3 := cell_of_block hz 3
    have y3 := unfrozen_of_block hz 3
    have z4 := cell_of_block hz 4
    have y4 := unfrozen_of_block hz 4
    have z5 := cell_of_block hz 5
    have y5 := unfrozen_of_block hz 5
    have z6 := cell_of_block hz 6
    have y6 := unfrozen_of_block hz 6
    have z7 := cell_of_block hz 7
    have y7 := unfrozen_of_block hz 7
    have HZ := Lib.hid hz
    clear hz
    refine wpAnyH_ready (rs := [5]) (by kernel_rfl) (by simp) ?_
    refine AllReadyH.cons (by simp only [List.getElem?_toArray, List.getElem?_cons_zero, List.getElem?_cons_succ]; rfl) (fun K hK => ?_) AllReadyH.nil
    go_simp
    generalize hS2 : World.setCell _ _ _ = s2
    have hR2 : s2.heap[w.heap.size + 1]? = some (.cells #[.int .i64 x, .slice a1 n1 c1, .slice a2 n2 c2, .slice a3 n3 c3, .slice a4 n4 c4, .slice a5 n5 c5, .int .i64 (V : Int), .int .i64 (nf : Int)] 67 (0, 0)) := by subst hS2; exact u_set HZ.out rfl (.int .i64 x) (.slice a1 n1 c1) (.slice a2 n2 c2) (.slice a3 n3 c3) (.slice a4 n4 c4) (.slice a5 n5 c5) (.int .i64 (V : Int)) (.int .i64 (nf : Int))
    have hB2 : Below w.heap.size w s2 := by subst hS2; with_reducible exact set8 (w.heap.size + 1) (by omega) (ext_trans HB.out HB1.out)
    have hX2 : s2.heap[w.heap.size]? = some (.cells #[.int .i64 x, .slice a1 n1 c1, .slice a2 n2 c2, .slice a3 n3 c3, .slice a4 n4 c4, .slice a5 n5 c5] 26 (0, 0)) := by subst hS2; exact (set8_other (w.heap.size + 1) (w.heap.size) (by omega) _ _ _ _ _ _ _ _).trans (heap_below HX.out HB1.out)
    clear hS2
    have HS2 : Hid (s2.cell? ⟨w.heap.size, 0, none⟩ = some (.int .i64 x) ∧ s2.cell? ⟨w.heap.size, 1, none⟩ = some (.slice a1 n1 c1) ∧ s2.cell? ⟨w.heap.size, 2, none⟩ = some (.slice a2 n2 c2) ∧ s2.cell? ⟨w.heap.size, 3, none⟩ = some (.slice a3 n3 c3) ∧ s2.cell? ⟨w.heap.size, 4, none⟩ = some (.slice a4 n4 c4) ∧ s2.cell? ⟨w.heap.size, 5, none⟩ = some (.slice a5 n5 c5)) := ⟨cell_of_block hX2 0, cell_of_block hX2 1, cell_of_block hX2 2, cell_of_block hX2 3, cell_of_block hX2 4, cell_of_block hX2 5⟩
    have HR2 := Lib.hid hR2
    have HB2 := Lib.hid hB2
    clear hR2 hX2 hB2
    refine hK.out _ _ HS2.out (fun _ => ?_)
    clear hK K
    try simp only [Act.put, List.setIfInBounds_toArray, List.set_cons_zero, List.set_cons_succ]
    refine wpAnyH_take (i := 6) (v := ?_) (by simp only [List.getElem?_toArray, List.getElem?_cons_zero, List.getElem?_cons_succ]; rfl) (by kernel_rfl) (by kernel_rfl) (by kernel_rfl) (fun _ _ _ h => h) (Or.inl ⟨by rfl, ?_⟩) HS2.out ?_
    rotate_left
    · intro w hSw
      (try dsimp only at hSw)
      obtain ⟨q0_, q1_, q2_, q3_, q4_, q5_⟩ := hSw
      go_simp
      try with_reducible rfl
    try simp only [Act.put, List.setIfInBounds_toArray, List.set_cons_zero, List.set_cons_succ]
    refine wpAnyH_done (by kernel_rfl) ?_ _
    refine NoPanic.normal ?_
    go_wp2
    refine bodyPost_ret (v := .tuple #[uV x ⟨a1, n1, c1, a2, n2, c2, a3, n3, c3, a4, n4, c4, a5, n5, c5⟩ V nf, .int .i64 0]) ?_ rfl ?_
    · have h6 := HR2.out
      have g0 := cell_of_block h6 0
      have g1 := cell_of_block h6 1
      have g2 := cell_of_block h6 2
      have g3 := cell_of_block h6 3
      have g4 := cell_of_block h6 4
      have g5 := cell_of_block h6 5
      have g6 := cell_of_block h6 6
      have g7 := cell_of_block h6 7
      simp [results, Try.results30, go_sem, g0, g1, g2, g3, g4, g5, g6, g7]
      rfl
    · exact ⟨HB2.out, Or.inl ⟨HO.out, by rw [HV2.out]; rfl⟩⟩
end Go.Proofs.Ytcoehbkjccfhlaa
