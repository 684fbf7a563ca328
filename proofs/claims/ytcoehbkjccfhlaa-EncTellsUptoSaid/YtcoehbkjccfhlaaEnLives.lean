/- inquestlaw14.lives, by its contract. -/
import Derived.Test.YtcoehbkjccfhlaaGEncT00
import Derived.Test.YtcoehbkjccfhlaaGEncT01
import Derived.Test.YtcoehbkjccfhlaaGEncT02
import Derived.Test.YtcoehbkjccfhlaaGEncT05
import Derived.Test.YtcoehbkjccfhlaaEnVL
import Derived.Test.YtcoehbkjccfhlaaEnCl
import Derived.Test.YtcoehbkjccfhlaaEnFa
import Derived.Test.YtcoehbkjccfhlaaEnInts
import Derived.Test.YtcoehbkjccfhlaaEnRl
import Derived.Test.YtcoehbkjccfhlaaRows
import Derived.BigQuiet
import Derived.Deep.AppendLies
import Derived.Deep.CutRange
import Derived.Deep.QuietTactic
import Derived.Deep.RegionHeld3
import Derived.Deep.RegionLaw
import Derived.Deep.RegionWith
import Derived.KernelRfl
import Derived.Laws.EntriesVeiled
import Derived.Laws.Tables
import Derived.Lib.ConvBytes
import Derived.Lib.Hide
import Derived.Lib.SlBytesRow
import Derived.Lib.SmallJoins
import Derived.Maps.AppendAt
import Derived.OrdersHeld
import Derived.Shelf.Bytes.SlSmallAll
import Derived.WalkKit
import Derived.WalkLawsBesides
import Derived.WalkSpells
namespace Go.Proofs.Ytcoehbkjccfhlaa
open Go Go.RowKit Go.Joins

/-- The circuit of the examples. -/
def exC14 : NormC := ⟨1, [(3, 0)], [(4, 2)], [], [6], []⟩
def exS (g : Nat) : CSlots := ⟨some ⟨g, 0, none⟩, 1, 1, some ⟨g + 1, 0, none⟩, 1, 1, none, 0, 0, some ⟨g + 1 + 1, 0, none⟩, 1, 1, none, 0, 0⟩
theorem ex_vars : varsA exC14 2 = (7, 0) := by decide
theorem ex_lit : litA exC14 7 1 = (-7, 0) := by decide
theorem ex_cl : clA exC14 1 = ([[1], [-3], [-4, 3], [-4, 2], [4, -3, -2]], 0) := by decide
theorem ex_rl : rlA exC14 1 = ([[1], [-3], [-4, 3, 5], [-4, 2, 5], [4, -3, -2, 5]], 5, 0) := by decide
theorem ex_fa : faA exC14 0 2 = ([7], 0) := by decide
theorem exC_sees (W : World) : SeesCir (((W.alloc (.cells #[.int .u32 3, .int .u8 0] 63)).alloc (.cells #[.int .u32 4, .int .u32 2] 65)).alloc (.cells #[.int .u32 6] 31)) (exS W.heap.size) exC14 := by
  have a1 := sees_lit W 63 (0, 0) #[.int .u32 3, .int .u8 0] (prCs nv8 [(3, 0)]) 2 rfl rfl
  have a2 := sees_lit (W.alloc (.cells #[.int .u32 3, .int .u8 0] 63)) 65 (0, 0) #[.int .u32 4, .int .u32 2] (prCs nv32 [(4, 2)]) 2 rfl rfl
  have a3 := sees_lit ((W.alloc (.cells #[.int .u32 3, .int .u8 0] 63)).alloc (.cells #[.int .u32 4, .int .u32 2] 65)) 31 (0, 0) #[.int .u32 6] ([6].map nv32) 1 rfl rfl
  simp only [World.size_alloc] at a2 a3
  exact ⟨⟨rfl, Nat.le_refl _, a1.below (ext_trans (ext_alloc _ _) (ext_alloc _ _))⟩, ⟨rfl, Nat.le_refl _, a2.below (ext_alloc _ _)⟩, Sees.nil _ _ _ (fun _ => rfl), a3, Sees.nil _ _ _ (fun _ => rfl)⟩
theorem exS_small (g : Nat) : (exS g).small := by refine ⟨?_, ?_, ?_, ?_, ?_⟩ <;> show _ ≤ 1048576 <;> simp [exS]
theorem sees_zl (w : World) (xs : List Int) (n : Nat) (C : Array Value) (hC : C = (zvs xs).toArray) (hn : xs.length = n) : Sees (w.alloc (.cells C 3)) (some ⟨w.heap.size, 0, none⟩) n n (zvs xs) := sees_lit w _ _ _ _ n hC (by rw [zvs_len]; exact hn)
theorem exL_sees (W : World) : SeesZ ((((((W.alloc (.cells #[.int .i64 1] 3)).alloc (.cells #[.int .i64 (-3)] 3)).alloc (.cells #[.int .i64 (-4), .int .i64 3] 3)).alloc (.cells #[.int .i64 (-4), .int .i64 2] 3)).alloc (.cells #[.int .i64 4, .int .i64 (-3), .int .i64 (-2)] 3)).alloc
    (.cells #[.slice (some ⟨W.heap.size, 0, none⟩) 1 1, .slice (some ⟨W.heap.size + 1, 0, none⟩) 1 1, .slice (some ⟨W.heap.size + 1 + 1, 0, none⟩) 2 2, .slice (some ⟨W.heap.size + 1 + 1 + 1, 0, none⟩) 2 2, .slice (some ⟨W.heap.size + 1 + 1 + 1 + 1, 0, none⟩) 3 3] 45)) (some ⟨W.heap.size + 1 + 1 + 1 + 1 + 1, 0, none⟩) 5 5
    [(some ⟨W.heap.size, 0, none⟩, 1, 1), (some ⟨W.heap.size + 1, 0, none⟩, 1, 1), (some ⟨W.heap.size + 1 + 1, 0, none⟩, 2, 2), (some ⟨W.heap.size + 1 + 1 + 1, 0, none⟩, 2, 2), (some ⟨W.heap.size + 1 + 1 + 1 + 1, 0, none⟩, 3, 3)] [[1], [-3], [-4, 3], [-4, 2], [4, -3, -2]] := by
  generalize h1 : W.alloc (.cells #[.int .i64 1] 3) = W1
  have s1 : W1.heap.size = W.heap.size + 1 := by subst h1; simp
  have a1 : Sees W1 (some ⟨W.heap.size, 0, none⟩) 1 1 (zvs [1]) := by subst h1; exact sees_zl W [1] 1 _ rfl rfl
  clear h1
  generalize h2 : W1.alloc (.cells #[.int .i64 (-3)] 3) = W2
  have s2 : W2.heap.size = W.heap.size + 1 + 1 := by subst h2; simp [s1]
  have a2 : Sees W2 (some ⟨W.heap.size + 1, 0, none⟩) 1 1 (zvs [-3]) := by subst h2; rw [← s1]; exact sees_zl W1 [-3] 1 _ rfl rfl
  have b1 : Below W1.heap.size W1 W2 := by subst h2; exact ext_alloc _ _
  clear h2
  generalize h3 : W2.alloc (.cells #[.int .i64 (-4), .int .i64 3] 3) = W3
  have s3 : W3.heap.size = W.heap.size + 1 + 1 + 1 := by subst h3; simp [s2]
  have a3 : Sees W3 (some ⟨W.heap.size + 1 + 1, 0, none⟩) 2 2 (zvs [-4, 3]) := by subst h3; rw [← s2]; exact sees_zl W2 [-4, 3] 2 _ rfl rfl
  have b2 : Below W2.heap.size W2 W3 := by subst h3; exact ext_alloc _ _
  clear h3
  generalize h4 : W3.alloc (.cells #[.int .i64 (-4), .int .i64 2] 3) = W4
  have s4 : W4.heap.size = W.heap.size + 1 + 1 + 1 + 1 := by subst h4; simp [s3]
  have a4 : Sees W4 (some ⟨W.heap.size + 1 + 1 + 1, 0, none⟩) 2 2 (zvs [-4, 2]) := by subst h4; rw [← s3]; exact sees_zl W3 [-4, 2] 2 _ rfl rfl
  have b3 : Below W3.heap.size W3 W4 := by subst h4; exact ext_alloc _ _
  clear h4
  generalize h5 : W4.alloc (.cells #[.int .i64 4, .int .i64 (-3), .int .i64 (-2)] 3) = W5
  have s5 : W5.heap.size = W.heap.size + 1 + 1 + 1 + 1 + 1 := by subst h5; simp [s4]
  have a5 : Sees W5 (some ⟨W.heap.size + 1 + 1 + 1 + 1, 0, none⟩) 3 3 (zvs [4, -3, -2]) := by subst h5; rw [← s4]; exact sees_zl W4 [4, -3, -2] 3 _ rfl rfl
  have b4 : Below W4.heap.size W4 W5 := by subst h5; exact ext_alloc _ _
  clear h5
  refine ⟨by rw [← s5]; exact sees_lit W5 _ _ _ _ 5 rfl rfl, rfl, fun k hk => ?_⟩
  rcases k with _ | _ | _ | _ | _ | k
  · exact a1.below (ext_trans b1 (ext_trans b2 (ext_trans b3 (ext_trans b4 (ext_alloc _ _)))))
  · exact a2.below (ext_trans b2 (ext_trans b3 (ext_trans b4 (ext_alloc _ _))))
  · exact a3.below (ext_trans b3 (ext_trans b4 (ext_alloc _ _)))
  · exact a4.below (ext_trans b4 (ext_alloc _ _))
  · exact a5.below (ext_alloc _ _)
  · simp at hk; omega

set_option maxRecDepth 100000 in
set_option maxHeartbeats 6400000 in
theorem lives14_any (w : World) : Calls Try.prog 7 #[] w fun e w' => e = .returned (.bool true) ∧ Below w.heap.size w w' := by
  have HVA := Lib.hid (fun W (h : SeesCir W (exS w.heap.size) exC14) => vars14_any exC14 (exS w.heap.size) 2 W h (exS_small _) (by decide) (by decide))
  have HCL := Lib.hid (fun W (h : SeesCir W (exS w.heap.size) exC14) => clauses14_any exC14 (exS w.heap.size) 1 W h (exS_small _) (by decide) (by decide))
  have HLI := Lib.hid (fun W (h : SeesCir W (exS w.heap.size) exC14) => lit14_any exC14 (exS w.heap.size) 7 1 W h (exS_small _) (by decide) (by decide) (by decide))
  have HFA := Lib.hid (fun W (h : SeesCir W (exS w.heap.size) exC14) => fails14_any exC14 (exS w.heap.size) 0 2 W h (exS_small _) (by decide) (by decide))
  have HRL := Lib.hid (fun W (h : SeesCir W (exS w.heap.size) exC14) => relaxed14_any exC14 (exS w.heap.size) 1 W h (exS_small _) (by decide) (by decide))
  unfold ClE at HCL
  unfold RlE at HRL
  unfold FaE at HFA
  rw [ex_vars] at HVA
  rw [ex_cl] at HCL
  rw [ex_lit] at HLI
  rw [ex_fa] at HFA
  rw [ex_rl] at HRL
  unfold cirV at *
  have e0 : exC14.ins = 1 := rfl
  rw [e0] at HVA HCL HLI HFA HRL
  unfold exS at HVA HCL HLI HFA HRL
  simp only at HVA HCL HLI HFA HRL
  have HSE := Lib.hid (exC_sees w)
  clear e0
  go_enter Try.func7, Try.ntmps7
  go_upto_region 2 with fail
  generalize hW : World.alloc (World.alloc (World.alloc (World.alloc w _) _) _) _ = W0
  have hS0 : SeesCir W0 (exS w.heap.size) exC14 := by subst hW; exact HSE.out.below (ext_alloc _ _)
  have hX0 : W0.heap[w.heap.size + 1 + 1 + 1]? = some (.cells #[.int .i64 1, .slice (some ⟨w.heap.size, 0, none⟩) 1 1, .slice (some ⟨w.heap.size + 1, 0, none⟩) 1 1, .slice none 0 0, .slice (some ⟨w.heap.size + 1 + 1, 0, none⟩) 1 1, .slice none 0 0] 26 (0, 0)) := by subst hW; exact heap_new _ _ _ (by simp)
  have hb0 : Below w.heap.size w W0 := by subst hW; exact ext_trans (ext_alloc _ _) (ext_trans (ext_alloc _ _) (ext_trans (ext_alloc _ _) (ext_alloc _ _)))
  have HS0 := Lib.hid hS0
  have HX0 := Lib.hid hX0
  have HB0 := Lib.hid hb0
  clear hW hS0 hX0 hb0 HSE
  unfold exS at HS0
  have p0 := cell_of_block HX0.out 0
  have p1 := cell_of_block HX0.out 1
  have p2 := cell_of_block HX0.out 2
  have p3 := cell_of_block HX0.out 3
  have p4 := cell_of_block HX0.out 4
  have p5 := cell_of_block HX0.out 5
  go_wp2_with fail
  refine (HVA.out W0 HS0.out).mono ?_
  rintro e W1 ⟨rfl, hb⟩
  have HX1 := Lib.hid (heap_below HX0.out hb)
  have HB1 := Lib.hid (ext_trans HB0.out hb)
  have HS1 := Lib.hid (HS0.out.below hb)
  clear hb p0 p1 p2 p3 p4 p5 HX0 HS0 HB0 HVA
  have p0 := cell_of_block HX1.out 0
  have p1 := cell_of_block HX1.out 1
  have p2 := cell_of_block HX1.out 2
  have p3 := cell_of_block HX1.out 3
  have p4 := cell_of_block HX1.out 4
  have p5 := cell_of_block HX1.out 5
  go_wp2_with fail
  refine (HCL.out W1 HS1.out).mono ?_
  rintro e W2 ⟨hb, la, ln, lk, lss, rfl, hl⟩
  have HX2 := Lib.hid (heap_below HX1.out hb)
  have HB2 := Lib.hid (ext_trans HB1.out hb)
  have HS2 := Lib.hid (HS1.out.below hb)
  have HL1 := Lib.hid hl
  clear hl
  clear hb p0 p1 p2 p3 p4 p5 HX1 HS1 HB1 HCL
  have p0 := cell_of_block HX2.out 0
  have p1 := cell_of_block HX2.out 1
  have p2 := cell_of_block HX2.out 2
  have p3 := cell_of_block HX2.out 3
  have p4 := cell_of_block HX2.out 4
  have p5 := cell_of_block HX2.out 5
  go_wp2_with fail
  refine (HLI.out W2 HS2.out).mono ?_
  rintro e W3 ⟨rfl, hb⟩
  have HX3 := Lib.hid (heap_below HX2.out hb)
  have HB3 := Lib.hid (ext_trans HB2.out hb)
  have HS3 := Lib.hid (HS2.out.below hb)
  have HL3 := Lib.hid (HL1.out.below hb)
  clear hb p0 p1 p2 p3 p4 p5 HX2 HS2 HB2 HLI
  have p0 := cell_of_block HX3.out 0
  have p1 := cell_of_block HX3.out 1
  have p2 := cell_of_block HX3.out 2
  have p3 := cell_of_block HX3.out 3
  have p4 := cell_of_block HX3.out 4
  have p5 := cell_of_block HX3.out 5
  go_wp2_with fail
  refine (HFA.out W3 HS3.out).mono ?_
  rintro e W4 ⟨hb, fa, fn, fk, rfl, hf⟩
  have HX4 := Lib.hid (heap_below HX3.out hb)
  have HB4 := Lib.hid (ext_trans HB3.out hb)
  have HS4 := Lib.hid (HS3.out.below hb)
  have HL4 := Lib.hid (HL3.out.below hb)
  have HF := Lib.hid hf
  clear hf
  clear hb p0 p1 p2 p3 p4 p5 HX3 HS3 HB3 HFA
  have p0 := cell_of_block HX4.out 0
  have p1 := cell_of_block HX4.out 1
  have p2 := cell_of_block HX4.out 2
  have p3 := cell_of_block HX4.out 3
  have p4 := cell_of_block HX4.out 4
  have p5 := cell_of_block HX4.out 5
  go_wp2_with fail
  refine (HRL.out W4 HS4.out).mono ?_
  rintro e W5 ⟨hb, ra, rn, rk, rss, rfl, hr⟩
  have HX5 := Lib.hid (heap_below HX4.out hb)
  have HB5 := Lib.hid (ext_trans HB4.out hb)
  have HS5 := Lib.hid (HS4.out.below hb)
  have HL5 := Lib.hid (HL4.out.below hb)
  have HF5 := Lib.hid (HF.out.below hb)
  have HR1 := Lib.hid hr
  clear hr
  clear hb p0 p1 p2 p3 p4 p5 HX4 HS4 HB4 HRL
  obtain rfl : 5 = ln := HL5.out.zlen
  obtain rfl : 1 = fn := HF5.out.zlen
  obtain rfl : 5 = rn := HR1.out.zlen
  have HEX := Lib.hid (exL_sees W5)
  have HL6 : Hid (∀ W, Below W5.heap.size W5 W → SeesZ W la 5 lk lss [[1], [-3], [-4, 3], [-4, 2], [4, -3, -2]]) := fun W hb => HL5.out.below hb
  obtain ⟨rb, ro, rfl, hrb⟩ := HR1.out.addr (by omega)
  have HLS : Hid (Calls Try.prog 16 #[.slice la 5 lk, .slice (some ⟨W5.heap.size + 1 + 1 + 1 + 1 + 1, 0, none⟩) 5 5] _ fun e w' => e = .returned (.bool true) ∧ Below _ _ w') := lists14_any _ la _ 5 lk 5 lss _ _ (HL6.out _ (ext_trans (ext_alloc _ _) (ext_trans (ext_alloc _ _) (ext_trans (ext_alloc _ _) (ext_trans (ext_alloc _ _) (ext_trans (ext_alloc _ _) (ext_alloc _ _))))))) HEX.out (by omega) (by decide)
  go_wp2_with fail
  refine HLS.out.mono ?_
  rintro e W6 ⟨rfl, hb⟩
  have hb6 := ext_trans (ext_trans (ext_alloc W5 _) (ext_trans (ext_alloc _ _) (ext_trans (ext_alloc _ _) (ext_trans (ext_alloc _ _) (ext_trans (ext_alloc _ _) (ext_alloc _ _)))))) hb
  have HF6 := Lib.hid (HF5.out.below hb6)
  have HR6 := Lib.hid (HR1.out.below hb6)
  have HB6 := Lib.hid (ext_trans HB5.out hb6)
  clear hb hb6 HLS HEX HL6 HL5
  have HI1 := Lib.hid (ints14_any [7] [7] fa (some ⟨W6.heap.size, 0, none⟩) 1 1 fk 1 (W6.alloc (.cells #[.int .i64 7] 3)) (HF6.out.below (ext_alloc _ _)) (sees_zl W6 [7] 1 _ rfl rfl) (by omega) (by omega))
  rw [show decide (([7] : List Int) = [7]) = true from by decide] at HI1
  go_wp2_with fail
  refine HI1.out.mono ?_
  rintro e W7 ⟨rfl, rfl⟩
  have HR7 := Lib.hid (HR6.out.below (ext_alloc W6 (.cells #[.int .i64 7] 3)))
  have HB7 := Lib.hid (ext_trans HB6.out (ext_alloc W6 (.cells #[.int .i64 7] 3)))
  generalize W6.alloc (.cells #[.int .i64 7] 3) = W7 at HR7 HB7 ⊢
  clear HI1
  have hc4 := HR7.out.cellAt 4 (by omega)
  obtain ⟨sa, sn, sc, e4, hs4⟩ := HR7.out.one (k := 4) (by omega)
  rw [e4] at hc4
  simp only at hc4
  obtain rfl : 4 = sn := hs4.zlen
  have HS4 := Lib.hid hs4
  clear hs4 e4
  have HI2 := Lib.hid (ints14_any [4, -3, -2, 5] [4, -3, -2, 5] sa (some ⟨W7.heap.size, 0, none⟩) 4 4 sc 4 (W7.alloc (.cells #[.int .i64 4, .int .i64 (-3), .int .i64 (-2), .int .i64 5] 3)) (HS4.out.below (ext_alloc _ _)) (sees_zl W7 [4, -3, -2, 5] 4 _ rfl rfl) (by omega) (by omega))
  rw [show decide (([4, -3, -2, 5] : List Int) = [4, -3, -2, 5]) = true from by decide] at HI2
  go_wp2_with fail
  refine HI2.out.mono ?_
  rintro e W8 ⟨rfl, rfl⟩
  go_wp2
  go_ret
  exact ⟨rfl, ext_trans HB7.out (ext_alloc _ _)⟩
end Go.Proofs.Ytcoehbkjccfhlaa
