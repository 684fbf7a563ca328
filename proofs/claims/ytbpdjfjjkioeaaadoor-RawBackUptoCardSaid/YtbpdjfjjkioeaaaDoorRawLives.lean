/- The law's own examples. -/
import Derived.Test.YtbpdjfjjkioeaaaDoorRawGet
import Derived.Test.YtbpdjfjjkioeaaaDoorRawRef2
import Derived.KernelRfl
namespace Go.Proofs.YtbpdjfjjkioeaaaDoor
open Go Go.RowKit Go.Joins

theorem sees_blk {w : World} {g : Nat} {C : Array Value} {t : TypeId} {fr : Nat × Nat} (h : w.heap[g]? = some (.cells C t fr)) (xs : List Value) (n : Nat) (hC : C = xs.toArray) (hn : xs.length = n) : Sees w (some ⟨g, 0, none⟩) n n xs := by
  subst hC
  refine ⟨hn, Nat.le_refl _, (fun e => by cases e), fun _ => ⟨g, 0, rfl, heap_lt h, fun j hj => ?_⟩⟩
  rw [cell_of_block h]
  simp
theorem get_ok (bs : List UInt8) (r : RawC) (hg : getS bs = .ok r) (a : Option Addr) (n c : Nat) (w : World) (h : Sees w a n c (bs.map bv)) (hn : n ≤ 9223372036854775807) :
    Calls Tryd.prog 8 #[.slice a n c] w fun e w' => ∃ s, e = .returned (.tuple #[rawV r.max s, .int .i64 0]) ∧ SeesRaw w' s r ∧ Below w.heap.size w w' := by
  refine (get_any bs a n c w h hn).mono fun e w' hp => ?_
  obtain ⟨hb, ⟨r', s, h1, h2, h3⟩ | ⟨er, h1, _⟩⟩ := hp
  · rw [hg] at h1; cases h1; exact ⟨s, h2, h3, hb⟩
  · rw [hg] at h1; cases h1
theorem get_err (bs : List UInt8) (er : Int) (hg : getS bs = .error er) (a : Option Addr) (n c : Nat) (w : World) (h : Sees w a n c (bs.map bv)) (hn : n ≤ 9223372036854775807) :
    Calls Tryd.prog 8 #[.slice a n c] w fun e w' => e = .returned (.tuple #[zeroRaw, .int .i64 er]) ∧ Below w.heap.size w w' := by
  refine (get_any bs a n c w h hn).mono fun e w' hp => ?_
  obtain ⟨hb, ⟨r', s, h1, _⟩ | ⟨er', h1, _, h2⟩⟩ := hp
  · rw [hg] at h1; cases h1
  · rw [hg] at h1; cases h1; exact ⟨h2, hb⟩

theorem live1 : getS (([97, 97, 103, 32, 51, 32, 49, 32, 49, 32, 48, 32, 49, 32, 49, 47, 50, 47, 52, 32, 54, 32, 52, 47, 54, 47, 54, 32, 52, 32, 50, 47] : List UInt8).map slash) = .ok ⟨3, [2], [(4, 6, 4)], [], [6], [], [(6, 4, 2)]⟩ := by kernel_rfl
theorem live2 : getS (([97, 97, 103, 32, 49, 32, 49, 32, 48, 32, 48, 32, 48, 47, 51, 47] : List UInt8).map slash) = .ok ⟨1, [3], [], [], [], [], []⟩ := by kernel_rfl
theorem live3 : getS (([97, 97, 103, 32, 49, 32, 49, 32, 48, 32, 48, 32, 48, 47, 50] : List UInt8).map slash) = .error 4 := by kernel_rfl
theorem live4 : getS (([97, 97, 103, 32, 49, 32, 49, 32, 48, 32, 48, 32, 48, 47, 52, 47] : List UInt8).map slash) = .error 3 := by kernel_rfl
theorem live5 : getS (([97, 97, 103, 32, 49, 32, 50, 32, 48, 32, 48, 32, 48, 47] : List UInt8).map slash) = .error 5 := by kernel_rfl
theorem live6 : getS (([97, 105, 103, 32, 48, 32, 48, 32, 48, 32, 48, 32, 48, 47] : List UInt8).map slash) = .error 5 := by kernel_rfl
theorem live7 : getS (([97, 97, 103, 32, 48, 32, 48, 32, 48, 32, 48, 32, 48, 32, 48, 32, 48, 32, 49, 47] : List UInt8).map slash) = .error 6 := by kernel_rfl
theorem live8 : getS (([97, 97, 103, 32, 49, 32, 49, 32, 48, 32, 48, 32, 48, 47, 50, 47, 105, 48, 32, 97, 32, 98, 47, 99, 47, 119, 104, 97, 116] : List UInt8).map slash) = .ok ⟨1, [2], [], [], [], [], []⟩ := by kernel_rfl
theorem live9 : getS (([97, 97, 103, 32, 49, 32, 49, 32, 48, 32, 48, 32, 48, 47, 50, 47, 105, 49, 32, 97, 47] : List UInt8).map slash) = .error 5 := by kernel_rfl

set_option maxRecDepth 100000 in
set_option maxHeartbeats 3200000 in
theorem lives_any (w : World) : Calls Tryd.prog 7 #[] w fun e w' => e = .returned (.bool true) ∧ Below w.heap.size w w' := by
  go_enter Tryd.func7, Tryd.ntmps7
  go_wp2_with fail
  refine (text_any [97, 97, 103, 32, 51, 32, 49, 32, 49, 32, 48, 32, 49, 32, 49, 47, 50, 47, 52, 32, 54, 32, 52, 47, 54, 47, 54, 32, 52, 32, 50, 47] w (by decide) (by decide)).mono ?_
  rintro e A1 ⟨a1, c1, rfl, hs, hb⟩
  have HS1 : Hid (Sees A1 a1 32 c1 ((([97, 97, 103, 32, 51, 32, 49, 32, 49, 32, 48, 32, 49, 32, 49, 47, 50, 47, 52, 32, 54, 32, 52, 47, 54, 47, 54, 32, 52, 32, 50, 47] : List UInt8).map slash).map bv)) := hs
  have HB1 := Lib.hid hb
  clear hs hb
  go_wp2_with fail
  refine (get_ok _ _ live1 a1 32 c1 A1 HS1.out (by decide)).mono ?_
  rintro e B1 ⟨⟨p1a1, p1n1, p1c1, p1a2, p1n2, p1c2, p1a3, p1n3, p1c3, p1a4, p1n4, p1c4, p1a5, p1n5, p1c5, p1a6, p1n6, p1c6⟩, rfl, hsr, hb⟩
  have HR1 := Lib.hid hsr
  have HC1 := Lib.hid (ext_trans HB1.out hb)
  clear hsr hb HB1 HS1
  unfold rawV
  go_wp2_with fail
  generalize hW : World.alloc (World.alloc (World.alloc (World.alloc (World.alloc (World.alloc B1 _) _) _) _) _) _ = W1
  have HX1 : Hid (W1.heap[B1.heap.size]? = some (.cells #[.int .u32 3, .slice p1a1 p1n1 p1c1, .slice p1a2 p1n2 p1c2, .slice p1a3 p1n3 p1c3, .slice p1a4 p1n4 p1c4, .slice p1a5 p1n5 p1c5, .slice p1a6 p1n6 p1c6] 27 (0, 0))) := by
    subst hW; exact heap_below (heap_below (heap_below (heap_below (heap_below (heap_new _ _ _ rfl) (ext_alloc _ _)) (ext_alloc _ _)) (ext_alloc _ _)) (ext_alloc _ _)) (ext_alloc _ _)
  have HX3 : Hid (W1.heap[B1.heap.size + 5]? = some (.cells #[.int .u32 3, .slice (some ⟨B1.heap.size + 1, 0, none⟩) 1 1, .slice (some ⟨B1.heap.size + 2, 0, none⟩) 1 1, .slice none 0 0, .slice (some ⟨B1.heap.size + 3, 0, none⟩) 1 1, .slice none 0 0, .slice (some ⟨B1.heap.size + 4, 0, none⟩) 1 1] 27 (0, 0))) := by
    subst hW; exact heap_new _ _ _ (by simp)
  have y1 : W1.heap[B1.heap.size + 1]? = some (.cells #[.int .u32 2] 22 (0, 0)) := by subst hW; exact heap_below (heap_below (heap_below (heap_below (heap_new _ _ _ (by simp)) (ext_alloc _ _)) (ext_alloc _ _)) (ext_alloc _ _)) (ext_alloc _ _)
  have y2 : W1.heap[B1.heap.size + 2]? = some (.cells #[.int .u32 4, .int .u32 6, .int .u32 4] 42 (0, 0)) := by subst hW; exact heap_below (heap_below (heap_below (heap_new _ _ _ (by simp)) (ext_alloc _ _)) (ext_alloc _ _)) (ext_alloc _ _)
  have y3 : W1.heap[B1.heap.size + 3]? = some (.cells #[.int .u32 6] 22 (0, 0)) := by subst hW; exact heap_below (heap_below (heap_new _ _ _ (by simp)) (ext_alloc _ _)) (ext_alloc _ _)
  have y4 : W1.heap[B1.heap.size + 4]? = some (.cells #[.int .u32 6, .int .u32 4, .int .u32 2] 45 (0, 0)) := by subst hW; exact heap_below (heap_new _ _ _ (by simp)) (ext_alloc _ _)
  have bb : Below B1.heap.size B1 W1 := by subst hW; exact ext_trans (ext_alloc _ _) (ext_trans (ext_alloc _ _) (ext_trans (ext_alloc _ _) (ext_trans (ext_alloc _ _) (ext_trans (ext_alloc _ _) (ext_alloc _ _)))))
  have HRW : Hid (SeesRaw W1 ⟨some ⟨B1.heap.size + 1, 0, none⟩, 1, 1, some ⟨B1.heap.size + 2, 0, none⟩, 1, 1, none, 0, 0, some ⟨B1.heap.size + 3, 0, none⟩, 1, 1, none, 0, 0, some ⟨B1.heap.size + 4, 0, none⟩, 1, 1⟩ ⟨3, [2], [(4, 6, 4)], [], [6], [], [(6, 4, 2)]⟩) :=
    ⟨sees_blk y1 [nv32 2] 1 rfl rfl, ⟨rfl, Nat.le_refl _, sees_blk y2 (triC (4, 6, 4)) 3 rfl rfl⟩, Sees.nil _ _ _ (fun _ => rfl), sees_blk y3 [nv32 6] 1 rfl rfl, Sees.nil _ _ _ (fun _ => rfl), ⟨rfl, Nat.le_refl _, sees_blk y4 (triC (6, 4, 2)) 3 rfl rfl⟩⟩
  have HD1 := Lib.hid (HC1.out.trans (bb.mono HC1.out.size))
  have HR1' := Lib.hid (HR1.out.below bb)
  clear hW y1 y2 y3 y4 bb HC1 HR1
  have E1 : Hid (Below W1.heap.size W1 W1) := Below.refl _ _

  refine (text_any [97, 97, 103, 32, 49, 32, 49, 32, 48, 32, 48, 32, 48, 47, 51, 47] W1 (by decide) (by decide)).mono ?_
  rintro e A2 ⟨a2, c2, rfl, hs, hb⟩
  have HS2 : Hid (Sees A2 a2 16 c2 ((([97, 97, 103, 32, 49, 32, 49, 32, 48, 32, 48, 32, 48, 47, 51, 47] : List UInt8).map slash).map bv)) := hs
  have HB2 := Lib.hid hb
  clear hs hb
  go_wp2_with fail
  refine (get_ok _ _ live2 a2 16 c2 A2 HS2.out (by decide)).mono ?_
  rintro e B2 ⟨⟨p2a1, p2n1, p2c1, p2a2, p2n2, p2c2, p2a3, p2n3, p2c3, p2a4, p2n4, p2c4, p2a5, p2n5, p2c5, p2a6, p2n6, p2c6⟩, rfl, hsr, hb⟩
  have HR2 := Lib.hid hsr
  have HC2 := Lib.hid (ext_trans HB2.out hb)
  clear hsr hb HB2 HS2
  unfold rawV
  go_wp2_with fail
  generalize hW : World.alloc B2 _ = W2
  have HX2b : Hid (W2.heap[B2.heap.size]? = some (.cells #[.int .u32 1, .slice p2a1 p2n1 p2c1, .slice p2a2 p2n2 p2c2, .slice p2a3 p2n3 p2c3, .slice p2a4 p2n4 p2c4, .slice p2a5 p2n5 p2c5, .slice p2a6 p2n6 p2c6] 27 (0, 0))) := by subst hW; exact heap_new _ _ _ rfl
  have HR2' : Hid (SeesRaw W2 ⟨p2a1, p2n1, p2c1, p2a2, p2n2, p2c2, p2a3, p2n3, p2c3, p2a4, p2n4, p2c4, p2a5, p2n5, p2c5, p2a6, p2n6, p2c6⟩ ⟨1, [3], [], [], [], [], []⟩) := by subst hW; exact HR2.out.below (ext_alloc _ _)
  have bb : Below W1.heap.size W1 W2 := by subst hW; exact ext_trans HC2.out (ext_alloc _ _)
  clear hW HC2 HR2
  have HD2 := Lib.hid (HD1.out.trans (bb.mono HD1.out.size))
  have E2 := Lib.hid (ext_trans E1.out bb)
  have E2_2 : Hid (Below W2.heap.size W2 W2) := Below.refl _ _
  clear bb HD1 E1

  refine (text_any [97, 97, 103, 32, 49, 32, 49, 32, 48, 32, 48, 32, 48, 47, 50] W2 (by decide) (by decide)).mono ?_
  rintro e A3 ⟨a3, c3, rfl, hs, hb⟩
  have HS3 : Hid (Sees A3 a3 15 c3 ((([97, 97, 103, 32, 49, 32, 49, 32, 48, 32, 48, 32, 48, 47, 50] : List UInt8).map slash).map bv)) := hs
  have HB3 := Lib.hid hb
  clear hs hb
  go_wp2_with fail
  refine (get_err _ _ live3 a3 15 c3 A3 HS3.out (by decide)).mono ?_
  rintro e B3 ⟨rfl, hb⟩
  have HC3 := Lib.hid (ext_trans HB3.out hb)
  clear hb HB3 HS3
  unfold zeroRaw
  go_wp2_with fail
  generalize hW : World.alloc B3 _ = W3
  have bb : Below W2.heap.size W2 W3 := by subst hW; exact ext_trans HC3.out (ext_alloc _ _)
  clear hW HC3
  have HD3 := Lib.hid (HD2.out.trans (bb.mono HD2.out.size))
  have E3 := Lib.hid (ext_trans E2.out bb)
  have E2_3 := Lib.hid (ext_trans E2_2.out bb)
  clear bb HD2 E2 E2_2

  refine (text_any [97, 97, 103, 32, 49, 32, 49, 32, 48, 32, 48, 32, 48, 47, 52, 47] W3 (by decide) (by decide)).mono ?_
  rintro e A4 ⟨a4, c4, rfl, hs, hb⟩
  have HS4 : Hid (Sees A4 a4 16 c4 ((([97, 97, 103, 32, 49, 32, 49, 32, 48, 32, 48, 32, 48, 47, 52, 47] : List UInt8).map slash).map bv)) := hs
  have HB4 := Lib.hid hb
  clear hs hb
  go_wp2_with fail
  refine (get_err _ _ live4 a4 16 c4 A4 HS4.out (by decide)).mono ?_
  rintro e B4 ⟨rfl, hb⟩
  have HC4 := Lib.hid (ext_trans HB4.out hb)
  clear hb HB4 HS4
  unfold zeroRaw
  go_wp2_with fail
  generalize hW : World.alloc B4 _ = W4
  have bb : Below W3.heap.size W3 W4 := by subst hW; exact ext_trans HC4.out (ext_alloc _ _)
  clear hW HC4
  have HD4 := Lib.hid (HD3.out.trans (bb.mono HD3.out.size))
  have E4 := Lib.hid (ext_trans E3.out bb)
  have E2_4 := Lib.hid (ext_trans E2_3.out bb)
  clear bb HD3 E3 E2_3

  refine (text_any [97, 97, 103, 32, 49, 32, 50, 32, 48, 32, 48, 32, 48, 47] W4 (by decide) (by decide)).mono ?_
  rintro e A5 ⟨a5, c5, rfl, hs, hb⟩
  have HS5 : Hid (Sees A5 a5 14 c5 ((([97, 97, 103, 32, 49, 32, 50, 32, 48, 32, 48, 32, 48, 47] : List UInt8).map slash).map bv)) := hs
  have HB5 := Lib.hid hb
  clear hs hb
  go_wp2_with fail
  refine (get_err _ _ live5 a5 14 c5 A5 HS5.out (by decide)).mono ?_
  rintro e B5 ⟨rfl, hb⟩
  have HC5 := Lib.hid (ext_trans HB5.out hb)
  clear hb HB5 HS5
  unfold zeroRaw
  go_wp2_with fail
  generalize hW : World.alloc B5 _ = W5
  have bb : Below W4.heap.size W4 W5 := by subst hW; exact ext_trans HC5.out (ext_alloc _ _)
  clear hW HC5
  have HD5 := Lib.hid (HD4.out.trans (bb.mono HD4.out.size))
  have E5 := Lib.hid (ext_trans E4.out bb)
  have E2_5 := Lib.hid (ext_trans E2_4.out bb)
  clear bb HD4 E4 E2_4

  refine (text_any [97, 105, 103, 32, 48, 32, 48, 32, 48, 32, 48, 32, 48, 47] W5 (by decide) (by decide)).mono ?_
  rintro e A6 ⟨a6, c6, rfl, hs, hb⟩
  have HS6 : Hid (Sees A6 a6 14 c6 ((([97, 105, 103, 32, 48, 32, 48, 32, 48, 32, 48, 32, 48, 47] : List UInt8).map slash).map bv)) := hs
  have HB6 := Lib.hid hb
  clear hs hb
  go_wp2_with fail
  refine (get_err _ _ live6 a6 14 c6 A6 HS6.out (by decide)).mono ?_
  rintro e B6 ⟨rfl, hb⟩
  have HC6 := Lib.hid (ext_trans HB6.out hb)
  clear hb HB6 HS6
  unfold zeroRaw
  go_wp2_with fail
  generalize hW : World.alloc B6 _ = W6
  have bb : Below W5.heap.size W5 W6 := by subst hW; exact ext_trans HC6.out (ext_alloc _ _)
  clear hW HC6
  have HD6 := Lib.hid (HD5.out.trans (bb.mono HD5.out.size))
  have E6 := Lib.hid (ext_trans E5.out bb)
  have E2_6 := Lib.hid (ext_trans E2_5.out bb)
  clear bb HD5 E5 E2_5

  refine (text_any [97, 97, 103, 32, 48, 32, 48, 32, 48, 32, 48, 32, 48, 32, 48, 32, 48, 32, 49, 47] W6 (by decide) (by decide)).mono ?_
  rintro e A7 ⟨a7, c7, rfl, hs, hb⟩
  have HS7 : Hid (Sees A7 a7 20 c7 ((([97, 97, 103, 32, 48, 32, 48, 32, 48, 32, 48, 32, 48, 32, 48, 32, 48, 32, 49, 47] : List UInt8).map slash).map bv)) := hs
  have HB7 := Lib.hid hb
  clear hs hb
  go_wp2_with fail
  refine (get_err _ _ live7 a7 20 c7 A7 HS7.out (by decide)).mono ?_
  rintro e B7 ⟨rfl, hb⟩
  have HC7 := Lib.hid (ext_trans HB7.out hb)
  clear hb HB7 HS7
  unfold zeroRaw
  go_wp2_with fail
  generalize hW : World.alloc B7 _ = W7
  have bb : Below W6.heap.size W6 W7 := by subst hW; exact ext_trans HC7.out (ext_alloc _ _)
  clear hW HC7
  have HD7 := Lib.hid (HD6.out.trans (bb.mono HD6.out.size))
  have E7 := Lib.hid (ext_trans E6.out bb)
  have E2_7 := Lib.hid (ext_trans E2_6.out bb)
  clear bb HD6 E6 E2_6

  refine (text_any [97, 97, 103, 32, 49, 32, 49, 32, 48, 32, 48, 32, 48, 47, 50, 47, 105, 48, 32, 97, 32, 98, 47, 99, 47, 119, 104, 97, 116] W7 (by decide) (by decide)).mono ?_
  rintro e A8 ⟨a8, c8, rfl, hs, hb⟩
  have HS8 : Hid (Sees A8 a8 29 c8 ((([97, 97, 103, 32, 49, 32, 49, 32, 48, 32, 48, 32, 48, 47, 50, 47, 105, 48, 32, 97, 32, 98, 47, 99, 47, 119, 104, 97, 116] : List UInt8).map slash).map bv)) := hs
  have HB8 := Lib.hid hb
  clear hs hb
  go_wp2_with fail
  refine (get_ok _ _ live8 a8 29 c8 A8 HS8.out (by decide)).mono ?_
  rintro e B8 ⟨⟨p8a1, p8n1, p8c1, p8a2, p8n2, p8c2, p8a3, p8n3, p8c3, p8a4, p8n4, p8c4, p8a5, p8n5, p8c5, p8a6, p8n6, p8c6⟩, rfl, hsr, hb⟩
  have HR8 := Lib.hid hsr
  have HC8 := Lib.hid (ext_trans HB8.out hb)
  clear hsr hb HB8 HS8
  unfold rawV
  go_wp2_with fail
  generalize hW : World.alloc B8 _ = W8
  have HX8b : Hid (W8.heap[B8.heap.size]? = some (.cells #[.int .u32 1, .slice p8a1 p8n1 p8c1, .slice p8a2 p8n2 p8c2, .slice p8a3 p8n3 p8c3, .slice p8a4 p8n4 p8c4, .slice p8a5 p8n5 p8c5, .slice p8a6 p8n6 p8c6] 27 (0, 0))) := by subst hW; exact heap_new _ _ _ rfl
  have HR8' : Hid (SeesRaw W8 ⟨p8a1, p8n1, p8c1, p8a2, p8n2, p8c2, p8a3, p8n3, p8c3, p8a4, p8n4, p8c4, p8a5, p8n5, p8c5, p8a6, p8n6, p8c6⟩ ⟨1, [2], [], [], [], [], []⟩) := by subst hW; exact HR8.out.below (ext_alloc _ _)
  have bb : Below W7.heap.size W7 W8 := by subst hW; exact ext_trans HC8.out (ext_alloc _ _)
  clear hW HC8 HR8
  have HD8 := Lib.hid (HD7.out.trans (bb.mono HD7.out.size))
  have E8 := Lib.hid (ext_trans E7.out bb)
  have E2_8 := Lib.hid (ext_trans E2_7.out bb)
  clear bb HD7 E7 E2_7

  refine (text_any [97, 97, 103, 32, 49, 32, 49, 32, 48, 32, 48, 32, 48, 47, 50, 47, 105, 49, 32, 97, 47] W8 (by decide) (by decide)).mono ?_
  rintro e A9 ⟨a9, c9, rfl, hs, hb⟩
  have HS9 : Hid (Sees A9 a9 21 c9 ((([97, 97, 103, 32, 49, 32, 49, 32, 48, 32, 48, 32, 48, 47, 50, 47, 105, 49, 32, 97, 47] : List UInt8).map slash).map bv)) := hs
  have HB9 := Lib.hid hb
  clear hs hb
  go_wp2_with fail
  refine (get_err _ _ live9 a9 21 c9 A9 HS9.out (by decide)).mono ?_
  rintro e B9 ⟨rfl, hb⟩
  have HC9 := Lib.hid (ext_trans HB9.out hb)
  clear hb HB9 HS9
  unfold zeroRaw
  have hx1 := heap_below (heap_below HX1.out E8.out) HC9.out
  have hx3 := heap_below (heap_below HX3.out E8.out) HC9.out
  have hx4 := heap_below (heap_below HX2b.out E2_8.out) HC9.out
  have hx16 := heap_below HX8b.out HC9.out
  have RA := HR1'.out.below (ext_trans E8.out HC9.out)
  have RW := HRW.out.below (ext_trans E8.out HC9.out)
  have R2 := HR2'.out.below (ext_trans E2_8.out HC9.out)
  have R8 := HR8'.out.below HC9.out
  have BD := HD8.out.trans (HC9.out.mono HD8.out.size)
  clear HX1 HX3 HX2b HX8b HR1' HRW HR2' HR8' HD8 HC9 E8 E2_8
  have u0 := cell_of_block (heap_below hx1 (ext_alloc B9 (.cells #[.int .u32 0, .slice none 0 0, .slice none 0 0, .slice none 0 0, .slice none 0 0, .slice none 0 0, .slice none 0 0] 27))) 0
  have u1 := cell_of_block (heap_below hx1 (ext_alloc B9 (.cells #[.int .u32 0, .slice none 0 0, .slice none 0 0, .slice none 0 0, .slice none 0 0, .slice none 0 0, .slice none 0 0] 27))) 1
  have u2 := cell_of_block (heap_below hx1 (ext_alloc B9 (.cells #[.int .u32 0, .slice none 0 0, .slice none 0 0, .slice none 0 0, .slice none 0 0, .slice none 0 0, .slice none 0 0] 27))) 2
  have u3 := cell_of_block (heap_below hx1 (ext_alloc B9 (.cells #[.int .u32 0, .slice none 0 0, .slice none 0 0, .slice none 0 0, .slice none 0 0, .slice none 0 0, .slice none 0 0] 27))) 3
  have u4 := cell_of_block (heap_below hx1 (ext_alloc B9 (.cells #[.int .u32 0, .slice none 0 0, .slice none 0 0, .slice none 0 0, .slice none 0 0, .slice none 0 0, .slice none 0 0] 27))) 4
  have u5 := cell_of_block (heap_below hx1 (ext_alloc B9 (.cells #[.int .u32 0, .slice none 0 0, .slice none 0 0, .slice none 0 0, .slice none 0 0, .slice none 0 0, .slice none 0 0] 27))) 5
  have u6 := cell_of_block (heap_below hx1 (ext_alloc B9 (.cells #[.int .u32 0, .slice none 0 0, .slice none 0 0, .slice none 0 0, .slice none 0 0, .slice none 0 0, .slice none 0 0] 27))) 6
  have v0 := cell_of_block (heap_below hx3 (ext_alloc B9 (.cells #[.int .u32 0, .slice none 0 0, .slice none 0 0, .slice none 0 0, .slice none 0 0, .slice none 0 0, .slice none 0 0] 27))) 0
  have v1 := cell_of_block (heap_below hx3 (ext_alloc B9 (.cells #[.int .u32 0, .slice none 0 0, .slice none 0 0, .slice none 0 0, .slice none 0 0, .slice none 0 0, .slice none 0 0] 27))) 1
  have v2 := cell_of_block (heap_below hx3 (ext_alloc B9 (.cells #[.int .u32 0, .slice none 0 0, .slice none 0 0, .slice none 0 0, .slice none 0 0, .slice none 0 0, .slice none 0 0] 27))) 2
  have v3 := cell_of_block (heap_below hx3 (ext_alloc B9 (.cells #[.int .u32 0, .slice none 0 0, .slice none 0 0, .slice none 0 0, .slice none 0 0, .slice none 0 0, .slice none 0 0] 27))) 3
  have v4 := cell_of_block (heap_below hx3 (ext_alloc B9 (.cells #[.int .u32 0, .slice none 0 0, .slice none 0 0, .slice none 0 0, .slice none 0 0, .slice none 0 0, .slice none 0 0] 27))) 4
  have v5 := cell_of_block (heap_below hx3 (ext_alloc B9 (.cells #[.int .u32 0, .slice none 0 0, .slice none 0 0, .slice none 0 0, .slice none 0 0, .slice none 0 0, .slice none 0 0] 27))) 5
  have v6 := cell_of_block (heap_below hx3 (ext_alloc B9 (.cells #[.int .u32 0, .slice none 0 0, .slice none 0 0, .slice none 0 0, .slice none 0 0, .slice none 0 0, .slice none 0 0] 27))) 6
  have HX4 := Lib.hid (heap_below hx4 (ext_alloc B9 (.cells #[.int .u32 0, .slice none 0 0, .slice none 0 0, .slice none 0 0, .slice none 0 0, .slice none 0 0, .slice none 0 0] 27)))
  have HX16 := Lib.hid (heap_below hx16 (ext_alloc B9 (.cells #[.int .u32 0, .slice none 0 0, .slice none 0 0, .slice none 0 0, .slice none 0 0, .slice none 0 0, .slice none 0 0] 27)))
  have RA' := Lib.hid (RA.below (ext_alloc B9 (.cells #[.int .u32 0, .slice none 0 0, .slice none 0 0, .slice none 0 0, .slice none 0 0, .slice none 0 0, .slice none 0 0] 27)))
  have RW' := Lib.hid (RW.below (ext_alloc B9 (.cells #[.int .u32 0, .slice none 0 0, .slice none 0 0, .slice none 0 0, .slice none 0 0, .slice none 0 0, .slice none 0 0] 27)))
  have R2' := Lib.hid (R2.below (ext_alloc B9 (.cells #[.int .u32 0, .slice none 0 0, .slice none 0 0, .slice none 0 0, .slice none 0 0, .slice none 0 0, .slice none 0 0] 27)))
  have R8' := Lib.hid (R8.below (ext_alloc B9 (.cells #[.int .u32 0, .slice none 0 0, .slice none 0 0, .slice none 0 0, .slice none 0 0, .slice none 0 0, .slice none 0 0] 27)))
  have BD' := Lib.hid (BD.trans ((ext_alloc B9 (.cells #[.int .u32 0, .slice none 0 0, .slice none 0 0, .slice none 0 0, .slice none 0 0, .slice none 0 0, .slice none 0 0] 27)).mono BD.size))
  clear hx1 hx3 hx4 hx16 RA RW R2 R8 BD
  go_wp2_with fail
  refine (ref2_yes ⟨3, [2], [(4, 6, 4)], [], [6], [], [(6, 4, 2)]⟩ ⟨p1a1, p1n1, p1c1, p1a2, p1n2, p1c2, p1a3, p1n3, p1c3, p1a4, p1n4, p1c4, p1a5, p1n5, p1c5, p1a6, p1n6, p1c6⟩ ⟨some ⟨B1.heap.size + 1, 0, none⟩, 1, 1, some ⟨B1.heap.size + 2, 0, none⟩, 1, 1, none, 0, 0, some ⟨B1.heap.size + 3, 0, none⟩, 1, 1, none, 0, 0, some ⟨B1.heap.size + 4, 0, none⟩, 1, 1⟩ _ RA'.out RW'.out (by have := RA'.out.s1.lenMap; simp at this; show p1n1 ≤ _; omega) (by have := RA'.out.s2.1; simp at this; show p1n2 ≤ _; omega) (by have := RA'.out.s3.lenMap; simp at this; show p1n3 ≤ _; omega) (by have := RA'.out.s4.lenMap; simp at this; show p1n4 ≤ _; omega) (by have := RA'.out.s5.lenMap; simp at this; show p1n5 ≤ _; omega) (by have := RA'.out.s6.1; simp at this; show p1n6 ≤ _; omega)).mono ?_
  rintro e V1 ⟨rfl, hb⟩
  have hx4 := heap_below HX4.out hb
  have HX16' := Lib.hid (heap_below HX16.out hb)
  have R2'' := Lib.hid (R2'.out.below hb)
  have R8'' := Lib.hid (R8'.out.below hb)
  have BD'' := Lib.hid (BD'.out.trans (hb.mono BD'.out.size))
  have z1 := cell_of_block hx4 1
  clear hb u0 v0 u1 v1 u2 v2 u3 v3 u4 v4 u5 v5 u6 v6 hx4 HX4 HX16 RA' RW' R2' R8' BD'
  go_wp2_with fail
  refine (eqn_same [3] p2a1 (some ⟨V1.heap.size, 0, none⟩) p2n1 p2c1 1 1 _ (R2''.out.s1.below (ext_alloc V1 (.cells #[.int .u32 3] 22))) (sees_lit V1 _ _ _ [nv32 3] 1 rfl rfl) (by have := R2''.out.s1.lenMap; simp at this; omega)).mono ?_
  rintro e V2 ⟨rfl, hb⟩
  have hx16 := heap_below (heap_below HX16'.out (ext_alloc V1 (.cells #[.int .u32 3] 22))) hb
  have R8c := Lib.hid ((R8''.out.below (ext_alloc V1 (.cells #[.int .u32 3] 22))).below hb)
  have BDc := Lib.hid ((BD''.out.trans ((ext_alloc V1 (.cells #[.int .u32 3] 22)).mono BD''.out.size)).trans (hb.mono (Nat.le_trans BD''.out.size (ext_alloc V1 (.cells #[.int .u32 3] 22)).size)))
  have z16 := cell_of_block hx16 1
  clear hb z1 hx16 HX16' R2'' R8'' BD''
  go_wp2_with fail
  refine (eqn_same [2] p8a1 (some ⟨V2.heap.size, 0, none⟩) p8n1 p8c1 1 1 _ (R8c.out.s1.below (ext_alloc V2 (.cells #[.int .u32 2] 22))) (sees_lit V2 _ _ _ [nv32 2] 1 rfl rfl) (by have := R8c.out.s1.lenMap; simp at this; omega)).mono ?_
  rintro e V3 ⟨rfl, hb⟩
  have BE := Lib.hid ((BDc.out.trans ((ext_alloc V2 (.cells #[.int .u32 2] 22)).mono BDc.out.size)).trans (hb.mono (Nat.le_trans BDc.out.size (ext_alloc V2 (.cells #[.int .u32 2] 22)).size)))
  clear hb z16
  go_wp2
  go_ret
  exact ⟨rfl, BE.out⟩
end Go.Proofs.YtbpdjfjjkioeaaaDoor
