/- The law's own examples. -/
import Derived.Test.YtkimhlomadmnkaaDoorWGet
import Derived.Test.YtkimhlomadmnkaaDoorWText
import Derived.Test.YtkimhlomadmnkaaDoorNTab
namespace Go.Proofs.YtkimhlomadmnkaaDoor
open Go Go.RowKit Go.Joins

theorem get_ok (bs : List UInt8) (t : TraceC) (a : Option Addr) (n c : Nat) (la inp : Int) (w : World) (h : Sees w a n c (bs.map bv)) (hla : -9223372036854775808 ≤ la ∧ la < 9223372036854775808) (hin : -9223372036854775808 ≤ inp ∧ inp < 9223372036854775808) (hg : getW bs la inp = .ok t) :
    Calls Tryd.prog 18 #[.slice a n c, .int .i64 la, .int .i64 inp] w fun e w' => ∃ s, e = .returned (.tuple #[traceV t.bad s, .int .i64 0]) ∧ SeesTr w' s t ∧ s.small ∧ Below w.heap.size w w' := by
  refine (get_any bs a n c la inp w h hla hin).mono fun e w' ⟨hb, hp⟩ => ?_
  rcases hp with ⟨er, h1, _⟩ | ⟨t', s, h1, h2, h3, h4⟩
  · rw [hg] at h1; cases h1
  · rw [hg] at h1; cases h1; exact ⟨s, h2, h3.sees, h4, hb⟩
theorem get_own (bs : List UInt8) (t : TraceC) (a : Option Addr) (n c : Nat) (la inp : Int) (w : World) (h : Sees w a n c (bs.map bv)) (hla : -9223372036854775808 ≤ la ∧ la < 9223372036854775808) (hin : -9223372036854775808 ≤ inp ∧ inp < 9223372036854775808) (hg : getW bs la inp = .ok t) :
    Calls Tryd.prog 18 #[.slice a n c, .int .i64 la, .int .i64 inp] w fun e w' => ∃ s, e = .returned (.tuple #[traceV t.bad s, .int .i64 0]) ∧ OwnT w' w.heap.size s t ∧ s.small ∧ Below w.heap.size w w' := by
  refine (get_any bs a n c la inp w h hla hin).mono fun e w' ⟨hb, hp⟩ => ?_
  rcases hp with ⟨er, h1, _⟩ | ⟨t', s, h1, h2, h3, h4⟩
  · rw [hg] at h1; cases h1
  · rw [hg] at h1; cases h1; exact ⟨s, h2, h3, h4, hb⟩
theorem get_no (bs : List UInt8) (er : Int) (a : Option Addr) (n c : Nat) (la inp : Int) (w : World) (h : Sees w a n c (bs.map bv)) (hla : -9223372036854775808 ≤ la ∧ la < 9223372036854775808) (hin : -9223372036854775808 ≤ inp ∧ inp < 9223372036854775808) (hg : getW bs la inp = .error er) :
    Calls Tryd.prog 18 #[.slice a n c, .int .i64 la, .int .i64 inp] w fun e w' => e = .returned (.tuple #[traceV 0 slotsT0, .int .i64 er]) ∧ Below w.heap.size w w' := by
  refine (get_any bs a n c la inp w h hla hin).mono fun e w' ⟨hb, hp⟩ => ?_
  rcases hp with ⟨er', h1, _, _, h2⟩ | ⟨t', s, h1, _⟩
  · rw [hg] at h1; cases h1; exact ⟨h2, hb⟩
  · rw [hg] at h1; cases h1
theorem sees_blkW {w : World} {g : Nat} {C : Array Value} {t : TypeId} {fr : Nat × Nat} (h : w.heap[g]? = some (.cells C t fr)) (xs : List Value) (n : Nat) (hC : C = xs.toArray) (hn : xs.length = n) : Sees w (some ⟨g, 0, none⟩) n n xs := by
  subst hC
  refine ⟨hn, Nat.le_refl _, (fun e => by cases e), fun _ => ⟨g, 0, rfl, heap_lt h, fun j hj => ?_⟩⟩
  rw [cell_of_block h]
  simp

set_option maxRecDepth 100000 in
set_option maxHeartbeats 6400000 in
theorem wlives_any (w : World) : Calls Tryd.prog 13 #[] w fun e w' => e = .returned (.bool true) ∧ Below w.heap.size w w' := by
  go_enter Tryd.func13, Tryd.ntmps13
  have HB := Lib.hid (Below.refl w.heap.size w)
  go_wp2_with fail
  refine (text_any [49, 47, 98, 48, 47, 120, 47, 48, 47, 49, 47, 46, 47] w (by simp) (by simp)).mono ?_
  rintro e X0 ⟨a0, c0, rfl, s0, hb⟩
  have HBn := Lib.hid (ext_trans HB.out hb)
  clear HB hb
  have HB := HBn
  clear HBn
  have HG : Hid (Calls Tryd.prog 18 #[.slice a0 13 c0, .int .i64 1, .int .i64 1] X0 fun e w' => ∃ s, e = .returned (.tuple #[traceV 0 s, .int .i64 0]) ∧ SeesTr w' s ⟨0, [2], [[0], [1]]⟩ ∧ s.small ∧ Below X0.heap.size X0 w') := get_ok _ ⟨0, [2], [[0], [1]]⟩ a0 13 c0 1 1 X0 s0 (by omega) (by omega) exA
  clear s0
  go_wp2_with fail
  refine HG.out.mono ?_
  rintro e V0 ⟨s, rfl, ht, hs, hb⟩
  obtain ⟨p01, m01, d01, p02, m02, d02, ss0⟩ := s
  have HT0 := Lib.hid ht
  have HSM0 := Lib.hid hs
  clear ht hs
  have HBn := Lib.hid (ext_trans HB.out hb)
  clear HB hb HG
  have HB := HBn
  clear HBn
  unfold traceV
  go_wp2_with fail
  generalize hW : World.alloc V0 _ = U1
  have hbU : Below V0.heap.size V0 U1 := by subst hW; exact ext_alloc _ _
  have HR0 : Hid (U1.heap[V0.heap.size]? = some (.cells #[.int .i64 0, .slice p01 m01 d01, .slice p02 m02 d02] 39 (0, 0))) := by subst hW; exact heap_new _ _ _ rfl
  clear hW
  have HBn := Lib.hid (ext_trans HB.out hbU)
  replace HT0 := Lib.hid (HT0.out.below hbU)
  clear HB hbU
  have HB := HBn
  clear HBn
  refine (text_any [49, 47, 98, 48, 47, 47, 120, 47, 46, 47] U1 (by simp) (by simp)).mono ?_
  rintro e X1 ⟨a1, c1, rfl, s1, hb⟩
  have HBn := Lib.hid (ext_trans HB.out hb)
  replace HR0 := Lib.hid (heap_below HR0.out hb)
  replace HT0 := Lib.hid (HT0.out.below hb)
  clear HB hb
  have HB := HBn
  clear HBn
  have HG : Hid (Calls Tryd.prog 18 #[.slice a1 10 c1, .int .i64 0, .int .i64 1] X1 fun e w' => ∃ s, e = .returned (.tuple #[traceV 0 s, .int .i64 0]) ∧ SeesTr w' s ⟨0, [], [[2]]⟩ ∧ s.small ∧ Below X1.heap.size X1 w') := get_ok _ ⟨0, [], [[2]]⟩ a1 10 c1 0 1 X1 s1 (by omega) (by omega) exB
  clear s1
  go_wp2_with fail
  refine HG.out.mono ?_
  rintro e V1 ⟨s, rfl, ht, hs, hb⟩
  obtain ⟨p11, m11, d11, p12, m12, d12, ss1⟩ := s
  have HT1 := Lib.hid ht
  have HSM1 := Lib.hid hs
  clear ht hs
  have HBn := Lib.hid (ext_trans HB.out hb)
  replace HR0 := Lib.hid (heap_below HR0.out hb)
  replace HT0 := Lib.hid (HT0.out.below hb)
  clear HB hb HG
  have HB := HBn
  clear HBn
  unfold traceV
  go_wp2_with fail
  generalize hW : World.alloc V1 _ = U2
  have hbU : Below V1.heap.size V1 U2 := by subst hW; exact ext_alloc _ _
  have HR1 : Hid (U2.heap[V1.heap.size]? = some (.cells #[.int .i64 0, .slice p11 m11 d11, .slice p12 m12 d12] 39 (0, 0))) := by subst hW; exact heap_new _ _ _ rfl
  clear hW
  have HBn := Lib.hid (ext_trans HB.out hbU)
  replace HR0 := Lib.hid (heap_below HR0.out hbU)
  replace HT0 := Lib.hid (HT0.out.below hbU)
  replace HT1 := Lib.hid (HT1.out.below hbU)
  clear HB hbU
  have HB := HBn
  clear HBn
  refine (text_any [48, 47] U2 (by simp) (by simp)).mono ?_
  rintro e X2 ⟨a2, c2, rfl, s2, hb⟩
  have HBn := Lib.hid (ext_trans HB.out hb)
  replace HR0 := Lib.hid (heap_below HR0.out hb)
  replace HT0 := Lib.hid (HT0.out.below hb)
  replace HR1 := Lib.hid (heap_below HR1.out hb)
  replace HT1 := Lib.hid (HT1.out.below hb)
  clear HB hb
  have HB := HBn
  clear HBn
  have HG : Hid (Calls Tryd.prog 18 #[.slice a2 2 c2, .int .i64 1, .int .i64 1] X2 fun e w' => e = .returned (.tuple #[traceV 0 slotsT0, .int .i64 6]) ∧ Below X2.heap.size X2 w') := get_no _ 6 a2 2 c2 1 1 X2 s2 (by omega) (by omega) exC
  clear s2
  go_wp2_with fail
  refine HG.out.mono ?_
  rintro e V2 ⟨rfl, hb⟩
  have HBn := Lib.hid (ext_trans HB.out hb)
  replace HR0 := Lib.hid (heap_below HR0.out hb)
  replace HT0 := Lib.hid (HT0.out.below hb)
  replace HR1 := Lib.hid (heap_below HR1.out hb)
  replace HT1 := Lib.hid (HT1.out.below hb)
  clear HB hb HG
  have HB := HBn
  clear HBn
  unfold traceV slotsT0
  go_wp2_with fail
  generalize hW : World.alloc V2 _ = U3
  have hbU : Below V2.heap.size V2 U3 := by subst hW; exact ext_alloc _ _
  clear hW
  have HBn := Lib.hid (ext_trans HB.out hbU)
  replace HR0 := Lib.hid (heap_below HR0.out hbU)
  replace HT0 := Lib.hid (HT0.out.below hbU)
  replace HR1 := Lib.hid (heap_below HR1.out hbU)
  replace HT1 := Lib.hid (HT1.out.below hbU)
  clear HB hbU
  have HB := HBn
  clear HBn
  refine (text_any [49, 47, 98, 48, 47, 47, 46, 47] U3 (by simp) (by simp)).mono ?_
  rintro e X3 ⟨a3, c3, rfl, s3, hb⟩
  have HBn := Lib.hid (ext_trans HB.out hb)
  replace HR0 := Lib.hid (heap_below HR0.out hb)
  replace HT0 := Lib.hid (HT0.out.below hb)
  replace HR1 := Lib.hid (heap_below HR1.out hb)
  replace HT1 := Lib.hid (HT1.out.below hb)
  clear HB hb
  have HB := HBn
  clear HBn
  have HG : Hid (Calls Tryd.prog 18 #[.slice a3 8 c3, .int .i64 0, .int .i64 1] X3 fun e w' => e = .returned (.tuple #[traceV 0 slotsT0, .int .i64 5]) ∧ Below X3.heap.size X3 w') := get_no _ 5 a3 8 c3 0 1 X3 s3 (by omega) (by omega) exD
  clear s3
  go_wp2_with fail
  refine HG.out.mono ?_
  rintro e V3 ⟨rfl, hb⟩
  have HBn := Lib.hid (ext_trans HB.out hb)
  replace HR0 := Lib.hid (heap_below HR0.out hb)
  replace HT0 := Lib.hid (HT0.out.below hb)
  replace HR1 := Lib.hid (heap_below HR1.out hb)
  replace HT1 := Lib.hid (HT1.out.below hb)
  clear HB hb HG
  have HB := HBn
  clear HBn
  unfold traceV slotsT0
  go_wp2_with fail
  generalize hW : World.alloc V3 _ = U4
  have hbU : Below V3.heap.size V3 U4 := by subst hW; exact ext_alloc _ _
  clear hW
  have HBn := Lib.hid (ext_trans HB.out hbU)
  replace HR0 := Lib.hid (heap_below HR0.out hbU)
  replace HT0 := Lib.hid (HT0.out.below hbU)
  replace HR1 := Lib.hid (heap_below HR1.out hbU)
  replace HT1 := Lib.hid (HT1.out.below hbU)
  clear HB hbU
  have HB := HBn
  clear HBn
  refine (text_any [49, 47, 98, 48, 47, 48, 47, 48, 47] U4 (by simp) (by simp)).mono ?_
  rintro e X4 ⟨a4, c4, rfl, s4, hb⟩
  have HBn := Lib.hid (ext_trans HB.out hb)
  replace HR0 := Lib.hid (heap_below HR0.out hb)
  replace HT0 := Lib.hid (HT0.out.below hb)
  replace HR1 := Lib.hid (heap_below HR1.out hb)
  replace HT1 := Lib.hid (HT1.out.below hb)
  clear HB hb
  have HB := HBn
  clear HBn
  have HG : Hid (Calls Tryd.prog 18 #[.slice a4 9 c4, .int .i64 1, .int .i64 1] X4 fun e w' => e = .returned (.tuple #[traceV 0 slotsT0, .int .i64 4]) ∧ Below X4.heap.size X4 w') := get_no _ 4 a4 9 c4 1 1 X4 s4 (by omega) (by omega) exE
  clear s4
  go_wp2_with fail
  refine HG.out.mono ?_
  rintro e V4 ⟨rfl, hb⟩
  have HBn := Lib.hid (ext_trans HB.out hb)
  replace HR0 := Lib.hid (heap_below HR0.out hb)
  replace HT0 := Lib.hid (HT0.out.below hb)
  replace HR1 := Lib.hid (heap_below HR1.out hb)
  replace HT1 := Lib.hid (HT1.out.below hb)
  clear HB hb HG
  have HB := HBn
  clear HBn
  unfold traceV slotsT0
  have k0 := cell_of_block (heap_below HR0.out (ext_alloc V4 (.cells #[.int .i64 0, .slice none 0 0, .slice none 0 0] 39))) 0
  have k1 := cell_of_block (heap_below HR0.out (ext_alloc V4 (.cells #[.int .i64 0, .slice none 0 0, .slice none 0 0] 39))) 1
  have k2 := cell_of_block (heap_below HR0.out (ext_alloc V4 (.cells #[.int .i64 0, .slice none 0 0, .slice none 0 0] 39))) 2
  go_wp2_with fail
  generalize hW : World.alloc (World.alloc (World.alloc (World.alloc (World.alloc V4 _) _) _) _) _ = Y
  have hbY : Below V4.heap.size V4 Y := by subst hW; exact ext_trans (ext_alloc _ _) (ext_trans (ext_alloc _ _) (ext_trans (ext_alloc _ _) (ext_trans (ext_alloc _ _) (ext_alloc _ _))))
  have y1 : Y.heap[V4.heap.size + 1]? = some (.cells #[.int .u8 2] 5 (0, 0)) := by subst hW; exact heap_below (heap_new _ _ _ (by simp)) (ext_trans (ext_alloc _ _) (ext_trans (ext_alloc _ _) (ext_alloc _ _)))
  have y2 : Y.heap[V4.heap.size + 1 + 1]? = some (.cells #[.int .u8 0] 5 (0, 0)) := by subst hW; exact heap_below (heap_new _ _ _ (by simp)) (ext_trans (ext_alloc _ _) (ext_alloc _ _))
  have y3 : Y.heap[V4.heap.size + 1 + 1 + 1]? = some (.cells #[.int .u8 1] 5 (0, 0)) := by subst hW; exact heap_below (heap_new _ _ _ (by simp)) (ext_alloc _ _)
  have y4 : Y.heap[V4.heap.size + 1 + 1 + 1 + 1]? = some (.cells #[.slice (some ⟨V4.heap.size + 1 + 1, 0, none⟩) 1 1, .slice (some ⟨V4.heap.size + 1 + 1 + 1, 0, none⟩) 1 1] 22 (0, 0)) := by subst hW; exact heap_new _ _ _ (by simp)
  clear hW k0 k1 k2
  have HS : Hid (Calls Tryd.prog 22 #[.agg #[.int .i64 0, .slice p01 m01 d01, .slice p02 m02 d02], .agg #[.int .i64 0, .slice (some ⟨V4.heap.size + 1, 0, none⟩) 1 1, .slice (some ⟨V4.heap.size + 1 + 1 + 1 + 1, 0, none⟩) 2 2]] Y fun e w' => e = .returned (.bool true) ∧ Below Y.heap.size Y w') := by
    refine (sametr_any ⟨0, [2], [[0], [1]]⟩ ⟨0, [2], [[0], [1]]⟩ ⟨p01, m01, d01, p02, m02, d02, ss0⟩ ⟨some ⟨V4.heap.size + 1, 0, none⟩, 1, 1, some ⟨V4.heap.size + 1 + 1 + 1 + 1, 0, none⟩, 2, 2, [(some ⟨V4.heap.size + 1 + 1, 0, none⟩, 1, 1), (some ⟨V4.heap.size + 1 + 1 + 1, 0, none⟩, 1, 1)]⟩ Y (HT0.out.below hbY) ⟨sees_blkW y1 [bv 2] 1 rfl rfl, ⟨sees_blkW y4 _ 2 rfl rfl, rfl, fun k hk => ?_⟩⟩ HSM0.out (by decide) (by decide)).mono fun e w' hp => ⟨by rw [hp.1, decide_eq_true rfl], hp.2⟩
    match k, hk with
    | 0, _ => exact sees_blkW y2 [bv 0] 1 rfl rfl
    | 1, _ => exact sees_blkW y3 [bv 1] 1 rfl rfl
  have HR1' := Lib.hid (heap_below HR1.out hbY)
  have HT1' := Lib.hid (HT1.out.below hbY)
  have HBY := Lib.hid (ext_trans HB.out hbY)
  clear y1 y2 y3 y4 hbY HR0 HT0 HR1 HT1 HB HSM0
  refine HS.out.mono ?_
  rintro e Y1 ⟨rfl, hb⟩
  have hR := heap_below HR1'.out hb
  have HT1 := Lib.hid (HT1'.out.below hb)
  have HB := Lib.hid (ext_trans HBY.out hb)
  have k0 := cell_of_block hR 0
  have k1 := cell_of_block hR 1
  have k2 := cell_of_block hR 2
  clear hb hR HS HR1' HT1' HBY
  go_wp2_with fail
  generalize hW : World.alloc (World.alloc Y1 _) _ = Z
  have hbZ : Below Y1.heap.size Y1 Z := by subst hW; exact ext_trans (ext_alloc _ _) (ext_alloc _ _)
  have y1 : Z.heap[Y1.heap.size]? = some (.cells #[.int .u8 2] 5 (0, 0)) := by subst hW; exact heap_below (heap_new _ _ _ rfl) (ext_alloc _ _)
  have y2 : Z.heap[Y1.heap.size + 1]? = some (.cells #[.slice (some ⟨Y1.heap.size, 0, none⟩) 1 1] 22 (0, 0)) := by subst hW; exact heap_new _ _ _ (by simp)
  clear hW k0 k1 k2
  have HS : Hid (Calls Tryd.prog 22 #[.agg #[.int .i64 0, .slice p11 m11 d11, .slice p12 m12 d12], .agg #[.int .i64 0, .slice none 0 0, .slice (some ⟨Y1.heap.size + 1, 0, none⟩) 1 1]] Z fun e w' => e = .returned (.bool true) ∧ Below Z.heap.size Z w') := by
    refine (sametr_any ⟨0, [], [[2]]⟩ ⟨0, [], [[2]]⟩ ⟨p11, m11, d11, p12, m12, d12, ss1⟩ ⟨none, 0, 0, some ⟨Y1.heap.size + 1, 0, none⟩, 1, 1, [(some ⟨Y1.heap.size, 0, none⟩, 1, 1)]⟩ Z (HT1.out.below hbZ) ⟨Sees.nil _ _ _ (fun _ => rfl), ⟨sees_blkW y2 _ 1 rfl rfl, rfl, fun k hk => ?_⟩⟩ HSM1.out (by decide) (by decide)).mono fun e w' hp => ⟨by rw [hp.1, decide_eq_true rfl], hp.2⟩
    match k, hk with
    | 0, _ => exact sees_blkW y1 [bv 2] 1 rfl rfl
  have HBZ := Lib.hid (ext_trans HB.out hbZ)
  clear y1 y2 hbZ HT1 HB HSM1
  refine HS.out.mono ?_
  rintro e Z1 ⟨rfl, hb⟩
  have HB := Lib.hid (ext_trans HBZ.out hb)
  clear hb HBZ HS
  go_wp2
  go_ret
  exact ⟨rfl, HB.out⟩
end Go.Proofs.YtkimhlomadmnkaaDoor
