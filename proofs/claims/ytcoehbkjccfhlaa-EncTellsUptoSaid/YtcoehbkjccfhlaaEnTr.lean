/- enc.Trace, by its contract. -/
import Derived.Test.YtcoehbkjccfhlaaGEncT00
import Derived.Test.YtcoehbkjccfhlaaGEncT01
import Derived.Test.YtcoehbkjccfhlaaGEncT06
import Derived.Test.YtcoehbkjccfhlaaGEncT03
import Derived.Test.YtcoehbkjccfhlaaGEncT02
import Derived.Test.YtcoehbkjccfhlaaGEncT07
import Derived.Test.YtcoehbkjccfhlaaGEncT05
import Derived.Test.YtcoehbkjccfhlaaEnSmall
import Derived.Test.YtcoehbkjccfhlaaEnOf
import Derived.Test.YtcoehbkjccfhlaaEnLim
import Derived.Test.YtcoehbkjccfhlaaEnFa
import Derived.Test.YtcoehbkjccfhlaaGEncT12
import Derived.Test.YtcoehbkjccfhlaaEnT5
import Derived.Test.YtcoehbkjccfhlaaGEncT13
import Derived.Test.YtcoehbkjccfhlaaRows
import Derived.BigQuiet
import Derived.Deep.AppendLies
import Derived.Deep.CutRange
import Derived.Deep.QuietTactic
import Derived.Deep.RegionHeld3
import Derived.Deep.RegionLaw
import Derived.Deep.RegionWith
import Derived.KernelRfl
import Derived.Laws.EntriesVeiled
import Derived.Laws.Tables
import Derived.Lib.AppendStr
import Derived.Lib.AppendZeros
import Derived.Lib.ConvBytes
import Derived.Lib.Hide
import Derived.Lib.SlBytesRow
import Derived.Lib.SmallJoins
import Derived.Maps.AppendAt
import Derived.OrdersHeld
import Derived.Shelf.Bytes.SlSmallAll
import Derived.WalkKit
import Derived.WalkLawsBesides
import Derived.WalkSpells
namespace Go.Proofs.Ytcoehbkjccfhlaa
open Go Go.RowKit Go.Joins

theorem sees_modT {c : NormC} {bs : List Bool} {bad : Int} {nf n1 ii I F : Nat} {gs : Nat → Nat} {W : World} (hl : c.lats.length = n1) (hin : c.ins.toNat = ii) (hM : MayC c)
    (hI : W.heap[I]? = some (.cells (fcells n1 (fun j => .int .u8 (initN c bs j : Int))) 5 (0, 0)))
    (hF : W.heap[F]? = some (.cells (fcells nf (fun j => .slice (some ⟨gs j, 0, none⟩) ii ii)) 27 (0, 0)))
    (hG : ∀ j, j < nf → W.heap[gs j]? = some (.cells (fcells ii (fun i => .int .u8 (inN c bs j i : Int))) 5 (0, 0))) :
    SeesTr W ⟨some ⟨I, 0, none⟩, n1, n1, some ⟨F, 0, none⟩, nf, nf, (List.range nf).map fun j => (some ⟨gs j, 0, none⟩, ii, ii)⟩ (modT c bs bad nf) := by
  subst hl
  subst hin
  refine ⟨sees_block8 (initN c bs) hI (fun j hj => by have := initN_le hM bs j hj; omega), ⟨?_, by simp [modT], ?_⟩⟩
  · refine ⟨by simp, Nat.le_refl _, (fun e => by cases e), fun _ => ⟨F, 0, rfl, heap_lt hF, fun j hj => ?_⟩⟩
    have hj2 : j < nf := by simpa using hj
    rw [Nat.zero_add, cell_of_block hF j, fcells_get _ _ _ hj2]
    rw [List.getElem?_map, List.getElem?_map, List.getElem?_range hj2]
    rfl
  · intro k hk
    have hk2 : k < nf := by simpa [modT] using hk
    have h := sees_block8 (inN c bs k) (hG k hk2) (fun j _ => by have := inN_le c bs k j; omega)
    simpa [modT, List.getD, hk2] using h

set_option maxRecDepth 100000 in
set_option maxHeartbeats 25600000 in
theorem trace14_any (c : NormC) (bs : List Bool) (s : CSlots) (ma : Option Addr) (mn mc : Nat) (bad z : Int) (w : World) (h : SeesCir w s c) (hmo : Sees w ma mn mc (bs.map Value.bool)) (hs : s.small) (hlo : -9223372036854775808 ≤ c.ins) (hhi : c.ins < 9223372036854775808) :
    Calls Try.prog 22 #[cirV c.ins s, .int .i64 bad, .int .i64 z, .slice ma mn mc] w (TrE c bad z bs w) := by
  have HOF := Lib.hid (fun W (hb : Below w.heap.size w W) => enof_any c s z W (h.below hb) hs hlo hhi)
  have HBD := Lib.hid (fun W => hasBad_any c s bad W h.s4.lenMap)
  have HLA := Lib.hid (fun (ho : ofOk c z = true) W => last_any c.ins s (varsN c) z.toNat (ofOk_iff ho).1.few (ofOk_iff ho).2.2.1 W)
  have HOK := Lib.hid (fun (ho : ofOk c z = true) => ofOk_iff ho)
  have HTO : Hid (trOk c bad z bs = (ofOk c z && (badOk c bad && decide (1 + (1 + z.toNat * varsN c) ≤ mn)))) := by show _ = _; rw [← hmo.lenMap]; rfl
  have HSPM := Lib.hid (fun (ho : ofOk c z = true) => (spotE_lt (V := varsN c) (v := 0) (f := z.toNat) (ofOk_iff ho).1.few (by omega) (ofOk_iff ho).2.2.1).2)
  have HS1 := Lib.hid h.s1
  have HMO := Lib.hid hmo
  have l1 : c.lats.length = s.n1 := h.s1.1
  have HL1 := Lib.hid l1
  have hs1 : s.n1 ≤ 1048576 := hs.n1
  clear h hmo hs hlo hhi l1
  obtain ⟨a1, n1, c1, a2, n2, c2, a3, n3, c3, a4, n4, c4, a5, n5, c5⟩ := s
  simp only at HS1 HL1 hs1
  unfold TrE
  obtain ⟨tk, htk⟩ : ∃ b, b = trOk c bad z bs := ⟨_, rfl⟩
  rw [← htk]
  rw [← htk] at HTO
  obtain ⟨x, hx⟩ : ∃ x, x = c.ins := ⟨_, rfl⟩
  unfold OfE at HOF
  rw [← hx]
  rw [← hx] at HOF HBD HLA
  obtain ⟨o, ho⟩ : ∃ o, o = ofOk c z := ⟨_, rfl⟩
  rw [← ho] at HOF HLA HOK HTO HSPM
  obtain ⟨bo, hbo⟩ : ∃ o, o = badOk c bad := ⟨_, rfl⟩
  have hbd2 : (decide (0 ≤ bad) && decide (bad < (c.bads.length : Int))) = bo := by rw [hbo]; rfl
  rw [hbd2] at HBD
  rw [← hbo] at HTO
  have HXI := Lib.hid hx
  clear htk hx ho hbo hbd2
  unfold cirV at *
  go_enter Try.func22, Try.ntmps22
  go_upto_region 1 with fail
  generalize hW : World.alloc (World.alloc (World.alloc w _) _) _ = W1
  have hX : W1.heap[w.heap.size]? = some (.cells #[.int .i64 x, .slice a1 n1 c1, .slice a2 n2 c2, .slice a3 n3 c3, .slice a4 n4 c4, .slice a5 n5 c5] 26 (0, 0)) := by subst hW; exact heap_below (heap_new _ _ _ rfl) (ext_trans (ext_alloc _ _) (ext_alloc _ _))
  have hM : W1.heap[w.heap.size + 1]? = some (.cells #[.slice ma mn mc] 32 (0, 0)) := by subst hW; exact heap_below (heap_new (w.alloc _) _ _ (by simp)) (ext_alloc _ _)
  have hR : W1.heap[w.heap.size + 1 + 1]? = some (.cells #[.int .i64 0, .slice none 0 0, .slice none 0 0] 30 (0, 0)) := by subst hW; exact heap_new _ _ _ (by simp)
  have hB : Below w.heap.size w W1 := by subst hW; exact ext_trans (ext_alloc _ _) (ext_trans (ext_alloc _ _) (ext_alloc _ _))
  have HX1 := Lib.hid hX
  have HM1 := Lib.hid hM
  have HR1 := Lib.hid hR
  have HB1 := Lib.hid hB
  clear hW hX hM hR hB
  have p0 := cell_of_block HX1.out 0
  have p1 := cell_of_block HX1.out 1
  have p2 := cell_of_block HX1.out 2
  have p3 := cell_of_block HX1.out 3
  have p4 := cell_of_block HX1.out 4
  have p5 := cell_of_block HX1.out 5
  go_wp2_with fail
  refine (HOF.out W1 HB1.out).mono ?_
  rintro e W2 ⟨hb, hcase⟩
  have HX2 := Lib.hid (heap_below HX1.out hb)
  have HM2 := Lib.hid (heap_below HM1.out hb)
  have HR2 := Lib.hid (heap_below HR1.out hb)
  have HB2 := Lib.hid (ext_trans HB1.out hb)
  clear p0 p1 p2 p3 p4 p5 hb HX1 HM1 HR1 HB1 HOF
  rcases hcase with ⟨rfl, rfl⟩ | ⟨rfl, rfl⟩
  · obtain ⟨hM, hf1, hf2, hzz⟩ := HOK.out (by trivial)
    have HLA2 := Lib.hid (HLA.out (by trivial))
    have hspm := HSPM.out (by trivial)
    clear HLA HOK HSPM
    obtain ⟨nf, hnf⟩ : ∃ n, n = z.toNat := ⟨_, rfl⟩
    rw [← hnf] at hzz hf1 hf2 HLA2 hspm HTO
    rw [← hnf]
    subst hzz
    clear hnf
    obtain ⟨ii, hii⟩ := Int.eq_ofNat_of_zero_le hM.pos
    have hiv : x = (ii : Int) := HXI.out.trans hii
    subst hiv
    have hin : c.ins.toNat = ii := by rw [hii]; rfl
    have HIN := Lib.hid hin
    obtain ⟨V, hV⟩ : ∃ V, V = varsN c := ⟨_, rfl⟩
    rw [← hV] at HLA2 hspm HTO
    rw [← hV]
    have hfew : V ≤ 16384 := by rw [hV]; exact hM.few
    have hV1 : ii + n1 ≤ V := by rw [hV]; unfold varsN; rw [hin, HL1.out]; omega
    have HVV := Lib.hid hV
    have HMC := Lib.hid hM
    clear hM hii hin hV HXI
    unfold uV
    go_upto_region 2 with fail
    generalize hW : World.alloc W2 _ = W3
    obtain ⟨U, hU⟩ : ∃ U, U = W2.heap.size := ⟨_, rfl⟩
    have hU3 : W3.heap[U]? = some (.cells #[.int .i64 (ii : Int), .slice a1 n1 c1, .slice a2 n2 c2, .slice a3 n3 c3, .slice a4 n4 c4, .slice a5 n5 c5, .int .i64 (V : Int), .int .i64 (nf : Int)] 67 (0, 0)) := by subst hW; rw [hU]; exact heap_new _ _ _ rfl
    have hb3 : Below W2.heap.size W2 W3 := by subst hW; exact ext_alloc _ _
    have HU3 := Lib.hid hU3
    have HX3 := Lib.hid (heap_below HX2.out hb3)
    have HM3 := Lib.hid (heap_below HM2.out hb3)
    have HR3 := Lib.hid (heap_below HR2.out hb3)
    have HB3 := Lib.hid (ext_trans HB2.out hb3)
    have HUG : Hid (w.heap.size + 1 + 1 < U) := by show _ < _; rw [hU]; exact heap_lt HR2.out
    rw [← hU]
    clear hW hU3 hb3 hU HX2 HM2 HR2 HB2
    unfold uV at HLA2
    cases bo with
    | false =>
      have HF : Hid (tk = false) := by show _ = _; rw [HTO.out]; rfl
      have q_0 : W3.cell? ⟨w.heap.size, 0, none⟩ = some (.int .i64 (ii : Int)) := cell_of_block HX3.out 0
      have q_1 : W3.cell? ⟨w.heap.size, 1, none⟩ = some (.slice a1 n1 c1) := cell_of_block HX3.out 1
      have q_2 : W3.cell? ⟨w.heap.size, 2, none⟩ = some (.slice a2 n2 c2) := cell_of_block HX3.out 2
      have q_3 : W3.cell? ⟨w.heap.size, 3, none⟩ = some (.slice a3 n3 c3) := cell_of_block HX3.out 3
      have q_4 : W3.cell? ⟨w.heap.size, 4, none⟩ = some (.slice a4 n4 c4) := cell_of_block HX3.out 4
      have q_5 : W3.cell? ⟨w.heap.size, 5, none⟩ = some (.slice a5 n5 c5) := cell_of_block HX3.out 5
      refine wp_region_noPanic ?_
      refine wp_region_held (S := fun w' => w'.cell? ⟨w.heap.size, 0, none⟩ = some (.int .i64 (ii : Int)) ∧ w'.cell? ⟨w.heap.size, 1, none⟩ = some (.slice a1 n1 c1) ∧ w'.cell? ⟨w.heap.size, 2, none⟩ = some (.slice a2 n2 c2) ∧ w'.cell? ⟨w.heap.size, 3, none⟩ = some (.slice a3 n3 c3) ∧ w'.cell? ⟨w.heap.size, 4, none⟩ = some (.slice a4 n4 c4) ∧ w'.cell? ⟨w.heap.size, 5, none⟩ = some (.slice a5 n5 c5)) (by kernel_rfl) ?_
      generalize hYY : ({ W3 with drawn := W3.drawn + 1 } : World) = Y0
      have HY0 : Hid (Below W3.heap.size W3 Y0) := by subst hYY; exact (Below.refl _ _).drew
      have HS0 : Hid (Y0.cell? ⟨w.heap.size, 0, none⟩ = some (.int .i64 (ii : Int)) ∧ Y0.cell? ⟨w.heap.size, 1, none⟩ = some (.slice a1 n1 c1) ∧ Y0.cell? ⟨w.heap.size, 2, none⟩ = some (.slice a2 n2 c2) ∧ Y0.cell? ⟨w.heap.size, 3, none⟩ = some (.slice a3 n3 c3) ∧ Y0.cell? ⟨w.heap.size, 4, none⟩ = some (.slice a4 n4 c4) ∧ Y0.cell? ⟨w.heap.size, 5, none⟩ = some (.slice a5 n5 c5)) := ⟨cell_below q_0 HY0.out, cell_below q_1 HY0.out, cell_below q_2 HY0.out, cell_below q_3 HY0.out, cell_below q_4 HY0.out, cell_below q_5 HY0.out⟩
      clear hYY
      clear q_0 q_1 q_2 q_3 q_4 q_5
      refine wpAnyH_take (i := 0) (v := ?_) (by simp only [List.getElem?_toArray, List.getElem?_cons_zero]; rfl) (by kernel_rfl) (by kernel_rfl) (by kernel_rfl) (fun _ _ _ h => h) (Or.inl ⟨by rfl, ?_⟩) HS0.out ?_
      rotate_left
      · intro w hSw
        (try dsimp only at hSw)
        obtain ⟨q0_, q1_, q2_, q3_, q4_, q5_⟩ := hSw
        go_simp
        try with_reducible rfl
      try simp only [Act.put, List.setIfInBounds_toArray, List.set_cons_zero, List.set_cons_succ]
      refine wpAnyH_take (i := 1) (v := ?_) (by simp only [List.getElem?_toArray, List.getElem?_cons_zero, List.getElem?_cons_succ]; rfl) (by kernel_rfl) (by kernel_rfl) (by kernel_rfl) (fun _ _ _ h => h) (Or.inl ⟨by rfl, ?_⟩) HS0.out ?_
      rotate_left
      · intro w hSw
        (try dsimp only at hSw)
        obtain ⟨q0_, q1_, q2_, q3_, q4_, q5_⟩ := hSw
        go_simp
        try with_reducible rfl
      try simp only [Act.put, List.setIfInBounds_toArray, List.set_cons_zero, List.set_cons_succ]
      refine wpAnyH_take (i := 2) (v := ?_) (by simp only [List.getElem?_toArray, List.getElem?_cons_zero, List.getElem?_cons_succ]; rfl) (by kernel_rfl) (by kernel_rfl) (by kernel_rfl) (fun _ _ _ h => h) (Or.inl ⟨by rfl, ?_⟩) HS0.out ?_
      rotate_left
      · intro w hSw
        (try dsimp only at hSw)
        obtain ⟨q0_, q1_, q2_, q3_, q4_, q5_⟩ := hSw
        go_simp
        try with_reducible rfl
      try simp only [Act.put, List.setIfInBounds_toArray, List.set_cons_zero, List.set_cons_succ]
      refine wpAnyH_take (i := 3) (v := ?_) (by simp only [List.getElem?_toArray, List.getElem?_cons_zero, List.getElem?_cons_succ]; rfl) (by kernel_rfl) (by kernel_rfl) (by kernel_rfl) (fun _ _ _ h => h) (Or.inl ⟨by rfl, ?_⟩) HS0.out ?_
      rotate_left
      · intro w hSw
        (try dsimp only at hSw)
        obtain ⟨q0_, q1_, q2_, q3_, q4_, q5_⟩ := hSw
        go_simp
        try with_reducible rfl
      try simp only [Act.put, List.setIfInBounds_toArray, List.set_cons_zero, List.set_cons_succ]
      refine wpAnyH_take (i := 4) (v := ?_) (by simp only [List.getElem?_toArray, List.getElem?_cons_zero, List.getElem?_cons_succ]; rfl) (by kernel_rfl) (by kernel_rfl) (by kernel_rfl) (fun _ _ _ h => h) (Or.inl ⟨by rfl, ?_⟩) HS0.out ?_
      rotate_left
      · intro w hSw
        (try dsimp only at hSw)
        obtain ⟨q0_, q1_, q2_, q3_, q4_, q5_⟩ := hSw
        go_simp
        try with_reducible rfl
      try simp only [Act.put, List.setIfInBounds_toArray, List.set_cons_zero, List.set_cons_succ]
      refine wpAnyH_ready (rs := [5]) (by kernel_rfl) (by simp) ?_
      refine AllReadyH.cons (by simp only [List.getElem?_toArray, List.getElem?_cons_zero, List.getElem?_cons_succ]; rfl) (fun K hK => ?_) AllReadyH.nil
      go_simp
      refine (HBD.out _).mono ?_
      rintro e s1 ⟨rfl, b1⟩
      have HY1 := Lib.hid (ext_trans HY0.out b1)
      have HS1b : Hid (s1.cell? ⟨w.heap.size, 0, none⟩ = some (.int .i64 (ii : Int)) ∧ s1.cell? ⟨w.heap.size, 1, none⟩ = some (.slice a1 n1 c1) ∧ s1.cell? ⟨w.heap.size, 2, none⟩ = some (.slice a2 n2 c2) ∧ s1.cell? ⟨w.heap.size, 3, none⟩ = some (.slice a3 n3 c3) ∧ s1.cell? ⟨w.heap.size, 4, none⟩ = some (.slice a4 n4 c4) ∧ s1.cell? ⟨w.heap.size, 5, none⟩ = some (.slice a5 n5 c5)) := ⟨cell_below HS0.out.1 b1, cell_below HS0.out.2.1 b1, cell_below HS0.out.2.2.1 b1, cell_below HS0.out.2.2.2.1 b1, cell_below HS0.out.2.2.2.2.1 b1, cell_below HS0.out.2.2.2.2.2 b1⟩
      refine hK.out _ _ HS1b.out (fun _ => ?_)
      clear hK K
      try simp only [Act.put, List.setIfInBounds_toArray, List.set_cons_zero, List.set_cons_succ]
      clear b1
      refine wpAnyH_take (i := 6) (v := ?_) (by simp only [List.getElem?_toArray, List.getElem?_cons_zero, List.getElem?_cons_succ]; rfl) (by kernel_rfl) (by kernel_rfl) (by kernel_rfl) (fun _ _ _ h => h) (Or.inl ⟨by rfl, ?_⟩) HS1b.out ?_
      rotate_left
      · intro w hSw
        (try dsimp only at hSw)
        obtain ⟨q0_, q1_, q2_, q3_, q4_, q5_⟩ := hSw
        go_simp
        try with_reducible rfl
      try simp only [Act.put, List.setIfInBounds_toArray, List.set_cons_zero, List.set_cons_succ]
      refine wpAnyH_take (i := 7) (v := ?_) (by simp only [List.getElem?_toArray, List.getElem?_cons_zero, List.getElem?_cons_succ]; rfl) (by kernel_rfl) (by kernel_rfl) (by kernel_rfl) (fun _ _ _ h => h) (Or.inl ⟨by rfl, ?_⟩) HS1b.out ?_
      rotate_left
      · intro w hSw
        (try dsimp only at hSw)
        obtain ⟨q0_, q1_, q2_, q3_, q4_, q5_⟩ := hSw
        go_simp
        try with_reducible rfl
      try simp only [Act.put, List.setIfInBounds_toArray, List.set_cons_zero, List.set_cons_succ]
      refine wpAnyH_take (i := 8) (v := ?_) (by simp only [List.getElem?_toArray, List.getElem?_cons_zero, List.getElem?_cons_succ]; rfl) (by kernel_rfl) (by kernel_rfl) (by kernel_rfl) (fun _ _ _ h => h) (Or.inl ⟨by rfl, ?_⟩) HS1b.out ?_
      rotate_left
      · intro w hSw
        (try dsimp only at hSw)
        obtain ⟨q0_, q1_, q2_, q3_, q4_, q5_⟩ := hSw
        go_simp
        try with_reducible rfl
      try simp only [Act.put, List.setIfInBounds_toArray, List.set_cons_zero, List.set_cons_succ]
      refine wpAnyH_take (i := 9) (v := undef) (by simp only [List.getElem?_toArray, List.getElem?_cons_zero, List.getElem?_cons_succ]; rfl) (by kernel_rfl) (by kernel_rfl) (by kernel_rfl) (fun _ _ _ h => h) (Or.inr ⟨by rfl, rfl⟩) HS1b.out ?_
      try simp only [Act.put, List.setIfInBounds_toArray, List.set_cons_zero, List.set_cons_succ]
      refine wpAnyH_take (i := 10) (v := undef) (by simp only [List.getElem?_toArray, List.getElem?_cons_zero, List.getElem?_cons_succ]; rfl) (by kernel_rfl) (by kernel_rfl) (by kernel_rfl) (fun _ _ _ h => h) (Or.inr ⟨by rfl, rfl⟩) HS1b.out ?_
      try simp only [Act.put, List.setIfInBounds_toArray, List.set_cons_zero, List.set_cons_succ]
      refine wpAnyH_take (i := 11) (v := undef) (by simp only [List.getElem?_toArray, List.getElem?_cons_zero, List.getElem?_cons_succ]; rfl) (by kernel_rfl) (by kernel_rfl) (by kernel_rfl) (fun _ _ _ h => h) (Or.inr ⟨by rfl, rfl⟩) HS1b.out ?_
      try simp only [Act.put, List.setIfInBounds_toArray, List.set_cons_zero, List.set_cons_succ]
      refine wpAnyH_ready (rs := [12]) (by kernel_rfl) (by simp) ?_
      refine AllReadyH.cons (by simp only [List.getElem?_toArray, List.getElem?_cons_zero, List.getElem?_cons_succ]; rfl) (fun K hK => ?_) AllReadyH.nil
      rw [if_neg (by exact fun h => Bool.noConfusion (show false = true from h))]
      refine hK.out _ _ HS1b.out (fun _ => ?_)
      clear hK K
      try simp only [Act.put, List.setIfInBounds_toArray, List.set_cons_zero, List.set_cons_succ]
      refine wpAnyH_take (i := 13) (v := undef) (by simp only [List.getElem?_toArray, List.getElem?_cons_zero, List.getElem?_cons_succ]; rfl) (by kernel_rfl) (by kernel_rfl) (by kernel_rfl) (fun _ _ _ h => h) (Or.inr ⟨by rfl, rfl⟩) HS1b.out ?_
      try simp only [Act.put, List.setIfInBounds_toArray, List.set_cons_zero, List.set_cons_succ]
      refine wpAnyH_take (i := 14) (v := undef) (by simp only [List.getElem?_toArray, List.getElem?_cons_zero, List.getElem?_cons_succ]; rfl) (by kernel_rfl) (by kernel_rfl) (by kernel_rfl) (fun _ _ _ h => h) (Or.inr ⟨by rfl, rfl⟩) HS1b.out ?_
      try simp only [Act.put, List.setIfInBounds_toArray, List.set_cons_zero, List.set_cons_succ]
      refine wpAnyH_take (i := 15) (v := ?_) (by simp only [List.getElem?_toArray, List.getElem?_cons_zero, List.getElem?_cons_succ]; rfl) (by kernel_rfl) (by kernel_rfl) (by kernel_rfl) (fun _ _ _ h => h) (Or.inl ⟨by rfl, ?_⟩) HS1b.out ?_
      rotate_left
      · intro w hSw
        (try dsimp only at hSw)
        obtain ⟨q0_, q1_, q2_, q3_, q4_, q5_⟩ := hSw
        go_simp
        try with_reducible rfl
      try simp only [Act.put, List.setIfInBounds_toArray, List.set_cons_zero, List.set_cons_succ]
      refine wpAnyH_done (by kernel_rfl) ?_ _
      refine NoPanic.normal ?_
      have HR4 := Lib.hid (heap_below HR3.out HY1.out)
      have HB4 := Lib.hid (ext_trans HB3.out HY1.out)
      have d0 : s1.cell? ⟨w.heap.size + 1 + 1, 0, none⟩ = some (.int .i64 0) := cell_of_block HR4.out 0
      have d1 : s1.cell? ⟨w.heap.size + 1 + 1, 1, none⟩ = some (.slice none 0 0) := cell_of_block HR4.out 1
      have d2 : s1.cell? ⟨w.heap.size + 1 + 1, 2, none⟩ = some (.slice none 0 0) := cell_of_block HR4.out 2
      have y0 := unfrozen_of_block HR4.out 0
      have y1 := unfrozen_of_block HR4.out 1
      have y2 := unfrozen_of_block HR4.out 2
      go_wp2
      refine bodyPost_ret (v := .tuple #[.agg #[.int .i64 0, .slice none 0 0, .slice none 0 0], .int .i64 2]) ?_ rfl ?_
      · have h6 := tri_set14 HR4.out rfl (.int .i64 0) (.slice none 0 0) (.slice none 0 0)
        have g0 := cell_of_block h6 0
        have g1 := cell_of_block h6 1
        have g2 := cell_of_block h6 2
        simp [results, Try.results22, go_sem, g0, g1, g2]
        try rfl
      · exact ⟨by first | with_reducible exact set314 (w.heap.size + 1 + 1) (by omega) HB4.out | exact HB4.out, by first | exact Or.inr ⟨HF.out, rfl⟩ | (right; exact ⟨HF.out, rfl⟩)⟩
    | true =>
    obtain ⟨r, hr⟩ : ∃ r, r = 1 + nf * V := ⟨_, rfl⟩
    rw [← hr] at HLA2 HTO
    have hr8 : r ≤ 4194305 := by omega
    have HRV := Lib.hid hr
    clear hspm hr
    have WR : IntKind.i64.wrap (1 + (r : Int)) = 1 + (r : Int) := IntWalk.i64_in _ (by omega)
    have q_0 : W3.cell? ⟨w.heap.size, 0, none⟩ = some (.int .i64 (ii : Int)) := cell_of_block HX3.out 0
    have q_1 : W3.cell? ⟨w.heap.size, 1, none⟩ = some (.slice a1 n1 c1) := cell_of_block HX3.out 1
    have q_2 : W3.cell? ⟨w.heap.size, 2, none⟩ = some (.slice a2 n2 c2) := cell_of_block HX3.out 2
    have q_3 : W3.cell? ⟨w.heap.size, 3, none⟩ = some (.slice a3 n3 c3) := cell_of_block HX3.out 3
    have q_4 : W3.cell? ⟨w.heap.size, 4, none⟩ = some (.slice a4 n4 c4) := cell_of_block HX3.out 4
    have q_5 : W3.cell? ⟨w.heap.size, 5, none⟩ = some (.slice a5 n5 c5) := cell_of_block HX3.out 5
    have q_6 : W3.cell? ⟨w.heap.size + 1, 0, none⟩ = some (.slice ma mn mc) := cell_of_block HM3.out 0
    have q_7 : W3.cell? ⟨U, 0, none⟩ = some (.int .i64 (ii : Int)) := cell_of_block HU3.out 0
    have q_8 : W3.cell? ⟨U, 1, none⟩ = some (.slice a1 n1 c1) := cell_of_block HU3.out 1
    have q_9 : W3.cell? ⟨U, 2, none⟩ = some (.slice a2 n2 c2) := cell_of_block HU3.out 2
    have q_10 : W3.cell? ⟨U, 3, none⟩ = some (.slice a3 n3 c3) := cell_of_block HU3.out 3
    have q_11 : W3.cell? ⟨U, 4, none⟩ = some (.slice a4 n4 c4) := cell_of_block HU3.out 4
    have q_12 : W3.cell? ⟨U, 5, none⟩ = some (.slice a5 n5 c5) := cell_of_block HU3.out 5
    have q_13 : W3.cell? ⟨U, 6, none⟩ = some (.int .i64 (V : Int)) := cell_of_block HU3.out 6
    have q_14 : W3.cell? ⟨U, 7, none⟩ = some (.int .i64 (nf : Int)) := cell_of_block HU3.out 7
    refine wp_region_noPanic ?_
    refine wp_region_held (S := fun w' => w'.cell? ⟨w.heap.size, 0, none⟩ = some (.int .i64 (ii : Int)) ∧ w'.cell? ⟨w.heap.size, 1, none⟩ = some (.slice a1 n1 c1) ∧ w'.cell? ⟨w.heap.size, 2, none⟩ = some (.slice a2 n2 c2) ∧ w'.cell? ⟨w.heap.size, 3, none⟩ = some (.slice a3 n3 c3) ∧ w'.cell? ⟨w.heap.size, 4, none⟩ = some (.slice a4 n4 c4) ∧ w'.cell? ⟨w.heap.size, 5, none⟩ = some (.slice a5 n5 c5) ∧ w'.cell? ⟨w.heap.size + 1, 0, none⟩ = some (.slice ma mn mc) ∧ w'.cell? ⟨U, 0, none⟩ = some (.int .i64 (ii : Int)) ∧ w'.cell? ⟨U, 1, none⟩ = some (.slice a1 n1 c1) ∧ w'.cell? ⟨U, 2, none⟩ = some (.slice a2 n2 c2) ∧ w'.cell? ⟨U, 3, none⟩ = some (.slice a3 n3 c3) ∧ w'.cell? ⟨U, 4, none⟩ = some (.slice a4 n4 c4) ∧ w'.cell? ⟨U, 5, none⟩ = some (.slice a5 n5 c5) ∧ w'.cell? ⟨U, 6, none⟩ = some (.int .i64 (V : Int)) ∧ w'.cell? ⟨U, 7, none⟩ = some (.int .i64 (nf : Int))) (by kernel_rfl) ?_
    generalize hYY : ({ W3 with drawn := W3.drawn + 1 } : World) = Y0
    have HY0 : Hid (Below W3.heap.size W3 Y0) := by subst hYY; exact (Below.refl _ _).drew
    have HS0 : Hid (Y0.cell? ⟨w.heap.size, 0, none⟩ = some (.int .i64 (ii : Int)) ∧ Y0.cell? ⟨w.heap.size, 1, none⟩ = some (.slice a1 n1 c1) ∧ Y0.cell? ⟨w.heap.size, 2, none⟩ = some (.slice a2 n2 c2) ∧ Y0.cell? ⟨w.heap.size, 3, none⟩ = some (.slice a3 n3 c3) ∧ Y0.cell? ⟨w.heap.size, 4, none⟩ = some (.slice a4 n4 c4) ∧ Y0.cell? ⟨w.heap.size, 5, none⟩ = some (.slice a5 n5 c5) ∧ Y0.cell? ⟨w.heap.size + 1, 0, none⟩ = some (.slice ma mn mc) ∧ Y0.cell? ⟨U, 0, none⟩ = some (.int .i64 (ii : Int)) ∧ Y0.cell? ⟨U, 1, none⟩ = some (.slice a1 n1 c1) ∧ Y0.cell? ⟨U, 2, none⟩ = some (.slice a2 n2 c2) ∧ Y0.cell? ⟨U, 3, none⟩ = some (.slice a3 n3 c3) ∧ Y0.cell? ⟨U, 4, none⟩ = some (.slice a4 n4 c4) ∧ Y0.cell? ⟨U, 5, none⟩ = some (.slice a5 n5 c5) ∧ Y0.cell? ⟨U, 6, none⟩ = some (.int .i64 (V : Int)) ∧ Y0.cell? ⟨U, 7, none⟩ = some (.int .i64 (nf : Int))) := ⟨cell_below q_0 HY0.out, cell_below q_1 HY0.out, cell_below q_2 HY0.out, cell_below q_3 HY0.out, cell_below q_4 HY0.out, cell_below q_5 HY0.out, cell_below q_6 HY0.out, cell_below q_7 HY0.out, cell_below q_8 HY0.out, cell_below q_9 HY0.out, cell_below q_10 HY0.out, cell_below q_11 HY0.out, cell_below q_12 HY0.out, cell_below q_13 HY0.out, cell_below q_14 HY0.out⟩
    clear hYY
    clear q_0 q_1 q_2 q_3 q_4 q_5 q_6 q_7 q_8 q_9 q_10 q_11 q_12 q_13 q_14
    refine wpAnyH_take (i := 0) (v := ?_) (by simp only [List.getElem?_toArray, List.getElem?_cons_zero]; rfl) (by kernel_rfl) (by kernel_rfl) (by kernel_rfl) (fun _ _ _ h => h) (Or.inl ⟨by rfl, ?_⟩) HS0.out ?_
    rotate_left
    · intro w hSw
      (try dsimp only at hSw)
      obtain ⟨q0_, q1_, q2_, q3_, q4_, q5_, q6_, q7_, q8_, q9_, q10_, q11_, q12_, q13_, q14_⟩ := hSw
      go_simp
      try with_reducible rfl
    try simp only [Act.put, List.setIfInBounds_toArray, List.set_cons_zero, List.set_cons_succ]
    refine wpAnyH_take (i := 1) (v := ?_) (by simp only [List.getElem?_toArray, List.getElem?_cons_zero, List.getElem?_cons_succ]; rfl) (by kernel_rfl) (by kernel_rfl) (by kernel_rfl) (fun _ _ _ h => h) (Or.inl ⟨by rfl, ?_⟩) HS0.out ?_
    rotate_left
    · intro w hSw
      (try dsimp only at hSw)
      obtain ⟨q0_, q1_, q2_, q3_, q4_, q5_, q6_, q7_, q8_, q9_, q10_, q11_, q12_, q13_, q14_⟩ := hSw
      go_simp
      try with_reducible rfl
    try simp only [Act.put, List.setIfInBounds_toArray, List.set_cons_zero, List.set_cons_succ]
    refine wpAnyH_take (i := 2) (v := ?_) (by simp only [List.getElem?_toArray, List.getElem?_cons_zero, List.getElem?_cons_succ]; rfl) (by kernel_rfl) (by kernel_rfl) (by kernel_rfl) (fun _ _ _ h => h) (Or.inl ⟨by rfl, ?_⟩) HS0.out ?_
    rotate_left
    · intro w hSw
      (try dsimp only at hSw)
      obtain ⟨q0_, q1_, q2_, q3_, q4_, q5_, q6_, q7_, q8_, q9_, q10_, q11_, q12_, q13_, q14_⟩ := hSw
      go_simp
      try with_reducible rfl
    try simp only [Act.put, List.setIfInBounds_toArray, List.set_cons_zero, List.set_cons_succ]
    refine wpAnyH_take (i := 3) (v := ?_) (by simp only [List.getElem?_toArray, List.getElem?_cons_zero, List.getElem?_cons_succ]; rfl) (by kernel_rfl) (by kernel_rfl) (by kernel_rfl) (fun _ _ _ h => h) (Or.inl ⟨by rfl, ?_⟩) HS0.out ?_
    rotate_left
    · intro w hSw
      (try dsimp only at hSw)
      obtain ⟨q0_, q1_, q2_, q3_, q4_, q5_, q6_, q7_, q8_, q9_, q10_, q11_, q12_, q13_, q14_⟩ := hSw
      go_simp
      try with_reducible rfl
    try simp only [Act.put, List.setIfInBounds_toArray, List.set_cons_zero, List.set_cons_succ]
    refine wpAnyH_take (i := 4) (v := ?_) (by simp only [List.getElem?_toArray, List.getElem?_cons_zero, List.getElem?_cons_succ]; rfl) (by kernel_rfl) (by kernel_rfl) (by kernel_rfl) (fun _ _ _ h => h) (Or.inl ⟨by rfl, ?_⟩) HS0.out ?_
    rotate_left
    · intro w hSw
      (try dsimp only at hSw)
      obtain ⟨q0_, q1_, q2_, q3_, q4_, q5_, q6_, q7_, q8_, q9_, q10_, q11_, q12_, q13_, q14_⟩ := hSw
      go_simp
      try with_reducible rfl
    try simp only [Act.put, List.setIfInBounds_toArray, List.set_cons_zero, List.set_cons_succ]
    refine wpAnyH_ready (rs := [5]) (by kernel_rfl) (by simp) ?_
    refine AllReadyH.cons (by simp only [List.getElem?_toArray, List.getElem?_cons_zero, List.getElem?_cons_succ]; rfl) (fun K hK => ?_) AllReadyH.nil
    go_simp
    refine (HBD.out _).mono ?_
    rintro e s1 ⟨rfl, b1⟩
    have HY1 := Lib.hid (ext_trans HY0.out b1)
    have HS1b : Hid (s1.cell? ⟨w.heap.size, 0, none⟩ = some (.int .i64 (ii : Int)) ∧ s1.cell? ⟨w.heap.size, 1, none⟩ = some (.slice a1 n1 c1) ∧ s1.cell? ⟨w.heap.size, 2, none⟩ = some (.slice a2 n2 c2) ∧ s1.cell? ⟨w.heap.size, 3, none⟩ = some (.slice a3 n3 c3) ∧ s1.cell? ⟨w.heap.size, 4, none⟩ = some (.slice a4 n4 c4) ∧ s1.cell? ⟨w.heap.size, 5, none⟩ = some (.slice a5 n5 c5) ∧ s1.cell? ⟨w.heap.size + 1, 0, none⟩ = some (.slice ma mn mc) ∧ s1.cell? ⟨U, 0, none⟩ = some (.int .i64 (ii : Int)) ∧ s1.cell? ⟨U, 1, none⟩ = some (.slice a1 n1 c1) ∧ s1.cell? ⟨U, 2, none⟩ = some (.slice a2 n2 c2) ∧ s1.cell? ⟨U, 3, none⟩ = some (.slice a3 n3 c3) ∧ s1.cell? ⟨U, 4, none⟩ = some (.slice a4 n4 c4) ∧ s1.cell? ⟨U, 5, none⟩ = some (.slice a5 n5 c5) ∧ s1.cell? ⟨U, 6, none⟩ = some (.int .i64 (V : Int)) ∧ s1.cell? ⟨U, 7, none⟩ = some (.int .i64 (nf : Int))) := ⟨cell_below HS0.out.1 b1, cell_below HS0.out.2.1 b1, cell_below HS0.out.2.2.1 b1, cell_below HS0.out.2.2.2.1 b1, cell_below HS0.out.2.2.2.2.1 b1, cell_below HS0.out.2.2.2.2.2.1 b1, cell_below HS0.out.2.2.2.2.2.2.1 b1, cell_below HS0.out.2.2.2.2.2.2.2.1 b1, cell_below HS0.out.2.2.2.2.2.2.2.2.1 b1, cell_below HS0.out.2.2.2.2.2.2.2.2.2.1 b1, cell_below HS0.out.2.2.2.2.2.2.2.2.2.2.1 b1, cell_below HS0.out.2.2.2.2.2.2.2.2.2.2.2.1 b1, cell_below HS0.out.2.2.2.2.2.2.2.2.2.2.2.2.1 b1, cell_below HS0.out.2.2.2.2.2.2.2.2.2.2.2.2.2.1 b1, cell_below HS0.out.2.2.2.2.2.2.2.2.2.2.2.2.2.2 b1⟩
    refine hK.out _ _ HS1b.out (fun _ => ?_)
    clear hK K
    try simp only [Act.put, List.setIfInBounds_toArray, List.set_cons_zero, List.set_cons_succ]
    clear b1
    refine wpAnyH_take (i := 6) (v := ?_) (by simp only [List.getElem?_toArray, List.getElem?_cons_zero, List.getElem?_cons_succ]; rfl) (by kernel_rfl) (by kernel_rfl) (by kernel_rfl) (fun _ _ _ h => h) (Or.inl ⟨by rfl, ?_⟩) HS1b.out ?_
    rotate_left
    · intro w hSw
      (try dsimp only at hSw)
      obtain ⟨q0_, q1_, q2_, q3_, q4_, q5_, q6_, q7_, q8_, q9_, q10_, q11_, q12_, q13_, q14_⟩ := hSw
      go_simp
      try with_reducible rfl
    try simp only [Act.put, List.setIfInBounds_toArray, List.set_cons_zero, List.set_cons_succ]
    refine wpAnyH_take (i := 7) (v := ?_) (by simp only [List.getElem?_toArray, List.getElem?_cons_zero, List.getElem?_cons_succ]; rfl) (by kernel_rfl) (by kernel_rfl) (by kernel_rfl) (fun _ _ _ h => h) (Or.inl ⟨by rfl, ?_⟩) HS1b.out ?_
    rotate_left
    · intro w hSw
      (try dsimp only at hSw)
      obtain ⟨q0_, q1_, q2_, q3_, q4_, q5_, q6_, q7_, q8_, q9_, q10_, q11_, q12_, q13_, q14_⟩ := hSw
      go_simp
      try with_reducible rfl
    try simp only [Act.put, List.setIfInBounds_toArray, List.set_cons_zero, List.set_cons_succ]
    refine wpAnyH_take (i := 8) (v := ?_) (by simp only [List.getElem?_toArray, List.getElem?_cons_zero, List.getElem?_cons_succ]; rfl) (by kernel_rfl) (by kernel_rfl) (by kernel_rfl) (fun _ _ _ h => h) (Or.inl ⟨by rfl, ?_⟩) HS1b.out ?_
    rotate_left
    · intro w hSw
      (try dsimp only at hSw)
      obtain ⟨q0_, q1_, q2_, q3_, q4_, q5_, q6_, q7_, q8_, q9_, q10_, q11_, q12_, q13_, q14_⟩ := hSw
      go_simp
      try with_reducible rfl
    try simp only [Act.put, List.setIfInBounds_toArray, List.set_cons_zero, List.set_cons_succ]
    refine wpAnyH_take (i := 9) (v := ?_) (by simp only [List.getElem?_toArray, List.getElem?_cons_zero, List.getElem?_cons_succ]; rfl) (by kernel_rfl) (by kernel_rfl) (by kernel_rfl) (fun _ _ _ h => h) (Or.inl ⟨by rfl, ?_⟩) HS1b.out ?_
    rotate_left
    · intro w hSw
      (try dsimp only at hSw)
      obtain ⟨q0_, q1_, q2_, q3_, q4_, q5_, q6_, q7_, q8_, q9_, q10_, q11_, q12_, q13_, q14_⟩ := hSw
      go_simp
      try with_reducible rfl
    try simp only [Act.put, List.setIfInBounds_toArray, List.set_cons_zero, List.set_cons_succ]
    refine wpAnyH_take (i := 10) (v := ?_) (by simp only [List.getElem?_toArray, List.getElem?_cons_zero, List.getElem?_cons_succ]; rfl) (by kernel_rfl) (by kernel_rfl) (by kernel_rfl) (fun _ _ _ h => h) (Or.inl ⟨by rfl, ?_⟩) HS1b.out ?_
    rotate_left
    · intro w hSw
      (try dsimp only at hSw)
      obtain ⟨q0_, q1_, q2_, q3_, q4_, q5_, q6_, q7_, q8_, q9_, q10_, q11_, q12_, q13_, q14_⟩ := hSw
      go_simp
      try with_reducible rfl
    try simp only [Act.put, List.setIfInBounds_toArray, List.set_cons_zero, List.set_cons_succ]
    refine wpAnyH_take (i := 11) (v := ?_) (by simp only [List.getElem?_toArray, List.getElem?_cons_zero, List.getElem?_cons_succ]; rfl) (by kernel_rfl) (by kernel_rfl) (by kernel_rfl) (fun _ _ _ h => h) (Or.inl ⟨by rfl, ?_⟩) HS1b.out ?_
    rotate_left
    · intro w hSw
      (try dsimp only at hSw)
      obtain ⟨q0_, q1_, q2_, q3_, q4_, q5_, q6_, q7_, q8_, q9_, q10_, q11_, q12_, q13_, q14_⟩ := hSw
      go_simp
      try with_reducible rfl
    try simp only [Act.put, List.setIfInBounds_toArray, List.set_cons_zero, List.set_cons_succ]
    refine wpAnyH_ready (rs := [12]) (by kernel_rfl) (by simp) ?_
    refine AllReadyH.cons (by simp only [List.getElem?_toArray, List.getElem?_cons_zero, List.getElem?_cons_succ]; rfl) (fun K hK => ?_) AllReadyH.nil
    go_simp
    refine (HLA2.out _).mono ?_
    rintro e s2 ⟨rfl, b1⟩
    have HY2 := Lib.hid (ext_trans HY1.out b1)
    have HS2b : Hid (s2.cell? ⟨w.heap.size, 0, none⟩ = some (.int .i64 (ii : Int)) ∧ s2.cell? ⟨w.heap.size, 1, none⟩ = some (.slice a1 n1 c1) ∧ s2.cell? ⟨w.heap.size, 2, none⟩ = some (.slice a2 n2 c2) ∧ s2.cell? ⟨w.heap.size, 3, none⟩ = some (.slice a3 n3 c3) ∧ s2.cell? ⟨w.heap.size, 4, none⟩ = some (.slice a4 n4 c4) ∧ s2.cell? ⟨w.heap.size, 5, none⟩ = some (.slice a5 n5 c5) ∧ s2.cell? ⟨w.heap.size + 1, 0, none⟩ = some (.slice ma mn mc) ∧ s2.cell? ⟨U, 0, none⟩ = some (.int .i64 (ii : Int)) ∧ s2.cell? ⟨U, 1, none⟩ = some (.slice a1 n1 c1) ∧ s2.cell? ⟨U, 2, none⟩ = some (.slice a2 n2 c2) ∧ s2.cell? ⟨U, 3, none⟩ = some (.slice a3 n3 c3) ∧ s2.cell? ⟨U, 4, none⟩ = some (.slice a4 n4 c4) ∧ s2.cell? ⟨U, 5, none⟩ = some (.slice a5 n5 c5) ∧ s2.cell? ⟨U, 6, none⟩ = some (.int .i64 (V : Int)) ∧ s2.cell? ⟨U, 7, none⟩ = some (.int .i64 (nf : Int))) := ⟨cell_below HS1b.out.1 b1, cell_below HS1b.out.2.1 b1, cell_below HS1b.out.2.2.1 b1, cell_below HS1b.out.2.2.2.1 b1, cell_below HS1b.out.2.2.2.2.1 b1, cell_below HS1b.out.2.2.2.2.2.1 b1, cell_below HS1b.out.2.2.2.2.2.2.1 b1, cell_below HS1b.out.2.2.2.2.2.2.2.1 b1, cell_below HS1b.out.2.2.2.2.2.2.2.2.1 b1, cell_below HS1b.out.2.2.2.2.2.2.2.2.2.1 b1, cell_below HS1b.out.2.2.2.2.2.2.2.2.2.2.1 b1, cell_below HS1b.out.2.2.2.2.2.2.2.2.2.2.2.1 b1, cell_below HS1b.out.2.2.2.2.2.2.2.2.2.2.2.2.1 b1, cell_below HS1b.out.2.2.2.2.2.2.2.2.2.2.2.2.2.1 b1, cell_below HS1b.out.2.2.2.2.2.2.2.2.2.2.2.2.2.2 b1⟩
    refine hK.out _ _ HS2b.out (fun _ => ?_)
    clear hK K
    try simp only [Act.put, List.setIfInBounds_toArray, List.set_cons_zero, List.set_cons_succ]
    clear b1
    refine wpAnyH_take (i := 13) (v := ?_) (by simp only [List.getElem?_toArray, List.getElem?_cons_zero, List.getElem?_cons_succ]; rfl) (by kernel_rfl) (by kernel_rfl) (by kernel_rfl) (fun _ _ _ h => h) (Or.inl ⟨by rfl, ?_⟩) HS2b.out ?_
    rotate_left
    · intro w hSw
      (try dsimp only at hSw)
      obtain ⟨q0_, q1_, q2_, q3_, q4_, q5_, q6_, q7_, q8_, q9_, q10_, q11_, q12_, q13_, q14_⟩ := hSw
      go_simp
      try with_reducible rfl
    try simp only [Act.put, List.setIfInBounds_toArray, List.set_cons_zero, List.set_cons_succ]
    refine wpAnyH_take (i := 14) (v := ?_) (by simp only [List.getElem?_toArray, List.getElem?_cons_zero, List.getElem?_cons_succ]; rfl) (by kernel_rfl) (by kernel_rfl) (by kernel_rfl) (fun _ _ _ h => h) (Or.inl ⟨by rfl, ?_⟩) HS2b.out ?_
    rotate_left
    · intro w hSw
      (try dsimp only at hSw)
      obtain ⟨q0_, q1_, q2_, q3_, q4_, q5_, q6_, q7_, q8_, q9_, q10_, q11_, q12_, q13_, q14_⟩ := hSw
      go_simp
      try with_reducible rfl
    try simp only [Act.put, List.setIfInBounds_toArray, List.set_cons_zero, List.set_cons_succ]
    refine wpAnyH_take (i := 15) (v := ?_) (by simp only [List.getElem?_toArray, List.getElem?_cons_zero, List.getElem?_cons_succ]; rfl) (by kernel_rfl) (by kernel_rfl) (by kernel_rfl) (fun _ _ _ h => h) (Or.inl ⟨by rfl, ?_⟩) HS2b.out ?_
    rotate_left
    · intro w hSw
      (try dsimp only at hSw)
      obtain ⟨q0_, q1_, q2_, q3_, q4_, q5_, q6_, q7_, q8_, q9_, q10_, q11_, q12_, q13_, q14_⟩ := hSw
      go_simp
      try with_reducible rfl
    try simp only [Act.put, List.setIfInBounds_toArray, List.set_cons_zero, List.set_cons_succ]
    refine wpAnyH_done (by kernel_rfl) ?_ _
    refine NoPanic.normal ?_
    have HX4 := Lib.hid (heap_below HX3.out HY2.out)
    have HM4 := Lib.hid (heap_below HM3.out HY2.out)
    have HR4 := Lib.hid (heap_below HR3.out HY2.out)
    have HU4 := Lib.hid (heap_below HU3.out HY2.out)
    have HB4 := Lib.hid (ext_trans HB3.out HY2.out)
    clear HX3 HM3 HR3 HU3 HB3 HY0 HY1 HY2 HS0 HS1b HS2b HBD HLA2
    by_cases hlen : mn < 1 + r
    · have e1 : decide ((mn : Int) < 1 + (r : Int)) = true := by simp; omega
      have e2 : decide (mn < 1 + r) = true := by simp; omega
      have HF : Hid (tk = false) := by show _ = _; rw [HTO.out]; simp; omega
      clear hlen
      rw [e1]
      have d0 : s2.cell? ⟨w.heap.size + 1 + 1, 0, none⟩ = some (.int .i64 0) := cell_of_block HR4.out 0
      have d1 : s2.cell? ⟨w.heap.size + 1 + 1, 1, none⟩ = some (.slice none 0 0) := cell_of_block HR4.out 1
      have d2 : s2.cell? ⟨w.heap.size + 1 + 1, 2, none⟩ = some (.slice none 0 0) := cell_of_block HR4.out 2
      have y0 := unfrozen_of_block HR4.out 0
      have y1 := unfrozen_of_block HR4.out 1
      have y2 := unfrozen_of_block HR4.out 2
      go_wp2
      refine bodyPost_ret (v := .tuple #[.agg #[.int .i64 0, .slice none 0 0, .slice none 0 0], .int .i64 2]) ?_ rfl ?_
      · have h6 := tri_set14 HR4.out rfl (.int .i64 0) (.slice none 0 0) (.slice none 0 0)
        have g0 := cell_of_block h6 0
        have g1 := cell_of_block h6 1
        have g2 := cell_of_block h6 2
        simp [results, Try.results22, go_sem, g0, g1, g2]
        try rfl
      · exact ⟨by first | with_reducible exact set314 (w.heap.size + 1 + 1) (by omega) HB4.out | exact HB4.out, by first | exact Or.inr ⟨HF.out, rfl⟩ | (right; exact ⟨HF.out, rfl⟩)⟩
    · have e1 : decide ((mn : Int) < 1 + (r : Int)) = false := by simp; omega
      have e2 : decide (mn < 1 + r) = false := by simp; omega
      have HT : Hid (tk = true) := by show _ = _; rw [HTO.out]; simp; omega
      rw [e1]
      have HLE : Hid (∀ v f, v ≤ V → f < nf → spotE V v f < mn) := fun v f hv hf => by
        have h1 : (f + 1) * V ≤ nf * V := Nat.mul_le_mul_right _ hf
        have h2 := HRV.out
        rw [Nat.succ_mul] at h1
        unfold spotE
        omega
      clear hlen HTO
      have hmk := fun W => run_make_n (P := Try.prog) (t := 27) (e := 5) Try.underlying27 (i := (info_parts info_u8b).choose) (info_parts info_u8b).choose_spec.1 (info_parts info_u8b).choose_spec.2.1 (info_parts info_u8b).choose_spec.2.2.1 (info_parts info_u8b).choose_spec.2.2.2 rfl ii (by omega) (by omega) W
      have HMK := Lib.hid hmk
      clear hmk
      have x1 : s2.cell? ⟨w.heap.size, 1, none⟩ = some (.slice a1 n1 c1) := cell_of_block HX4.out 1
      go_upto_region 5 with fail
      refine reg_Tr5 s2 w.heap.size n1 c1 nf bad a1 x1 hs1 (by omega) _ ?_
      intro I F Tb W5 u42 u43 u44 u45 u46 u47 u48 u49 hI hF hT hI0 hF0 hT0 hb5
      clear x1
      have hsz := heap_lt HU4.out
      have hug := HUG.out
      have HIF : Hid (I ≠ F) := (by intro e; have h1 := hI; rw [e, hF] at h1; injection h1 with h2; injection h2 with _ h3; exact absurd h3 (by decide))
      have HIT : Hid (I ≠ Tb) := (by intro e; have h1 := hI; rw [e, hT] at h1; injection h1 with h2; injection h2 with _ h3; exact absurd h3 (by decide))
      have HFT : Hid (F ≠ Tb) := (by intro e; have h1 := hF; rw [e, hT] at h1; injection h1 with h2; injection h2 with _ h3; exact absurd h3 (by decide))
      have HIO : Hid (U < I ∧ U < F ∧ U < Tb ∧ w.heap.size + 1 + 1 < U) := ⟨by omega, by omega, by omega, hug⟩
      have HX5 := Lib.hid (heap_below HX4.out hb5)
      have HM5 := Lib.hid (heap_below HM4.out hb5)
      have HR5 := Lib.hid (heap_below HR4.out hb5)
      have HU5 := Lib.hid (heap_below HU4.out hb5)
      have HB5 := Lib.hid (ext_trans HB4.out hb5)
      have HT5 := Lib.hid hT
      have HF5 := Lib.hid hF
      rw [fcells_zero] at hI
      have HI5 := Lib.hid hI
      have HSM : Hid (n1 ≤ 1048576) := hs1
      clear hI hF hT hI0 hF0 hT0 hb5 hsz hug HX4 HM4 HR4 HU4 HB4 e1 e2 hs1
      have HVAL := Lib.hid (fun (v f : Nat) (hv : v ≤ V) (hf : f < nf) (W : World) (hb : Below w.heap.size w W) (hM : W.heap[w.heap.size + 1]? = _) (hU : W.heap[U]? = _) => value_any v f bs (ii : Int) V nf mn mc ma a1 a2 a3 a4 a5 n1 c1 n2 c2 n3 c3 n4 c4 n5 c5 W (w.heap.size + 1) U (HMO.out.below hb) hM hU hfew hv (by omega) (HLE.out v f hv hf))
      have HFLT := Lib.hid (fun W => ufirstLatch_any ii ⟨a1, n1, c1, a2, n2, c2, a3, n3, c3, a4, n4, c4, a5, n5, c5⟩ V nf (by omega) W)
      unfold uV at HFLT
      have hin1 : ∀ k, initN c bs k = if (c.lats.getD k (0, 0)).2 = 2 then modV bs (spotE V (1 + ii + k) 0) else (c.lats.getD k (0, 0)).2 := fun k => by unfold initN firstLatE; rw [HIN.out, ← HVV.out]
      have HIN1 := Lib.hid hin1
      clear hin1
      have p1 := cell_of_block HX5.out 1
      go_wp2_with fail
      clear p1
      go_loopw [53] (fun ix wr => ∃ k : Nat, k ≤ n1 ∧ ix = .int .i64 k ∧ Hid (wr.heap[I]? = some (.cells (fcells n1 (fun j => if j < k then .int .u8 (initN c bs j : Int) else .int .u8 0)) 5 (0, 0))) ∧ Hid (KeepN I W5 wr)) (fun ix _ => n1 - (intOf ix).toNat)
      case atStart => exact ⟨0, Nat.zero_le _, rfl, by show _ = _; rw [HI5.out]; rfl, KeepN.refl _ _⟩
      case round =>
        obtain ⟨k, hk, rfl, hO, hK⟩ := hrel
        by_cases hlt : k < n1
        · obtain ⟨b0, o0, rfl, hb0⟩ := HS1.out.addr (by omega)
          have hio := HIO.out
          have hbw := hK.out.below HB5.out (by omega)
          have hcx := (HS1.out.below hbw).cells k hlt (0, 0)
          have hin := HIN1.out k
          have hle := HMC.out.lats (c.lats.getD k (0, 0)) (getD_mem (by rw [HL1.out]; exact hlt))
          obtain ⟨p, hp⟩ : ∃ p, p = c.lats.getD k (0, 0) := ⟨_, rfl⟩
          rw [← hp] at hcx hin hle
          obtain ⟨q1, q2⟩ := p
          obtain ⟨hcx1, hcx2⟩ := hcx
          simp only at hcx1 hcx2 hin hle
          unfold nv32 at hcx1
          unfold nv8 at hcx2
          have I1 : ((k : Nat) : Int) < (n1 : Int) := by omega
          have I2 : (0 : Int) ≤ (k : Int) := by omega
          have W8 : IntKind.i64.wrap ((k : Int) + 1) = (k : Int) + 1 := IntWalk.i64_in _ (by omega)
          have HIN2 := Lib.hid hin
          have HO := Lib.hid hO.out
          have HK := Lib.hid hK.out
          have HBW := Lib.hid hbw
          have HT6a := Lib.hid (hK.out.at_ HT5.out (Ne.symm HIT.out))
          have HU6a := Lib.hid (hK.out.at_ HU5.out (by omega))
          have HM6a := Lib.hid (hK.out.at_ HM5.out (by omega))
          clear hO hK hbw hp hin hb0 hio
          go_upto_region 9 with fail
          generalize hW : World.alloc wr _ = W6
          have hE6 : W6.heap[wr.heap.size]? = some (.cells #[.int .u32 (q1 : Int), .int .u8 (q2 : Int)] 63 (0, 0)) := by subst hW; exact heap_new _ _ _ rfl
          have hb6 : Below wr.heap.size wr W6 := by subst hW; exact ext_alloc _ _
          have HE6 := Lib.hid hE6
          have HO6 := Lib.hid (heap_below HO.out hb6)
          have HT6 := Lib.hid (heap_below HT6a.out hb6)
          have HU6 := Lib.hid (heap_below HU6a.out hb6)
          have HM6 := Lib.hid (heap_below HM6a.out hb6)
          have HB6 := Lib.hid hb6
          clear hW hE6 hb6 HT6a HU6a HM6a hcx1 hcx2
          have t1 : W6.cell? ⟨Tb, 1, none⟩ = some (.slice (some ⟨I, 0, none⟩) n1 n1) := cell_of_block HT6.out 1
          have l1 : W6.cell? ⟨wr.heap.size, 1, none⟩ = some (.int .u8 (q2 : Int)) := cell_of_block HE6.out 1
          have i0 : W6.cell? ⟨I, k, none⟩ = some (.int .u8 0) := by rw [cell_of_block HO6.out k, fcells_get _ _ _ hlt, if_neg (by omega)]
          have y0 := unfrozen_of_block HO6.out k
          have HNE : Hid (wr.heap.size ≠ I) := by show _ ≠ _; have := heap_lt HO.out; omega
          have HK7 : Hid (KeepN I W5 (W6.setCell ⟨I, k, none⟩ (.int .u8 (q2 : Int)))) := (HK.out.trans (KeepN.of I HB6.out) (.inl rfl)).trans (KeepN.set I W6 k _) (.inl rfl)
          have hO7 := block_setCell HO6.out (i := k) (.int .u8 (q2 : Int))
          rw [fcells_set] at hO7
          have HO7 := Lib.hid hO7
          have HE7 : Hid ((W6.setCell ⟨I, k, none⟩ (.int .u8 (q2 : Int))).heap[wr.heap.size]? = _) := (KeepN.set I W6 k (.int .u8 (q2 : Int))).at_ HE6.out HNE.out
          have l2 : (W6.setCell ⟨I, k, none⟩ (.int .u8 (q2 : Int))).cell? ⟨wr.heap.size, 1, none⟩ = some (.int .u8 (q2 : Int)) := cell_of_block HE7.out 1
          clear hO7
          by_cases e2 : q2 = 2
          · have z1 : ((q2 : Int) == 2) = true := by simp; omega
            have z2 : (q2 == 2) = true := by simp; omega
            have HE2 := Lib.hid e2
            clear e2
            go_upto_region 11 with fail
            generalize hW : World.setCell W6 _ _ = W7
            have HKx : Hid (KeepN I W5 W7) := by subst hW; exact HK7.out
            have HOx : Hid (W7.heap[I]? = some (.cells (fcells n1 (fun j => if j = k then .int .u8 (q2 : Int) else if j < k then .int .u8 (initN c bs j : Int) else .int .u8 0)) 5 (0, 0))) := by subst hW; exact HO7.out
            clear hW l2 HO7 HK7 HE7 t1 l1 i0 y0
            have hio := HIO.out
            have HTx := Lib.hid (HKx.out.at_ HT5.out (Ne.symm HIT.out))
            have HUx := Lib.hid (HKx.out.at_ HU5.out (by omega))
            have HMx := Lib.hid (HKx.out.at_ HM5.out (by omega))
            have HBx := Lib.hid (HKx.out.below HB5.out (by omega))
            obtain ⟨fv, hfv⟩ : ∃ n, n = 1 + ii + k := ⟨_, rfl⟩
            have WF : IntKind.i64.wrap (1 + (ii : Int) + (k : Int)) = (fv : Int) := by rw [show 1 + (ii : Int) + (k : Int) = (fv : Int) by omega]; exact IntWalk.i64_in _ (by omega)
            have WF2 : IntKind.i64.wrap (((1 + ii : Nat) : Int) + (k : Int)) = (fv : Int) := by rw [show ((1 + ii : Nat) : Int) + (k : Int) = (fv : Int) by omega]; exact IntWalk.i64_in _ (by omega)
            have HV2 := Lib.hid (fun W hb hM hU => HVAL.out fv 0 (by omega) (by omega) W hb hM hU)
            have hin := HIN2.out
            rw [if_pos HE2.out] at hin
            rw [← hfv] at hin
            have HIN3 : Hid (modV bs (spotE V fv 0) = initN c bs k) := hin.symm
            rw [HIN3.out] at HV2
            clear hin hfv hio
            have q_0 : W7.cell? ⟨Tb, 1, none⟩ = some (.slice (some ⟨I, 0, none⟩) n1 n1) := cell_of_block HTx.out 1
            have q_1 : W7.cell? ⟨U, 0, none⟩ = some (.int .i64 (ii : Int)) := cell_of_block HUx.out 0
            have q_2 : W7.cell? ⟨U, 1, none⟩ = some (.slice (some ⟨b0, o0, none⟩) n1 c1) := cell_of_block HUx.out 1
            have q_3 : W7.cell? ⟨U, 2, none⟩ = some (.slice a2 n2 c2) := cell_of_block HUx.out 2
            have q_4 : W7.cell? ⟨U, 3, none⟩ = some (.slice a3 n3 c3) := cell_of_block HUx.out 3
            have q_5 : W7.cell? ⟨U, 4, none⟩ = some (.slice a4 n4 c4) := cell_of_block HUx.out 4
            have q_6 : W7.cell? ⟨U, 5, none⟩ = some (.slice a5 n5 c5) := cell_of_block HUx.out 5
            have q_7 : W7.cell? ⟨U, 6, none⟩ = some (.int .i64 (V : Int)) := cell_of_block HUx.out 6
            have q_8 : W7.cell? ⟨U, 7, none⟩ = some (.int .i64 (nf : Int)) := cell_of_block HUx.out 7
            refine wp_region_noPanic ?_
            refine wp_region_held (S := fun w' => w'.cell? ⟨Tb, 1, none⟩ = some (.slice (some ⟨I, 0, none⟩) n1 n1) ∧ w'.cell? ⟨U, 0, none⟩ = some (.int .i64 (ii : Int)) ∧ w'.cell? ⟨U, 1, none⟩ = some (.slice (some ⟨b0, o0, none⟩) n1 c1) ∧ w'.cell? ⟨U, 2, none⟩ = some (.slice a2 n2 c2) ∧ w'.cell? ⟨U, 3, none⟩ = some (.slice a3 n3 c3) ∧ w'.cell? ⟨U, 4, none⟩ = some (.slice a4 n4 c4) ∧ w'.cell? ⟨U, 5, none⟩ = some (.slice a5 n5 c5) ∧ w'.cell? ⟨U, 6, none⟩ = some (.int .i64 (V : Int)) ∧ w'.cell? ⟨U, 7, none⟩ = some (.int .i64 (nf : Int))) (by kernel_rfl) ?_
            generalize hYY : ({ W7 with drawn := W7.drawn + 1 } : World) = Y0
            have HY0 : Hid (Below W7.heap.size W7 Y0) := by subst hYY; exact (Below.refl _ _).drew
            have HS0 : Hid (Y0.cell? ⟨Tb, 1, none⟩ = some (.slice (some ⟨I, 0, none⟩) n1 n1) ∧ Y0.cell? ⟨U, 0, none⟩ = some (.int .i64 (ii : Int)) ∧ Y0.cell? ⟨U, 1, none⟩ = some (.slice (some ⟨b0, o0, none⟩) n1 c1) ∧ Y0.cell? ⟨U, 2, none⟩ = some (.slice a2 n2 c2) ∧ Y0.cell? ⟨U, 3, none⟩ = some (.slice a3 n3 c3) ∧ Y0.cell? ⟨U, 4, none⟩ = some (.slice a4 n4 c4) ∧ Y0.cell? ⟨U, 5, none⟩ = some (.slice a5 n5 c5) ∧ Y0.cell? ⟨U, 6, none⟩ = some (.int .i64 (V : Int)) ∧ Y0.cell? ⟨U, 7, none⟩ = some (.int .i64 (nf : Int))) := ⟨cell_below q_0 HY0.out, cell_below q_1 HY0.out, cell_below q_2 HY0.out, cell_below q_3 HY0.out, cell_below q_4 HY0.out, cell_below q_5 HY0.out, cell_below q_6 HY0.out, cell_below q_7 HY0.out, cell_below q_8 HY0.out⟩
            clear hYY
            clear q_0 q_1 q_2 q_3 q_4 q_5 q_6 q_7 q_8
            refine wpAnyH_take (i := 0) (v := ?_) (by simp only [List.getElem?_toArray, List.getElem?_cons_zero]; rfl) (by kernel_rfl) (by kernel_rfl) (by kernel_rfl) (fun _ _ _ h => h) (Or.inl ⟨by rfl, ?_⟩) HS0.out ?_
            rotate_left
            · intro w hSw
              (try dsimp only at hSw)
              obtain ⟨q0_, q1_, q2_, q3_, q4_, q5_, q6_, q7_, q8_⟩ := hSw
              go_simp
              try with_reducible rfl
            try simp only [Act.put, List.setIfInBounds_toArray, List.set_cons_zero, List.set_cons_succ]
            refine wpAnyH_take (i := 1) (v := ?_) (by simp only [List.getElem?_toArray, List.getElem?_cons_zero, List.getElem?_cons_succ]; rfl) (by kernel_rfl) (by kernel_rfl) (by kernel_rfl) (fun _ _ _ h => h) (Or.inl ⟨by rfl, ?_⟩) HS0.out ?_
            rotate_left
            · intro w hSw
              (try dsimp only at hSw)
              obtain ⟨q0_, q1_, q2_, q3_, q4_, q5_, q6_, q7_, q8_⟩ := hSw
              go_simp
              try with_reducible rfl
            try simp only [Act.put, List.setIfInBounds_toArray, List.set_cons_zero, List.set_cons_succ]
            refine wpAnyH_take (i := 2) (v := ?_) (by simp only [List.getElem?_toArray, List.getElem?_cons_zero, List.getElem?_cons_succ]; rfl) (by kernel_rfl) (by kernel_rfl) (by kernel_rfl) (fun _ _ _ h => h) (Or.inl ⟨by rfl, ?_⟩) HS0.out ?_
            rotate_left
            · intro w hSw
              (try dsimp only at hSw)
              obtain ⟨q0_, q1_, q2_, q3_, q4_, q5_, q6_, q7_, q8_⟩ := hSw
              go_simp
              try with_reducible rfl
            try simp only [Act.put, List.setIfInBounds_toArray, List.set_cons_zero, List.set_cons_succ]
            refine wpAnyH_take (i := 3) (v := ?_) (by simp only [List.getElem?_toArray, List.getElem?_cons_zero, List.getElem?_cons_succ]; rfl) (by kernel_rfl) (by kernel_rfl) (by kernel_rfl) (fun _ _ _ h => h) (Or.inl ⟨by rfl, ?_⟩) HS0.out ?_
            rotate_left
            · intro w hSw
              (try dsimp only at hSw)
              obtain ⟨q0_, q1_, q2_, q3_, q4_, q5_, q6_, q7_, q8_⟩ := hSw
              go_simp
              try with_reducible rfl
            try simp only [Act.put, List.setIfInBounds_toArray, List.set_cons_zero, List.set_cons_succ]
            refine wpAnyH_take (i := 4) (v := ?_) (by simp only [List.getElem?_toArray, List.getElem?_cons_zero, List.getElem?_cons_succ]; rfl) (by kernel_rfl) (by kernel_rfl) (by kernel_rfl) (fun _ _ _ h => h) (Or.inl ⟨by rfl, ?_⟩) HS0.out ?_
            rotate_left
            · intro w hSw
              (try dsimp only at hSw)
              obtain ⟨q0_, q1_, q2_, q3_, q4_, q5_, q6_, q7_, q8_⟩ := hSw
              go_simp
              try with_reducible rfl
            try simp only [Act.put, List.setIfInBounds_toArray, List.set_cons_zero, List.set_cons_succ]
            refine wpAnyH_take (i := 6) (v := ?_) (by simp only [List.getElem?_toArray, List.getElem?_cons_zero, List.getElem?_cons_succ]; rfl) (by kernel_rfl) (by kernel_rfl) (by kernel_rfl) (fun _ _ _ h => h) (Or.inl ⟨by rfl, ?_⟩) HS0.out ?_
            rotate_left
            · intro w hSw
              (try dsimp only at hSw)
              obtain ⟨q0_, q1_, q2_, q3_, q4_, q5_, q6_, q7_, q8_⟩ := hSw
              go_simp
              try with_reducible rfl
            try simp only [Act.put, List.setIfInBounds_toArray, List.set_cons_zero, List.set_cons_succ]
            refine wpAnyH_ready (rs := [5]) (by kernel_rfl) (by simp) ?_
            refine AllReadyH.cons (by simp only [List.getElem?_toArray, List.getElem?_cons_zero, List.getElem?_cons_succ]; rfl) (fun K hK => ?_) AllReadyH.nil
            go_simp
            refine (HFLT.out _).mono ?_
            rintro e r1 ⟨rfl, bb⟩
            have HY1 := Lib.hid (ext_trans HY0.out bb)
            have HS1b : Hid (r1.cell? ⟨Tb, 1, none⟩ = some (.slice (some ⟨I, 0, none⟩) n1 n1) ∧ r1.cell? ⟨U, 0, none⟩ = some (.int .i64 (ii : Int)) ∧ r1.cell? ⟨U, 1, none⟩ = some (.slice (some ⟨b0, o0, none⟩) n1 c1) ∧ r1.cell? ⟨U, 2, none⟩ = some (.slice a2 n2 c2) ∧ r1.cell? ⟨U, 3, none⟩ = some (.slice a3 n3 c3) ∧ r1.cell? ⟨U, 4, none⟩ = some (.slice a4 n4 c4) ∧ r1.cell? ⟨U, 5, none⟩ = some (.slice a5 n5 c5) ∧ r1.cell? ⟨U, 6, none⟩ = some (.int .i64 (V : Int)) ∧ r1.cell? ⟨U, 7, none⟩ = some (.int .i64 (nf : Int))) := ⟨cell_below HS0.out.1 bb, cell_below HS0.out.2.1 bb, cell_below HS0.out.2.2.1 bb, cell_below HS0.out.2.2.2.1 bb, cell_below HS0.out.2.2.2.2.1 bb, cell_below HS0.out.2.2.2.2.2.1 bb, cell_below HS0.out.2.2.2.2.2.2.1 bb, cell_below HS0.out.2.2.2.2.2.2.2.1 bb, cell_below HS0.out.2.2.2.2.2.2.2.2 bb⟩
            refine hK.out _ _ HS1b.out (fun _ => ?_)
            clear hK K
            try simp only [Act.put, List.setIfInBounds_toArray, List.set_cons_zero, List.set_cons_succ]
            clear bb
            refine wpAnyH_take (i := 7) (v := ?_) (by simp only [List.getElem?_toArray, List.getElem?_cons_zero, List.getElem?_cons_succ]; rfl) (by kernel_rfl) (by kernel_rfl) (by kernel_rfl) (fun _ _ _ h => h) (Or.inl ⟨by rfl, ?_⟩) HS1b.out ?_
            rotate_left
            · intro w hSw
              (try dsimp only at hSw)
              obtain ⟨q0_, q1_, q2_, q3_, q4_, q5_, q6_, q7_, q8_⟩ := hSw
              go_simp
              try with_reducible rfl
            try simp only [Act.put, List.setIfInBounds_toArray, List.set_cons_zero, List.set_cons_succ]
            refine wpAnyH_ready (rs := [8]) (by kernel_rfl) (by simp) ?_
            refine AllReadyH.cons (by simp only [List.getElem?_toArray, List.getElem?_cons_zero, List.getElem?_cons_succ]; rfl) (fun K hK => ?_) AllReadyH.nil
            go_simp
            refine (HV2.out _ (ext_trans HBx.out HY1.out) (heap_below HMx.out HY1.out) (heap_below HUx.out HY1.out)).mono ?_
            rintro e r2 ⟨rfl, bb⟩
            have HY2 := Lib.hid (ext_trans HY1.out bb)
            have HS2b : Hid (r2.cell? ⟨Tb, 1, none⟩ = some (.slice (some ⟨I, 0, none⟩) n1 n1) ∧ r2.cell? ⟨U, 0, none⟩ = some (.int .i64 (ii : Int)) ∧ r2.cell? ⟨U, 1, none⟩ = some (.slice (some ⟨b0, o0, none⟩) n1 c1) ∧ r2.cell? ⟨U, 2, none⟩ = some (.slice a2 n2 c2) ∧ r2.cell? ⟨U, 3, none⟩ = some (.slice a3 n3 c3) ∧ r2.cell? ⟨U, 4, none⟩ = some (.slice a4 n4 c4) ∧ r2.cell? ⟨U, 5, none⟩ = some (.slice a5 n5 c5) ∧ r2.cell? ⟨U, 6, none⟩ = some (.int .i64 (V : Int)) ∧ r2.cell? ⟨U, 7, none⟩ = some (.int .i64 (nf : Int))) := ⟨cell_below HS1b.out.1 bb, cell_below HS1b.out.2.1 bb, cell_below HS1b.out.2.2.1 bb, cell_below HS1b.out.2.2.2.1 bb, cell_below HS1b.out.2.2.2.2.1 bb, cell_below HS1b.out.2.2.2.2.2.1 bb, cell_below HS1b.out.2.2.2.2.2.2.1 bb, cell_below HS1b.out.2.2.2.2.2.2.2.1 bb, cell_below HS1b.out.2.2.2.2.2.2.2.2 bb⟩
            refine hK.out _ _ HS2b.out (fun _ => ?_)
            clear hK K
            try simp only [Act.put, List.setIfInBounds_toArray, List.set_cons_zero, List.set_cons_succ]
            clear bb
            refine wpAnyH_take (i := 9) (v := ?_) (by simp only [List.getElem?_toArray, List.getElem?_cons_zero, List.getElem?_cons_succ]; rfl) (by kernel_rfl) (by kernel_rfl) (by kernel_rfl) (fun _ _ _ h => h) (Or.inl ⟨by rfl, ?_⟩) HS2b.out ?_
            rotate_left
            · intro w hSw
              (try dsimp only at hSw)
              obtain ⟨q0_, q1_, q2_, q3_, q4_, q5_, q6_, q7_, q8_⟩ := hSw
              go_simp
              try with_reducible rfl
            try simp only [Act.put, List.setIfInBounds_toArray, List.set_cons_zero, List.set_cons_succ]
            have hOr := heap_below HOx.out HY2.out
            have d0 : r2.cell? ⟨I, k, none⟩ = some (.int .u8 (q2 : Int)) := by rw [cell_of_block hOr k, fcells_get _ _ _ hlt, if_pos rfl]
            have y0 := unfrozen_of_block hOr k
            have hO8 := block_setCell hOr (i := k) (.int .u8 (initN c bs k : Int))
            rw [fcells_set] at hO8
            have HK8 : Hid (KeepN I W5 (r2.setCell ⟨I, k, none⟩ (.int .u8 (initN c bs k : Int)))) := (HKx.out.trans (KeepN.of I HY2.out) (.inl rfl)).trans (KeepN.set I r2 k _) (.inl rfl)
            have HO8 : Hid ((r2.setCell ⟨I, k, none⟩ (.int .u8 (initN c bs k : Int))).heap[I]? = some (.cells (fcells n1 (fun j => if j < k + 1 then .int .u8 (initN c bs j : Int) else .int .u8 0)) 5 (0, 0))) := by
              show _ = _
              rw [hO8]
              congr 2
              refine fcells_congr fun j _ => ?_
              by_cases e : j = k
              · subst e; rw [if_pos rfl, if_pos (by omega)]
              · rw [if_neg e, if_neg e]
                by_cases e3 : j < k
                · rw [if_pos e3, if_pos (by omega)]
                · rw [if_neg e3, if_neg (by omega)]
            clear hO8 hOr
            refine wpAnyH_ready (rs := [10]) (by kernel_rfl) (by simp) ?_
            refine AllReadyH.cons (by simp only [List.getElem?_toArray, List.getElem?_cons_zero, List.getElem?_cons_succ]; rfl) (fun K hK => ?_) AllReadyH.nil
            go_simp
            generalize hW : World.setCell r2 _ _ = W8b
            have HK9 : Hid (KeepN I W5 W8b) := by subst hW; exact HK8.out
            have HO9 : Hid (W8b.heap[I]? = some (.cells (fcells n1 (fun j => if j < k + 1 then .int .u8 (initN c bs j : Int) else .int .u8 0)) 5 (0, 0))) := by subst hW; exact HO8.out
            clear hW d0 y0 HK8 HO8
            have hio := HIO.out
            have hT9 := HK9.out.at_ HT5.out (Ne.symm HIT.out)
            have hU9 := HK9.out.at_ HU5.out (by omega)
            have HS3 : Hid (W8b.cell? ⟨Tb, 1, none⟩ = some (.slice (some ⟨I, 0, none⟩) n1 n1) ∧ W8b.cell? ⟨U, 0, none⟩ = some (.int .i64 (ii : Int)) ∧ W8b.cell? ⟨U, 1, none⟩ = some (.slice (some ⟨b0, o0, none⟩) n1 c1) ∧ W8b.cell? ⟨U, 2, none⟩ = some (.slice a2 n2 c2) ∧ W8b.cell? ⟨U, 3, none⟩ = some (.slice a3 n3 c3) ∧ W8b.cell? ⟨U, 4, none⟩ = some (.slice a4 n4 c4) ∧ W8b.cell? ⟨U, 5, none⟩ = some (.slice a5 n5 c5) ∧ W8b.cell? ⟨U, 6, none⟩ = some (.int .i64 (V : Int)) ∧ W8b.cell? ⟨U, 7, none⟩ = some (.int .i64 (nf : Int))) := ⟨cell_of_block hT9 1, cell_of_block hU9 0, cell_of_block hU9 1, cell_of_block hU9 2, cell_of_block hU9 3, cell_of_block hU9 4, cell_of_block hU9 5, cell_of_block hU9 6, cell_of_block hU9 7⟩
            clear hT9 hU9 hio
            refine hK.out _ _ HS3.out (fun _ => ?_)
            clear hK K
            try simp only [Act.put, List.setIfInBounds_toArray, List.set_cons_zero, List.set_cons_succ]
            refine wpAnyH_done (by kernel_rfl) ?_ _
            refine NoPanic.normal ?_
            go_wp2
            go_roundw
            case rel => exact ⟨k + 1, by omega, by go_num, HO9.out, HK9.out⟩
            case measure => simp [intOf]; omega
          · have z1 : ((q2 : Int) == 2) = false := by simp; omega
            have z2 : (q2 == 2) = false := by simp; omega
            have HIN3 : Hid (initN c bs k = q2) := by show _ = _; rw [HIN2.out, if_neg e2]
            have HO8 : Hid ((W6.setCell ⟨I, k, none⟩ (.int .u8 (q2 : Int))).heap[I]? = some (.cells (fcells n1 (fun j => if j < k + 1 then .int .u8 (initN c bs j : Int) else .int .u8 0)) 5 (0, 0))) := by
              show _ = _
              rw [HO7.out]
              congr 2
              refine fcells_congr fun j _ => ?_
              by_cases e : j = k
              · subst e; rw [if_pos rfl, if_pos (by omega), HIN3.out]
              · rw [if_neg e]
                by_cases e3 : j < k
                · rw [if_pos e3, if_pos (by omega)]
                · rw [if_neg e3, if_neg (by omega)]
            clear e2 HO7
            go_wp2
            go_roundw
            case rel => exact ⟨k + 1, by omega, by go_num, HO8.out, HK7.out⟩
            case measure => simp [intOf]; omega
        · have hk2 : n1 = k := by omega
          subst hk2
          obtain ⟨W6, hW6⟩ : ∃ W, W = wr := ⟨_, rfl⟩
          subst hW6
          have HO6 : Hid (W6.heap[I]? = some (.cells (fcells n1 (fun j => .int .u8 (initN c bs j : Int))) 5 (0, 0))) := by show _ = _; rw [hO.out]; congr 2; exact fcells_congr fun j hj => if_pos hj
          have hio := HIO.out
          have HT6 := Lib.hid (hK.out.at_ HT5.out (Ne.symm HIT.out))
          have HF6 := Lib.hid (hK.out.at_ HF5.out (Ne.symm HIF.out))
          have HU6 := Lib.hid (hK.out.at_ HU5.out (by omega))
          have HM6 := Lib.hid (hK.out.at_ HM5.out (by omega))
          have HX6 := Lib.hid (hK.out.at_ HX5.out (by omega))
          have HR6 := Lib.hid (hK.out.at_ HR5.out (by omega))
          have HB6 := Lib.hid (hK.out.below HB5.out (by omega))
          have HSZ : Hid (I < W6.heap.size ∧ F < W6.heap.size ∧ Tb < W6.heap.size ∧ U < W6.heap.size) := ⟨heap_lt HO6.out, heap_lt HF6.out, heap_lt HT6.out, heap_lt HU6.out⟩
          have hmk := HMK.out
          rw [fcells_zero] at hmk
          have HMK2 := Lib.hid hmk
          clear hO hK hk hlt hio hmk HMK HI5 HIN1 HS1 HFLT HT5 HF5 HU5 HM5 HX5 HR5 HB5
          go_wp2_with fail
          go_loopw [79] (fun ix wr => ∃ k : Nat, k ≤ nf ∧ ix = .int .i64 k ∧ ∃ gs : Nat → Nat, Hid (wr.heap[F]? = some (.cells (fcells nf (fun j => if j < k then .slice (some ⟨gs j, 0, none⟩) ii ii else .slice none 0 0)) 27 (0, 0))) ∧ Hid (∀ y, y < k → W6.heap.size ≤ gs y ∧ wr.heap[gs y]? = some (.cells (fcells ii (fun j => .int .u8 (inN c bs y j : Int))) 5 (0, 0))) ∧ Hid (KeepN F W6 wr)) (fun ix _ => nf - (intOf ix).toNat)
          case atStart => exact ⟨0, Nat.zero_le _, rfl, fun _ => 0, by show _ = _; rw [HF6.out, fcells_zero]; rfl, fun j hj => absurd hj (by omega), KeepN.refl _ _⟩
          case round =>
            obtain ⟨k, hk, rfl, gs, hO, hG, hK⟩ := hrel
            obtain ⟨W7, hW7⟩ : ∃ W, W = wr := ⟨_, rfl⟩
            subst hW7
            have hio := HIO.out
            have hsz := HSZ.out
            have hks := hK.out.size
            by_cases hlt : k < nf
            · have I1 : ((k : Nat) : Int) < (nf : Int) := by omega
              have I2 : (0 : Int) ≤ (k : Int) := by omega
              have WK : IntKind.i64.wrap ((k : Int) + 1) = (k : Int) + 1 := IntWalk.i64_in _ (by omega)
              have HT7 := Lib.hid (hK.out.at_ HT6.out (Ne.symm HFT.out))
              have HU7 := Lib.hid (hK.out.at_ HU6.out (by omega))
              have HM7 := Lib.hid (hK.out.at_ HM6.out (by omega))
              have HX7 := Lib.hid (hK.out.at_ HX6.out (by omega))
              have HB7 := Lib.hid (hK.out.below HB6.out (by omega))
              have HK7 := Lib.hid hK.out
              have HO7 := Lib.hid hO.out
              have HG7 := Lib.hid hG.out
              have HKS := Lib.hid hks
              clear hO hG hK hks hio hsz
              have q_0 : W7.cell? ⟨Tb, 2, none⟩ = some (.slice (some ⟨F, 0, none⟩) nf nf) := cell_of_block HT7.out 2
              have q_1 : W7.cell? ⟨w.heap.size, 0, none⟩ = some (.int .i64 (ii : Int)) := cell_of_block HX7.out 0
              go_upto_region 16 with fail
              refine wp_region_noPanic ?_
              refine wp_region_held (S := fun w' => w'.cell? ⟨Tb, 2, none⟩ = some (.slice (some ⟨F, 0, none⟩) nf nf) ∧ w'.cell? ⟨w.heap.size, 0, none⟩ = some (.int .i64 (ii : Int))) (by kernel_rfl) ?_
              generalize hYY : ({ W7 with drawn := W7.drawn + 1 } : World) = Y0
              have HY0 : Hid (Below W7.heap.size W7 Y0) := by subst hYY; exact (Below.refl _ _).drew
              have HS0 : Hid (Y0.cell? ⟨Tb, 2, none⟩ = some (.slice (some ⟨F, 0, none⟩) nf nf) ∧ Y0.cell? ⟨w.heap.size, 0, none⟩ = some (.int .i64 (ii : Int))) := ⟨cell_below q_0 HY0.out, cell_below q_1 HY0.out⟩
              clear hYY
              clear q_0 q_1
              refine wpAnyH_take (i := 0) (v := ?_) (by simp only [List.getElem?_toArray, List.getElem?_cons_zero]; rfl) (by kernel_rfl) (by kernel_rfl) (by kernel_rfl) (fun _ _ _ h => h) (Or.inl ⟨by rfl, ?_⟩) HS0.out ?_
              rotate_left
              · intro w hSw
                (try dsimp only at hSw)
                obtain ⟨q0_, q1_⟩ := hSw
                go_simp
                try with_reducible rfl
              try simp only [Act.put, List.setIfInBounds_toArray, List.set_cons_zero, List.set_cons_succ]
              refine wpAnyH_take (i := 1) (v := ?_) (by simp only [List.getElem?_toArray, List.getElem?_cons_zero, List.getElem?_cons_succ]; rfl) (by kernel_rfl) (by kernel_rfl) (by kernel_rfl) (fun _ _ _ h => h) (Or.inl ⟨by rfl, ?_⟩) HS0.out ?_
              rotate_left
              · intro w hSw
                (try dsimp only at hSw)
                obtain ⟨q0_, q1_⟩ := hSw
                go_simp
                try with_reducible rfl
              try simp only [Act.put, List.setIfInBounds_toArray, List.set_cons_zero, List.set_cons_succ]
              refine wpAnyH_take (i := 2) (v := ?_) (by simp only [List.getElem?_toArray, List.getElem?_cons_zero, List.getElem?_cons_succ]; rfl) (by kernel_rfl) (by kernel_rfl) (by kernel_rfl) (fun _ _ _ h => h) (Or.inl ⟨by rfl, ?_⟩) HS0.out ?_
              rotate_left
              · intro w hSw
                (try dsimp only at hSw)
                obtain ⟨q0_, q1_⟩ := hSw
                go_simp
                try with_reducible rfl
              try simp only [Act.put, List.setIfInBounds_toArray, List.set_cons_zero, List.set_cons_succ]
              refine wpAnyH_take (i := 3) (v := ?_) (by simp only [List.getElem?_toArray, List.getElem?_cons_zero, List.getElem?_cons_succ]; rfl) (by kernel_rfl) (by kernel_rfl) (by kernel_rfl) (fun _ _ _ h => h) (Or.inl ⟨by rfl, ?_⟩) HS0.out ?_
              rotate_left
              · intro w hSw
                (try dsimp only at hSw)
                obtain ⟨q0_, q1_⟩ := hSw
                go_simp
                try with_reducible rfl
              try simp only [Act.put, List.setIfInBounds_toArray, List.set_cons_zero, List.set_cons_succ]
              refine wpAnyH_take (i := 4) (v := ?_) (by simp only [List.getElem?_toArray, List.getElem?_cons_zero, List.getElem?_cons_succ]; rfl) (by kernel_rfl) (by kernel_rfl) (by kernel_rfl) (fun _ _ _ h => h) (Or.inl ⟨by rfl, ?_⟩) HS0.out ?_
              rotate_left
              · intro w hSw
                (try dsimp only at hSw)
                obtain ⟨q0_, q1_⟩ := hSw
                go_simp
                try with_reducible rfl
              try simp only [Act.put, List.setIfInBounds_toArray, List.set_cons_zero, List.set_cons_succ]
              have hmk := HMK2.out
              refine wpAnyH_ready (rs := [5]) (by kernel_rfl) (by simp) ?_
              refine AllReadyH.cons (by simp only [List.getElem?_toArray, List.getElem?_cons_zero, List.getElem?_cons_succ]; rfl) (fun K hK => ?_) AllReadyH.nil
              go_simp
              generalize hW : World.alloc Y0 _ = Y1
              obtain ⟨g, hg⟩ : ∃ g, g = Y0.heap.size := ⟨_, rfl⟩
              have HG1 : Hid (Y1.heap[g]? = some (.cells (fcells ii (fun j => .int .u8 0)) 5 (0, 0))) := by subst hW; rw [hg]; exact heap_new _ _ _ rfl
              have hb1 : Below Y0.heap.size Y0 Y1 := by subst hW; exact ext_alloc _ _
              have HY1 := Lib.hid (ext_trans HY0.out hb1)
              have HGG : Hid (W7.heap.size ≤ g) := by show _ ≤ _; rw [hg]; exact HY0.out.size
              rw [← hg]
              have HS1b : Hid (Y1.cell? ⟨Tb, 2, none⟩ = some (.slice (some ⟨F, 0, none⟩) nf nf) ∧ Y1.cell? ⟨w.heap.size, 0, none⟩ = some (.int .i64 (ii : Int))) := ⟨cell_below HS0.out.1 hb1, cell_below HS0.out.2 hb1⟩
              clear hW hg hb1 hmk
              refine hK.out _ _ HS1b.out (fun _ => ?_)
              clear hK K
              try simp only [Act.put, List.setIfInBounds_toArray, List.set_cons_zero, List.set_cons_succ]
              refine wpAnyH_take (i := 6) (v := ?_) (by simp only [List.getElem?_toArray, List.getElem?_cons_zero, List.getElem?_cons_succ]; rfl) (by kernel_rfl) (by kernel_rfl) (by kernel_rfl) (fun _ _ _ h => h) (Or.inl ⟨by rfl, ?_⟩) HS1b.out ?_
              rotate_left
              · intro w hSw
                (try dsimp only at hSw)
                obtain ⟨q0_, q1_⟩ := hSw
                go_simp
                try with_reducible rfl
              try simp only [Act.put, List.setIfInBounds_toArray, List.set_cons_zero, List.set_cons_succ]
              have hO1 := heap_below HO7.out HY1.out
              have d0 : Y1.cell? ⟨F, k, none⟩ = some (.slice none 0 0) := by rw [cell_of_block hO1 k, fcells_get _ _ _ hlt, if_neg (by omega)]
              have y0 := unfrozen_of_block hO1 k
              have hO2 := block_setCell hO1 (i := k) (.slice (some ⟨g, 0, none⟩) ii ii)
              rw [fcells_set] at hO2
              have HO2 := Lib.hid hO2
              clear hO1 hO2
              refine wpAnyH_ready (rs := [7]) (by kernel_rfl) (by simp) ?_
              refine AllReadyH.cons (by simp only [List.getElem?_toArray, List.getElem?_cons_zero, List.getElem?_cons_succ]; rfl) (fun K hK => ?_) AllReadyH.nil
              go_simp
              generalize hW : World.setCell Y1 _ _ = W8
              have HK2 : Hid (KeepN F W7 W8) := by subst hW; exact (KeepN.of F HY1.out).trans (KeepN.set F Y1 k _) (.inl rfl)
              have HF8 : Hid (W8.heap[F]? = some (.cells (fcells nf (fun j => if j < k + 1 then .slice (some ⟨if j = k then g else gs j, 0, none⟩) ii ii else .slice none 0 0)) 27 (0, 0))) := by
                show _ = _
                subst hW
                rw [HO2.out]
                congr 2
                refine fcells_congr fun j _ => ?_
                by_cases e : j = k
                · subst e; rw [if_pos rfl, if_pos (by omega), if_pos rfl]
                · rw [if_neg e, if_neg e]
                  by_cases e3 : j < k
                  · rw [if_pos e3, if_pos (by omega)]
                  · rw [if_neg e3, if_neg (by omega)]
              have HGF : Hid (g ≠ F ∧ W6.heap.size ≤ g) := by have := HGG.out; have := HKS.out; have := HSZ.out; exact ⟨by omega, by omega⟩
              have HGN : Hid (W8.heap[g]? = some (.cells (fcells ii (fun j => .int .u8 0)) 5 (0, 0))) := by subst hW; exact (KeepN.set F Y1 k _).at_ HG1.out HGF.out.1
              clear hW d0 y0 HO2 HO7 HG1 HY1 HY0 HS0 HS1b
              have HG8 : Hid (∀ y, y < k → W6.heap.size ≤ gs y ∧ gs y ≠ g ∧ W8.heap[gs y]? = some (.cells (fcells ii (fun j => .int .u8 (inN c bs y j : Int))) 5 (0, 0))) := fun y hy => ⟨(HG7.out y hy).1, by have := heap_lt (HG7.out y hy).2; have := HGG.out; omega, HK2.out.at_ (HG7.out y hy).2 (by have := (HG7.out y hy).1; have := HSZ.out; omega)⟩
              have hio := HIO.out
              have hgg := HGG.out
              have HT8 := Lib.hid (HK2.out.at_ HT7.out (Ne.symm HFT.out))
              have HU8 := Lib.hid (HK2.out.at_ HU7.out (by omega))
              have HM8 := Lib.hid (HK2.out.at_ HM7.out (by omega))
              have HX8 := Lib.hid (HK2.out.at_ HX7.out (by omega))
              have HB8 := Lib.hid (HK2.out.below HB7.out (by omega))
              have HK8 : Hid (KeepN F W6 W8) := HK7.out.trans HK2.out (.inl rfl)
              have HTG : Hid (Tb < g ∧ U < g ∧ F < g ∧ w.heap.size + 1 + 1 < g) := by have := HSZ.out; have := HKS.out; exact ⟨by omega, by omega, by omega, by omega⟩
              have HS2 : Hid (W8.cell? ⟨Tb, 2, none⟩ = some (.slice (some ⟨F, 0, none⟩) nf nf) ∧ W8.cell? ⟨w.heap.size, 0, none⟩ = some (.int .i64 (ii : Int))) := ⟨cell_of_block HT8.out 2, cell_of_block HX8.out 0⟩
              clear hio hgg HT7 HU7 HM7 HX7 HB7 HK7 HG7 HK2
              refine hK.out _ _ HS2.out (fun _ => ?_)
              clear hK K
              try simp only [Act.put, List.setIfInBounds_toArray, List.set_cons_zero, List.set_cons_succ]
              refine wpAnyH_done (by kernel_rfl) ?_ _
              refine NoPanic.normal ?_
              have q_1 : W8.cell? ⟨w.heap.size, 0, none⟩ = some (.int .i64 (ii : Int)) := HS2.out.2
              go_wp2_with fail
              clear q_1
              go_loopw [91] (fun jx wr => ∃ i : Nat, i ≤ ii ∧ jx = .int .i64 i ∧ Hid (wr.heap[g]? = some (.cells (fcells ii (fun j => if j < i then .int .u8 (inN c bs k j : Int) else .int .u8 0)) 5 (0, 0))) ∧ Hid (KeepN g W8 wr)) (fun jx _ => ii - (intOf jx).toNat)
              case atStart => exact ⟨0, Nat.zero_le _, rfl, by show _ = _; rw [HGN.out]; rfl, KeepN.refl _ _⟩
              case round =>
                obtain ⟨i, hi, rfl, hO, hK⟩ := hrel
                by_cases hlt2 : i < ii
                · have I3 : ((i : Nat) : Int) < (ii : Int) := by omega
                  have I4 : (0 : Int) ≤ (i : Int) := by omega
                  have WI : IntKind.i64.wrap ((i : Int) + 1) = (i : Int) + 1 := IntWalk.i64_in _ (by omega)
                  have htg := HTG.out
                  have HTi := Lib.hid (hK.out.at_ HT8.out (by omega))
                  have HFi := Lib.hid (hK.out.at_ HF8.out (by omega))
                  have HUi := Lib.hid (hK.out.at_ HU8.out (by omega))
                  have HMi := Lib.hid (hK.out.at_ HM8.out (by omega))
                  have HBi := Lib.hid (hK.out.below HB8.out (by omega))
                  have HO := Lib.hid hO.out
                  have HK := Lib.hid hK.out
                  clear hO hK htg
                  obtain ⟨fv, hfv⟩ : ∃ n, n = 1 + i := ⟨_, rfl⟩
                  have WF : IntKind.i64.wrap (1 + (i : Int)) = (fv : Int) := by rw [show 1 + (i : Int) = (fv : Int) by omega]; exact IntWalk.i64_in _ (by omega)
                  have HV2 := Lib.hid (fun W hb hM hU => HVAL.out fv k (by omega) hlt W hb hM hU)
                  have HIN3 : Hid (modV bs (spotE V fv k) = inN c bs k i) := by show _ = _; unfold inN; rw [← HVV.out, hfv]
                  rw [HIN3.out] at HV2
                  clear hfv
                  have q_0 : wr.cell? ⟨Tb, 2, none⟩ = some (.slice (some ⟨F, 0, none⟩) nf nf) := cell_of_block HTi.out 2
                  have q_1 : wr.cell? ⟨F, k, none⟩ = some (.slice (some ⟨g, 0, none⟩) ii ii) := by rw [cell_of_block HFi.out k, fcells_get _ _ _ hlt, if_pos (by omega), if_pos rfl]
                  go_upto_region 20 with fail
                  refine wp_region_noPanic ?_
                  refine wp_region_held (S := fun w' => w'.cell? ⟨Tb, 2, none⟩ = some (.slice (some ⟨F, 0, none⟩) nf nf) ∧ w'.cell? ⟨F, k, none⟩ = some (.slice (some ⟨g, 0, none⟩) ii ii)) (by kernel_rfl) ?_
                  generalize hYY : ({ wr with drawn := wr.drawn + 1 } : World) = Y0
                  have HY0 : Hid (Below wr.heap.size wr Y0) := by subst hYY; exact (Below.refl _ _).drew
                  have HS0 : Hid (Y0.cell? ⟨Tb, 2, none⟩ = some (.slice (some ⟨F, 0, none⟩) nf nf) ∧ Y0.cell? ⟨F, k, none⟩ = some (.slice (some ⟨g, 0, none⟩) ii ii)) := ⟨cell_below q_0 HY0.out, cell_below q_1 HY0.out⟩
                  clear hYY
                  clear q_0 q_1
                  refine wpAnyH_take (i := 0) (v := ?_) (by simp only [List.getElem?_toArray, List.getElem?_cons_zero]; rfl) (by kernel_rfl) (by kernel_rfl) (by kernel_rfl) (fun _ _ _ h => h) (Or.inl ⟨by rfl, ?_⟩) HS0.out ?_
                  rotate_left
                  · intro w hSw
                    (try dsimp only at hSw)
                    obtain ⟨q0_, q1_⟩ := hSw
                    go_simp
                    try with_reducible rfl
                  try simp only [Act.put, List.setIfInBounds_toArray, List.set_cons_zero, List.set_cons_succ]
                  refine wpAnyH_take (i := 1) (v := ?_) (by simp only [List.getElem?_toArray, List.getElem?_cons_zero, List.getElem?_cons_succ]; rfl) (by kernel_rfl) (by kernel_rfl) (by kernel_rfl) (fun _ _ _ h => h) (Or.inl ⟨by rfl, ?_⟩) HS0.out ?_
                  rotate_left
                  · intro w hSw
                    (try dsimp only at hSw)
                    obtain ⟨q0_, q1_⟩ := hSw
                    go_simp
                    try with_reducible rfl
                  try simp only [Act.put, List.setIfInBounds_toArray, List.set_cons_zero, List.set_cons_succ]
                  refine wpAnyH_take (i := 2) (v := ?_) (by simp only [List.getElem?_toArray, List.getElem?_cons_zero, List.getElem?_cons_succ]; rfl) (by kernel_rfl) (by kernel_rfl) (by kernel_rfl) (fun _ _ _ h => h) (Or.inl ⟨by rfl, ?_⟩) HS0.out ?_
                  rotate_left
                  · intro w hSw
                    (try dsimp only at hSw)
                    obtain ⟨q0_, q1_⟩ := hSw
                    go_simp
                    try with_reducible rfl
                  try simp only [Act.put, List.setIfInBounds_toArray, List.set_cons_zero, List.set_cons_succ]
                  refine wpAnyH_take (i := 3) (v := ?_) (by simp only [List.getElem?_toArray, List.getElem?_cons_zero, List.getElem?_cons_succ]; rfl) (by kernel_rfl) (by kernel_rfl) (by kernel_rfl) (fun _ _ _ h => h) (Or.inl ⟨by rfl, ?_⟩) HS0.out ?_
                  rotate_left
                  · intro w hSw
                    (try dsimp only at hSw)
                    obtain ⟨q0_, q1_⟩ := hSw
                    go_simp
                    try with_reducible rfl
                  try simp only [Act.put, List.setIfInBounds_toArray, List.set_cons_zero, List.set_cons_succ]
                  refine wpAnyH_take (i := 4) (v := ?_) (by simp only [List.getElem?_toArray, List.getElem?_cons_zero, List.getElem?_cons_succ]; rfl) (by kernel_rfl) (by kernel_rfl) (by kernel_rfl) (fun _ _ _ h => h) (Or.inl ⟨by rfl, ?_⟩) HS0.out ?_
                  rotate_left
                  · intro w hSw
                    (try dsimp only at hSw)
                    obtain ⟨q0_, q1_⟩ := hSw
                    go_simp
                    try with_reducible rfl
                  try simp only [Act.put, List.setIfInBounds_toArray, List.set_cons_zero, List.set_cons_succ]
                  refine wpAnyH_take (i := 5) (v := ?_) (by simp only [List.getElem?_toArray, List.getElem?_cons_zero, List.getElem?_cons_succ]; rfl) (by kernel_rfl) (by kernel_rfl) (by kernel_rfl) (fun _ _ _ h => h) (Or.inl ⟨by rfl, ?_⟩) HS0.out ?_
                  rotate_left
                  · intro w hSw
                    (try dsimp only at hSw)
                    obtain ⟨q0_, q1_⟩ := hSw
                    go_simp
                    try with_reducible rfl
                  try simp only [Act.put, List.setIfInBounds_toArray, List.set_cons_zero, List.set_cons_succ]
                  refine wpAnyH_take (i := 6) (v := ?_) (by simp only [List.getElem?_toArray, List.getElem?_cons_zero, List.getElem?_cons_succ]; rfl) (by kernel_rfl) (by kernel_rfl) (by kernel_rfl) (fun _ _ _ h => h) (Or.inl ⟨by rfl, ?_⟩) HS0.out ?_
                  rotate_left
                  · intro w hSw
                    (try dsimp only at hSw)
                    obtain ⟨q0_, q1_⟩ := hSw
                    go_simp
                    try with_reducible rfl
                  try simp only [Act.put, List.setIfInBounds_toArray, List.set_cons_zero, List.set_cons_succ]
                  refine wpAnyH_take (i := 7) (v := ?_) (by simp only [List.getElem?_toArray, List.getElem?_cons_zero, List.getElem?_cons_succ]; rfl) (by kernel_rfl) (by kernel_rfl) (by kernel_rfl) (fun _ _ _ h => h) (Or.inl ⟨by rfl, ?_⟩) HS0.out ?_
                  rotate_left
                  · intro w hSw
                    (try dsimp only at hSw)
                    obtain ⟨q0_, q1_⟩ := hSw
                    go_simp
                    try with_reducible rfl
                  try simp only [Act.put, List.setIfInBounds_toArray, List.set_cons_zero, List.set_cons_succ]
                  refine wpAnyH_take (i := 8) (v := ?_) (by simp only [List.getElem?_toArray, List.getElem?_cons_zero, List.getElem?_cons_succ]; rfl) (by kernel_rfl) (by kernel_rfl) (by kernel_rfl) (fun _ _ _ h => h) (Or.inl ⟨by rfl, ?_⟩) HS0.out ?_
                  rotate_left
                  · intro w hSw
                    (try dsimp only at hSw)
                    obtain ⟨q0_, q1_⟩ := hSw
                    go_simp
                    try with_reducible rfl
                  try simp only [Act.put, List.setIfInBounds_toArray, List.set_cons_zero, List.set_cons_succ]
                  refine wpAnyH_take (i := 9) (v := ?_) (by simp only [List.getElem?_toArray, List.getElem?_cons_zero, List.getElem?_cons_succ]; rfl) (by kernel_rfl) (by kernel_rfl) (by kernel_rfl) (fun _ _ _ h => h) (Or.inl ⟨by rfl, ?_⟩) HS0.out ?_
                  rotate_left
                  · intro w hSw
                    (try dsimp only at hSw)
                    obtain ⟨q0_, q1_⟩ := hSw
                    go_simp
                    try with_reducible rfl
                  try simp only [Act.put, List.setIfInBounds_toArray, List.set_cons_zero, List.set_cons_succ]
                  refine wpAnyH_ready (rs := [10]) (by kernel_rfl) (by simp) ?_
                  refine AllReadyH.cons (by simp only [List.getElem?_toArray, List.getElem?_cons_zero, List.getElem?_cons_succ]; rfl) (fun K hK => ?_) AllReadyH.nil
                  go_simp
                  refine (HV2.out _ (ext_trans HBi.out HY0.out) (heap_below HMi.out HY0.out) (heap_below HUi.out HY0.out)).mono ?_
                  rintro e r2 ⟨rfl, bb⟩
                  have HY2 := Lib.hid (ext_trans HY0.out bb)
                  have HS1b : Hid (r2.cell? ⟨Tb, 2, none⟩ = some (.slice (some ⟨F, 0, none⟩) nf nf) ∧ r2.cell? ⟨F, k, none⟩ = some (.slice (some ⟨g, 0, none⟩) ii ii)) := ⟨cell_below HS0.out.1 bb, cell_below HS0.out.2 bb⟩
                  refine hK.out _ _ HS1b.out (fun _ => ?_)
                  clear hK K
                  try simp only [Act.put, List.setIfInBounds_toArray, List.set_cons_zero, List.set_cons_succ]
                  clear bb
                  refine wpAnyH_take (i := 11) (v := ?_) (by simp only [List.getElem?_toArray, List.getElem?_cons_zero, List.getElem?_cons_succ]; rfl) (by kernel_rfl) (by kernel_rfl) (by kernel_rfl) (fun _ _ _ h => h) (Or.inl ⟨by rfl, ?_⟩) HS1b.out ?_
                  rotate_left
                  · intro w hSw
                    (try dsimp only at hSw)
                    obtain ⟨q0_, q1_⟩ := hSw
                    go_simp
                    try with_reducible rfl
                  try simp only [Act.put, List.setIfInBounds_toArray, List.set_cons_zero, List.set_cons_succ]
                  have hOr := heap_below HO.out HY2.out
                  have d0 : r2.cell? ⟨g, i, none⟩ = some (.int .u8 0) := by rw [cell_of_block hOr i, fcells_get _ _ _ hlt2, if_neg (by omega)]
                  have y0 := unfrozen_of_block hOr i
                  have hO8 := block_setCell hOr (i := i) (.int .u8 (inN c bs k i : Int))
                  rw [fcells_set] at hO8
                  have HO8 := Lib.hid hO8
                  clear hO8 hOr
                  refine wpAnyH_ready (rs := [12]) (by kernel_rfl) (by simp) ?_
                  refine AllReadyH.cons (by simp only [List.getElem?_toArray, List.getElem?_cons_zero, List.getElem?_cons_succ]; rfl) (fun K hK => ?_) AllReadyH.nil
                  go_simp
                  generalize hW : World.setCell r2 _ _ = W9
                  have HK9 : Hid (KeepN g W8 W9) := by subst hW; exact (HK.out.trans (KeepN.of g HY2.out) (.inl rfl)).trans (KeepN.set g r2 i _) (.inl rfl)
                  have HO9 : Hid (W9.heap[g]? = some (.cells (fcells ii (fun j => if j < i + 1 then .int .u8 (inN c bs k j : Int) else .int .u8 0)) 5 (0, 0))) := by
                    show _ = _
                    subst hW
                    rw [HO8.out]
                    congr 2
                    refine fcells_congr fun j _ => ?_
                    by_cases e : j = i
                    · subst e; rw [if_pos rfl, if_pos (by omega)]
                    · rw [if_neg e]
                      by_cases e3 : j < i
                      · rw [if_pos e3, if_pos (by omega)]
                      · rw [if_neg e3, if_neg (by omega)]
                  clear hW d0 y0 HO8
                  have htg := HTG.out
                  have hT9 := HK9.out.at_ HT8.out (by omega)
                  have hF9 := HK9.out.at_ HF8.out (by omega)
                  have HS3 : Hid (W9.cell? ⟨Tb, 2, none⟩ = some (.slice (some ⟨F, 0, none⟩) nf nf) ∧ W9.cell? ⟨F, k, none⟩ = some (.slice (some ⟨g, 0, none⟩) ii ii)) := ⟨cell_of_block hT9 2, by rw [cell_of_block hF9 k, fcells_get _ _ _ hlt, if_pos (by omega), if_pos rfl]⟩
                  clear hT9 hF9 htg
                  refine hK.out _ _ HS3.out (fun _ => ?_)
                  clear hK K
                  try simp only [Act.put, List.setIfInBounds_toArray, List.set_cons_zero, List.set_cons_succ]
                  refine wpAnyH_done (by kernel_rfl) ?_ _
                  refine NoPanic.normal ?_
                  go_wp2
                  go_roundw
                  case rel => exact ⟨i + 1, by omega, by go_num, HO9.out, HK9.out⟩
                  case measure => simp [intOf]; omega
                · have hi2 : ii = i := by omega
                  subst hi2
                  have htg := HTG.out
                  have hgf := HGF.out
                  have HFe := Lib.hid (hK.out.at_ HF8.out (by omega))
                  have HKe : Hid (KeepN F W6 wr) := HK8.out.trans hK.out (.inr hgf.2)
                  have HGe : Hid (∀ y, y < k + 1 → W6.heap.size ≤ (if y = k then g else gs y) ∧ wr.heap[if y = k then g else gs y]? = some (.cells (fcells ii (fun j => .int .u8 (inN c bs y j : Int))) 5 (0, 0))) := fun y hy => by
                    by_cases e : y = k
                    · subst e
                      rw [if_pos rfl]
                      refine ⟨hgf.2, ?_⟩
                      rw [hO.out]
                      congr 2
                      exact fcells_congr fun j hj => if_pos hj
                    · rw [if_neg e]
                      have h := HG8.out y (by omega)
                      exact ⟨h.1, hK.out.at_ h.2.2 h.2.1⟩
                  clear hO hK htg hgf hi hlt2
                  go_wp2
                  go_roundw
                  case rel => exact ⟨k + 1, by omega, by go_num, fun y => if y = k then g else gs y, HFe.out, HGe.out, HKe.out⟩
                  case measure => simp [intOf]; omega
            · have hk2 : nf = k := by omega
              subst hk2
              have HT7 := Lib.hid (hK.out.at_ HT6.out (Ne.symm HFT.out))
              have HR7 := Lib.hid (hK.out.at_ HR6.out (by omega))
              have HO7 := Lib.hid (hK.out.at_ HO6.out HIF.out)
              have HB7 := Lib.hid (hK.out.below HB6.out (by omega))
              have HF7 : Hid (W7.heap[F]? = some (.cells (fcells nf (fun j => .slice (some ⟨gs j, 0, none⟩) ii ii)) 27 (0, 0))) := by show _ = _; rw [hO.out]; congr 2; exact fcells_congr fun j hj => if_pos hj
              have HG7 := Lib.hid hG.out
              have HD : Hid (I ≠ w.heap.size + 1 + 1 ∧ F ≠ w.heap.size + 1 + 1 ∧ w.heap.size + 1 + 1 < W6.heap.size) := ⟨by omega, by omega, by omega⟩
              clear hO hG hK hio hsz hks hk hlt
              have p0 := cell_of_block HT7.out 0
              have p1 := cell_of_block HT7.out 1
              have p2 := cell_of_block HT7.out 2
              have d0 := cell_of_block HR7.out 0
              have d1 := cell_of_block HR7.out 1
              have d2 := cell_of_block HR7.out 2
              have y0 := unfrozen_of_block HR7.out 0
              have y1 := unfrozen_of_block HR7.out 1
              have y2 := unfrozen_of_block HR7.out 2
              go_wp2
              have hS : ∀ W8 : World, W8.heap[I]? = W7.heap[I]? → W8.heap[F]? = W7.heap[F]? → (∀ y, y < nf → W8.heap[gs y]? = W7.heap[gs y]?) → SeesTr W8 ⟨some ⟨I, 0, none⟩, n1, n1, some ⟨F, 0, none⟩, nf, nf, (List.range nf).map fun j => (some ⟨gs j, 0, none⟩, ii, ii)⟩ (modT c bs bad nf) := fun W8 e1 e2 e3 => sees_modT HL1.out HIN.out HMC.out (e1.trans HO7.out) (e2.trans HF7.out) (fun y hy => (e3 y hy).trans (HG7.out y hy).2)
              refine bodyPost_ret (v := .tuple #[.agg #[.int .i64 bad, .slice (some ⟨I, 0, none⟩) n1 n1, .slice (some ⟨F, 0, none⟩) nf nf], .int .i64 0]) ?_ rfl ?_
              · have h6 := tri_set14 HR7.out rfl (.int .i64 bad) (.slice (some ⟨I, 0, none⟩) n1 n1) (.slice (some ⟨F, 0, none⟩) nf nf)
                have g0 := cell_of_block h6 0
                have g1 := cell_of_block h6 1
                have g2 := cell_of_block h6 2
                simp [results, Try.results22, go_sem, g0, g1, g2]
                try rfl
              · refine ⟨by first | with_reducible exact set314 (w.heap.size + 1 + 1) (by omega) HB7.out | exact set314 (w.heap.size + 1 + 1) (by omega) HB7.out, Or.inl ⟨HT.out, ⟨some ⟨I, 0, none⟩, n1, n1, some ⟨F, 0, none⟩, nf, nf, (List.range nf).map fun j => (some ⟨gs j, 0, none⟩, ii, ii)⟩, rfl, hS _ (set314_other _ _ HD.out.1 _ _ _) (set314_other _ _ HD.out.2.1 _ _ _) (fun y hy => set314_other _ _ (by have := (HG7.out y hy).1; have := HD.out; omega) _ _ _), ⟨HSM.out, by show nf ≤ _; omega, ?_⟩⟩⟩
                intro x hx
                obtain ⟨j, _, rfl⟩ := List.mem_map.1 hx
                show ii ≤ _
                omega
  · unfold uZ
    go_upto_region 2 with fail
    generalize hW : World.alloc W2 _ = W3
    obtain ⟨U, hU⟩ : ∃ U, U = W2.heap.size := ⟨_, rfl⟩
    have hU3 : W3.heap[U]? = some (.cells #[.int .i64 0, .slice none 0 0, .slice none 0 0, .slice none 0 0, .slice none 0 0, .slice none 0 0, .int .i64 0, .int .i64 0] 67 (0, 0)) := by subst hW; rw [hU]; exact heap_new _ _ _ rfl
    have hb3 : Below W2.heap.size W2 W3 := by subst hW; exact ext_alloc _ _
    have HU3 := Lib.hid hU3
    have HX3 := Lib.hid (heap_below HX2.out hb3)
    have HM3 := Lib.hid (heap_below HM2.out hb3)
    have HR3 := Lib.hid (heap_below HR2.out hb3)
    have HB3 := Lib.hid (ext_trans HB2.out hb3)
    have HUG : Hid (w.heap.size + 1 + 1 < U) := by show _ < _; rw [hU]; exact heap_lt HR2.out
    rw [← hU]
    clear hW hU3 hb3 hU HX2 HM2 HR2 HB2
    have HF : Hid (tk = false) := by show _ = _; rw [HTO.out]; rfl
    have q_0 : W3.cell? ⟨w.heap.size, 0, none⟩ = some (.int .i64 x) := cell_of_block HX3.out 0
    refine wp_region_noPanic ?_
    refine wp_region_held (S := fun w' => w'.cell? ⟨w.heap.size, 0, none⟩ = some (.int .i64 x)) (by kernel_rfl) ?_
    generalize hYY : ({ W3 with drawn := W3.drawn + 1 } : World) = Y0
    have HY0 : Hid (Below W3.heap.size W3 Y0) := by subst hYY; exact (Below.refl _ _).drew
    have HS0 : Hid (Y0.cell? ⟨w.heap.size, 0, none⟩ = some (.int .i64 x)) := cell_below q_0 HY0.out
    clear hYY
    clear q_0
    refine wpAnyH_take (i := 0) (v := ?_) (by simp only [List.getElem?_toArray, List.getElem?_cons_zero]; rfl) (by kernel_rfl) (by kernel_rfl) (by kernel_rfl) (fun _ _ _ h => h) (Or.inl ⟨by rfl, ?_⟩) HS0.out ?_
    rotate_left
    · intro w hSw
      (try dsimp only at hSw)
      have q0_ := hSw
      go_simp
      try with_reducible rfl
    try simp only [Act.put, List.setIfInBounds_toArray, List.set_cons_zero, List.set_cons_succ]
    refine wpAnyH_take (i := 1) (v := ?_) (by simp only [List.getElem?_toArray, List.getElem?_cons_zero, List.getElem?_cons_succ]; rfl) (by kernel_rfl) (by kernel_rfl) (by kernel_rfl) (fun _ _ _ h => h) (Or.inl ⟨by rfl, ?_⟩) HS0.out ?_
    rotate_left
    · intro w hSw
      (try dsimp only at hSw)
      have q0_ := hSw
      go_simp
      try with_reducible rfl
    try simp only [Act.put, List.setIfInBounds_toArray, List.set_cons_zero, List.set_cons_succ]
    refine wpAnyH_take (i := 2) (v := ?_) (by simp only [List.getElem?_toArray, List.getElem?_cons_zero, List.getElem?_cons_succ]; rfl) (by kernel_rfl) (by kernel_rfl) (by kernel_rfl) (fun _ _ _ h => h) (Or.inl ⟨by rfl, ?_⟩) HS0.out ?_
    rotate_left
    · intro w hSw
      (try dsimp only at hSw)
      have q0_ := hSw
      go_simp
      try with_reducible rfl
    try simp only [Act.put, List.setIfInBounds_toArray, List.set_cons_zero, List.set_cons_succ]
    refine wpAnyH_take (i := 3) (v := undef) (by simp only [List.getElem?_toArray, List.getElem?_cons_zero, List.getElem?_cons_succ]; rfl) (by kernel_rfl) (by kernel_rfl) (by kernel_rfl) (fun _ _ _ h => h) (Or.inr ⟨by rfl, rfl⟩) HS0.out ?_
    try simp only [Act.put, List.setIfInBounds_toArray, List.set_cons_zero, List.set_cons_succ]
    refine wpAnyH_take (i := 4) (v := undef) (by simp only [List.getElem?_toArray, List.getElem?_cons_zero, List.getElem?_cons_succ]; rfl) (by kernel_rfl) (by kernel_rfl) (by kernel_rfl) (fun _ _ _ h => h) (Or.inr ⟨by rfl, rfl⟩) HS0.out ?_
    try simp only [Act.put, List.setIfInBounds_toArray, List.set_cons_zero, List.set_cons_succ]
    refine wpAnyH_ready (rs := [5]) (by kernel_rfl) (by simp) ?_
    refine AllReadyH.cons (by simp only [List.getElem?_toArray, List.getElem?_cons_zero, List.getElem?_cons_succ]; rfl) (fun K hK => ?_) AllReadyH.nil
    rw [if_neg (by exact fun h => Bool.noConfusion (show false = true from h))]
    refine hK.out _ _ HS0.out (fun _ => ?_)
    clear hK K
    try simp only [Act.put, List.setIfInBounds_toArray, List.set_cons_zero, List.set_cons_succ]
    refine wpAnyH_take (i := 6) (v := undef) (by simp only [List.getElem?_toArray, List.getElem?_cons_zero, List.getElem?_cons_succ]; rfl) (by kernel_rfl) (by kernel_rfl) (by kernel_rfl) (fun _ _ _ h => h) (Or.inr ⟨by rfl, rfl⟩) HS0.out ?_
    try simp only [Act.put, List.setIfInBounds_toArray, List.set_cons_zero, List.set_cons_succ]
    refine wpAnyH_take (i := 7) (v := ?_) (by simp only [List.getElem?_toArray, List.getElem?_cons_zero, List.getElem?_cons_succ]; rfl) (by kernel_rfl) (by kernel_rfl) (by kernel_rfl) (fun _ _ _ h => h) (Or.inl ⟨by rfl, ?_⟩) HS0.out ?_
    rotate_left
    · intro w hSw
      (try dsimp only at hSw)
      have q0_ := hSw
      go_simp
      try with_reducible rfl
    try simp only [Act.put, List.setIfInBounds_toArray, List.set_cons_zero, List.set_cons_succ]
    refine wpAnyH_take (i := 8) (v := ?_) (by simp only [List.getElem?_toArray, List.getElem?_cons_zero, List.getElem?_cons_succ]; rfl) (by kernel_rfl) (by kernel_rfl) (by kernel_rfl) (fun _ _ _ h => h) (Or.inl ⟨by rfl, ?_⟩) HS0.out ?_
    rotate_left
    · intro w hSw
      (try dsimp only at hSw)
      have q0_ := hSw
      go_simp
      try with_reducible rfl
    try simp only [Act.put, List.setIfInBounds_toArray, List.set_cons_zero, List.set_cons_succ]
    refine wpAnyH_take (i := 9) (v := undef) (by simp only [List.getElem?_toArray, List.getElem?_cons_zero, List.getElem?_cons_succ]; rfl) (by kernel_rfl) (by kernel_rfl) (by kernel_rfl) (fun _ _ _ h => h) (Or.inr ⟨by rfl, rfl⟩) HS0.out ?_
    try simp only [Act.put, List.setIfInBounds_toArray, List.set_cons_zero, List.set_cons_succ]
    refine wpAnyH_take (i := 10) (v := undef) (by simp only [List.getElem?_toArray, List.getElem?_cons_zero, List.getElem?_cons_succ]; rfl) (by kernel_rfl) (by kernel_rfl) (by kernel_rfl) (fun _ _ _ h => h) (Or.inr ⟨by rfl, rfl⟩) HS0.out ?_
    try simp only [Act.put, List.setIfInBounds_toArray, List.set_cons_zero, List.set_cons_succ]
    refine wpAnyH_take (i := 11) (v := undef) (by simp only [List.getElem?_toArray, List.getElem?_cons_zero, List.getElem?_cons_succ]; rfl) (by kernel_rfl) (by kernel_rfl) (by kernel_rfl) (fun _ _ _ h => h) (Or.inr ⟨by rfl, rfl⟩) HS0.out ?_
    try simp only [Act.put, List.setIfInBounds_toArray, List.set_cons_zero, List.set_cons_succ]
    refine wpAnyH_ready (rs := [12]) (by kernel_rfl) (by simp) ?_
    refine AllReadyH.cons (by simp only [List.getElem?_toArray, List.getElem?_cons_zero, List.getElem?_cons_succ]; rfl) (fun K hK => ?_) AllReadyH.nil
    rw [if_neg (by exact fun h => Bool.noConfusion (show false = true from h))]
    refine hK.out _ _ HS0.out (fun _ => ?_)
    clear hK K
    try simp only [Act.put, List.setIfInBounds_toArray, List.set_cons_zero, List.set_cons_succ]
    refine wpAnyH_take (i := 13) (v := undef) (by simp only [List.getElem?_toArray, List.getElem?_cons_zero, List.getElem?_cons_succ]; rfl) (by kernel_rfl) (by kernel_rfl) (by kernel_rfl) (fun _ _ _ h => h) (Or.inr ⟨by rfl, rfl⟩) HS0.out ?_
    try simp only [Act.put, List.setIfInBounds_toArray, List.set_cons_zero, List.set_cons_succ]
    refine wpAnyH_take (i := 14) (v := undef) (by simp only [List.getElem?_toArray, List.getElem?_cons_zero, List.getElem?_cons_succ]; rfl) (by kernel_rfl) (by kernel_rfl) (by kernel_rfl) (fun _ _ _ h => h) (Or.inr ⟨by rfl, rfl⟩) HS0.out ?_
    try simp only [Act.put, List.setIfInBounds_toArray, List.set_cons_zero, List.set_cons_succ]
    refine wpAnyH_take (i := 15) (v := ?_) (by simp only [List.getElem?_toArray, List.getElem?_cons_zero, List.getElem?_cons_succ]; rfl) (by kernel_rfl) (by kernel_rfl) (by kernel_rfl) (fun _ _ _ h => h) (Or.inl ⟨by rfl, ?_⟩) HS0.out ?_
    rotate_left
    · intro w hSw
      (try dsimp only at hSw)
      have q0_ := hSw
      go_simp
      try with_reducible rfl
    try simp only [Act.put, List.setIfInBounds_toArray, List.set_cons_zero, List.set_cons_succ]
    refine wpAnyH_done (by kernel_rfl) ?_ _
    refine NoPanic.normal ?_
    have HR4 := Lib.hid (heap_below HR3.out HY0.out)
    have HB4 := Lib.hid (ext_trans HB3.out HY0.out)
    have d0 : Y0.cell? ⟨w.heap.size + 1 + 1, 0, none⟩ = some (.int .i64 0) := cell_of_block HR4.out 0
    have d1 : Y0.cell? ⟨w.heap.size + 1 + 1, 1, none⟩ = some (.slice none 0 0) := cell_of_block HR4.out 1
    have d2 : Y0.cell? ⟨w.heap.size + 1 + 1, 2, none⟩ = some (.slice none 0 0) := cell_of_block HR4.out 2
    have y0 := unfrozen_of_block HR4.out 0
    have y1 := unfrozen_of_block HR4.out 1
    have y2 := unfrozen_of_block HR4.out 2
    go_wp2
    refine bodyPost_ret (v := .tuple #[.agg #[.int .i64 0, .slice none 0 0, .slice none 0 0], .int .i64 2]) ?_ rfl ?_
    · have h6 := tri_set14 HR4.out rfl (.int .i64 0) (.slice none 0 0) (.slice none 0 0)
      have g0 := cell_of_block h6 0
      have g1 := cell_of_block h6 1
      have g2 := cell_of_block h6 2
      simp [results, Try.results22, go_sem, g0, g1, g2]
      try rfl
    · exact ⟨by first | with_reducible exact set314 (w.heap.size + 1 + 1) (by omega) HB4.out | exact HB4.out, by first | exact Or.inr ⟨HF.out, rfl⟩ | (right; exact ⟨HF.out, rfl⟩)⟩
end Go.Proofs.Ytcoehbkjccfhlaa
