/- inquestref02.Put, by its contract: a raw circuit that may be is written as its text. -/
import Derived.Test.YtglhnmbfkbjemaaGreatDoorBkR
import Derived.Test.YtglhnmbfkbjemaaGreatDoorNRefMay
import Derived.Test.YtglhnmbfkbjemaaGreatDoorBkK
import Derived.Test.YtglhnmbfkbjemaaGreatDoorBkB
import Derived.Test.YtglhnmbfkbjemaaGreatDoorBkF
import Derived.Test.YtglhnmbfkbjemaaGreatDoorBkP
namespace Go.Proofs.YtglhnmbfkbjemaaGreatDoor
open Go Go.RowKit Go.Joins
theorem lines_more {α : Type} (f : α → List Nat) (l : List α) (k : Nat) (d : α) (hk : k < l.length) : linesOf ((l.take (k + 1)).map f) = linesOf ((l.take k).map f) ++ (bodyOf (f (l.getD k d)) ++ [10]) := by
  rw [List.take_succ_eq_append_getElem hk, List.map_append]
  show linesOf (_ ++ [f l[k]]) = _
  rw [linesOf_snoc]
  simp [lineOf, List.getD, List.getElem?_eq_getElem hk]
set_option maxRecDepth 100000 in
set_option maxHeartbeats 3200000 in
theorem rpput_any (r : RawC) (s : Slots) (w : World) (h : SeesRaw w s r) (hs : s.small) (hm : mayRaw r = true) :
    Calls Tryz.prog 11 #[rawV r.max s] w fun e w' => ∃ a n c, e = .returned (.tuple #[.slice a n c, .int .i64 0]) ∧ Sees w' a n c ((textOf r).map bv) ∧ Below w.heap.size w w' := by
  have hv := valid_of hm
  have HMAY := Lib.hid (fun o : Obj => refmay_any r s (w.alloc o) (h.below (ext_alloc _ _)) hs)
  rw [hm] at HMAY
  obtain ⟨a1, n1, c1, a2, n2, c2, a3, n3, c3, a4, n4, c4, a5, n5, c5, a6, n6, c6⟩ := s
  have l1 : r.ins.length = n1 := h.s1.lenMap
  have l2 : r.lats.length = n2 := h.s2.1
  have l3 : r.outs.length = n3 := h.s3.lenMap
  have l4 : r.bads.length = n4 := h.s4.lenMap
  have l5 : r.cons.length = n5 := h.s5.lenMap
  have l6 : r.gates.length = n6 := h.s6.1
  obtain ⟨m, hmm⟩ : ∃ m, m = r.max := ⟨_, rfl⟩
  rw [← hmm] at HMAY ⊢
  have HS := Lib.hid h
  have HV := Lib.hid hv
  have HM := Lib.hid hmm
  have HF := Lib.hid (firstL_counts r)
  rw [← hmm, l1, l2, l3, l4, l5, l6] at HF
  have HL := Lib.hid (⟨l1, l2, l3, l4, l5, l6⟩ : r.ins.length = n1 ∧ r.lats.length = n2 ∧ r.outs.length = n3 ∧ r.bads.length = n4 ∧ r.cons.length = n5 ∧ r.gates.length = n6)
  have hmax : m ≤ 16384 := by
    by_cases t : 16384 < r.max
    · rw [may_no_max t] at hm; cases hm
    · omega
  have hsum : n1 + n2 + n6 ≤ m := by
    by_cases t : r.max < r.ins.length + r.lats.length + r.gates.length
    · rw [may_no_many t] at hm; cases hm
    · omega
  have h3 : n3 ≤ 1024 := by
    by_cases t : 1024 < r.outs.length
    · rw [may_no_outs t] at hm; cases hm
    · omega
  have h4 : n4 ≤ 1024 := by
    by_cases t : 1024 < r.bads.length
    · rw [may_no_bads t] at hm; cases hm
    · omega
  have h5 : n5 ≤ 1024 := by
    by_cases t : 1024 < r.cons.length
    · rw [may_no_cons t] at hm; cases hm
    · omega
  have NB := Lib.hid (⟨hmax, hsum, h3, h4, h5⟩ : m ≤ 16384 ∧ n1 + n2 + n6 ≤ m ∧ n3 ≤ 1024 ∧ n4 ≤ 1024 ∧ n5 ≤ 1024)
  have wm : IntKind.i64.wrap (m : Int) = (m : Int) := IntWalk.i64_in _ (by omega)
  have hge := HV.out
  have U32 := Lib.hid (⟨fun x hx => by have := hge.i x hx; omega, fun x hx => by have := hge.o x hx; omega, fun x hx => by have := hge.b x hx; omega, fun x hx => by have := hge.c x hx; omega,
      fun t ht => by have := hge.la t ht; omega, fun t ht => by have := hge.ga t ht; omega⟩ :
    (∀ x ∈ r.ins, x < 4294967296) ∧ (∀ x ∈ r.outs, x < 4294967296) ∧ (∀ x ∈ r.bads, x < 4294967296) ∧ (∀ x ∈ r.cons, x < 4294967296) ∧ (∀ t ∈ r.lats, t.1 < 4294967296 ∧ t.2.1 < 4294967296) ∧ (∀ t ∈ r.gates, t.1 < 4294967296 ∧ t.2.1 < 4294967296 ∧ t.2.2 < 4294967296))
  have HCL : Hid ((headText ++ lineOf (countsOf r)).length ≤ 152) := by
    have e1 : (countsOf r).length ≤ 7 := by unfold countsOf countsAll; split <;> (try split) <;> simp
    have e2 := bodyOf_len (countsOf r) (fun x hx => by
      have hm7 : ∀ x ∈ countsAll r, x < 4294967296 := by intro x hx; simp [countsAll] at hx; omega
      unfold countsOf at hx
      split at hx
      · split at hx
        · exact hm7 x (List.mem_of_mem_take hx)
        · exact hm7 x (List.mem_of_mem_take hx)
      · exact hm7 x hx)
    show _ ≤ _
    rw [List.length_append]
    simp [lineOf, headText]
    omega
  clear hge
  clear h hv hs hm hmm l1 l2 l3 l4 l5 l6 hmax hsum h3 h4 h5
  unfold rawV
  unfold rawV at HMAY
  simp only at HMAY
  go_enter Tryz.func11, Tryz.ntmps11
  go_wp2_with fail
  refine (HMAY.out _).mono ?_
  rintro e w1 ⟨rfl, hb1⟩
  have HX1 := Lib.hid (heap_below (heap_new w (.cells #[.int .u32 m, .slice a1 n1 c1, .slice a2 n2 c2, .slice a3 n3 c3, .slice a4 n4 c4, .slice a5 n5 c5, .slice a6 n6 c6] 39) w.heap.size rfl) hb1)
  have HB1 := Lib.hid (ext_trans (ext_alloc _ _) hb1)
  clear hb1 HMAY
  have p0 := cell_of_block HX1.out 0
  have p1 := cell_of_block HX1.out 1
  have p2 := cell_of_block HX1.out 2
  have p3 := cell_of_block HX1.out 3
  have p4 := cell_of_block HX1.out 4
  have p5 := cell_of_block HX1.out 5
  have p6 := cell_of_block HX1.out 6
  have FIRST := Lib.hid (first_any m n1 n2 n3 n6 n4 n5 (by have := NB.out; omega) (by have := NB.out; omega) (by have := NB.out; omega) (by have := NB.out; omega) (by have := NB.out; omega) (by have := NB.out; omega) (by have := NB.out; omega) w1)
  rw [HF.out] at FIRST
  go_wp2_with fail
  refine FIRST.out.mono ?_
  rintro e w2 ⟨a7, n7, c7, rfl, hs7, hb2⟩
  have HX2 := Lib.hid (heap_below HX1.out hb2)
  have HB2 := Lib.hid (ext_trans HB1.out hb2)
  have HS7 := Lib.hid hs7
  have hn7 : n7 ≤ 152 := by
    have e1 := hs7.lenMap
    have e2 := HCL.out
    rw [← e1]
    exact e2
  clear hs7 hb2 FIRST HX1 HB1 p0 p1 p2 p3 p4 p5 p6
  have p1 := cell_of_block HX2.out 1
  go_wp2_with fail
  refine (refeach_any (headText ++ lineOf (countsOf r)) r.ins a7 a1 n7 c7 n1 c1 w2 HS7.out (HS.out.s1.below HB2.out) (by have := NB.out; omega) (U32.out.1)).mono ?_
  rintro e w3 ⟨a8, n8, c8, rfl, hn8, hs8, hb3⟩
  obtain ⟨C0, hC0⟩ : ∃ C0, C0 = headText ++ lineOf (countsOf r) ++ linesOf (r.ins.map fun x => [x]) := ⟨_, rfl⟩
  rw [← hC0] at hs8
  have HC0 := Lib.hid hC0
  have HX3 := Lib.hid (heap_below HX2.out hb3)
  have HB3 := Lib.hid (ext_trans HB2.out hb3)
  have HS8 := Lib.hid hs8
  have N8 : n8 ≤ 152 + 22 * n1 := by omega
  clear hs8 hb3 hC0 HX2 HB2 HS7 hn8 hn7 p1
  go_wp2_with fail
  go_loopw [4, 5, 6] (fun b j _ wr => ∃ (k : Nat) (ab : Option Addr) (nb cb : Nat), k ≤ n2 ∧ j = .int .i64 k ∧ b = .slice ab nb cb ∧ nb ≤ 152 + 22 * n1 + 64 * k ∧ Hid (Sees wr ab nb cb ((C0 ++ linesOf ((r.lats.take k).map latNums)).map bv)) ∧ Hid (Below w.heap.size w wr) ∧ Hid (wr.heap[w.heap.size]? = some (.cells #[.int .u32 m, .slice a1 n1 c1, .slice a2 n2 c2, .slice a3 n3 c3, .slice a4 n4 c4, .slice a5 n5 c5, .slice a6 n6 c6] 39 (0, 0)))) (fun _ j _ _ => n2 - (intOf j).toNat)
  case atStart => exact ⟨0, a8, n8, c8, Nat.zero_le _, rfl, rfl, by omega, by show Sees _ _ _ _ _; simpa [linesOf] using HS8.out, HB3.out, HX3.out⟩
  case round =>
    clear HX3 HB3 HS8 N8
    obtain ⟨k, ab, nb, cb, hk, rfl, rfl, hnb, HC, HB, HX⟩ := hrel
    have p2 := cell_of_block HX.out 2
    by_cases hlt : k < n2
    · obtain ⟨b, off, rfl, hbw⟩ := HS.out.s2.addr (show 0 < n2 by omega)
      obtain ⟨qx, qy, qz⟩ := (HS.out.s2.below HB.out).cells k hlt (0, 0, 0)
      obtain ⟨t, ht⟩ : ∃ t, t = r.lats.getD k (0, 0, 0) := ⟨_, rfl⟩
      rw [← ht] at qx qy qz
      have HT := Lib.hid ht
      clear ht
      obtain ⟨x, y, z⟩ := t
      unfold nv32 at qx qy qz
      have W1 : IntKind.i64.wrap ((k : Int) + 1) = (k : Int) + 1 := IntWalk.i64_in _ (by have := NB.out; omega)
      have hmem : (x, y, z) ∈ r.lats := by rw [HT.out]; exact getD_mem (by rw [HL.out.2.1]; exact hlt)
      have h32 := U32.out.2.2.2.2.1 _ hmem
      have hmr := (HV.out.la _ hmem).2.2
      have hz32 : z < 4294967296 := by
        have h9 := reset_le hmr (HV.out.la _ hmem).1
        have := NB.out
        have := HM.out
        simp only at h9
        omega
      simp only at h32
      have HROW := Lib.hid (row_ncells (w := (wr.alloc (.cells #[.int .u32 x, .int .u32 y, .int .u32 z] 55)).alloc (.cells #[.int .u32 x] 35)) (D := wr.heap.size + 1) (n := 1) (ls := [x]) wr.heap.size (by omega) (heap_new _ _ _ (by simp)) rfl (by omega) (by simpa using h32.1))
      have HTOLD := Lib.hid (told_any wr.heap.size x y z h32.2 hz32 _ _ HROW.out (by simp; omega))
      have HX32 : Hid (∀ q ∈ toldL x y z, q < 4294967296) := Lib.hid (by intro q hq; unfold toldL at hq; split at hq <;> simp at hq <;> omega)
      have HLEN : Hid ((toldL x y z).length ≤ 3) := Lib.hid (by unfold toldL; split <;> simp)
      have HTL : Hid (toldL x y z = latNums (r.lats.getD k (0, 0, 0))) := Lib.hid (by rw [← HT.out]; rfl)
      obtain ⟨T, hT⟩ : ∃ T, T = toldL x y z := ⟨_, rfl⟩
      rw [← hT] at HTOLD HX32 HLEN HTL
      clear hmem h32 hmr hz32 HROW hT HT
      go_wp2_with fail
      refine HTOLD.out.mono ?_
      rintro e w5 ⟨v5, rfl, hr5, hb5⟩
      obtain ⟨f5, d5, rfl⟩ := hr5.form
      have hbw5 : Below wr.heap.size wr w5 := (ext_trans (ext_alloc _ _) (ext_alloc _ _)).trans hb5
      have HW5 := Lib.hid (refwrite_any (C0 ++ linesOf ((r.lats.take k).map latNums)) T ab f5 nb cb T.length d5 w5 (HC.out.below hbw5) (row_sees0 hr5) (by have := NB.out; omega) (by have := HLEN.out; omega) HX32.out)
      have HB5 := Lib.hid (ext_trans HB.out hbw5)
      have HX5 := Lib.hid (heap_below HX.out hbw5)
      clear hr5 hb5 hbw5 HTOLD qx qy qz
      obtain ⟨NT, hNT⟩ : ∃ N, N = T.length := ⟨_, rfl⟩
      rw [← hNT] at HW5 HLEN ⊢
      have HNT := Lib.hid hNT
      clear hNT
      go_wp2_with fail
      refine HW5.out.mono ?_
      rintro e w6 ⟨a9, n9, c9, rfl, hs9, hb9, _⟩
      have HB9 := Lib.hid (ext_trans HB5.out hb9)
      have HX9 := Lib.hid (heap_below HX5.out hb9)
      have HS9 := Lib.hid hs9
      clear hs9 hb9 HW5 HB5 HX5 p2
      go_wp2
      go_roundw
      case rel =>
        have h1 := HS9.out.lenMap
        have h2 := HC.out.lenMap
        have h3 := bodyOf_len T HX32.out
        rw [← HNT.out] at h3
        have h4 := HLEN.out
        simp only [List.length_append, List.length_cons, List.length_nil] at h1 h2
        refine ⟨k + 1, a9, n9, c9, by omega, by go_num, rfl, by omega, ?_, HB9, HX9⟩
        show Sees _ _ _ _ _
        rw [lines_more latNums r.lats k (0, 0, 0) (by rw [HL.out.2.1]; exact hlt), ← HTL.out, ← List.append_assoc]
        exact HS9.out
      case measure => simp [intOf]; omega
    · obtain rfl : n2 = k := by omega
      obtain ⟨V2, hV⟩ : ∃ V, V = wr := ⟨_, rfl⟩
      subst hV
      obtain ⟨C1, hC1⟩ : ∃ C1, C1 = C0 ++ linesOf (r.lats.map latNums) := ⟨_, rfl⟩
      have hfull : r.lats.take n2 = r.lats := List.take_of_length_le (by rw [HL.out.2.1]; exact Nat.le_refl _)
      rw [hfull, ← hC1] at HC
      have HC1 := Lib.hid hC1
      clear hlt hk hfull hC1
      go_upto_region 10 with fail
      refine wp_region_noPanic ?_
      refine wp_region_held (S := fun w' => w'.cell? ⟨w.heap.size, 3, none⟩ = some (.slice a3 n3 c3) ∧ w'.cell? ⟨w.heap.size, 4, none⟩ = some (.slice a4 n4 c4) ∧ w'.cell? ⟨w.heap.size, 5, none⟩ = some (.slice a5 n5 c5)) (by kernel_rfl) ?_
      generalize hY : ({ V2 with drawn := V2.drawn + 1 } : World) = Y0
      have hY0 : Below V2.heap.size V2 Y0 := by subst hY; exact (Below.refl _ _).drew
      have HX0 := Lib.hid (heap_below HX.out hY0)
      have HB0 := Lib.hid (ext_trans HB.out hY0)
      have HC0x := Lib.hid (HC.out.below hY0)
      have HELD0 : Hid (Y0.cell? ⟨w.heap.size, 3, none⟩ = some (.slice a3 n3 c3) ∧ Y0.cell? ⟨w.heap.size, 4, none⟩ = some (.slice a4 n4 c4) ∧ Y0.cell? ⟨w.heap.size, 5, none⟩ = some (.slice a5 n5 c5)) := ⟨cell_of_block HX0.out 3, cell_of_block HX0.out 4, cell_of_block HX0.out 5⟩
      clear hY hY0 HX HB HC
      refine wpAnyH_take (i := 0) (v := ?_) (by simp only [List.getElem?_toArray, List.getElem?_cons_zero]; rfl) (by kernel_rfl) (by kernel_rfl) (by kernel_rfl) (fun _ _ _ h => h) (Or.inl ⟨by rfl, ?_⟩) HELD0.out ?_
      rotate_left
      · intro wz hSw
        (try dsimp only at hSw)
        obtain ⟨q3, q4, q5⟩ := hSw
        go_simp
        try with_reducible rfl
      try simp only [Act.put, List.setIfInBounds_toArray, List.set_cons_zero, List.set_cons_succ]
      refine wpAnyH_take (i := 1) (v := ?_) (by simp only [List.getElem?_toArray, List.getElem?_cons_zero, List.getElem?_cons_succ]; rfl) (by kernel_rfl) (by kernel_rfl) (by kernel_rfl) (fun _ _ _ h => h) (Or.inl ⟨by rfl, ?_⟩) HELD0.out ?_
      rotate_left
      · intro wz hSw
        (try dsimp only at hSw)
        obtain ⟨q3, q4, q5⟩ := hSw
        go_simp
        try with_reducible rfl
      try simp only [Act.put, List.setIfInBounds_toArray, List.set_cons_zero, List.set_cons_succ]
      refine wpAnyH_take (i := 2) (v := ?_) (by simp only [List.getElem?_toArray, List.getElem?_cons_zero, List.getElem?_cons_succ]; rfl) (by kernel_rfl) (by kernel_rfl) (by kernel_rfl) (fun _ _ _ h => h) (Or.inl ⟨by rfl, ?_⟩) HELD0.out ?_
      rotate_left
      · intro wz hSw
        (try dsimp only at hSw)
        obtain ⟨q3, q4, q5⟩ := hSw
        go_simp
        try with_reducible rfl
      try simp only [Act.put, List.setIfInBounds_toArray, List.set_cons_zero, List.set_cons_succ]
      refine wpAnyH_take (i := 4) (v := ?_) (by simp only [List.getElem?_toArray, List.getElem?_cons_zero, List.getElem?_cons_succ]; rfl) (by kernel_rfl) (by kernel_rfl) (by kernel_rfl) (fun _ _ _ h => h) (Or.inl ⟨by rfl, ?_⟩) HELD0.out ?_
      rotate_left
      · intro wz hSw
        (try dsimp only at hSw)
        obtain ⟨q3, q4, q5⟩ := hSw
        go_simp
        try with_reducible rfl
      try simp only [Act.put, List.setIfInBounds_toArray, List.set_cons_zero, List.set_cons_succ]
      refine wpAnyH_take (i := 5) (v := ?_) (by simp only [List.getElem?_toArray, List.getElem?_cons_zero, List.getElem?_cons_succ]; rfl) (by kernel_rfl) (by kernel_rfl) (by kernel_rfl) (fun _ _ _ h => h) (Or.inl ⟨by rfl, ?_⟩) HELD0.out ?_
      rotate_left
      · intro wz hSw
        (try dsimp only at hSw)
        obtain ⟨q3, q4, q5⟩ := hSw
        go_simp
        try with_reducible rfl
      try simp only [Act.put, List.setIfInBounds_toArray, List.set_cons_zero, List.set_cons_succ]
      refine wpAnyH_take (i := 7) (v := ?_) (by simp only [List.getElem?_toArray, List.getElem?_cons_zero, List.getElem?_cons_succ]; rfl) (by kernel_rfl) (by kernel_rfl) (by kernel_rfl) (fun _ _ _ h => h) (Or.inl ⟨by rfl, ?_⟩) HELD0.out ?_
      rotate_left
      · intro wz hSw
        (try dsimp only at hSw)
        obtain ⟨q3, q4, q5⟩ := hSw
        go_simp
        try with_reducible rfl
      try simp only [Act.put, List.setIfInBounds_toArray, List.set_cons_zero, List.set_cons_succ]
      refine wpAnyH_take (i := 8) (v := ?_) (by simp only [List.getElem?_toArray, List.getElem?_cons_zero, List.getElem?_cons_succ]; rfl) (by kernel_rfl) (by kernel_rfl) (by kernel_rfl) (fun _ _ _ h => h) (Or.inl ⟨by rfl, ?_⟩) HELD0.out ?_
      rotate_left
      · intro wz hSw
        (try dsimp only at hSw)
        obtain ⟨q3, q4, q5⟩ := hSw
        go_simp
        try with_reducible rfl
      try simp only [Act.put, List.setIfInBounds_toArray, List.set_cons_zero, List.set_cons_succ]
      refine wpAnyH_ready (rs := [3]) (by kernel_rfl) (by simp) ?_
      refine AllReadyH.cons (by simp only [List.getElem?_toArray, List.getElem?_cons_zero, List.getElem?_cons_succ]; rfl) (fun K hK => ?_) AllReadyH.nil
      go_simp
      refine (refeach_any C1 r.outs ab a3 nb cb n3 c3 Y0 HC0x.out (HS.out.s3.below HB0.out) (by have := NB.out; omega) U32.out.2.1).mono ?_
      rintro e Y1 ⟨e1, m1, d1, rfl, hm1, hs1, hb1⟩
      obtain ⟨C2, hC2⟩ : ∃ C, C = C1 ++ linesOf (r.outs.map fun x => [x]) := ⟨_, rfl⟩
      rw [← hC2] at hs1
      have HC2 := Lib.hid hC2
      have HX1 := Lib.hid (heap_below HX0.out hb1)
      have HB1 := Lib.hid (ext_trans HB0.out hb1)
      have HC1x := Lib.hid hs1
      have HELD1 : Hid (Y1.cell? ⟨w.heap.size, 3, none⟩ = some (.slice a3 n3 c3) ∧ Y1.cell? ⟨w.heap.size, 4, none⟩ = some (.slice a4 n4 c4) ∧ Y1.cell? ⟨w.heap.size, 5, none⟩ = some (.slice a5 n5 c5)) := ⟨cell_of_block HX1.out 3, cell_of_block HX1.out 4, cell_of_block HX1.out 5⟩
      clear hs1 hb1 hC2 HX0 HB0 HC0x HELD0
      refine hK.out _ _ HELD1.out (fun _ => ?_)
      clear hK K
      try simp only [Act.put, List.setIfInBounds_toArray, List.set_cons_zero, List.set_cons_succ]
      refine wpAnyH_ready (rs := [6]) (by kernel_rfl) (by simp) ?_
      refine AllReadyH.cons (by simp only [List.getElem?_toArray, List.getElem?_cons_zero, List.getElem?_cons_succ]; rfl) (fun K hK => ?_) AllReadyH.nil
      go_simp
      refine (refeach_any C2 r.bads e1 a4 m1 d1 n4 c4 Y1 HC1x.out (HS.out.s4.below HB1.out) (by have := NB.out; omega) U32.out.2.2.1).mono ?_
      rintro e Y2 ⟨e2, m2, d2, rfl, hm2, hs2, hb2⟩
      obtain ⟨C3, hC3⟩ : ∃ C, C = C2 ++ linesOf (r.bads.map fun x => [x]) := ⟨_, rfl⟩
      rw [← hC3] at hs2
      have HC3 := Lib.hid hC3
      have HX2 := Lib.hid (heap_below HX1.out hb2)
      have HB2 := Lib.hid (ext_trans HB1.out hb2)
      have HC2x := Lib.hid hs2
      have HELD2 : Hid (Y2.cell? ⟨w.heap.size, 3, none⟩ = some (.slice a3 n3 c3) ∧ Y2.cell? ⟨w.heap.size, 4, none⟩ = some (.slice a4 n4 c4) ∧ Y2.cell? ⟨w.heap.size, 5, none⟩ = some (.slice a5 n5 c5)) := ⟨cell_of_block HX2.out 3, cell_of_block HX2.out 4, cell_of_block HX2.out 5⟩
      clear hs2 hb2 hC3 HX1 HB1 HC1x HELD1
      refine hK.out _ _ HELD2.out (fun _ => ?_)
      clear hK K
      try simp only [Act.put, List.setIfInBounds_toArray, List.set_cons_zero, List.set_cons_succ]
      refine wpAnyH_ready (rs := [9]) (by kernel_rfl) (by simp) ?_
      refine AllReadyH.cons (by simp only [List.getElem?_toArray, List.getElem?_cons_zero, List.getElem?_cons_succ]; rfl) (fun K hK => ?_) AllReadyH.nil
      go_simp
      refine (refeach_any C3 r.cons e2 a5 m2 d2 n5 c5 Y2 HC2x.out (HS.out.s5.below HB2.out) (by have := NB.out; omega) U32.out.2.2.2.1).mono ?_
      rintro e Y3 ⟨e3, m3, d3, rfl, hm3, hs3, hb3⟩
      obtain ⟨C4, hC4⟩ : ∃ C, C = C3 ++ linesOf (r.cons.map fun x => [x]) := ⟨_, rfl⟩
      rw [← hC4] at hs3
      have HC4 := Lib.hid hC4
      have HX3 := Lib.hid (heap_below HX2.out hb3)
      have HB3 := Lib.hid (ext_trans HB2.out hb3)
      have HC3x := Lib.hid hs3
      have HELD3 : Hid (Y3.cell? ⟨w.heap.size, 3, none⟩ = some (.slice a3 n3 c3) ∧ Y3.cell? ⟨w.heap.size, 4, none⟩ = some (.slice a4 n4 c4) ∧ Y3.cell? ⟨w.heap.size, 5, none⟩ = some (.slice a5 n5 c5)) := ⟨cell_of_block HX3.out 3, cell_of_block HX3.out 4, cell_of_block HX3.out 5⟩
      clear hs3 hb3 hC4 HX2 HB2 HC2x HELD2
      refine hK.out _ _ HELD3.out (fun _ => ?_)
      clear hK K
      try simp only [Act.put, List.setIfInBounds_toArray, List.set_cons_zero, List.set_cons_succ]
      refine wpAnyH_take (i := 10) (v := ?_) (by simp only [List.getElem?_toArray, List.getElem?_cons_zero, List.getElem?_cons_succ]; rfl) (by kernel_rfl) (by kernel_rfl) (by kernel_rfl) (fun _ _ _ h => h) (Or.inl ⟨by rfl, ?_⟩) HELD3.out ?_
      rotate_left
      · intro wz hSw
        (try dsimp only at hSw)
        obtain ⟨q3, q4, q5⟩ := hSw
        go_simp
        try with_reducible rfl
      try simp only [Act.put, List.setIfInBounds_toArray, List.set_cons_zero, List.set_cons_succ]
      refine wpAnyH_done (by kernel_rfl) ?_ _
      refine NoPanic.normal ?_
      have N3 : m3 ≤ 152 + 22 * n1 + 64 * n2 + 22 * (n3 + n4 + n5) := by omega
      clear hm1 hm2 hm3 HELD3
      go_wp2_with fail
      go_loopw [4, 7] (fun b j wr => ∃ (k : Nat) (ab : Option Addr) (nb cb : Nat), k ≤ n6 ∧ j = .int .i64 k ∧ b = .slice ab nb cb ∧ nb ≤ 152 + 22 * n1 + 64 * n2 + 22 * (n3 + n4 + n5) + 64 * k ∧ Hid (Sees wr ab nb cb ((C4 ++ linesOf ((r.gates.take k).map triNums)).map bv)) ∧ Hid (Below w.heap.size w wr) ∧ Hid (wr.heap[w.heap.size]? = some (.cells #[.int .u32 m, .slice a1 n1 c1, .slice a2 n2 c2, .slice a3 n3 c3, .slice a4 n4 c4, .slice a5 n5 c5, .slice a6 n6 c6] 39 (0, 0)))) (fun _ j _ => n6 - (intOf j).toNat)
      case atStart => exact ⟨0, e3, m3, d3, Nat.zero_le _, rfl, rfl, by omega, by show Sees _ _ _ _ _; simpa [linesOf] using HC3x.out, HB3.out, HX3.out⟩
      case round =>
        clear HX3 HB3 HC3x N3
        obtain ⟨k, ab, nb, cb, hk, rfl, rfl, hnb, HC, HB, HX⟩ := hrel
        have p6 := cell_of_block HX.out 6
        by_cases hlt : k < n6
        · obtain ⟨b, off, rfl, hbw⟩ := HS.out.s6.addr (show 0 < n6 by omega)
          have HQ := Lib.hid (fun W (hb : Below wr.heap.size wr W) => ((HS.out.s6.below HB.out).below hb).cells k hlt (0, 0, 0))
          obtain ⟨t, ht⟩ : ∃ t, t = r.gates.getD k (0, 0, 0) := ⟨_, rfl⟩
          rw [← ht] at HQ
          have HT := Lib.hid ht
          clear ht
          obtain ⟨x, y, z⟩ := t
          unfold nv32 at HQ
          have W1 : IntKind.i64.wrap ((k : Int) + 1) = (k : Int) + 1 := IntWalk.i64_in _ (by have := NB.out; omega)
          have hmem : (x, y, z) ∈ r.gates := by rw [HT.out]; exact getD_mem (by rw [HL.out.2.2.2.2.2]; exact hlt)
          have H32 := Lib.hid (U32.out.2.2.2.2.2 _ hmem)
          have HX32 : Hid (∀ q ∈ [x, y, z], q < 4294967296) := Lib.hid (by intro q hq; have := H32.out; simp at hq this; omega)
          have HTL : Hid ([x, y, z] = triNums (r.gates.getD k (0, 0, 0))) := Lib.hid (by rw [← HT.out]; rfl)
          have HWR := Lib.hid (fun W (hb : Below wr.heap.size wr W) a' c' (hs : Sees W a' 3 c' ([x, y, z].map nv32)) => refwrite_any (C4 ++ linesOf ((r.gates.take k).map triNums)) [x, y, z] ab a' nb cb 3 c' W (HC.out.below hb) hs (by have := NB.out; omega) (by omega) HX32.out)
          clear hmem HT
          go_upto_region 14 with fail
          clear p6
          refine wp_region_noPanic ?_
          refine wp_region_held (S := fun w' => w'.cell? ⟨w.heap.size, 6, none⟩ = some (.slice (some ⟨b, off, none⟩) n6 c6) ∧ w'.cell? ⟨b, off + k * 3, none⟩ = some (.int .u32 (x : Nat)) ∧ w'.cell? ⟨b, off + k * 3 + 1, none⟩ = some (.int .u32 (y : Nat)) ∧ w'.cell? ⟨b, off + k * 3 + 2, none⟩ = some (.int .u32 (z : Nat))) (by kernel_rfl) ?_
          generalize hY : ({ wr with drawn := wr.drawn + 1 } : World) = Y0
          have hY0 : Below wr.heap.size wr Y0 := by subst hY; exact (Below.refl _ _).drew
          have HX0 := Lib.hid (heap_below HX.out hY0)
          have HBY := Lib.hid hY0
          have HELD0 : Hid (Y0.cell? ⟨w.heap.size, 6, none⟩ = some (.slice (some ⟨b, off, none⟩) n6 c6) ∧ Y0.cell? ⟨b, off + k * 3, none⟩ = some (.int .u32 (x : Nat)) ∧ Y0.cell? ⟨b, off + k * 3 + 1, none⟩ = some (.int .u32 (y : Nat)) ∧ Y0.cell? ⟨b, off + k * 3 + 2, none⟩ = some (.int .u32 (z : Nat))) := ⟨cell_of_block HX0.out 6, HQ.out _ hY0⟩
          clear hY hY0
          refine wpAnyH_take (i := 0) (v := ?_) (by simp only [List.getElem?_toArray, List.getElem?_cons_zero]; rfl) (by kernel_rfl) (by kernel_rfl) (by kernel_rfl) (fun _ _ _ h => h) (Or.inl ⟨by rfl, ?_⟩) HELD0.out ?_
          rotate_left
          · intro wz hSw
            (try dsimp only at hSw)
            obtain ⟨q6, qx, qy, qz⟩ := hSw
            go_simp
            try with_reducible rfl
          try simp only [Act.put, List.setIfInBounds_toArray, List.set_cons_zero, List.set_cons_succ]
          refine wpAnyH_take (i := 1) (v := ?_) (by simp only [List.getElem?_toArray, List.getElem?_cons_zero, List.getElem?_cons_succ]; rfl) (by kernel_rfl) (by kernel_rfl) (by kernel_rfl) (fun _ _ _ h => h) (Or.inl ⟨by rfl, ?_⟩) HELD0.out ?_
          rotate_left
          · intro wz hSw
            (try dsimp only at hSw)
            obtain ⟨q6, qx, qy, qz⟩ := hSw
            go_simp
            try with_reducible rfl
          try simp only [Act.put, List.setIfInBounds_toArray, List.set_cons_zero, List.set_cons_succ]
          refine wpAnyH_take (i := 2) (v := ?_) (by simp only [List.getElem?_toArray, List.getElem?_cons_zero, List.getElem?_cons_succ]; rfl) (by kernel_rfl) (by kernel_rfl) (by kernel_rfl) (fun _ _ _ h => h) (Or.inl ⟨by rfl, ?_⟩) HELD0.out ?_
          rotate_left
          · intro wz hSw
            (try dsimp only at hSw)
            obtain ⟨q6, qx, qy, qz⟩ := hSw
            go_simp
            try with_reducible rfl
          try simp only [Act.put, List.setIfInBounds_toArray, List.set_cons_zero, List.set_cons_succ]
          refine wpAnyH_take (i := 3) (v := ?_) (by simp only [List.getElem?_toArray, List.getElem?_cons_zero, List.getElem?_cons_succ]; rfl) (by kernel_rfl) (by kernel_rfl) (by kernel_rfl) (fun _ _ _ h => h) (Or.inl ⟨by rfl, ?_⟩) HELD0.out ?_
          rotate_left
          · intro wz hSw
            (try dsimp only at hSw)
            obtain ⟨q6, qx, qy, qz⟩ := hSw
            go_simp
            try with_reducible rfl
          try simp only [Act.put, List.setIfInBounds_toArray, List.set_cons_zero, List.set_cons_succ]
          refine wpAnyH_take (i := 4) (v := ?_) (by simp only [List.getElem?_toArray, List.getElem?_cons_zero, List.getElem?_cons_succ]; rfl) (by kernel_rfl) (by kernel_rfl) (by kernel_rfl) (fun _ _ _ h => h) (Or.inl ⟨by rfl, ?_⟩) HELD0.out ?_
          rotate_left
          · intro wz hSw
            (try dsimp only at hSw)
            obtain ⟨q6, qx, qy, qz⟩ := hSw
            go_simp
            try with_reducible rfl
          try simp only [Act.put, List.setIfInBounds_toArray, List.set_cons_zero, List.set_cons_succ]
          refine wpAnyH_take (i := 5) (v := ?_) (by simp only [List.getElem?_toArray, List.getElem?_cons_zero, List.getElem?_cons_succ]; rfl) (by kernel_rfl) (by kernel_rfl) (by kernel_rfl) (fun _ _ _ h => h) (Or.inl ⟨by rfl, ?_⟩) HELD0.out ?_
          rotate_left
          · intro wz hSw
            (try dsimp only at hSw)
            obtain ⟨q6, qx, qy, qz⟩ := hSw
            go_simp
            try with_reducible rfl
          try simp only [Act.put, List.setIfInBounds_toArray, List.set_cons_zero, List.set_cons_succ]
          refine wpAnyH_take (i := 6) (v := ?_) (by simp only [List.getElem?_toArray, List.getElem?_cons_zero, List.getElem?_cons_succ]; rfl) (by kernel_rfl) (by kernel_rfl) (by kernel_rfl) (fun _ _ _ h => h) (Or.inl ⟨by rfl, ?_⟩) HELD0.out ?_
          rotate_left
          · intro wz hSw
            (try dsimp only at hSw)
            obtain ⟨q6, qx, qy, qz⟩ := hSw
            go_simp
            try with_reducible rfl
          try simp only [Act.put, List.setIfInBounds_toArray, List.set_cons_zero, List.set_cons_succ]
          refine wpAnyH_take (i := 7) (v := ?_) (by simp only [List.getElem?_toArray, List.getElem?_cons_zero, List.getElem?_cons_succ]; rfl) (by kernel_rfl) (by kernel_rfl) (by kernel_rfl) (fun _ _ _ h => h) (Or.inl ⟨by rfl, ?_⟩) HELD0.out ?_
          rotate_left
          · intro wz hSw
            (try dsimp only at hSw)
            obtain ⟨q6, qx, qy, qz⟩ := hSw
            go_simp
            try with_reducible rfl
          try simp only [Act.put, List.setIfInBounds_toArray, List.set_cons_zero, List.set_cons_succ]
          refine wpAnyH_take (i := 8) (v := ?_) (by simp only [List.getElem?_toArray, List.getElem?_cons_zero, List.getElem?_cons_succ]; rfl) (by kernel_rfl) (by kernel_rfl) (by kernel_rfl) (fun _ _ _ h => h) (Or.inl ⟨by rfl, ?_⟩) HELD0.out ?_
          rotate_left
          · intro wz hSw
            (try dsimp only at hSw)
            obtain ⟨q6, qx, qy, qz⟩ := hSw
            go_simp
            try with_reducible rfl
          try simp only [Act.put, List.setIfInBounds_toArray, List.set_cons_zero, List.set_cons_succ]
          refine wpAnyH_take (i := 9) (v := ?_) (by simp only [List.getElem?_toArray, List.getElem?_cons_zero, List.getElem?_cons_succ]; rfl) (by kernel_rfl) (by kernel_rfl) (by kernel_rfl) (fun _ _ _ h => h) (Or.inl ⟨by rfl, ?_⟩) HELD0.out ?_
          rotate_left
          · intro wz hSw
            (try dsimp only at hSw)
            obtain ⟨q6, qx, qy, qz⟩ := hSw
            go_simp
            try with_reducible rfl
          try simp only [Act.put, List.setIfInBounds_toArray, List.set_cons_zero, List.set_cons_succ]
          refine wpAnyH_take (i := 10) (v := ?_) (by simp only [List.getElem?_toArray, List.getElem?_cons_zero, List.getElem?_cons_succ]; rfl) (by kernel_rfl) (by kernel_rfl) (by kernel_rfl) (fun _ _ _ h => h) (Or.inl ⟨by rfl, ?_⟩) HELD0.out ?_
          rotate_left
          · intro wz hSw
            (try dsimp only at hSw)
            obtain ⟨q6, qx, qy, qz⟩ := hSw
            go_simp
            try with_reducible rfl
          try simp only [Act.put, List.setIfInBounds_toArray, List.set_cons_zero, List.set_cons_succ]
          refine wpAnyH_take (i := 11) (v := ?_) (by simp only [List.getElem?_toArray, List.getElem?_cons_zero, List.getElem?_cons_succ]; rfl) (by kernel_rfl) (by kernel_rfl) (by kernel_rfl) (fun _ _ _ h => h) (Or.inl ⟨by rfl, ?_⟩) HELD0.out ?_
          rotate_left
          · intro wz hSw
            (try dsimp only at hSw)
            obtain ⟨q6, qx, qy, qz⟩ := hSw
            go_simp
            try with_reducible rfl
          try simp only [Act.put, List.setIfInBounds_toArray, List.set_cons_zero, List.set_cons_succ]
          refine wpAnyH_take (i := 12) (v := ?_) (by simp only [List.getElem?_toArray, List.getElem?_cons_zero, List.getElem?_cons_succ]; rfl) (by kernel_rfl) (by kernel_rfl) (by kernel_rfl) (fun _ _ _ h => h) (Or.inl ⟨by rfl, ?_⟩) HELD0.out ?_
          rotate_left
          · intro wz hSw
            (try dsimp only at hSw)
            obtain ⟨q6, qx, qy, qz⟩ := hSw
            go_simp
            try with_reducible rfl
          try simp only [Act.put, List.setIfInBounds_toArray, List.set_cons_zero, List.set_cons_succ]
          refine wpAnyH_take (i := 13) (v := ?_) (by simp only [List.getElem?_toArray, List.getElem?_cons_zero, List.getElem?_cons_succ]; rfl) (by kernel_rfl) (by kernel_rfl) (by kernel_rfl) (fun _ _ _ h => h) (Or.inl ⟨by rfl, ?_⟩) HELD0.out ?_
          rotate_left
          · intro wz hSw
            (try dsimp only at hSw)
            obtain ⟨q6, qx, qy, qz⟩ := hSw
            go_simp
            try with_reducible rfl
          try simp only [Act.put, List.setIfInBounds_toArray, List.set_cons_zero, List.set_cons_succ]
          refine wpAnyH_take (i := 14) (v := ?_) (by simp only [List.getElem?_toArray, List.getElem?_cons_zero, List.getElem?_cons_succ]; rfl) (by kernel_rfl) (by kernel_rfl) (by kernel_rfl) (fun _ _ _ h => h) (Or.inl ⟨by rfl, ?_⟩) HELD0.out ?_
          rotate_left
          · intro wz hSw
            (try dsimp only at hSw)
            obtain ⟨q6, qx, qy, qz⟩ := hSw
            go_simp
            try with_reducible rfl
          try simp only [Act.put, List.setIfInBounds_toArray, List.set_cons_zero, List.set_cons_succ]
          refine wpAnyH_take (i := 15) (v := ?_) (by simp only [List.getElem?_toArray, List.getElem?_cons_zero, List.getElem?_cons_succ]; rfl) (by kernel_rfl) (by kernel_rfl) (by kernel_rfl) (fun _ _ _ h => h) (Or.inl ⟨by rfl, ?_⟩) HELD0.out ?_
          rotate_left
          · intro wz hSw
            (try dsimp only at hSw)
            obtain ⟨q6, qx, qy, qz⟩ := hSw
            go_simp
            try with_reducible rfl
          try simp only [Act.put, List.setIfInBounds_toArray, List.set_cons_zero, List.set_cons_succ]
          refine wpAnyH_take (i := 16) (v := ?_) (by simp only [List.getElem?_toArray, List.getElem?_cons_zero, List.getElem?_cons_succ]; rfl) (by kernel_rfl) (by kernel_rfl) (by kernel_rfl) (fun _ _ _ h => h) (Or.inl ⟨by rfl, ?_⟩) HELD0.out ?_
          rotate_left
          · intro wz hSw
            (try dsimp only at hSw)
            obtain ⟨q6, qx, qy, qz⟩ := hSw
            go_simp
            try with_reducible rfl
          try simp only [Act.put, List.setIfInBounds_toArray, List.set_cons_zero, List.set_cons_succ]
          refine wpAnyH_take (i := 17) (v := ?_) (by simp only [List.getElem?_toArray, List.getElem?_cons_zero, List.getElem?_cons_succ]; rfl) (by kernel_rfl) (by kernel_rfl) (by kernel_rfl) (fun _ _ _ h => h) (Or.inl ⟨by rfl, ?_⟩) HELD0.out ?_
          rotate_left
          · intro wz hSw
            (try dsimp only at hSw)
            obtain ⟨q6, qx, qy, qz⟩ := hSw
            go_simp
            try with_reducible rfl
          try simp only [Act.put, List.setIfInBounds_toArray, List.set_cons_zero, List.set_cons_succ]
          refine wpAnyH_take (i := 18) (v := ?_) (by simp only [List.getElem?_toArray, List.getElem?_cons_zero, List.getElem?_cons_succ]; rfl) (by kernel_rfl) (by kernel_rfl) (by kernel_rfl) (fun _ _ _ h => h) (Or.inl ⟨by rfl, ?_⟩) HELD0.out ?_
          rotate_left
          · intro wz hSw
            (try dsimp only at hSw)
            obtain ⟨q6, qx, qy, qz⟩ := hSw
            go_simp
            try with_reducible rfl
          try simp only [Act.put, List.setIfInBounds_toArray, List.set_cons_zero, List.set_cons_succ]
          refine wpAnyH_ready (rs := [19]) (by kernel_rfl) (by simp) ?_
          refine AllReadyH.cons (by simp only [List.getElem?_toArray, List.getElem?_cons_zero, List.getElem?_cons_succ]; rfl) (fun K hK => ?_) AllReadyH.nil
          go_simp
          have hs3 := sees_lit Y0 35 (0, 0) #[.int .u32 x, .int .u32 y, .int .u32 z] ([x, y, z].map nv32) 3 rfl rfl
          have HWC := Lib.hid (HWR.out _ (ext_trans HBY.out (ext_alloc Y0 (.cells #[.int .u32 x, .int .u32 y, .int .u32 z] 35))) _ _ hs3)
          have hYV := ext_alloc Y0 (.cells #[.int .u32 x, .int .u32 y, .int .u32 z] 35)
          have HBV := Lib.hid (ext_trans HBY.out hYV)
          have HX1 := Lib.hid (heap_below HX0.out hYV)
          have HELD1 := Lib.hid (⟨cell_of_block HX1.out 6, HQ.out _ HBV.out⟩ : (Y0.alloc (.cells #[.int .u32 x, .int .u32 y, .int .u32 z] 35)).cell? ⟨w.heap.size, 6, none⟩ = some (.slice (some ⟨b, off, none⟩) n6 c6) ∧ (Y0.alloc (.cells #[.int .u32 x, .int .u32 y, .int .u32 z] 35)).cell? ⟨b, off + k * 3, none⟩ = some (.int .u32 (x : Nat)) ∧ (Y0.alloc (.cells #[.int .u32 x, .int .u32 y, .int .u32 z] 35)).cell? ⟨b, off + k * 3 + 1, none⟩ = some (.int .u32 (y : Nat)) ∧ (Y0.alloc (.cells #[.int .u32 x, .int .u32 y, .int .u32 z] 35)).cell? ⟨b, off + k * 3 + 2, none⟩ = some (.int .u32 (z : Nat)))
          clear hs3 hYV HWR HELD0 HX0 HBY
          refine hK.out _ _ HELD1.out (fun _ => ?_)
          clear hK K
          try simp only [Act.put, List.setIfInBounds_toArray, List.set_cons_zero, List.set_cons_succ]
          refine wpAnyH_ready (rs := [20]) (by kernel_rfl) (by simp) ?_
          refine AllReadyH.cons (by simp only [List.getElem?_toArray, List.getElem?_cons_zero, List.getElem?_cons_succ]; rfl) (fun K hK => ?_) AllReadyH.nil
          go_simp
          refine HWC.out.mono ?_
          rintro e Y2 ⟨a9, n9, c9, rfl, hs9, hb9, _⟩
          have HB9 := Lib.hid (ext_trans HB.out (ext_trans HBV.out hb9))
          have HX9 := Lib.hid (heap_below HX1.out hb9)
          have HELD2 : Hid (Y2.cell? ⟨w.heap.size, 6, none⟩ = some (.slice (some ⟨b, off, none⟩) n6 c6) ∧ Y2.cell? ⟨b, off + k * 3, none⟩ = some (.int .u32 (x : Nat)) ∧ Y2.cell? ⟨b, off + k * 3 + 1, none⟩ = some (.int .u32 (y : Nat)) ∧ Y2.cell? ⟨b, off + k * 3 + 2, none⟩ = some (.int .u32 (z : Nat))) := ⟨cell_of_block HX9.out 6, HQ.out _ (ext_trans HBV.out hb9)⟩
          have HS9 := Lib.hid hs9
          clear hs9 hb9 HWC HELD1 HX1 HBV
          refine hK.out _ _ HELD2.out (fun _ => ?_)
          clear hK K
          try simp only [Act.put, List.setIfInBounds_toArray, List.set_cons_zero, List.set_cons_succ]
          refine wpAnyH_take (i := 21) (v := ?_) (by simp only [List.getElem?_toArray, List.getElem?_cons_zero, List.getElem?_cons_succ]; rfl) (by kernel_rfl) (by kernel_rfl) (by kernel_rfl) (fun _ _ _ h => h) (Or.inl ⟨by rfl, ?_⟩) HELD2.out ?_
          rotate_left
          · intro wz hSw
            (try dsimp only at hSw)
            obtain ⟨q6, qx, qy, qz⟩ := hSw
            go_simp
            try with_reducible rfl
          try simp only [Act.put, List.setIfInBounds_toArray, List.set_cons_zero, List.set_cons_succ]
          refine wpAnyH_done (by kernel_rfl) ?_ _
          refine NoPanic.normal ?_
          clear HELD2 HQ
          go_wp2
          go_roundw
          case rel =>
            have h1 := HS9.out.lenMap
            have h2 := HC.out.lenMap
            have h3 := bodyOf_len [x, y, z] HX32.out
            simp only [List.length_append, List.length_cons, List.length_nil] at h1 h2 h3
            refine ⟨k + 1, a9, n9, c9, by omega, by go_num, rfl, by omega, ?_, HB9, HX9⟩
            show Sees _ _ _ _ _
            rw [lines_more triNums r.gates k (0, 0, 0) (by rw [HL.out.2.2.2.2.2]; exact hlt), ← HTL.out, ← List.append_assoc]
            exact HS9.out
          case measure => simp [intOf]; omega
        · obtain rfl : n6 = k := by omega
          have hfull : r.gates.take n6 = r.gates := List.take_of_length_le (by rw [HL.out.2.2.2.2.2]; exact Nat.le_refl _)
          rw [hfull] at HC
          have HFIN : Hid (C4 ++ linesOf (r.gates.map triNums) = textOf r) := Lib.hid (by
            rw [HC4.out, HC3.out, HC2.out, HC1.out, HC0.out]
            have e := body_split r []
            rw [List.append_nil] at e
            unfold textOf
            rw [e]
            simp only [List.append_assoc, List.append_nil])
          rw [HFIN.out] at HC
          clear hfull
          go_wp2
          go_ret2
          exact ⟨_, _, _, rfl, HC.out, HB.out⟩
end Go.Proofs.YtglhnmbfkbjemaaGreatDoor
