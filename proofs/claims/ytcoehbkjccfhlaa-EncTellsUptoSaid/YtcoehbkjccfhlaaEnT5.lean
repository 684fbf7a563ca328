/- enc.Trace's drawn region 5: the trace's box and its two rows, made in whatever order. -/
import Derived.Test.YtcoehbkjccfhlaaGEncT00
import Derived.Test.YtcoehbkjccfhlaaGEncT01
import Derived.Test.YtcoehbkjccfhlaaGEncT03
import Derived.Test.YtcoehbkjccfhlaaGEncT02
import Derived.Test.YtcoehbkjccfhlaaGEncT13
import Derived.Test.YtcoehbkjccfhlaaRows
import Derived.Test.YtcoehbkjccfhlaaGEncT12
import Derived.BigQuiet
import Derived.Deep.AppendLies
import Derived.Deep.CutRange
import Derived.Deep.QuietTactic
import Derived.Deep.RegionHeld3
import Derived.Deep.RegionLaw
import Derived.Deep.RegionWith
import Derived.KernelRfl
import Derived.Laws.EntriesVeiled
import Derived.Laws.Tables
import Derived.Lib.AppendStr
import Derived.Lib.AppendZeros
import Derived.Lib.ConvBytes
import Derived.Lib.Hide
import Derived.Lib.SlBytesRow
import Derived.Lib.SmallJoins
import Derived.Maps.AppendAt
import Derived.OrdersHeld
import Derived.Shelf.Bytes.SlSmallAll
import Derived.WalkKit
import Derived.WalkLawsBesides
import Derived.WalkSpells
namespace Go.Proofs.Ytcoehbkjccfhlaa
open Go Go.RowKit Go.Joins

theorem info_u8b : (Try.prog.info? 5).map (fun i => (i.zero, i.size, i.bytes)) = some (some (.int .u8 0), 1, 1) := by kernel_rfl
theorem info_u8ss : (Try.prog.info? 27).map (fun i => (i.zero, i.size, i.bytes)) = some (some (.slice none 0 0), 1, 24) := by kernel_rfl
theorem tri_set14 {X : World} {g : Nat} {C : Array Value} {t : TypeId} (h : X.heap[g]? = some (.cells C t (0, 0))) (hC : C.size = 3) (u0 u1 u2 : Value) :
    (((X.setCell ⟨g, 0, .none⟩ u0).setCell ⟨g, 1, .none⟩ u1).setCell ⟨g, 2, .none⟩ u2).heap[g]? = some (.cells #[u0, u1, u2] t (0, 0)) := by
  obtain ⟨l⟩ := C
  match l, hC with
  | [_, _, _], _ =>
    have h0 := block_setCell h (i := 0) u0
    have h1 := block_setCell h0 (i := 1) u1
    have h2 := block_setCell h1 (i := 2) u2
    simpa using h2
theorem set314 {B : Nat} {w X : World} (g : Nat) (hg : B ≤ g) (h : Below B w X) {u0 u1 u2 : Value} :
    Below B w (((X.setCell ⟨g, 0, .none⟩ u0).setCell ⟨g, 1, .none⟩ u1).setCell ⟨g, 2, .none⟩ u2) := ((h.setCell hg _).setCell hg _).setCell hg _
theorem set314_other {X : World} (g D : Nat) (hD : D ≠ g) (u0 u1 u2 : Value) :
    (((X.setCell ⟨g, 0, .none⟩ u0).setCell ⟨g, 1, .none⟩ u1).setCell ⟨g, 2, .none⟩ u2).heap[D]? = X.heap[D]? := by
  rw [Below.heap_setCell _ ⟨g, 2, .none⟩ _ D hD, Below.heap_setCell _ ⟨g, 1, .none⟩ _ D hD, Below.heap_setCell _ ⟨g, 0, .none⟩ _ D hD]
noncomputable def codeTr5 : Code := ((Try.f22.body.bind (findRegion 5)).getD .skip)
set_option maxRecDepth 100000 in
set_option maxHeartbeats 12800000 in
theorem reg_Tr5 (X0 : World) (X n1 c1 nf : Nat) (bad : Int) (a1 : Option Addr) (hX : X0.cell? ⟨X, 1, none⟩ = some (.slice a1 n1 c1)) (hn : n1 ≤ 1048576) (hf : nf ≤ 1048576)
    (QQ : Exit → Act → World → Prop)
    {v0 v3 v5 v6 v7 v8 v9 v10 v11 v12 v13 v14 v15 v16 v17 v18 v19 v20 v21 v22 v23 v24 v25 v26 v27 v28 v29 v30 v31 v32 v33 v34 v35 v36 v37 v38 v39 v40 v41 v42 v43 v44 v45 v46 v47 v48 v49 v50 v51 v52 v53 v54 v55 v56 v57 v58 v59 v60 v61 v62 v63 v64 v65 v66 v67 v68 v69 v70 v71 v72 v73 v74 v75 v76 v77 v78 v79 v80 v81 v82 v83 v84 v85 v86 v87 v88 v89 v90 v91 v92 v93 v94 v95 v96 v97 v98 v99 v100 v101 v102 v103 v104 v105 v106 v107 v108 : Value}
    (hK : ∀ (I F Tb : Nat) (W : World) (u42 u43 u44 u45 u46 u47 u48 u49 : Value), W.heap[I]? = some (.cells (zeros (.int .u8 0) n1) 5 (0, 0)) → W.heap[F]? = some (.cells (zeros (.slice none 0 0) nf) 27 (0, 0)) → W.heap[Tb]? = some (.cells #[.int .i64 bad, .slice (some ⟨I, 0, none⟩) n1 n1, .slice (some ⟨F, 0, none⟩) nf nf] 30 (0, 0)) → X0.heap.size ≤ I → X0.heap.size ≤ F → X0.heap.size ≤ Tb → Below X0.heap.size X0 W →
      QQ .normal ⟨#[v0, .int .i64 bad, .int .i64 (nf : Int), v3, .pointer (some ⟨X, 0, .none⟩), v5, v6, v7, v8, v9, v10, v11, v12, .pointer (some ⟨Tb, 0, .none⟩), v14, v15, v16, v17, v18, v19, v20, v21, v22, v23, v24, v25, v26, v27, v28, v29, v30, v31, v32, v33, v34, v35, v36, v37, v38, v39, v40, v41, u42, u43, u44, u45, u46, u47, u48, u49, v50, v51, v52, v53, v54, v55, v56, v57, v58, v59, v60, v61, v62, v63, v64, v65, v66, v67, v68, v69, v70, v71, v72, v73, v74, v75, v76, v77, v78, v79, v80, v81, v82, v83, v84, v85, v86, v87, v88, v89, v90, v91, v92, v93, v94, v95, v96, v97, v98, v99, v100, v101, v102, v103, v104, v105, v106, v107, v108], []⟩ W) :
    Code.wp Try.prog codeTr5 QQ ⟨#[v0, .int .i64 bad, .int .i64 (nf : Int), v3, .pointer (some ⟨X, 0, .none⟩), v5, v6, v7, v8, v9, v10, v11, v12, v13, v14, v15, v16, v17, v18, v19, v20, v21, v22, v23, v24, v25, v26, v27, v28, v29, v30, v31, v32, v33, v34, v35, v36, v37, v38, v39, v40, v41, v42, v43, v44, v45, v46, v47, v48, v49, v50, v51, v52, v53, v54, v55, v56, v57, v58, v59, v60, v61, v62, v63, v64, v65, v66, v67, v68, v69, v70, v71, v72, v73, v74, v75, v76, v77, v78, v79, v80, v81, v82, v83, v84, v85, v86, v87, v88, v89, v90, v91, v92, v93, v94, v95, v96, v97, v98, v99, v100, v101, v102, v103, v104, v105, v106, v107, v108], []⟩ X0 := by
  have HKK := Lib.hid hK
  obtain ⟨i0, hi0, hz0, hz1, hz2⟩ := info_parts info_u8b
  obtain ⟨j0, hj0, hy0, hy1, hy2⟩ := info_parts info_u8ss
  have mk1 := fun W => run_make_n (P := Try.prog) (t := 27) (e := 5) Try.underlying27 hi0 hz0 hz1 hz2 rfl n1 (by omega) (by omega) W
  have mk2 := fun W => run_make_n (P := Try.prog) (t := 28) (e := 27) Try.underlying28 hj0 hy0 hy1 hy2 rfl nf (by omega) (by omega) W
  have p0 := hX
  clear hK hX hn hf hi0 hz0 hz1 hz2 hj0 hy0 hy1 hy2
  conv => arg 2; whnf
  refine wp_region_noPanic ?_
  refine wp_region_held (S := fun w' => w'.cell? ⟨X, 1, none⟩ = some (.slice a1 n1 c1)) (by kernel_rfl) ?_
  generalize hYY : ({ X0 with drawn := X0.drawn + 1 } : World) = Y0
  have HY0 : Hid (Below X0.heap.size X0 Y0) := by subst hYY; exact (Below.refl _ _).drew
  have HS0 : Hid (Y0.cell? ⟨X, 1, none⟩ = some (.slice a1 n1 c1)) := cell_below p0 HY0.out
  clear hYY
  have p0X := Lib.hid p0
  clear p0
  refine wpAnyH_take (i := 0) (v := ?_) (by simp only [List.getElem?_toArray, List.getElem?_cons_zero]; rfl) (by kernel_rfl) (by kernel_rfl) (by kernel_rfl) (fun _ _ _ h => h) (Or.inl ⟨by rfl, ?_⟩) HS0.out ?_
  rotate_left
  · intro w hSw
    (try dsimp only at hSw)
    have q0_ := hSw
    go_simp
    try with_reducible rfl
  try simp only [Act.put, List.setIfInBounds_toArray, List.set_cons_zero, List.set_cons_succ]
  refine wpAnyH_take (i := 1) (v := ?_) (by simp only [List.getElem?_toArray, List.getElem?_cons_zero, List.getElem?_cons_succ]; rfl) (by kernel_rfl) (by kernel_rfl) (by kernel_rfl) (fun _ _ _ h => h) (Or.inl ⟨by rfl, ?_⟩) HS0.out ?_
  rotate_left
  · intro w hSw
    (try dsimp only at hSw)
    have q0_ := hSw
    go_simp
    try with_reducible rfl
  try simp only [Act.put, List.setIfInBounds_toArray, List.set_cons_zero, List.set_cons_succ]
  refine wpAnyH_take (i := 2) (v := ?_) (by simp only [List.getElem?_toArray, List.getElem?_cons_zero, List.getElem?_cons_succ]; rfl) (by kernel_rfl) (by kernel_rfl) (by kernel_rfl) (fun _ _ _ h => h) (Or.inl ⟨by rfl, ?_⟩) HS0.out ?_
  rotate_left
  · intro w hSw
    (try dsimp only at hSw)
    have q0_ := hSw
    go_simp
    try with_reducible rfl
  try simp only [Act.put, List.setIfInBounds_toArray, List.set_cons_zero, List.set_cons_succ]
  refine wpAnyH_take (i := 3) (v := ?_) (by simp only [List.getElem?_toArray, List.getElem?_cons_zero, List.getElem?_cons_succ]; rfl) (by kernel_rfl) (by kernel_rfl) (by kernel_rfl) (fun _ _ _ h => h) (Or.inl ⟨by rfl, ?_⟩) HS0.out ?_
  rotate_left
  · intro w hSw
    (try dsimp only at hSw)
    have q0_ := hSw
    go_simp
    try with_reducible rfl
  try simp only [Act.put, List.setIfInBounds_toArray, List.set_cons_zero, List.set_cons_succ]
  refine wpAnyH_take (i := 5) (v := ?_) (by simp only [List.getElem?_toArray, List.getElem?_cons_zero, List.getElem?_cons_succ]; rfl) (by kernel_rfl) (by kernel_rfl) (by kernel_rfl) (fun _ _ _ h => h) (Or.inl ⟨by rfl, ?_⟩) HS0.out ?_
  rotate_left
  · intro w hSw
    (try dsimp only at hSw)
    have q0_ := hSw
    go_simp
    try with_reducible rfl
  try simp only [Act.put, List.setIfInBounds_toArray, List.set_cons_zero, List.set_cons_succ]
  refine wpAnyH_ready (rs := [4, 6, 8]) (by kernel_rfl) (by simp) ?_
  refine (AllReadyH.cons (by simp only [List.getElem?_toArray, List.getElem?_cons_zero, List.getElem?_cons_succ]; rfl) (fun K hK => ?_) (AllReadyH.cons (by simp only [List.getElem?_toArray, List.getElem?_cons_zero, List.getElem?_cons_succ]; rfl) (fun K hK => ?_) (AllReadyH.cons (by simp only [List.getElem?_toArray, List.getElem?_cons_zero, List.getElem?_cons_succ]; rfl) (fun K hK => ?_) AllReadyH.nil)))
  · go_simp
    generalize hYV : World.alloc Y0 _ = M1
    have HY_M1 : Hid (Below X0.heap.size X0 M1) := by subst hYV; exact ext_trans HY0.out (ext_alloc _ _)
    have HB_M1 : Hid (Below Y0.heap.size Y0 M1) := by subst hYV; exact ext_alloc _ _
    have HN_M1 : Hid (M1.heap[Y0.heap.size]? = some (.cells (zeros (.int .u8 0) n1) 5 (0, 0))) := by subst hYV; exact heap_new _ _ _ rfl
    clear hYV
    have HS_M1 : Hid (M1.cell? ⟨X, 1, none⟩ = some (.slice a1 n1 c1)) := cell_below HS0.out HB_M1.out
    refine hK.out _ _ HS_M1.out (fun _ => ?_)
    clear hK K
    try simp only [Act.put, List.setIfInBounds_toArray, List.set_cons_zero, List.set_cons_succ]
    refine wpAnyH_ready (rs := [6, 8]) (by kernel_rfl) (by simp) ?_
    refine (AllReadyH.cons (by simp only [List.getElem?_toArray, List.getElem?_cons_zero, List.getElem?_cons_succ]; rfl) (fun K hK => ?_) (AllReadyH.cons (by simp only [List.getElem?_toArray, List.getElem?_cons_zero, List.getElem?_cons_succ]; rfl) (fun K hK => ?_) AllReadyH.nil))
    · go_simp
      generalize hYV : World.alloc M1 _ = M2
      have HY_M2 : Hid (Below X0.heap.size X0 M2) := by subst hYV; exact ext_trans HY_M1.out (ext_alloc _ _)
      have HB_M2 : Hid (Below M1.heap.size M1 M2) := by subst hYV; exact ext_alloc _ _
      have HN_M2 : Hid (M2.heap[M1.heap.size]? = some (.cells (zeros (.slice none 0 0) nf) 27 (0, 0))) := by subst hYV; exact heap_new _ _ _ rfl
      clear hYV
      have HS_M2 : Hid (M2.cell? ⟨X, 1, none⟩ = some (.slice a1 n1 c1)) := cell_below HS_M1.out HB_M2.out
      have HC4_M2 := Lib.hid (heap_below HN_M1.out HB_M2.out)
      refine hK.out _ _ HS_M2.out (fun _ => ?_)
      clear hK K
      try simp only [Act.put, List.setIfInBounds_toArray, List.set_cons_zero, List.set_cons_succ]
      refine wpAnyH_take (i := 7) (v := ?_) (by simp only [List.getElem?_toArray, List.getElem?_cons_zero, List.getElem?_cons_succ]; rfl) (by kernel_rfl) (by kernel_rfl) (by kernel_rfl) (fun _ _ _ h => h) (Or.inl ⟨by rfl, ?_⟩) HS_M2.out ?_
      rotate_left
      · intro w hSw
        (try dsimp only at hSw)
        have q0_ := hSw
        go_simp
        try with_reducible rfl
      try simp only [Act.put, List.setIfInBounds_toArray, List.set_cons_zero, List.set_cons_succ]
      refine wpAnyH_ready (rs := [8]) (by kernel_rfl) (by simp) ?_
      refine (AllReadyH.cons (by simp only [List.getElem?_toArray, List.getElem?_cons_zero, List.getElem?_cons_succ]; rfl) (fun K hK => ?_) AllReadyH.nil)
      · go_simp
        generalize hYV : World.alloc M2 _ = M3
        have HY_M3 : Hid (Below X0.heap.size X0 M3) := by subst hYV; exact ext_trans HY_M2.out (ext_alloc _ _)
        have HB_M3 : Hid (Below M2.heap.size M2 M3) := by subst hYV; exact ext_alloc _ _
        have HN_M3 : Hid (M3.heap[M2.heap.size]? = some (.cells #[.int .i64 0, .slice none 0 0, .slice none 0 0] 30 (0, 0))) := by subst hYV; exact heap_new _ _ _ rfl
        clear hYV
        have HS_M3 : Hid (M3.cell? ⟨X, 1, none⟩ = some (.slice a1 n1 c1)) := cell_below HS_M2.out HB_M3.out
        have HC4_M3 := Lib.hid (heap_below HC4_M2.out HB_M3.out)
        have HC6_M3 := Lib.hid (heap_below HN_M2.out HB_M3.out)
        refine hK.out _ _ HS_M3.out (fun _ => ?_)
        clear hK K
        try simp only [Act.put, List.setIfInBounds_toArray, List.set_cons_zero, List.set_cons_succ]
        have d0 : M3.cell? ⟨M2.heap.size, 0, none⟩ = some (.int .i64 0) := cell_of_block HN_M3.out 0
        have d1 : M3.cell? ⟨M2.heap.size, 1, none⟩ = some (.slice none 0 0) := cell_of_block HN_M3.out 1
        have d2 : M3.cell? ⟨M2.heap.size, 2, none⟩ = some (.slice none 0 0) := cell_of_block HN_M3.out 2
        have y0 := unfrozen_of_block HN_M3.out 0
        have y1 := unfrozen_of_block HN_M3.out 1
        have y2 := unfrozen_of_block HN_M3.out 2
        refine wpAnyH_ready (rs := [9]) (by kernel_rfl) (by simp) ?_
        refine AllReadyH.cons (by simp only [List.getElem?_toArray, List.getElem?_cons_zero, List.getElem?_cons_succ]; rfl) (fun K hK => ?_) AllReadyH.nil
        go_simp
        generalize hSS : World.setCell _ _ _ = Z
        have hT : Z.heap[M2.heap.size]? = some (.cells #[.int .i64 bad, .slice (some ⟨Y0.heap.size, 0, none⟩) n1 n1, .slice (some ⟨M1.heap.size, 0, none⟩) nf nf] 30 (0, 0)) := by subst hSS; exact tri_set14 HN_M3.out rfl _ _ _
        have hO : ∀ D, D ≠ M2.heap.size → Z.heap[D]? = M3.heap[D]? := by subst hSS; exact fun D hD => set314_other M2.heap.size D hD _ _ _
        have hg0 : X0.heap.size ≤ M2.heap.size := HY_M2.out.size
        have hBz : Below X0.heap.size X0 Z := by subst hSS; exact set314 (M2.heap.size) hg0 HY_M3.out
        clear hSS d0 d1 d2 y0 y1 y2
        have hI := (hO Y0.heap.size (by intro e; have h1 := HC4_M3.out; rw [e, HN_M3.out] at h1; injection h1 with h2; injection h2 with _ h3; exact absurd h3 (by decide))).trans HC4_M3.out
        have hF := (hO M1.heap.size (by intro e; have h1 := HC6_M3.out; rw [e, HN_M3.out] at h1; injection h1 with h2; injection h2 with _ h3; exact absurd h3 (by decide))).trans HC6_M3.out
        have HSZ : Hid (Z.cell? ⟨X, 1, none⟩ = some (.slice a1 n1 c1)) := cell_below p0X.out hBz
        refine hK.out _ _ HSZ.out (fun _ => ?_)
        clear hK K
        try simp only [Act.put, List.setIfInBounds_toArray, List.set_cons_zero, List.set_cons_succ]
        refine wpAnyH_done (by kernel_rfl) ?_ _
        refine NoPanic.normal ?_
        exact HKK.out _ _ _ _ _ _ _ _ _ _ _ _ hI hF hT HY0.out.size HY_M1.out.size hg0 hBz
    · go_simp
      generalize hYV : World.alloc M1 _ = M4
      have HY_M4 : Hid (Below X0.heap.size X0 M4) := by subst hYV; exact ext_trans HY_M1.out (ext_alloc _ _)
      have HB_M4 : Hid (Below M1.heap.size M1 M4) := by subst hYV; exact ext_alloc _ _
      have HN_M4 : Hid (M4.heap[M1.heap.size]? = some (.cells #[.int .i64 0, .slice none 0 0, .slice none 0 0] 30 (0, 0))) := by subst hYV; exact heap_new _ _ _ rfl
      clear hYV
      have HS_M4 : Hid (M4.cell? ⟨X, 1, none⟩ = some (.slice a1 n1 c1)) := cell_below HS_M1.out HB_M4.out
      have HC4_M4 := Lib.hid (heap_below HN_M1.out HB_M4.out)
      refine hK.out _ _ HS_M4.out (fun _ => ?_)
      clear hK K
      try simp only [Act.put, List.setIfInBounds_toArray, List.set_cons_zero, List.set_cons_succ]
      refine wpAnyH_ready (rs := [6]) (by kernel_rfl) (by simp) ?_
      refine (AllReadyH.cons (by simp only [List.getElem?_toArray, List.getElem?_cons_zero, List.getElem?_cons_succ]; rfl) (fun K hK => ?_) AllReadyH.nil)
      · go_simp
        generalize hYV : World.alloc M4 _ = M5
        have HY_M5 : Hid (Below X0.heap.size X0 M5) := by subst hYV; exact ext_trans HY_M4.out (ext_alloc _ _)
        have HB_M5 : Hid (Below M4.heap.size M4 M5) := by subst hYV; exact ext_alloc _ _
        have HN_M5 : Hid (M5.heap[M4.heap.size]? = some (.cells (zeros (.slice none 0 0) nf) 27 (0, 0))) := by subst hYV; exact heap_new _ _ _ rfl
        clear hYV
        have HS_M5 : Hid (M5.cell? ⟨X, 1, none⟩ = some (.slice a1 n1 c1)) := cell_below HS_M4.out HB_M5.out
        have HC4_M5 := Lib.hid (heap_below HC4_M4.out HB_M5.out)
        have HC8_M5 := Lib.hid (heap_below HN_M4.out HB_M5.out)
        refine hK.out _ _ HS_M5.out (fun _ => ?_)
        clear hK K
        try simp only [Act.put, List.setIfInBounds_toArray, List.set_cons_zero, List.set_cons_succ]
        refine wpAnyH_take (i := 7) (v := ?_) (by simp only [List.getElem?_toArray, List.getElem?_cons_zero, List.getElem?_cons_succ]; rfl) (by kernel_rfl) (by kernel_rfl) (by kernel_rfl) (fun _ _ _ h => h) (Or.inl ⟨by rfl, ?_⟩) HS_M5.out ?_
        rotate_left
        · intro w hSw
          (try dsimp only at hSw)
          have q0_ := hSw
          go_simp
          try with_reducible rfl
        try simp only [Act.put, List.setIfInBounds_toArray, List.set_cons_zero, List.set_cons_succ]
        have d0 : M5.cell? ⟨M1.heap.size, 0, none⟩ = some (.int .i64 0) := cell_of_block HC8_M5.out 0
        have d1 : M5.cell? ⟨M1.heap.size, 1, none⟩ = some (.slice none 0 0) := cell_of_block HC8_M5.out 1
        have d2 : M5.cell? ⟨M1.heap.size, 2, none⟩ = some (.slice none 0 0) := cell_of_block HC8_M5.out 2
        have y0 := unfrozen_of_block HC8_M5.out 0
        have y1 := unfrozen_of_block HC8_M5.out 1
        have y2 := unfrozen_of_block HC8_M5.out 2
        refine wpAnyH_ready (rs := [9]) (by kernel_rfl) (by simp) ?_
        refine AllReadyH.cons (by simp only [List.getElem?_toArray, List.getElem?_cons_zero, List.getElem?_cons_succ]; rfl) (fun K hK => ?_) AllReadyH.nil
        go_simp
        generalize hSS : World.setCell _ _ _ = Z
        have hT : Z.heap[M1.heap.size]? = some (.cells #[.int .i64 bad, .slice (some ⟨Y0.heap.size, 0, none⟩) n1 n1, .slice (some ⟨M4.heap.size, 0, none⟩) nf nf] 30 (0, 0)) := by subst hSS; exact tri_set14 HC8_M5.out rfl _ _ _
        have hO : ∀ D, D ≠ M1.heap.size → Z.heap[D]? = M5.heap[D]? := by subst hSS; exact fun D hD => set314_other M1.heap.size D hD _ _ _
        have hg0 : X0.heap.size ≤ M1.heap.size := HY_M1.out.size
        have hBz : Below X0.heap.size X0 Z := by subst hSS; exact set314 (M1.heap.size) hg0 HY_M5.out
        clear hSS d0 d1 d2 y0 y1 y2
        have hI := (hO Y0.heap.size (by intro e; have h1 := HC4_M5.out; rw [e, HC8_M5.out] at h1; injection h1 with h2; injection h2 with _ h3; exact absurd h3 (by decide))).trans HC4_M5.out
        have hF := (hO M4.heap.size (by intro e; have h1 := HN_M5.out; rw [e, HC8_M5.out] at h1; injection h1 with h2; injection h2 with _ h3; exact absurd h3 (by decide))).trans HN_M5.out
        have HSZ : Hid (Z.cell? ⟨X, 1, none⟩ = some (.slice a1 n1 c1)) := cell_below p0X.out hBz
        refine hK.out _ _ HSZ.out (fun _ => ?_)
        clear hK K
        try simp only [Act.put, List.setIfInBounds_toArray, List.set_cons_zero, List.set_cons_succ]
        refine wpAnyH_done (by kernel_rfl) ?_ _
        refine NoPanic.normal ?_
        exact HKK.out _ _ _ _ _ _ _ _ _ _ _ _ hI hF hT HY0.out.size HY_M4.out.size hg0 hBz
  · go_simp
    generalize hYV : World.alloc Y0 _ = M6
    have HY_M6 : Hid (Below X0.heap.size X0 M6) := by subst hYV; exact ext_trans HY0.out (ext_alloc _ _)
    have HB_M6 : Hid (Below Y0.heap.size Y0 M6) := by subst hYV; exact ext_alloc _ _
    have HN_M6 : Hid (M6.heap[Y0.heap.size]? = some (.cells (zeros (.slice none 0 0) nf) 27 (0, 0))) := by subst hYV; exact heap_new _ _ _ rfl
    clear hYV
    have HS_M6 : Hid (M6.cell? ⟨X, 1, none⟩ = some (.slice a1 n1 c1)) := cell_below HS0.out HB_M6.out
    refine hK.out _ _ HS_M6.out (fun _ => ?_)
    clear hK K
    try simp only [Act.put, List.setIfInBounds_toArray, List.set_cons_zero, List.set_cons_succ]
    refine wpAnyH_ready (rs := [4, 8]) (by kernel_rfl) (by simp) ?_
    refine (AllReadyH.cons (by simp only [List.getElem?_toArray, List.getElem?_cons_zero, List.getElem?_cons_succ]; rfl) (fun K hK => ?_) (AllReadyH.cons (by simp only [List.getElem?_toArray, List.getElem?_cons_zero, List.getElem?_cons_succ]; rfl) (fun K hK => ?_) AllReadyH.nil))
    · go_simp
      generalize hYV : World.alloc M6 _ = M7
      have HY_M7 : Hid (Below X0.heap.size X0 M7) := by subst hYV; exact ext_trans HY_M6.out (ext_alloc _ _)
      have HB_M7 : Hid (Below M6.heap.size M6 M7) := by subst hYV; exact ext_alloc _ _
      have HN_M7 : Hid (M7.heap[M6.heap.size]? = some (.cells (zeros (.int .u8 0) n1) 5 (0, 0))) := by subst hYV; exact heap_new _ _ _ rfl
      clear hYV
      have HS_M7 : Hid (M7.cell? ⟨X, 1, none⟩ = some (.slice a1 n1 c1)) := cell_below HS_M6.out HB_M7.out
      have HC6_M7 := Lib.hid (heap_below HN_M6.out HB_M7.out)
      refine hK.out _ _ HS_M7.out (fun _ => ?_)
      clear hK K
      try simp only [Act.put, List.setIfInBounds_toArray, List.set_cons_zero, List.set_cons_succ]
      refine wpAnyH_take (i := 7) (v := ?_) (by simp only [List.getElem?_toArray, List.getElem?_cons_zero, List.getElem?_cons_succ]; rfl) (by kernel_rfl) (by kernel_rfl) (by kernel_rfl) (fun _ _ _ h => h) (Or.inl ⟨by rfl, ?_⟩) HS_M7.out ?_
      rotate_left
      · intro w hSw
        (try dsimp only at hSw)
        have q0_ := hSw
        go_simp
        try with_reducible rfl
      try simp only [Act.put, List.setIfInBounds_toArray, List.set_cons_zero, List.set_cons_succ]
      refine wpAnyH_ready (rs := [8]) (by kernel_rfl) (by simp) ?_
      refine (AllReadyH.cons (by simp only [List.getElem?_toArray, List.getElem?_cons_zero, List.getElem?_cons_succ]; rfl) (fun K hK => ?_) AllReadyH.nil)
      · go_simp
        generalize hYV : World.alloc M7 _ = M8
        have HY_M8 : Hid (Below X0.heap.size X0 M8) := by subst hYV; exact ext_trans HY_M7.out (ext_alloc _ _)
        have HB_M8 : Hid (Below M7.heap.size M7 M8) := by subst hYV; exact ext_alloc _ _
        have HN_M8 : Hid (M8.heap[M7.heap.size]? = some (.cells #[.int .i64 0, .slice none 0 0, .slice none 0 0] 30 (0, 0))) := by subst hYV; exact heap_new _ _ _ rfl
        clear hYV
        have HS_M8 : Hid (M8.cell? ⟨X, 1, none⟩ = some (.slice a1 n1 c1)) := cell_below HS_M7.out HB_M8.out
        have HC6_M8 := Lib.hid (heap_below HC6_M7.out HB_M8.out)
        have HC4_M8 := Lib.hid (heap_below HN_M7.out HB_M8.out)
        refine hK.out _ _ HS_M8.out (fun _ => ?_)
        clear hK K
        try simp only [Act.put, List.setIfInBounds_toArray, List.set_cons_zero, List.set_cons_succ]
        have d0 : M8.cell? ⟨M7.heap.size, 0, none⟩ = some (.int .i64 0) := cell_of_block HN_M8.out 0
        have d1 : M8.cell? ⟨M7.heap.size, 1, none⟩ = some (.slice none 0 0) := cell_of_block HN_M8.out 1
        have d2 : M8.cell? ⟨M7.heap.size, 2, none⟩ = some (.slice none 0 0) := cell_of_block HN_M8.out 2
        have y0 := unfrozen_of_block HN_M8.out 0
        have y1 := unfrozen_of_block HN_M8.out 1
        have y2 := unfrozen_of_block HN_M8.out 2
        refine wpAnyH_ready (rs := [9]) (by kernel_rfl) (by simp) ?_
        refine AllReadyH.cons (by simp only [List.getElem?_toArray, List.getElem?_cons_zero, List.getElem?_cons_succ]; rfl) (fun K hK => ?_) AllReadyH.nil
        go_simp
        generalize hSS : World.setCell _ _ _ = Z
        have hT : Z.heap[M7.heap.size]? = some (.cells #[.int .i64 bad, .slice (some ⟨M6.heap.size, 0, none⟩) n1 n1, .slice (some ⟨Y0.heap.size, 0, none⟩) nf nf] 30 (0, 0)) := by subst hSS; exact tri_set14 HN_M8.out rfl _ _ _
        have hO : ∀ D, D ≠ M7.heap.size → Z.heap[D]? = M8.heap[D]? := by subst hSS; exact fun D hD => set314_other M7.heap.size D hD _ _ _
        have hg0 : X0.heap.size ≤ M7.heap.size := HY_M7.out.size
        have hBz : Below X0.heap.size X0 Z := by subst hSS; exact set314 (M7.heap.size) hg0 HY_M8.out
        clear hSS d0 d1 d2 y0 y1 y2
        have hI := (hO M6.heap.size (by intro e; have h1 := HC4_M8.out; rw [e, HN_M8.out] at h1; injection h1 with h2; injection h2 with _ h3; exact absurd h3 (by decide))).trans HC4_M8.out
        have hF := (hO Y0.heap.size (by intro e; have h1 := HC6_M8.out; rw [e, HN_M8.out] at h1; injection h1 with h2; injection h2 with _ h3; exact absurd h3 (by decide))).trans HC6_M8.out
        have HSZ : Hid (Z.cell? ⟨X, 1, none⟩ = some (.slice a1 n1 c1)) := cell_below p0X.out hBz
        refine hK.out _ _ HSZ.out (fun _ => ?_)
        clear hK K
        try simp only [Act.put, List.setIfInBounds_toArray, List.set_cons_zero, List.set_cons_succ]
        refine wpAnyH_done (by kernel_rfl) ?_ _
        refine NoPanic.normal ?_
        exact HKK.out _ _ _ _ _ _ _ _ _ _ _ _ hI hF hT HY_M6.out.size HY0.out.size hg0 hBz
    · go_simp
      generalize hYV : World.alloc M6 _ = M9
      have HY_M9 : Hid (Below X0.heap.size X0 M9) := by subst hYV; exact ext_trans HY_M6.out (ext_alloc _ _)
      have HB_M9 : Hid (Below M6.heap.size M6 M9) := by subst hYV; exact ext_alloc _ _
      have HN_M9 : Hid (M9.heap[M6.heap.size]? = some (.cells #[.int .i64 0, .slice none 0 0, .slice none 0 0] 30 (0, 0))) := by subst hYV; exact heap_new _ _ _ rfl
      clear hYV
      have HS_M9 : Hid (M9.cell? ⟨X, 1, none⟩ = some (.slice a1 n1 c1)) := cell_below HS_M6.out HB_M9.out
      have HC6_M9 := Lib.hid (heap_below HN_M6.out HB_M9.out)
      refine hK.out _ _ HS_M9.out (fun _ => ?_)
      clear hK K
      try simp only [Act.put, List.setIfInBounds_toArray, List.set_cons_zero, List.set_cons_succ]
      refine wpAnyH_ready (rs := [4]) (by kernel_rfl) (by simp) ?_
      refine (AllReadyH.cons (by simp only [List.getElem?_toArray, List.getElem?_cons_zero, List.getElem?_cons_succ]; rfl) (fun K hK => ?_) AllReadyH.nil)
      · go_simp
        generalize hYV : World.alloc M9 _ = M10
        have HY_M10 : Hid (Below X0.heap.size X0 M10) := by subst hYV; exact ext_trans HY_M9.out (ext_alloc _ _)
        have HB_M10 : Hid (Below M9.heap.size M9 M10) := by subst hYV; exact ext_alloc _ _
        have HN_M10 : Hid (M10.heap[M9.heap.size]? = some (.cells (zeros (.int .u8 0) n1) 5 (0, 0))) := by subst hYV; exact heap_new _ _ _ rfl
        clear hYV
        have HS_M10 : Hid (M10.cell? ⟨X, 1, none⟩ = some (.slice a1 n1 c1)) := cell_below HS_M9.out HB_M10.out
        have HC6_M10 := Lib.hid (heap_below HC6_M9.out HB_M10.out)
        have HC8_M10 := Lib.hid (heap_below HN_M9.out HB_M10.out)
        refine hK.out _ _ HS_M10.out (fun _ => ?_)
        clear hK K
        try simp only [Act.put, List.setIfInBounds_toArray, List.set_cons_zero, List.set_cons_succ]
        refine wpAnyH_take (i := 7) (v := ?_) (by simp only [List.getElem?_toArray, List.getElem?_cons_zero, List.getElem?_cons_succ]; rfl) (by kernel_rfl) (by kernel_rfl) (by kernel_rfl) (fun _ _ _ h => h) (Or.inl ⟨by rfl, ?_⟩) HS_M10.out ?_
        rotate_left
        · intro w hSw
          (try dsimp only at hSw)
          have q0_ := hSw
          go_simp
          try with_reducible rfl
        try simp only [Act.put, List.setIfInBounds_toArray, List.set_cons_zero, List.set_cons_succ]
        have d0 : M10.cell? ⟨M6.heap.size, 0, none⟩ = some (.int .i64 0) := cell_of_block HC8_M10.out 0
        have d1 : M10.cell? ⟨M6.heap.size, 1, none⟩ = some (.slice none 0 0) := cell_of_block HC8_M10.out 1
        have d2 : M10.cell? ⟨M6.heap.size, 2, none⟩ = some (.slice none 0 0) := cell_of_block HC8_M10.out 2
        have y0 := unfrozen_of_block HC8_M10.out 0
        have y1 := unfrozen_of_block HC8_M10.out 1
        have y2 := unfrozen_of_block HC8_M10.out 2
        refine wpAnyH_ready (rs := [9]) (by kernel_rfl) (by simp) ?_
        refine AllReadyH.cons (by simp only [List.getElem?_toArray, List.getElem?_cons_zero, List.getElem?_cons_succ]; rfl) (fun K hK => ?_) AllReadyH.nil
        go_simp
        generalize hSS : World.setCell _ _ _ = Z
        have hT : Z.heap[M6.heap.size]? = some (.cells #[.int .i64 bad, .slice (some ⟨M9.heap.size, 0, none⟩) n1 n1, .slice (some ⟨Y0.heap.size, 0, none⟩) nf nf] 30 (0, 0)) := by subst hSS; exact tri_set14 HC8_M10.out rfl _ _ _
        have hO : ∀ D, D ≠ M6.heap.size → Z.heap[D]? = M10.heap[D]? := by subst hSS; exact fun D hD => set314_other M6.heap.size D hD _ _ _
        have hg0 : X0.heap.size ≤ M6.heap.size := HY_M6.out.size
        have hBz : Below X0.heap.size X0 Z := by subst hSS; exact set314 (M6.heap.size) hg0 HY_M10.out
        clear hSS d0 d1 d2 y0 y1 y2
        have hI := (hO M9.heap.size (by intro e; have h1 := HN_M10.out; rw [e, HC8_M10.out] at h1; injection h1 with h2; injection h2 with _ h3; exact absurd h3 (by decide))).trans HN_M10.out
        have hF := (hO Y0.heap.size (by intro e; have h1 := HC6_M10.out; rw [e, HC8_M10.out] at h1; injection h1 with h2; injection h2 with _ h3; exact absurd h3 (by decide))).trans HC6_M10.out
        have HSZ : Hid (Z.cell? ⟨X, 1, none⟩ = some (.slice a1 n1 c1)) := cell_below p0X.out hBz
        refine hK.out _ _ HSZ.out (fun _ => ?_)
        clear hK K
        try simp only [Act.put, List.setIfInBounds_toArray, List.set_cons_zero, List.set_cons_succ]
        refine wpAnyH_done (by kernel_rfl) ?_ _
        refine NoPanic.normal ?_
        exact HKK.out _ _ _ _ _ _ _ _ _ _ _ _ hI hF hT HY_M9.out.size HY0.out.size hg0 hBz
  · go_simp
    generalize hYV : World.alloc Y0 _ = M11
    have HY_M11 : Hid (Below X0.heap.size X0 M11) := by subst hYV; exact ext_trans HY0.out (ext_alloc _ _)
    have HB_M11 : Hid (Below Y0.heap.size Y0 M11) := by subst hYV; exact ext_alloc _ _
    have HN_M11 : Hid (M11.heap[Y0.heap.size]? = some (.cells #[.int .i64 0, .slice none 0 0, .slice none 0 0] 30 (0, 0))) := by subst hYV; exact heap_new _ _ _ rfl
    clear hYV
    have HS_M11 : Hid (M11.cell? ⟨X, 1, none⟩ = some (.slice a1 n1 c1)) := cell_below HS0.out HB_M11.out
    refine hK.out _ _ HS_M11.out (fun _ => ?_)
    clear hK K
    try simp only [Act.put, List.setIfInBounds_toArray, List.set_cons_zero, List.set_cons_succ]
    refine wpAnyH_ready (rs := [4, 6]) (by kernel_rfl) (by simp) ?_
    refine (AllReadyH.cons (by simp only [List.getElem?_toArray, List.getElem?_cons_zero, List.getElem?_cons_succ]; rfl) (fun K hK => ?_) (AllReadyH.cons (by simp only [List.getElem?_toArray, List.getElem?_cons_zero, List.getElem?_cons_succ]; rfl) (fun K hK => ?_) AllReadyH.nil))
    · go_simp
      generalize hYV : World.alloc M11 _ = M12
      have HY_M12 : Hid (Below X0.heap.size X0 M12) := by subst hYV; exact ext_trans HY_M11.out (ext_alloc _ _)
      have HB_M12 : Hid (Below M11.heap.size M11 M12) := by subst hYV; exact ext_alloc _ _
      have HN_M12 : Hid (M12.heap[M11.heap.size]? = some (.cells (zeros (.int .u8 0) n1) 5 (0, 0))) := by subst hYV; exact heap_new _ _ _ rfl
      clear hYV
      have HS_M12 : Hid (M12.cell? ⟨X, 1, none⟩ = some (.slice a1 n1 c1)) := cell_below HS_M11.out HB_M12.out
      have HC8_M12 := Lib.hid (heap_below HN_M11.out HB_M12.out)
      refine hK.out _ _ HS_M12.out (fun _ => ?_)
      clear hK K
      try simp only [Act.put, List.setIfInBounds_toArray, List.set_cons_zero, List.set_cons_succ]
      refine wpAnyH_ready (rs := [6]) (by kernel_rfl) (by simp) ?_
      refine (AllReadyH.cons (by simp only [List.getElem?_toArray, List.getElem?_cons_zero, List.getElem?_cons_succ]; rfl) (fun K hK => ?_) AllReadyH.nil)
      · go_simp
        generalize hYV : World.alloc M12 _ = M13
        have HY_M13 : Hid (Below X0.heap.size X0 M13) := by subst hYV; exact ext_trans HY_M12.out (ext_alloc _ _)
        have HB_M13 : Hid (Below M12.heap.size M12 M13) := by subst hYV; exact ext_alloc _ _
        have HN_M13 : Hid (M13.heap[M12.heap.size]? = some (.cells (zeros (.slice none 0 0) nf) 27 (0, 0))) := by subst hYV; exact heap_new _ _ _ rfl
        clear hYV
        have HS_M13 : Hid (M13.cell? ⟨X, 1, none⟩ = some (.slice a1 n1 c1)) := cell_below HS_M12.out HB_M13.out
        have HC8_M13 := Lib.hid (heap_below HC8_M12.out HB_M13.out)
        have HC4_M13 := Lib.hid (heap_below HN_M12.out HB_M13.out)
        refine hK.out _ _ HS_M13.out (fun _ => ?_)
        clear hK K
        try simp only [Act.put, List.setIfInBounds_toArray, List.set_cons_zero, List.set_cons_succ]
        refine wpAnyH_take (i := 7) (v := ?_) (by simp only [List.getElem?_toArray, List.getElem?_cons_zero, List.getElem?_cons_succ]; rfl) (by kernel_rfl) (by kernel_rfl) (by kernel_rfl) (fun _ _ _ h => h) (Or.inl ⟨by rfl, ?_⟩) HS_M13.out ?_
        rotate_left
        · intro w hSw
          (try dsimp only at hSw)
          have q0_ := hSw
          go_simp
          try with_reducible rfl
        try simp only [Act.put, List.setIfInBounds_toArray, List.set_cons_zero, List.set_cons_succ]
        have d0 : M13.cell? ⟨Y0.heap.size, 0, none⟩ = some (.int .i64 0) := cell_of_block HC8_M13.out 0
        have d1 : M13.cell? ⟨Y0.heap.size, 1, none⟩ = some (.slice none 0 0) := cell_of_block HC8_M13.out 1
        have d2 : M13.cell? ⟨Y0.heap.size, 2, none⟩ = some (.slice none 0 0) := cell_of_block HC8_M13.out 2
        have y0 := unfrozen_of_block HC8_M13.out 0
        have y1 := unfrozen_of_block HC8_M13.out 1
        have y2 := unfrozen_of_block HC8_M13.out 2
        refine wpAnyH_ready (rs := [9]) (by kernel_rfl) (by simp) ?_
        refine AllReadyH.cons (by simp only [List.getElem?_toArray, List.getElem?_cons_zero, List.getElem?_cons_succ]; rfl) (fun K hK => ?_) AllReadyH.nil
        go_simp
        generalize hSS : World.setCell _ _ _ = Z
        have hT : Z.heap[Y0.heap.size]? = some (.cells #[.int .i64 bad, .slice (some ⟨M11.heap.size, 0, none⟩) n1 n1, .slice (some ⟨M12.heap.size, 0, none⟩) nf nf] 30 (0, 0)) := by subst hSS; exact tri_set14 HC8_M13.out rfl _ _ _
        have hO : ∀ D, D ≠ Y0.heap.size → Z.heap[D]? = M13.heap[D]? := by subst hSS; exact fun D hD => set314_other Y0.heap.size D hD _ _ _
        have hg0 : X0.heap.size ≤ Y0.heap.size := HY0.out.size
        have hBz : Below X0.heap.size X0 Z := by subst hSS; exact set314 (Y0.heap.size) hg0 HY_M13.out
        clear hSS d0 d1 d2 y0 y1 y2
        have hI := (hO M11.heap.size (by intro e; have h1 := HC4_M13.out; rw [e, HC8_M13.out] at h1; injection h1 with h2; injection h2 with _ h3; exact absurd h3 (by decide))).trans HC4_M13.out
        have hF := (hO M12.heap.size (by intro e; have h1 := HN_M13.out; rw [e, HC8_M13.out] at h1; injection h1 with h2; injection h2 with _ h3; exact absurd h3 (by decide))).trans HN_M13.out
        have HSZ : Hid (Z.cell? ⟨X, 1, none⟩ = some (.slice a1 n1 c1)) := cell_below p0X.out hBz
        refine hK.out _ _ HSZ.out (fun _ => ?_)
        clear hK K
        try simp only [Act.put, List.setIfInBounds_toArray, List.set_cons_zero, List.set_cons_succ]
        refine wpAnyH_done (by kernel_rfl) ?_ _
        refine NoPanic.normal ?_
        exact HKK.out _ _ _ _ _ _ _ _ _ _ _ _ hI hF hT HY_M11.out.size HY_M12.out.size hg0 hBz
    · go_simp
      generalize hYV : World.alloc M11 _ = M14
      have HY_M14 : Hid (Below X0.heap.size X0 M14) := by subst hYV; exact ext_trans HY_M11.out (ext_alloc _ _)
      have HB_M14 : Hid (Below M11.heap.size M11 M14) := by subst hYV; exact ext_alloc _ _
      have HN_M14 : Hid (M14.heap[M11.heap.size]? = some (.cells (zeros (.slice none 0 0) nf) 27 (0, 0))) := by subst hYV; exact heap_new _ _ _ rfl
      clear hYV
      have HS_M14 : Hid (M14.cell? ⟨X, 1, none⟩ = some (.slice a1 n1 c1)) := cell_below HS_M11.out HB_M14.out
      have HC8_M14 := Lib.hid (heap_below HN_M11.out HB_M14.out)
      refine hK.out _ _ HS_M14.out (fun _ => ?_)
      clear hK K
      try simp only [Act.put, List.setIfInBounds_toArray, List.set_cons_zero, List.set_cons_succ]
      refine wpAnyH_ready (rs := [4]) (by kernel_rfl) (by simp) ?_
      refine (AllReadyH.cons (by simp only [List.getElem?_toArray, List.getElem?_cons_zero, List.getElem?_cons_succ]; rfl) (fun K hK => ?_) AllReadyH.nil)
      · go_simp
        generalize hYV : World.alloc M14 _ = M15
        have HY_M15 : Hid (Below X0.heap.size X0 M15) := by subst hYV; exact ext_trans HY_M14.out (ext_alloc _ _)
        have HB_M15 : Hid (Below M14.heap.size M14 M15) := by subst hYV; exact ext_alloc _ _
        have HN_M15 : Hid (M15.heap[M14.heap.size]? = some (.cells (zeros (.int .u8 0) n1) 5 (0, 0))) := by subst hYV; exact heap_new _ _ _ rfl
        clear hYV
        have HS_M15 : Hid (M15.cell? ⟨X, 1, none⟩ = some (.slice a1 n1 c1)) := cell_below HS_M14.out HB_M15.out
        have HC8_M15 := Lib.hid (heap_below HC8_M14.out HB_M15.out)
        have HC6_M15 := Lib.hid (heap_below HN_M14.out HB_M15.out)
        refine hK.out _ _ HS_M15.out (fun _ => ?_)
        clear hK K
        try simp only [Act.put, List.setIfInBounds_toArray, List.set_cons_zero, List.set_cons_succ]
        refine wpAnyH_take (i := 7) (v := ?_) (by simp only [List.getElem?_toArray, List.getElem?_cons_zero, List.getElem?_cons_succ]; rfl) (by kernel_rfl) (by kernel_rfl) (by kernel_rfl) (fun _ _ _ h => h) (Or.inl ⟨by rfl, ?_⟩) HS_M15.out ?_
        rotate_left
        · intro w hSw
          (try dsimp only at hSw)
          have q0_ := hSw
          go_simp
          try with_reducible rfl
        try simp only [Act.put, List.setIfInBounds_toArray, List.set_cons_zero, List.set_cons_succ]
        have d0 : M15.cell? ⟨Y0.heap.size, 0, none⟩ = some (.int .i64 0) := cell_of_block HC8_M15.out 0
        have d1 : M15.cell? ⟨Y0.heap.size, 1, none⟩ = some (.slice none 0 0) := cell_of_block HC8_M15.out 1
        have d2 : M15.cell? ⟨Y0.heap.size, 2, none⟩ = some (.slice none 0 0) := cell_of_block HC8_M15.out 2
        have y0 := unfrozen_of_block HC8_M15.out 0
        have y1 := unfrozen_of_block HC8_M15.out 1
        have y2 := unfrozen_of_block HC8_M15.out 2
        refine wpAnyH_ready (rs := [9]) (by kernel_rfl) (by simp) ?_
        refine AllReadyH.cons (by simp only [List.getElem?_toArray, List.getElem?_cons_zero, List.getElem?_cons_succ]; rfl) (fun K hK => ?_) AllReadyH.nil
        go_simp
        generalize hSS : World.setCell _ _ _ = Z
        have hT : Z.heap[Y0.heap.size]? = some (.cells #[.int .i64 bad, .slice (some ⟨M14.heap.size, 0, none⟩) n1 n1, .slice (some ⟨M11.heap.size, 0, none⟩) nf nf] 30 (0, 0)) := by subst hSS; exact tri_set14 HC8_M15.out rfl _ _ _
        have hO : ∀ D, D ≠ Y0.heap.size → Z.heap[D]? = M15.heap[D]? := by subst hSS; exact fun D hD => set314_other Y0.heap.size D hD _ _ _
        have hg0 : X0.heap.size ≤ Y0.heap.size := HY0.out.size
        have hBz : Below X0.heap.size X0 Z := by subst hSS; exact set314 (Y0.heap.size) hg0 HY_M15.out
        clear hSS d0 d1 d2 y0 y1 y2
        have hI := (hO M14.heap.size (by intro e; have h1 := HN_M15.out; rw [e, HC8_M15.out] at h1; injection h1 with h2; injection h2 with _ h3; exact absurd h3 (by decide))).trans HN_M15.out
        have hF := (hO M11.heap.size (by intro e; have h1 := HC6_M15.out; rw [e, HC8_M15.out] at h1; injection h1 with h2; injection h2 with _ h3; exact absurd h3 (by decide))).trans HC6_M15.out
        have HSZ : Hid (Z.cell? ⟨X, 1, none⟩ = some (.slice a1 n1 c1)) := cell_below p0X.out hBz
        refine hK.out _ _ HSZ.out (fun _ => ?_)
        clear hK K
        try simp only [Act.put, List.setIfInBounds_toArray, List.set_cons_zero, List.set_cons_succ]
        refine wpAnyH_done (by kernel_rfl) ?_ _
        refine NoPanic.normal ?_
        exact HKK.out _ _ _ _ _ _ _ _ _ _ _ _ hI hF hT HY_M14.out.size HY_M11.out.size hg0 hBz
end Go.Proofs.Ytcoehbkjccfhlaa
