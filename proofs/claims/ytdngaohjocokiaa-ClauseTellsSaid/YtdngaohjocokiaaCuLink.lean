/- newPropagation's region that appends a link. -/
import Derived.Test.YtdngaohjocokiaaNBase
import Derived.Test.YtdngaohjocokiaaNOwnsN
import Derived.Test.YtdngaohjocokiaaNStep
import Derived.Test.YtdngaohjocokiaaNRegion
import Derived.Test.YtdngaohjocokiaaCuMem
import Derived.Test.YtdngaohjocokiaaCuMake
import Derived.Test.YtdngaohjocokiaaRows
import Derived.BigQuiet
import Derived.Conc.LoneSelect
import Derived.Deep.AppendLies
import Derived.Deep.QuietTactic
import Derived.Deep.RegionHeld3
import Derived.Deep.RegionLaw
import Derived.Deep.RegionWith
import Derived.KernelRfl
import Derived.Laws.EntriesVeiled
import Derived.Laws.Tables
import Derived.Lib.ConvBytes
import Derived.Lib.Hide
import Derived.Lib.SlBytesRow
import Derived.Lib.SmallJoins
import Derived.Maps.AppendAt
import Derived.OrdersHeld
import Derived.Shelf.Bytes.SlSmallAll
import Derived.WalkKit
import Derived.WalkLawsBesides
import Derived.WalkSpells
namespace Go.Proofs.Ytdngaohjocokiaa
open Go Go.RowKit Go.Joins

theorem cells_two_new (w : World) (x y : Value) (t : TypeId) : ∀ j u, [x, y][j]? = some u → (w.alloc (.cells #[x, y] t)).cell? ((⟨w.heap.size, 0, none⟩ : Addr).add j) = some u := by
  intro j u hj
  match j, hj with
  | 0, hj => simp at hj; subst hj; simp [Addr.add]
  | 1, hj => simp at hj; subst hj; simp [Addr.add]
noncomputable def codeLk : Code := ((Try.f20.body.bind (findRegion 11)).getD .skip)
set_option maxRecDepth 100000 in
set_option maxHeartbeats 12800000 in
theorem reg_lk (B gF gK M i p q nk ck E : Nat) (xs : List Value) (C : Array Value) (X0 : World) (hbox : X0.heap[B]? = some (.cells C 50 (0, 0))) (hC2 : C[2]? = some (.slice (some ⟨gF, 0, none⟩) M M)) (hC3 : C[3]? = some (.slice (some ⟨gK, 0, none⟩) nk ck))
    (D : Array Value) (hF : X0.heap[gF]? = some (.cells D 21 (0, 0))) (hDp : D[p]? = some (.int .i32 q)) (how : X0.ownsRow E 60 2 (.slice (some ⟨gK, 0, none⟩) nk ck) nk xs) (hnk : nk ≤ 2000000) (hE : E ≤ X0.heap.size)
    (hi32 : IntKind.i32.wrap (i : Int) = (i : Int)) (hpM : (p : Int) < (M : Int))
    (QQ : Exit → Act → World → Prop) {v0 v1 v2 v3 v4 v5 v6 v7 v10 v11 v12 v14 v15 v16 v17 v18 v19 v20 v21 v22 v23 v24 v25 v26 v27 v28 v29 v30 v31 v32 v33 v34 v35 v36 v37 v38 v39 v40 v41 v42 v43 v44 v45 v46 v47 v48 v49 v50 v51 v52 v53 v54 v55 v56 v57 v58 v59 v60 v61 v62 v63 v64 v65 v66 v67 v68 v69 v70 v71 v72 v73 v74 v75 v76 v77 v78 v79 v80 v81 v82 v83 v84 v85 v86 v87 v88 v89 v90 v91 v92 : Value}
    (hK : ∀ (vv u73 : Value) (w2 Y0 : World), Below X0.heap.size X0 Y0 → w2.ownsRow E 60 2 vv (nk + 1) (xs ++ [.int .i32 i, .int .i32 q]) → (Y0.alloc (.cells #[.int .i32 i, .int .i32 q] 60)).grownBy w2 (Value.slice (some ⟨gK, 0, none⟩) nk ck).ownBlock →
      QQ .normal ⟨#[v0, v1, v2, v3, v4, v5, v6, v7, .pointer (some ⟨B, 0, none⟩), .int .i64 i, v10, v11, v12, .int .i64 p, v14, v15, v16, v17, v18, v19, v20, v21, v22, v23, v24, v25, v26, v27, v28, v29, v30, v31, v32, v33, v34, v35, v36, v37, v38, v39, v40, v41, v42, v43, v44, v45, v46, v47, v48, v49, v50, v51, v52, v53, v54, v55, v56, v57, .pointer (some ⟨B, 0, none⟩), .pointer (some ⟨B, 0, none⟩), .pointer (some ⟨B, 0, none⟩), .pointer (some ⟨B, 3, none⟩), .slice (some ⟨gK, 0, none⟩) nk ck, .int .i64 i, .int .i32 i, .pointer (some ⟨B, 0, none⟩), .pointer (some ⟨B, 0, none⟩), .pointer (some ⟨B, 2, none⟩), .slice (some ⟨gF, 0, none⟩) M M, .int .i64 p, .pointer (some ⟨gF, p, none⟩), .int .i32 q, .agg #[.int .i32 i, .int .i32 q], u73, vv, .pointer (some ⟨B, 0, none⟩), .pointer (some ⟨B, 3, none⟩), v77, v78, v79, v80, v81, v82, v83, v84, v85, v86, v87, v88, v89, v90, v91, v92], []⟩ (w2.setCell ⟨B, 3, none⟩ vv)) :
    Code.wp Try.prog codeLk QQ ⟨#[v0, v1, v2, v3, v4, v5, v6, v7, .pointer (some ⟨B, 0, none⟩), .int .i64 i, v10, v11, v12, .int .i64 p, v14, v15, v16, v17, v18, v19, v20, v21, v22, v23, v24, v25, v26, v27, v28, v29, v30, v31, v32, v33, v34, v35, v36, v37, v38, v39, v40, v41, v42, v43, v44, v45, v46, v47, v48, v49, v50, v51, v52, v53, v54, v55, v56, v57, v58, v59, v60, v61, v62, v63, v64, v65, v66, v67, v68, v69, v70, v71, v72, v73, v74, v75, v76, v77, v78, v79, v80, v81, v82, v83, v84, v85, v86, v87, v88, v89, v90, v91, v92], []⟩ X0 := by
  obtain ⟨i0, hi, hz0, hz1, hz2⟩ := info_parts info_link
  conv => arg 2; whnf
  refine wp_region_noPanic ?_
  refine wp_region_held (S := fun w' => w'.cell? ⟨B, 2, none⟩ = some (.slice (some ⟨gF, 0, none⟩) M M) ∧ w'.cell? ⟨gF, p, none⟩ = some (.int .i32 q)) (by kernel_rfl) ?_
  generalize hYY : ({ X0 with drawn := X0.drawn + 1 } : World) = Y0
  have HY0 : Hid (Below X0.heap.size X0 Y0) := by subst hYY; exact (Below.refl _ _).drew
  have HCELLS : Hid (∀ W : World, W.heap[B]? = some (.cells C 50 (0, 0)) → W.heap[gF]? = some (.cells D 21 (0, 0)) → W.cell? ⟨B, 2, none⟩ = some (.slice (some ⟨gF, 0, none⟩) M M) ∧ W.cell? ⟨gF, p, none⟩ = some (.int .i32 q) ∧ W.cell? ⟨B, 3, none⟩ = some (.slice (some ⟨gK, 0, none⟩) nk ck) ∧ W.frozen? ⟨B, 3, none⟩ = false) := fun W h1 h2 =>
    ⟨(cell_of_block h1 2).trans hC2, (cell_of_block h2 p).trans hDp, (cell_of_block h1 3).trans hC3, unfrozen_of_block h1 3⟩
  have HB0 : Hid (Y0.heap[B]? = some (.cells C 50 (0, 0))) := heap_below hbox HY0.out
  have HF0 : Hid (Y0.heap[gF]? = some (.cells D 21 (0, 0))) := heap_below hF HY0.out
  have h0 := HCELLS.out Y0 HB0.out HF0.out
  have HS0 : Hid (Y0.cell? ⟨B, 2, none⟩ = some (.slice (some ⟨gF, 0, none⟩) M M) ∧ Y0.cell? ⟨gF, p, none⟩ = some (.int .i32 q)) := ⟨h0.1, h0.2.1⟩
  have HK3 := Lib.hid h0.2.2.1
  have HAL : Hid (∀ o, (Y0.alloc o).cell? ⟨B, 2, none⟩ = some (.slice (some ⟨gF, 0, none⟩) M M) ∧ (Y0.alloc o).cell? ⟨gF, p, none⟩ = some (.int .i32 q) ∧ (Y0.alloc o).cell? ⟨B, 3, none⟩ = some (.slice (some ⟨gK, 0, none⟩) nk ck)) := fun o => by
    have := HCELLS.out (Y0.alloc o) (heap_below HB0.out (ext_alloc _ _)) (heap_below HF0.out (ext_alloc _ _))
    exact ⟨this.1, this.2.1, this.2.2.1⟩
  have HOW := Lib.hid how
  have HE := Lib.hid hE
  have HNX : Hid (∀ w2, (Y0.alloc (.cells #[.int .i32 i, .int .i32 q] 60)).grownBy w2 (Value.slice (some ⟨gK, 0, none⟩) nk ck).ownBlock → w2.cell? ⟨B, 2, none⟩ = some (.slice (some ⟨gF, 0, none⟩) M M) ∧ w2.cell? ⟨gF, p, none⟩ = some (.int .i32 q) ∧ w2.cell? ⟨B, 3, none⟩ = some (.slice (some ⟨gK, 0, none⟩) nk ck) ∧ w2.frozen? ⟨B, 3, none⟩ = false) := fun w2 hg2 => by
    have hw := ownsN_below how (ext_trans HY0.out (ext_alloc Y0 (.cells #[.int .i32 i, .int .i32 q] 60)))
    have b1 := heap_below HB0.out (ext_alloc Y0 (.cells #[.int .i32 i, .int .i32 q] 60))
    have b2 := heap_below HF0.out (ext_alloc Y0 (.cells #[.int .i32 i, .int .i32 q] 60))
    exact HCELLS.out w2 (heap_grown b1 hg2 (ownsN_notown hw b1 (by decide))) (heap_grown b2 hg2 (ownsN_notown hw b2 (by decide)))
  have HST : Hid (∀ (w2 : World) (vv : Value), (w2.cell? ⟨B, 2, none⟩ = some (.slice (some ⟨gF, 0, none⟩) M M) ∧ w2.cell? ⟨gF, p, none⟩ = some (.int .i32 q) ∧ w2.cell? ⟨B, 3, none⟩ = some (.slice (some ⟨gK, 0, none⟩) nk ck) ∧ w2.frozen? ⟨B, 3, none⟩ = false) → (w2.setCell ⟨B, 3, none⟩ vv).cell? ⟨B, 2, none⟩ = some (.slice (some ⟨gF, 0, none⟩) M M) ∧ (w2.setCell ⟨B, 3, none⟩ vv).cell? ⟨gF, p, none⟩ = some (.int .i32 q)) := fun w2 vv h => by
    have hne : gF ≠ B := ne_cells HF0.out HB0.out (by decide)
    exact ⟨(World.cell?_setCell_other _ _ _ _ (by simp)).trans h.1, (World.cell?_setCell_other _ _ _ _ (by intro e; cases e; exact hne rfl)).trans h.2.1⟩
  clear hYY h0 hbox hF hC2 hC3 hDp how hE
  refine wpAnyH_take (i := 0) (v := ?_) (by simp only [List.getElem?_toArray, List.getElem?_cons_zero]; rfl) (by kernel_rfl) (by kernel_rfl) (by kernel_rfl) (fun _ _ _ h => h) (Or.inl ⟨by rfl, ?_⟩) HS0.out ?_
  rotate_left
  · intro w hSw
    (try dsimp only at hSw)
    obtain ⟨q0_, q1_⟩ := hSw
    go_simp
    try with_reducible rfl
  try simp only [Act.put, List.setIfInBounds_toArray, List.set_cons_zero, List.set_cons_succ]
  refine wpAnyH_take (i := 1) (v := ?_) (by simp only [List.getElem?_toArray, List.getElem?_cons_zero, List.getElem?_cons_succ]; rfl) (by kernel_rfl) (by kernel_rfl) (by kernel_rfl) (fun _ _ _ h => h) (Or.inl ⟨by rfl, ?_⟩) HS0.out ?_
  rotate_left
  · intro w hSw
    (try dsimp only at hSw)
    obtain ⟨q0_, q1_⟩ := hSw
    go_simp
    try with_reducible rfl
  try simp only [Act.put, List.setIfInBounds_toArray, List.set_cons_zero, List.set_cons_succ]
  refine wpAnyH_take (i := 2) (v := ?_) (by simp only [List.getElem?_toArray, List.getElem?_cons_zero, List.getElem?_cons_succ]; rfl) (by kernel_rfl) (by kernel_rfl) (by kernel_rfl) (fun _ _ _ h => h) (Or.inl ⟨by rfl, ?_⟩) HS0.out ?_
  rotate_left
  · intro w hSw
    (try dsimp only at hSw)
    obtain ⟨q0_, q1_⟩ := hSw
    go_simp
    try with_reducible rfl
  try simp only [Act.put, List.setIfInBounds_toArray, List.set_cons_zero, List.set_cons_succ]
  refine wpAnyH_take (i := 3) (v := ?_) (by simp only [List.getElem?_toArray, List.getElem?_cons_zero, List.getElem?_cons_succ]; rfl) (by kernel_rfl) (by kernel_rfl) (by kernel_rfl) (fun _ _ _ h => h) (Or.inl ⟨by rfl, ?_⟩) HS0.out ?_
  rotate_left
  · intro w hSw
    (try dsimp only at hSw)
    obtain ⟨q0_, q1_⟩ := hSw
    go_simp
    try with_reducible rfl
  try simp only [Act.put, List.setIfInBounds_toArray, List.set_cons_zero, List.set_cons_succ]
  refine wpAnyH_take (i := 5) (v := ?_) (by simp only [List.getElem?_toArray, List.getElem?_cons_zero, List.getElem?_cons_succ]; rfl) (by kernel_rfl) (by kernel_rfl) (by kernel_rfl) (fun _ _ _ h => h) (Or.inl ⟨by rfl, ?_⟩) HS0.out ?_
  rotate_left
  · intro w hSw
    (try dsimp only at hSw)
    obtain ⟨q0_, q1_⟩ := hSw
    go_simp
    try with_reducible rfl
  try simp only [Act.put, List.setIfInBounds_toArray, List.set_cons_zero, List.set_cons_succ]
  refine wpAnyH_take (i := 6) (v := ?_) (by simp only [List.getElem?_toArray, List.getElem?_cons_zero, List.getElem?_cons_succ]; rfl) (by kernel_rfl) (by kernel_rfl) (by kernel_rfl) (fun _ _ _ h => h) (Or.inl ⟨by rfl, ?_⟩) HS0.out ?_
  rotate_left
  · intro w hSw
    (try dsimp only at hSw)
    obtain ⟨q0_, q1_⟩ := hSw
    go_simp
    try with_reducible rfl
  try simp only [Act.put, List.setIfInBounds_toArray, List.set_cons_zero, List.set_cons_succ]
  refine wpAnyH_take (i := 7) (v := ?_) (by simp only [List.getElem?_toArray, List.getElem?_cons_zero, List.getElem?_cons_succ]; rfl) (by kernel_rfl) (by kernel_rfl) (by kernel_rfl) (fun _ _ _ h => h) (Or.inl ⟨by rfl, ?_⟩) HS0.out ?_
  rotate_left
  · intro w hSw
    (try dsimp only at hSw)
    obtain ⟨q0_, q1_⟩ := hSw
    go_simp
    try with_reducible rfl
  try simp only [Act.put, List.setIfInBounds_toArray, List.set_cons_zero, List.set_cons_succ]
  refine wpAnyH_take (i := 8) (v := ?_) (by simp only [List.getElem?_toArray, List.getElem?_cons_zero, List.getElem?_cons_succ]; rfl) (by kernel_rfl) (by kernel_rfl) (by kernel_rfl) (fun _ _ _ h => h) (Or.inl ⟨by rfl, ?_⟩) HS0.out ?_
  rotate_left
  · intro w hSw
    (try dsimp only at hSw)
    obtain ⟨q0_, q1_⟩ := hSw
    go_simp
    try with_reducible rfl
  try simp only [Act.put, List.setIfInBounds_toArray, List.set_cons_zero, List.set_cons_succ]
  refine wpAnyH_take (i := 9) (v := ?_) (by simp only [List.getElem?_toArray, List.getElem?_cons_zero, List.getElem?_cons_succ]; rfl) (by kernel_rfl) (by kernel_rfl) (by kernel_rfl) (fun _ _ _ h => h) (Or.inl ⟨by rfl, ?_⟩) HS0.out ?_
  rotate_left
  · intro w hSw
    (try dsimp only at hSw)
    obtain ⟨q0_, q1_⟩ := hSw
    go_simp
    try with_reducible rfl
  try simp only [Act.put, List.setIfInBounds_toArray, List.set_cons_zero, List.set_cons_succ]
  refine wpAnyH_take (i := 10) (v := ?_) (by simp only [List.getElem?_toArray, List.getElem?_cons_zero, List.getElem?_cons_succ]; rfl) (by kernel_rfl) (by kernel_rfl) (by kernel_rfl) (fun _ _ _ h => h) (Or.inl ⟨by rfl, ?_⟩) HS0.out ?_
  rotate_left
  · intro w hSw
    (try dsimp only at hSw)
    obtain ⟨q0_, q1_⟩ := hSw
    go_simp
    try with_reducible rfl
  try simp only [Act.put, List.setIfInBounds_toArray, List.set_cons_zero, List.set_cons_succ]
  refine wpAnyH_take (i := 11) (v := ?_) (by simp only [List.getElem?_toArray, List.getElem?_cons_zero, List.getElem?_cons_succ]; rfl) (by kernel_rfl) (by kernel_rfl) (by kernel_rfl) (fun _ _ _ h => h) (Or.inl ⟨by rfl, ?_⟩) HS0.out ?_
  rotate_left
  · intro w hSw
    (try dsimp only at hSw)
    obtain ⟨q0_, q1_⟩ := hSw
    go_simp
    try with_reducible rfl
  try simp only [Act.put, List.setIfInBounds_toArray, List.set_cons_zero, List.set_cons_succ]
  refine wpAnyH_take (i := 12) (v := ?_) (by simp only [List.getElem?_toArray, List.getElem?_cons_zero, List.getElem?_cons_succ]; rfl) (by kernel_rfl) (by kernel_rfl) (by kernel_rfl) (fun _ _ _ h => h) (Or.inl ⟨by rfl, ?_⟩) HS0.out ?_
  rotate_left
  · intro w hSw
    (try dsimp only at hSw)
    obtain ⟨q0_, q1_⟩ := hSw
    go_simp
    try with_reducible rfl
  try simp only [Act.put, List.setIfInBounds_toArray, List.set_cons_zero, List.set_cons_succ]
  refine wpAnyH_take (i := 13) (v := ?_) (by simp only [List.getElem?_toArray, List.getElem?_cons_zero, List.getElem?_cons_succ]; rfl) (by kernel_rfl) (by kernel_rfl) (by kernel_rfl) (fun _ _ _ h => h) (Or.inl ⟨by rfl, ?_⟩) HS0.out ?_
  rotate_left
  · intro w hSw
    (try dsimp only at hSw)
    obtain ⟨q0_, q1_⟩ := hSw
    go_simp
    try with_reducible rfl
  try simp only [Act.put, List.setIfInBounds_toArray, List.set_cons_zero, List.set_cons_succ]
  refine wpAnyH_take (i := 14) (v := ?_) (by simp only [List.getElem?_toArray, List.getElem?_cons_zero, List.getElem?_cons_succ]; rfl) (by kernel_rfl) (by kernel_rfl) (by kernel_rfl) (fun _ _ _ h => h) (Or.inl ⟨by rfl, ?_⟩) HS0.out ?_
  rotate_left
  · intro w hSw
    (try dsimp only at hSw)
    obtain ⟨q0_, q1_⟩ := hSw
    go_simp
    try with_reducible rfl
  try simp only [Act.put, List.setIfInBounds_toArray, List.set_cons_zero, List.set_cons_succ]
  refine wpAnyH_ready (rs := [4, 15]) (by kernel_rfl) (by simp) ?_
  refine AllReadyH.cons (by simp only [List.getElem?_toArray, List.getElem?_cons_zero, List.getElem?_cons_succ]; rfl) (fun K hKK => ?_) (AllReadyH.cons (by simp only [List.getElem?_toArray, List.getElem?_cons_zero, List.getElem?_cons_succ]; rfl) (fun K hKK => ?_) AllReadyH.nil)
  · have k3 := HK3.out
    go_simp
    clear k3
    refine hKK.out _ _ HS0.out (fun _ => ?_)
    clear hKK K
    try simp only [Act.put, List.setIfInBounds_toArray, List.set_cons_zero, List.set_cons_succ]
    refine wpAnyH_ready (rs := [15]) (by kernel_rfl) (by simp) ?_
    refine AllReadyH.cons (by simp only [List.getElem?_toArray, List.getElem?_cons_zero, List.getElem?_cons_succ]; rfl) (fun K hKK => ?_) AllReadyH.nil
    go_simp
    refine hKK.out _ _ ⟨(HAL.out _).1, (HAL.out _).2.1⟩ (fun _ => ?_)
    clear hKK K
    try simp only [Act.put, List.setIfInBounds_toArray, List.set_cons_zero, List.set_cons_succ]
    refine wpAnyH_ready (rs := [16]) (by kernel_rfl) (by simp) ?_
    refine AllReadyH.cons (by simp only [List.getElem?_toArray, List.getElem?_cons_zero, List.getElem?_cons_succ]; rfl) (fun K hKK => ?_) AllReadyH.nil
    refine step_append_own_at rfl _ _ 47 rfl E 60 i0 _ 2 8 Try.underlying47 hi hz0 hz1 hz2 rfl (by decide) (.slice (some ⟨gK, 0, none⟩) nk ck) nk xs rfl (ownsN_below HOW.out (ext_trans HY0.out (ext_alloc Y0 _))) ⟨Y0.heap.size, 0, none⟩ 1 1 [.int .i32 i, .int .i32 q] rfl rfl (cells_two_new _ _ _ _) (by intro u hu; simp at hu; rcases hu with rfl | rfl <;> rfl) (by unfold maxLen; omega) (by omega) (by have := HY0.out.size; have := HE.out; simp; omega) ?_
    intro vv w2 ho2 hg2
    obtain ⟨va, vc, rfl⟩ := ownsN_form ho2
    have HG2 := Lib.hid (HNX.out w2 hg2)
    have HO2 := Lib.hid ho2
    have HW2 := Lib.hid hg2
    clear ho2 hg2
    refine hKK.out _ _ ⟨HG2.out.1, HG2.out.2.1⟩ (fun _ => ?_)
    clear hKK K
    try simp only [Act.put, List.setIfInBounds_toArray, List.set_cons_zero, List.set_cons_succ]
    have HS2 : Hid (w2.cell? ⟨B, 2, none⟩ = some (.slice (some ⟨gF, 0, none⟩) M M) ∧ w2.cell? ⟨gF, p, none⟩ = some (.int .i32 q)) := ⟨HG2.out.1, HG2.out.2.1⟩
    refine wpAnyH_take (i := 17) (v := ?_) (by simp only [List.getElem?_toArray, List.getElem?_cons_zero, List.getElem?_cons_succ]; rfl) (by kernel_rfl) (by kernel_rfl) (by kernel_rfl) (fun _ _ _ h => h) (Or.inl ⟨by rfl, ?_⟩) HS2.out ?_
    rotate_left
    · intro w hSw
      (try dsimp only at hSw)
      obtain ⟨q0_, q1_⟩ := hSw
      go_simp
      try with_reducible rfl
    try simp only [Act.put, List.setIfInBounds_toArray, List.set_cons_zero, List.set_cons_succ]
    refine wpAnyH_take (i := 18) (v := ?_) (by simp only [List.getElem?_toArray, List.getElem?_cons_zero, List.getElem?_cons_succ]; rfl) (by kernel_rfl) (by kernel_rfl) (by kernel_rfl) (fun _ _ _ h => h) (Or.inl ⟨by rfl, ?_⟩) HS2.out ?_
    rotate_left
    · intro w hSw
      (try dsimp only at hSw)
      obtain ⟨q0_, q1_⟩ := hSw
      go_simp
      try with_reducible rfl
    try simp only [Act.put, List.setIfInBounds_toArray, List.set_cons_zero, List.set_cons_succ]
    refine wpAnyH_ready (rs := [19]) (by kernel_rfl) (by simp) ?_
    refine AllReadyH.cons (by simp only [List.getElem?_toArray, List.getElem?_cons_zero, List.getElem?_cons_succ]; rfl) (fun K hKK => ?_) AllReadyH.nil
    have k3 := HG2.out.2.2.1
    have f3 := HG2.out.2.2.2
    go_simp
    refine hKK.out _ _ (HST.out w2 _ HG2.out) (fun _ => ?_)
    clear hKK K
    try simp only [Act.put, List.setIfInBounds_toArray, List.set_cons_zero, List.set_cons_succ]
    refine wpAnyH_done (by kernel_rfl) ?_ _
    refine NoPanic.normal ?_
    exact hK _ _ w2 Y0 HY0.out HO2.out HW2.out
  · go_simp
    refine hKK.out _ _ ⟨(HAL.out _).1, (HAL.out _).2.1⟩ (fun _ => ?_)
    clear hKK K
    try simp only [Act.put, List.setIfInBounds_toArray, List.set_cons_zero, List.set_cons_succ]
    refine wpAnyH_ready (rs := [4]) (by kernel_rfl) (by simp) ?_
    refine AllReadyH.cons (by simp only [List.getElem?_toArray, List.getElem?_cons_zero, List.getElem?_cons_succ]; rfl) (fun K hKK => ?_) AllReadyH.nil
    have k3 := (HAL.out (.cells #[.int .i32 i, .int .i32 q] 60)).2.2
    go_simp
    clear k3
    refine hKK.out _ _ ⟨(HAL.out _).1, (HAL.out _).2.1⟩ (fun _ => ?_)
    clear hKK K
    try simp only [Act.put, List.setIfInBounds_toArray, List.set_cons_zero, List.set_cons_succ]
    refine wpAnyH_ready (rs := [16]) (by kernel_rfl) (by simp) ?_
    refine AllReadyH.cons (by simp only [List.getElem?_toArray, List.getElem?_cons_zero, List.getElem?_cons_succ]; rfl) (fun K hKK => ?_) AllReadyH.nil
    refine step_append_own_at rfl _ _ 47 rfl E 60 i0 _ 2 8 Try.underlying47 hi hz0 hz1 hz2 rfl (by decide) (.slice (some ⟨gK, 0, none⟩) nk ck) nk xs rfl (ownsN_below HOW.out (ext_trans HY0.out (ext_alloc Y0 _))) ⟨Y0.heap.size, 0, none⟩ 1 1 [.int .i32 i, .int .i32 q] rfl rfl (cells_two_new _ _ _ _) (by intro u hu; simp at hu; rcases hu with rfl | rfl <;> rfl) (by unfold maxLen; omega) (by omega) (by have := HY0.out.size; have := HE.out; simp; omega) ?_
    intro vv w2 ho2 hg2
    obtain ⟨va, vc, rfl⟩ := ownsN_form ho2
    have HG2 := Lib.hid (HNX.out w2 hg2)
    have HO2 := Lib.hid ho2
    have HW2 := Lib.hid hg2
    clear ho2 hg2
    refine hKK.out _ _ ⟨HG2.out.1, HG2.out.2.1⟩ (fun _ => ?_)
    clear hKK K
    try simp only [Act.put, List.setIfInBounds_toArray, List.set_cons_zero, List.set_cons_succ]
    have HS2 : Hid (w2.cell? ⟨B, 2, none⟩ = some (.slice (some ⟨gF, 0, none⟩) M M) ∧ w2.cell? ⟨gF, p, none⟩ = some (.int .i32 q)) := ⟨HG2.out.1, HG2.out.2.1⟩
    refine wpAnyH_take (i := 17) (v := ?_) (by simp only [List.getElem?_toArray, List.getElem?_cons_zero, List.getElem?_cons_succ]; rfl) (by kernel_rfl) (by kernel_rfl) (by kernel_rfl) (fun _ _ _ h => h) (Or.inl ⟨by rfl, ?_⟩) HS2.out ?_
    rotate_left
    · intro w hSw
      (try dsimp only at hSw)
      obtain ⟨q0_, q1_⟩ := hSw
      go_simp
      try with_reducible rfl
    try simp only [Act.put, List.setIfInBounds_toArray, List.set_cons_zero, List.set_cons_succ]
    refine wpAnyH_take (i := 18) (v := ?_) (by simp only [List.getElem?_toArray, List.getElem?_cons_zero, List.getElem?_cons_succ]; rfl) (by kernel_rfl) (by kernel_rfl) (by kernel_rfl) (fun _ _ _ h => h) (Or.inl ⟨by rfl, ?_⟩) HS2.out ?_
    rotate_left
    · intro w hSw
      (try dsimp only at hSw)
      obtain ⟨q0_, q1_⟩ := hSw
      go_simp
      try with_reducible rfl
    try simp only [Act.put, List.setIfInBounds_toArray, List.set_cons_zero, List.set_cons_succ]
    refine wpAnyH_ready (rs := [19]) (by kernel_rfl) (by simp) ?_
    refine AllReadyH.cons (by simp only [List.getElem?_toArray, List.getElem?_cons_zero, List.getElem?_cons_succ]; rfl) (fun K hKK => ?_) AllReadyH.nil
    have k3 := HG2.out.2.2.1
    have f3 := HG2.out.2.2.2
    go_simp
    refine hKK.out _ _ (HST.out w2 _ HG2.out) (fun _ => ?_)
    clear hKK K
    try simp only [Act.put, List.setIfInBounds_toArray, List.set_cons_zero, List.set_cons_succ]
    refine wpAnyH_done (by kernel_rfl) ?_ _
    refine NoPanic.normal ?_
    exact hK _ _ w2 Y0 HY0.out HO2.out HW2.out
end Go.Proofs.Ytdngaohjocokiaa
