/- (*builder).atLeast's and atMost's drawn region 0: the clause's first literal. -/
import Derived.Test.YtionibckeicncaaLib
import Derived.Test.YtionibckeicncaaOwn
import Derived.Test.YtionibckeicncaaRowStep
import Derived.Test.YtionibckeicncaaNBase
import Derived.Test.YtionibckeicncaaNRegion
import Derived.Test.YtionibckeicncaaCuInts
import Derived.Test.YtionibckeicncaaTaRM
import Derived.Test.YtionibckeicncaaTaG
import Derived.Test.YtionibckeicncaaRawMay
import Derived.Test.YtionibckeicncaaRows
import Derived.Test.YtionibckeicncaaShelf
import Derived.BigQuiet
import Derived.Deep.AppendLies
import Derived.Deep.QuietTactic
import Derived.Deep.RegionHeld3
import Derived.Deep.RegionLaw
import Derived.Deep.RegionWith
import Derived.KernelRfl
import Derived.Laws.EntriesVeiled
import Derived.Lib.ConvBytes
import Derived.Lib.Hide
import Derived.Lib.SlBytesRow
import Derived.Lib.SlicesCompact
import Derived.Lib.SmallJoins
import Derived.OrdersHeld
import Derived.Shelf.Bytes.SlSmallAll
import Derived.Sort.Statements
import Derived.WalkKit
import Derived.WalkLawsBesides
import Derived.WalkSpells
namespace Go.Proofs.Ytionibckeicncaa
open Go Go.RowKit Go.Joins

noncomputable def codeal0 : Code := ((Try.f38.body.bind (findRegion 0)).getD .skip)
set_option maxRecDepth 100000 in
set_option maxHeartbeats 6400000 in
theorem reg_al0 (X0 : World) (base i j ij ix g o nb cb : Nat) (x : Int) (hX : X0.cell? ⟨g, o + ix, none⟩ = some (.int .i64 x)) (hij : ij = i + j) (hix : ix + 1 = ij) (hx : ix < nb) (hb : nb ≤ 100000) (hi : i ≤ 100000) (hj : j ≤ 100000) (hbase : base ≤ X0.heap.size)
    (QQ : Exit → Act → World → Prop)
    {v0 v3 v4 v6 v7 v8 v9 v10 v11 v12 v13 v14 v15 v16 v17 v18 v19 v20 v21 v22 v23 v24 v25 v26 v27 v28 v29 v30 v31 v32 v33 v34 v35 v36 v37 v38 v39 v40 v41 v42 v43 v44 v45 v46 v47 v48 v49 v50 v51 v52 v53 v54 : Value}
    (hK : ∀ (rv : Value) (W : World) (u13 u14 u15 u16 u17 u18 u19 u20 u21 u22 : Value), Row isZ W base 3 rv 1 (zvs [x]) → Below X0.heap.size X0 W →
      QQ .normal ⟨#[v0, .int .i64 (i : Int), .int .i64 (j : Int), v3, v4, .slice (some ⟨g, o, none⟩) nb cb, v6, v7, v8, v9, v10, v11, rv, u13, u14, u15, u16, u17, u18, u19, u20, u21, u22, v23, v24, v25, v26, v27, v28, v29, v30, v31, v32, v33, v34, v35, v36, v37, v38, v39, v40, v41, v42, v43, v44, v45, v46, v47, v48, v49, v50, v51, v52, v53, v54], []⟩ W) :
    Code.wp Try.prog codeal0 QQ ⟨#[v0, .int .i64 (i : Int), .int .i64 (j : Int), v3, v4, .slice (some ⟨g, o, none⟩) nb cb, v6, v7, v8, v9, v10, v11, v12, v13, v14, v15, v16, v17, v18, v19, v20, v21, v22, v23, v24, v25, v26, v27, v28, v29, v30, v31, v32, v33, v34, v35, v36, v37, v38, v39, v40, v41, v42, v43, v44, v45, v46, v47, v48, v49, v50, v51, v52, v53, v54], []⟩ X0 := by
  have HKK := Lib.hid hK
  obtain ⟨i0, hi0, hz0, hz1, hz2⟩ := info_parts info_int
  have mk := fun W => run_make_cap (P := Try.prog) (t := 22) (e := 3) Try.underlying22 hi0 hz0 hz1 hz2 rfl 3 (3 : Int) rfl (by omega) (by omega) W
  have w1 : IntKind.i64.wrap ((i : Int) + (j : Int)) = (ij : Int) := by rw [show (i : Int) + (j : Int) = (ij : Int) by omega]; exact IntWalk.i64_in _ (by omega)
  have w2 : IntKind.i64.wrap ((ij : Int) - 1) = (ix : Int) := by rw [show (ij : Int) - 1 = (ix : Int) by omega]; exact IntWalk.i64_in _ (by omega)
  have c1 : (ix : Int) < (nb : Int) := by omega
  have c0 : (0 : Int) ≤ (ix : Int) := by omega
  have HBS := Lib.hid hbase
  have p0 := hX
  have p0X := Lib.hid hX
  clear hK hX hij hix hx hi hj hbase hb
  conv => arg 2; whnf
  refine wp_region_noPanic ?_
  refine wp_region_held (S := fun w' => w'.cell? ⟨g, o + ix, none⟩ = some (.int .i64 x)) (by kernel_rfl) ?_
  generalize hYY : ({ X0 with drawn := X0.drawn + 1 } : World) = Y0
  have HY0 : Hid (Below X0.heap.size X0 Y0) := by subst hYY; exact (Below.refl _ _).drew
  have HS0 : Hid (Y0.cell? ⟨g, o + ix, none⟩ = some (.int .i64 x)) := cell_below p0 HY0.out
  clear hYY
  clear p0
  refine wpAnyH_take (i := 1) (v := ?_) (by simp only [List.getElem?_toArray, List.getElem?_cons_zero, List.getElem?_cons_succ]; rfl) (by kernel_rfl) (by kernel_rfl) (by kernel_rfl) (fun _ _ _ h => h) (Or.inl ⟨by rfl, ?_⟩) HS0.out ?_
  rotate_left
  · intro w hSw
    (try dsimp only at hSw)
    have q0_ := hSw
    go_simp
    try with_reducible rfl
  try simp only [Act.put, List.setIfInBounds_toArray, List.set_cons_zero, List.set_cons_succ]
  refine wpAnyH_take (i := 2) (v := ?_) (by simp only [List.getElem?_toArray, List.getElem?_cons_zero, List.getElem?_cons_succ]; rfl) (by kernel_rfl) (by kernel_rfl) (by kernel_rfl) (fun _ _ _ h => h) (Or.inl ⟨by rfl, ?_⟩) HS0.out ?_
  rotate_left
  · intro w hSw
    (try dsimp only at hSw)
    have q0_ := hSw
    go_simp
    try with_reducible rfl
  try simp only [Act.put, List.setIfInBounds_toArray, List.set_cons_zero, List.set_cons_succ]
  refine wpAnyH_take (i := 3) (v := ?_) (by simp only [List.getElem?_toArray, List.getElem?_cons_zero, List.getElem?_cons_succ]; rfl) (by kernel_rfl) (by kernel_rfl) (by kernel_rfl) (fun _ _ _ h => h) (Or.inl ⟨by rfl, ?_⟩) HS0.out ?_
  rotate_left
  · intro w hSw
    (try dsimp only at hSw)
    have q0_ := hSw
    go_simp
    try with_reducible rfl
  try simp only [Act.put, List.setIfInBounds_toArray, List.set_cons_zero, List.set_cons_succ]
  refine wpAnyH_take (i := 4) (v := ?_) (by simp only [List.getElem?_toArray, List.getElem?_cons_zero, List.getElem?_cons_succ]; rfl) (by kernel_rfl) (by kernel_rfl) (by kernel_rfl) (fun _ _ _ h => h) (Or.inl ⟨by rfl, ?_⟩) HS0.out ?_
  rotate_left
  · intro w hSw
    (try dsimp only at hSw)
    have q0_ := hSw
    go_simp
    try with_reducible rfl
  try simp only [Act.put, List.setIfInBounds_toArray, List.set_cons_zero, List.set_cons_succ]
  refine wpAnyH_take (i := 5) (v := ?_) (by simp only [List.getElem?_toArray, List.getElem?_cons_zero, List.getElem?_cons_succ]; rfl) (by kernel_rfl) (by kernel_rfl) (by kernel_rfl) (fun _ _ _ h => h) (Or.inl ⟨by rfl, ?_⟩) HS0.out ?_
  rotate_left
  · intro w hSw
    (try dsimp only at hSw)
    have q0_ := hSw
    go_simp
    try with_reducible rfl
  try simp only [Act.put, List.setIfInBounds_toArray, List.set_cons_zero, List.set_cons_succ]
  refine wpAnyH_take (i := 6) (v := ?_) (by simp only [List.getElem?_toArray, List.getElem?_cons_zero, List.getElem?_cons_succ]; rfl) (by kernel_rfl) (by kernel_rfl) (by kernel_rfl) (fun _ _ _ h => h) (Or.inl ⟨by rfl, ?_⟩) HS0.out ?_
  rotate_left
  · intro w hSw
    (try dsimp only at hSw)
    have q0_ := hSw
    go_simp
    try with_reducible rfl
  try simp only [Act.put, List.setIfInBounds_toArray, List.set_cons_zero, List.set_cons_succ]
  refine wpAnyH_take (i := 7) (v := ?_) (by simp only [List.getElem?_toArray, List.getElem?_cons_zero, List.getElem?_cons_succ]; rfl) (by kernel_rfl) (by kernel_rfl) (by kernel_rfl) (fun _ _ _ h => h) (Or.inl ⟨by rfl, ?_⟩) HS0.out ?_
  rotate_left
  · intro w hSw
    (try dsimp only at hSw)
    have q0_ := hSw
    go_simp
    try with_reducible rfl
  try simp only [Act.put, List.setIfInBounds_toArray, List.set_cons_zero, List.set_cons_succ]
  refine wpAnyH_ready (rs := [0, 8]) (by kernel_rfl) (by simp) ?_
  refine (AllReadyH.cons (by simp only [List.getElem?_toArray, List.getElem?_cons_zero]; rfl) (fun K hK => ?_) (AllReadyH.cons (by simp only [List.getElem?_toArray, List.getElem?_cons_zero, List.getElem?_cons_succ]; rfl) (fun K hK => ?_) AllReadyH.nil))
  · go_simp
    generalize hYV : World.alloc Y0 _ = M1
    have HY_M1 : Hid (Below X0.heap.size X0 M1) := by subst hYV; exact ext_trans HY0.out (ext_alloc _ _)
    have HB_M1 : Hid (Below Y0.heap.size Y0 M1) := by subst hYV; exact ext_alloc _ _
    have HR1 : Hid (Row isZ M1 base 3 (.slice (some ⟨Y0.heap.size, 0, none⟩) 0 3) 0 []) := by subst hYV; exact Row.made_at _ 0 _ _ _ rfl rfl rfl (Nat.le_trans HBS.out HY0.out.size) (by decide) (by decide) (by intro u hu; simp [zeros] at hu; subst hu; exact isZ_zero)
    clear hYV
    have HS1 : Hid (M1.cell? ⟨g, o + ix, none⟩ = some (.int .i64 x)) := cell_below HS0.out HB_M1.out
    refine hK.out _ _ HS1.out (fun _ => ?_)
    clear hK K
    try simp only [Act.put, List.setIfInBounds_toArray, List.set_cons_zero, List.set_cons_succ]
    refine wpAnyH_ready (rs := [8]) (by kernel_rfl) (by simp) ?_
    refine AllReadyH.cons (by simp only [List.getElem?_toArray, List.getElem?_cons_zero, List.getElem?_cons_succ]; rfl) (fun K hK => ?_) AllReadyH.nil
    go_simp
    generalize hYV : World.alloc M1 _ = M2
    have HY_M2 : Hid (Below X0.heap.size X0 M2) := by subst hYV; exact ext_trans HY_M1.out (ext_alloc _ _)
    have HB_M2 : Hid (Below M1.heap.size M1 M2) := by subst hYV; exact ext_alloc _ _
    have HSE : Hid (Sees M2 (some ⟨M1.heap.size, 0, none⟩) 1 1 (zvs [x])) := by subst hYV; exact sees_one_z M1 (x)
    clear hYV
    have HS2 : Hid (M2.cell? ⟨g, o + ix, none⟩ = some (.int .i64 x)) := cell_below HS1.out HB_M2.out
    have HR2 := Lib.hid (HR1.out.below HB_M2.out)
    have HG2 : Hid (∀ k, (Value.slice (some ⟨Y0.heap.size, 0, none⟩) 0 3).ownBlock = some k → X0.heap.size ≤ k) := fun k hk => by have h1 : Y0.heap.size = k := (by simpa [Value.ownBlock] using hk); exact h1 ▸ HY0.out.size
    refine hK.out _ _ HS2.out (fun _ => ?_)
    clear hK K
    try simp only [Act.put, List.setIfInBounds_toArray, List.set_cons_zero, List.set_cons_succ]
    refine wpAnyH_ready (rs := [9]) (by kernel_rfl) (by simp) ?_
    refine AllReadyH.cons (by simp only [List.getElem?_toArray, List.getElem?_cons_zero, List.getElem?_cons_succ]; rfl) (fun K hK => ?_) AllReadyH.nil
    refine step_append_row isZ _ rfl _ _ 22 rfl base 3 i0 (.int .i64 0) 8 Try.underlying22 hi0 hz0 hz1 hz2 rfl isZ_zero _ 0 [] (by rfl) HR2.out (some ⟨M1.heap.size, 0, none⟩) 1 1 (zvs [x]) (by rfl) HSE.out (zvs_one _) (isZ_zvs [x]) (by unfold maxLen; omega) (by omega) (Nat.le_trans HBS.out HY_M2.out.size) ?_
    intro rv wz hrow hg
    rw [List.nil_append] at hrow
    have hbz : Below X0.heap.size X0 wz := HY_M2.out.grown hg HY_M2.out.size (fun k hk => ?_)
    rotate_left
    · exact HG2.out k hk
    have HSZ : Hid (wz.cell? ⟨g, o + ix, none⟩ = some (.int .i64 x)) := cell_below p0X.out hbz
    refine hK.out _ _ HSZ.out (fun _ => ?_)
    clear hK K
    try simp only [Act.put, List.setIfInBounds_toArray, List.set_cons_zero, List.set_cons_succ]
    refine wpAnyH_take (i := 10) (v := ?_) (by simp only [List.getElem?_toArray, List.getElem?_cons_zero, List.getElem?_cons_succ]; rfl) (by kernel_rfl) (by kernel_rfl) (by kernel_rfl) (fun _ _ _ h => h) (Or.inl ⟨by rfl, ?_⟩) HSZ.out ?_
    rotate_left
    · intro w hSw
      (try dsimp only at hSw)
      have q0_ := hSw
      go_simp
      try with_reducible rfl
    try simp only [Act.put, List.setIfInBounds_toArray, List.set_cons_zero, List.set_cons_succ]
    refine wpAnyH_done (by kernel_rfl) ?_ _
    refine NoPanic.normal ?_
    exact HKK.out _ _ _ _ _ _ _ _ _ _ _ _ hrow hbz
  · go_simp
    generalize hYV : World.alloc Y0 _ = M1
    have HY_M1 : Hid (Below X0.heap.size X0 M1) := by subst hYV; exact ext_trans HY0.out (ext_alloc _ _)
    have HB_M1 : Hid (Below Y0.heap.size Y0 M1) := by subst hYV; exact ext_alloc _ _
    have HSE1 : Hid (Sees M1 (some ⟨Y0.heap.size, 0, none⟩) 1 1 (zvs [x])) := by subst hYV; exact sees_one_z Y0 (x)
    clear hYV
    have HS1 : Hid (M1.cell? ⟨g, o + ix, none⟩ = some (.int .i64 x)) := cell_below HS0.out HB_M1.out
    refine hK.out _ _ HS1.out (fun _ => ?_)
    clear hK K
    try simp only [Act.put, List.setIfInBounds_toArray, List.set_cons_zero, List.set_cons_succ]
    refine wpAnyH_ready (rs := [0]) (by kernel_rfl) (by simp) ?_
    refine AllReadyH.cons (by simp only [List.getElem?_toArray, List.getElem?_cons_zero]; rfl) (fun K hK => ?_) AllReadyH.nil
    go_simp
    generalize hYV : World.alloc M1 _ = M2
    have HY_M2 : Hid (Below X0.heap.size X0 M2) := by subst hYV; exact ext_trans HY_M1.out (ext_alloc _ _)
    have HB_M2 : Hid (Below M1.heap.size M1 M2) := by subst hYV; exact ext_alloc _ _
    have HR2 : Hid (Row isZ M2 base 3 (.slice (some ⟨M1.heap.size, 0, none⟩) 0 3) 0 []) := by subst hYV; exact Row.made_at _ 0 _ _ _ rfl rfl rfl (Nat.le_trans HBS.out HY_M1.out.size) (by decide) (by decide) (by intro u hu; simp [zeros] at hu; subst hu; exact isZ_zero)
    clear hYV
    have HS2 : Hid (M2.cell? ⟨g, o + ix, none⟩ = some (.int .i64 x)) := cell_below HS1.out HB_M2.out
    have HSE := Lib.hid (HSE1.out.below HB_M2.out)
    have HG2 : Hid (∀ k, (Value.slice (some ⟨M1.heap.size, 0, none⟩) 0 3).ownBlock = some k → X0.heap.size ≤ k) := fun k hk => by have h1 : M1.heap.size = k := (by simpa [Value.ownBlock] using hk); exact h1 ▸ HY_M1.out.size
    refine hK.out _ _ HS2.out (fun _ => ?_)
    clear hK K
    try simp only [Act.put, List.setIfInBounds_toArray, List.set_cons_zero, List.set_cons_succ]
    refine wpAnyH_ready (rs := [9]) (by kernel_rfl) (by simp) ?_
    refine AllReadyH.cons (by simp only [List.getElem?_toArray, List.getElem?_cons_zero, List.getElem?_cons_succ]; rfl) (fun K hK => ?_) AllReadyH.nil
    refine step_append_row isZ _ rfl _ _ 22 rfl base 3 i0 (.int .i64 0) 8 Try.underlying22 hi0 hz0 hz1 hz2 rfl isZ_zero _ 0 [] (by rfl) HR2.out (some ⟨Y0.heap.size, 0, none⟩) 1 1 (zvs [x]) (by rfl) HSE.out (zvs_one _) (isZ_zvs [x]) (by unfold maxLen; omega) (by omega) (Nat.le_trans HBS.out HY_M2.out.size) ?_
    intro rv wz hrow hg
    rw [List.nil_append] at hrow
    have hbz : Below X0.heap.size X0 wz := HY_M2.out.grown hg HY_M2.out.size (fun k hk => ?_)
    rotate_left
    · exact HG2.out k hk
    have HSZ : Hid (wz.cell? ⟨g, o + ix, none⟩ = some (.int .i64 x)) := cell_below p0X.out hbz
    refine hK.out _ _ HSZ.out (fun _ => ?_)
    clear hK K
    try simp only [Act.put, List.setIfInBounds_toArray, List.set_cons_zero, List.set_cons_succ]
    refine wpAnyH_take (i := 10) (v := ?_) (by simp only [List.getElem?_toArray, List.getElem?_cons_zero, List.getElem?_cons_succ]; rfl) (by kernel_rfl) (by kernel_rfl) (by kernel_rfl) (fun _ _ _ h => h) (Or.inl ⟨by rfl, ?_⟩) HSZ.out ?_
    rotate_left
    · intro w hSw
      (try dsimp only at hSw)
      have q0_ := hSw
      go_simp
      try with_reducible rfl
    try simp only [Act.put, List.setIfInBounds_toArray, List.set_cons_zero, List.set_cons_succ]
    refine wpAnyH_done (by kernel_rfl) ?_ _
    refine NoPanic.normal ?_
    exact HKK.out _ _ _ _ _ _ _ _ _ _ _ _ hrow hbz
noncomputable def codeam0 : Code := ((Try.f39.body.bind (findRegion 0)).getD .skip)
set_option maxRecDepth 100000 in
set_option maxHeartbeats 6400000 in
theorem reg_am0 (X0 : World) (base i j ij ix g o nb cb : Nat) (x : Int) (hX : X0.cell? ⟨g, o + ix, none⟩ = some (.int .i64 x)) (hij : ij = i + j) (hix : ix = ij) (hx : ix < nb) (hi : i ≤ 100000) (hj : j ≤ 100000) (hbase : base ≤ X0.heap.size) (hx0 : x.natAbs ≤ 100000000)
    (QQ : Exit → Act → World → Prop)
    {v0 v3 v4 v6 v7 v8 v9 v10 v11 v12 v13 v14 v15 v16 v17 v18 v19 v20 v21 v22 v23 v24 v25 v26 v27 v28 v29 v30 v31 v32 v33 v34 v35 v36 v37 v38 v39 v40 v41 v42 v43 v44 v45 v46 v47 v48 v49 v50 v51 v52 v53 v54 : Value}
    (hK : ∀ (rv : Value) (W : World) (u13 u14 u15 u16 u17 u18 u19 u20 u21 u22 : Value), Row isZ W base 3 rv 1 (zvs [-x]) → Below X0.heap.size X0 W →
      QQ .normal ⟨#[v0, .int .i64 (i : Int), .int .i64 (j : Int), v3, v4, .slice (some ⟨g, o, none⟩) nb cb, v6, v7, v8, v9, v10, v11, rv, u13, u14, u15, u16, u17, u18, u19, u20, u21, u22, v23, v24, v25, v26, v27, v28, v29, v30, v31, v32, v33, v34, v35, v36, v37, v38, v39, v40, v41, v42, v43, v44, v45, v46, v47, v48, v49, v50, v51, v52, v53, v54], []⟩ W) :
    Code.wp Try.prog codeam0 QQ ⟨#[v0, .int .i64 (i : Int), .int .i64 (j : Int), v3, v4, .slice (some ⟨g, o, none⟩) nb cb, v6, v7, v8, v9, v10, v11, v12, v13, v14, v15, v16, v17, v18, v19, v20, v21, v22, v23, v24, v25, v26, v27, v28, v29, v30, v31, v32, v33, v34, v35, v36, v37, v38, v39, v40, v41, v42, v43, v44, v45, v46, v47, v48, v49, v50, v51, v52, v53, v54], []⟩ X0 := by
  have HKK := Lib.hid hK
  obtain ⟨i0, hi0, hz0, hz1, hz2⟩ := info_parts info_int
  have mk := fun W => run_make_cap (P := Try.prog) (t := 22) (e := 3) Try.underlying22 hi0 hz0 hz1 hz2 rfl 3 (3 : Int) rfl (by omega) (by omega) W
  have w1 : IntKind.i64.wrap ((i : Int) + (j : Int)) = (ij : Int) := by rw [show (i : Int) + (j : Int) = (ij : Int) by omega]; exact IntWalk.i64_in _ (by omega)
  have w2 : IntKind.i64.wrap (-x) = -x := IntWalk.i64_in _ (by omega)
  have w1b : IntKind.i64.wrap ((i : Int) + (j : Int)) = (ix : Int) := by rw [hix]; exact w1
  clear w1
  have c1 : (ix : Int) < (nb : Int) := by omega
  have c0 : (0 : Int) ≤ (ix : Int) := by omega
  have HBS := Lib.hid hbase
  have p0 := hX
  have p0X := Lib.hid hX
  clear hK hX hij hix hx hi hj hbase hx0
  conv => arg 2; whnf
  refine wp_region_noPanic ?_
  refine wp_region_held (S := fun w' => w'.cell? ⟨g, o + ix, none⟩ = some (.int .i64 x)) (by kernel_rfl) ?_
  generalize hYY : ({ X0 with drawn := X0.drawn + 1 } : World) = Y0
  have HY0 : Hid (Below X0.heap.size X0 Y0) := by subst hYY; exact (Below.refl _ _).drew
  have HS0 : Hid (Y0.cell? ⟨g, o + ix, none⟩ = some (.int .i64 x)) := cell_below p0 HY0.out
  clear hYY
  clear p0
  refine wpAnyH_take (i := 1) (v := ?_) (by simp only [List.getElem?_toArray, List.getElem?_cons_zero, List.getElem?_cons_succ]; rfl) (by kernel_rfl) (by kernel_rfl) (by kernel_rfl) (fun _ _ _ h => h) (Or.inl ⟨by rfl, ?_⟩) HS0.out ?_
  rotate_left
  · intro w hSw
    (try dsimp only at hSw)
    have q0_ := hSw
    go_simp
    try with_reducible rfl
  try simp only [Act.put, List.setIfInBounds_toArray, List.set_cons_zero, List.set_cons_succ]
  refine wpAnyH_take (i := 2) (v := ?_) (by simp only [List.getElem?_toArray, List.getElem?_cons_zero, List.getElem?_cons_succ]; rfl) (by kernel_rfl) (by kernel_rfl) (by kernel_rfl) (fun _ _ _ h => h) (Or.inl ⟨by rfl, ?_⟩) HS0.out ?_
  rotate_left
  · intro w hSw
    (try dsimp only at hSw)
    have q0_ := hSw
    go_simp
    try with_reducible rfl
  try simp only [Act.put, List.setIfInBounds_toArray, List.set_cons_zero, List.set_cons_succ]
  refine wpAnyH_take (i := 3) (v := ?_) (by simp only [List.getElem?_toArray, List.getElem?_cons_zero, List.getElem?_cons_succ]; rfl) (by kernel_rfl) (by kernel_rfl) (by kernel_rfl) (fun _ _ _ h => h) (Or.inl ⟨by rfl, ?_⟩) HS0.out ?_
  rotate_left
  · intro w hSw
    (try dsimp only at hSw)
    have q0_ := hSw
    go_simp
    try with_reducible rfl
  try simp only [Act.put, List.setIfInBounds_toArray, List.set_cons_zero, List.set_cons_succ]
  refine wpAnyH_take (i := 4) (v := ?_) (by simp only [List.getElem?_toArray, List.getElem?_cons_zero, List.getElem?_cons_succ]; rfl) (by kernel_rfl) (by kernel_rfl) (by kernel_rfl) (fun _ _ _ h => h) (Or.inl ⟨by rfl, ?_⟩) HS0.out ?_
  rotate_left
  · intro w hSw
    (try dsimp only at hSw)
    have q0_ := hSw
    go_simp
    try with_reducible rfl
  try simp only [Act.put, List.setIfInBounds_toArray, List.set_cons_zero, List.set_cons_succ]
  refine wpAnyH_take (i := 5) (v := ?_) (by simp only [List.getElem?_toArray, List.getElem?_cons_zero, List.getElem?_cons_succ]; rfl) (by kernel_rfl) (by kernel_rfl) (by kernel_rfl) (fun _ _ _ h => h) (Or.inl ⟨by rfl, ?_⟩) HS0.out ?_
  rotate_left
  · intro w hSw
    (try dsimp only at hSw)
    have q0_ := hSw
    go_simp
    try with_reducible rfl
  try simp only [Act.put, List.setIfInBounds_toArray, List.set_cons_zero, List.set_cons_succ]
  refine wpAnyH_take (i := 6) (v := ?_) (by simp only [List.getElem?_toArray, List.getElem?_cons_zero, List.getElem?_cons_succ]; rfl) (by kernel_rfl) (by kernel_rfl) (by kernel_rfl) (fun _ _ _ h => h) (Or.inl ⟨by rfl, ?_⟩) HS0.out ?_
  rotate_left
  · intro w hSw
    (try dsimp only at hSw)
    have q0_ := hSw
    go_simp
    try with_reducible rfl
  try simp only [Act.put, List.setIfInBounds_toArray, List.set_cons_zero, List.set_cons_succ]
  refine wpAnyH_take (i := 7) (v := ?_) (by simp only [List.getElem?_toArray, List.getElem?_cons_zero, List.getElem?_cons_succ]; rfl) (by kernel_rfl) (by kernel_rfl) (by kernel_rfl) (fun _ _ _ h => h) (Or.inl ⟨by rfl, ?_⟩) HS0.out ?_
  rotate_left
  · intro w hSw
    (try dsimp only at hSw)
    have q0_ := hSw
    go_simp
    try with_reducible rfl
  try simp only [Act.put, List.setIfInBounds_toArray, List.set_cons_zero, List.set_cons_succ]
  refine wpAnyH_ready (rs := [0, 8]) (by kernel_rfl) (by simp) ?_
  refine (AllReadyH.cons (by simp only [List.getElem?_toArray, List.getElem?_cons_zero]; rfl) (fun K hK => ?_) (AllReadyH.cons (by simp only [List.getElem?_toArray, List.getElem?_cons_zero, List.getElem?_cons_succ]; rfl) (fun K hK => ?_) AllReadyH.nil))
  · go_simp
    generalize hYV : World.alloc Y0 _ = M1
    have HY_M1 : Hid (Below X0.heap.size X0 M1) := by subst hYV; exact ext_trans HY0.out (ext_alloc _ _)
    have HB_M1 : Hid (Below Y0.heap.size Y0 M1) := by subst hYV; exact ext_alloc _ _
    have HR1 : Hid (Row isZ M1 base 3 (.slice (some ⟨Y0.heap.size, 0, none⟩) 0 3) 0 []) := by subst hYV; exact Row.made_at _ 0 _ _ _ rfl rfl rfl (Nat.le_trans HBS.out HY0.out.size) (by decide) (by decide) (by intro u hu; simp [zeros] at hu; subst hu; exact isZ_zero)
    clear hYV
    have HS1 : Hid (M1.cell? ⟨g, o + ix, none⟩ = some (.int .i64 x)) := cell_below HS0.out HB_M1.out
    refine hK.out _ _ HS1.out (fun _ => ?_)
    clear hK K
    try simp only [Act.put, List.setIfInBounds_toArray, List.set_cons_zero, List.set_cons_succ]
    refine wpAnyH_ready (rs := [8]) (by kernel_rfl) (by simp) ?_
    refine AllReadyH.cons (by simp only [List.getElem?_toArray, List.getElem?_cons_zero, List.getElem?_cons_succ]; rfl) (fun K hK => ?_) AllReadyH.nil
    go_simp
    generalize hYV : World.alloc M1 _ = M2
    have HY_M2 : Hid (Below X0.heap.size X0 M2) := by subst hYV; exact ext_trans HY_M1.out (ext_alloc _ _)
    have HB_M2 : Hid (Below M1.heap.size M1 M2) := by subst hYV; exact ext_alloc _ _
    have HSE : Hid (Sees M2 (some ⟨M1.heap.size, 0, none⟩) 1 1 (zvs [-x])) := by subst hYV; exact sees_one_z M1 (-x)
    clear hYV
    have HS2 : Hid (M2.cell? ⟨g, o + ix, none⟩ = some (.int .i64 x)) := cell_below HS1.out HB_M2.out
    have HR2 := Lib.hid (HR1.out.below HB_M2.out)
    have HG2 : Hid (∀ k, (Value.slice (some ⟨Y0.heap.size, 0, none⟩) 0 3).ownBlock = some k → X0.heap.size ≤ k) := fun k hk => by have h1 : Y0.heap.size = k := (by simpa [Value.ownBlock] using hk); exact h1 ▸ HY0.out.size
    refine hK.out _ _ HS2.out (fun _ => ?_)
    clear hK K
    try simp only [Act.put, List.setIfInBounds_toArray, List.set_cons_zero, List.set_cons_succ]
    refine wpAnyH_ready (rs := [9]) (by kernel_rfl) (by simp) ?_
    refine AllReadyH.cons (by simp only [List.getElem?_toArray, List.getElem?_cons_zero, List.getElem?_cons_succ]; rfl) (fun K hK => ?_) AllReadyH.nil
    refine step_append_row isZ _ rfl _ _ 22 rfl base 3 i0 (.int .i64 0) 8 Try.underlying22 hi0 hz0 hz1 hz2 rfl isZ_zero _ 0 [] (by rfl) HR2.out (some ⟨M1.heap.size, 0, none⟩) 1 1 (zvs [-x]) (by rfl) HSE.out (zvs_one _) (isZ_zvs [-x]) (by unfold maxLen; omega) (by omega) (Nat.le_trans HBS.out HY_M2.out.size) ?_
    intro rv wz hrow hg
    rw [List.nil_append] at hrow
    have hbz : Below X0.heap.size X0 wz := HY_M2.out.grown hg HY_M2.out.size (fun k hk => ?_)
    rotate_left
    · exact HG2.out k hk
    have HSZ : Hid (wz.cell? ⟨g, o + ix, none⟩ = some (.int .i64 x)) := cell_below p0X.out hbz
    refine hK.out _ _ HSZ.out (fun _ => ?_)
    clear hK K
    try simp only [Act.put, List.setIfInBounds_toArray, List.set_cons_zero, List.set_cons_succ]
    refine wpAnyH_take (i := 10) (v := ?_) (by simp only [List.getElem?_toArray, List.getElem?_cons_zero, List.getElem?_cons_succ]; rfl) (by kernel_rfl) (by kernel_rfl) (by kernel_rfl) (fun _ _ _ h => h) (Or.inl ⟨by rfl, ?_⟩) HSZ.out ?_
    rotate_left
    · intro w hSw
      (try dsimp only at hSw)
      have q0_ := hSw
      go_simp
      try with_reducible rfl
    try simp only [Act.put, List.setIfInBounds_toArray, List.set_cons_zero, List.set_cons_succ]
    refine wpAnyH_done (by kernel_rfl) ?_ _
    refine NoPanic.normal ?_
    exact HKK.out _ _ _ _ _ _ _ _ _ _ _ _ hrow hbz
  · go_simp
    generalize hYV : World.alloc Y0 _ = M1
    have HY_M1 : Hid (Below X0.heap.size X0 M1) := by subst hYV; exact ext_trans HY0.out (ext_alloc _ _)
    have HB_M1 : Hid (Below Y0.heap.size Y0 M1) := by subst hYV; exact ext_alloc _ _
    have HSE1 : Hid (Sees M1 (some ⟨Y0.heap.size, 0, none⟩) 1 1 (zvs [-x])) := by subst hYV; exact sees_one_z Y0 (-x)
    clear hYV
    have HS1 : Hid (M1.cell? ⟨g, o + ix, none⟩ = some (.int .i64 x)) := cell_below HS0.out HB_M1.out
    refine hK.out _ _ HS1.out (fun _ => ?_)
    clear hK K
    try simp only [Act.put, List.setIfInBounds_toArray, List.set_cons_zero, List.set_cons_succ]
    refine wpAnyH_ready (rs := [0]) (by kernel_rfl) (by simp) ?_
    refine AllReadyH.cons (by simp only [List.getElem?_toArray, List.getElem?_cons_zero]; rfl) (fun K hK => ?_) AllReadyH.nil
    go_simp
    generalize hYV : World.alloc M1 _ = M2
    have HY_M2 : Hid (Below X0.heap.size X0 M2) := by subst hYV; exact ext_trans HY_M1.out (ext_alloc _ _)
    have HB_M2 : Hid (Below M1.heap.size M1 M2) := by subst hYV; exact ext_alloc _ _
    have HR2 : Hid (Row isZ M2 base 3 (.slice (some ⟨M1.heap.size, 0, none⟩) 0 3) 0 []) := by subst hYV; exact Row.made_at _ 0 _ _ _ rfl rfl rfl (Nat.le_trans HBS.out HY_M1.out.size) (by decide) (by decide) (by intro u hu; simp [zeros] at hu; subst hu; exact isZ_zero)
    clear hYV
    have HS2 : Hid (M2.cell? ⟨g, o + ix, none⟩ = some (.int .i64 x)) := cell_below HS1.out HB_M2.out
    have HSE := Lib.hid (HSE1.out.below HB_M2.out)
    have HG2 : Hid (∀ k, (Value.slice (some ⟨M1.heap.size, 0, none⟩) 0 3).ownBlock = some k → X0.heap.size ≤ k) := fun k hk => by have h1 : M1.heap.size = k := (by simpa [Value.ownBlock] using hk); exact h1 ▸ HY_M1.out.size
    refine hK.out _ _ HS2.out (fun _ => ?_)
    clear hK K
    try simp only [Act.put, List.setIfInBounds_toArray, List.set_cons_zero, List.set_cons_succ]
    refine wpAnyH_ready (rs := [9]) (by kernel_rfl) (by simp) ?_
    refine AllReadyH.cons (by simp only [List.getElem?_toArray, List.getElem?_cons_zero, List.getElem?_cons_succ]; rfl) (fun K hK => ?_) AllReadyH.nil
    refine step_append_row isZ _ rfl _ _ 22 rfl base 3 i0 (.int .i64 0) 8 Try.underlying22 hi0 hz0 hz1 hz2 rfl isZ_zero _ 0 [] (by rfl) HR2.out (some ⟨Y0.heap.size, 0, none⟩) 1 1 (zvs [-x]) (by rfl) HSE.out (zvs_one _) (isZ_zvs [-x]) (by unfold maxLen; omega) (by omega) (Nat.le_trans HBS.out HY_M2.out.size) ?_
    intro rv wz hrow hg
    rw [List.nil_append] at hrow
    have hbz : Below X0.heap.size X0 wz := HY_M2.out.grown hg HY_M2.out.size (fun k hk => ?_)
    rotate_left
    · exact HG2.out k hk
    have HSZ : Hid (wz.cell? ⟨g, o + ix, none⟩ = some (.int .i64 x)) := cell_below p0X.out hbz
    refine hK.out _ _ HSZ.out (fun _ => ?_)
    clear hK K
    try simp only [Act.put, List.setIfInBounds_toArray, List.set_cons_zero, List.set_cons_succ]
    refine wpAnyH_take (i := 10) (v := ?_) (by simp only [List.getElem?_toArray, List.getElem?_cons_zero, List.getElem?_cons_succ]; rfl) (by kernel_rfl) (by kernel_rfl) (by kernel_rfl) (fun _ _ _ h => h) (Or.inl ⟨by rfl, ?_⟩) HSZ.out ?_
    rotate_left
    · intro w hSw
      (try dsimp only at hSw)
      have q0_ := hSw
      go_simp
      try with_reducible rfl
    try simp only [Act.put, List.setIfInBounds_toArray, List.set_cons_zero, List.set_cons_succ]
    refine wpAnyH_done (by kernel_rfl) ?_ _
    refine NoPanic.normal ?_
    exact HKK.out _ _ _ _ _ _ _ _ _ _ _ _ hrow hbz
end Go.Proofs.Ytionibckeicncaa
