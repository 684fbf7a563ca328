/- Numbers as cells. -/
import Derived.Test.YtglhnmbfkbjemaaGreatDoorLib
import Derived.Test.YtglhnmbfkbjemaaGreatDoorNRaw
import Derived.Test.YtglhnmbfkbjemaaGreatDoorNRefMay3
import Derived.Test.YtglhnmbfkbjemaaGreatDoorBkJ
import Derived.Test.YtglhnmbfkbjemaaGreatDoorBkE
/- A region of a function's body, taken out by its number. -/
namespace Go.Proofs.YtglhnmbfkbjemaaGreatDoor
open Go
def findRegion (n : Nat) : Code → Option Code
  | .region k o d => if k = n then some (.region k o d) else none
  | .seq a b => match findRegion n a with
    | some c => some c
    | none => findRegion n b
  | .block _ c => findRegion n c
  | .scope c => findRegion n c
  | .loop c => findRegion n c
  | .cond _ a b => match findRegion n a with
    | some c => some c
    | none => findRegion n b
  | _ => none
end Go.Proofs.YtglhnmbfkbjemaaGreatDoor
/- The reference's Raw appends: a drawn region, over whatever frame. -/
namespace Go.Proofs.YtglhnmbfkbjemaaGreatDoor
open Go Go.RowKit Go.Joins
noncomputable def codeNRefRawA : Code := ((Tryz.f10.body.bind (findRegion 17)).getD .skip)
set_option maxRecDepth 100000 in
set_option maxHeartbeats 25600000 in
theorem reg_NRefRawA (RB X b off k nn vv y zr base : Nat) (cc : Nat) (va : Option Addr) (vc : Nat) (L : List Value) (X0 : World) {x0 x1 x3 x4 x5 xo : Value}
    (hC : X0.heap[RB]? = some (.cells #[x0, x1, .slice va k vc, x3, x4, x5, xo] 39 (0, 0)))
    (hX : X0.cell? ⟨X, 1, none⟩ = some (.slice (some ⟨b, off, .none⟩) nn cc)) (hk : k < nn)
    (hE0 : X0.cell? ⟨b, off + k * 2, none⟩ = some (.int .u32 y))
    (hXb : X < base) (hbb : b < base) (hvv : vv ≤ 1000000)
    (HOWN : Hid (X0.ownsRow base 55 3 (.slice va k vc) k L)) (hbase : base ≤ X0.heap.size) (hq4 : k + 1 ≤ maxLen) (hq5 : (k + 1) * 12 ≤ 140737488355328)
    (QQ : Exit → Act → World → Prop) {v0 v2 v3 v6 v9 v10 v11 v12 v13 v14 v15 v16 v17 v18 v19 v20 v21 v22 v23 v24 v25 v26 v27 v28 v29 v30 v31 v32 v33 v34 v35 v36 v37 v38 v39 v40 v41 v42 v43 v44 v45 v46 v47 v48 v49 v50 v51 v52 v53 v54 v55 v56 v57 v58 v59 v60 v61 v62 v63 v64 v65 v66 v67 v68 v69 v70 v71 v72 v73 v74 v75 v76 v77 v78 v79 v80 v81 v82 v83 v84 v85 v86 v87 v88 v89 v90 v91 v92 v93 v94 v95 v96 v97 v98 v99 v100 v101 v102 v103 v104 v105 v106 v107 v108 v109 v110 v111 v112 v113 v114 v115 : Value}
    (hK : ∀ (a' : Option Addr) (c' : Nat) (s2 w2 : World) (u54 u55 u56 u57 u58 u59 u60 u61 u62 u63 u64 u65 u66 u67 u68 : Value), Below X0.heap.size X0 s2 → s2.grownBy w2 (Value.slice va k vc).ownBlock → w2.ownsRow base 55 3 (.slice a' (k + 1) c') (k + 1) (L ++ [.int .u32 (2 * (vv : Int)), .int .u32 y, .int .u32 zr]) → QQ .normal ⟨#[v0, .pointer (some ⟨X, 0, .none⟩), v2, v3, .pointer (some ⟨RB, 0, .none⟩), .int .u32 vv, v6, .int .i64 k, .int .u32 zr, v9, v10, v11, v12, v13, v14, v15, 
      v16, v17, v18, v19, v20, v21, v22, v23, v24, v25, v26, v27, v28, v29, v30, v31, v32, v33, v34, v35, v36, v37, v38, v39, v40, v41, v42, v43, v44, v45, v46, 
      v47, v48, v49, v50, v51, v52, v53, u54, u55, u56, u57, u58, u59, u60, u61, u62, u63, u64, u65, u66, u67, u68, v69, v70, v71, v72, v73, v74, v75, v76, v77, 
      v78, v79, v80, v81, v82, v83, v84, v85, v86, v87, v88, v89, v90, v91, v92, v93, v94, v95, v96, v97, v98, v99, v100, v101, v102, v103, v104, v105, v106, 
      v107, v108, v109, v110, v111, v112, v113, v114, v115], []⟩ (w2.setCell ⟨RB, 2, none⟩ (.slice a' (k + 1) c'))) :
    Code.wp Tryz.prog codeNRefRawA QQ ⟨#[v0, .pointer (some ⟨X, 0, .none⟩), v2, v3, .pointer (some ⟨RB, 0, .none⟩), .int .u32 vv, v6, .int .i64 k, .int .u32 zr, v9, v10, v11, v12, v13, v14, v15, 
      v16, v17, v18, v19, v20, v21, v22, v23, v24, v25, v26, v27, v28, v29, v30, v31, v32, v33, v34, v35, v36, v37, v38, v39, v40, v41, v42, v43, v44, v45, v46, 
      v47, v48, v49, v50, v51, v52, v53, v54, v55, v56, v57, v58, v59, v60, v61, v62, v63, v64, v65, v66, v67, v68, v69, v70, v71, v72, v73, v74, v75, v76, v77, 
      v78, v79, v80, v81, v82, v83, v84, v85, v86, v87, v88, v89, v90, v91, v92, v93, v94, v95, v96, v97, v98, v99, v100, v101, v102, v103, v104, v105, v106, 
      v107, v108, v109, v110, v111, v112, v113, v114, v115], []⟩ X0 := by
  obtain ⟨il, hil, hzl0, hzl1, hzl2⟩ := info_parts info_lat
  have M1 : IntKind.u32.wrap (2 * (vv : Int)) = 2 * (vv : Int) := IntWalk.u32_in _ (by omega)
  conv => arg 2; whnf
  refine wp_region_noPanic ?_
  refine wp_region_peelN 15 (by kernel_rfl) rfl (by simp only [List.getElem?_toArray, List.getElem?_cons_zero, List.getElem?_cons_succ]; rfl) (by kernel_rfl) ?_
  simp only [List.pop_toArray, List.dropLast_cons_cons, List.dropLast_singleton]
  refine wpAny_of_held (S := fun w' => w'.cell? ⟨RB, 2, none⟩ = some (.slice va k vc) ∧ w'.cell? ⟨X, 1, none⟩ = some (.slice (some ⟨b, off, .none⟩) nn cc) ∧ w'.cell? ⟨b, off + k * 2, none⟩ = some (.int .u32 y)) _ _ _ _ ?_
  generalize hY : X0.drew = Y0
  have hY0 : Below X0.heap.size X0 Y0 := by subst hY; exact (Below.refl _ _).drew
  have HELDB : Hid (∀ W : World, W.heap[RB]? = some (.cells #[x0, x1, .slice va k vc, x3, x4, x5, xo] 39 (0, 0)) → W.heap[X]? = X0.heap[X]? → W.heap[b]? = X0.heap[b]? → (W.cell? ⟨RB, 2, none⟩ = some (.slice va k vc) ∧ W.cell? ⟨X, 1, none⟩ = some (.slice (some ⟨b, off, .none⟩) nn cc) ∧ W.cell? ⟨b, off + k * 2, none⟩ = some (.int .u32 y))) := fun W h1 h2 h3 => ⟨cell_of_block h1 2, (World.cell?_of_block h2).trans hX, (World.cell?_of_block h3).trans hE0⟩
  have HC := Lib.hid hC
  have hXl := cell_lt hX
  have hbl := cell_lt hE0
  have HELD := Lib.hid (HELDB.out Y0 (heap_below hC hY0) (hY0.block X hXl) (hY0.block b hbl))
  have HY0 := Lib.hid hY0
  clear hY hY0 hC hX hE0
  refine wpAnyH_take (i := 0) (v := ?_) (by simp only [List.getElem?_toArray, List.getElem?_cons_zero]; rfl) (by kernel_rfl) (by kernel_rfl) (by kernel_rfl) (fun _ _ _ h => h) (Or.inl ⟨by rfl, ?_⟩) HELD.out ?_
  rotate_left
  · intro w hSw
    (try dsimp only at hSw)
    obtain ⟨q0, q1, q2⟩ := hSw
    go_simp
    try with_reducible rfl
  try simp only [Act.put, List.setIfInBounds_toArray, List.set_cons_zero, List.set_cons_succ]
  refine wpAnyH_take (i := 1) (v := ?_) (by simp only [List.getElem?_toArray, List.getElem?_cons_zero, List.getElem?_cons_succ]; rfl) (by kernel_rfl) (by kernel_rfl) (by kernel_rfl) (fun _ _ _ h => h) (Or.inl ⟨by rfl, ?_⟩) HELD.out ?_
  rotate_left
  · intro w hSw
    (try dsimp only at hSw)
    obtain ⟨q0, q1, q2⟩ := hSw
    go_simp
    try with_reducible rfl
  try simp only [Act.put, List.setIfInBounds_toArray, List.set_cons_zero, List.set_cons_succ]
  refine wpAnyH_take (i := 2) (v := ?_) (by simp only [List.getElem?_toArray, List.getElem?_cons_zero, List.getElem?_cons_succ]; rfl) (by kernel_rfl) (by kernel_rfl) (by kernel_rfl) (fun _ _ _ h => h) (Or.inl ⟨by rfl, ?_⟩) HELD.out ?_
  rotate_left
  · intro w hSw
    (try dsimp only at hSw)
    obtain ⟨q0, q1, q2⟩ := hSw
    go_simp
    try with_reducible rfl
  try simp only [Act.put, List.setIfInBounds_toArray, List.set_cons_zero, List.set_cons_succ]
  refine wpAnyH_take (i := 3) (v := ?_) (by simp only [List.getElem?_toArray, List.getElem?_cons_zero, List.getElem?_cons_succ]; rfl) (by kernel_rfl) (by kernel_rfl) (by kernel_rfl) (fun _ _ _ h => h) (Or.inl ⟨by rfl, ?_⟩) HELD.out ?_
  rotate_left
  · intro w hSw
    (try dsimp only at hSw)
    obtain ⟨q0, q1, q2⟩ := hSw
    go_simp
    try with_reducible rfl
  try simp only [Act.put, List.setIfInBounds_toArray, List.set_cons_zero, List.set_cons_succ]
  refine wpAnyH_take (i := 4) (v := ?_) (by simp only [List.getElem?_toArray, List.getElem?_cons_zero, List.getElem?_cons_succ]; rfl) (by kernel_rfl) (by kernel_rfl) (by kernel_rfl) (fun _ _ _ h => h) (Or.inl ⟨by rfl, ?_⟩) HELD.out ?_
  rotate_left
  · intro w hSw
    (try dsimp only at hSw)
    obtain ⟨q0, q1, q2⟩ := hSw
    go_simp
    try with_reducible rfl
  try simp only [Act.put, List.setIfInBounds_toArray, List.set_cons_zero, List.set_cons_succ]
  refine wpAnyH_take (i := 5) (v := ?_) (by simp only [List.getElem?_toArray, List.getElem?_cons_zero, List.getElem?_cons_succ]; rfl) (by kernel_rfl) (by kernel_rfl) (by kernel_rfl) (fun _ _ _ h => h) (Or.inl ⟨by rfl, ?_⟩) HELD.out ?_
  rotate_left
  · intro w hSw
    (try dsimp only at hSw)
    obtain ⟨q0, q1, q2⟩ := hSw
    go_simp
    try with_reducible rfl
  try simp only [Act.put, List.setIfInBounds_toArray, List.set_cons_zero, List.set_cons_succ]
  refine wpAnyH_take (i := 6) (v := ?_) (by simp only [List.getElem?_toArray, List.getElem?_cons_zero, List.getElem?_cons_succ]; rfl) (by kernel_rfl) (by kernel_rfl) (by kernel_rfl) (fun _ _ _ h => h) (Or.inl ⟨by rfl, ?_⟩) HELD.out ?_
  rotate_left
  · intro w hSw
    (try dsimp only at hSw)
    obtain ⟨q0, q1, q2⟩ := hSw
    go_simp
    try with_reducible rfl
  try simp only [Act.put, List.setIfInBounds_toArray, List.set_cons_zero, List.set_cons_succ]
  refine wpAnyH_take (i := 7) (v := ?_) (by simp only [List.getElem?_toArray, List.getElem?_cons_zero, List.getElem?_cons_succ]; rfl) (by kernel_rfl) (by kernel_rfl) (by kernel_rfl) (fun _ _ _ h => h) (Or.inl ⟨by rfl, ?_⟩) HELD.out ?_
  rotate_left
  · intro w hSw
    (try dsimp only at hSw)
    obtain ⟨q0, q1, q2⟩ := hSw
    go_simp
    try with_reducible rfl
  try simp only [Act.put, List.setIfInBounds_toArray, List.set_cons_zero, List.set_cons_succ]
  refine wpAnyH_take (i := 8) (v := ?_) (by simp only [List.getElem?_toArray, List.getElem?_cons_zero, List.getElem?_cons_succ]; rfl) (by kernel_rfl) (by kernel_rfl) (by kernel_rfl) (fun _ _ _ h => h) (Or.inl ⟨by rfl, ?_⟩) HELD.out ?_
  rotate_left
  · intro w hSw
    (try dsimp only at hSw)
    obtain ⟨q0, q1, q2⟩ := hSw
    go_simp
    try with_reducible rfl
  try simp only [Act.put, List.setIfInBounds_toArray, List.set_cons_zero, List.set_cons_succ]
  refine wpAnyH_take (i := 9) (v := ?_) (by simp only [List.getElem?_toArray, List.getElem?_cons_zero, List.getElem?_cons_succ]; rfl) (by kernel_rfl) (by kernel_rfl) (by kernel_rfl) (fun _ _ _ h => h) (Or.inl ⟨by rfl, ?_⟩) HELD.out ?_
  rotate_left
  · intro w hSw
    (try dsimp only at hSw)
    obtain ⟨q0, q1, q2⟩ := hSw
    go_simp
    try with_reducible rfl
  try simp only [Act.put, List.setIfInBounds_toArray, List.set_cons_zero, List.set_cons_succ]
  refine wpAnyH_take (i := 10) (v := ?_) (by simp only [List.getElem?_toArray, List.getElem?_cons_zero, List.getElem?_cons_succ]; rfl) (by kernel_rfl) (by kernel_rfl) (by kernel_rfl) (fun _ _ _ h => h) (Or.inl ⟨by rfl, ?_⟩) HELD.out ?_
  rotate_left
  · intro w hSw
    (try dsimp only at hSw)
    obtain ⟨q0, q1, q2⟩ := hSw
    go_simp
    try with_reducible rfl
  try simp only [Act.put, List.setIfInBounds_toArray, List.set_cons_zero, List.set_cons_succ]
  refine wpAnyH_take (i := 11) (v := ?_) (by simp only [List.getElem?_toArray, List.getElem?_cons_zero, List.getElem?_cons_succ]; rfl) (by kernel_rfl) (by kernel_rfl) (by kernel_rfl) (fun _ _ _ h => h) (Or.inl ⟨by rfl, ?_⟩) HELD.out ?_
  rotate_left
  · intro w hSw
    (try dsimp only at hSw)
    obtain ⟨q0, q1, q2⟩ := hSw
    go_simp
    try with_reducible rfl
  try simp only [Act.put, List.setIfInBounds_toArray, List.set_cons_zero, List.set_cons_succ]
  refine wpAnyH_ready (rs := [12]) (by kernel_rfl) (by simp) ?_
  refine AllReadyH.cons (by simp only [List.getElem?_toArray, List.getElem?_cons_zero, List.getElem?_cons_succ]; rfl) (fun K hK => ?_) AllReadyH.nil
  go_simp
  generalize hS2 : World.alloc Y0 _ = s2
  have hbs : Below X0.heap.size X0 s2 := by subst hS2; exact HY0.out.alloc HY0.out.size _
  have hnews : ∀ j u, [.int .u32 (2 * (vv : Int)), .int .u32 y, .int .u32 zr][j]? = some u → s2.cell? ((⟨Y0.heap.size, 0, none⟩ : Addr).add j) = some u := by
    subst hS2; exact World.news_of_block (heap_new Y0 (.cells #[.int .u32 (2 * (vv : Int)), .int .u32 y, .int .u32 zr] 55) Y0.heap.size rfl)
  clear hS2
  have HO1 := Lib.hid (ownsN_below HOWN.out hbs)
  have HC1 := Lib.hid (heap_below HC.out hbs)
  have HNEWS := Lib.hid hnews
  have HBB := Lib.hid hbs
  have hq6 : base ≤ s2.heap.size := Nat.le_trans hbase hbs.size
  have HELD := Lib.hid (HELDB.out s2 HC1.out (hbs.block X hXl) (hbs.block b hbl))
  clear hbs hnews
  refine hK.out _ _ HELD.out (fun _ => ?_)
  clear hK K
  try simp only [Act.put, List.setIfInBounds_toArray, List.set_cons_zero, List.set_cons_succ]
  refine wpAnyH_ready (rs := [13]) (by kernel_rfl) (by simp) ?_
  refine AllReadyH.cons (by simp only [List.getElem?_toArray, List.getElem?_cons_zero, List.getElem?_cons_succ]; rfl) (fun K hK => ?_) AllReadyH.nil
  refine step_append_own_at rfl _ _ 36 rfl base 55 il (.agg #[.int .u32 0, .int .u32 0, .int .u32 0]) 3 12 Tryz.underlying36 hil hzl0 hzl1 hzl2 rfl (by omega) _ _ L rfl HO1.out _ 1 1 [.int .u32 (2 * (vv : Int)), .int .u32 y, .int .u32 zr] rfl rfl HNEWS.out (by intro u hu; simp at hu; rcases hu with rfl | rfl | rfl <;> rfl) hq4 hq5 hq6 ?_
  intro v2 w2 r2 hg2
  obtain ⟨a2, c2', rfl⟩ := ownsN_form r2
  have hC2 := heap_grown HC1.out hg2 (ownsN_notown HO1.out HC1.out (by decide))
  have hc2 : w2.cell? ⟨RB, 2, none⟩ = some (.slice va k vc) := cell_of_block hC2 2
  have hf2 : w2.frozen? ⟨RB, 2, none⟩ = false := unfrozen_of_block hC2 2
  have hlow := HO1.out.lt
  have HELD := Lib.hid (HELDB.out w2 hC2 ((hg2.block X (Nat.lt_of_lt_of_le hXl HBB.out.size) (fun e => by have := (hlow X e.symm).1; omega)).trans (HBB.out.block X hXl)) ((hg2.block b (Nat.lt_of_lt_of_le hbl HBB.out.size) (fun e => by have := (hlow b e.symm).1; omega)).trans (HBB.out.block b hbl)))
  have HG2 := Lib.hid hg2
  have R2 := Lib.hid r2
  clear hg2 r2 hC2 hlow
  refine hK.out _ _ HELD.out (fun _ => ?_)
  clear hK K
  try simp only [Act.put, List.setIfInBounds_toArray, List.set_cons_zero, List.set_cons_succ]
  refine wpAnyH_take (i := 14) (v := ?_) (by simp only [List.getElem?_toArray, List.getElem?_cons_zero, List.getElem?_cons_succ]; rfl) (by kernel_rfl) (by kernel_rfl) (by kernel_rfl) (fun _ _ _ h => h) (Or.inl ⟨by rfl, ?_⟩) HELD.out ?_
  rotate_left
  · intro w hSw
    (try dsimp only at hSw)
    obtain ⟨q0, q1, q2⟩ := hSw
    go_simp
    try with_reducible rfl
  try simp only [Act.put, List.setIfInBounds_toArray, List.set_cons_zero, List.set_cons_succ]
  refine wpAnyH_done (by kernel_rfl) ?_ _
  unfold LastQ wpOp
  simp only [List.getElem?_toArray, List.getElem?_cons_zero, List.getElem?_cons_succ]
  rw [if_pos (by rfl)]
  refine Or.inl ?_
  go_simp
  refine NoPanic.normal ?_
  exact hK _ _ _ _ _ _ _ _ _ _ _ _ _ _ _ _ _ _ _ HBB.out HG2.out R2.out
end Go.Proofs.YtglhnmbfkbjemaaGreatDoor
/- The reference's Raw appends: a drawn region, over whatever frame. -/
namespace Go.Proofs.YtglhnmbfkbjemaaGreatDoor
open Go Go.RowKit Go.Joins
noncomputable def codeNRefRawB : Code := ((Tryz.f10.body.bind (findRegion 22)).getD .skip)
set_option maxRecDepth 100000 in
set_option maxHeartbeats 25600000 in
theorem reg_NRefRawB (RB X b off k nn vv y z base : Nat) (cc : Nat) (va : Option Addr) (vc : Nat) (L : List Value) (X0 : World) {x0 x1 x3 x4 x5 xo : Value}
    (hC : X0.heap[RB]? = some (.cells #[x0, x1, xo, x3, x4, x5, .slice va k vc] 39 (0, 0)))
    (hX : X0.cell? ⟨X, 2, none⟩ = some (.slice (some ⟨b, off, .none⟩) nn cc)) (hk : k < nn)
    (hE0 : X0.cell? ⟨b, off + k * 2, none⟩ = some (.int .u32 y)) (hE1 : X0.cell? ⟨b, off + k * 2 + 1, none⟩ = some (.int .u32 z))
    (hXb : X < base) (hbb : b < base) (hvv : vv ≤ 1000000)
    (HOWN : Hid (X0.ownsRow base 58 3 (.slice va k vc) k L)) (hbase : base ≤ X0.heap.size) (hq4 : k + 1 ≤ maxLen) (hq5 : (k + 1) * 12 ≤ 140737488355328)
    (QQ : Exit → Act → World → Prop) {v0 v2 v3 v6 v7 v8 v10 v11 v12 v13 v14 v15 v16 v17 v18 v19 v20 v21 v22 v23 v24 v25 v26 v27 v28 v29 v30 v31 v32 v33 v34 v35 v36 v37 v38 v39 v40 v41 v42 v43 v44 v45 v46 v47 v48 v49 v50 v51 v52 v53 v54 v55 v56 v57 v58 v59 v60 v61 v62 v63 v64 v65 v66 v67 v68 v69 v70 v71 v72 v73 v74 v75 v76 v77 v78 v79 v80 v81 v82 v83 v84 v85 v86 v87 v88 v89 v90 v91 v92 v93 v94 v95 v96 v97 v98 v99 v100 v101 v102 v103 v104 v105 v106 v107 v108 v109 v110 v111 v112 v113 v114 v115 : Value}
    (hK : ∀ (a' : Option Addr) (c' : Nat) (s2 w2 : World) (u78 u79 u80 u81 u82 u83 u84 u85 u86 u87 u88 u89 u90 u91 u92 u93 u94 u95 u96 u97 : Value), Below X0.heap.size X0 s2 → s2.grownBy w2 (Value.slice va k vc).ownBlock → w2.ownsRow base 58 3 (.slice a' (k + 1) c') (k + 1) (L ++ [.int .u32 (2 * (vv : Int)), .int .u32 y, .int .u32 z]) → QQ .normal ⟨#[v0, .pointer (some ⟨X, 0, .none⟩), v2, v3, .pointer (some ⟨RB, 0, .none⟩), .int .u32 vv, v6, v7, v8, .int .i64 k, v10, v11, v12, v13, v14, v15, v16, v17, 
      v18, v19, v20, v21, v22, v23, v24, v25, v26, v27, v28, v29, v30, v31, v32, v33, v34, v35, v36, v37, v38, v39, v40, v41, v42, v43, v44, v45, v46, v47, v48, 
      v49, v50, v51, v52, v53, v54, v55, v56, v57, v58, v59, v60, v61, v62, v63, v64, v65, v66, v67, v68, v69, v70, v71, v72, v73, v74, v75, v76, v77, u78, u79, 
      u80, u81, u82, u83, u84, u85, u86, u87, u88, u89, u90, u91, u92, u93, u94, u95, u96, u97, v98, v99, v100, v101, v102, v103, v104, v105, v106, v107, v108, 
      v109, v110, v111, v112, v113, v114, v115], []⟩ (w2.setCell ⟨RB, 6, none⟩ (.slice a' (k + 1) c'))) :
    Code.wp Tryz.prog codeNRefRawB QQ ⟨#[v0, .pointer (some ⟨X, 0, .none⟩), v2, v3, .pointer (some ⟨RB, 0, .none⟩), .int .u32 vv, v6, v7, v8, .int .i64 k, v10, v11, v12, v13, v14, v15, v16, v17, 
      v18, v19, v20, v21, v22, v23, v24, v25, v26, v27, v28, v29, v30, v31, v32, v33, v34, v35, v36, v37, v38, v39, v40, v41, v42, v43, v44, v45, v46, v47, v48, 
      v49, v50, v51, v52, v53, v54, v55, v56, v57, v58, v59, v60, v61, v62, v63, v64, v65, v66, v67, v68, v69, v70, v71, v72, v73, v74, v75, v76, v77, v78, v79, 
      v80, v81, v82, v83, v84, v85, v86, v87, v88, v89, v90, v91, v92, v93, v94, v95, v96, v97, v98, v99, v100, v101, v102, v103, v104, v105, v106, v107, v108, 
      v109, v110, v111, v112, v113, v114, v115], []⟩ X0 := by
  obtain ⟨il, hil, hzl0, hzl1, hzl2⟩ := info_parts info_gate
  have M1 : IntKind.u32.wrap (2 * (vv : Int)) = 2 * (vv : Int) := IntWalk.u32_in _ (by omega)
  conv => arg 2; whnf
  refine wp_region_noPanic ?_
  refine wp_region_peelN 20 (by kernel_rfl) rfl (by simp only [List.getElem?_toArray, List.getElem?_cons_zero, List.getElem?_cons_succ]; rfl) (by kernel_rfl) ?_
  simp only [List.pop_toArray, List.dropLast_cons_cons, List.dropLast_singleton]
  refine wpAny_of_held (S := fun w' => w'.cell? ⟨RB, 6, none⟩ = some (.slice va k vc) ∧ w'.cell? ⟨X, 2, none⟩ = some (.slice (some ⟨b, off, .none⟩) nn cc) ∧ w'.cell? ⟨b, off + k * 2, none⟩ = some (.int .u32 y) ∧ w'.cell? ⟨b, off + k * 2 + 1, none⟩ = some (.int .u32 z)) _ _ _ _ ?_
  generalize hY : X0.drew = Y0
  have hY0 : Below X0.heap.size X0 Y0 := by subst hY; exact (Below.refl _ _).drew
  have HELDB : Hid (∀ W : World, W.heap[RB]? = some (.cells #[x0, x1, xo, x3, x4, x5, .slice va k vc] 39 (0, 0)) → W.heap[X]? = X0.heap[X]? → W.heap[b]? = X0.heap[b]? → (W.cell? ⟨RB, 6, none⟩ = some (.slice va k vc) ∧ W.cell? ⟨X, 2, none⟩ = some (.slice (some ⟨b, off, .none⟩) nn cc) ∧ W.cell? ⟨b, off + k * 2, none⟩ = some (.int .u32 y) ∧ W.cell? ⟨b, off + k * 2 + 1, none⟩ = some (.int .u32 z))) := fun W h1 h2 h3 => ⟨cell_of_block h1 6, (World.cell?_of_block h2).trans hX, (World.cell?_of_block h3).trans hE0, (World.cell?_of_block h3).trans hE1⟩
  have HC := Lib.hid hC
  have hXl := cell_lt hX
  have hbl := cell_lt hE0
  have HELD := Lib.hid (HELDB.out Y0 (heap_below hC hY0) (hY0.block X hXl) (hY0.block b hbl))
  have HY0 := Lib.hid hY0
  clear hY hY0 hC hX hE0 hE1
  refine wpAnyH_take (i := 0) (v := ?_) (by simp only [List.getElem?_toArray, List.getElem?_cons_zero]; rfl) (by kernel_rfl) (by kernel_rfl) (by kernel_rfl) (fun _ _ _ h => h) (Or.inl ⟨by rfl, ?_⟩) HELD.out ?_
  rotate_left
  · intro w hSw
    (try dsimp only at hSw)
    obtain ⟨q0, q1, q2, q3⟩ := hSw
    go_simp
    try with_reducible rfl
  try simp only [Act.put, List.setIfInBounds_toArray, List.set_cons_zero, List.set_cons_succ]
  refine wpAnyH_take (i := 1) (v := ?_) (by simp only [List.getElem?_toArray, List.getElem?_cons_zero, List.getElem?_cons_succ]; rfl) (by kernel_rfl) (by kernel_rfl) (by kernel_rfl) (fun _ _ _ h => h) (Or.inl ⟨by rfl, ?_⟩) HELD.out ?_
  rotate_left
  · intro w hSw
    (try dsimp only at hSw)
    obtain ⟨q0, q1, q2, q3⟩ := hSw
    go_simp
    try with_reducible rfl
  try simp only [Act.put, List.setIfInBounds_toArray, List.set_cons_zero, List.set_cons_succ]
  refine wpAnyH_take (i := 2) (v := ?_) (by simp only [List.getElem?_toArray, List.getElem?_cons_zero, List.getElem?_cons_succ]; rfl) (by kernel_rfl) (by kernel_rfl) (by kernel_rfl) (fun _ _ _ h => h) (Or.inl ⟨by rfl, ?_⟩) HELD.out ?_
  rotate_left
  · intro w hSw
    (try dsimp only at hSw)
    obtain ⟨q0, q1, q2, q3⟩ := hSw
    go_simp
    try with_reducible rfl
  try simp only [Act.put, List.setIfInBounds_toArray, List.set_cons_zero, List.set_cons_succ]
  refine wpAnyH_take (i := 3) (v := ?_) (by simp only [List.getElem?_toArray, List.getElem?_cons_zero, List.getElem?_cons_succ]; rfl) (by kernel_rfl) (by kernel_rfl) (by kernel_rfl) (fun _ _ _ h => h) (Or.inl ⟨by rfl, ?_⟩) HELD.out ?_
  rotate_left
  · intro w hSw
    (try dsimp only at hSw)
    obtain ⟨q0, q1, q2, q3⟩ := hSw
    go_simp
    try with_reducible rfl
  try simp only [Act.put, List.setIfInBounds_toArray, List.set_cons_zero, List.set_cons_succ]
  refine wpAnyH_take (i := 4) (v := ?_) (by simp only [List.getElem?_toArray, List.getElem?_cons_zero, List.getElem?_cons_succ]; rfl) (by kernel_rfl) (by kernel_rfl) (by kernel_rfl) (fun _ _ _ h => h) (Or.inl ⟨by rfl, ?_⟩) HELD.out ?_
  rotate_left
  · intro w hSw
    (try dsimp only at hSw)
    obtain ⟨q0, q1, q2, q3⟩ := hSw
    go_simp
    try with_reducible rfl
  try simp only [Act.put, List.setIfInBounds_toArray, List.set_cons_zero, List.set_cons_succ]
  refine wpAnyH_take (i := 5) (v := ?_) (by simp only [List.getElem?_toArray, List.getElem?_cons_zero, List.getElem?_cons_succ]; rfl) (by kernel_rfl) (by kernel_rfl) (by kernel_rfl) (fun _ _ _ h => h) (Or.inl ⟨by rfl, ?_⟩) HELD.out ?_
  rotate_left
  · intro w hSw
    (try dsimp only at hSw)
    obtain ⟨q0, q1, q2, q3⟩ := hSw
    go_simp
    try with_reducible rfl
  try simp only [Act.put, List.setIfInBounds_toArray, List.set_cons_zero, List.set_cons_succ]
  refine wpAnyH_take (i := 6) (v := ?_) (by simp only [List.getElem?_toArray, List.getElem?_cons_zero, List.getElem?_cons_succ]; rfl) (by kernel_rfl) (by kernel_rfl) (by kernel_rfl) (fun _ _ _ h => h) (Or.inl ⟨by rfl, ?_⟩) HELD.out ?_
  rotate_left
  · intro w hSw
    (try dsimp only at hSw)
    obtain ⟨q0, q1, q2, q3⟩ := hSw
    go_simp
    try with_reducible rfl
  try simp only [Act.put, List.setIfInBounds_toArray, List.set_cons_zero, List.set_cons_succ]
  refine wpAnyH_take (i := 7) (v := ?_) (by simp only [List.getElem?_toArray, List.getElem?_cons_zero, List.getElem?_cons_succ]; rfl) (by kernel_rfl) (by kernel_rfl) (by kernel_rfl) (fun _ _ _ h => h) (Or.inl ⟨by rfl, ?_⟩) HELD.out ?_
  rotate_left
  · intro w hSw
    (try dsimp only at hSw)
    obtain ⟨q0, q1, q2, q3⟩ := hSw
    go_simp
    try with_reducible rfl
  try simp only [Act.put, List.setIfInBounds_toArray, List.set_cons_zero, List.set_cons_succ]
  refine wpAnyH_take (i := 8) (v := ?_) (by simp only [List.getElem?_toArray, List.getElem?_cons_zero, List.getElem?_cons_succ]; rfl) (by kernel_rfl) (by kernel_rfl) (by kernel_rfl) (fun _ _ _ h => h) (Or.inl ⟨by rfl, ?_⟩) HELD.out ?_
  rotate_left
  · intro w hSw
    (try dsimp only at hSw)
    obtain ⟨q0, q1, q2, q3⟩ := hSw
    go_simp
    try with_reducible rfl
  try simp only [Act.put, List.setIfInBounds_toArray, List.set_cons_zero, List.set_cons_succ]
  refine wpAnyH_take (i := 9) (v := ?_) (by simp only [List.getElem?_toArray, List.getElem?_cons_zero, List.getElem?_cons_succ]; rfl) (by kernel_rfl) (by kernel_rfl) (by kernel_rfl) (fun _ _ _ h => h) (Or.inl ⟨by rfl, ?_⟩) HELD.out ?_
  rotate_left
  · intro w hSw
    (try dsimp only at hSw)
    obtain ⟨q0, q1, q2, q3⟩ := hSw
    go_simp
    try with_reducible rfl
  try simp only [Act.put, List.setIfInBounds_toArray, List.set_cons_zero, List.set_cons_succ]
  refine wpAnyH_take (i := 10) (v := ?_) (by simp only [List.getElem?_toArray, List.getElem?_cons_zero, List.getElem?_cons_succ]; rfl) (by kernel_rfl) (by kernel_rfl) (by kernel_rfl) (fun _ _ _ h => h) (Or.inl ⟨by rfl, ?_⟩) HELD.out ?_
  rotate_left
  · intro w hSw
    (try dsimp only at hSw)
    obtain ⟨q0, q1, q2, q3⟩ := hSw
    go_simp
    try with_reducible rfl
  try simp only [Act.put, List.setIfInBounds_toArray, List.set_cons_zero, List.set_cons_succ]
  refine wpAnyH_take (i := 11) (v := ?_) (by simp only [List.getElem?_toArray, List.getElem?_cons_zero, List.getElem?_cons_succ]; rfl) (by kernel_rfl) (by kernel_rfl) (by kernel_rfl) (fun _ _ _ h => h) (Or.inl ⟨by rfl, ?_⟩) HELD.out ?_
  rotate_left
  · intro w hSw
    (try dsimp only at hSw)
    obtain ⟨q0, q1, q2, q3⟩ := hSw
    go_simp
    try with_reducible rfl
  try simp only [Act.put, List.setIfInBounds_toArray, List.set_cons_zero, List.set_cons_succ]
  refine wpAnyH_take (i := 12) (v := ?_) (by simp only [List.getElem?_toArray, List.getElem?_cons_zero, List.getElem?_cons_succ]; rfl) (by kernel_rfl) (by kernel_rfl) (by kernel_rfl) (fun _ _ _ h => h) (Or.inl ⟨by rfl, ?_⟩) HELD.out ?_
  rotate_left
  · intro w hSw
    (try dsimp only at hSw)
    obtain ⟨q0, q1, q2, q3⟩ := hSw
    go_simp
    try with_reducible rfl
  try simp only [Act.put, List.setIfInBounds_toArray, List.set_cons_zero, List.set_cons_succ]
  refine wpAnyH_take (i := 13) (v := ?_) (by simp only [List.getElem?_toArray, List.getElem?_cons_zero, List.getElem?_cons_succ]; rfl) (by kernel_rfl) (by kernel_rfl) (by kernel_rfl) (fun _ _ _ h => h) (Or.inl ⟨by rfl, ?_⟩) HELD.out ?_
  rotate_left
  · intro w hSw
    (try dsimp only at hSw)
    obtain ⟨q0, q1, q2, q3⟩ := hSw
    go_simp
    try with_reducible rfl
  try simp only [Act.put, List.setIfInBounds_toArray, List.set_cons_zero, List.set_cons_succ]
  refine wpAnyH_take (i := 14) (v := ?_) (by simp only [List.getElem?_toArray, List.getElem?_cons_zero, List.getElem?_cons_succ]; rfl) (by kernel_rfl) (by kernel_rfl) (by kernel_rfl) (fun _ _ _ h => h) (Or.inl ⟨by rfl, ?_⟩) HELD.out ?_
  rotate_left
  · intro w hSw
    (try dsimp only at hSw)
    obtain ⟨q0, q1, q2, q3⟩ := hSw
    go_simp
    try with_reducible rfl
  try simp only [Act.put, List.setIfInBounds_toArray, List.set_cons_zero, List.set_cons_succ]
  refine wpAnyH_take (i := 15) (v := ?_) (by simp only [List.getElem?_toArray, List.getElem?_cons_zero, List.getElem?_cons_succ]; rfl) (by kernel_rfl) (by kernel_rfl) (by kernel_rfl) (fun _ _ _ h => h) (Or.inl ⟨by rfl, ?_⟩) HELD.out ?_
  rotate_left
  · intro w hSw
    (try dsimp only at hSw)
    obtain ⟨q0, q1, q2, q3⟩ := hSw
    go_simp
    try with_reducible rfl
  try simp only [Act.put, List.setIfInBounds_toArray, List.set_cons_zero, List.set_cons_succ]
  refine wpAnyH_take (i := 16) (v := ?_) (by simp only [List.getElem?_toArray, List.getElem?_cons_zero, List.getElem?_cons_succ]; rfl) (by kernel_rfl) (by kernel_rfl) (by kernel_rfl) (fun _ _ _ h => h) (Or.inl ⟨by rfl, ?_⟩) HELD.out ?_
  rotate_left
  · intro w hSw
    (try dsimp only at hSw)
    obtain ⟨q0, q1, q2, q3⟩ := hSw
    go_simp
    try with_reducible rfl
  try simp only [Act.put, List.setIfInBounds_toArray, List.set_cons_zero, List.set_cons_succ]
  refine wpAnyH_ready (rs := [17]) (by kernel_rfl) (by simp) ?_
  refine AllReadyH.cons (by simp only [List.getElem?_toArray, List.getElem?_cons_zero, List.getElem?_cons_succ]; rfl) (fun K hK => ?_) AllReadyH.nil
  go_simp
  generalize hS2 : World.alloc Y0 _ = s2
  have hbs : Below X0.heap.size X0 s2 := by subst hS2; exact HY0.out.alloc HY0.out.size _
  have hnews : ∀ j u, [.int .u32 (2 * (vv : Int)), .int .u32 y, .int .u32 z][j]? = some u → s2.cell? ((⟨Y0.heap.size, 0, none⟩ : Addr).add j) = some u := by
    subst hS2; exact World.news_of_block (heap_new Y0 (.cells #[.int .u32 (2 * (vv : Int)), .int .u32 y, .int .u32 z] 58) Y0.heap.size rfl)
  clear hS2
  have HO1 := Lib.hid (ownsN_below HOWN.out hbs)
  have HC1 := Lib.hid (heap_below HC.out hbs)
  have HNEWS := Lib.hid hnews
  have HBB := Lib.hid hbs
  have hq6 : base ≤ s2.heap.size := Nat.le_trans hbase hbs.size
  have HELD := Lib.hid (HELDB.out s2 HC1.out (hbs.block X hXl) (hbs.block b hbl))
  clear hbs hnews
  refine hK.out _ _ HELD.out (fun _ => ?_)
  clear hK K
  try simp only [Act.put, List.setIfInBounds_toArray, List.set_cons_zero, List.set_cons_succ]
  refine wpAnyH_ready (rs := [18]) (by kernel_rfl) (by simp) ?_
  refine AllReadyH.cons (by simp only [List.getElem?_toArray, List.getElem?_cons_zero, List.getElem?_cons_succ]; rfl) (fun K hK => ?_) AllReadyH.nil
  refine step_append_own_at rfl _ _ 37 rfl base 58 il (.agg #[.int .u32 0, .int .u32 0, .int .u32 0]) 3 12 Tryz.underlying37 hil hzl0 hzl1 hzl2 rfl (by omega) _ _ L rfl HO1.out _ 1 1 [.int .u32 (2 * (vv : Int)), .int .u32 y, .int .u32 z] rfl rfl HNEWS.out (by intro u hu; simp at hu; rcases hu with rfl | rfl | rfl <;> rfl) hq4 hq5 hq6 ?_
  intro v2 w2 r2 hg2
  obtain ⟨a2, c2', rfl⟩ := ownsN_form r2
  have hC2 := heap_grown HC1.out hg2 (ownsN_notown HO1.out HC1.out (by decide))
  have hc2 : w2.cell? ⟨RB, 6, none⟩ = some (.slice va k vc) := cell_of_block hC2 6
  have hf2 : w2.frozen? ⟨RB, 6, none⟩ = false := unfrozen_of_block hC2 6
  have hlow := HO1.out.lt
  have HELD := Lib.hid (HELDB.out w2 hC2 ((hg2.block X (Nat.lt_of_lt_of_le hXl HBB.out.size) (fun e => by have := (hlow X e.symm).1; omega)).trans (HBB.out.block X hXl)) ((hg2.block b (Nat.lt_of_lt_of_le hbl HBB.out.size) (fun e => by have := (hlow b e.symm).1; omega)).trans (HBB.out.block b hbl)))
  have HG2 := Lib.hid hg2
  have R2 := Lib.hid r2
  clear hg2 r2 hC2 hlow
  refine hK.out _ _ HELD.out (fun _ => ?_)
  clear hK K
  try simp only [Act.put, List.setIfInBounds_toArray, List.set_cons_zero, List.set_cons_succ]
  refine wpAnyH_take (i := 19) (v := ?_) (by simp only [List.getElem?_toArray, List.getElem?_cons_zero, List.getElem?_cons_succ]; rfl) (by kernel_rfl) (by kernel_rfl) (by kernel_rfl) (fun _ _ _ h => h) (Or.inl ⟨by rfl, ?_⟩) HELD.out ?_
  rotate_left
  · intro w hSw
    (try dsimp only at hSw)
    obtain ⟨q0, q1, q2, q3⟩ := hSw
    go_simp
    try with_reducible rfl
  try simp only [Act.put, List.setIfInBounds_toArray, List.set_cons_zero, List.set_cons_succ]
  refine wpAnyH_done (by kernel_rfl) ?_ _
  unfold LastQ wpOp
  simp only [List.getElem?_toArray, List.getElem?_cons_zero, List.getElem?_cons_succ]
  rw [if_pos (by rfl)]
  refine Or.inl ?_
  go_simp
  refine NoPanic.normal ?_
  exact hK _ _ _ _ _ _ _ _ _ _ _ _ _ _ _ _ _ _ _ _ _ _ _ _ HBB.out HG2.out R2.out
end Go.Proofs.YtglhnmbfkbjemaaGreatDoor
/- inquestref03.Vars, by its contract. -/
namespace Go.Proofs.YtglhnmbfkbjemaaGreatDoor
open Go Go.RowKit Go.Joins
def varsC (c : NormC) : Nat := if mayC c then varsN c else 0
theorem varsC_yes {c : NormC} (h : mayC c = true) {i n1 n2 : Nat} (h0 : (i : Int) = c.ins) (h1 : c.lats.length = n1) (h2 : c.gates.length = n2) : varsC c = i + n1 + n2 ∧ i + n1 + n2 ≤ 16384 := by
  have hf := (mayC_iff.1 h).few
  unfold varsC
  rw [if_pos h]
  unfold varsN at hf ⊢
  rw [← h0, h1, h2] at hf ⊢
  simp only [Int.toNat_natCast] at hf ⊢
  exact ⟨trivial, hf⟩
set_option maxRecDepth 100000 in
set_option maxHeartbeats 1600000 in
theorem refvars_any (c : NormC) (s : CSlots) (w : World) (h : SeesCir w s c) (hs : s.small) (hlo : -9223372036854775808 ≤ c.ins) (hhi : c.ins < 9223372036854775808) (hw : Wide c) :
    Calls Tryz.prog 31 #[cirV c.ins s] w fun e w' => e = .returned (.int .i64 ((varsC c : Nat) : Int)) ∧ Below w.heap.size w w' := by
  have HMAY := Lib.hid (fun W (hb : Below w.heap.size w W) => refmay3_any c s W (h.below hb) hs hlo hhi hw)
  have YES := Lib.hid (fun (hm : mayC c = true) (i : Nat) (h0 : (i : Int) = c.ins) => varsC_yes hm h0 h.s1.1 h.s2.1)
  have POS := Lib.hid (fun (hm : mayC c = true) => (mayC_iff.1 hm).pos)
  have NO : Hid (mayC c = false → varsC c = 0) := fun h => by unfold varsC; rw [h]; rfl
  obtain ⟨a1, n1, c1, a2, n2, c2, a3, n3, c3, a4, n4, c4, a5, n5, c5⟩ := s
  obtain ⟨z, hz⟩ : ∃ z, z = c.ins := ⟨_, rfl⟩
  obtain ⟨v, hv⟩ : ∃ v, v = varsC c := ⟨_, rfl⟩
  obtain ⟨q, hq⟩ : ∃ q, q = mayC c := ⟨_, rfl⟩
  rw [← hz, ← hv]
  rw [← hz, ← hq] at HMAY
  rw [← hz, ← hv, ← hq] at YES
  rw [← hz, ← hq] at POS
  rw [← hq, ← hv] at NO
  clear hz hv hq h hs hlo hhi
  unfold cirV at *
  go_enter Tryz.func31, Tryz.ntmps31
  go_upto_region 1 with fail
  generalize hW : World.alloc _ _ = W1
  have B1 : Below w.heap.size w W1 := by subst hW; exact ext_alloc _ _
  have hX : W1.heap[w.heap.size]? = some (.cells #[.int .i64 z, .slice a1 n1 c1, .slice a2 n2 c2, .slice a3 n3 c3, .slice a4 n4 c4, .slice a5 n5 c5] 26 (0, 0)) := by subst hW; exact heap_new _ _ _ rfl
  have HX := Lib.hid hX
  have HB := Lib.hid B1
  clear hW B1 hX
  have p0 := cell_of_block HX.out 0
  have p1 := cell_of_block HX.out 1
  have p2 := cell_of_block HX.out 2
  have p3 := cell_of_block HX.out 3
  have p4 := cell_of_block HX.out 4
  have p5 := cell_of_block HX.out 5
  go_wp2_with fail
  refine (HMAY.out W1 HB.out).mono ?_
  rintro e W2 ⟨rfl, hb⟩
  have HX2 := Lib.hid (heap_below HX.out hb)
  have HB2 := Lib.hid (ext_trans HB.out hb)
  clear hb p0 p1 p2 p3 p4 p5
  cases q with
  | false =>
    have N := Lib.hid (NO.out rfl)
    go_wp2
    go_ret
    exact ⟨by rw [N.out]; rfl, HB2.out⟩
  | true =>
    obtain ⟨i, hi⟩ := Int.eq_ofNat_of_zero_le (POS.out rfl)
    have hy := YES.out rfl i hi.symm
    have hi16 : i + n1 + n2 ≤ 16384 := hy.2
    have HY := Lib.hid hy.1
    clear hy
    subst hi
    have U1 : IntKind.i64.wrap ((i : Int) + (n1 : Int)) = (i : Int) + (n1 : Int) := IntWalk.i64_in _ (by omega)
    have U2 : IntKind.i64.wrap ((i : Int) + (n1 : Int) + (n2 : Int)) = (i : Int) + (n1 : Int) + (n2 : Int) := IntWalk.i64_in _ (by omega)
    have p0 := cell_of_block HX2.out 0
    have p1 := cell_of_block HX2.out 1
    have p2 := cell_of_block HX2.out 2
    go_wp2
    go_ret
    exact ⟨by rw [HY.out]; simp, HB2.out⟩
end Go.Proofs.YtglhnmbfkbjemaaGreatDoor
namespace Go.Proofs.YtglhnmbfkbjemaaGreatDoor
open Go Go.RowKit Go.Joins
theorem nv32_ok {l : List Nat} (h : ∀ x ∈ l, x < 4294967296) : ∀ u ∈ l.map nv32, isU32 u := by
  intro u hu
  obtain ⟨x, hx, rfl⟩ := List.mem_map.1 hu
  exact ⟨x, h x hx, rfl⟩
end Go.Proofs.YtglhnmbfkbjemaaGreatDoor
