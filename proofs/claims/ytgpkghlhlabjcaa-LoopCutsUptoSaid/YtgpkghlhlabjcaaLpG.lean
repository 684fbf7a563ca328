/- LoopCuts returns true for every circuit and trace where what it reads is of bulk at most 1048576: what Cut leaves of a trace fails, in at most as many frames, in their order and with the same states, no state comes twice in it, and cut once more it is the same. Condition: the bound. -/
import Derived.Test.YtgpkghlhlabjcaaLpB
import Derived.Test.YtgpkghlhlabjcaaLpBB
import Derived.OrdersHeld
import Derived.BigQuiet
import Derived.Test.YtgpkghlhlabjcaaLpH
import Derived.Test.YtgpkghlhlabjcaaLpC
import Derived.Test.YtgpkghlhlabjcaaLpA
import Derived.Deep.CutRange
import Derived.Test.YtgpkghlhlabjcaaNOpen
import Derived.Test.YtgpkghlhlabjcaaNOpenC
import Derived.Test.YtgpkghlhlabjcaaPost0
import Derived.Test.YtgpkghlhlabjcaaPost
import Derived.JoinedCond
/- A region of the law LoopCuts (the comparisons of a frame that was left), in whatever order. -/
namespace Go.Proofs.Ytgpkghlhlabjcaa
open Go Go.RowKit Go.Joins

noncomputable def codeLp22 : Code := ((Try.f4.body.bind (findRegion 22)).getD .skip)
set_option maxRecDepth 100000 in
set_option maxHeartbeats 25600000 in
theorem reg_Lp22 (P R lb lo lc wb wo1 wc nb no1 nc zb zo zc xb xo xc m n k kk kp k1 : Nat) (fa1 : Option Addr) (fn1 fc1 : Nat) (fa2 : Option Addr) (fn2 fc2 : Nat) (fa3 : Option Addr) (fn3 fc3 : Nat) (fa4 : Option Addr) (fn4 fc4 : Nat) (X0 : World)
    (q2 : X0.cell? ⟨P, 2, none⟩ = some (.slice (some ⟨xb, xo, none⟩) m xc)) (r2 : X0.cell? ⟨R, 2, none⟩ = some (.slice (some ⟨zb, zo, none⟩) n zc))
    (hc1 : X0.cell? ⟨wb, wo1 + kk, none⟩ = some (.slice fa1 fn1 fc1)) (hc2 : X0.cell? ⟨nb, no1 + k, none⟩ = some (.slice fa2 fn2 fc2))
    (hc3 : X0.cell? ⟨zb, zo + kk, none⟩ = some (.slice fa3 fn3 fc3)) (hc4 : X0.cell? ⟨xb, xo + k, none⟩ = some (.slice fa4 fn4 fc4))
    (hc0 : k = k1 + 1 ∧ kp < kk ∧ X0.cell? ⟨lb, lo + k1, none⟩ = some (.int .i64 (kp : Int)))
    (hkk : kk < n) (hkm : k < m) (hm : m ≤ 256)
    (HC1 : Hid (∀ W, Below X0.heap.size X0 W → Calls Try.prog 20 #[.slice fa1 fn1 fc1, .slice fa2 fn2 fc2] W fun e w' => e = .returned (.bool true) ∧ w' = W))
    (HC2 : Hid (∀ W, Below X0.heap.size X0 W → Calls Try.prog 20 #[.slice fa3 fn3 fc3, .slice fa4 fn4 fc4] W fun e w' => e = .returned (.bool true) ∧ w' = W))
    (QQ : Exit → Act → World → Prop)
    {v0 v1 v2 v3 v4 v7 v8 v9 v10 v11 v12 v13 v14 v15 v16 v17 v19 v21 v25 v26 v27 v28 v29 v30 v31 v32 v33 v34 v35 v36 v37 v38 v39 v40 v41 v42 v43 v44 v45 v46 v47 v48 v49 v50 v51 v52 v53 v54 v55 v56 v57 v58 v59 v60 v61 v62 v63 v64 v65 v66 v67 v68 v69 v70 v71 v72 v73 v74 v75 v76 v77 v78 v79 v80 v81 v82 v83 v84 v85 v86 v87 v88 v89 v90 v91 v92 v93 v94 v95 v96 v97 v98 v99 v100 v101 v102 v103 v104 v105 v106 v107 v108 v109 v110 v111 v112 v113 v114 v115 v116 v117 v118 v119 v120 v121 v122 v123 v124 v125 v126 v127 v128 v129 v130 v131 v132 v133 v134 v135 v136 v137 v138 v139 v140 v141 v142 v143 v144 v145 v146 v147 v148 v149 v150 v151 v152 v153 v154 v155 v156 v157 v158 v159 v160 v161 v162 v163 v164 v165 v166 v167 v168 v169 v170 v171 v172 v173 v174 v175 v176 v177 v178 v179 v180 v181 v182 v183 v184 v185 v186 v187 v188 v189 v190 v191 v192 v193 v194 v195 v196 v197 v198 v199 v200 v201 v202 v203 v204 v205 v206 v207 v208 v209 v210 v211 v212 v213 v214 v215 v216 v217 v218 v219 v220 v221 v222 v223 v224 v225 v226 v227 v228 v229 v230 v231 v232 v233 : Value}
    (HKQ : ∀ (wx : World) (u151 u152 u153 u154 u155 u156 u157 u158 u159 u160 u161 u162 u163 u164 u165 u166 u167 u168 u169 u170 u171 u172 u173 u174 u175 u176 u177 u178 u179 u180 u181 u182 u183 u184 u185 u186 u187 u188 u189 u190 u191 u192 u193 u194 u195 u196 : Value), Below X0.heap.size X0 wx → QQ .normal ⟨#[v0, v1, v2, v3, v4, .pointer (some ⟨P, 0, none⟩), .slice (some ⟨lb, lo, none⟩) m lc, v7, v8, v9, v10, v11, v12, v13, v14, v15, v16, v17, .slice (some ⟨wb, wo1, none⟩) n wc, 
      v19, .slice (some ⟨nb, no1, none⟩) m nc, v21, .pointer (some ⟨R, 0, none⟩), .int .i64 (k : Int), .int .i64 (kk : Int), v25, v26, v27, v28, v29, v30, v31, 
      v32, v33, v34, v35, v36, v37, v38, v39, v40, v41, v42, v43, v44, v45, v46, v47, v48, v49, v50, v51, v52, v53, v54, v55, v56, v57, v58, v59, v60, v61, v62, 
      v63, v64, v65, v66, v67, v68, v69, v70, v71, v72, v73, v74, v75, v76, v77, v78, v79, v80, v81, v82, v83, v84, v85, v86, v87, v88, v89, v90, v91, v92, v93, 
      v94, v95, v96, v97, v98, v99, v100, v101, v102, v103, v104, v105, v106, v107, v108, v109, v110, v111, v112, v113, v114, v115, v116, v117, v118, v119, v120, 
      v121, v122, v123, v124, v125, v126, v127, v128, v129, v130, v131, v132, v133, v134, v135, v136, v137, v138, v139, v140, v141, v142, v143, v144, v145, v146, 
      v147, v148, v149, v150, u151, u152, u153, u154, u155, u156, u157, u158, u159, u160, u161, u162, u163, u164, u165, u166, u167, u168, u169, u170, u171, u172, 
      u173, u174, u175, u176, u177, u178, u179, u180, u181, u182, u183, u184, u185, u186, u187, u188, u189, u190, u191, u192, u193, u194, u195, u196, .bool false, 
      v198, v199, v200, v201, v202, v203, v204, v205, v206, v207, v208, v209, v210, v211, v212, v213, v214, v215, v216, v217, v218, v219, v220, v221, v222, v223, 
      v224, v225, v226, v227, v228, v229, v230, v231, v232, v233], []⟩ wx) :
    Code.wp Try.prog codeLp22 QQ ⟨#[v0, v1, v2, v3, v4, .pointer (some ⟨P, 0, none⟩), .slice (some ⟨lb, lo, none⟩) m lc, v7, v8, v9, v10, v11, v12, v13, v14, v15, v16, v17, .slice (some ⟨wb, wo1, none⟩) n wc, 
      v19, .slice (some ⟨nb, no1, none⟩) m nc, v21, .pointer (some ⟨R, 0, none⟩), .int .i64 (k : Int), .int .i64 (kk : Int), v25, v26, v27, v28, v29, v30, v31, 
      v32, v33, v34, v35, v36, v37, v38, v39, v40, v41, v42, v43, v44, v45, v46, v47, v48, v49, v50, v51, v52, v53, v54, v55, v56, v57, v58, v59, v60, v61, v62, 
      v63, v64, v65, v66, v67, v68, v69, v70, v71, v72, v73, v74, v75, v76, v77, v78, v79, v80, v81, v82, v83, v84, v85, v86, v87, v88, v89, v90, v91, v92, v93, 
      v94, v95, v96, v97, v98, v99, v100, v101, v102, v103, v104, v105, v106, v107, v108, v109, v110, v111, v112, v113, v114, v115, v116, v117, v118, v119, v120, 
      v121, v122, v123, v124, v125, v126, v127, v128, v129, v130, v131, v132, v133, v134, v135, v136, v137, v138, v139, v140, v141, v142, v143, v144, v145, v146, 
      v147, v148, v149, v150, v151, v152, v153, v154, v155, v156, v157, v158, v159, v160, v161, v162, v163, v164, v165, v166, v167, v168, v169, v170, v171, v172, 
      v173, v174, v175, v176, v177, v178, v179, v180, v181, v182, v183, v184, v185, v186, v187, v188, v189, v190, v191, v192, v193, v194, v195, v196, v197, v198, 
      v199, v200, v201, v202, v203, v204, v205, v206, v207, v208, v209, v210, v211, v212, v213, v214, v215, v216, v217, v218, v219, v220, v221, v222, v223, v224, 
      v225, v226, v227, v228, v229, v230, v231, v232, v233], []⟩ X0 := by
  have hI0 : decide ((kk : Int) < 0) = false := by simp
  have hI1 : decide ((n : Int) ≤ (kk : Int)) = false := by simp; omega
  have hI1n : decide (n ≤ kk) = false := by simp; omega
  have hI2 : (kk : Int) < (n : Int) := by omega
  have hI3 : (0 : Int) ≤ (kk : Int) := by omega
  have hI4 : ((k : Nat) : Int) < (m : Int) := by omega
  have hI5 : (0 : Int) ≤ (k : Int) := by omega
  obtain ⟨hk1, hr1, hcp⟩ := hc0
  have hle : decide ((kk : Int) ≤ (kp : Int)) = false := by simp; omega
  have hlen : decide (kk ≤ kp) = false := by simp; omega
  have hgt : decide ((0 : Int) < (k : Int)) = true := by simp; omega
  have hgtn : decide (0 < k) = true := by simp; omega
  have Wm : IntKind.i64.wrap ((k : Int) - 1) = (k1 : Int) := by rw [IntWalk.i64_in _ (by omega)]; omega
  have hJ1 : (k1 : Int) < (m : Int) := by omega
  have hJ2 : (0 : Int) ≤ (k1 : Int) := by omega
  clear hk1 hr1
  clear hkk hkm hm
  conv => arg 2; whnf
  refine wp_region_noPanic ?_
  refine wp_region_held (S := fun w' => w'.cell? ⟨P, 2, none⟩ = some (.slice (some ⟨xb, xo, none⟩) m xc) ∧ w'.cell? ⟨R, 2, none⟩ = some (.slice (some ⟨zb, zo, none⟩) n zc) ∧ w'.cell? ⟨wb, wo1 + kk, none⟩ = some (.slice fa1 fn1 fc1) ∧ w'.cell? ⟨nb, no1 + k, none⟩ = some (.slice fa2 fn2 fc2) ∧ w'.cell? ⟨zb, zo + kk, none⟩ = some (.slice fa3 fn3 fc3) ∧ w'.cell? ⟨xb, xo + k, none⟩ = some (.slice fa4 fn4 fc4) ∧ w'.cell? ⟨lb, lo + k1, none⟩ = some (.int .i64 (kp : Int))) (by kernel_rfl) ?_
  generalize hY : ({ X0 with drawn := X0.drawn + 1 } : World) = Y0
  have hY0 : Below X0.heap.size X0 Y0 := by subst hY; exact (Below.refl _ _).drew
  have HELD : Hid (Y0.cell? ⟨P, 2, none⟩ = some (.slice (some ⟨xb, xo, none⟩) m xc) ∧ Y0.cell? ⟨R, 2, none⟩ = some (.slice (some ⟨zb, zo, none⟩) n zc) ∧ Y0.cell? ⟨wb, wo1 + kk, none⟩ = some (.slice fa1 fn1 fc1) ∧ Y0.cell? ⟨nb, no1 + k, none⟩ = some (.slice fa2 fn2 fc2) ∧ Y0.cell? ⟨zb, zo + kk, none⟩ = some (.slice fa3 fn3 fc3) ∧ Y0.cell? ⟨xb, xo + k, none⟩ = some (.slice fa4 fn4 fc4) ∧ Y0.cell? ⟨lb, lo + k1, none⟩ = some (.int .i64 (kp : Int))) := ⟨cell_below q2 hY0, cell_below r2 hY0, cell_below hc1 hY0, cell_below hc2 hY0, cell_below hc3 hY0, cell_below hc4 hY0, cell_below hcp hY0⟩
  have HY0 := Lib.hid hY0
  clear hY hY0 q2 r2 hc1 hc2 hc3 hc4 hcp
  refine wpAnyH_take (i := 0) (v := ?_) (by simp only [List.getElem?_toArray, List.getElem?_cons_zero]; rfl) (by kernel_rfl) (by kernel_rfl) (by kernel_rfl) (fun _ _ _ h => h) (Or.inl ⟨by rfl, ?_⟩) HELD.out ?_
  rotate_left
  · intro w hSw
    (try dsimp only at hSw)
    obtain ⟨q0_, q1_, q2_, q3_, q4_, q5_, q6_⟩ := hSw
    go_simp
    try with_reducible rfl
  try simp only [Act.put, List.setIfInBounds_toArray, List.set_cons_zero, List.set_cons_succ]
  refine wpAnyH_take (i := 1) (v := ?_) (by simp only [List.getElem?_toArray, List.getElem?_cons_zero, List.getElem?_cons_succ]; rfl) (by kernel_rfl) (by kernel_rfl) (by kernel_rfl) (fun _ _ _ h => h) (Or.inl ⟨by rfl, ?_⟩) HELD.out ?_
  rotate_left
  · intro w hSw
    (try dsimp only at hSw)
    obtain ⟨q0_, q1_, q2_, q3_, q4_, q5_, q6_⟩ := hSw
    go_simp
    try with_reducible rfl
  try simp only [Act.put, List.setIfInBounds_toArray, List.set_cons_zero, List.set_cons_succ]
  refine wpAnyH_take (i := 2) (v := ?_) (by simp only [List.getElem?_toArray, List.getElem?_cons_zero, List.getElem?_cons_succ]; rfl) (by kernel_rfl) (by kernel_rfl) (by kernel_rfl) (fun _ _ _ h => h) (Or.inl ⟨by rfl, ?_⟩) HELD.out ?_
  rotate_left
  · intro w hSw
    (try dsimp only at hSw)
    obtain ⟨q0_, q1_, q2_, q3_, q4_, q5_, q6_⟩ := hSw
    go_simp
    try with_reducible rfl
  try simp only [Act.put, List.setIfInBounds_toArray, List.set_cons_zero, List.set_cons_succ]
  refine wpAnyH_take (i := 3) (v := ?_) (by simp only [List.getElem?_toArray, List.getElem?_cons_zero, List.getElem?_cons_succ]; rfl) (by kernel_rfl) (by kernel_rfl) (by kernel_rfl) (fun _ _ _ h => h) (Or.inl ⟨by rfl, ?_⟩) HELD.out ?_
  rotate_left
  · intro w hSw
    (try dsimp only at hSw)
    obtain ⟨q0_, q1_, q2_, q3_, q4_, q5_, q6_⟩ := hSw
    go_simp
    try with_reducible rfl
  try simp only [Act.put, List.setIfInBounds_toArray, List.set_cons_zero, List.set_cons_succ]
  refine wpAnyH_take (i := 4) (v := ?_) (by simp only [List.getElem?_toArray, List.getElem?_cons_zero, List.getElem?_cons_succ]; rfl) (by kernel_rfl) (by kernel_rfl) (by kernel_rfl) (fun _ _ _ h => h) (Or.inl ⟨by rfl, ?_⟩) HELD.out ?_
  rotate_left
  · intro w hSw
    (try dsimp only at hSw)
    obtain ⟨q0_, q1_, q2_, q3_, q4_, q5_, q6_⟩ := hSw
    go_simp
    try with_reducible rfl
  try simp only [Act.put, List.setIfInBounds_toArray, List.set_cons_zero, List.set_cons_succ]
  refine wpAnyH_take (i := 5) (v := ?_) (by simp only [List.getElem?_toArray, List.getElem?_cons_zero, List.getElem?_cons_succ]; rfl) (by kernel_rfl) (by kernel_rfl) (by kernel_rfl) (fun _ _ _ h => h) (Or.inl ⟨by rfl, ?_⟩) HELD.out ?_
  rotate_left
  · intro w hSw
    (try dsimp only at hSw)
    obtain ⟨q0_, q1_, q2_, q3_, q4_, q5_, q6_⟩ := hSw
    go_simp
    try with_reducible rfl
  try simp only [Act.put, List.setIfInBounds_toArray, List.set_cons_zero, List.set_cons_succ]
  refine wpAnyH_take (i := 6) (v := ?_) (by simp only [List.getElem?_toArray, List.getElem?_cons_zero, List.getElem?_cons_succ]; rfl) (by kernel_rfl) (by kernel_rfl) (by kernel_rfl) (fun _ _ _ h => h) (Or.inl ⟨by rfl, ?_⟩) HELD.out ?_
  rotate_left
  · intro w hSw
    (try dsimp only at hSw)
    obtain ⟨q0_, q1_, q2_, q3_, q4_, q5_, q6_⟩ := hSw
    go_simp
    try with_reducible rfl
  try simp only [Act.put, List.setIfInBounds_toArray, List.set_cons_zero, List.set_cons_succ]
  refine wpAnyH_take (i := 7) (v := ?_) (by simp only [List.getElem?_toArray, List.getElem?_cons_zero, List.getElem?_cons_succ]; rfl) (by kernel_rfl) (by kernel_rfl) (by kernel_rfl) (fun _ _ _ h => h) (Or.inl ⟨by rfl, ?_⟩) HELD.out ?_
  rotate_left
  · intro w hSw
    (try dsimp only at hSw)
    obtain ⟨q0_, q1_, q2_, q3_, q4_, q5_, q6_⟩ := hSw
    go_simp
    try with_reducible rfl
  try simp only [Act.put, List.setIfInBounds_toArray, List.set_cons_zero, List.set_cons_succ]
  refine wpAnyH_take (i := 8) (v := ?_) (by simp only [List.getElem?_toArray, List.getElem?_cons_zero, List.getElem?_cons_succ]; rfl) (by kernel_rfl) (by kernel_rfl) (by kernel_rfl) (fun _ _ _ h => h) (Or.inl ⟨by rfl, ?_⟩) HELD.out ?_
  rotate_left
  · intro w hSw
    (try dsimp only at hSw)
    obtain ⟨q0_, q1_, q2_, q3_, q4_, q5_, q6_⟩ := hSw
    go_simp
    try with_reducible rfl
  try simp only [Act.put, List.setIfInBounds_toArray, List.set_cons_zero, List.set_cons_succ]
  refine wpAnyH_take (i := 9) (v := ?_) (by simp only [List.getElem?_toArray, List.getElem?_cons_zero, List.getElem?_cons_succ]; rfl) (by kernel_rfl) (by kernel_rfl) (by kernel_rfl) (fun _ _ _ h => h) (Or.inl ⟨by rfl, ?_⟩) HELD.out ?_
  rotate_left
  · intro w hSw
    (try dsimp only at hSw)
    obtain ⟨q0_, q1_, q2_, q3_, q4_, q5_, q6_⟩ := hSw
    go_simp
    try with_reducible rfl
  try simp only [Act.put, List.setIfInBounds_toArray, List.set_cons_zero, List.set_cons_succ]
  refine wpAnyH_take (i := 10) (v := ?_) (by simp only [List.getElem?_toArray, List.getElem?_cons_zero, List.getElem?_cons_succ]; rfl) (by kernel_rfl) (by kernel_rfl) (by kernel_rfl) (fun _ _ _ h => h) (Or.inl ⟨by rfl, ?_⟩) HELD.out ?_
  rotate_left
  · intro w hSw
    (try dsimp only at hSw)
    obtain ⟨q0_, q1_, q2_, q3_, q4_, q5_, q6_⟩ := hSw
    go_simp
    try with_reducible rfl
  try simp only [Act.put, List.setIfInBounds_toArray, List.set_cons_zero, List.set_cons_succ]
  refine wpAnyH_take (i := 11) (v := ?_) (by simp only [List.getElem?_toArray, List.getElem?_cons_zero, List.getElem?_cons_succ]; rfl) (by kernel_rfl) (by kernel_rfl) (by kernel_rfl) (fun _ _ _ h => h) (Or.inl ⟨by rfl, ?_⟩) HELD.out ?_
  rotate_left
  · intro w hSw
    (try dsimp only at hSw)
    obtain ⟨q0_, q1_, q2_, q3_, q4_, q5_, q6_⟩ := hSw
    go_simp
    try with_reducible rfl
  try simp only [Act.put, List.setIfInBounds_toArray, List.set_cons_zero, List.set_cons_succ]
  refine wpAnyH_take (i := 12) (v := ?_) (by simp only [List.getElem?_toArray, List.getElem?_cons_zero, List.getElem?_cons_succ]; rfl) (by kernel_rfl) (by kernel_rfl) (by kernel_rfl) (fun _ _ _ h => h) (Or.inl ⟨by rfl, ?_⟩) HELD.out ?_
  rotate_left
  · intro w hSw
    (try dsimp only at hSw)
    obtain ⟨q0_, q1_, q2_, q3_, q4_, q5_, q6_⟩ := hSw
    go_simp
    try with_reducible rfl
  try simp only [Act.put, List.setIfInBounds_toArray, List.set_cons_zero, List.set_cons_succ]
  refine wpAnyH_take (i := 13) (v := ?_) (by simp only [List.getElem?_toArray, List.getElem?_cons_zero, List.getElem?_cons_succ]; rfl) (by kernel_rfl) (by kernel_rfl) (by kernel_rfl) (fun _ _ _ h => h) (Or.inl ⟨by rfl, ?_⟩) HELD.out ?_
  rotate_left
  · intro w hSw
    (try dsimp only at hSw)
    obtain ⟨q0_, q1_, q2_, q3_, q4_, q5_, q6_⟩ := hSw
    go_simp
    try with_reducible rfl
  try simp only [Act.put, List.setIfInBounds_toArray, List.set_cons_zero, List.set_cons_succ]
  refine wpAnyH_take (i := 14) (v := ?_) (by simp only [List.getElem?_toArray, List.getElem?_cons_zero, List.getElem?_cons_succ]; rfl) (by kernel_rfl) (by kernel_rfl) (by kernel_rfl) (fun _ _ _ h => h) (Or.inl ⟨by rfl, ?_⟩) HELD.out ?_
  rotate_left
  · intro w hSw
    (try dsimp only at hSw)
    obtain ⟨q0_, q1_, q2_, q3_, q4_, q5_, q6_⟩ := hSw
    go_simp
    try with_reducible rfl
  try simp only [Act.put, List.setIfInBounds_toArray, List.set_cons_zero, List.set_cons_succ]
  refine wpAnyH_take (i := 15) (v := ?_) (by simp only [List.getElem?_toArray, List.getElem?_cons_zero, List.getElem?_cons_succ]; rfl) (by kernel_rfl) (by kernel_rfl) (by kernel_rfl) (fun _ _ _ h => h) (Or.inl ⟨by rfl, ?_⟩) HELD.out ?_
  rotate_left
  · intro w hSw
    (try dsimp only at hSw)
    obtain ⟨q0_, q1_, q2_, q3_, q4_, q5_, q6_⟩ := hSw
    go_simp
    try with_reducible rfl
  try simp only [Act.put, List.setIfInBounds_toArray, List.set_cons_zero, List.set_cons_succ]
  refine wpAnyH_take (i := 16) (v := ?_) (by simp only [List.getElem?_toArray, List.getElem?_cons_zero, List.getElem?_cons_succ]; rfl) (by kernel_rfl) (by kernel_rfl) (by kernel_rfl) (fun _ _ _ h => h) (Or.inl ⟨by rfl, ?_⟩) HELD.out ?_
  rotate_left
  · intro w hSw
    (try dsimp only at hSw)
    obtain ⟨q0_, q1_, q2_, q3_, q4_, q5_, q6_⟩ := hSw
    go_simp
    try with_reducible rfl
  try simp only [Act.put, List.setIfInBounds_toArray, List.set_cons_zero, List.set_cons_succ]
  refine wpAnyH_take (i := 17) (v := ?_) (by simp only [List.getElem?_toArray, List.getElem?_cons_zero, List.getElem?_cons_succ]; rfl) (by kernel_rfl) (by kernel_rfl) (by kernel_rfl) (fun _ _ _ h => h) (Or.inl ⟨by rfl, ?_⟩) HELD.out ?_
  rotate_left
  · intro w hSw
    (try dsimp only at hSw)
    obtain ⟨q0_, q1_, q2_, q3_, q4_, q5_, q6_⟩ := hSw
    go_simp
    try with_reducible rfl
  try simp only [Act.put, List.setIfInBounds_toArray, List.set_cons_zero, List.set_cons_succ]
  refine wpAnyH_take (i := 18) (v := ?_) (by simp only [List.getElem?_toArray, List.getElem?_cons_zero, List.getElem?_cons_succ]; rfl) (by kernel_rfl) (by kernel_rfl) (by kernel_rfl) (fun _ _ _ h => h) (Or.inl ⟨by rfl, ?_⟩) HELD.out ?_
  rotate_left
  · intro w hSw
    (try dsimp only at hSw)
    obtain ⟨q0_, q1_, q2_, q3_, q4_, q5_, q6_⟩ := hSw
    go_simp
    try with_reducible rfl
  try simp only [Act.put, List.setIfInBounds_toArray, List.set_cons_zero, List.set_cons_succ]
  refine wpAnyH_take (i := 19) (v := ?_) (by simp only [List.getElem?_toArray, List.getElem?_cons_zero, List.getElem?_cons_succ]; rfl) (by kernel_rfl) (by kernel_rfl) (by kernel_rfl) (fun _ _ _ h => h) (Or.inl ⟨by rfl, ?_⟩) HELD.out ?_
  rotate_left
  · intro w hSw
    (try dsimp only at hSw)
    obtain ⟨q0_, q1_, q2_, q3_, q4_, q5_, q6_⟩ := hSw
    go_simp
    try with_reducible rfl
  try simp only [Act.put, List.setIfInBounds_toArray, List.set_cons_zero, List.set_cons_succ]
  refine wpAnyH_take (i := 20) (v := ?_) (by simp only [List.getElem?_toArray, List.getElem?_cons_zero, List.getElem?_cons_succ]; rfl) (by kernel_rfl) (by kernel_rfl) (by kernel_rfl) (fun _ _ _ h => h) (Or.inl ⟨by rfl, ?_⟩) HELD.out ?_
  rotate_left
  · intro w hSw
    (try dsimp only at hSw)
    obtain ⟨q0_, q1_, q2_, q3_, q4_, q5_, q6_⟩ := hSw
    go_simp
    try with_reducible rfl
  try simp only [Act.put, List.setIfInBounds_toArray, List.set_cons_zero, List.set_cons_succ]
  refine wpAnyH_take (i := 21) (v := ?_) (by simp only [List.getElem?_toArray, List.getElem?_cons_zero, List.getElem?_cons_succ]; rfl) (by kernel_rfl) (by kernel_rfl) (by kernel_rfl) (fun _ _ _ h => h) (Or.inl ⟨by rfl, ?_⟩) HELD.out ?_
  rotate_left
  · intro w hSw
    (try dsimp only at hSw)
    obtain ⟨q0_, q1_, q2_, q3_, q4_, q5_, q6_⟩ := hSw
    go_simp
    try with_reducible rfl
  try simp only [Act.put, List.setIfInBounds_toArray, List.set_cons_zero, List.set_cons_succ]
  refine wpAnyH_take (i := 22) (v := ?_) (by simp only [List.getElem?_toArray, List.getElem?_cons_zero, List.getElem?_cons_succ]; rfl) (by kernel_rfl) (by kernel_rfl) (by kernel_rfl) (fun _ _ _ h => h) (Or.inl ⟨by rfl, ?_⟩) HELD.out ?_
  rotate_left
  · intro w hSw
    (try dsimp only at hSw)
    obtain ⟨q0_, q1_, q2_, q3_, q4_, q5_, q6_⟩ := hSw
    go_simp
    try with_reducible rfl
  try simp only [Act.put, List.setIfInBounds_toArray, List.set_cons_zero, List.set_cons_succ]
  refine wpAnyH_take (i := 23) (v := ?_) (by simp only [List.getElem?_toArray, List.getElem?_cons_zero, List.getElem?_cons_succ]; rfl) (by kernel_rfl) (by kernel_rfl) (by kernel_rfl) (fun _ _ _ h => h) (Or.inl ⟨by rfl, ?_⟩) HELD.out ?_
  rotate_left
  · intro w hSw
    (try dsimp only at hSw)
    obtain ⟨q0_, q1_, q2_, q3_, q4_, q5_, q6_⟩ := hSw
    go_simp
    try with_reducible rfl
  try simp only [Act.put, List.setIfInBounds_toArray, List.set_cons_zero, List.set_cons_succ]
  refine wpAnyH_take (i := 24) (v := ?_) (by simp only [List.getElem?_toArray, List.getElem?_cons_zero, List.getElem?_cons_succ]; rfl) (by kernel_rfl) (by kernel_rfl) (by kernel_rfl) (fun _ _ _ h => h) (Or.inl ⟨by rfl, ?_⟩) HELD.out ?_
  rotate_left
  · intro w hSw
    (try dsimp only at hSw)
    obtain ⟨q0_, q1_, q2_, q3_, q4_, q5_, q6_⟩ := hSw
    go_simp
    try with_reducible rfl
  try simp only [Act.put, List.setIfInBounds_toArray, List.set_cons_zero, List.set_cons_succ]
  refine wpAnyH_take (i := 25) (v := ?_) (by simp only [List.getElem?_toArray, List.getElem?_cons_zero, List.getElem?_cons_succ]; rfl) (by kernel_rfl) (by kernel_rfl) (by kernel_rfl) (fun _ _ _ h => h) (Or.inl ⟨by rfl, ?_⟩) HELD.out ?_
  rotate_left
  · intro w hSw
    (try dsimp only at hSw)
    obtain ⟨q0_, q1_, q2_, q3_, q4_, q5_, q6_⟩ := hSw
    go_simp
    try with_reducible rfl
  try simp only [Act.put, List.setIfInBounds_toArray, List.set_cons_zero, List.set_cons_succ]
  refine wpAnyH_take (i := 26) (v := ?_) (by simp only [List.getElem?_toArray, List.getElem?_cons_zero, List.getElem?_cons_succ]; rfl) (by kernel_rfl) (by kernel_rfl) (by kernel_rfl) (fun _ _ _ h => h) (Or.inl ⟨by rfl, ?_⟩) HELD.out ?_
  rotate_left
  · intro w hSw
    (try dsimp only at hSw)
    obtain ⟨q0_, q1_, q2_, q3_, q4_, q5_, q6_⟩ := hSw
    go_simp
    try with_reducible rfl
  try simp only [Act.put, List.setIfInBounds_toArray, List.set_cons_zero, List.set_cons_succ]
  refine wpAnyH_take (i := 27) (v := ?_) (by simp only [List.getElem?_toArray, List.getElem?_cons_zero, List.getElem?_cons_succ]; rfl) (by kernel_rfl) (by kernel_rfl) (by kernel_rfl) (fun _ _ _ h => h) (Or.inl ⟨by rfl, ?_⟩) HELD.out ?_
  rotate_left
  · intro w hSw
    (try dsimp only at hSw)
    obtain ⟨q0_, q1_, q2_, q3_, q4_, q5_, q6_⟩ := hSw
    go_simp
    try with_reducible rfl
  try simp only [Act.put, List.setIfInBounds_toArray, List.set_cons_zero, List.set_cons_succ]
  refine wpAnyH_take (i := 28) (v := ?_) (by simp only [List.getElem?_toArray, List.getElem?_cons_zero, List.getElem?_cons_succ]; rfl) (by kernel_rfl) (by kernel_rfl) (by kernel_rfl) (fun _ _ _ h => h) (Or.inl ⟨by rfl, ?_⟩) HELD.out ?_
  rotate_left
  · intro w hSw
    (try dsimp only at hSw)
    obtain ⟨q0_, q1_, q2_, q3_, q4_, q5_, q6_⟩ := hSw
    go_simp
    try with_reducible rfl
  try simp only [Act.put, List.setIfInBounds_toArray, List.set_cons_zero, List.set_cons_succ]
  refine wpAnyH_take (i := 29) (v := ?_) (by simp only [List.getElem?_toArray, List.getElem?_cons_zero, List.getElem?_cons_succ]; rfl) (by kernel_rfl) (by kernel_rfl) (by kernel_rfl) (fun _ _ _ h => h) (Or.inl ⟨by rfl, ?_⟩) HELD.out ?_
  rotate_left
  · intro w hSw
    (try dsimp only at hSw)
    obtain ⟨q0_, q1_, q2_, q3_, q4_, q5_, q6_⟩ := hSw
    go_simp
    try with_reducible rfl
  try simp only [Act.put, List.setIfInBounds_toArray, List.set_cons_zero, List.set_cons_succ]
  refine wpAnyH_ready (rs := [30]) (by kernel_rfl) (by simp) ?_
  refine AllReadyH.cons (by simp only [List.getElem?_toArray, List.getElem?_cons_zero, List.getElem?_cons_succ]; rfl) (fun K hK => ?_) AllReadyH.nil
  go_simp
  refine (HC1.out _ HY0.out).mono ?_
  rintro e s1 ⟨rfl, hw⟩
  obtain rfl := hw.symm
  refine hK.out _ _ HELD.out (fun _ => ?_)
  clear hK K
  try simp only [Act.put, List.setIfInBounds_toArray, List.set_cons_zero, List.set_cons_succ]
  refine wpAnyH_take (i := 31) (v := ?_) (by simp only [List.getElem?_toArray, List.getElem?_cons_zero, List.getElem?_cons_succ]; rfl) (by kernel_rfl) (by kernel_rfl) (by kernel_rfl) (fun _ _ _ h => h) (Or.inl ⟨by rfl, ?_⟩) HELD.out ?_
  rotate_left
  · intro w hSw
    (try dsimp only at hSw)
    obtain ⟨q0_, q1_, q2_, q3_, q4_, q5_, q6_⟩ := hSw
    go_simp
    try with_reducible rfl
  try simp only [Act.put, List.setIfInBounds_toArray, List.set_cons_zero, List.set_cons_succ]
  refine wpAnyH_take (i := 32) (v := ?_) (by simp only [List.getElem?_toArray, List.getElem?_cons_zero, List.getElem?_cons_succ]; rfl) (by kernel_rfl) (by kernel_rfl) (by kernel_rfl) (fun _ _ _ h => h) (Or.inl ⟨by rfl, ?_⟩) HELD.out ?_
  rotate_left
  · intro w hSw
    (try dsimp only at hSw)
    obtain ⟨q0_, q1_, q2_, q3_, q4_, q5_, q6_⟩ := hSw
    go_simp
    try with_reducible rfl
  try simp only [Act.put, List.setIfInBounds_toArray, List.set_cons_zero, List.set_cons_succ]
  refine wpAnyH_take (i := 33) (v := ?_) (by simp only [List.getElem?_toArray, List.getElem?_cons_zero, List.getElem?_cons_succ]; rfl) (by kernel_rfl) (by kernel_rfl) (by kernel_rfl) (fun _ _ _ h => h) (Or.inl ⟨by rfl, ?_⟩) HELD.out ?_
  rotate_left
  · intro w hSw
    (try dsimp only at hSw)
    obtain ⟨q0_, q1_, q2_, q3_, q4_, q5_, q6_⟩ := hSw
    go_simp
    try with_reducible rfl
  try simp only [Act.put, List.setIfInBounds_toArray, List.set_cons_zero, List.set_cons_succ]
  refine wpAnyH_take (i := 34) (v := ?_) (by simp only [List.getElem?_toArray, List.getElem?_cons_zero, List.getElem?_cons_succ]; rfl) (by kernel_rfl) (by kernel_rfl) (by kernel_rfl) (fun _ _ _ h => h) (Or.inl ⟨by rfl, ?_⟩) HELD.out ?_
  rotate_left
  · intro w hSw
    (try dsimp only at hSw)
    obtain ⟨q0_, q1_, q2_, q3_, q4_, q5_, q6_⟩ := hSw
    go_simp
    try with_reducible rfl
  try simp only [Act.put, List.setIfInBounds_toArray, List.set_cons_zero, List.set_cons_succ]
  refine wpAnyH_take (i := 35) (v := ?_) (by simp only [List.getElem?_toArray, List.getElem?_cons_zero, List.getElem?_cons_succ]; rfl) (by kernel_rfl) (by kernel_rfl) (by kernel_rfl) (fun _ _ _ h => h) (Or.inl ⟨by rfl, ?_⟩) HELD.out ?_
  rotate_left
  · intro w hSw
    (try dsimp only at hSw)
    obtain ⟨q0_, q1_, q2_, q3_, q4_, q5_, q6_⟩ := hSw
    go_simp
    try with_reducible rfl
  try simp only [Act.put, List.setIfInBounds_toArray, List.set_cons_zero, List.set_cons_succ]
  refine wpAnyH_take (i := 36) (v := ?_) (by simp only [List.getElem?_toArray, List.getElem?_cons_zero, List.getElem?_cons_succ]; rfl) (by kernel_rfl) (by kernel_rfl) (by kernel_rfl) (fun _ _ _ h => h) (Or.inl ⟨by rfl, ?_⟩) HELD.out ?_
  rotate_left
  · intro w hSw
    (try dsimp only at hSw)
    obtain ⟨q0_, q1_, q2_, q3_, q4_, q5_, q6_⟩ := hSw
    go_simp
    try with_reducible rfl
  try simp only [Act.put, List.setIfInBounds_toArray, List.set_cons_zero, List.set_cons_succ]
  refine wpAnyH_take (i := 37) (v := ?_) (by simp only [List.getElem?_toArray, List.getElem?_cons_zero, List.getElem?_cons_succ]; rfl) (by kernel_rfl) (by kernel_rfl) (by kernel_rfl) (fun _ _ _ h => h) (Or.inl ⟨by rfl, ?_⟩) HELD.out ?_
  rotate_left
  · intro w hSw
    (try dsimp only at hSw)
    obtain ⟨q0_, q1_, q2_, q3_, q4_, q5_, q6_⟩ := hSw
    go_simp
    try with_reducible rfl
  try simp only [Act.put, List.setIfInBounds_toArray, List.set_cons_zero, List.set_cons_succ]
  refine wpAnyH_take (i := 38) (v := ?_) (by simp only [List.getElem?_toArray, List.getElem?_cons_zero, List.getElem?_cons_succ]; rfl) (by kernel_rfl) (by kernel_rfl) (by kernel_rfl) (fun _ _ _ h => h) (Or.inl ⟨by rfl, ?_⟩) HELD.out ?_
  rotate_left
  · intro w hSw
    (try dsimp only at hSw)
    obtain ⟨q0_, q1_, q2_, q3_, q4_, q5_, q6_⟩ := hSw
    go_simp
    try with_reducible rfl
  try simp only [Act.put, List.setIfInBounds_toArray, List.set_cons_zero, List.set_cons_succ]
  refine wpAnyH_take (i := 39) (v := ?_) (by simp only [List.getElem?_toArray, List.getElem?_cons_zero, List.getElem?_cons_succ]; rfl) (by kernel_rfl) (by kernel_rfl) (by kernel_rfl) (fun _ _ _ h => h) (Or.inl ⟨by rfl, ?_⟩) HELD.out ?_
  rotate_left
  · intro w hSw
    (try dsimp only at hSw)
    obtain ⟨q0_, q1_, q2_, q3_, q4_, q5_, q6_⟩ := hSw
    go_simp
    try with_reducible rfl
  try simp only [Act.put, List.setIfInBounds_toArray, List.set_cons_zero, List.set_cons_succ]
  refine wpAnyH_take (i := 40) (v := ?_) (by simp only [List.getElem?_toArray, List.getElem?_cons_zero, List.getElem?_cons_succ]; rfl) (by kernel_rfl) (by kernel_rfl) (by kernel_rfl) (fun _ _ _ h => h) (Or.inl ⟨by rfl, ?_⟩) HELD.out ?_
  rotate_left
  · intro w hSw
    (try dsimp only at hSw)
    obtain ⟨q0_, q1_, q2_, q3_, q4_, q5_, q6_⟩ := hSw
    go_simp
    try with_reducible rfl
  try simp only [Act.put, List.setIfInBounds_toArray, List.set_cons_zero, List.set_cons_succ]
  refine wpAnyH_take (i := 41) (v := ?_) (by simp only [List.getElem?_toArray, List.getElem?_cons_zero, List.getElem?_cons_succ]; rfl) (by kernel_rfl) (by kernel_rfl) (by kernel_rfl) (fun _ _ _ h => h) (Or.inl ⟨by rfl, ?_⟩) HELD.out ?_
  rotate_left
  · intro w hSw
    (try dsimp only at hSw)
    obtain ⟨q0_, q1_, q2_, q3_, q4_, q5_, q6_⟩ := hSw
    go_simp
    try with_reducible rfl
  try simp only [Act.put, List.setIfInBounds_toArray, List.set_cons_zero, List.set_cons_succ]
  refine wpAnyH_take (i := 42) (v := ?_) (by simp only [List.getElem?_toArray, List.getElem?_cons_zero, List.getElem?_cons_succ]; rfl) (by kernel_rfl) (by kernel_rfl) (by kernel_rfl) (fun _ _ _ h => h) (Or.inl ⟨by rfl, ?_⟩) HELD.out ?_
  rotate_left
  · intro w hSw
    (try dsimp only at hSw)
    obtain ⟨q0_, q1_, q2_, q3_, q4_, q5_, q6_⟩ := hSw
    go_simp
    try with_reducible rfl
  try simp only [Act.put, List.setIfInBounds_toArray, List.set_cons_zero, List.set_cons_succ]
  refine wpAnyH_take (i := 43) (v := ?_) (by simp only [List.getElem?_toArray, List.getElem?_cons_zero, List.getElem?_cons_succ]; rfl) (by kernel_rfl) (by kernel_rfl) (by kernel_rfl) (fun _ _ _ h => h) (Or.inl ⟨by rfl, ?_⟩) HELD.out ?_
  rotate_left
  · intro w hSw
    (try dsimp only at hSw)
    obtain ⟨q0_, q1_, q2_, q3_, q4_, q5_, q6_⟩ := hSw
    go_simp
    try with_reducible rfl
  try simp only [Act.put, List.setIfInBounds_toArray, List.set_cons_zero, List.set_cons_succ]
  refine wpAnyH_ready (rs := [44]) (by kernel_rfl) (by simp) ?_
  refine AllReadyH.cons (by simp only [List.getElem?_toArray, List.getElem?_cons_zero, List.getElem?_cons_succ]; rfl) (fun K hK => ?_) AllReadyH.nil
  go_simp
  refine (HC2.out _ HY0.out).mono ?_
  rintro e s1 ⟨rfl, hw⟩
  obtain rfl := hw.symm
  refine hK.out _ _ HELD.out (fun _ => ?_)
  clear hK K
  try simp only [Act.put, List.setIfInBounds_toArray, List.set_cons_zero, List.set_cons_succ]
  refine wpAnyH_take (i := 45) (v := ?_) (by simp only [List.getElem?_toArray, List.getElem?_cons_zero, List.getElem?_cons_succ]; rfl) (by kernel_rfl) (by kernel_rfl) (by kernel_rfl) (fun _ _ _ h => h) (Or.inl ⟨by rfl, ?_⟩) HELD.out ?_
  rotate_left
  · intro w hSw
    (try dsimp only at hSw)
    obtain ⟨q0_, q1_, q2_, q3_, q4_, q5_, q6_⟩ := hSw
    go_simp
    try with_reducible rfl
  try simp only [Act.put, List.setIfInBounds_toArray, List.set_cons_zero, List.set_cons_succ]
  refine wpAnyH_take (i := 46) (v := ?_) (by simp only [List.getElem?_toArray, List.getElem?_cons_zero, List.getElem?_cons_succ]; rfl) (by kernel_rfl) (by kernel_rfl) (by kernel_rfl) (fun _ _ _ h => h) (Or.inl ⟨by rfl, ?_⟩) HELD.out ?_
  rotate_left
  · intro w hSw
    (try dsimp only at hSw)
    obtain ⟨q0_, q1_, q2_, q3_, q4_, q5_, q6_⟩ := hSw
    go_simp
    try with_reducible rfl
  try simp only [Act.put, List.setIfInBounds_toArray, List.set_cons_zero, List.set_cons_succ]
  refine wpAnyH_done (by kernel_rfl) ?_ _
  refine NoPanic.normal ?_
  exact HKQ _ _ _ _ _ _ _ _ _ _ _ _ _ _ _ _ _ _ _ _ _ _ _ _ _ _ _ _ _ _ _ _ _ _ _ _ _ _ _ _ _ _ _ _ _ _ _ HY0.out
end Go.Proofs.Ytgpkghlhlabjcaa
/- A region of the law LoopCuts (the comparisons of a frame that was left), in whatever order. -/
namespace Go.Proofs.Ytgpkghlhlabjcaa
open Go Go.RowKit Go.Joins

noncomputable def codeLp22z : Code := ((Try.f4.body.bind (findRegion 22)).getD .skip)
set_option maxRecDepth 100000 in
set_option maxHeartbeats 25600000 in
theorem reg_Lp22z (P R lb lo lc wb wo1 wc nb no1 nc zb zo zc xb xo xc m n k kk : Nat) (fa1 : Option Addr) (fn1 fc1 : Nat) (fa2 : Option Addr) (fn2 fc2 : Nat) (fa3 : Option Addr) (fn3 fc3 : Nat) (fa4 : Option Addr) (fn4 fc4 : Nat) (X0 : World)
    (q2 : X0.cell? ⟨P, 2, none⟩ = some (.slice (some ⟨xb, xo, none⟩) m xc)) (r2 : X0.cell? ⟨R, 2, none⟩ = some (.slice (some ⟨zb, zo, none⟩) n zc))
    (hc1 : X0.cell? ⟨wb, wo1 + kk, none⟩ = some (.slice fa1 fn1 fc1)) (hc2 : X0.cell? ⟨nb, no1 + k, none⟩ = some (.slice fa2 fn2 fc2))
    (hc3 : X0.cell? ⟨zb, zo + kk, none⟩ = some (.slice fa3 fn3 fc3)) (hc4 : X0.cell? ⟨xb, xo + k, none⟩ = some (.slice fa4 fn4 fc4))
    (hc0 : k = 0)
    (hkk : kk < n) (hkm : k < m) (hm : m ≤ 256)
    (HC1 : Hid (∀ W, Below X0.heap.size X0 W → Calls Try.prog 20 #[.slice fa1 fn1 fc1, .slice fa2 fn2 fc2] W fun e w' => e = .returned (.bool true) ∧ w' = W))
    (HC2 : Hid (∀ W, Below X0.heap.size X0 W → Calls Try.prog 20 #[.slice fa3 fn3 fc3, .slice fa4 fn4 fc4] W fun e w' => e = .returned (.bool true) ∧ w' = W))
    (QQ : Exit → Act → World → Prop)
    {v0 v1 v2 v3 v4 v7 v8 v9 v10 v11 v12 v13 v14 v15 v16 v17 v19 v21 v25 v26 v27 v28 v29 v30 v31 v32 v33 v34 v35 v36 v37 v38 v39 v40 v41 v42 v43 v44 v45 v46 v47 v48 v49 v50 v51 v52 v53 v54 v55 v56 v57 v58 v59 v60 v61 v62 v63 v64 v65 v66 v67 v68 v69 v70 v71 v72 v73 v74 v75 v76 v77 v78 v79 v80 v81 v82 v83 v84 v85 v86 v87 v88 v89 v90 v91 v92 v93 v94 v95 v96 v97 v98 v99 v100 v101 v102 v103 v104 v105 v106 v107 v108 v109 v110 v111 v112 v113 v114 v115 v116 v117 v118 v119 v120 v121 v122 v123 v124 v125 v126 v127 v128 v129 v130 v131 v132 v133 v134 v135 v136 v137 v138 v139 v140 v141 v142 v143 v144 v145 v146 v147 v148 v149 v150 v151 v152 v153 v154 v155 v156 v157 v158 v159 v160 v161 v162 v163 v164 v165 v166 v167 v168 v169 v170 v171 v172 v173 v174 v175 v176 v177 v178 v179 v180 v181 v182 v183 v184 v185 v186 v187 v188 v189 v190 v191 v192 v193 v194 v195 v196 v197 v198 v199 v200 v201 v202 v203 v204 v205 v206 v207 v208 v209 v210 v211 v212 v213 v214 v215 v216 v217 v218 v219 v220 v221 v222 v223 v224 v225 v226 v227 v228 v229 v230 v231 v232 v233 : Value}
    (HKQ : ∀ (wx : World) (u151 u152 u153 u154 u155 u156 u157 u158 u159 u160 u161 u162 u163 u164 u165 u166 u167 u168 u169 u170 u171 u172 u173 u174 u175 u176 u177 u178 u179 u180 u181 u182 u183 u184 u185 u186 u187 u188 u189 u190 u191 u192 u193 u194 u195 u196 : Value), Below X0.heap.size X0 wx → QQ .normal ⟨#[v0, v1, v2, v3, v4, .pointer (some ⟨P, 0, none⟩), .slice (some ⟨lb, lo, none⟩) m lc, v7, v8, v9, v10, v11, v12, v13, v14, v15, v16, v17, .slice (some ⟨wb, wo1, none⟩) n wc, 
      v19, .slice (some ⟨nb, no1, none⟩) m nc, v21, .pointer (some ⟨R, 0, none⟩), .int .i64 (k : Int), .int .i64 (kk : Int), v25, v26, v27, v28, v29, v30, v31, 
      v32, v33, v34, v35, v36, v37, v38, v39, v40, v41, v42, v43, v44, v45, v46, v47, v48, v49, v50, v51, v52, v53, v54, v55, v56, v57, v58, v59, v60, v61, v62, 
      v63, v64, v65, v66, v67, v68, v69, v70, v71, v72, v73, v74, v75, v76, v77, v78, v79, v80, v81, v82, v83, v84, v85, v86, v87, v88, v89, v90, v91, v92, v93, 
      v94, v95, v96, v97, v98, v99, v100, v101, v102, v103, v104, v105, v106, v107, v108, v109, v110, v111, v112, v113, v114, v115, v116, v117, v118, v119, v120, 
      v121, v122, v123, v124, v125, v126, v127, v128, v129, v130, v131, v132, v133, v134, v135, v136, v137, v138, v139, v140, v141, v142, v143, v144, v145, v146, 
      v147, v148, v149, v150, u151, u152, u153, u154, u155, u156, u157, u158, u159, u160, u161, u162, u163, u164, u165, u166, u167, u168, u169, u170, u171, u172, 
      u173, u174, u175, u176, u177, u178, u179, u180, u181, u182, u183, u184, u185, u186, u187, u188, u189, u190, u191, u192, u193, u194, u195, u196, .bool false, 
      v198, v199, v200, v201, v202, v203, v204, v205, v206, v207, v208, v209, v210, v211, v212, v213, v214, v215, v216, v217, v218, v219, v220, v221, v222, v223, 
      v224, v225, v226, v227, v228, v229, v230, v231, v232, v233], []⟩ wx) :
    Code.wp Try.prog codeLp22z QQ ⟨#[v0, v1, v2, v3, v4, .pointer (some ⟨P, 0, none⟩), .slice (some ⟨lb, lo, none⟩) m lc, v7, v8, v9, v10, v11, v12, v13, v14, v15, v16, v17, .slice (some ⟨wb, wo1, none⟩) n wc, 
      v19, .slice (some ⟨nb, no1, none⟩) m nc, v21, .pointer (some ⟨R, 0, none⟩), .int .i64 (k : Int), .int .i64 (kk : Int), v25, v26, v27, v28, v29, v30, v31, 
      v32, v33, v34, v35, v36, v37, v38, v39, v40, v41, v42, v43, v44, v45, v46, v47, v48, v49, v50, v51, v52, v53, v54, v55, v56, v57, v58, v59, v60, v61, v62, 
      v63, v64, v65, v66, v67, v68, v69, v70, v71, v72, v73, v74, v75, v76, v77, v78, v79, v80, v81, v82, v83, v84, v85, v86, v87, v88, v89, v90, v91, v92, v93, 
      v94, v95, v96, v97, v98, v99, v100, v101, v102, v103, v104, v105, v106, v107, v108, v109, v110, v111, v112, v113, v114, v115, v116, v117, v118, v119, v120, 
      v121, v122, v123, v124, v125, v126, v127, v128, v129, v130, v131, v132, v133, v134, v135, v136, v137, v138, v139, v140, v141, v142, v143, v144, v145, v146, 
      v147, v148, v149, v150, v151, v152, v153, v154, v155, v156, v157, v158, v159, v160, v161, v162, v163, v164, v165, v166, v167, v168, v169, v170, v171, v172, 
      v173, v174, v175, v176, v177, v178, v179, v180, v181, v182, v183, v184, v185, v186, v187, v188, v189, v190, v191, v192, v193, v194, v195, v196, v197, v198, 
      v199, v200, v201, v202, v203, v204, v205, v206, v207, v208, v209, v210, v211, v212, v213, v214, v215, v216, v217, v218, v219, v220, v221, v222, v223, v224, 
      v225, v226, v227, v228, v229, v230, v231, v232, v233], []⟩ X0 := by
  have hI0 : decide ((kk : Int) < 0) = false := by simp
  have hI1 : decide ((n : Int) ≤ (kk : Int)) = false := by simp; omega
  have hI1n : decide (n ≤ kk) = false := by simp; omega
  have hI2 : (kk : Int) < (n : Int) := by omega
  have hI3 : (0 : Int) ≤ (kk : Int) := by omega
  have hI4 : ((k : Nat) : Int) < (m : Int) := by omega
  have hI5 : (0 : Int) ≤ (k : Int) := by omega
  have hgt : decide ((0 : Int) < (k : Int)) = false := by simp; omega
  have hgtn : decide (0 < k) = false := by simp; omega
  clear hc0
  clear hkk hkm hm
  conv => arg 2; whnf
  refine wp_region_noPanic ?_
  refine wp_region_held (S := fun w' => w'.cell? ⟨P, 2, none⟩ = some (.slice (some ⟨xb, xo, none⟩) m xc) ∧ w'.cell? ⟨R, 2, none⟩ = some (.slice (some ⟨zb, zo, none⟩) n zc) ∧ w'.cell? ⟨wb, wo1 + kk, none⟩ = some (.slice fa1 fn1 fc1) ∧ w'.cell? ⟨nb, no1 + k, none⟩ = some (.slice fa2 fn2 fc2) ∧ w'.cell? ⟨zb, zo + kk, none⟩ = some (.slice fa3 fn3 fc3) ∧ w'.cell? ⟨xb, xo + k, none⟩ = some (.slice fa4 fn4 fc4)) (by kernel_rfl) ?_
  generalize hY : ({ X0 with drawn := X0.drawn + 1 } : World) = Y0
  have hY0 : Below X0.heap.size X0 Y0 := by subst hY; exact (Below.refl _ _).drew
  have HELD : Hid (Y0.cell? ⟨P, 2, none⟩ = some (.slice (some ⟨xb, xo, none⟩) m xc) ∧ Y0.cell? ⟨R, 2, none⟩ = some (.slice (some ⟨zb, zo, none⟩) n zc) ∧ Y0.cell? ⟨wb, wo1 + kk, none⟩ = some (.slice fa1 fn1 fc1) ∧ Y0.cell? ⟨nb, no1 + k, none⟩ = some (.slice fa2 fn2 fc2) ∧ Y0.cell? ⟨zb, zo + kk, none⟩ = some (.slice fa3 fn3 fc3) ∧ Y0.cell? ⟨xb, xo + k, none⟩ = some (.slice fa4 fn4 fc4)) := ⟨cell_below q2 hY0, cell_below r2 hY0, cell_below hc1 hY0, cell_below hc2 hY0, cell_below hc3 hY0, cell_below hc4 hY0⟩
  have HY0 := Lib.hid hY0
  clear hY hY0 q2 r2 hc1 hc2 hc3 hc4
  refine wpAnyH_take (i := 0) (v := ?_) (by simp only [List.getElem?_toArray, List.getElem?_cons_zero]; rfl) (by kernel_rfl) (by kernel_rfl) (by kernel_rfl) (fun _ _ _ h => h) (Or.inl ⟨by rfl, ?_⟩) HELD.out ?_
  rotate_left
  · intro w hSw
    (try dsimp only at hSw)
    obtain ⟨q0_, q1_, q2_, q3_, q4_, q5_⟩ := hSw
    go_simp
    try with_reducible rfl
  try simp only [Act.put, List.setIfInBounds_toArray, List.set_cons_zero, List.set_cons_succ]
  refine wpAnyH_take (i := 1) (v := ?_) (by simp only [List.getElem?_toArray, List.getElem?_cons_zero, List.getElem?_cons_succ]; rfl) (by kernel_rfl) (by kernel_rfl) (by kernel_rfl) (fun _ _ _ h => h) (Or.inl ⟨by rfl, ?_⟩) HELD.out ?_
  rotate_left
  · intro w hSw
    (try dsimp only at hSw)
    obtain ⟨q0_, q1_, q2_, q3_, q4_, q5_⟩ := hSw
    go_simp
    try with_reducible rfl
  try simp only [Act.put, List.setIfInBounds_toArray, List.set_cons_zero, List.set_cons_succ]
  refine wpAnyH_take (i := 2) (v := ?_) (by simp only [List.getElem?_toArray, List.getElem?_cons_zero, List.getElem?_cons_succ]; rfl) (by kernel_rfl) (by kernel_rfl) (by kernel_rfl) (fun _ _ _ h => h) (Or.inl ⟨by rfl, ?_⟩) HELD.out ?_
  rotate_left
  · intro w hSw
    (try dsimp only at hSw)
    obtain ⟨q0_, q1_, q2_, q3_, q4_, q5_⟩ := hSw
    go_simp
    try with_reducible rfl
  try simp only [Act.put, List.setIfInBounds_toArray, List.set_cons_zero, List.set_cons_succ]
  refine wpAnyH_take (i := 3) (v := ?_) (by simp only [List.getElem?_toArray, List.getElem?_cons_zero, List.getElem?_cons_succ]; rfl) (by kernel_rfl) (by kernel_rfl) (by kernel_rfl) (fun _ _ _ h => h) (Or.inl ⟨by rfl, ?_⟩) HELD.out ?_
  rotate_left
  · intro w hSw
    (try dsimp only at hSw)
    obtain ⟨q0_, q1_, q2_, q3_, q4_, q5_⟩ := hSw
    go_simp
    try with_reducible rfl
  try simp only [Act.put, List.setIfInBounds_toArray, List.set_cons_zero, List.set_cons_succ]
  refine wpAnyH_take (i := 4) (v := ?_) (by simp only [List.getElem?_toArray, List.getElem?_cons_zero, List.getElem?_cons_succ]; rfl) (by kernel_rfl) (by kernel_rfl) (by kernel_rfl) (fun _ _ _ h => h) (Or.inl ⟨by rfl, ?_⟩) HELD.out ?_
  rotate_left
  · intro w hSw
    (try dsimp only at hSw)
    obtain ⟨q0_, q1_, q2_, q3_, q4_, q5_⟩ := hSw
    go_simp
    try with_reducible rfl
  try simp only [Act.put, List.setIfInBounds_toArray, List.set_cons_zero, List.set_cons_succ]
  refine wpAnyH_take (i := 5) (v := ?_) (by simp only [List.getElem?_toArray, List.getElem?_cons_zero, List.getElem?_cons_succ]; rfl) (by kernel_rfl) (by kernel_rfl) (by kernel_rfl) (fun _ _ _ h => h) (Or.inl ⟨by rfl, ?_⟩) HELD.out ?_
  rotate_left
  · intro w hSw
    (try dsimp only at hSw)
    obtain ⟨q0_, q1_, q2_, q3_, q4_, q5_⟩ := hSw
    go_simp
    try with_reducible rfl
  try simp only [Act.put, List.setIfInBounds_toArray, List.set_cons_zero, List.set_cons_succ]
  refine wpAnyH_take (i := 6) (v := ?_) (by simp only [List.getElem?_toArray, List.getElem?_cons_zero, List.getElem?_cons_succ]; rfl) (by kernel_rfl) (by kernel_rfl) (by kernel_rfl) (fun _ _ _ h => h) (Or.inl ⟨by rfl, ?_⟩) HELD.out ?_
  rotate_left
  · intro w hSw
    (try dsimp only at hSw)
    obtain ⟨q0_, q1_, q2_, q3_, q4_, q5_⟩ := hSw
    go_simp
    try with_reducible rfl
  try simp only [Act.put, List.setIfInBounds_toArray, List.set_cons_zero, List.set_cons_succ]
  refine wpAnyH_take (i := 7) (v := ?_) (by simp only [List.getElem?_toArray, List.getElem?_cons_zero, List.getElem?_cons_succ]; rfl) (by kernel_rfl) (by kernel_rfl) (by kernel_rfl) (fun _ _ _ h => h) (Or.inl ⟨by rfl, ?_⟩) HELD.out ?_
  rotate_left
  · intro w hSw
    (try dsimp only at hSw)
    obtain ⟨q0_, q1_, q2_, q3_, q4_, q5_⟩ := hSw
    go_simp
    try with_reducible rfl
  try simp only [Act.put, List.setIfInBounds_toArray, List.set_cons_zero, List.set_cons_succ]
  refine wpAnyH_take (i := 8) (v := ?_) (by simp only [List.getElem?_toArray, List.getElem?_cons_zero, List.getElem?_cons_succ]; rfl) (by kernel_rfl) (by kernel_rfl) (by kernel_rfl) (fun _ _ _ h => h) (Or.inl ⟨by rfl, ?_⟩) HELD.out ?_
  rotate_left
  · intro w hSw
    (try dsimp only at hSw)
    obtain ⟨q0_, q1_, q2_, q3_, q4_, q5_⟩ := hSw
    go_simp
    try with_reducible rfl
  try simp only [Act.put, List.setIfInBounds_toArray, List.set_cons_zero, List.set_cons_succ]
  refine wpAnyH_take (i := 9) (v := ?_) (by simp only [List.getElem?_toArray, List.getElem?_cons_zero, List.getElem?_cons_succ]; rfl) (by kernel_rfl) (by kernel_rfl) (by kernel_rfl) (fun _ _ _ h => h) (Or.inl ⟨by rfl, ?_⟩) HELD.out ?_
  rotate_left
  · intro w hSw
    (try dsimp only at hSw)
    obtain ⟨q0_, q1_, q2_, q3_, q4_, q5_⟩ := hSw
    go_simp
    try with_reducible rfl
  try simp only [Act.put, List.setIfInBounds_toArray, List.set_cons_zero, List.set_cons_succ]
  refine wpAnyH_take (i := 10) (v := ?_) (by simp only [List.getElem?_toArray, List.getElem?_cons_zero, List.getElem?_cons_succ]; rfl) (by kernel_rfl) (by kernel_rfl) (by kernel_rfl) (fun _ _ _ h => h) (Or.inl ⟨by rfl, ?_⟩) HELD.out ?_
  rotate_left
  · intro w hSw
    (try dsimp only at hSw)
    obtain ⟨q0_, q1_, q2_, q3_, q4_, q5_⟩ := hSw
    go_simp
    try with_reducible rfl
  try simp only [Act.put, List.setIfInBounds_toArray, List.set_cons_zero, List.set_cons_succ]
  refine wpAnyH_take (i := 11) (v := ?_) (by simp only [List.getElem?_toArray, List.getElem?_cons_zero, List.getElem?_cons_succ]; rfl) (by kernel_rfl) (by kernel_rfl) (by kernel_rfl) (fun _ _ _ h => h) (Or.inl ⟨by rfl, ?_⟩) HELD.out ?_
  rotate_left
  · intro w hSw
    (try dsimp only at hSw)
    obtain ⟨q0_, q1_, q2_, q3_, q4_, q5_⟩ := hSw
    go_simp
    try with_reducible rfl
  try simp only [Act.put, List.setIfInBounds_toArray, List.set_cons_zero, List.set_cons_succ]
  refine wpAnyH_take (i := 12) (v := undef) (by simp only [List.getElem?_toArray, List.getElem?_cons_zero, List.getElem?_cons_succ]; rfl) (by kernel_rfl) (by kernel_rfl) (by kernel_rfl) (fun _ _ _ h => h) (Or.inr ⟨by rfl, by rfl⟩) HELD.out ?_
  try simp only [Act.put, List.setIfInBounds_toArray, List.set_cons_zero, List.set_cons_succ]
  refine wpAnyH_take (i := 13) (v := undef) (by simp only [List.getElem?_toArray, List.getElem?_cons_zero, List.getElem?_cons_succ]; rfl) (by kernel_rfl) (by kernel_rfl) (by kernel_rfl) (fun _ _ _ h => h) (Or.inr ⟨by rfl, by rfl⟩) HELD.out ?_
  try simp only [Act.put, List.setIfInBounds_toArray, List.set_cons_zero, List.set_cons_succ]
  refine wpAnyH_take (i := 14) (v := undef) (by simp only [List.getElem?_toArray, List.getElem?_cons_zero, List.getElem?_cons_succ]; rfl) (by kernel_rfl) (by kernel_rfl) (by kernel_rfl) (fun _ _ _ h => h) (Or.inr ⟨by rfl, by rfl⟩) HELD.out ?_
  try simp only [Act.put, List.setIfInBounds_toArray, List.set_cons_zero, List.set_cons_succ]
  refine wpAnyH_take (i := 15) (v := undef) (by simp only [List.getElem?_toArray, List.getElem?_cons_zero, List.getElem?_cons_succ]; rfl) (by kernel_rfl) (by kernel_rfl) (by kernel_rfl) (fun _ _ _ h => h) (Or.inr ⟨by rfl, by rfl⟩) HELD.out ?_
  try simp only [Act.put, List.setIfInBounds_toArray, List.set_cons_zero, List.set_cons_succ]
  refine wpAnyH_take (i := 16) (v := undef) (by simp only [List.getElem?_toArray, List.getElem?_cons_zero, List.getElem?_cons_succ]; rfl) (by kernel_rfl) (by kernel_rfl) (by kernel_rfl) (fun _ _ _ h => h) (Or.inr ⟨by rfl, by rfl⟩) HELD.out ?_
  try simp only [Act.put, List.setIfInBounds_toArray, List.set_cons_zero, List.set_cons_succ]
  refine wpAnyH_take (i := 17) (v := undef) (by simp only [List.getElem?_toArray, List.getElem?_cons_zero, List.getElem?_cons_succ]; rfl) (by kernel_rfl) (by kernel_rfl) (by kernel_rfl) (fun _ _ _ h => h) (Or.inr ⟨by rfl, by rfl⟩) HELD.out ?_
  try simp only [Act.put, List.setIfInBounds_toArray, List.set_cons_zero, List.set_cons_succ]
  refine wpAnyH_take (i := 18) (v := undef) (by simp only [List.getElem?_toArray, List.getElem?_cons_zero, List.getElem?_cons_succ]; rfl) (by kernel_rfl) (by kernel_rfl) (by kernel_rfl) (fun _ _ _ h => h) (Or.inr ⟨by rfl, by rfl⟩) HELD.out ?_
  try simp only [Act.put, List.setIfInBounds_toArray, List.set_cons_zero, List.set_cons_succ]
  refine wpAnyH_take (i := 19) (v := ?_) (by simp only [List.getElem?_toArray, List.getElem?_cons_zero, List.getElem?_cons_succ]; rfl) (by kernel_rfl) (by kernel_rfl) (by kernel_rfl) (fun _ _ _ h => h) (Or.inl ⟨by rfl, ?_⟩) HELD.out ?_
  rotate_left
  · intro w hSw
    (try dsimp only at hSw)
    obtain ⟨q0_, q1_, q2_, q3_, q4_, q5_⟩ := hSw
    go_simp
    try with_reducible rfl
  try simp only [Act.put, List.setIfInBounds_toArray, List.set_cons_zero, List.set_cons_succ]
  refine wpAnyH_take (i := 20) (v := ?_) (by simp only [List.getElem?_toArray, List.getElem?_cons_zero, List.getElem?_cons_succ]; rfl) (by kernel_rfl) (by kernel_rfl) (by kernel_rfl) (fun _ _ _ h => h) (Or.inl ⟨by rfl, ?_⟩) HELD.out ?_
  rotate_left
  · intro w hSw
    (try dsimp only at hSw)
    obtain ⟨q0_, q1_, q2_, q3_, q4_, q5_⟩ := hSw
    go_simp
    try with_reducible rfl
  try simp only [Act.put, List.setIfInBounds_toArray, List.set_cons_zero, List.set_cons_succ]
  refine wpAnyH_take (i := 21) (v := ?_) (by simp only [List.getElem?_toArray, List.getElem?_cons_zero, List.getElem?_cons_succ]; rfl) (by kernel_rfl) (by kernel_rfl) (by kernel_rfl) (fun _ _ _ h => h) (Or.inl ⟨by rfl, ?_⟩) HELD.out ?_
  rotate_left
  · intro w hSw
    (try dsimp only at hSw)
    obtain ⟨q0_, q1_, q2_, q3_, q4_, q5_⟩ := hSw
    go_simp
    try with_reducible rfl
  try simp only [Act.put, List.setIfInBounds_toArray, List.set_cons_zero, List.set_cons_succ]
  refine wpAnyH_take (i := 22) (v := ?_) (by simp only [List.getElem?_toArray, List.getElem?_cons_zero, List.getElem?_cons_succ]; rfl) (by kernel_rfl) (by kernel_rfl) (by kernel_rfl) (fun _ _ _ h => h) (Or.inl ⟨by rfl, ?_⟩) HELD.out ?_
  rotate_left
  · intro w hSw
    (try dsimp only at hSw)
    obtain ⟨q0_, q1_, q2_, q3_, q4_, q5_⟩ := hSw
    go_simp
    try with_reducible rfl
  try simp only [Act.put, List.setIfInBounds_toArray, List.set_cons_zero, List.set_cons_succ]
  refine wpAnyH_take (i := 23) (v := ?_) (by simp only [List.getElem?_toArray, List.getElem?_cons_zero, List.getElem?_cons_succ]; rfl) (by kernel_rfl) (by kernel_rfl) (by kernel_rfl) (fun _ _ _ h => h) (Or.inl ⟨by rfl, ?_⟩) HELD.out ?_
  rotate_left
  · intro w hSw
    (try dsimp only at hSw)
    obtain ⟨q0_, q1_, q2_, q3_, q4_, q5_⟩ := hSw
    go_simp
    try with_reducible rfl
  try simp only [Act.put, List.setIfInBounds_toArray, List.set_cons_zero, List.set_cons_succ]
  refine wpAnyH_take (i := 24) (v := ?_) (by simp only [List.getElem?_toArray, List.getElem?_cons_zero, List.getElem?_cons_succ]; rfl) (by kernel_rfl) (by kernel_rfl) (by kernel_rfl) (fun _ _ _ h => h) (Or.inl ⟨by rfl, ?_⟩) HELD.out ?_
  rotate_left
  · intro w hSw
    (try dsimp only at hSw)
    obtain ⟨q0_, q1_, q2_, q3_, q4_, q5_⟩ := hSw
    go_simp
    try with_reducible rfl
  try simp only [Act.put, List.setIfInBounds_toArray, List.set_cons_zero, List.set_cons_succ]
  refine wpAnyH_take (i := 25) (v := ?_) (by simp only [List.getElem?_toArray, List.getElem?_cons_zero, List.getElem?_cons_succ]; rfl) (by kernel_rfl) (by kernel_rfl) (by kernel_rfl) (fun _ _ _ h => h) (Or.inl ⟨by rfl, ?_⟩) HELD.out ?_
  rotate_left
  · intro w hSw
    (try dsimp only at hSw)
    obtain ⟨q0_, q1_, q2_, q3_, q4_, q5_⟩ := hSw
    go_simp
    try with_reducible rfl
  try simp only [Act.put, List.setIfInBounds_toArray, List.set_cons_zero, List.set_cons_succ]
  refine wpAnyH_take (i := 26) (v := ?_) (by simp only [List.getElem?_toArray, List.getElem?_cons_zero, List.getElem?_cons_succ]; rfl) (by kernel_rfl) (by kernel_rfl) (by kernel_rfl) (fun _ _ _ h => h) (Or.inl ⟨by rfl, ?_⟩) HELD.out ?_
  rotate_left
  · intro w hSw
    (try dsimp only at hSw)
    obtain ⟨q0_, q1_, q2_, q3_, q4_, q5_⟩ := hSw
    go_simp
    try with_reducible rfl
  try simp only [Act.put, List.setIfInBounds_toArray, List.set_cons_zero, List.set_cons_succ]
  refine wpAnyH_take (i := 27) (v := ?_) (by simp only [List.getElem?_toArray, List.getElem?_cons_zero, List.getElem?_cons_succ]; rfl) (by kernel_rfl) (by kernel_rfl) (by kernel_rfl) (fun _ _ _ h => h) (Or.inl ⟨by rfl, ?_⟩) HELD.out ?_
  rotate_left
  · intro w hSw
    (try dsimp only at hSw)
    obtain ⟨q0_, q1_, q2_, q3_, q4_, q5_⟩ := hSw
    go_simp
    try with_reducible rfl
  try simp only [Act.put, List.setIfInBounds_toArray, List.set_cons_zero, List.set_cons_succ]
  refine wpAnyH_take (i := 28) (v := ?_) (by simp only [List.getElem?_toArray, List.getElem?_cons_zero, List.getElem?_cons_succ]; rfl) (by kernel_rfl) (by kernel_rfl) (by kernel_rfl) (fun _ _ _ h => h) (Or.inl ⟨by rfl, ?_⟩) HELD.out ?_
  rotate_left
  · intro w hSw
    (try dsimp only at hSw)
    obtain ⟨q0_, q1_, q2_, q3_, q4_, q5_⟩ := hSw
    go_simp
    try with_reducible rfl
  try simp only [Act.put, List.setIfInBounds_toArray, List.set_cons_zero, List.set_cons_succ]
  refine wpAnyH_take (i := 29) (v := ?_) (by simp only [List.getElem?_toArray, List.getElem?_cons_zero, List.getElem?_cons_succ]; rfl) (by kernel_rfl) (by kernel_rfl) (by kernel_rfl) (fun _ _ _ h => h) (Or.inl ⟨by rfl, ?_⟩) HELD.out ?_
  rotate_left
  · intro w hSw
    (try dsimp only at hSw)
    obtain ⟨q0_, q1_, q2_, q3_, q4_, q5_⟩ := hSw
    go_simp
    try with_reducible rfl
  try simp only [Act.put, List.setIfInBounds_toArray, List.set_cons_zero, List.set_cons_succ]
  refine wpAnyH_ready (rs := [30]) (by kernel_rfl) (by simp) ?_
  refine AllReadyH.cons (by simp only [List.getElem?_toArray, List.getElem?_cons_zero, List.getElem?_cons_succ]; rfl) (fun K hK => ?_) AllReadyH.nil
  go_simp
  refine (HC1.out _ HY0.out).mono ?_
  rintro e s1 ⟨rfl, hw⟩
  obtain rfl := hw.symm
  refine hK.out _ _ HELD.out (fun _ => ?_)
  clear hK K
  try simp only [Act.put, List.setIfInBounds_toArray, List.set_cons_zero, List.set_cons_succ]
  refine wpAnyH_take (i := 31) (v := ?_) (by simp only [List.getElem?_toArray, List.getElem?_cons_zero, List.getElem?_cons_succ]; rfl) (by kernel_rfl) (by kernel_rfl) (by kernel_rfl) (fun _ _ _ h => h) (Or.inl ⟨by rfl, ?_⟩) HELD.out ?_
  rotate_left
  · intro w hSw
    (try dsimp only at hSw)
    obtain ⟨q0_, q1_, q2_, q3_, q4_, q5_⟩ := hSw
    go_simp
    try with_reducible rfl
  try simp only [Act.put, List.setIfInBounds_toArray, List.set_cons_zero, List.set_cons_succ]
  refine wpAnyH_take (i := 32) (v := ?_) (by simp only [List.getElem?_toArray, List.getElem?_cons_zero, List.getElem?_cons_succ]; rfl) (by kernel_rfl) (by kernel_rfl) (by kernel_rfl) (fun _ _ _ h => h) (Or.inl ⟨by rfl, ?_⟩) HELD.out ?_
  rotate_left
  · intro w hSw
    (try dsimp only at hSw)
    obtain ⟨q0_, q1_, q2_, q3_, q4_, q5_⟩ := hSw
    go_simp
    try with_reducible rfl
  try simp only [Act.put, List.setIfInBounds_toArray, List.set_cons_zero, List.set_cons_succ]
  refine wpAnyH_take (i := 33) (v := ?_) (by simp only [List.getElem?_toArray, List.getElem?_cons_zero, List.getElem?_cons_succ]; rfl) (by kernel_rfl) (by kernel_rfl) (by kernel_rfl) (fun _ _ _ h => h) (Or.inl ⟨by rfl, ?_⟩) HELD.out ?_
  rotate_left
  · intro w hSw
    (try dsimp only at hSw)
    obtain ⟨q0_, q1_, q2_, q3_, q4_, q5_⟩ := hSw
    go_simp
    try with_reducible rfl
  try simp only [Act.put, List.setIfInBounds_toArray, List.set_cons_zero, List.set_cons_succ]
  refine wpAnyH_take (i := 34) (v := ?_) (by simp only [List.getElem?_toArray, List.getElem?_cons_zero, List.getElem?_cons_succ]; rfl) (by kernel_rfl) (by kernel_rfl) (by kernel_rfl) (fun _ _ _ h => h) (Or.inl ⟨by rfl, ?_⟩) HELD.out ?_
  rotate_left
  · intro w hSw
    (try dsimp only at hSw)
    obtain ⟨q0_, q1_, q2_, q3_, q4_, q5_⟩ := hSw
    go_simp
    try with_reducible rfl
  try simp only [Act.put, List.setIfInBounds_toArray, List.set_cons_zero, List.set_cons_succ]
  refine wpAnyH_take (i := 35) (v := ?_) (by simp only [List.getElem?_toArray, List.getElem?_cons_zero, List.getElem?_cons_succ]; rfl) (by kernel_rfl) (by kernel_rfl) (by kernel_rfl) (fun _ _ _ h => h) (Or.inl ⟨by rfl, ?_⟩) HELD.out ?_
  rotate_left
  · intro w hSw
    (try dsimp only at hSw)
    obtain ⟨q0_, q1_, q2_, q3_, q4_, q5_⟩ := hSw
    go_simp
    try with_reducible rfl
  try simp only [Act.put, List.setIfInBounds_toArray, List.set_cons_zero, List.set_cons_succ]
  refine wpAnyH_take (i := 36) (v := ?_) (by simp only [List.getElem?_toArray, List.getElem?_cons_zero, List.getElem?_cons_succ]; rfl) (by kernel_rfl) (by kernel_rfl) (by kernel_rfl) (fun _ _ _ h => h) (Or.inl ⟨by rfl, ?_⟩) HELD.out ?_
  rotate_left
  · intro w hSw
    (try dsimp only at hSw)
    obtain ⟨q0_, q1_, q2_, q3_, q4_, q5_⟩ := hSw
    go_simp
    try with_reducible rfl
  try simp only [Act.put, List.setIfInBounds_toArray, List.set_cons_zero, List.set_cons_succ]
  refine wpAnyH_take (i := 37) (v := ?_) (by simp only [List.getElem?_toArray, List.getElem?_cons_zero, List.getElem?_cons_succ]; rfl) (by kernel_rfl) (by kernel_rfl) (by kernel_rfl) (fun _ _ _ h => h) (Or.inl ⟨by rfl, ?_⟩) HELD.out ?_
  rotate_left
  · intro w hSw
    (try dsimp only at hSw)
    obtain ⟨q0_, q1_, q2_, q3_, q4_, q5_⟩ := hSw
    go_simp
    try with_reducible rfl
  try simp only [Act.put, List.setIfInBounds_toArray, List.set_cons_zero, List.set_cons_succ]
  refine wpAnyH_take (i := 38) (v := ?_) (by simp only [List.getElem?_toArray, List.getElem?_cons_zero, List.getElem?_cons_succ]; rfl) (by kernel_rfl) (by kernel_rfl) (by kernel_rfl) (fun _ _ _ h => h) (Or.inl ⟨by rfl, ?_⟩) HELD.out ?_
  rotate_left
  · intro w hSw
    (try dsimp only at hSw)
    obtain ⟨q0_, q1_, q2_, q3_, q4_, q5_⟩ := hSw
    go_simp
    try with_reducible rfl
  try simp only [Act.put, List.setIfInBounds_toArray, List.set_cons_zero, List.set_cons_succ]
  refine wpAnyH_take (i := 39) (v := ?_) (by simp only [List.getElem?_toArray, List.getElem?_cons_zero, List.getElem?_cons_succ]; rfl) (by kernel_rfl) (by kernel_rfl) (by kernel_rfl) (fun _ _ _ h => h) (Or.inl ⟨by rfl, ?_⟩) HELD.out ?_
  rotate_left
  · intro w hSw
    (try dsimp only at hSw)
    obtain ⟨q0_, q1_, q2_, q3_, q4_, q5_⟩ := hSw
    go_simp
    try with_reducible rfl
  try simp only [Act.put, List.setIfInBounds_toArray, List.set_cons_zero, List.set_cons_succ]
  refine wpAnyH_take (i := 40) (v := ?_) (by simp only [List.getElem?_toArray, List.getElem?_cons_zero, List.getElem?_cons_succ]; rfl) (by kernel_rfl) (by kernel_rfl) (by kernel_rfl) (fun _ _ _ h => h) (Or.inl ⟨by rfl, ?_⟩) HELD.out ?_
  rotate_left
  · intro w hSw
    (try dsimp only at hSw)
    obtain ⟨q0_, q1_, q2_, q3_, q4_, q5_⟩ := hSw
    go_simp
    try with_reducible rfl
  try simp only [Act.put, List.setIfInBounds_toArray, List.set_cons_zero, List.set_cons_succ]
  refine wpAnyH_take (i := 41) (v := ?_) (by simp only [List.getElem?_toArray, List.getElem?_cons_zero, List.getElem?_cons_succ]; rfl) (by kernel_rfl) (by kernel_rfl) (by kernel_rfl) (fun _ _ _ h => h) (Or.inl ⟨by rfl, ?_⟩) HELD.out ?_
  rotate_left
  · intro w hSw
    (try dsimp only at hSw)
    obtain ⟨q0_, q1_, q2_, q3_, q4_, q5_⟩ := hSw
    go_simp
    try with_reducible rfl
  try simp only [Act.put, List.setIfInBounds_toArray, List.set_cons_zero, List.set_cons_succ]
  refine wpAnyH_take (i := 42) (v := ?_) (by simp only [List.getElem?_toArray, List.getElem?_cons_zero, List.getElem?_cons_succ]; rfl) (by kernel_rfl) (by kernel_rfl) (by kernel_rfl) (fun _ _ _ h => h) (Or.inl ⟨by rfl, ?_⟩) HELD.out ?_
  rotate_left
  · intro w hSw
    (try dsimp only at hSw)
    obtain ⟨q0_, q1_, q2_, q3_, q4_, q5_⟩ := hSw
    go_simp
    try with_reducible rfl
  try simp only [Act.put, List.setIfInBounds_toArray, List.set_cons_zero, List.set_cons_succ]
  refine wpAnyH_take (i := 43) (v := ?_) (by simp only [List.getElem?_toArray, List.getElem?_cons_zero, List.getElem?_cons_succ]; rfl) (by kernel_rfl) (by kernel_rfl) (by kernel_rfl) (fun _ _ _ h => h) (Or.inl ⟨by rfl, ?_⟩) HELD.out ?_
  rotate_left
  · intro w hSw
    (try dsimp only at hSw)
    obtain ⟨q0_, q1_, q2_, q3_, q4_, q5_⟩ := hSw
    go_simp
    try with_reducible rfl
  try simp only [Act.put, List.setIfInBounds_toArray, List.set_cons_zero, List.set_cons_succ]
  refine wpAnyH_ready (rs := [44]) (by kernel_rfl) (by simp) ?_
  refine AllReadyH.cons (by simp only [List.getElem?_toArray, List.getElem?_cons_zero, List.getElem?_cons_succ]; rfl) (fun K hK => ?_) AllReadyH.nil
  go_simp
  refine (HC2.out _ HY0.out).mono ?_
  rintro e s1 ⟨rfl, hw⟩
  obtain rfl := hw.symm
  refine hK.out _ _ HELD.out (fun _ => ?_)
  clear hK K
  try simp only [Act.put, List.setIfInBounds_toArray, List.set_cons_zero, List.set_cons_succ]
  refine wpAnyH_take (i := 45) (v := ?_) (by simp only [List.getElem?_toArray, List.getElem?_cons_zero, List.getElem?_cons_succ]; rfl) (by kernel_rfl) (by kernel_rfl) (by kernel_rfl) (fun _ _ _ h => h) (Or.inl ⟨by rfl, ?_⟩) HELD.out ?_
  rotate_left
  · intro w hSw
    (try dsimp only at hSw)
    obtain ⟨q0_, q1_, q2_, q3_, q4_, q5_⟩ := hSw
    go_simp
    try with_reducible rfl
  try simp only [Act.put, List.setIfInBounds_toArray, List.set_cons_zero, List.set_cons_succ]
  refine wpAnyH_take (i := 46) (v := ?_) (by simp only [List.getElem?_toArray, List.getElem?_cons_zero, List.getElem?_cons_succ]; rfl) (by kernel_rfl) (by kernel_rfl) (by kernel_rfl) (fun _ _ _ h => h) (Or.inl ⟨by rfl, ?_⟩) HELD.out ?_
  rotate_left
  · intro w hSw
    (try dsimp only at hSw)
    obtain ⟨q0_, q1_, q2_, q3_, q4_, q5_⟩ := hSw
    go_simp
    try with_reducible rfl
  try simp only [Act.put, List.setIfInBounds_toArray, List.set_cons_zero, List.set_cons_succ]
  refine wpAnyH_done (by kernel_rfl) ?_ _
  refine NoPanic.normal ?_
  exact HKQ _ _ _ _ _ _ _ _ _ _ _ _ _ _ _ _ _ _ _ _ _ _ _ _ _ _ _ _ _ _ _ _ _ _ _ _ _ _ _ _ _ _ _ _ _ _ _ HY0.out
end Go.Proofs.Ytgpkghlhlabjcaa
/- The law LoopCuts, walked. -/
namespace Go.Proofs.Ytgpkghlhlabjcaa
open Go Go.RowKit Go.Joins

theorem Sees.slc_at {w : World} {b off n c : Nat} {ss : List Slc} (h : Sees w (some ⟨b, off, .none⟩) n c (ss.map slV)) (j : Nat) (hj : j < n) : w.cell? ⟨b, off + j, .none⟩ = some (slV (ss.getD j slc0)) := by
  have hl : ss.length = n := h.lenMap
  rw [(h.cell j hj).2]
  simp [List.getD, List.getElem?_eq_getElem (show j < ss.length by omega)]

set_option maxRecDepth 100000 in
set_option maxHeartbeats 12800000 in
theorem cuts8_any (c : NormC) (t : TraceC) (s : CSlots) (st : TSlots) (w : World) (h : SeesCir w s c) (ht : SeesTr w st t) (hs : s.small) (hst : st.small) (hlo : -9223372036854775808 ≤ c.ins) (hhi : c.ins < 9223372036854775808) (hb1 : -9223372036854775808 ≤ t.bad ∧ t.bad < 9223372036854775808) (hw : Wide c) :
    Calls Try.prog 4 #[cirV c.ins s, traceV t.bad st] w fun e w' => e = .returned (.bool true) ∧ Below w.heap.size w w' := by
  have HGR := Lib.hid (fun W (hb : Below w.heap.size w W) => great8_any c t s st W (h.below hb) (ht.below hb))
  have HLV := Lib.hid lives8_any
  have HCU : Hid (∀ W, Below w.heap.size w W → Calls Try.prog 14 #[cirV c.ins s, traceV t.bad st] W fun e W' => ∃ (x : TSlots) (la : Option Addr) (lc : Nat), e = .returned (.tuple #[traceV (cutO c t).1.bad x, .slice la (cutO c t).2.1.length lc, .int .i64 (cutO c t).2.2]) ∧ Sees W' la (cutO c t).2.1.length lc ((cutO c t).2.1.map iv) ∧ OwnTA W' W.heap.size x (cutO c t).1 ∧ x.small ∧ Below W.heap.size W W') :=
    fun W hb => cut_any c t s st W (h.below hb) (ht.below hb) hs hst hlo hhi hb1
  have HFA := Lib.hid (fun W (hb : Below w.heap.size w W) => rfails_any c t s st W (h.below hb) (ht.below hb) hs hst hlo hhi hb1 hw)
  have HCASE : Hid ((fitsS c t = false ∧ cutO c t = (⟨0, [], []⟩, [], 2) ∧ failsE c t = .returned (.tuple #[.bool false, .int .i64 2])) ∨ (fitsS c t = true ∧ cutO c t = (⟨0, [], []⟩, [], 10) ∧ failsE c t = .returned (.tuple #[.bool false, .int .i64 0])) ∨ (fitsS c t = true ∧ failsB c t = true ∧ cutO c t = (cutT c t, remS (statesL c t), 0) ∧ failsE c t = .returned (.tuple #[.bool true, .int .i64 0]))) := by
    cases hq : fitsS c t with
    | false => exact .inl ⟨rfl, if_neg (by rw [hq]; decide), if_neg (by rw [hq]; decide)⟩
    | true =>
      have e : failsE c t = .returned (.tuple #[.bool (failsB c t), .int .i64 0]) := if_pos hq
      cases hf : failsB c t with
      | false => exact .inr (.inl ⟨rfl, (if_pos hq).trans (if_neg (by rw [hf]; decide)), by rw [e, hf]⟩)
      | true => exact .inr (.inr ⟨rfl, rfl, (if_pos hq).trans (if_pos hf), by rw [e, hf]⟩)
  have HMAIN : Hid (fitsS c t = true → failsB c t = true → MainC c t s st w) := fun h1 h2 => mainC c t s st w h ht hs hst hlo hhi hb1 hw (fits_iff.1 h1) h2
  obtain ⟨E, hE⟩ : ∃ E, E = failsE c t := ⟨_, rfl⟩
  rw [← hE] at HFA HCASE
  obtain ⟨gq, hgq⟩ : ∃ g, g = great8 c t := ⟨_, rfl⟩
  rw [← hgq] at HGR
  clear hgq hE h ht hs hst hlo hhi hb1 hw
  unfold cirV traceV at *
  go_enter Try.func4, Try.ntmps4
  go_upto_region 1 with fail
  generalize hW : World.alloc (World.alloc w _) _ = W1
  have hb : Below w.heap.size w W1 := by subst hW; exact ext_trans (ext_alloc _ _) (ext_alloc _ _)
  have hx : W1.heap[w.heap.size]? = some (.cells #[.int .i64 c.ins, .slice s.a1 s.n1 s.c1, .slice s.a2 s.n2 s.c2, .slice s.a3 s.n3 s.c3, .slice s.a4 s.n4 s.c4, .slice s.a5 s.n5 s.c5] 26 (0, 0)) := by subst hW; exact heap_below (heap_new _ _ _ rfl) (ext_alloc _ _)
  have hy : W1.heap[w.heap.size + 1]? = some (.cells #[.int .i64 t.bad, .slice st.a1 st.n1 st.c1, .slice st.a2 st.n2 st.c2] 30 (0, 0)) := by subst hW; exact heap_new _ _ _ (by simp)
  have HB := Lib.hid hb
  have HX := Lib.hid hx
  have HY := Lib.hid hy
  clear hW hb hx hy
  have p0 := cell_of_block (heap_below HX.out (Below.refl _ _)) 0
  have p1 := cell_of_block (heap_below HX.out (Below.refl _ _)) 1
  have p2 := cell_of_block (heap_below HX.out (Below.refl _ _)) 2
  have p3 := cell_of_block (heap_below HX.out (Below.refl _ _)) 3
  have p4 := cell_of_block (heap_below HX.out (Below.refl _ _)) 4
  have p5 := cell_of_block (heap_below HX.out (Below.refl _ _)) 5
  have r0 := cell_of_block (heap_below HY.out (Below.refl _ _)) 0
  have r1 := cell_of_block (heap_below HY.out (Below.refl _ _)) 1
  have r2 := cell_of_block (heap_below HY.out (Below.refl _ _)) 2
  go_wp2_with fail
  refine (HGR.out W1 HB.out).mono ?_
  rintro e W2 ⟨rfl, hb⟩
  have HB2 := Lib.hid hb
  clear hb
  clear p0 p1 p2 p3 p4 p5
  clear r0 r1 r2
  cases gq with
  | true =>
    go_wp2_with fail
    refine (HLV.out _).mono ?_
    rintro e W3 ⟨rfl, hb⟩
    have HB3 := Lib.hid (ext_trans HB.out (ext_trans HB2.out hb))
    clear hb
    go_wp2
    go_ret
    exact ⟨rfl, HB3.out⟩
  | false =>
  have p0 := cell_of_block (heap_below HX.out HB2.out) 0
  have p1 := cell_of_block (heap_below HX.out HB2.out) 1
  have p2 := cell_of_block (heap_below HX.out HB2.out) 2
  have p3 := cell_of_block (heap_below HX.out HB2.out) 3
  have p4 := cell_of_block (heap_below HX.out HB2.out) 4
  have p5 := cell_of_block (heap_below HX.out HB2.out) 5
  have r0 := cell_of_block (heap_below HY.out HB2.out) 0
  have r1 := cell_of_block (heap_below HY.out HB2.out) 1
  have r2 := cell_of_block (heap_below HY.out HB2.out) 2
  go_wp2_with fail
  refine (HCU.out W2 (ext_trans HB.out HB2.out)).mono ?_
  rintro e W3 ⟨x, la, lc, rfl, hl, hx, hxs, hb⟩
  have HB3 := Lib.hid (ext_trans HB2.out hb)
  have HL3 := Lib.hid hl
  have HX3 := Lib.hid hx
  have HXS := Lib.hid hxs
  clear hb hl hx hxs
  clear p0 p1 p2 p3 p4 p5
  clear r0 r1 r2
  go_upto_region 4 with fail
  generalize hW : World.alloc W3 _ = W4
  have hb : Below W3.heap.size W3 W4 := by subst hW; exact ext_alloc _ _
  have hp : W4.heap[W3.heap.size]? = some (.cells #[.int .i64 (cutO c t).1.bad, .slice x.a1 x.n1 x.c1, .slice x.a2 x.n2 x.c2] 30 (0, 0)) := by subst hW; exact heap_new _ _ _ rfl
  obtain ⟨P, hP⟩ : ∃ P, P = W3.heap.size := ⟨_, rfl⟩
  rw [← hP] at hp
  try rw [← hP]
  have HP4 := Lib.hid hp
  have HB4 := Lib.hid (ext_trans HB3.out hb)
  have HL4 := Lib.hid (HL3.out.below hb)
  have HX4 := Lib.hid (HX3.out.below hb)
  clear hW hb hp hP HB3 HL3 HX3
  have p0 := cell_of_block (heap_below HX.out HB4.out) 0
  have p1 := cell_of_block (heap_below HX.out HB4.out) 1
  have p2 := cell_of_block (heap_below HX.out HB4.out) 2
  have p3 := cell_of_block (heap_below HX.out HB4.out) 3
  have p4 := cell_of_block (heap_below HX.out HB4.out) 4
  have p5 := cell_of_block (heap_below HX.out HB4.out) 5
  have r0 := cell_of_block (heap_below HY.out HB4.out) 0
  have r1 := cell_of_block (heap_below HY.out HB4.out) 1
  have r2 := cell_of_block (heap_below HY.out HB4.out) 2
  go_wp2_with fail
  refine (HFA.out W4 (ext_trans HB.out HB4.out)).mono ?_
  rintro e W5 ⟨he, hb⟩
  have HB5 := Lib.hid (ext_trans HB4.out hb)
  have HL5 := Lib.hid (HL4.out.below hb)
  have HX5 := Lib.hid (HX4.out.below hb)
  have HP5 := Lib.hid (heap_below HP4.out hb)
  clear hb HB4 HL4 HX4 HP4
  clear p0 p1 p2 p3 p4 p5
  clear r0 r1 r2
  rcases HCASE.out with ⟨_, hc, hf⟩ | ⟨_, hc, hf⟩ | ⟨h1, h2, hc, hf⟩
  · have he2 := he.trans hf
    rw [hc] at HL5 HX5 HP5
    rw [hc]
    subst he2
    clear he hf hc HCASE HMAIN HCU HFA HL5 HX5 HP5
    simp only [List.length_nil]
    go_wp2_with fail
    refine (HLV.out _).mono ?_
    rintro e W6 ⟨rfl, hb⟩
    have HB6 := Lib.hid (ext_trans HB.out (ext_trans HB5.out hb))
    clear hb
    go_wp2
    go_ret
    exact ⟨rfl, HB6.out⟩
  · have he2 := he.trans hf
    rw [hc] at HL5 HX5 HP5
    rw [hc]
    subst he2
    clear he hf hc HCASE HMAIN HCU HFA HL5 HX5 HP5
    simp only [List.length_nil]
    go_wp2_with fail
    refine (HLV.out _).mono ?_
    rintro e W6 ⟨rfl, hb⟩
    have HB6 := Lib.hid (ext_trans HB.out (ext_trans HB5.out hb))
    clear hb
    go_wp2
    go_ret
    exact ⟨rfl, HB6.out⟩
  have he2 := he.trans hf
  obtain ⟨m, n, K, S, S', T, hmain⟩ := HMAIN.out h1 h2
  obtain ⟨eT, eK, HM⟩ := hmain
  rw [hc] at HL5 HX5 HP5
  rw [hc]
  simp only at HL5 HX5 HP5 ⊢
  rw [← eK] at HL5
  rw [← eT] at HX5 HP5
  have eTb : T.bad = t.bad := by rw [eT]; rfl
  rw [eTb] at HP5
  have hbd : (cutT c t).bad = t.bad := rfl
  rw [hbd, ← eK]
  have hmK : K.length = m := HM.mK
  rw [hmK] at HL5 ⊢
  subst he2
  have HMX : Hid (x.n2 = m) := by have h1 := HX5.out.ll.len; have h2 := HM.lenT; unfold Hid; omega
  have hxm := HMX.out
  have hsn := HM.nt
  subst hxm
  subst hsn
  have HMM := Lib.hid HM
  clear he hf hc HCASE HMAIN HCU HFA eT eK eTb hbd hmK h1 h2 HM HMX
  have p0 := cell_of_block (heap_below HX.out HB5.out) 0
  have p1 := cell_of_block (heap_below HX.out HB5.out) 1
  have p2 := cell_of_block (heap_below HX.out HB5.out) 2
  have p3 := cell_of_block (heap_below HX.out HB5.out) 3
  have p4 := cell_of_block (heap_below HX.out HB5.out) 4
  have p5 := cell_of_block (heap_below HX.out HB5.out) 5
  have q0 := cell_of_block HP5.out 0
  have q1 := cell_of_block HP5.out 1
  have q2 := cell_of_block HP5.out 2
  go_wp2_with fail
  refine (HMM.out.fa2 x W5 (ext_trans HB.out HB5.out) HX5.out.sees HXS.out).mono ?_
  rintro e W6 ⟨rfl, hb⟩
  have HB6 := Lib.hid (ext_trans HB5.out hb)
  have HL6 := Lib.hid (HL5.out.below hb)
  have HX6 := Lib.hid (HX5.out.below hb)
  have HP6 := Lib.hid (heap_below HP5.out hb)
  clear hb HB5 HL5 HX5 HP5
  clear p0 p1 p2 p3 p4 p5
  clear q0 q1 q2
  have p0 := cell_of_block (heap_below HX.out HB6.out) 0
  have p1 := cell_of_block (heap_below HX.out HB6.out) 1
  have p2 := cell_of_block (heap_below HX.out HB6.out) 2
  have p3 := cell_of_block (heap_below HX.out HB6.out) 3
  have p4 := cell_of_block (heap_below HX.out HB6.out) 4
  have p5 := cell_of_block (heap_below HX.out HB6.out) 5
  have q0 := cell_of_block HP6.out 0
  have q1 := cell_of_block HP6.out 1
  have q2 := cell_of_block HP6.out 2
  go_wp2_with fail
  refine (HMM.out.cu2 x W6 (ext_trans HB.out HB6.out) HX6.out.sees HXS.out).mono ?_
  rintro e W7 ⟨y, ja, jc, rfl, hy, hys, hb⟩
  have HB7 := Lib.hid (ext_trans HB6.out hb)
  have HL7 := Lib.hid (HL6.out.below hb)
  have HX7 := Lib.hid (HX6.out.below hb)
  have HP7 := Lib.hid (heap_below HP6.out hb)
  have HYT := Lib.hid hy
  have HYS := Lib.hid hys
  clear hb hy hys HB6 HL6 HX6 HP6
  clear p0 p1 p2 p3 p4 p5
  clear q0 q1 q2
  go_upto_region 11 with fail
  generalize hW : World.alloc W7 _ = W8
  have hb : Below W7.heap.size W7 W8 := by subst hW; exact ext_alloc _ _
  have hp : W8.heap[W7.heap.size]? = some (.cells #[.int .i64 t.bad, .slice y.a1 y.n1 y.c1, .slice y.a2 y.n2 y.c2] 30 (0, 0)) := by subst hW; exact heap_new _ _ _ rfl
  obtain ⟨Q, hQ⟩ : ∃ Q, Q = W7.heap.size := ⟨_, rfl⟩
  rw [← hQ] at hp
  try rw [← hQ]
  have HQ8 := Lib.hid hp
  have HB8 := Lib.hid (ext_trans HB7.out hb)
  have HL8 := Lib.hid (HL7.out.below hb)
  have HX8 := Lib.hid (HX7.out.below hb)
  have HP8 := Lib.hid (heap_below HP7.out hb)
  have HYT8 := Lib.hid (HYT.out.below hb)
  clear hW hb hp hQ HB7 HL7 HX7 HP7 HYT
  have p0 := cell_of_block (heap_below HX.out HB8.out) 0
  have p1 := cell_of_block (heap_below HX.out HB8.out) 1
  have p2 := cell_of_block (heap_below HX.out HB8.out) 2
  have p3 := cell_of_block (heap_below HX.out HB8.out) 3
  have p4 := cell_of_block (heap_below HX.out HB8.out) 4
  have p5 := cell_of_block (heap_below HX.out HB8.out) 5
  have q0 := cell_of_block HP8.out 0
  have q1 := cell_of_block HP8.out 1
  have q2 := cell_of_block HP8.out 2
  go_wp2_with fail
  refine (HMM.out.ag2 x W8 (ext_trans HB.out HB8.out) HX8.out.sees HXS.out).mono ?_
  rintro e W9 ⟨rfl, hb⟩
  have HB9 := Lib.hid (ext_trans HB8.out hb)
  have HL9 := Lib.hid (HL8.out.below hb)
  have HX9 := Lib.hid (HX8.out.below hb)
  have HP9 := Lib.hid (heap_below HP8.out hb)
  have HQ9 := Lib.hid (heap_below HQ8.out hb)
  have HYT9 := Lib.hid (HYT8.out.below hb)
  clear hb HB8 HL8 HX8 HP8 HQ8 HYT8
  clear p0 p1 p2 p3 p4 p5
  clear q0 q1 q2
  have r0 := cell_of_block (heap_below HY.out HB9.out) 0
  have r1 := cell_of_block (heap_below HY.out HB9.out) 1
  have r2 := cell_of_block (heap_below HY.out HB9.out) 2
  have q0 := cell_of_block HP9.out 0
  have q1 := cell_of_block HP9.out 1
  have q2 := cell_of_block HP9.out 2
  have s0 := cell_of_block HQ9.out 0
  have s1 := cell_of_block HQ9.out 1
  have s2 := cell_of_block HQ9.out 2
  have hmn : ¬ ((st.n2 : Int) < (x.n2 : Int)) := by have := HMM.out.mn; omega
  go_wp2_with fail
  refine (HMM.out.sm y x W9 HYT9.out HX9.out.sees HYS.out).mono ?_
  rintro e W10 ⟨rfl, hb⟩
  have HB10 := Lib.hid (ext_trans HB9.out hb)
  have HL10 := Lib.hid (HL9.out.below hb)
  have HX10 := Lib.hid (HX9.out.below hb)
  have HP10 := Lib.hid (heap_below HP9.out hb)
  clear hb s0 s1 s2 HB9 HL9 HX9 HP9 HQ9 HYT9 HYS
  clear r0 r1 r2
  clear q0 q1 q2
  have p0 := cell_of_block (heap_below HX.out HB10.out) 0
  have p1 := cell_of_block (heap_below HX.out HB10.out) 1
  have p2 := cell_of_block (heap_below HX.out HB10.out) 2
  have p3 := cell_of_block (heap_below HX.out HB10.out) 3
  have p4 := cell_of_block (heap_below HX.out HB10.out) 4
  have p5 := cell_of_block (heap_below HX.out HB10.out) 5
  have r0 := cell_of_block (heap_below HY.out HB10.out) 0
  have r1 := cell_of_block (heap_below HY.out HB10.out) 1
  have r2 := cell_of_block (heap_below HY.out HB10.out) 2
  go_wp2_with fail
  refine (HMM.out.st1 W10 (ext_trans HB.out HB10.out)).mono ?_
  rintro e W11 ⟨wa, wc, ws, rfl, hws, hb⟩
  have HB11 := Lib.hid (ext_trans HB10.out hb)
  have HL11 := Lib.hid (HL10.out.below hb)
  have HX11 := Lib.hid (HX10.out.below hb)
  have HP11 := Lib.hid (heap_below HP10.out hb)
  have HWS := Lib.hid hws
  clear hb hws HB10 HL10 HX10 HP10
  clear p0 p1 p2 p3 p4 p5
  clear r0 r1 r2
  have p0 := cell_of_block (heap_below HX.out HB11.out) 0
  have p1 := cell_of_block (heap_below HX.out HB11.out) 1
  have p2 := cell_of_block (heap_below HX.out HB11.out) 2
  have p3 := cell_of_block (heap_below HX.out HB11.out) 3
  have p4 := cell_of_block (heap_below HX.out HB11.out) 4
  have p5 := cell_of_block (heap_below HX.out HB11.out) 5
  have q0 := cell_of_block HP11.out 0
  have q1 := cell_of_block HP11.out 1
  have q2 := cell_of_block HP11.out 2
  go_wp2_with fail
  refine (HMM.out.st2 x W11 (ext_trans HB.out HB11.out) HX11.out.sees HXS.out).mono ?_
  rintro e W12 ⟨na, nc, ns, rfl, hns, hb⟩
  have HB12 := Lib.hid (ext_trans HB11.out hb)
  have HL12 := Lib.hid (HL11.out.below hb)
  have HX12 := Lib.hid (HX11.out.below hb)
  have HP12 := Lib.hid (heap_below HP11.out hb)
  have HW12 := Lib.hid (HWS.out.below hb)
  have HNS := Lib.hid hns
  clear hb hns HB11 HL11 HX11 HP11 HWS
  clear p0 p1 p2 p3 p4 p5
  clear q0 q1 q2
  have r0 := cell_of_block (heap_below HY.out HB12.out) 0
  have r1 := cell_of_block (heap_below HY.out HB12.out) 1
  have r2 := cell_of_block (heap_below HY.out HB12.out) 2
  go_wp2_with fail
  refine (HMM.out.rd W12 (ext_trans HB.out HB12.out)).mono ?_
  rintro e W13 ⟨z, rfl, hz, hzn, hb⟩
  have HB13 := Lib.hid (ext_trans HB12.out hb)
  have HL13 := Lib.hid (HL12.out.below hb)
  have HX13 := Lib.hid (HX12.out.below hb)
  have HP13 := Lib.hid (heap_below HP12.out hb)
  have HW13 := Lib.hid (HW12.out.below hb)
  have HN13 := Lib.hid (HNS.out.below hb)
  have HZ13 := Lib.hid hz
  have HZN := Lib.hid hzn
  clear hb hz hzn HB12 HL12 HX12 HP12 HW12 HNS
  clear r0 r1 r2
  go_upto_region 17 with fail
  generalize hW : World.alloc W13 _ = W14
  have hb : Below W13.heap.size W13 W14 := by subst hW; exact ext_alloc _ _
  have hp : W14.heap[W13.heap.size]? = some (.cells #[.int .i64 t.bad, .slice z.a1 z.n1 z.c1, .slice z.a2 z.n2 z.c2] 30 (0, 0)) := by subst hW; exact heap_new _ _ _ rfl
  obtain ⟨R, hR⟩ : ∃ R, R = W13.heap.size := ⟨_, rfl⟩
  rw [← hR] at hp
  try rw [← hR]
  have HR14 := Lib.hid hp
  have HB14 := Lib.hid (ext_trans HB13.out hb)
  have HL14 := Lib.hid (HL13.out.below hb)
  have HX14 := Lib.hid (HX13.out.below hb)
  have HP14 := Lib.hid (heap_below HP13.out hb)
  have HW14 := Lib.hid (HW13.out.below hb)
  have HN14 := Lib.hid (HN13.out.below hb)
  have HZ14 := Lib.hid (HZ13.out.below hb)
  clear hW hb hp hR HB13 HL13 HX13 HP13 HW13 HN13 HZ13
  have r0 := cell_of_block (heap_below HY.out HB14.out) 0
  have r1 := cell_of_block (heap_below HY.out HB14.out) 1
  have r2 := cell_of_block (heap_below HY.out HB14.out) 2
  go_wp2
  clear r0 r1 r2
  go_loopw [146, 23, 24, 25] (fun i _ _ _ wr => ∃ k : Nat, k ≤ x.n2 ∧ i = .int .i64 k ∧ Hid (Below W14.heap.size W14 wr)) (fun i _ _ _ _ => x.n2 - (intOf i).toNat)
  case atStart => exact ⟨0, Nat.zero_le _, rfl, Below.refl _ _⟩
  case round =>
    obtain ⟨k, hk, rfl, hB⟩ := hrel
    by_cases hlt : k < x.n2
    · obtain ⟨wo, hwo⟩ : ∃ wo : World, wo = wr := ⟨_, rfl⟩
      subst hwo
      have hB0 := hB.out
      obtain ⟨lb, lo, rfl, _⟩ := HL14.out.addr (show 0 < x.n2 by omega)
      have hLr := HL14.out.below hB0
      have hck := hLr.int_at k hlt
      have hkn := HMM.out.ltK k hlt
      have hsame := HMM.out.same k hlt
      have hfrm := HMM.out.frm k hlt
      have hrise : ∀ k1, k = k1 + 1 → K.getD k1 0 < K.getD k 0 := fun k1 h => HMM.out.rise k1 k (by omega) hlt
      obtain ⟨kk, hkk⟩ : ∃ kk, kk = K.getD k 0 := ⟨_, rfl⟩
      rw [← hkk] at hck hkn hsame hfrm hrise
      obtain ⟨wb, wo1, rfl, _⟩ := HW14.out.row.addr (show 0 < st.n2 by omega)
      have hc1 := (HW14.out.below hB0).cellAt kk hkn
      have hs1 := (HW14.out.below hB0).each kk (by rw [HMM.out.lenS]; exact hkn)
      obtain ⟨nb, no1, rfl, _⟩ := HN14.out.row.addr (show 0 < x.n2 by omega)
      have hc2 := (HN14.out.below hB0).cellAt k hlt
      have hs2 := (HN14.out.below hB0).each k (by rw [HMM.out.lenS']; exact hlt)
      obtain ⟨zb, zo, hza, _⟩ := HZ14.out.row.addr (show 0 < z.n2 by rw [HZN.out]; omega)
      have hzr := HZ14.out.below hB0
      rw [hza, HZN.out] at hzr
      have hc3 := hzr.cellAt kk hkn
      have hs3 := hzr.each kk (by rw [hzr.n_eq]; exact hkn)
      have hxr := (HX14.out.below hB0).ll.sees
      obtain ⟨xb, xo, hxa, _⟩ := hxr.row.addr (show 0 < x.n2 by omega)
      rw [hxa] at hxr
      have hc4 := hxr.cellAt k hlt
      have hs4 := hxr.each k (by rw [HMM.out.lenT]; exact hlt)
      have q2 : wo.cell? ⟨P, 2, none⟩ = some (.slice x.a2 x.n2 x.c2) := cell_of_block (heap_below HP14.out hB0) 2
      have r2 : wo.cell? ⟨R, 2, none⟩ = some (.slice z.a2 z.n2 z.c2) := cell_of_block (heap_below HR14.out hB0) 2
      rw [hxa] at q2
      rw [hza, HZN.out] at r2
      obtain ⟨f1, hf1⟩ : ∃ f : Slc, f = ws.getD kk slc0 := ⟨_, rfl⟩
      rw [← hf1] at hc1 hs1
      obtain ⟨f1a, f1n, f1c⟩ := f1
      simp only at hc1 hs1
      obtain ⟨f2, hf2⟩ : ∃ f : Slc, f = ns.getD k slc0 := ⟨_, rfl⟩
      rw [← hf2] at hc2 hs2
      obtain ⟨f2a, f2n, f2c⟩ := f2
      simp only at hc2 hs2
      obtain ⟨f3, hf3⟩ : ∃ f : Slc, f = z.ss.getD kk slc0 := ⟨_, rfl⟩
      rw [← hf3] at hc3 hs3
      obtain ⟨f3a, f3n, f3c⟩ := f3
      simp only at hc3 hs3
      obtain ⟨f4, hf4⟩ : ∃ f : Slc, f = x.ss.getD k slc0 := ⟨_, rfl⟩
      rw [← hf4] at hc4 hs4
      obtain ⟨f4a, f4n, f4c⟩ := f4
      simp only at hc4 hs4
      have HC1 : Hid (∀ W, Below wo.heap.size wo W → Calls Try.prog 20 #[.slice f1a f1n f1c, .slice f2a f2n f2c] W fun e w' => e = .returned (.bool true) ∧ w' = W) := fun W hb => by
        have h4 := bytes_at (S.getD kk []) (S'.getD k []) f1a f2a f1n f1c f2n f2c W (hs1.below hb) (hs2.below hb)
        rw [show decide (S.getD kk [] = S'.getD k []) = true from decide_eq_true hsame.symm] at h4
        exact h4
      have HC2 : Hid (∀ W, Below wo.heap.size wo W → Calls Try.prog 20 #[.slice f3a f3n f3c, .slice f4a f4n f4c] W fun e w' => e = .returned (.bool true) ∧ w' = W) := fun W hb => by
        have h4 := bytes_at ((readT t).frames.getD kk []) (T.frames.getD k []) f3a f4a f3n f3c f4n f4c W (hs3.below hb) (hs4.below hb)
        rw [show decide ((readT t).frames.getD kk [] = T.frames.getD k []) = true from decide_eq_true hfrm.symm] at h4
        exact h4
      have hm256 : x.n2 ≤ 256 := Nat.le_trans HMM.out.mn HMM.out.n256
      have hI4 : ((k : Nat) : Int) < (x.n2 : Int) := by omega
      have hI5 : (0 : Int) ≤ (k : Int) := by omega
      have W1' : IntKind.i64.wrap ((k : Int) + 1) = (k : Int) + 1 := IntWalk.i64_in _ (by have := HMM.out.mn; have := HMM.out.n256; omega)
      have HBO := Lib.hid hB0
      have HRISE := Lib.hid hrise
      clear hsame hfrm hrise hs1 hs2 hs3 hs4 hzr hxr hxa hza hB hf1 hf2 hf3 hf4
      by_cases hpos : 0 < k
      · obtain ⟨k1, hk1⟩ : ∃ k1, k = k1 + 1 := ⟨k - 1, by omega⟩
        have hr1 := HRISE.out k1 hk1
        have hc0 := hLr.int_at k1 (by omega)
        obtain ⟨kp, hkp⟩ : ∃ kp, kp = K.getD k1 0 := ⟨_, rfl⟩
        rw [← hkp] at hr1 hc0
        have HK1 := Lib.hid hk1
        have HR1 := Lib.hid hr1
        clear hkp hLr hkk hk1 hr1 hpos HRISE
        go_upto_region 22 with fail
        refine reg_Lp22 P R lb lo lc wb wo1 wc nb no1 nc zb zo z.c2 xb xo x.c2 x.n2 st.n2 k kk kp k1 f1a f1n f1c f2a f2n f2c f3a f3n f3c f4a f4n f4c wo q2 r2 hc1 hc2 hc3 hc4 ⟨HK1.out, HR1.out, hc0⟩ hkn hlt hm256 HC1 HC2 _ ?_
        intro wx; intros; rename_i hbx
        have HBX := Lib.hid (ext_trans HBO.out hbx)
        clear hbx q2 r2 hc1 hc2 hc3 hc4 HC1 HC2
        go_wp2
        go_loopw [25] (fun j wr => ∃ jj : Nat, jj ≤ k ∧ j = .int .i64 jj ∧ Hid (Below W14.heap.size W14 wr)) (fun j _ => k - (intOf j).toNat)
        case atStart => exact ⟨0, Nat.zero_le _, rfl, HBX.out⟩
        case round =>
          obtain ⟨jj, hjj, rfl, hB3⟩ := hrel
          by_cases hj : jj < k
          · have hne := HMM.out.other jj k hj hlt
            have hd2 := (HN14.out.below hB3.out).cellAt k hlt
            have ht2 := (HN14.out.below hB3.out).each k (by rw [HMM.out.lenS']; exact hlt)
            have hd5 := (HN14.out.below hB3.out).cellAt jj (by omega)
            have ht5 := (HN14.out.below hB3.out).each jj (by rw [HMM.out.lenS']; omega)
            obtain ⟨g2, hg2⟩ : ∃ f : Slc, f = ns.getD k slc0 := ⟨_, rfl⟩
            rw [← hg2] at hd2 ht2
            obtain ⟨g2a, g2n, g2c⟩ := g2
            simp only at hd2 ht2
            obtain ⟨g5, hg5⟩ : ∃ f : Slc, f = ns.getD jj slc0 := ⟨_, rfl⟩
            rw [← hg5] at hd5 ht5
            obtain ⟨g5a, g5n, g5c⟩ := g5
            simp only at hd5 ht5
            have HC3 : Hid (∀ q, Calls Try.prog 20 #[.slice g2a g2n g2c, .slice g5a g5n g5c] (wr.drewN q) fun e w' => e = .returned (.bool false) ∧ w' = wr.drewN q) := fun q => by
              have h4 := bytes_at (S'.getD k []) (S'.getD jj []) g2a g5a g2n g2c g5n g5c (wr.drewN q) (ht2.below (ext_drewN wr q)) (ht5.below (ext_drewN wr q))
              rw [show decide (S'.getD k [] = S'.getD jj []) = false from decide_eq_false hne] at h4
              exact h4
            have hJ3 : (jj : Int) < (k : Int) := by omega
            have hJ4 : (jj : Int) < (x.n2 : Int) := by omega
            have hJ5 : (0 : Int) ≤ (jj : Int) := by omega
            have W3' : IntKind.i64.wrap ((jj : Int) + 1) = (jj : Int) + 1 := IntWalk.i64_in _ (by have := HMM.out.mn; have := HMM.out.n256; omega)
            have HB3 := Lib.hid hB3.out
            clear hne ht2 ht5 hg2 hg5 hB3
            go_wp2
            go_quiet ((go_at_call 20; exact Calls.quiet_of_same (HC3.out _)))
            go_wp2
            go_roundw
            case rel => exact ⟨jj + 1, by omega, by go_num, ext_trans HB3.out (ext_drewN _ _)⟩
            case measure => simp [intOf]; omega
          · obtain rfl : jj = k := by omega
            have hJ3 : ¬ ((jj : Int) < (jj : Int)) := by omega
            go_wp2
            go_roundw
            case rel => exact ⟨jj + 1, by omega, by go_num, hB3.out⟩
            case measure => simp [intOf]; omega
      · have HK0 : Hid (k = 0) := by unfold Hid; omega
        clear hLr hkk hpos HRISE
        go_upto_region 22 with fail
        refine reg_Lp22z P R lb lo lc wb wo1 wc nb no1 nc zb zo z.c2 xb xo x.c2 x.n2 st.n2 k kk f1a f1n f1c f2a f2n f2c f3a f3n f3c f4a f4n f4c wo q2 r2 hc1 hc2 hc3 hc4 HK0.out hkn hlt hm256 HC1 HC2 _ ?_
        intro wx; intros; rename_i hbx
        have HBX := Lib.hid (ext_trans HBO.out hbx)
        clear hbx q2 r2 hc1 hc2 hc3 hc4 HC1 HC2
        go_wp2
        go_loopw [25] (fun j wr => ∃ jj : Nat, jj ≤ k ∧ j = .int .i64 jj ∧ Hid (Below W14.heap.size W14 wr)) (fun j _ => k - (intOf j).toNat)
        case atStart => exact ⟨0, Nat.zero_le _, rfl, HBX.out⟩
        case round =>
          obtain ⟨jj, hjj, rfl, hB3⟩ := hrel
          by_cases hj : jj < k
          · have hne := HMM.out.other jj k hj hlt
            have hd2 := (HN14.out.below hB3.out).cellAt k hlt
            have ht2 := (HN14.out.below hB3.out).each k (by rw [HMM.out.lenS']; exact hlt)
            have hd5 := (HN14.out.below hB3.out).cellAt jj (by omega)
            have ht5 := (HN14.out.below hB3.out).each jj (by rw [HMM.out.lenS']; omega)
            obtain ⟨g2, hg2⟩ : ∃ f : Slc, f = ns.getD k slc0 := ⟨_, rfl⟩
            rw [← hg2] at hd2 ht2
            obtain ⟨g2a, g2n, g2c⟩ := g2
            simp only at hd2 ht2
            obtain ⟨g5, hg5⟩ : ∃ f : Slc, f = ns.getD jj slc0 := ⟨_, rfl⟩
            rw [← hg5] at hd5 ht5
            obtain ⟨g5a, g5n, g5c⟩ := g5
            simp only at hd5 ht5
            have HC3 : Hid (∀ q, Calls Try.prog 20 #[.slice g2a g2n g2c, .slice g5a g5n g5c] (wr.drewN q) fun e w' => e = .returned (.bool false) ∧ w' = wr.drewN q) := fun q => by
              have h4 := bytes_at (S'.getD k []) (S'.getD jj []) g2a g5a g2n g2c g5n g5c (wr.drewN q) (ht2.below (ext_drewN wr q)) (ht5.below (ext_drewN wr q))
              rw [show decide (S'.getD k [] = S'.getD jj []) = false from decide_eq_false hne] at h4
              exact h4
            have hJ3 : (jj : Int) < (k : Int) := by omega
            have hJ4 : (jj : Int) < (x.n2 : Int) := by omega
            have hJ5 : (0 : Int) ≤ (jj : Int) := by omega
            have W3' : IntKind.i64.wrap ((jj : Int) + 1) = (jj : Int) + 1 := IntWalk.i64_in _ (by have := HMM.out.mn; have := HMM.out.n256; omega)
            have HB3 := Lib.hid hB3.out
            clear hne ht2 ht5 hg2 hg5 hB3
            go_wp2
            go_quiet ((go_at_call 20; exact Calls.quiet_of_same (HC3.out _)))
            go_wp2
            go_roundw
            case rel => exact ⟨jj + 1, by omega, by go_num, ext_trans HB3.out (ext_drewN _ _)⟩
            case measure => simp [intOf]; omega
          · obtain rfl : jj = k := by omega
            have hJ3 : ¬ ((jj : Int) < (jj : Int)) := by omega
            go_wp2
            go_roundw
            case rel => exact ⟨jj + 1, by omega, by go_num, hB3.out⟩
            case measure => simp [intOf]; omega
    · obtain rfl : k = x.n2 := by omega
      obtain ⟨m1, hm1⟩ : ∃ m1, x.n2 = m1 + 1 := ⟨x.n2 - 1, by have := HMM.out.m0; omega⟩
      obtain ⟨n1, hn1⟩ : ∃ n1, st.n2 = n1 + 1 := ⟨st.n2 - 1, by have := HMM.out.m0; have := HMM.out.mn; omega⟩
      have h256 := Nat.le_trans HMM.out.mn HMM.out.n256
      have h257 := HMM.out.n256
      obtain ⟨lb, lo, rfl, _⟩ := HL14.out.addr (show 0 < x.n2 by omega)
      have hc0 := (HL14.out.below hB.out).int_at m1 (by omega)
      have hlast : K.getD m1 0 = n1 := by
        have h1 := HMM.out.lastK
        rw [show x.n2 - 1 = m1 by omega, show st.n2 - 1 = n1 by omega] at h1
        exact h1
      rw [hlast] at hc0
      have Wm : IntKind.i64.wrap ((x.n2 : Int) - 1) = (m1 : Int) := by rw [IntWalk.i64_in _ (by omega)]; omega
      have Wn : IntKind.i64.wrap ((st.n2 : Int) - 1) = (n1 : Int) := by rw [IntWalk.i64_in _ (by omega)]; omega
      have hJ1 : (m1 : Int) < (x.n2 : Int) := by omega
      have hJ2 : (0 : Int) ≤ (m1 : Int) := by omega
      have r2 : wr.cell? ⟨w.heap.size + 1, 2, none⟩ = some (.slice st.a2 st.n2 st.c2) := cell_of_block (heap_below HY.out (ext_trans HB14.out hB.out)) 2
      have r0 : wr.cell? ⟨w.heap.size + 1, 0, none⟩ = some (.int .i64 t.bad) := cell_of_block (heap_below HY.out (ext_trans HB14.out hB.out)) 0
      have q0 : wr.cell? ⟨P, 0, none⟩ = some (.int .i64 t.bad) := cell_of_block (heap_below HP14.out hB.out) 0
      have HB15 := Lib.hid (ext_trans HB.out (ext_trans HB14.out hB.out))
      clear hm1 hn1 hlast hB hlt hk h256 h257
      go_upto_region 30 with fail
      refine wp_region_noPanic ?_
      refine wp_region_held (S := fun w' => w'.cell? ⟨lb, lo + m1, none⟩ = some (.int .i64 (n1 : Int)) ∧ w'.cell? ⟨w.heap.size + 1, 2, none⟩ = some (.slice st.a2 st.n2 st.c2) ∧ w'.cell? ⟨P, 0, none⟩ = some (.int .i64 t.bad) ∧ w'.cell? ⟨w.heap.size + 1, 0, none⟩ = some (.int .i64 t.bad)) (by kernel_rfl) ?_
      generalize hY2 : ({ wr with drawn := wr.drawn + 1 } : World) = Y0
      have hY0 : Below wr.heap.size wr Y0 := by subst hY2; exact (Below.refl _ _).drew
      have HELD : Hid (Y0.cell? ⟨lb, lo + m1, none⟩ = some (.int .i64 (n1 : Int)) ∧ Y0.cell? ⟨w.heap.size + 1, 2, none⟩ = some (.slice st.a2 st.n2 st.c2) ∧ Y0.cell? ⟨P, 0, none⟩ = some (.int .i64 t.bad) ∧ Y0.cell? ⟨w.heap.size + 1, 0, none⟩ = some (.int .i64 t.bad)) := ⟨cell_below hc0 hY0, cell_below r2 hY0, cell_below q0 hY0, cell_below r0 hY0⟩
      have HYB := Lib.hid (ext_trans HB15.out hY0)
      clear hY0 hY2 hc0 r2 q0 r0 HB15
      refine wpAnyH_take (i := 0) (v := ?_) (by simp only [List.getElem?_toArray, List.getElem?_cons_zero]; rfl) (by kernel_rfl) (by kernel_rfl) (by kernel_rfl) (fun _ _ _ h => h) (Or.inl ⟨by rfl, ?_⟩) HELD.out ?_
      rotate_left
      · intro w hSw
        (try dsimp only at hSw)
        obtain ⟨q0_, q1_, q2_, q3_⟩ := hSw
        go_simp
        try with_reducible rfl
      try simp only [Act.put, List.setIfInBounds_toArray, List.set_cons_zero, List.set_cons_succ]
      refine wpAnyH_take (i := 1) (v := ?_) (by simp only [List.getElem?_toArray, List.getElem?_cons_zero, List.getElem?_cons_succ]; rfl) (by kernel_rfl) (by kernel_rfl) (by kernel_rfl) (fun _ _ _ h => h) (Or.inl ⟨by rfl, ?_⟩) HELD.out ?_
      rotate_left
      · intro w hSw
        (try dsimp only at hSw)
        obtain ⟨q0_, q1_, q2_, q3_⟩ := hSw
        go_simp
        try with_reducible rfl
      try simp only [Act.put, List.setIfInBounds_toArray, List.set_cons_zero, List.set_cons_succ]
      refine wpAnyH_take (i := 2) (v := ?_) (by simp only [List.getElem?_toArray, List.getElem?_cons_zero, List.getElem?_cons_succ]; rfl) (by kernel_rfl) (by kernel_rfl) (by kernel_rfl) (fun _ _ _ h => h) (Or.inl ⟨by rfl, ?_⟩) HELD.out ?_
      rotate_left
      · intro w hSw
        (try dsimp only at hSw)
        obtain ⟨q0_, q1_, q2_, q3_⟩ := hSw
        go_simp
        try with_reducible rfl
      try simp only [Act.put, List.setIfInBounds_toArray, List.set_cons_zero, List.set_cons_succ]
      refine wpAnyH_take (i := 3) (v := ?_) (by simp only [List.getElem?_toArray, List.getElem?_cons_zero, List.getElem?_cons_succ]; rfl) (by kernel_rfl) (by kernel_rfl) (by kernel_rfl) (fun _ _ _ h => h) (Or.inl ⟨by rfl, ?_⟩) HELD.out ?_
      rotate_left
      · intro w hSw
        (try dsimp only at hSw)
        obtain ⟨q0_, q1_, q2_, q3_⟩ := hSw
        go_simp
        try with_reducible rfl
      try simp only [Act.put, List.setIfInBounds_toArray, List.set_cons_zero, List.set_cons_succ]
      refine wpAnyH_take (i := 4) (v := ?_) (by simp only [List.getElem?_toArray, List.getElem?_cons_zero, List.getElem?_cons_succ]; rfl) (by kernel_rfl) (by kernel_rfl) (by kernel_rfl) (fun _ _ _ h => h) (Or.inl ⟨by rfl, ?_⟩) HELD.out ?_
      rotate_left
      · intro w hSw
        (try dsimp only at hSw)
        obtain ⟨q0_, q1_, q2_, q3_⟩ := hSw
        go_simp
        try with_reducible rfl
      try simp only [Act.put, List.setIfInBounds_toArray, List.set_cons_zero, List.set_cons_succ]
      refine wpAnyH_take (i := 5) (v := ?_) (by simp only [List.getElem?_toArray, List.getElem?_cons_zero, List.getElem?_cons_succ]; rfl) (by kernel_rfl) (by kernel_rfl) (by kernel_rfl) (fun _ _ _ h => h) (Or.inl ⟨by rfl, ?_⟩) HELD.out ?_
      rotate_left
      · intro w hSw
        (try dsimp only at hSw)
        obtain ⟨q0_, q1_, q2_, q3_⟩ := hSw
        go_simp
        try with_reducible rfl
      try simp only [Act.put, List.setIfInBounds_toArray, List.set_cons_zero, List.set_cons_succ]
      refine wpAnyH_take (i := 6) (v := ?_) (by simp only [List.getElem?_toArray, List.getElem?_cons_zero, List.getElem?_cons_succ]; rfl) (by kernel_rfl) (by kernel_rfl) (by kernel_rfl) (fun _ _ _ h => h) (Or.inl ⟨by rfl, ?_⟩) HELD.out ?_
      rotate_left
      · intro w hSw
        (try dsimp only at hSw)
        obtain ⟨q0_, q1_, q2_, q3_⟩ := hSw
        go_simp
        try with_reducible rfl
      try simp only [Act.put, List.setIfInBounds_toArray, List.set_cons_zero, List.set_cons_succ]
      refine wpAnyH_take (i := 7) (v := ?_) (by simp only [List.getElem?_toArray, List.getElem?_cons_zero, List.getElem?_cons_succ]; rfl) (by kernel_rfl) (by kernel_rfl) (by kernel_rfl) (fun _ _ _ h => h) (Or.inl ⟨by rfl, ?_⟩) HELD.out ?_
      rotate_left
      · intro w hSw
        (try dsimp only at hSw)
        obtain ⟨q0_, q1_, q2_, q3_⟩ := hSw
        go_simp
        try with_reducible rfl
      try simp only [Act.put, List.setIfInBounds_toArray, List.set_cons_zero, List.set_cons_succ]
      refine wpAnyH_take (i := 8) (v := ?_) (by simp only [List.getElem?_toArray, List.getElem?_cons_zero, List.getElem?_cons_succ]; rfl) (by kernel_rfl) (by kernel_rfl) (by kernel_rfl) (fun _ _ _ h => h) (Or.inl ⟨by rfl, ?_⟩) HELD.out ?_
      rotate_left
      · intro w hSw
        (try dsimp only at hSw)
        obtain ⟨q0_, q1_, q2_, q3_⟩ := hSw
        go_simp
        try with_reducible rfl
      try simp only [Act.put, List.setIfInBounds_toArray, List.set_cons_zero, List.set_cons_succ]
      refine wpAnyH_take (i := 9) (v := ?_) (by simp only [List.getElem?_toArray, List.getElem?_cons_zero, List.getElem?_cons_succ]; rfl) (by kernel_rfl) (by kernel_rfl) (by kernel_rfl) (fun _ _ _ h => h) (Or.inl ⟨by rfl, ?_⟩) HELD.out ?_
      rotate_left
      · intro w hSw
        (try dsimp only at hSw)
        obtain ⟨q0_, q1_, q2_, q3_⟩ := hSw
        go_simp
        try with_reducible rfl
      try simp only [Act.put, List.setIfInBounds_toArray, List.set_cons_zero, List.set_cons_succ]
      refine wpAnyH_take (i := 10) (v := ?_) (by simp only [List.getElem?_toArray, List.getElem?_cons_zero, List.getElem?_cons_succ]; rfl) (by kernel_rfl) (by kernel_rfl) (by kernel_rfl) (fun _ _ _ h => h) (Or.inl ⟨by rfl, ?_⟩) HELD.out ?_
      rotate_left
      · intro w hSw
        (try dsimp only at hSw)
        obtain ⟨q0_, q1_, q2_, q3_⟩ := hSw
        go_simp
        try with_reducible rfl
      try simp only [Act.put, List.setIfInBounds_toArray, List.set_cons_zero, List.set_cons_succ]
      refine wpAnyH_take (i := 11) (v := ?_) (by simp only [List.getElem?_toArray, List.getElem?_cons_zero, List.getElem?_cons_succ]; rfl) (by kernel_rfl) (by kernel_rfl) (by kernel_rfl) (fun _ _ _ h => h) (Or.inl ⟨by rfl, ?_⟩) HELD.out ?_
      rotate_left
      · intro w hSw
        (try dsimp only at hSw)
        obtain ⟨q0_, q1_, q2_, q3_⟩ := hSw
        go_simp
        try with_reducible rfl
      try simp only [Act.put, List.setIfInBounds_toArray, List.set_cons_zero, List.set_cons_succ]
      refine wpAnyH_take (i := 12) (v := ?_) (by simp only [List.getElem?_toArray, List.getElem?_cons_zero, List.getElem?_cons_succ]; rfl) (by kernel_rfl) (by kernel_rfl) (by kernel_rfl) (fun _ _ _ h => h) (Or.inl ⟨by rfl, ?_⟩) HELD.out ?_
      rotate_left
      · intro w hSw
        (try dsimp only at hSw)
        obtain ⟨q0_, q1_, q2_, q3_⟩ := hSw
        go_simp
        try with_reducible rfl
      try simp only [Act.put, List.setIfInBounds_toArray, List.set_cons_zero, List.set_cons_succ]
      refine wpAnyH_take (i := 13) (v := ?_) (by simp only [List.getElem?_toArray, List.getElem?_cons_zero, List.getElem?_cons_succ]; rfl) (by kernel_rfl) (by kernel_rfl) (by kernel_rfl) (fun _ _ _ h => h) (Or.inl ⟨by rfl, ?_⟩) HELD.out ?_
      rotate_left
      · intro w hSw
        (try dsimp only at hSw)
        obtain ⟨q0_, q1_, q2_, q3_⟩ := hSw
        go_simp
        try with_reducible rfl
      try simp only [Act.put, List.setIfInBounds_toArray, List.set_cons_zero, List.set_cons_succ]
      refine wpAnyH_take (i := 14) (v := ?_) (by simp only [List.getElem?_toArray, List.getElem?_cons_zero, List.getElem?_cons_succ]; rfl) (by kernel_rfl) (by kernel_rfl) (by kernel_rfl) (fun _ _ _ h => h) (Or.inl ⟨by rfl, ?_⟩) HELD.out ?_
      rotate_left
      · intro w hSw
        (try dsimp only at hSw)
        obtain ⟨q0_, q1_, q2_, q3_⟩ := hSw
        go_simp
        try with_reducible rfl
      try simp only [Act.put, List.setIfInBounds_toArray, List.set_cons_zero, List.set_cons_succ]
      refine wpAnyH_take (i := 15) (v := ?_) (by simp only [List.getElem?_toArray, List.getElem?_cons_zero, List.getElem?_cons_succ]; rfl) (by kernel_rfl) (by kernel_rfl) (by kernel_rfl) (fun _ _ _ h => h) (Or.inl ⟨by rfl, ?_⟩) HELD.out ?_
      rotate_left
      · intro w hSw
        (try dsimp only at hSw)
        obtain ⟨q0_, q1_, q2_, q3_⟩ := hSw
        go_simp
        try with_reducible rfl
      try simp only [Act.put, List.setIfInBounds_toArray, List.set_cons_zero, List.set_cons_succ]
      refine wpAnyH_take (i := 16) (v := ?_) (by simp only [List.getElem?_toArray, List.getElem?_cons_zero, List.getElem?_cons_succ]; rfl) (by kernel_rfl) (by kernel_rfl) (by kernel_rfl) (fun _ _ _ h => h) (Or.inl ⟨by rfl, ?_⟩) HELD.out ?_
      rotate_left
      · intro w hSw
        (try dsimp only at hSw)
        obtain ⟨q0_, q1_, q2_, q3_⟩ := hSw
        go_simp
        try with_reducible rfl
      try simp only [Act.put, List.setIfInBounds_toArray, List.set_cons_zero, List.set_cons_succ]
      refine wpAnyH_take (i := 17) (v := ?_) (by simp only [List.getElem?_toArray, List.getElem?_cons_zero, List.getElem?_cons_succ]; rfl) (by kernel_rfl) (by kernel_rfl) (by kernel_rfl) (fun _ _ _ h => h) (Or.inl ⟨by rfl, ?_⟩) HELD.out ?_
      rotate_left
      · intro w hSw
        (try dsimp only at hSw)
        obtain ⟨q0_, q1_, q2_, q3_⟩ := hSw
        go_simp
        try with_reducible rfl
      try simp only [Act.put, List.setIfInBounds_toArray, List.set_cons_zero, List.set_cons_succ]
      refine wpAnyH_take (i := 18) (v := ?_) (by simp only [List.getElem?_toArray, List.getElem?_cons_zero, List.getElem?_cons_succ]; rfl) (by kernel_rfl) (by kernel_rfl) (by kernel_rfl) (fun _ _ _ h => h) (Or.inl ⟨by rfl, ?_⟩) HELD.out ?_
      rotate_left
      · intro w hSw
        (try dsimp only at hSw)
        obtain ⟨q0_, q1_, q2_, q3_⟩ := hSw
        go_simp
        try with_reducible rfl
      try simp only [Act.put, List.setIfInBounds_toArray, List.set_cons_zero, List.set_cons_succ]
      refine wpAnyH_ready (rs := [19]) (by kernel_rfl) (by simp) ?_
      refine AllReadyH.cons (by simp only [List.getElem?_toArray, List.getElem?_cons_zero, List.getElem?_cons_succ]; rfl) (fun K hK => ?_) AllReadyH.nil
      go_simp
      refine (HLV.out _).mono ?_
      rintro e s1 ⟨rfl, b1⟩
      have HELD1 : Hid (s1.cell? ⟨lb, lo + m1, none⟩ = some (.int .i64 (n1 : Int)) ∧ s1.cell? ⟨w.heap.size + 1, 2, none⟩ = some (.slice st.a2 st.n2 st.c2) ∧ s1.cell? ⟨P, 0, none⟩ = some (.int .i64 t.bad) ∧ s1.cell? ⟨w.heap.size + 1, 0, none⟩ = some (.int .i64 t.bad)) := ⟨cell_below HELD.out.1 b1, cell_below HELD.out.2.1 b1, cell_below HELD.out.2.2.1 b1, cell_below HELD.out.2.2.2 b1⟩
      have HBZ := Lib.hid (ext_trans HYB.out b1)
      clear b1
      refine hK.out _ _ HELD1.out (fun _ => ?_)
      clear hK K
      try simp only [Act.put, List.setIfInBounds_toArray, List.set_cons_zero, List.set_cons_succ]
      refine wpAnyH_take (i := 20) (v := ?_) (by simp only [List.getElem?_toArray, List.getElem?_cons_zero, List.getElem?_cons_succ]; rfl) (by kernel_rfl) (by kernel_rfl) (by kernel_rfl) (fun _ _ _ h => h) (Or.inl ⟨by rfl, ?_⟩) HELD1.out ?_
      rotate_left
      · intro w hSw
        (try dsimp only at hSw)
        obtain ⟨q0_, q1_, q2_, q3_⟩ := hSw
        go_simp
        try with_reducible rfl
      try simp only [Act.put, List.setIfInBounds_toArray, List.set_cons_zero, List.set_cons_succ]
      refine wpAnyH_take (i := 21) (v := ?_) (by simp only [List.getElem?_toArray, List.getElem?_cons_zero, List.getElem?_cons_succ]; rfl) (by kernel_rfl) (by kernel_rfl) (by kernel_rfl) (fun _ _ _ h => h) (Or.inl ⟨by rfl, ?_⟩) HELD1.out ?_
      rotate_left
      · intro w hSw
        (try dsimp only at hSw)
        obtain ⟨q0_, q1_, q2_, q3_⟩ := hSw
        go_simp
        try with_reducible rfl
      try simp only [Act.put, List.setIfInBounds_toArray, List.set_cons_zero, List.set_cons_succ]
      refine wpAnyH_done (by kernel_rfl) ?_ _
      refine NoPanic.normal ?_
      go_wp2
      go_ret
      exact ⟨rfl, HBZ.out⟩
end Go.Proofs.Ytgpkghlhlabjcaa
namespace Go.Proofs.Ytgpkghlhlabjcaa.loopCuts
open Go Go.ChangeShapes Go.WideShapes Go.ChangeAt Go.RowKit

set_option maxRecDepth 100000 in
set_option maxHeartbeats 1600000 in
theorem contract (H : Type) (enc : TypeId × Value → H) (W : World) (base : Nat) (args : Array Value) (ds gs : List (DataW H)) (before : List MemPlace)
    (hval : ∀ (j : Nat) t v, Try.f4.params[j]? = some t → args[j]? = some v → Value.okWide Try.prog W .any base t v)
    (hW : DataW.Whole enc Try.prog Try.f4.params.toList Rows.loopCutsSpec.vars false W args.toList ds gs before)
    (hk : Rows.uptoSmall H (ds ++ gs) = true) :
    Calls Try.prog 4 args W fun e W' => ∃ v, e = .returned v ∧ Rows.loopCutsSpec.post enc Try.prog Try.f4 false true false false W args v W' := by
  have hW' := hW
  obtain ⟨p, q, hA0, hV, rfl, hfz, hnd⟩ := hW
  have hA : DataW.TrodAll enc Try.prog W 0 (fun _ => true) true Try.f4.params.toList args.toList ds p := hA0
  rw [Try.params4] at hA hval
  obtain ⟨v0, vs0, d0, ds0, p0, q0, hargs, rfl, rfl, h0, r0⟩ := trodAll_cons hA
  obtain ⟨v1, vs1, d1, ds1, p1, q1, rfl, rfl, rfl, h1, r1⟩ := trodAll_cons r0
  obtain ⟨rfl, rfl, rfl⟩ := trodAll_nil r1
  obtain rfl : args = #[v0, v1] := by cases args; simp_all
  obtain ⟨rfl, rfl⟩ := trodVars_none hV
  have hb := bulk_bound hk
  have hb0 := bulk_part (d := d0) (l := [d0, d1] ++ []) (by simp)
  obtain ⟨c0, s0, rfl, hs0, lo0, hi0, m01, m02, m03, m04, m05, w01, w02, w03, w04, w05⟩ := open_cir (hval 0 26 _ rfl rfl) h0
  have sm0 : s0.small := ⟨by omega, by omega, by omega, by omega, by omega⟩
  have wd0 : Wide c0 := ⟨w01, w02, w03, w04, w05⟩
  have hb1 := bulk_part (d := d1) (l := [d0, d1] ++ []) (by simp)
  obtain ⟨t1, s1, rfl, hs1, lo1, hi1, m11, m12, m13⟩ := open_trace (hval 1 30 _ rfl rfl) h1
  have sm1 : s1.small := ⟨by omega, by omega, fun x hx => by have := m13 x hx; omega⟩
  clear hA0 hA
  refine (cuts8_any c0 t1 s0 s1 W hs0 hs1 sm0 sm1 lo0 hi0 ⟨lo1, hi1⟩ wd0).mono fun e W' ⟨he, hbel⟩ => ?_
  subst he
  exact ⟨_, rfl, law_end laidOut (by decide +kernel) rfl rfl Try.underlying4 hW' rfl rfl rfl hbel⟩

set_option maxRecDepth 100000 in
theorem lifted (os : Os) (started : os.Started) (H : Type) (enc : TypeId × Value → H) (F : Stop.Interp) :
    ReturnsInHanded {} Try.checked os 4 .any ((Rows.OpenSpec.upto Rows.loopCutsSpec).pre6 enc Try.prog Try.f4 Rows.loopCutsUptoRow.domain false) (((Rows.OpenSpec.upto Rows.loopCutsSpec).at F).post enc Try.prog Try.f4 false true false false) := by
  refine returnsInHanded_of_cond (C := Try.checked) (s := Rows.OpenSpec.upto Rows.loopCutsSpec) (k := Rows.uptoSmall) rfl own started (by kernel_rfl) Try.func4
    (OpenSpec.witness (enc := enc) (C := Try.checked) (s := Rows.OpenSpec.upto Rows.loopCutsSpec) (k := Rows.uptoSmall) rfl false ⟨#[], #[.agg #[.int .i64 0, .slice none 0 0, .slice none 0 0, .slice none 0 0, .slice none 0 0, .slice none 0 0], .agg #[.int .i64 0, .slice none 0 0, .slice none 0 0]], []⟩ 8 (by kernel_rfl) (by kernel_rfl) (by kernel_rfl)
      (x := ([.agg [.lit (.int .i64 0), .nil, .nil, .nil, .nil, .nil], .agg [.lit (.int .i64 0), .nil, .nil]], [], [])) (by kernel_rfl) rfl (by kernel_rfl)) ?_
  intro W base args ds gs before hval hW _ hk _
  exact contract H enc W base args ds gs before hval hW hk

theorem proved : Rows.LoopCutsUptoSaid :=
  OpenClaim.holds_of_cond 4 Try.f4 rfl rfl rfl rfl rfl rfl rfl ⟨rfl, rfl, rfl, rfl, rfl⟩ rfl rfl rfl rfl rfl (by kernel_rfl) Try.func4 (by kernel_rfl)
    (of_decide_eq_true (by kernel_rfl)) (by unfold Func.isWrapper; first | (rw [if_pos (by decide +kernel)]; kernel_rfl) | (rw [if_neg (by decide +kernel)]; exact ⟨rfl, rfl⟩))
    (fun os started H enc _ F => lifted os started H enc F)
end Go.Proofs.Ytgpkghlhlabjcaa.loopCuts
