/- A region that copies a circuit and a trace, in whatever order: region 22 of inquest/inquestlaw03.NormOwn, over whatever frame. -/
import Derived.Test.YtkbdebdhebphpaaNTwo
import Derived.Test.YtkbdebdhebphpaaNRegion
namespace Go.Proofs.Ytkbdebdhebphpaa
open Go Go.RowKit Go.Joins

noncomputable def codeNOwnB : Code := ((Try.f6.body.bind (findRegion 22)).getD .skip)
set_option maxRecDepth 100000 in
set_option maxHeartbeats 25600000 in
theorem reg_NOwnB (c : NormC) (t : TraceC) (z bad : Int) (P1 P2 : Nat) (sc : CSlots) (st : TSlots) (X0 : World)
    (HELDB : Hid (∀ W, Below X0.heap.size X0 W → (W.cell? ⟨P1, 0, none⟩ = some (.int .i64 z) ∧ W.cell? ⟨P1, 1, none⟩ = some (.slice sc.a1 sc.n1 sc.c1) ∧ W.cell? ⟨P1, 2, none⟩ = some (.slice sc.a2 sc.n2 sc.c2) ∧ W.cell? ⟨P1, 3, none⟩ = some (.slice sc.a3 sc.n3 sc.c3) ∧ W.cell? ⟨P1, 4, none⟩ = some (.slice sc.a4 sc.n4 sc.c4) ∧ W.cell? ⟨P1, 5, none⟩ = some (.slice sc.a5 sc.n5 sc.c5) ∧ W.cell? ⟨P2, 0, none⟩ = some (.int .i64 bad) ∧ W.cell? ⟨P2, 1, none⟩ = some (.slice st.a1 st.n1 st.c1) ∧ W.cell? ⟨P2, 2, none⟩ = some (.slice st.a2 st.n2 st.c2))))
    (E1 : Hid (∀ W, Below X0.heap.size X0 W → Calls Try.prog 22 #[.agg #[.int .i64 z, .slice sc.a1 sc.n1 sc.c1, .slice sc.a2 sc.n2 sc.c2, .slice sc.a3 sc.n3 sc.c3, .slice sc.a4 sc.n4 sc.c4, .slice sc.a5 sc.n5 sc.c5]] W fun e w' => ∃ s' : CSlots, e = .returned (.agg #[.int .i64 z, .slice s'.a1 s'.n1 s'.c1, .slice s'.a2 s'.n2 s'.c2, .slice s'.a3 s'.n3 s'.c3, .slice s'.a4 s'.n4 s'.c4, .slice s'.a5 s'.n5 s'.c5]) ∧ OwnCir w' W.heap.size s' c ∧ Below W.heap.size W w'))
    (E2 : Hid (∀ W, Below X0.heap.size X0 W → Calls Try.prog 23 #[.agg #[.int .i64 bad, .slice st.a1 st.n1 st.c1, .slice st.a2 st.n2 st.c2]] W fun e w' => ∃ s' : TSlots, e = .returned (.agg #[.int .i64 bad, .slice s'.a1 s'.n1 s'.c1, .slice s'.a2 s'.n2 s'.c2]) ∧ OwnTr w' W.heap.size s' t ∧ Below W.heap.size W w'))
    (KK : Act → World → Prop) (QQ : Exit → Act → World → Prop)
    {v0 v1 v2 v3 v4 v5 v6 v9 v10 v11 v12 v13 v14 v15 v16 v17 v18 v19 v20 v21 v22 v23 v24 v25 v26 v27 v28 v29 v30 v31 v32 v33 v34 v35 v36 v37 v38 v39 v40 v41 v42 v43 v44 v45 v46 v47 v48 v49 v50 v51 v52 v53 v54 v55 v56 v57 v58 v59 v60 v61 v62 v63 v64 v65 v66 v67 v68 v69 v70 v71 v72 v73 v74 v75 v76 v77 v78 v79 v80 v81 v82 v83 v84 v85 v86 v87 v88 v89 v90 v91 v92 v93 v94 v95 v96 v97 v98 v99 v100 v101 v102 v103 v104 v105 v106 v107 v108 v109 v110 v111 v112 v113 v114 v115 v116 v117 v118 v119 v120 v121 v122 v123 v124 v125 v126 v127 v128 v129 v130 v131 v132 v133 v134 v135 v136 v137 v138 v139 v140 v141 v142 v143 v144 v145 v146 v147 v148 v149 v150 v151 v152 v153 v154 v155 v156 v157 v158 v159 v160 v161 v162 v163 v164 v165 v166 v167 v168 v169 v170 v171 v172 v173 v174 v175 v176 v177 v178 v179 v180 v181 v182 v183 v184 v185 v186 v187 v188 v189 v190 v191 v192 v193 v194 v195 v196 v197 v198 v199 v200 v201 v202 v203 v204 v205 v206 v207 v208 v209 v210 v211 v212 v213 v214 v215 : Value}
    (hK : ∀ (G7 G8 : Nat) (sx : CSlots) (sy : TSlots) (wx : World) (u104 u105 u106 u107 : Value), Two X0 z bad c t G7 G8 sx sy wx → KK ⟨#[v0, v1, v2, v3, v4, v5, v6, .pointer (some ⟨P1, 0, .none⟩), .pointer (some ⟨P2, 0, .none⟩), v9, v10, v11, v12, v13, v14, v15, v16, v17, .pointer (some ⟨G7, 0, .none⟩), 
      .pointer (some ⟨G8, 0, .none⟩), v20, v21, v22, v23, v24, v25, v26, v27, v28, v29, v30, v31, v32, v33, v34, v35, v36, v37, v38, v39, v40, v41, v42, v43, 
      v44, v45, v46, v47, v48, v49, v50, v51, v52, v53, v54, v55, v56, v57, v58, v59, v60, v61, v62, v63, v64, v65, v66, v67, v68, v69, v70, v71, v72, v73, v74, 
      v75, v76, v77, v78, v79, v80, v81, v82, v83, v84, v85, v86, v87, v88, v89, v90, v91, v92, v93, v94, v95, v96, v97, v98, v99, v100, v101, v102, v103, u104, 
      u105, u106, u107, v108, v109, v110, v111, v112, v113, v114, v115, v116, v117, v118, v119, v120, v121, v122, v123, v124, v125, v126, v127, v128, v129, v130, 
      v131, v132, v133, v134, v135, v136, v137, v138, v139, v140, v141, v142, v143, v144, v145, v146, v147, v148, v149, v150, v151, v152, v153, v154, v155, v156, 
      v157, v158, v159, v160, v161, v162, v163, v164, v165, v166, v167, v168, v169, v170, v171, v172, v173, v174, v175, v176, v177, v178, v179, v180, v181, v182, 
      v183, v184, v185, v186, v187, v188, v189, v190, v191, v192, v193, v194, v195, v196, v197, v198, v199, v200, v201, v202, v203, v204, v205, v206, v207, v208, 
      v209, v210, v211, v212, v213, v214, v215], []⟩ wx) :
    Code.wp Try.prog codeNOwnB (Exit.then KK QQ) ⟨#[v0, v1, v2, v3, v4, v5, v6, .pointer (some ⟨P1, 0, .none⟩), .pointer (some ⟨P2, 0, .none⟩), v9, v10, v11, v12, v13, v14, v15, v16, v17, v18, v19, v20, 
      v21, v22, v23, v24, v25, v26, v27, v28, v29, v30, v31, v32, v33, v34, v35, v36, v37, v38, v39, v40, v41, v42, v43, v44, v45, v46, v47, v48, v49, v50, v51, 
      v52, v53, v54, v55, v56, v57, v58, v59, v60, v61, v62, v63, v64, v65, v66, v67, v68, v69, v70, v71, v72, v73, v74, v75, v76, v77, v78, v79, v80, v81, v82, 
      v83, v84, v85, v86, v87, v88, v89, v90, v91, v92, v93, v94, v95, v96, v97, v98, v99, v100, v101, v102, v103, v104, v105, v106, v107, v108, v109, v110, 
      v111, v112, v113, v114, v115, v116, v117, v118, v119, v120, v121, v122, v123, v124, v125, v126, v127, v128, v129, v130, v131, v132, v133, v134, v135, v136, 
      v137, v138, v139, v140, v141, v142, v143, v144, v145, v146, v147, v148, v149, v150, v151, v152, v153, v154, v155, v156, v157, v158, v159, v160, v161, v162, 
      v163, v164, v165, v166, v167, v168, v169, v170, v171, v172, v173, v174, v175, v176, v177, v178, v179, v180, v181, v182, v183, v184, v185, v186, v187, v188, 
      v189, v190, v191, v192, v193, v194, v195, v196, v197, v198, v199, v200, v201, v202, v203, v204, v205, v206, v207, v208, v209, v210, v211, v212, v213, v214, 
      v215], []⟩ X0 := by
  conv => arg 2; whnf
  refine wp_region_noPanic ?_
  refine wp_region_held (S := fun w' => w'.cell? ⟨P1, 0, none⟩ = some (.int .i64 z) ∧ w'.cell? ⟨P1, 1, none⟩ = some (.slice sc.a1 sc.n1 sc.c1) ∧ w'.cell? ⟨P1, 2, none⟩ = some (.slice sc.a2 sc.n2 sc.c2) ∧ w'.cell? ⟨P1, 3, none⟩ = some (.slice sc.a3 sc.n3 sc.c3) ∧ w'.cell? ⟨P1, 4, none⟩ = some (.slice sc.a4 sc.n4 sc.c4) ∧ w'.cell? ⟨P1, 5, none⟩ = some (.slice sc.a5 sc.n5 sc.c5) ∧ w'.cell? ⟨P2, 0, none⟩ = some (.int .i64 bad) ∧ w'.cell? ⟨P2, 1, none⟩ = some (.slice st.a1 st.n1 st.c1) ∧ w'.cell? ⟨P2, 2, none⟩ = some (.slice st.a2 st.n2 st.c2)) (by kernel_rfl) ?_
  generalize hY : ({ X0 with drawn := X0.drawn + 1 } : World) = Y0
  have hY0 : Below X0.heap.size X0 Y0 := by subst hY; exact (Below.refl _ _).drew
  have HELD := Lib.hid (HELDB.out Y0 hY0)
  have HBc := Lib.hid hY0
  clear hY hY0
  refine wpAnyH_take (i := 0) (v := ?_) (by simp only [List.getElem?_toArray, List.getElem?_cons_zero]; rfl) (by kernel_rfl) (by kernel_rfl) (by kernel_rfl) (fun _ _ _ h => h) (Or.inl ⟨by rfl, ?_⟩) HELD.out ?_
  rotate_left
  · intro w hSw
    (try dsimp only at hSw)
    obtain ⟨q0, q1, q2, q3, q4, q5, q6, q7, q8⟩ := hSw
    go_simp
    try with_reducible rfl
  try simp only [Act.put, List.setIfInBounds_toArray, List.set_cons_zero, List.set_cons_succ]
  refine wpAnyH_take (i := 2) (v := ?_) (by simp only [List.getElem?_toArray, List.getElem?_cons_zero, List.getElem?_cons_succ]; rfl) (by kernel_rfl) (by kernel_rfl) (by kernel_rfl) (fun _ _ _ h => h) (Or.inl ⟨by rfl, ?_⟩) HELD.out ?_
  rotate_left
  · intro w hSw
    (try dsimp only at hSw)
    obtain ⟨q0, q1, q2, q3, q4, q5, q6, q7, q8⟩ := hSw
    go_simp
    try with_reducible rfl
  try simp only [Act.put, List.setIfInBounds_toArray, List.set_cons_zero, List.set_cons_succ]
  refine wpAnyH_ready (rs := [1, 4, 5]) (by kernel_rfl) (by simp) ?_
  refine AllReadyH.cons (by simp only [List.getElem?_toArray, List.getElem?_cons_zero, List.getElem?_cons_succ]; rfl) (fun K hK => ?_) (AllReadyH.cons (by simp only [List.getElem?_toArray, List.getElem?_cons_zero, List.getElem?_cons_succ]; rfl) (fun K hK => ?_) (AllReadyH.cons (by simp only [List.getElem?_toArray, List.getElem?_cons_zero, List.getElem?_cons_succ]; rfl) (fun K hK => ?_) AllReadyH.nil))
  · go_simp
    refine (E1.out _ HBc.out).mono ?_
    rintro e V1 ⟨sx, rfl, ho, hb⟩
    have HSx := Lib.hid (ho.base_le (B := X0.heap.size) HBc.out.size)
    have HBc := Lib.hid (ext_trans HBc.out hb)
    have HELD := Lib.hid (HELDB.out V1 HBc.out)
    clear ho hb
    refine hK.out _ _ HELD.out (fun _ => ?_)
    clear hK K
    try simp only [Act.put, List.setIfInBounds_toArray, List.set_cons_zero, List.set_cons_succ]
    refine wpAnyH_ready (rs := [3, 4, 5]) (by kernel_rfl) (by simp) ?_
    refine AllReadyH.cons (by simp only [List.getElem?_toArray, List.getElem?_cons_zero, List.getElem?_cons_succ]; rfl) (fun K hK => ?_) (AllReadyH.cons (by simp only [List.getElem?_toArray, List.getElem?_cons_zero, List.getElem?_cons_succ]; rfl) (fun K hK => ?_) (AllReadyH.cons (by simp only [List.getElem?_toArray, List.getElem?_cons_zero, List.getElem?_cons_succ]; rfl) (fun K hK => ?_) AllReadyH.nil))
    · go_simp
      refine (E2.out _ HBc.out).mono ?_
      rintro e V2 ⟨sy, rfl, ho, hb⟩
      have HSy := Lib.hid (ho.base_le (B := X0.heap.size) HBc.out.size)
      have HSx := Lib.hid (HSx.out.below hb)
      have HBc := Lib.hid (ext_trans HBc.out hb)
      have HELD := Lib.hid (HELDB.out V2 HBc.out)
      clear ho hb
      refine hK.out _ _ HELD.out (fun _ => ?_)
      clear hK K
      try simp only [Act.put, List.setIfInBounds_toArray, List.set_cons_zero, List.set_cons_succ]
      refine wpAnyH_ready (rs := [4, 5]) (by kernel_rfl) (by simp) ?_
      refine AllReadyH.cons (by simp only [List.getElem?_toArray, List.getElem?_cons_zero, List.getElem?_cons_succ]; rfl) (fun K hK => ?_) (AllReadyH.cons (by simp only [List.getElem?_toArray, List.getElem?_cons_zero, List.getElem?_cons_succ]; rfl) (fun K hK => ?_) AllReadyH.nil)
      · go_simp
        generalize hV : World.alloc V2 _ = V3
        have hb : Below V2.heap.size V2 V3 := by subst hV; exact ext_alloc _ _
        have HZ7 : Hid (V3.heap[V2.heap.size]? = some (.cells #[.int .i64 0, .slice none 0 0, .slice none 0 0, .slice none 0 0, .slice none 0 0, .slice none 0 0] 26 (0, 0))) := by show _ = _; subst hV; exact heap_new _ _ _ rfl
        have HG7 := Lib.hid HBc.out.size
        have HSx := Lib.hid (HSx.out.below hb)
        have HSy := Lib.hid (HSy.out.below hb)
        have HBc := Lib.hid (ext_trans HBc.out hb)
        have HELD := Lib.hid (HELDB.out V3 HBc.out)
        clear hV hb
        refine hK.out _ _ HELD.out (fun _ => ?_)
        clear hK K
        try simp only [Act.put, List.setIfInBounds_toArray, List.set_cons_zero, List.set_cons_succ]
        refine wpAnyH_ready (rs := [5]) (by kernel_rfl) (by simp) ?_
        refine AllReadyH.cons (by simp only [List.getElem?_toArray, List.getElem?_cons_zero, List.getElem?_cons_succ]; rfl) (fun K hK => ?_) AllReadyH.nil
        go_simp
        generalize hV : World.alloc V3 _ = V4
        have hb : Below V3.heap.size V3 V4 := by subst hV; exact ext_alloc _ _
        have HZ8 : Hid (V4.heap[V3.heap.size]? = some (.cells #[.int .i64 0, .slice none 0 0, .slice none 0 0] 30 (0, 0))) := by show _ = _; subst hV; exact heap_new _ _ _ rfl
        have HG8 := Lib.hid HBc.out.size
        have HZ7 := Lib.hid (heap_below HZ7.out hb)
        have HSx := Lib.hid (HSx.out.below hb)
        have HSy := Lib.hid (HSy.out.below hb)
        have HBc := Lib.hid (ext_trans HBc.out hb)
        have HELD := Lib.hid (HELDB.out V4 HBc.out)
        clear hV hb
        refine hK.out _ _ HELD.out (fun _ => ?_)
        clear hK K
        try simp only [Act.put, List.setIfInBounds_toArray, List.set_cons_zero, List.set_cons_succ]
        refine wpAnyH_ready (rs := [6]) (by kernel_rfl) (by simp) ?_
        refine AllReadyH.cons (by simp only [List.getElem?_toArray, List.getElem?_cons_zero, List.getElem?_cons_succ]; rfl) (fun K hK => ?_) AllReadyH.nil
        have HTW := Lib.hid (Two.of (b := X0) (z := z) (bad := bad) HZ7.out rfl HZ8.out rfl HSx.out HSy.out HBc.out HG7.out HG8.out)
        have hne7 : V2.heap.size ≠ V3.heap.size := fun e => by have h7 := HZ7.out; rw [e, HZ8.out] at h7; cases h7
        have hh7 := HZ7.out
        have z0 := cell_of_block hh7 0
        have y0 := unfrozen_of_block hh7 0
        have z1 := cell_of_block hh7 1
        have y1 := unfrozen_of_block hh7 1
        have z2 := cell_of_block hh7 2
        have y2 := unfrozen_of_block hh7 2
        have z3 := cell_of_block hh7 3
        have y3 := unfrozen_of_block hh7 3
        have z4 := cell_of_block hh7 4
        have y4 := unfrozen_of_block hh7 4
        have z5 := cell_of_block hh7 5
        have y5 := unfrozen_of_block hh7 5
        clear hh7
        go_simp
        clear z0 y0 z1 y1 z2 y2 z3 y3 z4 y4 z5 y5
        have o7 := fun D hD => set6_other (X := V4) (V2.heap.size) D hD (.int .i64 z) (.slice sx.a1 sx.n1 sx.c1) (.slice sx.a2 sx.n2 sx.c2) (.slice sx.a3 sx.n3 sx.c3) (.slice sx.a4 sx.n4 sx.c4) (.slice sx.a5 sx.n5 sx.c5)
        have HZ8 := Lib.hid ((o7 (V3.heap.size) (fun e => hne7 e.symm)).trans HZ8.out)
        have hb6 := set6 (u0 := .int .i64 z) (u1 := .slice sx.a1 sx.n1 sx.c1) (u2 := .slice sx.a2 sx.n2 sx.c2) (u3 := .slice sx.a3 sx.n3 sx.c3) (u4 := .slice sx.a4 sx.n4 sx.c4) (u5 := .slice sx.a5 sx.n5 sx.c5) (V2.heap.size) HG7.out HBc.out
        have HELD := Lib.hid (HELDB.out _ hb6)
        clear o7 hne7
        generalize hV6 : World.setCell (World.setCell (World.setCell (World.setCell (World.setCell (World.setCell V4 _ _) _ _) _ _) _ _) _ _) _ _ = V6 at HELD HZ8 HTW hb6 ⊢
        clear hV6
        refine hK.out _ _ HELD.out (fun _ => ?_)
        clear hK K
        try simp only [Act.put, List.setIfInBounds_toArray, List.set_cons_zero, List.set_cons_succ]
        refine wpAnyH_ready (rs := [7]) (by kernel_rfl) (by simp) ?_
        refine AllReadyH.cons (by simp only [List.getElem?_toArray, List.getElem?_cons_zero, List.getElem?_cons_succ]; rfl) (fun K hK => ?_) AllReadyH.nil
        have hh8 := HZ8.out
        have z0 := cell_of_block hh8 0
        have y0 := unfrozen_of_block hh8 0
        have z1 := cell_of_block hh8 1
        have y1 := unfrozen_of_block hh8 1
        have z2 := cell_of_block hh8 2
        have y2 := unfrozen_of_block hh8 2
        clear hh8
        go_simp
        clear z0 y0 z1 y1 z2 y2
        have HELD := Lib.hid (HELDB.out _ (set3_t (u0 := .int .i64 bad) (u1 := .slice sy.a1 sy.n1 sy.c1) (u2 := .slice sy.a2 sy.n2 sy.c2) (V3.heap.size) HG8.out hb6))
        clear hb6
        refine hK.out _ _ HELD.out (fun _ => ?_)
        clear hK K
        try simp only [Act.put, List.setIfInBounds_toArray, List.set_cons_zero, List.set_cons_succ]
        refine wpAnyH_done (by kernel_rfl) ?_ _
        refine NoPanic.normal ?_
        exact hK _ _ _ _ _ _ _ _ _ HTW.out
      · go_simp
        generalize hV : World.alloc V2 _ = V7
        have hb : Below V2.heap.size V2 V7 := by subst hV; exact ext_alloc _ _
        have HZ8 : Hid (V7.heap[V2.heap.size]? = some (.cells #[.int .i64 0, .slice none 0 0, .slice none 0 0] 30 (0, 0))) := by show _ = _; subst hV; exact heap_new _ _ _ rfl
        have HG8 := Lib.hid HBc.out.size
        have HSx := Lib.hid (HSx.out.below hb)
        have HSy := Lib.hid (HSy.out.below hb)
        have HBc := Lib.hid (ext_trans HBc.out hb)
        have HELD := Lib.hid (HELDB.out V7 HBc.out)
        clear hV hb
        refine hK.out _ _ HELD.out (fun _ => ?_)
        clear hK K
        try simp only [Act.put, List.setIfInBounds_toArray, List.set_cons_zero, List.set_cons_succ]
        refine wpAnyH_ready (rs := [4]) (by kernel_rfl) (by simp) ?_
        refine AllReadyH.cons (by simp only [List.getElem?_toArray, List.getElem?_cons_zero, List.getElem?_cons_succ]; rfl) (fun K hK => ?_) AllReadyH.nil
        go_simp
        generalize hV : World.alloc V7 _ = V8
        have hb : Below V7.heap.size V7 V8 := by subst hV; exact ext_alloc _ _
        have HZ7 : Hid (V8.heap[V7.heap.size]? = some (.cells #[.int .i64 0, .slice none 0 0, .slice none 0 0, .slice none 0 0, .slice none 0 0, .slice none 0 0] 26 (0, 0))) := by show _ = _; subst hV; exact heap_new _ _ _ rfl
        have HG7 := Lib.hid HBc.out.size
        have HZ8 := Lib.hid (heap_below HZ8.out hb)
        have HSx := Lib.hid (HSx.out.below hb)
        have HSy := Lib.hid (HSy.out.below hb)
        have HBc := Lib.hid (ext_trans HBc.out hb)
        have HELD := Lib.hid (HELDB.out V8 HBc.out)
        clear hV hb
        refine hK.out _ _ HELD.out (fun _ => ?_)
        clear hK K
        try simp only [Act.put, List.setIfInBounds_toArray, List.set_cons_zero, List.set_cons_succ]
        refine wpAnyH_ready (rs := [6]) (by kernel_rfl) (by simp) ?_
        refine AllReadyH.cons (by simp only [List.getElem?_toArray, List.getElem?_cons_zero, List.getElem?_cons_succ]; rfl) (fun K hK => ?_) AllReadyH.nil
        have HTW := Lib.hid (Two.of (b := X0) (z := z) (bad := bad) HZ7.out rfl HZ8.out rfl HSx.out HSy.out HBc.out HG7.out HG8.out)
        have hne7 : V7.heap.size ≠ V2.heap.size := fun e => by have h7 := HZ7.out; rw [e, HZ8.out] at h7; cases h7
        have hh7 := HZ7.out
        have z0 := cell_of_block hh7 0
        have y0 := unfrozen_of_block hh7 0
        have z1 := cell_of_block hh7 1
        have y1 := unfrozen_of_block hh7 1
        have z2 := cell_of_block hh7 2
        have y2 := unfrozen_of_block hh7 2
        have z3 := cell_of_block hh7 3
        have y3 := unfrozen_of_block hh7 3
        have z4 := cell_of_block hh7 4
        have y4 := unfrozen_of_block hh7 4
        have z5 := cell_of_block hh7 5
        have y5 := unfrozen_of_block hh7 5
        clear hh7
        go_simp
        clear z0 y0 z1 y1 z2 y2 z3 y3 z4 y4 z5 y5
        have o7 := fun D hD => set6_other (X := V8) (V7.heap.size) D hD (.int .i64 z) (.slice sx.a1 sx.n1 sx.c1) (.slice sx.a2 sx.n2 sx.c2) (.slice sx.a3 sx.n3 sx.c3) (.slice sx.a4 sx.n4 sx.c4) (.slice sx.a5 sx.n5 sx.c5)
        have HZ8 := Lib.hid ((o7 (V2.heap.size) (fun e => hne7 e.symm)).trans HZ8.out)
        have hb6 := set6 (u0 := .int .i64 z) (u1 := .slice sx.a1 sx.n1 sx.c1) (u2 := .slice sx.a2 sx.n2 sx.c2) (u3 := .slice sx.a3 sx.n3 sx.c3) (u4 := .slice sx.a4 sx.n4 sx.c4) (u5 := .slice sx.a5 sx.n5 sx.c5) (V7.heap.size) HG7.out HBc.out
        have HELD := Lib.hid (HELDB.out _ hb6)
        clear o7 hne7
        generalize hV6 : World.setCell (World.setCell (World.setCell (World.setCell (World.setCell (World.setCell V8 _ _) _ _) _ _) _ _) _ _) _ _ = V6 at HELD HZ8 HTW hb6 ⊢
        clear hV6
        refine hK.out _ _ HELD.out (fun _ => ?_)
        clear hK K
        try simp only [Act.put, List.setIfInBounds_toArray, List.set_cons_zero, List.set_cons_succ]
        refine wpAnyH_ready (rs := [7]) (by kernel_rfl) (by simp) ?_
        refine AllReadyH.cons (by simp only [List.getElem?_toArray, List.getElem?_cons_zero, List.getElem?_cons_succ]; rfl) (fun K hK => ?_) AllReadyH.nil
        have hh8 := HZ8.out
        have z0 := cell_of_block hh8 0
        have y0 := unfrozen_of_block hh8 0
        have z1 := cell_of_block hh8 1
        have y1 := unfrozen_of_block hh8 1
        have z2 := cell_of_block hh8 2
        have y2 := unfrozen_of_block hh8 2
        clear hh8
        go_simp
        clear z0 y0 z1 y1 z2 y2
        have HELD := Lib.hid (HELDB.out _ (set3_t (u0 := .int .i64 bad) (u1 := .slice sy.a1 sy.n1 sy.c1) (u2 := .slice sy.a2 sy.n2 sy.c2) (V2.heap.size) HG8.out hb6))
        clear hb6
        refine hK.out _ _ HELD.out (fun _ => ?_)
        clear hK K
        try simp only [Act.put, List.setIfInBounds_toArray, List.set_cons_zero, List.set_cons_succ]
        refine wpAnyH_done (by kernel_rfl) ?_ _
        refine NoPanic.normal ?_
        exact hK _ _ _ _ _ _ _ _ _ HTW.out
    · go_simp
      generalize hV : World.alloc V1 _ = V11
      have hb : Below V1.heap.size V1 V11 := by subst hV; exact ext_alloc _ _
      have HZ7 : Hid (V11.heap[V1.heap.size]? = some (.cells #[.int .i64 0, .slice none 0 0, .slice none 0 0, .slice none 0 0, .slice none 0 0, .slice none 0 0] 26 (0, 0))) := by show _ = _; subst hV; exact heap_new _ _ _ rfl
      have HG7 := Lib.hid HBc.out.size
      have HSx := Lib.hid (HSx.out.below hb)
      have HBc := Lib.hid (ext_trans HBc.out hb)
      have HELD := Lib.hid (HELDB.out V11 HBc.out)
      clear hV hb
      refine hK.out _ _ HELD.out (fun _ => ?_)
      clear hK K
      try simp only [Act.put, List.setIfInBounds_toArray, List.set_cons_zero, List.set_cons_succ]
      refine wpAnyH_ready (rs := [3, 5]) (by kernel_rfl) (by simp) ?_
      refine AllReadyH.cons (by simp only [List.getElem?_toArray, List.getElem?_cons_zero, List.getElem?_cons_succ]; rfl) (fun K hK => ?_) (AllReadyH.cons (by simp only [List.getElem?_toArray, List.getElem?_cons_zero, List.getElem?_cons_succ]; rfl) (fun K hK => ?_) AllReadyH.nil)
      · go_simp
        refine (E2.out _ HBc.out).mono ?_
        rintro e V12 ⟨sy, rfl, ho, hb⟩
        have HSy := Lib.hid (ho.base_le (B := X0.heap.size) HBc.out.size)
        have HSx := Lib.hid (HSx.out.below hb)
        have HZ7 := Lib.hid (heap_below HZ7.out hb)
        have HBc := Lib.hid (ext_trans HBc.out hb)
        have HELD := Lib.hid (HELDB.out V12 HBc.out)
        clear ho hb
        refine hK.out _ _ HELD.out (fun _ => ?_)
        clear hK K
        try simp only [Act.put, List.setIfInBounds_toArray, List.set_cons_zero, List.set_cons_succ]
        refine wpAnyH_ready (rs := [5]) (by kernel_rfl) (by simp) ?_
        refine AllReadyH.cons (by simp only [List.getElem?_toArray, List.getElem?_cons_zero, List.getElem?_cons_succ]; rfl) (fun K hK => ?_) AllReadyH.nil
        go_simp
        generalize hV : World.alloc V12 _ = V13
        have hb : Below V12.heap.size V12 V13 := by subst hV; exact ext_alloc _ _
        have HZ8 : Hid (V13.heap[V12.heap.size]? = some (.cells #[.int .i64 0, .slice none 0 0, .slice none 0 0] 30 (0, 0))) := by show _ = _; subst hV; exact heap_new _ _ _ rfl
        have HG8 := Lib.hid HBc.out.size
        have HZ7 := Lib.hid (heap_below HZ7.out hb)
        have HSx := Lib.hid (HSx.out.below hb)
        have HSy := Lib.hid (HSy.out.below hb)
        have HBc := Lib.hid (ext_trans HBc.out hb)
        have HELD := Lib.hid (HELDB.out V13 HBc.out)
        clear hV hb
        refine hK.out _ _ HELD.out (fun _ => ?_)
        clear hK K
        try simp only [Act.put, List.setIfInBounds_toArray, List.set_cons_zero, List.set_cons_succ]
        refine wpAnyH_ready (rs := [6]) (by kernel_rfl) (by simp) ?_
        refine AllReadyH.cons (by simp only [List.getElem?_toArray, List.getElem?_cons_zero, List.getElem?_cons_succ]; rfl) (fun K hK => ?_) AllReadyH.nil
        have HTW := Lib.hid (Two.of (b := X0) (z := z) (bad := bad) HZ7.out rfl HZ8.out rfl HSx.out HSy.out HBc.out HG7.out HG8.out)
        have hne7 : V1.heap.size ≠ V12.heap.size := fun e => by have h7 := HZ7.out; rw [e, HZ8.out] at h7; cases h7
        have hh7 := HZ7.out
        have z0 := cell_of_block hh7 0
        have y0 := unfrozen_of_block hh7 0
        have z1 := cell_of_block hh7 1
        have y1 := unfrozen_of_block hh7 1
        have z2 := cell_of_block hh7 2
        have y2 := unfrozen_of_block hh7 2
        have z3 := cell_of_block hh7 3
        have y3 := unfrozen_of_block hh7 3
        have z4 := cell_of_block hh7 4
        have y4 := unfrozen_of_block hh7 4
        have z5 := cell_of_block hh7 5
        have y5 := unfrozen_of_block hh7 5
        clear hh7
        go_simp
        clear z0 y0 z1 y1 z2 y2 z3 y3 z4 y4 z5 y5
        have o7 := fun D hD => set6_other (X := V13) (V1.heap.size) D hD (.int .i64 z) (.slice sx.a1 sx.n1 sx.c1) (.slice sx.a2 sx.n2 sx.c2) (.slice sx.a3 sx.n3 sx.c3) (.slice sx.a4 sx.n4 sx.c4) (.slice sx.a5 sx.n5 sx.c5)
        have HZ8 := Lib.hid ((o7 (V12.heap.size) (fun e => hne7 e.symm)).trans HZ8.out)
        have hb6 := set6 (u0 := .int .i64 z) (u1 := .slice sx.a1 sx.n1 sx.c1) (u2 := .slice sx.a2 sx.n2 sx.c2) (u3 := .slice sx.a3 sx.n3 sx.c3) (u4 := .slice sx.a4 sx.n4 sx.c4) (u5 := .slice sx.a5 sx.n5 sx.c5) (V1.heap.size) HG7.out HBc.out
        have HELD := Lib.hid (HELDB.out _ hb6)
        clear o7 hne7
        generalize hV6 : World.setCell (World.setCell (World.setCell (World.setCell (World.setCell (World.setCell V13 _ _) _ _) _ _) _ _) _ _) _ _ = V6 at HELD HZ8 HTW hb6 ⊢
        clear hV6
        refine hK.out _ _ HELD.out (fun _ => ?_)
        clear hK K
        try simp only [Act.put, List.setIfInBounds_toArray, List.set_cons_zero, List.set_cons_succ]
        refine wpAnyH_ready (rs := [7]) (by kernel_rfl) (by simp) ?_
        refine AllReadyH.cons (by simp only [List.getElem?_toArray, List.getElem?_cons_zero, List.getElem?_cons_succ]; rfl) (fun K hK => ?_) AllReadyH.nil
        have hh8 := HZ8.out
        have z0 := cell_of_block hh8 0
        have y0 := unfrozen_of_block hh8 0
        have z1 := cell_of_block hh8 1
        have y1 := unfrozen_of_block hh8 1
        have z2 := cell_of_block hh8 2
        have y2 := unfrozen_of_block hh8 2
        clear hh8
        go_simp
        clear z0 y0 z1 y1 z2 y2
        have HELD := Lib.hid (HELDB.out _ (set3_t (u0 := .int .i64 bad) (u1 := .slice sy.a1 sy.n1 sy.c1) (u2 := .slice sy.a2 sy.n2 sy.c2) (V12.heap.size) HG8.out hb6))
        clear hb6
        refine hK.out _ _ HELD.out (fun _ => ?_)
        clear hK K
        try simp only [Act.put, List.setIfInBounds_toArray, List.set_cons_zero, List.set_cons_succ]
        refine wpAnyH_done (by kernel_rfl) ?_ _
        refine NoPanic.normal ?_
        exact hK _ _ _ _ _ _ _ _ _ HTW.out
      · go_simp
        generalize hV : World.alloc V11 _ = V16
        have hb : Below V11.heap.size V11 V16 := by subst hV; exact ext_alloc _ _
        have HZ8 : Hid (V16.heap[V11.heap.size]? = some (.cells #[.int .i64 0, .slice none 0 0, .slice none 0 0] 30 (0, 0))) := by show _ = _; subst hV; exact heap_new _ _ _ rfl
        have HG8 := Lib.hid HBc.out.size
        have HZ7 := Lib.hid (heap_below HZ7.out hb)
        have HSx := Lib.hid (HSx.out.below hb)
        have HBc := Lib.hid (ext_trans HBc.out hb)
        have HELD := Lib.hid (HELDB.out V16 HBc.out)
        clear hV hb
        refine hK.out _ _ HELD.out (fun _ => ?_)
        clear hK K
        try simp only [Act.put, List.setIfInBounds_toArray, List.set_cons_zero, List.set_cons_succ]
        refine wpAnyH_ready (rs := [3]) (by kernel_rfl) (by simp) ?_
        refine AllReadyH.cons (by simp only [List.getElem?_toArray, List.getElem?_cons_zero, List.getElem?_cons_succ]; rfl) (fun K hK => ?_) AllReadyH.nil
        go_simp
        refine (E2.out _ HBc.out).mono ?_
        rintro e V17 ⟨sy, rfl, ho, hb⟩
        have HSy := Lib.hid (ho.base_le (B := X0.heap.size) HBc.out.size)
        have HSx := Lib.hid (HSx.out.below hb)
        have HZ7 := Lib.hid (heap_below HZ7.out hb)
        have HZ8 := Lib.hid (heap_below HZ8.out hb)
        have HBc := Lib.hid (ext_trans HBc.out hb)
        have HELD := Lib.hid (HELDB.out V17 HBc.out)
        clear ho hb
        refine hK.out _ _ HELD.out (fun _ => ?_)
        clear hK K
        try simp only [Act.put, List.setIfInBounds_toArray, List.set_cons_zero, List.set_cons_succ]
        refine wpAnyH_ready (rs := [6]) (by kernel_rfl) (by simp) ?_
        refine AllReadyH.cons (by simp only [List.getElem?_toArray, List.getElem?_cons_zero, List.getElem?_cons_succ]; rfl) (fun K hK => ?_) AllReadyH.nil
        have HTW := Lib.hid (Two.of (b := X0) (z := z) (bad := bad) HZ7.out rfl HZ8.out rfl HSx.out HSy.out HBc.out HG7.out HG8.out)
        have hne7 : V1.heap.size ≠ V11.heap.size := fun e => by have h7 := HZ7.out; rw [e, HZ8.out] at h7; cases h7
        have hh7 := HZ7.out
        have z0 := cell_of_block hh7 0
        have y0 := unfrozen_of_block hh7 0
        have z1 := cell_of_block hh7 1
        have y1 := unfrozen_of_block hh7 1
        have z2 := cell_of_block hh7 2
        have y2 := unfrozen_of_block hh7 2
        have z3 := cell_of_block hh7 3
        have y3 := unfrozen_of_block hh7 3
        have z4 := cell_of_block hh7 4
        have y4 := unfrozen_of_block hh7 4
        have z5 := cell_of_block hh7 5
        have y5 := unfrozen_of_block hh7 5
        clear hh7
        go_simp
        clear z0 y0 z1 y1 z2 y2 z3 y3 z4 y4 z5 y5
        have o7 := fun D hD => set6_other (X := V17) (V1.heap.size) D hD (.int .i64 z) (.slice sx.a1 sx.n1 sx.c1) (.slice sx.a2 sx.n2 sx.c2) (.slice sx.a3 sx.n3 sx.c3) (.slice sx.a4 sx.n4 sx.c4) (.slice sx.a5 sx.n5 sx.c5)
        have HZ8 := Lib.hid ((o7 (V11.heap.size) (fun e => hne7 e.symm)).trans HZ8.out)
        have hb6 := set6 (u0 := .int .i64 z) (u1 := .slice sx.a1 sx.n1 sx.c1) (u2 := .slice sx.a2 sx.n2 sx.c2) (u3 := .slice sx.a3 sx.n3 sx.c3) (u4 := .slice sx.a4 sx.n4 sx.c4) (u5 := .slice sx.a5 sx.n5 sx.c5) (V1.heap.size) HG7.out HBc.out
        have HELD := Lib.hid (HELDB.out _ hb6)
        clear o7 hne7
        generalize hV6 : World.setCell (World.setCell (World.setCell (World.setCell (World.setCell (World.setCell V17 _ _) _ _) _ _) _ _) _ _) _ _ = V6 at HELD HZ8 HTW hb6 ⊢
        clear hV6
        refine hK.out _ _ HELD.out (fun _ => ?_)
        clear hK K
        try simp only [Act.put, List.setIfInBounds_toArray, List.set_cons_zero, List.set_cons_succ]
        refine wpAnyH_ready (rs := [7]) (by kernel_rfl) (by simp) ?_
        refine AllReadyH.cons (by simp only [List.getElem?_toArray, List.getElem?_cons_zero, List.getElem?_cons_succ]; rfl) (fun K hK => ?_) AllReadyH.nil
        have hh8 := HZ8.out
        have z0 := cell_of_block hh8 0
        have y0 := unfrozen_of_block hh8 0
        have z1 := cell_of_block hh8 1
        have y1 := unfrozen_of_block hh8 1
        have z2 := cell_of_block hh8 2
        have y2 := unfrozen_of_block hh8 2
        clear hh8
        go_simp
        clear z0 y0 z1 y1 z2 y2
        have HELD := Lib.hid (HELDB.out _ (set3_t (u0 := .int .i64 bad) (u1 := .slice sy.a1 sy.n1 sy.c1) (u2 := .slice sy.a2 sy.n2 sy.c2) (V11.heap.size) HG8.out hb6))
        clear hb6
        refine hK.out _ _ HELD.out (fun _ => ?_)
        clear hK K
        try simp only [Act.put, List.setIfInBounds_toArray, List.set_cons_zero, List.set_cons_succ]
        refine wpAnyH_done (by kernel_rfl) ?_ _
        refine NoPanic.normal ?_
        exact hK _ _ _ _ _ _ _ _ _ HTW.out
    · go_simp
      generalize hV : World.alloc V1 _ = V20
      have hb : Below V1.heap.size V1 V20 := by subst hV; exact ext_alloc _ _
      have HZ8 : Hid (V20.heap[V1.heap.size]? = some (.cells #[.int .i64 0, .slice none 0 0, .slice none 0 0] 30 (0, 0))) := by show _ = _; subst hV; exact heap_new _ _ _ rfl
      have HG8 := Lib.hid HBc.out.size
      have HSx := Lib.hid (HSx.out.below hb)
      have HBc := Lib.hid (ext_trans HBc.out hb)
      have HELD := Lib.hid (HELDB.out V20 HBc.out)
      clear hV hb
      refine hK.out _ _ HELD.out (fun _ => ?_)
      clear hK K
      try simp only [Act.put, List.setIfInBounds_toArray, List.set_cons_zero, List.set_cons_succ]
      refine wpAnyH_ready (rs := [3, 4]) (by kernel_rfl) (by simp) ?_
      refine AllReadyH.cons (by simp only [List.getElem?_toArray, List.getElem?_cons_zero, List.getElem?_cons_succ]; rfl) (fun K hK => ?_) (AllReadyH.cons (by simp only [List.getElem?_toArray, List.getElem?_cons_zero, List.getElem?_cons_succ]; rfl) (fun K hK => ?_) AllReadyH.nil)
      · go_simp
        refine (E2.out _ HBc.out).mono ?_
        rintro e V21 ⟨sy, rfl, ho, hb⟩
        have HSy := Lib.hid (ho.base_le (B := X0.heap.size) HBc.out.size)
        have HSx := Lib.hid (HSx.out.below hb)
        have HZ8 := Lib.hid (heap_below HZ8.out hb)
        have HBc := Lib.hid (ext_trans HBc.out hb)
        have HELD := Lib.hid (HELDB.out V21 HBc.out)
        clear ho hb
        refine hK.out _ _ HELD.out (fun _ => ?_)
        clear hK K
        try simp only [Act.put, List.setIfInBounds_toArray, List.set_cons_zero, List.set_cons_succ]
        refine wpAnyH_ready (rs := [4]) (by kernel_rfl) (by simp) ?_
        refine AllReadyH.cons (by simp only [List.getElem?_toArray, List.getElem?_cons_zero, List.getElem?_cons_succ]; rfl) (fun K hK => ?_) AllReadyH.nil
        go_simp
        generalize hV : World.alloc V21 _ = V22
        have hb : Below V21.heap.size V21 V22 := by subst hV; exact ext_alloc _ _
        have HZ7 : Hid (V22.heap[V21.heap.size]? = some (.cells #[.int .i64 0, .slice none 0 0, .slice none 0 0, .slice none 0 0, .slice none 0 0, .slice none 0 0] 26 (0, 0))) := by show _ = _; subst hV; exact heap_new _ _ _ rfl
        have HG7 := Lib.hid HBc.out.size
        have HZ8 := Lib.hid (heap_below HZ8.out hb)
        have HSx := Lib.hid (HSx.out.below hb)
        have HSy := Lib.hid (HSy.out.below hb)
        have HBc := Lib.hid (ext_trans HBc.out hb)
        have HELD := Lib.hid (HELDB.out V22 HBc.out)
        clear hV hb
        refine hK.out _ _ HELD.out (fun _ => ?_)
        clear hK K
        try simp only [Act.put, List.setIfInBounds_toArray, List.set_cons_zero, List.set_cons_succ]
        refine wpAnyH_ready (rs := [6]) (by kernel_rfl) (by simp) ?_
        refine AllReadyH.cons (by simp only [List.getElem?_toArray, List.getElem?_cons_zero, List.getElem?_cons_succ]; rfl) (fun K hK => ?_) AllReadyH.nil
        have HTW := Lib.hid (Two.of (b := X0) (z := z) (bad := bad) HZ7.out rfl HZ8.out rfl HSx.out HSy.out HBc.out HG7.out HG8.out)
        have hne7 : V21.heap.size ≠ V1.heap.size := fun e => by have h7 := HZ7.out; rw [e, HZ8.out] at h7; cases h7
        have hh7 := HZ7.out
        have z0 := cell_of_block hh7 0
        have y0 := unfrozen_of_block hh7 0
        have z1 := cell_of_block hh7 1
        have y1 := unfrozen_of_block hh7 1
        have z2 := cell_of_block hh7 2
        have y2 := unfrozen_of_block hh7 2
        have z3 := cell_of_block hh7 3
        have y3 := unfrozen_of_block hh7 3
        have z4 := cell_of_block hh7 4
        have y4 := unfrozen_of_block hh7 4
        have z5 := cell_of_block hh7 5
        have y5 := unfrozen_of_block hh7 5
        clear hh7
        go_simp
        clear z0 y0 z1 y1 z2 y2 z3 y3 z4 y4 z5 y5
        have o7 := fun D hD => set6_other (X := V22) (V21.heap.size) D hD (.int .i64 z) (.slice sx.a1 sx.n1 sx.c1) (.slice sx.a2 sx.n2 sx.c2) (.slice sx.a3 sx.n3 sx.c3) (.slice sx.a4 sx.n4 sx.c4) (.slice sx.a5 sx.n5 sx.c5)
        have HZ8 := Lib.hid ((o7 (V1.heap.size) (fun e => hne7 e.symm)).trans HZ8.out)
        have hb6 := set6 (u0 := .int .i64 z) (u1 := .slice sx.a1 sx.n1 sx.c1) (u2 := .slice sx.a2 sx.n2 sx.c2) (u3 := .slice sx.a3 sx.n3 sx.c3) (u4 := .slice sx.a4 sx.n4 sx.c4) (u5 := .slice sx.a5 sx.n5 sx.c5) (V21.heap.size) HG7.out HBc.out
        have HELD := Lib.hid (HELDB.out _ hb6)
        clear o7 hne7
        generalize hV6 : World.setCell (World.setCell (World.setCell (World.setCell (World.setCell (World.setCell V22 _ _) _ _) _ _) _ _) _ _) _ _ = V6 at HELD HZ8 HTW hb6 ⊢
        clear hV6
        refine hK.out _ _ HELD.out (fun _ => ?_)
        clear hK K
        try simp only [Act.put, List.setIfInBounds_toArray, List.set_cons_zero, List.set_cons_succ]
        refine wpAnyH_ready (rs := [7]) (by kernel_rfl) (by simp) ?_
        refine AllReadyH.cons (by simp only [List.getElem?_toArray, List.getElem?_cons_zero, List.getElem?_cons_succ]; rfl) (fun K hK => ?_) AllReadyH.nil
        have hh8 := HZ8.out
        have z0 := cell_of_block hh8 0
        have y0 := unfrozen_of_block hh8 0
        have z1 := cell_of_block hh8 1
        have y1 := unfrozen_of_block hh8 1
        have z2 := cell_of_block hh8 2
        have y2 := unfrozen_of_block hh8 2
        clear hh8
        go_simp
        clear z0 y0 z1 y1 z2 y2
        have HELD := Lib.hid (HELDB.out _ (set3_t (u0 := .int .i64 bad) (u1 := .slice sy.a1 sy.n1 sy.c1) (u2 := .slice sy.a2 sy.n2 sy.c2) (V1.heap.size) HG8.out hb6))
        clear hb6
        refine hK.out _ _ HELD.out (fun _ => ?_)
        clear hK K
        try simp only [Act.put, List.setIfInBounds_toArray, List.set_cons_zero, List.set_cons_succ]
        refine wpAnyH_done (by kernel_rfl) ?_ _
        refine NoPanic.normal ?_
        exact hK _ _ _ _ _ _ _ _ _ HTW.out
      · go_simp
        generalize hV : World.alloc V20 _ = V25
        have hb : Below V20.heap.size V20 V25 := by subst hV; exact ext_alloc _ _
        have HZ7 : Hid (V25.heap[V20.heap.size]? = some (.cells #[.int .i64 0, .slice none 0 0, .slice none 0 0, .slice none 0 0, .slice none 0 0, .slice none 0 0] 26 (0, 0))) := by show _ = _; subst hV; exact heap_new _ _ _ rfl
        have HG7 := Lib.hid HBc.out.size
        have HZ8 := Lib.hid (heap_below HZ8.out hb)
        have HSx := Lib.hid (HSx.out.below hb)
        have HBc := Lib.hid (ext_trans HBc.out hb)
        have HELD := Lib.hid (HELDB.out V25 HBc.out)
        clear hV hb
        refine hK.out _ _ HELD.out (fun _ => ?_)
        clear hK K
        try simp only [Act.put, List.setIfInBounds_toArray, List.set_cons_zero, List.set_cons_succ]
        refine wpAnyH_ready (rs := [3]) (by kernel_rfl) (by simp) ?_
        refine AllReadyH.cons (by simp only [List.getElem?_toArray, List.getElem?_cons_zero, List.getElem?_cons_succ]; rfl) (fun K hK => ?_) AllReadyH.nil
        go_simp
        refine (E2.out _ HBc.out).mono ?_
        rintro e V26 ⟨sy, rfl, ho, hb⟩
        have HSy := Lib.hid (ho.base_le (B := X0.heap.size) HBc.out.size)
        have HSx := Lib.hid (HSx.out.below hb)
        have HZ7 := Lib.hid (heap_below HZ7.out hb)
        have HZ8 := Lib.hid (heap_below HZ8.out hb)
        have HBc := Lib.hid (ext_trans HBc.out hb)
        have HELD := Lib.hid (HELDB.out V26 HBc.out)
        clear ho hb
        refine hK.out _ _ HELD.out (fun _ => ?_)
        clear hK K
        try simp only [Act.put, List.setIfInBounds_toArray, List.set_cons_zero, List.set_cons_succ]
        refine wpAnyH_ready (rs := [6]) (by kernel_rfl) (by simp) ?_
        refine AllReadyH.cons (by simp only [List.getElem?_toArray, List.getElem?_cons_zero, List.getElem?_cons_succ]; rfl) (fun K hK => ?_) AllReadyH.nil
        have HTW := Lib.hid (Two.of (b := X0) (z := z) (bad := bad) HZ7.out rfl HZ8.out rfl HSx.out HSy.out HBc.out HG7.out HG8.out)
        have hne7 : V20.heap.size ≠ V1.heap.size := fun e => by have h7 := HZ7.out; rw [e, HZ8.out] at h7; cases h7
        have hh7 := HZ7.out
        have z0 := cell_of_block hh7 0
        have y0 := unfrozen_of_block hh7 0
        have z1 := cell_of_block hh7 1
        have y1 := unfrozen_of_block hh7 1
        have z2 := cell_of_block hh7 2
        have y2 := unfrozen_of_block hh7 2
        have z3 := cell_of_block hh7 3
        have y3 := unfrozen_of_block hh7 3
        have z4 := cell_of_block hh7 4
        have y4 := unfrozen_of_block hh7 4
        have z5 := cell_of_block hh7 5
        have y5 := unfrozen_of_block hh7 5
        clear hh7
        go_simp
        clear z0 y0 z1 y1 z2 y2 z3 y3 z4 y4 z5 y5
        have o7 := fun D hD => set6_other (X := V26) (V20.heap.size) D hD (.int .i64 z) (.slice sx.a1 sx.n1 sx.c1) (.slice sx.a2 sx.n2 sx.c2) (.slice sx.a3 sx.n3 sx.c3) (.slice sx.a4 sx.n4 sx.c4) (.slice sx.a5 sx.n5 sx.c5)
        have HZ8 := Lib.hid ((o7 (V1.heap.size) (fun e => hne7 e.symm)).trans HZ8.out)
        have hb6 := set6 (u0 := .int .i64 z) (u1 := .slice sx.a1 sx.n1 sx.c1) (u2 := .slice sx.a2 sx.n2 sx.c2) (u3 := .slice sx.a3 sx.n3 sx.c3) (u4 := .slice sx.a4 sx.n4 sx.c4) (u5 := .slice sx.a5 sx.n5 sx.c5) (V20.heap.size) HG7.out HBc.out
        have HELD := Lib.hid (HELDB.out _ hb6)
        clear o7 hne7
        generalize hV6 : World.setCell (World.setCell (World.setCell (World.setCell (World.setCell (World.setCell V26 _ _) _ _) _ _) _ _) _ _) _ _ = V6 at HELD HZ8 HTW hb6 ⊢
        clear hV6
        refine hK.out _ _ HELD.out (fun _ => ?_)
        clear hK K
        try simp only [Act.put, List.setIfInBounds_toArray, List.set_cons_zero, List.set_cons_succ]
        refine wpAnyH_ready (rs := [7]) (by kernel_rfl) (by simp) ?_
        refine AllReadyH.cons (by simp only [List.getElem?_toArray, List.getElem?_cons_zero, List.getElem?_cons_succ]; rfl) (fun K hK => ?_) AllReadyH.nil
        have hh8 := HZ8.out
        have z0 := cell_of_block hh8 0
        have y0 := unfrozen_of_block hh8 0
        have z1 := cell_of_block hh8 1
        have y1 := unfrozen_of_block hh8 1
        have z2 := cell_of_block hh8 2
        have y2 := unfrozen_of_block hh8 2
        clear hh8
        go_simp
        clear z0 y0 z1 y1 z2 y2
        have HELD := Lib.hid (HELDB.out _ (set3_t (u0 := .int .i64 bad) (u1 := .slice sy.a1 sy.n1 sy.c1) (u2 := .slice sy.a2 sy.n2 sy.c2) (V1.heap.size) HG8.out hb6))
        clear hb6
        refine hK.out _ _ HELD.out (fun _ => ?_)
        clear hK K
        try simp only [Act.put, List.setIfInBounds_toArray, List.set_cons_zero, List.set_cons_succ]
        refine wpAnyH_done (by kernel_rfl) ?_ _
        refine NoPanic.normal ?_
        exact hK _ _ _ _ _ _ _ _ _ HTW.out
  · go_simp
    generalize hV : World.alloc Y0 _ = V29
    have hb : Below Y0.heap.size Y0 V29 := by subst hV; exact ext_alloc _ _
    have HZ7 : Hid (V29.heap[Y0.heap.size]? = some (.cells #[.int .i64 0, .slice none 0 0, .slice none 0 0, .slice none 0 0, .slice none 0 0, .slice none 0 0] 26 (0, 0))) := by show _ = _; subst hV; exact heap_new _ _ _ rfl
    have HG7 := Lib.hid HBc.out.size
    have HBc := Lib.hid (ext_trans HBc.out hb)
    have HELD := Lib.hid (HELDB.out V29 HBc.out)
    clear hV hb
    refine hK.out _ _ HELD.out (fun _ => ?_)
    clear hK K
    try simp only [Act.put, List.setIfInBounds_toArray, List.set_cons_zero, List.set_cons_succ]
    refine wpAnyH_ready (rs := [1, 5]) (by kernel_rfl) (by simp) ?_
    refine AllReadyH.cons (by simp only [List.getElem?_toArray, List.getElem?_cons_zero, List.getElem?_cons_succ]; rfl) (fun K hK => ?_) (AllReadyH.cons (by simp only [List.getElem?_toArray, List.getElem?_cons_zero, List.getElem?_cons_succ]; rfl) (fun K hK => ?_) AllReadyH.nil)
    · go_simp
      refine (E1.out _ HBc.out).mono ?_
      rintro e V30 ⟨sx, rfl, ho, hb⟩
      have HSx := Lib.hid (ho.base_le (B := X0.heap.size) HBc.out.size)
      have HZ7 := Lib.hid (heap_below HZ7.out hb)
      have HBc := Lib.hid (ext_trans HBc.out hb)
      have HELD := Lib.hid (HELDB.out V30 HBc.out)
      clear ho hb
      refine hK.out _ _ HELD.out (fun _ => ?_)
      clear hK K
      try simp only [Act.put, List.setIfInBounds_toArray, List.set_cons_zero, List.set_cons_succ]
      refine wpAnyH_ready (rs := [3, 5]) (by kernel_rfl) (by simp) ?_
      refine AllReadyH.cons (by simp only [List.getElem?_toArray, List.getElem?_cons_zero, List.getElem?_cons_succ]; rfl) (fun K hK => ?_) (AllReadyH.cons (by simp only [List.getElem?_toArray, List.getElem?_cons_zero, List.getElem?_cons_succ]; rfl) (fun K hK => ?_) AllReadyH.nil)
      · go_simp
        refine (E2.out _ HBc.out).mono ?_
        rintro e V31 ⟨sy, rfl, ho, hb⟩
        have HSy := Lib.hid (ho.base_le (B := X0.heap.size) HBc.out.size)
        have HSx := Lib.hid (HSx.out.below hb)
        have HZ7 := Lib.hid (heap_below HZ7.out hb)
        have HBc := Lib.hid (ext_trans HBc.out hb)
        have HELD := Lib.hid (HELDB.out V31 HBc.out)
        clear ho hb
        refine hK.out _ _ HELD.out (fun _ => ?_)
        clear hK K
        try simp only [Act.put, List.setIfInBounds_toArray, List.set_cons_zero, List.set_cons_succ]
        refine wpAnyH_ready (rs := [5]) (by kernel_rfl) (by simp) ?_
        refine AllReadyH.cons (by simp only [List.getElem?_toArray, List.getElem?_cons_zero, List.getElem?_cons_succ]; rfl) (fun K hK => ?_) AllReadyH.nil
        go_simp
        generalize hV : World.alloc V31 _ = V32
        have hb : Below V31.heap.size V31 V32 := by subst hV; exact ext_alloc _ _
        have HZ8 : Hid (V32.heap[V31.heap.size]? = some (.cells #[.int .i64 0, .slice none 0 0, .slice none 0 0] 30 (0, 0))) := by show _ = _; subst hV; exact heap_new _ _ _ rfl
        have HG8 := Lib.hid HBc.out.size
        have HZ7 := Lib.hid (heap_below HZ7.out hb)
        have HSx := Lib.hid (HSx.out.below hb)
        have HSy := Lib.hid (HSy.out.below hb)
        have HBc := Lib.hid (ext_trans HBc.out hb)
        have HELD := Lib.hid (HELDB.out V32 HBc.out)
        clear hV hb
        refine hK.out _ _ HELD.out (fun _ => ?_)
        clear hK K
        try simp only [Act.put, List.setIfInBounds_toArray, List.set_cons_zero, List.set_cons_succ]
        refine wpAnyH_ready (rs := [6]) (by kernel_rfl) (by simp) ?_
        refine AllReadyH.cons (by simp only [List.getElem?_toArray, List.getElem?_cons_zero, List.getElem?_cons_succ]; rfl) (fun K hK => ?_) AllReadyH.nil
        have HTW := Lib.hid (Two.of (b := X0) (z := z) (bad := bad) HZ7.out rfl HZ8.out rfl HSx.out HSy.out HBc.out HG7.out HG8.out)
        have hne7 : Y0.heap.size ≠ V31.heap.size := fun e => by have h7 := HZ7.out; rw [e, HZ8.out] at h7; cases h7
        have hh7 := HZ7.out
        have z0 := cell_of_block hh7 0
        have y0 := unfrozen_of_block hh7 0
        have z1 := cell_of_block hh7 1
        have y1 := unfrozen_of_block hh7 1
        have z2 := cell_of_block hh7 2
        have y2 := unfrozen_of_block hh7 2
        have z3 := cell_of_block hh7 3
        have y3 := unfrozen_of_block hh7 3
        have z4 := cell_of_block hh7 4
        have y4 := unfrozen_of_block hh7 4
        have z5 := cell_of_block hh7 5
        have y5 := unfrozen_of_block hh7 5
        clear hh7
        go_simp
        clear z0 y0 z1 y1 z2 y2 z3 y3 z4 y4 z5 y5
        have o7 := fun D hD => set6_other (X := V32) (Y0.heap.size) D hD (.int .i64 z) (.slice sx.a1 sx.n1 sx.c1) (.slice sx.a2 sx.n2 sx.c2) (.slice sx.a3 sx.n3 sx.c3) (.slice sx.a4 sx.n4 sx.c4) (.slice sx.a5 sx.n5 sx.c5)
        have HZ8 := Lib.hid ((o7 (V31.heap.size) (fun e => hne7 e.symm)).trans HZ8.out)
        have hb6 := set6 (u0 := .int .i64 z) (u1 := .slice sx.a1 sx.n1 sx.c1) (u2 := .slice sx.a2 sx.n2 sx.c2) (u3 := .slice sx.a3 sx.n3 sx.c3) (u4 := .slice sx.a4 sx.n4 sx.c4) (u5 := .slice sx.a5 sx.n5 sx.c5) (Y0.heap.size) HG7.out HBc.out
        have HELD := Lib.hid (HELDB.out _ hb6)
        clear o7 hne7
        generalize hV6 : World.setCell (World.setCell (World.setCell (World.setCell (World.setCell (World.setCell V32 _ _) _ _) _ _) _ _) _ _) _ _ = V6 at HELD HZ8 HTW hb6 ⊢
        clear hV6
        refine hK.out _ _ HELD.out (fun _ => ?_)
        clear hK K
        try simp only [Act.put, List.setIfInBounds_toArray, List.set_cons_zero, List.set_cons_succ]
        refine wpAnyH_ready (rs := [7]) (by kernel_rfl) (by simp) ?_
        refine AllReadyH.cons (by simp only [List.getElem?_toArray, List.getElem?_cons_zero, List.getElem?_cons_succ]; rfl) (fun K hK => ?_) AllReadyH.nil
        have hh8 := HZ8.out
        have z0 := cell_of_block hh8 0
        have y0 := unfrozen_of_block hh8 0
        have z1 := cell_of_block hh8 1
        have y1 := unfrozen_of_block hh8 1
        have z2 := cell_of_block hh8 2
        have y2 := unfrozen_of_block hh8 2
        clear hh8
        go_simp
        clear z0 y0 z1 y1 z2 y2
        have HELD := Lib.hid (HELDB.out _ (set3_t (u0 := .int .i64 bad) (u1 := .slice sy.a1 sy.n1 sy.c1) (u2 := .slice sy.a2 sy.n2 sy.c2) (V31.heap.size) HG8.out hb6))
        clear hb6
        refine hK.out _ _ HELD.out (fun _ => ?_)
        clear hK K
        try simp only [Act.put, List.setIfInBounds_toArray, List.set_cons_zero, List.set_cons_succ]
        refine wpAnyH_done (by kernel_rfl) ?_ _
        refine NoPanic.normal ?_
        exact hK _ _ _ _ _ _ _ _ _ HTW.out
      · go_simp
        generalize hV : World.alloc V30 _ = V35
        have hb : Below V30.heap.size V30 V35 := by subst hV; exact ext_alloc _ _
        have HZ8 : Hid (V35.heap[V30.heap.size]? = some (.cells #[.int .i64 0, .slice none 0 0, .slice none 0 0] 30 (0, 0))) := by show _ = _; subst hV; exact heap_new _ _ _ rfl
        have HG8 := Lib.hid HBc.out.size
        have HZ7 := Lib.hid (heap_below HZ7.out hb)
        have HSx := Lib.hid (HSx.out.below hb)
        have HBc := Lib.hid (ext_trans HBc.out hb)
        have HELD := Lib.hid (HELDB.out V35 HBc.out)
        clear hV hb
        refine hK.out _ _ HELD.out (fun _ => ?_)
        clear hK K
        try simp only [Act.put, List.setIfInBounds_toArray, List.set_cons_zero, List.set_cons_succ]
        refine wpAnyH_ready (rs := [3]) (by kernel_rfl) (by simp) ?_
        refine AllReadyH.cons (by simp only [List.getElem?_toArray, List.getElem?_cons_zero, List.getElem?_cons_succ]; rfl) (fun K hK => ?_) AllReadyH.nil
        go_simp
        refine (E2.out _ HBc.out).mono ?_
        rintro e V36 ⟨sy, rfl, ho, hb⟩
        have HSy := Lib.hid (ho.base_le (B := X0.heap.size) HBc.out.size)
        have HSx := Lib.hid (HSx.out.below hb)
        have HZ7 := Lib.hid (heap_below HZ7.out hb)
        have HZ8 := Lib.hid (heap_below HZ8.out hb)
        have HBc := Lib.hid (ext_trans HBc.out hb)
        have HELD := Lib.hid (HELDB.out V36 HBc.out)
        clear ho hb
        refine hK.out _ _ HELD.out (fun _ => ?_)
        clear hK K
        try simp only [Act.put, List.setIfInBounds_toArray, List.set_cons_zero, List.set_cons_succ]
        refine wpAnyH_ready (rs := [6]) (by kernel_rfl) (by simp) ?_
        refine AllReadyH.cons (by simp only [List.getElem?_toArray, List.getElem?_cons_zero, List.getElem?_cons_succ]; rfl) (fun K hK => ?_) AllReadyH.nil
        have HTW := Lib.hid (Two.of (b := X0) (z := z) (bad := bad) HZ7.out rfl HZ8.out rfl HSx.out HSy.out HBc.out HG7.out HG8.out)
        have hne7 : Y0.heap.size ≠ V30.heap.size := fun e => by have h7 := HZ7.out; rw [e, HZ8.out] at h7; cases h7
        have hh7 := HZ7.out
        have z0 := cell_of_block hh7 0
        have y0 := unfrozen_of_block hh7 0
        have z1 := cell_of_block hh7 1
        have y1 := unfrozen_of_block hh7 1
        have z2 := cell_of_block hh7 2
        have y2 := unfrozen_of_block hh7 2
        have z3 := cell_of_block hh7 3
        have y3 := unfrozen_of_block hh7 3
        have z4 := cell_of_block hh7 4
        have y4 := unfrozen_of_block hh7 4
        have z5 := cell_of_block hh7 5
        have y5 := unfrozen_of_block hh7 5
        clear hh7
        go_simp
        clear z0 y0 z1 y1 z2 y2 z3 y3 z4 y4 z5 y5
        have o7 := fun D hD => set6_other (X := V36) (Y0.heap.size) D hD (.int .i64 z) (.slice sx.a1 sx.n1 sx.c1) (.slice sx.a2 sx.n2 sx.c2) (.slice sx.a3 sx.n3 sx.c3) (.slice sx.a4 sx.n4 sx.c4) (.slice sx.a5 sx.n5 sx.c5)
        have HZ8 := Lib.hid ((o7 (V30.heap.size) (fun e => hne7 e.symm)).trans HZ8.out)
        have hb6 := set6 (u0 := .int .i64 z) (u1 := .slice sx.a1 sx.n1 sx.c1) (u2 := .slice sx.a2 sx.n2 sx.c2) (u3 := .slice sx.a3 sx.n3 sx.c3) (u4 := .slice sx.a4 sx.n4 sx.c4) (u5 := .slice sx.a5 sx.n5 sx.c5) (Y0.heap.size) HG7.out HBc.out
        have HELD := Lib.hid (HELDB.out _ hb6)
        clear o7 hne7
        generalize hV6 : World.setCell (World.setCell (World.setCell (World.setCell (World.setCell (World.setCell V36 _ _) _ _) _ _) _ _) _ _) _ _ = V6 at HELD HZ8 HTW hb6 ⊢
        clear hV6
        refine hK.out _ _ HELD.out (fun _ => ?_)
        clear hK K
        try simp only [Act.put, List.setIfInBounds_toArray, List.set_cons_zero, List.set_cons_succ]
        refine wpAnyH_ready (rs := [7]) (by kernel_rfl) (by simp) ?_
        refine AllReadyH.cons (by simp only [List.getElem?_toArray, List.getElem?_cons_zero, List.getElem?_cons_succ]; rfl) (fun K hK => ?_) AllReadyH.nil
        have hh8 := HZ8.out
        have z0 := cell_of_block hh8 0
        have y0 := unfrozen_of_block hh8 0
        have z1 := cell_of_block hh8 1
        have y1 := unfrozen_of_block hh8 1
        have z2 := cell_of_block hh8 2
        have y2 := unfrozen_of_block hh8 2
        clear hh8
        go_simp
        clear z0 y0 z1 y1 z2 y2
        have HELD := Lib.hid (HELDB.out _ (set3_t (u0 := .int .i64 bad) (u1 := .slice sy.a1 sy.n1 sy.c1) (u2 := .slice sy.a2 sy.n2 sy.c2) (V30.heap.size) HG8.out hb6))
        clear hb6
        refine hK.out _ _ HELD.out (fun _ => ?_)
        clear hK K
        try simp only [Act.put, List.setIfInBounds_toArray, List.set_cons_zero, List.set_cons_succ]
        refine wpAnyH_done (by kernel_rfl) ?_ _
        refine NoPanic.normal ?_
        exact hK _ _ _ _ _ _ _ _ _ HTW.out
    · go_simp
      generalize hV : World.alloc V29 _ = V39
      have hb : Below V29.heap.size V29 V39 := by subst hV; exact ext_alloc _ _
      have HZ8 : Hid (V39.heap[V29.heap.size]? = some (.cells #[.int .i64 0, .slice none 0 0, .slice none 0 0] 30 (0, 0))) := by show _ = _; subst hV; exact heap_new _ _ _ rfl
      have HG8 := Lib.hid HBc.out.size
      have HZ7 := Lib.hid (heap_below HZ7.out hb)
      have HBc := Lib.hid (ext_trans HBc.out hb)
      have HELD := Lib.hid (HELDB.out V39 HBc.out)
      clear hV hb
      refine hK.out _ _ HELD.out (fun _ => ?_)
      clear hK K
      try simp only [Act.put, List.setIfInBounds_toArray, List.set_cons_zero, List.set_cons_succ]
      refine wpAnyH_ready (rs := [1]) (by kernel_rfl) (by simp) ?_
      refine AllReadyH.cons (by simp only [List.getElem?_toArray, List.getElem?_cons_zero, List.getElem?_cons_succ]; rfl) (fun K hK => ?_) AllReadyH.nil
      go_simp
      refine (E1.out _ HBc.out).mono ?_
      rintro e V40 ⟨sx, rfl, ho, hb⟩
      have HSx := Lib.hid (ho.base_le (B := X0.heap.size) HBc.out.size)
      have HZ7 := Lib.hid (heap_below HZ7.out hb)
      have HZ8 := Lib.hid (heap_below HZ8.out hb)
      have HBc := Lib.hid (ext_trans HBc.out hb)
      have HELD := Lib.hid (HELDB.out V40 HBc.out)
      clear ho hb
      refine hK.out _ _ HELD.out (fun _ => ?_)
      clear hK K
      try simp only [Act.put, List.setIfInBounds_toArray, List.set_cons_zero, List.set_cons_succ]
      refine wpAnyH_ready (rs := [3]) (by kernel_rfl) (by simp) ?_
      refine AllReadyH.cons (by simp only [List.getElem?_toArray, List.getElem?_cons_zero, List.getElem?_cons_succ]; rfl) (fun K hK => ?_) AllReadyH.nil
      go_simp
      refine (E2.out _ HBc.out).mono ?_
      rintro e V41 ⟨sy, rfl, ho, hb⟩
      have HSy := Lib.hid (ho.base_le (B := X0.heap.size) HBc.out.size)
      have HSx := Lib.hid (HSx.out.below hb)
      have HZ7 := Lib.hid (heap_below HZ7.out hb)
      have HZ8 := Lib.hid (heap_below HZ8.out hb)
      have HBc := Lib.hid (ext_trans HBc.out hb)
      have HELD := Lib.hid (HELDB.out V41 HBc.out)
      clear ho hb
      refine hK.out _ _ HELD.out (fun _ => ?_)
      clear hK K
      try simp only [Act.put, List.setIfInBounds_toArray, List.set_cons_zero, List.set_cons_succ]
      refine wpAnyH_ready (rs := [6]) (by kernel_rfl) (by simp) ?_
      refine AllReadyH.cons (by simp only [List.getElem?_toArray, List.getElem?_cons_zero, List.getElem?_cons_succ]; rfl) (fun K hK => ?_) AllReadyH.nil
      have HTW := Lib.hid (Two.of (b := X0) (z := z) (bad := bad) HZ7.out rfl HZ8.out rfl HSx.out HSy.out HBc.out HG7.out HG8.out)
      have hne7 : Y0.heap.size ≠ V29.heap.size := fun e => by have h7 := HZ7.out; rw [e, HZ8.out] at h7; cases h7
      have hh7 := HZ7.out
      have z0 := cell_of_block hh7 0
      have y0 := unfrozen_of_block hh7 0
      have z1 := cell_of_block hh7 1
      have y1 := unfrozen_of_block hh7 1
      have z2 := cell_of_block hh7 2
      have y2 := unfrozen_of_block hh7 2
      have z3 := cell_of_block hh7 3
      have y3 := unfrozen_of_block hh7 3
      have z4 := cell_of_block hh7 4
      have y4 := unfrozen_of_block hh7 4
      have z5 := cell_of_block hh7 5
      have y5 := unfrozen_of_block hh7 5
      clear hh7
      go_simp
      clear z0 y0 z1 y1 z2 y2 z3 y3 z4 y4 z5 y5
      have o7 := fun D hD => set6_other (X := V41) (Y0.heap.size) D hD (.int .i64 z) (.slice sx.a1 sx.n1 sx.c1) (.slice sx.a2 sx.n2 sx.c2) (.slice sx.a3 sx.n3 sx.c3) (.slice sx.a4 sx.n4 sx.c4) (.slice sx.a5 sx.n5 sx.c5)
      have HZ8 := Lib.hid ((o7 (V29.heap.size) (fun e => hne7 e.symm)).trans HZ8.out)
      have hb6 := set6 (u0 := .int .i64 z) (u1 := .slice sx.a1 sx.n1 sx.c1) (u2 := .slice sx.a2 sx.n2 sx.c2) (u3 := .slice sx.a3 sx.n3 sx.c3) (u4 := .slice sx.a4 sx.n4 sx.c4) (u5 := .slice sx.a5 sx.n5 sx.c5) (Y0.heap.size) HG7.out HBc.out
      have HELD := Lib.hid (HELDB.out _ hb6)
      clear o7 hne7
      generalize hV6 : World.setCell (World.setCell (World.setCell (World.setCell (World.setCell (World.setCell V41 _ _) _ _) _ _) _ _) _ _) _ _ = V6 at HELD HZ8 HTW hb6 ⊢
      clear hV6
      refine hK.out _ _ HELD.out (fun _ => ?_)
      clear hK K
      try simp only [Act.put, List.setIfInBounds_toArray, List.set_cons_zero, List.set_cons_succ]
      refine wpAnyH_ready (rs := [7]) (by kernel_rfl) (by simp) ?_
      refine AllReadyH.cons (by simp only [List.getElem?_toArray, List.getElem?_cons_zero, List.getElem?_cons_succ]; rfl) (fun K hK => ?_) AllReadyH.nil
      have hh8 := HZ8.out
      have z0 := cell_of_block hh8 0
      have y0 := unfrozen_of_block hh8 0
      have z1 := cell_of_block hh8 1
      have y1 := unfrozen_of_block hh8 1
      have z2 := cell_of_block hh8 2
      have y2 := unfrozen_of_block hh8 2
      clear hh8
      go_simp
      clear z0 y0 z1 y1 z2 y2
      have HELD := Lib.hid (HELDB.out _ (set3_t (u0 := .int .i64 bad) (u1 := .slice sy.a1 sy.n1 sy.c1) (u2 := .slice sy.a2 sy.n2 sy.c2) (V29.heap.size) HG8.out hb6))
      clear hb6
      refine hK.out _ _ HELD.out (fun _ => ?_)
      clear hK K
      try simp only [Act.put, List.setIfInBounds_toArray, List.set_cons_zero, List.set_cons_succ]
      refine wpAnyH_done (by kernel_rfl) ?_ _
      refine NoPanic.normal ?_
      exact hK _ _ _ _ _ _ _ _ _ HTW.out
  · go_simp
    generalize hV : World.alloc Y0 _ = V44
    have hb : Below Y0.heap.size Y0 V44 := by subst hV; exact ext_alloc _ _
    have HZ8 : Hid (V44.heap[Y0.heap.size]? = some (.cells #[.int .i64 0, .slice none 0 0, .slice none 0 0] 30 (0, 0))) := by show _ = _; subst hV; exact heap_new _ _ _ rfl
    have HG8 := Lib.hid HBc.out.size
    have HBc := Lib.hid (ext_trans HBc.out hb)
    have HELD := Lib.hid (HELDB.out V44 HBc.out)
    clear hV hb
    refine hK.out _ _ HELD.out (fun _ => ?_)
    clear hK K
    try simp only [Act.put, List.setIfInBounds_toArray, List.set_cons_zero, List.set_cons_succ]
    refine wpAnyH_ready (rs := [1, 4]) (by kernel_rfl) (by simp) ?_
    refine AllReadyH.cons (by simp only [List.getElem?_toArray, List.getElem?_cons_zero, List.getElem?_cons_succ]; rfl) (fun K hK => ?_) (AllReadyH.cons (by simp only [List.getElem?_toArray, List.getElem?_cons_zero, List.getElem?_cons_succ]; rfl) (fun K hK => ?_) AllReadyH.nil)
    · go_simp
      refine (E1.out _ HBc.out).mono ?_
      rintro e V45 ⟨sx, rfl, ho, hb⟩
      have HSx := Lib.hid (ho.base_le (B := X0.heap.size) HBc.out.size)
      have HZ8 := Lib.hid (heap_below HZ8.out hb)
      have HBc := Lib.hid (ext_trans HBc.out hb)
      have HELD := Lib.hid (HELDB.out V45 HBc.out)
      clear ho hb
      refine hK.out _ _ HELD.out (fun _ => ?_)
      clear hK K
      try simp only [Act.put, List.setIfInBounds_toArray, List.set_cons_zero, List.set_cons_succ]
      refine wpAnyH_ready (rs := [3, 4]) (by kernel_rfl) (by simp) ?_
      refine AllReadyH.cons (by simp only [List.getElem?_toArray, List.getElem?_cons_zero, List.getElem?_cons_succ]; rfl) (fun K hK => ?_) (AllReadyH.cons (by simp only [List.getElem?_toArray, List.getElem?_cons_zero, List.getElem?_cons_succ]; rfl) (fun K hK => ?_) AllReadyH.nil)
      · go_simp
        refine (E2.out _ HBc.out).mono ?_
        rintro e V46 ⟨sy, rfl, ho, hb⟩
        have HSy := Lib.hid (ho.base_le (B := X0.heap.size) HBc.out.size)
        have HSx := Lib.hid (HSx.out.below hb)
        have HZ8 := Lib.hid (heap_below HZ8.out hb)
        have HBc := Lib.hid (ext_trans HBc.out hb)
        have HELD := Lib.hid (HELDB.out V46 HBc.out)
        clear ho hb
        refine hK.out _ _ HELD.out (fun _ => ?_)
        clear hK K
        try simp only [Act.put, List.setIfInBounds_toArray, List.set_cons_zero, List.set_cons_succ]
        refine wpAnyH_ready (rs := [4]) (by kernel_rfl) (by simp) ?_
        refine AllReadyH.cons (by simp only [List.getElem?_toArray, List.getElem?_cons_zero, List.getElem?_cons_succ]; rfl) (fun K hK => ?_) AllReadyH.nil
        go_simp
        generalize hV : World.alloc V46 _ = V47
        have hb : Below V46.heap.size V46 V47 := by subst hV; exact ext_alloc _ _
        have HZ7 : Hid (V47.heap[V46.heap.size]? = some (.cells #[.int .i64 0, .slice none 0 0, .slice none 0 0, .slice none 0 0, .slice none 0 0, .slice none 0 0] 26 (0, 0))) := by show _ = _; subst hV; exact heap_new _ _ _ rfl
        have HG7 := Lib.hid HBc.out.size
        have HZ8 := Lib.hid (heap_below HZ8.out hb)
        have HSx := Lib.hid (HSx.out.below hb)
        have HSy := Lib.hid (HSy.out.below hb)
        have HBc := Lib.hid (ext_trans HBc.out hb)
        have HELD := Lib.hid (HELDB.out V47 HBc.out)
        clear hV hb
        refine hK.out _ _ HELD.out (fun _ => ?_)
        clear hK K
        try simp only [Act.put, List.setIfInBounds_toArray, List.set_cons_zero, List.set_cons_succ]
        refine wpAnyH_ready (rs := [6]) (by kernel_rfl) (by simp) ?_
        refine AllReadyH.cons (by simp only [List.getElem?_toArray, List.getElem?_cons_zero, List.getElem?_cons_succ]; rfl) (fun K hK => ?_) AllReadyH.nil
        have HTW := Lib.hid (Two.of (b := X0) (z := z) (bad := bad) HZ7.out rfl HZ8.out rfl HSx.out HSy.out HBc.out HG7.out HG8.out)
        have hne7 : V46.heap.size ≠ Y0.heap.size := fun e => by have h7 := HZ7.out; rw [e, HZ8.out] at h7; cases h7
        have hh7 := HZ7.out
        have z0 := cell_of_block hh7 0
        have y0 := unfrozen_of_block hh7 0
        have z1 := cell_of_block hh7 1
        have y1 := unfrozen_of_block hh7 1
        have z2 := cell_of_block hh7 2
        have y2 := unfrozen_of_block hh7 2
        have z3 := cell_of_block hh7 3
        have y3 := unfrozen_of_block hh7 3
        have z4 := cell_of_block hh7 4
        have y4 := unfrozen_of_block hh7 4
        have z5 := cell_of_block hh7 5
        have y5 := unfrozen_of_block hh7 5
        clear hh7
        go_simp
        clear z0 y0 z1 y1 z2 y2 z3 y3 z4 y4 z5 y5
        have o7 := fun D hD => set6_other (X := V47) (V46.heap.size) D hD (.int .i64 z) (.slice sx.a1 sx.n1 sx.c1) (.slice sx.a2 sx.n2 sx.c2) (.slice sx.a3 sx.n3 sx.c3) (.slice sx.a4 sx.n4 sx.c4) (.slice sx.a5 sx.n5 sx.c5)
        have HZ8 := Lib.hid ((o7 (Y0.heap.size) (fun e => hne7 e.symm)).trans HZ8.out)
        have hb6 := set6 (u0 := .int .i64 z) (u1 := .slice sx.a1 sx.n1 sx.c1) (u2 := .slice sx.a2 sx.n2 sx.c2) (u3 := .slice sx.a3 sx.n3 sx.c3) (u4 := .slice sx.a4 sx.n4 sx.c4) (u5 := .slice sx.a5 sx.n5 sx.c5) (V46.heap.size) HG7.out HBc.out
        have HELD := Lib.hid (HELDB.out _ hb6)
        clear o7 hne7
        generalize hV6 : World.setCell (World.setCell (World.setCell (World.setCell (World.setCell (World.setCell V47 _ _) _ _) _ _) _ _) _ _) _ _ = V6 at HELD HZ8 HTW hb6 ⊢
        clear hV6
        refine hK.out _ _ HELD.out (fun _ => ?_)
        clear hK K
        try simp only [Act.put, List.setIfInBounds_toArray, List.set_cons_zero, List.set_cons_succ]
        refine wpAnyH_ready (rs := [7]) (by kernel_rfl) (by simp) ?_
        refine AllReadyH.cons (by simp only [List.getElem?_toArray, List.getElem?_cons_zero, List.getElem?_cons_succ]; rfl) (fun K hK => ?_) AllReadyH.nil
        have hh8 := HZ8.out
        have z0 := cell_of_block hh8 0
        have y0 := unfrozen_of_block hh8 0
        have z1 := cell_of_block hh8 1
        have y1 := unfrozen_of_block hh8 1
        have z2 := cell_of_block hh8 2
        have y2 := unfrozen_of_block hh8 2
        clear hh8
        go_simp
        clear z0 y0 z1 y1 z2 y2
        have HELD := Lib.hid (HELDB.out _ (set3_t (u0 := .int .i64 bad) (u1 := .slice sy.a1 sy.n1 sy.c1) (u2 := .slice sy.a2 sy.n2 sy.c2) (Y0.heap.size) HG8.out hb6))
        clear hb6
        refine hK.out _ _ HELD.out (fun _ => ?_)
        clear hK K
        try simp only [Act.put, List.setIfInBounds_toArray, List.set_cons_zero, List.set_cons_succ]
        refine wpAnyH_done (by kernel_rfl) ?_ _
        refine NoPanic.normal ?_
        exact hK _ _ _ _ _ _ _ _ _ HTW.out
      · go_simp
        generalize hV : World.alloc V45 _ = V50
        have hb : Below V45.heap.size V45 V50 := by subst hV; exact ext_alloc _ _
        have HZ7 : Hid (V50.heap[V45.heap.size]? = some (.cells #[.int .i64 0, .slice none 0 0, .slice none 0 0, .slice none 0 0, .slice none 0 0, .slice none 0 0] 26 (0, 0))) := by show _ = _; subst hV; exact heap_new _ _ _ rfl
        have HG7 := Lib.hid HBc.out.size
        have HZ8 := Lib.hid (heap_below HZ8.out hb)
        have HSx := Lib.hid (HSx.out.below hb)
        have HBc := Lib.hid (ext_trans HBc.out hb)
        have HELD := Lib.hid (HELDB.out V50 HBc.out)
        clear hV hb
        refine hK.out _ _ HELD.out (fun _ => ?_)
        clear hK K
        try simp only [Act.put, List.setIfInBounds_toArray, List.set_cons_zero, List.set_cons_succ]
        refine wpAnyH_ready (rs := [3]) (by kernel_rfl) (by simp) ?_
        refine AllReadyH.cons (by simp only [List.getElem?_toArray, List.getElem?_cons_zero, List.getElem?_cons_succ]; rfl) (fun K hK => ?_) AllReadyH.nil
        go_simp
        refine (E2.out _ HBc.out).mono ?_
        rintro e V51 ⟨sy, rfl, ho, hb⟩
        have HSy := Lib.hid (ho.base_le (B := X0.heap.size) HBc.out.size)
        have HSx := Lib.hid (HSx.out.below hb)
        have HZ7 := Lib.hid (heap_below HZ7.out hb)
        have HZ8 := Lib.hid (heap_below HZ8.out hb)
        have HBc := Lib.hid (ext_trans HBc.out hb)
        have HELD := Lib.hid (HELDB.out V51 HBc.out)
        clear ho hb
        refine hK.out _ _ HELD.out (fun _ => ?_)
        clear hK K
        try simp only [Act.put, List.setIfInBounds_toArray, List.set_cons_zero, List.set_cons_succ]
        refine wpAnyH_ready (rs := [6]) (by kernel_rfl) (by simp) ?_
        refine AllReadyH.cons (by simp only [List.getElem?_toArray, List.getElem?_cons_zero, List.getElem?_cons_succ]; rfl) (fun K hK => ?_) AllReadyH.nil
        have HTW := Lib.hid (Two.of (b := X0) (z := z) (bad := bad) HZ7.out rfl HZ8.out rfl HSx.out HSy.out HBc.out HG7.out HG8.out)
        have hne7 : V45.heap.size ≠ Y0.heap.size := fun e => by have h7 := HZ7.out; rw [e, HZ8.out] at h7; cases h7
        have hh7 := HZ7.out
        have z0 := cell_of_block hh7 0
        have y0 := unfrozen_of_block hh7 0
        have z1 := cell_of_block hh7 1
        have y1 := unfrozen_of_block hh7 1
        have z2 := cell_of_block hh7 2
        have y2 := unfrozen_of_block hh7 2
        have z3 := cell_of_block hh7 3
        have y3 := unfrozen_of_block hh7 3
        have z4 := cell_of_block hh7 4
        have y4 := unfrozen_of_block hh7 4
        have z5 := cell_of_block hh7 5
        have y5 := unfrozen_of_block hh7 5
        clear hh7
        go_simp
        clear z0 y0 z1 y1 z2 y2 z3 y3 z4 y4 z5 y5
        have o7 := fun D hD => set6_other (X := V51) (V45.heap.size) D hD (.int .i64 z) (.slice sx.a1 sx.n1 sx.c1) (.slice sx.a2 sx.n2 sx.c2) (.slice sx.a3 sx.n3 sx.c3) (.slice sx.a4 sx.n4 sx.c4) (.slice sx.a5 sx.n5 sx.c5)
        have HZ8 := Lib.hid ((o7 (Y0.heap.size) (fun e => hne7 e.symm)).trans HZ8.out)
        have hb6 := set6 (u0 := .int .i64 z) (u1 := .slice sx.a1 sx.n1 sx.c1) (u2 := .slice sx.a2 sx.n2 sx.c2) (u3 := .slice sx.a3 sx.n3 sx.c3) (u4 := .slice sx.a4 sx.n4 sx.c4) (u5 := .slice sx.a5 sx.n5 sx.c5) (V45.heap.size) HG7.out HBc.out
        have HELD := Lib.hid (HELDB.out _ hb6)
        clear o7 hne7
        generalize hV6 : World.setCell (World.setCell (World.setCell (World.setCell (World.setCell (World.setCell V51 _ _) _ _) _ _) _ _) _ _) _ _ = V6 at HELD HZ8 HTW hb6 ⊢
        clear hV6
        refine hK.out _ _ HELD.out (fun _ => ?_)
        clear hK K
        try simp only [Act.put, List.setIfInBounds_toArray, List.set_cons_zero, List.set_cons_succ]
        refine wpAnyH_ready (rs := [7]) (by kernel_rfl) (by simp) ?_
        refine AllReadyH.cons (by simp only [List.getElem?_toArray, List.getElem?_cons_zero, List.getElem?_cons_succ]; rfl) (fun K hK => ?_) AllReadyH.nil
        have hh8 := HZ8.out
        have z0 := cell_of_block hh8 0
        have y0 := unfrozen_of_block hh8 0
        have z1 := cell_of_block hh8 1
        have y1 := unfrozen_of_block hh8 1
        have z2 := cell_of_block hh8 2
        have y2 := unfrozen_of_block hh8 2
        clear hh8
        go_simp
        clear z0 y0 z1 y1 z2 y2
        have HELD := Lib.hid (HELDB.out _ (set3_t (u0 := .int .i64 bad) (u1 := .slice sy.a1 sy.n1 sy.c1) (u2 := .slice sy.a2 sy.n2 sy.c2) (Y0.heap.size) HG8.out hb6))
        clear hb6
        refine hK.out _ _ HELD.out (fun _ => ?_)
        clear hK K
        try simp only [Act.put, List.setIfInBounds_toArray, List.set_cons_zero, List.set_cons_succ]
        refine wpAnyH_done (by kernel_rfl) ?_ _
        refine NoPanic.normal ?_
        exact hK _ _ _ _ _ _ _ _ _ HTW.out
    · go_simp
      generalize hV : World.alloc V44 _ = V54
      have hb : Below V44.heap.size V44 V54 := by subst hV; exact ext_alloc _ _
      have HZ7 : Hid (V54.heap[V44.heap.size]? = some (.cells #[.int .i64 0, .slice none 0 0, .slice none 0 0, .slice none 0 0, .slice none 0 0, .slice none 0 0] 26 (0, 0))) := by show _ = _; subst hV; exact heap_new _ _ _ rfl
      have HG7 := Lib.hid HBc.out.size
      have HZ8 := Lib.hid (heap_below HZ8.out hb)
      have HBc := Lib.hid (ext_trans HBc.out hb)
      have HELD := Lib.hid (HELDB.out V54 HBc.out)
      clear hV hb
      refine hK.out _ _ HELD.out (fun _ => ?_)
      clear hK K
      try simp only [Act.put, List.setIfInBounds_toArray, List.set_cons_zero, List.set_cons_succ]
      refine wpAnyH_ready (rs := [1]) (by kernel_rfl) (by simp) ?_
      refine AllReadyH.cons (by simp only [List.getElem?_toArray, List.getElem?_cons_zero, List.getElem?_cons_succ]; rfl) (fun K hK => ?_) AllReadyH.nil
      go_simp
      refine (E1.out _ HBc.out).mono ?_
      rintro e V55 ⟨sx, rfl, ho, hb⟩
      have HSx := Lib.hid (ho.base_le (B := X0.heap.size) HBc.out.size)
      have HZ7 := Lib.hid (heap_below HZ7.out hb)
      have HZ8 := Lib.hid (heap_below HZ8.out hb)
      have HBc := Lib.hid (ext_trans HBc.out hb)
      have HELD := Lib.hid (HELDB.out V55 HBc.out)
      clear ho hb
      refine hK.out _ _ HELD.out (fun _ => ?_)
      clear hK K
      try simp only [Act.put, List.setIfInBounds_toArray, List.set_cons_zero, List.set_cons_succ]
      refine wpAnyH_ready (rs := [3]) (by kernel_rfl) (by simp) ?_
      refine AllReadyH.cons (by simp only [List.getElem?_toArray, List.getElem?_cons_zero, List.getElem?_cons_succ]; rfl) (fun K hK => ?_) AllReadyH.nil
      go_simp
      refine (E2.out _ HBc.out).mono ?_
      rintro e V56 ⟨sy, rfl, ho, hb⟩
      have HSy := Lib.hid (ho.base_le (B := X0.heap.size) HBc.out.size)
      have HSx := Lib.hid (HSx.out.below hb)
      have HZ7 := Lib.hid (heap_below HZ7.out hb)
      have HZ8 := Lib.hid (heap_below HZ8.out hb)
      have HBc := Lib.hid (ext_trans HBc.out hb)
      have HELD := Lib.hid (HELDB.out V56 HBc.out)
      clear ho hb
      refine hK.out _ _ HELD.out (fun _ => ?_)
      clear hK K
      try simp only [Act.put, List.setIfInBounds_toArray, List.set_cons_zero, List.set_cons_succ]
      refine wpAnyH_ready (rs := [6]) (by kernel_rfl) (by simp) ?_
      refine AllReadyH.cons (by simp only [List.getElem?_toArray, List.getElem?_cons_zero, List.getElem?_cons_succ]; rfl) (fun K hK => ?_) AllReadyH.nil
      have HTW := Lib.hid (Two.of (b := X0) (z := z) (bad := bad) HZ7.out rfl HZ8.out rfl HSx.out HSy.out HBc.out HG7.out HG8.out)
      have hne7 : V44.heap.size ≠ Y0.heap.size := fun e => by have h7 := HZ7.out; rw [e, HZ8.out] at h7; cases h7
      have hh7 := HZ7.out
      have z0 := cell_of_block hh7 0
      have y0 := unfrozen_of_block hh7 0
      have z1 := cell_of_block hh7 1
      have y1 := unfrozen_of_block hh7 1
      have z2 := cell_of_block hh7 2
      have y2 := unfrozen_of_block hh7 2
      have z3 := cell_of_block hh7 3
      have y3 := unfrozen_of_block hh7 3
      have z4 := cell_of_block hh7 4
      have y4 := unfrozen_of_block hh7 4
      have z5 := cell_of_block hh7 5
      have y5 := unfrozen_of_block hh7 5
      clear hh7
      go_simp
      clear z0 y0 z1 y1 z2 y2 z3 y3 z4 y4 z5 y5
      have o7 := fun D hD => set6_other (X := V56) (V44.heap.size) D hD (.int .i64 z) (.slice sx.a1 sx.n1 sx.c1) (.slice sx.a2 sx.n2 sx.c2) (.slice sx.a3 sx.n3 sx.c3) (.slice sx.a4 sx.n4 sx.c4) (.slice sx.a5 sx.n5 sx.c5)
      have HZ8 := Lib.hid ((o7 (Y0.heap.size) (fun e => hne7 e.symm)).trans HZ8.out)
      have hb6 := set6 (u0 := .int .i64 z) (u1 := .slice sx.a1 sx.n1 sx.c1) (u2 := .slice sx.a2 sx.n2 sx.c2) (u3 := .slice sx.a3 sx.n3 sx.c3) (u4 := .slice sx.a4 sx.n4 sx.c4) (u5 := .slice sx.a5 sx.n5 sx.c5) (V44.heap.size) HG7.out HBc.out
      have HELD := Lib.hid (HELDB.out _ hb6)
      clear o7 hne7
      generalize hV6 : World.setCell (World.setCell (World.setCell (World.setCell (World.setCell (World.setCell V56 _ _) _ _) _ _) _ _) _ _) _ _ = V6 at HELD HZ8 HTW hb6 ⊢
      clear hV6
      refine hK.out _ _ HELD.out (fun _ => ?_)
      clear hK K
      try simp only [Act.put, List.setIfInBounds_toArray, List.set_cons_zero, List.set_cons_succ]
      refine wpAnyH_ready (rs := [7]) (by kernel_rfl) (by simp) ?_
      refine AllReadyH.cons (by simp only [List.getElem?_toArray, List.getElem?_cons_zero, List.getElem?_cons_succ]; rfl) (fun K hK => ?_) AllReadyH.nil
      have hh8 := HZ8.out
      have z0 := cell_of_block hh8 0
      have y0 := unfrozen_of_block hh8 0
      have z1 := cell_of_block hh8 1
      have y1 := unfrozen_of_block hh8 1
      have z2 := cell_of_block hh8 2
      have y2 := unfrozen_of_block hh8 2
      clear hh8
      go_simp
      clear z0 y0 z1 y1 z2 y2
      have HELD := Lib.hid (HELDB.out _ (set3_t (u0 := .int .i64 bad) (u1 := .slice sy.a1 sy.n1 sy.c1) (u2 := .slice sy.a2 sy.n2 sy.c2) (Y0.heap.size) HG8.out hb6))
      clear hb6
      refine hK.out _ _ HELD.out (fun _ => ?_)
      clear hK K
      try simp only [Act.put, List.setIfInBounds_toArray, List.set_cons_zero, List.set_cons_succ]
      refine wpAnyH_done (by kernel_rfl) ?_ _
      refine NoPanic.normal ?_
      exact hK _ _ _ _ _ _ _ _ _ HTW.out
end Go.Proofs.Ytkbdebdhebphpaa
