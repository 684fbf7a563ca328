/- The law NormOf, by its walk. -/
import Derived.Test.YtkbdebdhebphpaaNRefPure
import Derived.Test.YtkbdebdhebphpaaNRegion
import Derived.Test.YtkbdebdhebphpaaNRefMay
import Derived.Test.YtkbdebdhebphpaaNSameC
import Derived.Test.YtkbdebdhebphpaaNLives
import Derived.Test.YtkbdebdhebphpaaNWrap
/- The end of the reference's Of: what its circuit is, and how its variable is filled. -/
namespace Go.Proofs.Ytkbdebdhebphpaa
open Go Go.RowKit Go.Joins

def latN (t : List Nat) (l : Tri) : Nat × Nat := (numL t l.2.1, if l.2.2 < 2 then l.2.2 else 2)
def refC (r : RawC) (done : List Tri) (num : List Nat) : NormC := ⟨r.ins.length, r.lats.map (latN num), done.map (pairN num), r.outs.map (numL num), r.bads.map (numL num), r.cons.map (numL num)⟩
theorem may_reset {r : RawC} (hm : mayRaw r = true) {l : Tri} (hl : l ∈ r.lats) : l.2.2 ≤ 1 ∨ l.2.2 = l.1 := by
  unfold mayRaw at hm
  simp only [Bool.and_eq_true, Bool.not_eq_true', Bool.or_eq_false_iff, List.any_eq_false] at hm
  have h := hm.2.2.2.2.2.1 l hl
  simp only [badLatch, Bool.or_eq_true, not_or, Bool.not_eq_true', Bool.not_eq_true] at h
  have hr : mayReset l = true := by simpa using h.2
  unfold mayReset at hr
  simpa using hr
theorem renum_ref {r : RawC} {d : List Bool} {done : List Tri} {num : List Nat} (hc : Ctx r d) (hm : mayRaw r = true) (h : Srch r done num) (hin : inOrderS r.gates = done) :
    renumS { r with gates := inOrderS r.gates } = refC r done num := by
  have ht : toS { r with gates := inOrderS r.gates } = num.map (2 * ·) := by
    rw [toS_num, hin, h.tab]
    rfl
  have hn : nowS (num.map (2 * ·)) = numL num := funext (now_num num)
  unfold renumS refC
  rw [ht, hn, hin]
  congr 1
  · refine List.map_congr_left fun l hl => ?_
    unfold latS3 latN
    rw [hn]
    congr 1
    have h1 := may_reset hm hl
    have h2 := hc.nz l.1 (by unfold ownsL; simp only [List.mem_append, List.mem_map]; exact Or.inr (Or.inl ⟨l, hl, rfl⟩))
    unfold resetS
    by_cases e : l.2.2 = l.1
    · rw [if_pos e, if_neg (by omega)]
    · rw [if_neg e, if_pos (by omega)]
      omega
  · refine List.map_congr_left fun g _ => ?_
    unfold gateS3 pairN
    rw [hn]

/-- What the circuit's variable holds at the end: rows that read so. -/
structure FillR (base C : Nat) (n1 : Nat) (v1 v2 v3 v4 v5 : Value) (ls gs : List (Nat × Nat)) (o3 o4 o5 : List Nat) (w : World) : Prop where
  var : w.heap[C]? = some (.cells #[.int .i64 n1, v1, v2, v3, v4, v5] 26 (0, 0))
  f1 : own2 nv8 61 w base v1 ls
  f2 : own2 nv32 56 w base v2 gs
  f3 : w.ownsRow base 33 1 v3 o3.length (o3.map nv32)
  f4 : w.ownsRow base 33 1 v4 o4.length (o4.map nv32)
  f5 : w.ownsRow base 33 1 v5 o5.length (o5.map nv32)
theorem Fill.toR {base C n1 : Nat} {v1 v2 : Value} {ls gs : List (Nat × Nat)} {w : World} (h : Fill base C n1 v1 v2 (.slice none 0 0) (.slice none 0 0) (.slice none 0 0) ls gs [] [] [] w) : FillR base C n1 v1 v2 (.slice none 0 0) (.slice none 0 0) (.slice none 0 0) ls gs [] [] [] w :=
  ⟨h.var, h.f1, h.f2, ownsN_nil _ _ _ _, ownsN_nil _ _ _ _, ownsN_nil _ _ _ _⟩
theorem FillR.below {base C n1 : Nat} {v1 v2 v3 v4 v5 : Value} {ls gs : List (Nat × Nat)} {o3 o4 o5 : List Nat} {w w' : World} (h : FillR base C n1 v1 v2 v3 v4 v5 ls gs o3 o4 o5 w) (hb : Below w.heap.size w w') : FillR base C n1 v1 v2 v3 v4 v5 ls gs o3 o4 o5 w' :=
  ⟨heap_below h.var hb, own2_below h.f1 hb, own2_below h.f2 hb, ownsN_below h.f3 hb, ownsN_below h.f4 hb, ownsN_below h.f5 hb⟩
section
variable {base C n1 : Nat} {v1 v2 v3 v4 v5 v' : Value} {ls gs : List (Nat × Nat)} {o3 o4 o5 o' : List Nat} {w : World}
theorem ownsN_set {w : World} {base k : Nat} {e : TypeId} {v : Value} {n : Nat} {xs : List Value} (h : w.ownsRow base e k v n xs) {D : Nat} {X : Array Value} {t : TypeId} {fr : Nat × Nat} (hD : w.heap[D]? = some (.cells X t fr)) (ht : t ≠ e) (f : Nat) (u : Value) : (w.setCell ⟨D, f, .none⟩ u).ownsRow base e k v n xs :=
  ownsN_other h fun j hj => Below.heap_setCell w ⟨D, f, .none⟩ u j (fun e' => (ownsN_notown h hD ht) (by rw [hj]; exact congrArg some e'))
theorem FillR.put3 (h : FillR base C n1 v1 v2 v3 v4 v5 ls gs o3 o4 o5 w) (hr : w.ownsRow base 33 1 v' o'.length (o'.map nv32)) : FillR base C n1 v1 v2 v' v4 v5 ls gs o' o4 o5 (w.setCell ⟨C, 3, .none⟩ v') :=
  ⟨by simpa using block_setCell h.var (i := 3) v', ownsN_set h.f1 h.var (by decide) _ _, ownsN_set h.f2 h.var (by decide) _ _, ownsN_set hr h.var (by decide) _ _, ownsN_set h.f4 h.var (by decide) _ _, ownsN_set h.f5 h.var (by decide) _ _⟩
theorem FillR.put4 (h : FillR base C n1 v1 v2 v3 v4 v5 ls gs o3 o4 o5 w) (hr : w.ownsRow base 33 1 v' o'.length (o'.map nv32)) : FillR base C n1 v1 v2 v3 v' v5 ls gs o3 o' o5 (w.setCell ⟨C, 4, .none⟩ v') :=
  ⟨by simpa using block_setCell h.var (i := 4) v', ownsN_set h.f1 h.var (by decide) _ _, ownsN_set h.f2 h.var (by decide) _ _, ownsN_set h.f3 h.var (by decide) _ _, ownsN_set hr h.var (by decide) _ _, ownsN_set h.f5 h.var (by decide) _ _⟩
theorem FillR.put5 (h : FillR base C n1 v1 v2 v3 v4 v5 ls gs o3 o4 o5 w) (hr : w.ownsRow base 33 1 v' o'.length (o'.map nv32)) : FillR base C n1 v1 v2 v3 v4 v' ls gs o3 o4 o' (w.setCell ⟨C, 5, .none⟩ v') :=
  ⟨by simpa using block_setCell h.var (i := 5) v', ownsN_set h.f1 h.var (by decide) _ _, ownsN_set h.f2 h.var (by decide) _ _, ownsN_set h.f3 h.var (by decide) _ _, ownsN_set h.f4 h.var (by decide) _ _, ownsN_set hr h.var (by decide) _ _⟩
end
theorem ownsN_sees1 {w : World} {base : Nat} {e : TypeId} {a : Option Addr} {n c m : Nat} {xs : List Value} (h : w.ownsRow base e 1 (.slice a n c) m xs) : n = m ∧ Sees w a n c xs := by
  obtain ⟨a', c', e, _, hs⟩ := Sees.owned h
  cases e
  exact ⟨rfl, hs⟩
theorem FillR.sees {base C n1 : Nat} {s : CSlots} {ls gs : List (Nat × Nat)} {o3 o4 o5 : List Nat} {w : World} (h : FillR base C n1 (.slice s.a1 s.n1 s.c1) (.slice s.a2 s.n2 s.c2) (.slice s.a3 s.n3 s.c3) (.slice s.a4 s.n4 s.c4) (.slice s.a5 s.n5 s.c5) ls gs o3 o4 o5 w)
    {G : Nat} (hG : G < base) {u0 u1 u2 u3 u4 u5 : Value} :
    SeesCir ((((((w.setCell ⟨G, 0, .none⟩ u0).setCell ⟨G, 1, .none⟩ u1).setCell ⟨G, 2, .none⟩ u2).setCell ⟨G, 3, .none⟩ u3).setCell ⟨G, 4, .none⟩ u4).setCell ⟨G, 5, .none⟩ u5) s ⟨n1, ls, gs, o3, o4, o5⟩ := by
  have key : ∀ {k : Nat} {e : TypeId} {v : Value} {n : Nat} {xs : List Value}, w.ownsRow base e k v n xs → ((((((w.setCell ⟨G, 0, .none⟩ u0).setCell ⟨G, 1, .none⟩ u1).setCell ⟨G, 2, .none⟩ u2).setCell ⟨G, 3, .none⟩ u3).setCell ⟨G, 4, .none⟩ u4).setCell ⟨G, 5, .none⟩ u5).ownsRow base e k v n xs := fun hr =>
    ownsN_other hr fun j hj => set6_other G j (by have := (hr.lt j hj).1; omega) _ _ _ _ _ _
  exact ⟨own2_sees_slice (key h.f1), own2_sees_slice (key h.f2), (ownsN_sees1 (key h.f3)).2, (ownsN_sees1 (key h.f4)).2, (ownsN_sees1 (key h.f5)).2⟩
end Go.Proofs.Ytkbdebdhebphpaa
/- The reference's Of appends a latch: its drawn region, over whatever frame. -/
namespace Go.Proofs.Ytkbdebdhebphpaa
open Go Go.RowKit Go.Joins

noncomputable def codeRefLat : Code := ((Try.f25.body.bind (findRegion 43)).getD .skip)
set_option maxRecDepth 100000 in
set_option maxHeartbeats 25600000 in
theorem reg_RefLat (C G EE mm k y base : Nat) (ny zr : Int) (va : Option Addr) (vc : Nat) (L : List Value) (X0 : World) {x0 x1 x2 x3 x4 : Value} {g0 g2 : Value}
    (hC : X0.heap[C]? = some (.cells #[x0, .slice va k vc, x1, x2, x3, x4] 26 (0, 0)))
    (hG : X0.heap[G]? = some (.cells #[g0, .int .u32 y, g2] 54 (0, 0)))
    (HNUM : Hid (∀ W, Below X0.heap.size X0 W → Calls Try.prog 66 #[.slice (some ⟨EE, 0, none⟩) mm mm, .int .u32 (y : Int)] W fun e w' => e = .returned (.int .u32 ny) ∧ W = w'))
    (HOWN : Hid (X0.ownsRow base 61 2 (.slice va k vc) k L)) (hbase : base ≤ X0.heap.size) (hq4 : k + 1 ≤ maxLen) (hq5 : (k + 1) * 8 ≤ 140737488355328)
    (QQ : Exit → Act → World → Prop) {v0 v1 v2 v3 v4 v5 v6 v8 v9 v11 v12 v13 v14 v15 v16 v19 v20 v21 v22 v23 v24 v25 v26 v27 v28 v29 v30 v31 v32 v33 v34 v35 v36 v37 v38 v39 v40 v41 v42 v43 v44 v45 v46 v47 v48 v49 v50 v51 v52 v53 v54 v55 v56 v57 v58 v59 v60 v61 v62 v63 v64 v65 v66 v67 v68 v69 v70 v71 v72 v73 v74 v75 v76 v77 v78 v79 v80 v81 v82 v83 v84 v85 v86 v87 v88 v89 v90 v91 v92 v93 v94 v95 v96 v97 v98 v99 v100 v101 v102 v103 v104 v105 v106 v107 v108 v109 v110 v111 v112 v113 v114 v115 v116 v117 v118 v119 v120 v121 v122 v123 v124 v125 v126 v127 v128 v129 v130 v131 v132 v133 v134 v135 v136 v137 v138 v139 v140 v141 v142 v143 v144 v145 v146 v147 v148 v149 v150 v151 v152 v153 v154 v155 v156 v157 v158 v159 v160 v161 v162 v163 v164 v165 v166 v167 v168 v169 v170 v171 v172 v173 v174 v175 v176 v177 v178 v179 v180 v181 v182 v183 v184 v185 v186 v187 v188 v189 v190 v191 v192 v193 v194 v195 v196 v197 v198 v199 v200 v201 v202 v203 v204 v205 v206 v207 v208 v209 v210 v211 v212 v213 v214 v215 : Value}
    (hK : ∀ (a' : Option Addr) (c' : Nat) (s2 w2 : World) (u189 u190 u191 u192 u193 u194 u195 u196 u197 u198 u199 : Value), Below X0.heap.size X0 s2 → s2.grownBy w2 (Value.slice va k vc).ownBlock → w2.ownsRow base 61 2 (.slice a' (k + 1) c') (k + 1) (L ++ [.int .u32 ny, .int .u8 zr]) → QQ .normal ⟨#[v0, v1, v2, v3, v4, v5, v6, .slice (some ⟨EE, 0, none⟩) mm mm, v8, v9, .pointer (some ⟨C, 0, .none⟩), v11, v12, v13, v14, v15, v16, .pointer (some ⟨G, 0, .none⟩), 
      .int .u8 zr, v19, v20, v21, v22, v23, v24, v25, v26, v27, v28, v29, v30, v31, v32, v33, v34, v35, v36, v37, v38, v39, v40, v41, v42, v43, v44, v45, v46, 
      v47, v48, v49, v50, v51, v52, v53, v54, v55, v56, v57, v58, v59, v60, v61, v62, v63, v64, v65, v66, v67, v68, v69, v70, v71, v72, v73, v74, v75, v76, v77, 
      v78, v79, v80, v81, v82, v83, v84, v85, v86, v87, v88, v89, v90, v91, v92, v93, v94, v95, v96, v97, v98, v99, v100, v101, v102, v103, v104, v105, v106, 
      v107, v108, v109, v110, v111, v112, v113, v114, v115, v116, v117, v118, v119, v120, v121, v122, v123, v124, v125, v126, v127, v128, v129, v130, v131, v132, 
      v133, v134, v135, v136, v137, v138, v139, v140, v141, v142, v143, v144, v145, v146, v147, v148, v149, v150, v151, v152, v153, v154, v155, v156, v157, v158, 
      v159, v160, v161, v162, v163, v164, v165, v166, v167, v168, v169, v170, v171, v172, v173, v174, v175, v176, v177, v178, v179, v180, v181, v182, v183, v184, 
      v185, v186, v187, v188, u189, u190, u191, u192, u193, u194, u195, u196, u197, u198, u199, v200, v201, v202, v203, v204, v205, v206, v207, v208, v209, v210, 
      v211, v212, v213, v214, v215], []⟩ (w2.setCell ⟨C, 1, none⟩ (.slice a' (k + 1) c'))) :
    Code.wp Try.prog codeRefLat QQ ⟨#[v0, v1, v2, v3, v4, v5, v6, .slice (some ⟨EE, 0, none⟩) mm mm, v8, v9, .pointer (some ⟨C, 0, .none⟩), v11, v12, v13, v14, v15, v16, .pointer (some ⟨G, 0, .none⟩), 
      .int .u8 zr, v19, v20, v21, v22, v23, v24, v25, v26, v27, v28, v29, v30, v31, v32, v33, v34, v35, v36, v37, v38, v39, v40, v41, v42, v43, v44, v45, v46, 
      v47, v48, v49, v50, v51, v52, v53, v54, v55, v56, v57, v58, v59, v60, v61, v62, v63, v64, v65, v66, v67, v68, v69, v70, v71, v72, v73, v74, v75, v76, v77, 
      v78, v79, v80, v81, v82, v83, v84, v85, v86, v87, v88, v89, v90, v91, v92, v93, v94, v95, v96, v97, v98, v99, v100, v101, v102, v103, v104, v105, v106, 
      v107, v108, v109, v110, v111, v112, v113, v114, v115, v116, v117, v118, v119, v120, v121, v122, v123, v124, v125, v126, v127, v128, v129, v130, v131, v132, 
      v133, v134, v135, v136, v137, v138, v139, v140, v141, v142, v143, v144, v145, v146, v147, v148, v149, v150, v151, v152, v153, v154, v155, v156, v157, v158, 
      v159, v160, v161, v162, v163, v164, v165, v166, v167, v168, v169, v170, v171, v172, v173, v174, v175, v176, v177, v178, v179, v180, v181, v182, v183, v184, 
      v185, v186, v187, v188, v189, v190, v191, v192, v193, v194, v195, v196, v197, v198, v199, v200, v201, v202, v203, v204, v205, v206, v207, v208, v209, v210, 
      v211, v212, v213, v214, v215], []⟩ X0 := by
  obtain ⟨il, hil, hzl0, hzl1, hzl2⟩ := info_parts info_latch
  conv => arg 2; whnf
  refine wp_region_noPanic ?_
  refine wp_region_peelN 11 (by kernel_rfl) rfl (by simp only [List.getElem?_toArray, List.getElem?_cons_zero, List.getElem?_cons_succ]; rfl) (by kernel_rfl) ?_
  simp only [List.pop_toArray, List.dropLast_cons_cons, List.dropLast_singleton]
  refine wpAny_of_held (S := fun w' => w'.cell? ⟨C, 1, none⟩ = some (.slice va k vc) ∧ w'.cell? ⟨G, 1, none⟩ = some (.int .u32 y)) _ _ _ _ ?_
  generalize hY : X0.drew = Y0
  have hY0 : Below X0.heap.size X0 Y0 := by subst hY; exact (Below.refl _ _).drew
  have HELD : Hid (Y0.cell? ⟨C, 1, none⟩ = some (.slice va k vc) ∧ Y0.cell? ⟨G, 1, none⟩ = some (.int .u32 y)) := ⟨cell_of_block (heap_below hC hY0) 1, cell_of_block (heap_below hG hY0) 1⟩
  have HY0 := Lib.hid hY0
  clear hY hY0
  have HC := Lib.hid hC
  have HG := Lib.hid hG
  clear hC hG
  refine wpAnyH_take (i := 0) (v := ?_) (by simp only [List.getElem?_toArray, List.getElem?_cons_zero]; rfl) (by kernel_rfl) (by kernel_rfl) (by kernel_rfl) (fun _ _ _ h => h) (Or.inl ⟨by rfl, ?_⟩) HELD.out ?_
  rotate_left
  · intro w hSw
    (try dsimp only at hSw)
    obtain ⟨q0, q1⟩ := hSw
    go_simp
    try with_reducible rfl
  try simp only [Act.put, List.setIfInBounds_toArray, List.set_cons_zero, List.set_cons_succ]
  refine wpAnyH_take (i := 1) (v := ?_) (by simp only [List.getElem?_toArray, List.getElem?_cons_zero, List.getElem?_cons_succ]; rfl) (by kernel_rfl) (by kernel_rfl) (by kernel_rfl) (fun _ _ _ h => h) (Or.inl ⟨by rfl, ?_⟩) HELD.out ?_
  rotate_left
  · intro w hSw
    (try dsimp only at hSw)
    obtain ⟨q0, q1⟩ := hSw
    go_simp
    try with_reducible rfl
  try simp only [Act.put, List.setIfInBounds_toArray, List.set_cons_zero, List.set_cons_succ]
  refine wpAnyH_take (i := 2) (v := ?_) (by simp only [List.getElem?_toArray, List.getElem?_cons_zero, List.getElem?_cons_succ]; rfl) (by kernel_rfl) (by kernel_rfl) (by kernel_rfl) (fun _ _ _ h => h) (Or.inl ⟨by rfl, ?_⟩) HELD.out ?_
  rotate_left
  · intro w hSw
    (try dsimp only at hSw)
    obtain ⟨q0, q1⟩ := hSw
    go_simp
    try with_reducible rfl
  try simp only [Act.put, List.setIfInBounds_toArray, List.set_cons_zero, List.set_cons_succ]
  refine wpAnyH_take (i := 3) (v := ?_) (by simp only [List.getElem?_toArray, List.getElem?_cons_zero, List.getElem?_cons_succ]; rfl) (by kernel_rfl) (by kernel_rfl) (by kernel_rfl) (fun _ _ _ h => h) (Or.inl ⟨by rfl, ?_⟩) HELD.out ?_
  rotate_left
  · intro w hSw
    (try dsimp only at hSw)
    obtain ⟨q0, q1⟩ := hSw
    go_simp
    try with_reducible rfl
  try simp only [Act.put, List.setIfInBounds_toArray, List.set_cons_zero, List.set_cons_succ]
  refine wpAnyH_take (i := 4) (v := ?_) (by simp only [List.getElem?_toArray, List.getElem?_cons_zero, List.getElem?_cons_succ]; rfl) (by kernel_rfl) (by kernel_rfl) (by kernel_rfl) (fun _ _ _ h => h) (Or.inl ⟨by rfl, ?_⟩) HELD.out ?_
  rotate_left
  · intro w hSw
    (try dsimp only at hSw)
    obtain ⟨q0, q1⟩ := hSw
    go_simp
    try with_reducible rfl
  try simp only [Act.put, List.setIfInBounds_toArray, List.set_cons_zero, List.set_cons_succ]
  refine wpAnyH_take (i := 6) (v := ?_) (by simp only [List.getElem?_toArray, List.getElem?_cons_zero, List.getElem?_cons_succ]; rfl) (by kernel_rfl) (by kernel_rfl) (by kernel_rfl) (fun _ _ _ h => h) (Or.inl ⟨by rfl, ?_⟩) HELD.out ?_
  rotate_left
  · intro w hSw
    (try dsimp only at hSw)
    obtain ⟨q0, q1⟩ := hSw
    go_simp
    try with_reducible rfl
  try simp only [Act.put, List.setIfInBounds_toArray, List.set_cons_zero, List.set_cons_succ]
  refine wpAnyH_ready (rs := [5]) (by kernel_rfl) (by simp) ?_
  refine AllReadyH.cons (by simp only [List.getElem?_toArray, List.getElem?_cons_zero, List.getElem?_cons_succ]; rfl) (fun K hK => ?_) AllReadyH.nil
  go_simp
  refine (HNUM.out Y0 HY0.out).mono ?_
  rintro e w1 ⟨rfl, rfl⟩
  refine hK.out _ _ HELD.out (fun _ => ?_)
  clear hK K
  try simp only [Act.put, List.setIfInBounds_toArray, List.set_cons_zero, List.set_cons_succ]
  refine wpAnyH_take (i := 7) (v := ?_) (by simp only [List.getElem?_toArray, List.getElem?_cons_zero, List.getElem?_cons_succ]; rfl) (by kernel_rfl) (by kernel_rfl) (by kernel_rfl) (fun _ _ _ h => h) (Or.inl ⟨by rfl, ?_⟩) HELD.out ?_
  rotate_left
  · intro w hSw
    (try dsimp only at hSw)
    obtain ⟨q0, q1⟩ := hSw
    go_simp
    try with_reducible rfl
  try simp only [Act.put, List.setIfInBounds_toArray, List.set_cons_zero, List.set_cons_succ]
  refine wpAnyH_ready (rs := [8]) (by kernel_rfl) (by simp) ?_
  refine AllReadyH.cons (by simp only [List.getElem?_toArray, List.getElem?_cons_zero, List.getElem?_cons_succ]; rfl) (fun K hK => ?_) AllReadyH.nil
  go_simp
  generalize hS2 : World.alloc Y0 _ = s2
  have hbs : Below X0.heap.size X0 s2 := by subst hS2; exact HY0.out.alloc HY0.out.size _
  have hnews : ∀ j u, [Value.int .u32 ny, Value.int .u8 zr][j]? = some u → s2.cell? ((⟨Y0.heap.size, 0, none⟩ : Addr).add j) = some u := by
    subst hS2; exact World.news_of_block (heap_new Y0 (.cells #[.int .u32 ny, .int .u8 zr] 61) Y0.heap.size rfl)
  clear hS2
  have HO1 := Lib.hid (ownsN_below HOWN.out hbs)
  have HC1 := Lib.hid (heap_below HC.out hbs)
  have HG1 := Lib.hid (heap_below HG.out hbs)
  have HNEWS := Lib.hid hnews
  have HBB := Lib.hid hbs
  have hq6 : base ≤ s2.heap.size := Nat.le_trans hbase hbs.size
  have HELD : Hid (s2.cell? ⟨C, 1, none⟩ = some (.slice va k vc) ∧ s2.cell? ⟨G, 1, none⟩ = some (.int .u32 y)) := ⟨cell_of_block HC1.out 1, cell_of_block HG1.out 1⟩
  clear hbs hnews
  refine hK.out _ _ HELD.out (fun _ => ?_)
  clear hK K
  try simp only [Act.put, List.setIfInBounds_toArray, List.set_cons_zero, List.set_cons_succ]
  refine wpAnyH_ready (rs := [9]) (by kernel_rfl) (by simp) ?_
  refine AllReadyH.cons (by simp only [List.getElem?_toArray, List.getElem?_cons_zero, List.getElem?_cons_succ]; rfl) (fun K hK => ?_) AllReadyH.nil
  refine step_append_own_at rfl _ _ 22 rfl base 61 il (.agg #[.int .u32 0, .int .u8 0]) 2 8 Try.underlying22 hil hzl0 hzl1 hzl2 rfl (by omega) _ _ L rfl HO1.out _ 1 1 [.int .u32 ny, .int .u8 zr] rfl rfl HNEWS.out (by intro u hu; simp at hu; rcases hu with rfl | rfl <;> rfl) hq4 hq5 hq6 ?_
  intro v2 w2 r2 hg2
  obtain ⟨a2, c2', rfl⟩ := ownsN_form r2
  have hC2 := heap_grown HC1.out hg2 (ownsN_notown HO1.out HC1.out (by decide))
  have hg2' := heap_grown HG1.out hg2 (ownsN_notown HO1.out HG1.out (by decide))
  have hc2 : w2.cell? ⟨C, 1, none⟩ = some (.slice va k vc) := cell_of_block hC2 1
  have hf2 : w2.frozen? ⟨C, 1, none⟩ = false := unfrozen_of_block hC2 1
  have HELD : Hid (w2.cell? ⟨C, 1, none⟩ = some (.slice va k vc) ∧ w2.cell? ⟨G, 1, none⟩ = some (.int .u32 y)) := ⟨hc2, cell_of_block hg2' 1⟩
  have HG2 := Lib.hid hg2
  have R2 := Lib.hid r2
  clear hg2 r2 hC2 hg2'
  refine hK.out _ _ HELD.out (fun _ => ?_)
  clear hK K
  try simp only [Act.put, List.setIfInBounds_toArray, List.set_cons_zero, List.set_cons_succ]
  refine wpAnyH_take (i := 10) (v := ?_) (by simp only [List.getElem?_toArray, List.getElem?_cons_zero, List.getElem?_cons_succ]; rfl) (by kernel_rfl) (by kernel_rfl) (by kernel_rfl) (fun _ _ _ h => h) (Or.inl ⟨by rfl, ?_⟩) HELD.out ?_
  rotate_left
  · intro w hSw
    (try dsimp only at hSw)
    obtain ⟨q0, q1⟩ := hSw
    go_simp
    try with_reducible rfl
  try simp only [Act.put, List.setIfInBounds_toArray, List.set_cons_zero, List.set_cons_succ]
  refine wpAnyH_done (by kernel_rfl) ?_ _
  unfold LastQ wpOp
  simp only [List.getElem?_toArray, List.getElem?_cons_zero, List.getElem?_cons_succ]
  rw [if_pos (by rfl)]
  refine Or.inl ?_
  go_simp
  refine NoPanic.normal ?_
  exact hK _ _ _ _ _ _ _ _ _ _ _ _ _ _ _ HBB.out HG2.out R2.out

end Go.Proofs.Ytkbdebdhebphpaa
/- inquestref03.Of, by its contract. -/
namespace Go.Proofs.Ytkbdebdhebphpaa
open Go Go.RowKit Go.Joins

/-- The search for gates in memory: EE is the table's block, CC the circuit's. -/
structure RefI (r : RawC) (m n1 : Nat) (W5 : World) (base EE CC : Nat) (done : List Tri) (num : List Nat) (vg : Value) (w : World) : Prop where
  srch : Srch r done num
  len : num.length = m + 1
  tab : w.heap[EE]? = some (.cells (ncells num) 33 (0, 0))
  var : w.heap[CC]? = some (.cells #[.int .i64 n1, .slice none 0 0, vg, .slice none 0 0, .slice none 0 0, .slice none 0 0] 26 (0, 0))
  row : own2 nv32 56 w base vg (done.map (pairN num))
  bel : Below W5.heap.size W5 w
  low : base ≤ w.heap.size
theorem RefI.below {r : RawC} {m n1 : Nat} {W5 : World} {base EE CC : Nat} {done : List Tri} {num : List Nat} {vg : Value} {w w' : World} (h : RefI r m n1 W5 base EE CC done num vg w) (hb : Below w.heap.size w w') : RefI r m n1 W5 base EE CC done num vg w' :=
  ⟨h.srch, h.len, heap_below h.tab hb, heap_below h.var hb, own2_below h.row hb, h.bel.trans (hb.mono h.bel.size), Nat.le_trans h.low hb.size⟩
theorem RefI.step {r : RawC} {d : List Bool} {m n1 : Nat} {W5 : World} {base EE CC : Nat} {done : List Tri} {num : List Nat} {vg v' : Value} {w w2 : World} {i nx a b n : Nat} {L : List Value} (hc : Ctx r d) (h : RefI r m n1 W5 base EE CC done num vg w) (hEC : EE ≠ CC) (h5E : W5.heap.size ≤ EE) (h5C : W5.heap.size ≤ CC) (hbs : W5.heap.size ≤ base)
    (hg : w.grownBy w2 vg.ownBlock) (hr : w2.ownsRow base 56 2 v' n L) (hn : n = done.length + 1) (hL : L = prCs nv32 (done.map (pairN num)) ++ [nv32 a, nv32 b]) (hab : (a, b) = pairN num (gAt r.gates i))
    (hi : i < r.gates.length) (hno : ∀ j, j < i → readyB r.gates (done.map (fun g => g.1 / 2)) j = false) (hy : readyB r.gates (done.map (fun g => g.1 / 2)) i = true) (hnx : nx = 1 + (r.ins.length + r.lats.length + done.length)) (hcb : CC < base) (hEb : EE < base) :
    RefI r m n1 W5 base EE CC (done ++ [gAt r.gates i]) (num.set (varAt r.gates i) nx) v' ((w2.setCell ⟨CC, 2, .none⟩ v').setCell ⟨EE, varAt r.gates i, .none⟩ (.int .u32 ((nx : Nat) : Int))) := by
  obtain ⟨s1, s2, _⟩ := h.srch.step hc hi hno hy
  rw [← hnx] at s1 s2
  have hCn := ownsN_notown h.row h.var (by decide)
  have hEn := ownsN_notown h.row h.tab (by decide)
  have hC2 := heap_grown h.var hg hCn
  have hE2 := heap_grown h.tab hg hEn
  have hrow := own2_snoc nv32 _ (xs := done.map (pairN num)) hr (by rw [List.length_map]; exact hn) hL
  rw [hab, ← s2] at hrow
  have hlt := World.ownsRow.lt hrow
  have hlow := ownsN_low h.row hg h.low
  refine ⟨s1, by rw [List.length_set]; exact h.len, ?_, ?_, ?_, ?_, ?_⟩
  · have h1 := block_setCell ((Below.heap_setCell w2 ⟨CC, 2, .none⟩ v' EE hEC).trans hE2) (i := varAt r.gates i) (.int .u32 ((nx : Nat) : Int))
    rw [ncells_set] at h1
    exact h1
  · rw [Below.heap_setCell _ ⟨EE, _, .none⟩ _ CC (fun e => hEC e.symm)]
    simpa using block_setCell hC2 (i := 2) v'
  · refine ownsN_other hrow fun k hk => ?_
    have hk' := (hlt k hk).1
    rw [Below.heap_setCell _ ⟨EE, _, .none⟩ _ k (show k ≠ EE by omega), Below.heap_setCell _ ⟨CC, _, .none⟩ _ k (show k ≠ CC by omega)]
  · exact ((h.bel.trans (hlow.mono hbs)).setCell h5C _).setCell h5E _
  · have := hlow.size; have := h.low; simpa using (show base ≤ w2.heap.size by omega)
def boolN : Value → Nat | .bool true => 1 | _ => 0

theorem sees_ncells {w : World} {D n : Nat} {t : List Nat} (h : w.heap[D]? = some (.cells (ncells t) 33 (0, 0))) (hn : t.length = n) : Sees w (some ⟨D, 0, none⟩) n n (t.map nv32) := by
  refine ⟨by simp [hn], Nat.le_refl _, (fun e => by cases e), fun _ => ⟨D, 0, rfl, heap_lt h, fun j hj => ?_⟩⟩
  rw [show 0 + j = j by omega, cell_of_block h j]
  simp [ncells]
/-- What the reference's Of answers. -/
def RefOfPost (r : RawC) (w : World) (e : Ending) (w' : World) : Prop :=
  Below w.heap.size w w' ∧ ((∃ c s, ofS r = .ok c ∧ e = .returned (.tuple #[cirV c.ins s, .int .i64 0]) ∧ SeesCir w' s c ∧ s.small) ∨
    (∃ er, ofS r = .error er ∧ er ≠ 0 ∧ e = .returned (.tuple #[zeroCir, .int .i64 er])))

set_option maxRecDepth 100000 in
set_option maxHeartbeats 6400000 in
theorem refof_any (r : RawC) (s : Slots) (w : World) (h : SeesRaw w s r) (hf : s.small) :
    Calls Try.prog 25 #[rawV r.max s] w (RefOfPost r w) := by
  obtain ⟨i0, hi, hz0, hz1, hz2⟩ := info_parts info_u32
  obtain ⟨ig, hig, hzg0, hzg1, hzg2⟩ := info_parts info_cgate
  have HMAY := Lib.hid (fun W hb => refmay_any r s W (h.below hb) hf)
  have HDEF := Lib.hid (fun W hb (l : Lits r) => defined_any r s W (h.below hb) hf (fun x hx => by have := l.owns x (by unfold ownsL; simp [hx]); have := l.max; omega))
  have HASK := Lib.hid (fun W hb (l : Lits r) => asked_any r s W (h.below hb) hf (fun x hx => by have := l.refs x (refs_asked hx); have := l.max; omega))
  obtain ⟨m, hmm⟩ : ∃ m, m = r.max := ⟨_, rfl⟩
  obtain ⟨O, hO⟩ : ∃ O, O = ownsL r := ⟨_, rfl⟩
  obtain ⟨N, hN⟩ : ∃ N, N = O.length := ⟨_, rfl⟩
  obtain ⟨a1, n1, c1, a2, n2, c2, a3, n3, c3, a4, n4, c4, a5, n5, c5, a6, n6, c6⟩ := s
  have L1 : Hid (r.ins.length = n1) := h.s1.lenMap
  have L2 : Hid (r.lats.length = n2) := h.s2.1
  have L6 : Hid (r.gates.length = n6) := h.s6.1
  have hNN : N = n1 + n2 + n6 := by rw [hN, hO]; unfold ownsL; simp only [List.length_append, List.length_map, L1.out, L2.out, L6.out]; omega
  rw [← hO, ← hN] at HDEF
  rw [← hmm] at HMAY HDEF HASK ⊢
  have HM := Lib.hid hmm
  have HO := Lib.hid hO
  have HN := Lib.hid hN
  have HNN := Lib.hid hNN
  have HS := Lib.hid h
  obtain ⟨hf1, hf2, hf3, hf4, hf5, hf6⟩ := hf
  simp only at hf1 hf2 hf3 hf4 hf5 hf6
  clear hmm h hO hN
  unfold rawV at *
  go_enter Try.func25, Try.ntmps25
  go_wp2_with fail
  generalize hW : World.alloc (World.alloc w _) _ = W1
  have B1 : Below w.heap.size w W1 := by subst hW; exact ext_trans (ext_alloc _ _) (ext_alloc _ _)
  have hX : W1.heap[w.heap.size]? = some (.cells #[.int .u32 m, .slice a1 n1 c1, .slice a2 n2 c2, .slice a3 n3 c3, .slice a4 n4 c4, .slice a5 n5 c5, .slice a6 n6 c6] 37 (0, 0)) := by
    subst hW; exact heap_below (heap_new _ _ _ rfl) (ext_alloc _ _)
  have hR : W1.heap[w.heap.size + 1]? = some (.cells #[.int .i64 0, .slice none 0 0, .slice none 0 0, .slice none 0 0, .slice none 0 0, .slice none 0 0] 26 (0, 0)) := by
    subst hW; exact heap_new _ _ _ (by simp)
  clear hW
  refine (HMAY.out W1 B1).mono ?_
  rintro e W2 ⟨rfl, hb⟩
  obtain ⟨q, hq⟩ : ∃ q, q = mayRaw r := ⟨_, rfl⟩
  rw [← hq]
  have hX2 := heap_below hX hb
  have hR2 := heap_below hR hb
  have B2 := ext_trans B1 hb
  have HQ := Lib.hid hq
  clear hX hR B1 hb hq HMAY
  cases q with
  | false =>
    have HG : Hid (ofS r = .error 2) := by show _ = _; unfold ofS; rw [if_pos HQ.out.symm]
    have z0 := cell_of_block hR2 0
    have z1 := cell_of_block hR2 1
    have z2 := cell_of_block hR2 2
    have z3 := cell_of_block hR2 3
    have z4 := cell_of_block hR2 4
    have z5 := cell_of_block hR2 5
    have y0 := unfrozen_of_block hR2 0
    have y1 := unfrozen_of_block hR2 1
    have y2 := unfrozen_of_block hR2 2
    have y3 := unfrozen_of_block hR2 3
    have y4 := unfrozen_of_block hR2 4
    have y5 := unfrozen_of_block hR2 5
    have HRR := Lib.hid hR2
    have HBLL := Lib.hid B2
    clear hR2 B2 hX2
    go_wp2
    refine bodyPost_ret (v := .tuple #[zeroCir, .int .i64 2]) ?_ rfl ?_
    · have h6 := cir_set HRR.out rfl (.int .i64 0) (.slice none 0 0) (.slice none 0 0) (.slice none 0 0) (.slice none 0 0) (.slice none 0 0)
      have g0 := cell_of_block h6 0
      have g1 := cell_of_block h6 1
      have g2 := cell_of_block h6 2
      have g3 := cell_of_block h6 3
      have g4 := cell_of_block h6 4
      have g5 := cell_of_block h6 5
      simp [results, Try.results25, go_sem, g0, g1, g2, g3, g4, g5]
      rfl
    · refine ⟨?_, Or.inr ⟨2, HG.out, by decide, rfl⟩⟩
      with_reducible exact set6 (w.heap.size + 1) (Nat.le_succ _) HBLL.out
  | true =>
    have hl : Lits r := lits_of HQ.out.symm
    have HLI := Lib.hid hl
    have HM2 : Hid (m ≤ 16384) := by show m ≤ 16384; rw [HM.out]; exact hl.max
    have hm2 := HM2.out
    have HLO : Hid (∀ x ∈ O, x ≤ 2 * m + 1) := by rw [HO.out, HM.out]; exact hl.owns
    have p0 := cell_of_block hX2 0
    have p1 := cell_of_block hX2 1
    have p2 := cell_of_block hX2 2
    have p3 := cell_of_block hX2 3
    have p4 := cell_of_block hX2 4
    have p5 := cell_of_block hX2 5
    have p6 := cell_of_block hX2 6
    have HX2 := Lib.hid hX2
    have HR2 := Lib.hid hR2
    have HB2 := Lib.hid B2
    clear hX2 hR2 B2 hl
    go_wp2_with fail
    refine (HDEF.out W2 HB2.out HLI.out).mono ?_
    rintro e W3 ⟨v, rfl, hrow, hb⟩
    obtain ⟨va, vc, rfl⟩ := ownsN_form hrow
    have HX3 := Lib.hid (heap_below HX2.out hb)
    have HR3 := Lib.hid (heap_below HR2.out hb)
    have HB3 := Lib.hid (ext_trans HB2.out hb)
    have HROW := Lib.hid hrow
    have HS3 := Lib.hid (HS.out.below HB3.out)
    have hw3 : w.heap.size + 1 < W3.heap.size := heap_lt HR3.out
    clear p0 p1 p2 p3 p4 p5 p6 hb hrow HX2 HR2 HB2 HDEF
    have p0 := cell_of_block HX3.out 0
    have mk := fun W => run_make_u32 (P := Try.prog) Try.underlying24 hi hz0 hz1 hz2 rfl (m + 1) ((m : Int) + 1) (by omega) (by omega) (by omega) W
    rw [ncells_zero] at mk
    have M1 : IntKind.u32.wrap ((m : Int) + 1) = (m : Int) + 1 := IntWalk.u32_in _ (by omega)
    have MK := Lib.hid mk
    obtain ⟨DD, hDD⟩ : ∃ DD, DD = W3.heap.size := ⟨_, rfl⟩
    go_wp2_with fail
    rw [← hDD]
    generalize hW : World.alloc W3 _ = W4
    have B4 : Below W3.heap.size W3 W4 := by subst hW; exact ext_alloc _ _
    have hD : W4.heap[DD]? = some (.cells (ncells (List.replicate (m + 1) 0)) 33 (0, 0)) := by subst hW; exact heap_new _ _ _ hDD
    clear hW p0 mk
    have HD := Lib.hid hD
    have HB4 := Lib.hid B4
    have HDE := Lib.hid hDD
    clear hD B4 hDD
    go_wp2
    go_loopw [6] (fun i wr => ∃ (k : Nat) (t : List Nat) (d : List Bool), k ≤ N ∧ i = .int .i64 k ∧ Hid (defsF (defs0 m) (O.take k) = some d) ∧ Hid (IsTab m d t) ∧ Hid (wr.heap[DD]? = some (.cells (ncells t) 33 (0, 0))) ∧ Hid (Below W3.heap.size W3 wr))
      (fun i _ => N - (intOf i).toNat)
    case atStart => exact ⟨0, List.replicate (m + 1) 0, defs0 m, Nat.zero_le _, rfl, rfl, isTab_start m, HD.out, HB4.out⟩
    case round =>
      clear HD HB4
      obtain ⟨k, t, d, hk, rfl, hdf, htb, hD, hB⟩ := hrel
      by_cases hlt : k < N
      · obtain ⟨a', c', ev, _, hs⟩ := Sees.owned (ownsN_below HROW.out hB.out)
        cases ev
        obtain ⟨b, off, rfl, hbw⟩ := hs.addr (by omega)
        have hcx := hs.num k hlt
        have hx2 := HLO.out (O.getD k 0) (getD_mem (by rw [← HN.out]; exact hlt))
        obtain ⟨x, hx⟩ : ∃ x, x = O.getD k 0 := ⟨_, rfl⟩
        rw [← hx] at hcx hx2
        have hxm : x / 2 < m + 1 := by omega
        have hcD := (cell_of_block hD.out (x / 2)).trans (ncells_get t (x / 2) (by rw [htb.out.1]; exact hxm))
        have hfD := unfrozen_of_block hD.out (x / 2)
        obtain ⟨y, hy⟩ : ∃ y, y = t.getD (x / 2) 0 := ⟨_, rfl⟩
        rw [← hy] at hcD
        have D1 : Int.tdiv (x : Int) 2 = ((x / 2 : Nat) : Int) := by rw [Int.tdiv_eq_ediv_of_nonneg (by omega)]; omega
        have HLT : Hid (k < (ownsL r).length) := by show k < _; rw [← HO.out, ← HN.out]; exact hlt
        have HXX : Hid (x = (ownsL r).getD k 0) := by rw [← HO.out]; exact hx
        have HDF : Hid (defsF (defs0 r.max) ((ownsL r).take k) = some d) := by rw [← HO.out, ← HM.out]; exact hdf.out
        have HTB := Lib.hid htb.out
        have HYY := Lib.hid hy
        have HRW := Lib.hid (heap_below HR3.out hB.out)
        have HBW := Lib.hid (ext_trans HB3.out hB.out)
        have W1' : IntKind.i64.wrap ((k : Int) + 1) = (k : Int) + 1 := IntWalk.i64_in _ (by omega)
        clear hx hy hs htb hdf
        by_cases g1 : x % 2 = 1
        · have HG : Hid (ofS r = .error 8) := ofS_twice HQ.out.symm HLT.out HDF.out HXX.out (isTab_bad HTB.out (Or.inl g1))
          have f1 : Int.tmod (x : Int) 2 = 1 := by rw [Int.tmod_eq_emod_of_nonneg (by omega)]; omega
          have z0 := cell_of_block HRW.out 0
          have z1 := cell_of_block HRW.out 1
          have z2 := cell_of_block HRW.out 2
          have z3 := cell_of_block HRW.out 3
          have z4 := cell_of_block HRW.out 4
          have z5 := cell_of_block HRW.out 5
          have y0 := unfrozen_of_block HRW.out 0
          have y1 := unfrozen_of_block HRW.out 1
          have y2 := unfrozen_of_block HRW.out 2
          have y3 := unfrozen_of_block HRW.out 3
          have y4 := unfrozen_of_block HRW.out 4
          have y5 := unfrozen_of_block HRW.out 5
          have HRR := Lib.hid HRW.out
          have HBLL := Lib.hid HBW.out
          go_wp2
          refine bodyPost_ret (v := .tuple #[zeroCir, .int .i64 8]) ?_ rfl ?_
          · have h6 := cir_set HRR.out rfl (.int .i64 0) (.slice none 0 0) (.slice none 0 0) (.slice none 0 0) (.slice none 0 0) (.slice none 0 0)
            have g0 := cell_of_block h6 0
            have g1 := cell_of_block h6 1
            have g2 := cell_of_block h6 2
            have g3 := cell_of_block h6 3
            have g4 := cell_of_block h6 4
            have g5 := cell_of_block h6 5
            simp [results, Try.results25, go_sem, g0, g1, g2, g3, g4, g5]
            rfl
          · refine ⟨?_, Or.inr ⟨8, HG.out, by decide, rfl⟩⟩
            with_reducible exact set6 (w.heap.size + 1) (Nat.le_succ _) HBLL.out
        have f1 : (Int.tmod (x : Int) 2 == 1) = false := by rw [Int.tmod_eq_emod_of_nonneg (by omega)]; simp; omega
        have f1' : Int.tmod (x : Int) 2 = 0 := by rw [Int.tmod_eq_emod_of_nonneg (by omega)]; omega
        by_cases g2 : x = 0
        · have HG : Hid (ofS r = .error 8) := ofS_twice HQ.out.symm HLT.out HDF.out HXX.out (isTab_bad HTB.out (Or.inr (Or.inl g2)))
          have f2 : ((x : Int) == 0) = true := by simp [g2]
          have z0 := cell_of_block HRW.out 0
          have z1 := cell_of_block HRW.out 1
          have z2 := cell_of_block HRW.out 2
          have z3 := cell_of_block HRW.out 3
          have z4 := cell_of_block HRW.out 4
          have z5 := cell_of_block HRW.out 5
          have y0 := unfrozen_of_block HRW.out 0
          have y1 := unfrozen_of_block HRW.out 1
          have y2 := unfrozen_of_block HRW.out 2
          have y3 := unfrozen_of_block HRW.out 3
          have y4 := unfrozen_of_block HRW.out 4
          have y5 := unfrozen_of_block HRW.out 5
          have HRR := Lib.hid HRW.out
          have HBLL := Lib.hid HBW.out
          go_wp2
          refine bodyPost_ret (v := .tuple #[zeroCir, .int .i64 8]) ?_ rfl ?_
          · have h6 := cir_set HRR.out rfl (.int .i64 0) (.slice none 0 0) (.slice none 0 0) (.slice none 0 0) (.slice none 0 0) (.slice none 0 0)
            have g0 := cell_of_block h6 0
            have g1 := cell_of_block h6 1
            have g2 := cell_of_block h6 2
            have g3 := cell_of_block h6 3
            have g4 := cell_of_block h6 4
            have g5 := cell_of_block h6 5
            simp [results, Try.results25, go_sem, g0, g1, g2, g3, g4, g5]
            rfl
          · refine ⟨?_, Or.inr ⟨8, HG.out, by decide, rfl⟩⟩
            with_reducible exact set6 (w.heap.size + 1) (Nat.le_succ _) HBLL.out
        have f2 : ((x : Int) == 0) = false := by simp; omega
        obtain ⟨u, hu⟩ : ∃ u, u = x / 2 := ⟨_, rfl⟩
        have hu3 : u < 16386 := by omega
        have U1 : IntKind.u32.wrap ((u : Nat) : Int) = (u : Int) := IntWalk.u32_in _ (by omega)
        rw [← hu] at hcD hfD D1
        by_cases g3 : 0 < y
        · have HG : Hid (ofS r = .error 8) := ofS_twice HQ.out.symm HLT.out HDF.out HXX.out (isTab_bad HTB.out (Or.inr (Or.inr (by rw [← HYY.out]; exact g3))))
          have f3 : decide ((0 : Int) < (y : Int)) = true := by simp; omega
          have f4 : decide (0 < y) = true := decide_eq_true g3
          have hum : u < m + 1 := by omega
          clear hu
          have z0 := cell_of_block HRW.out 0
          have z1 := cell_of_block HRW.out 1
          have z2 := cell_of_block HRW.out 2
          have z3 := cell_of_block HRW.out 3
          have z4 := cell_of_block HRW.out 4
          have z5 := cell_of_block HRW.out 5
          have y0 := unfrozen_of_block HRW.out 0
          have y1 := unfrozen_of_block HRW.out 1
          have y2 := unfrozen_of_block HRW.out 2
          have y3 := unfrozen_of_block HRW.out 3
          have y4 := unfrozen_of_block HRW.out 4
          have y5 := unfrozen_of_block HRW.out 5
          have HRR := Lib.hid HRW.out
          have HBLL := Lib.hid HBW.out
          go_wp2
          refine bodyPost_ret (v := .tuple #[zeroCir, .int .i64 8]) ?_ rfl ?_
          · have h6 := cir_set HRR.out rfl (.int .i64 0) (.slice none 0 0) (.slice none 0 0) (.slice none 0 0) (.slice none 0 0) (.slice none 0 0)
            have g0 := cell_of_block h6 0
            have g1 := cell_of_block h6 1
            have g2 := cell_of_block h6 2
            have g3 := cell_of_block h6 3
            have g4 := cell_of_block h6 4
            have g5 := cell_of_block h6 5
            simp [results, Try.results25, go_sem, g0, g1, g2, g3, g4, g5]
            rfl
          · refine ⟨?_, Or.inr ⟨8, HG.out, by decide, rfl⟩⟩
            with_reducible exact set6 (w.heap.size + 1) (Nat.le_succ _) HBLL.out
        have f3 : decide ((0 : Int) < (y : Int)) = false := by simp; omega
        have GO := isTab_good HTB.out (show x % 2 = 0 by omega) g2 (by rw [← HYY.out]; omega)
        have HDF2 : Hid (defsF (defs0 m) (O.take (k + 1)) = some (d.set u true)) := by rw [hu, HM.out, HO.out]; exact take_defs HLT.out HDF.out HXX.out GO
        have HTB2 : Hid (IsTab m (d.set u true) (t.set u 1)) := by rw [hu]; exact isTab_step HTB.out hxm (by omega)
        have HD2 : Hid ((wr.setCell ⟨DD, u, .none⟩ (.int .u32 1)).heap[DD]? = some (.cells (ncells (t.set u 1)) 33 (0, 0))) := by
          have h1 := block_setCell hD.out (i := u) (.int .u32 ((1 : Nat) : Int))
          rw [ncells_set] at h1
          exact h1
        have HB5 : Hid (Below W3.heap.size W3 (wr.setCell ⟨DD, u, .none⟩ (.int .u32 1))) := hB.out.setCell (by rw [HDE.out]; exact Nat.le_refl _) _
        have HU : Hid (u < m + 1) := by show u < _; omega
        have hum := HU.out
        clear HTB HDF HXX HYY HRW HBW GO hD hB hu
        go_wp2
        go_roundw
        case rel => exact ⟨k + 1, _, _, by omega, by go_num, HDF2.out, HTB2.out, HD2.out, HB5.out⟩
        case measure => simp [intOf]; omega
      · obtain rfl : N = k := by omega
        have hds : defsS r = some d := by
          have h := hdf.out
          rw [List.take_of_length_le (by rw [← HN.out]; exact Nat.le_refl _), HM.out, HO.out] at h
          exact h
        have HDS := Lib.hid hds
        have HTB := Lib.hid htb.out
        have HIS := Lib.hid hD.out
        have HXW := Lib.hid (heap_below HX3.out hB.out)
        have HRW := Lib.hid (heap_below HR3.out hB.out)
        have HBW := Lib.hid (ext_trans HB3.out hB.out)
        have HRO := Lib.hid (ownsN_below HROW.out hB.out)
        have hDw := heap_lt hD.out
        have p0 := cell_of_block HXW.out 0
        have p1 := cell_of_block HXW.out 1
        have p2 := cell_of_block HXW.out 2
        have p3 := cell_of_block HXW.out 3
        have p4 := cell_of_block HXW.out 4
        have p5 := cell_of_block HXW.out 5
        have p6 := cell_of_block HXW.out 6
        clear hds hdf htb hD hB hlt hk HX3 HR3 HB3 HROW HS3
        go_wp2_with fail
        refine (HASK.out wr HBW.out HLI.out).mono ?_
        rintro e W5 ⟨v, rfl, hrow, hb⟩
        obtain ⟨va5, vc5, hve, _, hs5⟩ := hrow.sees
        subst hve
        clear p0 p1 p2 p3 p4 p5 p6
        have HXW := Lib.hid (heap_below HXW.out hb)
        have HRW := Lib.hid (heap_below HRW.out hb)
        have HBW := Lib.hid (ext_trans HBW.out hb)
        have HRO := Lib.hid (ownsN_below HRO.out hb)
        have HIS := Lib.hid (heap_below HIS.out hb)
        have hse : Sees W5 (some ⟨DD, 0, none⟩) (m + 1) (m + 1) (t.map nv32) := sees_ncells HIS.out HTB.out.1
        have hask : (askedL r).length ≤ 1000000000 := by
          unfold askedL
          simp only [List.length_append, List.length_map, flat_gate, L2.out, L6.out, HS.out.s3.lenMap, HS.out.s4.lenMap, HS.out.s5.lenMap]
          omega
        have HHAVE := Lib.hid (have_any t (askedL r) _ _ _ _ _ _ W5 hse hs5 (by omega) hask (fun x hx => by have := HLI.out.refs x (refs_asked hx); rw [← HM.out] at this; omega))
        have hqq : (askedL r).any (lackL t) = (refsL r).any (missing d) := by
          rw [asked_refs, show lackL t = missing d from funext (isTab_lack HTB.out)]
        rw [hqq] at HHAVE
        obtain ⟨q, hq⟩ : ∃ q, q = (refsL r).any (missing d) := ⟨_, rfl⟩
        rw [← hq] at HHAVE
        have HQ7 := Lib.hid hq
        clear hrow hs5 hse hqq hq hb HIS HTB hask
        go_wp2_with fail
        refine HHAVE.out.mono ?_
        rintro e w' ⟨rfl, rfl⟩
        cases q with
        | true =>
          have HG : Hid (ofS r = .error 7) := ofS_none HQ.out.symm HDS.out HQ7.out.symm
          have z0 := cell_of_block HRW.out 0
          have z1 := cell_of_block HRW.out 1
          have z2 := cell_of_block HRW.out 2
          have z3 := cell_of_block HRW.out 3
          have z4 := cell_of_block HRW.out 4
          have z5 := cell_of_block HRW.out 5
          have y0 := unfrozen_of_block HRW.out 0
          have y1 := unfrozen_of_block HRW.out 1
          have y2 := unfrozen_of_block HRW.out 2
          have y3 := unfrozen_of_block HRW.out 3
          have y4 := unfrozen_of_block HRW.out 4
          have y5 := unfrozen_of_block HRW.out 5
          have HRR := Lib.hid HRW.out
          have HBLL := Lib.hid HBW.out
          go_wp2
          refine bodyPost_ret (v := .tuple #[zeroCir, .int .i64 7]) ?_ rfl ?_
          · have h6 := cir_set HRR.out rfl (.int .i64 0) (.slice none 0 0) (.slice none 0 0) (.slice none 0 0) (.slice none 0 0) (.slice none 0 0)
            have g0 := cell_of_block h6 0
            have g1 := cell_of_block h6 1
            have g2 := cell_of_block h6 2
            have g3 := cell_of_block h6 3
            have g4 := cell_of_block h6 4
            have g5 := cell_of_block h6 5
            simp [results, Try.results25, go_sem, g0, g1, g2, g3, g4, g5]
            rfl
          · refine ⟨?_, Or.inr ⟨7, HG.out, by decide, rfl⟩⟩
            with_reducible exact set6 (w.heap.size + 1) (Nat.le_succ _) HBLL.out
        | false =>
          have HCX : Hid (Ctx r d) := ⟨HLI.out, HDS.out, HQ7.out.symm⟩
          have HBL5 := Lib.hid HBW.out
          clear HHAVE HQ7 hDw HASK
          have p0 := cell_of_block HXW.out 0
          have mk := MK.out
          obtain ⟨EE, hEE⟩ : ∃ EE, EE = W5.heap.size := ⟨_, rfl⟩
          go_wp2_with fail
          rw [← hEE]
          generalize hW : World.alloc W5 _ = W6
          have B6 : Below W5.heap.size W5 W6 := by subst hW; exact ext_alloc _ _
          have hE : W6.heap[EE]? = some (.cells (ncells (List.replicate (m + 1) 0)) 33 (0, 0)) := by subst hW; exact heap_new _ _ _ hEE
          clear hW p0 mk
          have HE := Lib.hid hE
          have HB6 := Lib.hid B6
          have HEE := Lib.hid hEE
          clear hE B6 hEE
          go_wp2
          go_loopw [8, 9] (fun nx i wr => ∃ (k : Nat) (num : List Nat), k ≤ n1 + n2 ∧ nx = .int .u32 ((1 + k : Nat) : Int) ∧ i = .int .i64 k ∧ Hid (num = numF (List.replicate (m + 1) 0) 0 (O.take k)) ∧ Hid (wr.heap[EE]? = some (.cells (ncells num) 33 (0, 0))) ∧ Hid (Below W5.heap.size W5 wr))
            (fun _ i _ => n1 + n2 - (intOf i).toNat)
          case atStart => exact ⟨0, List.replicate (m + 1) 0, Nat.zero_le _, rfl, rfl, rfl, HE.out, HB6.out⟩
          case round =>
            clear HE HB6
            obtain ⟨k, num, hk, rfl, rfl, hnm, hE, hB⟩ := hrel
            have p1 := cell_of_block (heap_below HXW.out hB.out) 1
            have p2 := cell_of_block (heap_below HXW.out hB.out) 2
            have hnl : num.length = m + 1 := by rw [hnm.out, numF_len, List.length_replicate]
            by_cases hlt : k < n1 + n2
            · obtain ⟨a', c', ev, _, hs⟩ := Sees.owned (ownsN_below HRO.out hB.out)
              cases ev
              obtain ⟨b, off, rfl, hbw⟩ := hs.addr (by omega)
              have hcx := hs.num k (by omega)
              have hkO : k < O.length := by rw [← HN.out]; omega
              have hx2 := HLO.out (O.getD k 0) (getD_mem hkO)
              obtain ⟨x, hx⟩ : ∃ x, x = O.getD k 0 := ⟨_, rfl⟩
              rw [← hx] at hcx hx2
              have hxm : x / 2 < m + 1 := by omega
              have hcE := (cell_of_block hE.out (x / 2)).trans (ncells_get num (x / 2) (by rw [hnl]; exact hxm))
              have hfE := unfrozen_of_block hE.out (x / 2)
              have D1 : Int.tdiv (x : Int) 2 = ((x / 2 : Nat) : Int) := by rw [Int.tdiv_eq_ediv_of_nonneg (by omega)]; omega
              have W1' : IntKind.i64.wrap ((k : Int) + 1) = (k : Int) + 1 := IntWalk.i64_in _ (by omega)
              have W2' : IntKind.u32.wrap (1 + (k : Int) + 1) = 1 + (k : Int) + 1 := IntWalk.u32_in _ (by omega)
              obtain ⟨u, hu⟩ : ∃ u, u = x / 2 := ⟨_, rfl⟩
              have hu3 : u < 16386 := by omega
              have hum : u < m + 1 := by omega
              have U1 : IntKind.u32.wrap ((u : Nat) : Int) = (u : Int) := IntWalk.u32_in _ (by omega)
              rw [← hu] at hcE hfE D1
              have HNM2 : Hid (num.set u (1 + k) = numF (List.replicate (m + 1) 0) 0 (O.take (k + 1))) := by
                show _ = _
                rw [take_snocN _ _ hkO, numF_snoc, ← hnm.out, ← hx, List.length_take, Nat.min_eq_left (by omega), hu]
                congr 1
                omega
              have HE2 : Hid ((wr.setCell ⟨EE, u, .none⟩ (.int .u32 ((1 + k : Nat) : Int))).heap[EE]? = some (.cells (ncells (num.set u (1 + k))) 33 (0, 0))) := by
                have h1 := block_setCell hE.out (i := u) (.int .u32 ((1 + k : Nat) : Int))
                rw [ncells_set] at h1
                exact h1
              have HB7 : Hid (Below W5.heap.size W5 (wr.setCell ⟨EE, u, .none⟩ (.int .u32 ((1 + k : Nat) : Int)))) := hB.out.setCell (by rw [HEE.out]; exact Nat.le_refl _) _
              rw [show ((1 + k : Nat) : Int) = 1 + (k : Int) by omega] at HE2 HB7
              clear hx hu hs hE hB hnm hnl
              go_wp2
              go_roundw
              case rel => exact ⟨k + 1, _, by omega, by go_num, by go_num, HNM2.out, HE2.out, HB7.out⟩
              case measure => simp [intOf]; omega
            · obtain rfl : k = n1 + n2 := by omega
              rw [Int.natCast_add n1 n2]
              have hO : O.take (n1 + n2) = r.ins ++ r.lats.map (·.1) := by
                rw [HO.out]
                unfold ownsL
                rw [← List.append_assoc, List.take_append_of_le_length (by simp only [List.length_append, List.length_map, L1.out, L2.out]; omega), List.take_of_length_le (by simp only [List.length_append, List.length_map, L1.out, L2.out]; omega)]
              have hst : Srch r [] num := by
                rw [hnm.out, hO, HM.out]; exact Srch.start r
              have HST := Lib.hid hst
              have HEW := Lib.hid hE.out
              have HBW := Lib.hid hB.out
              have hsz5 : W5.heap.size ≤ wr.heap.size := hB.out.size
              have hE5 := heap_lt hE.out
              clear hst hO hnm hE hB hnl hlt hk
              obtain ⟨CC, hCC⟩ : ∃ CC, CC = wr.heap.size := ⟨_, rfl⟩
              go_wp2
              generalize hW : World.alloc wr _ = W8
              have B8 : Below wr.heap.size wr W8 := by subst hW; exact ext_alloc _ _
              have hC : W8.heap[CC]? = some (.cells #[.int .i64 n1, .slice none 0 0, .slice none 0 0, .slice none 0 0, .slice none 0 0, .slice none 0 0] 26 (0, 0)) := by subst hW; exact heap_new _ _ _ hCC
              rw [← hCC]
              have hC8 := heap_lt hC
              have hEC : EE ≠ CC := by omega
              have h5E : W5.heap.size ≤ EE := by rw [HEE.out]; exact Nat.le_refl _
              have h5C : W5.heap.size ≤ CC := by omega
              have hEB : EE < W8.heap.size := by omega
              have h58 : W5.heap.size ≤ W8.heap.size := by omega
              have hnl2 : num.length = m + 1 := by rw [HST.out.tab, numF_len, List.length_replicate, HM.out]
              have HI := Lib.hid (show RefI r m n1 W5 W8.heap.size EE CC [] num (.slice none 0 0) W8 from ⟨HST.out, hnl2, heap_below HEW.out B8, hC, own2_nil _ _ _ _, HBW.out.trans (B8.mono hsz5), Nat.le_refl _⟩)
              clear hW hCC hC hnl2 HST HEW HBW B8 p1 p2 hsz5 hE5
              go_wp2
              go_loopw [8, 11] (fun nx fd wo => ∃ (done : List Tri) (num : List Nat) (vg : Value) (fb : Bool), nx = .int .u32 ((1 + (n1 + n2 + done.length) : Nat) : Int) ∧ fd = .bool fb ∧ done.length ≤ n6 ∧ Hid (RefI r m n1 W5 W8.heap.size EE CC done num vg wo) ∧ Hid (fb = false → ∀ j, j < n6 → readyB r.gates (done.map (fun g => g.1 / 2)) j = false))
                (fun nx fd _ => 2 * (n1 + n2 + n6 + 2 - (intOf nx).toNat) + boolN fd)
              case atStart => exact ⟨[], num, .slice none 0 0, true, by simp, rfl, Nat.zero_le _, HI.out, fun h => by cases h⟩
              case round =>
                clear HI
                obtain ⟨done, num, vg, fb, rfl, rfl, hdn, hI, hfb⟩ := hrel
                cases fb with
                | false =>
                  have HSTOP : Hid (inOrderS r.gates = done) := hI.out.srch.stop (fun j hj => hfb.out rfl j (by rw [← L6.out]; exact hj))
                  clear hfb
                  obtain ⟨wo, hwo⟩ : ∃ wo : World, wo = wr := ⟨_, rfl⟩
                  subst hwo
                  obtain ⟨va1, vc1, hve⟩ := own2_form hI.out.row
                  rw [List.length_map] at hve
                  subst hve
                  have k2 : wo.cell? ⟨CC, 2, none⟩ = some (.slice va1 done.length vc1) := cell_of_block hI.out.var 2
                  have p6 := cell_of_block (heap_below HXW.out hI.out.bel) 6
                  have HIO := Lib.hid hI.out
                  have HRX := Lib.hid (heap_below HRW.out hI.out.bel)
                  have HBX := Lib.hid (ext_trans HBL5.out hI.out.bel)
                  clear hI
                  by_cases hle : done.length < n6
                  · have HG : Hid (ofS r = .error 9) := ofS_loop HQ.out.symm HDS.out HCX.out.refs (by rw [HSTOP.out, L6.out]; exact hle)
                    have e1 : decide ((done.length : Int) < (n6 : Int)) = true := by simp; omega
                    have z0 := cell_of_block HRX.out 0
                    have z1 := cell_of_block HRX.out 1
                    have z2 := cell_of_block HRX.out 2
                    have z3 := cell_of_block HRX.out 3
                    have z4 := cell_of_block HRX.out 4
                    have z5 := cell_of_block HRX.out 5
                    have y0 := unfrozen_of_block HRX.out 0
                    have y1 := unfrozen_of_block HRX.out 1
                    have y2 := unfrozen_of_block HRX.out 2
                    have y3 := unfrozen_of_block HRX.out 3
                    have y4 := unfrozen_of_block HRX.out 4
                    have y5 := unfrozen_of_block HRX.out 5
                    have HRR := Lib.hid HRX.out
                    have HBLL := Lib.hid HBX.out
                    go_wp2
                    refine bodyPost_ret (v := .tuple #[zeroCir, .int .i64 9]) ?_ rfl ?_
                    · have h6 := cir_set HRR.out rfl (.int .i64 0) (.slice none 0 0) (.slice none 0 0) (.slice none 0 0) (.slice none 0 0) (.slice none 0 0)
                      have g0 := cell_of_block h6 0
                      have g1 := cell_of_block h6 1
                      have g2 := cell_of_block h6 2
                      have g3 := cell_of_block h6 3
                      have g4 := cell_of_block h6 4
                      have g5 := cell_of_block h6 5
                      simp [results, Try.results25, go_sem, g0, g1, g2, g3, g4, g5]
                      rfl
                    · refine ⟨?_, Or.inr ⟨9, HG.out, by decide, rfl⟩⟩
                      with_reducible exact set6 (w.heap.size + 1) (Nat.le_succ _) HBLL.out
                  have e1 : decide ((done.length : Int) < (n6 : Int)) = false := by simp; omega
                  have HOK : Hid (ofS r = .ok (refC r done num)) := by
                    show _ = _
                    rw [ofS_good HQ.out.symm HDS.out HCX.out.refs (by rw [HSTOP.out, L6.out]; exact hle), renum_ref HCX.out HQ.out.symm HIO.out.srch HSTOP.out]
                  have HLE : Hid (∀ v, num.getD v 0 ≤ 16385) := HIO.out.srch.le HQ.out.symm (by rw [L6.out]; exact hdn)
                  have hNL : num.length = m + 1 := HIO.out.len
                  have HIF : Hid (Fill W8.heap.size CC n1 (.slice none 0 0) (.slice va1 done.length vc1) (.slice none 0 0) (.slice none 0 0) (.slice none 0 0) ((r.lats.take 0).map (latN num)) (done.map (pairN num)) [] [] [] wo) := ⟨HIO.out.var, own2_nil _ _ _ _, HIO.out.row, Row.nil _ _ _ _, Row.nil _ _ _ _, Row.nil _ _ _ _⟩
                  have HTB := Lib.hid HIO.out.tab
                  have HBE := Lib.hid HIO.out.bel
                  have hlow := HIO.out.low
                  go_wp2
                  clear k2 p6 e1
                  go_loopw [16] (fun i wr => ∃ (k : Nat) (v1 : Value), k ≤ n2 ∧ i = .int .i64 k ∧ Hid (Fill W8.heap.size CC n1 v1 (.slice va1 done.length vc1) (.slice none 0 0) (.slice none 0 0) (.slice none 0 0) ((r.lats.take k).map (latN num)) (done.map (pairN num)) [] [] [] wr) ∧ Hid (wr.heap[EE]? = some (.cells (ncells num) 33 (0, 0))) ∧ Hid (Below W5.heap.size W5 wr) ∧ Hid (W8.heap.size ≤ wr.heap.size))
                    (fun i _ => n2 - (intOf i).toNat)
                  case atStart => exact ⟨0, _, Nat.zero_le _, rfl, HIF.out, HTB.out, HBE.out, hlow⟩
                  case round =>
                    clear HIF HTB HBE hlow HIO HRX HBX
                    obtain ⟨k, v1, hk, rfl, hI, hT, hB, hLO8⟩ := hrel
                    have p2 := cell_of_block (heap_below HXW.out hB.out) 2
                    by_cases hlt : k < n2
                    · obtain ⟨b, off, rfl, hbw⟩ := HS.out.s2.addr (show 0 < n2 by omega)
                      obtain ⟨qx, qy, qz⟩ := ((HS.out.below HBL5.out).s2.below hB.out).cells k hlt (0, 0, 0)
                      have hlm : r.lats.getD k (0, 0, 0) ∈ r.lats := getD_mem (by rw [L2.out]; exact hlt)
                      obtain ⟨t, ht⟩ : ∃ t, t = r.lats.getD k (0, 0, 0) := ⟨_, rfl⟩
                      rw [← ht] at qx qy qz hlm
                      have hl2 : t.2.1 ≤ 2 * m + 1 := by rw [HM.out]; exact HLI.out.refs _ (by unfold refsL; simp only [List.mem_append, List.mem_map]; exact Or.inr (Or.inl ⟨_, hlm, rfl⟩))
                      have HTT := Lib.hid ht
                      clear ht hlm
                      obtain ⟨x, y, z⟩ := t
                      unfold nv32 at qx qy qz
                      simp only at hl2
                      obtain ⟨va, vc, hv1⟩ := own2_form hI.out.f1
                      have hlen1 : ((r.lats.take k).map (latN num)).length = k := by rw [List.length_map, List.length_take, L2.out]; omega
                      rw [hlen1] at hv1
                      subst hv1
                      have HLEN := Lib.hid hlen1
                      clear hlen1
                      go_upto_region 40 with fail
                      generalize hW : World.alloc wr _ = Wg
                      have Bg : Below wr.heap.size wr Wg := by subst hW; exact ext_alloc _ _
                      have hG : Wg.heap[wr.heap.size]? = some (.cells #[.int .u32 x, .int .u32 y, .int .u32 z] 54 (0, 0)) := by subst hW; exact heap_new _ _ _ rfl
                      have hFG := hI.out.below Bg
                      have hTG := heap_below hT.out Bg
                      have hBG : Below W5.heap.size W5 Wg := hB.out.trans (Bg.mono hB.out.size)
                      have r2 : Wg.cell? ⟨wr.heap.size, 2, none⟩ = some (.int .u32 z) := cell_of_block hG 2
                      obtain ⟨ny, hny⟩ : ∃ ny, ny = numL num y := ⟨_, rfl⟩
                      have hNUM : Hid (∀ W, Below Wg.heap.size Wg W → Calls Try.prog 66 #[.slice (some ⟨EE, 0, none⟩) (m + 1) (m + 1), .int .u32 (y : Int)] W fun e w' => e = .returned (.int .u32 (ny : Int)) ∧ W = w') := fun W hb => by
                        have h1 := numbered_any num y _ _ _ W (sees_ncells (heap_below hTG hb) hNL) (by omega) HLE.out (by omega)
                        rw [← hny] at h1
                        exact h1
                      obtain ⟨L, hL⟩ : ∃ L, L = prCs nv8 ((r.lats.take k).map (latN num)) := ⟨_, rfl⟩
                      have hown := hFG.f1
                      unfold own2 at hown
                      rw [← hL, HLEN.out] at hown
                      have HLL := Lib.hid hL
                      have HOWN := Lib.hid hown
                      have HFG := Lib.hid hFG
                      have HTG := Lib.hid hTG
                      have HBG := Lib.hid hBG
                      have HGG := Lib.hid hG
                      have HNY := Lib.hid hny
                      have hsz8 : W8.heap.size ≤ Wg.heap.size := Nat.le_trans hLO8.out Bg.size
                      clear hW hG hFG hTG hBG hny hL hown hI hT hB hLO8 Bg qx qy qz p2 hbw
                      have W1' : IntKind.i64.wrap ((k : Int) + 1) = (k : Int) + 1 := IntWalk.i64_in _ (by omega)
                      have FIN : Hid (∀ (zr : Nat) (hzr : zr = if z < 2 then z else 2) (a' : Option Addr) (c' : Nat) (s2 w2 : World), Below Wg.heap.size Wg s2 → s2.grownBy w2 (Value.slice va k vc).ownBlock → w2.ownsRow W8.heap.size 61 2 (.slice a' (k + 1) c') (k + 1) (L ++ [.int .u32 (ny : Int), .int .u8 (zr : Int)]) →
                          Fill W8.heap.size CC n1 (.slice a' (k + 1) c') (.slice va1 done.length vc1) (.slice none 0 0) (.slice none 0 0) (.slice none 0 0) ((r.lats.take (k + 1)).map (latN num)) (done.map (pairN num)) [] [] [] (w2.setCell ⟨CC, 1, none⟩ (.slice a' (k + 1) c')) ∧
                          (w2.setCell ⟨CC, 1, none⟩ (.slice a' (k + 1) c')).heap[EE]? = some (.cells (ncells num) 33 (0, 0)) ∧ Below W5.heap.size W5 (w2.setCell ⟨CC, 1, none⟩ (.slice a' (k + 1) c')) ∧ W8.heap.size ≤ (w2.setCell ⟨CC, 1, none⟩ (.slice a' (k + 1) c')).heap.size) := fun zr hzr a' c' s2 w2 hb2 hg2 hr2 => by
                        have ht1 : (r.lats.take (k + 1)).map (latN num) = (r.lats.take k).map (latN num) ++ [(ny, zr)] := by
                          rw [mapk_snoc (latN num) r.lats k (x, y, z) (by rw [L2.out]; exact hlt) HTT.out, latN, HNY.out, hzr]
                        have hF := Fill.lat (a := ny) (b := zr) HFG.out hb2 hg2 hr2 (by rw [HLEN.out]) (by rw [HLL.out]; rfl)
                        rw [ht1]
                        refine ⟨hF, ?_, ?_, ?_⟩
                        · rw [Below.heap_setCell w2 ⟨CC, 1, .none⟩ _ EE hEC]
                          exact heap_grown (heap_below HTG.out hb2) hg2 (ownsN_notown (ownsN_below HOWN.out hb2) (heap_below HTG.out hb2) (by decide))
                        · exact ((HBG.out.trans (hb2.mono HBG.out.size)).trans ((ownsN_low (ownsN_below HOWN.out hb2) hg2 (Nat.le_trans hsz8 hb2.size)).mono h58)).setCell h5C _
                        · have h1 := (ownsN_low (ownsN_below HOWN.out hb2) hg2 (Nat.le_trans hsz8 hb2.size)).size
                          have h2 := hb2.size
                          simpa using (show W8.heap.size ≤ w2.heap.size by omega)
                      by_cases hz2 : z < 2
                      · have f1 : decide ((z : Int) < 2) = true := by simp; omega
                        have f2 : IntKind.u8.wrap (z : Int) = (z : Int) := IntWalk.u8_in _ (by omega)
                        go_upto_region 43 with fail
                        refine reg_RefLat CC wr.heap.size EE (m + 1) k y W8.heap.size ny z va vc L Wg HFG.out.var HGG.out hNUM HOWN hsz8 (by unfold maxLen; omega) (by omega) _ ?_
                        intro a' c' s2 w2 _ _ _ _ _ _ _ _ _ _ _ hb2 hg2 hr2
                        obtain ⟨g1, g2, g3, g4⟩ := FIN.out z (by rw [if_pos hz2]) a' c' s2 w2 hb2 hg2 hr2
                        have HG1 := Lib.hid g1
                        have HG2 := Lib.hid g2
                        have HG3 := Lib.hid g3
                        have HG4 := Lib.hid g4
                        clear g1 g2 g3 g4 hb2 hg2 hr2 r2 f1 f2 FIN
                        go_wp2
                        go_roundw
                        case rel => exact ⟨k + 1, _, by omega, by go_num, HG1.out, HG2.out, HG3.out, HG4.out⟩
                        case measure => simp [intOf]; omega
                      · have f1 : decide ((z : Int) < 2) = false := by simp; omega
                        go_upto_region 43 with fail
                        refine reg_RefLat CC wr.heap.size EE (m + 1) k y W8.heap.size ny 2 va vc L Wg HFG.out.var HGG.out hNUM HOWN hsz8 (by unfold maxLen; omega) (by omega) _ ?_
                        intro a' c' s2 w2 _ _ _ _ _ _ _ _ _ _ _ hb2 hg2 hr2
                        obtain ⟨g1, g2, g3, g4⟩ := FIN.out 2 (by rw [if_neg hz2]) a' c' s2 w2 hb2 hg2 hr2
                        have HG1 := Lib.hid g1
                        have HG2 := Lib.hid g2
                        have HG3 := Lib.hid g3
                        have HG4 := Lib.hid g4
                        clear g1 g2 g3 g4 hb2 hg2 hr2 r2 f1 FIN
                        go_wp2
                        go_roundw
                        case rel => exact ⟨k + 1, _, by omega, by go_num, HG1.out, HG2.out, HG3.out, HG4.out⟩
                        case measure => simp [intOf]; omega
                    · obtain rfl : n2 = k := by omega
                      have hfill := hI.out
                      rw [List.take_of_length_le (by rw [L2.out]; exact Nat.le_refl _)] at hfill
                      have hF := hfill.toR
                      obtain ⟨e1, d1, hv1⟩ := own2_form hF.f1
                      rw [List.length_map, L2.out] at hv1
                      subst hv1
                      have HF := Lib.hid hF
                      have HT := Lib.hid hT.out
                      have HB := Lib.hid hB.out
                      have hsz := hLO8.out
                      clear hfill hF hI hT hB hLO8 hlt hk
                      have HMAP : Hid (∀ (l : List Nat) (a : Option Addr) (n c : Nat) (W : World), Sees W5 a n c (l.map nv32) → n ≤ 1048576 → (∀ x ∈ l, x ∈ refsL r) → Below W5.heap.size W5 W → W.heap[EE]? = some (.cells (ncells num) 33 (0, 0)) → Calls Try.prog 67 #[.slice (some ⟨EE, 0, none⟩) (m + 1) (m + 1), .slice a n c] W fun e w' => ∃ v, e = .returned v ∧ w'.ownsRow W.heap.size 33 1 v n ((l.map (numL num)).map nv32) ∧ Below W.heap.size W w') := fun l a n c W hs hn hl hb ht =>
                        mapped_any num l _ _ _ a n c W (sees_ncells ht hNL) (hs.below hb) (by omega) hn (fun x hx => by have := HLI.out.refs x (hl x hx); rw [← HM.out] at this; omega) HLE.out
                      have p3 := cell_of_block (heap_below HXW.out HB.out) 3
                      go_wp2_with fail
                      refine (HMAP.out r.outs a3 n3 c3 wr (HS.out.below HBL5.out).s3 (by omega) (fun x hx => by unfold refsL; simp only [List.mem_append]; exact Or.inl (Or.inl hx)) HB.out HT.out).mono ?_
                      rintro e w80 ⟨v3, rfl, hr, hb⟩
                      obtain ⟨e3, d3, rfl⟩ := ownsN_form hr
                      have hFb := HF.out.below hb
                      have c3c := cell_of_block hFb.var 3
                      have c3f := unfrozen_of_block hFb.var 3
                      have HF2 : Hid (FillR W8.heap.size CC n1 (.slice e1 n2 d1) (.slice va1 done.length vc1) (.slice e3 n3 d3) (.slice none 0 0) (.slice none 0 0) (r.lats.map (latN num)) (done.map (pairN num)) (r.outs.map (numL num)) [] [] (World.setCell w80 ⟨CC, 3, .none⟩ (.slice e3 n3 d3))) := hFb.put3 (by rw [List.length_map, HS.out.s3.lenMap]; exact ownsN_base hr hsz)
                      have HT2 : Hid ((World.setCell w80 ⟨CC, 3, .none⟩ (.slice e3 n3 d3)).heap[EE]? = some (.cells (ncells num) 33 (0, 0))) := by
                        show _ = _
                        rw [Below.heap_setCell w80 ⟨CC, 3, .none⟩ _ EE hEC]
                        exact heap_below HT.out hb
                      have HB2 : Hid (Below W5.heap.size W5 (World.setCell w80 ⟨CC, 3, .none⟩ (.slice e3 n3 d3))) := (HB.out.trans (hb.mono HB.out.size)).setCell h5C _
                      have HZ2 : Hid (W8.heap.size ≤ (World.setCell w80 ⟨CC, 3, .none⟩ (.slice e3 n3 d3)).heap.size) := by
                        have h1 := hb.size
                        show W8.heap.size ≤ _
                        simpa using (show W8.heap.size ≤ w80.heap.size by omega)
                      clear hr hb hFb HF HT HB hsz p3
                      go_upto_region 45 with fail
                      clear c3c c3f
                      generalize hW : (World.setCell w80 ⟨CC, 3, .none⟩ (.slice e3 n3 d3)) = w90 at HF2 HT2 HB2 HZ2 ⊢
                      have HF := Lib.hid HF2.out
                      have HT := Lib.hid HT2.out
                      have HB := Lib.hid HB2.out
                      have hsz := HZ2.out
                      clear hW HF2 HT2 HB2 HZ2
                      have p4 := cell_of_block (heap_below HXW.out HB.out) 4
                      go_wp2_with fail
                      refine (HMAP.out r.bads a4 n4 c4 w90 (HS.out.below HBL5.out).s4 (by omega) (fun x hx => by unfold refsL; simp only [List.mem_append]; exact Or.inl (Or.inr (Or.inl hx))) HB.out HT.out).mono ?_
                      rintro e w81 ⟨v4, rfl, hr, hb⟩
                      obtain ⟨e4, d4, rfl⟩ := ownsN_form hr
                      have hFb := HF.out.below hb
                      have c4c := cell_of_block hFb.var 4
                      have c4f := unfrozen_of_block hFb.var 4
                      have HF2 : Hid (FillR W8.heap.size CC n1 (.slice e1 n2 d1) (.slice va1 done.length vc1) (.slice e3 n3 d3) (.slice e4 n4 d4) (.slice none 0 0) (r.lats.map (latN num)) (done.map (pairN num)) (r.outs.map (numL num)) (r.bads.map (numL num)) [] (World.setCell w81 ⟨CC, 4, .none⟩ (.slice e4 n4 d4))) := hFb.put4 (by rw [List.length_map, HS.out.s4.lenMap]; exact ownsN_base hr hsz)
                      have HT2 : Hid ((World.setCell w81 ⟨CC, 4, .none⟩ (.slice e4 n4 d4)).heap[EE]? = some (.cells (ncells num) 33 (0, 0))) := by
                        show _ = _
                        rw [Below.heap_setCell w81 ⟨CC, 4, .none⟩ _ EE hEC]
                        exact heap_below HT.out hb
                      have HB2 : Hid (Below W5.heap.size W5 (World.setCell w81 ⟨CC, 4, .none⟩ (.slice e4 n4 d4))) := (HB.out.trans (hb.mono HB.out.size)).setCell h5C _
                      have HZ2 : Hid (W8.heap.size ≤ (World.setCell w81 ⟨CC, 4, .none⟩ (.slice e4 n4 d4)).heap.size) := by
                        have h1 := hb.size
                        show W8.heap.size ≤ _
                        simpa using (show W8.heap.size ≤ w81.heap.size by omega)
                      clear hr hb hFb HF HT HB hsz p4
                      go_upto_region 46 with fail
                      clear c4c c4f
                      generalize hW : (World.setCell w81 ⟨CC, 4, .none⟩ (.slice e4 n4 d4)) = w91 at HF2 HT2 HB2 HZ2 ⊢
                      have HF := Lib.hid HF2.out
                      have HT := Lib.hid HT2.out
                      have HB := Lib.hid HB2.out
                      have hsz := HZ2.out
                      clear hW HF2 HT2 HB2 HZ2
                      have p5 := cell_of_block (heap_below HXW.out HB.out) 5
                      go_wp2_with fail
                      refine (HMAP.out r.cons a5 n5 c5 w91 (HS.out.below HBL5.out).s5 (by omega) (fun x hx => by unfold refsL; simp only [List.mem_append]; exact Or.inl (Or.inr (Or.inr hx))) HB.out HT.out).mono ?_
                      rintro e w82 ⟨v5, rfl, hr, hb⟩
                      obtain ⟨e5, d5, rfl⟩ := ownsN_form hr
                      have hFb := HF.out.below hb
                      have c5c := cell_of_block hFb.var 5
                      have c5f := unfrozen_of_block hFb.var 5
                      have HF2 : Hid (FillR W8.heap.size CC n1 (.slice e1 n2 d1) (.slice va1 done.length vc1) (.slice e3 n3 d3) (.slice e4 n4 d4) (.slice e5 n5 d5)  (r.lats.map (latN num)) (done.map (pairN num)) (r.outs.map (numL num)) (r.bads.map (numL num)) (r.cons.map (numL num))  (World.setCell w82 ⟨CC, 5, .none⟩ (.slice e5 n5 d5))) := hFb.put5 (by rw [List.length_map, HS.out.s5.lenMap]; exact ownsN_base hr hsz)
                      have HT2 : Hid ((World.setCell w82 ⟨CC, 5, .none⟩ (.slice e5 n5 d5)).heap[EE]? = some (.cells (ncells num) 33 (0, 0))) := by
                        show _ = _
                        rw [Below.heap_setCell w82 ⟨CC, 5, .none⟩ _ EE hEC]
                        exact heap_below HT.out hb
                      have HB2 : Hid (Below W5.heap.size W5 (World.setCell w82 ⟨CC, 5, .none⟩ (.slice e5 n5 d5))) := (HB.out.trans (hb.mono HB.out.size)).setCell h5C _
                      have HZ2 : Hid (W8.heap.size ≤ (World.setCell w82 ⟨CC, 5, .none⟩ (.slice e5 n5 d5)).heap.size) := by
                        have h1 := hb.size
                        show W8.heap.size ≤ _
                        simpa using (show W8.heap.size ≤ w82.heap.size by omega)
                      clear hr hb hFb HF HT HB hsz p5
                      go_upto_region 47 with fail
                      clear c5c c5f
                      generalize hW : (World.setCell w82 ⟨CC, 5, .none⟩ (.slice e5 n5 d5)) = w92 at HF2 HT2 HB2 HZ2 ⊢
                      have HF := Lib.hid HF2.out
                      have HT := Lib.hid HT2.out
                      have HB := Lib.hid HB2.out
                      have hsz := HZ2.out
                      clear hW HF2 HT2 HB2 HZ2
                      have hRw := heap_below (heap_below HRW.out (Below.refl W5.heap.size W5)) HB.out
                      have q0 := cell_of_block HF.out.var 0
                      have q1 := cell_of_block HF.out.var 1
                      have q2 := cell_of_block HF.out.var 2
                      have q3 := cell_of_block HF.out.var 3
                      have q4 := cell_of_block HF.out.var 4
                      have q5 := cell_of_block HF.out.var 5
                      have z0 := cell_of_block hRw 0
                      have z1 := cell_of_block hRw 1
                      have z2 := cell_of_block hRw 2
                      have z3 := cell_of_block hRw 3
                      have z4 := cell_of_block hRw 4
                      have z5 := cell_of_block hRw 5
                      have y0 := unfrozen_of_block hRw 0
                      have y1 := unfrozen_of_block hRw 1
                      have y2 := unfrozen_of_block hRw 2
                      have y3 := unfrozen_of_block hRw 3
                      have y4 := unfrozen_of_block hRw 4
                      have y5 := unfrozen_of_block hRw 5
                      have HRR := Lib.hid hRw
                      have HBLL := Lib.hid (ext_trans HBL5.out HB.out)
                      clear hRw
                      go_wp2
                      refine bodyPost_ret (v := .tuple #[cirV n1 ⟨e1, n2, d1, va1, done.length, vc1, e3, n3, d3, e4, n4, d4, e5, n5, d5⟩, .int .i64 0]) ?_ rfl ?_
                      · have h6 := cir_set HRR.out rfl (.int .i64 n1) (.slice e1 n2 d1) (.slice va1 done.length vc1) (.slice e3 n3 d3) (.slice e4 n4 d4) (.slice e5 n5 d5)
                        have g0 := cell_of_block h6 0
                        have g1 := cell_of_block h6 1
                        have g2 := cell_of_block h6 2
                        have g3 := cell_of_block h6 3
                        have g4 := cell_of_block h6 4
                        have g5 := cell_of_block h6 5
                        simp [results, Try.results25, go_sem, g0, g1, g2, g3, g4, g5]
                        rfl
                      · refine ⟨?_, Or.inl ⟨refC r done num, ⟨e1, n2, d1, va1, done.length, vc1, e3, n3, d3, e4, n4, d4, e5, n5, d5⟩, HOK.out, ?_, ?_, ?_⟩⟩
                        · with_reducible exact set6 (w.heap.size + 1) (Nat.le_succ _) HBLL.out
                        · rw [show (refC r done num).ins = (n1 : Int) by unfold refC; simp only; rw [L1.out]]
                        · unfold refC
                          rw [L1.out]
                          exact FillR.sees (s := ⟨e1, n2, d1, va1, done.length, vc1, e3, n3, d3, e4, n4, d4, e5, n5, d5⟩) (G := w.heap.size + 1) HF.out (show w.heap.size + 1 < W8.heap.size by have := heap_lt HRW.out; omega)
                        · exact ⟨by simp only; omega, by simp only; omega, by simp only; omega, by simp only; omega, by simp only; omega⟩
                | true =>
                  clear hfb
                  go_wp2
                  go_loopw [8, 11, 12] (fun nx fd i wi => ∃ (k : Nat) (fb : Bool) (dn : List Tri) (num : List Nat) (vg : Value), k ≤ n6 ∧ i = .int .i64 k ∧ fd = .bool fb ∧ nx = .int .u32 ((1 + (n1 + n2 + dn.length) : Nat) : Int) ∧ dn.length ≤ n6 ∧ Hid (RefI r m n1 W5 W8.heap.size EE CC dn num vg wi) ∧ Hid (fb = false → dn.length = done.length ∧ ∀ j, j < k → readyB r.gates (dn.map (fun g => g.1 / 2)) j = false) ∧ Hid (fb = true → dn.length = done.length + 1))
                    (fun _ _ i _ => n6 - (intOf i).toNat)
                  case atStart => exact ⟨0, false, done, num, vg, Nat.zero_le _, rfl, rfl, rfl, hdn, hI.out, fun _ => ⟨rfl, fun j hj => absurd hj (by omega)⟩, fun h => by cases h⟩
                  case round =>
                    clear hI
                    obtain ⟨k, fb, dn, num, vg, hk, rfl, rfl, rfl, hdn2, hI, hF, hT⟩ := hrel
                    have p6 := cell_of_block (heap_below HXW.out hI.out.bel) 6
                    by_cases hlt : k < n6
                    case neg =>
                      obtain rfl : n6 = k := by omega
                      clear hlt hk
                      go_wp2
                      go_roundw
                      case rel => exact ⟨dn, num, vg, fb, rfl, rfl, hdn2, hI.out, fun h => (hF.out h).2⟩
                      case measure =>
                        cases fb with
                        | false => have := (hF.out rfl).1; simp [intOf, boolN]; omega
                        | true => have := hT.out rfl; simp [intOf, boolN]; omega
                    cases fb with
                    | true =>
                      have hT1 := hT.out rfl
                      clear hT
                      go_wp2
                      go_roundw
                      case rel => exact ⟨dn, num, vg, true, rfl, rfl, hdn2, hI.out, fun h => by cases h⟩
                      case measure => simp [intOf, boolN]; omega
                    | false =>
                      obtain ⟨hdd, hno⟩ := hF.out rfl
                      have HNO := Lib.hid hno
                      have HDD := Lib.hid hdd
                      clear hT hF hno hdd
                      obtain ⟨b, off, rfl, hbw⟩ := HS.out.s6.addr (show 0 < n6 by omega)
                      obtain ⟨qx, qy, qz⟩ := ((HS.out.below HBL5.out).s6.below hI.out.bel).cells k hlt (0, 0, 0)
                      have hgm : gAt r.gates k ∈ r.gates := getD_mem (by rw [L6.out]; exact hlt)
                      obtain ⟨g, hg⟩ : ∃ g, g = r.gates.getD k (0, 0, 0) := ⟨_, rfl⟩
                      rw [← hg] at qx qy qz
                      have hga : gAt r.gates k = g := hg.symm
                      have hva : varAt r.gates k = g.1 / 2 := by unfold varAt; rw [hga]
                      have hl1 : g.1 ≤ 2 * m + 1 := by rw [HM.out, ← hga]; exact HLI.out.owns _ (by unfold ownsL; simp only [List.mem_append, List.mem_map]; exact Or.inr (Or.inr ⟨_, hgm, rfl⟩))
                      have hl2 : g.2.1 ≤ 2 * m + 1 := by rw [HM.out, ← hga]; exact HLI.out.refs _ (by unfold refsL; simp only [List.mem_append, List.mem_flatMap]; exact Or.inr (Or.inr ⟨_, hgm, by simp [gate1]⟩))
                      have hl3 : g.2.2 ≤ 2 * m + 1 := by rw [HM.out, ← hga]; exact HLI.out.refs _ (by unfold refsL; simp only [List.mem_append, List.mem_flatMap]; exact Or.inr (Or.inr ⟨_, hgm, by simp [gate1]⟩))
                      have hrd := hI.out.srch.ready HCX.out (show k < r.gates.length by rw [L6.out]; exact hlt)
                      rw [hga, hva] at hrd
                      have HGA := Lib.hid hga
                      have HVA := Lib.hid hva
                      have HRD := Lib.hid hrd
                      clear hg hga hva hrd hgm
                      obtain ⟨x, y, z⟩ := g
                      unfold nv32 at qx qy qz
                      simp only at hl1 hl2 hl3
                      go_upto_region 28 with fail
                      generalize hW : World.alloc wr _ = Wg
                      have Bg : Below wr.heap.size wr Wg := by subst hW; exact ext_alloc _ _
                      have hG : Wg.heap[wr.heap.size]? = some (.cells #[.int .u32 x, .int .u32 y, .int .u32 z] 59 (0, 0)) := by subst hW; exact heap_new _ _ _ rfl
                      have HIG := Lib.hid (hI.out.below Bg)
                      clear hW qx qy qz p6 hbw
                      have p6 := cell_of_block (heap_below HXW.out HIG.out.bel) 6
                      have r0 : Wg.cell? ⟨wr.heap.size, 0, none⟩ = some (.int .u32 x) := cell_of_block hG 0
                      have r1 : Wg.cell? ⟨wr.heap.size, 1, none⟩ = some (.int .u32 y) := cell_of_block hG 1
                      have r2 : Wg.cell? ⟨wr.heap.size, 2, none⟩ = some (.int .u32 z) := cell_of_block hG 2
                      have D1 : Int.tdiv (x : Int) 2 = ((x / 2 : Nat) : Int) := by rw [Int.tdiv_eq_ediv_of_nonneg (by omega)]; omega
                      have hcV := (cell_of_block HIG.out.tab (x / 2)).trans (ncells_get num (x / 2) (by rw [HIG.out.len]; omega))
                      have hfV := unfrozen_of_block HIG.out.tab (x / 2)
                      obtain ⟨nv, hnv⟩ : ∃ nv, nv = num.getD (x / 2) 0 := ⟨_, rfl⟩
                      rw [← hnv] at hcV HRD
                      obtain ⟨u, hu⟩ : ∃ u, u = x / 2 := ⟨_, rfl⟩
                      have hu3 : u < 16386 := by omega
                      have hum : u < m + 1 := by omega
                      have U1 : IntKind.u32.wrap ((u : Nat) : Int) = (u : Int) := IntWalk.u32_in _ (by omega)
                      rw [← hu] at hcV hfV D1
                      have HU : Hid (varAt r.gates k = u) := by show _ = _; rw [HVA.out, hu]
                      have HG9 := Lib.hid hG
                      have HBG := Lib.hid Bg
                      have W1' : IntKind.i64.wrap ((k : Int) + 1) = (k : Int) + 1 := IntWalk.i64_in _ (by omega)
                      have STEPNO : Hid (readyB r.gates (dn.map (fun g => g.1 / 2)) k = false → ∀ j, j < k + 1 → readyB r.gates (dn.map (fun g => g.1 / 2)) j = false) := fun hq j hj => by
                        rcases Nat.lt_or_ge j k with h | h
                        · exact HNO.out j h
                        · have : j = k := by omega
                          subst this
                          exact hq
                      clear hG Bg hu hnv hI HVA
                      by_cases g0 : nv = 0
                      case neg =>
                        have f0 : ((nv : Int) == 0) = false := by simp; omega
                        have HN := Lib.hid (STEPNO.out (by
                          cases hq : readyB r.gates (dn.map (fun g => g.1 / 2)) k with
                          | false => rfl
                          | true => exact absurd (HRD.out.2 hq).1 g0))
                        clear g0
                        go_wp2
                        go_roundw
                        case rel => exact ⟨k + 1, false, dn, num, vg, by omega, by go_num, rfl, rfl, hdn2, HIG.out, fun _ => ⟨HDD.out, HN.out⟩, fun h => by cases h⟩
                        case measure => simp [intOf]; omega
                      subst g0
                      go_wp2_with fail
                      generalize hW : World.alloc Wg _ = Wh
                      have Bh : Below Wg.heap.size Wg Wh := by subst hW; exact ext_alloc _ _
                      have hsl : Sees Wh (some ⟨Wg.heap.size, 0, none⟩) 2 2 ([y, z].map nv32) := by subst hW; exact sees_lit Wg 33 (0, 0) #[.int .u32 y, .int .u32 z] _ 2 rfl rfl
                      have HIH := Lib.hid (HIG.out.below Bh)
                      have HHV := Lib.hid (have_any num [y, z] _ _ _ _ _ _ Wh (sees_ncells HIH.out.tab HIH.out.len) hsl (by omega) (by omega) (fun v hv => by simp at hv; rcases hv with rfl | rfl <;> omega))
                      have HBH := Lib.hid (ext_trans HBG.out Bh)
                      have HGH := Lib.hid (heap_below HG9.out Bh)
                      clear hW Bh hsl r0 r1 r2 p6 hcV hfV HIG HG9 HBG
                      obtain ⟨q, hq⟩ : ∃ q, q = [y, z].any (lackL num) := ⟨_, rfl⟩
                      rw [← hq] at HHV
                      have HQQ := Lib.hid hq
                      clear hq
                      refine HHV.out.mono ?_
                      rintro e w' ⟨rfl, rfl⟩
                      cases q with
                      | true =>
                        have HN := Lib.hid (STEPNO.out (by
                          cases hq : readyB r.gates (dn.map (fun g => g.1 / 2)) k with
                          | false => rfl
                          | true =>
                            have h2 := (HRD.out.2 hq).2
                            have h3 := HQQ.out
                            rw [show [y, z].any (lackL num) = false from any_false.2 (fun v hv => h2 v (by simpa [gate1] using hv))] at h3
                            cases h3))
                        go_wp2
                        go_roundw
                        case rel => exact ⟨k + 1, false, dn, num, vg, by omega, by go_num, rfl, rfl, hdn2, HIH.out, fun _ => ⟨HDD.out, HN.out⟩, fun h => by cases h⟩
                        case measure => simp [intOf]; omega
                      | false =>
                        have HY : Hid (readyB r.gates (dn.map (fun g => g.1 / 2)) k = true) := HRD.out.1 ⟨trivial, fun v hv => any_false.1 HQQ.out.symm v (by simpa [gate1] using hv)⟩
                        have HLE : Hid (∀ v, num.getD v 0 ≤ 16385) := HIH.out.srch.le HQ.out.symm (by rw [L6.out]; exact hdn2)
                        have HSN := Lib.hid (sees_ncells HIH.out.tab HIH.out.len)
                        have HAB : Hid (∀ v : Nat, v ≤ 2 * m + 1 → ∀ q, Calls Try.prog 66 #[.slice (some ⟨EE, 0, none⟩) (m + 1) (m + 1), .int .u32 (v : Int)] (Wh.drewN q) fun e w' => e = .returned (.int .u32 ((numL num v : Nat) : Int)) ∧ w' = Wh.drewN q) := fun v hv q => by
                          refine (numbered_any num v _ _ _ (Wh.drewN q) (HSN.out.below (ext_drewN Wh q)) (by omega) HLE.out (by omega)).mono ?_
                          rintro e w' ⟨h1, rfl⟩
                          exact ⟨h1, rfl⟩
                        have HA := Lib.hid (HAB.out y hl2)
                        have HB := Lib.hid (HAB.out z hl3)
                        have hb1 : numL num y ≤ 32771 := by have := HLE.out (y / 2); unfold numL; omega
                        have hb2 : numL num z ≤ 32771 := by have := HLE.out (z / 2); unfold numL; omega
                        obtain ⟨ya, hya⟩ : ∃ ya, ya = numL num y := ⟨_, rfl⟩
                        obtain ⟨za, hza⟩ : ∃ za, za = numL num z := ⟨_, rfl⟩
                        rw [← hya] at HA hb1
                        rw [← hza] at HB hb2
                        have HYA := Lib.hid hya
                        have HZA := Lib.hid hza
                        have r0 : Wh.cell? ⟨wr.heap.size, 0, none⟩ = some (.int .u32 x) := cell_of_block HGH.out 0
                        have r1 : Wh.cell? ⟨wr.heap.size, 1, none⟩ = some (.int .u32 y) := cell_of_block HGH.out 1
                        have r2 : Wh.cell? ⟨wr.heap.size, 2, none⟩ = some (.int .u32 z) := cell_of_block HGH.out 2
                        clear hya hza HHV STEPNO HAB HSN HRD HQQ
                        go_upto_region 30 with fail
                        go_quiet ((go_at_call 66; first | with_reducible exact Calls.quiet_of_same (HA.out _) | with_reducible exact Calls.quiet_of_same (HB.out _)))
                        go_upto_region 31 with fail
                        generalize hX1 : World.drewN Wh _ = X1
                        have BX : Below Wh.heap.size Wh X1 := by subst hX1; exact ext_drewN _ _
                        have HIX := Lib.hid (HIH.out.below BX)
                        have HGX := Lib.hid (heap_below HGH.out BX)
                        clear hX1 HIH HGH r0 r1 r2 HA HB BX
                        obtain ⟨va1, vc1, hve⟩ := own2_form HIX.out.row
                        rw [List.length_map] at hve
                        subst hve
                        have r0 : X1.cell? ⟨wr.heap.size, 0, none⟩ = some (.int .u32 x) := cell_of_block HGX.out 0
                        have k2 : X1.cell? ⟨CC, 2, none⟩ = some (.slice va1 dn.length vc1) := cell_of_block HIX.out.var 2
                        obtain ⟨L, hL⟩ : ∃ L, L = prCs nv32 (dn.map (pairN num)) := ⟨_, rfl⟩
                        have hown : X1.ownsRow W8.heap.size 56 2 (.slice va1 dn.length vc1) dn.length L := by
                          have := HIX.out.row
                          unfold own2 at this
                          rw [List.length_map, ← hL] at this
                          exact this
                        have HLL := Lib.hid hL
                        have HOWN := Lib.hid hown
                        have hlow := HIX.out.low
                        clear hL hown
                        go_wp2_with (at_builtin; refine wpList_append_own_at _ rfl _ _ 23 rfl W8.heap.size 56 ig (.agg #[.int .u32 0, .int .u32 0]) 2 8 Try.underlying23 hig hzg0 hzg1 hzg2 rfl (by omega) _ _ L rfl (ownsN_below HOWN.out (ext_alloc _ _)) ⟨X1.heap.size, 0, none⟩ 1 1 [.int .u32 (max (ya : Int) (za : Int)), .int .u32 (min (ya : Int) (za : Int))] rfl rfl ?c1 ?c2 ?c4 ?c5 ?c6 ?_)
                        case c1 => exact World.news_of_block (heap_new X1 (.cells #[.int .u32 (max (ya : Int) (za : Int)), .int .u32 (min (ya : Int) (za : Int))] 56) X1.heap.size rfl)
                        case c2 => first | rfl | exact ⟨rfl, rfl⟩ | (intro u hu; simp at hu; rcases hu with rfl | rfl <;> rfl)
                        case c4 => unfold maxLen; omega
                        case c5 => omega
                        case c6 => simp; omega
                        intro v2 w2 hr2 hg2 _ _
                        obtain ⟨va2, vc2, rfl⟩ := ownsN_form hr2
                        have hIA := HIX.out.below (ext_alloc X1 (.cells #[.int .u32 (max (ya : Int) (za : Int)), .int .u32 (min (ya : Int) (za : Int))] 56))
                        have hC2 := heap_grown hIA.var hg2 (ownsN_notown hIA.row hIA.var (by decide))
                        have hE2 := heap_grown hIA.tab hg2 (ownsN_notown hIA.row hIA.tab (by decide))
                        have hG2 := heap_grown (heap_below HGX.out (ext_alloc X1 (.cells #[.int .u32 (max (ya : Int) (za : Int)), .int .u32 (min (ya : Int) (za : Int))] 56))) hg2 (ownsN_notown hIA.row (heap_below HGX.out (ext_alloc X1 _)) (by decide))
                        have s1 : w2.cell? ⟨CC, 2, none⟩ = some (.slice va1 dn.length vc1) := cell_of_block hC2 2
                        have s2 : w2.frozen? ⟨CC, 2, none⟩ = false := unfrozen_of_block hC2 2
                        have s3 : w2.frozen? ⟨EE, u, none⟩ = false := unfrozen_of_block hE2 u
                        have s4 := (cell_of_block hE2 u).trans (ncells_get num u (by rw [HIX.out.len]; exact hum))
                        have s5 : w2.cell? ⟨wr.heap.size, 0, none⟩ = some (.int .u32 x) := cell_of_block hG2 0
                        have HSTEP := Lib.hid (RefI.step (i := k) (nx := 1 + (n1 + n2 + dn.length)) (a := max ya za) (b := min ya za) HCX.out hIA hEC h5E h5C h58 hg2 hr2 rfl (by
                          rw [HLL.out]
                          unfold nv32
                          rw [show ((max ya za : Nat) : Int) = max (ya : Int) (za : Int) by omega, show ((min ya za : Nat) : Int) = min (ya : Int) (za : Int) by omega]) (by rw [HGA.out, HYA.out, HZA.out]; rfl) (by rw [L6.out]; exact hlt) HNO.out HY.out (by rw [L1.out, L2.out]) hC8 hEB)
                        rw [HU.out] at HSTEP
                        have hle : dn.length + 1 ≤ n6 := by
                          have := (HIX.out.srch.step HCX.out (show k < r.gates.length by rw [L6.out]; exact hlt) HNO.out HY.out).2.2
                          rw [L6.out] at this
                          exact this
                        have hne : wr.heap.size ≠ CC := fun e => by have := HIX.out.var; rw [← e, HGX.out] at this; injection this with h2; injection h2 with _ h3; exact absurd h3 (by decide)
                        have hne2 : wr.heap.size ≠ EE := fun e => by have := HIX.out.tab; rw [← e, HGX.out] at this; injection this with h2; injection h2 with _ h3; exact absurd h3 (by decide)
                        clear hIA hC2 hE2 hG2 hr2 hg2 k2 r0 HIX HOWN
                        rw [show ((1 + (n1 + n2 + dn.length) : Nat) : Int) = 1 + ((n1 : Int) + n2 + dn.length) by omega] at HSTEP
                        have W3' : IntKind.u32.wrap (1 + ((n1 : Int) + n2 + dn.length) + 1) = 1 + ((n1 : Int) + n2 + dn.length) + 1 := IntWalk.u32_in _ (by omega)
                        go_wp2
                        go_roundw
                        case rel => exact ⟨k + 1, true, dn ++ [gAt r.gates k], num.set u (1 + (n1 + n2 + dn.length)), .slice va2 (dn.length + 1) vc2, by omega, by go_num, rfl, by simp; omega, by simpa using hle, HSTEP.out, (fun h => by cases h), (fun _ => by simp [HDD.out])⟩
                        case measure => simp [intOf]; omega
end Go.Proofs.Ytkbdebdhebphpaa
/- norm.Same: are two circuits the same? -/
namespace Go.Proofs.Ytkbdebdhebphpaa
open Go Go.RowKit Go.Joins

theorem list_eq_dec {α : Type} [DecidableEq α] {xs ys : List α} {q : Bool} (h : q = decide (xs = ys)) : (xs = ys → q = true) ∧ (xs ≠ ys → q = false) := by
  subst h
  exact ⟨fun e => by simpa using e, fun e => by simpa using e⟩


set_option maxRecDepth 100000 in
set_option maxHeartbeats 3200000 in
theorem eql_lat (xs ys : List (Nat × Nat)) (a a' : Option Addr) (n c n' c' : Nat) (w : World) (h : Sees2 nv8 w a n c xs) (h' : Sees2 nv8 w a' n' c' ys) (hn : n ≤ 1048576) :
    Calls Try.prog 42 #[.slice a n c, .slice a' n' c'] w fun e w' => e = .returned (.bool (decide (xs = ys))) ∧ Below w.heap.size w w' := by
  obtain ⟨q, hq⟩ : ∃ q, q = decide (xs = ys) := ⟨_, rfl⟩
  rw [← hq]
  have HY := Lib.hid (list_eq_dec hq).1
  have HNO := Lib.hid (list_eq_dec hq).2
  have L := Lib.hid h.1
  have L' := Lib.hid h'.1
  have HS := Lib.hid h
  have HS' := Lib.hid h'
  clear hq h h'
  by_cases h1 : n = n'
  case neg =>
    have e0 : ((n : Int) == (n' : Int)) = false := by simp; omega
    have e0' : ((n : Int) != (n' : Int)) = true := by simp; omega
    have HF : Hid (q = false) := HNO.out fun e => h1 (by rw [← L.out, ← L'.out, e])
    have H0 := Lib.hid h1
    clear h1
    go_enter Try.func42, Try.ntmps42
    go_wp2
    go_ret
    exact ⟨by rw [HF.out]; rfl, Below.refl _ _⟩
  subst h1
  go_enter Try.func42, Try.ntmps42
  go_wp2
  go_loopw [13] (fun i wr => ∃ k : Nat, k ≤ n ∧ i = .int .i64 k ∧ Hid (∀ j, j < k → xs.getD j (0, 0) = ys.getD j (0, 0)) ∧ Hid (Below w.heap.size w wr))
    (fun i _ => n - (intOf i).toNat)
  case atStart => exact ⟨0, Nat.zero_le _, rfl, fun j hj => absurd hj (by omega), Below.refl _ _⟩
  case round =>
    obtain ⟨k, hk, rfl, hno, hb⟩ := hrel
    by_cases hlt : k < n
    · obtain ⟨b, off, rfl, hbw⟩ := HS.out.addr (show 0 < n by omega)
      obtain ⟨b', off', rfl, hbw'⟩ := HS'.out.addr (show 0 < n by omega)
      obtain ⟨qx, qy⟩ := (HS.out.below hb.out).cells k hlt (0, 0)
      obtain ⟨qx', qy'⟩ := (HS'.out.below hb.out).cells k hlt (0, 0)
      obtain ⟨t, ht⟩ : ∃ t, t = xs.getD k (0, 0) := ⟨_, rfl⟩
      obtain ⟨t', ht'⟩ : ∃ t, t = ys.getD k (0, 0) := ⟨_, rfl⟩
      rw [← ht] at qx qy
      rw [← ht'] at qx' qy'
      have HT := Lib.hid ht
      have HT' := Lib.hid ht'
      clear ht ht'
      obtain ⟨x, y⟩ := t
      obtain ⟨x', y'⟩ := t'
      simp only [nv32, nv8] at qx qy qx' qy'
      have W1 : IntKind.i64.wrap ((k : Int) + 1) = (k : Int) + 1 := IntWalk.i64_in _ (by omega)
      by_cases hxy : x = x' ∧ y = y'
      · obtain ⟨rfl, rfl⟩ := hxy
        go_wp2
        go_quiet (fail)
        go_wp2
        go_roundw
        case rel =>
          rename_i nq
          refine ⟨k + 1, by omega, by go_num, fun j hj => ?_, ext_trans hb.out (ext_drewN _ nq)⟩
          rcases Nat.lt_or_ge j k with h | h
          · exact hno.out j h
          · have : j = k := by omega
            subst this
            rw [← HT.out, ← HT'.out]
        case measure => simp [intOf]; omega
      · have HF : Hid (q = false) := HNO.out fun e => hxy (by
          have h1 := HT.out
          have h2 := HT'.out
          rw [← e, ← h1] at h2
          cases h2
          exact ⟨rfl, rfl⟩)
        by_cases hx1 : x = x'
        · subst hx1
          have e1 : ((y : Int) == (y' : Int)) = false := by simp; omega
          have e2 : ((y : Int) != (y' : Int)) = true := by simp; omega
          have e3 : ((y : Int) = (y' : Int)) = False := by simp; omega
          have HXY := Lib.hid hxy
          clear hxy
          go_wp2
          go_quiet (fail)
          go_wp2
          go_ret
          rename_i nq
          exact ⟨by rw [HF.out]; rfl, ext_trans hb.out (ext_drewN _ nq)⟩
        · have e1 : ((x : Int) == (x' : Int)) = false := by simp; omega
          have e2 : ((x : Int) != (x' : Int)) = true := by simp; omega
          have e3 : ((x : Int) = (x' : Int)) = False := by simp; omega
          have HXY := Lib.hid hxy
          have HX1 := Lib.hid hx1
          clear hxy hx1
          go_wp2
          go_quiet (fail)
          go_wp2
          go_ret
          rename_i nq
          exact ⟨by rw [HF.out]; rfl, ext_trans hb.out (ext_drewN _ nq)⟩
    · obtain rfl : n = k := by omega
      have HEQ : Hid (q = true) := HY.out (list_eq_of (d := ((0, 0) : Nat × Nat)) L.out L'.out hno.out)
      have HB := Lib.hid hb.out
      clear hlt hk hb hno
      go_wp2
      go_ret
      exact ⟨by rw [HEQ.out]; rfl, HB.out⟩

set_option maxRecDepth 100000 in
set_option maxHeartbeats 3200000 in
theorem eql_gate (xs ys : List (Nat × Nat)) (a a' : Option Addr) (n c n' c' : Nat) (w : World) (h : Sees2 nv32 w a n c xs) (h' : Sees2 nv32 w a' n' c' ys) (hn : n ≤ 1048576) :
    Calls Try.prog 43 #[.slice a n c, .slice a' n' c'] w fun e w' => e = .returned (.bool (decide (xs = ys))) ∧ Below w.heap.size w w' := by
  obtain ⟨q, hq⟩ : ∃ q, q = decide (xs = ys) := ⟨_, rfl⟩
  rw [← hq]
  have HY := Lib.hid (list_eq_dec hq).1
  have HNO := Lib.hid (list_eq_dec hq).2
  have L := Lib.hid h.1
  have L' := Lib.hid h'.1
  have HS := Lib.hid h
  have HS' := Lib.hid h'
  clear hq h h'
  by_cases h1 : n = n'
  case neg =>
    have e0 : ((n : Int) == (n' : Int)) = false := by simp; omega
    have e0' : ((n : Int) != (n' : Int)) = true := by simp; omega
    have HF : Hid (q = false) := HNO.out fun e => h1 (by rw [← L.out, ← L'.out, e])
    have H0 := Lib.hid h1
    clear h1
    go_enter Try.func43, Try.ntmps43
    go_wp2
    go_ret
    exact ⟨by rw [HF.out]; rfl, Below.refl _ _⟩
  subst h1
  go_enter Try.func43, Try.ntmps43
  go_wp2
  go_loopw [13] (fun i wr => ∃ k : Nat, k ≤ n ∧ i = .int .i64 k ∧ Hid (∀ j, j < k → xs.getD j (0, 0) = ys.getD j (0, 0)) ∧ Hid (Below w.heap.size w wr))
    (fun i _ => n - (intOf i).toNat)
  case atStart => exact ⟨0, Nat.zero_le _, rfl, fun j hj => absurd hj (by omega), Below.refl _ _⟩
  case round =>
    obtain ⟨k, hk, rfl, hno, hb⟩ := hrel
    by_cases hlt : k < n
    · obtain ⟨b, off, rfl, hbw⟩ := HS.out.addr (show 0 < n by omega)
      obtain ⟨b', off', rfl, hbw'⟩ := HS'.out.addr (show 0 < n by omega)
      obtain ⟨qx, qy⟩ := (HS.out.below hb.out).cells k hlt (0, 0)
      obtain ⟨qx', qy'⟩ := (HS'.out.below hb.out).cells k hlt (0, 0)
      obtain ⟨t, ht⟩ : ∃ t, t = xs.getD k (0, 0) := ⟨_, rfl⟩
      obtain ⟨t', ht'⟩ : ∃ t, t = ys.getD k (0, 0) := ⟨_, rfl⟩
      rw [← ht] at qx qy
      rw [← ht'] at qx' qy'
      have HT := Lib.hid ht
      have HT' := Lib.hid ht'
      clear ht ht'
      obtain ⟨x, y⟩ := t
      obtain ⟨x', y'⟩ := t'
      simp only [nv32] at qx qy qx' qy'
      have W1 : IntKind.i64.wrap ((k : Int) + 1) = (k : Int) + 1 := IntWalk.i64_in _ (by omega)
      by_cases hxy : x = x' ∧ y = y'
      · obtain ⟨rfl, rfl⟩ := hxy
        go_wp2
        go_quiet (fail)
        go_wp2
        go_roundw
        case rel =>
          rename_i nq
          refine ⟨k + 1, by omega, by go_num, fun j hj => ?_, ext_trans hb.out (ext_drewN _ nq)⟩
          rcases Nat.lt_or_ge j k with h | h
          · exact hno.out j h
          · have : j = k := by omega
            subst this
            rw [← HT.out, ← HT'.out]
        case measure => simp [intOf]; omega
      · have HF : Hid (q = false) := HNO.out fun e => hxy (by
          have h1 := HT.out
          have h2 := HT'.out
          rw [← e, ← h1] at h2
          cases h2
          exact ⟨rfl, rfl⟩)
        by_cases hx1 : x = x'
        · subst hx1
          have e1 : ((y : Int) == (y' : Int)) = false := by simp; omega
          have e2 : ((y : Int) != (y' : Int)) = true := by simp; omega
          have e3 : ((y : Int) = (y' : Int)) = False := by simp; omega
          have HXY := Lib.hid hxy
          clear hxy
          go_wp2
          go_quiet (fail)
          go_wp2
          go_ret
          rename_i nq
          exact ⟨by rw [HF.out]; rfl, ext_trans hb.out (ext_drewN _ nq)⟩
        · have e1 : ((x : Int) == (x' : Int)) = false := by simp; omega
          have e2 : ((x : Int) != (x' : Int)) = true := by simp; omega
          have e3 : ((x : Int) = (x' : Int)) = False := by simp; omega
          have HXY := Lib.hid hxy
          have HX1 := Lib.hid hx1
          clear hxy hx1
          go_wp2
          go_quiet (fail)
          go_wp2
          go_ret
          rename_i nq
          exact ⟨by rw [HF.out]; rfl, ext_trans hb.out (ext_drewN _ nq)⟩
    · obtain rfl : n = k := by omega
      have HEQ : Hid (q = true) := HY.out (list_eq_of (d := ((0, 0) : Nat × Nat)) L.out L'.out hno.out)
      have HB := Lib.hid hb.out
      clear hlt hk hb hno
      go_wp2
      go_ret
      exact ⟨by rw [HEQ.out]; rfl, HB.out⟩

set_option maxRecDepth 100000 in
set_option maxHeartbeats 3200000 in
theorem eql_u32 (xs ys : List Nat) (a a' : Option Addr) (n c n' c' : Nat) (w : World) (h : Sees w a n c (xs.map nv32)) (h' : Sees w a' n' c' (ys.map nv32)) (hn : n ≤ 1048576) :
    Calls Try.prog 44 #[.slice a n c, .slice a' n' c'] w fun e w' => e = .returned (.bool (decide (xs = ys))) ∧ Below w.heap.size w w' := by
  obtain ⟨q, hq⟩ : ∃ q, q = decide (xs = ys) := ⟨_, rfl⟩
  rw [← hq]
  have HY := Lib.hid (list_eq_dec hq).1
  have HNO := Lib.hid (list_eq_dec hq).2
  have L := Lib.hid h.lenMap
  have L' := Lib.hid h'.lenMap
  have HS := Lib.hid h
  have HS' := Lib.hid h'
  clear hq h h'
  by_cases h1 : n = n'
  case neg =>
    have e0 : ((n : Int) == (n' : Int)) = false := by simp; omega
    have e0' : ((n : Int) != (n' : Int)) = true := by simp; omega
    have HF : Hid (q = false) := HNO.out fun e => h1 (by rw [← L.out, ← L'.out, e])
    have H0 := Lib.hid h1
    clear h1
    go_enter Try.func44, Try.ntmps44
    go_wp2
    go_ret
    exact ⟨by rw [HF.out]; rfl, Below.refl _ _⟩
  subst h1
  go_enter Try.func44, Try.ntmps44
  go_wp2
  go_loopw [13] (fun i wr => ∃ k : Nat, k ≤ n ∧ i = .int .i64 k ∧ Hid (∀ j, j < k → xs.getD j 0 = ys.getD j 0) ∧ Hid (Below w.heap.size w wr))
    (fun i _ => n - (intOf i).toNat)
  case atStart => exact ⟨0, Nat.zero_le _, rfl, fun j hj => absurd hj (by omega), Below.refl _ _⟩
  case round =>
    obtain ⟨k, hk, rfl, hno, hb⟩ := hrel
    by_cases hlt : k < n
    · obtain ⟨b, off, rfl, hbw⟩ := HS.out.addr (show 0 < n by omega)
      obtain ⟨b', off', rfl, hbw'⟩ := HS'.out.addr (show 0 < n by omega)
      have qx := (HS.out.below hb.out).num k hlt
      have qx' := (HS'.out.below hb.out).num k hlt
      obtain ⟨x, hx⟩ : ∃ t, t = xs.getD k 0 := ⟨_, rfl⟩
      obtain ⟨x', hx'⟩ : ∃ t, t = ys.getD k 0 := ⟨_, rfl⟩
      rw [← hx] at qx
      rw [← hx'] at qx'
      have HT := Lib.hid hx
      have HT' := Lib.hid hx'
      clear hx hx'
      have W1 : IntKind.i64.wrap ((k : Int) + 1) = (k : Int) + 1 := IntWalk.i64_in _ (by omega)
      by_cases hxy : x = x'
      · subst hxy
        go_wp2
        go_quiet (fail)
        go_wp2
        go_roundw
        case rel =>
          rename_i nq
          refine ⟨k + 1, by omega, by go_num, fun j hj => ?_, ext_trans hb.out (ext_drewN _ nq)⟩
          rcases Nat.lt_or_ge j k with h | h
          · exact hno.out j h
          · have : j = k := by omega
            subst this
            rw [← HT.out, ← HT'.out]
        case measure => simp [intOf]; omega
      · have HF : Hid (q = false) := HNO.out fun e => hxy (by
          have h1 := HT.out
          have h2 := HT'.out
          rw [← e, ← h1] at h2
          exact h2.symm)
        have e1 : ((x : Int) == (x' : Int)) = false := by simp; omega
        have e2 : ((x : Int) != (x' : Int)) = true := by simp; omega
        have e3 : ((x : Int) = (x' : Int)) = False := by simp; omega
        have HXY := Lib.hid hxy
        clear hxy
        go_wp2
        go_quiet (fail)
        go_wp2
        go_ret
        rename_i nq
        exact ⟨by rw [HF.out]; rfl, ext_trans hb.out (ext_drewN _ nq)⟩
    · obtain rfl : n = k := by omega
      have HEQ : Hid (q = true) := HY.out (list_eq_of (d := 0) L.out L'.out hno.out)
      have HB := Lib.hid hb.out
      clear hlt hk hb hno
      go_wp2
      go_ret
      exact ⟨by rw [HEQ.out]; rfl, HB.out⟩
end Go.Proofs.Ytkbdebdhebphpaa
/- norm.Same: are two circuits the same? -/
namespace Go.Proofs.Ytkbdebdhebphpaa
open Go Go.RowKit Go.Joins

theorem normC_eq {c d : NormC} (h0 : c.ins = d.ins) (h1 : c.lats = d.lats) (h2 : c.gates = d.gates) (h3 : c.outs = d.outs) (h4 : c.bads = d.bads) (h5 : c.cons = d.cons) : c = d := by
  cases c; cases d
  simp only at h0 h1 h2 h3 h4 h5
  subst h0; subst h1; subst h2; subst h3; subst h4; subst h5
  rfl

set_option maxRecDepth 100000 in
set_option maxHeartbeats 3200000 in
theorem same_any (c d : NormC) (s s' : CSlots) (w : World) (h : SeesCir w s c) (h' : SeesCir w s' d) (hs : s.small) :
    Calls Try.prog 15 #[cirV c.ins s, cirV d.ins s'] w fun e w' => e = .returned (.bool (decide (c = d))) ∧ Below w.heap.size w w' := by
  obtain ⟨a1, n1, c1, a2, n2, c2, a3, n3, c3, a4, n4, c4, a5, n5, c5⟩ := s
  obtain ⟨a1', n1', c1', a2', n2', c2', a3', n3', c3', a4', n4', c4', a5', n5', c5'⟩ := s'
  obtain ⟨hs1, hs2, hs3, hs4, hs5⟩ := hs
  simp only at hs1 hs2 hs3 hs4 hs5
  obtain ⟨q, hq⟩ : ∃ q, q = decide (c = d) := ⟨_, rfl⟩
  rw [← hq]
  have HY : Hid (c = d → q = true) := fun e => by rw [hq]; exact decide_eq_true e
  have HNO : Hid (c ≠ d → q = false) := fun e => by rw [hq]; exact decide_eq_false e
  obtain ⟨z, hz⟩ : ∃ z, z = c.ins := ⟨_, rfl⟩
  obtain ⟨z', hz'⟩ : ∃ z, z = d.ins := ⟨_, rfl⟩
  rw [← hz, ← hz']
  have HZ := Lib.hid hz
  have HZ' := Lib.hid hz'
  have HS := Lib.hid h
  have HS' := Lib.hid h'
  clear hq h h' hz hz'
  unfold cirV
  by_cases h0 : z = z'
  case neg =>
    have e0 : (z == z') = false := by simpa using h0
    have e0' : (z = z') = False := by simpa using h0
    have HF : Hid (q = false) := HNO.out fun e => h0 (by rw [HZ.out, HZ'.out, e])
    have H0 := Lib.hid h0
    clear h0
    go_enter Try.func15, Try.ntmps15
    go_wp2
    go_ret
    exact ⟨by rw [HF.out]; rfl, ext_trans (ext_alloc _ _) (ext_alloc _ _)⟩
  subst h0
  go_enter Try.func15, Try.ntmps15
  go_upto_region 1 with fail
  generalize hW : World.alloc (World.alloc w _) _ = W0
  have hb : Below w.heap.size w W0 := by subst hW; exact ext_trans (ext_alloc _ _) (ext_alloc _ _)
  have hx : W0.heap[w.heap.size]? = some (.cells #[.int .i64 z, .slice a1 n1 c1, .slice a2 n2 c2, .slice a3 n3 c3, .slice a4 n4 c4, .slice a5 n5 c5] 26 (0, 0)) := by
    subst hW; exact heap_below (heap_new _ _ _ rfl) (ext_alloc _ _)
  have hy : W0.heap[w.heap.size + 1]? = some (.cells #[.int .i64 z, .slice a1' n1' c1', .slice a2' n2' c2', .slice a3' n3' c3', .slice a4' n4' c4', .slice a5' n5' c5'] 26 (0, 0)) := by
    subst hW; exact heap_new _ _ _ (by simp)
  have B0 := Lib.hid hb
  have X0 := Lib.hid hx
  have Y0 := Lib.hid hy
  clear hW hb hx hy
  have px0 := cell_of_block X0.out 0
  have py0 := cell_of_block Y0.out 0
  have px1 := cell_of_block X0.out 1
  have py1 := cell_of_block Y0.out 1
  go_wp2_with fail
  clear px0 py0
  refine (eql_lat c.lats d.lats a1 a1' n1 c1 n1' c1' W0 (HS.out.below B0.out).s1 (HS'.out.below B0.out).s1 hs1).mono ?_
  rintro e W1 ⟨rfl, hb⟩
  have B1 := Lib.hid (ext_trans B0.out hb)
  have X1 := Lib.hid (heap_below X0.out hb)
  have Y1 := Lib.hid (heap_below Y0.out hb)
  clear hb px1 py1
  by_cases h1 : c.lats = d.lats
  case neg =>
    have HF : Hid (q = false) := HNO.out fun e => h1 (by rw [e])
    rw [decide_eq_false h1]
    clear h1
    go_wp2
    go_ret
    exact ⟨by rw [HF.out]; rfl, B1.out⟩
  rw [decide_eq_true h1]
  have H1 := Lib.hid h1
  clear h1
  have px2 := cell_of_block X1.out 2
  have py2 := cell_of_block Y1.out 2
  go_wp2_with fail
  refine (eql_gate c.gates d.gates a2 a2' n2 c2 n2' c2' W1 (HS.out.below B1.out).s2 (HS'.out.below B1.out).s2 hs2).mono ?_
  rintro e W2 ⟨rfl, hb⟩
  have B2 := Lib.hid (ext_trans B1.out hb)
  have X2 := Lib.hid (heap_below X1.out hb)
  have Y2 := Lib.hid (heap_below Y1.out hb)
  clear hb px2 py2
  by_cases h2 : c.gates = d.gates
  case neg =>
    have HF : Hid (q = false) := HNO.out fun e => h2 (by rw [e])
    rw [decide_eq_false h2]
    clear h2
    go_wp2
    go_ret
    exact ⟨by rw [HF.out]; rfl, B2.out⟩
  rw [decide_eq_true h2]
  have H2 := Lib.hid h2
  clear h2
  have px3 := cell_of_block X2.out 3
  have py3 := cell_of_block Y2.out 3
  go_wp2_with fail
  refine (eql_u32 c.outs d.outs a3 a3' n3 c3 n3' c3' W2 (HS.out.below B2.out).s3 (HS'.out.below B2.out).s3 hs3).mono ?_
  rintro e W3 ⟨rfl, hb⟩
  have B3 := Lib.hid (ext_trans B2.out hb)
  have X3 := Lib.hid (heap_below X2.out hb)
  have Y3 := Lib.hid (heap_below Y2.out hb)
  clear hb px3 py3
  by_cases h3 : c.outs = d.outs
  case neg =>
    have HF : Hid (q = false) := HNO.out fun e => h3 (by rw [e])
    rw [decide_eq_false h3]
    clear h3
    go_wp2
    go_ret
    exact ⟨by rw [HF.out]; rfl, B3.out⟩
  rw [decide_eq_true h3]
  have H3 := Lib.hid h3
  clear h3
  have px4 := cell_of_block X3.out 4
  have py4 := cell_of_block Y3.out 4
  go_wp2_with fail
  refine (eql_u32 c.bads d.bads a4 a4' n4 c4 n4' c4' W3 (HS.out.below B3.out).s4 (HS'.out.below B3.out).s4 hs4).mono ?_
  rintro e W4 ⟨rfl, hb⟩
  have B4 := Lib.hid (ext_trans B3.out hb)
  have X4 := Lib.hid (heap_below X3.out hb)
  have Y4 := Lib.hid (heap_below Y3.out hb)
  clear hb px4 py4
  by_cases h4 : c.bads = d.bads
  case neg =>
    have HF : Hid (q = false) := HNO.out fun e => h4 (by rw [e])
    rw [decide_eq_false h4]
    clear h4
    go_wp2
    go_ret
    exact ⟨by rw [HF.out]; rfl, B4.out⟩
  rw [decide_eq_true h4]
  have H4 := Lib.hid h4
  clear h4
  have px5 := cell_of_block X4.out 5
  have py5 := cell_of_block Y4.out 5
  go_wp2_with fail
  refine (eql_u32 c.cons d.cons a5 a5' n5 c5 n5' c5' W4 (HS.out.below B4.out).s5 (HS'.out.below B4.out).s5 hs5).mono ?_
  rintro e W5 ⟨rfl, hb⟩
  have B5 := Lib.hid (ext_trans B4.out hb)
  have X5 := Lib.hid (heap_below X4.out hb)
  have Y5 := Lib.hid (heap_below Y4.out hb)
  clear hb px5 py5
  by_cases h5 : c.cons = d.cons
  case neg =>
    have HF : Hid (q = false) := HNO.out fun e => h5 (by rw [e])
    rw [decide_eq_false h5]
    clear h5
    go_wp2
    go_ret
    exact ⟨by rw [HF.out]; rfl, B5.out⟩
  rw [decide_eq_true h5]
  have H5 := Lib.hid h5
  clear h5
  have HQ : Hid (q = true) := HY.out (normC_eq (by rw [← HZ.out, ← HZ'.out]) H1.out H2.out H3.out H4.out H5.out)
  go_wp2
  go_ret
  exact ⟨by rw [HQ.out]; rfl, B5.out⟩
end Go.Proofs.Ytkbdebdhebphpaa
namespace Go.Proofs.Ytkbdebdhebphpaa
open Go Go.RowKit Go.Joins

def errC (r : RawC) : Int := match ofS r with | .ok _ => 0 | .error er => er
theorem of_both (r : RawC) (s : Slots) (w : World) (h : SeesRaw w s r) (hf : s.small) :
    Calls Try.prog 24 #[rawV r.max s] w fun e w' => ∃ s' : CSlots, e = .returned (.tuple #[.agg (cirCells (ofC r).ins s'), .int .i64 (errC r)]) ∧ SeesCir w' s' (ofC r) ∧ s'.small ∧ Below w.heap.size w w' := by
  refine (of_any r s w h hf).mono fun e w' ⟨hb, hcase⟩ => ?_
  have hsm := ofC_small r
  unfold errC
  unfold ofC at hsm ⊢
  rcases hcase with ⟨c, s', h1, he, ho⟩ | ⟨er, h1, _, he⟩
  · rw [h1] at hsm ⊢
    exact ⟨s', he, ho.sees, ho.small hsm, hb⟩
  · rw [h1]
    exact ⟨⟨none, 0, 0, none, 0, 0, none, 0, 0, none, 0, 0, none, 0, 0⟩, he, (show OwnCir w' 0 _ _ from ⟨own2_nil _ _ _ _, own2_nil _ _ _ _, Row.nil _ _ _ _, Row.nil _ _ _ _, Row.nil _ _ _ _⟩).sees, ⟨by simp, by simp, by simp, by simp, by simp⟩, hb⟩
theorem refof_both (r : RawC) (s : Slots) (w : World) (h : SeesRaw w s r) (hf : s.small) :
    Calls Try.prog 25 #[rawV r.max s] w fun e w' => ∃ s' : CSlots, e = .returned (.tuple #[.agg (cirCells (ofC r).ins s'), .int .i64 (errC r)]) ∧ SeesCir w' s' (ofC r) ∧ s'.small ∧ Below w.heap.size w w' := by
  refine (refof_any r s w h hf).mono fun e w' ⟨hb, hcase⟩ => ?_
  unfold ofC errC
  rcases hcase with ⟨c, s', h1, he, ho, hs⟩ | ⟨er, h1, _, he⟩
  · rw [h1]
    exact ⟨s', he, ho, hs, hb⟩
  · rw [h1]
    exact ⟨⟨none, 0, 0, none, 0, 0, none, 0, 0, none, 0, 0, none, 0, 0⟩, he, (show OwnCir w' 0 _ _ from ⟨own2_nil _ _ _ _, own2_nil _ _ _ _, Row.nil _ _ _ _, Row.nil _ _ _ _, Row.nil _ _ _ _⟩).sees, ⟨by simp, by simp, by simp, by simp, by simp⟩, hb⟩
theorem ofS_err {r : RawC} {er : Int} (h : ofS r = .error er) : er ≠ 0 := by
  unfold ofS at h
  split at h
  · cases h; decide
  · split at h
    · cases h; decide
    · split at h
      · cases h; decide
      · split at h
        · cases h; decide
        · cases h
theorem errC_ok {r : RawC} (h : errC r = 0) : ofS r = .ok (ofC r) := by
  unfold errC at h
  unfold ofC
  cases e : ofS r with
  | ok c => rfl
  | error er => rw [e] at h; exact absurd h (ofS_err e)
theorem MayC.wide {c : NormC} (h : MayC c) : Wide c := by
  have hf := h.few
  refine ⟨fun p hp => ?_, fun p hp => ?_, fun x hx => ?_, fun x hx => ?_, fun x hx => ?_⟩
  · have := h.lats p hp; omega
  · obtain ⟨k, hk, rfl⟩ := List.getElem_of_mem hp
    have := h.gates k hk
    simp only [List.getD, List.getElem?_eq_getElem hk, Option.getD_some] at this
    unfold varsN at hf
    omega
  · have := h.outs x hx; omega
  · have := h.bads x hx; omega
  · have := h.cons x hx; omega
theorem raw_small {c : NormC} (h : MayC c) {w : World} {s : Slots} (hs : SeesRaw w s (rawS c)) : s.small := by
  have hf := h.few
  have hl := h.lens
  unfold varsN at hf
  have e1 := hs.s1.lenMap
  have e2 := hs.s2.1
  have e3 := hs.s3.lenMap
  have e4 := hs.s4.lenMap
  have e5 := hs.s5.lenMap
  have e6 := hs.s6.1
  unfold rawS at e1 e2 e3 e4 e5 e6
  simp only [List.length_map, List.length_range, upFrom_len] at e1 e2 e3 e4 e5 e6
  exact ⟨by omega, by omega, by omega, by omega, by omega, by omega⟩
theorem raw_of (c : NormC) (hm : MayC c) (s : CSlots) (w : World) (h : SeesCir w s c) (hs : s.small) :
    Calls Try.prog 9 #[.agg (cirCells c.ins s)] w fun e w' => ∃ s9 : Slots, e = .returned (.tuple #[.agg (rawCells9 (varsN c) s9), .int .i64 0]) ∧ SeesRaw w' s9 (rawS c) ∧ s9.small ∧ Below w.heap.size w w' := by
  have hp := hm.pos
  have hf := hm.few
  unfold varsN at hf
  refine (raw3_any c s w h hs (by omega) (by omega) hm.wide).mono fun e w' ⟨hb, hcase⟩ => ?_
  rcases hcase with ⟨_, s9, he, hs9, _, _⟩ | ⟨hm', _⟩
  · exact ⟨s9, he, hs9, raw_small hm hs9, hb⟩
  · rw [mayC_iff.2 hm] at hm'
    cases hm'
theorem may_of (c : NormC) (hm : MayC c) (s : CSlots) (w : World) (h : SeesCir w s c) (hs : s.small) :
    Calls Try.prog 11 #[.agg (cirCells c.ins s)] w fun e w' => e = .returned (.bool true) ∧ Below w.heap.size w w' := by
  have hp := hm.pos
  have hf := hm.few
  unfold varsN at hf
  have h1 := may3_any c s w h hs (by omega) (by omega)
  rw [mayC_iff.2 hm] at h1
  exact h1
theorem same_of (c : NormC) (s s' : CSlots) (w : World) (h : SeesCir w s c) (h' : SeesCir w s' c) (hs : s.small) :
    Calls Try.prog 15 #[.agg (cirCells c.ins s), .agg (cirCells c.ins s')] w fun e w' => e = .returned (.bool true) ∧ Below w.heap.size w w' := by
  have h1 := same_any c c s s' w h h' hs
  rw [decide_eq_true (rfl : c = c)] at h1
  exact h1
theorem samec_of (c : NormC) (s s' : CSlots) (w : World) (h : SeesCir w s c) (h' : SeesCir w s' c) (hs : s.small) (hs' : s'.small) :
    Calls Try.prog 16 #[.agg (cirCells c.ins s), .agg (cirCells c.ins s')] w fun e w' => e = .returned (.bool true) ∧ Below w.heap.size w w' := by
  have h1 := samec_any c c s s' w h h' hs hs'
  rw [decide_eq_true (rfl : c = c)] at h1
  exact h1
/-- Of of Raw of what Of answers. -/
theorem of_again (c : NormC) (hm : MayC c) (s : Slots) (w : World) (h : SeesRaw w s (rawS c)) (hf : s.small) :
    Calls Try.prog 24 #[.agg (rawCells9 (varsN c) s)] w fun e w' => ∃ s' : CSlots, e = .returned (.tuple #[.agg (cirCells c.ins s'), .int .i64 0]) ∧ SeesCir w' s' c ∧ s'.small ∧ Below w.heap.size w w' := by
  have h1 := of_both (rawS c) s w h hf
  have e : ofC (rawS c) = c := by unfold ofC; rw [of_raw hm]
  have e2 : errC (rawS c) = 0 := by unfold errC; rw [of_raw hm]
  rw [e, e2] at h1
  exact h1

def cS (r : RawC) : NormC := ofC r
set_option maxRecDepth 100000 in
set_option maxHeartbeats 6400000 in
theorem oflaw_any (r : RawC) (s : Slots) (w : World) (h : SeesRaw w s r) (hs : s.small) :
    Calls Try.prog 4 #[rawV r.max s] w fun e w' => e = .returned (.bool true) ∧ Below w.heap.size w w' := by
  have HOF := Lib.hid (fun W (hb : Below w.heap.size w W) => of_both r s W (h.below hb) hs)
  have HREF := Lib.hid (fun W (hb : Below w.heap.size w W) => refof_both r s W (h.below hb) hs)
  have HOK := Lib.hid (fun (e : errC r = 0) => of_mayC (errC_ok e))
  obtain ⟨c, hc⟩ : ∃ c, c = ofC r := ⟨_, rfl⟩
  obtain ⟨er, her⟩ : ∃ er, er = errC r := ⟨_, rfl⟩
  rw [← hc, ← her] at HOF HREF HOK
  obtain ⟨rm, hrm⟩ : ∃ z, z = r.max := ⟨_, rfl⟩
  rw [← hrm] at HOF HREF ⊢
  obtain ⟨z, hz⟩ : ∃ z, z = c.ins := ⟨_, rfl⟩
  rw [← hz] at HOF HREF
  obtain ⟨r1, k1, f1, r2, k2, f2, r3, k3, f3, r4, k4, f4, r5, k5, f5, r6, k6, f6⟩ := s
  have hk1 : k1 ≤ 1048576 := hs.n1
  have hk2 : k2 ≤ 1048576 := hs.n2
  have hk6 : k6 ≤ 1048576 := hs.n6
  have HZ := Lib.hid hz
  clear hc her hrm h hs hz
  unfold rawV cirCells at *
  go_enter Try.func4, Try.ntmps4
  go_upto_region 1 with fail
  generalize hW : World.alloc w _ = W0
  have hb : Below w.heap.size w W0 := by subst hW; exact ext_alloc _ _
  have hx : W0.heap[w.heap.size]? = some (.cells #[.int .u32 rm, .slice r1 k1 f1, .slice r2 k2 f2, .slice r3 k3 f3, .slice r4 k4 f4, .slice r5 k5 f5, .slice r6 k6 f6] 37 (0, 0)) := by subst hW; exact heap_new _ _ _ rfl
  have B0 := Lib.hid hb
  have X0 := Lib.hid hx
  clear hW hb hx
  have p1 : W0.cell? ⟨w.heap.size, 1, none⟩ = some (.slice r1 k1 f1) := cell_of_block X0.out 1
  have p2 : W0.cell? ⟨w.heap.size, 2, none⟩ = some (.slice r2 k2 f2) := cell_of_block X0.out 2
  have p6 : W0.cell? ⟨w.heap.size, 6, none⟩ = some (.slice r6 k6 f6) := cell_of_block X0.out 6
  by_cases ht1 : 300 < k6
  · have e1 : decide ((300 : Int) < (k6 : Int)) = true := by simp; omega
    go_wp2_with fail
    refine (lives3_any W0).mono ?_
    rintro e W2 ⟨rfl, hb⟩
    have HB2 := Lib.hid (ext_trans B0.out hb)
    clear hb
    go_wp2
    go_ret
    exact ⟨rfl, HB2.out⟩
  have e1 : decide ((300 : Int) < (k6 : Int)) = false := by simp; omega
  have e0 : IntKind.i64.wrap ((k1 : Int) + (k2 : Int)) = (k1 : Int) + (k2 : Int) := IntWalk.i64_in _ (by omega)
  by_cases ht2 : 3000 < k1 + k2
  · have e2 : decide ((3000 : Int) < (k1 : Int) + (k2 : Int)) = true := by simp; omega
    go_wp2_with fail
    refine (lives3_any W0).mono ?_
    rintro e W2 ⟨rfl, hb⟩
    have HB2 := Lib.hid (ext_trans B0.out hb)
    clear hb
    go_wp2
    go_ret
    exact ⟨rfl, HB2.out⟩
  have e2 : decide ((3000 : Int) < (k1 : Int) + (k2 : Int)) = false := by simp; omega
  go_upto_region 3 with fail
  clear ht1 ht2 e0 e1 e2 p1 p2 p6
  have hB0 := B0.out
  have p0 := cell_of_block X0.out 0
  have p1 := cell_of_block X0.out 1
  have p2 := cell_of_block X0.out 2
  have p3 := cell_of_block X0.out 3
  have p4 := cell_of_block X0.out 4
  have p5 := cell_of_block X0.out 5
  have p6 := cell_of_block X0.out 6
  go_wp2_with fail
  refine (HOF.out W0 B0.out).mono ?_
  rintro e W1 ⟨s1, rfl, hs1, hm1, hb⟩
  have B1 := Lib.hid (ext_trans B0.out hb)
  have X1 := Lib.hid (heap_below X0.out hb)
  have S1 := Lib.hid hs1
  clear hb hs1 p0 p1 p2 p3 p4 p5 p6
  go_upto_region 4 with fail
  generalize hW : World.alloc W1 _ = U1
  have hb : Below W1.heap.size W1 U1 := by subst hW; exact ext_alloc _ _
  have C3 : Hid (U1.heap[W1.heap.size]? = some (.cells #[.int .i64 z, .slice s1.a1 s1.n1 s1.c1, .slice s1.a2 s1.n2 s1.c2, .slice s1.a3 s1.n3 s1.c3, .slice s1.a4 s1.n4 s1.c4, .slice s1.a5 s1.n5 s1.c5] 26 (0, 0))) := by show _ = _; subst hW; exact heap_new _ _ _ rfl
  have HB1 := Lib.hid (ext_trans B1.out hb)
  have X2 := Lib.hid (heap_below X1.out hb)
  have T1 := Lib.hid (S1.out.below hb)
  clear hW hb B1 X1 S1
  have p0 := cell_of_block X2.out 0
  have p1 := cell_of_block X2.out 1
  have p2 := cell_of_block X2.out 2
  have p3 := cell_of_block X2.out 3
  have p4 := cell_of_block X2.out 4
  have p5 := cell_of_block X2.out 5
  have p6 := cell_of_block X2.out 6
  go_wp2_with fail
  refine (HREF.out U1 HB1.out).mono ?_
  rintro e W2 ⟨s2, rfl, hs2, hm2, hb⟩
  have B2 := Lib.hid (ext_trans HB1.out hb)
  have T2 := Lib.hid (T1.out.below hb)
  have C4 := Lib.hid (heap_below C3.out hb)
  have S2 := Lib.hid hs2
  clear hb hs2 p0 p1 p2 p3 p4 p5 p6 T1 C3 HB1 X2 HREF HOF X0
  go_upto_region 5 with fail
  generalize hW : World.alloc W2 _ = U2
  have hb : Below W2.heap.size W2 U2 := by subst hW; exact ext_alloc _ _
  have D3 : Hid (U2.heap[W2.heap.size]? = some (.cells #[.int .i64 z, .slice s2.a1 s2.n1 s2.c1, .slice s2.a2 s2.n2 s2.c2, .slice s2.a3 s2.n3 s2.c3, .slice s2.a4 s2.n4 s2.c4, .slice s2.a5 s2.n5 s2.c5] 26 (0, 0))) := by show _ = _; subst hW; exact heap_new _ _ _ rfl
  have B3 := Lib.hid (ext_trans B2.out hb)
  have C5 := Lib.hid (heap_below C4.out hb)
  have T3 := Lib.hid (T2.out.below hb)
  have S3 := Lib.hid (S2.out.below hb)
  clear hW hb B2 C4 T2 S2
  have HSC := Lib.hid (samec_of c s1 s2 U2 T3.out S3.out hm1 hm2)
  unfold cirCells at HSC
  rw [← HZ.out] at HSC
  have q0 := cell_of_block C5.out 0
  have q1 := cell_of_block C5.out 1
  have q2 := cell_of_block C5.out 2
  have q3 := cell_of_block C5.out 3
  have q4 := cell_of_block C5.out 4
  have q5 := cell_of_block C5.out 5
  have p0 := cell_of_block D3.out 0
  have p1 := cell_of_block D3.out 1
  have p2 := cell_of_block D3.out 2
  have p3 := cell_of_block D3.out 3
  have p4 := cell_of_block D3.out 4
  have p5 := cell_of_block D3.out 5
  go_wp2_with fail
  refine HSC.out.mono ?_
  rintro e W3 ⟨rfl, hb⟩
  have B4 := Lib.hid (ext_trans B3.out hb)
  have T4 := Lib.hid (T3.out.below hb)
  have C6 := Lib.hid (heap_below C5.out hb)
  clear hb q0 q1 q2 q3 q4 q5 p0 p1 p2 p3 p4 p5 HSC B3 C5 D3 T3 S3
  by_cases he : er = 0
  case neg =>
    have e1 : (er == 0) = false := by simpa using he
    have e2 : (er = 0) = False := by simpa using he
    clear he
    go_wp2_with fail
    refine (lives3_any W3).mono ?_
    rintro e W4 ⟨rfl, hb⟩
    have HB2 := Lib.hid (ext_trans B4.out hb)
    clear hb
    go_wp2
    go_ret
    exact ⟨rfl, HB2.out⟩
  have hM := HOK.out he
  have HM := Lib.hid hM
  subst he
  clear HOK hM
  have HRW := Lib.hid (raw_of c HM.out s1 W3 T4.out hm1)
  have HMY := Lib.hid (fun W (hb : Below W3.heap.size W3 W) => may_of c HM.out s1 W (T4.out.below hb) hm1)
  have HRO := Lib.hid (fun W (s9 : Slots) (h9 : SeesRaw W s9 (rawS c)) (m9 : s9.small) => of_again c HM.out s9 W h9 m9)
  have HSM := Lib.hid (fun W (hb : Below W3.heap.size W3 W) (s4 : CSlots) (h4 : SeesCir W s4 c) (m4 : s4.small) => same_of c s4 s1 W h4 (T4.out.below hb) m4)
  obtain ⟨vn, hvn⟩ : ∃ vn, vn = varsN c := ⟨_, rfl⟩
  rw [← hvn] at HRW HRO
  unfold cirCells at HRW HMY HRO HSM
  unfold rawCells9 at HRW HRO
  rw [← HZ.out] at HRW HMY HRO HSM
  clear hvn
  have q0 := cell_of_block C6.out 0
  have q1 := cell_of_block C6.out 1
  have q2 := cell_of_block C6.out 2
  have q3 := cell_of_block C6.out 3
  have q4 := cell_of_block C6.out 4
  have q5 := cell_of_block C6.out 5
  go_wp2_with fail
  refine HRW.out.mono ?_
  rintro e W4 ⟨s9, rfl, hs9, hm9, hb⟩
  have HB34 := Lib.hid hb
  have C7 := Lib.hid (heap_below C6.out hb)
  have S9 := Lib.hid hs9
  clear hb hs9 q0 q1 q2 q3 q4 q5 HRW C6
  go_upto_region 10 with fail
  generalize hW : World.alloc W4 _ = U4
  have hb : Below W4.heap.size W4 U4 := by subst hW; exact ext_alloc _ _
  have R3 : Hid (U4.heap[W4.heap.size]? = some (.cells #[.int .u32 vn, .slice s9.a1 s9.n1 s9.c1, .slice s9.a2 s9.n2 s9.c2, .slice s9.a3 s9.n3 s9.c3, .slice s9.a4 s9.n4 s9.c4, .slice s9.a5 s9.n5 s9.c5, .slice s9.a6 s9.n6 s9.c6] 37 (0, 0))) := by show _ = _; subst hW; exact heap_new _ _ _ rfl
  have HB35 := Lib.hid (ext_trans HB34.out hb)
  have C8 := Lib.hid (heap_below C7.out hb)
  have S10 := Lib.hid (S9.out.below hb)
  clear hW hb C7 S9 HB34
  have p0 := cell_of_block R3.out 0
  have p1 := cell_of_block R3.out 1
  have p2 := cell_of_block R3.out 2
  have p3 := cell_of_block R3.out 3
  have p4 := cell_of_block R3.out 4
  have p5 := cell_of_block R3.out 5
  have p6 := cell_of_block R3.out 6
  go_wp2_with fail
  refine (HRO.out U4 s9 S10.out hm9).mono ?_
  rintro e W5 ⟨s4, rfl, hs4, hm4, hb⟩
  have HB36 := Lib.hid (ext_trans HB35.out hb)
  have C9 := Lib.hid (heap_below C8.out hb)
  have S4 := Lib.hid hs4
  clear hb hs4 p0 p1 p2 p3 p4 p5 p6 C8 HRO S10 R3 HB35
  go_upto_region 11 with fail
  generalize hW : World.alloc W5 _ = U5
  have hb : Below W5.heap.size W5 U5 := by subst hW; exact ext_alloc _ _
  have E3 : Hid (U5.heap[W5.heap.size]? = some (.cells #[.int .i64 z, .slice s4.a1 s4.n1 s4.c1, .slice s4.a2 s4.n2 s4.c2, .slice s4.a3 s4.n3 s4.c3, .slice s4.a4 s4.n4 s4.c4, .slice s4.a5 s4.n5 s4.c5] 26 (0, 0))) := by show _ = _; subst hW; exact heap_new _ _ _ rfl
  have HB37 := Lib.hid (ext_trans HB36.out hb)
  have C10 := Lib.hid (heap_below C9.out hb)
  have S5 := Lib.hid (S4.out.below hb)
  clear hW hb C9 S4 HB36
  have q0 := cell_of_block C10.out 0
  have q1 := cell_of_block C10.out 1
  have q2 := cell_of_block C10.out 2
  have q3 := cell_of_block C10.out 3
  have q4 := cell_of_block C10.out 4
  have q5 := cell_of_block C10.out 5
  go_wp2_with fail
  refine (HMY.out U5 HB37.out).mono ?_
  rintro e W6 ⟨rfl, hb⟩
  have HB38 := Lib.hid (ext_trans HB37.out hb)
  have C11 := Lib.hid (heap_below C10.out hb)
  have E4 := Lib.hid (heap_below E3.out hb)
  have S6 := Lib.hid (S5.out.below hb)
  clear hb q0 q1 q2 q3 q4 q5 C10 S5 HB37 E3 HMY
  have q0 := cell_of_block C11.out 0
  have q1 := cell_of_block C11.out 1
  have q2 := cell_of_block C11.out 2
  have q3 := cell_of_block C11.out 3
  have q4 := cell_of_block C11.out 4
  have q5 := cell_of_block C11.out 5
  have p0 := cell_of_block E4.out 0
  have p1 := cell_of_block E4.out 1
  have p2 := cell_of_block E4.out 2
  have p3 := cell_of_block E4.out 3
  have p4 := cell_of_block E4.out 4
  have p5 := cell_of_block E4.out 5
  go_wp2_with fail
  refine (HSM.out W6 HB38.out s4 S6.out hm4).mono ?_
  rintro e W7 ⟨rfl, hb⟩
  have HB39 := Lib.hid (ext_trans HB38.out hb)
  clear hb q0 q1 q2 q3 q4 q5 p0 p1 p2 p3 p4 p5 C11 S6 HB38 E4 HSM
  go_wp2_with fail
  refine (lives3_any W7).mono ?_
  rintro e W8 ⟨rfl, hb⟩
  have HB40 := Lib.hid (ext_trans (ext_trans B4.out HB39.out) hb)
  clear hb
  go_wp2
  go_ret
  exact ⟨rfl, HB40.out⟩
end Go.Proofs.Ytkbdebdhebphpaa
