/- inquestref14.clauses, by its contract. -/
import Derived.Test.YtcoehbkjccfhlaaGEncT00
import Derived.Test.YtcoehbkjccfhlaaGEncT01
import Derived.Test.YtcoehbkjccfhlaaGEncT03
import Derived.Test.YtcoehbkjccfhlaaGEncT02
import Derived.Test.YtcoehbkjccfhlaaGEncT05
import Derived.Test.YtcoehbkjccfhlaaGEncT10
import Derived.Test.YtcoehbkjccfhlaaGEncT11
import Derived.Test.YtcoehbkjccfhlaaEnFa
import Derived.Test.YtcoehbkjccfhlaaGEncT15
import Derived.Test.YtcoehbkjccfhlaaGEncT14
import Derived.Test.YtcoehbkjccfhlaaRows
import Derived.BigQuiet
import Derived.Deep.AppendLies
import Derived.Deep.CutRange
import Derived.Deep.QuietTactic
import Derived.Deep.RegionHeld3
import Derived.Deep.RegionLaw
import Derived.Deep.RegionWith
import Derived.KernelRfl
import Derived.Laws.EntriesVeiled
import Derived.Laws.Tables
import Derived.Lib.ConvBytes
import Derived.Lib.Hide
import Derived.Lib.SlBytesRow
import Derived.Lib.SmallJoins
import Derived.Maps.AppendAt
import Derived.OrdersHeld
import Derived.Shelf.Bytes.SlSmallAll
import Derived.WalkKit
import Derived.WalkLawsBesides
import Derived.WalkSpells
import Derived.Test.YtcoehbkjccfhlaaGEncT06
import Derived.Test.YtcoehbkjccfhlaaGEncT07
import Derived.Test.YtcoehbkjccfhlaaEnLim
import Derived.Test.YtcoehbkjccfhlaaEnRA
import Derived.Test.YtcoehbkjccfhlaaEnRB
import Derived.Test.YtcoehbkjccfhlaaGEncT16
/- inquestref14.clauses: the gates' block. -/
namespace Go.Proofs.Ytcoehbkjccfhlaa
open Go Go.RowKit Go.Joins

noncomputable def codeRG : Code := ((Try.f41.body.bind (findBlock 5)).getD .skip)
/-- What a gate brings in a frame. -/
def newG (by' : Nat) (sp la lb : Int) : List (List Int) := [behE [-sp, la] by', behE [-sp, lb] by', behE [sp, -la, -lb] by']
def byG (first i : Nat) : Nat := if first = 0 then 0 else first + i
theorem behE_zero (C : List Int) : behE C 0 = C := rfl
theorem beh0_any (C : List Int) (b off n : Nat) (w0 w : World) (hbel : Below w0.heap.size w0 w) (h : OneZ w0 w (some ⟨b, off, none⟩, n, n) C) (hn : n ≤ 1000) :
    Calls Try.prog 64 #[.slice (some ⟨b, off, none⟩) n n, .int .i64 0] w fun e w' => ∃ a2 m2 c2, e = .returned (.slice a2 m2 c2) ∧ OneZ w0 w' (a2, m2, c2) (behE C 0) ∧ Below w.heap.size w w' := behind_any C 0 b off n w0 w hbel h hn
theorem seesZ3 (W : World) (g : Nat) (hg : g = W.heap.size) (s r q : ZSlc) : Sees (W.alloc (.cells #[zsV s, zsV r, zsV q] 45)) (some ⟨g, 0, none⟩) 3 3 ([s, r, q].map zsV) := by
  subst hg
  exact sees_lit W _ _ _ _ 3 rfl rfl
theorem each3 {w0 W : World} {s r q : ZSlc} {C D E : List Int} (h1 : OneZ w0 W s C) (h2 : OneZ w0 W r D) (h3 : OneZ w0 W q E) (o : Obj) : ∀ j, j < [C, D, E].length → OneZ w0 (W.alloc o) ([s, r, q].getD j zs0) ([C, D, E].getD j []) := by
  intro j hj
  have hj2 : j = 0 ∨ j = 1 ∨ j = 2 := by simp at hj; omega
  rcases hj2 with rfl | rfl | rfl
  · exact h1.imp id (fun hr => hr.below (ext_alloc _ _))
  · exact h2.imp id (fun hr => hr.below (ext_alloc _ _))
  · exact h3.imp id (fun hr => hr.below (ext_alloc _ _))
theorem OneZ.onward {w0 w w' : World} {s : ZSlc} {C : List Int} (h : OneZ w0 w s C) (hb : Below w.heap.size w w') : OneZ w0 w' s C := h.imp id (fun hr => hr.below hb)
set_option maxRecDepth 100000 in
set_option maxHeartbeats 12800000 in
theorem gat_blk (w0 wr : World) (S ii i k first n1 c1 p1 p2 fv sp n2 c2 n3 c3 n4 c4 n5 c5 b0 o0 : Nat) (a1 a3 a4 a5 : Option Addr) (la lb : Int) (gates : List (Nat × Nat)) (rv : Value) (ss : List ZSlc) (Li : List (List Int))
    (HX : wr.heap[S]? = some (.cells #[.int .i64 (ii : Int), .slice a1 n1 c1, .slice (some ⟨b0, o0, none⟩) n2 c2, .slice a3 n3 c3, .slice a4 n4 c4, .slice a5 n5 c5] 26 (0, 0))) (hS : Sees2 nv32 wr (some ⟨b0, o0, none⟩) n2 c2 gates) (hi : i < n2) (hp : gates.getD i (0, 0) = (p1, p2))
    (H1 : ∀ W, Below w0.heap.size w0 W → Calls Try.prog 36 #[.agg #[.int .i64 (ii : Int), .slice a1 n1 c1, .slice (some ⟨b0, o0, none⟩) n2 c2, .slice a3 n3 c3, .slice a4 n4 c4, .slice a5 n5 c5], .int .u32 ((2 * fv : Nat) : Int), .int .i64 (k : Int)] W fun e w' => e = .returned (.int .i64 (sp : Int)) ∧ Below W.heap.size W w')
    (HA : ∀ W, Below w0.heap.size w0 W → Calls Try.prog 36 #[.agg #[.int .i64 (ii : Int), .slice a1 n1 c1, .slice (some ⟨b0, o0, none⟩) n2 c2, .slice a3 n3 c3, .slice a4 n4 c4, .slice a5 n5 c5], .int .u32 (p1 : Int), .int .i64 (k : Int)] W fun e w' => e = .returned (.int .i64 la) ∧ Below W.heap.size W w')
    (HB : ∀ W, Below w0.heap.size w0 W → Calls Try.prog 36 #[.agg #[.int .i64 (ii : Int), .slice a1 n1 c1, .slice (some ⟨b0, o0, none⟩) n2 c2, .slice a3 n3 c3, .slice a4 n4 c4, .slice a5 n5 c5], .int .u32 (p2 : Int), .int .i64 (k : Int)] W fun e w' => e = .returned (.int .i64 lb) ∧ Below W.heap.size W w')
    (hfv : fv = 1 + ii + n1 + i) (hii : ii ≤ 20000) (hn1 : n1 ≤ 1048576) (hn2 : n2 ≤ 1048576) (hsp : sp ≤ 5000000) (hla : la.natAbs ≤ 5000000) (hlb : lb.natAbs ≤ 5000000) (hfst : first ≤ 5000000) (HL : ListsZ w0 rv ss Li wr) (hlen : Li.length ≤ 14000000)
    (QQ : Exit → Act → World → Prop)
    {v0 v1 v4 v5 v6 v7 v10 v11 v12 v13 v15 v16 v17 v18 v19 v20 v21 v22 v23 v24 v25 v26 v27 v28 v29 v30 v31 v32 v33 v34 v35 v36 v37 v38 v39 v40 v41 v42 v43 v44 v45 v46 v47 v48 v49 v50 v51 v52 v53 v54 v55 v56 v57 v58 v59 v60 v61 v62 v63 v64 v65 v66 v67 v68 v69 v70 v71 v72 v73 v74 v75 v76 v77 v78 v79 v80 v81 v82 v83 v84 v85 v86 v87 v88 v89 v90 v91 v92 v93 v94 v95 v96 v97 v98 v99 v100 v101 v102 v103 v104 v105 v106 v107 v108 v109 v110 v111 v112 v113 v114 v115 v116 v117 v118 v119 v120 v121 v122 v123 v124 v125 v126 v127 v128 v129 v130 v131 v132 v133 v134 v135 v136 v137 v138 v139 v140 v141 v142 v143 v144 v145 v146 v147 v148 v149 v150 v151 v152 v153 v154 v155 v156 v157 v158 v159 v160 v161 v162 v163 v164 v165 v166 v167 : Value}
    (hK : ∀ (ra : Option Addr) (rn rc : Nat) (W : World) (u15 u16 u17 u18 u107 u108 u109 u110 u111 u112 u113 u114 u115 u116 u117 u118 u119 u120 u121 u122 u123 u124 u125 u126 u127 u128 u129 u130 u131 u132 u133 u134 u135 u136 u137 u138 u139 u140 u141 u142 u143 u144 u145 u146 u147 u148 u149 u150 u151 u152 u153 u154 u155 u156 u157 u158 u159 u160 u161 u162 u163 u164 u165 u166 : Value), RowL w0 (Li ++ newG (byG first i) (sp : Int) la lb) (.slice ra rn rc) W → KeepT 45 wr W → QQ .normal ⟨#[v0, v1, .int .i64 (first : Int), .pointer (some ⟨S, 0, none⟩), v4, v5, v6, v7, .slice ra rn rc, .int .i64 (k : Int), v10, v11, v12, v13, .int .i64 (i : Int), u15, u16, u17, u18, v19, v20, v21, v22, v23, v24, v25, v26, v27, v28, v29, v30, v31, v32, v33, v34, v35, v36, v37, v38, v39, v40, v41, v42, v43, v44, v45, v46, v47, v48, v49, v50, v51, v52, v53, v54, v55, v56, v57, v58, v59, v60, v61, v62, v63, v64, v65, v66, v67, v68, v69, v70, v71, v72, v73, v74, v75, v76, v77, v78, v79, v80, v81, v82, v83, v84, v85, v86, v87, v88, v89, v90, v91, v92, v93, v94, v95, v96, v97, v98, v99, v100, v101, v102, v103, v104, v105, v106, u107, u108, u109, u110, u111, u112, u113, u114, u115, u116, u117, u118, u119, u120, u121, u122, u123, u124, u125, u126, u127, u128, u129, u130, u131, u132, u133, u134, u135, u136, u137, u138, u139, u140, u141, u142, u143, u144, u145, u146, u147, u148, u149, u150, u151, u152, u153, u154, u155, u156, u157, u158, u159, u160, u161, u162, u163, u164, u165, u166, v167], []⟩ W) :
    Code.wp Try.prog codeRG QQ ⟨#[v0, v1, .int .i64 (first : Int), .pointer (some ⟨S, 0, none⟩), v4, v5, v6, v7, rv, .int .i64 (k : Int), v10, v11, v12, v13, .int .i64 (i : Int), v15, v16, v17, v18, v19, v20, v21, v22, v23, v24, v25, v26, v27, v28, v29, v30, v31, v32, v33, v34, v35, v36, v37, v38, v39, v40, v41, v42, v43, v44, v45, v46, v47, v48, v49, v50, v51, v52, v53, v54, v55, v56, v57, v58, v59, v60, v61, v62, v63, v64, v65, v66, v67, v68, v69, v70, v71, v72, v73, v74, v75, v76, v77, v78, v79, v80, v81, v82, v83, v84, v85, v86, v87, v88, v89, v90, v91, v92, v93, v94, v95, v96, v97, v98, v99, v100, v101, v102, v103, v104, v105, v106, v107, v108, v109, v110, v111, v112, v113, v114, v115, v116, v117, v118, v119, v120, v121, v122, v123, v124, v125, v126, v127, v128, v129, v130, v131, v132, v133, v134, v135, v136, v137, v138, v139, v140, v141, v142, v143, v144, v145, v146, v147, v148, v149, v150, v151, v152, v153, v154, v155, v156, v157, v158, v159, v160, v161, v162, v163, v164, v165, v166, v167], []⟩ wr := by
  obtain ⟨va, vc, hrv⟩ := HL.row.form
  subst hrv
  have HKK := Lib.hid hK
  have HH1 := Lib.hid H1
  have HHA := Lib.hid HA
  have HHB := Lib.hid HB
  have HLL := Lib.hid HL
  have HLN := Lib.hid hlen
  have HXX := Lib.hid HX
  have hcx := hS.cells i hi (0, 0)
  rw [hp] at hcx
  obtain ⟨hcx1, hcx2⟩ := hcx
  simp only at hcx1 hcx2
  unfold nv32 at hcx1 hcx2
  have WA : IntKind.i64.wrap (1 + (ii : Int)) = 1 + (ii : Int) := IntWalk.i64_in _ (by omega)
  have WB : IntKind.i64.wrap (1 + (ii : Int) + (n1 : Int)) = 1 + (ii : Int) + (n1 : Int) := IntWalk.i64_in _ (by omega)
  have WF : IntKind.i64.wrap (1 + (ii : Int) + (n1 : Int) + (i : Int)) = (fv : Int) := by rw [show 1 + (ii : Int) + (n1 : Int) + (i : Int) = (fv : Int) by omega]; exact IntWalk.i64_in _ (by omega)
  have WD : IntKind.i64.wrap (2 * (fv : Int)) = ((2 * fv : Nat) : Int) := by rw [show 2 * (fv : Int) = ((2 * fv : Nat) : Int) by omega]; exact IntWalk.i64_in _ (by omega)
  have WU : IntKind.u32.wrap ((2 * fv : Nat) : Int) = ((2 * fv : Nat) : Int) := by rw [IntKind.wrap_u32]; omega
  have WD2 : IntKind.i64.wrap (2 * (fv : Int)) = 2 * (fv : Int) := IntWalk.i64_in _ (by omega)
  have WU2 : IntKind.u32.wrap (2 * (fv : Int)) = 2 * (fv : Int) := by rw [IntKind.wrap_u32]; omega
  have NS : IntKind.i64.wrap (-(sp : Int)) = -(sp : Int) := IntWalk.i64_in _ (by omega)
  have NS2 : wrap64 (-(sp : Int)) = -(sp : Int) := by unfold wrap64; omega
  have N_la : IntKind.i64.wrap (-la) = -la := IntWalk.i64_in _ (by omega)
  have N2_la : wrap64 (-la) = -la := by unfold wrap64; omega
  have N_lb : IntKind.i64.wrap (-lb) = -lb := IntWalk.i64_in _ (by omega)
  have N2_lb : wrap64 (-lb) = -lb := by unfold wrap64; omega
  have I1 : ((i : Nat) : Int) < (n2 : Int) := by omega
  have I2 : (0 : Int) ≤ (i : Int) := by omega
  have WG : IntKind.i64.wrap ((first : Int) + (i : Int)) = ((first + i : Nat) : Int) := by rw [show (first : Int) + (i : Int) = ((first + i : Nat) : Int) by omega]; exact IntWalk.i64_in _ (by omega)
  have hsz := HL.bel.size
  have HSZ := Lib.hid hsz
  have HGX1 := Lib.hid hcx1
  have HGX2 := Lib.hid hcx2
  have hbb := hS.addr (by omega)
  have HBB : Hid (b0 < wr.heap.size) := by obtain ⟨_, _, e, hh⟩ := hbb; cases e; exact hh
  clear HL hS hp H1 HA HB hK hlen HX hi hfv hii hn1 hn2 hsp hla hlb hfst hsz hcx1 hcx2 hbb
  have pc_0 : wr.cell? ⟨S, 0, none⟩ = some (.int .i64 (ii : Int)) := cell_of_block HXX.out 0
  have pc_1 : wr.cell? ⟨S, 1, none⟩ = some (.slice a1 n1 c1) := cell_of_block HXX.out 1
  have pc_2 : wr.cell? ⟨S, 2, none⟩ = some (.slice (some ⟨b0, o0, none⟩) n2 c2) := cell_of_block HXX.out 2
  have pc_3 : wr.cell? ⟨S, 3, none⟩ = some (.slice a3 n3 c3) := cell_of_block HXX.out 3
  have pc_4 : wr.cell? ⟨S, 4, none⟩ = some (.slice a4 n4 c4) := cell_of_block HXX.out 4
  have pc_5 : wr.cell? ⟨S, 5, none⟩ = some (.slice a5 n5 c5) := cell_of_block HXX.out 5
  conv => arg 2; whnf
  go_wp2_with fail
  refine (HH1.out wr HLL.out.bel).mono ?_
  rintro e W6 ⟨rfl, hb6⟩
  have HB6 := Lib.hid hb6
  have HX6 := Lib.hid (heap_below HXX.out hb6)
  clear hb6 WA WB WF WD WU WD2 WU2 pc_0 pc_1 pc_2 pc_3 pc_4 pc_5
  have q_0 : W6.cell? ⟨S, 0, none⟩ = some (.int .i64 (ii : Int)) := cell_of_block HX6.out 0
  have q_1 : W6.cell? ⟨S, 1, none⟩ = some (.slice a1 n1 c1) := cell_of_block HX6.out 1
  have q_2 : W6.cell? ⟨S, 2, none⟩ = some (.slice (some ⟨b0, o0, none⟩) n2 c2) := cell_of_block HX6.out 2
  have q_3 : W6.cell? ⟨S, 3, none⟩ = some (.slice a3 n3 c3) := cell_of_block HX6.out 3
  have q_4 : W6.cell? ⟨S, 4, none⟩ = some (.slice a4 n4 c4) := cell_of_block HX6.out 4
  have q_5 : W6.cell? ⟨S, 5, none⟩ = some (.slice a5 n5 c5) := cell_of_block HX6.out 5
  have q_6 : W6.cell? ⟨b0, o0 + i * 2, none⟩ = some (.int .u32 (p1 : Int)) := (HB6.out.cell HBB.out).trans HGX1.out
  have q_7 : W6.cell? ⟨b0, o0 + i * 2 + 1, none⟩ = some (.int .u32 (p2 : Int)) := (HB6.out.cell HBB.out).trans HGX2.out
  go_upto_region 25 with fail
  refine wp_region_noPanic ?_
  refine wp_region_held (S := fun w' => w'.cell? ⟨S, 0, none⟩ = some (.int .i64 (ii : Int)) ∧ w'.cell? ⟨S, 1, none⟩ = some (.slice a1 n1 c1) ∧ w'.cell? ⟨S, 2, none⟩ = some (.slice (some ⟨b0, o0, none⟩) n2 c2) ∧ w'.cell? ⟨S, 3, none⟩ = some (.slice a3 n3 c3) ∧ w'.cell? ⟨S, 4, none⟩ = some (.slice a4 n4 c4) ∧ w'.cell? ⟨S, 5, none⟩ = some (.slice a5 n5 c5) ∧ w'.cell? ⟨b0, o0 + i * 2, none⟩ = some (.int .u32 (p1 : Int)) ∧ w'.cell? ⟨b0, o0 + i * 2 + 1, none⟩ = some (.int .u32 (p2 : Int))) (by kernel_rfl) ?_
  generalize hYY : ({ W6 with drawn := W6.drawn + 1 } : World) = Y0
  have HY0 : Hid (Below W6.heap.size W6 Y0) := by subst hYY; exact (Below.refl _ _).drew
  have HS0 : Hid (Y0.cell? ⟨S, 0, none⟩ = some (.int .i64 (ii : Int)) ∧ Y0.cell? ⟨S, 1, none⟩ = some (.slice a1 n1 c1) ∧ Y0.cell? ⟨S, 2, none⟩ = some (.slice (some ⟨b0, o0, none⟩) n2 c2) ∧ Y0.cell? ⟨S, 3, none⟩ = some (.slice a3 n3 c3) ∧ Y0.cell? ⟨S, 4, none⟩ = some (.slice a4 n4 c4) ∧ Y0.cell? ⟨S, 5, none⟩ = some (.slice a5 n5 c5) ∧ Y0.cell? ⟨b0, o0 + i * 2, none⟩ = some (.int .u32 (p1 : Int)) ∧ Y0.cell? ⟨b0, o0 + i * 2 + 1, none⟩ = some (.int .u32 (p2 : Int))) := ⟨cell_below q_0 HY0.out, cell_below q_1 HY0.out, cell_below q_2 HY0.out, cell_below q_3 HY0.out, cell_below q_4 HY0.out, cell_below q_5 HY0.out, cell_below q_6 HY0.out, cell_below q_7 HY0.out⟩
  clear hYY
  clear q_0 q_1 q_2 q_3 q_4 q_5 q_6 q_7
  refine wpAnyH_take (i := 0) (v := ?_) (by simp only [List.getElem?_toArray, List.getElem?_cons_zero]; rfl) (by kernel_rfl) (by kernel_rfl) (by kernel_rfl) (fun _ _ _ h => h) (Or.inl ⟨by rfl, ?_⟩) HS0.out ?_
  rotate_left
  · intro w hSw
    (try dsimp only at hSw)
    obtain ⟨q0_, q1_, q2_, q3_, q4_, q5_, q6_, q7_⟩ := hSw
    go_simp
    try with_reducible rfl
  try simp only [Act.put, List.setIfInBounds_toArray, List.set_cons_zero, List.set_cons_succ]
  refine wpAnyH_take (i := 1) (v := ?_) (by simp only [List.getElem?_toArray, List.getElem?_cons_zero, List.getElem?_cons_succ]; rfl) (by kernel_rfl) (by kernel_rfl) (by kernel_rfl) (fun _ _ _ h => h) (Or.inl ⟨by rfl, ?_⟩) HS0.out ?_
  rotate_left
  · intro w hSw
    (try dsimp only at hSw)
    obtain ⟨q0_, q1_, q2_, q3_, q4_, q5_, q6_, q7_⟩ := hSw
    go_simp
    try with_reducible rfl
  try simp only [Act.put, List.setIfInBounds_toArray, List.set_cons_zero, List.set_cons_succ]
  refine wpAnyH_take (i := 2) (v := ?_) (by simp only [List.getElem?_toArray, List.getElem?_cons_zero, List.getElem?_cons_succ]; rfl) (by kernel_rfl) (by kernel_rfl) (by kernel_rfl) (fun _ _ _ h => h) (Or.inl ⟨by rfl, ?_⟩) HS0.out ?_
  rotate_left
  · intro w hSw
    (try dsimp only at hSw)
    obtain ⟨q0_, q1_, q2_, q3_, q4_, q5_, q6_, q7_⟩ := hSw
    go_simp
    try with_reducible rfl
  try simp only [Act.put, List.setIfInBounds_toArray, List.set_cons_zero, List.set_cons_succ]
  refine wpAnyH_take (i := 3) (v := ?_) (by simp only [List.getElem?_toArray, List.getElem?_cons_zero, List.getElem?_cons_succ]; rfl) (by kernel_rfl) (by kernel_rfl) (by kernel_rfl) (fun _ _ _ h => h) (Or.inl ⟨by rfl, ?_⟩) HS0.out ?_
  rotate_left
  · intro w hSw
    (try dsimp only at hSw)
    obtain ⟨q0_, q1_, q2_, q3_, q4_, q5_, q6_, q7_⟩ := hSw
    go_simp
    try with_reducible rfl
  try simp only [Act.put, List.setIfInBounds_toArray, List.set_cons_zero, List.set_cons_succ]
  refine wpAnyH_take (i := 4) (v := ?_) (by simp only [List.getElem?_toArray, List.getElem?_cons_zero, List.getElem?_cons_succ]; rfl) (by kernel_rfl) (by kernel_rfl) (by kernel_rfl) (fun _ _ _ h => h) (Or.inl ⟨by rfl, ?_⟩) HS0.out ?_
  rotate_left
  · intro w hSw
    (try dsimp only at hSw)
    obtain ⟨q0_, q1_, q2_, q3_, q4_, q5_, q6_, q7_⟩ := hSw
    go_simp
    try with_reducible rfl
  try simp only [Act.put, List.setIfInBounds_toArray, List.set_cons_zero, List.set_cons_succ]
  refine wpAnyH_take (i := 5) (v := ?_) (by simp only [List.getElem?_toArray, List.getElem?_cons_zero, List.getElem?_cons_succ]; rfl) (by kernel_rfl) (by kernel_rfl) (by kernel_rfl) (fun _ _ _ h => h) (Or.inl ⟨by rfl, ?_⟩) HS0.out ?_
  rotate_left
  · intro w hSw
    (try dsimp only at hSw)
    obtain ⟨q0_, q1_, q2_, q3_, q4_, q5_, q6_, q7_⟩ := hSw
    go_simp
    try with_reducible rfl
  try simp only [Act.put, List.setIfInBounds_toArray, List.set_cons_zero, List.set_cons_succ]
  refine wpAnyH_take (i := 6) (v := ?_) (by simp only [List.getElem?_toArray, List.getElem?_cons_zero, List.getElem?_cons_succ]; rfl) (by kernel_rfl) (by kernel_rfl) (by kernel_rfl) (fun _ _ _ h => h) (Or.inl ⟨by rfl, ?_⟩) HS0.out ?_
  rotate_left
  · intro w hSw
    (try dsimp only at hSw)
    obtain ⟨q0_, q1_, q2_, q3_, q4_, q5_, q6_, q7_⟩ := hSw
    go_simp
    try with_reducible rfl
  try simp only [Act.put, List.setIfInBounds_toArray, List.set_cons_zero, List.set_cons_succ]
  refine wpAnyH_take (i := 7) (v := ?_) (by simp only [List.getElem?_toArray, List.getElem?_cons_zero, List.getElem?_cons_succ]; rfl) (by kernel_rfl) (by kernel_rfl) (by kernel_rfl) (fun _ _ _ h => h) (Or.inl ⟨by rfl, ?_⟩) HS0.out ?_
  rotate_left
  · intro w hSw
    (try dsimp only at hSw)
    obtain ⟨q0_, q1_, q2_, q3_, q4_, q5_, q6_, q7_⟩ := hSw
    go_simp
    try with_reducible rfl
  try simp only [Act.put, List.setIfInBounds_toArray, List.set_cons_zero, List.set_cons_succ]
  refine wpAnyH_take (i := 9) (v := ?_) (by simp only [List.getElem?_toArray, List.getElem?_cons_zero, List.getElem?_cons_succ]; rfl) (by kernel_rfl) (by kernel_rfl) (by kernel_rfl) (fun _ _ _ h => h) (Or.inl ⟨by rfl, ?_⟩) HS0.out ?_
  rotate_left
  · intro w hSw
    (try dsimp only at hSw)
    obtain ⟨q0_, q1_, q2_, q3_, q4_, q5_, q6_, q7_⟩ := hSw
    go_simp
    try with_reducible rfl
  try simp only [Act.put, List.setIfInBounds_toArray, List.set_cons_zero, List.set_cons_succ]
  refine wpAnyH_take (i := 10) (v := ?_) (by simp only [List.getElem?_toArray, List.getElem?_cons_zero, List.getElem?_cons_succ]; rfl) (by kernel_rfl) (by kernel_rfl) (by kernel_rfl) (fun _ _ _ h => h) (Or.inl ⟨by rfl, ?_⟩) HS0.out ?_
  rotate_left
  · intro w hSw
    (try dsimp only at hSw)
    obtain ⟨q0_, q1_, q2_, q3_, q4_, q5_, q6_, q7_⟩ := hSw
    go_simp
    try with_reducible rfl
  try simp only [Act.put, List.setIfInBounds_toArray, List.set_cons_zero, List.set_cons_succ]
  refine wpAnyH_take (i := 11) (v := ?_) (by simp only [List.getElem?_toArray, List.getElem?_cons_zero, List.getElem?_cons_succ]; rfl) (by kernel_rfl) (by kernel_rfl) (by kernel_rfl) (fun _ _ _ h => h) (Or.inl ⟨by rfl, ?_⟩) HS0.out ?_
  rotate_left
  · intro w hSw
    (try dsimp only at hSw)
    obtain ⟨q0_, q1_, q2_, q3_, q4_, q5_, q6_, q7_⟩ := hSw
    go_simp
    try with_reducible rfl
  try simp only [Act.put, List.setIfInBounds_toArray, List.set_cons_zero, List.set_cons_succ]
  refine wpAnyH_take (i := 12) (v := ?_) (by simp only [List.getElem?_toArray, List.getElem?_cons_zero, List.getElem?_cons_succ]; rfl) (by kernel_rfl) (by kernel_rfl) (by kernel_rfl) (fun _ _ _ h => h) (Or.inl ⟨by rfl, ?_⟩) HS0.out ?_
  rotate_left
  · intro w hSw
    (try dsimp only at hSw)
    obtain ⟨q0_, q1_, q2_, q3_, q4_, q5_, q6_, q7_⟩ := hSw
    go_simp
    try with_reducible rfl
  try simp only [Act.put, List.setIfInBounds_toArray, List.set_cons_zero, List.set_cons_succ]
  refine wpAnyH_take (i := 13) (v := ?_) (by simp only [List.getElem?_toArray, List.getElem?_cons_zero, List.getElem?_cons_succ]; rfl) (by kernel_rfl) (by kernel_rfl) (by kernel_rfl) (fun _ _ _ h => h) (Or.inl ⟨by rfl, ?_⟩) HS0.out ?_
  rotate_left
  · intro w hSw
    (try dsimp only at hSw)
    obtain ⟨q0_, q1_, q2_, q3_, q4_, q5_, q6_, q7_⟩ := hSw
    go_simp
    try with_reducible rfl
  try simp only [Act.put, List.setIfInBounds_toArray, List.set_cons_zero, List.set_cons_succ]
  refine wpAnyH_take (i := 14) (v := ?_) (by simp only [List.getElem?_toArray, List.getElem?_cons_zero, List.getElem?_cons_succ]; rfl) (by kernel_rfl) (by kernel_rfl) (by kernel_rfl) (fun _ _ _ h => h) (Or.inl ⟨by rfl, ?_⟩) HS0.out ?_
  rotate_left
  · intro w hSw
    (try dsimp only at hSw)
    obtain ⟨q0_, q1_, q2_, q3_, q4_, q5_, q6_, q7_⟩ := hSw
    go_simp
    try with_reducible rfl
  try simp only [Act.put, List.setIfInBounds_toArray, List.set_cons_zero, List.set_cons_succ]
  refine wpAnyH_take (i := 15) (v := ?_) (by simp only [List.getElem?_toArray, List.getElem?_cons_zero, List.getElem?_cons_succ]; rfl) (by kernel_rfl) (by kernel_rfl) (by kernel_rfl) (fun _ _ _ h => h) (Or.inl ⟨by rfl, ?_⟩) HS0.out ?_
  rotate_left
  · intro w hSw
    (try dsimp only at hSw)
    obtain ⟨q0_, q1_, q2_, q3_, q4_, q5_, q6_, q7_⟩ := hSw
    go_simp
    try with_reducible rfl
  try simp only [Act.put, List.setIfInBounds_toArray, List.set_cons_zero, List.set_cons_succ]
  refine wpAnyH_take (i := 16) (v := ?_) (by simp only [List.getElem?_toArray, List.getElem?_cons_zero, List.getElem?_cons_succ]; rfl) (by kernel_rfl) (by kernel_rfl) (by kernel_rfl) (fun _ _ _ h => h) (Or.inl ⟨by rfl, ?_⟩) HS0.out ?_
  rotate_left
  · intro w hSw
    (try dsimp only at hSw)
    obtain ⟨q0_, q1_, q2_, q3_, q4_, q5_, q6_, q7_⟩ := hSw
    go_simp
    try with_reducible rfl
  try simp only [Act.put, List.setIfInBounds_toArray, List.set_cons_zero, List.set_cons_succ]
  refine wpAnyH_ready (rs := [8]) (by kernel_rfl) (by simp) ?_
  refine AllReadyH.cons (by simp only [List.getElem?_toArray, List.getElem?_cons_zero, List.getElem?_cons_succ]; rfl) (fun K hK => ?_) AllReadyH.nil
  go_simp
  refine (HHA.out _ (ext_trans HLL.out.bel (ext_trans HB6.out HY0.out))).mono ?_
  rintro e s1 ⟨rfl, bb⟩
  have HY1 := Lib.hid (ext_trans HY0.out bb)
  have HS1 : Hid (s1.cell? ⟨S, 0, none⟩ = some (.int .i64 (ii : Int)) ∧ s1.cell? ⟨S, 1, none⟩ = some (.slice a1 n1 c1) ∧ s1.cell? ⟨S, 2, none⟩ = some (.slice (some ⟨b0, o0, none⟩) n2 c2) ∧ s1.cell? ⟨S, 3, none⟩ = some (.slice a3 n3 c3) ∧ s1.cell? ⟨S, 4, none⟩ = some (.slice a4 n4 c4) ∧ s1.cell? ⟨S, 5, none⟩ = some (.slice a5 n5 c5) ∧ s1.cell? ⟨b0, o0 + i * 2, none⟩ = some (.int .u32 (p1 : Int)) ∧ s1.cell? ⟨b0, o0 + i * 2 + 1, none⟩ = some (.int .u32 (p2 : Int))) := ⟨cell_below HS0.out.1 bb, cell_below HS0.out.2.1 bb, cell_below HS0.out.2.2.1 bb, cell_below HS0.out.2.2.2.1 bb, cell_below HS0.out.2.2.2.2.1 bb, cell_below HS0.out.2.2.2.2.2.1 bb, cell_below HS0.out.2.2.2.2.2.2.1 bb, cell_below HS0.out.2.2.2.2.2.2.2 bb⟩
  refine hK.out _ _ HS1.out (fun _ => ?_)
  clear hK K
  try simp only [Act.put, List.setIfInBounds_toArray, List.set_cons_zero, List.set_cons_succ]
  clear bb
  refine wpAnyH_ready (rs := [17]) (by kernel_rfl) (by simp) ?_
  refine AllReadyH.cons (by simp only [List.getElem?_toArray, List.getElem?_cons_zero, List.getElem?_cons_succ]; rfl) (fun K hK => ?_) AllReadyH.nil
  go_simp
  refine (HHB.out _ (ext_trans HLL.out.bel (ext_trans HB6.out HY1.out))).mono ?_
  rintro e s2 ⟨rfl, bb⟩
  have HY2 := Lib.hid (ext_trans HY1.out bb)
  have HS2 : Hid (s2.cell? ⟨S, 0, none⟩ = some (.int .i64 (ii : Int)) ∧ s2.cell? ⟨S, 1, none⟩ = some (.slice a1 n1 c1) ∧ s2.cell? ⟨S, 2, none⟩ = some (.slice (some ⟨b0, o0, none⟩) n2 c2) ∧ s2.cell? ⟨S, 3, none⟩ = some (.slice a3 n3 c3) ∧ s2.cell? ⟨S, 4, none⟩ = some (.slice a4 n4 c4) ∧ s2.cell? ⟨S, 5, none⟩ = some (.slice a5 n5 c5) ∧ s2.cell? ⟨b0, o0 + i * 2, none⟩ = some (.int .u32 (p1 : Int)) ∧ s2.cell? ⟨b0, o0 + i * 2 + 1, none⟩ = some (.int .u32 (p2 : Int))) := ⟨cell_below HS1.out.1 bb, cell_below HS1.out.2.1 bb, cell_below HS1.out.2.2.1 bb, cell_below HS1.out.2.2.2.1 bb, cell_below HS1.out.2.2.2.2.1 bb, cell_below HS1.out.2.2.2.2.2.1 bb, cell_below HS1.out.2.2.2.2.2.2.1 bb, cell_below HS1.out.2.2.2.2.2.2.2 bb⟩
  refine hK.out _ _ HS2.out (fun _ => ?_)
  clear hK K
  try simp only [Act.put, List.setIfInBounds_toArray, List.set_cons_zero, List.set_cons_succ]
  clear bb
  refine wpAnyH_take (i := 18) (v := ?_) (by simp only [List.getElem?_toArray, List.getElem?_cons_zero, List.getElem?_cons_succ]; rfl) (by kernel_rfl) (by kernel_rfl) (by kernel_rfl) (fun _ _ _ h => h) (Or.inl ⟨by rfl, ?_⟩) HS2.out ?_
  rotate_left
  · intro w hSw
    (try dsimp only at hSw)
    obtain ⟨q0_, q1_, q2_, q3_, q4_, q5_, q6_, q7_⟩ := hSw
    go_simp
    try with_reducible rfl
  try simp only [Act.put, List.setIfInBounds_toArray, List.set_cons_zero, List.set_cons_succ]
  refine wpAnyH_take (i := 19) (v := ?_) (by simp only [List.getElem?_toArray, List.getElem?_cons_zero, List.getElem?_cons_succ]; rfl) (by kernel_rfl) (by kernel_rfl) (by kernel_rfl) (fun _ _ _ h => h) (Or.inl ⟨by rfl, ?_⟩) HS2.out ?_
  rotate_left
  · intro w hSw
    (try dsimp only at hSw)
    obtain ⟨q0_, q1_, q2_, q3_, q4_, q5_, q6_, q7_⟩ := hSw
    go_simp
    try with_reducible rfl
  try simp only [Act.put, List.setIfInBounds_toArray, List.set_cons_zero, List.set_cons_succ]
  refine wpAnyH_done (by kernel_rfl) ?_ _
  refine NoPanic.normal ?_
  have HB7 := Lib.hid (ext_trans HB6.out HY2.out)
  have HBW : Hid (Below w0.heap.size w0 s2) := ext_trans HLL.out.bel HB7.out
  clear HHA HHB HH1 HX6 HXX HGX1 HGX2 HBB HY0 HY1 HY2 HS0 HS1 HS2 HB6 I1 I2
  by_cases hf0 : first = 0
  · subst hf0
    have HNW : Hid (newG (byG 0 i) (sp : Int) la lb = [behE [-(sp : Int), la] 0, behE [-(sp : Int), lb] 0, behE [(sp : Int), -la, -lb] 0]) := rfl
    have e1 : decide ((0 : Int) < ((0 : Nat) : Int)) = false := rfl
    go_wp2_with fail
    refine (beh0_any [-(sp : Int), la] s2.heap.size 0 2 w0 (s2.alloc (.cells #[.int .i64 (-(sp : Int)), .int .i64 (la)] 3)) (ext_trans HBW.out (ext_alloc _ _)) (oneZ_of w0 s2 HBW.out.size [-(sp : Int), la] 2 #[.int .i64 (-(sp : Int)), .int .i64 (la)] rfl rfl (by simp)) (by omega)).mono ?_
    rintro e t0 ⟨d0, e0, g0, rfl, ho, hb⟩
    have HT0 : Hid (Below w0.heap.size w0 t0) := ext_trans HBW.out (ext_trans (ext_alloc _ _) hb)
    have HO0_0 := Lib.hid ho
    have HW0 : Hid (Below wr.heap.size wr t0) := ext_trans HB7.out (ext_trans (ext_alloc _ _) hb)
    clear ho hb
    go_wp2_with fail
    refine (beh0_any [-(sp : Int), lb] t0.heap.size 0 2 w0 (t0.alloc (.cells #[.int .i64 (-(sp : Int)), .int .i64 (lb)] 3)) (ext_trans HT0.out (ext_alloc _ _)) (oneZ_of w0 t0 HT0.out.size [-(sp : Int), lb] 2 #[.int .i64 (-(sp : Int)), .int .i64 (lb)] rfl rfl (by simp)) (by omega)).mono ?_
    rintro e t1 ⟨d1, e1, g1, rfl, ho, hb⟩
    have HT1 : Hid (Below w0.heap.size w0 t1) := ext_trans HT0.out (ext_trans (ext_alloc _ _) hb)
    have HO1_1 := Lib.hid ho
    have HO0_1 := Lib.hid (HO0_0.out.onward (ext_trans (ext_alloc t0 (.cells #[.int .i64 (-(sp : Int)), .int .i64 (lb)] 3)) hb))
    have HW1 : Hid (Below wr.heap.size wr t1) := ext_trans HW0.out (ext_trans (ext_alloc _ _) hb)
    clear ho hb
    go_wp2_with fail
    refine (beh0_any [(sp : Int), -la, -lb] t1.heap.size 0 3 w0 (t1.alloc (.cells #[.int .i64 ((sp : Int)), .int .i64 (-la), .int .i64 (-lb)] 3)) (ext_trans HT1.out (ext_alloc _ _)) (oneZ_of w0 t1 HT1.out.size [(sp : Int), -la, -lb] 3 #[.int .i64 ((sp : Int)), .int .i64 (-la), .int .i64 (-lb)] rfl rfl (by simp)) (by omega)).mono ?_
    rintro e t2 ⟨d2, e2, g2, rfl, ho, hb⟩
    have HT2 : Hid (Below w0.heap.size w0 t2) := ext_trans HT1.out (ext_trans (ext_alloc _ _) hb)
    have HO2_2 := Lib.hid ho
    have HO0_2 := Lib.hid (HO0_1.out.onward (ext_trans (ext_alloc t1 (.cells #[.int .i64 ((sp : Int)), .int .i64 (-la), .int .i64 (-lb)] 3)) hb))
    have HO1_2 := Lib.hid (HO1_1.out.onward (ext_trans (ext_alloc t1 (.cells #[.int .i64 ((sp : Int)), .int .i64 (-la), .int .i64 (-lb)] 3)) hb))
    have HW2 : Hid (Below wr.heap.size wr t2) := ext_trans HW1.out (ext_trans (ext_alloc _ _) hb)
    clear ho hb
    have HEA := Lib.hid (each3 HO0_2.out HO1_2.out HO2_2.out (.cells #[.slice d0 e0 g0, .slice d1 e1 g1, .slice d2 e2 g2] 45))
    go_wp2_with (at_builtin; refine wpList_append_lists rfl _ _ rfl _ ss Li (by rfl) HLL.out (ext_trans HW2.out (ext_alloc _ _)) [(d0, e0, g0), (d1, e1, g1), (d2, e2, g2)] [behE [-(sp : Int), la] 0, behE [-(sp : Int), lb] 0, behE [(sp : Int), -la, -lb] 0] t2.heap.size 3 (by rfl) (seesZ3 t2 t2.heap.size rfl (d0, e0, g0) (d1, e1, g1) (d2, e2, g2)) rfl HEA.out (by have := HLN.out; omega) (by omega) ?_)
    intro ra rn rc w9 hrow hk9 hk1
    have HR9 : Hid (RowL w0 (Li ++ newG (byG 0 i) (sp : Int) la lb) (.slice ra rn rc) w9) := by show RowL _ _ _ _; rw [show newG (byG 0 i) (sp : Int) la lb = _ from HNW.out]; exact hrow
    have HK8 := Lib.hid hk9
    clear hrow hk9 hk1 HEA
    go_wp2
    exact HKK.out _ _ _ _ _ _ _ _ _ _ _ _ _ _ _ _ _ _ _ _ _ _ _ _ _ _ _ _ _ _ _ _ _ _ _ _ _ _ _ _ _ _ _ _ _ _ _ _ _ _ _ _ _ _ _ _ _ _ _ _ _ _ _ _ _ _ _ _ HR9.out HK8.out
  · have HNW : Hid (newG (byG first i) (sp : Int) la lb = [behE [-(sp : Int), la] (first + i), behE [-(sp : Int), lb] (first + i), behE [(sp : Int), -la, -lb] (first + i)]) := by show _ = _; unfold newG byG; rw [if_neg hf0]
    have e1 : decide ((0 : Int) < (first : Int)) = true := by simp; omega
    have e2 : decide (0 < first) = true := by simp; omega
    clear hf0
    go_wp2_with fail
    refine (behind_any [-(sp : Int), la] (first + i) s2.heap.size 0 2 w0 (s2.alloc (.cells #[.int .i64 (-(sp : Int)), .int .i64 (la)] 3)) (ext_trans HBW.out (ext_alloc _ _)) (oneZ_of w0 s2 HBW.out.size [-(sp : Int), la] 2 #[.int .i64 (-(sp : Int)), .int .i64 (la)] rfl rfl (by simp)) (by omega)).mono ?_
    rintro e t0 ⟨d0, e0, g0, rfl, ho, hb⟩
    have HT0 : Hid (Below w0.heap.size w0 t0) := ext_trans HBW.out (ext_trans (ext_alloc _ _) hb)
    have HO0_0 := Lib.hid ho
    have HW0 : Hid (Below wr.heap.size wr t0) := ext_trans HB7.out (ext_trans (ext_alloc _ _) hb)
    clear ho hb
    go_wp2_with fail
    refine (behind_any [-(sp : Int), lb] (first + i) t0.heap.size 0 2 w0 (t0.alloc (.cells #[.int .i64 (-(sp : Int)), .int .i64 (lb)] 3)) (ext_trans HT0.out (ext_alloc _ _)) (oneZ_of w0 t0 HT0.out.size [-(sp : Int), lb] 2 #[.int .i64 (-(sp : Int)), .int .i64 (lb)] rfl rfl (by simp)) (by omega)).mono ?_
    rintro e t1 ⟨d1, e1, g1, rfl, ho, hb⟩
    have HT1 : Hid (Below w0.heap.size w0 t1) := ext_trans HT0.out (ext_trans (ext_alloc _ _) hb)
    have HO1_1 := Lib.hid ho
    have HO0_1 := Lib.hid (HO0_0.out.onward (ext_trans (ext_alloc t0 (.cells #[.int .i64 (-(sp : Int)), .int .i64 (lb)] 3)) hb))
    have HW1 : Hid (Below wr.heap.size wr t1) := ext_trans HW0.out (ext_trans (ext_alloc _ _) hb)
    clear ho hb
    go_wp2_with fail
    refine (behind_any [(sp : Int), -la, -lb] (first + i) t1.heap.size 0 3 w0 (t1.alloc (.cells #[.int .i64 ((sp : Int)), .int .i64 (-la), .int .i64 (-lb)] 3)) (ext_trans HT1.out (ext_alloc _ _)) (oneZ_of w0 t1 HT1.out.size [(sp : Int), -la, -lb] 3 #[.int .i64 ((sp : Int)), .int .i64 (-la), .int .i64 (-lb)] rfl rfl (by simp)) (by omega)).mono ?_
    rintro e t2 ⟨d2, e2, g2, rfl, ho, hb⟩
    have HT2 : Hid (Below w0.heap.size w0 t2) := ext_trans HT1.out (ext_trans (ext_alloc _ _) hb)
    have HO2_2 := Lib.hid ho
    have HO0_2 := Lib.hid (HO0_1.out.onward (ext_trans (ext_alloc t1 (.cells #[.int .i64 ((sp : Int)), .int .i64 (-la), .int .i64 (-lb)] 3)) hb))
    have HO1_2 := Lib.hid (HO1_1.out.onward (ext_trans (ext_alloc t1 (.cells #[.int .i64 ((sp : Int)), .int .i64 (-la), .int .i64 (-lb)] 3)) hb))
    have HW2 : Hid (Below wr.heap.size wr t2) := ext_trans HW1.out (ext_trans (ext_alloc _ _) hb)
    clear ho hb
    have HEA := Lib.hid (each3 HO0_2.out HO1_2.out HO2_2.out (.cells #[.slice d0 e0 g0, .slice d1 e1 g1, .slice d2 e2 g2] 45))
    go_wp2_with (at_builtin; refine wpList_append_lists rfl _ _ rfl _ ss Li (by rfl) HLL.out (ext_trans HW2.out (ext_alloc _ _)) [(d0, e0, g0), (d1, e1, g1), (d2, e2, g2)] [behE [-(sp : Int), la] (first + i), behE [-(sp : Int), lb] (first + i), behE [(sp : Int), -la, -lb] (first + i)] t2.heap.size 3 (by rfl) (seesZ3 t2 t2.heap.size rfl (d0, e0, g0) (d1, e1, g1) (d2, e2, g2)) rfl HEA.out (by have := HLN.out; omega) (by omega) ?_)
    intro ra rn rc w9 hrow hk9 hk1
    have HR9 : Hid (RowL w0 (Li ++ newG (byG first i) (sp : Int) la lb) (.slice ra rn rc) w9) := by show RowL _ _ _ _; rw [show newG (byG first i) (sp : Int) la lb = _ from HNW.out]; exact hrow
    have HK8 := Lib.hid hk9
    clear hrow hk9 hk1 HEA
    go_wp2
    exact HKK.out _ _ _ _ _ _ _ _ _ _ _ _ _ _ _ _ _ _ _ _ _ _ _ _ _ _ _ _ _ _ _ _ _ _ _ _ _ _ _ _ _ _ _ _ _ _ _ _ _ _ _ _ _ _ _ _ _ _ _ _ _ _ _ _ _ _ _ _ HR9.out HK8.out
end Go.Proofs.Ytcoehbkjccfhlaa
namespace Go.Proofs.Ytcoehbkjccfhlaa
open Go Go.RowKit Go.Joins

theorem phi_beh (first i b : Nat) (C : List Int) (hb : b = if first = 0 then 0 else first + i) : phiN first ((i : Int), C) = behE C b := by
  unfold phiN behE withE
  by_cases e : first = 0
  · rw [if_pos e]; rw [if_pos e] at hb; rw [if_pos hb]
  · rw [if_neg e]; rw [if_neg e] at hb; rw [if_neg (by simp), if_neg (by omega), hb]; simp
theorem phi_none (first : Nat) (C : List Int) : phiN first (-1, C) = C := by unfold phiN withE; split; rfl; simp
def latsU (c : NormC) (f i : Nat) : List TCl := if f = 0 then upE (resetE c) i else upE (nextE c f) i
def cfA (c : NormC) (z : Int) (first : Nat) : List (List Int) × Nat := if ofOk c z then (if manyE c z.toNat ≤ 1048576 then ((allE c z.toNat).map (phiN first), 0) else ([], 3)) else ([], 2)
def CfE (c : NormC) (z : Int) (first : Nat) (w : World) (e : Ending) (w' : World) : Prop :=
  Below w.heap.size w w' ∧ ∃ a n k ss, e = .returned (.tuple #[.slice a n k, .int .i64 ((cfA c z first).2 : Nat)]) ∧ SeesZ w' a n k ss (cfA c z first).1
def latsF (first : Nat) (c : NormC) (k i : Nat) : List (List Int) := (latsU c k i).map (phiN first)
def gatsF (first : Nat) (c : NormC) (k i : Nat) : List (List Int) := (upE (gateE c k) i).map (phiN first)
theorem latsF_zero (first : Nat) (c : NormC) (k : Nat) : latsF first c k 0 = [] := by unfold latsF latsU; split <;> rfl
theorem gatsF_zero (first : Nat) (c : NormC) (k : Nat) : gatsF first c k 0 = [] := rfl
theorem latsF_succ (first : Nat) (c : NormC) (k i p1 p2 : Nat) (hp : c.lats.getD i (0, 0) = (p1, p2)) :
    latsF first c k (i + 1) = latsF first c k i ++ newL k p2 ((spotE (varsN c) (1 + c.ins.toNat + i) k : Nat) : Int) (litE (varsN c) p1 (k - 1)) := by
  unfold latsF latsU newL
  by_cases h : k = 0
  · subst h
    rw [if_pos rfl, if_pos rfl, if_pos rfl, upE_succ, List.map_append]
    congr 1
    unfold resetE firstLatE
    rw [hp]
    by_cases h1 : p2 = 0
    · simp [h1, phi_none]
    · by_cases h2 : p2 = 1
      · simp [h2, phi_none]
      · simp [h1, h2]
  · rw [if_neg h, if_neg h, if_neg h, upE_succ, List.map_append]
    congr 1
    unfold nextE firstLatE
    rw [hp]
    simp [phi_none]
theorem gatsF_succ (first : Nat) (c : NormC) (k i p1 p2 : Nat) (hp : c.gates.getD i (0, 0) = (p1, p2)) :
    gatsF first c k (i + 1) = gatsF first c k i ++ newG (byG first i) ((spotE (varsN c) (1 + c.ins.toNat + c.lats.length + i) k : Nat) : Int) (litE (varsN c) p1 k) (litE (varsN c) p2 k) := by
  unfold gatsF newG
  rw [upE_succ, List.map_append]
  congr 1
  unfold gateE firstGateE
  rw [hp]
  simp only [List.map_cons, List.map_nil, phi_beh first i (byG first i) _ rfl]
theorem allF_succ (first : Nat) (c : NormC) (k : Nat) : (allE c (k + 1)).map (phiN first) = (allE c k).map (phiN first) ++ latsF first c k c.lats.length ++ gatsF first c k c.gates.length := by
  rw [allE_succ, List.map_append, List.map_append]
  rfl
set_option maxRecDepth 100000 in
set_option maxHeartbeats 25600000 in
theorem refclauses_any (c : NormC) (s : CSlots) (z : Int) (first : Nat) (w : World) (h : SeesCir w s c) (hs : s.small) (hlo : -9223372036854775808 ≤ c.ins) (hhi : c.ins < 9223372036854775808) (hw : Wide c) (hfst : first ≤ 5000000) :
    Calls Try.prog 41 #[cirV c.ins s, .int .i64 z, .int .i64 (first : Int)] w (CfE c z first w) := by
  obtain ⟨i0, hi, hz0, hz1, hz2⟩ := info_parts info_zs
  have HSO := Lib.hid (fun W (hb : Below w.heap.size w W) => some14_any c s z W (h.below hb) hs hlo hhi hw)
  have HMN := Lib.hid (fun (ho : ofOk c z = true) W (hb : Below w.heap.size w W) => refmany14_any c s z.toNat W (h.below hb) hs (ofOk_iff ho).1 ⟨(ofOk_iff ho).2.1, (ofOk_iff ho).2.2.1⟩)
  have HOF := Lib.hid (fun (ho : ofOk c z = true) (l f : Nat) (hl : l ≤ 2 * varsN c + 1) (hf : f ≤ 256) W (hb : Below w.heap.size w W) => refof14_any c s l f (ofOk_iff ho).1 hl hf W (h.below hb) hs hlo hhi hw)
  have HOK := Lib.hid (fun (ho : ofOk c z = true) => ofOk_iff ho)
  have A1 : Hid (ofOk c z = true → manyE c z.toNat ≤ 1048576 → cfA c z first = ((allE c z.toNat).map (phiN first), 0)) := fun h1 h2 => by unfold cfA; rw [if_pos h1, if_pos h2]
  have A2 : Hid (ofOk c z = true → 1048576 < manyE c z.toNat → cfA c z first = ([], 3)) := fun h1 h2 => by unfold cfA; rw [if_pos h1, if_neg (by omega)]
  have A3 : Hid (ofOk c z = false → cfA c z first = ([], 2)) := fun h1 => by unfold cfA; rw [if_neg (by rw [h1]; simp)]
  have HS1 := Lib.hid h.s1
  have HS2 := Lib.hid h.s2
  have l1 : c.lats.length = s.n1 := h.s1.1
  have l2 : c.gates.length = s.n2 := h.s2.1
  clear h hs hlo hhi hw
  obtain ⟨a1, n1, c1, a2, n2, c2, a3, n3, c3, a4, n4, c4, a5, n5, c5⟩ := s
  simp only at HS1 HS2 l1 l2
  obtain ⟨A, hA⟩ : ∃ A, A = cfA c z first := ⟨_, rfl⟩
  unfold CfE
  rw [← hA]
  rw [← hA] at A1 A2 A3
  obtain ⟨x, hx⟩ : ∃ x, x = c.ins := ⟨_, rfl⟩
  rw [← hx]
  rw [← hx] at HSO HMN HOF
  obtain ⟨o, ho⟩ : ∃ o, o = ofOk c z := ⟨_, rfl⟩
  rw [← ho] at HSO HMN HOF HOK A1 A2 A3
  have HXI := Lib.hid hx
  have HFST := Lib.hid hfst
  clear hx ho hA
  unfold cirV at *
  go_enter Try.func41, Try.ntmps41
  go_upto_region 1 with fail
  generalize hW : World.alloc w _ = W1
  have hX : W1.heap[w.heap.size]? = some (.cells #[.int .i64 x, .slice a1 n1 c1, .slice a2 n2 c2, .slice a3 n3 c3, .slice a4 n4 c4, .slice a5 n5 c5] 26 (0, 0)) := by subst hW; exact heap_new _ _ _ rfl
  have hB : Below w.heap.size w W1 := by subst hW; exact ext_alloc _ _
  have HX1 := Lib.hid hX
  have HB1 := Lib.hid hB
  clear hW hX hB
  have p0 := cell_of_block HX1.out 0
  have p1 := cell_of_block HX1.out 1
  have p2 := cell_of_block HX1.out 2
  have p3 := cell_of_block HX1.out 3
  have p4 := cell_of_block HX1.out 4
  have p5 := cell_of_block HX1.out 5
  go_wp2_with fail
  refine (HSO.out W1 HB1.out).mono ?_
  rintro e W2 ⟨rfl, hb⟩
  have HX2 := Lib.hid (heap_below HX1.out hb)
  have HB2 := Lib.hid (ext_trans HB1.out hb)
  clear p0 p1 p2 p3 p4 p5 hb HX1 HB1 HSO
  cases o with
  | false =>
    clear HMN HOF HOK A1 A2
    have HA := Lib.hid (A3.out (by trivial))
    go_wp2
    refine bodyPost_ret (v := .tuple #[.slice none 0 0, .int .i64 2]) ?_ rfl ?_
    · simp [results, Try.results41, go_sem]
    · refine ⟨HB2.out, none, 0, 0, [], by rw [HA.out]; rfl, ?_⟩
      rw [HA.out]; exact SeesZ.nil _
  | true =>
    obtain ⟨hM, hf1, hf2, hzz⟩ := HOK.out (by trivial)
    have HMN2 := Lib.hid (HMN.out (by trivial))
    have HOF2 := Lib.hid (HOF.out (by trivial))
    have A1b := Lib.hid (A1.out (by trivial))
    have A2b := Lib.hid (A2.out (by trivial))
    clear HMN HOF HOK A1 A2 A3
    obtain ⟨nf, hnf⟩ : ∃ n, n = z.toNat := ⟨_, rfl⟩
    rw [← hnf] at hzz hf1 hf2 HMN2 A1b A2b
    subst hzz
    clear hnf
    obtain ⟨m, hm⟩ : ∃ n, n = manyE c nf := ⟨_, rfl⟩
    rw [← hm] at HMN2 A1b A2b
    clear hm
    obtain ⟨ii, hii⟩ := Int.eq_ofNat_of_zero_le hM.pos
    have hiv : x = (ii : Int) := HXI.out.trans hii
    subst hiv
    have hin : c.ins.toNat = ii := by rw [hii]; rfl
    have hfew := hM.few
    have HLEN : Hid (∀ k, k ≤ nf → ((allE c k).map (phiN first)).length ≤ 13000000) := fun k hk => by
      have h1 := allE_len c k hM.few
      have h2 : k * 49152 ≤ 256 * 49152 := Nat.mul_le_mul_right _ (by omega)
      rw [List.length_map]
      omega
    have HLU : Hid (∀ f k, k ≤ n1 → (latsF first c f k).length ≤ 100000) := fun f k hk => by have h1 := latsE_len c f k; have h3 : n1 ≤ varsN c := (by unfold varsN; omega); unfold latsF latsU; rw [List.length_map]; omega
    have HGU : Hid (∀ f k, k ≤ n2 → (gatsF first c f k).length ≤ 100000) := fun f k hk => by have h1 := upE_len (gateE c f) 3 k (fun i _ => by simp [gateE]); have h3 : n2 ≤ varsN c := (by unfold varsN; omega); unfold gatsF; rw [List.length_map]; omega
    have HLS : Hid (∀ k i p1 p2, c.lats.getD i (0, 0) = (p1, p2) → latsF first c k (i + 1) = latsF first c k i ++ newL k p2 ((spotE (varsN c) (1 + ii + i) k : Nat) : Int) (litE (varsN c) p1 (k - 1))) := fun k i p1 p2 h => by rw [latsF_succ first c k i p1 p2 h, hin]
    have HGS : Hid (∀ k i p1 p2, c.gates.getD i (0, 0) = (p1, p2) → gatsF first c k (i + 1) = gatsF first c k i ++ newG (byG first i) ((spotE (varsN c) (1 + ii + n1 + i) k : Nat) : Int) (litE (varsN c) p1 k) (litE (varsN c) p2 k)) := fun k i p1 p2 h => by rw [gatsF_succ first c k i p1 p2 h, hin, l1]
    have HAL : Hid (∀ k, (allE c (k + 1)).map (phiN first) = (allE c k).map (phiN first) ++ latsF first c k n1 ++ gatsF first c k n2) := fun k => by rw [allF_succ, l1, l2]
    have HA0 : Hid ((allE c 0).map (phiN first) = [] ++ [[1]]) := by show _ = _; simp [allE, upE_zero, phi_none]
    have HP1 : Hid (∀ k, k < n1 → (c.lats.getD k (0, 0)).1 ≤ 2 * varsN c + 1 ∧ (c.lats.getD k (0, 0)).2 ≤ 2) := fun k hk => hM.lats (c.lats.getD k (0, 0)) (getD_mem (by rw [l1]; exact hk))
    have HP2 : Hid (∀ k, k < n2 → (c.gates.getD k (0, 0)).2 ≤ 2 * varsN c + 1 ∧ (c.gates.getD k (0, 0)).1 ≤ 2 * varsN c + 1) := fun k hk => by have := hM.gates k (by rw [l2]; exact hk); rw [hin, l1] at this; have h3 : ii + n1 + n2 ≤ varsN c := (by unfold varsN; rw [hin, l1, l2]; omega); show _ ∧ _; omega
    have hV1 : ii + n1 + n2 ≤ varsN c := by unfold varsN; rw [hin, l1, l2]; omega
    have HZ0 : Hid (∀ w', ListsZ w (.slice none 0 0) [] [] w' → RowL w ([] : List (List Int)) (.slice none 0 0) w') := fun w' h => ⟨_, h⟩
    obtain ⟨V, hV⟩ : ∃ V, V = varsN c := ⟨_, rfl⟩
    rw [← hV] at hfew hV1 HOF2 HP1 HP2 HLS HGS
    clear hM hii hin hV l1 l2 HXI HZ0
    have p0 := cell_of_block HX2.out 0
    have p1 := cell_of_block HX2.out 1
    have p2 := cell_of_block HX2.out 2
    have p3 := cell_of_block HX2.out 3
    have p4 := cell_of_block HX2.out 4
    have p5 := cell_of_block HX2.out 5
    go_wp2_with fail
    refine (HMN2.out W2 HB2.out).mono ?_
    rintro e W3 ⟨rfl, hb⟩
    have HX3 := Lib.hid (heap_below HX2.out hb)
    have HB3 := Lib.hid (ext_trans HB2.out hb)
    clear p0 p1 p2 p3 p4 p5 hb HX2 HB2 HMN2
    by_cases hm : 1048576 < m
    · have e1 : decide ((1048576 : Int) < (m : Int)) = true := by simp; omega
      have e2 : decide (1048576 < m) = true := by simp; omega
      have HM := Lib.hid hm
      clear hm HOF2 HLS HGS HLEN HLU HGU HAL HP1 HP2
      have HA := Lib.hid (A2b.out HM.out)
      go_wp2
      refine bodyPost_ret (v := .tuple #[.slice none 0 0, .int .i64 3]) ?_ rfl ?_
      · simp [results, Try.results41, go_sem]
      · refine ⟨HB3.out, none, 0, 0, [], by rw [HA.out]; rfl, ?_⟩
        rw [HA.out]; exact SeesZ.nil _
    · have e1 : decide ((1048576 : Int) < (m : Int)) = false := by simp; omega
      have e2 : decide (1048576 < m) = false := by simp; omega
      have HA := Lib.hid (A1b.out (by omega))
      clear hm A1b A2b
      obtain ⟨AF, hAF⟩ : ∃ g : Nat → List (List Int), g = fun k => (allE c k).map (phiN first) := ⟨_, rfl⟩
      obtain ⟨LF, hLF⟩ : ∃ g : Nat → Nat → List (List Int), g = fun k i => latsF first c k i := ⟨_, rfl⟩
      obtain ⟨GF, hGF⟩ : ∃ g : Nat → Nat → List (List Int), g = fun k i => gatsF first c k i := ⟨_, rfl⟩
      have HL0 : Hid (∀ k, LF k 0 = []) := by intro k; rw [hLF]; exact latsF_zero first c k
      have HG0 : Hid (∀ k, GF k 0 = []) := by intro k; rw [hGF]; rfl
      replace HLEN : Hid (∀ k, k ≤ nf → (AF k).length ≤ 13000000) := by rw [hAF]; exact HLEN
      replace HLU : Hid (∀ f k, k ≤ n1 → (LF f k).length ≤ 100000) := by rw [hLF]; exact HLU
      replace HGU : Hid (∀ f k, k ≤ n2 → (GF f k).length ≤ 100000) := by rw [hGF]; exact HGU
      replace HLS : Hid (∀ k i p1 p2, c.lats.getD i (0, 0) = (p1, p2) → LF k (i + 1) = LF k i ++ newL k p2 ((spotE V (1 + ii + i) k : Nat) : Int) (litE V p1 (k - 1))) := by rw [hLF]; exact HLS
      replace HGS : Hid (∀ k i p1 p2, c.gates.getD i (0, 0) = (p1, p2) → GF k (i + 1) = GF k i ++ newG (byG first i) ((spotE V (1 + ii + n1 + i) k : Nat) : Int) (litE V p1 k) (litE V p2 k)) := by rw [hGF]; exact HGS
      replace HAL : Hid (∀ k, AF (k + 1) = AF k ++ LF k n1 ++ GF k n2) := by rw [hAF, hLF, hGF]; exact HAL
      replace HA0 : Hid (AF 0 = [] ++ [[1]]) := by rw [hAF]; exact HA0
      replace HA : Hid (A = (AF nf, 0)) := by rw [hAF]; exact HA
      clear hAF hLF hGF
      go_upto_region 6 with fail
      clear e1 e2
      generalize hW : World.alloc (World.alloc W3 _) _ = W4
      have HR4 : Hid (RowL w (AF 0) (.slice (some ⟨W3.heap.size + 1, 0, none⟩) 1 1) W4) := by
        subst hW
        have ho := oneZ_of w W3 HB3.out.size [1] 1 #[.int .i64 1] rfl rfl (by decide)
        have hn := (ListsZ.nil w).onward (w1 := W3) HB3.out
        show RowL _ _ _ _
        rw [HA0.out]
        refine ⟨_, ListsZ.moreN (w := w) (w1 := W3.alloc (.cells #[.int .i64 1] 3)) (ListsZ.nil w) (ext_trans HB3.out (ext_alloc _ _)) [(some ⟨W3.heap.size, 0, none⟩, 1, 1)] [[1]] rfl (fun j hj => ?_) ?_ ⟨rfl, rfl, rfl, by simp, fun k hk _ => heap_alloc_old _ _ hk⟩⟩
        · obtain rfl : j = 0 := by simp at hj; omega
          exact ho
        · exact Row.made_at #[.slice (some ⟨W3.heap.size, 0, none⟩) 1 1] 1 _ _ _ (by simp) rfl rfl (by have := HB3.out.size; simp; omega) (by simp [maxLen]) (by simp) (fun _ _ => trivial)
      have hX4 : W4.heap[w.heap.size]? = some (.cells #[.int .i64 (ii : Int), .slice a1 n1 c1, .slice a2 n2 c2, .slice a3 n3 c3, .slice a4 n4 c4, .slice a5 n5 c5] 26 (0, 0)) := by subst hW; exact heap_below HX3.out (ext_trans (ext_alloc _ _) (ext_alloc _ _))
      have HX4 := Lib.hid hX4
      clear hW hX4 HX3 HB3
      go_wp2_with fail
      go_loopw [9, 8] (fun fx v wr => ∃ k : Nat, k ≤ nf ∧ fx = .int .i64 k ∧ Hid (RowL w (AF k) v wr) ∧ Hid (KeepT 45 W4 wr)) (fun fx _ _ => nf - (intOf fx).toNat)
      case atStart => exact ⟨0, Nat.zero_le _, rfl, HR4.out, KeepT.refl _ _⟩
      case round =>
        obtain ⟨k, hk, rfl, hR, hK⟩ := hrel
        by_cases hlt : k < nf
        · have W8 : IntKind.i64.wrap ((k : Int) + 1) = (k : Int) + 1 := IntWalk.i64_in _ (by omega)
          have hlen := HLEN.out k hk
          have hal := HAL.out k
          obtain ⟨Lk, hLk⟩ : ∃ l, l = AF k := ⟨_, rfl⟩
          rw [← hLk] at hR hlen hal
          have HLK := Lib.hid hlen
          have HNX := Lib.hid hal
          have HR := Lib.hid hR.out
          have HK := Lib.hid hK.out
          have HK255 : Hid (k ≤ 255) := by show _ ≤ _; omega
          clear hlen hal hLk hR hK HR4
          go_wp2_with fail
          go_loopw [10, 8] (fun ix v wr => ∃ i : Nat, i ≤ n1 ∧ ix = .int .i64 i ∧ Hid (RowL w (Lk ++ LF k i) v wr) ∧ Hid (KeepT 45 W4 wr)) (fun ix _ _ => n1 - (intOf ix).toNat)
          case atStart => exact ⟨0, Nat.zero_le _, rfl, by show RowL _ _ _ _; rw [HL0.out, List.append_nil]; exact HR.out, HK.out⟩
          case round =>
            obtain ⟨i, hi, rfl, hR, hK⟩ := hrel
            by_cases hlt2 : i < n1
            · obtain ⟨b0, o0, rfl, hb0⟩ := HS1.out.addr (by omega)
              obtain ⟨rss, hrl⟩ := hR.out
              have hpp := HP1.out i hlt2
              obtain ⟨⟨p1, p2⟩, hp⟩ : ∃ p, c.lats.getD i (0, 0) = p := ⟨_, rfl⟩
              rw [hp] at hpp
              simp only at hpp
              have hsu := HLS.out k i p1 p2 hp
              obtain ⟨fv, hfv⟩ : ∃ n, n = 1 + ii + i := ⟨_, rfl⟩
              rw [← hfv] at hsu
              have hkk := HK255.out
              have hfv2 : fv ≤ V := by omega
              have hsl := (spotE_lt (V := V) (v := fv) (f := k) hfew hfv2 (by omega)).1
              have HO1 : Hid (∀ W, Below w.heap.size w W → _) := Lib.hid (fun W hb => HOF2.out (2 * fv) k (by omega) (by omega) W hb)
              simp only [lit_even V fv k (by omega)] at HO1
              obtain ⟨sp, hsp⟩ : ∃ n, n = spotE V fv k := ⟨_, rfl⟩
              simp only [← hsp] at HO1 hsu
              rw [← hsp] at hsl
              have hs_la := litE_small (V := V) (x := p1) (f := (k - 1)) hfew (by omega) (by omega)
              have HO_la : Hid (∀ W, Below w.heap.size w W → _) := Lib.hid (fun W hb => HOF2.out p1 (k - 1) (by omega) (by omega) W hb)
              obtain ⟨la, hla⟩ : ∃ z, z = litE V p1 (k - 1) := ⟨_, rfl⟩
              simp only [← hla] at HO_la hsu hs_la
              have W9 : IntKind.i64.wrap ((i : Int) + 1) = (i : Int) + 1 := IntWalk.i64_in _ (by omega)
              obtain ⟨Li, hLi⟩ : ∃ l, l = Lk ++ LF k i := ⟨_, rfl⟩
              have hll : Li.length ≤ 14000000 := by rw [hLi, List.length_append]; have := HLK.out; have := HLU.out k i hi; omega
              have HNI : Hid (Lk ++ LF k (i + 1) = Li ++ newL k p2 (sp : Int) la) := by show _ = _; rw [hLi, hsu, List.append_assoc]
              rw [← hLi] at hrl
              have HKi := Lib.hid hK.out
              have HSX := Lib.hid (HS1.out.below hrl.bel)
              have HHP := Lib.hid hp
              have HFV := Lib.hid hfv
              have HSL := Lib.hid hsl
              have HLL := Lib.hid hll
              have HRL := Lib.hid hrl
              have HPP := Lib.hid hpp
              have HXi := Lib.hid (hK.out.block _ _ _ _ HX4.out (by decide))
              have HS_la := Lib.hid hs_la
              clear hp hpp hsu hfv hfv2 hsl hsp hLi hll hrl hR hK hb0 hkk hla hs_la
              have pl : wr.cell? ⟨w.heap.size, 1, none⟩ = some (.slice (some ⟨b0, o0, none⟩) n1 c1) := cell_of_block HXi.out 1
              refine wp_seq_k fun K8 h8 => ?_
              have H8 := Lib.hid h8
              clear h8
              go_wp2
              refine H8.out _ _ ?_
              clear H8 pl
              refine wp_seq_k fun K33 h33 => ?_
              refine lat_blk w _ w.heap.size ii i k n1 c1 p1 p2 fv sp n2 c2 n3 c3 n4 c4 n5 c5 b0 o0 a2 a3 a4 a5 la c.lats _ rss Li HXi.out HSX.out hlt2 HHP.out HPP.out.2 HO1.out (fun _ => HO_la.out) HFV.out (by omega) (by omega) (by have := HSL.out; omega) (by have := HS_la.out; omega) (by have := HK255.out; omega) HRL.out HLL.out _ ?_
              intro ra rn rc w9
              intros
              rename_i g1 g2
              have G1 := Lib.hid g1
              have G2 := Lib.hid (HKi.out.trans g2)
              clear g1 g2
              refine h33 _ _ ?_
              clear h33
              go_wp2
              go_roundw
              case rel => exact ⟨i + 1, by omega, by go_num, by show RowL _ _ _ _; rw [HNI.out]; exact G1.out, G2.out⟩
              case measure => simp [intOf]; omega
            · have HXq := Lib.hid (hK.out.block _ _ _ _ HX4.out (by decide))
              have pl : wr.cell? ⟨w.heap.size, 1, none⟩ = some (.slice a1 n1 c1) := cell_of_block HXq.out 1
              have hin1 : i = n1 := by omega
              subst hin1
              have HR5 := Lib.hid hR.out
              have HK5 := Lib.hid hK.out
              clear hR hK HR HK hi
              have hlu := HLU.out k i (Nat.le_refl _)
              have hlk := HLK.out
              have hnx := HNX.out
              obtain ⟨Lg, hLg⟩ : ∃ l, l = Lk ++ LF k i := ⟨_, rfl⟩
              have hlg : Lg.length ≤ 13200000 := by rw [hLg, List.length_append]; omega
              rw [← hLg] at HR5 hnx
              have HLG := Lib.hid hlg
              have HNX2 := Lib.hid hnx
              clear HNX hlu hlk hnx hLg hlg HLK
              go_wp2_with fail
              clear pl
              go_loopw [14, 8] (fun ix v wr => ∃ j : Nat, j ≤ n2 ∧ ix = .int .i64 j ∧ Hid (RowL w (Lg ++ GF k j) v wr) ∧ Hid (KeepT 45 W4 wr)) (fun ix _ _ => n2 - (intOf ix).toNat)
              case atStart => exact ⟨0, Nat.zero_le _, rfl, by show RowL _ _ _ _; rw [HG0.out, List.append_nil]; exact HR5.out, HK5.out⟩
              case round =>
                obtain ⟨j, hj, rfl, hR, hK⟩ := hrel
                by_cases hlt3 : j < n2
                · obtain ⟨b0, o0, rfl, hb0⟩ := HS2.out.addr (by omega)
                  obtain ⟨rss, hrl⟩ := hR.out
                  have hpp := HP2.out j hlt3
                  obtain ⟨⟨p1, p2⟩, hp⟩ : ∃ p, c.gates.getD j (0, 0) = p := ⟨_, rfl⟩
                  rw [hp] at hpp
                  simp only at hpp
                  have hsu := HGS.out k j p1 p2 hp
                  obtain ⟨fv, hfv⟩ : ∃ n, n = 1 + ii + i + j := ⟨_, rfl⟩
                  rw [← hfv] at hsu
                  have hkk := HK255.out
                  have hfv2 : fv ≤ V := by omega
                  have hsl := (spotE_lt (V := V) (v := fv) (f := k) hfew hfv2 (by omega)).1
                  have HO1 : Hid (∀ W, Below w.heap.size w W → _) := Lib.hid (fun W hb => HOF2.out (2 * fv) k (by omega) (by omega) W hb)
                  simp only [lit_even V fv k (by omega)] at HO1
                  obtain ⟨sp, hsp⟩ : ∃ n, n = spotE V fv k := ⟨_, rfl⟩
                  simp only [← hsp] at HO1 hsu
                  rw [← hsp] at hsl
                  have hs_la := litE_small (V := V) (x := p1) (f := k) hfew (by omega) (by omega)
                  have HO_la : Hid (∀ W, Below w.heap.size w W → _) := Lib.hid (fun W hb => HOF2.out p1 k (by omega) (by omega) W hb)
                  obtain ⟨la, hla⟩ : ∃ z, z = litE V p1 k := ⟨_, rfl⟩
                  simp only [← hla] at HO_la hsu hs_la
                  have hs_lb := litE_small (V := V) (x := p2) (f := k) hfew (by omega) (by omega)
                  have HO_lb : Hid (∀ W, Below w.heap.size w W → _) := Lib.hid (fun W hb => HOF2.out p2 k (by omega) (by omega) W hb)
                  obtain ⟨lb, hlb⟩ : ∃ z, z = litE V p2 k := ⟨_, rfl⟩
                  simp only [← hlb] at HO_lb hsu hs_lb
                  have W9 : IntKind.i64.wrap ((j : Int) + 1) = (j : Int) + 1 := IntWalk.i64_in _ (by omega)
                  obtain ⟨Li, hLi⟩ : ∃ l, l = Lg ++ GF k j := ⟨_, rfl⟩
                  have hll : Li.length ≤ 14000000 := by rw [hLi, List.length_append]; have := HLG.out; have := HGU.out k j hj; omega
                  have HNI : Hid (Lg ++ GF k (j + 1) = Li ++ newG (byG first j) (sp : Int) la lb) := by show _ = _; rw [hLi, hsu, List.append_assoc]
                  rw [← hLi] at hrl
                  have HKi := Lib.hid hK.out
                  have HSX := Lib.hid (HS2.out.below hrl.bel)
                  have HHP := Lib.hid hp
                  have HFV := Lib.hid hfv
                  have HSL := Lib.hid hsl
                  have HLL := Lib.hid hll
                  have HRL := Lib.hid hrl
                  have HPP := Lib.hid hpp
                  have HXi := Lib.hid (hK.out.block _ _ _ _ HX4.out (by decide))
                  have HS_la := Lib.hid hs_la
                  have HS_lb := Lib.hid hs_lb
                  clear hp hpp hsu hfv hfv2 hsl hsp hLi hll hrl hR hK hb0 hkk hla hs_la hlb hs_lb
                  have pl : wr.cell? ⟨w.heap.size, 2, none⟩ = some (.slice (some ⟨b0, o0, none⟩) n2 c2) := cell_of_block HXi.out 2
                  refine wp_seq_k fun K8 h8 => ?_
                  have H8 := Lib.hid h8
                  clear h8
                  go_wp2
                  refine H8.out _ _ ?_
                  clear H8 pl
                  refine wp_seq_k fun K33 h33 => ?_
                  refine gat_blk w _ w.heap.size ii j k first i c1 p1 p2 fv sp n2 c2 n3 c3 n4 c4 n5 c5 b0 o0 a1 a3 a4 a5 la lb c.gates _ rss Li HXi.out HSX.out hlt3 HHP.out HO1.out HO_la.out HO_lb.out HFV.out (by omega) (by omega) (by omega) (by have := HSL.out; omega) (by have := HS_la.out; omega) (by have := HS_lb.out; omega) HFST.out HRL.out HLL.out _ ?_
                  intro ra rn rc w9
                  intros
                  rename_i g1 g2
                  have G1 := Lib.hid g1
                  have G2 := Lib.hid (HKi.out.trans g2)
                  clear g1 g2
                  refine h33 _ _ ?_
                  clear h33
                  go_wp2
                  go_roundw
                  case rel => exact ⟨j + 1, by omega, by go_num, by show RowL _ _ _ _; rw [HNI.out]; exact G1.out, G2.out⟩
                  case measure => simp [intOf]; omega
                · have HXq2 := Lib.hid (hK.out.block _ _ _ _ HX4.out (by decide))
                  have pl2 : wr.cell? ⟨w.heap.size, 2, none⟩ = some (.slice a2 n2 c2) := cell_of_block HXq2.out 2
                  have hin2 : j = n2 := by omega
                  subst hin2
                  have HR6 : Hid (RowL w (AF (k + 1)) _ _) := (show RowL _ _ _ _ from by rw [HNX2.out]; exact hR.out)
                  have HK6 := Lib.hid hK.out
                  clear hR hK HR5 HK5 hj
                  go_wp2
                  go_roundw
                  case rel => exact ⟨k + 1, by omega, by go_num, HR6.out, HK6.out⟩
                  case measure => simp [intOf]; omega
        · have hkn : k = nf := by omega
          subst hkn
          obtain ⟨rss, hrl⟩ := hR.out
          obtain ⟨za, zc, hz, hs⟩ := hrl.done
          subst hz
          have HB9 := Lib.hid hrl.bel
          have HSS := Lib.hid hs
          clear hrl hs hR hK
          go_wp2
          refine bodyPost_ret (v := .tuple #[.slice za (AF k).length zc, .int .i64 0]) ?_ rfl ?_
          · simp [results, Try.results41, go_sem]
          · refine ⟨HB9.out, za, (AF k).length, zc, rss, by rw [HA.out]; rfl, ?_⟩
            rw [HA.out]; exact HSS.out
end Go.Proofs.Ytcoehbkjccfhlaa
