/- inquestref14.clauses: the latches' block. -/
import Derived.Test.YtcoehbkjccfhlaaGEncT01
import Derived.Test.YtcoehbkjccfhlaaGEncT02
import Derived.Test.YtcoehbkjccfhlaaGEncT07
import Derived.Test.YtcoehbkjccfhlaaGEncT12
import Derived.Test.YtcoehbkjccfhlaaEnLim
import Derived.Test.YtcoehbkjccfhlaaEnCl
import Derived.Test.YtcoehbkjccfhlaaEnFa
import Derived.Test.YtcoehbkjccfhlaaEnGv
import Derived.Test.YtcoehbkjccfhlaaEnRl
import Derived.Test.YtcoehbkjccfhlaaGEncT13
import Derived.Test.YtcoehbkjccfhlaaRows
import Derived.BigQuiet
import Derived.Deep.AppendLies
import Derived.Deep.CutRange
import Derived.Deep.QuietTactic
import Derived.Deep.RegionHeld3
import Derived.Deep.RegionLaw
import Derived.Deep.RegionWith
import Derived.KernelRfl
import Derived.Laws.EntriesVeiled
import Derived.Laws.Tables
import Derived.Lib.AppendStr
import Derived.Lib.AppendZeros
import Derived.Lib.ConvBytes
import Derived.Lib.Hide
import Derived.Lib.SlBytesRow
import Derived.Lib.SmallJoins
import Derived.Maps.AppendAt
import Derived.OrdersHeld
import Derived.Shelf.Bytes.SlSmallAll
import Derived.WalkKit
import Derived.WalkLawsBesides
import Derived.WalkSpells
import Derived.Test.YtcoehbkjccfhlaaGEncT05
import Derived.Test.YtcoehbkjccfhlaaGEncT10
import Derived.Test.YtcoehbkjccfhlaaGEncT15
import Derived.Test.YtcoehbkjccfhlaaGEncT14
/- The law EncTells: how long the lists are. -/
namespace Go.Proofs.Ytcoehbkjccfhlaa
open Go Go.RowKit Go.Joins

theorem allE_many {c : NormC} {z : Int} (ho : ofOk c z = true) : (allE c z.toNat).length ≤ 13000000 := by
  obtain ⟨hM, h1, h2, h3⟩ := ofOk_iff ho
  have hl := allE_len c z.toNat hM.few
  have : z.toNat * 49152 ≤ 256 * 49152 := Nat.mul_le_mul_right _ h2
  omega
theorem clA_len (c : NormC) (z : Int) : (clA c z).1.length ≤ 100000000 ∧ ∀ l ∈ (clA c z).1, l.length ≤ 1000000 := by
  unfold clA
  by_cases ho : ofOk c z = true
  · rw [if_pos ho]
    by_cases hm : manyE c z.toNat ≤ 1048576
    · rw [if_pos hm]
      refine ⟨by show (List.map _ _).length ≤ _; rw [List.length_map]; have := allE_many ho; omega, fun l hl => ?_⟩
      obtain ⟨t, ht, rfl⟩ := List.mem_map.1 hl
      have := (allE_tag t ht).2
      unfold bareE
      omega
    · rw [if_neg hm]; exact ⟨by simp, fun l hl => by simp at hl⟩
  · rw [if_neg ho]; exact ⟨by simp, fun l hl => by simp at hl⟩
theorem rlA_len (c : NormC) (z : Int) : (rlA c z).1.length ≤ 100000000 ∧ ∀ l ∈ (rlA c z).1, l.length ≤ 1000000 := by
  unfold rlA
  by_cases ho : ofOk c z = true
  · rw [if_pos ho]
    by_cases hm : manyE c z.toNat ≤ 1048576
    · rw [if_pos hm]
      refine ⟨by show (List.map _ _).length ≤ _; rw [List.length_map]; have := allE_many ho; omega, fun l hl => ?_⟩
      obtain ⟨t, ht, rfl⟩ := List.mem_map.1 hl
      have := (allE_tag t ht).2
      unfold withE
      split
      · omega
      · rw [List.length_append]; simp; omega
    · rw [if_neg hm]; exact ⟨by simp, fun l hl => by simp at hl⟩
  · rw [if_neg ho]; exact ⟨by simp, fun l hl => by simp at hl⟩
theorem faA_len (c : NormC) (b z : Int) : (faA c b z).1.length ≤ 100000000 := by
  unfold faA
  by_cases hb : badOk c b = true
  · rw [if_pos hb]
    by_cases ho : ofOk c z = true
    · rw [if_pos ho]
      by_cases hm : manyE c z.toNat ≤ 1048576
      · rw [if_pos hm]
        obtain ⟨hM, h1, h2, h3⟩ := ofOk_iff ho
        have h4 := upE_len (consE c) 1024 z.toNat (fun i _ => by unfold consE; rw [List.length_map]; exact hM.lens.2.2)
        have h5 : z.toNat * 1024 ≤ 256 * 1024 := Nat.mul_le_mul_right _ h2
        show (mustE c b.toNat z.toNat).length ≤ _
        unfold mustE
        rw [List.length_append]
        simp only [List.length_singleton]
        omega
      · rw [if_neg hm]; simp
    · rw [if_neg ho]; simp
  · rw [if_neg hb]; simp
theorem gvA_len (c : NormC) (t : TraceC) : (gvA c t).1.length ≤ 100000000 := by
  unfold gvA
  by_cases hf : fitsS c t = true
  · rw [if_pos hf]
    have h := givE_len (fits_iff.1 hf) t.frames.length 0 (Nat.le_refl _) (Nat.zero_le _) 0
    rw [upE_zero, List.append_nil] at h
    show (givE c t).length ≤ _
    unfold givE
    omega
  · rw [if_neg hf]; simp
end Go.Proofs.Ytcoehbkjccfhlaa
namespace Go.Proofs.Ytcoehbkjccfhlaa
open Go Go.RowKit Go.Joins

noncomputable def codeRL : Code := ((Try.f41.body.bind (findBlock 3)).getD .skip)
/-- What a latch brings in a frame. -/
def newL (k p2 : Nat) (sp nx : Int) : List (List Int) := if k = 0 then (if p2 = 0 then [[-sp]] else if p2 = 1 then [[sp]] else []) else [[-sp, nx], [sp, -nx]]
set_option maxRecDepth 100000 in
set_option maxHeartbeats 12800000 in
theorem lat_blk (w0 wr : World) (S ii i k n1 c1 p1 p2 fv sp n2 c2 n3 c3 n4 c4 n5 c5 b0 o0 : Nat) (a2 a3 a4 a5 : Option Addr) (nx : Int) (lats : List (Nat × Nat)) (rv : Value) (ss : List ZSlc) (Li : List (List Int))
    (HX : wr.heap[S]? = some (.cells #[.int .i64 (ii : Int), .slice (some ⟨b0, o0, none⟩) n1 c1, .slice a2 n2 c2, .slice a3 n3 c3, .slice a4 n4 c4, .slice a5 n5 c5] 26 (0, 0))) (hS : Sees2 nv8 wr (some ⟨b0, o0, none⟩) n1 c1 lats) (hi : i < n1) (hp : lats.getD i (0, 0) = (p1, p2)) (hp2 : p2 ≤ 2)
    (H1 : ∀ W, Below w0.heap.size w0 W → Calls Try.prog 36 #[.agg #[.int .i64 (ii : Int), .slice (some ⟨b0, o0, none⟩) n1 c1, .slice a2 n2 c2, .slice a3 n3 c3, .slice a4 n4 c4, .slice a5 n5 c5], .int .u32 ((2 * fv : Nat) : Int), .int .i64 (k : Int)] W fun e w' => e = .returned (.int .i64 (sp : Int)) ∧ Below W.heap.size W w')
    (H2 : k ≠ 0 → ∀ W, Below w0.heap.size w0 W → Calls Try.prog 36 #[.agg #[.int .i64 (ii : Int), .slice (some ⟨b0, o0, none⟩) n1 c1, .slice a2 n2 c2, .slice a3 n3 c3, .slice a4 n4 c4, .slice a5 n5 c5], .int .u32 (p1 : Int), .int .i64 ((k - 1 : Nat) : Int)] W fun e w' => e = .returned (.int .i64 nx) ∧ Below W.heap.size W w')
    (hfv : fv = 1 + ii + i) (hii : ii ≤ 20000) (hn1 : n1 ≤ 1048576) (hsp : sp ≤ 5000000) (hnx : nx.natAbs ≤ 5000000) (hk : k ≤ 256) (HL : ListsZ w0 rv ss Li wr) (hlen : Li.length ≤ 14000000)
    (QQ : Exit → Act → World → Prop)
    {v0 v1 v2 v4 v5 v6 v7 v11 v12 v13 v14 v15 v16 v17 v18 v19 v20 v21 v22 v23 v24 v25 v26 v27 v28 v29 v30 v31 v32 v33 v34 v35 v36 v37 v38 v39 v40 v41 v42 v43 v44 v45 v46 v47 v48 v49 v50 v51 v52 v53 v54 v55 v56 v57 v58 v59 v60 v61 v62 v63 v64 v65 v66 v67 v68 v69 v70 v71 v72 v73 v74 v75 v76 v77 v78 v79 v80 v81 v82 v83 v84 v85 v86 v87 v88 v89 v90 v91 v92 v93 v94 v95 v96 v97 v98 v99 v100 v101 v102 v103 v104 v105 v106 v107 v108 v109 v110 v111 v112 v113 v114 v115 v116 v117 v118 v119 v120 v121 v122 v123 v124 v125 v126 v127 v128 v129 v130 v131 v132 v133 v134 v135 v136 v137 v138 v139 v140 v141 v142 v143 v144 v145 v146 v147 v148 v149 v150 v151 v152 v153 v154 v155 v156 v157 v158 v159 v160 v161 v162 v163 v164 v165 v166 v167 : Value}
    (hK : ∀ (ra : Option Addr) (rn rc : Nat) (W : World) (u11 u12 u13 u41 u42 u43 u44 u45 u46 u47 u48 u49 u50 u51 u52 u53 u54 u55 u56 u57 u58 u59 u60 u61 u62 u63 u64 u65 u66 u67 u68 u69 u70 u71 u72 u73 u74 u75 u76 u77 u78 u79 u80 u81 u82 u83 u84 u85 u86 u87 u88 u89 u90 u91 u92 u93 u94 u95 u96 u97 u98 u99 : Value), RowL w0 (Li ++ newL k p2 (sp : Int) nx) (.slice ra rn rc) W → KeepT 45 wr W → QQ .normal ⟨#[v0, v1, v2, .pointer (some ⟨S, 0, none⟩), v4, v5, v6, v7, .slice ra rn rc, .int .i64 (k : Int), .int .i64 (i : Int), u11, u12, u13, v14, v15, v16, v17, v18, v19, v20, v21, v22, v23, v24, v25, v26, v27, v28, v29, v30, v31, v32, v33, v34, v35, v36, v37, v38, v39, v40, u41, u42, u43, u44, u45, u46, u47, u48, u49, u50, u51, u52, u53, u54, u55, u56, u57, u58, u59, u60, u61, u62, u63, u64, u65, u66, u67, u68, u69, u70, u71, u72, u73, u74, u75, u76, u77, u78, u79, u80, u81, u82, u83, u84, u85, u86, u87, u88, u89, u90, u91, u92, u93, u94, u95, u96, u97, u98, u99, v100, v101, v102, v103, v104, v105, v106, v107, v108, v109, v110, v111, v112, v113, v114, v115, v116, v117, v118, v119, v120, v121, v122, v123, v124, v125, v126, v127, v128, v129, v130, v131, v132, v133, v134, v135, v136, v137, v138, v139, v140, v141, v142, v143, v144, v145, v146, v147, v148, v149, v150, v151, v152, v153, v154, v155, v156, v157, v158, v159, v160, v161, v162, v163, v164, v165, v166, v167], []⟩ W) :
    Code.wp Try.prog codeRL QQ ⟨#[v0, v1, v2, .pointer (some ⟨S, 0, none⟩), v4, v5, v6, v7, rv, .int .i64 (k : Int), .int .i64 (i : Int), v11, v12, v13, v14, v15, v16, v17, v18, v19, v20, v21, v22, v23, v24, v25, v26, v27, v28, v29, v30, v31, v32, v33, v34, v35, v36, v37, v38, v39, v40, v41, v42, v43, v44, v45, v46, v47, v48, v49, v50, v51, v52, v53, v54, v55, v56, v57, v58, v59, v60, v61, v62, v63, v64, v65, v66, v67, v68, v69, v70, v71, v72, v73, v74, v75, v76, v77, v78, v79, v80, v81, v82, v83, v84, v85, v86, v87, v88, v89, v90, v91, v92, v93, v94, v95, v96, v97, v98, v99, v100, v101, v102, v103, v104, v105, v106, v107, v108, v109, v110, v111, v112, v113, v114, v115, v116, v117, v118, v119, v120, v121, v122, v123, v124, v125, v126, v127, v128, v129, v130, v131, v132, v133, v134, v135, v136, v137, v138, v139, v140, v141, v142, v143, v144, v145, v146, v147, v148, v149, v150, v151, v152, v153, v154, v155, v156, v157, v158, v159, v160, v161, v162, v163, v164, v165, v166, v167], []⟩ wr := by
  obtain ⟨va, vc, hrv⟩ := HL.row.form
  subst hrv
  have HKK := Lib.hid hK
  have HH1 := Lib.hid H1
  have HH2 := Lib.hid H2
  have HLL := Lib.hid HL
  have HLN := Lib.hid hlen
  have HXX := Lib.hid HX
  have hcx := hS.cells i hi (0, 0)
  rw [hp] at hcx
  obtain ⟨hcx1, hcx2⟩ := hcx
  simp only at hcx1 hcx2
  unfold nv32 at hcx1
  unfold nv8 at hcx2
  have WA : IntKind.i64.wrap (1 + (ii : Int)) = 1 + (ii : Int) := IntWalk.i64_in _ (by omega)
  have WF : IntKind.i64.wrap (1 + (ii : Int) + (i : Int)) = (fv : Int) := by rw [show 1 + (ii : Int) + (i : Int) = (fv : Int) by omega]; exact IntWalk.i64_in _ (by omega)
  have WD : IntKind.i64.wrap (2 * (fv : Int)) = ((2 * fv : Nat) : Int) := by rw [show 2 * (fv : Int) = ((2 * fv : Nat) : Int) by omega]; exact IntWalk.i64_in _ (by omega)
  have WU : IntKind.u32.wrap ((2 * fv : Nat) : Int) = ((2 * fv : Nat) : Int) := by rw [IntKind.wrap_u32]; omega
  have WD2 : IntKind.i64.wrap (2 * (fv : Int)) = 2 * (fv : Int) := IntWalk.i64_in _ (by omega)
  have WU2 : IntKind.u32.wrap (2 * (fv : Int)) = 2 * (fv : Int) := by rw [IntKind.wrap_u32]; omega
  have NS : IntKind.i64.wrap (-(sp : Int)) = -(sp : Int) := IntWalk.i64_in _ (by omega)
  have NS2 : wrap64 (-(sp : Int)) = -(sp : Int) := by unfold wrap64; omega
  have NX : IntKind.i64.wrap (-nx) = -nx := IntWalk.i64_in _ (by omega)
  have NX2 : wrap64 (-nx) = -nx := by unfold wrap64; omega
  have I1 : ((i : Nat) : Int) < (n1 : Int) := by omega
  have I2 : (0 : Int) ≤ (i : Int) := by omega
  have hsz := HL.bel.size
  have HSZ := Lib.hid hsz
  have HK9 := Lib.hid hk
  clear HL hS hp H1 H2 hK hlen HX hi hfv hii hn1 hsp hnx hsz hk
  have pc_0 : wr.cell? ⟨S, 0, none⟩ = some (.int .i64 (ii : Int)) := cell_of_block HXX.out 0
  have pc_1 : wr.cell? ⟨S, 1, none⟩ = some (.slice (some ⟨b0, o0, none⟩) n1 c1) := cell_of_block HXX.out 1
  have pc_2 : wr.cell? ⟨S, 2, none⟩ = some (.slice a2 n2 c2) := cell_of_block HXX.out 2
  have pc_3 : wr.cell? ⟨S, 3, none⟩ = some (.slice a3 n3 c3) := cell_of_block HXX.out 3
  have pc_4 : wr.cell? ⟨S, 4, none⟩ = some (.slice a4 n4 c4) := cell_of_block HXX.out 4
  have pc_5 : wr.cell? ⟨S, 5, none⟩ = some (.slice a5 n5 c5) := cell_of_block HXX.out 5
  conv => arg 2; whnf
  go_upto_region 13 with fail
  generalize hW : World.alloc wr _ = W5
  have hE5 : W5.heap[wr.heap.size]? = some (.cells #[.int .u32 (p1 : Int), .int .u8 (p2 : Int)] 63 (0, 0)) := by subst hW; exact heap_new _ _ _ rfl
  have HB5 : Hid (Below wr.heap.size wr W5) := by subst hW; exact ext_alloc _ _
  have HE5 := Lib.hid hE5
  have HX5 := Lib.hid (heap_below HXX.out HB5.out)
  clear hW hE5 hcx1 hcx2 pc_0 pc_1 pc_2 pc_3 pc_4 pc_5
  have pd_0 : W5.cell? ⟨S, 0, none⟩ = some (.int .i64 (ii : Int)) := cell_of_block HX5.out 0
  have pd_1 : W5.cell? ⟨S, 1, none⟩ = some (.slice (some ⟨b0, o0, none⟩) n1 c1) := cell_of_block HX5.out 1
  have pd_2 : W5.cell? ⟨S, 2, none⟩ = some (.slice a2 n2 c2) := cell_of_block HX5.out 2
  have pd_3 : W5.cell? ⟨S, 3, none⟩ = some (.slice a3 n3 c3) := cell_of_block HX5.out 3
  have pd_4 : W5.cell? ⟨S, 4, none⟩ = some (.slice a4 n4 c4) := cell_of_block HX5.out 4
  have pd_5 : W5.cell? ⟨S, 5, none⟩ = some (.slice a5 n5 c5) := cell_of_block HX5.out 5
  go_wp2_with fail
  refine (HH1.out W5 (ext_trans HLL.out.bel HB5.out)).mono ?_
  rintro e W6 ⟨rfl, hb6⟩
  have HB6 := Lib.hid (ext_trans HB5.out hb6)
  have HE6 := Lib.hid (heap_below HE5.out hb6)
  have HX6 := Lib.hid (heap_below HXX.out HB6.out)
  have HS6 : Hid (w0.heap.size ≤ W6.heap.size) := Nat.le_trans HSZ.out HB6.out.size
  clear hb6 HE5 HB5 HX5 WA WF WD WU WD2 WU2 I1 I2 pd_0 pd_1 pd_2 pd_3 pd_4 pd_5
  by_cases hk0 : k = 0
  · subst hk0
    have hp4 : p2 = 0 ∨ p2 = 1 ∨ p2 = 2 := by omega
    clear HH2 NX NX2 hp2
    rcases hp4 with rfl | rfl | rfl
    · have lc1 : W6.cell? ⟨wr.heap.size, 1, none⟩ = some (.int .u8 0) := cell_of_block HE6.out 1
      have HLT := Lib.hid (lits1 w0 W6 HS6.out [-(sp : Int)] 1 (W6.heap.size + 1) #[.int .i64 (-(sp : Int))] rfl rfl (by simp) rfl)
      go_wp2_with (at_builtin; refine wpList_append_lists rfl _ _ rfl _ ss Li (by rfl) HLL.out (ext_trans HB6.out (ext_trans (ext_alloc _ _) (ext_alloc _ _))) [(some ⟨W6.heap.size, 0, none⟩, 1, 1)] [[-(sp : Int)]] (W6.heap.size + 1) 1 (by rfl) HLT.out.2 rfl HLT.out.1 (by have := HLN.out; omega) (by omega) ?_)
      intro ra rn rc w9 hrow hk9 hk1
      have HR9 : Hid (RowL w0 (Li ++ newL 0 0 (sp : Int) nx) (.slice ra rn rc) w9) := hrow
      have HK8 := Lib.hid hk9
      have lc2 : w9.cell? ⟨wr.heap.size, 1, none⟩ = some (.int .u8 0) := cell_of_block (hk1.block _ _ _ _ (heap_below HE6.out (ext_trans (ext_alloc _ _) (ext_alloc _ _))) (by decide)) 1
      clear hrow hk9 hk1 HLT lc1
      go_wp2
      exact HKK.out _ _ _ _ _ _ _ _ _ _ _ _ _ _ _ _ _ _ _ _ _ _ _ _ _ _ _ _ _ _ _ _ _ _ _ _ _ _ _ _ _ _ _ _ _ _ _ _ _ _ _ _ _ _ _ _ _ _ _ _ _ _ _ _ _ _ HR9.out HK8.out
    · have lc1 : W6.cell? ⟨wr.heap.size, 1, none⟩ = some (.int .u8 1) := cell_of_block HE6.out 1
      have HLT := Lib.hid (lits1 w0 W6 HS6.out [(sp : Int)] 1 (W6.heap.size + 1) #[.int .i64 ((sp : Int))] rfl rfl (by simp) rfl)
      go_wp2_with (at_builtin; refine wpList_append_lists rfl _ _ rfl _ ss Li (by rfl) HLL.out (ext_trans HB6.out (ext_trans (ext_alloc _ _) (ext_alloc _ _))) [(some ⟨W6.heap.size, 0, none⟩, 1, 1)] [[(sp : Int)]] (W6.heap.size + 1) 1 (by rfl) HLT.out.2 rfl HLT.out.1 (by have := HLN.out; omega) (by omega) ?_)
      intro ra rn rc w9 hrow hk9 hk1
      have HR9 : Hid (RowL w0 (Li ++ newL 0 1 (sp : Int) nx) (.slice ra rn rc) w9) := hrow
      have HK8 := Lib.hid hk9
      have lc2 : w9.cell? ⟨wr.heap.size, 1, none⟩ = some (.int .u8 1) := cell_of_block (hk1.block _ _ _ _ (heap_below HE6.out (ext_trans (ext_alloc _ _) (ext_alloc _ _))) (by decide)) 1
      clear hrow hk9 hk1 HLT lc1
      go_wp2
      exact HKK.out _ _ _ _ _ _ _ _ _ _ _ _ _ _ _ _ _ _ _ _ _ _ _ _ _ _ _ _ _ _ _ _ _ _ _ _ _ _ _ _ _ _ _ _ _ _ _ _ _ _ _ _ _ _ _ _ _ _ _ _ _ _ _ _ _ _ HR9.out HK8.out
    · have lc1 : W6.cell? ⟨wr.heap.size, 1, none⟩ = some (.int .u8 2) := cell_of_block HE6.out 1
      have HR9 : Hid (RowL w0 (Li ++ newL 0 2 (sp : Int) nx) (.slice va ss.length vc) W6) := by
        show RowL _ _ _ _
        have e : newL 0 2 (sp : Int) nx = [] := rfl
        rw [e, List.append_nil]
        exact ⟨_, HLL.out.onward HB6.out⟩
      go_wp2
      exact HKK.out _ _ _ _ _ _ _ _ _ _ _ _ _ _ _ _ _ _ _ _ _ _ _ _ _ _ _ _ _ _ _ _ _ _ _ _ _ _ _ _ _ _ _ _ _ _ _ _ _ _ _ _ _ _ _ _ _ _ _ _ _ _ _ _ _ _ HR9.out (KeepT.below HB6.out)
  · have dk : ((k : Int) == 0) = false := by simp; omega
    have dk1 : decide (0 < k) = true := by simp; omega
    have dk2 : decide ((0 : Int) < (k : Int)) = true := by simp; omega
    have HNW : Hid (newL k p2 (sp : Int) nx = [[-(sp : Int), nx], [(sp : Int), -nx]]) := by show _ = _; unfold newL; rw [if_neg hk0]
    have HH3 := Lib.hid (HH2.out hk0)
    obtain ⟨k1, hk1⟩ : ∃ x, x = k - 1 := ⟨_, rfl⟩
    rw [← hk1] at HH3
    have WK : IntKind.i64.wrap ((k : Int) - 1) = (k1 : Int) := by rw [show (k : Int) - 1 = (k1 : Int) by omega]; exact IntWalk.i64_in _ (by have := HK9.out; omega)
    clear hk0 hk1 HH2 hp2
    have lc0 : W6.cell? ⟨wr.heap.size, 0, none⟩ = some (.int .u32 (p1 : Int)) := cell_of_block HE6.out 0
    have pe_0 : W6.cell? ⟨S, 0, none⟩ = some (.int .i64 (ii : Int)) := cell_of_block HX6.out 0
    have pe_1 : W6.cell? ⟨S, 1, none⟩ = some (.slice (some ⟨b0, o0, none⟩) n1 c1) := cell_of_block HX6.out 1
    have pe_2 : W6.cell? ⟨S, 2, none⟩ = some (.slice a2 n2 c2) := cell_of_block HX6.out 2
    have pe_3 : W6.cell? ⟨S, 3, none⟩ = some (.slice a3 n3 c3) := cell_of_block HX6.out 3
    have pe_4 : W6.cell? ⟨S, 4, none⟩ = some (.slice a4 n4 c4) := cell_of_block HX6.out 4
    have pe_5 : W6.cell? ⟨S, 5, none⟩ = some (.slice a5 n5 c5) := cell_of_block HX6.out 5
    go_wp2_with fail
    refine (HH3.out W6 (ext_trans HLL.out.bel HB6.out)).mono ?_
    rintro e W7 ⟨rfl, hb7⟩
    have HB7 := Lib.hid (ext_trans HB6.out hb7)
    have HS7 : Hid (w0.heap.size ≤ W7.heap.size) := Nat.le_trans HSZ.out HB7.out.size
    clear hb7 lc0 WK HH3 dk dk1 dk2 pe_0 pe_1 pe_2 pe_3 pe_4 pe_5
    have HLT := Lib.hid (lits2 w0 W7 HS7.out [-(sp : Int), nx] [(sp : Int), -nx] 2 2 (W7.heap.size + 1) (W7.heap.size + 1 + 1) #[.int .i64 (-(sp : Int)), .int .i64 nx] #[.int .i64 (sp : Int), .int .i64 (-nx)] rfl rfl rfl rfl (by simp) (by simp) rfl rfl)
    go_wp2_with (at_builtin; refine wpList_append_lists rfl _ _ rfl _ ss Li (by rfl) HLL.out (ext_trans HB7.out (ext_trans (ext_alloc _ _) (ext_trans (ext_alloc _ _) (ext_alloc _ _)))) [(some ⟨W7.heap.size, 0, none⟩, 2, 2), (some ⟨W7.heap.size + 1, 0, none⟩, 2, 2)] [[-(sp : Int), nx], [(sp : Int), -nx]] (W7.heap.size + 1 + 1) 2 (by rfl) HLT.out.2 rfl HLT.out.1 (by have := HLN.out; omega) (by omega) ?_)
    intro ra rn rc w9 hrow hk9 hk1
    have HR9 : Hid (RowL w0 (Li ++ newL k p2 (sp : Int) nx) (.slice ra rn rc) w9) := by rw [HNW.out]; exact hrow
    have HK8 := Lib.hid hk9
    clear hrow hk9 hk1 HLT
    go_wp2
    exact HKK.out _ _ _ _ _ _ _ _ _ _ _ _ _ _ _ _ _ _ _ _ _ _ _ _ _ _ _ _ _ _ _ _ _ _ _ _ _ _ _ _ _ _ _ _ _ _ _ _ _ _ _ _ _ _ _ _ _ _ _ _ _ _ _ _ _ _ HR9.out HK8.out
end Go.Proofs.Ytcoehbkjccfhlaa
