/- newPropagation's drawn region: five new blocks in whatever order, then the box. -/
import Derived.Test.YtdngaohjocokiaaOwn
import Derived.Test.YtdngaohjocokiaaNBase
import Derived.Test.YtdngaohjocokiaaNBools
import Derived.Test.YtdngaohjocokiaaNRegion
import Derived.Test.YtdngaohjocokiaaCuInts
import Derived.Test.YtdngaohjocokiaaCuAlloc
import Derived.Test.YtdngaohjocokiaaRows
import Derived.BigQuiet
import Derived.Conc.LoneSelect
import Derived.Deep.AppendLies
import Derived.Deep.QuietTactic
import Derived.Deep.RegionHeld3
import Derived.Deep.RegionLaw
import Derived.Deep.RegionWith
import Derived.KernelRfl
import Derived.Laws.EntriesVeiled
import Derived.Lib.ConvBytes
import Derived.Lib.Hide
import Derived.Lib.SlBytesRow
import Derived.Lib.SmallJoins
import Derived.OrdersHeld
import Derived.Shelf.Bytes.SlSmallAll
import Derived.WalkKit
import Derived.WalkLawsBesides
import Derived.WalkSpells
namespace Go.Proofs.Ytdngaohjocokiaa
open Go Go.RowKit Go.Joins

theorem info_i32 : (Try.prog.info? 21).map (fun i => (i.zero, i.size, i.bytes)) = some (some (.int .i32 0), 1, 4) := by kernel_rfl
theorem info_link : (Try.prog.info? 60).map (fun i => (i.zero, i.size, i.bytes)) = some (some (.agg #[.int .i32 0, .int .i32 0]), 2, 8) := by kernel_rfl
theorem make_link (W : World) : (Instr.makeSlice 47 (.int .i64 1) (.int .i64 1)).run Try.prog W = .ok (.slice (some ⟨W.heap.size, 0, none⟩) 1 1) (W.alloc (.cells #[.int .i32 0, .int .i32 0] 60)) := by
  obtain ⟨i0, hi, hz0, hz1, hz2⟩ := info_parts info_link
  have h := run_make (P := Try.prog) W 47 60 i0 _ Try.underlying47 hi hz0 .i64 .i64 1 1 (by omega) (Int.le_refl _) (by rw [hz2]; omega) (by omega)
  have e : madeCells (Value.agg #[.int .i32 0, .int .i32 0]).cells (Int.toNat 1 * 2) = #[.int .i32 0, .int .i32 0] := by kernel_rfl
  rw [h, hz1, e]
  rfl
theorem make_chan11 (cap : Nat) (hc : cap ≤ 100000000) (W : World) : (Instr.makeChan 48 (.int .i64 (cap : Int))).run Try.prog W = .ok (.chan (some W.heap.size)) (W.alloc (.chan cap #[] false 0 0 false)) := by
  obtain ⟨i0, hi, hz0, hz1, hz2⟩ := info_parts info_int
  exact Go.Conc.run_makeChan (P := Try.prog) (w := W) Try.underlying48 hi .i64 cap (by omega) (by rw [hz2]; omega)
noncomputable def codeMk : Code := ((Try.f20.body.bind (findRegion 2)).getD .skip)
set_option maxRecDepth 100000 in
set_option maxHeartbeats 12800000 in
theorem reg_mk (ac : Option Addr) (nc cc ng vs M gn cap : Nat) (X0 : World) (hgn : IntKind.i64.wrap ((ng : Int) + (nc : Int)) = (gn : Int)) (hcap : min (vs : Int) (gn : Int) = (cap : Int)) (hnc : nc ≤ 1048576) (hM : M ≤ 10000000) (hcp : cap ≤ 100000000)
    (QQ : Exit → Act → World → Prop) {v3 v4 v5 v6 v8 v9 v10 v11 v12 v13 v14 v15 v16 v17 v18 v19 v20 v21 v22 v23 v24 v25 v26 v27 v28 v29 v30 v31 v32 v33 v34 v35 v36 v37 v38 v39 v40 v41 v42 v43 v44 v45 v46 v47 v48 v49 v50 v51 v52 v53 v54 v55 v56 v57 v58 v59 v60 v61 v62 v63 v64 v65 v66 v67 v68 v69 v70 v71 v72 v73 v74 v75 v76 v77 v78 v79 v80 v81 v82 v83 v84 v85 v86 v87 v88 v89 v90 v91 v92 : Value}
    (hK : ∀ (gL gF gK gD gC B : Nat) (wx : World), Below X0.heap.size X0 wx → wx.heap[gL]? = some (.cells (zeros (.int .i64 0) nc) 3) → wx.heap[gF]? = some (.cells (zeros (.int .i32 0) M) 21) → wx.heap[gK]? = some (.cells #[.int .i32 0, .int .i32 0] 60) → wx.heap[gD]? = some (.cells (zeros (.bool false) M) 4) → wx.heap[gC]? = some (.chan cap #[] false 0 0 false) →
      wx.heap[B]? = some (.cells #[.slice ac nc cc, .slice (some ⟨gL, 0, none⟩) nc nc, .slice (some ⟨gF, 0, none⟩) M M, .slice (some ⟨gK, 0, none⟩) 1 1, .slice (some ⟨gD, 0, none⟩) M M, .chan (some gC)] 50) → X0.heap.size ≤ gL → X0.heap.size ≤ gF → X0.heap.size ≤ gK → X0.heap.size ≤ gD → X0.heap.size ≤ gC → X0.heap.size ≤ B →
      QQ .normal ⟨#[.slice ac nc cc, .int .i64 ng, .int .i64 vs, v3, v4, v5, v6, .int .i64 M, .pointer (some ⟨B, 0, none⟩), v9, v10, v11, v12, v13, v14, v15, v16, .slice ac nc cc, .slice ac nc cc, .int .i64 nc, .slice (some ⟨gL, 0, none⟩) nc nc, .int .i64 M, .slice (some ⟨gF, 0, none⟩) M M, .slice (some ⟨gK, 0, none⟩) 1 1, .int .i64 M, .slice (some ⟨gD, 0, none⟩) M M, .int .i64 vs, .int .i64 ng, .slice ac nc cc, .int .i64 nc, .int .i64 gn, .int .i64 cap, .chan (some gC), .agg #[.slice ac nc cc, .slice (some ⟨gL, 0, none⟩) nc nc, .slice (some ⟨gF, 0, none⟩) M M, .slice (some ⟨gK, 0, none⟩) 1 1, .slice (some ⟨gD, 0, none⟩) M M, .chan (some gC)], .pointer (some ⟨B, 0, none⟩), v35, v36, v37, v38, v39, v40, v41, v42, v43, v44, v45, v46, v47, v48, v49, v50, v51, v52, v53, v54, v55, v56, v57, v58, v59, v60, v61, v62, v63, v64, v65, v66, v67, v68, v69, v70, v71, v72, v73, v74, v75, v76, v77, v78, v79, v80, v81, v82, v83, v84, v85, v86, v87, v88, v89, v90, v91, v92], []⟩ wx) :
    Code.wp Try.prog codeMk QQ ⟨#[.slice ac nc cc, .int .i64 ng, .int .i64 vs, v3, v4, v5, v6, .int .i64 M, v8, v9, v10, v11, v12, v13, v14, v15, v16, v17, v18, v19, v20, v21, v22, v23, v24, v25, v26, v27, v28, v29, v30, v31, v32, v33, v34, v35, v36, v37, v38, v39, v40, v41, v42, v43, v44, v45, v46, v47, v48, v49, v50, v51, v52, v53, v54, v55, v56, v57, v58, v59, v60, v61, v62, v63, v64, v65, v66, v67, v68, v69, v70, v71, v72, v73, v74, v75, v76, v77, v78, v79, v80, v81, v82, v83, v84, v85, v86, v87, v88, v89, v90, v91, v92], []⟩ X0 := by
  obtain ⟨i1, hi1, hz11, hz12, hz13⟩ := info_parts info_int
  obtain ⟨i2, hi2, hz21, hz22, hz23⟩ := info_parts info_i32
  obtain ⟨i4, hi4, hz41, hz42, hz43⟩ := info_parts info_bool
  have mkL := fun W => run_make_n (P := Try.prog) (t := 23) (e := 3) Try.underlying23 hi1 hz11 hz12 hz13 rfl nc (by omega) (by omega) W
  have mkF := fun W => run_make_n (P := Try.prog) (t := 46) (e := 21) Try.underlying46 hi2 hz21 hz22 hz23 rfl M (by omega) (by omega) W
  have mkD := fun W => run_make_n (P := Try.prog) (t := 24) (e := 4) Try.underlying24 hi4 hz41 hz42 hz43 rfl M (by omega) (by omega) W
  have mkK := make_link
  have mkC := make_chan11 cap hcp
  clear hi1 hz11 hz12 hz13 hi2 hz21 hz22 hz23 hi4 hz41 hz42 hz43
  conv => arg 2; whnf
  refine wp_region_noPanic ?_
  refine wp_region_held (S := fun _ => True) (by kernel_rfl) ?_
  generalize hYY : ({ X0 with drawn := X0.drawn + 1 } : World) = Y0
  have HY0 : Hid (Below X0.heap.size X0 Y0) := by subst hYY; exact (Below.refl _ _).drew
  have HS0 : Hid True := trivial
  clear hYY
  refine wpAnyH_take (i := 0) (v := ?_) (by simp only [List.getElem?_toArray, List.getElem?_cons_zero]; rfl) (by kernel_rfl) (by kernel_rfl) (by kernel_rfl) (fun _ _ _ h => h) (Or.inl ⟨by rfl, ?_⟩) HS0.out ?_
  rotate_left
  · intro w hSw
    (try dsimp only at hSw)
    have q0_ := hSw
    go_simp
    try with_reducible rfl
  try simp only [Act.put, List.setIfInBounds_toArray, List.set_cons_zero, List.set_cons_succ]
  refine wpAnyH_take (i := 1) (v := ?_) (by simp only [List.getElem?_toArray, List.getElem?_cons_zero, List.getElem?_cons_succ]; rfl) (by kernel_rfl) (by kernel_rfl) (by kernel_rfl) (fun _ _ _ h => h) (Or.inl ⟨by rfl, ?_⟩) HS0.out ?_
  rotate_left
  · intro w hSw
    (try dsimp only at hSw)
    have q0_ := hSw
    go_simp
    try with_reducible rfl
  try simp only [Act.put, List.setIfInBounds_toArray, List.set_cons_zero, List.set_cons_succ]
  refine wpAnyH_take (i := 2) (v := ?_) (by simp only [List.getElem?_toArray, List.getElem?_cons_zero, List.getElem?_cons_succ]; rfl) (by kernel_rfl) (by kernel_rfl) (by kernel_rfl) (fun _ _ _ h => h) (Or.inl ⟨by rfl, ?_⟩) HS0.out ?_
  rotate_left
  · intro w hSw
    (try dsimp only at hSw)
    have q0_ := hSw
    go_simp
    try with_reducible rfl
  try simp only [Act.put, List.setIfInBounds_toArray, List.set_cons_zero, List.set_cons_succ]
  refine wpAnyH_take (i := 4) (v := ?_) (by simp only [List.getElem?_toArray, List.getElem?_cons_zero, List.getElem?_cons_succ]; rfl) (by kernel_rfl) (by kernel_rfl) (by kernel_rfl) (fun _ _ _ h => h) (Or.inl ⟨by rfl, ?_⟩) HS0.out ?_
  rotate_left
  · intro w hSw
    (try dsimp only at hSw)
    have q0_ := hSw
    go_simp
    try with_reducible rfl
  try simp only [Act.put, List.setIfInBounds_toArray, List.set_cons_zero, List.set_cons_succ]
  refine wpAnyH_take (i := 7) (v := ?_) (by simp only [List.getElem?_toArray, List.getElem?_cons_zero, List.getElem?_cons_succ]; rfl) (by kernel_rfl) (by kernel_rfl) (by kernel_rfl) (fun _ _ _ h => h) (Or.inl ⟨by rfl, ?_⟩) HS0.out ?_
  rotate_left
  · intro w hSw
    (try dsimp only at hSw)
    have q0_ := hSw
    go_simp
    try with_reducible rfl
  try simp only [Act.put, List.setIfInBounds_toArray, List.set_cons_zero, List.set_cons_succ]
  refine wpAnyH_take (i := 9) (v := ?_) (by simp only [List.getElem?_toArray, List.getElem?_cons_zero, List.getElem?_cons_succ]; rfl) (by kernel_rfl) (by kernel_rfl) (by kernel_rfl) (fun _ _ _ h => h) (Or.inl ⟨by rfl, ?_⟩) HS0.out ?_
  rotate_left
  · intro w hSw
    (try dsimp only at hSw)
    have q0_ := hSw
    go_simp
    try with_reducible rfl
  try simp only [Act.put, List.setIfInBounds_toArray, List.set_cons_zero, List.set_cons_succ]
  refine wpAnyH_take (i := 10) (v := ?_) (by simp only [List.getElem?_toArray, List.getElem?_cons_zero, List.getElem?_cons_succ]; rfl) (by kernel_rfl) (by kernel_rfl) (by kernel_rfl) (fun _ _ _ h => h) (Or.inl ⟨by rfl, ?_⟩) HS0.out ?_
  rotate_left
  · intro w hSw
    (try dsimp only at hSw)
    have q0_ := hSw
    go_simp
    try with_reducible rfl
  try simp only [Act.put, List.setIfInBounds_toArray, List.set_cons_zero, List.set_cons_succ]
  refine wpAnyH_take (i := 11) (v := ?_) (by simp only [List.getElem?_toArray, List.getElem?_cons_zero, List.getElem?_cons_succ]; rfl) (by kernel_rfl) (by kernel_rfl) (by kernel_rfl) (fun _ _ _ h => h) (Or.inl ⟨by rfl, ?_⟩) HS0.out ?_
  rotate_left
  · intro w hSw
    (try dsimp only at hSw)
    have q0_ := hSw
    go_simp
    try with_reducible rfl
  try simp only [Act.put, List.setIfInBounds_toArray, List.set_cons_zero, List.set_cons_succ]
  refine wpAnyH_take (i := 12) (v := ?_) (by simp only [List.getElem?_toArray, List.getElem?_cons_zero, List.getElem?_cons_succ]; rfl) (by kernel_rfl) (by kernel_rfl) (by kernel_rfl) (fun _ _ _ h => h) (Or.inl ⟨by rfl, ?_⟩) HS0.out ?_
  rotate_left
  · intro w hSw
    (try dsimp only at hSw)
    have q0_ := hSw
    go_simp
    try with_reducible rfl
  try simp only [Act.put, List.setIfInBounds_toArray, List.set_cons_zero, List.set_cons_succ]
  refine wpAnyH_take (i := 13) (v := ?_) (by simp only [List.getElem?_toArray, List.getElem?_cons_zero, List.getElem?_cons_succ]; rfl) (by kernel_rfl) (by kernel_rfl) (by kernel_rfl) (fun _ _ _ h => h) (Or.inl ⟨by rfl, ?_⟩) HS0.out ?_
  rotate_left
  · intro w hSw
    (try dsimp only at hSw)
    have q0_ := hSw
    go_simp
    try with_reducible rfl
  try simp only [Act.put, List.setIfInBounds_toArray, List.set_cons_zero, List.set_cons_succ]
  refine wpAnyH_take (i := 14) (v := ?_) (by simp only [List.getElem?_toArray, List.getElem?_cons_zero, List.getElem?_cons_succ]; rfl) (by kernel_rfl) (by kernel_rfl) (by kernel_rfl) (fun _ _ _ h => h) (Or.inl ⟨by rfl, ?_⟩) HS0.out ?_
  rotate_left
  · intro w hSw
    (try dsimp only at hSw)
    have q0_ := hSw
    go_simp
    try with_reducible rfl
  try simp only [Act.put, List.setIfInBounds_toArray, List.set_cons_zero, List.set_cons_succ]
  refine allocs5 (f := 3) X0 (fun x1 x2 x3 x4 x5 => ⟨#[.slice ac nc cc, .int .i64 ng, .int .i64 vs, v3, v4, v5, v6, .int .i64 M, v8, v9, v10, v11, v12, v13, v14, v15, v16, .slice ac nc cc, .slice ac nc cc, .int .i64 nc, (match x1 with | some g => .slice (some ⟨g, 0, none⟩) nc nc | none => v20), .int .i64 M, (match x2 with | some g => .slice (some ⟨g, 0, none⟩) M M | none => v22), (match x3 with | some g => .slice (some ⟨g, 0, none⟩) 1 1 | none => v23), .int .i64 M, (match x4 with | some g => .slice (some ⟨g, 0, none⟩) M M | none => v25), .int .i64 vs, .int .i64 ng, .slice ac nc cc, .int .i64 nc, .int .i64 gn, .int .i64 cap, (match x5 with | some g => .chan (some g) | none => v32), v33, v34, v35, v36, v37, v38, v39, v40, v41, v42, v43, v44, v45, v46, v47, v48, v49, v50, v51, v52, v53, v54, v55, v56, v57, v58, v59, v60, v61, v62, v63, v64, v65, v66, v67, v68, v69, v70, v71, v72, v73, v74, v75, v76, v77, v78, v79, v80, v81, v82, v83, v84, v85, v86, v87, v88, v89, v90, v91, v92], []⟩) (fun b1 b2 b3 b4 b5 => #[true, true, true, b1, true, b2, b3, true, b4, true, true, true, true, true, true, b5, false, false, false]) 3 5 6 8 15 (.cells (zeros (.int .i64 0) nc) 3) (.cells (zeros (.int .i32 0) M) 21) (.cells #[.int .i32 0, .int .i32 0] 60) (.cells (zeros (.bool false) M) 4) (.chan cap #[] false 0 0 false)
    ?hr (fun _ _ _ _ => rfl) (fun _ _ _ _ => rfl) (fun _ _ _ _ => rfl) (fun _ _ _ _ => rfl) (fun _ _ _ _ => rfl)
    ?o1 ?o2 ?o3 ?o4 ?o5 ?hend 5 none none none none none Y0 rfl HY0.out (fun _ h => by cases h) (fun _ h => by cases h) (fun _ h => by cases h) (fun _ h => by cases h) (fun _ h => by cases h)
  case hr =>
    intro b1 b2 b3 b4 b5 hm
    cases b1 <;> cases b2 <;> cases b3 <;> cases b4 <;> cases b5 <;> first | (exact absurd hm (by decide)) | kernel_rfl
  case o1 =>
    intro x2 x3 x4 x5 W K hK
    unfold wpOp
    simp only [List.getElem?_toArray, List.getElem?_cons_zero, List.getElem?_cons_succ]
    rw [if_pos (by rfl)]
    refine .inl ?_
    go_simp
    exact hK
  case o2 =>
    intro x1 x3 x4 x5 W K hK
    unfold wpOp
    simp only [List.getElem?_toArray, List.getElem?_cons_zero, List.getElem?_cons_succ]
    rw [if_pos (by rfl)]
    refine .inl ?_
    go_simp
    exact hK
  case o3 =>
    intro x1 x2 x4 x5 W K hK
    unfold wpOp
    simp only [List.getElem?_toArray, List.getElem?_cons_zero, List.getElem?_cons_succ]
    rw [if_pos (by rfl)]
    refine .inl ?_
    go_simp
    exact hK
  case o4 =>
    intro x1 x2 x3 x5 W K hK
    unfold wpOp
    simp only [List.getElem?_toArray, List.getElem?_cons_zero, List.getElem?_cons_succ]
    rw [if_pos (by rfl)]
    refine .inl ?_
    go_simp
    exact hK
  case o5 =>
    intro x1 x2 x3 x4 W K hK
    unfold wpOp
    simp only [List.getElem?_toArray, List.getElem?_cons_zero, List.getElem?_cons_succ]
    rw [if_pos (by rfl)]
    refine .inl ?_
    go_simp
    exact hK
  intro gL gF gK gD gC W hb t1 t2 t3 t4 t5
  have HS1 : Hid True := trivial
  have HB1 := Lib.hid hb
  have HT1 := Lib.hid (t1 gL rfl)
  have HT2 := Lib.hid (t2 gF rfl)
  have HT3 := Lib.hid (t3 gK rfl)
  have HT4 := Lib.hid (t4 gD rfl)
  have HT5 := Lib.hid (t5 gC rfl)
  clear hb t1 t2 t3 t4 t5
  refine wpAnyH_take (i := 16) (v := ?_) (by simp only [List.getElem?_toArray, List.getElem?_cons_zero, List.getElem?_cons_succ]; rfl) (by kernel_rfl) (by kernel_rfl) (by kernel_rfl) (fun _ _ _ h => h) (Or.inl ⟨by rfl, ?_⟩) HS1.out ?_
  rotate_left
  · intro w hSw
    (try dsimp only at hSw)
    have q0_ := hSw
    go_simp
    try with_reducible rfl
  try simp only [Act.put, List.setIfInBounds_toArray, List.set_cons_zero, List.set_cons_succ]
  refine wpAnyH_ready (rs := [17]) (by kernel_rfl) (by simp) ?_
  refine AllReadyH.cons (by simp only [List.getElem?_toArray, List.getElem?_cons_zero, List.getElem?_cons_succ]; rfl) (fun K hKK => ?_) AllReadyH.nil
  go_simp
  refine hKK.out _ _ trivial (fun _ => ?_)
  clear hKK K
  have HS2 : Hid True := trivial
  refine wpAnyH_take (i := 18) (v := ?_) (by simp only [List.getElem?_toArray, List.getElem?_cons_zero, List.getElem?_cons_succ]; rfl) (by kernel_rfl) (by kernel_rfl) (by kernel_rfl) (fun _ _ _ h => h) (Or.inl ⟨by rfl, ?_⟩) HS2.out ?_
  rotate_left
  · intro w hSw
    (try dsimp only at hSw)
    have q0_ := hSw
    go_simp
    try with_reducible rfl
  try simp only [Act.put, List.setIfInBounds_toArray, List.set_cons_zero, List.set_cons_succ]
  refine wpAnyH_done (by kernel_rfl) ?_ _
  refine NoPanic.normal ?_
  exact hK gL gF gK gD gC W.heap.size _ (HB1.out.alloc HB1.out.size _) (heap_below HT1.out.1 (ext_alloc W _)) (heap_below HT2.out.1 (ext_alloc W _)) (heap_below HT3.out.1 (ext_alloc W _)) (heap_below HT4.out.1 (ext_alloc W _)) (heap_below HT5.out.1 (ext_alloc W _)) (heap_alloc_new W _) HT1.out.2 HT2.out.2 HT3.out.2 HT4.out.2 HT5.out.2 HB1.out.size
end Go.Proofs.Ytdngaohjocokiaa
