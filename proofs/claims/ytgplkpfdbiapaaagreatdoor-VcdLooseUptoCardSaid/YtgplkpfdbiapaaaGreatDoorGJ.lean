/- The drawn regions of vcd.Write: whether a signal is told, and its digit. -/
import Derived.BigQuiet
import Derived.Deep.QuietTactic
import Derived.Deep.RegionWith
import Derived.Lib.ConvBytes
import Derived.Lib.Hide
import Derived.Lib.SlBytesRow
import Derived.Lib.SmallJoins
import Derived.Shelf.Bytes.SlSmallAll
import Derived.WalkKit
import Derived.WalkLawsBesides
import Derived.WalkSpells
import Derived.Test.YtgplkpfdbiapaaaGreatDoorNHeap
import Derived.Test.YtgplkpfdbiapaaaGreatDoorVdHold
import Derived.Test.YtgplkpfdbiapaaaGreatDoorRows
import Derived.Test.YtgplkpfdbiapaaaGreatDoorShelf
import Derived.Test.YtgplkpfdbiapaaaGreatDoorShelf2
import Derived.Deep.AppendLies
import Derived.Deep.CutRange
import Derived.Deep.RegionHeld3
import Derived.Deep.RegionLaw
import Derived.KernelRfl
import Derived.Laws.CopyOwn
import Derived.Laws.EntriesVeiled
import Derived.Laws.IdiomCopy
import Derived.Laws.OwnMore
import Derived.Laws.Runes
import Derived.Laws.Tables
import Derived.Lib.AppendIntMem
import Derived.Lib.AppendStr
import Derived.Lib.AppendZeros
import Derived.Lib.BufferWrite
import Derived.Lib.DecodeN
import Derived.Lib.Index
import Derived.Lib.IndexEntry
import Derived.Lib.ItoaNum
import Derived.Lib.Join
import Derived.Lib.MakeNoZero
import Derived.Lib.ParseIntBCases
import Derived.Maps.AppendAt
import Derived.Maps.Own
import Derived.Maps.OwnOps
import Derived.Maps.OwnSet
import Derived.OrdersHeld
import Derived.Shelf.Pu.Lower
import Derived.Shelf.Pu.ToError
import Derived.Shelf.Pu.ToErrorRange
import Derived.Shelf.Spec.DecodeRune
import Derived.Shelf.Unicode.DecodeSlow
import Derived.Test.YtgplkpfdbiapaaaGreatDoorLib
import Derived.Test.YtgplkpfdbiapaaaGreatDoorOwn
import Derived.Test.YtgplkpfdbiapaaaGreatDoorNBase
import Derived.Test.YtgplkpfdbiapaaaGreatDoorGA1
import Derived.Test.YtgplkpfdbiapaaaGreatDoorGG
import Derived.Test.YtgplkpfdbiapaaaGreatDoorGI1
/- A region of a function's body, taken out by its number. -/
namespace Go.Proofs.YtgplkpfdbiapaaaGreatDoor
open Go
def findRegion (n : Nat) : Code → Option Code
  | .region k o d => if k = n then some (.region k o d) else none
  | .seq a b => match findRegion n a with
    | some c => some c
    | none => findRegion n b
  | .block _ c => findRegion n c
  | .scope c => findRegion n c
  | .loop c => findRegion n c
  | .cond _ a b => match findRegion n a with
    | some c => some c
    | none => findRegion n b
  | _ => none
end Go.Proofs.YtgplkpfdbiapaaaGreatDoor
/- The drawn regions of vcd.Write: whether a signal is told, and its digit. -/
namespace Go.Proofs.YtgplkpfdbiapaaaGreatDoor
open Go Go.RowKit Go.Joins Go.Shelf Go.Maps

noncomputable def codeVd23 : Code := ((Tryz.f5.body.bind (findRegion 23)).getD .skip)
set_option maxRecDepth 100000 in
set_option maxHeartbeats 25600000 in
theorem reg_Vd23z (rb ro m rc P n1 f : Nat) (X0 : World) (hf : f = 0) (QQ : Exit → Act → World → Prop)
    {v0 v1 v2 v3 v4 v5 v7 v8 v9 v10 v11 v12 v14 v15 v18 v19 v20 v21 v22 v23 v24 v25 v26 v27 v28 v29 v30 v31 v32 v33 v34 v35 v36 v37 v38 v39 v40 v41 v42 v43 v44 v45 v46 v47 v48 v49 v50 v51 v52 v53 v54 v55 v56 v57 v58 v59 v60 v61 v62 v63 v64 v65 v66 v67 v68 v69 v70 v71 v72 v73 v74 v75 v76 v77 v78 v79 v80 v81 v82 v83 v84 v85 v86 v87 v88 v89 v90 v91 v92 v93 v94 v95 v96 v97 v98 v99 v100 v101 v102 v103 : Value}
    (hK : ∀ (wx : World) (u73 u74 u75 u76 u77 u78 u79 u80 u81 u82 u83 u84 u85 : Value), Below X0.heap.size X0 wx → QQ .normal ⟨#[v0, v1, v2, v3, v4, v5, .slice (some ⟨rb, ro, none⟩) m rc, v7, v8, v9, v10, v11, v12, .int .i64 (f : Int), v14, v15, .pointer (some ⟨P, 0, none⟩), .int .u8 (n1 : Int), 
      v18, v19, v20, v21, v22, v23, v24, v25, v26, v27, v28, v29, v30, v31, v32, v33, v34, v35, v36, v37, v38, v39, v40, v41, v42, v43, v44, v45, v46, v47, v48, 
      v49, v50, v51, v52, v53, v54, v55, v56, v57, v58, v59, v60, v61, v62, v63, v64, v65, v66, v67, v68, v69, v70, v71, v72, u73, u74, u75, u76, u77, u78, u79, 
      u80, u81, u82, u83, u84, u85, .bool true, v87, v88, v89, v90, v91, v92, v93, v94, v95, v96, v97, v98, v99, v100, v101, v102, v103], []⟩ wx) :
    Code.wp Tryz.prog codeVd23 QQ ⟨#[v0, v1, v2, v3, v4, v5, .slice (some ⟨rb, ro, none⟩) m rc, v7, v8, v9, v10, v11, v12, .int .i64 (f : Int), v14, v15, .pointer (some ⟨P, 0, none⟩), .int .u8 (n1 : Int), 
      v18, v19, v20, v21, v22, v23, v24, v25, v26, v27, v28, v29, v30, v31, v32, v33, v34, v35, v36, v37, v38, v39, v40, v41, v42, v43, v44, v45, v46, v47, v48, 
      v49, v50, v51, v52, v53, v54, v55, v56, v57, v58, v59, v60, v61, v62, v63, v64, v65, v66, v67, v68, v69, v70, v71, v72, v73, v74, v75, v76, v77, v78, v79, 
      v80, v81, v82, v83, v84, v85, v86, v87, v88, v89, v90, v91, v92, v93, v94, v95, v96, v97, v98, v99, v100, v101, v102, v103], []⟩ X0 := by
  have e1 : ((f : Int) == 0) = true := by rw [hf]; rfl
  have e2 : (f == 0) = true := by rw [hf]; rfl
  have e3 : decide (f = 0) = true := by rw [hf]; rfl
  clear hf
  conv => arg 2; whnf
  refine wp_region_noPanic ?_
  refine wp_region_held (S := fun w' => True ∧ True) (by kernel_rfl) ?_
  generalize hYY : ({ X0 with drawn := X0.drawn + 1 } : World) = Y0
  have hY0 : Below X0.heap.size X0 Y0 := by subst hYY; exact (Below.refl _ _).drew
  have HY0 := Lib.hid hY0
  have HSD : Hid (True ∧ True) := ⟨trivial, trivial⟩
  clear hYY hY0
  refine wpAnyH_take (i := 0) (v := ?_) (by simp only [List.getElem?_toArray, List.getElem?_cons_zero]; rfl) (by kernel_rfl) (by kernel_rfl) (by kernel_rfl) (fun _ _ _ h => h) (Or.inl ⟨by rfl, ?_⟩) HSD.out ?_
  rotate_left
  · intro w hSw
    (try dsimp only at hSw)
    obtain ⟨q0_, q1_⟩ := hSw
    go_simp
    try with_reducible rfl
  try simp only [Act.put, List.setIfInBounds_toArray, List.set_cons_zero, List.set_cons_succ]
  refine wpAnyH_take (i := 1) (v := ?_) (by simp only [List.getElem?_toArray, List.getElem?_cons_zero, List.getElem?_cons_succ]; rfl) (by kernel_rfl) (by kernel_rfl) (by kernel_rfl) (fun _ _ _ h => h) (Or.inl ⟨by rfl, ?_⟩) HSD.out ?_
  rotate_left
  · intro w hSw
    (try dsimp only at hSw)
    obtain ⟨q0_, q1_⟩ := hSw
    go_simp
    try with_reducible rfl
  try simp only [Act.put, List.setIfInBounds_toArray, List.set_cons_zero, List.set_cons_succ]
  refine wpAnyH_take (i := 2) (v := ?_) (by simp only [List.getElem?_toArray, List.getElem?_cons_zero, List.getElem?_cons_succ]; rfl) (by kernel_rfl) (by kernel_rfl) (by kernel_rfl) (fun _ _ _ h => h) (Or.inl ⟨by rfl, ?_⟩) HSD.out ?_
  rotate_left
  · intro w hSw
    (try dsimp only at hSw)
    obtain ⟨q0_, q1_⟩ := hSw
    go_simp
    try with_reducible rfl
  try simp only [Act.put, List.setIfInBounds_toArray, List.set_cons_zero, List.set_cons_succ]
  refine wpAnyH_take (i := 3) (v := undef) (by simp only [List.getElem?_toArray, List.getElem?_cons_zero, List.getElem?_cons_succ]; rfl) (by kernel_rfl) (by kernel_rfl) (by kernel_rfl) (fun _ _ _ h => h) (Or.inr ⟨by rfl, rfl⟩) HSD.out ?_
  try simp only [Act.put, List.setIfInBounds_toArray, List.set_cons_zero, List.set_cons_succ]
  refine wpAnyH_take (i := 4) (v := undef) (by simp only [List.getElem?_toArray, List.getElem?_cons_zero, List.getElem?_cons_succ]; rfl) (by kernel_rfl) (by kernel_rfl) (by kernel_rfl) (fun _ _ _ h => h) (Or.inr ⟨by rfl, rfl⟩) HSD.out ?_
  try simp only [Act.put, List.setIfInBounds_toArray, List.set_cons_zero, List.set_cons_succ]
  refine wpAnyH_take (i := 5) (v := undef) (by simp only [List.getElem?_toArray, List.getElem?_cons_zero, List.getElem?_cons_succ]; rfl) (by kernel_rfl) (by kernel_rfl) (by kernel_rfl) (fun _ _ _ h => h) (Or.inr ⟨by rfl, rfl⟩) HSD.out ?_
  try simp only [Act.put, List.setIfInBounds_toArray, List.set_cons_zero, List.set_cons_succ]
  refine wpAnyH_take (i := 6) (v := undef) (by simp only [List.getElem?_toArray, List.getElem?_cons_zero, List.getElem?_cons_succ]; rfl) (by kernel_rfl) (by kernel_rfl) (by kernel_rfl) (fun _ _ _ h => h) (Or.inr ⟨by rfl, rfl⟩) HSD.out ?_
  try simp only [Act.put, List.setIfInBounds_toArray, List.set_cons_zero, List.set_cons_succ]
  refine wpAnyH_take (i := 7) (v := undef) (by simp only [List.getElem?_toArray, List.getElem?_cons_zero, List.getElem?_cons_succ]; rfl) (by kernel_rfl) (by kernel_rfl) (by kernel_rfl) (fun _ _ _ h => h) (Or.inr ⟨by rfl, rfl⟩) HSD.out ?_
  try simp only [Act.put, List.setIfInBounds_toArray, List.set_cons_zero, List.set_cons_succ]
  refine wpAnyH_take (i := 8) (v := undef) (by simp only [List.getElem?_toArray, List.getElem?_cons_zero, List.getElem?_cons_succ]; rfl) (by kernel_rfl) (by kernel_rfl) (by kernel_rfl) (fun _ _ _ h => h) (Or.inr ⟨by rfl, rfl⟩) HSD.out ?_
  try simp only [Act.put, List.setIfInBounds_toArray, List.set_cons_zero, List.set_cons_succ]
  refine wpAnyH_take (i := 9) (v := undef) (by simp only [List.getElem?_toArray, List.getElem?_cons_zero, List.getElem?_cons_succ]; rfl) (by kernel_rfl) (by kernel_rfl) (by kernel_rfl) (fun _ _ _ h => h) (Or.inr ⟨by rfl, rfl⟩) HSD.out ?_
  try simp only [Act.put, List.setIfInBounds_toArray, List.set_cons_zero, List.set_cons_succ]
  refine wpAnyH_take (i := 10) (v := undef) (by simp only [List.getElem?_toArray, List.getElem?_cons_zero, List.getElem?_cons_succ]; rfl) (by kernel_rfl) (by kernel_rfl) (by kernel_rfl) (fun _ _ _ h => h) (Or.inr ⟨by rfl, rfl⟩) HSD.out ?_
  try simp only [Act.put, List.setIfInBounds_toArray, List.set_cons_zero, List.set_cons_succ]
  refine wpAnyH_ready (rs := [11]) (by kernel_rfl) (by simp) ?_
  refine AllReadyH.cons (by simp only [List.getElem?_toArray, List.getElem?_cons_zero, List.getElem?_cons_succ]; rfl) (fun K hK => ?_) AllReadyH.nil
  rw [if_neg (by exact fun h => Bool.noConfusion (show false = true from h))]
  refine hK.out _ _ HSD.out (fun _ => ?_)
  clear hK K
  try simp only [Act.put, List.setIfInBounds_toArray, List.set_cons_zero, List.set_cons_succ]
  refine wpAnyH_take (i := 12) (v := undef) (by simp only [List.getElem?_toArray, List.getElem?_cons_zero, List.getElem?_cons_succ]; rfl) (by kernel_rfl) (by kernel_rfl) (by kernel_rfl) (fun _ _ _ h => h) (Or.inr ⟨by rfl, rfl⟩) HSD.out ?_
  try simp only [Act.put, List.setIfInBounds_toArray, List.set_cons_zero, List.set_cons_succ]
  refine wpAnyH_take (i := 13) (v := ?_) (by simp only [List.getElem?_toArray, List.getElem?_cons_zero, List.getElem?_cons_succ]; rfl) (by kernel_rfl) (by kernel_rfl) (by kernel_rfl) (fun _ _ _ h => h) (Or.inl ⟨by rfl, ?_⟩) HSD.out ?_
  rotate_left
  · intro w hSw
    (try dsimp only at hSw)
    obtain ⟨q0_, q1_⟩ := hSw
    go_simp
    try with_reducible rfl
  try simp only [Act.put, List.setIfInBounds_toArray, List.set_cons_zero, List.set_cons_succ]
  refine wpAnyH_done (by kernel_rfl) ?_ _
  refine NoPanic.normal ?_
  exact hK _ _ _ _ _ _ _ _ _ _ _ _ _ _ HY0.out
set_option maxRecDepth 100000 in
set_option maxHeartbeats 25600000 in
theorem reg_Vd23s (rb ro m rc P n1 n0 f fm lt : Nat) (ya : Option Addr) (yn yc : Nat) (b : Bool) (X0 : World) (hf : f = fm + 1) (hfm : fm < m) (hm : m ≤ 256) (hb : ((n1 : Int) != (n0 : Int)) = b)
    (HELDB : Hid (∀ W, Below X0.heap.size X0 W → W.cell? ⟨P, 1, none⟩ = some (.int .u32 (lt : Int)) ∧ W.cell? ⟨rb, ro + fm, none⟩ = some (.slice ya yn yc)))
    (HC0 : Hid (∀ W, Below X0.heap.size X0 W → Calls Tryz.prog 20 #[.slice ya yn yc, .int .u32 (lt : Int)] W fun e w' => e = .returned (.int .u8 (n0 : Int)) ∧ Below X0.heap.size W w'))
    (QQ : Exit → Act → World → Prop)
    {v0 v1 v2 v3 v4 v5 v7 v8 v9 v10 v11 v12 v14 v15 v18 v19 v20 v21 v22 v23 v24 v25 v26 v27 v28 v29 v30 v31 v32 v33 v34 v35 v36 v37 v38 v39 v40 v41 v42 v43 v44 v45 v46 v47 v48 v49 v50 v51 v52 v53 v54 v55 v56 v57 v58 v59 v60 v61 v62 v63 v64 v65 v66 v67 v68 v69 v70 v71 v72 v73 v74 v75 v76 v77 v78 v79 v80 v81 v82 v83 v84 v85 v86 v87 v88 v89 v90 v91 v92 v93 v94 v95 v96 v97 v98 v99 v100 v101 v102 v103 : Value}
    (hK : ∀ (wx : World) (u73 u74 u75 u76 u77 u78 u79 u80 u81 u82 u83 u84 u85 : Value), Below X0.heap.size X0 wx → QQ .normal ⟨#[v0, v1, v2, v3, v4, v5, .slice (some ⟨rb, ro, none⟩) m rc, v7, v8, v9, v10, v11, v12, .int .i64 (f : Int), v14, v15, .pointer (some ⟨P, 0, none⟩), .int .u8 (n1 : Int), 
      v18, v19, v20, v21, v22, v23, v24, v25, v26, v27, v28, v29, v30, v31, v32, v33, v34, v35, v36, v37, v38, v39, v40, v41, v42, v43, v44, v45, v46, v47, v48, 
      v49, v50, v51, v52, v53, v54, v55, v56, v57, v58, v59, v60, v61, v62, v63, v64, v65, v66, v67, v68, v69, v70, v71, v72, u73, u74, u75, u76, u77, u78, u79, 
      u80, u81, u82, u83, u84, u85, .bool b, v87, v88, v89, v90, v91, v92, v93, v94, v95, v96, v97, v98, v99, v100, v101, v102, v103], []⟩ wx) :
    Code.wp Tryz.prog codeVd23 QQ ⟨#[v0, v1, v2, v3, v4, v5, .slice (some ⟨rb, ro, none⟩) m rc, v7, v8, v9, v10, v11, v12, .int .i64 (f : Int), v14, v15, .pointer (some ⟨P, 0, none⟩), .int .u8 (n1 : Int), 
      v18, v19, v20, v21, v22, v23, v24, v25, v26, v27, v28, v29, v30, v31, v32, v33, v34, v35, v36, v37, v38, v39, v40, v41, v42, v43, v44, v45, v46, v47, v48, 
      v49, v50, v51, v52, v53, v54, v55, v56, v57, v58, v59, v60, v61, v62, v63, v64, v65, v66, v67, v68, v69, v70, v71, v72, v73, v74, v75, v76, v77, v78, v79, 
      v80, v81, v82, v83, v84, v85, v86, v87, v88, v89, v90, v91, v92, v93, v94, v95, v96, v97, v98, v99, v100, v101, v102, v103], []⟩ X0 := by
  have e1 : ((f : Int) == 0) = false := beq_eq_false_iff_ne.2 (by omega)
  have e2 : (f == 0) = false := beq_eq_false_iff_ne.2 (by omega)
  have e3 : decide (f = 0) = false := decide_eq_false (by omega)
  have W5 : IntKind.i64.wrap ((f : Int) - 1) = (fm : Int) := by rw [IntWalk.i64_in _ (by omega)]; omega
  have hfz : (fm : Int) < (m : Int) := by omega
  have hfz0 : (0 : Int) ≤ (fm : Int) := by omega
  clear hf hm
  conv => arg 2; whnf
  refine wp_region_noPanic ?_
  refine wp_region_held (S := fun w' => w'.cell? ⟨P, 1, none⟩ = some (.int .u32 (lt : Int)) ∧ w'.cell? ⟨rb, ro + fm, none⟩ = some (.slice ya yn yc)) (by kernel_rfl) ?_
  generalize hYY : ({ X0 with drawn := X0.drawn + 1 } : World) = Y0
  have hY0 : Below X0.heap.size X0 Y0 := by subst hYY; exact (Below.refl _ _).drew
  have HC1 := Lib.hid (HC0.out Y0 hY0)
  have HSD := Lib.hid (HELDB.out Y0 hY0)
  have HY0 := Lib.hid hY0
  clear hYY hY0 HC0
  refine wpAnyH_take (i := 0) (v := ?_) (by simp only [List.getElem?_toArray, List.getElem?_cons_zero]; rfl) (by kernel_rfl) (by kernel_rfl) (by kernel_rfl) (fun _ _ _ h => h) (Or.inl ⟨by rfl, ?_⟩) HSD.out ?_
  rotate_left
  · intro w hSw
    (try dsimp only at hSw)
    obtain ⟨q0_, q1_⟩ := hSw
    go_simp
    try with_reducible rfl
  try simp only [Act.put, List.setIfInBounds_toArray, List.set_cons_zero, List.set_cons_succ]
  refine wpAnyH_take (i := 1) (v := ?_) (by simp only [List.getElem?_toArray, List.getElem?_cons_zero, List.getElem?_cons_succ]; rfl) (by kernel_rfl) (by kernel_rfl) (by kernel_rfl) (fun _ _ _ h => h) (Or.inl ⟨by rfl, ?_⟩) HSD.out ?_
  rotate_left
  · intro w hSw
    (try dsimp only at hSw)
    obtain ⟨q0_, q1_⟩ := hSw
    go_simp
    try with_reducible rfl
  try simp only [Act.put, List.setIfInBounds_toArray, List.set_cons_zero, List.set_cons_succ]
  refine wpAnyH_take (i := 2) (v := ?_) (by simp only [List.getElem?_toArray, List.getElem?_cons_zero, List.getElem?_cons_succ]; rfl) (by kernel_rfl) (by kernel_rfl) (by kernel_rfl) (fun _ _ _ h => h) (Or.inl ⟨by rfl, ?_⟩) HSD.out ?_
  rotate_left
  · intro w hSw
    (try dsimp only at hSw)
    obtain ⟨q0_, q1_⟩ := hSw
    go_simp
    try with_reducible rfl
  try simp only [Act.put, List.setIfInBounds_toArray, List.set_cons_zero, List.set_cons_succ]
  refine wpAnyH_take (i := 3) (v := ?_) (by simp only [List.getElem?_toArray, List.getElem?_cons_zero, List.getElem?_cons_succ]; rfl) (by kernel_rfl) (by kernel_rfl) (by kernel_rfl) (fun _ _ _ h => h) (Or.inl ⟨by rfl, ?_⟩) HSD.out ?_
  rotate_left
  · intro w hSw
    (try dsimp only at hSw)
    obtain ⟨q0_, q1_⟩ := hSw
    go_simp
    try with_reducible rfl
  try simp only [Act.put, List.setIfInBounds_toArray, List.set_cons_zero, List.set_cons_succ]
  refine wpAnyH_take (i := 4) (v := ?_) (by simp only [List.getElem?_toArray, List.getElem?_cons_zero, List.getElem?_cons_succ]; rfl) (by kernel_rfl) (by kernel_rfl) (by kernel_rfl) (fun _ _ _ h => h) (Or.inl ⟨by rfl, ?_⟩) HSD.out ?_
  rotate_left
  · intro w hSw
    (try dsimp only at hSw)
    obtain ⟨q0_, q1_⟩ := hSw
    go_simp
    try with_reducible rfl
  try simp only [Act.put, List.setIfInBounds_toArray, List.set_cons_zero, List.set_cons_succ]
  refine wpAnyH_take (i := 5) (v := ?_) (by simp only [List.getElem?_toArray, List.getElem?_cons_zero, List.getElem?_cons_succ]; rfl) (by kernel_rfl) (by kernel_rfl) (by kernel_rfl) (fun _ _ _ h => h) (Or.inl ⟨by rfl, ?_⟩) HSD.out ?_
  rotate_left
  · intro w hSw
    (try dsimp only at hSw)
    obtain ⟨q0_, q1_⟩ := hSw
    go_simp
    try with_reducible rfl
  try simp only [Act.put, List.setIfInBounds_toArray, List.set_cons_zero, List.set_cons_succ]
  refine wpAnyH_take (i := 6) (v := ?_) (by simp only [List.getElem?_toArray, List.getElem?_cons_zero, List.getElem?_cons_succ]; rfl) (by kernel_rfl) (by kernel_rfl) (by kernel_rfl) (fun _ _ _ h => h) (Or.inl ⟨by rfl, ?_⟩) HSD.out ?_
  rotate_left
  · intro w hSw
    (try dsimp only at hSw)
    obtain ⟨q0_, q1_⟩ := hSw
    go_simp
    try with_reducible rfl
  try simp only [Act.put, List.setIfInBounds_toArray, List.set_cons_zero, List.set_cons_succ]
  refine wpAnyH_take (i := 7) (v := ?_) (by simp only [List.getElem?_toArray, List.getElem?_cons_zero, List.getElem?_cons_succ]; rfl) (by kernel_rfl) (by kernel_rfl) (by kernel_rfl) (fun _ _ _ h => h) (Or.inl ⟨by rfl, ?_⟩) HSD.out ?_
  rotate_left
  · intro w hSw
    (try dsimp only at hSw)
    obtain ⟨q0_, q1_⟩ := hSw
    go_simp
    try with_reducible rfl
  try simp only [Act.put, List.setIfInBounds_toArray, List.set_cons_zero, List.set_cons_succ]
  refine wpAnyH_take (i := 8) (v := ?_) (by simp only [List.getElem?_toArray, List.getElem?_cons_zero, List.getElem?_cons_succ]; rfl) (by kernel_rfl) (by kernel_rfl) (by kernel_rfl) (fun _ _ _ h => h) (Or.inl ⟨by rfl, ?_⟩) HSD.out ?_
  rotate_left
  · intro w hSw
    (try dsimp only at hSw)
    obtain ⟨q0_, q1_⟩ := hSw
    go_simp
    try with_reducible rfl
  try simp only [Act.put, List.setIfInBounds_toArray, List.set_cons_zero, List.set_cons_succ]
  refine wpAnyH_take (i := 9) (v := ?_) (by simp only [List.getElem?_toArray, List.getElem?_cons_zero, List.getElem?_cons_succ]; rfl) (by kernel_rfl) (by kernel_rfl) (by kernel_rfl) (fun _ _ _ h => h) (Or.inl ⟨by rfl, ?_⟩) HSD.out ?_
  rotate_left
  · intro w hSw
    (try dsimp only at hSw)
    obtain ⟨q0_, q1_⟩ := hSw
    go_simp
    try with_reducible rfl
  try simp only [Act.put, List.setIfInBounds_toArray, List.set_cons_zero, List.set_cons_succ]
  refine wpAnyH_take (i := 10) (v := ?_) (by simp only [List.getElem?_toArray, List.getElem?_cons_zero, List.getElem?_cons_succ]; rfl) (by kernel_rfl) (by kernel_rfl) (by kernel_rfl) (fun _ _ _ h => h) (Or.inl ⟨by rfl, ?_⟩) HSD.out ?_
  rotate_left
  · intro w hSw
    (try dsimp only at hSw)
    obtain ⟨q0_, q1_⟩ := hSw
    go_simp
    try with_reducible rfl
  try simp only [Act.put, List.setIfInBounds_toArray, List.set_cons_zero, List.set_cons_succ]
  refine wpAnyH_ready (rs := [11]) (by kernel_rfl) (by simp) ?_
  refine AllReadyH.cons (by simp only [List.getElem?_toArray, List.getElem?_cons_zero, List.getElem?_cons_succ]; rfl) (fun K hK => ?_) AllReadyH.nil
  go_simp
  refine HC1.out.mono ?_
  rintro e wx ⟨rfl, bx⟩
  have hwx := HY0.out.trans bx
  have HWX := Lib.hid hwx
  have HSD2 := Lib.hid (HELDB.out wx hwx)
  clear bx hwx HSD HY0 HC1
  refine hK.out _ _ HSD2.out (fun _ => ?_)
  clear hK K
  try simp only [Act.put, List.setIfInBounds_toArray, List.set_cons_zero, List.set_cons_succ]
  refine wpAnyH_take (i := 12) (v := ?_) (by simp only [List.getElem?_toArray, List.getElem?_cons_zero, List.getElem?_cons_succ]; rfl) (by kernel_rfl) (by kernel_rfl) (by kernel_rfl) (fun _ _ _ h => h) (Or.inl ⟨by rfl, ?_⟩) HSD2.out ?_
  rotate_left
  · intro w hSw
    (try dsimp only at hSw)
    obtain ⟨q0_, q1_⟩ := hSw
    go_simp
    try with_reducible rfl
  try simp only [Act.put, List.setIfInBounds_toArray, List.set_cons_zero, List.set_cons_succ]
  refine wpAnyH_take (i := 13) (v := ?_) (by simp only [List.getElem?_toArray, List.getElem?_cons_zero, List.getElem?_cons_succ]; rfl) (by kernel_rfl) (by kernel_rfl) (by kernel_rfl) (fun _ _ _ h => h) (Or.inl ⟨by rfl, ?_⟩) HSD2.out ?_
  rotate_left
  · intro w hSw
    (try dsimp only at hSw)
    obtain ⟨q0_, q1_⟩ := hSw
    go_simp
    try with_reducible rfl
  try simp only [Act.put, List.setIfInBounds_toArray, List.set_cons_zero, List.set_cons_succ]
  refine wpAnyH_done (by kernel_rfl) ?_ _
  refine NoPanic.normal ?_
  exact hK _ _ _ _ _ _ _ _ _ _ _ _ _ _ HWX.out
theorem reg_Vd23 (rb ro m rc P n1 f lt : Nat) (b : Bool) (X0 : World) (hfm : f < m) (hm : m ≤ 256) (h0 : Hid (f = 0 → b = true))
    (h1 : Hid (∀ fm, f = fm + 1 → ∃ (ya : Option Addr) (yn yc n0 : Nat), ((n1 : Int) != (n0 : Int)) = b ∧ (∀ W, Below X0.heap.size X0 W → W.cell? ⟨P, 1, none⟩ = some (.int .u32 (lt : Int)) ∧ W.cell? ⟨rb, ro + fm, none⟩ = some (.slice ya yn yc)) ∧
      (∀ W, Below X0.heap.size X0 W → Calls Tryz.prog 20 #[.slice ya yn yc, .int .u32 (lt : Int)] W fun e w' => e = .returned (.int .u8 (n0 : Int)) ∧ Below X0.heap.size W w')))
    (QQ : Exit → Act → World → Prop)
    {v0 v1 v2 v3 v4 v5 v7 v8 v9 v10 v11 v12 v14 v15 v18 v19 v20 v21 v22 v23 v24 v25 v26 v27 v28 v29 v30 v31 v32 v33 v34 v35 v36 v37 v38 v39 v40 v41 v42 v43 v44 v45 v46 v47 v48 v49 v50 v51 v52 v53 v54 v55 v56 v57 v58 v59 v60 v61 v62 v63 v64 v65 v66 v67 v68 v69 v70 v71 v72 v73 v74 v75 v76 v77 v78 v79 v80 v81 v82 v83 v84 v85 v86 v87 v88 v89 v90 v91 v92 v93 v94 v95 v96 v97 v98 v99 v100 v101 v102 v103 : Value}
    (hK : ∀ (wx : World) (u73 u74 u75 u76 u77 u78 u79 u80 u81 u82 u83 u84 u85 : Value), Below X0.heap.size X0 wx → QQ .normal ⟨#[v0, v1, v2, v3, v4, v5, .slice (some ⟨rb, ro, none⟩) m rc, v7, v8, v9, v10, v11, v12, .int .i64 (f : Int), v14, v15, .pointer (some ⟨P, 0, none⟩), .int .u8 (n1 : Int), 
      v18, v19, v20, v21, v22, v23, v24, v25, v26, v27, v28, v29, v30, v31, v32, v33, v34, v35, v36, v37, v38, v39, v40, v41, v42, v43, v44, v45, v46, v47, v48, 
      v49, v50, v51, v52, v53, v54, v55, v56, v57, v58, v59, v60, v61, v62, v63, v64, v65, v66, v67, v68, v69, v70, v71, v72, u73, u74, u75, u76, u77, u78, u79, 
      u80, u81, u82, u83, u84, u85, .bool b, v87, v88, v89, v90, v91, v92, v93, v94, v95, v96, v97, v98, v99, v100, v101, v102, v103], []⟩ wx) :
    Code.wp Tryz.prog codeVd23 QQ ⟨#[v0, v1, v2, v3, v4, v5, .slice (some ⟨rb, ro, none⟩) m rc, v7, v8, v9, v10, v11, v12, .int .i64 (f : Int), v14, v15, .pointer (some ⟨P, 0, none⟩), .int .u8 (n1 : Int), 
      v18, v19, v20, v21, v22, v23, v24, v25, v26, v27, v28, v29, v30, v31, v32, v33, v34, v35, v36, v37, v38, v39, v40, v41, v42, v43, v44, v45, v46, v47, v48, 
      v49, v50, v51, v52, v53, v54, v55, v56, v57, v58, v59, v60, v61, v62, v63, v64, v65, v66, v67, v68, v69, v70, v71, v72, v73, v74, v75, v76, v77, v78, v79, 
      v80, v81, v82, v83, v84, v85, v86, v87, v88, v89, v90, v91, v92, v93, v94, v95, v96, v97, v98, v99, v100, v101, v102, v103], []⟩ X0 := by
  cases f with
  | zero =>
    have hb := h0.out rfl
    subst hb
    exact reg_Vd23z rb ro m rc P n1 0 X0 rfl QQ hK
  | succ fm =>
    obtain ⟨ya, yn, yc, n0, e1, e2, e3⟩ := h1.out fm rfl
    exact reg_Vd23s rb ro m rc P n1 n0 (fm + 1) fm lt ya yn yc b X0 rfl (by omega) hm e1 (Lib.hid e2) (Lib.hid e3) QQ hK
end Go.Proofs.YtgplkpfdbiapaaaGreatDoor
/- A region that draws its order and whose last operation waits for all others: that operation comes last, so the others may be gone through by themselves. No function of the program is named here. -/
namespace Go.Proofs.YtgplkpfdbiapaaaGreatDoor
open Go

/-- What is asked behind the others: the last operation, then what was asked. -/
def LastQ (P : Program) (ops : Array Oper) (Q : Exit → Act → World → Prop) (m : Nat) : Exit → Act → World → Prop
  | .normal, a, w => wpOp P ops Q m (fun a' w' => Q .normal a' w') a w
  | e, a, w => Q e a w

theorem lastq_wp {P : Program} {ops : Array Oper} {Q : Exit → Act → World → Prop} {m : Nat} {o : Oper} {a : Act} {w : World} {K : Act → World → Prop} (h : o.wp P a w K (LastQ P ops Q m)) : o.wp P a w K Q := by
  unfold Oper.wp at *
  cases hr : (execOp a.eval o).run P w with
  | ok n w' => rw [hr] at h; cases n <;> exact h
  | halt x w' => rw [hr] at h; cases x <;> exact h

section
variable {P : Program} {md : Region.Mode} {front : Array Oper} {last : Oper} {Q : Exit → Act → World → Prop}

theorem push_front {α : Type} (xs : Array α) (x : α) (i : Nat) (h : i < xs.size) : (xs.push x)[i]? = xs[i]? := by
  rw [Array.getElem?_push]; rw [if_neg (by omega)]
theorem push_last {α : Type} (xs : Array α) (x : α) : (xs.push x)[xs.size]? = some x := by
  rw [Array.getElem?_push]; simp
theorem getD_push_lt (l : Array Bool) (b d : Bool) (i : Nat) (h : i < l.size) : (l.push b).getD i d = l.getD i d := by
  simp [Array.getD_eq_getD_getElem?, push_front l b i h]
theorem getD_push_eq (l : Array Bool) (b d : Bool) : (l.push b).getD l.size d = b := by
  simp [Array.getD_eq_getD_getElem?]
theorem set_push_lt (l : Array Bool) (b : Bool) (i : Nat) (h : i < l.size) : (l.push b).setIfInBounds i true = (l.setIfInBounds i true).push b := by
  apply Array.ext'
  rw [Array.toList_setIfInBounds, Array.toList_push, Array.toList_push, Array.toList_setIfInBounds, List.set_append_left _ _ (by simpa using h)]

/-- Where nothing may come up, all have come up. -/
theorem all_listed (hord : ∀ (j : Nat) (o : Oper), front[j]? = some o → ∀ e ∈ o.after, Region.binds md e = true → e.on < j) {listed : Array Bool} (hs : listed.size = front.size) (hr : Region.ready md front listed = []) : ∀ j, j < front.size → listed.getD j false = true := by
  intro j
  induction j using Nat.strongRecOn with
  | ind j ih =>
    intro hj
    cases h : listed.getD j false with
    | true => rfl
    | false =>
      exfalso
      have hm : j ∈ Region.ready md front listed := by
        rw [mem_ready]
        refine ⟨?_, front[j], Array.getElem?_eq_getElem hj, fun e he hb => ?_⟩
        · have hjl : j < listed.size := by omega
          simp [hjl] at h ⊢
          exact h
        · have := hord j _ (Array.getElem?_eq_getElem hj) e he hb
          exact ih e.on this (by omega)
      rw [hr] at hm
      cases hm

theorem peel (hg : ∀ (j : Nat) (o : Oper), front[j]? = some o → o.guard = none) (hord : ∀ (j : Nat) (o : Oper), front[j]? = some o → ∀ e ∈ o.after, Region.binds md e = true → e.on < j) (hlo : ∀ e ∈ last.after, Region.binds md e = true → e.on < front.size) (hl : ∀ i, i < front.size → ∃ e ∈ last.after, Region.binds md e = true ∧ e.on = i) :
    ∀ (fuel : Nat) (listed : Array Bool) (a : Act) (w : World), listed.size = front.size → wpAny P md front (LastQ P (front.push last) Q front.size) fuel listed a w → wpAny P md (front.push last) Q (fuel + 1) (listed.push false) a w := by
  -- who may come up
  have up : ∀ (listed : Array Bool), listed.size = front.size → ∀ i, i < front.size → (i ∈ Region.ready md (front.push last) (listed.push false) ↔ i ∈ Region.ready md front listed) := by
    intro listed hs i hi
    rw [mem_ready, mem_ready, getD_push_lt _ _ _ _ (by omega), push_front _ _ _ hi]
    constructor
    · rintro ⟨h0, o, ho, ha⟩
      exact ⟨h0, o, ho, fun e he hb => by have h1 := ha e he hb; rw [getD_push_lt _ _ _ _ (by have := hord i o ho e he hb; omega)] at h1; exact h1⟩
    · rintro ⟨h0, o, ho, ha⟩
      exact ⟨h0, o, ho, fun e he hb => by rw [getD_push_lt _ _ _ _ (by have := hord i o ho e he hb; omega)]; exact ha e he hb⟩
  have upLast : ∀ (listed : Array Bool), listed.size = front.size → (front.size ∈ Region.ready md (front.push last) (listed.push false) ↔ ∀ j, j < front.size → listed.getD j false = true) := by
    intro listed hs
    rw [mem_ready, ← hs, getD_push_eq, hs, push_last]
    constructor
    · rintro ⟨_, o, ho, ha⟩ j hj
      cases ho
      obtain ⟨e, he, hb, rfl⟩ := hl j hj
      have h1 := ha e he hb
      rw [getD_push_lt _ _ _ _ (by omega)] at h1
      exact h1
    · intro h
      exact ⟨rfl, last, rfl, fun e he hb => by have := hlo e he hb; rw [getD_push_lt _ _ _ _ (by omega)]; exact h _ this⟩
  have inOps : ∀ (listed : Array Bool) i, i ∈ Region.ready md (front.push last) (listed.push false) → i ≤ front.size := by
    intro listed i hi
    obtain ⟨_, o, ho, _⟩ := mem_ready.1 hi
    have := (Array.getElem?_eq_some_iff.1 ho).1
    simp at this
    omega
  -- behind the last one nothing is left
  have over : ∀ (listed : Array Bool), listed.size = front.size → (∀ j, j < front.size → listed.getD j false = true) → Region.ready md (front.push last) ((listed.push false).setIfInBounds front.size true) = [] := by
    intro listed hs ha
    cases hr : Region.ready md (front.push last) ((listed.push false).setIfInBounds front.size true) with
    | nil => rfl
    | cons i t =>
      exfalso
      have hi : i ∈ Region.ready md (front.push last) ((listed.push false).setIfInBounds front.size true) := by rw [hr]; simp
      obtain ⟨h0, o, ho, _⟩ := mem_ready.1 hi
      have hlt := (Array.getElem?_eq_some_iff.1 ho).1
      simp only [Array.size_push] at hlt
      by_cases e : i = front.size
      · subst e
        have : front.size < ((listed.push false).setIfInBounds front.size true).size := by simp; omega
        simp [hs] at h0
      · rw [getD_set_ne true (fun h => e h.symm), getD_push_lt _ _ _ _ (by omega)] at h0
        have h1 := ha i (by omega)
        have hil : i < listed.size := by omega
        simp [hil] at h0 h1
        rw [h0] at h1
        cases h1
  have fin : ∀ (fuel : Nat) (listed : Array Bool) (a : Act) (w : World), listed.size = front.size → (∀ j, j < front.size → listed.getD j false = true) → LastQ P (front.push last) Q front.size .normal a w → wpAny P md (front.push last) Q (fuel + 1) (listed.push false) a w := by
    intro fuel listed a w hs ha h
    refine ⟨fun hr => ?_, fun i hi => ?_⟩
    · have := (upLast listed hs).2 ha
      rw [hr] at this; cases this
    · have hle := inOps listed i hi
      by_cases e : i = front.size
      · subst e
        refine wpOp_mono (fun a' w' hq => ?_) h
        cases fuel with
        | zero => exact ⟨over listed hs ha, hq⟩
        | succ f => exact ⟨fun _ => hq, by rw [over listed hs ha]; simp⟩
      · exfalso
        have h1 := (up listed hs i (by omega)).1 hi
        obtain ⟨h0, _⟩ := mem_ready.1 h1
        have h2 := ha i (by omega)
        have hil : i < listed.size := by omega
        simp [hil] at h0 h2
        rw [h0] at h2
        cases h2
  intro fuel
  induction fuel with
  | zero => exact fun listed a w hs h => fin 0 listed a w hs (all_listed hord hs h.1) h.2
  | succ fuel ih =>
    intro listed a w hs h
    by_cases hr : Region.ready md front listed = []
    · exact fin (fuel + 1) listed a w hs (all_listed hord hs hr) (h.1 hr)
    · refine ⟨fun hr' => ?_, fun i hi => ?_⟩
      · obtain ⟨i, hi⟩ := List.exists_mem_of_ne_nil _ hr
        have hlt := (Array.getElem?_eq_some_iff.1 (mem_ready.1 hi).2.choose_spec.1).1
        have := (up listed hs i hlt).2 hi
        rw [hr'] at this; cases this
      · have hle := inOps listed i hi
        by_cases e : i = front.size
        · subst e
          exact absurd (by
            have ha := (upLast listed hs).1 hi
            cases hr2 : Region.ready md front listed with
            | nil => rfl
            | cons j t =>
              have hj : j ∈ Region.ready md front listed := by rw [hr2]; simp
              obtain ⟨h0, o, ho, _⟩ := mem_ready.1 hj
              have hjl : j < listed.size := by have := (Array.getElem?_eq_some_iff.1 ho).1; omega
              have h2 := ha j (by omega)
              simp [hjl] at h0 h2
              rw [h0] at h2
              cases h2) hr
        · have hlt : i < front.size := by omega
          have h1 := h.2 i ((up listed hs i hlt).1 hi)
          have ho : front[i]? = some front[i] := Array.getElem?_eq_getElem hlt
          have hgd := hg i _ ho
          have hw : ∀ y, Region.wanted front[i] y = true := fun y => by unfold Region.wanted; rw [hgd]
          unfold wpOp at h1 ⊢
          rw [push_front _ _ _ hlt]
          simp only [ho, hw, if_true] at h1 ⊢
          rw [set_push_lt _ _ _ (by omega)]
          rcases h1 with h1 | ⟨h1, h2⟩
          · exact Or.inl (Oper.wp_mono (fun a' w' hk => ih _ a' w' (by simpa using hs) hk) (lastq_wp h1))
          · exact Or.inr ⟨h1, h2⟩
/-- The conditions, as one test. -/
def peelB (md : Region.Mode) (front : Array Oper) (last : Oper) : Bool :=
  (List.range front.size).all (fun j => match front[j]? with | some o => o.guard.isNone && o.after.all (fun e => !Region.binds md e || decide (e.on < j)) | none => true) &&
  (last.after.all (fun e => !Region.binds md e || decide (e.on < front.size)) && (List.range front.size).all (fun i => last.after.any (fun e => Region.binds md e && (e.on == i))))
theorem any_peel {ops : Array Oper} {a : Act} {w : World} (ho : ops = front.push last) (hB : peelB .any front last = true)
    (h : wpAny P .any front (LastQ P ops Q front.size) front.size (Array.replicate front.size false) a w.drew) : wpAny P .any ops Q ops.size (Array.replicate ops.size false) a w.drew := by
  subst ho
  unfold peelB at hB
  rw [Bool.and_eq_true, Bool.and_eq_true, List.all_eq_true, List.all_eq_true, Array.all_eq_true_iff_forall_mem] at hB
  obtain ⟨h1, h2, h3⟩ := hB
  have key : ∀ (j : Nat) (o : Oper), front[j]? = some o → o.guard = none ∧ ∀ e ∈ o.after, Region.binds .any e = true → e.on < j := by
    intro j o ho
    have hlt := (Array.getElem?_eq_some_iff.1 ho).1
    have h4 := h1 j (List.mem_range.2 hlt)
    rw [ho] at h4
    simp only [Bool.and_eq_true, Option.isNone_iff_eq_none, Array.all_eq_true_iff_forall_mem] at h4
    refine ⟨h4.1, fun e he hb => ?_⟩
    have h5 := h4.2 e he
    rw [hb] at h5
    simpa using h5
  have h9 := peel (P := P) (md := .any) (front := front) (last := last) (Q := Q) (fun j o ho => (key j o ho).1) (fun j o ho => (key j o ho).2) (fun e he hb => by have h5 := h2 e he; rw [hb] at h5; simpa using h5) (fun i hi => by
    have h5 := h3 i (List.mem_range.2 hi)
    obtain ⟨e, he, hb⟩ := Array.any_eq_true'.1 h5
    rw [Bool.and_eq_true] at hb
    exact ⟨e, he, hb.1, by simpa using hb.2⟩) front.size (Array.replicate front.size false) a w.drew (by simp) h
  have e1 : (front.push last).size = front.size + 1 := by simp
  have e2 : Array.replicate (front.size + 1) false = (Array.replicate front.size false).push false := Array.replicate_succ
  rw [e1, e2]
  exact h9
theorem wp_region_peel {id : Nat} {ops : Array Oper} {a : Act} {w : World} (hm : P.follows .mixedOrders = true) (ho : ops = front.push last) (hB : peelB .any front last = true)
    (h : wpAny P .any front (LastQ P ops Q front.size) front.size (Array.replicate front.size false) a w.drew) : (Code.region id ops true).wp P Q a w :=
  wp_region_any hm (any_peel ho hB h)
/-- The last one peeled, by numbers. -/
theorem any_peelN {ops : Array Oper} {a : Act} {w : World} (n : Nat) (hn : ops.size = n + 1) (ho : ops[n]? = some last) (hB : peelB .any ops.pop last = true)
    (h : wpAny P .any ops.pop (LastQ P ops Q n) n (Array.replicate n false) a w.drew) : wpAny P .any ops Q ops.size (Array.replicate ops.size false) a w.drew := by
  have hs : ops.pop.size = n := by simp [hn]
  refine any_peel (front := ops.pop) (last := last) ?_ hB (by rw [hs]; exact h)
  apply Array.ext_getElem?
  intro i
  by_cases e : i < n
  · rw [push_front _ _ _ (by omega), Array.getElem?_pop, if_pos (by omega)]
  · by_cases e2 : i = n
    · subst e2
      have := push_last ops.pop last
      rw [hs] at this
      rw [this, ho]
    · rw [Array.getElem?_eq_none (by omega), Array.getElem?_eq_none (by simp; omega)]
theorem wp_region_peelN {id : Nat} {ops : Array Oper} {a : Act} {w : World} (n : Nat) (hm : P.follows .mixedOrders = true) (hn : ops.size = n + 1) (ho : ops[n]? = some last) (hB : peelB .any ops.pop last = true)
    (h : wpAny P .any ops.pop (LastQ P ops Q n) n (Array.replicate n false) a w.drew) : (Code.region id ops true).wp P Q a w :=
  wp_region_any hm (any_peelN n hn ho hB h)
end
end Go.Proofs.YtgplkpfdbiapaaaGreatDoor
namespace Go.Proofs.YtgplkpfdbiapaaaGreatDoor
open Go Go.RowKit Go.Joins Go.Shelf Go.Maps

noncomputable def codeVd24 : Code := ((Tryz.f5.body.bind (findRegion 24)).getD .skip)
set_option maxRecDepth 100000 in
set_option maxHeartbeats 25600000 in
theorem reg_Vd24 (B n1 cl bc : Nat) (ba : Option Addr) (d1 : Int) (u : UInt8) (C : List UInt8) (X0 : World) (HV : Hid (X0.heap[B]? = some (.cells #[.slice ba cl bc] 27 (0, 0)))) (HR : Hid (Row AnyB X0 B 5 (.slice ba cl bc) cl (C.map bv)))
    (hC : cl = C.length) (hc : cl ≤ 100000000000) (hd1 : d1 = (u.toNat : Int)) (hdig : X0.cell? ⟨0, n1, none⟩ = some (.int .u8 d1)) (hn1 : n1 < 3) (hbs : B ≤ X0.heap.size) (hB : 0 < B)
    (QQ : Exit → Act → World → Prop)
    {v0 v1 v2 v3 v4 v5 v6 v7 v8 v10 v11 v12 v13 v14 v15 v16 v18 v19 v20 v21 v22 v23 v24 v25 v26 v27 v28 v29 v30 v31 v32 v33 v34 v35 v36 v37 v38 v39 v40 v41 v42 v43 v44 v45 v46 v47 v48 v49 v50 v51 v52 v53 v54 v55 v56 v57 v58 v59 v60 v61 v62 v63 v64 v65 v66 v67 v68 v69 v70 v71 v72 v73 v74 v75 v76 v77 v78 v79 v80 v81 v82 v83 v84 v85 v86 v87 v88 v89 v90 v91 v92 v93 v94 v95 v96 v97 v98 v99 v100 v101 v102 v103 : Value}
    (hK : ∀ (wx : World) (u87 u88 u89 u90 u91 u92 : Value), BufW B B wx (C ++ [u]) → Below B X0 wx → KeptW B X0 wx → QQ .normal ⟨#[v0, v1, v2, v3, v4, v5, v6, v7, v8, .pointer (some ⟨B, 0, .none⟩), v10, v11, v12, v13, v14, v15, v16, .int .u8 (n1 : Int), v18, v19, v20, v21, v22, v23, 
      v24, v25, v26, v27, v28, v29, v30, v31, v32, v33, v34, v35, v36, v37, v38, v39, v40, v41, v42, v43, v44, v45, v46, v47, v48, v49, v50, v51, v52, v53, v54, 
      v55, v56, v57, v58, v59, v60, v61, v62, v63, v64, v65, v66, v67, v68, v69, v70, v71, v72, v73, v74, v75, v76, v77, v78, v79, v80, v81, v82, v83, v84, v85, 
      v86, u87, u88, u89, u90, u91, u92, v93, v94, v95, v96, v97, v98, v99, v100, v101, v102, v103], []⟩ wx) :
    Code.wp Tryz.prog codeVd24 QQ ⟨#[v0, v1, v2, v3, v4, v5, v6, v7, v8, .pointer (some ⟨B, 0, .none⟩), v10, v11, v12, v13, v14, v15, v16, .int .u8 (n1 : Int), v18, v19, v20, v21, v22, v23, 
      v24, v25, v26, v27, v28, v29, v30, v31, v32, v33, v34, v35, v36, v37, v38, v39, v40, v41, v42, v43, v44, v45, v46, v47, v48, v49, v50, v51, v52, v53, v54, 
      v55, v56, v57, v58, v59, v60, v61, v62, v63, v64, v65, v66, v67, v68, v69, v70, v71, v72, v73, v74, v75, v76, v77, v78, v79, v80, v81, v82, v83, v84, v85, 
      v86, v87, v88, v89, v90, v91, v92, v93, v94, v95, v96, v97, v98, v99, v100, v101, v102, v103], []⟩ X0 := by
  have hq4 : cl + 1 ≤ maxLen := by unfold maxLen; omega
  have hq5 : (cl + 1) * 1 ≤ 140737488355328 := by omega
  have hn3 : (n1 : Int) < 3 := by omega
  have hn0 : (0 : Int) ≤ (n1 : Int) := by omega
  obtain ⟨iu, hiu, hz0u, hz1u, hz2u⟩ := info_parts info_u8v
  have HKK := Lib.hid hK
  have HD1 := Lib.hid hd1
  have HCL := Lib.hid hC
  have HDG := Lib.hid hdig
  clear hK hd1 hC hdig
  conv => arg 2; whnf
  refine wp_region_noPanic ?_
  refine wp_region_peelN 6 (by kernel_rfl) rfl (by simp only [List.getElem?_toArray, List.getElem?_cons_zero, List.getElem?_cons_succ]; rfl) (by kernel_rfl) ?_
  simp only [List.pop_toArray, List.dropLast_cons_cons, List.dropLast_singleton]
  generalize hYY : X0.drew = Y0
  have hY0 : Below X0.heap.size X0 Y0 := by subst hYY; exact (Below.refl _ _).drew
  have HY0 := Lib.hid hY0
  have HSD : Hid (Y0.cell? ⟨B, 0, none⟩ = some (.slice ba cl bc) ∧ Y0.cell? ⟨0, n1, none⟩ = some (.int .u8 d1)) := ⟨cell_of_block (heap_below HV.out hY0) 0, (hY0.cell (lt_of_cellV HDG.out)).trans HDG.out⟩
  clear hYY hY0
  refine wpAny_of_held (S := fun w' => w'.cell? ⟨B, 0, none⟩ = some (.slice ba cl bc) ∧ w'.cell? ⟨0, n1, none⟩ = some (.int .u8 d1)) _ _ _ _ ?_
  refine wpAnyH_take (i := 0) (v := ?_) (by simp only [List.getElem?_toArray, List.getElem?_cons_zero]; rfl) (by kernel_rfl) (by kernel_rfl) (by kernel_rfl) (fun _ _ _ h => h) (Or.inl ⟨by rfl, ?_⟩) HSD.out ?_
  rotate_left
  · intro w hSw
    (try dsimp only at hSw)
    obtain ⟨q0_, q1_⟩ := hSw
    go_simp
    try with_reducible rfl
  try simp only [Act.put, List.setIfInBounds_toArray, List.set_cons_zero, List.set_cons_succ]
  refine wpAnyH_take (i := 1) (v := ?_) (by simp only [List.getElem?_toArray, List.getElem?_cons_zero, List.getElem?_cons_succ]; rfl) (by kernel_rfl) (by kernel_rfl) (by kernel_rfl) (fun _ _ _ h => h) (Or.inl ⟨by rfl, ?_⟩) HSD.out ?_
  rotate_left
  · intro w hSw
    (try dsimp only at hSw)
    obtain ⟨q0_, q1_⟩ := hSw
    go_simp
    try with_reducible rfl
  try simp only [Act.put, List.setIfInBounds_toArray, List.set_cons_zero, List.set_cons_succ]
  refine wpAnyH_take (i := 2) (v := ?_) (by simp only [List.getElem?_toArray, List.getElem?_cons_zero, List.getElem?_cons_succ]; rfl) (by kernel_rfl) (by kernel_rfl) (by kernel_rfl) (fun _ _ _ h => h) (Or.inl ⟨by rfl, ?_⟩) HSD.out ?_
  rotate_left
  · intro w hSw
    (try dsimp only at hSw)
    obtain ⟨q0_, q1_⟩ := hSw
    go_simp
    try with_reducible rfl
  try simp only [Act.put, List.setIfInBounds_toArray, List.set_cons_zero, List.set_cons_succ]
  refine wpAnyH_take (i := 3) (v := ?_) (by simp only [List.getElem?_toArray, List.getElem?_cons_zero, List.getElem?_cons_succ]; rfl) (by kernel_rfl) (by kernel_rfl) (by kernel_rfl) (fun _ _ _ h => h) (Or.inl ⟨by rfl, ?_⟩) HSD.out ?_
  rotate_left
  · intro w hSw
    (try dsimp only at hSw)
    obtain ⟨q0_, q1_⟩ := hSw
    go_simp
    try with_reducible rfl
  try simp only [Act.put, List.setIfInBounds_toArray, List.set_cons_zero, List.set_cons_succ]
  refine wpAnyH_ready (rs := [4]) (by kernel_rfl) (by simp) ?_
  refine AllReadyH.cons (by simp only [List.getElem?_toArray, List.getElem?_cons_zero, List.getElem?_cons_succ]; rfl) (fun K hK => ?_) AllReadyH.nil
  go_simp
  generalize hYV : Y0.alloc (.cells #[.int .u8 d1] 5) = Y1
  have hy1 : Below X0.heap.size X0 Y1 := by subst hYV; exact HY0.out.alloc HY0.out.size _
  have hnew : ∀ j u, [Value.int .u8 d1][j]? = some u → Y1.cell? ((⟨Y0.heap.size, 0, none⟩ : Addr).add j) = some u := by subst hYV; exact cell_one_newW Y0 (.int .u8 d1) 5
  have HSD1 : Hid (Y1.cell? ⟨B, 0, none⟩ = some (.slice ba cl bc) ∧ Y1.cell? ⟨0, n1, none⟩ = some (.int .u8 d1)) := ⟨cell_of_block (heap_below HV.out hy1) 0, (hy1.cell (lt_of_cellV HDG.out)).trans HDG.out⟩
  have HR1 := Lib.hid (ownsN_below HR.out.own hy1)
  have HV1 := Lib.hid (heap_below HV.out hy1)
  have HNW := Lib.hid hnew
  have HY1 := Lib.hid hy1
  have hby : B ≤ Y1.heap.size := Nat.le_trans hbs hy1.size
  clear hYV hy1 hnew HY0 HSD
  refine hK.out _ _ HSD1.out (fun _ => ?_)
  clear hK K
  try simp only [Act.put, List.setIfInBounds_toArray, List.set_cons_zero, List.set_cons_succ]
  refine wpAnyH_ready (rs := [5]) (by kernel_rfl) (by simp) ?_
  refine AllReadyH.cons (by simp only [List.getElem?_toArray, List.getElem?_cons_zero, List.getElem?_cons_succ]; rfl) (fun K hK => ?_) AllReadyH.nil
  refine step_append_own2 rfl (.tmp 87) (.tmp 91) 27 rfl B 5 iu (.int .u8 0) 1 1 Tryz.underlying27 hiu hz0u hz1u hz2u rfl (by omega) (.slice ba cl bc) cl (C.map bv) (by rfl) HR1.out ⟨Y0.heap.size, 0, none⟩ 1 1 [.int .u8 d1] (by rfl) (by rfl) HNW.out (by simp [Value.oneCell']) hq4 hq5 hby ?_
  intro v2 w14 hr2 hg2 _
  have hh2 := heap_grown HV1.out hg2 (ownsN_notown HR1.out HV1.out (by decide))
  have hcz : w14.cell? ⟨B, 0, none⟩ = some (.slice ba cl bc) := cell_of_block hh2 0
  have hfz := unfrozen_of_block hh2 0
  have HE14 := Lib.hid (buf_end (cur2 := C ++ [u]) HY1.out HV1.out (Row.ofOwnsB HR1.out) hg2 (Row.ofOwnsB hr2) (by rw [List.length_append, ← HCL.out]; rfl) (by rw [HD1.out]; simp [bv]) hbs (Nat.le_refl B))
  obtain ⟨a2s, c2s, rfl⟩ := ownsN_form hr2
  have hd14 : w14.cell? ⟨0, n1, none⟩ = some (.int .u8 d1) := by
    have h1 : Below B X0 w14 := (HY1.out.mono hbs).grown hg2 hby (fun k hk => ((Row.ofOwnsB HR1.out).own.lt k hk).1)
    exact (h1.cell hB).trans HDG.out
  have HSD2 : Hid (w14.cell? ⟨B, 0, none⟩ = some (.slice ba cl bc) ∧ w14.cell? ⟨0, n1, none⟩ = some (.int .u8 d1)) := ⟨hcz, hd14⟩
  clear hr2 hg2 hh2 hd14 HSD1
  refine hK.out _ _ HSD2.out (fun _ => ?_)
  clear hK K
  try simp only [Act.put, List.setIfInBounds_toArray, List.set_cons_zero, List.set_cons_succ]
  refine wpAnyH_done (by kernel_rfl) ?_ _
  unfold LastQ wpOp
  simp only [List.getElem?_toArray, List.getElem?_cons_zero, List.getElem?_cons_succ]
  rw [if_pos (by rfl)]
  refine Or.inl ?_
  go_simp
  refine NoPanic.normal ?_
  exact HKK.out _ _ _ _ _ _ _ HE14.out.1 HE14.out.2.1 HE14.out.2.2
end Go.Proofs.YtgplkpfdbiapaaaGreatDoor
