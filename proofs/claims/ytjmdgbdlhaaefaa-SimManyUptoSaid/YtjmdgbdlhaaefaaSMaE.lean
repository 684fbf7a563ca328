/- sim.Many, by its contract. -/
import Derived.Test.YtjmdgbdlhaaefaaNBase
import Derived.Test.YtjmdgbdlhaaefaaNHeap
import Derived.Test.YtjmdgbdlhaaefaaSMaB
import Derived.Test.YtjmdgbdlhaaefaaSMaC
import Derived.Test.YtjmdgbdlhaaefaaRows
import Derived.BigQuiet
import Derived.BigRegion
import Derived.Deep.AppendLies
import Derived.Deep.CutRange
import Derived.Deep.QuietTactic
import Derived.Deep.RegionHeld3
import Derived.Deep.RegionLaw
import Derived.Deep.RegionWith
import Derived.KernelRfl
import Derived.Laws.Bits64b
import Derived.Laws.BitsAllLaws
import Derived.Laws.BitsLemmas
import Derived.Laws.EntriesVeiled
import Derived.Laws.MakeOwn
import Derived.Laws.Tables
import Derived.Lib.AppendStr
import Derived.Lib.AppendZeros
import Derived.Lib.ConvBytes
import Derived.Lib.Hide
import Derived.Lib.SlBytesRow
import Derived.Lib.SmallJoins
import Derived.LoopIn
import Derived.LoopNIn
import Derived.Maps.AppendAt
import Derived.OrdersHeld
import Derived.OrdersIn
import Derived.OwnWalkIn
import Derived.RangeFuncBox
import Derived.RangeFuncCalls
import Derived.RangeFuncLeaves
import Derived.RangeFuncNested
import Derived.RangeFuncWrites
import Derived.Shelf.Abstract
import Derived.Shelf.Bytes.SlSmallAll
import Derived.Shelf.RegionOpen
import Derived.Sort.CutIn
import Derived.Stop.RegionWithIn
import Derived.TacticsInMore
import Derived.WalkKit
import Derived.WalkLawsBesides
import Derived.WalkSpells
import Derived.Test.YtjmdgbdlhaaefaaRawPred
import Derived.Test.YtjmdgbdlhaaefaaRawMay
import Derived.Test.YtjmdgbdlhaaefaaNSpec
import Derived.Test.YtjmdgbdlhaaefaaNVal
import Derived.Test.YtjmdgbdlhaaefaaNTrace
import Derived.Test.YtjmdgbdlhaaefaaNCirc
import Derived.Test.YtjmdgbdlhaaefaaNOwns
import Derived.Test.YtjmdgbdlhaaefaaNHeap2
import Derived.Test.YtjmdgbdlhaaefaaNPeel
import Derived.Test.YtjmdgbdlhaaefaaTBits
import Derived.Test.YtjmdgbdlhaaefaaSSpec
import Derived.Test.YtjmdgbdlhaaefaaSRange
import Derived.Test.YtjmdgbdlhaaefaaSHeldIn
import Derived.Test.YtjmdgbdlhaaefaaSVerd
import Derived.Test.YtjmdgbdlhaaefaaSMaD
import Derived.Test.YtjmdgbdlhaaefaaShelf
import Derived.Test.YtjmdgbdlhaaefaaFCells
import Derived.Test.YtjmdgbdlhaaefaaNCopyTr
import Derived.Test.YtjmdgbdlhaaefaaSSurely
import Derived.Test.YtjmdgbdlhaaefaaSMaA
/- A region of the verdict over words, in whatever order. -/
namespace Go.Proofs.Ytjmdgbdlhaaefaa
open Go Go.RowKit Go.Joins

noncomputable def codeSWVerdR : Code := ((Try.f76.body.bind (findRegion 1)).getD .skip)
set_option maxRecDepth 100000 in
set_option maxHeartbeats 25600000 in
theorem reg_SWVerdR (P : Nat) (X0 : World)
    (HELDB : Hid (∀ W, Below X0.heap.size X0 W → (W.cell? ⟨P, 0, none⟩ = some (.int .u64 18446744073709551615) ∧ W.cell? ⟨P, 1, none⟩ = some (.int .u64 0) ∧ W.cell? ⟨P, 2, none⟩ = some (.func (.func 86) #[] #[]))))
    (E1 : Hid (∀ W, Calls Try.prog 86 #[.agg #[.int .u64 18446744073709551615, .int .u64 0]] W fun e w' => e = .returned (.agg #[.int .u64 0, .int .u64 18446744073709551615]) ∧ Below W.heap.size W w'))
    (QQ : Exit → Act → World → Prop)
    {v0 v1 v2 v3 v5 v6 v7 v8 v9 v10 v11 v12 v13 v14 v15 v16 v17 v18 v19 v20 v21 v22 v23 v24 v25 v26 v27 v28 v29 v30 v31 v32 v33 v34 v35 v36 v37 v38 v39 v40 v41 v42 v43 v44 v45 v46 v47 v48 v49 v50 v51 v52 v53 v54 : Value}
    (hK : ∀ (G1 G2 : Nat) (wx : World) (u14 u15 u16 u17 u18 u19 u20 : Value), X0.heap.size ≤ G1 → X0.heap.size ≤ G2 → G1 ≠ G2 → wx.heap[G1]? = some (.cells #[.int .u64 0, .int .u64 18446744073709551615] 106 (0, 0)) → wx.heap[G2]? = some (.cells #[.int .u64 18446744073709551615, .int .u64 0] 106 (0, 0)) → Below X0.heap.size X0 wx → QQ .normal ⟨#[v0, v1, v2, v3, .pointer (some ⟨P, 0, .none⟩), v5, v6, v7, v8, .pointer (some ⟨G1, 0, .none⟩), .pointer (some ⟨G2, 0, .none⟩), v11, v12, v13, u14, u15, 
      u16, u17, u18, u19, u20, v21, v22, v23, v24, v25, v26, v27, v28, v29, v30, v31, v32, v33, v34, v35, v36, v37, v38, v39, v40, v41, v42, v43, v44, v45, v46, 
      v47, v48, v49, v50, v51, v52, v53, v54], []⟩ wx) :
    Code.wp Try.prog codeSWVerdR QQ ⟨#[v0, v1, v2, v3, .pointer (some ⟨P, 0, .none⟩), v5, v6, v7, v8, v9, v10, v11, v12, v13, v14, v15, v16, v17, v18, v19, v20, v21, v22, v23, v24, v25, v26, 
      v27, v28, v29, v30, v31, v32, v33, v34, v35, v36, v37, v38, v39, v40, v41, v42, v43, v44, v45, v46, v47, v48, v49, v50, v51, v52, v53, v54], []⟩ X0 := by
  conv => arg 2; whnf
  refine wp_region_noPanic ?_
  refine wp_region_held (S := fun w' => w'.cell? ⟨P, 0, none⟩ = some (.int .u64 18446744073709551615) ∧ w'.cell? ⟨P, 1, none⟩ = some (.int .u64 0) ∧ w'.cell? ⟨P, 2, none⟩ = some (.func (.func 86) #[] #[])) (by kernel_rfl) ?_
  generalize hY : ({ X0 with drawn := X0.drawn + 1 } : World) = Y0
  have hY0 : Below X0.heap.size X0 Y0 := by subst hY; exact (Below.refl _ _).drew
  have HELD := Lib.hid (HELDB.out Y0 hY0)
  have HBc := Lib.hid hY0
  clear hY hY0
  refine wpAnyH_take (i := 0) (v := ?_) (by simp only [List.getElem?_toArray, List.getElem?_cons_zero]; rfl) (by kernel_rfl) (by kernel_rfl) (by kernel_rfl) (fun _ _ _ h => h) (Or.inl ⟨by rfl, ?_⟩) HELD.out ?_
  rotate_left
  · intro w hSw
    (try dsimp only at hSw)
    obtain ⟨q0, q1, q2⟩ := hSw
    go_simp
    try with_reducible rfl
  try simp only [Act.put, List.setIfInBounds_toArray, List.set_cons_zero, List.set_cons_succ]
  refine wpAnyH_take (i := 1) (v := ?_) (by simp only [List.getElem?_toArray, List.getElem?_cons_zero, List.getElem?_cons_succ]; rfl) (by kernel_rfl) (by kernel_rfl) (by kernel_rfl) (fun _ _ _ h => h) (Or.inl ⟨by rfl, ?_⟩) HELD.out ?_
  rotate_left
  · intro w hSw
    (try dsimp only at hSw)
    obtain ⟨q0, q1, q2⟩ := hSw
    go_simp
    try with_reducible rfl
  try simp only [Act.put, List.setIfInBounds_toArray, List.set_cons_zero, List.set_cons_succ]
  refine wpAnyH_take (i := 2) (v := ?_) (by simp only [List.getElem?_toArray, List.getElem?_cons_zero, List.getElem?_cons_succ]; rfl) (by kernel_rfl) (by kernel_rfl) (by kernel_rfl) (fun _ _ _ h => h) (Or.inl ⟨by rfl, ?_⟩) HELD.out ?_
  rotate_left
  · intro w hSw
    (try dsimp only at hSw)
    obtain ⟨q0, q1, q2⟩ := hSw
    go_simp
    try with_reducible rfl
  try simp only [Act.put, List.setIfInBounds_toArray, List.set_cons_zero, List.set_cons_succ]
  refine wpAnyH_take (i := 3) (v := ?_) (by simp only [List.getElem?_toArray, List.getElem?_cons_zero, List.getElem?_cons_succ]; rfl) (by kernel_rfl) (by kernel_rfl) (by kernel_rfl) (fun _ _ _ h => h) (Or.inl ⟨by rfl, ?_⟩) HELD.out ?_
  rotate_left
  · intro w hSw
    (try dsimp only at hSw)
    obtain ⟨q0, q1, q2⟩ := hSw
    go_simp
    try with_reducible rfl
  try simp only [Act.put, List.setIfInBounds_toArray, List.set_cons_zero, List.set_cons_succ]
  refine wpAnyH_take (i := 5) (v := ?_) (by simp only [List.getElem?_toArray, List.getElem?_cons_zero, List.getElem?_cons_succ]; rfl) (by kernel_rfl) (by kernel_rfl) (by kernel_rfl) (fun _ _ _ h => h) (Or.inl ⟨by rfl, ?_⟩) HELD.out ?_
  rotate_left
  · intro w hSw
    (try dsimp only at hSw)
    obtain ⟨q0, q1, q2⟩ := hSw
    go_simp
    try with_reducible rfl
  try simp only [Act.put, List.setIfInBounds_toArray, List.set_cons_zero, List.set_cons_succ]
  refine wpAnyH_take (i := 6) (v := ?_) (by simp only [List.getElem?_toArray, List.getElem?_cons_zero, List.getElem?_cons_succ]; rfl) (by kernel_rfl) (by kernel_rfl) (by kernel_rfl) (fun _ _ _ h => h) (Or.inl ⟨by rfl, ?_⟩) HELD.out ?_
  rotate_left
  · intro w hSw
    (try dsimp only at hSw)
    obtain ⟨q0, q1, q2⟩ := hSw
    go_simp
    try with_reducible rfl
  try simp only [Act.put, List.setIfInBounds_toArray, List.set_cons_zero, List.set_cons_succ]
  refine wpAnyH_ready (rs := [4, 7, 8]) (by kernel_rfl) (by simp) ?_
  refine AllReadyH.cons (by simp only [List.getElem?_toArray, List.getElem?_cons_zero, List.getElem?_cons_succ]; rfl) (fun K hK => ?_) (AllReadyH.cons (by simp only [List.getElem?_toArray, List.getElem?_cons_zero, List.getElem?_cons_succ]; rfl) (fun K hK => ?_) (AllReadyH.cons (by simp only [List.getElem?_toArray, List.getElem?_cons_zero, List.getElem?_cons_succ]; rfl) (fun K hK => ?_) AllReadyH.nil))
  · go_simp
    refine (E1.out _).mono ?_
    rintro e V1 ⟨rfl, hb⟩
    have HBc := Lib.hid (ext_trans HBc.out hb)
    have HELD := Lib.hid (HELDB.out V1 HBc.out)
    clear hb
    refine hK.out _ _ HELD.out (fun _ => ?_)
    clear hK K
    try simp only [Act.put, List.setIfInBounds_toArray, List.set_cons_zero, List.set_cons_succ]
    refine wpAnyH_ready (rs := [7, 8]) (by kernel_rfl) (by simp) ?_
    refine AllReadyH.cons (by simp only [List.getElem?_toArray, List.getElem?_cons_zero, List.getElem?_cons_succ]; rfl) (fun K hK => ?_) (AllReadyH.cons (by simp only [List.getElem?_toArray, List.getElem?_cons_zero, List.getElem?_cons_succ]; rfl) (fun K hK => ?_) AllReadyH.nil)
    · go_simp
      generalize hV : World.alloc V1 _ = V2
      have hb : Below V1.heap.size V1 V2 := by subst hV; exact ext_alloc _ _
      have HZ9 : Hid (V2.heap[V1.heap.size]? = some (.cells #[.int .u64 0, .int .u64 0] 106 (0, 0))) := by show _ = _; subst hV; exact heap_new _ _ _ rfl
      have HG9 := Lib.hid HBc.out.size
      have HBc := Lib.hid (ext_trans HBc.out hb)
      have HELD := Lib.hid (HELDB.out V2 HBc.out)
      clear hV hb
      refine hK.out _ _ HELD.out (fun _ => ?_)
      clear hK K
      try simp only [Act.put, List.setIfInBounds_toArray, List.set_cons_zero, List.set_cons_succ]
      refine wpAnyH_ready (rs := [8]) (by kernel_rfl) (by simp) ?_
      refine AllReadyH.cons (by simp only [List.getElem?_toArray, List.getElem?_cons_zero, List.getElem?_cons_succ]; rfl) (fun K hK => ?_) AllReadyH.nil
      go_simp
      generalize hV : World.alloc V2 _ = V3
      have hb : Below V2.heap.size V2 V3 := by subst hV; exact ext_alloc _ _
      have HNE := Lib.hid (Nat.ne_of_lt (heap_lt HZ9.out))
      have HZ9 := Lib.hid (heap_below HZ9.out hb)
      have HZ10 : Hid (V3.heap[V2.heap.size]? = some (.cells #[.int .u64 0, .int .u64 0] 106 (0, 0))) := by show _ = _; subst hV; exact heap_new _ _ _ rfl
      have HG10 := Lib.hid HBc.out.size
      have HBc := Lib.hid (ext_trans HBc.out hb)
      have HELD := Lib.hid (HELDB.out V3 HBc.out)
      clear hV hb
      refine hK.out _ _ HELD.out (fun _ => ?_)
      clear hK K
      try simp only [Act.put, List.setIfInBounds_toArray, List.set_cons_zero, List.set_cons_succ]
      refine wpAnyH_ready (rs := [9]) (by kernel_rfl) (by simp) ?_
      refine AllReadyH.cons (by simp only [List.getElem?_toArray, List.getElem?_cons_zero, List.getElem?_cons_succ]; rfl) (fun K hK => ?_) AllReadyH.nil
      have z0 := cell_of_block HZ9.out 0
      have z1 := cell_of_block HZ9.out 1
      have y0 := unfrozen_of_block HZ9.out 0
      have y1 := unfrozen_of_block HZ9.out 1
      go_simp
      clear z0 z1 y0 y1
      have hz1 := two_set HZ9.out rfl (.int .u64 0) (.int .u64 18446744073709551615)
      have hz2 := (two_other (X := V3) (V1.heap.size) (V2.heap.size) HNE.out.symm (.int .u64 0) (.int .u64 18446744073709551615)).trans HZ10.out
      have hb6 := two_below (u0 := .int .u64 0) (u1 := .int .u64 18446744073709551615) (V1.heap.size) HG9.out HBc.out
      have HELD := Lib.hid (HELDB.out _ hb6)
      generalize hV6 : World.setCell (World.setCell V3 _ _) _ _ = V4 at HELD hb6 hz1 hz2 ⊢
      clear hV6
      have HBc := Lib.hid hb6
      have HZ9 := Lib.hid hz1
      have HZ10 := Lib.hid hz2
      clear hb6 hz1 hz2
      refine hK.out _ _ HELD.out (fun _ => ?_)
      clear hK K
      try simp only [Act.put, List.setIfInBounds_toArray, List.set_cons_zero, List.set_cons_succ]
      refine wpAnyH_ready (rs := [10]) (by kernel_rfl) (by simp) ?_
      refine AllReadyH.cons (by simp only [List.getElem?_toArray, List.getElem?_cons_zero, List.getElem?_cons_succ]; rfl) (fun K hK => ?_) AllReadyH.nil
      have z0 := cell_of_block HZ10.out 0
      have z1 := cell_of_block HZ10.out 1
      have y0 := unfrozen_of_block HZ10.out 0
      have y1 := unfrozen_of_block HZ10.out 1
      go_simp
      clear z0 z1 y0 y1
      have hz1 := two_set HZ10.out rfl (.int .u64 18446744073709551615) (.int .u64 0)
      have hz2 := (two_other (X := V4) (V2.heap.size) (V1.heap.size) HNE.out (.int .u64 18446744073709551615) (.int .u64 0)).trans HZ9.out
      have hb6 := two_below (u0 := .int .u64 18446744073709551615) (u1 := .int .u64 0) (V2.heap.size) HG10.out HBc.out
      have HELD := Lib.hid (HELDB.out _ hb6)
      generalize hV6 : World.setCell (World.setCell V4 _ _) _ _ = V5 at HELD hb6 hz1 hz2 ⊢
      clear hV6
      have HBc := Lib.hid hb6
      have HZ10 := Lib.hid hz1
      have HZ9 := Lib.hid hz2
      clear hb6 hz1 hz2
      refine hK.out _ _ HELD.out (fun _ => ?_)
      clear hK K
      try simp only [Act.put, List.setIfInBounds_toArray, List.set_cons_zero, List.set_cons_succ]
      refine wpAnyH_done (by kernel_rfl) ?_ _
      refine NoPanic.normal ?_
      exact hK _ _ _ _ _ _ _ _ _ _ HG9.out HG10.out HNE.out HZ9.out HZ10.out HBc.out
    · go_simp
      generalize hV : World.alloc V1 _ = V6
      have hb : Below V1.heap.size V1 V6 := by subst hV; exact ext_alloc _ _
      have HZ10 : Hid (V6.heap[V1.heap.size]? = some (.cells #[.int .u64 0, .int .u64 0] 106 (0, 0))) := by show _ = _; subst hV; exact heap_new _ _ _ rfl
      have HG10 := Lib.hid HBc.out.size
      have HBc := Lib.hid (ext_trans HBc.out hb)
      have HELD := Lib.hid (HELDB.out V6 HBc.out)
      clear hV hb
      refine hK.out _ _ HELD.out (fun _ => ?_)
      clear hK K
      try simp only [Act.put, List.setIfInBounds_toArray, List.set_cons_zero, List.set_cons_succ]
      refine wpAnyH_ready (rs := [7]) (by kernel_rfl) (by simp) ?_
      refine AllReadyH.cons (by simp only [List.getElem?_toArray, List.getElem?_cons_zero, List.getElem?_cons_succ]; rfl) (fun K hK => ?_) AllReadyH.nil
      go_simp
      generalize hV : World.alloc V6 _ = V7
      have hb : Below V6.heap.size V6 V7 := by subst hV; exact ext_alloc _ _
      have HNE := Lib.hid (Nat.ne_of_lt (heap_lt HZ10.out)).symm
      have HZ10 := Lib.hid (heap_below HZ10.out hb)
      have HZ9 : Hid (V7.heap[V6.heap.size]? = some (.cells #[.int .u64 0, .int .u64 0] 106 (0, 0))) := by show _ = _; subst hV; exact heap_new _ _ _ rfl
      have HG9 := Lib.hid HBc.out.size
      have HBc := Lib.hid (ext_trans HBc.out hb)
      have HELD := Lib.hid (HELDB.out V7 HBc.out)
      clear hV hb
      refine hK.out _ _ HELD.out (fun _ => ?_)
      clear hK K
      try simp only [Act.put, List.setIfInBounds_toArray, List.set_cons_zero, List.set_cons_succ]
      refine wpAnyH_ready (rs := [9]) (by kernel_rfl) (by simp) ?_
      refine AllReadyH.cons (by simp only [List.getElem?_toArray, List.getElem?_cons_zero, List.getElem?_cons_succ]; rfl) (fun K hK => ?_) AllReadyH.nil
      have z0 := cell_of_block HZ9.out 0
      have z1 := cell_of_block HZ9.out 1
      have y0 := unfrozen_of_block HZ9.out 0
      have y1 := unfrozen_of_block HZ9.out 1
      go_simp
      clear z0 z1 y0 y1
      have hz1 := two_set HZ9.out rfl (.int .u64 0) (.int .u64 18446744073709551615)
      have hz2 := (two_other (X := V7) (V6.heap.size) (V1.heap.size) HNE.out.symm (.int .u64 0) (.int .u64 18446744073709551615)).trans HZ10.out
      have hb6 := two_below (u0 := .int .u64 0) (u1 := .int .u64 18446744073709551615) (V6.heap.size) HG9.out HBc.out
      have HELD := Lib.hid (HELDB.out _ hb6)
      generalize hV6 : World.setCell (World.setCell V7 _ _) _ _ = V8 at HELD hb6 hz1 hz2 ⊢
      clear hV6
      have HBc := Lib.hid hb6
      have HZ9 := Lib.hid hz1
      have HZ10 := Lib.hid hz2
      clear hb6 hz1 hz2
      refine hK.out _ _ HELD.out (fun _ => ?_)
      clear hK K
      try simp only [Act.put, List.setIfInBounds_toArray, List.set_cons_zero, List.set_cons_succ]
      refine wpAnyH_ready (rs := [10]) (by kernel_rfl) (by simp) ?_
      refine AllReadyH.cons (by simp only [List.getElem?_toArray, List.getElem?_cons_zero, List.getElem?_cons_succ]; rfl) (fun K hK => ?_) AllReadyH.nil
      have z0 := cell_of_block HZ10.out 0
      have z1 := cell_of_block HZ10.out 1
      have y0 := unfrozen_of_block HZ10.out 0
      have y1 := unfrozen_of_block HZ10.out 1
      go_simp
      clear z0 z1 y0 y1
      have hz1 := two_set HZ10.out rfl (.int .u64 18446744073709551615) (.int .u64 0)
      have hz2 := (two_other (X := V8) (V1.heap.size) (V6.heap.size) HNE.out (.int .u64 18446744073709551615) (.int .u64 0)).trans HZ9.out
      have hb6 := two_below (u0 := .int .u64 18446744073709551615) (u1 := .int .u64 0) (V1.heap.size) HG10.out HBc.out
      have HELD := Lib.hid (HELDB.out _ hb6)
      generalize hV6 : World.setCell (World.setCell V8 _ _) _ _ = V9 at HELD hb6 hz1 hz2 ⊢
      clear hV6
      have HBc := Lib.hid hb6
      have HZ10 := Lib.hid hz1
      have HZ9 := Lib.hid hz2
      clear hb6 hz1 hz2
      refine hK.out _ _ HELD.out (fun _ => ?_)
      clear hK K
      try simp only [Act.put, List.setIfInBounds_toArray, List.set_cons_zero, List.set_cons_succ]
      refine wpAnyH_done (by kernel_rfl) ?_ _
      refine NoPanic.normal ?_
      exact hK _ _ _ _ _ _ _ _ _ _ HG9.out HG10.out HNE.out HZ9.out HZ10.out HBc.out
  · go_simp
    generalize hV : World.alloc Y0 _ = V10
    have hb : Below Y0.heap.size Y0 V10 := by subst hV; exact ext_alloc _ _
    have HZ9 : Hid (V10.heap[Y0.heap.size]? = some (.cells #[.int .u64 0, .int .u64 0] 106 (0, 0))) := by show _ = _; subst hV; exact heap_new _ _ _ rfl
    have HG9 := Lib.hid HBc.out.size
    have HBc := Lib.hid (ext_trans HBc.out hb)
    have HELD := Lib.hid (HELDB.out V10 HBc.out)
    clear hV hb
    refine hK.out _ _ HELD.out (fun _ => ?_)
    clear hK K
    try simp only [Act.put, List.setIfInBounds_toArray, List.set_cons_zero, List.set_cons_succ]
    refine wpAnyH_ready (rs := [4, 8]) (by kernel_rfl) (by simp) ?_
    refine AllReadyH.cons (by simp only [List.getElem?_toArray, List.getElem?_cons_zero, List.getElem?_cons_succ]; rfl) (fun K hK => ?_) (AllReadyH.cons (by simp only [List.getElem?_toArray, List.getElem?_cons_zero, List.getElem?_cons_succ]; rfl) (fun K hK => ?_) AllReadyH.nil)
    · go_simp
      refine (E1.out _).mono ?_
      rintro e V11 ⟨rfl, hb⟩
      have HZ9 := Lib.hid (heap_below HZ9.out hb)
      have HBc := Lib.hid (ext_trans HBc.out hb)
      have HELD := Lib.hid (HELDB.out V11 HBc.out)
      clear hb
      refine hK.out _ _ HELD.out (fun _ => ?_)
      clear hK K
      try simp only [Act.put, List.setIfInBounds_toArray, List.set_cons_zero, List.set_cons_succ]
      refine wpAnyH_ready (rs := [8]) (by kernel_rfl) (by simp) ?_
      refine AllReadyH.cons (by simp only [List.getElem?_toArray, List.getElem?_cons_zero, List.getElem?_cons_succ]; rfl) (fun K hK => ?_) AllReadyH.nil
      go_simp
      generalize hV : World.alloc V11 _ = V12
      have hb : Below V11.heap.size V11 V12 := by subst hV; exact ext_alloc _ _
      have HNE := Lib.hid (Nat.ne_of_lt (heap_lt HZ9.out))
      have HZ9 := Lib.hid (heap_below HZ9.out hb)
      have HZ10 : Hid (V12.heap[V11.heap.size]? = some (.cells #[.int .u64 0, .int .u64 0] 106 (0, 0))) := by show _ = _; subst hV; exact heap_new _ _ _ rfl
      have HG10 := Lib.hid HBc.out.size
      have HBc := Lib.hid (ext_trans HBc.out hb)
      have HELD := Lib.hid (HELDB.out V12 HBc.out)
      clear hV hb
      refine hK.out _ _ HELD.out (fun _ => ?_)
      clear hK K
      try simp only [Act.put, List.setIfInBounds_toArray, List.set_cons_zero, List.set_cons_succ]
      refine wpAnyH_ready (rs := [9]) (by kernel_rfl) (by simp) ?_
      refine AllReadyH.cons (by simp only [List.getElem?_toArray, List.getElem?_cons_zero, List.getElem?_cons_succ]; rfl) (fun K hK => ?_) AllReadyH.nil
      have z0 := cell_of_block HZ9.out 0
      have z1 := cell_of_block HZ9.out 1
      have y0 := unfrozen_of_block HZ9.out 0
      have y1 := unfrozen_of_block HZ9.out 1
      go_simp
      clear z0 z1 y0 y1
      have hz1 := two_set HZ9.out rfl (.int .u64 0) (.int .u64 18446744073709551615)
      have hz2 := (two_other (X := V12) (Y0.heap.size) (V11.heap.size) HNE.out.symm (.int .u64 0) (.int .u64 18446744073709551615)).trans HZ10.out
      have hb6 := two_below (u0 := .int .u64 0) (u1 := .int .u64 18446744073709551615) (Y0.heap.size) HG9.out HBc.out
      have HELD := Lib.hid (HELDB.out _ hb6)
      generalize hV6 : World.setCell (World.setCell V12 _ _) _ _ = V13 at HELD hb6 hz1 hz2 ⊢
      clear hV6
      have HBc := Lib.hid hb6
      have HZ9 := Lib.hid hz1
      have HZ10 := Lib.hid hz2
      clear hb6 hz1 hz2
      refine hK.out _ _ HELD.out (fun _ => ?_)
      clear hK K
      try simp only [Act.put, List.setIfInBounds_toArray, List.set_cons_zero, List.set_cons_succ]
      refine wpAnyH_ready (rs := [10]) (by kernel_rfl) (by simp) ?_
      refine AllReadyH.cons (by simp only [List.getElem?_toArray, List.getElem?_cons_zero, List.getElem?_cons_succ]; rfl) (fun K hK => ?_) AllReadyH.nil
      have z0 := cell_of_block HZ10.out 0
      have z1 := cell_of_block HZ10.out 1
      have y0 := unfrozen_of_block HZ10.out 0
      have y1 := unfrozen_of_block HZ10.out 1
      go_simp
      clear z0 z1 y0 y1
      have hz1 := two_set HZ10.out rfl (.int .u64 18446744073709551615) (.int .u64 0)
      have hz2 := (two_other (X := V13) (V11.heap.size) (Y0.heap.size) HNE.out (.int .u64 18446744073709551615) (.int .u64 0)).trans HZ9.out
      have hb6 := two_below (u0 := .int .u64 18446744073709551615) (u1 := .int .u64 0) (V11.heap.size) HG10.out HBc.out
      have HELD := Lib.hid (HELDB.out _ hb6)
      generalize hV6 : World.setCell (World.setCell V13 _ _) _ _ = V14 at HELD hb6 hz1 hz2 ⊢
      clear hV6
      have HBc := Lib.hid hb6
      have HZ10 := Lib.hid hz1
      have HZ9 := Lib.hid hz2
      clear hb6 hz1 hz2
      refine hK.out _ _ HELD.out (fun _ => ?_)
      clear hK K
      try simp only [Act.put, List.setIfInBounds_toArray, List.set_cons_zero, List.set_cons_succ]
      refine wpAnyH_done (by kernel_rfl) ?_ _
      refine NoPanic.normal ?_
      exact hK _ _ _ _ _ _ _ _ _ _ HG9.out HG10.out HNE.out HZ9.out HZ10.out HBc.out
    · go_simp
      generalize hV : World.alloc V10 _ = V15
      have hb : Below V10.heap.size V10 V15 := by subst hV; exact ext_alloc _ _
      have HNE := Lib.hid (Nat.ne_of_lt (heap_lt HZ9.out))
      have HZ9 := Lib.hid (heap_below HZ9.out hb)
      have HZ10 : Hid (V15.heap[V10.heap.size]? = some (.cells #[.int .u64 0, .int .u64 0] 106 (0, 0))) := by show _ = _; subst hV; exact heap_new _ _ _ rfl
      have HG10 := Lib.hid HBc.out.size
      have HBc := Lib.hid (ext_trans HBc.out hb)
      have HELD := Lib.hid (HELDB.out V15 HBc.out)
      clear hV hb
      refine hK.out _ _ HELD.out (fun _ => ?_)
      clear hK K
      try simp only [Act.put, List.setIfInBounds_toArray, List.set_cons_zero, List.set_cons_succ]
      refine wpAnyH_ready (rs := [4]) (by kernel_rfl) (by simp) ?_
      refine AllReadyH.cons (by simp only [List.getElem?_toArray, List.getElem?_cons_zero, List.getElem?_cons_succ]; rfl) (fun K hK => ?_) AllReadyH.nil
      go_simp
      refine (E1.out _).mono ?_
      rintro e V16 ⟨rfl, hb⟩
      have HZ9 := Lib.hid (heap_below HZ9.out hb)
      have HZ10 := Lib.hid (heap_below HZ10.out hb)
      have HBc := Lib.hid (ext_trans HBc.out hb)
      have HELD := Lib.hid (HELDB.out V16 HBc.out)
      clear hb
      refine hK.out _ _ HELD.out (fun _ => ?_)
      clear hK K
      try simp only [Act.put, List.setIfInBounds_toArray, List.set_cons_zero, List.set_cons_succ]
      refine wpAnyH_ready (rs := [9]) (by kernel_rfl) (by simp) ?_
      refine AllReadyH.cons (by simp only [List.getElem?_toArray, List.getElem?_cons_zero, List.getElem?_cons_succ]; rfl) (fun K hK => ?_) AllReadyH.nil
      have z0 := cell_of_block HZ9.out 0
      have z1 := cell_of_block HZ9.out 1
      have y0 := unfrozen_of_block HZ9.out 0
      have y1 := unfrozen_of_block HZ9.out 1
      go_simp
      clear z0 z1 y0 y1
      have hz1 := two_set HZ9.out rfl (.int .u64 0) (.int .u64 18446744073709551615)
      have hz2 := (two_other (X := V16) (Y0.heap.size) (V10.heap.size) HNE.out.symm (.int .u64 0) (.int .u64 18446744073709551615)).trans HZ10.out
      have hb6 := two_below (u0 := .int .u64 0) (u1 := .int .u64 18446744073709551615) (Y0.heap.size) HG9.out HBc.out
      have HELD := Lib.hid (HELDB.out _ hb6)
      generalize hV6 : World.setCell (World.setCell V16 _ _) _ _ = V17 at HELD hb6 hz1 hz2 ⊢
      clear hV6
      have HBc := Lib.hid hb6
      have HZ9 := Lib.hid hz1
      have HZ10 := Lib.hid hz2
      clear hb6 hz1 hz2
      refine hK.out _ _ HELD.out (fun _ => ?_)
      clear hK K
      try simp only [Act.put, List.setIfInBounds_toArray, List.set_cons_zero, List.set_cons_succ]
      refine wpAnyH_ready (rs := [10]) (by kernel_rfl) (by simp) ?_
      refine AllReadyH.cons (by simp only [List.getElem?_toArray, List.getElem?_cons_zero, List.getElem?_cons_succ]; rfl) (fun K hK => ?_) AllReadyH.nil
      have z0 := cell_of_block HZ10.out 0
      have z1 := cell_of_block HZ10.out 1
      have y0 := unfrozen_of_block HZ10.out 0
      have y1 := unfrozen_of_block HZ10.out 1
      go_simp
      clear z0 z1 y0 y1
      have hz1 := two_set HZ10.out rfl (.int .u64 18446744073709551615) (.int .u64 0)
      have hz2 := (two_other (X := V17) (V10.heap.size) (Y0.heap.size) HNE.out (.int .u64 18446744073709551615) (.int .u64 0)).trans HZ9.out
      have hb6 := two_below (u0 := .int .u64 18446744073709551615) (u1 := .int .u64 0) (V10.heap.size) HG10.out HBc.out
      have HELD := Lib.hid (HELDB.out _ hb6)
      generalize hV6 : World.setCell (World.setCell V17 _ _) _ _ = V18 at HELD hb6 hz1 hz2 ⊢
      clear hV6
      have HBc := Lib.hid hb6
      have HZ10 := Lib.hid hz1
      have HZ9 := Lib.hid hz2
      clear hb6 hz1 hz2
      refine hK.out _ _ HELD.out (fun _ => ?_)
      clear hK K
      try simp only [Act.put, List.setIfInBounds_toArray, List.set_cons_zero, List.set_cons_succ]
      refine wpAnyH_done (by kernel_rfl) ?_ _
      refine NoPanic.normal ?_
      exact hK _ _ _ _ _ _ _ _ _ _ HG9.out HG10.out HNE.out HZ9.out HZ10.out HBc.out
  · go_simp
    generalize hV : World.alloc Y0 _ = V19
    have hb : Below Y0.heap.size Y0 V19 := by subst hV; exact ext_alloc _ _
    have HZ10 : Hid (V19.heap[Y0.heap.size]? = some (.cells #[.int .u64 0, .int .u64 0] 106 (0, 0))) := by show _ = _; subst hV; exact heap_new _ _ _ rfl
    have HG10 := Lib.hid HBc.out.size
    have HBc := Lib.hid (ext_trans HBc.out hb)
    have HELD := Lib.hid (HELDB.out V19 HBc.out)
    clear hV hb
    refine hK.out _ _ HELD.out (fun _ => ?_)
    clear hK K
    try simp only [Act.put, List.setIfInBounds_toArray, List.set_cons_zero, List.set_cons_succ]
    refine wpAnyH_ready (rs := [4, 7]) (by kernel_rfl) (by simp) ?_
    refine AllReadyH.cons (by simp only [List.getElem?_toArray, List.getElem?_cons_zero, List.getElem?_cons_succ]; rfl) (fun K hK => ?_) (AllReadyH.cons (by simp only [List.getElem?_toArray, List.getElem?_cons_zero, List.getElem?_cons_succ]; rfl) (fun K hK => ?_) AllReadyH.nil)
    · go_simp
      refine (E1.out _).mono ?_
      rintro e V20 ⟨rfl, hb⟩
      have HZ10 := Lib.hid (heap_below HZ10.out hb)
      have HBc := Lib.hid (ext_trans HBc.out hb)
      have HELD := Lib.hid (HELDB.out V20 HBc.out)
      clear hb
      refine hK.out _ _ HELD.out (fun _ => ?_)
      clear hK K
      try simp only [Act.put, List.setIfInBounds_toArray, List.set_cons_zero, List.set_cons_succ]
      refine wpAnyH_ready (rs := [7]) (by kernel_rfl) (by simp) ?_
      refine AllReadyH.cons (by simp only [List.getElem?_toArray, List.getElem?_cons_zero, List.getElem?_cons_succ]; rfl) (fun K hK => ?_) AllReadyH.nil
      go_simp
      generalize hV : World.alloc V20 _ = V21
      have hb : Below V20.heap.size V20 V21 := by subst hV; exact ext_alloc _ _
      have HNE := Lib.hid (Nat.ne_of_lt (heap_lt HZ10.out)).symm
      have HZ10 := Lib.hid (heap_below HZ10.out hb)
      have HZ9 : Hid (V21.heap[V20.heap.size]? = some (.cells #[.int .u64 0, .int .u64 0] 106 (0, 0))) := by show _ = _; subst hV; exact heap_new _ _ _ rfl
      have HG9 := Lib.hid HBc.out.size
      have HBc := Lib.hid (ext_trans HBc.out hb)
      have HELD := Lib.hid (HELDB.out V21 HBc.out)
      clear hV hb
      refine hK.out _ _ HELD.out (fun _ => ?_)
      clear hK K
      try simp only [Act.put, List.setIfInBounds_toArray, List.set_cons_zero, List.set_cons_succ]
      refine wpAnyH_ready (rs := [9]) (by kernel_rfl) (by simp) ?_
      refine AllReadyH.cons (by simp only [List.getElem?_toArray, List.getElem?_cons_zero, List.getElem?_cons_succ]; rfl) (fun K hK => ?_) AllReadyH.nil
      have z0 := cell_of_block HZ9.out 0
      have z1 := cell_of_block HZ9.out 1
      have y0 := unfrozen_of_block HZ9.out 0
      have y1 := unfrozen_of_block HZ9.out 1
      go_simp
      clear z0 z1 y0 y1
      have hz1 := two_set HZ9.out rfl (.int .u64 0) (.int .u64 18446744073709551615)
      have hz2 := (two_other (X := V21) (V20.heap.size) (Y0.heap.size) HNE.out.symm (.int .u64 0) (.int .u64 18446744073709551615)).trans HZ10.out
      have hb6 := two_below (u0 := .int .u64 0) (u1 := .int .u64 18446744073709551615) (V20.heap.size) HG9.out HBc.out
      have HELD := Lib.hid (HELDB.out _ hb6)
      generalize hV6 : World.setCell (World.setCell V21 _ _) _ _ = V22 at HELD hb6 hz1 hz2 ⊢
      clear hV6
      have HBc := Lib.hid hb6
      have HZ9 := Lib.hid hz1
      have HZ10 := Lib.hid hz2
      clear hb6 hz1 hz2
      refine hK.out _ _ HELD.out (fun _ => ?_)
      clear hK K
      try simp only [Act.put, List.setIfInBounds_toArray, List.set_cons_zero, List.set_cons_succ]
      refine wpAnyH_ready (rs := [10]) (by kernel_rfl) (by simp) ?_
      refine AllReadyH.cons (by simp only [List.getElem?_toArray, List.getElem?_cons_zero, List.getElem?_cons_succ]; rfl) (fun K hK => ?_) AllReadyH.nil
      have z0 := cell_of_block HZ10.out 0
      have z1 := cell_of_block HZ10.out 1
      have y0 := unfrozen_of_block HZ10.out 0
      have y1 := unfrozen_of_block HZ10.out 1
      go_simp
      clear z0 z1 y0 y1
      have hz1 := two_set HZ10.out rfl (.int .u64 18446744073709551615) (.int .u64 0)
      have hz2 := (two_other (X := V22) (Y0.heap.size) (V20.heap.size) HNE.out (.int .u64 18446744073709551615) (.int .u64 0)).trans HZ9.out
      have hb6 := two_below (u0 := .int .u64 18446744073709551615) (u1 := .int .u64 0) (Y0.heap.size) HG10.out HBc.out
      have HELD := Lib.hid (HELDB.out _ hb6)
      generalize hV6 : World.setCell (World.setCell V22 _ _) _ _ = V23 at HELD hb6 hz1 hz2 ⊢
      clear hV6
      have HBc := Lib.hid hb6
      have HZ10 := Lib.hid hz1
      have HZ9 := Lib.hid hz2
      clear hb6 hz1 hz2
      refine hK.out _ _ HELD.out (fun _ => ?_)
      clear hK K
      try simp only [Act.put, List.setIfInBounds_toArray, List.set_cons_zero, List.set_cons_succ]
      refine wpAnyH_done (by kernel_rfl) ?_ _
      refine NoPanic.normal ?_
      exact hK _ _ _ _ _ _ _ _ _ _ HG9.out HG10.out HNE.out HZ9.out HZ10.out HBc.out
    · go_simp
      generalize hV : World.alloc V19 _ = V24
      have hb : Below V19.heap.size V19 V24 := by subst hV; exact ext_alloc _ _
      have HNE := Lib.hid (Nat.ne_of_lt (heap_lt HZ10.out)).symm
      have HZ10 := Lib.hid (heap_below HZ10.out hb)
      have HZ9 : Hid (V24.heap[V19.heap.size]? = some (.cells #[.int .u64 0, .int .u64 0] 106 (0, 0))) := by show _ = _; subst hV; exact heap_new _ _ _ rfl
      have HG9 := Lib.hid HBc.out.size
      have HBc := Lib.hid (ext_trans HBc.out hb)
      have HELD := Lib.hid (HELDB.out V24 HBc.out)
      clear hV hb
      refine hK.out _ _ HELD.out (fun _ => ?_)
      clear hK K
      try simp only [Act.put, List.setIfInBounds_toArray, List.set_cons_zero, List.set_cons_succ]
      refine wpAnyH_ready (rs := [4]) (by kernel_rfl) (by simp) ?_
      refine AllReadyH.cons (by simp only [List.getElem?_toArray, List.getElem?_cons_zero, List.getElem?_cons_succ]; rfl) (fun K hK => ?_) AllReadyH.nil
      go_simp
      refine (E1.out _).mono ?_
      rintro e V25 ⟨rfl, hb⟩
      have HZ9 := Lib.hid (heap_below HZ9.out hb)
      have HZ10 := Lib.hid (heap_below HZ10.out hb)
      have HBc := Lib.hid (ext_trans HBc.out hb)
      have HELD := Lib.hid (HELDB.out V25 HBc.out)
      clear hb
      refine hK.out _ _ HELD.out (fun _ => ?_)
      clear hK K
      try simp only [Act.put, List.setIfInBounds_toArray, List.set_cons_zero, List.set_cons_succ]
      refine wpAnyH_ready (rs := [9]) (by kernel_rfl) (by simp) ?_
      refine AllReadyH.cons (by simp only [List.getElem?_toArray, List.getElem?_cons_zero, List.getElem?_cons_succ]; rfl) (fun K hK => ?_) AllReadyH.nil
      have z0 := cell_of_block HZ9.out 0
      have z1 := cell_of_block HZ9.out 1
      have y0 := unfrozen_of_block HZ9.out 0
      have y1 := unfrozen_of_block HZ9.out 1
      go_simp
      clear z0 z1 y0 y1
      have hz1 := two_set HZ9.out rfl (.int .u64 0) (.int .u64 18446744073709551615)
      have hz2 := (two_other (X := V25) (V19.heap.size) (Y0.heap.size) HNE.out.symm (.int .u64 0) (.int .u64 18446744073709551615)).trans HZ10.out
      have hb6 := two_below (u0 := .int .u64 0) (u1 := .int .u64 18446744073709551615) (V19.heap.size) HG9.out HBc.out
      have HELD := Lib.hid (HELDB.out _ hb6)
      generalize hV6 : World.setCell (World.setCell V25 _ _) _ _ = V26 at HELD hb6 hz1 hz2 ⊢
      clear hV6
      have HBc := Lib.hid hb6
      have HZ9 := Lib.hid hz1
      have HZ10 := Lib.hid hz2
      clear hb6 hz1 hz2
      refine hK.out _ _ HELD.out (fun _ => ?_)
      clear hK K
      try simp only [Act.put, List.setIfInBounds_toArray, List.set_cons_zero, List.set_cons_succ]
      refine wpAnyH_ready (rs := [10]) (by kernel_rfl) (by simp) ?_
      refine AllReadyH.cons (by simp only [List.getElem?_toArray, List.getElem?_cons_zero, List.getElem?_cons_succ]; rfl) (fun K hK => ?_) AllReadyH.nil
      have z0 := cell_of_block HZ10.out 0
      have z1 := cell_of_block HZ10.out 1
      have y0 := unfrozen_of_block HZ10.out 0
      have y1 := unfrozen_of_block HZ10.out 1
      go_simp
      clear z0 z1 y0 y1
      have hz1 := two_set HZ10.out rfl (.int .u64 18446744073709551615) (.int .u64 0)
      have hz2 := (two_other (X := V26) (Y0.heap.size) (V19.heap.size) HNE.out (.int .u64 18446744073709551615) (.int .u64 0)).trans HZ9.out
      have hb6 := two_below (u0 := .int .u64 18446744073709551615) (u1 := .int .u64 0) (Y0.heap.size) HG10.out HBc.out
      have HELD := Lib.hid (HELDB.out _ hb6)
      generalize hV6 : World.setCell (World.setCell V26 _ _) _ _ = V27 at HELD hb6 hz1 hz2 ⊢
      clear hV6
      have HBc := Lib.hid hb6
      have HZ10 := Lib.hid hz1
      have HZ9 := Lib.hid hz2
      clear hb6 hz1 hz2
      refine hK.out _ _ HELD.out (fun _ => ?_)
      clear hK K
      try simp only [Act.put, List.setIfInBounds_toArray, List.set_cons_zero, List.set_cons_succ]
      refine wpAnyH_done (by kernel_rfl) ?_ _
      refine NoPanic.normal ?_
      exact hK _ _ _ _ _ _ _ _ _ _ HG9.out HG10.out HNE.out HZ9.out HZ10.out HBc.out
end Go.Proofs.Ytjmdgbdlhaaefaa
/- sim: the verdict over words, by its contract. -/
namespace Go.Proofs.Ytjmdgbdlhaaefaa
open Go Go.RowKit Go.Joins
attribute [local go_sem] Oper.semAt_some

theorem keep7w {w w' : World} {a0 a1 a2 a3 a4 a5 a6 : Addr} {v0 v1 v2 v3 v4 v5 v6 : Value} (h : w.cell? a0 = some v0 ∧ w.cell? a1 = some v1 ∧ w.cell? a2 = some v2 ∧ w.cell? a3 = some v3 ∧ w.cell? a4 = some v4 ∧ w.cell? a5 = some v5 ∧ w.cell? a6 = some v6) (hb : Below w.heap.size w w') :
    w'.cell? a0 = some v0 ∧ w'.cell? a1 = some v1 ∧ w'.cell? a2 = some v2 ∧ w'.cell? a3 = some v3 ∧ w'.cell? a4 = some v4 ∧ w'.cell? a5 = some v5 ∧ w'.cell? a6 = some v6 := by
  obtain ⟨h0, h1, h2, h3, h4, h5, h6⟩ := h
  have one : ∀ {a : Addr} {v : Value}, w.cell? a = some v → w'.cell? a = some v := fun {a v} h => (hb.cell (World.block_lt_of_cell? _ _ h)).trans h
  exact ⟨one h0, one h1, one h2, one h3, one h4, one h5, one h6⟩
/-- New memory, then two stores into a box. -/
theorem box2_step {base B g : Nat} {T : TypeId} {W1 W2 : World} (u0 u1 : Value) (hb : Below W1.heap.size W1 W2) (h1 : base ≤ W1.heap.size) (h2 : base ≤ g) : Kpt base T g g W1 ((W2.setCell ⟨g, 0, none⟩ u0).setCell ⟨g, 1, none⟩ u1) ∧ KeepsFrom B W1 ((W2.setCell ⟨g, 0, none⟩ u0).setCell ⟨g, 1, none⟩ u1) :=
  ⟨((Kpt.below hb h1).trans (Kpt.set W2 ⟨g, 0, none⟩ u0 h2 (.inl rfl))).trans (Kpt.set _ ⟨g, 1, none⟩ u1 h2 (.inl rfl)), ((keepsFrom_below hb).trans ((KeepsOthers.setCell _ _ _).from _)).trans ((KeepsOthers.setCell _ _ _).from _)⟩

/-- What holds between two rounds. -/
structure VInvW (c : NormC) (s : CSlots) (ts : List TraceC) (n ni mi nf bad : Nat) (w : World) (g1 g2 k : Nat) (W : World) (p : W2 × W2) : Prop where
  sum : p = kw.sum c bad (kw.nt kw.z, kw.z) (kw.run c (initW ts n ni) ((insAll ts n mi nf).take k))
  pin : p.1.in ∧ p.2.in
  one : W.heap[g1]? = some (.cells #[.int .u64 (p.1.1 : Nat), .int .u64 (p.1.2 : Nat)] 106 (0, 0))
  two : W.heap[g2]? = some (.cells #[.int .u64 (p.2.1 : Nat), .int .u64 (p.2.2 : Nat)] 106 (0, 0))
  kind : W.heap[w.heap.size]? = some (.cells #[.int .u64 18446744073709551615, .int .u64 0, .func (.func 86) #[] #[], .func (.func 87) #[] #[]] 110 (0, 0))
  cir : W.heap[w.heap.size + 1]? = some (.cells #[.int .i64 c.ins, .slice s.a1 s.n1 s.c1, .slice s.a2 s.n2 s.c2, .slice s.a3 s.n3 s.c3, .slice s.a4 s.n4 s.c4, .slice s.a5 s.n5 s.c5] 26 (0, 0))
  bad : W.heap[w.heap.size + 1 + 1]? = some (.cells #[.int .i64 (bad : Int)] 3 (0, 0))
  res : W.heap[w.heap.size + 1 + 1 + 1 + 1]? = some (.cells #[.int .u64 0, .int .u64 0] 106 (0, 0))
  low : Below w.heap.size w W
theorem VInvW.below {c : NormC} {s : CSlots} {ts : List TraceC} {n ni mi nf bad : Nat} {w : World} {g1 g2 k : Nat} {W W' : World} {p : W2 × W2} (h : VInvW c s ts n ni mi nf bad w g1 g2 k W p) (hb : Below W.heap.size W W') : VInvW c s ts n ni mi nf bad w g1 g2 k W' p :=
  ⟨h.sum, h.pin, heap_below h.one hb, heap_below h.two hb, heap_below h.kind hb, heap_below h.cir hb, heap_below h.bad hb, heap_below h.res hb, ext_trans h.low hb⟩
theorem VInvW.put {c : NormC} {s : CSlots} {ts : List TraceC} {n ni mi nf bad : Nat} {w : World} {g1 g2 k : Nat} {W : World} {p : W2 × W2} (h : VInvW c s ts n ni mi nf bad w g1 g2 k W p) {l : Nat} {o o' : Obj} (hB : w.heap.size ≤ l) (hl : W.heap[l]? = some o) (ho : o.isCells = false) : VInvW c s ts n ni mi nf bad w g1 g2 k (W.putObj l o') p :=
  ⟨h.sum, h.pin, put_cells hl ho h.one, put_cells hl ho h.two, put_cells hl ho h.kind, put_cells hl ho h.cir, put_cells hl ho h.bad, put_cells hl ho h.res, h.low.grown (grownBy_putObj' W l o') h.low.size (fun k e => by cases e; exact hB)⟩
theorem varsW_len (c : NormC) (ts : List TraceC) (n ni mi nf k : Nat) (h1 : ni = c.lats.length) (h2 : (mi : Int) = c.ins) : (varsW c ts n ni mi nf k).length = 1 + varsN c := by
  have h3 : (stW c ts n ni mi nf k).length = ni := by
    unfold stW
    rw [Kd.after_len kw c _ _ (by unfold initW; rw [packL_len]; exact h1), h1]
  unfold varsW
  rw [Kd.vars_len, h3]
  unfold insW varsN
  rw [packL_len]
  omega
theorem runW_take (c : NormC) (ts : List TraceC) (n ni mi nf k : Nat) (h : k < nf) : kw.run c (initW ts n ni) ((insAll ts n mi nf).take (k + 1)) = kw.run c (initW ts n ni) ((insAll ts n mi nf).take k) ++ [varsW c ts n ni mi nf k] := by
  have hl : k < (insAll ts n mi nf).length := by rw [insAll_len]; exact h
  rw [List.take_add_one, List.getElem?_eq_getElem hl]
  simp only [Option.toList_some]
  rw [Kd.run_snoc]
  have e : (insAll ts n mi nf)[k] = insW ts n mi k := by have := insAll_at ts n mi nf k h; simpa [List.getD, List.getElem?_eq_getElem hl] using this
  rw [e]
  rfl

set_option maxRecDepth 100000 in
set_option maxHeartbeats 6400000 in
theorem verdictw_any (c : NormC) (s : CSlots) (a : Option Addr) (n cc ni mi nf fc bad lb g0 : Nat) (sts : List TSlots) (ts : List TraceC) (w : World) (hc : SeesCir w s c) (hm : MayC c) (hs : s.small) (hts : TsSee w a n cc sts ts) (hpos : 0 < n ∧ n ≤ 64 ∧ mi ≤ 1000000) (hfit : TsFit ts n ni mi nf)
    (hni : ni = c.lats.length) (hmi : (mi : Int) = c.ins) (hfew : nf ≤ 256) (hin0 : ∀ x ∈ initW ts n ni, x.in) (hinf : ∀ f, f < nf → ∀ x ∈ insW ts n mi f, x.in) (hbad : bad < c.bads.length)
    (hlb : w.heap[lb]? = some (.cells #[.slice a n cc] 50 (0, 0))) (hfirst : OwnW w 0 g0 ni fc (initW ts n ni)) :
    Calls Try.prog 76 #[kvw, cirV c.ins s, .int .i64 (bad : Int), .agg #[.slice (some ⟨g0, 0, none⟩) ni fc, .int .i64 (nf : Int), .func (.func 92) #[] #[.pointer (some ⟨lb, 0, none⟩)]]] w
      fun e w' => e = .returned (wv (kw.verdict c bad (initW ts n ni) (insAll ts n mi nf))) ∧ Below w.heap.size w w' := by
  have HNOT : Hid (∀ W, Calls Try.prog 86 #[.agg #[.int .u64 18446744073709551615, .int .u64 0]] W fun e w' => e = .returned (.agg #[.int .u64 0, .int .u64 18446744073709551615]) ∧ Below W.heap.size W w') := fun W => by
    have h := tnot_any zeroW zeroW_in W
    have e : wv (notW zeroW) = .agg #[.int .u64 0, .int .u64 18446744073709551615] := by unfold notW; rw [if_pos zeroW_may]; rfl
    rw [e] at h
    exact h
  have HC := Lib.hid hc
  have HM := Lib.hid hm
  have HTS := Lib.hid hts
  have HPOS := Lib.hid hpos
  have HFIT := Lib.hid hfit
  have HNI := Lib.hid hni
  have HMI := Lib.hid hmi
  have HIN0 := Lib.hid hin0
  have HINF := Lib.hid hinf
  have HBAD := Lib.hid hbad
  have HLB := Lib.hid hlb
  have HFI := Lib.hid hfirst
  have HFEW := Lib.hid hfew
  clear hc hm hts hpos hfit hni hmi hin0 hinf hbad hlb hfirst hfew
  refine (callsIn_wide (n := 0)).1 ?_
  refine callsIn_of_wp_marks Try.func76 rfl trivial ?_ rfl
  simp only [Try.ntmps76, List.size_toArray, List.length_cons, List.length_nil, Nat.reduceAdd, Nat.reduceSub, Array.replicate_succ, Array.replicate_zero, List.push_toArray, List.append_toArray, List.nil_append, List.cons_append]
  unfold kvw cirV
  gi_upto_region 1 with fail
  generalize hW : World.alloc (World.alloc (World.alloc (World.alloc (World.alloc w _) _) _) _) _ = W1
  have B1 : Below w.heap.size w W1 := by subst hW; exact ext_trans (ext_alloc _ _) (ext_trans (ext_alloc _ _) (ext_trans (ext_alloc _ _) (ext_trans (ext_alloc _ _) (ext_alloc _ _))))
  have hK : W1.heap[w.heap.size]? = some (.cells #[.int .u64 18446744073709551615, .int .u64 0, .func (.func 86) #[] #[], .func (.func 87) #[] #[]] 110 (0, 0)) := by subst hW; exact heap_below (heap_below (heap_below (heap_below (heap_new _ _ _ rfl) (ext_alloc _ _)) (ext_alloc _ _)) (ext_alloc _ _)) (ext_alloc _ _)
  have hX : W1.heap[w.heap.size + 1]? = some (.cells #[.int .i64 c.ins, .slice s.a1 s.n1 s.c1, .slice s.a2 s.n2 s.c2, .slice s.a3 s.n3 s.c3, .slice s.a4 s.n4 s.c4, .slice s.a5 s.n5 s.c5] 26 (0, 0)) := by subst hW; exact heap_below (heap_below (heap_below (heap_new _ _ _ (by simp)) (ext_alloc _ _)) (ext_alloc _ _)) (ext_alloc _ _)
  have hY : W1.heap[w.heap.size + 1 + 1]? = some (.cells #[.int .i64 (bad : Int)] 3 (0, 0)) := by subst hW; exact heap_below (heap_below (heap_new _ _ _ (by simp)) (ext_alloc _ _)) (ext_alloc _ _)
  have hZ : W1.heap[w.heap.size + 1 + 1 + 1]? = some (.cells #[.slice (some ⟨g0, 0, none⟩) ni fc, .int .i64 (nf : Int), .func (.func 92) #[] #[.pointer (some ⟨lb, 0, none⟩)]] 116 (0, 0)) := by subst hW; exact heap_below (heap_new _ _ _ (by simp)) (ext_alloc _ _)
  have hR : W1.heap[w.heap.size + 1 + 1 + 1 + 1]? = some (.cells #[.int .u64 0, .int .u64 0] 106 (0, 0)) := by subst hW; exact heap_new _ _ _ (by simp)
  have HB1 := Lib.hid B1
  have HK := Lib.hid hK
  have HX := Lib.hid hX
  have HY := Lib.hid hY
  have HZ := Lib.hid hZ
  have HR := Lib.hid hR
  clear hW B1 hK hX hY hZ hR
  gi_cut [9, 10] from 14 (fun v9 v10 wx => ∃ g1 g2 : Nat, v9 = .pointer (some ⟨g1, 0, none⟩) ∧ v10 = .pointer (some ⟨g2, 0, none⟩) ∧ Hid (W1.heap.size ≤ g1 ∧ W1.heap.size ≤ g2 ∧ g1 ≠ g2) ∧ Hid (wx.heap[g1]? = some (.cells #[.int .u64 0, .int .u64 18446744073709551615] 106 (0, 0))) ∧ Hid (wx.heap[g2]? = some (.cells #[.int .u64 18446744073709551615, .int .u64 0] 106 (0, 0))) ∧ Hid (Below W1.heap.size W1 wx))
  case first =>
    refine wpIn_wide.2 ?_
    have HELDB : Hid (∀ W, Below W1.heap.size W1 W → (W.cell? ⟨w.heap.size, 0, none⟩ = some (.int .u64 18446744073709551615) ∧ W.cell? ⟨w.heap.size, 1, none⟩ = some (.int .u64 0) ∧ W.cell? ⟨w.heap.size, 2, none⟩ = some (.func (.func 86) #[] #[]))) := fun W hb => ⟨cell_of_block (heap_below HK.out hb) 0, cell_of_block (heap_below HK.out hb) 1, cell_of_block (heap_below HK.out hb) 2⟩
    refine reg_SWVerdR w.heap.size W1 HELDB HNOT _ ?_
    intro G1 G2 wx _ _ _ _ _ _ _ h1 h2 h3 h4 h5 h6
    go_wp2
    go_meet
    exact ⟨_, _, rfl, rfl, ⟨h1, h2, h3⟩, h4, h5, h6⟩
  case rest =>
    obtain ⟨g1, g2, rfl, rfl, hg, hg1, hg2, hb⟩ := hcut
    have HK2 := Lib.hid (heap_below HK.out hb.out)
    have HX2 := Lib.hid (heap_below HX.out hb.out)
    have HY2 := Lib.hid (heap_below HY.out hb.out)
    have HZ2 := Lib.hid (heap_below HZ.out hb.out)
    have HR2 := Lib.hid (heap_below HR.out hb.out)
    have HB2 := Lib.hid (ext_trans HB1.out hb.out)
    have HLT := Lib.hid (And.intro (heap_lt HK.out) (And.intro (heap_lt HX.out) (And.intro (heap_lt HY.out) (And.intro (heap_lt HZ.out) (heap_lt HR.out)))))
    have HW1 := Lib.hid HB1.out.size
    have p0 : wc.cell? ⟨w.heap.size, 0, none⟩ = some (.int .u64 18446744073709551615) := cell_of_block HK2.out 0
    have p1 : wc.cell? ⟨w.heap.size, 1, none⟩ = some (.int .u64 0) := cell_of_block HK2.out 1
    have p2 : wc.cell? ⟨w.heap.size, 2, none⟩ = some (.func (.func 86) #[] #[]) := cell_of_block HK2.out 2
    have p3 : wc.cell? ⟨w.heap.size, 3, none⟩ = some (.func (.func 87) #[] #[]) := cell_of_block HK2.out 3
    have q0 : wc.cell? ⟨w.heap.size + 1, 0, none⟩ = some (.int .i64 c.ins) := cell_of_block HX2.out 0
    have q1 : wc.cell? ⟨w.heap.size + 1, 1, none⟩ = some (.slice s.a1 s.n1 s.c1) := cell_of_block HX2.out 1
    have q2 : wc.cell? ⟨w.heap.size + 1, 2, none⟩ = some (.slice s.a2 s.n2 s.c2) := cell_of_block HX2.out 2
    have q3 : wc.cell? ⟨w.heap.size + 1, 3, none⟩ = some (.slice s.a3 s.n3 s.c3) := cell_of_block HX2.out 3
    have q4 : wc.cell? ⟨w.heap.size + 1, 4, none⟩ = some (.slice s.a4 s.n4 s.c4) := cell_of_block HX2.out 4
    have q5 : wc.cell? ⟨w.heap.size + 1, 5, none⟩ = some (.slice s.a5 s.n5 s.c5) := cell_of_block HX2.out 5
    have r0 : wc.cell? ⟨w.heap.size + 1 + 1 + 1, 0, none⟩ = some (.slice (some ⟨g0, 0, none⟩) ni fc) := cell_of_block HZ2.out 0
    have r1 : wc.cell? ⟨w.heap.size + 1 + 1 + 1, 1, none⟩ = some (.int .i64 (nf : Int)) := cell_of_block HZ2.out 1
    have r2 : wc.cell? ⟨w.heap.size + 1 + 1 + 1, 2, none⟩ = some (.func (.func 92) #[] #[.pointer (some ⟨lb, 0, none⟩)]) := cell_of_block HZ2.out 2
    clear HK HX HY HZ HR HB1 hb
    gi_wp2_with fail
    refine ⟨trivial, rfl, ?_⟩
    refine (callsIn_wide.2 (runw_any _ _ _ _)).mono ?_
    rintro e W2 ⟨rfl, hk, hx, hf, hb⟩
    have G1 := Lib.hid (heap_below hg1.out hb)
    have G2 := Lib.hid (heap_below hg2.out hb)
    have HK3 := Lib.hid (heap_below HK2.out hb)
    have HX3 := Lib.hid (heap_below HX2.out hb)
    have HY3 := Lib.hid (heap_below HY2.out hb)
    have HR3 := Lib.hid (heap_below HR2.out hb)
    have HB3 := Lib.hid (ext_trans HB2.out hb)
    have hgl1 := heap_lt hg1.out
    have hgl2 := heap_lt hg2.out
    have hlbl := heap_lt HLB.out
    have hg0l := HFI.out.block.2.1
    have HRA : Hid (RunAtW c s a n cc ni mi nf fc sts ts w (wc.heap.size + 2) wc.heap.size (wc.heap.size + 1) lb g0 g1 g2 W2) :=
      { cir := HC.out, tss := HTS.out, low := HB3.out, may := HM.out, small := hs, pos := HPOS.out, fit := HFIT.out, hni := HNI.out, hmi := HMI.out, few := HFEW.out, in0 := HIN0.out, inf := HINF.out, feed := hf, kind := hk, box := hx,
        lbox := heap_below HLB.out HB3.out, first := HFI.out.below HB3.out, lt1 := Nat.lt_of_lt_of_le hgl1 hb.size, lt2 := Nat.lt_of_lt_of_le hgl2 hb.size,
        ne1 := by
          have h2 := hg.out
          have h3 := HW1.out
          exact ⟨by omega, by omega, by omega, by omega, by omega⟩
        ne2 := by
          have h2 := hg.out
          have h3 := HW1.out
          exact ⟨by omega, by omega, by omega, by omega, by omega⟩ }
    have HW2 := Lib.hid hb.size
    have HGL1 := Lib.hid hgl1
    have HGL2 := Lib.hid hgl2
    clear hk hx hf hb HK2 HX2 HY2 HZ2 HB2 HR2 hg1 hg2 p0 p1 p2 p3 q0 q1 q2 q3 q4 q5 r0 r1 r2 hgl1 hgl2 hlbl hg0l
    gi_wp2
    refine wp_rangeFunc (gf := 98) (lb := #[.pointer (some ⟨wc.heap.size + 2, 0, none⟩), .pointer (some ⟨wc.heap.size, 0, none⟩), .pointer (some ⟨wc.heap.size + 1, 0, none⟩)]) rfl (enters_of Try.func98 (by kernel_rfl) rfl)
      (runw_iter c s a n cc ni mi nf fc sts ts w (wc.heap.size + 2) wc.heap.size (wc.heap.size + 1) lb g0 g1 g2 W2 HRA.out) Kpt.trans (fun W l o o' hl h ho => Kpt.put W l o o' (Nat.le_trans HB3.out.size hl) h ho)
      (fun k xs W h => by obtain ⟨g, cp, e, _⟩ := h; rw [e]; rfl) (elem_putsW _ _ _)
      (fun k W => ∃ p, VInvW c s ts n ni mi nf bad w g1 g2 k W p) (fun k A B h hb => by obtain ⟨p, h⟩ := h; exact ⟨p, h.below hb⟩) (fun k A l o o' h hl ho hc => by obtain ⟨p, h⟩ := h; exact ⟨p, h.put (Nat.le_trans HB3.out.size hl) ho hc⟩)
      ⟨(kw.nt kw.z, kw.z), rfl, ⟨notW_in zeroW_in, zeroW_in⟩, G1.out, G2.out, HK3.out, HX3.out, HY3.out, HR3.out, HB3.out⟩ (fun xs => { tmps := #[.agg #[.int .u64 18446744073709551615, .int .u64 0, .func (.func 86) #[] #[], .func (.func 87) #[] #[]], .agg #[.int .i64 c.ins, .slice s.a1 s.n1 s.c1, .slice s.a2 s.n2 s.c2, .slice s.a3 s.n3 s.c3, .slice s.a4 s.n4 s.c4, .slice s.a5 s.n5 s.c5], .int .i64 (bad : Int), .agg #[.slice (some ⟨g0, 0, none⟩) ni fc, .int .i64 (nf : Int), .func (.func 92) #[] #[.pointer (some ⟨lb, 0, none⟩)]], .pointer (some ⟨w.heap.size, 0, none⟩), .pointer (some ⟨w.heap.size + 1, 0, none⟩), .pointer (some ⟨w.heap.size + 1 + 1, 0, none⟩), .pointer (some ⟨w.heap.size + 1 + 1 + 1, 0, none⟩), .pointer (some ⟨w.heap.size + 1 + 1 + 1 + 1, 0, none⟩), .pointer (some ⟨g1, 0, none⟩), .pointer (some ⟨g2, 0, none⟩), xs.getD 0 undef, undef, undef, u14, u15, u16, u17, u18, u19, u20, .agg #[.int .u64 18446744073709551615, .int .u64 0, .func (.func 86) #[] #[], .func (.func 87) #[] #[]], .agg #[.int .i64 c.ins, .slice s.a1 s.n1 s.c1, .slice s.a2 s.n2 s.c2, .slice s.a3 s.n3 s.c3, .slice s.a4 s.n4 s.c4, .slice s.a5 s.n5 s.c5], .agg #[.slice (some ⟨g0, 0, none⟩) ni fc, .int .i64 (nf : Int), .func (.func 92) #[] #[.pointer (some ⟨lb, 0, none⟩)]], .func (.func 98) #[] #[.pointer (some ⟨wc.heap.size + 2, 0, none⟩), .pointer (some ⟨wc.heap.size, 0, none⟩), .pointer (some ⟨wc.heap.size + 1, 0, none⟩)], xs.getD 0 undef, u26, u27, u28, u29, u30, u31, u32, u33, u34, u35, u36, u37, u38, u39, u40, u41, u42, u43, u44, u45, u46, u47, u48, u49, u50, u51, u52, u53, u54], defers := [] }) ?assign ?body ?done
    case assign =>
      rintro l k xs W K ⟨va, vc, rfl, _⟩ hKK
      gi_wp2
      exact hKK
    case body =>
      rintro l k xs W hkN ⟨p, hV⟩ ⟨va, vc, rfl, hrow⟩
      have q5 : W.cell? ⟨w.heap.size + 1, 5, none⟩ = some (.slice s.a5 s.n5 s.c5) := cell_of_block hV.cir 5
      have hvl := varsW_len c ts n ni mi nf k HNI.out HMI.out
      have hvin : ∀ x ∈ varsW c ts n ni mi nf k, x.in := varsw_in c (stW_in (c := c) (ni := ni) HIN0.out HINF.out k (Nat.le_of_lt hkN)) (HINF.out k hkN)
      have hfew := HM.out.few
      obtain ⟨NV, hNV⟩ : ∃ v, v = (varsW c ts n ni mi nf k).length := ⟨_, rfl⟩
      rw [← hNV] at hvl
      have hcons : Hid (∀ j, j < s.n5 → c.cons.getD j 0 / 2 < NV ∧ c.cons.getD j 0 < 4294967296) := fun j hj => by
        have h1 := HM.out.cons _ (getD_mem (d := 0) (show j < c.cons.length by rw [HC.out.s5.lenMap]; exact hj))
        omega
      have hbadl : Hid (c.bads.getD bad 0 / 2 < NV ∧ c.bads.getD bad 0 < 4294967296) := by
        have h1 := HM.out.bads _ (getD_mem (d := 0) HBAD.out)
        show _ ∧ _
        omega
      have hn5 : Hid (c.cons.length = s.n5) := HC.out.s5.lenMap
      have hn5b : s.n5 ≤ 1048576 := hs.n5
      have HV := Lib.hid hV
      rw [← hNV] at hrow
      have HNVE := Lib.hid hNV
      have HVA1 : Hid (va ≠ g1 ∧ va ≠ g2) := by obtain ⟨h1, _⟩ := hrow.block; have h2 := HGL1.out; have h3 := HGL2.out; have h4 := HW2.out; exact ⟨by omega, by omega⟩
      obtain ⟨VS, hVS⟩ : ∃ v, v = varsW c ts n ni mi nf k := ⟨_, rfl⟩
      rw [← hVS] at hrow hvin
      have HVS := Lib.hid hVS
      have HROW := Lib.hid hrow
      have HVIN := Lib.hid hvin
      clear hV hrow hvl hfew hvin hNV hVS
      gi_upto_region 4 with fail
      gi_wp2
      rw [← HNVE.out]
      clear q5
      gi_loopw [29, 13] (fun i _ wr => ∃ (j : Nat), j ≤ s.n5 ∧ i = .int .i64 j ∧ Hid (wr.heap[g1]? = some (.cells #[.int .u64 ((kw.cons VS p.1 (c.cons.take j)).1 : Nat), .int .u64 ((kw.cons VS p.1 (c.cons.take j)).2 : Nat)] 106 (0, 0)) ∧ (kw.cons VS p.1 (c.cons.take j)).in) ∧ Hid (Kpt w.heap.size 27 g1 g1 W wr) ∧ Hid (KeepsFrom W2.heap.size W wr)) (fun i _ _ => s.n5 - (intOf i).toNat)
      case atStart => exact ⟨0, Nat.zero_le _, rfl, ⟨HV.out.one, HV.out.pin.1⟩, Kpt.below (Below.refl _ _) HV.out.low.size, KeepsFrom.refl _ _⟩
      case round =>
        obtain ⟨j, hj, rfl, hone, hkp, hkf⟩ := hrel
        by_cases hlt : j < s.n5
        · obtain ⟨cb, off, hca, _⟩ := HC.out.s5.addr (show 0 < s.n5 by omega)
          have hlow : Below w.heap.size w wr := HV.out.low.trans hkp.out.low
          have hsx := HC.out.s5.below hlow
          rw [hca] at hsx
          have hcx := hsx.num j hlt
          have htk : c.cons.take (j + 1) = c.cons.take j ++ [c.cons.getD j 0] := by
            rw [List.take_add_one, List.getElem?_eq_getElem (by rw [hn5.out]; exact hlt)]; simp [List.getD, List.getElem?_eq_getElem (show j < c.cons.length by rw [hn5.out]; exact hlt)]
          have hlit := hcons.out j hlt
          obtain ⟨x, hx⟩ : ∃ x, x = c.cons.getD j 0 := ⟨_, rfl⟩
          rw [← hx] at hcx hlit htk
          obtain ⟨na, hna⟩ : ∃ na, na = kw.val VS x := ⟨_, rfl⟩
          have HVAL : Hid (∀ W', Below wr.heap.size wr W' → Calls Try.prog 89 #[.agg #[.int .u64 18446744073709551615, .int .u64 0, .func (.func 86) #[] #[], .func (.func 87) #[] #[]], .slice (some ⟨va, 0, none⟩) NV vc, .int .u32 (x : Int)] W' fun e w' => e = .returned (.agg #[.int .u64 (na.1 : Nat), .int .u64 (na.2 : Nat)]) ∧ Below W'.heap.size W' w') := fun W' hb => by
            rw [hna]; exact valuew_any VS _ va NV vc x W' ((HROW.out.kpt hkp.out (by decide) HVA1.out.1 HVA1.out.1).below hb) HVIN.out hlit.1 hlit.2
          have hk4 := hkp.out.mid _ _ _ _ HV.out.kind (by decide) (by have := hg.out; have := HLT.out; omega) (by have := hg.out; have := HLT.out; omega)
          obtain ⟨XC, hXC⟩ : ∃ XC, XC = kw.cons VS p.1 (c.cons.take j) := ⟨_, rfl⟩
          rw [← hXC] at hone
          obtain ⟨nr, hnr⟩ : ∃ nr, nr = kw.an XC na := ⟨_, rfl⟩
          have HNEXT : Hid (kw.cons VS p.1 (c.cons.take (j + 1)) = nr ∧ nr.in) := ⟨by rw [htk, Kd.cons_snoc, hnr, hXC, hna], by rw [hnr]; exact andW_in hone.out.2 (by rw [hna]; exact valw_in HVIN.out _)⟩
          have HAND : Hid (∀ W', Calls Try.prog 87 #[.agg #[.int .u64 (XC.1 : Nat), .int .u64 (XC.2 : Nat)], .agg #[.int .u64 (na.1 : Nat), .int .u64 (na.2 : Nat)]] W' fun e w' => e = .returned (.agg #[.int .u64 (nr.1 : Nat), .int .u64 (nr.2 : Nat)]) ∧ Below W'.heap.size W' w') := fun W' => by
            rw [hnr]; exact tand_any XC na hone.out.2 (by rw [hna]; exact valw_in HVIN.out _) W'
          have HONE := Lib.hid hone.out.1
          clear hna hXC hnr hone htk hlit hsx hx
          obtain ⟨x1, x2⟩ := XC
          obtain ⟨y1, y2⟩ := na
          obtain ⟨r1, r2⟩ := nr
          simp only at HVAL HAND HONE
          have p0 : wr.cell? ⟨w.heap.size, 0, none⟩ = some (.int .u64 18446744073709551615) := cell_of_block hk4 0
          have p1 : wr.cell? ⟨w.heap.size, 1, none⟩ = some (.int .u64 0) := cell_of_block hk4 1
          have p2 : wr.cell? ⟨w.heap.size, 2, none⟩ = some (.func (.func 86) #[] #[]) := cell_of_block hk4 2
          have p3 : wr.cell? ⟨w.heap.size, 3, none⟩ = some (.func (.func 87) #[] #[]) := cell_of_block hk4 3
          have o1 : wr.cell? ⟨g1, 0, none⟩ = some (.int .u64 (x1 : Int)) := cell_of_block HONE.out 0
          have o2 : wr.cell? ⟨g1, 1, none⟩ = some (.int .u64 (x2 : Int)) := cell_of_block HONE.out 1
          have HS0 := Lib.hid (And.intro p0 (And.intro p1 (And.intro p2 (And.intro p3 (And.intro o1 o2)))))
          have W1' : IntKind.i64.wrap ((j : Int) + 1) = (j : Int) + 1 := IntWalk.i64_in _ (by omega)
          have HLOW := Lib.hid hlow
          have HCA := Lib.hid hca
          rw [hca]
          clear hk4 hlow hca p0 p1 p2 p3 o1 o2
          gi_upto_region 7 with fail
          have HSD := Lib.hid (keep6w HS0.out ((Below.refl _ wr).drew))
          have HYD := Lib.hid ((Below.refl wr.heap.size wr).drew)
          refine wpIn_region_peelN (S := fun w' => w'.cell? ⟨w.heap.size, 0, none⟩ = some (.int .u64 18446744073709551615) ∧ w'.cell? ⟨w.heap.size, 1, none⟩ = some (.int .u64 0) ∧ w'.cell? ⟨w.heap.size, 2, none⟩ = some (.func (.func 86) #[] #[]) ∧ w'.cell? ⟨w.heap.size, 3, none⟩ = some (.func (.func 87) #[] #[]) ∧ w'.cell? ⟨g1, 0, none⟩ = some (.int .u64 (x1 : Int)) ∧ w'.cell? ⟨g1, 1, none⟩ = some (.int .u64 (x2 : Int))) 8 (by kernel_rfl) (by kernel_rfl) rfl (by simp only [List.getElem?_toArray, List.getElem?_cons_zero, List.getElem?_cons_succ]; rfl) (by kernel_rfl) ?_
          simp only [List.pop_toArray, List.dropLast_cons_cons, List.dropLast_singleton]
          refine wpAnyH_take (i := 0) (v := ?_) (by simp only [List.getElem?_toArray, List.getElem?_cons_zero]; rfl) (by kernel_rfl) (by kernel_rfl) (by kernel_rfl) (fun _ _ _ h => h) (Or.inl ⟨by rfl, ?_⟩) HSD.out ?_
          rotate_left
          · intro w hSw
            (try dsimp only at hSw)
            obtain ⟨q0_, q1_, q2_, q3_, q4_, q5_⟩ := hSw
            go_simp
            try with_reducible rfl
          try simp only [Act.put, List.setIfInBounds_toArray, List.set_cons_zero, List.set_cons_succ]
          refine wpAnyH_take (i := 1) (v := ?_) (by simp only [List.getElem?_toArray, List.getElem?_cons_zero, List.getElem?_cons_succ]; rfl) (by kernel_rfl) (by kernel_rfl) (by kernel_rfl) (fun _ _ _ h => h) (Or.inl ⟨by rfl, ?_⟩) HSD.out ?_
          rotate_left
          · intro w hSw
            (try dsimp only at hSw)
            obtain ⟨q0_, q1_, q2_, q3_, q4_, q5_⟩ := hSw
            go_simp
            try with_reducible rfl
          try simp only [Act.put, List.setIfInBounds_toArray, List.set_cons_zero, List.set_cons_succ]
          refine wpAnyH_take (i := 2) (v := ?_) (by simp only [List.getElem?_toArray, List.getElem?_cons_zero, List.getElem?_cons_succ]; rfl) (by kernel_rfl) (by kernel_rfl) (by kernel_rfl) (fun _ _ _ h => h) (Or.inl ⟨by rfl, ?_⟩) HSD.out ?_
          rotate_left
          · intro w hSw
            (try dsimp only at hSw)
            obtain ⟨q0_, q1_, q2_, q3_, q4_, q5_⟩ := hSw
            go_simp
            try with_reducible rfl
          try simp only [Act.put, List.setIfInBounds_toArray, List.set_cons_zero, List.set_cons_succ]
          refine wpAnyH_take (i := 3) (v := ?_) (by simp only [List.getElem?_toArray, List.getElem?_cons_zero, List.getElem?_cons_succ]; rfl) (by kernel_rfl) (by kernel_rfl) (by kernel_rfl) (fun _ _ _ h => h) (Or.inl ⟨by rfl, ?_⟩) HSD.out ?_
          rotate_left
          · intro w hSw
            (try dsimp only at hSw)
            obtain ⟨q0_, q1_, q2_, q3_, q4_, q5_⟩ := hSw
            go_simp
            try with_reducible rfl
          try simp only [Act.put, List.setIfInBounds_toArray, List.set_cons_zero, List.set_cons_succ]
          refine wpAnyH_take (i := 4) (v := ?_) (by simp only [List.getElem?_toArray, List.getElem?_cons_zero, List.getElem?_cons_succ]; rfl) (by kernel_rfl) (by kernel_rfl) (by kernel_rfl) (fun _ _ _ h => h) (Or.inl ⟨by rfl, ?_⟩) HSD.out ?_
          rotate_left
          · intro w hSw
            (try dsimp only at hSw)
            obtain ⟨q0_, q1_, q2_, q3_, q4_, q5_⟩ := hSw
            go_simp
            try with_reducible rfl
          try simp only [Act.put, List.setIfInBounds_toArray, List.set_cons_zero, List.set_cons_succ]
          refine wpAnyH_take (i := 5) (v := ?_) (by simp only [List.getElem?_toArray, List.getElem?_cons_zero, List.getElem?_cons_succ]; rfl) (by kernel_rfl) (by kernel_rfl) (by kernel_rfl) (fun _ _ _ h => h) (Or.inl ⟨by rfl, ?_⟩) HSD.out ?_
          rotate_left
          · intro w hSw
            (try dsimp only at hSw)
            obtain ⟨q0_, q1_, q2_, q3_, q4_, q5_⟩ := hSw
            go_simp
            try with_reducible rfl
          try simp only [Act.put, List.setIfInBounds_toArray, List.set_cons_zero, List.set_cons_succ]
          refine wpAnyH_ready (rs := [6]) (by kernel_rfl) (by simp) ?_
          refine AllReadyH.cons (by simp only [List.getElem?_toArray, List.getElem?_cons_zero, List.getElem?_cons_succ]; rfl) (fun K hK => ?_) AllReadyH.nil
          go_simp
          refine (HVAL.out _ HYD.out).mono ?_
          rintro e s1 ⟨rfl, b1_⟩
          have HD1 := Lib.hid (ext_trans HYD.out b1_)
          have HS1 := Lib.hid (keep6w HSD.out b1_)
          clear b1_
          refine hK.out _ _ HS1.out (fun _ => ?_)
          clear hK K
          try simp only [Act.put, List.setIfInBounds_toArray, List.set_cons_zero, List.set_cons_succ]
          refine wpAnyH_ready (rs := [7]) (by kernel_rfl) (by simp) ?_
          refine AllReadyH.cons (by simp only [List.getElem?_toArray, List.getElem?_cons_zero, List.getElem?_cons_succ]; rfl) (fun K hK => ?_) AllReadyH.nil
          go_simp
          refine (HAND.out _).mono ?_
          rintro e s2 ⟨rfl, b2_⟩
          have HD2 := Lib.hid (ext_trans HD1.out b2_)
          have HS2 := Lib.hid (keep6w HS1.out b2_)
          clear b2_
          have d1 := HS2.out.2.2.2.2.1
          have d2 := HS2.out.2.2.2.2.2
          have d3 := unfrozen_of_block (heap_below HONE.out HD2.out) 0
          have d4 := unfrozen_of_block (heap_below HONE.out HD2.out) 1
          refine hK.out _ _ HS2.out (fun _ => ?_)
          clear hK K
          try simp only [Act.put, List.setIfInBounds_toArray, List.set_cons_zero, List.set_cons_succ]
          refine wpAnyH_done (by kernel_rfl) ?_ _
          unfold LastQ wpOp
          simp only [List.getElem?_toArray, List.getElem?_cons_zero, List.getElem?_cons_succ]
          rw [if_pos (by rfl)]
          refine Or.inl ?_
          go_simp
          refine Calm.normal ?_
          clear HCA HS0 HSD HS1 HS2 d1 d2 d3 d4 hcx
          gi_wp2
          go_roundw
          case rel =>
            have hbs := box2_step (B := W2.heap.size) (g := g1) (T := 27) (.int .u64 (r1 : Int)) (.int .u64 (r2 : Int)) HD2.out HLOW.out.size (by have := hg.out; have := HW1.out; omega)
            have hbo := two_set (heap_below HONE.out HD2.out) rfl (.int .u64 (r1 : Int)) (.int .u64 (r2 : Int))
            refine ⟨j + 1, by omega, by go_num, ?_, hkp.out.trans hbs.1, hkf.out.trans hbs.2⟩
            rw [HNEXT.out.1]
            exact ⟨hbo, HNEXT.out.2⟩
          case measure => simp [intOf]; omega
        · obtain rfl : s.n5 = j := by omega
          rw [List.take_of_length_le (by rw [hn5.out]; exact Nat.le_refl _)] at hone
          have hlow : Below w.heap.size w wr := HV.out.low.trans hkp.out.low
          have hne0 : w.heap.size ≠ g1 := by have := hg.out; have := HLT.out; omega
          have hne1 : w.heap.size + 1 ≠ g1 := by have := hg.out; have := HLT.out; omega
          have hne2 : w.heap.size + 1 + 1 ≠ g1 := by have := hg.out; have := HLT.out; omega
          have hk4 := hkp.out.mid _ _ _ _ HV.out.kind (by decide) hne0 hne0
          have hx4 := hkp.out.mid _ _ _ _ HV.out.cir (by decide) hne1 hne1
          have hy4 := hkp.out.mid _ _ _ _ HV.out.bad (by decide) hne2 hne2
          have hz4 := hkp.out.mid _ _ _ _ HV.out.two (by decide) (fun e => hg.out.2.2 e.symm) (fun e => hg.out.2.2 e.symm)
          have hlen4 : c.bads.length = s.n4 := HC.out.s4.lenMap
          have hltb : bad < s.n4 := by rw [← hlen4]; exact HBAD.out
          obtain ⟨cb, off, hca, _⟩ := HC.out.s4.addr (show 0 < s.n4 by omega)
          have hsx := HC.out.s4.below hlow
          rw [hca] at hsx
          have hcx := hsx.num bad hltb
          have hlit := hbadl.out
          obtain ⟨x, hx⟩ : ∃ x, x = c.bads.getD bad 0 := ⟨_, rfl⟩
          rw [← hx] at hcx hlit
          obtain ⟨na, hna⟩ : ∃ na, na = kw.val VS x := ⟨_, rfl⟩
          have HVAL : Hid (∀ W', Below wr.heap.size wr W' → Calls Try.prog 89 #[.agg #[.int .u64 18446744073709551615, .int .u64 0, .func (.func 86) #[] #[], .func (.func 87) #[] #[]], .slice (some ⟨va, 0, none⟩) NV vc, .int .u32 (x : Int)] W' fun e w' => e = .returned (.agg #[.int .u64 (na.1 : Nat), .int .u64 (na.2 : Nat)]) ∧ Below W'.heap.size W' w') := fun W' hb => by
            rw [hna]; exact valuew_any VS _ va NV vc x W' ((HROW.out.kpt hkp.out (by decide) HVA1.out.1 HVA1.out.1).below hb) HVIN.out hlit.1 hlit.2
          have HNA : Hid (kw.val VS (c.bads.getD bad 0) = na ∧ na.in) := ⟨by rw [hna, hx], by rw [hna]; exact valw_in HVIN.out _⟩
          obtain ⟨y1, y2⟩ := na
          simp only at HVAL
          have p0 : wr.cell? ⟨w.heap.size, 0, none⟩ = some (.int .u64 18446744073709551615) := cell_of_block hk4 0
          have p1 : wr.cell? ⟨w.heap.size, 1, none⟩ = some (.int .u64 0) := cell_of_block hk4 1
          have p2 : wr.cell? ⟨w.heap.size, 2, none⟩ = some (.func (.func 86) #[] #[]) := cell_of_block hk4 2
          have p3 : wr.cell? ⟨w.heap.size, 3, none⟩ = some (.func (.func 87) #[] #[]) := cell_of_block hk4 3
          have q4 : wr.cell? ⟨w.heap.size + 1, 4, none⟩ = some (.slice (some ⟨cb, off, none⟩) s.n4 s.c4) := by rw [← hca]; exact cell_of_block hx4 4
          have y0 : wr.cell? ⟨w.heap.size + 1 + 1, 0, none⟩ = some (.int .i64 (bad : Int)) := cell_of_block hy4 0
          have HLOW := Lib.hid hlow
          have HZ4 := Lib.hid hz4
          have HS0 := Lib.hid (And.intro p0 (And.intro p1 (And.intro p2 (And.intro p3 (And.intro q4 (And.intro y0 hcx))))))
          have hbi : ((bad : Nat) : Int) < (s.n4 : Int) := by omega
          have hbi2 : (0 : Int) ≤ (bad : Int) := by omega
          clear hna hlit hsx hx hk4 hlow hca hx4 hy4 hz4 hne0 hne1 hne2 hlen4 hltb p0 p1 p2 p3 q4 y0 hcx
          gi_upto_region 9 with fail
          have HSD := Lib.hid (keep7w HS0.out ((Below.refl _ wr).drew))
          have HYD := Lib.hid ((Below.refl wr.heap.size wr).drew)
          refine wpIn_region_peelN (S := fun w' => w'.cell? ⟨w.heap.size, 0, none⟩ = some (.int .u64 18446744073709551615) ∧ w'.cell? ⟨w.heap.size, 1, none⟩ = some (.int .u64 0) ∧ w'.cell? ⟨w.heap.size, 2, none⟩ = some (.func (.func 86) #[] #[]) ∧ w'.cell? ⟨w.heap.size, 3, none⟩ = some (.func (.func 87) #[] #[]) ∧ w'.cell? ⟨w.heap.size + 1, 4, none⟩ = some (.slice (some ⟨cb, off, none⟩) s.n4 s.c4) ∧ w'.cell? ⟨w.heap.size + 1 + 1, 0, none⟩ = some (.int .i64 (bad : Int)) ∧ w'.cell? ⟨cb, off + bad, none⟩ = some (.int .u32 (x : Int))) 8 (by kernel_rfl) (by kernel_rfl) rfl (by simp only [List.getElem?_toArray, List.getElem?_cons_zero, List.getElem?_cons_succ]; rfl) (by kernel_rfl) ?_
          simp only [List.pop_toArray, List.dropLast_cons_cons, List.dropLast_singleton]
          refine wpAnyH_take (i := 0) (v := ?_) (by simp only [List.getElem?_toArray, List.getElem?_cons_zero]; rfl) (by kernel_rfl) (by kernel_rfl) (by kernel_rfl) (fun _ _ _ h => h) (Or.inl ⟨by rfl, ?_⟩) HSD.out ?_
          rotate_left
          · intro w hSw
            (try dsimp only at hSw)
            obtain ⟨q0_, q1_, q2_, q3_, q4_, q5_, q6_⟩ := hSw
            go_simp
            try with_reducible rfl
          try simp only [Act.put, List.setIfInBounds_toArray, List.set_cons_zero, List.set_cons_succ]
          refine wpAnyH_take (i := 1) (v := ?_) (by simp only [List.getElem?_toArray, List.getElem?_cons_zero, List.getElem?_cons_succ]; rfl) (by kernel_rfl) (by kernel_rfl) (by kernel_rfl) (fun _ _ _ h => h) (Or.inl ⟨by rfl, ?_⟩) HSD.out ?_
          rotate_left
          · intro w hSw
            (try dsimp only at hSw)
            obtain ⟨q0_, q1_, q2_, q3_, q4_, q5_, q6_⟩ := hSw
            go_simp
            try with_reducible rfl
          try simp only [Act.put, List.setIfInBounds_toArray, List.set_cons_zero, List.set_cons_succ]
          refine wpAnyH_take (i := 2) (v := ?_) (by simp only [List.getElem?_toArray, List.getElem?_cons_zero, List.getElem?_cons_succ]; rfl) (by kernel_rfl) (by kernel_rfl) (by kernel_rfl) (fun _ _ _ h => h) (Or.inl ⟨by rfl, ?_⟩) HSD.out ?_
          rotate_left
          · intro w hSw
            (try dsimp only at hSw)
            obtain ⟨q0_, q1_, q2_, q3_, q4_, q5_, q6_⟩ := hSw
            go_simp
            try with_reducible rfl
          try simp only [Act.put, List.setIfInBounds_toArray, List.set_cons_zero, List.set_cons_succ]
          refine wpAnyH_take (i := 3) (v := ?_) (by simp only [List.getElem?_toArray, List.getElem?_cons_zero, List.getElem?_cons_succ]; rfl) (by kernel_rfl) (by kernel_rfl) (by kernel_rfl) (fun _ _ _ h => h) (Or.inl ⟨by rfl, ?_⟩) HSD.out ?_
          rotate_left
          · intro w hSw
            (try dsimp only at hSw)
            obtain ⟨q0_, q1_, q2_, q3_, q4_, q5_, q6_⟩ := hSw
            go_simp
            try with_reducible rfl
          try simp only [Act.put, List.setIfInBounds_toArray, List.set_cons_zero, List.set_cons_succ]
          refine wpAnyH_take (i := 4) (v := ?_) (by simp only [List.getElem?_toArray, List.getElem?_cons_zero, List.getElem?_cons_succ]; rfl) (by kernel_rfl) (by kernel_rfl) (by kernel_rfl) (fun _ _ _ h => h) (Or.inl ⟨by rfl, ?_⟩) HSD.out ?_
          rotate_left
          · intro w hSw
            (try dsimp only at hSw)
            obtain ⟨q0_, q1_, q2_, q3_, q4_, q5_, q6_⟩ := hSw
            go_simp
            try with_reducible rfl
          try simp only [Act.put, List.setIfInBounds_toArray, List.set_cons_zero, List.set_cons_succ]
          refine wpAnyH_take (i := 5) (v := ?_) (by simp only [List.getElem?_toArray, List.getElem?_cons_zero, List.getElem?_cons_succ]; rfl) (by kernel_rfl) (by kernel_rfl) (by kernel_rfl) (fun _ _ _ h => h) (Or.inl ⟨by rfl, ?_⟩) HSD.out ?_
          rotate_left
          · intro w hSw
            (try dsimp only at hSw)
            obtain ⟨q0_, q1_, q2_, q3_, q4_, q5_, q6_⟩ := hSw
            go_simp
            try with_reducible rfl
          try simp only [Act.put, List.setIfInBounds_toArray, List.set_cons_zero, List.set_cons_succ]
          refine wpAnyH_take (i := 6) (v := ?_) (by simp only [List.getElem?_toArray, List.getElem?_cons_zero, List.getElem?_cons_succ]; rfl) (by kernel_rfl) (by kernel_rfl) (by kernel_rfl) (fun _ _ _ h => h) (Or.inl ⟨by rfl, ?_⟩) HSD.out ?_
          rotate_left
          · intro w hSw
            (try dsimp only at hSw)
            obtain ⟨q0_, q1_, q2_, q3_, q4_, q5_, q6_⟩ := hSw
            go_simp
            try with_reducible rfl
          try simp only [Act.put, List.setIfInBounds_toArray, List.set_cons_zero, List.set_cons_succ]
          refine wpAnyH_ready (rs := [7]) (by kernel_rfl) (by simp) ?_
          refine AllReadyH.cons (by simp only [List.getElem?_toArray, List.getElem?_cons_zero, List.getElem?_cons_succ]; rfl) (fun K hK => ?_) AllReadyH.nil
          go_simp
          refine (HVAL.out _ HYD.out).mono ?_
          rintro e s1 ⟨rfl, b1_⟩
          have HD1 := Lib.hid (ext_trans HYD.out b1_)
          have HS1 := Lib.hid (keep7w HSD.out b1_)
          have d1 := cell_of_block (heap_below HZ4.out HD1.out) 0
          have d2 := cell_of_block (heap_below HZ4.out HD1.out) 1
          have d3 := unfrozen_of_block (heap_below HZ4.out HD1.out) 0
          have d4 := unfrozen_of_block (heap_below HZ4.out HD1.out) 1
          clear b1_
          refine hK.out _ _ HS1.out (fun _ => ?_)
          clear hK K
          try simp only [Act.put, List.setIfInBounds_toArray, List.set_cons_zero, List.set_cons_succ]
          refine wpAnyH_done (by kernel_rfl) ?_ _
          unfold LastQ wpOp
          simp only [List.getElem?_toArray, List.getElem?_cons_zero, List.getElem?_cons_succ]
          rw [if_pos (by rfl)]
          refine Or.inl ?_
          go_simp
          refine Calm.normal ?_
          gi_wp2
          have hbs := box2_step (B := W2.heap.size) (g := g2) (T := 27) (.int .u64 (y1 : Int)) (.int .u64 (y2 : Int)) HD1.out HLOW.out.size (by have := hg.out; have := HW1.out; omega)
          have hKP : Kpt w.heap.size 27 g1 g2 W ((s1.setCell ⟨g2, 0, none⟩ (.int .u64 (y1 : Int))).setCell ⟨g2, 1, none⟩ (.int .u64 (y2 : Int))) := (Kpt.weaken hkp.out).1.trans (Kpt.weaken hbs.1).2
          have h1 := heap_below hone.out.1 HD1.out
          refine ⟨hkf.out.trans hbs.2, hKP, (kw.cons VS p.1 c.cons, kw.val VS (c.bads.getD bad 0)), ?_, ⟨hone.out.2, by rw [HNA.out.1]; exact HNA.out.2⟩, ?_, ?_, ?_, ?_, ?_, ?_, HV.out.low.trans hKP.low⟩
          · rw [runW_take c ts n ni mi nf k hkN, Kd.sum_snoc, ← HV.out.sum, ← HVS.out]
          · exact (two_other g2 g1 hg.out.2.2 _ _).trans h1
          · rw [HNA.out.1]; exact two_set (heap_below HZ4.out HD1.out) rfl _ _
          · exact hKP.mid _ _ _ _ HV.out.kind (by decide) (by have := hg.out; have := HLT.out; omega) (by have := hg.out; have := HLT.out; omega)
          · exact hKP.mid _ _ _ _ HV.out.cir (by decide) (by have := hg.out; have := HLT.out; omega) (by have := hg.out; have := HLT.out; omega)
          · exact hKP.mid _ _ _ _ HV.out.bad (by decide) (by have := hg.out; have := HLT.out; omega) (by have := hg.out; have := HLT.out; omega)
          · exact hKP.mid _ _ _ _ HV.out.res (by decide) (by have := hg.out; have := HLT.out; omega) (by have := hg.out; have := HLT.out; omega)
    case done =>
      rintro D W hDle ⟨p, hV⟩ hD
      have hsum := hV.sum
      rw [List.take_of_length_le (by rw [insAll_len]; exact Nat.le_refl _)] at hsum
      have p0 : W.cell? ⟨w.heap.size, 3, none⟩ = some (.func (.func 87) #[] #[]) := cell_of_block hV.kind 3
      have HV := Lib.hid hV
      have HD := Lib.hid hD
      clear hD hV
      obtain ⟨A, B⟩ := p
      have hone := HV.out.one
      have htwo := HV.out.two
      simp only at hone htwo
      obtain ⟨R, hR⟩ : ∃ R, R = kw.an A B := ⟨_, rfl⟩
      have HRES : Hid (R = kw.verdict c bad (initW ts n ni) (insAll ts n mi nf)) := by
        show _ = _
        rw [hR]
        unfold Kd.verdict
        rw [← hsum]
      have HAND : Hid (∀ W', Calls Try.prog 87 #[.agg #[.int .u64 (A.1 : Nat), .int .u64 (A.2 : Nat)], .agg #[.int .u64 (B.1 : Nat), .int .u64 (B.2 : Nat)]] W' fun e w' => e = .returned (.agg #[.int .u64 (R.1 : Nat), .int .u64 (R.2 : Nat)]) ∧ Below W'.heap.size W' w') := fun W' => by
        rw [hR]; exact tand_any A B HV.out.pin.1 HV.out.pin.2 W'
      have hres := HV.out.res
      have hlow := HV.out.low
      have HRS := Lib.hid hres
      have HLOW := Lib.hid hlow
      clear hR hsum HV hres hlow
      obtain ⟨x1, x2⟩ := A
      obtain ⟨y1, y2⟩ := B
      obtain ⟨r1, r2⟩ := R
      simp only at hone htwo HAND
      have o1 : W.cell? ⟨g1, 0, none⟩ = some (.int .u64 (x1 : Int)) := cell_of_block hone 0
      have o2 : W.cell? ⟨g1, 1, none⟩ = some (.int .u64 (x2 : Int)) := cell_of_block hone 1
      have o3 : W.cell? ⟨g2, 0, none⟩ = some (.int .u64 (y1 : Int)) := cell_of_block htwo 0
      have o4 : W.cell? ⟨g2, 1, none⟩ = some (.int .u64 (y2 : Int)) := cell_of_block htwo 1
      clear hone htwo
      gi_wp2_with fail
      refine ⟨trivial, rfl, ?_⟩
      refine (callsIn_wide.2 (HAND.out _)).mono ?_
      rintro e W5 ⟨rfl, hb⟩
      have HRS5 := Lib.hid (heap_below HRS.out hb)
      have HD5 := Lib.hid (heap_below HD.out hb)
      have HLOW5 := Lib.hid (ext_trans HLOW.out hb)
      have z0 := cell_of_block HRS5.out 0
      have z1 := cell_of_block HRS5.out 1
      have z2 := unfrozen_of_block HRS5.out 0
      have z3 := unfrozen_of_block HRS5.out 1
      clear o1 o2 o3 o4 p0 hb
      gi_wp2
      have hset := two_set HRS5.out rfl (.int .u64 (r1 : Int)) (.int .u64 (r2 : Int))
      have hDne : D ≠ w.heap.size + 1 + 1 + 1 + 1 := by
        have h1 := HLT.out
        have h2 := HW2.out
        have h3 := HGL1.out
        have h4 := hg.out
        omega
      have hD6 := (two_other (X := W5) (w.heap.size + 1 + 1 + 1 + 1) D hDne (.int .u64 (r1 : Int)) (.int .u64 (r2 : Int))).trans HD5.out
      have hbel := two_below (u0 := .int .u64 (r1 : Int)) (u1 := .int .u64 (r2 : Int)) (w.heap.size + 1 + 1 + 1 + 1) (by omega) HLOW5.out
      refine ⟨by simp, .inl ⟨_, _, rfl, run_takeDeferred hD6, ?_⟩⟩
      refine ⟨wv (r1, r2), ?_, ?_, ?_⟩
      · have hput : ((W5.setCell ⟨w.heap.size + 1 + 1 + 1 + 1, 0, none⟩ (.int .u64 (r1 : Int))).setCell ⟨w.heap.size + 1 + 1 + 1 + 1, 1, none⟩ (.int .u64 (r2 : Int))).heap[w.heap.size + 1 + 1 + 1 + 1]? = some (.cells #[.int .u64 (r1 : Int), .int .u64 (r2 : Int)] 106 (0, 0)) := hset
        have hp2 := (World.putObj_heap_other (o := .deferred none) hDne.symm).trans hput
        have gg0 := cell_of_block hp2 0
        have gg1 := cell_of_block hp2 1
        simp [results, Try.results76, go_sem, gg0, gg1]
        rfl
      · rw [← HRES.out]
      · exact hbel.grown (grownBy_putObj' _ _ _) hbel.size (fun k e => by cases e; exact Nat.le_trans HB3.out.size hDle)
end Go.Proofs.Ytjmdgbdlhaaefaa
/- A region of sim.sure, in whatever order. -/
namespace Go.Proofs.Ytjmdgbdlhaaefaa
open Go Go.RowKit Go.Joins

noncomputable def codeSWSureR : Code := ((Try.f52.body.bind (findRegion 3)).getD .skip)
set_option maxRecDepth 100000 in
set_option maxHeartbeats 25600000 in
theorem reg_SWSureR (P b n cc ni nf bad vr1 vr2 : Nat) (ci : Int) (s : CSlots) (X0 : World)
    (HELDB : Hid (∀ W, Below X0.heap.size X0 W → (W.cell? ⟨P, 0, none⟩ = some (.int .i64 ci) ∧ W.cell? ⟨P, 1, none⟩ = some (.slice s.a1 s.n1 s.c1) ∧ W.cell? ⟨P, 2, none⟩ = some (.slice s.a2 s.n2 s.c2) ∧ W.cell? ⟨P, 3, none⟩ = some (.slice s.a3 s.n3 s.c3) ∧ W.cell? ⟨P, 4, none⟩ = some (.slice s.a4 s.n4 s.c4) ∧ W.cell? ⟨P, 5, none⟩ = some (.slice s.a5 s.n5 s.c5) ∧ W.cell? ⟨b, 0, none⟩ = some (.int .i64 (bad : Int)))))
    (hn : 0 < n) (TOG : World → Nat → Nat → Prop) (HTB : Hid (∀ W W' l g, TOG W l g → Below W.heap.size W W' → TOG W' l g))
    (E0 : Hid (∀ W, Calls Try.prog 75 #[] W fun e w' => e = .returned (.agg #[.int .u64 18446744073709551615, .int .u64 0, .func (.func 86) #[] #[], .func (.func 87) #[] #[]]) ∧ Below W.heap.size W w'))
    (E7 : Hid (∀ W, Below X0.heap.size X0 W → Calls Try.prog 77 #[.slice (some ⟨b, 0, none⟩) n cc] W fun e w' => ∃ g, e = .returned (.agg #[.slice (some ⟨g, 0, none⟩) ni ni, .int .i64 (nf : Int), .func (.func 92) #[] #[.pointer (some ⟨W.heap.size, 0, none⟩)]]) ∧ TOG w' W.heap.size g ∧ Below W.heap.size W w'))
    (E8 : Hid (∀ W l g, Below X0.heap.size X0 W → TOG W l g → Calls Try.prog 76 #[.agg #[.int .u64 18446744073709551615, .int .u64 0, .func (.func 86) #[] #[], .func (.func 87) #[] #[]], .agg #[.int .i64 ci, .slice s.a1 s.n1 s.c1, .slice s.a2 s.n2 s.c2, .slice s.a3 s.n3 s.c3, .slice s.a4 s.n4 s.c4, .slice s.a5 s.n5 s.c5], .int .i64 (bad : Int), .agg #[.slice (some ⟨g, 0, none⟩) ni ni, .int .i64 (nf : Int), .func (.func 92) #[] #[.pointer (some ⟨l, 0, none⟩)]]] W fun e w' => e = .returned (.agg #[.int .u64 (vr1 : Int), .int .u64 (vr2 : Int)]) ∧ Below W.heap.size W w'))
    (QQ : Exit → Act → World → Prop)
    {v0 v3 v4 v5 v6 v7 v8 v9 v10 v11 v12 v13 v14 v15 v16 v17 v18 v19 v20 v21 v22 v23 v24 v25 v26 v27 : Value}
    (hK : ∀ (G : Nat) (wx : World) (u9 u10 u11 u12 u13 u14 u15 u16 u17 : Value), X0.heap.size ≤ G → wx.heap[G]? = some (.cells #[.int .u64 (vr1 : Int), .int .u64 (vr2 : Int)] 106 (0, 0)) → Below X0.heap.size X0 wx → QQ .normal ⟨#[v0, .slice (some ⟨b, 0, none⟩) n cc, .pointer (some ⟨P, 0, .none⟩), v3, v4, .pointer (some ⟨G, 0, .none⟩), v6, v7, v8, u9, u10, u11, u12, u13, u14, u15, 
      u16, u17, v18, v19, v20, v21, v22, v23, v24, v25, v26, v27], []⟩ wx) :
    Code.wp Try.prog codeSWSureR QQ ⟨#[v0, .slice (some ⟨b, 0, none⟩) n cc, .pointer (some ⟨P, 0, .none⟩), v3, v4, v5, v6, v7, v8, v9, v10, v11, v12, v13, v14, v15, v16, v17, v18, v19, v20, 
      v21, v22, v23, v24, v25, v26, v27], []⟩ X0 := by
  have hn0 : (0 : Int) < (n : Int) := by omega
  conv => arg 2; whnf
  refine wp_region_noPanic ?_
  refine wp_region_held (S := fun w' => w'.cell? ⟨P, 0, none⟩ = some (.int .i64 ci) ∧ w'.cell? ⟨P, 1, none⟩ = some (.slice s.a1 s.n1 s.c1) ∧ w'.cell? ⟨P, 2, none⟩ = some (.slice s.a2 s.n2 s.c2) ∧ w'.cell? ⟨P, 3, none⟩ = some (.slice s.a3 s.n3 s.c3) ∧ w'.cell? ⟨P, 4, none⟩ = some (.slice s.a4 s.n4 s.c4) ∧ w'.cell? ⟨P, 5, none⟩ = some (.slice s.a5 s.n5 s.c5) ∧ w'.cell? ⟨b, 0, none⟩ = some (.int .i64 (bad : Int))) (by kernel_rfl) ?_
  generalize hY : ({ X0 with drawn := X0.drawn + 1 } : World) = Y0
  have hY0 : Below X0.heap.size X0 Y0 := by subst hY; exact (Below.refl _ _).drew
  have HELD := Lib.hid (HELDB.out Y0 hY0)
  have HBc := Lib.hid hY0
  clear hY hY0
  refine wpAnyH_take (i := 1) (v := ?_) (by simp only [List.getElem?_toArray, List.getElem?_cons_zero, List.getElem?_cons_succ]; rfl) (by kernel_rfl) (by kernel_rfl) (by kernel_rfl) (fun _ _ _ h => h) (Or.inl ⟨by rfl, ?_⟩) HELD.out ?_
  rotate_left
  · intro w hSw
    (try dsimp only at hSw)
    obtain ⟨q0, q1, q2, q3, q4, q5, q6⟩ := hSw
    go_simp
    try with_reducible rfl
  try simp only [Act.put, List.setIfInBounds_toArray, List.set_cons_zero, List.set_cons_succ]
  refine wpAnyH_take (i := 2) (v := ?_) (by simp only [List.getElem?_toArray, List.getElem?_cons_zero, List.getElem?_cons_succ]; rfl) (by kernel_rfl) (by kernel_rfl) (by kernel_rfl) (fun _ _ _ h => h) (Or.inl ⟨by rfl, ?_⟩) HELD.out ?_
  rotate_left
  · intro w hSw
    (try dsimp only at hSw)
    obtain ⟨q0, q1, q2, q3, q4, q5, q6⟩ := hSw
    go_simp
    try with_reducible rfl
  try simp only [Act.put, List.setIfInBounds_toArray, List.set_cons_zero, List.set_cons_succ]
  refine wpAnyH_take (i := 3) (v := ?_) (by simp only [List.getElem?_toArray, List.getElem?_cons_zero, List.getElem?_cons_succ]; rfl) (by kernel_rfl) (by kernel_rfl) (by kernel_rfl) (fun _ _ _ h => h) (Or.inl ⟨by rfl, ?_⟩) HELD.out ?_
  rotate_left
  · intro w hSw
    (try dsimp only at hSw)
    obtain ⟨q0, q1, q2, q3, q4, q5, q6⟩ := hSw
    go_simp
    try with_reducible rfl
  try simp only [Act.put, List.setIfInBounds_toArray, List.set_cons_zero, List.set_cons_succ]
  refine wpAnyH_take (i := 4) (v := ?_) (by simp only [List.getElem?_toArray, List.getElem?_cons_zero, List.getElem?_cons_succ]; rfl) (by kernel_rfl) (by kernel_rfl) (by kernel_rfl) (fun _ _ _ h => h) (Or.inl ⟨by rfl, ?_⟩) HELD.out ?_
  rotate_left
  · intro w hSw
    (try dsimp only at hSw)
    obtain ⟨q0, q1, q2, q3, q4, q5, q6⟩ := hSw
    go_simp
    try with_reducible rfl
  try simp only [Act.put, List.setIfInBounds_toArray, List.set_cons_zero, List.set_cons_succ]
  refine wpAnyH_take (i := 5) (v := ?_) (by simp only [List.getElem?_toArray, List.getElem?_cons_zero, List.getElem?_cons_succ]; rfl) (by kernel_rfl) (by kernel_rfl) (by kernel_rfl) (fun _ _ _ h => h) (Or.inl ⟨by rfl, ?_⟩) HELD.out ?_
  rotate_left
  · intro w hSw
    (try dsimp only at hSw)
    obtain ⟨q0, q1, q2, q3, q4, q5, q6⟩ := hSw
    go_simp
    try with_reducible rfl
  try simp only [Act.put, List.setIfInBounds_toArray, List.set_cons_zero, List.set_cons_succ]
  refine wpAnyH_take (i := 6) (v := ?_) (by simp only [List.getElem?_toArray, List.getElem?_cons_zero, List.getElem?_cons_succ]; rfl) (by kernel_rfl) (by kernel_rfl) (by kernel_rfl) (fun _ _ _ h => h) (Or.inl ⟨by rfl, ?_⟩) HELD.out ?_
  rotate_left
  · intro w hSw
    (try dsimp only at hSw)
    obtain ⟨q0, q1, q2, q3, q4, q5, q6⟩ := hSw
    go_simp
    try with_reducible rfl
  try simp only [Act.put, List.setIfInBounds_toArray, List.set_cons_zero, List.set_cons_succ]
  refine wpAnyH_ready (rs := [0, 9]) (by kernel_rfl) (by simp) ?_
  refine AllReadyH.cons (by simp only [List.getElem?_toArray, List.getElem?_cons_zero]; rfl) (fun K hK => ?_) (AllReadyH.cons (by simp only [List.getElem?_toArray, List.getElem?_cons_zero, List.getElem?_cons_succ]; rfl) (fun K hK => ?_) AllReadyH.nil)
  · go_simp
    refine (E0.out _).mono ?_
    rintro e V1 ⟨rfl, hb⟩
    have HBc := Lib.hid (ext_trans HBc.out hb)
    have HELD := Lib.hid (HELDB.out V1 HBc.out)
    clear hb
    refine hK.out _ _ HELD.out (fun _ => ?_)
    clear hK K
    try simp only [Act.put, List.setIfInBounds_toArray, List.set_cons_zero, List.set_cons_succ]
    refine wpAnyH_ready (rs := [7, 9]) (by kernel_rfl) (by simp) ?_
    refine AllReadyH.cons (by simp only [List.getElem?_toArray, List.getElem?_cons_zero, List.getElem?_cons_succ]; rfl) (fun K hK => ?_) (AllReadyH.cons (by simp only [List.getElem?_toArray, List.getElem?_cons_zero, List.getElem?_cons_succ]; rfl) (fun K hK => ?_) AllReadyH.nil)
    · go_simp
      refine (E7.out _ HBc.out).mono ?_
      rintro e V2 ⟨gt, rfl, ht, hb⟩
      have HTG := Lib.hid ht
      obtain ⟨lt_, hlt_⟩ : ∃ x, x = V1.heap.size := ⟨_, rfl⟩
      rw [← hlt_] at HTG ⊢
      clear hlt_
      have HBc := Lib.hid (ext_trans HBc.out hb)
      have HELD := Lib.hid (HELDB.out V2 HBc.out)
      clear hb ht
      refine hK.out _ _ HELD.out (fun _ => ?_)
      clear hK K
      try simp only [Act.put, List.setIfInBounds_toArray, List.set_cons_zero, List.set_cons_succ]
      refine wpAnyH_ready (rs := [8, 9]) (by kernel_rfl) (by simp) ?_
      refine AllReadyH.cons (by simp only [List.getElem?_toArray, List.getElem?_cons_zero, List.getElem?_cons_succ]; rfl) (fun K hK => ?_) (AllReadyH.cons (by simp only [List.getElem?_toArray, List.getElem?_cons_zero, List.getElem?_cons_succ]; rfl) (fun K hK => ?_) AllReadyH.nil)
      · go_simp
        refine (E8.out _ _ _ HBc.out HTG.out).mono ?_
        rintro e V3 ⟨rfl, hb⟩
        have HBc := Lib.hid (ext_trans HBc.out hb)
        have HELD := Lib.hid (HELDB.out V3 HBc.out)
        clear hb HTG
        refine hK.out _ _ HELD.out (fun _ => ?_)
        clear hK K
        try simp only [Act.put, List.setIfInBounds_toArray, List.set_cons_zero, List.set_cons_succ]
        refine wpAnyH_ready (rs := [9]) (by kernel_rfl) (by simp) ?_
        refine AllReadyH.cons (by simp only [List.getElem?_toArray, List.getElem?_cons_zero, List.getElem?_cons_succ]; rfl) (fun K hK => ?_) AllReadyH.nil
        go_simp
        generalize hV : World.alloc V3 _ = V4
        have hb : Below V3.heap.size V3 V4 := by subst hV; exact ext_alloc _ _
        have HZ : Hid (V4.heap[V3.heap.size]? = some (.cells #[.int .u64 0, .int .u64 0] 106 (0, 0))) := by show _ = _; subst hV; exact heap_new _ _ _ rfl
        have HG := Lib.hid HBc.out.size
        have HBc := Lib.hid (ext_trans HBc.out hb)
        have HELD := Lib.hid (HELDB.out V4 HBc.out)
        clear hV hb
        refine hK.out _ _ HELD.out (fun _ => ?_)
        clear hK K
        try simp only [Act.put, List.setIfInBounds_toArray, List.set_cons_zero, List.set_cons_succ]
        refine wpAnyH_ready (rs := [10]) (by kernel_rfl) (by simp) ?_
        refine AllReadyH.cons (by simp only [List.getElem?_toArray, List.getElem?_cons_zero, List.getElem?_cons_succ]; rfl) (fun K hK => ?_) AllReadyH.nil
        have z0 := cell_of_block HZ.out 0
        have z1 := cell_of_block HZ.out 1
        have y0 := unfrozen_of_block HZ.out 0
        have y1 := unfrozen_of_block HZ.out 1
        go_simp
        clear z0 z1 y0 y1
        have hz1 := two_set HZ.out rfl (.int .u64 (vr1 : Int)) (.int .u64 (vr2 : Int))
        have hb6 := two_below (u0 := .int .u64 (vr1 : Int)) (u1 := .int .u64 (vr2 : Int)) (V3.heap.size) HG.out HBc.out
        have HELD := Lib.hid (HELDB.out _ hb6)
        generalize hV6 : World.setCell (World.setCell V4 _ _) _ _ = V5 at HELD hb6 hz1 ⊢
        clear hV6
        have HBc := Lib.hid hb6
        have HZ := Lib.hid hz1
        clear hb6 hz1
        refine hK.out _ _ HELD.out (fun _ => ?_)
        clear hK K
        try simp only [Act.put, List.setIfInBounds_toArray, List.set_cons_zero, List.set_cons_succ]
        refine wpAnyH_done (by kernel_rfl) ?_ _
        refine NoPanic.normal ?_
        exact hK _ _ _ _ _ _ _ _ _ _ _ HG.out HZ.out HBc.out
      · go_simp
        generalize hV : World.alloc V2 _ = V6
        have hb : Below V2.heap.size V2 V6 := by subst hV; exact ext_alloc _ _
        have HTG := Lib.hid (HTB.out _ _ _ _ HTG.out hb)
        have HZ : Hid (V6.heap[V2.heap.size]? = some (.cells #[.int .u64 0, .int .u64 0] 106 (0, 0))) := by show _ = _; subst hV; exact heap_new _ _ _ rfl
        have HG := Lib.hid HBc.out.size
        have HBc := Lib.hid (ext_trans HBc.out hb)
        have HELD := Lib.hid (HELDB.out V6 HBc.out)
        clear hV hb
        refine hK.out _ _ HELD.out (fun _ => ?_)
        clear hK K
        try simp only [Act.put, List.setIfInBounds_toArray, List.set_cons_zero, List.set_cons_succ]
        refine wpAnyH_ready (rs := [8]) (by kernel_rfl) (by simp) ?_
        refine AllReadyH.cons (by simp only [List.getElem?_toArray, List.getElem?_cons_zero, List.getElem?_cons_succ]; rfl) (fun K hK => ?_) AllReadyH.nil
        go_simp
        refine (E8.out _ _ _ HBc.out HTG.out).mono ?_
        rintro e V7 ⟨rfl, hb⟩
        have HZ := Lib.hid (heap_below HZ.out hb)
        have HBc := Lib.hid (ext_trans HBc.out hb)
        have HELD := Lib.hid (HELDB.out V7 HBc.out)
        clear hb HTG
        refine hK.out _ _ HELD.out (fun _ => ?_)
        clear hK K
        try simp only [Act.put, List.setIfInBounds_toArray, List.set_cons_zero, List.set_cons_succ]
        refine wpAnyH_ready (rs := [10]) (by kernel_rfl) (by simp) ?_
        refine AllReadyH.cons (by simp only [List.getElem?_toArray, List.getElem?_cons_zero, List.getElem?_cons_succ]; rfl) (fun K hK => ?_) AllReadyH.nil
        have z0 := cell_of_block HZ.out 0
        have z1 := cell_of_block HZ.out 1
        have y0 := unfrozen_of_block HZ.out 0
        have y1 := unfrozen_of_block HZ.out 1
        go_simp
        clear z0 z1 y0 y1
        have hz1 := two_set HZ.out rfl (.int .u64 (vr1 : Int)) (.int .u64 (vr2 : Int))
        have hb6 := two_below (u0 := .int .u64 (vr1 : Int)) (u1 := .int .u64 (vr2 : Int)) (V2.heap.size) HG.out HBc.out
        have HELD := Lib.hid (HELDB.out _ hb6)
        generalize hV6 : World.setCell (World.setCell V7 _ _) _ _ = V8 at HELD hb6 hz1 ⊢
        clear hV6
        have HBc := Lib.hid hb6
        have HZ := Lib.hid hz1
        clear hb6 hz1
        refine hK.out _ _ HELD.out (fun _ => ?_)
        clear hK K
        try simp only [Act.put, List.setIfInBounds_toArray, List.set_cons_zero, List.set_cons_succ]
        refine wpAnyH_done (by kernel_rfl) ?_ _
        refine NoPanic.normal ?_
        exact hK _ _ _ _ _ _ _ _ _ _ _ HG.out HZ.out HBc.out
    · go_simp
      generalize hV : World.alloc V1 _ = V9
      have hb : Below V1.heap.size V1 V9 := by subst hV; exact ext_alloc _ _
      have HZ : Hid (V9.heap[V1.heap.size]? = some (.cells #[.int .u64 0, .int .u64 0] 106 (0, 0))) := by show _ = _; subst hV; exact heap_new _ _ _ rfl
      have HG := Lib.hid HBc.out.size
      have HBc := Lib.hid (ext_trans HBc.out hb)
      have HELD := Lib.hid (HELDB.out V9 HBc.out)
      clear hV hb
      refine hK.out _ _ HELD.out (fun _ => ?_)
      clear hK K
      try simp only [Act.put, List.setIfInBounds_toArray, List.set_cons_zero, List.set_cons_succ]
      refine wpAnyH_ready (rs := [7]) (by kernel_rfl) (by simp) ?_
      refine AllReadyH.cons (by simp only [List.getElem?_toArray, List.getElem?_cons_zero, List.getElem?_cons_succ]; rfl) (fun K hK => ?_) AllReadyH.nil
      go_simp
      refine (E7.out _ HBc.out).mono ?_
      rintro e V10 ⟨gt, rfl, ht, hb⟩
      have HZ := Lib.hid (heap_below HZ.out hb)
      have HTG := Lib.hid ht
      obtain ⟨lt_, hlt_⟩ : ∃ x, x = V9.heap.size := ⟨_, rfl⟩
      rw [← hlt_] at HTG ⊢
      clear hlt_
      have HBc := Lib.hid (ext_trans HBc.out hb)
      have HELD := Lib.hid (HELDB.out V10 HBc.out)
      clear hb ht
      refine hK.out _ _ HELD.out (fun _ => ?_)
      clear hK K
      try simp only [Act.put, List.setIfInBounds_toArray, List.set_cons_zero, List.set_cons_succ]
      refine wpAnyH_ready (rs := [8]) (by kernel_rfl) (by simp) ?_
      refine AllReadyH.cons (by simp only [List.getElem?_toArray, List.getElem?_cons_zero, List.getElem?_cons_succ]; rfl) (fun K hK => ?_) AllReadyH.nil
      go_simp
      refine (E8.out _ _ _ HBc.out HTG.out).mono ?_
      rintro e V11 ⟨rfl, hb⟩
      have HZ := Lib.hid (heap_below HZ.out hb)
      have HBc := Lib.hid (ext_trans HBc.out hb)
      have HELD := Lib.hid (HELDB.out V11 HBc.out)
      clear hb HTG
      refine hK.out _ _ HELD.out (fun _ => ?_)
      clear hK K
      try simp only [Act.put, List.setIfInBounds_toArray, List.set_cons_zero, List.set_cons_succ]
      refine wpAnyH_ready (rs := [10]) (by kernel_rfl) (by simp) ?_
      refine AllReadyH.cons (by simp only [List.getElem?_toArray, List.getElem?_cons_zero, List.getElem?_cons_succ]; rfl) (fun K hK => ?_) AllReadyH.nil
      have z0 := cell_of_block HZ.out 0
      have z1 := cell_of_block HZ.out 1
      have y0 := unfrozen_of_block HZ.out 0
      have y1 := unfrozen_of_block HZ.out 1
      go_simp
      clear z0 z1 y0 y1
      have hz1 := two_set HZ.out rfl (.int .u64 (vr1 : Int)) (.int .u64 (vr2 : Int))
      have hb6 := two_below (u0 := .int .u64 (vr1 : Int)) (u1 := .int .u64 (vr2 : Int)) (V1.heap.size) HG.out HBc.out
      have HELD := Lib.hid (HELDB.out _ hb6)
      generalize hV6 : World.setCell (World.setCell V11 _ _) _ _ = V12 at HELD hb6 hz1 ⊢
      clear hV6
      have HBc := Lib.hid hb6
      have HZ := Lib.hid hz1
      clear hb6 hz1
      refine hK.out _ _ HELD.out (fun _ => ?_)
      clear hK K
      try simp only [Act.put, List.setIfInBounds_toArray, List.set_cons_zero, List.set_cons_succ]
      refine wpAnyH_done (by kernel_rfl) ?_ _
      refine NoPanic.normal ?_
      exact hK _ _ _ _ _ _ _ _ _ _ _ HG.out HZ.out HBc.out
  · go_simp
    generalize hV : World.alloc Y0 _ = V13
    have hb : Below Y0.heap.size Y0 V13 := by subst hV; exact ext_alloc _ _
    have HZ : Hid (V13.heap[Y0.heap.size]? = some (.cells #[.int .u64 0, .int .u64 0] 106 (0, 0))) := by show _ = _; subst hV; exact heap_new _ _ _ rfl
    have HG := Lib.hid HBc.out.size
    have HBc := Lib.hid (ext_trans HBc.out hb)
    have HELD := Lib.hid (HELDB.out V13 HBc.out)
    clear hV hb
    refine hK.out _ _ HELD.out (fun _ => ?_)
    clear hK K
    try simp only [Act.put, List.setIfInBounds_toArray, List.set_cons_zero, List.set_cons_succ]
    refine wpAnyH_ready (rs := [0]) (by kernel_rfl) (by simp) ?_
    refine AllReadyH.cons (by simp only [List.getElem?_toArray, List.getElem?_cons_zero]; rfl) (fun K hK => ?_) AllReadyH.nil
    go_simp
    refine (E0.out _).mono ?_
    rintro e V14 ⟨rfl, hb⟩
    have HZ := Lib.hid (heap_below HZ.out hb)
    have HBc := Lib.hid (ext_trans HBc.out hb)
    have HELD := Lib.hid (HELDB.out V14 HBc.out)
    clear hb
    refine hK.out _ _ HELD.out (fun _ => ?_)
    clear hK K
    try simp only [Act.put, List.setIfInBounds_toArray, List.set_cons_zero, List.set_cons_succ]
    refine wpAnyH_ready (rs := [7]) (by kernel_rfl) (by simp) ?_
    refine AllReadyH.cons (by simp only [List.getElem?_toArray, List.getElem?_cons_zero, List.getElem?_cons_succ]; rfl) (fun K hK => ?_) AllReadyH.nil
    go_simp
    refine (E7.out _ HBc.out).mono ?_
    rintro e V15 ⟨gt, rfl, ht, hb⟩
    have HZ := Lib.hid (heap_below HZ.out hb)
    have HTG := Lib.hid ht
    obtain ⟨lt_, hlt_⟩ : ∃ x, x = V14.heap.size := ⟨_, rfl⟩
    rw [← hlt_] at HTG ⊢
    clear hlt_
    have HBc := Lib.hid (ext_trans HBc.out hb)
    have HELD := Lib.hid (HELDB.out V15 HBc.out)
    clear hb ht
    refine hK.out _ _ HELD.out (fun _ => ?_)
    clear hK K
    try simp only [Act.put, List.setIfInBounds_toArray, List.set_cons_zero, List.set_cons_succ]
    refine wpAnyH_ready (rs := [8]) (by kernel_rfl) (by simp) ?_
    refine AllReadyH.cons (by simp only [List.getElem?_toArray, List.getElem?_cons_zero, List.getElem?_cons_succ]; rfl) (fun K hK => ?_) AllReadyH.nil
    go_simp
    refine (E8.out _ _ _ HBc.out HTG.out).mono ?_
    rintro e V16 ⟨rfl, hb⟩
    have HZ := Lib.hid (heap_below HZ.out hb)
    have HBc := Lib.hid (ext_trans HBc.out hb)
    have HELD := Lib.hid (HELDB.out V16 HBc.out)
    clear hb HTG
    refine hK.out _ _ HELD.out (fun _ => ?_)
    clear hK K
    try simp only [Act.put, List.setIfInBounds_toArray, List.set_cons_zero, List.set_cons_succ]
    refine wpAnyH_ready (rs := [10]) (by kernel_rfl) (by simp) ?_
    refine AllReadyH.cons (by simp only [List.getElem?_toArray, List.getElem?_cons_zero, List.getElem?_cons_succ]; rfl) (fun K hK => ?_) AllReadyH.nil
    have z0 := cell_of_block HZ.out 0
    have z1 := cell_of_block HZ.out 1
    have y0 := unfrozen_of_block HZ.out 0
    have y1 := unfrozen_of_block HZ.out 1
    go_simp
    clear z0 z1 y0 y1
    have hz1 := two_set HZ.out rfl (.int .u64 (vr1 : Int)) (.int .u64 (vr2 : Int))
    have hb6 := two_below (u0 := .int .u64 (vr1 : Int)) (u1 := .int .u64 (vr2 : Int)) (Y0.heap.size) HG.out HBc.out
    have HELD := Lib.hid (HELDB.out _ hb6)
    generalize hV6 : World.setCell (World.setCell V16 _ _) _ _ = V17 at HELD hb6 hz1 ⊢
    clear hV6
    have HBc := Lib.hid hb6
    have HZ := Lib.hid hz1
    clear hb6 hz1
    refine hK.out _ _ HELD.out (fun _ => ?_)
    clear hK K
    try simp only [Act.put, List.setIfInBounds_toArray, List.set_cons_zero, List.set_cons_succ]
    refine wpAnyH_done (by kernel_rfl) ?_ _
    refine NoPanic.normal ?_
    exact hK _ _ _ _ _ _ _ _ _ _ _ HG.out HZ.out HBc.out
end Go.Proofs.Ytjmdgbdlhaaefaa
/- sim.sure: which of the traces surely fail, as bits, by its contract. -/
namespace Go.Proofs.Ytjmdgbdlhaaefaa
open Go Go.RowKit Go.Joins

theorem mask_shl {n : Nat} (hn : n ≤ 64) : ∃ S : Nat, IntKind.u64.wrap ((2 : Int) ^ n) = (S : Int) ∧ IntKind.u64.wrap ((S : Int) - 1) = ((2 ^ n - 1 : Nat) : Int) := by
  by_cases h : n < 64
  · have hp : 2 ^ n < 18446744073709551616 := pow_lt h
    have h1 : 1 ≤ 2 ^ n := Nat.one_le_two_pow
    refine ⟨2 ^ n, wrap_pow h, ?_⟩
    rw [show ((2 ^ n : Nat) : Int) - 1 = ((2 ^ n - 1 : Nat) : Int) by omega, IntKind.wrap_u64]
    omega
  · have e : n = 64 := by omega
    subst e
    refine ⟨0, by rw [IntKind.wrap_u64]; rfl, by rw [IntKind.wrap_u64]; rfl⟩

/-- Traces that may run at once. -/
structure Tog (c : NormC) (ts : List TraceC) (n ni mi nf bad : Nat) : Prop where
  may : MayC c
  pos : 0 < n ∧ n ≤ 64 ∧ mi ≤ 1000000 ∧ ni ≤ 1000000
  fit : TsFit ts n ni mi nf
  vals : TsVals ts n
  hni : ni = c.lats.length
  hmi : (mi : Int) = c.ins
  few : nf ≤ 256
  badl : bad < c.bads.length
  bads : ∀ k, k < n → (ts.getD k t00).bad = (bad : Int)

set_option maxRecDepth 100000 in
set_option maxHeartbeats 3200000 in
theorem sure_yes (c : NormC) (s : CSlots) (a : Option Addr) (n cc ni mi nf bad : Nat) (sts : List TSlots) (ts : List TraceC) (w : World) (hc : SeesCir w s c) (hs : s.small) (hts : TsSee w a n cc sts ts) (hT : Tog c ts n ni mi nf bad) :
    Calls Try.prog 52 #[cirV c.ins s, .slice a n cc] w fun e w' => e = .returned (.int .u64 (sureN (kw.verdict c bad (initW ts n ni) (insAll ts n mi nf)) n : Nat)) ∧ Below w.heap.size w w' := by
  obtain ⟨b, rfl, hbl, hcells⟩ := hts.cells hT.pos.1
  have hc0 := (hcells 0 hT.pos.1).1
  simp only [Nat.zero_mul] at hc0
  rw [hT.bads 0 hT.pos.1] at hc0
  have HBC : Hid (∀ W, Below w.heap.size w W → W.cell? ⟨b, 0, none⟩ = some (.int .i64 (bad : Int))) := fun W hb => (hb.cell (p := ⟨b, 0, none⟩) hbl).trans hc0
  have HTG : Hid (∀ W, Below w.heap.size w W → Calls Try.prog 77 #[.slice (some ⟨b, 0, none⟩) n cc] W fun e w' => ∃ g, e = .returned (.agg #[.slice (some ⟨g, 0, none⟩) ni ni, .int .i64 (nf : Int), .func (.func 92) #[] #[.pointer (some ⟨W.heap.size, 0, none⟩)]]) ∧ (OwnW w' 0 g ni ni (initW ts n ni) ∧ w'.heap[W.heap.size]? = some (.cells #[.slice (some ⟨b, 0, none⟩) n cc] 50 (0, 0)) ∧ Below w.heap.size w w') ∧ Below W.heap.size W w') := fun W hb =>
    (tog_any (some ⟨b, 0, none⟩) n cc ni mi nf sts ts W (hts.below hb) hT.pos.1 hT.pos.2.1 hT.pos.2.2.2 hT.fit).mono fun e w' ⟨g, h1, h2, h3, h4⟩ => ⟨g, h1, ⟨h2.base (Nat.zero_le _), h3, ext_trans hb h4⟩, h4⟩
  obtain ⟨V, hV⟩ : ∃ V, V = kw.verdict c bad (initW ts n ni) (insAll ts n mi nf) := ⟨_, rfl⟩
  have HVD : Hid (∀ W l g, Below w.heap.size w W → OwnW W 0 g ni ni (initW ts n ni) ∧ W.heap[l]? = some (.cells #[.slice (some ⟨b, 0, none⟩) n cc] 50 (0, 0)) ∧ Below w.heap.size w W → Calls Try.prog 76 #[kvw, cirV c.ins s, .int .i64 (bad : Int), .agg #[.slice (some ⟨g, 0, none⟩) ni ni, .int .i64 (nf : Int), .func (.func 92) #[] #[.pointer (some ⟨l, 0, none⟩)]]] W fun e w' => e = .returned (wv V) ∧ Below W.heap.size W w') := fun W l g hb ⟨h1, h2, h3⟩ => by
    rw [hV]
    exact verdictw_any c s (some ⟨b, 0, none⟩) n cc ni mi nf ni bad l g sts ts W (hc.below hb) hT.may hs (hts.below hb) ⟨hT.pos.1, hT.pos.2.1, hT.pos.2.2.1⟩ hT.fit hT.hni hT.hmi hT.few (initW_in hT.pos.2.1 hT.vals) (fun f _ => insW_in hT.pos.2.1 hT.vals) hT.badl h2 h1
  have hVin : V.in := by
    have h := lane_all (c := c) (bad := bad) hT.pos.2.1 hT.pos.1 hT.vals hT.fit
    rw [hV]
    exact h.1
  rw [← hV]
  obtain ⟨S, hS1, hS2⟩ := mask_shl hT.pos.2.1
  obtain ⟨M, hM⟩ : ∃ M, M = 2 ^ n - 1 := ⟨_, rfl⟩
  rw [← hM] at hS2
  have hMl : M < 18446744073709551616 := by
    rw [hM]
    have h1 : 2 ^ n ≤ 2 ^ 64 := Nat.pow_le_pow_right (by omega) hT.pos.2.1
    have h2 : 1 ≤ 2 ^ n := Nat.one_le_two_pow
    omega
  obtain ⟨V1, V2⟩ := V
  have A1 := andNot64 hVin.2 hVin.1
  simp only at A1
  have A2 := and64 (a := V2 &&& (full - V1)) (b := M) (and_lt hVin.2) hMl
  obtain ⟨Q, hQ⟩ : ∃ Q, Q = V2 &&& (full - V1) := ⟨_, rfl⟩
  rw [← hQ] at A1 A2
  obtain ⟨R, hR⟩ : ∃ R, R = Q &&& M := ⟨_, rfl⟩
  rw [← hR] at A2
  have HRES : Hid (sureN (V1, V2) n = R) := by show _ = _; unfold sureN; rw [hR, hQ, hM]
  have hn0 : (n : Int) ≠ 0 := by have := hT.pos.1; omega
  have e0 : ((n : Int) == 0) = false := by simpa using hn0
  have hpos := hT.pos.1
  have hn64 : (n : Int) ≤ 64 := by have := hT.pos.2.1; omega
  have hnn : (0 : Int) ≤ (n : Int) := by omega
  have HS1 := Lib.hid hS1
  have HS2 := Lib.hid hS2
  have HA1 := Lib.hid A1
  have HA2 := Lib.hid A2
  clear hts hcells hc0 hT hV hM hMl hVin hQ hR hc hS1 hS2 A1 A2 hbl
  unfold cirV kvw wv at *
  go_enter Try.func52, Try.ntmps52
  go_upto_region 3 with fail
  generalize hW : World.alloc w _ = W1
  have hb : Below w.heap.size w W1 := by subst hW; exact ext_alloc _ _
  have hx : W1.heap[w.heap.size]? = some (.cells #[.int .i64 c.ins, .slice s.a1 s.n1 s.c1, .slice s.a2 s.n2 s.c2, .slice s.a3 s.n3 s.c3, .slice s.a4 s.n4 s.c4, .slice s.a5 s.n5 s.c5] 26 (0, 0)) := by subst hW; exact heap_new _ _ _ rfl
  have HELDB : Hid (∀ W, Below W1.heap.size W1 W → (W.cell? ⟨w.heap.size, 0, none⟩ = some (.int .i64 c.ins) ∧ W.cell? ⟨w.heap.size, 1, none⟩ = some (.slice s.a1 s.n1 s.c1) ∧ W.cell? ⟨w.heap.size, 2, none⟩ = some (.slice s.a2 s.n2 s.c2) ∧ W.cell? ⟨w.heap.size, 3, none⟩ = some (.slice s.a3 s.n3 s.c3) ∧ W.cell? ⟨w.heap.size, 4, none⟩ = some (.slice s.a4 s.n4 s.c4) ∧ W.cell? ⟨w.heap.size, 5, none⟩ = some (.slice s.a5 s.n5 s.c5) ∧ W.cell? ⟨b, 0, none⟩ = some (.int .i64 (bad : Int)))) := fun W hb' =>
    ⟨cell_of_block (heap_below hx hb') 0, cell_of_block (heap_below hx hb') 1, cell_of_block (heap_below hx hb') 2, cell_of_block (heap_below hx hb') 3, cell_of_block (heap_below hx hb') 4, cell_of_block (heap_below hx hb') 5, HBC.out W (ext_trans hb hb')⟩
  have HB := Lib.hid hb
  have E0 : Hid (∀ W, Calls Try.prog 75 #[] W fun e w' => e = .returned (.agg #[.int .u64 18446744073709551615, .int .u64 0, .func (.func 86) #[] #[], .func (.func 87) #[] #[]]) ∧ Below W.heap.size W w') := words_any
  clear hW hb hx
  refine reg_SWSureR w.heap.size b n cc ni nf bad V1 V2 c.ins s W1 HELDB hpos (fun W l g => OwnW W 0 g ni ni (initW ts n ni) ∧ W.heap[l]? = some (.cells #[.slice (some ⟨b, 0, none⟩) n cc] 50 (0, 0)) ∧ Below w.heap.size w W) (fun W W' l g h hb => ⟨h.1.below hb, heap_below h.2.1 hb, ext_trans h.2.2 hb⟩) E0
    (fun W hb => HTG.out W (ext_trans HB.out hb)) (fun W l g hb h => HVD.out W l g (ext_trans HB.out hb) h) _ ?_
  intro G wx _ _ _ _ _ _ _ _ _ hG hz hb
  have z0 := cell_of_block hz 0
  have z1 := cell_of_block hz 1
  have HB2 := Lib.hid (ext_trans HB.out hb)
  have S1 := HS1.out
  have S2 := HS2.out
  have A1 := HA1.out
  have A2 := HA2.out
  clear hG hz hb HELDB E0 HTG HVD
  go_wp2
  go_quiet (fail)
  rename_i nq
  go_wp2
  go_ret
  exact ⟨by rw [HRES.out]; rfl, ext_trans HB2.out (ext_drewN _ _)⟩

set_option maxRecDepth 100000 in
theorem sure_none (c : NormC) (s : CSlots) (a : Option Addr) (cc : Nat) (w : World) :
    Calls Try.prog 52 #[cirV c.ins s, .slice a 0 cc] w fun e w' => e = .returned (.int .u64 0) ∧ Below w.heap.size w w' := by
  unfold cirV
  go_enter Try.func52, Try.ntmps52
  go_wp2
  go_ret
  exact ⟨rfl, ext_alloc _ _⟩
end Go.Proofs.Ytjmdgbdlhaaefaa
namespace Go.Proofs.Ytjmdgbdlhaaefaa
open Go Go.RowKit Go.Joins

theorem wrongT_fits {c : NormC} {t0 t : TraceC} (h : wrongT c t0 t = false) : FitsC c t ∧ t.bad = t0.bad ∧ t.frames.length = t0.frames.length := by
  unfold wrongT at h
  simp only [Bool.or_eq_false_iff, Bool.not_eq_false', decide_eq_false_iff_not, Decidable.not_not] at h
  exact ⟨fits_iff.1 h.1, h.2.1, h.2.2⟩
theorem mayTog_iff {c : NormC} {ts : List TraceC} {n : Nat} : mayTog c ts n = true ↔ n ≤ 64 ∧ ∀ k, k < n → wrongT c (ts.getD 0 t00) (ts.getD k t00) = false := by
  unfold mayTog anyWrong
  simp only [Bool.and_eq_true, decide_eq_true_eq, Bool.not_eq_true', List.any_eq_false, List.mem_range]
  exact ⟨fun h => ⟨h.1, fun k hk => by have := h.2 k hk; simpa using this⟩, fun h => ⟨h.1, fun k hk => by have := h.2 k hk; simpa using this⟩⟩
/-- Traces that may run together. -/
theorem tog_of {c : NormC} {ts : List TraceC} {n : Nat} (h : mayTog c ts n = true) (hn : 0 < n) : Tog c ts n c.lats.length c.ins.toNat (ts.getD 0 t00).frames.length (ts.getD 0 t00).bad.toNat ∧ ∀ k, k < n → FitsC c (ts.getD k t00) := by
  obtain ⟨h64, hw⟩ := mayTog_iff.1 h
  have hf : ∀ k, k < n → FitsC c (ts.getD k t00) := fun k hk => (wrongT_fits (hw k hk)).1
  have h0 := hf 0 hn
  have hv := h0.may.few
  unfold varsN at hv
  refine ⟨⟨h0.may, ⟨hn, h64, by omega, by omega⟩, ⟨fun k hk => (hf k hk).init, fun k hk => (wrongT_fits (hw k hk)).2.2, fun k hk f hfl => ?_⟩, fun k hk => ⟨(hf k hk).inits, (hf k hk).values⟩, rfl, ?_, h0.few, h0.bad, fun k hk => ?_⟩, hf⟩
  · have h1 := (hf k hk).frames f (by rw [(wrongT_fits (hw k hk)).2.2]; exact hfl)
    omega
  · have := h0.may.pos; omega
  · rw [(wrongT_fits (hw k hk)).2.1]
    have := h0.pos
    omega
theorem getD_map_t {ts : List TraceC} {n k : Nat} (h : ts.length = n) (hk : k < n) : (ts.map readT).getD k t00 = readT (ts.getD k t00) := by
  simp [List.getD, List.getElem?_eq_getElem (show k < ts.length by omega)]
theorem mayTog_read {c : NormC} {ts : List TraceC} {n : Nat} (hl : ts.length = n) (h : mayTog c ts n = true) : mayTog c (ts.map readT) n = true := by
  obtain ⟨h64, hw⟩ := mayTog_iff.1 h
  refine mayTog_iff.2 ⟨h64, fun k hk => ?_⟩
  obtain ⟨h1, h2, h3⟩ := wrongT_fits (hw k hk)
  rw [getD_map_t hl hk, getD_map_t hl (by omega : 0 < n)]
  unfold wrongT
  rw [fits_iff.2 h1.read]
  have e1 : (readT (ts.getD k t00)).bad = (readT (ts.getD 0 t00)).bad := h2
  have e2 : (readT (ts.getD k t00)).frames.length = (readT (ts.getD 0 t00)).frames.length := by simp only [readT, List.length_map]; exact h3
  rw [decide_eq_false (fun h => h e1), decide_eq_false (fun h => h e2)]
  rfl

/-- Which of them surely fail, as bits. -/
def sureB (c : NormC) (ts : List TraceC) (n : Nat) : Nat := if n = 0 then 0 else sureN (kw.verdict c (ts.getD 0 t00).bad.toNat (initW ts n c.lats.length) (insAll ts n c.ins.toNat (ts.getD 0 t00).frames.length)) n
theorem sureB_lt {c : NormC} {ts : List TraceC} {n : Nat} (h : mayTog c ts n = true) : sureB c ts n < 2 ^ n ∧ sureB c ts n < 18446744073709551616 := by
  unfold sureB
  split
  · exact ⟨Nat.pow_pos (by omega), by omega⟩
  · rename_i h0
    obtain ⟨hT, _⟩ := tog_of h (by omega)
    have hin := (lane_all (c := c) (bad := (ts.getD 0 t00).bad.toNat) hT.pos.2.1 hT.pos.1 hT.vals hT.fit).1
    refine ⟨?_, sureN_lt hin n⟩
    unfold sureN
    have h1 : 0 < 2 ^ n := Nat.pow_pos (by omega)
    exact Nat.lt_of_le_of_lt Nat.and_le_right (by omega)
theorem sureB_bit {c : NormC} {ts : List TraceC} {n j : Nat} (h : mayTog c ts n = true) (hj : j < n) : (sureB c ts n).testBit j = decide ((k1.verdict c (ts.getD j t00).bad.toNat (ts.getD j t00).init (ts.getD j t00).frames).toNat = 1) := by
  unfold sureB
  rw [if_neg (by omega)]
  obtain ⟨hT, hf⟩ := tog_of h (by omega)
  have hl := lane_all (c := c) (bad := (ts.getD 0 t00).bad.toNat) hT.pos.2.1 hj hT.vals hT.fit
  have hn := hT.pos.2.1
  rw [sureN_bit hl.1 (by omega), decide_eq_true hj, hl.2.2]
  have hb : (ts.getD j t00).bad.toNat = (ts.getD 0 t00).bad.toNat := by
    rw [hT.bads j hj]; rfl
  rw [hb]
  rfl

theorem sure_any7 (c : NormC) (s : CSlots) (a : Option Addr) (n cc : Nat) (sts : List TSlots) (ts : List TraceC) (w : World) (hc : SeesCir w s c) (hs : s.small) (hts : TsSee w a n cc sts ts) (hT : mayTog c ts n = true) :
    Calls Try.prog 52 #[cirV c.ins s, .slice a n cc] w fun e w' => e = .returned (.int .u64 (sureB c ts n : Nat)) ∧ Below w.heap.size w w' := by
  by_cases h0 : n = 0
  · subst h0
    have e : sureB c ts 0 = 0 := if_pos rfl
    rw [e]
    exact sure_none c s a cc w
  · have e : sureB c ts n = sureN (kw.verdict c (ts.getD 0 t00).bad.toNat (initW ts n c.lats.length) (insAll ts n c.ins.toNat (ts.getD 0 t00).frames.length)) n := if_neg h0
    rw [e]
    exact sure_yes c s a n cc _ _ _ _ sts ts w hc hs hts (tog_of hT (by omega)).1

/-- The cells of traces, by their places. -/
def tcell (ts : List TraceC) (F : Nat → TSlots) (q : Nat) : Value := if q % 3 = 0 then .int .i64 (ts.getD (q / 3) t00).bad else if q % 3 = 1 then .slice (F (q / 3)).a1 (F (q / 3)).n1 (F (q / 3)).c1 else .slice (F (q / 3)).a2 (F (q / 3)).n2 (F (q / 3)).c2
def zcell (q : Nat) : Value := if q % 3 = 0 then .int .i64 0 else .slice none 0 0
theorem info_trace : (Try.prog.info? 30).map (fun i => (i.zero, i.size, i.bytes)) = some (some (.agg #[.int .i64 0, .slice none 0 0, .slice none 0 0]), 3, 56) := by kernel_rfl
theorem zcells (m : Nat) : madeCells #[.int .i64 0, .slice none 0 0, .slice none 0 0] (m * 3) = fcells (m * 3) zcell := by
  unfold madeCells fcells
  apply Array.ext'
  simp only [Array.toList_map, Array.toList_range]
  refine List.map_congr_left fun q _ => ?_
  unfold zcell
  have h : q % 3 = 0 ∨ q % 3 = 1 ∨ q % 3 = 2 := by omega
  rcases h with h | h | h <;> simp [h]
theorem run_makeT {i : TypeInfo} (hi : Try.prog.info? 30 = some i) (hz : i.zero = some (.agg #[.int .i64 0, .slice none 0 0, .slice none 0 0])) (hs : i.size = 3) (hy : i.bytes = 56) (m : Nat) (hm : m ≤ 1000000) (W : World) :
    (Instr.makeSlice 50 (.int .i64 (m : Int)) (.int .i64 (m : Int))).run Try.prog W = .ok (.slice (some ⟨W.heap.size, 0, none⟩) m m) (W.alloc (.cells (fcells (m * 3) zcell) 30)) := by
  have h := run_make (P := Try.prog) W 50 30 i _ Try.underlying50 hi hz .i64 .i64 (m : Int) (m : Int) (by omega) (by omega) (by rw [hy]; omega) (by omega)
  rw [h, hs, Int.toNat_natCast]
  show Result.ok _ (W.alloc (.cells (madeCells #[.int .i64 0, .slice none 0 0, .slice none 0 0] (m * 3)) _)) = _
  rw [zcells]
/-- The cells where k traces have been read. -/
def mcell (ts : List TraceC) (F : Nat → TSlots) (k q : Nat) : Value := if q < k * 3 then tcell ts F q else zcell q
theorem mcells_set (ts : List TraceC) (F : Nat → TSlots) (m k : Nat) (x : TSlots) :
    (((fcells (m * 3) (mcell ts F k)).setIfInBounds (k * 3) (.int .i64 (ts.getD k t00).bad)).setIfInBounds (k * 3 + 1) (.slice x.a1 x.n1 x.c1)).setIfInBounds (k * 3 + 2) (.slice x.a2 x.n2 x.c2) = fcells (m * 3) (mcell ts (fun i => if i = k then x else F i) (k + 1)) := by
  rw [fcells_set, fcells_set, fcells_set]
  refine fcells_congr fun q _ => ?_
  by_cases e2 : q = k * 3 + 2
  · subst e2
    simp only [if_true, mcell, tcell]
    rw [if_pos (by omega), if_neg (by omega), if_neg (by omega), show (k * 3 + 2) / 3 = k by omega]
    simp
  rw [if_neg e2]
  by_cases e1 : q = k * 3 + 1
  · subst e1
    simp only [if_true, mcell, tcell]
    rw [if_pos (by omega), if_neg (by omega), if_pos (by omega), show (k * 3 + 1) / 3 = k by omega]
    simp
  rw [if_neg e1]
  by_cases e0 : q = k * 3
  · subst e0
    simp only [if_true, mcell, tcell]
    rw [if_pos (by omega), if_pos (by omega), show k * 3 / 3 = k by omega]
  rw [if_neg e0]
  unfold mcell
  by_cases hq : q < k * 3
  · rw [if_pos hq, if_pos (by omega)]
    unfold tcell
    simp only [show ¬ (q / 3 = k) by omega, if_false]
  · rw [if_neg hq, if_neg (by omega)]
theorem keep7m {w w' : World} {a0 a1 a2 a3 a4 a5 : Addr} {v0 v1 v2 v3 v4 v5 : Value} (h : w.cell? a0 = some v0 ∧ w.cell? a1 = some v1 ∧ w.cell? a2 = some v2 ∧ w.cell? a3 = some v3 ∧ w.cell? a4 = some v4 ∧ w.cell? a5 = some v5) (hb : Below w.heap.size w w') :
    w'.cell? a0 = some v0 ∧ w'.cell? a1 = some v1 ∧ w'.cell? a2 = some v2 ∧ w'.cell? a3 = some v3 ∧ w'.cell? a4 = some v4 ∧ w'.cell? a5 = some v5 := by
  obtain ⟨h0, h1, h2, h3, h4, h5⟩ := h
  have one : ∀ {a : Addr} {v : Value}, w.cell? a = some v → w'.cell? a = some v := fun {a v} h => (hb.cell (World.block_lt_of_cell? _ _ h)).trans h
  exact ⟨one h0, one h1, one h2, one h3, one h4, one h5⟩

/-- While the traces are read. -/
structure MaInv (w : World) (ts : List TraceC) (R n k : Nat) (F : Nat → TSlots) (W : World) : Prop where
  tab : W.heap[R]? = some (.cells (fcells (n * 3) (mcell (ts.map readT) F k)) 30 (0, 0))
  own : ∀ i, i < k → OwnTr W w.heap.size (F i) (readT (ts.getD i t00)) ∧ (F i).small
  low : Below w.heap.size w W

set_option maxRecDepth 100000 in
set_option maxHeartbeats 6400000 in
theorem many_any (c : NormC) (s : CSlots) (a : Option Addr) (n cc : Nat) (sts : List TSlots) (ts : List TraceC) (w : World) (h : SeesCir w s c) (hs : s.small) (hlo : -9223372036854775808 ≤ c.ins) (hhi : c.ins < 9223372036854775808)
    (hts : TsSee w a n cc sts ts) (hn : n ≤ 1048576) (hbo : BadOk ts n) :
    Calls Try.prog 27 #[cirV c.ins s, .slice a n cc] w fun e w' => e = (if mayTog c ts n = true then .returned (.tuple #[.int .u64 (sureB c (ts.map readT) n : Nat), .int .u64 (sureB c ts n : Nat), .int .i64 0]) else .returned (.tuple #[.int .u64 0, .int .u64 0, .int .i64 2])) ∧ Below w.heap.size w w' := by
  obtain ⟨iT, hiT, hzT0, hzT1, hzT2⟩ := info_parts info_trace
  have HMT := Lib.hid (fun W (hb : Below w.heap.size w W) => maytog_any c s a n cc sts ts W (h.below hb) hs hlo hhi (hts.below hb) hn hbo)
  have HSU := Lib.hid (fun (hT : mayTog c ts n = true) W (hb : Below w.heap.size w W) => sure_any7 c s a n cc sts ts W (h.below hb) hs (hts.below hb) hT)
  have HSR := Lib.hid (fun (hT : mayTog c (ts.map readT) n = true) a' c' sts' W (hb : Below w.heap.size w W) (h2 : TsSee W a' n c' sts' (ts.map readT)) => sure_any7 c s a' n c' sts' (ts.map readT) W (h.below hb) hs h2 hT)
  have HRD := Lib.hid (fun k (hk : k < n) W (hb : Below w.heap.size w W) => read_any (ts.getD k t00) (sts.getD k st00) W ((hts.each k hk).below hb) (hts.small k hk))
  have HTL : Hid (ts.length = n) := hts.l2
  have HCE : Hid (0 < n → ∃ b, a = some ⟨b, 0, none⟩ ∧ ∀ k, k < n → ∀ W, Below w.heap.size w W → W.cell? ⟨b, k * 3, none⟩ = some (.int .i64 (ts.getD k t00).bad) ∧ W.cell? ⟨b, k * 3 + 1, none⟩ = some (.slice (sts.getD k st00).a1 (sts.getD k st00).n1 (sts.getD k st00).c1) ∧ W.cell? ⟨b, k * 3 + 2, none⟩ = some (.slice (sts.getD k st00).a2 (sts.getD k st00).n2 (sts.getD k st00).c2)) := fun h0 => by
    obtain ⟨b, e, hlt, hc⟩ := hts.cells h0
    exact ⟨b, e, fun k hk W hb => ⟨(hb.cell (p := ⟨b, k * 3, none⟩) hlt).trans (hc k hk).1, (hb.cell (p := ⟨b, k * 3 + 1, none⟩) hlt).trans (hc k hk).2.1, (hb.cell (p := ⟨b, k * 3 + 2, none⟩) hlt).trans (hc k hk).2.2⟩⟩
  obtain ⟨q, hq⟩ : ∃ q, q = mayTog c ts n := ⟨_, rfl⟩
  have HQ := Lib.hid hq
  rw [← hq] at HMT ⊢
  clear hq h hs hlo hhi hts hn hbo
  unfold cirV traceV at *
  go_enter Try.func27, Try.ntmps27
  go_upto_region 1 with fail
  generalize hW : World.alloc w _ = W1
  have hb : Below w.heap.size w W1 := by subst hW; exact ext_alloc _ _
  have hx : W1.heap[w.heap.size]? = some (.cells #[.int .i64 c.ins, .slice s.a1 s.n1 s.c1, .slice s.a2 s.n2 s.c2, .slice s.a3 s.n3 s.c3, .slice s.a4 s.n4 s.c4, .slice s.a5 s.n5 s.c5] 26 (0, 0)) := by subst hW; exact heap_new _ _ _ rfl
  have HB := Lib.hid hb
  have HX := Lib.hid hx
  clear hW hb hx
  have p0 := cell_of_block HX.out 0
  have p1 := cell_of_block HX.out 1
  have p2 := cell_of_block HX.out 2
  have p3 := cell_of_block HX.out 3
  have p4 := cell_of_block HX.out 4
  have p5 := cell_of_block HX.out 5
  go_wp2_with fail
  refine (HMT.out W1 HB.out).mono ?_
  rintro e W2 ⟨rfl, hb⟩
  have HB2 := Lib.hid (ext_trans HB.out hb)
  have HX2 := Lib.hid (heap_below HX.out hb)
  clear hb p0 p1 p2 p3 p4 p5 HX HB
  cases q with
  | false =>
    go_wp2
    refine bodyPost_ret (v := .tuple #[.int .u64 0, .int .u64 0, .int .i64 2]) ?_ rfl ?_
    · simp [results, Try.results27, go_sem]
    · exact ⟨rfl, HB2.out⟩
  | true =>
  have hq1 := HQ.out.symm
  have h64 := (mayTog_iff.1 hq1).1
  have HMY := Lib.hid hq1
  have HMR := Lib.hid (mayTog_read HTL.out hq1)
  have mk := run_makeT hiT hzT0 hzT1 hzT2 n (by omega) W2
  have HN := Lib.hid h64
  clear hq1 h64
  go_upto_region 4 with fail
  clear mk
  generalize hW : World.alloc W2 _ = W3
  have hb : Below W2.heap.size W2 W3 := by subst hW; exact ext_alloc _ _
  have hr : W3.heap[W2.heap.size]? = some (.cells (fcells (n * 3) (mcell (ts.map readT) (fun _ => st00) 0)) 30 (0, 0)) := by
    subst hW
    have e : fcells (n * 3) (mcell (ts.map readT) (fun _ => st00) 0) = fcells (n * 3) zcell := fcells_congr fun q _ => by unfold mcell; rw [if_neg (by omega)]
    rw [e]
    exact heap_new _ _ _ rfl
  obtain ⟨R, hR⟩ : ∃ R, R = W2.heap.size := ⟨_, rfl⟩
  rw [← hR] at hr ⊢
  have HRW : Hid (w.heap.size ≤ R ∧ R ≠ w.heap.size) := by
    have h1 := HB2.out.size
    have h2 := heap_lt HX2.out
    rw [hR]
    exact ⟨h1, by omega⟩
  have HX3 := Lib.hid (heap_below HX2.out hb)
  have HI0 : Hid (MaInv w ts R n 0 (fun _ => st00) W3) := ⟨hr, fun i hi => absurd hi (by omega), ext_trans HB2.out hb⟩
  clear hW hb hr hR HX2 HB2
  go_wp2_with fail
  go_loopw [19, 8, 9] (fun i _ _ wr => ∃ (k : Nat) (F : Nat → TSlots), k ≤ n ∧ i = .int .i64 k ∧ Hid (MaInv w ts R n k F wr) ∧ Hid (wr.heap[w.heap.size]? = some (.cells #[.int .i64 c.ins, .slice s.a1 s.n1 s.c1, .slice s.a2 s.n2 s.c2, .slice s.a3 s.n3 s.c3, .slice s.a4 s.n4 s.c4, .slice s.a5 s.n5 s.c5] 26 (0, 0)))) (fun i _ _ _ => n - (intOf i).toNat)
  case atStart => exact ⟨0, _, Nat.zero_le _, rfl, HI0.out, HX3.out⟩
  case round =>
    clear HI0 HX3
    obtain ⟨k, F, hk, rfl, hI, hX⟩ := hrel
    by_cases hlt : k < n
    · obtain ⟨b, rfl, hce⟩ := HCE.out (by omega)
      obtain ⟨c0, c1, c2⟩ := hce k hlt wr hI.out.low
      have hrd := HRD.out k hlt
      obtain ⟨z, hz⟩ : ∃ z, z = (ts.getD k t00).bad := ⟨_, rfl⟩
      obtain ⟨y, hy⟩ : ∃ y, y = sts.getD k st00 := ⟨_, rfl⟩
      rw [← hz] at c0 hrd
      rw [← hy] at c1 c2 hrd
      have HRD2 := Lib.hid hrd
      have HZ := Lib.hid hz
      have hI1 : (k : Int) < (n : Int) := by omega
      have hI0 : (0 : Int) ≤ (k : Int) := by omega
      have W1' : IntKind.i64.wrap ((k : Int) + 1) = (k : Int) + 1 := IntWalk.i64_in _ (by have := HN.out; omega)
      clear hz hy hrd hce
      go_upto_region 7 with fail
      generalize hW : World.alloc wr _ = X0
      have hb : Below wr.heap.size wr X0 := by subst hW; exact ext_alloc _ _
      have hT : X0.heap[wr.heap.size]? = some (.cells #[.int .i64 z, .slice y.a1 y.n1 y.c1, .slice y.a2 y.n2 y.c2] 30 (0, 0)) := by subst hW; exact heap_new _ _ _ rfl
      have p0 := cell_of_block hT 0
      have p1 := cell_of_block hT 1
      have p2 := cell_of_block hT 2
      have HB0 := Lib.hid hb
      clear hW hb hT c0 c1 c2
      go_wp2_with fail
      refine (HRD2.out X0 (ext_trans hI.out.low HB0.out)).mono ?_
      rintro e X2 ⟨s', rfl, ho, hsm, hb⟩
      have HBX := Lib.hid (ext_trans HB0.out hb)
      have HO := Lib.hid (ho.base_le (ext_trans hI.out.low HB0.out).size)
      have HSM := Lib.hid hsm
      have htb := heap_below hI.out.tab HBX.out
      have hmc : ∀ q, q < n * 3 → X2.cell? ⟨R, q, none⟩ = some (mcell (ts.map readT) F k q) := fun q hq => (cell_of_block htb q).trans (fcells_get _ _ _ hq)
      have f0 : X2.cell? ⟨R, k * 3, none⟩ = some (.int .i64 0) := (hmc (k * 3) (by omega)).trans (by unfold mcell zcell; rw [if_neg (by omega), if_pos (by omega)])
      have f1 : X2.cell? ⟨R, k * 3 + 1, none⟩ = some (.slice none 0 0) := (hmc (k * 3 + 1) (by omega)).trans (by unfold mcell zcell; rw [if_neg (by omega), if_neg (by omega)])
      have f2 : X2.cell? ⟨R, k * 3 + 2, none⟩ = some (.slice none 0 0) := (hmc (k * 3 + 2) (by omega)).trans (by unfold mcell zcell; rw [if_neg (by omega), if_neg (by omega)])
      have f3 := unfrozen_of_block htb (k * 3)
      have f4 := unfrozen_of_block htb (k * 3 + 1)
      have f5 := unfrozen_of_block htb (k * 3 + 2)
      have HTB := Lib.hid htb
      clear hb ho hsm htb hmc p0 p1 p2 HRD2 HB0
      go_wp2
      go_roundw
      case rel =>
        have h1 := block_setCell HTB.out (i := k * 3) (.int .i64 z)
        have h2 := block_setCell h1 (i := k * 3 + 1) (.slice s'.a1 s'.n1 s'.c1)
        have h3 := block_setCell h2 (i := k * 3 + 2) (.slice s'.a2 s'.n2 s'.c2)
        have hne : ∀ D : Nat, D ≠ R → (((X2.setCell ⟨R, k * 3, none⟩ (.int .i64 z)).setCell ⟨R, k * 3 + 1, none⟩ (.slice s'.a1 s'.n1 s'.c1)).setCell ⟨R, k * 3 + 2, none⟩ (.slice s'.a2 s'.n2 s'.c2)).heap[D]? = X2.heap[D]? := fun D hD =>
          (Below.heap_setCell _ ⟨R, k * 3 + 2, none⟩ _ D hD).trans ((Below.heap_setCell _ ⟨R, k * 3 + 1, none⟩ _ D hD).trans (Below.heap_setCell _ ⟨R, k * 3, none⟩ _ D hD))
        have hbd : ((ts.map readT).getD k t00).bad = z := by rw [getD_map_t HTL.out hlt, HZ.out]; rfl
        rw [← hbd, mcells_set (ts.map readT) F n k s'] at h3
        rw [hbd] at h3
        refine ⟨k + 1, fun i => if i = k then s' else F i, by omega, by go_num, ⟨h3, fun i hi => ?_, (((ext_trans hI.out.low HBX.out).setCell (p := ⟨R, k * 3, none⟩) HRW.out.1 _).setCell (p := ⟨R, k * 3 + 1, none⟩) HRW.out.1 _).setCell (p := ⟨R, k * 3 + 2, none⟩) HRW.out.1 _⟩, (hne _ HRW.out.2.symm).trans (heap_below hX.out HBX.out)⟩
        by_cases e : i = k
        · subst e
          simp only [if_true]
          exact ⟨HO.out.but HTB.out (by decide) (by decide) hne, HSM.out⟩
        · rw [if_neg e]
          obtain ⟨h4, h5⟩ := hI.out.own i (by omega)
          exact ⟨(h4.below HBX.out).but HTB.out (by decide) (by decide) hne, h5⟩
      case measure => simp [intOf]; omega
    · obtain rfl : k = n := by omega
      have hsee : TsSee wr (some ⟨R, 0, none⟩) k k ((List.range k).map F) (ts.map readT) := by
        have hF : ∀ i, i < k → ((List.range k).map F).getD i st00 = F i := fun i hi => by simp [List.getD, hi]
        refine ⟨by simp, by rw [List.length_map, HTL.out], Nat.le_refl _, fun h0 => ⟨R, rfl, heap_lt hI.out.tab, fun i hi => ?_⟩, fun i hi => ?_, fun i hi => ?_⟩
        · have hmc : ∀ q, q < k * 3 → wr.cell? ⟨R, q, none⟩ = some (tcell (ts.map readT) F q) := fun q hq => (cell_of_block hI.out.tab q).trans ((fcells_get _ _ _ hq).trans (by unfold mcell; rw [if_pos hq]))
          rw [hF i hi]
          refine ⟨(hmc (i * 3) (by omega)).trans ?_, (hmc (i * 3 + 1) (by omega)).trans ?_, (hmc (i * 3 + 2) (by omega)).trans ?_⟩
          · unfold tcell; rw [if_pos (by omega), show i * 3 / 3 = i by omega]
          · unfold tcell; rw [if_neg (by omega), if_pos (by omega), show (i * 3 + 1) / 3 = i by omega]
          · unfold tcell; rw [if_neg (by omega), if_neg (by omega), show (i * 3 + 2) / 3 = i by omega]
        · rw [hF i hi, getD_map_t HTL.out hi]; exact (hI.out.own i hi).1.sees
        · rw [hF i hi]; exact (hI.out.own i hi).2
      have HSEE := Lib.hid hsee
      have HS0 := Lib.hid (And.intro (cell_of_block hX.out 0) (And.intro (cell_of_block hX.out 1) (And.intro (cell_of_block hX.out 2) (And.intro (cell_of_block hX.out 3) (And.intro (cell_of_block hX.out 4) (cell_of_block hX.out 5))))))
      have HBW := Lib.hid hI.out.low
      clear hsee hI hX hlt hk
      go_upto_region 9 with fail
      refine wp_region_noPanic ?_
      refine wp_region_held (S := fun w' => w'.cell? ⟨w.heap.size, 0, none⟩ = some (.int .i64 c.ins) ∧ w'.cell? ⟨w.heap.size, 1, none⟩ = some (.slice s.a1 s.n1 s.c1) ∧ w'.cell? ⟨w.heap.size, 2, none⟩ = some (.slice s.a2 s.n2 s.c2) ∧ w'.cell? ⟨w.heap.size, 3, none⟩ = some (.slice s.a3 s.n3 s.c3) ∧ w'.cell? ⟨w.heap.size, 4, none⟩ = some (.slice s.a4 s.n4 s.c4) ∧ w'.cell? ⟨w.heap.size, 5, none⟩ = some (.slice s.a5 s.n5 s.c5)) (by kernel_rfl) ?_
      generalize hY : ({ wr with drawn := wr.drawn + 1 } : World) = Y0
      have hY0 : Below wr.heap.size wr Y0 := by subst hY; exact (Below.refl _ _).drew
      have HSD := Lib.hid (keep7m HS0.out hY0)
      have HYB := Lib.hid hY0
      clear hY hY0 HS0
      refine wpAnyH_take (i := 0) (v := ?_) (by simp only [List.getElem?_toArray, List.getElem?_cons_zero]; rfl) (by kernel_rfl) (by kernel_rfl) (by kernel_rfl) (fun _ _ _ h => h) (Or.inl ⟨by rfl, ?_⟩) HSD.out ?_
      rotate_left
      · intro w hSw
        (try dsimp only at hSw)
        obtain ⟨q0_, q1_, q2_, q3_, q4_, q5_⟩ := hSw
        go_simp
        try with_reducible rfl
      try simp only [Act.put, List.setIfInBounds_toArray, List.set_cons_zero, List.set_cons_succ]
      refine wpAnyH_take (i := 1) (v := ?_) (by simp only [List.getElem?_toArray, List.getElem?_cons_zero, List.getElem?_cons_succ]; rfl) (by kernel_rfl) (by kernel_rfl) (by kernel_rfl) (fun _ _ _ h => h) (Or.inl ⟨by rfl, ?_⟩) HSD.out ?_
      rotate_left
      · intro w hSw
        (try dsimp only at hSw)
        obtain ⟨q0_, q1_, q2_, q3_, q4_, q5_⟩ := hSw
        go_simp
        try with_reducible rfl
      try simp only [Act.put, List.setIfInBounds_toArray, List.set_cons_zero, List.set_cons_succ]
      refine wpAnyH_take (i := 3) (v := ?_) (by simp only [List.getElem?_toArray, List.getElem?_cons_zero, List.getElem?_cons_succ]; rfl) (by kernel_rfl) (by kernel_rfl) (by kernel_rfl) (fun _ _ _ h => h) (Or.inl ⟨by rfl, ?_⟩) HSD.out ?_
      rotate_left
      · intro w hSw
        (try dsimp only at hSw)
        obtain ⟨q0_, q1_, q2_, q3_, q4_, q5_⟩ := hSw
        go_simp
        try with_reducible rfl
      try simp only [Act.put, List.setIfInBounds_toArray, List.set_cons_zero, List.set_cons_succ]
      refine wpAnyH_take (i := 4) (v := ?_) (by simp only [List.getElem?_toArray, List.getElem?_cons_zero, List.getElem?_cons_succ]; rfl) (by kernel_rfl) (by kernel_rfl) (by kernel_rfl) (fun _ _ _ h => h) (Or.inl ⟨by rfl, ?_⟩) HSD.out ?_
      rotate_left
      · intro w hSw
        (try dsimp only at hSw)
        obtain ⟨q0_, q1_, q2_, q3_, q4_, q5_⟩ := hSw
        go_simp
        try with_reducible rfl
      try simp only [Act.put, List.setIfInBounds_toArray, List.set_cons_zero, List.set_cons_succ]
      refine wpAnyH_ready (rs := [2]) (by kernel_rfl) (by simp) ?_
      refine AllReadyH.cons (by simp only [List.getElem?_toArray, List.getElem?_cons_zero, List.getElem?_cons_succ]; rfl) (fun K hK => ?_) AllReadyH.nil
      go_simp
      refine (HSR.out HMR.out _ _ _ _ (ext_trans HBW.out HYB.out) (HSEE.out.below HYB.out)).mono ?_
      rintro e s1 ⟨rfl, b1_⟩
      have HD1 := Lib.hid (ext_trans HYB.out b1_)
      have HS1 := Lib.hid (keep7m HSD.out b1_)
      clear b1_
      refine hK.out _ _ HS1.out (fun _ => ?_)
      clear hK K
      try simp only [Act.put, List.setIfInBounds_toArray, List.set_cons_zero, List.set_cons_succ]
      refine wpAnyH_ready (rs := [5]) (by kernel_rfl) (by simp) ?_
      refine AllReadyH.cons (by simp only [List.getElem?_toArray, List.getElem?_cons_zero, List.getElem?_cons_succ]; rfl) (fun K hK => ?_) AllReadyH.nil
      go_simp
      refine (HSU.out HMY.out _ (ext_trans HBW.out HD1.out)).mono ?_
      rintro e s2 ⟨rfl, b2_⟩
      have HD2 := Lib.hid (ext_trans HD1.out b2_)
      have HS2 := Lib.hid (keep7m HS1.out b2_)
      clear b2_
      refine hK.out _ _ HS2.out (fun _ => ?_)
      clear hK K
      try simp only [Act.put, List.setIfInBounds_toArray, List.set_cons_zero, List.set_cons_succ]
      refine wpAnyH_take (i := 6) (v := ?_) (by simp only [List.getElem?_toArray, List.getElem?_cons_zero, List.getElem?_cons_succ]; rfl) (by kernel_rfl) (by kernel_rfl) (by kernel_rfl) (fun _ _ _ h => h) (Or.inl ⟨by rfl, ?_⟩) HS2.out ?_
      rotate_left
      · intro w hSw
        (try dsimp only at hSw)
        obtain ⟨q0_, q1_, q2_, q3_, q4_, q5_⟩ := hSw
        go_simp
        try with_reducible rfl
      try simp only [Act.put, List.setIfInBounds_toArray, List.set_cons_zero, List.set_cons_succ]
      refine wpAnyH_take (i := 7) (v := ?_) (by simp only [List.getElem?_toArray, List.getElem?_cons_zero, List.getElem?_cons_succ]; rfl) (by kernel_rfl) (by kernel_rfl) (by kernel_rfl) (fun _ _ _ h => h) (Or.inl ⟨by rfl, ?_⟩) HS2.out ?_
      rotate_left
      · intro w hSw
        (try dsimp only at hSw)
        obtain ⟨q0_, q1_, q2_, q3_, q4_, q5_⟩ := hSw
        go_simp
        try with_reducible rfl
      try simp only [Act.put, List.setIfInBounds_toArray, List.set_cons_zero, List.set_cons_succ]
      refine wpAnyH_take (i := 8) (v := ?_) (by simp only [List.getElem?_toArray, List.getElem?_cons_zero, List.getElem?_cons_succ]; rfl) (by kernel_rfl) (by kernel_rfl) (by kernel_rfl) (fun _ _ _ h => h) (Or.inl ⟨by rfl, ?_⟩) HS2.out ?_
      rotate_left
      · intro w hSw
        (try dsimp only at hSw)
        obtain ⟨q0_, q1_, q2_, q3_, q4_, q5_⟩ := hSw
        go_simp
        try with_reducible rfl
      try simp only [Act.put, List.setIfInBounds_toArray, List.set_cons_zero, List.set_cons_succ]
      refine wpAnyH_done (by kernel_rfl) ?_ _
      refine NoPanic.normal ?_
      go_wp2
      refine bodyPost_ret (v := .tuple #[.int .u64 (sureB c (ts.map readT) k : Nat), .int .u64 (sureB c ts k : Nat), .int .i64 0]) ?_ rfl ?_
      · simp [results, Try.results27, go_sem]
      · exact ⟨rfl, ext_trans HBW.out HD2.out⟩
end Go.Proofs.Ytjmdgbdlhaaefaa
