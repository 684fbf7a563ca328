/- The memory that queue.New makes: three slices, in whatever order, and the queue's own block. -/
import Derived.Test.YthedgbdnidghnaaOwn
import Derived.Test.YthedgbdnidghnaaNBase
import Derived.Test.YthedgbdnidghnaaNRegion
import Derived.Test.YthedgbdnidghnaaQuAlloc
import Derived.Test.YthedgbdnidghnaaQuOps
import Derived.Test.YthedgbdnidghnaaRows
import Derived.ArgAppend
import Derived.BigQuiet
import Derived.Deep.AppendLies
import Derived.Deep.QuietTactic
import Derived.Deep.RegionHeld3
import Derived.Deep.RegionLaw
import Derived.Deep.RegionWith
import Derived.KernelRfl
import Derived.Laws.EntriesVeiled
import Derived.Lib.ConvBytes
import Derived.Lib.Hide
import Derived.Lib.SlBytesRow
import Derived.Lib.SmallJoins
import Derived.OrdersHeld
import Derived.Shelf.Bytes.SlSmallAll
import Derived.WalkKit
import Derived.WalkLawsBesides
import Derived.WalkSpells
namespace Go.Proofs.Ythedgbdnidghnaa
open Go Go.RowKit Go.Joins

theorem info_u64 : (Try.prog.info? 43).map (fun i => (i.zero, i.size, i.bytes)) = some (some (.int .u64 0), 1, 8) := by kernel_rfl
noncomputable def codeQn : Code := ((Try.f6.body.bind (findRegion 3)).getD .skip)
set_option maxRecDepth 100000 in
set_option maxHeartbeats 3200000 in
theorem reg_new (n k : Nat) (hn : n ≤ 4194304) (hk : k = n + 1) (X0 : World) (W1 : IntKind.i64.wrap ((n : Int) + 1) = (k : Int)) (E1 : (n : Int) + 1 = (k : Int))
    (QQ : Exit → Act → World → Prop) {v1 v2 v3 v4 v5 v6 v7 v8 v9 v10 v11 v12 v13 v14 v15 v16 v17 v18 v19 v20 v21 v22 v23 v24 v25 v26 v27 v28 v29 v30 v31 v32 v33 v34 v35 v36 v37 : Value}
    (hK : ∀ (q s h a : Nat) (wx : World), Below X0.heap.size X0 wx → wx.heap[s]? = some (.cells (zeros (.int .u64 0) k) 43) → wx.heap[h]? = some (.cells (zeros (.int .i32 0) n) 21) → wx.heap[a]? = some (.cells (zeros (.int .i32 0) k) 21) →
      wx.heap[q]? = some (.cells #[.int .u64 1, .slice (some ⟨s, 0, none⟩) k k, .slice (some ⟨h, 0, none⟩) n n, .slice (some ⟨a, 0, none⟩) k k] 49) → X0.heap.size ≤ q → X0.heap.size ≤ s → X0.heap.size ≤ h → X0.heap.size ≤ a →
      QQ .normal ⟨#[.int .i64 (n : Int), v1, v2, v3, .pointer (some ⟨q, 0, none⟩), v5, v6, v7, v8, v9, v10, v11, .int .i64 (n : Int), .int .i64 (k : Int), .slice (some ⟨s, 0, none⟩) k k, .int .i64 (n : Int), .slice (some ⟨h, 0, none⟩) n n, .int .i64 (n : Int), .int .i64 (k : Int), .slice (some ⟨a, 0, none⟩) k k, .agg #[.int .u64 1, .slice (some ⟨s, 0, none⟩) k k, .slice (some ⟨h, 0, none⟩) n n, .slice (some ⟨a, 0, none⟩) k k], .pointer (some ⟨q, 0, none⟩), v22, v23, v24, v25, v26, v27, v28, v29, v30, v31, v32, v33, v34, v35, v36, v37], []⟩ wx) :
    Code.wp Try.prog codeQn QQ ⟨#[.int .i64 (n : Int), v1, v2, v3, v4, v5, v6, v7, v8, v9, v10, v11, v12, v13, v14, v15, v16, v17, v18, v19, v20, v21, v22, v23, v24, v25, v26, v27, v28, v29, v30, v31, v32, v33, v34, v35, v36, v37], []⟩ X0 := by
  obtain ⟨i1, hi1, hz11, hz12, hz13⟩ := info_parts info_u64
  obtain ⟨i2, hi2, hz21, hz22, hz23⟩ := info_parts info_i32
  have mk1 := fun W => run_make_n (P := Try.prog) (t := 46) (e := 43) Try.underlying46 hi1 hz11 hz12 hz13 rfl k (by omega) (by omega) W
  have mk2 := fun W => run_make_n (P := Try.prog) (t := 47) (e := 21) Try.underlying47 hi2 hz21 hz22 hz23 rfl n (by omega) (by omega) W
  have mk3 := fun W => run_make_n (P := Try.prog) (t := 47) (e := 21) Try.underlying47 hi2 hz21 hz22 hz23 rfl k (by omega) (by omega) W
  have W2 : IntKind.i64.wrap (k : Int) = (k : Int) := IntWalk.i64_in _ (by omega)
  clear hi1 hz11 hz12 hz13 hi2 hz21 hz22 hz23 hk
  unfold codeQn
  conv => arg 2; whnf
  refine wp_region_noPanic ?_
  refine wp_region_held (S := fun _ => True) (by kernel_rfl) ?_
  generalize hYY : ({ X0 with drawn := X0.drawn + 1 } : World) = Y0
  have HY0 : Hid (Below X0.heap.size X0 Y0) := by subst hYY; exact (Below.refl _ _).drew
  have HS0 : Hid True := trivial
  clear hYY
  refine wpAnyH_take (i := 0) (v := ?_) (by simp only [List.getElem?_toArray, List.getElem?_cons_zero]; rfl) (by kernel_rfl) (by kernel_rfl) (by kernel_rfl) (fun _ _ _ h => h) (Or.inl ⟨by rfl, ?_⟩) HS0.out ?_
  rotate_left
  · intro w hSw
    (try dsimp only at hSw)
    have q0_ := hSw
    go_simp
    try with_reducible rfl
  try simp only [Act.put, List.setIfInBounds_toArray, List.set_cons_zero, List.set_cons_succ]
  refine wpAnyH_take (i := 1) (v := ?_) (by simp only [List.getElem?_toArray, List.getElem?_cons_zero, List.getElem?_cons_succ]; rfl) (by kernel_rfl) (by kernel_rfl) (by kernel_rfl) (fun _ _ _ h => h) (Or.inl ⟨by rfl, ?_⟩) HS0.out ?_
  rotate_left
  · intro w hSw
    (try dsimp only at hSw)
    have q0_ := hSw
    go_simp
    try with_reducible rfl
  try simp only [Act.put, List.setIfInBounds_toArray, List.set_cons_zero, List.set_cons_succ]
  refine wpAnyH_take (i := 3) (v := ?_) (by simp only [List.getElem?_toArray, List.getElem?_cons_zero, List.getElem?_cons_succ]; rfl) (by kernel_rfl) (by kernel_rfl) (by kernel_rfl) (fun _ _ _ h => h) (Or.inl ⟨by rfl, ?_⟩) HS0.out ?_
  rotate_left
  · intro w hSw
    (try dsimp only at hSw)
    have q0_ := hSw
    go_simp
    try with_reducible rfl
  try simp only [Act.put, List.setIfInBounds_toArray, List.set_cons_zero, List.set_cons_succ]
  refine wpAnyH_take (i := 5) (v := ?_) (by simp only [List.getElem?_toArray, List.getElem?_cons_zero, List.getElem?_cons_succ]; rfl) (by kernel_rfl) (by kernel_rfl) (by kernel_rfl) (fun _ _ _ h => h) (Or.inl ⟨by rfl, ?_⟩) HS0.out ?_
  rotate_left
  · intro w hSw
    (try dsimp only at hSw)
    have q0_ := hSw
    go_simp
    try with_reducible rfl
  try simp only [Act.put, List.setIfInBounds_toArray, List.set_cons_zero, List.set_cons_succ]
  refine wpAnyH_take (i := 6) (v := ?_) (by simp only [List.getElem?_toArray, List.getElem?_cons_zero, List.getElem?_cons_succ]; rfl) (by kernel_rfl) (by kernel_rfl) (by kernel_rfl) (fun _ _ _ h => h) (Or.inl ⟨by rfl, ?_⟩) HS0.out ?_
  rotate_left
  · intro w hSw
    (try dsimp only at hSw)
    have q0_ := hSw
    go_simp
    try with_reducible rfl
  try simp only [Act.put, List.setIfInBounds_toArray, List.set_cons_zero, List.set_cons_succ]
  refine allocs3 (f := 3) X0 (fun x1 x2 x3 => ⟨#[.int .i64 (n : Int), v1, v2, v3, v4, v5, v6, v7, v8, v9, v10, v11, .int .i64 (n : Int), .int .i64 (k : Int), (match x1 with | some g => .slice (some ⟨g, 0, none⟩) k k | none => v14), .int .i64 (n : Int), (match x2 with | some g => .slice (some ⟨g, 0, none⟩) n n | none => v16), .int .i64 (n : Int), .int .i64 (k : Int), (match x3 with | some g => .slice (some ⟨g, 0, none⟩) k k | none => v19), v20, v21, v22, v23, v24, v25, v26, v27, v28, v29, v30, v31, v32, v33, v34, v35, v36, v37], []⟩) (fun b1 b2 b3 => #[true, true, b1, true, b2, true, true, b3, false, false, false]) 2 4 7 (.cells (zeros (.int .u64 0) k) 43) (.cells (zeros (.int .i32 0) n) 21) (.cells (zeros (.int .i32 0) k) 21)
    ?hr (fun _ _ => rfl) (fun _ _ => rfl) (fun _ _ => rfl)
    ?o1 ?o2 ?o3 ?hend 3 none none none Y0 rfl HY0.out (fun _ h => by cases h) (fun _ h => by cases h) (fun _ h => by cases h)
  case hr =>
    intro b1 b2 b3 hm
    cases b1 <;> cases b2 <;> cases b3 <;> first | (exact absurd hm (by decide)) | kernel_rfl
  case o1 =>
    intro x2 x3 W K hK
    unfold wpOp
    simp only [List.getElem?_toArray, List.getElem?_cons_zero, List.getElem?_cons_succ]
    rw [if_pos (by rfl)]
    refine .inl ?_
    go_simp
    exact hK
  case o2 =>
    intro x1 x3 W K hK
    unfold wpOp
    simp only [List.getElem?_toArray, List.getElem?_cons_zero, List.getElem?_cons_succ]
    rw [if_pos (by rfl)]
    refine .inl ?_
    go_simp
    exact hK
  case o3 =>
    intro x1 x2 W K hK
    unfold wpOp
    simp only [List.getElem?_toArray, List.getElem?_cons_zero, List.getElem?_cons_succ]
    rw [if_pos (by rfl)]
    refine .inl ?_
    go_simp
    exact hK
  intro s h a W hb t1 t2 t3
  have HS1 : Hid True := trivial
  have HB1 := Lib.hid hb
  have HT1 := Lib.hid (t1 s rfl)
  have HT2 := Lib.hid (t2 h rfl)
  have HT3 := Lib.hid (t3 a rfl)
  clear hb t1 t2 t3
  refine wpAnyH_take (i := 8) (v := ?_) (by simp only [List.getElem?_toArray, List.getElem?_cons_zero, List.getElem?_cons_succ]; rfl) (by kernel_rfl) (by kernel_rfl) (by kernel_rfl) (fun _ _ _ h => h) (Or.inl ⟨by rfl, ?_⟩) HS1.out ?_
  rotate_left
  · intro w hSw
    (try dsimp only at hSw)
    have q0_ := hSw
    go_simp
    try with_reducible rfl
  try simp only [Act.put, List.setIfInBounds_toArray, List.set_cons_zero, List.set_cons_succ]
  refine wpAnyH_ready (rs := [9]) (by kernel_rfl) (by simp) ?_
  refine AllReadyH.cons (by simp only [List.getElem?_toArray, List.getElem?_cons_zero, List.getElem?_cons_succ]; rfl) (fun K hKK => ?_) AllReadyH.nil
  go_simp
  refine hKK.out _ _ trivial (fun _ => ?_)
  clear hKK K
  have HS2 : Hid True := trivial
  refine wpAnyH_take (i := 10) (v := ?_) (by simp only [List.getElem?_toArray, List.getElem?_cons_zero, List.getElem?_cons_succ]; rfl) (by kernel_rfl) (by kernel_rfl) (by kernel_rfl) (fun _ _ _ h => h) (Or.inl ⟨by rfl, ?_⟩) HS2.out ?_
  rotate_left
  · intro w hSw
    (try dsimp only at hSw)
    have q0_ := hSw
    go_simp
    try with_reducible rfl
  try simp only [Act.put, List.setIfInBounds_toArray, List.set_cons_zero, List.set_cons_succ]
  refine wpAnyH_done (by kernel_rfl) ?_ _
  refine NoPanic.normal ?_
  exact hK W.heap.size s h a _ (HB1.out.alloc HB1.out.size _) (heap_below HT1.out.1 (ext_alloc W _)) (heap_below HT2.out.1 (ext_alloc W _)) (heap_below HT3.out.1 (ext_alloc W _)) (heap_alloc_new W _) HB1.out.size HT1.out.2 HT2.out.2 HT3.out.2
end Go.Proofs.Ythedgbdnidghnaa
