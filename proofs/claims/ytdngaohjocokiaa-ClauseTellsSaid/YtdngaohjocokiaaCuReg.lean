/- The two regions that use the channel: derive's send, run's select. -/
import Derived.Test.YtdngaohjocokiaaNRegion
import Derived.Test.YtdngaohjocokiaaCuChan
import Derived.Test.YtdngaohjocokiaaRows
import Derived.BigQuiet
import Derived.Conc.LoneSelect
import Derived.Deep.AppendLies
import Derived.Deep.QuietTactic
import Derived.Deep.RegionLaw
import Derived.Deep.RegionWith
import Derived.KernelRfl
import Derived.Laws.EntriesVeiled
import Derived.Lib.ConvBytes
import Derived.Lib.Hide
import Derived.Lib.SlBytesRow
import Derived.Lib.SmallJoins
import Derived.Shelf.Bytes.SlSmallAll
import Derived.WalkKit
import Derived.WalkLawsBesides
import Derived.WalkSpells
namespace Go.Proofs.Ytdngaohjocokiaa
open Go Go.RowKit Go.Joins Go.Conc

noncomputable def codeSend : Code := ((Try.f37.body.bind (findRegion 5)).getD .skip)
set_option maxRecDepth 100000 in
set_option maxHeartbeats 1600000 in
theorem reg_send (B C cap s r : Nat) (buf : Array Value) (x : Int) (w : World) (hB : w.cell? ⟨B, 5, none⟩ = some (.chan (some C))) (hC : w.heap[C]? = some (.chan cap buf false s r false)) (hroom : buf.size < cap)
    (QQ : Exit → Act → World → Prop) {v2 v3 v4 v5 v6 v7 v8 v9 v10 v11 v12 v13 v14 v15 v16 v17 v18 v19 v20 v21 v22 v23 v24 v25 v26 v27 v28 v29 v30 v31 v32 v33 v34 : Value}
    (hK : QQ .normal ⟨#[.pointer (some ⟨B, 0, none⟩), .int .i64 x, v2, v3, v4, v5, v6, v7, v8, v9, v10, v11, v12, v13, v14, v15, v16, v17, v18, v19, v20, v21, v22, v23, v24, v25, v26, v27, v28, v29, .pointer (some ⟨B, 0, none⟩), .pointer (some ⟨B, 0, none⟩), .pointer (some ⟨B, 5, none⟩), .chan (some C), .int .i64 x], []⟩ (w.setChan C cap (buf.push (.int .i64 x)) false (s + 1) r false)) :
    Code.wp Try.prog codeSend QQ ⟨#[.pointer (some ⟨B, 0, none⟩), .int .i64 x, v2, v3, v4, v5, v6, v7, v8, v9, v10, v11, v12, v13, v14, v15, v16, v17, v18, v19, v20, v21, v22, v23, v24, v25, v26, v27, v28, v29, v30, v31, v32, v33, v34], []⟩ w := by
  conv => arg 2; whnf
  refine wp_of_rest ?_
  simp only [List.size_toArray, List.length_cons, List.length_nil, Nat.reduceAdd, Nat.zero_add, List.range, List.range.loop]
  refine rest_value (v := .pointer (some ⟨B, 0, none⟩)) (w' := w) rfl (by kernel_rfl) ?_ ?_
  · go_simp
  simp only [Act.put]
  refine rest_value (v := .pointer (some ⟨B, 0, none⟩)) (w' := w) rfl (by kernel_rfl) ?_ ?_
  · go_simp
  simp only [Act.put]
  refine rest_value (v := .pointer (some ⟨B, 5, none⟩)) (w' := w) rfl (by kernel_rfl) ?_ ?_
  · go_simp
  simp only [Act.put]
  refine rest_value (v := .chan (some C)) (w' := w) rfl (by kernel_rfl) ?_ ?_
  · go_simp
  simp only [Act.put]
  refine rest_value (v := .int .i64 x) (w' := w) rfl (by kernel_rfl) ?_ ?_
  · go_simp
  simp only [Act.put]
  refine rest_send (c := C) (cap := cap) (s := s) (r := r) (buf := buf) (v := .int .i64 x) (z := .tuple #[]) (tm := false) (w' := w) rfl (by kernel_rfl) (by simp [go_sem, execOp, scase, Act.eval]) hC hroom ?_
  refine rest_ops ?_
  simp only [wpOps, Act.put]
  exact hK

noncomputable def codeSel : Code := ((Try.f22.body.bind (findRegion 14)).getD .skip)
set_option maxRecDepth 100000 in
set_option maxHeartbeats 1600000 in
theorem reg_sel_buf (B C cap s r : Nat) (buf : Array Value) (w : World) (hC : w.heap[C]? = some (.chan cap buf false s r false)) (hsome : 0 < buf.size)
    (QQ : Exit → Act → World → Prop) {v1 v2 v3 v4 v5 v6 v7 v8 v9 v10 v11 v12 v13 v14 v15 v16 v17 v18 v19 v20 v21 v22 v23 v24 v25 v26 v27 v28 v29 v30 v31 v32 v33 v34 v35 v36 v37 v38 v39 v40 v41 v42 v44 v45 v46 v47 v48 v49 v50 v51 : Value}
    (hK : QQ .normal ⟨#[.pointer (some ⟨B, 0, none⟩), v1, v2, v3, v4, v5, v6, v7, v8, v9, v10, v11, v12, v13, v14, v15, v16, v17, v18, v19, v20, v21, v22, v23, v24, v25, v26, v27, v28, v29, v30, v31, v32, v33, v34, v35, v36, v37, v38, v39, v40, v41, v42, .chan (some C), .tuple #[goInt 0, .bool true, buf.getD 0 undef], .int .i64 0, .bool true, v47, v48, v49, v50, v51], []⟩ (w.setChan C cap (buf.extract 1 buf.size) false s (r + 1) false)) :
    Code.wp Try.prog codeSel QQ ⟨#[.pointer (some ⟨B, 0, none⟩), v1, v2, v3, v4, v5, v6, v7, v8, v9, v10, v11, v12, v13, v14, v15, v16, v17, v18, v19, v20, v21, v22, v23, v24, v25, v26, v27, v28, v29, v30, v31, v32, v33, v34, v35, v36, v37, v38, v39, v40, v41, v42, .chan (some C), v44, v45, v46, v47, v48, v49, v50, v51], []⟩ w := by
  conv => arg 2; whnf
  refine wp_of_rest ?_
  simp only [List.size_toArray, List.length_cons, List.length_nil, Nat.reduceAdd, Nat.zero_add, List.range, List.range.loop]
  refine rest_select_buf (c := C) (cap := cap) (s := s) (r := r) (buf := buf) (z := .int .i64 0) (tm := false) (closed := false) (w' := w) rfl (by kernel_rfl) (by simp [go_sem, execOp, rcase, Act.eval]) hC hsome ?_
  simp only [Act.put]
  refine rest_value (v := .int .i64 0) (w' := (w.setChan C cap (buf.extract 1 buf.size) false s (r + 1) false)) rfl (by kernel_rfl) ?_ ?_
  · go_simp
    try rfl
  simp only [Act.put]
  refine rest_value (v := .bool true) (w' := (w.setChan C cap (buf.extract 1 buf.size) false s (r + 1) false)) rfl (by kernel_rfl) ?_ ?_
  · go_simp
    try rfl
  simp only [Act.put]
  refine rest_ops ?_
  simp only [wpOps]
  exact hK
set_option maxRecDepth 100000 in
set_option maxHeartbeats 1600000 in
theorem reg_sel_none (B C cap s r : Nat) (w : World) (hC : w.heap[C]? = some (.chan cap #[] false s r false))
    (QQ : Exit → Act → World → Prop) {v1 v2 v3 v4 v5 v6 v7 v8 v9 v10 v11 v12 v13 v14 v15 v16 v17 v18 v19 v20 v21 v22 v23 v24 v25 v26 v27 v28 v29 v30 v31 v32 v33 v34 v35 v36 v37 v38 v39 v40 v41 v42 v44 v45 v46 v47 v48 v49 v50 v51 : Value}
    (hK : QQ .normal ⟨#[.pointer (some ⟨B, 0, none⟩), v1, v2, v3, v4, v5, v6, v7, v8, v9, v10, v11, v12, v13, v14, v15, v16, v17, v18, v19, v20, v21, v22, v23, v24, v25, v26, v27, v28, v29, v30, v31, v32, v33, v34, v35, v36, v37, v38, v39, v40, v41, v42, .chan (some C), .tuple #[goInt (-1), .bool false, .int .i64 0], .int .i64 (-1), .bool false, v47, v48, v49, v50, v51], []⟩ w) :
    Code.wp Try.prog codeSel QQ ⟨#[.pointer (some ⟨B, 0, none⟩), v1, v2, v3, v4, v5, v6, v7, v8, v9, v10, v11, v12, v13, v14, v15, v16, v17, v18, v19, v20, v21, v22, v23, v24, v25, v26, v27, v28, v29, v30, v31, v32, v33, v34, v35, v36, v37, v38, v39, v40, v41, v42, .chan (some C), v44, v45, v46, v47, v48, v49, v50, v51], []⟩ w := by
  conv => arg 2; whnf
  refine wp_of_rest ?_
  simp only [List.size_toArray, List.length_cons, List.length_nil, Nat.reduceAdd, Nat.zero_add, List.range, List.range.loop]
  refine rest_select_none (c := C) (cap := cap) (s := s) (r := r) (z := .int .i64 0) (tm := false) (w' := w) rfl (by kernel_rfl) (by simp [go_sem, execOp, rcase, Act.eval]) hC ?_
  simp only [Act.put]
  refine rest_value (v := .int .i64 (-1)) (w' := w) rfl (by kernel_rfl) ?_ ?_
  · go_simp
    try rfl
  simp only [Act.put]
  refine rest_value (v := .bool false) (w' := w) rfl (by kernel_rfl) ?_ ?_
  · go_simp
    try rfl
  simp only [Act.put]
  refine rest_ops ?_
  simp only [wpOps]
  exact hK
end Go.Proofs.Ytdngaohjocokiaa
