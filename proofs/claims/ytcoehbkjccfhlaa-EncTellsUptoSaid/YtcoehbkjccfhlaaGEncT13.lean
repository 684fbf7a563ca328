/- The clauses of a gate, counted. -/
import Derived.Test.YtcoehbkjccfhlaaGEncT00
import Derived.Test.YtcoehbkjccfhlaaGEncT01
import Derived.Test.YtcoehbkjccfhlaaGEncT06
import Derived.Test.YtcoehbkjccfhlaaGEncT02
import Derived.Test.YtcoehbkjccfhlaaGEncT07
import Derived.Test.YtcoehbkjccfhlaaGEncT05
import Derived.Test.YtcoehbkjccfhlaaEnFa
import Derived.Test.YtcoehbkjccfhlaaGEncT12
import Derived.Test.YtcoehbkjccfhlaaRows
import Derived.BigQuiet
import Derived.Deep.AppendLies
import Derived.Deep.CutRange
import Derived.Deep.QuietTactic
import Derived.Deep.RegionHeld3
import Derived.Deep.RegionLaw
import Derived.Deep.RegionWith
import Derived.KernelRfl
import Derived.Laws.EntriesVeiled
import Derived.Laws.Tables
import Derived.Lib.AppendStr
import Derived.Lib.AppendZeros
import Derived.Lib.ConvBytes
import Derived.Lib.Hide
import Derived.Lib.SlBytesRow
import Derived.Lib.SmallJoins
import Derived.Maps.AppendAt
import Derived.OrdersHeld
import Derived.Shelf.Bytes.SlSmallAll
import Derived.WalkKit
import Derived.WalkLawsBesides
import Derived.WalkSpells
import Derived.Test.YtcoehbkjccfhlaaGEncT03
import Derived.Test.YtcoehbkjccfhlaaGEncT11
/- A model's trace on plain lists; blocks by number. -/
namespace Go.Proofs.Ytcoehbkjccfhlaa
open Go Go.RowKit Go.Joins

/-- The values of a model's trace. -/
def initN (c : NormC) (bs : List Bool) (i : Nat) : Nat := if (c.lats.getD i (0, 0)).2 = 2 then modV bs (spotE (varsN c) (firstLatE c + i) 0) else (c.lats.getD i (0, 0)).2
def inN (c : NormC) (bs : List Bool) (f i : Nat) : Nat := modV bs (spotE (varsN c) (1 + i) f)
def u8l (v : Nat → Nat) (n : Nat) : List UInt8 := (List.range n).map fun i => UInt8.ofNat (v i)
def modT (c : NormC) (bs : List Bool) (bad : Int) (nf : Nat) : TraceC := ⟨bad, u8l (initN c bs) c.lats.length, (List.range nf).map fun f => u8l (inN c bs f) c.ins.toNat⟩
def trOk (c : NormC) (bad z : Int) (bs : List Bool) : Bool := ofOk c z && (badOk c bad && decide (1 + (1 + z.toNat * varsN c) ≤ bs.length))
/-- What Trace answers. -/
def TrE (c : NormC) (bad z : Int) (bs : List Bool) (w : World) (e : Ending) (w' : World) : Prop :=
  Below w.heap.size w w' ∧ ((trOk c bad z bs = true ∧ ∃ st : TSlots, e = .returned (.tuple #[traceV bad st, .int .i64 0]) ∧ SeesTr w' st (modT c bs bad z.toNat) ∧ st.small) ∨
    (trOk c bad z bs = false ∧ e = .returned (.tuple #[.agg #[.int .i64 0, .slice none 0 0, .slice none 0 0], .int .i64 2])))
theorem u8l_len (v : Nat → Nat) (n : Nat) : (u8l v n).length = n := by simp [u8l]
theorem sees_block8 {w : World} {g n : Nat} (v : Nat → Nat) (h : w.heap[g]? = some (.cells (fcells n (fun j => Value.int .u8 (v j : Int))) 5 (0, 0))) (hv : ∀ j, j < n → v j < 256) : Sees w (some ⟨g, 0, none⟩) n n ((u8l v n).map bv) := by
  refine ⟨by simp [u8l], Nat.le_refl _, (fun e => by cases e), fun _ => ⟨g, 0, rfl, heap_lt h, fun j hj => ?_⟩⟩
  rw [Nat.zero_add, cell_of_block h j, fcells_get _ _ _ hj]
  simp only [u8l, List.getElem?_map, List.getElem?_range hj, Option.map_some, bv]
  congr 2
  simp [UInt8.toNat_ofNat', Nat.mod_eq_of_lt (hv j hj)]
/-- Nothing old has turned but the block F. -/
structure KeepN (F : Nat) (w w' : World) : Prop where
  os : w'.os = w.os
  tape : w'.tape = w.tape
  output : w'.output = w.output
  size : w.heap.size ≤ w'.heap.size
  block : ∀ D, D < w.heap.size → D ≠ F → w'.heap[D]? = w.heap[D]?
section
variable {F g : Nat} {w w' w2 : World}
theorem KeepN.refl (F : Nat) (w : World) : KeepN F w w := ⟨rfl, rfl, rfl, Nat.le_refl _, fun _ _ _ => rfl⟩
theorem KeepN.trans (h : KeepN F w w') (k : KeepN g w' w2) (hg : g = F ∨ w.heap.size ≤ g) : KeepN F w w2 :=
  ⟨k.os.trans h.os, k.tape.trans h.tape, k.output.trans h.output, Nat.le_trans h.size k.size, fun D h1 h2 => (k.block D (Nat.lt_of_lt_of_le h1 h.size) (by rcases hg with rfl | hg; exact h2; omega)).trans (h.block D h1 h2)⟩
theorem KeepN.of (F : Nat) (h : Below w.heap.size w w') : KeepN F w w' := ⟨h.os, h.tape, h.output, h.size, fun D h1 _ => h.block D h1⟩
theorem KeepN.set (F : Nat) (w : World) (i : Nat) (v : Value) : KeepN F w (w.setCell ⟨F, i, none⟩ v) :=
  have k := (Below.refl F w).setCell (p := ⟨F, i, none⟩) (Nat.le_refl _) v
  ⟨k.os, k.tape, k.output, k.size, fun D _ h2 => Below.heap_setCell w ⟨F, i, none⟩ v D h2⟩
theorem KeepN.at_ (h : KeepN F w w') {D : Nat} {o : Obj} (hD : w.heap[D]? = some o) (hF : D ≠ F) : w'.heap[D]? = some o := (h.block D (heap_lt hD) hF).trans hD
theorem KeepN.below {base : World} (h : KeepN F w w') (hb : Below base.heap.size base w) (hF : base.heap.size ≤ F) : Below base.heap.size base w' :=
  ⟨h.os.trans hb.os, h.tape.trans hb.tape, h.output.trans hb.output, Nat.le_trans hb.size h.size, fun D hD => (h.block D (Nat.lt_of_lt_of_le hD hb.size) (by omega)).trans (hb.block D hD)⟩
end
theorem initN_le {c : NormC} (h : MayC c) (bs : List Bool) (i : Nat) (hi : i < c.lats.length) : initN c bs i ≤ 2 := by
  have := h.lats (c.lats.getD i (0, 0)) (getD_mem hi)
  have := modV_le bs (spotE (varsN c) (firstLatE c + i) 0)
  unfold initN
  split <;> omega
theorem inN_le (c : NormC) (bs : List Bool) (f i : Nat) : inN c bs f i ≤ 2 := Nat.le_trans (modV_le _ _) (by omega)
end Go.Proofs.Ytcoehbkjccfhlaa
/- A region of a function's body, taken out by its number. -/
namespace Go.Proofs.Ytcoehbkjccfhlaa
open Go
def findRegion (n : Nat) : Code → Option Code
  | .region k o d => if k = n then some (.region k o d) else none
  | .seq a b => match findRegion n a with
    | some c => some c
    | none => findRegion n b
  | .block _ c => findRegion n c
  | .scope c => findRegion n c
  | .loop c => findRegion n c
  | .cond _ a b => match findRegion n a with
    | some c => some c
    | none => findRegion n b
  | _ => none
end Go.Proofs.Ytcoehbkjccfhlaa
/- A drawn region of enc.Relaxed: the row and the first switch. -/
namespace Go.Proofs.Ytcoehbkjccfhlaa
open Go Go.RowKit Go.Joins

noncomputable def codeRx4 : Code := ((Try.f14.body.bind (findRegion 4)).getD .skip)
set_option maxRecDepth 100000 in
set_option maxHeartbeats 6400000 in
theorem reg_Rx4 (w X0 : World) (U Lb Fb m r first : Nat) (x : Int) (V nf : Nat) (a1 a2 a3 a4 a5 : Option Addr) (n1 c1 n2 c2 n3 c3 n4 c4 n5 c5 : Nat)
    (HU : Hid (X0.heap[U]? = some (.cells #[.int .i64 x, .slice a1 n1 c1, .slice a2 n2 c2, .slice a3 n3 c3, .slice a4 n4 c4, .slice a5 n5 c5, .int .i64 (V : Int), .int .i64 (nf : Int)] 67 (0, 0)))) (HL : Hid (X0.heap[Lb]? = some (.cells #[.slice none 0 0] 39 (0, 0)))) (HF : Hid (X0.heap[Fb]? = some (.cells #[.int .i64 0] 3 (0, 0))))
    (HB : Hid (Below w.heap.size w X0)) (hL : w.heap.size ≤ Lb) (hF : w.heap.size ≤ Fb) (hm : m ≤ 1048576) (hr : r ≤ 100000000) (hf : first = r + 1)
    (HMN : Hid (∀ W, Below X0.heap.size X0 W → Calls Try.prog 38 #[.agg #[.int .i64 x, .slice a1 n1 c1, .slice a2 n2 c2, .slice a3 n3 c3, .slice a4 n4 c4, .slice a5 n5 c5, .int .i64 (V : Int), .int .i64 (nf : Int)]] W fun e w' => e = .returned (.int .i64 (m : Int)) ∧ Below W.heap.size W w'))
    (HLA : Hid (∀ W, Calls Try.prog 31 #[.agg #[.int .i64 x, .slice a1 n1 c1, .slice a2 n2 c2, .slice a3 n3 c3, .slice a4 n4 c4, .slice a5 n5 c5, .int .i64 (V : Int), .int .i64 (nf : Int)]] W fun e w' => e = .returned (.int .i64 (r : Int)) ∧ Below W.heap.size W w'))
    (QQ : Exit → Act → World → Prop)
    {v0 v1 v2 v3 v6 v8 v9 v10 v11 v12 v13 v14 v15 v16 v17 v18 v19 v20 v21 v22 v23 v24 v25 v26 v27 : Value}
    (hK : ∀ (g : Nat) (W : World) (u17 u18 u19 u20 u21 u22 : Value), W.heap[g]? = some (.cells (zeros (.slice none 0 0) m) 45 (0, 0)) → w.heap.size ≤ g → W.heap[Lb]? = some (.cells #[.slice (some ⟨g, 0, none⟩) 0 m] 39 (0, 0)) → W.heap[Fb]? = some (.cells #[.int .i64 (first : Int)] 3 (0, 0)) → W.heap[U]? = some (.cells #[.int .i64 x, .slice a1 n1 c1, .slice a2 n2 c2, .slice a3 n3 c3, .slice a4 n4 c4, .slice a5 n5 c5, .int .i64 (V : Int), .int .i64 (nf : Int)] 67 (0, 0)) → Below w.heap.size w W →
      QQ .normal ⟨#[v0, v1, v2, v3, .pointer (some ⟨Lb, 0, .none⟩), .pointer (some ⟨Fb, 0, .none⟩), v6, .pointer (some ⟨U, 0, .none⟩), v8, v9, v10, v11, v12, v13, v14, v15, v16, u17, u18, u19, u20, u21, u22, v23, v24, v25, v26, v27], []⟩ W) :
    Code.wp Try.prog codeRx4 QQ ⟨#[v0, v1, v2, v3, .pointer (some ⟨Lb, 0, .none⟩), .pointer (some ⟨Fb, 0, .none⟩), v6, .pointer (some ⟨U, 0, .none⟩), v8, v9, v10, v11, v12, v13, v14, v15, v16, v17, v18, v19, v20, v21, v22, v23, v24, v25, v26, v27], []⟩ X0 := by
  have HKK := Lib.hid hK
  have hLU : Lb ≠ U := by intro e; subst e; have := HU.out; rw [HL.out] at this; cases this
  have hFU : Fb ≠ U := by intro e; subst e; have := HU.out; rw [HF.out] at this; cases this
  have hLF : Lb ≠ Fb := by intro e; subst e; have := HF.out; rw [HL.out] at this; cases this
  obtain ⟨i0, hi, hz0, hz1, hz2⟩ := info_parts info_zs
  have mk := fun W => run_make_cap (P := Try.prog) Try.underlying39 hi hz0 hz1 hz2 rfl m (m : Int) rfl (by omega) (by omega) W
  have W5 : IntKind.i64.wrap ((r : Int) + 1) = (first : Int) := by rw [show (r : Int) + 1 = (first : Int) by omega]; exact IntWalk.i64_in _ (by omega)
  have HLU := Lib.hid hLU
  have HFU := Lib.hid hFU
  have HLF := Lib.hid hLF
  have HL0 := Lib.hid hL
  have HF0 := Lib.hid hF
  clear hK hLU hFU hLF hL hF hm hr hf
  have p0 : X0.cell? ⟨U, 0, none⟩ = some (.int .i64 x) := cell_of_block HU.out 0
  have p1 : X0.cell? ⟨U, 1, none⟩ = some (.slice a1 n1 c1) := cell_of_block HU.out 1
  have p2 : X0.cell? ⟨U, 2, none⟩ = some (.slice a2 n2 c2) := cell_of_block HU.out 2
  have p3 : X0.cell? ⟨U, 3, none⟩ = some (.slice a3 n3 c3) := cell_of_block HU.out 3
  have p4 : X0.cell? ⟨U, 4, none⟩ = some (.slice a4 n4 c4) := cell_of_block HU.out 4
  have p5 : X0.cell? ⟨U, 5, none⟩ = some (.slice a5 n5 c5) := cell_of_block HU.out 5
  have p6 : X0.cell? ⟨U, 6, none⟩ = some (.int .i64 (V : Int)) := cell_of_block HU.out 6
  have p7 : X0.cell? ⟨U, 7, none⟩ = some (.int .i64 (nf : Int)) := cell_of_block HU.out 7
  conv => arg 2; whnf
  refine wp_region_noPanic ?_
  refine wp_region_held (S := fun w' => w'.cell? ⟨U, 0, none⟩ = some (.int .i64 x) ∧ w'.cell? ⟨U, 1, none⟩ = some (.slice a1 n1 c1) ∧ w'.cell? ⟨U, 2, none⟩ = some (.slice a2 n2 c2) ∧ w'.cell? ⟨U, 3, none⟩ = some (.slice a3 n3 c3) ∧ w'.cell? ⟨U, 4, none⟩ = some (.slice a4 n4 c4) ∧ w'.cell? ⟨U, 5, none⟩ = some (.slice a5 n5 c5) ∧ w'.cell? ⟨U, 6, none⟩ = some (.int .i64 (V : Int)) ∧ w'.cell? ⟨U, 7, none⟩ = some (.int .i64 (nf : Int))) (by kernel_rfl) ?_
  generalize hYY : ({ X0 with drawn := X0.drawn + 1 } : World) = Y0
  have HY0 : Hid (Below X0.heap.size X0 Y0) := by subst hYY; exact (Below.refl _ _).drew
  have HS0 : Hid (Y0.cell? ⟨U, 0, none⟩ = some (.int .i64 x) ∧ Y0.cell? ⟨U, 1, none⟩ = some (.slice a1 n1 c1) ∧ Y0.cell? ⟨U, 2, none⟩ = some (.slice a2 n2 c2) ∧ Y0.cell? ⟨U, 3, none⟩ = some (.slice a3 n3 c3) ∧ Y0.cell? ⟨U, 4, none⟩ = some (.slice a4 n4 c4) ∧ Y0.cell? ⟨U, 5, none⟩ = some (.slice a5 n5 c5) ∧ Y0.cell? ⟨U, 6, none⟩ = some (.int .i64 (V : Int)) ∧ Y0.cell? ⟨U, 7, none⟩ = some (.int .i64 (nf : Int))) := ⟨cell_below p0 HY0.out, cell_below p1 HY0.out, cell_below p2 HY0.out, cell_below p3 HY0.out, cell_below p4 HY0.out, cell_below p5 HY0.out, cell_below p6 HY0.out, cell_below p7 HY0.out⟩
  clear hYY
  clear p0 p1 p2 p3 p4 p5 p6 p7
  refine wpAnyH_take (i := 0) (v := ?_) (by simp only [List.getElem?_toArray, List.getElem?_cons_zero]; rfl) (by kernel_rfl) (by kernel_rfl) (by kernel_rfl) (fun _ _ _ h => h) (Or.inl ⟨by rfl, ?_⟩) HS0.out ?_
  rotate_left
  · intro w hSw
    (try dsimp only at hSw)
    obtain ⟨q0_, q1_, q2_, q3_, q4_, q5_, q6_, q7_⟩ := hSw
    go_simp
    try with_reducible rfl
  try simp only [Act.put, List.setIfInBounds_toArray, List.set_cons_zero, List.set_cons_succ]
  refine wpAnyH_take (i := 3) (v := ?_) (by simp only [List.getElem?_toArray, List.getElem?_cons_zero, List.getElem?_cons_succ]; rfl) (by kernel_rfl) (by kernel_rfl) (by kernel_rfl) (fun _ _ _ h => h) (Or.inl ⟨by rfl, ?_⟩) HS0.out ?_
  rotate_left
  · intro w hSw
    (try dsimp only at hSw)
    obtain ⟨q0_, q1_, q2_, q3_, q4_, q5_, q6_, q7_⟩ := hSw
    go_simp
    try with_reducible rfl
  try simp only [Act.put, List.setIfInBounds_toArray, List.set_cons_zero, List.set_cons_succ]
  refine wpAnyH_ready (rs := [1]) (by kernel_rfl) (by simp) ?_
  refine AllReadyH.cons (by simp only [List.getElem?_toArray, List.getElem?_cons_zero, List.getElem?_cons_succ]; rfl) (fun K hK => ?_) AllReadyH.nil
  go_simp
  refine (HMN.out _ HY0.out).mono ?_
  rintro e s1 ⟨rfl, b1⟩
  have HY1 := Lib.hid (ext_trans HY0.out b1)
  have HS1 : Hid (s1.cell? ⟨U, 0, none⟩ = some (.int .i64 x) ∧ s1.cell? ⟨U, 1, none⟩ = some (.slice a1 n1 c1) ∧ s1.cell? ⟨U, 2, none⟩ = some (.slice a2 n2 c2) ∧ s1.cell? ⟨U, 3, none⟩ = some (.slice a3 n3 c3) ∧ s1.cell? ⟨U, 4, none⟩ = some (.slice a4 n4 c4) ∧ s1.cell? ⟨U, 5, none⟩ = some (.slice a5 n5 c5) ∧ s1.cell? ⟨U, 6, none⟩ = some (.int .i64 (V : Int)) ∧ s1.cell? ⟨U, 7, none⟩ = some (.int .i64 (nf : Int))) := ⟨cell_below HS0.out.1 b1, cell_below HS0.out.2.1 b1, cell_below HS0.out.2.2.1 b1, cell_below HS0.out.2.2.2.1 b1, cell_below HS0.out.2.2.2.2.1 b1, cell_below HS0.out.2.2.2.2.2.1 b1, cell_below HS0.out.2.2.2.2.2.2.1 b1, cell_below HS0.out.2.2.2.2.2.2.2 b1⟩
  refine hK.out _ _ HS1.out (fun _ => ?_)
  clear hK K
  try simp only [Act.put, List.setIfInBounds_toArray, List.set_cons_zero, List.set_cons_succ]
  clear b1
  refine wpAnyH_ready (rs := [2, 4]) (by kernel_rfl) (by simp) ?_
  refine AllReadyH.cons (by simp only [List.getElem?_toArray, List.getElem?_cons_zero, List.getElem?_cons_succ]; rfl) (fun K hK => ?_) (AllReadyH.cons (by simp only [List.getElem?_toArray, List.getElem?_cons_zero, List.getElem?_cons_succ]; rfl) (fun K hK => ?_) AllReadyH.nil)
  · go_simp
    generalize hYV : World.alloc s1 _ = M1
    have HY_M1 : Hid (Below X0.heap.size X0 M1) := by subst hYV; exact ext_trans HY1.out (ext_alloc _ _)
    have HG_M1 : Hid (M1.heap[s1.heap.size]? = some (.cells (zeros (.slice none 0 0) m) 45 (0, 0))) := by subst hYV; exact heap_new _ _ _ rfl
    have HB_M1 : Hid (Below s1.heap.size s1 M1) := by subst hYV; exact ext_alloc _ _
    clear hYV
    have HS_M1 : Hid (M1.cell? ⟨U, 0, none⟩ = some (.int .i64 x) ∧ M1.cell? ⟨U, 1, none⟩ = some (.slice a1 n1 c1) ∧ M1.cell? ⟨U, 2, none⟩ = some (.slice a2 n2 c2) ∧ M1.cell? ⟨U, 3, none⟩ = some (.slice a3 n3 c3) ∧ M1.cell? ⟨U, 4, none⟩ = some (.slice a4 n4 c4) ∧ M1.cell? ⟨U, 5, none⟩ = some (.slice a5 n5 c5) ∧ M1.cell? ⟨U, 6, none⟩ = some (.int .i64 (V : Int)) ∧ M1.cell? ⟨U, 7, none⟩ = some (.int .i64 (nf : Int))) := ⟨cell_below HS1.out.1 HB_M1.out, cell_below HS1.out.2.1 HB_M1.out, cell_below HS1.out.2.2.1 HB_M1.out, cell_below HS1.out.2.2.2.1 HB_M1.out, cell_below HS1.out.2.2.2.2.1 HB_M1.out, cell_below HS1.out.2.2.2.2.2.1 HB_M1.out, cell_below HS1.out.2.2.2.2.2.2.1 HB_M1.out, cell_below HS1.out.2.2.2.2.2.2.2 HB_M1.out⟩
    have HGW : Hid (w.heap.size ≤ s1.heap.size) := Nat.le_trans HB.out.size HY1.out.size
    refine hK.out _ _ HS_M1.out (fun _ => ?_)
    clear hK K
    try simp only [Act.put, List.setIfInBounds_toArray, List.set_cons_zero, List.set_cons_succ]
    refine wpAnyH_ready (rs := [4]) (by kernel_rfl) (by simp) ?_
    refine AllReadyH.cons (by simp only [List.getElem?_toArray, List.getElem?_cons_zero, List.getElem?_cons_succ]; rfl) (fun K hK => ?_) AllReadyH.nil
    go_simp
    refine (HLA.out _).mono ?_
    rintro e s2 ⟨rfl, b1⟩
    have HY2 := Lib.hid (ext_trans HY_M1.out b1)
    have HG2 := Lib.hid (heap_below HG_M1.out b1)
    have HS2 : Hid (s2.cell? ⟨U, 0, none⟩ = some (.int .i64 x) ∧ s2.cell? ⟨U, 1, none⟩ = some (.slice a1 n1 c1) ∧ s2.cell? ⟨U, 2, none⟩ = some (.slice a2 n2 c2) ∧ s2.cell? ⟨U, 3, none⟩ = some (.slice a3 n3 c3) ∧ s2.cell? ⟨U, 4, none⟩ = some (.slice a4 n4 c4) ∧ s2.cell? ⟨U, 5, none⟩ = some (.slice a5 n5 c5) ∧ s2.cell? ⟨U, 6, none⟩ = some (.int .i64 (V : Int)) ∧ s2.cell? ⟨U, 7, none⟩ = some (.int .i64 (nf : Int))) := ⟨cell_below HS_M1.out.1 b1, cell_below HS_M1.out.2.1 b1, cell_below HS_M1.out.2.2.1 b1, cell_below HS_M1.out.2.2.2.1 b1, cell_below HS_M1.out.2.2.2.2.1 b1, cell_below HS_M1.out.2.2.2.2.2.1 b1, cell_below HS_M1.out.2.2.2.2.2.2.1 b1, cell_below HS_M1.out.2.2.2.2.2.2.2 b1⟩
    refine hK.out _ _ HS2.out (fun _ => ?_)
    clear hK K
    try simp only [Act.put, List.setIfInBounds_toArray, List.set_cons_zero, List.set_cons_succ]
    clear b1
    refine wpAnyH_take (i := 5) (v := ?_) (by simp only [List.getElem?_toArray, List.getElem?_cons_zero, List.getElem?_cons_succ]; rfl) (by kernel_rfl) (by kernel_rfl) (by kernel_rfl) (fun _ _ _ h => h) (Or.inl ⟨by rfl, ?_⟩) HS2.out ?_
    rotate_left
    · intro w hSw
      (try dsimp only at hSw)
      obtain ⟨q0_, q1_, q2_, q3_, q4_, q5_, q6_, q7_⟩ := hSw
      go_simp
      try with_reducible rfl
    try simp only [Act.put, List.setIfInBounds_toArray, List.set_cons_zero, List.set_cons_succ]
    have hl := heap_below HL.out HY2.out
    have hfb := heap_below HF.out HY2.out
    have d0 : s2.cell? ⟨Lb, 0, none⟩ = some (.slice none 0 0) := cell_of_block hl 0
    have y0 := unfrozen_of_block hl 0
    refine wpAnyH_ready (rs := [6]) (by kernel_rfl) (by simp) ?_
    refine AllReadyH.cons (by simp only [List.getElem?_toArray, List.getElem?_cons_zero, List.getElem?_cons_succ]; rfl) (fun K hK => ?_) AllReadyH.nil
    go_simp
    generalize hT1 : World.setCell s2 _ _ = T1
    have kT : ∀ D, D ≠ Lb → T1.heap[D]? = s2.heap[D]? := by subst hT1; intro D hD; exact Below.heap_setCell s2 ⟨Lb, 0, .none⟩ _ D hD
    have hl1 : T1.heap[Lb]? = some (.cells #[.slice (some ⟨s1.heap.size, 0, none⟩) 0 m] 39 (0, 0)) := by subst hT1; simpa using block_setCell hl (i := 0) (.slice (some ⟨s1.heap.size, 0, none⟩) 0 m)
    have hb1 : Below w.heap.size w T1 := by subst hT1; exact (ext_trans HB.out HY2.out).setCell (p := ⟨Lb, 0, .none⟩) HL0.out _
    clear hT1 d0 y0
    have HT1 := Lib.hid kT
    have HL1 := Lib.hid hl1
    have HB1 := Lib.hid hb1
    have hfb1 : T1.heap[Fb]? = some (.cells #[.int .i64 0] 3 (0, 0)) := (HT1.out Fb (Ne.symm HLF.out)).trans hfb
    have HU1 : Hid (T1.heap[U]? = some (.cells #[.int .i64 x, .slice a1 n1 c1, .slice a2 n2 c2, .slice a3 n3 c3, .slice a4 n4 c4, .slice a5 n5 c5, .int .i64 (V : Int), .int .i64 (nf : Int)] 67 (0, 0))) := (HT1.out U (Ne.symm HLU.out)).trans (heap_below HU.out HY2.out)
    have HST : Hid (T1.cell? ⟨U, 0, none⟩ = some (.int .i64 x) ∧ T1.cell? ⟨U, 1, none⟩ = some (.slice a1 n1 c1) ∧ T1.cell? ⟨U, 2, none⟩ = some (.slice a2 n2 c2) ∧ T1.cell? ⟨U, 3, none⟩ = some (.slice a3 n3 c3) ∧ T1.cell? ⟨U, 4, none⟩ = some (.slice a4 n4 c4) ∧ T1.cell? ⟨U, 5, none⟩ = some (.slice a5 n5 c5) ∧ T1.cell? ⟨U, 6, none⟩ = some (.int .i64 (V : Int)) ∧ T1.cell? ⟨U, 7, none⟩ = some (.int .i64 (nf : Int))) := ⟨cell_of_block HU1.out 0, cell_of_block HU1.out 1, cell_of_block HU1.out 2, cell_of_block HU1.out 3, cell_of_block HU1.out 4, cell_of_block HU1.out 5, cell_of_block HU1.out 6, cell_of_block HU1.out 7⟩
    clear kT hl1 hb1 hl
    refine hK.out _ _ HST.out (fun _ => ?_)
    clear hK K
    try simp only [Act.put, List.setIfInBounds_toArray, List.set_cons_zero, List.set_cons_succ]
    have d0 : T1.cell? ⟨Fb, 0, none⟩ = some (.int .i64 0) := cell_of_block hfb1 0
    have y0 := unfrozen_of_block hfb1 0
    refine wpAnyH_ready (rs := [7]) (by kernel_rfl) (by simp) ?_
    refine AllReadyH.cons (by simp only [List.getElem?_toArray, List.getElem?_cons_zero, List.getElem?_cons_succ]; rfl) (fun K hK => ?_) AllReadyH.nil
    go_simp
    generalize hT2 : World.setCell T1 _ _ = T2
    have kT : ∀ D, D ≠ Fb → T2.heap[D]? = T1.heap[D]? := by subst hT2; intro D hD; exact Below.heap_setCell T1 ⟨Fb, 0, .none⟩ _ D hD
    have hf2 : T2.heap[Fb]? = some (.cells #[.int .i64 (first : Int)] 3 (0, 0)) := by subst hT2; simpa using block_setCell hfb1 (i := 0) (.int .i64 (first : Int))
    have hb2 : Below w.heap.size w T2 := by subst hT2; exact HB1.out.setCell (p := ⟨Fb, 0, .none⟩) HF0.out _
    clear hT2 d0 y0 hfb hfb1
    have HT2 := Lib.hid kT
    have HF2 := Lib.hid hf2
    have HB2 := Lib.hid hb2
    clear kT hf2 hb2
    have HU2 : Hid (T2.heap[U]? = some (.cells #[.int .i64 x, .slice a1 n1 c1, .slice a2 n2 c2, .slice a3 n3 c3, .slice a4 n4 c4, .slice a5 n5 c5, .int .i64 (V : Int), .int .i64 (nf : Int)] 67 (0, 0))) := (HT2.out U (Ne.symm HFU.out)).trans HU1.out
    have HST2 : Hid (T2.cell? ⟨U, 0, none⟩ = some (.int .i64 x) ∧ T2.cell? ⟨U, 1, none⟩ = some (.slice a1 n1 c1) ∧ T2.cell? ⟨U, 2, none⟩ = some (.slice a2 n2 c2) ∧ T2.cell? ⟨U, 3, none⟩ = some (.slice a3 n3 c3) ∧ T2.cell? ⟨U, 4, none⟩ = some (.slice a4 n4 c4) ∧ T2.cell? ⟨U, 5, none⟩ = some (.slice a5 n5 c5) ∧ T2.cell? ⟨U, 6, none⟩ = some (.int .i64 (V : Int)) ∧ T2.cell? ⟨U, 7, none⟩ = some (.int .i64 (nf : Int))) := ⟨cell_of_block HU2.out 0, cell_of_block HU2.out 1, cell_of_block HU2.out 2, cell_of_block HU2.out 3, cell_of_block HU2.out 4, cell_of_block HU2.out 5, cell_of_block HU2.out 6, cell_of_block HU2.out 7⟩
    refine hK.out _ _ HST2.out (fun _ => ?_)
    clear hK K
    try simp only [Act.put, List.setIfInBounds_toArray, List.set_cons_zero, List.set_cons_succ]
    refine wpAnyH_done (by kernel_rfl) ?_ _
    refine NoPanic.normal ?_
    have hgg := HG2.out
    have hgL : s1.heap.size ≠ Lb := by intro e; rw [e, heap_below HL.out HY2.out] at hgg; injection hgg with h1; injection h1 with _ h2; exact absurd h2 (by decide)
    have hgF : s1.heap.size ≠ Fb := by intro e; rw [e, heap_below HF.out HY2.out] at hgg; injection hgg with h1; injection h1 with _ h2; exact absurd h2 (by decide)
    exact HKK.out s1.heap.size T2 _ _ _ _ _ _ ((HT2.out _ hgF).trans ((HT1.out _ hgL).trans hgg)) HGW.out ((HT2.out _ HLF.out).trans HL1.out) HF2.out HU2.out HB2.out
  · go_simp
    refine (HLA.out _).mono ?_
    rintro e s2 ⟨rfl, b1⟩
    have HY2 := Lib.hid (ext_trans HY1.out b1)
    have HS2 : Hid (s2.cell? ⟨U, 0, none⟩ = some (.int .i64 x) ∧ s2.cell? ⟨U, 1, none⟩ = some (.slice a1 n1 c1) ∧ s2.cell? ⟨U, 2, none⟩ = some (.slice a2 n2 c2) ∧ s2.cell? ⟨U, 3, none⟩ = some (.slice a3 n3 c3) ∧ s2.cell? ⟨U, 4, none⟩ = some (.slice a4 n4 c4) ∧ s2.cell? ⟨U, 5, none⟩ = some (.slice a5 n5 c5) ∧ s2.cell? ⟨U, 6, none⟩ = some (.int .i64 (V : Int)) ∧ s2.cell? ⟨U, 7, none⟩ = some (.int .i64 (nf : Int))) := ⟨cell_below HS1.out.1 b1, cell_below HS1.out.2.1 b1, cell_below HS1.out.2.2.1 b1, cell_below HS1.out.2.2.2.1 b1, cell_below HS1.out.2.2.2.2.1 b1, cell_below HS1.out.2.2.2.2.2.1 b1, cell_below HS1.out.2.2.2.2.2.2.1 b1, cell_below HS1.out.2.2.2.2.2.2.2 b1⟩
    refine hK.out _ _ HS2.out (fun _ => ?_)
    clear hK K
    try simp only [Act.put, List.setIfInBounds_toArray, List.set_cons_zero, List.set_cons_succ]
    clear b1
    refine wpAnyH_take (i := 5) (v := ?_) (by simp only [List.getElem?_toArray, List.getElem?_cons_zero, List.getElem?_cons_succ]; rfl) (by kernel_rfl) (by kernel_rfl) (by kernel_rfl) (fun _ _ _ h => h) (Or.inl ⟨by rfl, ?_⟩) HS2.out ?_
    rotate_left
    · intro w hSw
      (try dsimp only at hSw)
      obtain ⟨q0_, q1_, q2_, q3_, q4_, q5_, q6_, q7_⟩ := hSw
      go_simp
      try with_reducible rfl
    try simp only [Act.put, List.setIfInBounds_toArray, List.set_cons_zero, List.set_cons_succ]
    refine wpAnyH_ready (rs := [2]) (by kernel_rfl) (by simp) ?_
    refine AllReadyH.cons (by simp only [List.getElem?_toArray, List.getElem?_cons_zero, List.getElem?_cons_succ]; rfl) (fun K hK => ?_) AllReadyH.nil
    go_simp
    generalize hYV : World.alloc s2 _ = M2
    have HY_M2 : Hid (Below X0.heap.size X0 M2) := by subst hYV; exact ext_trans HY2.out (ext_alloc _ _)
    have HG_M2 : Hid (M2.heap[s2.heap.size]? = some (.cells (zeros (.slice none 0 0) m) 45 (0, 0))) := by subst hYV; exact heap_new _ _ _ rfl
    have HB_M2 : Hid (Below s2.heap.size s2 M2) := by subst hYV; exact ext_alloc _ _
    clear hYV
    have HS_M2 : Hid (M2.cell? ⟨U, 0, none⟩ = some (.int .i64 x) ∧ M2.cell? ⟨U, 1, none⟩ = some (.slice a1 n1 c1) ∧ M2.cell? ⟨U, 2, none⟩ = some (.slice a2 n2 c2) ∧ M2.cell? ⟨U, 3, none⟩ = some (.slice a3 n3 c3) ∧ M2.cell? ⟨U, 4, none⟩ = some (.slice a4 n4 c4) ∧ M2.cell? ⟨U, 5, none⟩ = some (.slice a5 n5 c5) ∧ M2.cell? ⟨U, 6, none⟩ = some (.int .i64 (V : Int)) ∧ M2.cell? ⟨U, 7, none⟩ = some (.int .i64 (nf : Int))) := ⟨cell_below HS2.out.1 HB_M2.out, cell_below HS2.out.2.1 HB_M2.out, cell_below HS2.out.2.2.1 HB_M2.out, cell_below HS2.out.2.2.2.1 HB_M2.out, cell_below HS2.out.2.2.2.2.1 HB_M2.out, cell_below HS2.out.2.2.2.2.2.1 HB_M2.out, cell_below HS2.out.2.2.2.2.2.2.1 HB_M2.out, cell_below HS2.out.2.2.2.2.2.2.2 HB_M2.out⟩
    have HGW : Hid (w.heap.size ≤ s2.heap.size) := Nat.le_trans HB.out.size HY2.out.size
    refine hK.out _ _ HS_M2.out (fun _ => ?_)
    clear hK K
    try simp only [Act.put, List.setIfInBounds_toArray, List.set_cons_zero, List.set_cons_succ]
    have hl := heap_below HL.out HY_M2.out
    have hfb := heap_below HF.out HY_M2.out
    have d0 : M2.cell? ⟨Lb, 0, none⟩ = some (.slice none 0 0) := cell_of_block hl 0
    have y0 := unfrozen_of_block hl 0
    refine wpAnyH_ready (rs := [6]) (by kernel_rfl) (by simp) ?_
    refine AllReadyH.cons (by simp only [List.getElem?_toArray, List.getElem?_cons_zero, List.getElem?_cons_succ]; rfl) (fun K hK => ?_) AllReadyH.nil
    go_simp
    generalize hT1 : World.setCell M2 _ _ = T1
    have kT : ∀ D, D ≠ Lb → T1.heap[D]? = M2.heap[D]? := by subst hT1; intro D hD; exact Below.heap_setCell M2 ⟨Lb, 0, .none⟩ _ D hD
    have hl1 : T1.heap[Lb]? = some (.cells #[.slice (some ⟨s2.heap.size, 0, none⟩) 0 m] 39 (0, 0)) := by subst hT1; simpa using block_setCell hl (i := 0) (.slice (some ⟨s2.heap.size, 0, none⟩) 0 m)
    have hb1 : Below w.heap.size w T1 := by subst hT1; exact (ext_trans HB.out HY_M2.out).setCell (p := ⟨Lb, 0, .none⟩) HL0.out _
    clear hT1 d0 y0
    have HT1 := Lib.hid kT
    have HL1 := Lib.hid hl1
    have HB1 := Lib.hid hb1
    have hfb1 : T1.heap[Fb]? = some (.cells #[.int .i64 0] 3 (0, 0)) := (HT1.out Fb (Ne.symm HLF.out)).trans hfb
    have HU1 : Hid (T1.heap[U]? = some (.cells #[.int .i64 x, .slice a1 n1 c1, .slice a2 n2 c2, .slice a3 n3 c3, .slice a4 n4 c4, .slice a5 n5 c5, .int .i64 (V : Int), .int .i64 (nf : Int)] 67 (0, 0))) := (HT1.out U (Ne.symm HLU.out)).trans (heap_below HU.out HY_M2.out)
    have HST : Hid (T1.cell? ⟨U, 0, none⟩ = some (.int .i64 x) ∧ T1.cell? ⟨U, 1, none⟩ = some (.slice a1 n1 c1) ∧ T1.cell? ⟨U, 2, none⟩ = some (.slice a2 n2 c2) ∧ T1.cell? ⟨U, 3, none⟩ = some (.slice a3 n3 c3) ∧ T1.cell? ⟨U, 4, none⟩ = some (.slice a4 n4 c4) ∧ T1.cell? ⟨U, 5, none⟩ = some (.slice a5 n5 c5) ∧ T1.cell? ⟨U, 6, none⟩ = some (.int .i64 (V : Int)) ∧ T1.cell? ⟨U, 7, none⟩ = some (.int .i64 (nf : Int))) := ⟨cell_of_block HU1.out 0, cell_of_block HU1.out 1, cell_of_block HU1.out 2, cell_of_block HU1.out 3, cell_of_block HU1.out 4, cell_of_block HU1.out 5, cell_of_block HU1.out 6, cell_of_block HU1.out 7⟩
    clear kT hl1 hb1 hl
    refine hK.out _ _ HST.out (fun _ => ?_)
    clear hK K
    try simp only [Act.put, List.setIfInBounds_toArray, List.set_cons_zero, List.set_cons_succ]
    have d0 : T1.cell? ⟨Fb, 0, none⟩ = some (.int .i64 0) := cell_of_block hfb1 0
    have y0 := unfrozen_of_block hfb1 0
    refine wpAnyH_ready (rs := [7]) (by kernel_rfl) (by simp) ?_
    refine AllReadyH.cons (by simp only [List.getElem?_toArray, List.getElem?_cons_zero, List.getElem?_cons_succ]; rfl) (fun K hK => ?_) AllReadyH.nil
    go_simp
    generalize hT2 : World.setCell T1 _ _ = T2
    have kT : ∀ D, D ≠ Fb → T2.heap[D]? = T1.heap[D]? := by subst hT2; intro D hD; exact Below.heap_setCell T1 ⟨Fb, 0, .none⟩ _ D hD
    have hf2 : T2.heap[Fb]? = some (.cells #[.int .i64 (first : Int)] 3 (0, 0)) := by subst hT2; simpa using block_setCell hfb1 (i := 0) (.int .i64 (first : Int))
    have hb2 : Below w.heap.size w T2 := by subst hT2; exact HB1.out.setCell (p := ⟨Fb, 0, .none⟩) HF0.out _
    clear hT2 d0 y0 hfb hfb1
    have HT2 := Lib.hid kT
    have HF2 := Lib.hid hf2
    have HB2 := Lib.hid hb2
    clear kT hf2 hb2
    have HU2 : Hid (T2.heap[U]? = some (.cells #[.int .i64 x, .slice a1 n1 c1, .slice a2 n2 c2, .slice a3 n3 c3, .slice a4 n4 c4, .slice a5 n5 c5, .int .i64 (V : Int), .int .i64 (nf : Int)] 67 (0, 0))) := (HT2.out U (Ne.symm HFU.out)).trans HU1.out
    have HST2 : Hid (T2.cell? ⟨U, 0, none⟩ = some (.int .i64 x) ∧ T2.cell? ⟨U, 1, none⟩ = some (.slice a1 n1 c1) ∧ T2.cell? ⟨U, 2, none⟩ = some (.slice a2 n2 c2) ∧ T2.cell? ⟨U, 3, none⟩ = some (.slice a3 n3 c3) ∧ T2.cell? ⟨U, 4, none⟩ = some (.slice a4 n4 c4) ∧ T2.cell? ⟨U, 5, none⟩ = some (.slice a5 n5 c5) ∧ T2.cell? ⟨U, 6, none⟩ = some (.int .i64 (V : Int)) ∧ T2.cell? ⟨U, 7, none⟩ = some (.int .i64 (nf : Int))) := ⟨cell_of_block HU2.out 0, cell_of_block HU2.out 1, cell_of_block HU2.out 2, cell_of_block HU2.out 3, cell_of_block HU2.out 4, cell_of_block HU2.out 5, cell_of_block HU2.out 6, cell_of_block HU2.out 7⟩
    refine hK.out _ _ HST2.out (fun _ => ?_)
    clear hK K
    try simp only [Act.put, List.setIfInBounds_toArray, List.set_cons_zero, List.set_cons_succ]
    refine wpAnyH_done (by kernel_rfl) ?_ _
    refine NoPanic.normal ?_
    have hgg := HG_M2.out
    have hgL : s2.heap.size ≠ Lb := by intro e; rw [e, heap_below HL.out HY_M2.out] at hgg; injection hgg with h1; injection h1 with _ h2; exact absurd h2 (by decide)
    have hgF : s2.heap.size ≠ Fb := by intro e; rw [e, heap_below HF.out HY_M2.out] at hgg; injection hgg with h1; injection h1 with _ h2; exact absurd h2 (by decide)
    exact HKK.out s2.heap.size T2 _ _ _ _ _ _ ((HT2.out _ hgF).trans ((HT1.out _ hgL).trans hgg)) HGW.out ((HT2.out _ HLF.out).trans HL1.out) HF2.out HU2.out HB2.out
end Go.Proofs.Ytcoehbkjccfhlaa
namespace Go.Proofs.Ytcoehbkjccfhlaa
open Go Go.RowKit Go.Joins

/-- How many of these clauses are of the gate j. -/
def cntE (T : List TCl) (j : Nat) : Nat := T.countP (fun t => decide (t.1 = (j : Int)))
theorem cntE_append (a b : List TCl) (j : Nat) : cntE (a ++ b) j = cntE a j + cntE b j := by simp [cntE, List.countP_append]
theorem cntE_none {T : List TCl} {j : Nat} (h : ∀ t ∈ T, t.1 = -1) : cntE T j = 0 := by
  unfold cntE
  rw [List.countP_eq_zero]
  intro t ht
  simp only [decide_eq_true_eq]
  rw [h t ht]
  omega
theorem latsE_tag {c : NormC} {f : Nat} : ∀ t ∈ latsE c f, t.1 = -1 ∧ t.2.length ≤ 3 := by
  intro t ht
  unfold latsE at ht
  split at ht
  · obtain ⟨i, _, hi⟩ := upE_mem.1 ht
    unfold resetE at hi
    split at hi
    · simp at hi; subst hi; simp
    · split at hi
      · simp at hi; subst hi; simp
      · simp at hi
  · obtain ⟨i, _, hi⟩ := upE_mem.1 ht
    simp [nextE] at hi
    rcases hi with rfl | rfl <;> simp
theorem gatesE_tag {c : NormC} {f k : Nat} : ∀ t ∈ upE (gateE c f) k, (∃ g : Nat, g < k ∧ t.1 = (g : Int)) ∧ t.2.length ≤ 3 := by
  intro t ht
  obtain ⟨i, hi, h⟩ := upE_mem.1 ht
  simp [gateE] at h
  rcases h with rfl | rfl | rfl <;> exact ⟨⟨i, hi, rfl⟩, by simp⟩
theorem allE_tag {c : NormC} {nf : Nat} : ∀ t ∈ allE c nf, (t.1 = -1 ∨ ∃ g : Nat, g < c.gates.length ∧ t.1 = (g : Int)) ∧ t.2.length ≤ 3 := by
  intro t ht
  unfold allE at ht
  rcases List.mem_cons.1 ht with rfl | ht
  · exact ⟨.inl rfl, by simp⟩
  · obtain ⟨f, _, h⟩ := upE_mem.1 ht
    unfold frameE at h
    rcases List.mem_append.1 h with h | h
    · exact ⟨.inl (latsE_tag t h).1, (latsE_tag t h).2⟩
    · exact ⟨.inr (gatesE_tag t h).1, (gatesE_tag t h).2⟩
theorem cnt_gates (c : NormC) (f j : Nat) : ∀ k, cntE (upE (gateE c f) k) j = if j < k then 3 else 0
  | 0 => by simp [upE_zero, cntE]
  | k + 1 => by
    rw [upE_succ, cntE_append, cnt_gates c f j k]
    by_cases h : k = j
    · subst h
      simp [gateE, cntE]
    · have : cntE (gateE c f k) j = 0 := by
        simp [gateE, cntE, List.countP_cons]
        omega
      rw [this]
      split <;> split <;> omega
theorem cnt_all (c : NormC) (j : Nat) (hj : j < c.gates.length) : ∀ nf, cntE (allE c nf) j = 3 * nf
  | 0 => by
    have : cntE (allE c 0) j = 0 := cntE_none (fun t ht => by simp [allE, upE_zero] at ht; rw [ht])
    omega
  | k + 1 => by
    rw [allE_succ, cntE_append, cntE_append, cnt_all c j hj k, cnt_gates, if_pos hj, cntE_none (fun t ht => (latsE_tag t ht).1)]
    omega
theorem cnt_snoc (T : List TCl) (k j : Nat) (h : k < T.length) (d : TCl) : cntE (T.take (k + 1)) j = cntE (T.take k) j + if (T.getD k d).1 = (j : Int) then 1 else 0 := by
  rw [List.take_succ_eq_append_getElem h, cntE_append]
  congr 1
  simp only [List.getD, List.getElem?_eq_getElem h, Option.getD_some]
  by_cases e : T[k].1 = (j : Int) <;> simp [cntE, e]
theorem cntE_le (T : List TCl) (j : Nat) : cntE T j ≤ T.length := List.countP_le_length
theorem map_getD {f : TCl → List Int} {T : List TCl} {k : Nat} (h : k < T.length) (d : TCl) : (T.map f).getD k [] = f (T.getD k d) := by
  simp [List.getD, List.getElem?_eq_getElem h]
/-- With few gates and frames there are few clauses. -/
theorem many_few {c : NormC} {nf : Nat} (h1 : c.lats.length ≤ 200) (h2 : c.gates.length ≤ 200) (h3 : nf ≤ 60) : manyE c nf ≤ 1048576 := by
  have a1 : 2 * c.lats.length * (nf - 1) ≤ 400 * 60 := Nat.mul_le_mul (by omega) (by omega)
  have a2 : 3 * c.gates.length * nf ≤ 600 * 60 := Nat.mul_le_mul (by omega) h3
  have a3 := fixedE_le c c.lats.length
  unfold manyE
  omega
end Go.Proofs.Ytcoehbkjccfhlaa
