/- enc.Given's closure, by its contract: a box that holds a row of ints. -/
import Derived.Test.YtcoehbkjccfhlaaGEncT00
import Derived.Test.YtcoehbkjccfhlaaGEncT12
import Derived.Test.YtcoehbkjccfhlaaGEncT01
import Derived.Test.YtcoehbkjccfhlaaGEncT03
import Derived.Test.YtcoehbkjccfhlaaGEncT05
import Derived.Test.YtcoehbkjccfhlaaGEncT07
import Derived.Test.YtcoehbkjccfhlaaEnSmall
import Derived.Test.YtcoehbkjccfhlaaEnFa
import Derived.Test.YtcoehbkjccfhlaaRows
import Derived.BigQuiet
import Derived.Deep.AppendLies
import Derived.Deep.CutRange
import Derived.Deep.QuietTactic
import Derived.Deep.RegionHeld3
import Derived.Deep.RegionLaw
import Derived.Deep.RegionWith
import Derived.KernelRfl
import Derived.Laws.EntriesVeiled
import Derived.Laws.Tables
import Derived.Lib.ConvBytes
import Derived.Lib.Hide
import Derived.Lib.SlBytesRow
import Derived.Lib.SmallJoins
import Derived.Maps.AppendAt
import Derived.OrdersHeld
import Derived.Shelf.Bytes.SlSmallAll
import Derived.WalkKit
import Derived.WalkLawsBesides
import Derived.WalkSpells
namespace Go.Proofs.Ytcoehbkjccfhlaa
open Go Go.RowKit Go.Joins

/-- Nothing old has turned but the block B, and rows of elements of type T. -/
structure KeepB (T : TypeId) (B : Nat) (w w' : World) : Prop where
  os : w'.os = w.os
  tape : w'.tape = w.tape
  output : w'.output = w.output
  size : w.heap.size ≤ w'.heap.size
  block : ∀ (D : Nat) (C : Array Value) (t : TypeId) (fr : Nat × Nat), w.heap[D]? = some (Obj.cells C t fr) → D ≠ B → t ≠ T → w'.heap[D]? = some (Obj.cells C t fr)
section
variable {T : TypeId} {B : Nat} {w w' w2 : World}
theorem KeepB.refl (T : TypeId) (B : Nat) (w : World) : KeepB T B w w := ⟨rfl, rfl, rfl, Nat.le_refl _, fun _ _ _ _ h _ _ => h⟩
theorem KeepB.trans (h : KeepB T B w w') (k : KeepB T B w' w2) : KeepB T B w w2 :=
  ⟨k.os.trans h.os, k.tape.trans h.tape, k.output.trans h.output, Nat.le_trans h.size k.size, fun D C t fr h1 h2 h3 => k.block D C t fr (h.block D C t fr h1 h2 h3) h2 h3⟩
theorem KeepB.of (h : KeepT T w w') : KeepB T B w w' := ⟨h.os, h.tape, h.output, h.size, fun D C t fr h1 _ h3 => h.block D C t fr h1 h3⟩
theorem KeepB.below (h : Below w.heap.size w w') : KeepB T B w w' := KeepB.of (KeepT.below h)
theorem KeepB.setCell (h : KeepB T B w w') (i : Nat) (v : Value) : KeepB T B w (w'.setCell ⟨B, i, none⟩ v) :=
  have k := (Below.refl B w').setCell (p := ⟨B, i, none⟩) (Nat.le_refl _) v
  ⟨k.os.trans h.os, k.tape.trans h.tape, k.output.trans h.output, Nat.le_trans h.size k.size, fun D C t fr h1 h2 h3 => (Below.heap_setCell w' ⟨B, i, none⟩ v D h2).trans (h.block D C t fr h1 h2 h3)⟩
end
/-- The box B holds a row of these ints. -/
structure GiSt (w0 : World) (B : Nat) (L : List Int) (w : World) : Prop where
  base : w0.heap.size ≤ B
  bel : Below w0.heap.size w0 w
  has : ∃ a c, w.heap[B]? = some (.cells #[.slice a L.length c] 45 (0, 0)) ∧ Row isZ w w0.heap.size 3 (.slice a L.length c) L.length (zvs L)
theorem GiSt.below {w0 w w' : World} {B : Nat} {L : List Int} (h : GiSt w0 B L w) (hb : Below w.heap.size w w') : GiSt w0 B L w' := by
  obtain ⟨a, c, h1, h2⟩ := h.has
  exact ⟨h.base, h.bel.trans (hb.mono h.bel.size), a, c, heap_below h1 hb, h2.below hb⟩
theorem GiSt.store {w0 w w' : World} {B : Nat} {L : List Int} {z : Int} {a : Option Addr} {c : Nat} (hB : w0.heap.size ≤ B) (hbel : Below w0.heap.size w0 w) (hbox : w.heap[B]? = some (.cells #[.slice a L.length c] 45 (0, 0))) (hr0 : Row isZ w w0.heap.size 3 (.slice a L.length c) L.length (zvs L))
    {v' : Value} (hrow : Row isZ w' w0.heap.size 3 v' (L.length + 1) (zvs L ++ zvs [z])) (hg : w.grownBy w' (Value.slice a L.length c).ownBlock) :
    GiSt w0 B (L ++ [z]) (w'.setCell ⟨B, 0, none⟩ v') ∧ KeepB 3 B w (w'.setCell ⟨B, 0, none⟩ v') := by
  have hbox2 := heap_grown hbox hg (hr0.not_own hbox (by decide))
  have hbox3 := block_setCell hbox2 (i := 0) v'
  obtain ⟨a', c', rfl⟩ := hrow.form
  have hbw : Below w0.heap.size w0 w' := hbel.grown hg hbel.size (fun j hj => (hr0.own.lt j hj).1)
  refine ⟨⟨hB, hbw.setCell (p := ⟨B, 0, none⟩) hB _, a', c', ?_, ?_⟩, (KeepB.of (KeepT.grown hr0 hg)).setCell 0 _⟩
  · rw [List.length_append]; simpa using hbox3
  · have h1 : Row isZ w' w0.heap.size 3 (.slice a' (L.length + 1) c') (L ++ [z]).length (zvs (L ++ [z])) := by rw [List.length_append, zvs_append]; exact hrow
    rw [List.length_append]
    rw [List.length_append] at h1
    refine h1.other fun q hq => Below.heap_setCell w' ⟨B, 0, none⟩ _ q ?_
    intro e2
    have e3 : q = B := e2
    subst e3
    exact h1.not_own hbox2 (by decide) hq
/-- What is told of a value. -/
def tellE (V v f val : Nat) : List Int := if val = 0 then [-((spotE V v f : Nat) : Int)] else if val = 1 then [((spotE V v f : Nat) : Int)] else []
theorem tellE_len (V v f val : Nat) : (tellE V v f val).length ≤ 1 := by unfold tellE; split; simp; split <;> simp

set_option maxRecDepth 100000 in
set_option maxHeartbeats 6400000 in
theorem tell_any (v f val : Nat) (x : Int) (V nf : Nat) (a1 a2 a3 a4 a5 : Option Addr) (n1 c1 n2 c2 n3 c3 n4 c4 n5 c5 : Nat) (w0 w : World) (B U : Nat) (L : List Int) (H : GiSt w0 B L w) (hL : L.length ≤ 100000000) (hU : w.heap[U]? = some (.cells #[.int .i64 x, .slice a1 n1 c1, .slice a2 n2 c2, .slice a3 n3 c3, .slice a4 n4 c4, .slice a5 n5 c5, .int .i64 (V : Int), .int .i64 (nf : Int)] 67 (0, 0))) (hV : V ≤ 16384) (hv : v ≤ V) (hf : f ≤ 256) (hval : val ≤ 2) :
    Calls Try.prog 46 #[.int .i64 (v : Int), .int .i64 (f : Int), .int .u8 (val : Int), .pointer (some ⟨B, 0, none⟩), .pointer (some ⟨U, 0, none⟩)] w fun e w' => e = .returned (.tuple #[]) ∧ GiSt w0 B (L ++ tellE V v f val) w' ∧ KeepB 3 B w w' := by
  obtain ⟨i0, hi0, hz0, hz1, hz2⟩ := info_parts info_int
  have hsm := spotE_lt (V := V) (v := v) (f := f) hV hv hf
  have HSP := Lib.hid (fun W => spot_any x ⟨a1, n1, c1, a2, n2, c2, a3, n3, c3, a4, n4, c4, a5, n5, c5⟩ V nf v f hV (by omega) hf W)
  have HT : Hid (tellE V v f val = if val = 0 then [-((spotE V v f : Nat) : Int)] else if val = 1 then [((spotE V v f : Nat) : Int)] else []) := rfl
  obtain ⟨sp, hsp⟩ : ∃ n, n = spotE V v f := ⟨_, rfl⟩
  rw [← hsp] at hsm HSP HT
  have NS : IntKind.i64.wrap (-(sp : Int)) = -(sp : Int) := IntWalk.i64_in _ (by omega)
  have HG := Lib.hid H
  have HBASE := Lib.hid H.base
  have HBEL := Lib.hid H.bel
  obtain ⟨a, c, hbox, hrow⟩ := H.has
  have HBX := Lib.hid hbox
  have HR := Lib.hid hrow
  have HU := Lib.hid hU
  unfold uV at HSP
  have e3 : val = 0 ∨ val = 1 ∨ val = 2 := by omega
  clear hsp hsm H hbox hrow hU hV hv hf hval
  rcases e3 with rfl | rfl | rfl
  · replace HT : Hid (tellE V v f 0 = [-(sp : Int)]) := HT.out
    go_enter Try.func46, Try.ntmps46
    go_upto_region 2 with fail
    refine wp_region_noPanic ?_
    refine wp_region_peelN 8 (by kernel_rfl) rfl (by simp only [List.getElem?_toArray, List.getElem?_cons_zero, List.getElem?_cons_succ]; rfl) (by kernel_rfl) ?_
    simp only [List.pop_toArray, List.dropLast_cons_cons, List.dropLast_singleton]
    generalize hYY : w.drew = Y0
    have HY0 : Hid (Below w.heap.size w Y0) := by subst hYY; exact (Below.refl _ _).drew
    clear hYY
    have HS0 : Hid (Y0.cell? ⟨B, 0, none⟩ = some (.slice a L.length c) ∧ Y0.cell? ⟨U, 0, none⟩ = some (.int .i64 x) ∧ Y0.cell? ⟨U, 1, none⟩ = some (.slice a1 n1 c1) ∧ Y0.cell? ⟨U, 2, none⟩ = some (.slice a2 n2 c2) ∧ Y0.cell? ⟨U, 3, none⟩ = some (.slice a3 n3 c3) ∧ Y0.cell? ⟨U, 4, none⟩ = some (.slice a4 n4 c4) ∧ Y0.cell? ⟨U, 5, none⟩ = some (.slice a5 n5 c5) ∧ Y0.cell? ⟨U, 6, none⟩ = some (.int .i64 (V : Int)) ∧ Y0.cell? ⟨U, 7, none⟩ = some (.int .i64 (nf : Int))) := ⟨cell_of_block (heap_below HBX.out HY0.out) 0, cell_of_block (heap_below HU.out HY0.out) 0, cell_of_block (heap_below HU.out HY0.out) 1, cell_of_block (heap_below HU.out HY0.out) 2, cell_of_block (heap_below HU.out HY0.out) 3, cell_of_block (heap_below HU.out HY0.out) 4, cell_of_block (heap_below HU.out HY0.out) 5, cell_of_block (heap_below HU.out HY0.out) 6, cell_of_block (heap_below HU.out HY0.out) 7⟩
    refine wpAny_of_held (S := fun w' => w'.cell? ⟨B, 0, none⟩ = some (.slice a L.length c) ∧ w'.cell? ⟨U, 0, none⟩ = some (.int .i64 x) ∧ w'.cell? ⟨U, 1, none⟩ = some (.slice a1 n1 c1) ∧ w'.cell? ⟨U, 2, none⟩ = some (.slice a2 n2 c2) ∧ w'.cell? ⟨U, 3, none⟩ = some (.slice a3 n3 c3) ∧ w'.cell? ⟨U, 4, none⟩ = some (.slice a4 n4 c4) ∧ w'.cell? ⟨U, 5, none⟩ = some (.slice a5 n5 c5) ∧ w'.cell? ⟨U, 6, none⟩ = some (.int .i64 (V : Int)) ∧ w'.cell? ⟨U, 7, none⟩ = some (.int .i64 (nf : Int))) _ _ _ _ ?_
    refine wpAnyH_take (i := 0) (v := ?_) (by simp only [List.getElem?_toArray, List.getElem?_cons_zero]; rfl) (by kernel_rfl) (by kernel_rfl) (by kernel_rfl) (fun _ _ _ h => h) (Or.inl ⟨by rfl, ?_⟩) HS0.out ?_
    rotate_left
    · intro w hSw
      (try dsimp only at hSw)
      obtain ⟨q0_, q1_, q2_, q3_, q4_, q5_, q6_, q7_, q8_⟩ := hSw
      go_simp
      try with_reducible rfl
    try simp only [Act.put, List.setIfInBounds_toArray, List.set_cons_zero, List.set_cons_succ]
    refine wpAnyH_take (i := 1) (v := ?_) (by simp only [List.getElem?_toArray, List.getElem?_cons_zero, List.getElem?_cons_succ]; rfl) (by kernel_rfl) (by kernel_rfl) (by kernel_rfl) (fun _ _ _ h => h) (Or.inl ⟨by rfl, ?_⟩) HS0.out ?_
    rotate_left
    · intro w hSw
      (try dsimp only at hSw)
      obtain ⟨q0_, q1_, q2_, q3_, q4_, q5_, q6_, q7_, q8_⟩ := hSw
      go_simp
      try with_reducible rfl
    try simp only [Act.put, List.setIfInBounds_toArray, List.set_cons_zero, List.set_cons_succ]
    refine wpAnyH_take (i := 2) (v := ?_) (by simp only [List.getElem?_toArray, List.getElem?_cons_zero, List.getElem?_cons_succ]; rfl) (by kernel_rfl) (by kernel_rfl) (by kernel_rfl) (fun _ _ _ h => h) (Or.inl ⟨by rfl, ?_⟩) HS0.out ?_
    rotate_left
    · intro w hSw
      (try dsimp only at hSw)
      obtain ⟨q0_, q1_, q2_, q3_, q4_, q5_, q6_, q7_, q8_⟩ := hSw
      go_simp
      try with_reducible rfl
    try simp only [Act.put, List.setIfInBounds_toArray, List.set_cons_zero, List.set_cons_succ]
    refine wpAnyH_take (i := 3) (v := ?_) (by simp only [List.getElem?_toArray, List.getElem?_cons_zero, List.getElem?_cons_succ]; rfl) (by kernel_rfl) (by kernel_rfl) (by kernel_rfl) (fun _ _ _ h => h) (Or.inl ⟨by rfl, ?_⟩) HS0.out ?_
    rotate_left
    · intro w hSw
      (try dsimp only at hSw)
      obtain ⟨q0_, q1_, q2_, q3_, q4_, q5_, q6_, q7_, q8_⟩ := hSw
      go_simp
      try with_reducible rfl
    try simp only [Act.put, List.setIfInBounds_toArray, List.set_cons_zero, List.set_cons_succ]
    refine wpAnyH_ready (rs := [4]) (by kernel_rfl) (by simp) ?_
    refine AllReadyH.cons (by simp only [List.getElem?_toArray, List.getElem?_cons_zero, List.getElem?_cons_succ]; rfl) (fun K hK => ?_) AllReadyH.nil
    go_simp
    refine (HSP.out _).mono ?_
    rintro e s1 ⟨rfl, b1⟩
    have HY1 := Lib.hid (ext_trans HY0.out b1)
    have HS1 : Hid (s1.cell? ⟨B, 0, none⟩ = some (.slice a L.length c) ∧ s1.cell? ⟨U, 0, none⟩ = some (.int .i64 x) ∧ s1.cell? ⟨U, 1, none⟩ = some (.slice a1 n1 c1) ∧ s1.cell? ⟨U, 2, none⟩ = some (.slice a2 n2 c2) ∧ s1.cell? ⟨U, 3, none⟩ = some (.slice a3 n3 c3) ∧ s1.cell? ⟨U, 4, none⟩ = some (.slice a4 n4 c4) ∧ s1.cell? ⟨U, 5, none⟩ = some (.slice a5 n5 c5) ∧ s1.cell? ⟨U, 6, none⟩ = some (.int .i64 (V : Int)) ∧ s1.cell? ⟨U, 7, none⟩ = some (.int .i64 (nf : Int))) := ⟨cell_below HS0.out.1 b1, cell_below HS0.out.2.1 b1, cell_below HS0.out.2.2.1 b1, cell_below HS0.out.2.2.2.1 b1, cell_below HS0.out.2.2.2.2.1 b1, cell_below HS0.out.2.2.2.2.2.1 b1, cell_below HS0.out.2.2.2.2.2.2.1 b1, cell_below HS0.out.2.2.2.2.2.2.2.1 b1, cell_below HS0.out.2.2.2.2.2.2.2.2 b1⟩
    refine hK.out _ _ HS1.out (fun _ => ?_)
    clear hK K
    try simp only [Act.put, List.setIfInBounds_toArray, List.set_cons_zero, List.set_cons_succ]
    clear b1
    refine wpAnyH_take (i := 5) (v := ?_) (by simp only [List.getElem?_toArray, List.getElem?_cons_zero, List.getElem?_cons_succ]; rfl) (by kernel_rfl) (by kernel_rfl) (by kernel_rfl) (fun _ _ _ h => h) (Or.inl ⟨by rfl, ?_⟩) HS1.out ?_
    rotate_left
    · intro w hSw
      (try dsimp only at hSw)
      obtain ⟨q0_, q1_, q2_, q3_, q4_, q5_, q6_, q7_, q8_⟩ := hSw
      go_simp
      try with_reducible rfl
    try simp only [Act.put, List.setIfInBounds_toArray, List.set_cons_zero, List.set_cons_succ]
    refine wpAnyH_ready (rs := [6]) (by kernel_rfl) (by simp) ?_
    refine AllReadyH.cons (by simp only [List.getElem?_toArray, List.getElem?_cons_zero, List.getElem?_cons_succ]; rfl) (fun K hK => ?_) AllReadyH.nil
    go_simp
    generalize hYV : World.alloc s1 _ = s2
    have HSE : Hid (Sees s2 (some ⟨s1.heap.size, 0, none⟩) 1 1 (zvs [-(sp : Int)])) := by subst hYV; exact sees_oneI s1 (-(sp : Int))
    have HY2 : Hid (Below w.heap.size w s2) := by subst hYV; exact ext_trans HY1.out (ext_alloc _ _)
    clear hYV
    have HS2 : Hid (s2.cell? ⟨B, 0, none⟩ = some (.slice a L.length c) ∧ s2.cell? ⟨U, 0, none⟩ = some (.int .i64 x) ∧ s2.cell? ⟨U, 1, none⟩ = some (.slice a1 n1 c1) ∧ s2.cell? ⟨U, 2, none⟩ = some (.slice a2 n2 c2) ∧ s2.cell? ⟨U, 3, none⟩ = some (.slice a3 n3 c3) ∧ s2.cell? ⟨U, 4, none⟩ = some (.slice a4 n4 c4) ∧ s2.cell? ⟨U, 5, none⟩ = some (.slice a5 n5 c5) ∧ s2.cell? ⟨U, 6, none⟩ = some (.int .i64 (V : Int)) ∧ s2.cell? ⟨U, 7, none⟩ = some (.int .i64 (nf : Int))) := ⟨cell_of_block (heap_below HBX.out HY2.out) 0, cell_of_block (heap_below HU.out HY2.out) 0, cell_of_block (heap_below HU.out HY2.out) 1, cell_of_block (heap_below HU.out HY2.out) 2, cell_of_block (heap_below HU.out HY2.out) 3, cell_of_block (heap_below HU.out HY2.out) 4, cell_of_block (heap_below HU.out HY2.out) 5, cell_of_block (heap_below HU.out HY2.out) 6, cell_of_block (heap_below HU.out HY2.out) 7⟩
    refine hK.out _ _ HS2.out (fun _ => ?_)
    clear hK K
    try simp only [Act.put, List.setIfInBounds_toArray, List.set_cons_zero, List.set_cons_succ]
    have HR3 := Lib.hid (HR.out.below HY2.out)
    have HBX3 := Lib.hid (heap_below HBX.out HY2.out)
    have HB3 := Lib.hid (HBEL.out.trans (HY2.out.mono HBEL.out.size))
    refine wpAnyH_ready (rs := [7]) (by kernel_rfl) (by simp) ?_
    refine AllReadyH.cons (by simp only [List.getElem?_toArray, List.getElem?_cons_zero, List.getElem?_cons_succ]; rfl) (fun K hK => ?_) AllReadyH.nil
    refine step_append_row isZ _ rfl _ _ 45 rfl w0.heap.size 3 i0 (.int .i64 0) 8 Try.underlying45 hi0 hz0 hz1 hz2 rfl isZ_zero14 _ L.length (zvs L) (by rfl) HR3.out (some ⟨s1.heap.size, 0, none⟩) 1 1 (zvs [-(sp : Int)]) (by rfl) HSE.out (zvs_one1 _) (isZ_zvs [-(sp : Int)]) (by unfold maxLen; omega) (by omega) HB3.out.size ?_
    intro v' w6 hrow hg
    obtain ⟨aw, cw, rfl⟩ := hrow.form
    have hm := GiSt.store HBASE.out HB3.out HBX3.out HR3.out hrow hg
    have HM := Lib.hid (And.intro hm.1 ((KeepB.below HY2.out).trans hm.2))
    have hb6 := heap_grown HBX3.out hg (HR3.out.not_own HBX3.out (by decide))
    have hk6 := (KeepT.below HY2.out).trans (KeepT.grown HR3.out hg)
    have hu6 := hk6.block _ _ _ _ HU.out (by decide)
    have HS3 : Hid (w6.cell? ⟨B, 0, none⟩ = some (.slice a L.length c) ∧ w6.cell? ⟨U, 0, none⟩ = some (.int .i64 x) ∧ w6.cell? ⟨U, 1, none⟩ = some (.slice a1 n1 c1) ∧ w6.cell? ⟨U, 2, none⟩ = some (.slice a2 n2 c2) ∧ w6.cell? ⟨U, 3, none⟩ = some (.slice a3 n3 c3) ∧ w6.cell? ⟨U, 4, none⟩ = some (.slice a4 n4 c4) ∧ w6.cell? ⟨U, 5, none⟩ = some (.slice a5 n5 c5) ∧ w6.cell? ⟨U, 6, none⟩ = some (.int .i64 (V : Int)) ∧ w6.cell? ⟨U, 7, none⟩ = some (.int .i64 (nf : Int))) := ⟨cell_of_block hb6 0, cell_of_block hu6 0, cell_of_block hu6 1, cell_of_block hu6 2, cell_of_block hu6 3, cell_of_block hu6 4, cell_of_block hu6 5, cell_of_block hu6 6, cell_of_block hu6 7⟩
    have d5 : w6.cell? ⟨B, 0, none⟩ = some (.slice a L.length c) := cell_of_block hb6 0
    have f5 := unfrozen_of_block hb6 0
    clear hm hb6 hk6 hu6 hrow hg
    refine hK.out _ _ HS3.out (fun _ => ?_)
    clear hK K
    try simp only [Act.put, List.setIfInBounds_toArray, List.set_cons_zero, List.set_cons_succ]
    refine wpAnyH_done (by kernel_rfl) ?_ _
    unfold LastQ wpOp
    simp only [List.getElem?_toArray, List.getElem?_cons_zero, List.getElem?_cons_succ]
    rw [if_pos (by rfl)]
    refine Or.inl ?_
    go_simp
    clear d5 f5
    refine NoPanic.normal ?_
    go_wp2
    go_end0
    exact ⟨rfl, by rw [HT.out]; exact HM.out.1, HM.out.2⟩
  · replace HT : Hid (tellE V v f 1 = [(sp : Int)]) := HT.out
    go_enter Try.func46, Try.ntmps46
    go_upto_region 4 with fail
    refine wp_region_noPanic ?_
    refine wp_region_peelN 7 (by kernel_rfl) rfl (by simp only [List.getElem?_toArray, List.getElem?_cons_zero, List.getElem?_cons_succ]; rfl) (by kernel_rfl) ?_
    simp only [List.pop_toArray, List.dropLast_cons_cons, List.dropLast_singleton]
    generalize hYY : w.drew = Y0
    have HY0 : Hid (Below w.heap.size w Y0) := by subst hYY; exact (Below.refl _ _).drew
    clear hYY
    have HS0 : Hid (Y0.cell? ⟨B, 0, none⟩ = some (.slice a L.length c) ∧ Y0.cell? ⟨U, 0, none⟩ = some (.int .i64 x) ∧ Y0.cell? ⟨U, 1, none⟩ = some (.slice a1 n1 c1) ∧ Y0.cell? ⟨U, 2, none⟩ = some (.slice a2 n2 c2) ∧ Y0.cell? ⟨U, 3, none⟩ = some (.slice a3 n3 c3) ∧ Y0.cell? ⟨U, 4, none⟩ = some (.slice a4 n4 c4) ∧ Y0.cell? ⟨U, 5, none⟩ = some (.slice a5 n5 c5) ∧ Y0.cell? ⟨U, 6, none⟩ = some (.int .i64 (V : Int)) ∧ Y0.cell? ⟨U, 7, none⟩ = some (.int .i64 (nf : Int))) := ⟨cell_of_block (heap_below HBX.out HY0.out) 0, cell_of_block (heap_below HU.out HY0.out) 0, cell_of_block (heap_below HU.out HY0.out) 1, cell_of_block (heap_below HU.out HY0.out) 2, cell_of_block (heap_below HU.out HY0.out) 3, cell_of_block (heap_below HU.out HY0.out) 4, cell_of_block (heap_below HU.out HY0.out) 5, cell_of_block (heap_below HU.out HY0.out) 6, cell_of_block (heap_below HU.out HY0.out) 7⟩
    refine wpAny_of_held (S := fun w' => w'.cell? ⟨B, 0, none⟩ = some (.slice a L.length c) ∧ w'.cell? ⟨U, 0, none⟩ = some (.int .i64 x) ∧ w'.cell? ⟨U, 1, none⟩ = some (.slice a1 n1 c1) ∧ w'.cell? ⟨U, 2, none⟩ = some (.slice a2 n2 c2) ∧ w'.cell? ⟨U, 3, none⟩ = some (.slice a3 n3 c3) ∧ w'.cell? ⟨U, 4, none⟩ = some (.slice a4 n4 c4) ∧ w'.cell? ⟨U, 5, none⟩ = some (.slice a5 n5 c5) ∧ w'.cell? ⟨U, 6, none⟩ = some (.int .i64 (V : Int)) ∧ w'.cell? ⟨U, 7, none⟩ = some (.int .i64 (nf : Int))) _ _ _ _ ?_
    refine wpAnyH_take (i := 0) (v := ?_) (by simp only [List.getElem?_toArray, List.getElem?_cons_zero]; rfl) (by kernel_rfl) (by kernel_rfl) (by kernel_rfl) (fun _ _ _ h => h) (Or.inl ⟨by rfl, ?_⟩) HS0.out ?_
    rotate_left
    · intro w hSw
      (try dsimp only at hSw)
      obtain ⟨q0_, q1_, q2_, q3_, q4_, q5_, q6_, q7_, q8_⟩ := hSw
      go_simp
      try with_reducible rfl
    try simp only [Act.put, List.setIfInBounds_toArray, List.set_cons_zero, List.set_cons_succ]
    refine wpAnyH_take (i := 1) (v := ?_) (by simp only [List.getElem?_toArray, List.getElem?_cons_zero, List.getElem?_cons_succ]; rfl) (by kernel_rfl) (by kernel_rfl) (by kernel_rfl) (fun _ _ _ h => h) (Or.inl ⟨by rfl, ?_⟩) HS0.out ?_
    rotate_left
    · intro w hSw
      (try dsimp only at hSw)
      obtain ⟨q0_, q1_, q2_, q3_, q4_, q5_, q6_, q7_, q8_⟩ := hSw
      go_simp
      try with_reducible rfl
    try simp only [Act.put, List.setIfInBounds_toArray, List.set_cons_zero, List.set_cons_succ]
    refine wpAnyH_take (i := 2) (v := ?_) (by simp only [List.getElem?_toArray, List.getElem?_cons_zero, List.getElem?_cons_succ]; rfl) (by kernel_rfl) (by kernel_rfl) (by kernel_rfl) (fun _ _ _ h => h) (Or.inl ⟨by rfl, ?_⟩) HS0.out ?_
    rotate_left
    · intro w hSw
      (try dsimp only at hSw)
      obtain ⟨q0_, q1_, q2_, q3_, q4_, q5_, q6_, q7_, q8_⟩ := hSw
      go_simp
      try with_reducible rfl
    try simp only [Act.put, List.setIfInBounds_toArray, List.set_cons_zero, List.set_cons_succ]
    refine wpAnyH_take (i := 3) (v := ?_) (by simp only [List.getElem?_toArray, List.getElem?_cons_zero, List.getElem?_cons_succ]; rfl) (by kernel_rfl) (by kernel_rfl) (by kernel_rfl) (fun _ _ _ h => h) (Or.inl ⟨by rfl, ?_⟩) HS0.out ?_
    rotate_left
    · intro w hSw
      (try dsimp only at hSw)
      obtain ⟨q0_, q1_, q2_, q3_, q4_, q5_, q6_, q7_, q8_⟩ := hSw
      go_simp
      try with_reducible rfl
    try simp only [Act.put, List.setIfInBounds_toArray, List.set_cons_zero, List.set_cons_succ]
    refine wpAnyH_ready (rs := [4]) (by kernel_rfl) (by simp) ?_
    refine AllReadyH.cons (by simp only [List.getElem?_toArray, List.getElem?_cons_zero, List.getElem?_cons_succ]; rfl) (fun K hK => ?_) AllReadyH.nil
    go_simp
    refine (HSP.out _).mono ?_
    rintro e s1 ⟨rfl, b1⟩
    have HY1 := Lib.hid (ext_trans HY0.out b1)
    have HS1 : Hid (s1.cell? ⟨B, 0, none⟩ = some (.slice a L.length c) ∧ s1.cell? ⟨U, 0, none⟩ = some (.int .i64 x) ∧ s1.cell? ⟨U, 1, none⟩ = some (.slice a1 n1 c1) ∧ s1.cell? ⟨U, 2, none⟩ = some (.slice a2 n2 c2) ∧ s1.cell? ⟨U, 3, none⟩ = some (.slice a3 n3 c3) ∧ s1.cell? ⟨U, 4, none⟩ = some (.slice a4 n4 c4) ∧ s1.cell? ⟨U, 5, none⟩ = some (.slice a5 n5 c5) ∧ s1.cell? ⟨U, 6, none⟩ = some (.int .i64 (V : Int)) ∧ s1.cell? ⟨U, 7, none⟩ = some (.int .i64 (nf : Int))) := ⟨cell_below HS0.out.1 b1, cell_below HS0.out.2.1 b1, cell_below HS0.out.2.2.1 b1, cell_below HS0.out.2.2.2.1 b1, cell_below HS0.out.2.2.2.2.1 b1, cell_below HS0.out.2.2.2.2.2.1 b1, cell_below HS0.out.2.2.2.2.2.2.1 b1, cell_below HS0.out.2.2.2.2.2.2.2.1 b1, cell_below HS0.out.2.2.2.2.2.2.2.2 b1⟩
    refine hK.out _ _ HS1.out (fun _ => ?_)
    clear hK K
    try simp only [Act.put, List.setIfInBounds_toArray, List.set_cons_zero, List.set_cons_succ]
    clear b1
    refine wpAnyH_ready (rs := [5]) (by kernel_rfl) (by simp) ?_
    refine AllReadyH.cons (by simp only [List.getElem?_toArray, List.getElem?_cons_zero, List.getElem?_cons_succ]; rfl) (fun K hK => ?_) AllReadyH.nil
    go_simp
    generalize hYV : World.alloc s1 _ = s2
    have HSE : Hid (Sees s2 (some ⟨s1.heap.size, 0, none⟩) 1 1 (zvs [(sp : Int)])) := by subst hYV; exact sees_oneI s1 ((sp : Int))
    have HY2 : Hid (Below w.heap.size w s2) := by subst hYV; exact ext_trans HY1.out (ext_alloc _ _)
    clear hYV
    have HS2 : Hid (s2.cell? ⟨B, 0, none⟩ = some (.slice a L.length c) ∧ s2.cell? ⟨U, 0, none⟩ = some (.int .i64 x) ∧ s2.cell? ⟨U, 1, none⟩ = some (.slice a1 n1 c1) ∧ s2.cell? ⟨U, 2, none⟩ = some (.slice a2 n2 c2) ∧ s2.cell? ⟨U, 3, none⟩ = some (.slice a3 n3 c3) ∧ s2.cell? ⟨U, 4, none⟩ = some (.slice a4 n4 c4) ∧ s2.cell? ⟨U, 5, none⟩ = some (.slice a5 n5 c5) ∧ s2.cell? ⟨U, 6, none⟩ = some (.int .i64 (V : Int)) ∧ s2.cell? ⟨U, 7, none⟩ = some (.int .i64 (nf : Int))) := ⟨cell_of_block (heap_below HBX.out HY2.out) 0, cell_of_block (heap_below HU.out HY2.out) 0, cell_of_block (heap_below HU.out HY2.out) 1, cell_of_block (heap_below HU.out HY2.out) 2, cell_of_block (heap_below HU.out HY2.out) 3, cell_of_block (heap_below HU.out HY2.out) 4, cell_of_block (heap_below HU.out HY2.out) 5, cell_of_block (heap_below HU.out HY2.out) 6, cell_of_block (heap_below HU.out HY2.out) 7⟩
    refine hK.out _ _ HS2.out (fun _ => ?_)
    clear hK K
    try simp only [Act.put, List.setIfInBounds_toArray, List.set_cons_zero, List.set_cons_succ]
    have HR3 := Lib.hid (HR.out.below HY2.out)
    have HBX3 := Lib.hid (heap_below HBX.out HY2.out)
    have HB3 := Lib.hid (HBEL.out.trans (HY2.out.mono HBEL.out.size))
    refine wpAnyH_ready (rs := [6]) (by kernel_rfl) (by simp) ?_
    refine AllReadyH.cons (by simp only [List.getElem?_toArray, List.getElem?_cons_zero, List.getElem?_cons_succ]; rfl) (fun K hK => ?_) AllReadyH.nil
    refine step_append_row isZ _ rfl _ _ 45 rfl w0.heap.size 3 i0 (.int .i64 0) 8 Try.underlying45 hi0 hz0 hz1 hz2 rfl isZ_zero14 _ L.length (zvs L) (by rfl) HR3.out (some ⟨s1.heap.size, 0, none⟩) 1 1 (zvs [(sp : Int)]) (by rfl) HSE.out (zvs_one1 _) (isZ_zvs [(sp : Int)]) (by unfold maxLen; omega) (by omega) HB3.out.size ?_
    intro v' w6 hrow hg
    obtain ⟨aw, cw, rfl⟩ := hrow.form
    have hm := GiSt.store HBASE.out HB3.out HBX3.out HR3.out hrow hg
    have HM := Lib.hid (And.intro hm.1 ((KeepB.below HY2.out).trans hm.2))
    have hb6 := heap_grown HBX3.out hg (HR3.out.not_own HBX3.out (by decide))
    have hk6 := (KeepT.below HY2.out).trans (KeepT.grown HR3.out hg)
    have hu6 := hk6.block _ _ _ _ HU.out (by decide)
    have HS3 : Hid (w6.cell? ⟨B, 0, none⟩ = some (.slice a L.length c) ∧ w6.cell? ⟨U, 0, none⟩ = some (.int .i64 x) ∧ w6.cell? ⟨U, 1, none⟩ = some (.slice a1 n1 c1) ∧ w6.cell? ⟨U, 2, none⟩ = some (.slice a2 n2 c2) ∧ w6.cell? ⟨U, 3, none⟩ = some (.slice a3 n3 c3) ∧ w6.cell? ⟨U, 4, none⟩ = some (.slice a4 n4 c4) ∧ w6.cell? ⟨U, 5, none⟩ = some (.slice a5 n5 c5) ∧ w6.cell? ⟨U, 6, none⟩ = some (.int .i64 (V : Int)) ∧ w6.cell? ⟨U, 7, none⟩ = some (.int .i64 (nf : Int))) := ⟨cell_of_block hb6 0, cell_of_block hu6 0, cell_of_block hu6 1, cell_of_block hu6 2, cell_of_block hu6 3, cell_of_block hu6 4, cell_of_block hu6 5, cell_of_block hu6 6, cell_of_block hu6 7⟩
    have d5 : w6.cell? ⟨B, 0, none⟩ = some (.slice a L.length c) := cell_of_block hb6 0
    have f5 := unfrozen_of_block hb6 0
    clear hm hb6 hk6 hu6 hrow hg
    refine hK.out _ _ HS3.out (fun _ => ?_)
    clear hK K
    try simp only [Act.put, List.setIfInBounds_toArray, List.set_cons_zero, List.set_cons_succ]
    refine wpAnyH_done (by kernel_rfl) ?_ _
    unfold LastQ wpOp
    simp only [List.getElem?_toArray, List.getElem?_cons_zero, List.getElem?_cons_succ]
    rw [if_pos (by rfl)]
    refine Or.inl ?_
    go_simp
    clear d5 f5
    refine NoPanic.normal ?_
    go_wp2
    go_end0
    exact ⟨rfl, by rw [HT.out]; exact HM.out.1, HM.out.2⟩
  · replace HT : Hid (tellE V v f 2 = []) := HT.out
    go_enter Try.func46, Try.ntmps46
    go_wp2
    go_end0
    exact ⟨rfl, by rw [HT.out, List.append_nil]; exact HG.out, KeepB.refl _ _ _⟩
end Go.Proofs.Ytcoehbkjccfhlaa
