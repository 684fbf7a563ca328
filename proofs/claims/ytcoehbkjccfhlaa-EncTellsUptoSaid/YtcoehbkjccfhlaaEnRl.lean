/- enc.Relaxed, by its contract. -/
import Derived.Test.YtcoehbkjccfhlaaGEncT01
import Derived.Test.YtcoehbkjccfhlaaGEncT03
import Derived.Test.YtcoehbkjccfhlaaGEncT02
import Derived.Test.YtcoehbkjccfhlaaGEncT07
import Derived.Test.YtcoehbkjccfhlaaGEncT05
import Derived.Test.YtcoehbkjccfhlaaEnSmall
import Derived.Test.YtcoehbkjccfhlaaGEncT11
import Derived.Test.YtcoehbkjccfhlaaEnOf
import Derived.Test.YtcoehbkjccfhlaaEnLim
import Derived.Test.YtcoehbkjccfhlaaEnCl
import Derived.Test.YtcoehbkjccfhlaaEnEaR
import Derived.Test.YtcoehbkjccfhlaaGEncT13
import Derived.Test.YtcoehbkjccfhlaaRows
import Derived.BigQuiet
import Derived.Deep.AppendLies
import Derived.Deep.CutRange
import Derived.Deep.QuietTactic
import Derived.Deep.RegionHeld3
import Derived.Deep.RegionLaw
import Derived.Deep.RegionWith
import Derived.KernelRfl
import Derived.Laws.EntriesVeiled
import Derived.Laws.Tables
import Derived.Lib.ConvBytes
import Derived.Lib.Hide
import Derived.Lib.SlBytesRow
import Derived.Lib.SmallJoins
import Derived.Maps.AppendAt
import Derived.OrdersHeld
import Derived.Shelf.Bytes.SlSmallAll
import Derived.WalkKit
import Derived.WalkLawsBesides
import Derived.WalkSpells
namespace Go.Proofs.Ytcoehbkjccfhlaa
open Go Go.RowKit Go.Joins

/-- A cell that is written with what it holds: nothing turns. -/
theorem setCell_same {w : World} {B : Nat} {v : Value} {t : TypeId} (h : w.heap[B]? = some (.cells #[v] t (0, 0))) : Below w.heap.size w (w.setCell ⟨B, 0, none⟩ v) := by
  have k := (Below.refl B w).setCell (p := ⟨B, 0, none⟩) (Nat.le_refl _) v
  refine ⟨k.os, k.tape, k.output, k.size, fun D hD => ?_⟩
  by_cases e : D = B
  · subst e
    rw [block_setCell h (i := 0) v, h]
    simp
  · exact Below.heap_setCell w ⟨B, 0, none⟩ v D e
/-- The relaxed clauses and the first switch, or none and the error. -/
def rlA (c : NormC) (z : Int) : List (List Int) × Nat × Nat := if ofOk c z then (if manyE c z.toNat ≤ 1048576 then ((allE c z.toNat).map (withE (2 + z.toNat * varsN c)), 2 + z.toNat * varsN c, 0) else ([], 0, 3)) else ([], 0, 2)
def RlE (c : NormC) (z : Int) (w : World) (e : Ending) (w' : World) : Prop :=
  Below w.heap.size w w' ∧ ∃ a n k ss, e = .returned (.tuple #[.slice a n k, .int .i64 ((rlA c z).2.1 : Nat), .int .i64 ((rlA c z).2.2 : Nat)]) ∧ SeesZ w' a n k ss (rlA c z).1
set_option maxRecDepth 100000 in
set_option maxHeartbeats 6400000 in
theorem relaxed14_any (c : NormC) (s : CSlots) (z : Int) (w : World) (h : SeesCir w s c) (hs : s.small) (hlo : -9223372036854775808 ≤ c.ins) (hhi : c.ins < 9223372036854775808) :
    Calls Try.prog 14 #[cirV c.ins s, .int .i64 z] w (RlE c z w) := by
  have HLA := Lib.hid (fun (ho : ofOk c z = true) W => last_any c.ins s (varsN c) z.toNat (ofOk_iff ho).1.few (ofOk_iff ho).2.2.1 W)
  have HSM := Lib.hid (fun (ho : ofOk c z = true) => (spotE_lt (V := varsN c) (v := 0) (f := z.toNat) (ofOk_iff ho).1.few (by omega) (ofOk_iff ho).2.2.1).2)
  have HLM := Lib.hid (fun W (hb : Below w.heap.size w W) => limited_any c s z W (h.below hb) hs hlo hhi)
  have HMN := Lib.hid (fun (ho : ofOk c z = true) W (hb : Below w.heap.size w W) => many_any14 c s z.toNat W (h.below hb) hs (ofOk_iff ho).1 ⟨(ofOk_iff ho).2.1, (ofOk_iff ho).2.2.1⟩)
  have HEA := Lib.hid (fun (ho : ofOk c z = true) W B Fb (H : EnX (some (Fb, 2 + z.toNat * varsN c)) w B [] W) => eachR_any c s z.toNat w W B Fb (2 + z.toNat * varsN c) [] h hs (ofOk_iff ho).1 (ofOk_iff ho).2.2.1 H (by simp))
  have A1 : Hid (ofOk c z = true → manyE c z.toNat ≤ 1048576 → rlA c z = ((allE c z.toNat).map (withE (2 + z.toNat * varsN c)), 2 + z.toNat * varsN c, 0)) := fun h1 h2 => by unfold rlA; rw [if_pos h1, if_pos h2]
  have A2 : Hid (ofOk c z = true → 1048576 < manyE c z.toNat → rlA c z = ([], 0, 3)) := fun h1 h2 => by unfold rlA; rw [if_pos h1, if_neg (by omega)]
  have A3 : Hid (ofOk c z = false → rlA c z = ([], 0, 2)) := fun h1 => by unfold rlA; rw [if_neg (by rw [h1]; simp)]
  clear h hs hlo hhi
  obtain ⟨a1, n1, c1, a2, n2, c2, a3, n3, c3, a4, n4, c4, a5, n5, c5⟩ := s
  obtain ⟨A, hA⟩ : ∃ A, A = rlA c z := ⟨_, rfl⟩
  unfold RlE
  rw [← hA]
  rw [← hA] at A1 A2 A3
  obtain ⟨x, hx⟩ : ∃ x, x = c.ins := ⟨_, rfl⟩
  obtain ⟨o, ho⟩ : ∃ o, o = ofOk c z := ⟨_, rfl⟩
  obtain ⟨V, hV⟩ : ∃ V, V = varsN c := ⟨_, rfl⟩
  obtain ⟨nf, hnf⟩ : ∃ n, n = z.toNat := ⟨_, rfl⟩
  obtain ⟨m, hm⟩ : ∃ n, n = manyE c nf := ⟨_, rfl⟩
  obtain ⟨r, hr⟩ : ∃ n, n = 1 + nf * V := ⟨_, rfl⟩
  have hfi : 2 + nf * V = r + 1 := by omega
  obtain ⟨first, hfirst⟩ : ∃ n, n = r + 1 := ⟨_, rfl⟩
  rw [← hfirst] at hfi
  obtain ⟨cls, hcls⟩ : ∃ l, l = (allE c nf).map (withE first) := ⟨_, rfl⟩
  unfold LimE at HLM
  rw [← hnf, ← hx, ← ho, ← hV, ← hm] at HLM
  rw [← hx, ← ho, ← hV, ← hnf, ← hm] at HMN
  have hcl2 : ∀ Fb, (allE c nf).map (phiE (some (Fb, first))) = cls := fun Fb => by rw [hcls]; rfl
  rw [← hx, ← ho, ← hV, ← hnf, hfi] at HEA
  simp only [hcl2] at HEA
  rw [← hx, ← ho, ← hV, ← hnf, ← hr] at HLA
  rw [← ho, ← hV, ← hnf] at HSM
  rw [← ho, ← hV, ← hnf, ← hm, hfi, ← hcls] at A1
  rw [← ho, ← hnf, ← hm] at A2
  rw [← ho] at A3
  rw [← hx]
  have HR := Lib.hid hr
  have HFI := Lib.hid hfirst
  clear hx ho hV hnf hm hcls hA hcl2 hfi hr hfirst
  unfold cirV at *
  unfold uV at *
  go_enter Try.func14, Try.ntmps14
  go_upto_region 1 with fail
  generalize hW : World.alloc (World.alloc (World.alloc w _) _) _ = W2
  have hX : W2.heap[w.heap.size]? = some (.cells #[.int .i64 x, .slice a1 n1 c1, .slice a2 n2 c2, .slice a3 n3 c3, .slice a4 n4 c4, .slice a5 n5 c5] 26 (0, 0)) := by subst hW; exact heap_below (heap_new _ _ _ rfl) (ext_trans (ext_alloc _ _) (ext_alloc _ _))
  have hL : W2.heap[w.heap.size + 1]? = some (.cells #[.slice none 0 0] 39 (0, 0)) := by subst hW; exact heap_below (heap_new (w.alloc _) _ _ (by simp)) (ext_alloc _ _)
  have hF : W2.heap[w.heap.size + 1 + 1]? = some (.cells #[.int .i64 0] 3 (0, 0)) := by subst hW; exact heap_new _ _ _ (by simp)
  have hB : Below w.heap.size w W2 := by subst hW; exact ext_trans (ext_alloc _ _) (ext_trans (ext_alloc _ _) (ext_alloc _ _))
  have HX := Lib.hid hX
  have HB := Lib.hid hB
  have HL2 := Lib.hid hL
  have HF2 := Lib.hid hF
  clear hW hX hB hL hF
  have p0 := cell_of_block HX.out 0
  have p1 := cell_of_block HX.out 1
  have p2 := cell_of_block HX.out 2
  have p3 := cell_of_block HX.out 3
  have p4 := cell_of_block HX.out 4
  have p5 := cell_of_block HX.out 5
  go_wp2_with fail
  refine (HLM.out W2 HB.out).mono ?_
  rintro e W3 ⟨hb, hcase⟩
  have HB3 := Lib.hid (ext_trans HB.out hb)
  have HL3 := Lib.hid (heap_below HL2.out hb)
  have HF3 := Lib.hid (heap_below HF2.out hb)
  clear HL2 HF2 p0 p1 p2 p3 p4 p5 hb HX HB HLM
  rcases hcase with ⟨rfl, hm, rfl⟩ | ⟨rfl, hm, rfl⟩ | ⟨rfl, rfl⟩
  · have HMN2 := Lib.hid (HMN.out rfl)
    have HEA2 := Lib.hid (HEA.out rfl)
    have HA := Lib.hid (A1.out rfl hm)
    have HLA2 := Lib.hid (HLA.out rfl)
    have hsm := HSM.out rfl
    have hr8 : r ≤ 100000000 - 1 := by have := HR.out; omega
    clear HMN HEA A1 A2 A3 HLA HSM hsm
    go_upto_region 4 with fail
    generalize hW : World.alloc W3 _ = W4
    have hU : W4.heap[W3.heap.size]? = some (.cells #[.int .i64 x, .slice a1 n1 c1, .slice a2 n2 c2, .slice a3 n3 c3, .slice a4 n4 c4, .slice a5 n5 c5, .int .i64 (V : Int), .int .i64 (nf : Int)] 67 (0, 0)) := by subst hW; exact heap_new _ _ _ rfl
    have hB4 : Below w.heap.size w W4 := by subst hW; exact ext_trans HB3.out (ext_alloc _ _)
    have hL4 : W4.heap[w.heap.size + 1]? = some (.cells #[.slice none 0 0] 39 (0, 0)) := by subst hW; exact heap_below HL3.out (ext_alloc _ _)
    have hF4 : W4.heap[w.heap.size + 1 + 1]? = some (.cells #[.int .i64 0] 3 (0, 0)) := by subst hW; exact heap_below HF3.out (ext_alloc _ _)
    have HB4 := Lib.hid hB4
    have HMN3 : Hid (∀ W, Below W4.heap.size W4 W → Calls Try.prog 38 #[.agg #[.int .i64 x, .slice a1 n1 c1, .slice a2 n2 c2, .slice a3 n3 c3, .slice a4 n4 c4, .slice a5 n5 c5, .int .i64 (V : Int), .int .i64 (nf : Int)]] W fun e w' => e = .returned (.int .i64 (m : Int)) ∧ Below W.heap.size W w') := fun W hb => HMN2.out W (ext_trans HB4.out hb)
    have HU4 := Lib.hid hU
    have HL4 := Lib.hid hL4
    have HF4 := Lib.hid hF4
    clear hW hU hB4 hL4 hF4 HMN2 HB3 HL3 HF3
    refine reg_Rx4 w W4 W3.heap.size (w.heap.size + 1) (w.heap.size + 1 + 1) m r first x V nf a1 a2 a3 a4 a5 n1 c1 n2 c2 n3 c3 n4 c4 n5 c5 HU4 HL4 HF4 HB4 (by omega) (by omega) hm (by omega) HFI.out HMN3 HLA2 _ ?_
    intro g W6 u17 u18 u19 u20 u21 u22 hg hg0 hL6 hF6 hU6 hB6
    have hf9 : first ≤ 100000000 := by have := HFI.out; omega
    have HX6 := Lib.hid (EnX.begin (F := some (w.heap.size + 1 + 1, first)) (w0 := w) (B := w.heap.size + 1) hB6 (by omega) (by omega) hg hg0 hL6 (fun p hp => by cases hp; exact ⟨hF6, by simp, hf9⟩))
    have HU6 := Lib.hid hU6
    have HNE : Hid (W3.heap.size ≠ w.heap.size + 1) := by show _ ≠ _; intro e; have h1 := HU4.out; rw [e, HL4.out] at h1; injection h1 with h2; injection h2 with _ h3; exact absurd h3 (by decide)
    have HNF : Hid (w.heap.size + 1 + 1 ≠ w.heap.size + 1) := by show _ ≠ _; omega
    have HF6 := Lib.hid hF6
    clear hg hg0 hL6 hF6 hU6 hB6 hf9 HU4 HL4 HF4 HB4 HMN3 HLA2
    have p0 := cell_of_block HU6.out 0
    have p1 := cell_of_block HU6.out 1
    have p2 := cell_of_block HU6.out 2
    have p3 := cell_of_block HU6.out 3
    have p4 := cell_of_block HU6.out 4
    have p5 := cell_of_block HU6.out 5
    have p6 := cell_of_block HU6.out 6
    have p7 := cell_of_block HU6.out 7
    obtain ⟨B, hB⟩ : ∃ B, B = w.heap.size + 1 := ⟨_, rfl⟩
    obtain ⟨Fb, hFb⟩ : ∃ B, B = w.heap.size + 1 + 1 := ⟨_, rfl⟩
    rw [← hFb, ← hB] at HNF
    rw [← hFb] at HF6 HX6 ⊢
    rw [← hB] at HX6 HNE ⊢
    clear hB hFb
    go_wp2_with fail
    refine (HEA2.out W6 B Fb HX6.out).mono ?_
    rintro e W7 ⟨rfl, hx7, hg7⟩
    obtain ⟨bb, ra, rn, rk, rss, hn7, hbox7, hL7⟩ := hx7.st
    have HL7 := Lib.hid hL7
    have HN7 := Lib.hid hn7
    have hF7 := (hx7.fst _ rfl).1
    have q0 : W7.cell? ⟨B, 0, none⟩ = some (.slice ra rn rk) := cell_of_block hbox7 0
    have q1 : W7.cell? ⟨Fb, 0, none⟩ = some (.int .i64 (first : Int)) := cell_of_block hF7 0
    have y0 := unfrozen_of_block hbox7 0
    have y1 := unfrozen_of_block hF7 0
    have HBX7 := Lib.hid hbox7
    have HF7 := Lib.hid hF7
    clear hx7 hg7 hbox7 hL7 hn7 hF7 p0 p1 p2 p3 p4 p5 p6 p7 HU6
    go_upto_region 6 with fail
    refine wp_region_noPanic ?_
    refine wp_region_held (S := fun w' => w'.cell? ⟨B, 0, none⟩ = some (.slice ra rn rk) ∧ w'.cell? ⟨Fb, 0, none⟩ = some (.int .i64 (first : Int))) (by kernel_rfl) ?_
    generalize hYY : ({ W7 with drawn := W7.drawn + 1 } : World) = Y7
    have HY0 : Hid (Below W7.heap.size W7 Y7) := by subst hYY; exact (Below.refl _ _).drew
    have HS0 : Hid (Y7.cell? ⟨B, 0, none⟩ = some (.slice ra rn rk) ∧ Y7.cell? ⟨Fb, 0, none⟩ = some (.int .i64 (first : Int))) := ⟨cell_below q0 HY0.out, cell_below q1 HY0.out⟩
    clear hYY
    clear q0 q1 y0 y1
    refine wpAnyH_take (i := 0) (v := ?_) (by simp only [List.getElem?_toArray, List.getElem?_cons_zero]; rfl) (by kernel_rfl) (by kernel_rfl) (by kernel_rfl) (fun _ _ _ h => h) (Or.inl ⟨by rfl, ?_⟩) HS0.out ?_
    rotate_left
    · intro w hSw
      (try dsimp only at hSw)
      obtain ⟨q0_, q1_⟩ := hSw
      go_simp
      try with_reducible rfl
    try simp only [Act.put, List.setIfInBounds_toArray, List.set_cons_zero, List.set_cons_succ]
    refine wpAnyH_take (i := 1) (v := ?_) (by simp only [List.getElem?_toArray, List.getElem?_cons_zero, List.getElem?_cons_succ]; rfl) (by kernel_rfl) (by kernel_rfl) (by kernel_rfl) (fun _ _ _ h => h) (Or.inl ⟨by rfl, ?_⟩) HS0.out ?_
    rotate_left
    · intro w hSw
      (try dsimp only at hSw)
      obtain ⟨q0_, q1_⟩ := hSw
      go_simp
      try with_reducible rfl
    try simp only [Act.put, List.setIfInBounds_toArray, List.set_cons_zero, List.set_cons_succ]
    have hb7 := heap_below HBX7.out HY0.out
    have d0 : Y7.cell? ⟨B, 0, none⟩ = some (.slice ra rn rk) := cell_of_block hb7 0
    have y0 := unfrozen_of_block hb7 0
    have HBY := Lib.hid (setCell_same hb7)
    clear hb7
    refine wpAnyH_ready (rs := [2]) (by kernel_rfl) (by simp) ?_
    refine AllReadyH.cons (by simp only [List.getElem?_toArray, List.getElem?_cons_zero, List.getElem?_cons_succ]; rfl) (fun K hK => ?_) AllReadyH.nil
    go_simp
    generalize hT1 : World.setCell Y7 _ _ = T1
    have HB1 : Hid (Below W7.heap.size W7 T1) := by subst hT1; exact ext_trans HY0.out HBY.out
    clear hT1 d0 y0 HBY
    have HS1 : Hid (T1.cell? ⟨B, 0, none⟩ = some (.slice ra rn rk) ∧ T1.cell? ⟨Fb, 0, none⟩ = some (.int .i64 (first : Int))) := ⟨cell_of_block (heap_below HBX7.out HB1.out) 0, cell_of_block (heap_below HF7.out HB1.out) 0⟩
    refine hK.out _ _ HS1.out (fun _ => ?_)
    clear hK K
    try simp only [Act.put, List.setIfInBounds_toArray, List.set_cons_zero, List.set_cons_succ]
    have hb7 := heap_below HF7.out HB1.out
    have d0 : T1.cell? ⟨Fb, 0, none⟩ = some (.int .i64 (first : Int)) := cell_of_block hb7 0
    have y0 := unfrozen_of_block hb7 0
    have HBY := Lib.hid (setCell_same hb7)
    clear hb7
    refine wpAnyH_ready (rs := [3]) (by kernel_rfl) (by simp) ?_
    refine AllReadyH.cons (by simp only [List.getElem?_toArray, List.getElem?_cons_zero, List.getElem?_cons_succ]; rfl) (fun K hK => ?_) AllReadyH.nil
    go_simp
    generalize hT2 : World.setCell T1 _ _ = T2
    have HB2 : Hid (Below W7.heap.size W7 T2) := by subst hT2; exact ext_trans HB1.out HBY.out
    clear hT2 d0 y0 HBY
    have HS2 : Hid (T2.cell? ⟨B, 0, none⟩ = some (.slice ra rn rk) ∧ T2.cell? ⟨Fb, 0, none⟩ = some (.int .i64 (first : Int))) := ⟨cell_of_block (heap_below HBX7.out HB2.out) 0, cell_of_block (heap_below HF7.out HB2.out) 0⟩
    refine hK.out _ _ HS2.out (fun _ => ?_)
    clear hK K
    try simp only [Act.put, List.setIfInBounds_toArray, List.set_cons_zero, List.set_cons_succ]
    refine wpAnyH_take (i := 4) (v := ?_) (by simp only [List.getElem?_toArray, List.getElem?_cons_zero, List.getElem?_cons_succ]; rfl) (by kernel_rfl) (by kernel_rfl) (by kernel_rfl) (fun _ _ _ h => h) (Or.inl ⟨by rfl, ?_⟩) HS2.out ?_
    rotate_left
    · intro w hSw
      (try dsimp only at hSw)
      obtain ⟨q0_, q1_⟩ := hSw
      go_simp
      try with_reducible rfl
    try simp only [Act.put, List.setIfInBounds_toArray, List.set_cons_zero, List.set_cons_succ]
    refine wpAnyH_done (by kernel_rfl) ?_ _
    refine NoPanic.normal ?_
    have g0 := HS2.out.1
    have g1 := HS2.out.2
    go_wp2
    refine bodyPost_ret (v := .tuple #[.slice ra rn rk, .int .i64 (first : Int), .int .i64 0]) ?_ rfl ?_
    · simp [results, Try.results14, go_sem, g0, g1]
    · have hl7 := HL7.out.onward HB2.out
      obtain ⟨a', k', e', hs'⟩ := hl7.done
      rw [← HN7.out] at e'
      cases e'
      refine ⟨hl7.bel, ra, rn, rk, rss, by rw [HA.out]; rfl, ?_⟩
      rw [HA.out, HN7.out]
      exact hs'
  · have HA := Lib.hid (A2.out rfl hm)
    clear HMN HEA A1 A2 A3 HLA HSM
    unfold uZ
    go_upto_region 3 with fail
    generalize hW : World.alloc W3 _ = W4
    have hl := HL3.out
    have hL4 : W4.heap[w.heap.size + 1]? = some (.cells #[.slice none 0 0] 39 (0, 0)) := by subst hW; exact heap_below HL3.out (ext_alloc _ _)
    have hF4 : W4.heap[w.heap.size + 1 + 1]? = some (.cells #[.int .i64 0] 3 (0, 0)) := by subst hW; exact heap_below HF3.out (ext_alloc _ _)
    have HB4 : Hid (Below w.heap.size w W4) := by subst hW; exact ext_trans HB3.out (ext_alloc _ _)
    clear hW hl HL3 HF3 HB3
    have d0 : W4.cell? ⟨w.heap.size + 1, 0, none⟩ = some (.slice none 0 0) := cell_of_block hL4 0
    have d1 : W4.cell? ⟨w.heap.size + 1 + 1, 0, none⟩ = some (.int .i64 0) := cell_of_block hF4 0
    have y0 := unfrozen_of_block hL4 0
    have y1 := unfrozen_of_block hF4 0
    have HL4 := Lib.hid hL4
    have HF4 := Lib.hid hF4
    clear hL4 hF4
    go_wp2
    refine bodyPost_ret (v := .tuple #[.slice none 0 0, .int .i64 0, .int .i64 3]) ?_ rfl ?_
    · simp [results, Try.results14, go_sem, d0, d1]
    · refine ⟨(HB4.out.setCell (p := ⟨w.heap.size + 1, 0, none⟩) (by simp) _).setCell (p := ⟨w.heap.size + 1 + 1, 0, none⟩) (by simp; omega) _, none, 0, 0, [], by rw [HA.out]; rfl, ?_⟩
      rw [HA.out]; exact SeesZ.nil _
  · have HA := Lib.hid (A3.out rfl)
    clear HMN HEA A1 A2 A3 HLA HSM
    unfold uZ
    go_upto_region 3 with fail
    generalize hW : World.alloc W3 _ = W4
    have hl := HL3.out
    have hL4 : W4.heap[w.heap.size + 1]? = some (.cells #[.slice none 0 0] 39 (0, 0)) := by subst hW; exact heap_below HL3.out (ext_alloc _ _)
    have hF4 : W4.heap[w.heap.size + 1 + 1]? = some (.cells #[.int .i64 0] 3 (0, 0)) := by subst hW; exact heap_below HF3.out (ext_alloc _ _)
    have HB4 : Hid (Below w.heap.size w W4) := by subst hW; exact ext_trans HB3.out (ext_alloc _ _)
    clear hW hl HL3 HF3 HB3
    have d0 : W4.cell? ⟨w.heap.size + 1, 0, none⟩ = some (.slice none 0 0) := cell_of_block hL4 0
    have d1 : W4.cell? ⟨w.heap.size + 1 + 1, 0, none⟩ = some (.int .i64 0) := cell_of_block hF4 0
    have y0 := unfrozen_of_block hL4 0
    have y1 := unfrozen_of_block hF4 0
    have HL4 := Lib.hid hL4
    have HF4 := Lib.hid hF4
    clear hL4 hF4
    go_wp2
    refine bodyPost_ret (v := .tuple #[.slice none 0 0, .int .i64 0, .int .i64 2]) ?_ rfl ?_
    · simp [results, Try.results14, go_sem, d0, d1]
    · refine ⟨(HB4.out.setCell (p := ⟨w.heap.size + 1, 0, none⟩) (by simp) _).setCell (p := ⟨w.heap.size + 1 + 1, 0, none⟩) (by simp; omega) _, none, 0, 0, [], by rw [HA.out]; rfl, ?_⟩
      rw [HA.out]; exact SeesZ.nil _
end Go.Proofs.Ytcoehbkjccfhlaa
