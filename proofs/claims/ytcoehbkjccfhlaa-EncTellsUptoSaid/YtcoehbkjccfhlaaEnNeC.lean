/- enc's enumeration of clauses, with the closure of enc.Clauses, by its contracts. -/
import Derived.Test.YtcoehbkjccfhlaaGEncT01
import Derived.Test.YtcoehbkjccfhlaaGEncT06
import Derived.Test.YtcoehbkjccfhlaaGEncT03
import Derived.Test.YtcoehbkjccfhlaaGEncT02
import Derived.Test.YtcoehbkjccfhlaaGEncT07
import Derived.Test.YtcoehbkjccfhlaaGEncT10
import Derived.Test.YtcoehbkjccfhlaaGEncT11
import Derived.Test.YtcoehbkjccfhlaaEnSmall
import Derived.Test.YtcoehbkjccfhlaaRows
import Derived.BigQuiet
import Derived.Deep.AppendLies
import Derived.Deep.CutRange
import Derived.Deep.QuietTactic
import Derived.Deep.RegionHeld3
import Derived.Deep.RegionLaw
import Derived.Deep.RegionWith
import Derived.KernelRfl
import Derived.Laws.EntriesVeiled
import Derived.Laws.Tables
import Derived.Lib.ConvBytes
import Derived.Lib.Hide
import Derived.Lib.SlBytesRow
import Derived.Lib.SmallJoins
import Derived.Maps.AppendAt
import Derived.OrdersHeld
import Derived.Shelf.Bytes.SlSmallAll
import Derived.WalkKit
import Derived.WalkLawsBesides
import Derived.WalkSpells
namespace Go.Proofs.Ytcoehbkjccfhlaa
open Go Go.RowKit Go.Joins

set_option maxRecDepth 100000 in
set_option maxHeartbeats 6400000 in
theorem eachNextC_any (c : NormC) (s : CSlots) (nf : Nat) (w0 w : World) (B : Nat) (L : List (List Int)) (f : Nat) (hf1 : 1 ≤ f ∧ f ≤ 255) (h : SeesCir w0 s c) (hs : s.small) (hM : MayC c) (H : EnX none w0 B L w) (hL : L.length ≤ 20000000) :
    Calls Try.prog 62 #[uV c.ins s (varsN c) nf, .int .i64 (f : Int), .func (.func 40) #[] #[.pointer (some ⟨B, 0, none⟩)]] w fun e w' => e = .returned (.tuple #[]) ∧ EnX none w0 B (L ++ (upE (nextE c f) c.lats.length).map (phiE none)) w' ∧ EnGo B w w' := by
  obtain ⟨i, hi⟩ := Int.eq_ofNat_of_zero_le hM.pos
  have hi2 : c.ins.toNat = i := by rw [hi]; rfl
  have HDO : Hid (∀ (g : Int) (C : List Int) (b off n : Nat) (W : World) (L : List (List Int)), EnX none w0 B L W → L.length ≤ 100000000 → OneZ w0 W (some ⟨b, off, none⟩, n, n) C → (-1 ≤ g ∧ g ≤ 100000000) → n ≤ 1000 → Calls Try.prog 40 #[.int .i64 g, .slice (some ⟨b, off, none⟩) n n, .pointer (some ⟨B, 0, none⟩)] W fun e w' => e = .returned (.tuple #[]) ∧ EnX none w0 B (L ++ [phiE none (g, C)]) w' ∧ EnGo B W w') := fun g C b off n W L h1 h2 h3 h4 h5 => doC_any g C b off n w0 W B L h1 h2 h3 h4 h5
  have hfew := hM.few
  have hlats := hM.lats
  have hgates := hM.gates
  have hV1 : varsN c = i + c.lats.length + c.gates.length := by unfold varsN; rw [hi2]
  have l1 : c.lats.length = s.n1 := h.s1.1
  have l2 : c.gates.length = s.n2 := h.s2.1
  have HFL := Lib.hid (fun W (V : Nat) => ufirstLatch_any i s V nf (by omega) W)
  have HFG := Lib.hid (fun W (V : Nat) => ufirstGate_any i s V nf (by omega) hs W)
  have HSP := Lib.hid (fun W (V v f : Nat) (hV : V ≤ 16384) (hv : v ≤ 1048576) (hf : f ≤ 256) => spot_any i s V nf v f hV hv hf W)
  have HLI := Lib.hid (fun W (V x f : Nat) (hV : V ≤ 16384) (hx : x ≤ 2 * V + 1) (hf : f ≤ 256) => ulit_any i s V nf x f hV hx hf W)
  have HS1 := Lib.hid h.s1
  have HS2 := Lib.hid h.s2
  clear h hs hM
  rw [hi]
  clear hi
  obtain ⟨V, hV⟩ : ∃ V, V = varsN c := ⟨_, rfl⟩
  obtain ⟨a1, n1, c1, a2, n2, c2, a3, n3, c3, a4, n4, c4, a5, n5, c5⟩ := s
  simp only at HS1 HS2 l1 l2
  have HRE : Hid (∀ k, nextE c f k = [(-1, [-((spotE V (1 + i + k) f : Nat) : Int), litE V (c.lats.getD k (0, 0)).1 (f - 1)]), (-1, [((spotE V (1 + i + k) f : Nat) : Int), -(litE V (c.lats.getD k (0, 0)).1 (f - 1))])]) := fun k => by unfold nextE firstLatE; rw [hi2, ← hV]
  rw [← hV] at hfew hlats hV1 ⊢
  rw [l1, l2] at hV1
  have HLEN : Hid (∀ k, k ≤ n1 → (L ++ (upE (nextE c f) k).map (phiE none)).length ≤ 99000000) := fun k hk => by
    have := upE_len (nextE c f) 2 k (fun j _ => by simp [nextE])
    simp only [List.length_append, List.length_map]
    omega
  have HL1 := Lib.hid l1
  have HL2 := Lib.hid l2
  have HHY := Lib.hid hlats
  obtain ⟨fl, hfl⟩ : ∃ n, n = 1 + i := ⟨_, rfl⟩
  rw [← hfl] at HRE
  have HF1 : Hid (∀ W, Calls Try.prog 48 #[uV i ⟨a1, n1, c1, a2, n2, c2, a3, n3, c3, a4, n4, c4, a5, n5, c5⟩ V nf] W fun e w' => e = .returned (.int .i64 (fl : Int)) ∧ Below W.heap.size W w') := fun W => by rw [hfl]; exact HFL.out W V
  have hflV : fl + n1 ≤ V + 1 := by omega
  have hg2 : ∀ k, k < n1 → (c.lats.getD k (0, 0)).1 ≤ 2 * V + 1 ∧ (c.lats.getD k (0, 0)).2 ≤ 2 := fun k hk => hlats _ (getD_mem (by rw [l1]; exact hk))
  have HHY2 := Lib.hid hg2
  clear hg2 hgates hlats
  clear HFL HFG HHY hfl hV hi2 hV1 l1 l2 hL
  have HXX := Lib.hid H
  have hBlt : B < w.heap.size := by obtain ⟨_, _, _, _, _, h2, _⟩ := H.st.has; exact heap_lt h2
  have HBU : Hid (w.heap.size ≠ B) := by show _ ≠ _; omega
  clear hBlt H
  unfold uV at *
  go_enter Try.func62, Try.ntmps62
  go_wp2_with fail
  generalize hW : World.alloc w _ = W0
  have hU : W0.heap[w.heap.size]? = some (.cells #[.int .i64 (i : Int), .slice a1 n1 c1, .slice a2 n2 c2, .slice a3 n3 c3, .slice a4 n4 c4, .slice a5 n5 c5, .int .i64 (V : Int), .int .i64 (nf : Int)] 67 (0, 0)) := by subst hW; exact heap_new _ _ _ rfl
  have hX0 : EnX none w0 B L W0 := by subst hW; exact HXX.out.below (ext_alloc _ _)
  have hG0 : EnGo B w W0 := by subst hW; exact EnGo.below (ext_alloc _ _)
  have HU := Lib.hid hU
  have HX0 := Lib.hid hX0
  have HG0 := Lib.hid hG0
  clear hW hU hX0 hG0 HXX
  go_loopw [14] (fun ix wr => ∃ k : Nat, k ≤ n1 ∧ ix = .int .i64 k ∧ Hid (EnX none w0 B (L ++ (upE (nextE c f) k).map (phiE none)) wr) ∧ Hid (EnGo B W0 wr)) (fun ix _ => n1 - (intOf ix).toNat)
  case atStart => exact ⟨0, Nat.zero_le _, rfl, by show EnX _ _ _ _ _; rw [upE_zero]; simpa using HX0.out, EnGo.refl _ _⟩
  case round =>
    obtain ⟨k, hk, rfl, hX, hG⟩ := hrel
    by_cases hlt : k < n1
    · obtain ⟨b0, o0, rfl, hb0⟩ := HS1.out.addr (by omega)
      have hcx := (HS1.out.below hX.out.st.bel).cells k hlt (0, 0)
      have hp3 := HHY2.out k hlt
      have hre := HRE.out k
      have hlen := HLEN.out k hk
      have hnext : L ++ (upE (nextE c f) (k + 1)).map (phiE none) = (L ++ (upE (nextE c f) k).map (phiE none)) ++ (nextE c f k).map (phiE none) := by rw [upE_succ, List.map_append, List.append_assoc]
      obtain ⟨Lk, hLk⟩ : ∃ l, l = L ++ (upE (nextE c f) k).map (phiE none) := ⟨_, rfl⟩
      rw [← hLk] at hX hlen hnext
      obtain ⟨p, hp⟩ : ∃ p, p = c.lats.getD k (0, 0) := ⟨_, rfl⟩
      rw [← hp] at hcx hp3 hre
      obtain ⟨p1, p2⟩ := p
      obtain ⟨hcx1, hcx2⟩ := hcx
      simp only at hcx1 hcx2 hp3 hre
      unfold nv32 at hcx1
      unfold nv8 at hcx2
      obtain ⟨fv, hfv⟩ : ∃ n, n = fl + k := ⟨_, rfl⟩
      have hfv2 : fv ≤ V := by omega
      rw [← hfv] at hre
      have WF : IntKind.i64.wrap ((fl : Int) + (k : Int)) = (fv : Int) := by rw [show (fl : Int) + (k : Int) = (fv : Int) by omega]; exact IntWalk.i64_in _ (by omega)
      have W8 : IntKind.i64.wrap ((k : Int) + 1) = (k : Int) + 1 := IntWalk.i64_in _ (by omega)
      have hsl := spotE_lt (V := V) (v := fv) (f := f) hfew hfv2 (by omega)
      obtain ⟨sp, hsp⟩ : ∃ n, n = spotE V fv f := ⟨_, rfl⟩
      rw [← hsp] at hre hsl
      have HSP1 : Hid (∀ W, Calls Try.prog 47 #[.agg #[.int .i64 (i : Int), .slice (some ⟨b0, o0, none⟩) n1 c1, .slice a2 n2 c2, .slice a3 n3 c3, .slice a4 n4 c4, .slice a5 n5 c5, .int .i64 (V : Int), .int .i64 (nf : Int)], .int .i64 (fv : Int), .int .i64 (f : Int)] W fun e w' => e = .returned (.int .i64 (sp : Int)) ∧ Below W.heap.size W w') := fun W => by rw [hsp]; exact HSP.out W V fv f hfew (by omega) (by omega)
      have NS : IntKind.i64.wrap (-(sp : Int)) = -(sp : Int) := IntWalk.i64_in _ (by omega)
      obtain ⟨f1, hf1⟩ : ∃ n, n = f - 1 := ⟨_, rfl⟩
      rw [← hf1] at hre
      have WM : IntKind.i64.wrap ((f : Int) - 1) = (f1 : Int) := by rw [show (f : Int) - 1 = (f1 : Int) by omega]; exact IntWalk.i64_in _ (by omega)
      have hs_la := litE_small (V := V) (x := p1) (f := f1) hfew (by omega) (by omega)
      obtain ⟨la, hla⟩ : ∃ z, z = litE V p1 f1 := ⟨_, rfl⟩
      rw [← hla] at hre hs_la
      have HLI_la : Hid (∀ W, Calls Try.prog 34 #[.agg #[.int .i64 (i : Int), .slice (some ⟨b0, o0, none⟩) n1 c1, .slice a2 n2 c2, .slice a3 n3 c3, .slice a4 n4 c4, .slice a5 n5 c5, .int .i64 (V : Int), .int .i64 (nf : Int)], .int .u32 (p1 : Int), .int .i64 (f1 : Int)] W fun e w' => e = .returned (.int .i64 la) ∧ Below W.heap.size W w') := fun W => by rw [hla]; exact HLI.out W V p1 f1 hfew (by omega) (by omega)
      have N_la : IntKind.i64.wrap (-la) = -la := IntWalk.i64_in _ (by omega)
      have hw0 : w0.heap.size ≤ wr.heap.size := hX.out.st.bel.size
      have HW0 := Lib.hid hw0
      have HRK := Lib.hid hre
      have HNX := Lib.hid hnext
      have HLK : Hid (Lk.length ≤ 99000000) := hlen
      have HX := Lib.hid hX.out
      have HG := Lib.hid hG.out
      have HUr := Lib.hid (HG.out.at_ HU.out HBU.out (by decide))
      clear hre hnext hlen hLk hp hsp hfv hfv2 hsl hX hG hw0 hb0 hp3 hla hs_la hf1
      go_upto_region 4 with fail
      generalize hW : World.alloc wr _ = W1
      have hU1 : W1.heap[w.heap.size]? = some (.cells #[.int .i64 (i : Int), .slice (some ⟨b0, o0, none⟩) n1 c1, .slice a2 n2 c2, .slice a3 n3 c3, .slice a4 n4 c4, .slice a5 n5 c5, .int .i64 (V : Int), .int .i64 (nf : Int)] 67 (0, 0)) := by subst hW; exact heap_below HUr.out (ext_alloc _ _)
      have hE1 : W1.heap[wr.heap.size]? = some (.cells #[.int .u32 (p1 : Int), .int .u8 (p2 : Int)] 63 (0, 0)) := by subst hW; exact heap_new _ _ _ rfl
      have hb1 : Below wr.heap.size wr W1 := by subst hW; exact ext_alloc _ _
      clear hW
      have HU1 := Lib.hid hU1
      have HE1 := Lib.hid hE1
      have HB1 := Lib.hid hb1
      clear hU1 hE1 hb1 HUr hcx1 hcx2
      have p_0 : W1.cell? ⟨w.heap.size, 0, none⟩ = some (.int .i64 (i : Int)) := cell_of_block HU1.out 0
      have p_1 : W1.cell? ⟨w.heap.size, 1, none⟩ = some (.slice (some ⟨b0, o0, none⟩) n1 c1) := cell_of_block HU1.out 1
      have p_2 : W1.cell? ⟨w.heap.size, 2, none⟩ = some (.slice a2 n2 c2) := cell_of_block HU1.out 2
      have p_3 : W1.cell? ⟨w.heap.size, 3, none⟩ = some (.slice a3 n3 c3) := cell_of_block HU1.out 3
      have p_4 : W1.cell? ⟨w.heap.size, 4, none⟩ = some (.slice a4 n4 c4) := cell_of_block HU1.out 4
      have p_5 : W1.cell? ⟨w.heap.size, 5, none⟩ = some (.slice a5 n5 c5) := cell_of_block HU1.out 5
      have p_6 : W1.cell? ⟨w.heap.size, 6, none⟩ = some (.int .i64 (V : Int)) := cell_of_block HU1.out 6
      have p_7 : W1.cell? ⟨w.heap.size, 7, none⟩ = some (.int .i64 (nf : Int)) := cell_of_block HU1.out 7
      have p_8 : W1.cell? ⟨wr.heap.size, 0, none⟩ = some (.int .u32 (p1 : Int)) := cell_of_block HE1.out 0
      refine wp_region_noPanic ?_
      refine wp_region_held (S := fun w' => w'.cell? ⟨w.heap.size, 0, none⟩ = some (.int .i64 (i : Int)) ∧ w'.cell? ⟨w.heap.size, 1, none⟩ = some (.slice (some ⟨b0, o0, none⟩) n1 c1) ∧ w'.cell? ⟨w.heap.size, 2, none⟩ = some (.slice a2 n2 c2) ∧ w'.cell? ⟨w.heap.size, 3, none⟩ = some (.slice a3 n3 c3) ∧ w'.cell? ⟨w.heap.size, 4, none⟩ = some (.slice a4 n4 c4) ∧ w'.cell? ⟨w.heap.size, 5, none⟩ = some (.slice a5 n5 c5) ∧ w'.cell? ⟨w.heap.size, 6, none⟩ = some (.int .i64 (V : Int)) ∧ w'.cell? ⟨w.heap.size, 7, none⟩ = some (.int .i64 (nf : Int)) ∧ w'.cell? ⟨wr.heap.size, 0, none⟩ = some (.int .u32 (p1 : Int))) (by kernel_rfl) ?_
      generalize hYY : ({ W1 with drawn := W1.drawn + 1 } : World) = Y0
      have HY0 : Hid (Below W1.heap.size W1 Y0) := by subst hYY; exact (Below.refl _ _).drew
      have HS0 : Hid (Y0.cell? ⟨w.heap.size, 0, none⟩ = some (.int .i64 (i : Int)) ∧ Y0.cell? ⟨w.heap.size, 1, none⟩ = some (.slice (some ⟨b0, o0, none⟩) n1 c1) ∧ Y0.cell? ⟨w.heap.size, 2, none⟩ = some (.slice a2 n2 c2) ∧ Y0.cell? ⟨w.heap.size, 3, none⟩ = some (.slice a3 n3 c3) ∧ Y0.cell? ⟨w.heap.size, 4, none⟩ = some (.slice a4 n4 c4) ∧ Y0.cell? ⟨w.heap.size, 5, none⟩ = some (.slice a5 n5 c5) ∧ Y0.cell? ⟨w.heap.size, 6, none⟩ = some (.int .i64 (V : Int)) ∧ Y0.cell? ⟨w.heap.size, 7, none⟩ = some (.int .i64 (nf : Int)) ∧ Y0.cell? ⟨wr.heap.size, 0, none⟩ = some (.int .u32 (p1 : Int))) := ⟨cell_below p_0 HY0.out, cell_below p_1 HY0.out, cell_below p_2 HY0.out, cell_below p_3 HY0.out, cell_below p_4 HY0.out, cell_below p_5 HY0.out, cell_below p_6 HY0.out, cell_below p_7 HY0.out, cell_below p_8 HY0.out⟩
      clear hYY
      clear p_0 p_1 p_2 p_3 p_4 p_5 p_6 p_7 p_8
      refine wpAnyH_take (i := 0) (v := ?_) (by simp only [List.getElem?_toArray, List.getElem?_cons_zero]; rfl) (by kernel_rfl) (by kernel_rfl) (by kernel_rfl) (fun _ _ _ h => h) (Or.inl ⟨by rfl, ?_⟩) HS0.out ?_
      rotate_left
      · intro w hSw
        (try dsimp only at hSw)
        obtain ⟨q0_, q1_, q2_, q3_, q4_, q5_, q6_, q7_, q8_⟩ := hSw
        go_simp
        try with_reducible rfl
      try simp only [Act.put, List.setIfInBounds_toArray, List.set_cons_zero, List.set_cons_succ]
      refine wpAnyH_take (i := 1) (v := ?_) (by simp only [List.getElem?_toArray, List.getElem?_cons_zero, List.getElem?_cons_succ]; rfl) (by kernel_rfl) (by kernel_rfl) (by kernel_rfl) (fun _ _ _ h => h) (Or.inl ⟨by rfl, ?_⟩) HS0.out ?_
      rotate_left
      · intro w hSw
        (try dsimp only at hSw)
        obtain ⟨q0_, q1_, q2_, q3_, q4_, q5_, q6_, q7_, q8_⟩ := hSw
        go_simp
        try with_reducible rfl
      try simp only [Act.put, List.setIfInBounds_toArray, List.set_cons_zero, List.set_cons_succ]
      refine wpAnyH_take (i := 3) (v := ?_) (by simp only [List.getElem?_toArray, List.getElem?_cons_zero, List.getElem?_cons_succ]; rfl) (by kernel_rfl) (by kernel_rfl) (by kernel_rfl) (fun _ _ _ h => h) (Or.inl ⟨by rfl, ?_⟩) HS0.out ?_
      rotate_left
      · intro w hSw
        (try dsimp only at hSw)
        obtain ⟨q0_, q1_, q2_, q3_, q4_, q5_, q6_, q7_, q8_⟩ := hSw
        go_simp
        try with_reducible rfl
      try simp only [Act.put, List.setIfInBounds_toArray, List.set_cons_zero, List.set_cons_succ]
      refine wpAnyH_take (i := 5) (v := ?_) (by simp only [List.getElem?_toArray, List.getElem?_cons_zero, List.getElem?_cons_succ]; rfl) (by kernel_rfl) (by kernel_rfl) (by kernel_rfl) (fun _ _ _ h => h) (Or.inl ⟨by rfl, ?_⟩) HS0.out ?_
      rotate_left
      · intro w hSw
        (try dsimp only at hSw)
        obtain ⟨q0_, q1_, q2_, q3_, q4_, q5_, q6_, q7_, q8_⟩ := hSw
        go_simp
        try with_reducible rfl
      try simp only [Act.put, List.setIfInBounds_toArray, List.set_cons_zero, List.set_cons_succ]
      refine wpAnyH_take (i := 7) (v := ?_) (by simp only [List.getElem?_toArray, List.getElem?_cons_zero, List.getElem?_cons_succ]; rfl) (by kernel_rfl) (by kernel_rfl) (by kernel_rfl) (fun _ _ _ h => h) (Or.inl ⟨by rfl, ?_⟩) HS0.out ?_
      rotate_left
      · intro w hSw
        (try dsimp only at hSw)
        obtain ⟨q0_, q1_, q2_, q3_, q4_, q5_, q6_, q7_, q8_⟩ := hSw
        go_simp
        try with_reducible rfl
      try simp only [Act.put, List.setIfInBounds_toArray, List.set_cons_zero, List.set_cons_succ]
      refine wpAnyH_take (i := 8) (v := ?_) (by simp only [List.getElem?_toArray, List.getElem?_cons_zero, List.getElem?_cons_succ]; rfl) (by kernel_rfl) (by kernel_rfl) (by kernel_rfl) (fun _ _ _ h => h) (Or.inl ⟨by rfl, ?_⟩) HS0.out ?_
      rotate_left
      · intro w hSw
        (try dsimp only at hSw)
        obtain ⟨q0_, q1_, q2_, q3_, q4_, q5_, q6_, q7_, q8_⟩ := hSw
        go_simp
        try with_reducible rfl
      try simp only [Act.put, List.setIfInBounds_toArray, List.set_cons_zero, List.set_cons_succ]
      refine wpAnyH_take (i := 9) (v := ?_) (by simp only [List.getElem?_toArray, List.getElem?_cons_zero, List.getElem?_cons_succ]; rfl) (by kernel_rfl) (by kernel_rfl) (by kernel_rfl) (fun _ _ _ h => h) (Or.inl ⟨by rfl, ?_⟩) HS0.out ?_
      rotate_left
      · intro w hSw
        (try dsimp only at hSw)
        obtain ⟨q0_, q1_, q2_, q3_, q4_, q5_, q6_, q7_, q8_⟩ := hSw
        go_simp
        try with_reducible rfl
      try simp only [Act.put, List.setIfInBounds_toArray, List.set_cons_zero, List.set_cons_succ]
      refine wpAnyH_take (i := 10) (v := ?_) (by simp only [List.getElem?_toArray, List.getElem?_cons_zero, List.getElem?_cons_succ]; rfl) (by kernel_rfl) (by kernel_rfl) (by kernel_rfl) (fun _ _ _ h => h) (Or.inl ⟨by rfl, ?_⟩) HS0.out ?_
      rotate_left
      · intro w hSw
        (try dsimp only at hSw)
        obtain ⟨q0_, q1_, q2_, q3_, q4_, q5_, q6_, q7_, q8_⟩ := hSw
        go_simp
        try with_reducible rfl
      try simp only [Act.put, List.setIfInBounds_toArray, List.set_cons_zero, List.set_cons_succ]
      refine wpAnyH_take (i := 11) (v := ?_) (by simp only [List.getElem?_toArray, List.getElem?_cons_zero, List.getElem?_cons_succ]; rfl) (by kernel_rfl) (by kernel_rfl) (by kernel_rfl) (fun _ _ _ h => h) (Or.inl ⟨by rfl, ?_⟩) HS0.out ?_
      rotate_left
      · intro w hSw
        (try dsimp only at hSw)
        obtain ⟨q0_, q1_, q2_, q3_, q4_, q5_, q6_, q7_, q8_⟩ := hSw
        go_simp
        try with_reducible rfl
      try simp only [Act.put, List.setIfInBounds_toArray, List.set_cons_zero, List.set_cons_succ]
      refine wpAnyH_ready (rs := [2]) (by kernel_rfl) (by simp) ?_
      refine AllReadyH.cons (by simp only [List.getElem?_toArray, List.getElem?_cons_zero, List.getElem?_cons_succ]; rfl) (fun K hK => ?_) AllReadyH.nil
      go_simp
      refine (HF1.out _).mono ?_
      rintro e s1 ⟨rfl, b1⟩
      have HY1 := Lib.hid (ext_trans HY0.out b1)
      have HT1 : Hid (s1.cell? ⟨w.heap.size, 0, none⟩ = some (.int .i64 (i : Int)) ∧ s1.cell? ⟨w.heap.size, 1, none⟩ = some (.slice (some ⟨b0, o0, none⟩) n1 c1) ∧ s1.cell? ⟨w.heap.size, 2, none⟩ = some (.slice a2 n2 c2) ∧ s1.cell? ⟨w.heap.size, 3, none⟩ = some (.slice a3 n3 c3) ∧ s1.cell? ⟨w.heap.size, 4, none⟩ = some (.slice a4 n4 c4) ∧ s1.cell? ⟨w.heap.size, 5, none⟩ = some (.slice a5 n5 c5) ∧ s1.cell? ⟨w.heap.size, 6, none⟩ = some (.int .i64 (V : Int)) ∧ s1.cell? ⟨w.heap.size, 7, none⟩ = some (.int .i64 (nf : Int)) ∧ s1.cell? ⟨wr.heap.size, 0, none⟩ = some (.int .u32 (p1 : Int))) := ⟨cell_below HS0.out.1 b1, cell_below HS0.out.2.1 b1, cell_below HS0.out.2.2.1 b1, cell_below HS0.out.2.2.2.1 b1, cell_below HS0.out.2.2.2.2.1 b1, cell_below HS0.out.2.2.2.2.2.1 b1, cell_below HS0.out.2.2.2.2.2.2.1 b1, cell_below HS0.out.2.2.2.2.2.2.2.1 b1, cell_below HS0.out.2.2.2.2.2.2.2.2 b1⟩
      refine hK.out _ _ HT1.out (fun _ => ?_)
      clear hK K
      try simp only [Act.put, List.setIfInBounds_toArray, List.set_cons_zero, List.set_cons_succ]
      clear b1
      refine wpAnyH_take (i := 4) (v := ?_) (by simp only [List.getElem?_toArray, List.getElem?_cons_zero, List.getElem?_cons_succ]; rfl) (by kernel_rfl) (by kernel_rfl) (by kernel_rfl) (fun _ _ _ h => h) (Or.inl ⟨by rfl, ?_⟩) HT1.out ?_
      rotate_left
      · intro w hSw
        (try dsimp only at hSw)
        obtain ⟨q0_, q1_, q2_, q3_, q4_, q5_, q6_, q7_, q8_⟩ := hSw
        go_simp
        try with_reducible rfl
      try simp only [Act.put, List.setIfInBounds_toArray, List.set_cons_zero, List.set_cons_succ]
      refine wpAnyH_ready (rs := [6]) (by kernel_rfl) (by simp) ?_
      refine AllReadyH.cons (by simp only [List.getElem?_toArray, List.getElem?_cons_zero, List.getElem?_cons_succ]; rfl) (fun K hK => ?_) AllReadyH.nil
      go_simp
      refine (HSP1.out _).mono ?_
      rintro e s2 ⟨rfl, b1⟩
      have HY2 := Lib.hid (ext_trans HY1.out b1)
      have HT2 : Hid (s2.cell? ⟨w.heap.size, 0, none⟩ = some (.int .i64 (i : Int)) ∧ s2.cell? ⟨w.heap.size, 1, none⟩ = some (.slice (some ⟨b0, o0, none⟩) n1 c1) ∧ s2.cell? ⟨w.heap.size, 2, none⟩ = some (.slice a2 n2 c2) ∧ s2.cell? ⟨w.heap.size, 3, none⟩ = some (.slice a3 n3 c3) ∧ s2.cell? ⟨w.heap.size, 4, none⟩ = some (.slice a4 n4 c4) ∧ s2.cell? ⟨w.heap.size, 5, none⟩ = some (.slice a5 n5 c5) ∧ s2.cell? ⟨w.heap.size, 6, none⟩ = some (.int .i64 (V : Int)) ∧ s2.cell? ⟨w.heap.size, 7, none⟩ = some (.int .i64 (nf : Int)) ∧ s2.cell? ⟨wr.heap.size, 0, none⟩ = some (.int .u32 (p1 : Int))) := ⟨cell_below HT1.out.1 b1, cell_below HT1.out.2.1 b1, cell_below HT1.out.2.2.1 b1, cell_below HT1.out.2.2.2.1 b1, cell_below HT1.out.2.2.2.2.1 b1, cell_below HT1.out.2.2.2.2.2.1 b1, cell_below HT1.out.2.2.2.2.2.2.1 b1, cell_below HT1.out.2.2.2.2.2.2.2.1 b1, cell_below HT1.out.2.2.2.2.2.2.2.2 b1⟩
      refine hK.out _ _ HT2.out (fun _ => ?_)
      clear hK K
      try simp only [Act.put, List.setIfInBounds_toArray, List.set_cons_zero, List.set_cons_succ]
      clear b1
      refine wpAnyH_ready (rs := [12]) (by kernel_rfl) (by simp) ?_
      refine AllReadyH.cons (by simp only [List.getElem?_toArray, List.getElem?_cons_zero, List.getElem?_cons_succ]; rfl) (fun K hK => ?_) AllReadyH.nil
      go_simp
      refine (HLI_la.out _).mono ?_
      rintro e s3 ⟨rfl, b1⟩
      have HY3 := Lib.hid (ext_trans HY2.out b1)
      have HT3 : Hid (s3.cell? ⟨w.heap.size, 0, none⟩ = some (.int .i64 (i : Int)) ∧ s3.cell? ⟨w.heap.size, 1, none⟩ = some (.slice (some ⟨b0, o0, none⟩) n1 c1) ∧ s3.cell? ⟨w.heap.size, 2, none⟩ = some (.slice a2 n2 c2) ∧ s3.cell? ⟨w.heap.size, 3, none⟩ = some (.slice a3 n3 c3) ∧ s3.cell? ⟨w.heap.size, 4, none⟩ = some (.slice a4 n4 c4) ∧ s3.cell? ⟨w.heap.size, 5, none⟩ = some (.slice a5 n5 c5) ∧ s3.cell? ⟨w.heap.size, 6, none⟩ = some (.int .i64 (V : Int)) ∧ s3.cell? ⟨w.heap.size, 7, none⟩ = some (.int .i64 (nf : Int)) ∧ s3.cell? ⟨wr.heap.size, 0, none⟩ = some (.int .u32 (p1 : Int))) := ⟨cell_below HT2.out.1 b1, cell_below HT2.out.2.1 b1, cell_below HT2.out.2.2.1 b1, cell_below HT2.out.2.2.2.1 b1, cell_below HT2.out.2.2.2.2.1 b1, cell_below HT2.out.2.2.2.2.2.1 b1, cell_below HT2.out.2.2.2.2.2.2.1 b1, cell_below HT2.out.2.2.2.2.2.2.2.1 b1, cell_below HT2.out.2.2.2.2.2.2.2.2 b1⟩
      refine hK.out _ _ HT3.out (fun _ => ?_)
      clear hK K
      try simp only [Act.put, List.setIfInBounds_toArray, List.set_cons_zero, List.set_cons_succ]
      clear b1
      refine wpAnyH_take (i := 13) (v := ?_) (by simp only [List.getElem?_toArray, List.getElem?_cons_zero, List.getElem?_cons_succ]; rfl) (by kernel_rfl) (by kernel_rfl) (by kernel_rfl) (fun _ _ _ h => h) (Or.inl ⟨by rfl, ?_⟩) HT3.out ?_
      rotate_left
      · intro w hSw
        (try dsimp only at hSw)
        obtain ⟨q0_, q1_, q2_, q3_, q4_, q5_, q6_, q7_, q8_⟩ := hSw
        go_simp
        try with_reducible rfl
      try simp only [Act.put, List.setIfInBounds_toArray, List.set_cons_zero, List.set_cons_succ]
      refine wpAnyH_take (i := 14) (v := ?_) (by simp only [List.getElem?_toArray, List.getElem?_cons_zero, List.getElem?_cons_succ]; rfl) (by kernel_rfl) (by kernel_rfl) (by kernel_rfl) (fun _ _ _ h => h) (Or.inl ⟨by rfl, ?_⟩) HT3.out ?_
      rotate_left
      · intro w hSw
        (try dsimp only at hSw)
        obtain ⟨q0_, q1_, q2_, q3_, q4_, q5_, q6_, q7_, q8_⟩ := hSw
        go_simp
        try with_reducible rfl
      try simp only [Act.put, List.setIfInBounds_toArray, List.set_cons_zero, List.set_cons_succ]
      refine wpAnyH_done (by kernel_rfl) ?_ _
      refine NoPanic.normal ?_
      have HB2 := Lib.hid (ext_trans HB1.out HY3.out)
      have HX2 := Lib.hid (HX.out.below HB2.out)
      have HG2 : Hid (EnGo B W0 s3) := HG.out.trans (EnGo.below HB2.out)
      have HE2 := Lib.hid (heap_below HE1.out HY3.out)
      have HW2 : Hid (w0.heap.size ≤ s3.heap.size) := Nat.le_trans HW0.out HB2.out.size
      have HWZ := HW2
      go_wp2_with fail
      refine (HDO.out (-1) [-(sp : Int), la] s3.heap.size 0 2 (s3.alloc (.cells #[.int .i64 (-(sp : Int)), .int .i64 (la)] 3)) (Lk) (HX2.out.below (ext_alloc _ _)) (by have := HLK.out; first | exact Nat.le_trans this (by decide) | (simp only [List.length_append, List.length_cons, List.length_nil]; omega)) (oneZ_of w0 s3 HWZ.out [-(sp : Int), la] 2 _ rfl rfl (by simp)) (by omega) (by omega)).mono ?_
      rintro e v1 ⟨rfl, hx5, hg5⟩
      have HX5 := Lib.hid hx5
      have HG5 := Lib.hid (HG2.out.trans ((EnGo.below (ext_alloc _ _)).trans hg5))
      have HLK5 : Hid ((Lk ++ [phiE none (-1, [-(sp : Int), la])]).length ≤ 99000001) := by show _ ≤ _; have := HLK.out; simp only [List.length_append, List.length_cons, List.length_nil]; omega
      replace HWZ : Hid (w0.heap.size ≤ v1.heap.size) := Nat.le_trans HWZ.out (Nat.le_trans (ext_alloc s3 _).size hg5.size)
      clear hx5 hg5
      go_wp2_with fail
      refine (HDO.out (-1) [(sp : Int), -la] v1.heap.size 0 2 (v1.alloc (.cells #[.int .i64 ((sp : Int)), .int .i64 (-la)] 3)) (Lk ++ [phiE none (-1, [-(sp : Int), la])]) (HX5.out.below (ext_alloc _ _)) (by have := HLK5.out; first | exact Nat.le_trans this (by decide) | (simp only [List.length_append, List.length_cons, List.length_nil]; omega)) (oneZ_of w0 v1 HWZ.out [(sp : Int), -la] 2 _ rfl rfl (by simp)) (by omega) (by omega)).mono ?_
      rintro e v2 ⟨rfl, hx5, hg5⟩
      have HX6 := Lib.hid hx5
      have HG6 := Lib.hid (HG5.out.trans ((EnGo.below (ext_alloc _ _)).trans hg5))
      have HLK6 : Hid ((Lk ++ [phiE none (-1, [-(sp : Int), la])] ++ [phiE none (-1, [(sp : Int), -la])]).length ≤ 99000002) := by show _ ≤ _; have := HLK.out; simp only [List.length_append, List.length_cons, List.length_nil]; omega
      replace HWZ : Hid (w0.heap.size ≤ v2.heap.size) := Nat.le_trans HWZ.out (Nat.le_trans (ext_alloc v1 _).size hg5.size)
      clear hx5 hg5
      go_wp2
      go_roundw
      case rel => exact ⟨k + 1, by omega, by go_num, by show EnX _ _ _ _ _; rw [HNX.out, HRK.out]; simpa using HX6.out, HG6.out⟩
      case measure => simp [intOf]; omega
    · obtain rfl : k = n1 := by omega
      go_wp2
      go_end0
      exact ⟨rfl, by rw [HL1.out]; exact hX.out, HG0.out.trans hG.out⟩
end Go.Proofs.Ytcoehbkjccfhlaa
