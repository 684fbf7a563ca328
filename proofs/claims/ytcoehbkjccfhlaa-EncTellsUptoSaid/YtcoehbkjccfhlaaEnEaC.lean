/- enc's enumeration of clauses, with the closure of enc.Clauses, by its contracts. -/
import Derived.Test.YtcoehbkjccfhlaaGEncT01
import Derived.Test.YtcoehbkjccfhlaaGEncT02
import Derived.Test.YtcoehbkjccfhlaaGEncT07
import Derived.Test.YtcoehbkjccfhlaaGEncT10
import Derived.Test.YtcoehbkjccfhlaaGEncT11
import Derived.Test.YtcoehbkjccfhlaaEnReC
import Derived.Test.YtcoehbkjccfhlaaEnNeC
import Derived.Test.YtcoehbkjccfhlaaEnGaC
import Derived.Test.YtcoehbkjccfhlaaRows
import Derived.BigQuiet
import Derived.Deep.AppendLies
import Derived.Deep.CutRange
import Derived.Deep.QuietTactic
import Derived.Deep.RegionHeld3
import Derived.Deep.RegionLaw
import Derived.Deep.RegionWith
import Derived.KernelRfl
import Derived.Laws.EntriesVeiled
import Derived.Laws.Tables
import Derived.Lib.ConvBytes
import Derived.Lib.Hide
import Derived.Lib.SlBytesRow
import Derived.Lib.SmallJoins
import Derived.Maps.AppendAt
import Derived.OrdersHeld
import Derived.Shelf.Bytes.SlSmallAll
import Derived.WalkKit
import Derived.WalkLawsBesides
import Derived.WalkSpells
namespace Go.Proofs.Ytcoehbkjccfhlaa
open Go Go.RowKit Go.Joins

set_option maxRecDepth 100000 in
set_option maxHeartbeats 6400000 in
theorem eachC_any (c : NormC) (s : CSlots) (nf : Nat) (w0 w : World) (B : Nat) (L : List (List Int)) (h : SeesCir w0 s c) (hs : s.small) (hM : MayC c) (hf : nf ≤ 256) (H : EnX none w0 B L w) (hL : L.length ≤ 1000) :
    Calls Try.prog 39 #[uV c.ins s (varsN c) nf, .func (.func 40) #[] #[.pointer (some ⟨B, 0, none⟩)]] w fun e w' => e = .returned (.tuple #[]) ∧ EnX none w0 B (L ++ (allE c nf).map (phiE none)) w' ∧ EnGo B w w' := by
  obtain ⟨i, hi⟩ := Int.eq_ofNat_of_zero_le hM.pos
  have HDO : Hid (∀ (g : Int) (C : List Int) (b off n : Nat) (W : World) (L : List (List Int)), EnX none w0 B L W → L.length ≤ 100000000 → OneZ w0 W (some ⟨b, off, none⟩, n, n) C → (-1 ≤ g ∧ g ≤ 100000000) → n ≤ 1000 → Calls Try.prog 40 #[.int .i64 g, .slice (some ⟨b, off, none⟩) n n, .pointer (some ⟨B, 0, none⟩)] W fun e w' => e = .returned (.tuple #[]) ∧ EnX none w0 B (L ++ [phiE none (g, C)]) w' ∧ EnGo B W w') := fun g C b off n W L h1 h2 h3 h4 h5 => doC_any g C b off n w0 W B L h1 h2 h3 h4 h5
  have HRS := Lib.hid (fun (W : World) (l : List (List Int)) (h1 : EnX none w0 B l W) (h2 : l.length ≤ 20000000) => eachResetC_any c s nf w0 W B  l h hs hM h1 h2)
  have HNE := Lib.hid (fun (W : World) (l : List (List Int)) (f : Nat) (hf : 1 ≤ f ∧ f ≤ 255) (h1 : EnX none w0 B l W) (h2 : l.length ≤ 20000000) => eachNextC_any c s nf w0 W B  l f hf h hs hM h1 h2)
  have HGA := Lib.hid (fun (W : World) (l : List (List Int)) (f : Nat) (hf : f ≤ 255) (h1 : EnX none w0 B l W) (h2 : l.length ≤ 20000000) => eachOfGatesC_any c s nf w0 W B  l f hf h hs hM h1 h2)
  have HLEN : Hid (∀ k, k ≤ nf → (L ++ (allE c k).map (phiE none)).length ≤ 13000000) := fun k hk => by
    have h1 := allE_len c k hM.few
    have h2 : k * 49152 ≤ 256 * 49152 := Nat.mul_le_mul_right _ (by omega)
    simp only [List.length_append, List.length_map]
    omega
  have HLA : Hid (∀ k, (latsE c k).length ≤ 100000) := fun k => by have h1 := latsE_len c k c.lats.length; have h2 := hM.few; unfold latsE; unfold varsN at h2; omega
  clear h hs hM
  obtain ⟨a1, n1, c1, a2, n2, c2, a3, n3, c3, a4, n4, c4, a5, n5, c5⟩ := s
  obtain ⟨V, hV⟩ : ∃ V, V = varsN c := ⟨_, rfl⟩
  rw [← hV, hi] at HRS HNE HGA ⊢
  clear hV hi
  have HXX := Lib.hid H
  have hBlt : B < w.heap.size := by obtain ⟨_, _, _, _, _, h2, _⟩ := H.st.has; exact heap_lt h2
  have HBU : Hid (w.heap.size ≠ B) := by show _ ≠ _; omega
  have HWZ0 : Hid (w0.heap.size ≤ w.heap.size) := H.st.bel.size
  clear hBlt H
  unfold uV at *
  go_enter Try.func39, Try.ntmps39
  go_upto_region 1 with fail
  generalize hW : World.alloc w _ = W0
  have hU : W0.heap[w.heap.size]? = some (.cells #[.int .i64 (i : Int), .slice a1 n1 c1, .slice a2 n2 c2, .slice a3 n3 c3, .slice a4 n4 c4, .slice a5 n5 c5, .int .i64 (V : Int), .int .i64 (nf : Int)] 67 (0, 0)) := by subst hW; exact heap_new _ _ _ rfl
  have hX0 : EnX none w0 B L W0 := by subst hW; exact HXX.out.below (ext_alloc _ _)
  have hG0 : EnGo B w W0 := by subst hW; exact EnGo.below (ext_alloc _ _)
  have HU := Lib.hid hU
  have HX0 := Lib.hid hX0
  have HG0 := Lib.hid hG0
  have HWZ : Hid (w0.heap.size ≤ W0.heap.size) := Nat.le_trans HWZ0.out hG0.size
  clear hW hU hX0 hG0 HXX
  go_wp2_with fail
  refine (HDO.out (-1) [1] W0.heap.size 0 1 (W0.alloc (.cells #[.int .i64 1] 3)) L (HX0.out.below (ext_alloc _ _)) (by omega) (oneZ_of w0 W0 HWZ.out [1] 1 _ rfl rfl (by simp)) (by omega) (by omega)).mono ?_
  rintro e W1 ⟨rfl, hx5, hg5⟩
  have HX1 : Hid (EnX none w0 B (L ++ (allE c 0).map (phiE none)) W1) := hx5
  have HG1 := Lib.hid ((EnGo.below (ext_alloc _ _)).trans hg5)
  have HU1 := Lib.hid (HG1.out.at_ HU.out HBU.out (by decide))
  clear hx5 hg5
  have p_0 : W1.cell? ⟨w.heap.size, 0, none⟩ = some (.int .i64 (i : Int)) := cell_of_block HU1.out 0
  have p_1 : W1.cell? ⟨w.heap.size, 1, none⟩ = some (.slice a1 n1 c1) := cell_of_block HU1.out 1
  have p_2 : W1.cell? ⟨w.heap.size, 2, none⟩ = some (.slice a2 n2 c2) := cell_of_block HU1.out 2
  have p_3 : W1.cell? ⟨w.heap.size, 3, none⟩ = some (.slice a3 n3 c3) := cell_of_block HU1.out 3
  have p_4 : W1.cell? ⟨w.heap.size, 4, none⟩ = some (.slice a4 n4 c4) := cell_of_block HU1.out 4
  have p_5 : W1.cell? ⟨w.heap.size, 5, none⟩ = some (.slice a5 n5 c5) := cell_of_block HU1.out 5
  have p_6 : W1.cell? ⟨w.heap.size, 6, none⟩ = some (.int .i64 (V : Int)) := cell_of_block HU1.out 6
  have p_7 : W1.cell? ⟨w.heap.size, 7, none⟩ = some (.int .i64 (nf : Int)) := cell_of_block HU1.out 7
  go_wp2
  go_loopw [10] (fun ix wr => ∃ k : Nat, k ≤ nf ∧ ix = .int .i64 k ∧ Hid (EnX none w0 B (L ++ (allE c k).map (phiE none)) wr) ∧ Hid (EnGo B W1 wr)) (fun ix _ => nf - (intOf ix).toNat)
  case atStart => exact ⟨0, Nat.zero_le _, rfl, HX1.out, EnGo.refl _ _⟩
  case round =>
    obtain ⟨k, hk, rfl, hX, hG⟩ := hrel
    by_cases hlt : k < nf
    · clear p_0 p_1 p_2 p_3 p_4 p_5 p_6 p_7
      have hlen := HLEN.out k hk
      have hla := HLA.out k
      have hnext : L ++ (allE c (k + 1)).map (phiE none) = (L ++ (allE c k).map (phiE none)) ++ (latsE c k).map (phiE none) ++ (upE (gateE c k) c.gates.length).map (phiE none) := by rw [allE_succ]; simp [List.map_append, List.append_assoc]
      obtain ⟨Lk, hLk⟩ : ∃ l, l = L ++ (allE c k).map (phiE none) := ⟨_, rfl⟩
      rw [← hLk] at hX hlen hnext
      have HL2 : Hid ((Lk ++ (latsE c k).map (phiE none)).length ≤ 20000000) := by show _ ≤ _; rw [List.length_append, List.length_map]; omega
      have HL3 : Hid (Lk.length ≤ 20000000) := by show _ ≤ _; omega
      have HK5 : Hid (k ≤ 255) := by show _ ≤ _; omega
      clear hlen hla
      have W8 : IntKind.i64.wrap ((k : Int) + 1) = (k : Int) + 1 := IntWalk.i64_in _ (by omega)
      have HNX := Lib.hid hnext
      have HX := Lib.hid hX.out
      have HG := Lib.hid hG.out
      have HUr := Lib.hid (HG.out.at_ HU1.out HBU.out (by decide))
      clear hnext hLk hX hG
      have p_0 : wr.cell? ⟨w.heap.size, 0, none⟩ = some (.int .i64 (i : Int)) := cell_of_block HUr.out 0
      have p_1 : wr.cell? ⟨w.heap.size, 1, none⟩ = some (.slice a1 n1 c1) := cell_of_block HUr.out 1
      have p_2 : wr.cell? ⟨w.heap.size, 2, none⟩ = some (.slice a2 n2 c2) := cell_of_block HUr.out 2
      have p_3 : wr.cell? ⟨w.heap.size, 3, none⟩ = some (.slice a3 n3 c3) := cell_of_block HUr.out 3
      have p_4 : wr.cell? ⟨w.heap.size, 4, none⟩ = some (.slice a4 n4 c4) := cell_of_block HUr.out 4
      have p_5 : wr.cell? ⟨w.heap.size, 5, none⟩ = some (.slice a5 n5 c5) := cell_of_block HUr.out 5
      have p_6 : wr.cell? ⟨w.heap.size, 6, none⟩ = some (.int .i64 (V : Int)) := cell_of_block HUr.out 6
      have p_7 : wr.cell? ⟨w.heap.size, 7, none⟩ = some (.int .i64 (nf : Int)) := cell_of_block HUr.out 7
      by_cases hk0 : k = 0
      · subst hk0
        have HGA0 : Hid (∀ (W : World) (l : List (List Int)), EnX none w0 B l W → l.length ≤ 20000000 → Calls Try.prog 63 #[.agg #[.int .i64 (i : Int), .slice a1 n1 c1, .slice a2 n2 c2, .slice a3 n3 c3, .slice a4 n4 c4, .slice a5 n5 c5, .int .i64 (V : Int), .int .i64 (nf : Int)], .int .i64 0, .func (.func 40) #[] #[.pointer (some ⟨B, 0, none⟩)]] W fun e w' => e = .returned (.tuple #[]) ∧ EnX none w0 B (l ++ (upE (gateE c 0) c.gates.length).map (phiE none)) w' ∧ EnGo B W w') := fun W l h1 h2 => HGA.out W l 0 (by omega) h1 h2
        clear HGA
        go_wp2_with fail
        refine (HRS.out wr Lk HX.out HL3.out).mono ?_
        rintro e w5 ⟨rfl, hx5, hg5⟩
        have HX5 : Hid (EnX none w0 B (Lk ++ (latsE c 0).map (phiE none)) w5) := by rw [show latsE c 0 = upE (resetE c) c.lats.length from rfl]; exact hx5
        have HG5 := Lib.hid (HG.out.trans hg5)
        have HU5 := Lib.hid (hg5.at_ HUr.out HBU.out (by decide))
        clear p_0 p_1 p_2 p_3 p_4 p_5 p_6 p_7
        clear hx5 hg5
        have p_0 : w5.cell? ⟨w.heap.size, 0, none⟩ = some (.int .i64 (i : Int)) := cell_of_block HU5.out 0
        have p_1 : w5.cell? ⟨w.heap.size, 1, none⟩ = some (.slice a1 n1 c1) := cell_of_block HU5.out 1
        have p_2 : w5.cell? ⟨w.heap.size, 2, none⟩ = some (.slice a2 n2 c2) := cell_of_block HU5.out 2
        have p_3 : w5.cell? ⟨w.heap.size, 3, none⟩ = some (.slice a3 n3 c3) := cell_of_block HU5.out 3
        have p_4 : w5.cell? ⟨w.heap.size, 4, none⟩ = some (.slice a4 n4 c4) := cell_of_block HU5.out 4
        have p_5 : w5.cell? ⟨w.heap.size, 5, none⟩ = some (.slice a5 n5 c5) := cell_of_block HU5.out 5
        have p_6 : w5.cell? ⟨w.heap.size, 6, none⟩ = some (.int .i64 (V : Int)) := cell_of_block HU5.out 6
        have p_7 : w5.cell? ⟨w.heap.size, 7, none⟩ = some (.int .i64 (nf : Int)) := cell_of_block HU5.out 7
        go_wp2_with fail
        refine (HGA0.out w5 _ HX5.out HL2.out).mono ?_
        rintro e w6 ⟨rfl, hx6, hg6⟩
        have HX6 : Hid (EnX none w0 B (L ++ (allE c (0 + 1)).map (phiE none)) w6) := by rw [HNX.out]; exact hx6
        have HG6 := Lib.hid (HG5.out.trans hg6)
        clear p_0 p_1 p_2 p_3 p_4 p_5 p_6 p_7
        clear hx6 hg6
        go_wp2
        go_roundw
        case rel => exact ⟨0 + 1, by omega, by go_num, HX6.out, HG6.out⟩
        case measure => simp [intOf]; omega
      · have e1 : ((k : Int) == 0) = false := by simp; omega
        have e2 : (k == 0) = false := by simp; omega
        have HK0 := Lib.hid hk0
        have hk1 : 1 ≤ k := by omega
        clear hk0
        go_wp2_with fail
        refine (HNE.out wr Lk k ⟨hk1, HK5.out⟩ HX.out HL3.out).mono ?_
        rintro e w5 ⟨rfl, hx5, hg5⟩
        have HX5 : Hid (EnX none w0 B (Lk ++ (latsE c k).map (phiE none)) w5) := by rw [show latsE c k = upE (nextE c k) c.lats.length from by unfold latsE; rw [if_neg HK0.out]]; exact hx5
        have HG5 := Lib.hid (HG.out.trans hg5)
        have HU5 := Lib.hid (hg5.at_ HUr.out HBU.out (by decide))
        clear p_0 p_1 p_2 p_3 p_4 p_5 p_6 p_7
        clear hx5 hg5
        have p_0 : w5.cell? ⟨w.heap.size, 0, none⟩ = some (.int .i64 (i : Int)) := cell_of_block HU5.out 0
        have p_1 : w5.cell? ⟨w.heap.size, 1, none⟩ = some (.slice a1 n1 c1) := cell_of_block HU5.out 1
        have p_2 : w5.cell? ⟨w.heap.size, 2, none⟩ = some (.slice a2 n2 c2) := cell_of_block HU5.out 2
        have p_3 : w5.cell? ⟨w.heap.size, 3, none⟩ = some (.slice a3 n3 c3) := cell_of_block HU5.out 3
        have p_4 : w5.cell? ⟨w.heap.size, 4, none⟩ = some (.slice a4 n4 c4) := cell_of_block HU5.out 4
        have p_5 : w5.cell? ⟨w.heap.size, 5, none⟩ = some (.slice a5 n5 c5) := cell_of_block HU5.out 5
        have p_6 : w5.cell? ⟨w.heap.size, 6, none⟩ = some (.int .i64 (V : Int)) := cell_of_block HU5.out 6
        have p_7 : w5.cell? ⟨w.heap.size, 7, none⟩ = some (.int .i64 (nf : Int)) := cell_of_block HU5.out 7
        go_wp2_with fail
        refine (HGA.out w5 _ k HK5.out HX5.out HL2.out).mono ?_
        rintro e w6 ⟨rfl, hx6, hg6⟩
        have HX6 : Hid (EnX none w0 B (L ++ (allE c (k + 1)).map (phiE none)) w6) := by rw [HNX.out]; exact hx6
        have HG6 := Lib.hid (HG5.out.trans hg6)
        clear p_0 p_1 p_2 p_3 p_4 p_5 p_6 p_7
        clear hx6 hg6
        go_wp2
        go_roundw
        case rel => exact ⟨k + 1, by omega, by go_num, HX6.out, HG6.out⟩
        case measure => simp [intOf]; omega
    · obtain rfl : k = nf := by omega
      go_wp2
      go_end0
      exact ⟨rfl, hX.out, HG0.out.trans (HG1.out.trans hG.out)⟩
end Go.Proofs.Ytcoehbkjccfhlaa
