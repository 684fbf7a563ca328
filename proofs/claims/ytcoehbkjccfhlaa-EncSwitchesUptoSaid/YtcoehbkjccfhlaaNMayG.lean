/- norm.mayGates, by its contract. -/
import Derived.Test.YtcoehbkjccfhlaaNBase
import Derived.Test.YtcoehbkjccfhlaaNSpec
import Derived.Test.YtcoehbkjccfhlaaNVal
import Derived.Test.YtcoehbkjccfhlaaNTrace
import Derived.Test.YtcoehbkjccfhlaaNCirc
import Derived.Test.YtcoehbkjccfhlaaNLit
import Derived.Test.YtcoehbkjccfhlaaNSmall
import Derived.Test.YtcoehbkjccfhlaaRows
import Derived.BigQuiet
import Derived.Deep.AppendLies
import Derived.Deep.QuietTactic
import Derived.Deep.RegionLaw
import Derived.Deep.RegionWith
import Derived.KernelRfl
import Derived.Laws.EntriesVeiled
import Derived.Lib.ConvBytes
import Derived.Lib.Hide
import Derived.Lib.SlBytesRow
import Derived.Lib.SmallJoins
import Derived.Shelf.Bytes.SlSmallAll
import Derived.WalkKit
import Derived.WalkLawsBesides
import Derived.WalkSpells
namespace Go.Proofs.Ytcoehbkjccfhlaa
open Go Go.RowKit Go.Joins

set_option maxRecDepth 100000 in
set_option maxHeartbeats 1600000 in
theorem mayGates_any (c : NormC) (i : Nat) (s : CSlots) (w : World) (h : SeesCir w s c) (hs : s.small) (hi : i ≤ 16384) (hm : c.lats.length + c.gates.length ≤ 16384) :
    Calls Try.prog 77 #[cirV i s] w fun e w' => e = .returned (.bool (!badGates (1 + i + c.lats.length) c.gates)) ∧ Below w.heap.size w w' := by
  have HF := Lib.hid (fun W => firstGate_any i s (by omega) hs W)
  obtain ⟨a1, n1, c1, a2, n2, c2, a3, n3, c3, a4, n4, c4, a5, n5, c5⟩ := s
  obtain ⟨hs1, hs2, hs3, hs4, hs5⟩ := hs
  simp only at hs1 hs2 hs3 hs4 hs5
  have l1 : c.lats.length = n1 := h.s1.1
  have l2 : c.gates.length = n2 := h.s2.1
  rw [l1]
  rw [l1, l2] at hm
  simp only at HF
  have L2 := Lib.hid l2
  have HS := Lib.hid h
  clear l1 l2 h
  obtain ⟨F, hFF⟩ : ∃ F, F = 1 + i + n1 := ⟨_, rfl⟩
  rw [← hFF] at HF ⊢
  have hF1 : 1 ≤ F := by omega
  have hF2 : F + n2 ≤ 40000 := by omega
  clear hFF
  unfold cirV at *
  go_enter Try.func77, Try.ntmps77
  go_wp2_with fail
  generalize hW : World.alloc w _ = W0
  have B0 : Below w.heap.size w W0 := by subst hW; exact ext_alloc _ _
  have hX : W0.heap[w.heap.size]? = some (.cells #[.int .i64 i, .slice a1 n1 c1, .slice a2 n2 c2, .slice a3 n3 c3, .slice a4 n4 c4, .slice a5 n5 c5] 26 (0, 0)) := by
    subst hW; exact heap_new _ _ _ rfl
  clear hW
  refine (HF.out W0).mono ?_
  rintro e W1 ⟨rfl, hb⟩
  have p2 := cell_of_block (heap_below hX hb) 2
  have HB := Lib.hid (ext_trans B0 hb)
  clear B0 hX hb HF
  go_wp2
  clear p2
  go_loopw [11] (fun j wr => ∃ k : Nat, k ≤ n2 ∧ j = .int .i64 k ∧ Hid (∀ j, j < k → badGate2 (F + j) (c.gates.getD j (0, 0)) = false) ∧ Hid (Below w.heap.size w wr))
    (fun j _ => n2 - (intOf j).toNat)
  case atStart => exact ⟨0, Nat.zero_le _, rfl, fun j hj => absurd hj (by omega), HB.out⟩
  case round =>
    clear HB
    obtain ⟨k, hk, rfl, hno, hb⟩ := hrel
    by_cases hlt : k < n2
    · obtain ⟨b, off, rfl, hbw⟩ := HS.out.s2.addr (show 0 < n2 by omega)
      obtain ⟨hx, hy⟩ := (HS.out.s2.below hb.out).cells k hlt (0, 0)
      obtain ⟨t, ht⟩ : ∃ t, t = c.gates.getD k (0, 0) := ⟨_, rfl⟩
      rw [← ht] at hx hy
      have HT := Lib.hid ht
      clear ht
      obtain ⟨x, y⟩ := t
      simp only [nv32] at hx hy
      have W1 : IntKind.i64.wrap ((k : Int) + 1) = (k : Int) + 1 := IntWalk.i64_in _ (by omega)
      have W2 : IntKind.i64.wrap ((F : Int) + (k : Int)) = (F : Int) + (k : Int) := IntWalk.i64_in _ (by omega)
      have HLIT := Lib.hid (fun W => literal_at ((F : Int) + (k : Int)) (F + k) (by omega) (by omega) W)
      obtain ⟨L, hL⟩ : ∃ L, L = 2 * (F + k) := ⟨_, rfl⟩
      rw [← hL] at HLIT
      have HB2 := Lib.hid (fun o => (ext_trans hb.out (ext_alloc wr o)))
      have hbad : badGate2 (F + k) (x, y) = (decide (x < y) || decide (L ≤ x)) := by rw [hL]; rfl
      have YES : badGate2 (F + k) (x, y) = true → badGates F c.gates = true := fun hq => (badGates_at c.gates F).2 ⟨k, by rw [L2.out]; exact hlt, by rw [← HT.out]; exact hq⟩
      clear hL
      by_cases h1 : x < y
      · have e1 : decide (x < y) = true := by simpa using h1
        have HY : Hid (badGates F c.gates = true) := YES (by rw [hbad, e1]; rfl)
        clear hbad YES hb
        go_wp2
        go_quiet (fail)
        go_wp2
        go_ret
        rename_i nq
        exact ⟨by rw [HY.out]; rfl, ext_trans (HB2.out _) (ext_drewN _ nq)⟩
      · have e1 : decide (x < y) = false := by simpa using h1
        by_cases h2 : L ≤ x
        · have e2 : decide (L ≤ x) = true := by simpa using h2
          have HY : Hid (badGates F c.gates = true) := YES (by rw [hbad, e1, e2]; rfl)
          clear hbad YES hb
          go_wp2
          go_quiet ((go_at_call 71; exact Calls.quiet_of_same ((HLIT.out _).mono fun _ _ ⟨h1, h2⟩ => ⟨h1, h2.symm⟩)))
          go_wp2
          go_ret
          rename_i nq
          exact ⟨by rw [HY.out]; rfl, ext_trans (HB2.out _) (ext_drewN _ nq)⟩
        · have e2 : decide (L ≤ x) = false := by simpa using h2
          have HN : Hid (badGate2 (F + k) (c.gates.getD k (0, 0)) = false) := by
            show _ = _
            rw [← HT.out, hbad, e1, e2]; rfl
          clear hbad YES hb
          go_wp2
          go_quiet ((go_at_call 71; exact Calls.quiet_of_same ((HLIT.out _).mono fun _ _ ⟨h1, h2⟩ => ⟨h1, h2.symm⟩)))
          go_wp2
          go_roundw
          case rel =>
            rename_i nq
            refine ⟨k + 1, by omega, by go_num, fun j hj => ?_, ext_trans (HB2.out _) (ext_drewN _ nq)⟩
            rcases Nat.lt_or_ge j k with h | h
            · exact hno.out j h
            · have : j = k := by omega
              subst this
              exact HN.out
          case measure => simp [intOf]; omega
    · obtain rfl : n2 = k := by omega
      have HN : Hid (badGates F c.gates = false) := badGates_no.2 (fun j hj => hno.out j (by rw [← L2.out]; exact hj))
      go_wp2
      go_ret
      exact ⟨by rw [HN.out]; rfl, hb.out⟩
end Go.Proofs.Ytcoehbkjccfhlaa
