/- inquestref03.lits, by its contract. -/
import Derived.Test.YtcoehbkjccfhlaaGEncT00
import Derived.Test.YtcoehbkjccfhlaaRows
import Derived.BigQuiet
import Derived.Deep.AppendLies
import Derived.Deep.QuietTactic
import Derived.Deep.RegionLaw
import Derived.Deep.RegionWith
import Derived.KernelRfl
import Derived.Laws.EntriesVeiled
import Derived.Lib.ConvBytes
import Derived.Lib.Hide
import Derived.Lib.SlBytesRow
import Derived.Lib.SmallJoins
import Derived.Shelf.Bytes.SlSmallAll
import Derived.WalkKit
import Derived.WalkLawsBesides
import Derived.WalkSpells
import Derived.Test.YtcoehbkjccfhlaaGEncT01
import Derived.Test.YtcoehbkjccfhlaaGEncT02
import Derived.Test.YtcoehbkjccfhlaaGEncT07
import Derived.Test.YtcoehbkjccfhlaaNSmall
import Derived.Test.YtcoehbkjccfhlaaGEncT06
/- Cells of bools. -/
namespace Go.Proofs.Ytcoehbkjccfhlaa
open Go Go.RowKit Go.Joins
theorem info_bool : (Try.prog.info? 4).map (fun i => (i.zero, i.size, i.bytes)) = some (some (.bool false), 1, 1) := by kernel_rfl
/-- Cells of bools. -/
def bcells (d : List Bool) : Array Value := (d.map Value.bool).toArray
theorem bcells_set (d : List Bool) (i : Nat) (b : Bool) : (bcells d).setIfInBounds i (.bool b) = bcells (d.set i b) := by
  apply Array.ext'
  simp [bcells]
theorem bcells_get (d : List Bool) (i : Nat) (h : i < d.length) : (bcells d)[i]? = some (.bool (d.getD i false)) := by
  simp [bcells, List.getD, List.getElem?_eq_getElem h]
theorem bcells_size (d : List Bool) : (bcells d).size = d.length := by simp [bcells]
theorem u32_and1 (x : Nat) (h : x < 4294967296) : bits BinOp.and IntKind.u32 (x : Int) 1 = ((x % 2 : Nat) : Int) :=
  bits_mask .u32 32 (by decide) (fun n h0 h1 => by rw [IntKind.wrap_u32]; omega) 1 (by decide) (x : Int) (by omega) (by omega)
theorem bcells_zero (m : Nat) : zeros (.bool false) m = bcells (List.replicate m false) := by
  simp [zeros, bcells]
end Go.Proofs.Ytcoehbkjccfhlaa
/- norm.literal, by its contract. -/
namespace Go.Proofs.Ytcoehbkjccfhlaa
open Go Go.RowKit Go.Joins
theorem literal_any (v : Nat) (hv : v ≤ 1000000000) (w : World) : Calls Try.prog 71 #[.int .i64 v] w fun e w' => e = .returned (.int .u32 ((2 * v : Nat) : Int)) ∧ w = w' := by
  have h0 : (0 : Int) ≤ v := by omega
  have h1 : (v : Int) ≤ 1000000000 := by omega
  have W1 : IntKind.u32.wrap (v : Int) = (v : Int) := by rw [IntKind.wrap_u32]; omega
  have W2 : IntKind.u32.wrap (2 * (v : Int)) = 2 * (v : Int) := by rw [IntKind.wrap_u32]; omega
  go_enter Try.func71, Try.ntmps71
  go_wp2
  go_ret
  simp
theorem literal_at (z : Int) (v : Nat) (hz : z = (v : Int)) (hv : v ≤ 1000000000) (w : World) : Calls Try.prog 71 #[.int .i64 z] w fun e w' => e = .returned (.int .u32 ((2 * v : Nat) : Int)) ∧ w = w' := by
  subst hz; exact literal_any v hv w
end Go.Proofs.Ytcoehbkjccfhlaa
/- norm.mayGates, by its contract. -/
namespace Go.Proofs.Ytcoehbkjccfhlaa
open Go Go.RowKit Go.Joins

set_option maxRecDepth 100000 in
set_option maxHeartbeats 1600000 in
theorem mayGates_any (c : NormC) (i : Nat) (s : CSlots) (w : World) (h : SeesCir w s c) (hs : s.small) (hi : i ≤ 16384) (hm : c.lats.length + c.gates.length ≤ 16384) :
    Calls Try.prog 77 #[cirV i s] w fun e w' => e = .returned (.bool (!badGates (1 + i + c.lats.length) c.gates)) ∧ Below w.heap.size w w' := by
  have HF := Lib.hid (fun W => firstGate_any i s (by omega) hs W)
  obtain ⟨a1, n1, c1, a2, n2, c2, a3, n3, c3, a4, n4, c4, a5, n5, c5⟩ := s
  obtain ⟨hs1, hs2, hs3, hs4, hs5⟩ := hs
  simp only at hs1 hs2 hs3 hs4 hs5
  have l1 : c.lats.length = n1 := h.s1.1
  have l2 : c.gates.length = n2 := h.s2.1
  rw [l1]
  rw [l1, l2] at hm
  simp only at HF
  have L2 := Lib.hid l2
  have HS := Lib.hid h
  clear l1 l2 h
  obtain ⟨F, hFF⟩ : ∃ F, F = 1 + i + n1 := ⟨_, rfl⟩
  rw [← hFF] at HF ⊢
  have hF1 : 1 ≤ F := by omega
  have hF2 : F + n2 ≤ 40000 := by omega
  clear hFF
  unfold cirV at *
  go_enter Try.func77, Try.ntmps77
  go_wp2_with fail
  generalize hW : World.alloc w _ = W0
  have B0 : Below w.heap.size w W0 := by subst hW; exact ext_alloc _ _
  have hX : W0.heap[w.heap.size]? = some (.cells #[.int .i64 i, .slice a1 n1 c1, .slice a2 n2 c2, .slice a3 n3 c3, .slice a4 n4 c4, .slice a5 n5 c5] 26 (0, 0)) := by
    subst hW; exact heap_new _ _ _ rfl
  clear hW
  refine (HF.out W0).mono ?_
  rintro e W1 ⟨rfl, hb⟩
  have p2 := cell_of_block (heap_below hX hb) 2
  have HB := Lib.hid (ext_trans B0 hb)
  clear B0 hX hb HF
  go_wp2
  clear p2
  go_loopw [11] (fun j wr => ∃ k : Nat, k ≤ n2 ∧ j = .int .i64 k ∧ Hid (∀ j, j < k → badGate2 (F + j) (c.gates.getD j (0, 0)) = false) ∧ Hid (Below w.heap.size w wr))
    (fun j _ => n2 - (intOf j).toNat)
  case atStart => exact ⟨0, Nat.zero_le _, rfl, fun j hj => absurd hj (by omega), HB.out⟩
  case round =>
    clear HB
    obtain ⟨k, hk, rfl, hno, hb⟩ := hrel
    by_cases hlt : k < n2
    · obtain ⟨b, off, rfl, hbw⟩ := HS.out.s2.addr (show 0 < n2 by omega)
      obtain ⟨hx, hy⟩ := (HS.out.s2.below hb.out).cells k hlt (0, 0)
      obtain ⟨t, ht⟩ : ∃ t, t = c.gates.getD k (0, 0) := ⟨_, rfl⟩
      rw [← ht] at hx hy
      have HT := Lib.hid ht
      clear ht
      obtain ⟨x, y⟩ := t
      simp only [nv32] at hx hy
      have W1 : IntKind.i64.wrap ((k : Int) + 1) = (k : Int) + 1 := IntWalk.i64_in _ (by omega)
      have W2 : IntKind.i64.wrap ((F : Int) + (k : Int)) = (F : Int) + (k : Int) := IntWalk.i64_in _ (by omega)
      have HLIT := Lib.hid (fun W => literal_at ((F : Int) + (k : Int)) (F + k) (by omega) (by omega) W)
      obtain ⟨L, hL⟩ : ∃ L, L = 2 * (F + k) := ⟨_, rfl⟩
      rw [← hL] at HLIT
      have HB2 := Lib.hid (fun o => (ext_trans hb.out (ext_alloc wr o)))
      have hbad : badGate2 (F + k) (x, y) = (decide (x < y) || decide (L ≤ x)) := by rw [hL]; rfl
      have YES : badGate2 (F + k) (x, y) = true → badGates F c.gates = true := fun hq => (badGates_at c.gates F).2 ⟨k, by rw [L2.out]; exact hlt, by rw [← HT.out]; exact hq⟩
      clear hL
      by_cases h1 : x < y
      · have e1 : decide (x < y) = true := by simpa using h1
        have HY : Hid (badGates F c.gates = true) := YES (by rw [hbad, e1]; rfl)
        clear hbad YES hb
        go_wp2
        go_quiet (fail)
        go_wp2
        go_ret
        rename_i nq
        exact ⟨by rw [HY.out]; rfl, ext_trans (HB2.out _) (ext_drewN _ nq)⟩
      · have e1 : decide (x < y) = false := by simpa using h1
        by_cases h2 : L ≤ x
        · have e2 : decide (L ≤ x) = true := by simpa using h2
          have HY : Hid (badGates F c.gates = true) := YES (by rw [hbad, e1, e2]; rfl)
          clear hbad YES hb
          go_wp2
          go_quiet ((go_at_call 71; exact Calls.quiet_of_same ((HLIT.out _).mono fun _ _ ⟨h1, h2⟩ => ⟨h1, h2.symm⟩)))
          go_wp2
          go_ret
          rename_i nq
          exact ⟨by rw [HY.out]; rfl, ext_trans (HB2.out _) (ext_drewN _ nq)⟩
        · have e2 : decide (L ≤ x) = false := by simpa using h2
          have HN : Hid (badGate2 (F + k) (c.gates.getD k (0, 0)) = false) := by
            show _ = _
            rw [← HT.out, hbad, e1, e2]; rfl
          clear hbad YES hb
          go_wp2
          go_quiet ((go_at_call 71; exact Calls.quiet_of_same ((HLIT.out _).mono fun _ _ ⟨h1, h2⟩ => ⟨h1, h2.symm⟩)))
          go_wp2
          go_roundw
          case rel =>
            rename_i nq
            refine ⟨k + 1, by omega, by go_num, fun j hj => ?_, ext_trans (HB2.out _) (ext_drewN _ nq)⟩
            rcases Nat.lt_or_ge j k with h | h
            · exact hno.out j h
            · have : j = k := by omega
              subst this
              exact HN.out
          case measure => simp [intOf]; omega
    · obtain rfl : n2 = k := by omega
      have HN : Hid (badGates F c.gates = false) := badGates_no.2 (fun j hj => hno.out j (by rw [← L2.out]; exact hj))
      go_wp2
      go_ret
      exact ⟨by rw [HN.out]; rfl, hb.out⟩
end Go.Proofs.Ytcoehbkjccfhlaa
namespace Go.Proofs.Ytcoehbkjccfhlaa
open Go Go.RowKit Go.Joins
set_option maxRecDepth 100000 in
theorem reflits_any (m : Nat) (l : List Nat) (a : Option Addr) (n c : Nat) (hn : n ≤ 1048576) (hx : ∀ x ∈ l, x < 4294967296) (w : World) (h : Sees w a n c (l.map nv32)) :
    Calls Try.prog 60 #[.slice a n c, .int .i64 (m : Int)] w fun e w' => e = .returned (.bool (!badList m l)) ∧ w = w' := by
  have hl := h.lenMap
  obtain ⟨q, hq⟩ : ∃ q, q = badList m l := ⟨_, rfl⟩
  have NO : Hid (∀ k, k < n → m < l.getD k 0 / 2 → q = true) := fun k hk hb => by
    rw [hq]; unfold badList
    rw [show l.any (above m) = true from List.any_eq_true.2 ⟨l.getD k 0, getD_mem (by rw [hl]; exact hk), by unfold above; exact decide_eq_true (by omega)⟩]; simp
  have YES : Hid ((∀ k, k < n → ¬ m < l.getD k 0 / 2) → q = decide (1024 < n)) := fun hh => by
    rw [hq]; unfold badList
    rw [hl, show l.any (above m) = false from any_none (all_of_getD (d := 0) (fun j hj => by have := hh j (by rw [← hl]; exact hj); unfold above; exact decide_eq_false (by omega)))]; simp
  have HX := Lib.hid hx
  have HS := Lib.hid h
  have HL := Lib.hid hl
  rw [← hq]
  clear hq h hl hx
  go_enter Try.func60, Try.ntmps60
  go_wp2
  go_loop [5] (fun i => ∃ k : Nat, k ≤ n ∧ i = .int .i64 k ∧ Hid (∀ j, j < k → ¬ m < l.getD j 0 / 2)) (fun i => n - (intOf i).toNat)
  case atStart => exact ⟨0, Nat.zero_le _, rfl, fun j hj => absurd hj (by omega)⟩
  case round =>
    obtain ⟨k, hk, rfl, hno⟩ := hrel
    by_cases hlt : k < n
    · obtain ⟨b, off, rfl, hbw⟩ := HS.out.addr (by omega)
      have hcx := HS.out.num k hlt
      have h32 := HX.out (l.getD k 0) (getD_mem (by rw [HL.out]; exact hlt))
      obtain ⟨x, hx⟩ : ∃ x, x = l.getD k 0 := ⟨_, rfl⟩
      rw [← hx] at hcx h32
      have D1 : Int.tdiv (x : Int) 2 = ((x / 2 : Nat) : Int) := by rw [Int.tdiv_eq_ediv_of_nonneg (by omega)]; omega
      obtain ⟨u, hu⟩ : ∃ u, u = x / 2 := ⟨_, rfl⟩
      have hu3 : u < 4294967296 := by omega
      rw [← hu] at D1
      have U1 : IntKind.u32.wrap ((u : Nat) : Int) = (u : Int) := IntWalk.u32_in _ (by omega)
      have U2 : IntKind.i64.wrap ((u : Nat) : Int) = (u : Int) := IntWalk.i64_in _ (by omega)
      have HU : Hid (u = l.getD k 0 / 2) := by show _ = _; rw [hu, hx]
      have W1 : IntKind.i64.wrap ((k : Int) + 1) = (k : Int) + 1 := IntWalk.i64_in _ (by omega)
      clear hx hu
      by_cases hq : m < u
      · have e1 : decide ((m : Int) < (u : Int)) = true := by simp; omega
        have HQ : Hid (q = true) := NO.out k hlt (by rw [← HU.out]; exact hq)
        go_wp2
        go_ret
        exact ⟨by rw [HQ.out]; rfl, rfl⟩
      · have e1 : decide ((m : Int) < (u : Int)) = false := by simp; omega
        have HQ := Lib.hid hq
        clear hq
        go_wp2
        go_round
        case rel =>
          refine ⟨k + 1, by omega, by go_num, fun j hj => ?_⟩
          rcases Nat.lt_or_ge j k with h | h
          · exact hno.out j h
          · have : j = k := by omega
            subst this
            rw [← HU.out]; exact HQ.out
        case measure => simp [intOf]; omega
    · have hkn : k = n := by omega
      subst hkn
      have Y := Lib.hid (YES.out hno.out)
      by_cases hq : k ≤ 1024
      · have e1 : decide ((k : Int) ≤ 1024) = true := by simp; omega
        have HQ := Lib.hid hq
        clear hq
        go_wp2
        go_ret
        exact ⟨by rw [Y.out]; simp; exact HQ.out, rfl⟩
      · have e1 : decide ((k : Int) ≤ 1024) = false := by simp; omega
        have HQ := Lib.hid hq
        clear hq
        go_wp2
        go_ret
        exact ⟨by rw [Y.out]; have := HQ.out; simp; omega, rfl⟩
end Go.Proofs.Ytcoehbkjccfhlaa
