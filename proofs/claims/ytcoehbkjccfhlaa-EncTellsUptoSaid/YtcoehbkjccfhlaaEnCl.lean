/- enc.Clauses, by its contract. -/
import Derived.Test.YtcoehbkjccfhlaaGEncT00
import Derived.Test.YtcoehbkjccfhlaaGEncT01
import Derived.Test.YtcoehbkjccfhlaaGEncT02
import Derived.Test.YtcoehbkjccfhlaaGEncT07
import Derived.Test.YtcoehbkjccfhlaaGEncT05
import Derived.Test.YtcoehbkjccfhlaaGEncT11
import Derived.Test.YtcoehbkjccfhlaaEnEaC
import Derived.Test.YtcoehbkjccfhlaaEnOf
import Derived.Test.YtcoehbkjccfhlaaEnLim
import Derived.Test.YtcoehbkjccfhlaaRows
import Derived.BigQuiet
import Derived.Deep.AppendLies
import Derived.Deep.CutRange
import Derived.Deep.QuietTactic
import Derived.Deep.RegionHeld3
import Derived.Deep.RegionLaw
import Derived.Deep.RegionWith
import Derived.KernelRfl
import Derived.Laws.EntriesVeiled
import Derived.Laws.Tables
import Derived.Lib.ConvBytes
import Derived.Lib.Hide
import Derived.Lib.SlBytesRow
import Derived.Lib.SmallJoins
import Derived.Maps.AppendAt
import Derived.OrdersHeld
import Derived.Shelf.Bytes.SlSmallAll
import Derived.WalkKit
import Derived.WalkLawsBesides
import Derived.WalkSpells
namespace Go.Proofs.Ytcoehbkjccfhlaa
open Go Go.RowKit Go.Joins

/-- The clauses, or no clauses and the error. -/
def clA (c : NormC) (z : Int) : List (List Int) × Nat := if ofOk c z then (if manyE c z.toNat ≤ 1048576 then ((allE c z.toNat).map bareE, 0) else ([], 3)) else ([], 2)
def ClE (c : NormC) (z : Int) (w : World) (e : Ending) (w' : World) : Prop :=
  Below w.heap.size w w' ∧ ∃ a n k ss, e = .returned (.tuple #[.slice a n k, .int .i64 ((clA c z).2 : Nat)]) ∧ SeesZ w' a n k ss (clA c z).1
/-- A new row without elements, with room. -/
theorem EnX.begin {F : Option (Nat × Nat)} {w0 W : World} {m B g : Nat} (hb : Below w0.heap.size w0 W) (hB : w0.heap.size ≤ B) (hm : m ≤ 100000000) (hg : W.heap[g]? = some (.cells (zeros (.slice none 0 0) m) 45 (0, 0))) (hg0 : w0.heap.size ≤ g)
    (hbox : W.heap[B]? = some (.cells #[.slice (some ⟨g, 0, none⟩) 0 m] 39 (0, 0))) (hF : ∀ p, F = some p → W.heap[p.1]? = some (.cells #[.int .i64 (p.2 : Int)] 3 (0, 0)) ∧ p.1 ≠ B ∧ p.2 ≤ 100000000) : EnX F w0 B [] W :=
  ⟨⟨hB, _, 0, m, [], rfl, hbox, ⟨hb, ⟨rfl, .inr ⟨g, m, _, rfl, hg0, hg, Nat.zero_le _, by unfold maxLen; omega, size_zeros _ _, rfl, fun _ _ => trivial⟩⟩, rfl, fun j hj => absurd hj (by simp)⟩⟩, hF⟩

set_option maxRecDepth 100000 in
set_option maxHeartbeats 6400000 in
theorem clauses14_any (c : NormC) (s : CSlots) (z : Int) (w : World) (h : SeesCir w s c) (hs : s.small) (hlo : -9223372036854775808 ≤ c.ins) (hhi : c.ins < 9223372036854775808) :
    Calls Try.prog 12 #[cirV c.ins s, .int .i64 z] w (ClE c z w) := by
  obtain ⟨i0, hi, hz0, hz1, hz2⟩ := info_parts info_zs
  have mk := fun (m : Nat) (hm : m ≤ 1048576) W => run_make_cap (P := Try.prog) Try.underlying39 hi hz0 hz1 hz2 rfl m (m : Int) rfl (by omega) (by omega) W
  have HMK := Lib.hid mk
  have HLM := Lib.hid (fun W (hb : Below w.heap.size w W) => limited_any c s z W (h.below hb) hs hlo hhi)
  have HMN := Lib.hid (fun (ho : ofOk c z = true) W (hb : Below w.heap.size w W) => many_any14 c s z.toNat W (h.below hb) hs (ofOk_iff ho).1 ⟨(ofOk_iff ho).2.1, (ofOk_iff ho).2.2.1⟩)
  have HEA := Lib.hid (fun (ho : ofOk c z = true) W B (H : EnX none w B [] W) => eachC_any c s z.toNat w W B [] h hs (ofOk_iff ho).1 (ofOk_iff ho).2.2.1 H (by simp))
  have A1 : Hid (ofOk c z = true → manyE c z.toNat ≤ 1048576 → clA c z = ((allE c z.toNat).map bareE, 0)) := fun h1 h2 => by unfold clA; rw [if_pos h1, if_pos h2]
  have A2 : Hid (ofOk c z = true → 1048576 < manyE c z.toNat → clA c z = ([], 3)) := fun h1 h2 => by unfold clA; rw [if_pos h1, if_neg (by omega)]
  have A3 : Hid (ofOk c z = false → clA c z = ([], 2)) := fun h1 => by unfold clA; rw [if_neg (by rw [h1]; simp)]
  clear h hs hlo hhi mk
  obtain ⟨a1, n1, c1, a2, n2, c2, a3, n3, c3, a4, n4, c4, a5, n5, c5⟩ := s
  obtain ⟨A, hA⟩ : ∃ A, A = clA c z := ⟨_, rfl⟩
  unfold ClE
  rw [← hA]
  rw [← hA] at A1 A2 A3
  obtain ⟨x, hx⟩ : ∃ x, x = c.ins := ⟨_, rfl⟩
  obtain ⟨o, ho⟩ : ∃ o, o = ofOk c z := ⟨_, rfl⟩
  obtain ⟨V, hV⟩ : ∃ V, V = varsN c := ⟨_, rfl⟩
  obtain ⟨nf, hnf⟩ : ∃ n, n = z.toNat := ⟨_, rfl⟩
  obtain ⟨m, hm⟩ : ∃ n, n = manyE c nf := ⟨_, rfl⟩
  obtain ⟨cls, hcls⟩ : ∃ l, l = (allE c nf).map bareE := ⟨_, rfl⟩
  unfold LimE at HLM
  rw [← hnf, ← hx, ← ho, ← hV, ← hm] at HLM
  rw [← hx, ← ho, ← hV, ← hnf, ← hm] at HMN
  have hcl2 : (allE c nf).map (phiE none) = cls := by rw [hcls]; rfl
  rw [← hx, ← ho, ← hV, ← hnf, hcl2] at HEA
  rw [← ho, ← hnf, ← hm, ← hcls] at A1
  rw [← ho, ← hnf, ← hm] at A2
  rw [← ho] at A3
  rw [← hx]
  clear hx ho hV hnf hm hcls hA hcl2
  unfold cirV at *
  unfold uV at *
  go_enter Try.func12, Try.ntmps12
  go_upto_region 1 with fail
  generalize hW : World.alloc w _ = W2
  have hX : W2.heap[w.heap.size]? = some (.cells #[.int .i64 x, .slice a1 n1 c1, .slice a2 n2 c2, .slice a3 n3 c3, .slice a4 n4 c4, .slice a5 n5 c5] 26 (0, 0)) := by subst hW; exact heap_new _ _ _ rfl
  have hB : Below w.heap.size w W2 := by subst hW; exact ext_alloc _ _
  have HX := Lib.hid hX
  have HB := Lib.hid hB
  clear hW hX hB
  have p0 := cell_of_block HX.out 0
  have p1 := cell_of_block HX.out 1
  have p2 := cell_of_block HX.out 2
  have p3 := cell_of_block HX.out 3
  have p4 := cell_of_block HX.out 4
  have p5 := cell_of_block HX.out 5
  go_wp2_with fail
  refine (HLM.out W2 HB.out).mono ?_
  rintro e W3 ⟨hb, hcase⟩
  have HB3 := Lib.hid (ext_trans HB.out hb)
  clear p0 p1 p2 p3 p4 p5 hb HX HB HLM
  rcases hcase with ⟨rfl, hm, rfl⟩ | ⟨rfl, hm, rfl⟩ | ⟨rfl, rfl⟩
  · have HMN2 := Lib.hid (HMN.out rfl)
    have HEA2 := Lib.hid (HEA.out rfl)
    have HA := Lib.hid (A1.out rfl hm)
    have mk := HMK.out m hm
    clear HMN HEA A1 A2 A3 HMK
    go_wp2_with fail
    generalize hW : World.alloc W3 _ = W4
    have hU : W4.heap[W3.heap.size]? = some (.cells #[.int .i64 x, .slice a1 n1 c1, .slice a2 n2 c2, .slice a3 n3 c3, .slice a4 n4 c4, .slice a5 n5 c5, .int .i64 (V : Int), .int .i64 (nf : Int)] 67 (0, 0)) := by subst hW; exact heap_new _ _ _ rfl
    have hB4 : Below w.heap.size w W4 := by subst hW; exact ext_trans HB3.out (ext_alloc _ _)
    have HU4 := Lib.hid hU
    have HB4 := Lib.hid hB4
    clear hW hU hB4 HB3
    refine (HMN2.out W4 HB4.out).mono ?_
    rintro e W5 ⟨rfl, hb⟩
    have HU5 := Lib.hid (heap_below HU4.out hb)
    have HB5 := Lib.hid (ext_trans HB4.out hb)
    clear hb HU4 HB4 HMN2
    have p0 := cell_of_block HU5.out 0
    have p1 := cell_of_block HU5.out 1
    have p2 := cell_of_block HU5.out 2
    have p3 := cell_of_block HU5.out 3
    have p4 := cell_of_block HU5.out 4
    have p5 := cell_of_block HU5.out 5
    have p6 := cell_of_block HU5.out 6
    have p7 := cell_of_block HU5.out 7
    go_upto_region 5 with fail
    generalize hW : World.alloc (World.alloc W5 _) _ = W6
    have hU : W6.heap[W3.heap.size]? = some (.cells #[.int .i64 x, .slice a1 n1 c1, .slice a2 n2 c2, .slice a3 n3 c3, .slice a4 n4 c4, .slice a5 n5 c5, .int .i64 (V : Int), .int .i64 (nf : Int)] 67 (0, 0)) := by subst hW; exact heap_below HU5.out (ext_trans (ext_alloc _ _) (ext_alloc _ _))
    have hB6 : Below w.heap.size w W6 := by subst hW; exact ext_trans HB5.out (ext_trans (ext_alloc _ _) (ext_alloc _ _))
    have hR : W6.heap[W5.heap.size]? = some (.cells (zeros (.slice none 0 0) m) 45 (0, 0)) := by subst hW; exact heap_below (heap_new _ _ _ rfl) (ext_alloc _ _)
    have hbx : W6.heap[W5.heap.size + 1]? = some (.cells #[.slice (some ⟨W5.heap.size, 0, none⟩) 0 m] 39 (0, 0)) := by subst hW; exact heap_new _ _ _ (by simp)
    have h5 := HB5.out.size
    have HX6 := Lib.hid (EnX.begin (F := none) (w0 := w) (B := W5.heap.size + 1) hB6 (by omega) (by omega) hR h5 hbx (fun p hp => by cases hp))
    have HU6 := Lib.hid hU
    have HB6 := Lib.hid hB6
    have HNE : Hid (W3.heap.size ≠ W5.heap.size + 1) := by show _ ≠ _; have := heap_lt HU5.out; omega
    clear hW hU hB6 hR hbx p0 p1 p2 p3 p4 p5 p6 p7 HU5 HB5 mk h5
    have p0 := cell_of_block HU6.out 0
    have p1 := cell_of_block HU6.out 1
    have p2 := cell_of_block HU6.out 2
    have p3 := cell_of_block HU6.out 3
    have p4 := cell_of_block HU6.out 4
    have p5 := cell_of_block HU6.out 5
    have p6 := cell_of_block HU6.out 6
    have p7 := cell_of_block HU6.out 7
    obtain ⟨B, hB⟩ : ∃ B, B = W5.heap.size + 1 := ⟨_, rfl⟩
    rw [← hB] at HX6 HNE ⊢
    clear hB
    go_wp2_with fail
    refine (HEA2.out W6 B HX6.out).mono ?_
    rintro e W7 ⟨rfl, hx7, hg7⟩
    obtain ⟨bb, ra, rn, rk, rss, hn7, hbox7, hL7⟩ := hx7.st
    have HL7 := Lib.hid hL7
    have HN7 := Lib.hid hn7
    have q0 : W7.cell? ⟨B, 0, none⟩ = some (.slice ra rn rk) := cell_of_block hbox7 0
    clear hx7 hg7 hbox7 hL7 hn7 p0 p1 p2 p3 p4 p5 p6 p7 HU6
    go_wp2
    refine bodyPost_ret (v := .tuple #[.slice ra rn rk, .int .i64 0]) ?_ rfl ?_
    · simp [results, Try.results12, go_sem]
    · obtain ⟨a', k', e', hs'⟩ := HL7.out.done
      rw [← HN7.out] at e'
      cases e'
      refine ⟨HL7.out.bel, ra, rn, rk, rss, by rw [HA.out]; rfl, ?_⟩
      rw [HA.out, HN7.out]
      exact hs'
  · unfold uZ
    have HA := Lib.hid (A2.out rfl hm)
    clear HMN HEA A1 A2 A3 HMK
    go_wp2
    refine bodyPost_ret (v := .tuple #[.slice none 0 0, .int .i64 3]) ?_ rfl ?_
    · simp [results, Try.results12, go_sem]
    · refine ⟨ext_trans HB3.out (ext_alloc _ _), none, 0, 0, [], by rw [HA.out]; rfl, ?_⟩
      rw [HA.out]; exact SeesZ.nil _
  · unfold uZ
    have HA := Lib.hid (A3.out rfl)
    clear HMN HEA A1 A2 A3 HMK
    go_wp2
    refine bodyPost_ret (v := .tuple #[.slice none 0 0, .int .i64 2]) ?_ rfl ?_
    · simp [results, Try.results12, go_sem]
    · refine ⟨ext_trans HB3.out (ext_alloc _ _), none, 0, 0, [], by rw [HA.out]; rfl, ?_⟩
      rw [HA.out]; exact SeesZ.nil _
end Go.Proofs.Ytcoehbkjccfhlaa
