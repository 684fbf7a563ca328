/- inquestref14.bit, by its contract. -/
import Derived.Test.YtcoehbkjccfhlaaGEncT01
import Derived.Test.YtcoehbkjccfhlaaGEncT02
import Derived.Test.YtcoehbkjccfhlaaGEncT07
import Derived.Test.YtcoehbkjccfhlaaGEncT03
import Derived.Test.YtcoehbkjccfhlaaGEncT05
import Derived.Test.YtcoehbkjccfhlaaEnLim
import Derived.Test.YtcoehbkjccfhlaaEnVL
import Derived.Test.YtcoehbkjccfhlaaEnCl
import Derived.Test.YtcoehbkjccfhlaaEnRl
import Derived.Test.YtcoehbkjccfhlaaEnRA
import Derived.Test.YtcoehbkjccfhlaaGEncT15
import Derived.Test.YtcoehbkjccfhlaaGEncT17
import Derived.Test.YtcoehbkjccfhlaaRows
import Derived.BigQuiet
import Derived.Deep.AppendLies
import Derived.Deep.CutRange
import Derived.Deep.QuietTactic
import Derived.Deep.RegionHeld3
import Derived.Deep.RegionLaw
import Derived.Deep.RegionWith
import Derived.KernelRfl
import Derived.Laws.EntriesVeiled
import Derived.Laws.Tables
import Derived.Lib.ConvBytes
import Derived.Lib.Hide
import Derived.Lib.SlBytesRow
import Derived.Lib.SmallJoins
import Derived.Maps.AppendAt
import Derived.OrdersHeld
import Derived.Shelf.Bytes.SlSmallAll
import Derived.WalkKit
import Derived.WalkLawsBesides
import Derived.WalkSpells
import Derived.Test.YtcoehbkjccfhlaaEnTell
import Derived.Test.YtcoehbkjccfhlaaGEncT12
import Derived.Lib.AppendStr
import Derived.Lib.AppendZeros
/- inquestref14.Clauses, Relaxed, by their contracts. -/
namespace Go.Proofs.Ytcoehbkjccfhlaa
open Go Go.RowKit Go.Joins

theorem cfA_zero (c : NormC) (z : Int) : cfA c z 0 = clA c z := by unfold cfA clA; rfl
theorem cfA_rl (c : NormC) (z : Int) (h : ofOk c z = true) : ((cfA c z (2 + z.toNat * varsN c)).1 = (rlA c z).1 ∧ (cfA c z (2 + z.toNat * varsN c)).2 = (rlA c z).2.2) ∧ ((rlA c z).2.2 = 0 → (rlA c z).2.1 = 2 + z.toNat * varsN c) ∧ ((rlA c z).2.2 ≠ 0 → rlA c z = ([], 0, (rlA c z).2.2)) := by
  have e : ∀ l : List TCl, l.map (phiN (2 + z.toNat * varsN c)) = l.map (withE (2 + z.toNat * varsN c)) := fun l => List.map_congr_left fun t _ => by unfold phiN; rw [if_neg (by omega)]
  unfold cfA rlA
  rw [if_pos h, if_pos h]
  by_cases h2 : manyE c z.toNat ≤ 1048576
  · rw [if_pos h2, if_pos h2, e]; exact ⟨⟨rfl, rfl⟩, fun _ => rfl, fun h => absurd rfl h⟩
  · rw [if_neg h2, if_neg h2]; exact ⟨⟨rfl, rfl⟩, fun h => absurd h (by decide), fun _ => rfl⟩
theorem cfE0_any (c : NormC) (s : CSlots) (z : Int) (w : World) (h : SeesCir w s c) (hs : s.small) (hlo : -9223372036854775808 ≤ c.ins) (hhi : c.ins < 9223372036854775808) (hw : Wide c) :
    Calls Try.prog 41 #[cirV c.ins s, .int .i64 z, .int .i64 0] w (ClE c z w) := by
  have h1 := refclauses_any c s z 0 w h hs hlo hhi hw (by omega)
  unfold CfE at h1
  rw [cfA_zero] at h1
  exact h1
set_option maxRecDepth 100000 in
set_option maxHeartbeats 3200000 in
theorem refCl_any (c : NormC) (s : CSlots) (z : Int) (w : World) (h : SeesCir w s c) (hs : s.small) (hlo : -9223372036854775808 ≤ c.ins) (hhi : c.ins < 9223372036854775808) (hw : Wide c) :
    Calls Try.prog 13 #[cirV c.ins s, .int .i64 z] w (ClE c z w) := by
  have HC := Lib.hid (fun W (hb : Below w.heap.size w W) => cfE0_any c s z W (h.below hb) hs hlo hhi hw)
  clear h hs hlo hhi hw
  obtain ⟨A, hA⟩ : ∃ A, A = clA c z := ⟨_, rfl⟩
  unfold ClE at *
  rw [← hA]
  rw [← hA] at HC
  clear hA
  obtain ⟨x, hx⟩ : ∃ x, x = c.ins := ⟨_, rfl⟩
  rw [← hx]
  rw [← hx] at HC
  clear hx
  obtain ⟨a1, n1, c1, a2, n2, c2, a3, n3, c3, a4, n4, c4, a5, n5, c5⟩ := s
  unfold cirV at *
  go_enter Try.func13, Try.ntmps13
  go_wp2_with fail
  refine (HC.out _ (ext_alloc _ _)).mono ?_
  rintro e W2 ⟨hb, a, n, k, ss, rfl, hs⟩
  have HB2 := Lib.hid (ext_trans (ext_alloc w (.cells #[.int .i64 x, .slice a1 n1 c1, .slice a2 n2 c2, .slice a3 n3 c3, .slice a4 n4 c4, .slice a5 n5 c5] 26)) hb)
  have HS2 := Lib.hid hs
  clear hb hs HC
  go_wp2
  refine bodyPost_ret (v := .tuple #[.slice a n k, .int .i64 (A.2 : Nat)]) ?_ rfl ?_
  · simp [results, Try.results13, go_sem]
  · exact ⟨HB2.out, a, n, k, ss, rfl, HS2.out⟩
set_option maxRecDepth 100000 in
set_option maxHeartbeats 3200000 in
theorem refRl_any (c : NormC) (s : CSlots) (z : Int) (w : World) (h : SeesCir w s c) (hs : s.small) (hlo : -9223372036854775808 ≤ c.ins) (hhi : c.ins < 9223372036854775808) (hw : Wide c) :
    Calls Try.prog 15 #[cirV c.ins s, .int .i64 z] w (RlE c z w) := by
  have HV := Lib.hid (fun W (hb : Below w.heap.size w W) => refvars14_any c s z W (h.below hb) hs hlo hhi hw)
  have HC : Hid (∀ W, Below w.heap.size w W → ∀ first, first ≤ 5000000 → _) := Lib.hid (fun W (hb : Below w.heap.size w W) first (hf : first ≤ 5000000) => refclauses_any c s z first W (h.below hb) hs hlo hhi hw hf)
  have HOK := Lib.hid (fun (ho : ofOk c z = true) => ofOk_iff ho)
  have HRL := Lib.hid (cfA_rl c z)
  clear h hs hlo hhi hw
  obtain ⟨x, hx⟩ : ∃ x, x = c.ins := ⟨_, rfl⟩
  rw [← hx]
  rw [← hx] at HC HV
  clear hx
  obtain ⟨a1, n1, c1, a2, n2, c2, a3, n3, c3, a4, n4, c4, a5, n5, c5⟩ := s
  unfold cirV at *
  cases ho : ofOk c z with
  | false =>
    have hv : varsA c z = (0, 2) := by unfold varsA; rw [if_neg (by rw [ho]; simp)]
    have hr : rlA c z = ([], 0, 2) := by unfold rlA; rw [if_neg (by rw [ho]; simp)]
    unfold RlE
    rw [hr]
    rw [hv] at HV
    clear HC HOK HRL hv hr ho
    go_enter Try.func15, Try.ntmps15
    go_upto_region 1 with fail
    generalize hW : World.alloc w _ = W1
    have hX : W1.heap[w.heap.size]? = some (.cells #[.int .i64 x, .slice a1 n1 c1, .slice a2 n2 c2, .slice a3 n3 c3, .slice a4 n4 c4, .slice a5 n5 c5] 26 (0, 0)) := by subst hW; exact heap_new _ _ _ rfl
    have hB : Below w.heap.size w W1 := by subst hW; exact ext_alloc _ _
    have HX1 := Lib.hid hX
    have HB1 := Lib.hid hB
    clear hW hX hB
    have p0 := cell_of_block HX1.out 0
    have p1 := cell_of_block HX1.out 1
    have p2 := cell_of_block HX1.out 2
    have p3 := cell_of_block HX1.out 3
    have p4 := cell_of_block HX1.out 4
    have p5 := cell_of_block HX1.out 5
    go_wp2_with fail
    refine (HV.out W1 HB1.out).mono ?_
    rintro e W2 ⟨rfl, hb⟩
    have HX2 := Lib.hid (heap_below HX1.out hb)
    have HB2 := Lib.hid (ext_trans HB1.out hb)
    clear hb HV p0 p1 p2 p3 p4 p5
    have p0 := cell_of_block HX2.out 0
    have p1 := cell_of_block HX2.out 1
    have p2 := cell_of_block HX2.out 2
    have p3 := cell_of_block HX2.out 3
    have p4 := cell_of_block HX2.out 4
    have p5 := cell_of_block HX2.out 5
    go_wp2
    refine bodyPost_ret (v := .tuple #[.slice none 0 0, .int .i64 0, .int .i64 2]) ?_ rfl ?_
    · simp [results, Try.results15, go_sem]
    · exact ⟨HB2.out, none, 0, 0, [], rfl, SeesZ.nil _⟩
  | true =>
    obtain ⟨hM, hf1, hf2, hzz⟩ := HOK.out ho
    obtain ⟨⟨hc1, hc2⟩, hrz, hrn⟩ := HRL.out ho
    have hfew := hM.few
    have hv : varsA c z = (1 + z.toNat * varsN c, 0) := by unfold varsA; rw [if_pos ho]
    rw [hv] at HV
    have hmul : z.toNat * varsN c ≤ 256 * 16384 := Nat.mul_le_mul hf2 hfew
    have HCF := Lib.hid (fun W hb => HC.out W hb (2 + z.toNat * varsN c) (by omega))
    unfold CfE at HCF
    unfold RlE
    obtain ⟨p, hp⟩ : ∃ p, p = z.toNat * varsN c := ⟨_, rfl⟩
    rw [← hp] at HV hmul HCF hc1 hc2 hrz
    obtain ⟨R, hR⟩ : ∃ R, R = rlA c z := ⟨_, rfl⟩
    obtain ⟨C, hC⟩ : ∃ C, C = cfA c z (2 + p) := ⟨_, rfl⟩
    rw [← hC] at HCF hc1 hc2
    rw [← hR] at hc1 hc2 hrz hrn
    rw [← hR]
    obtain ⟨c1l, c2l⟩ := C
    obtain ⟨r1, r2, r3⟩ := R
    simp only at HCF hc1 hc2 hrz hrn
    subst hc1 hc2
    have W1 : IntKind.i64.wrap (((1 + p : Nat) : Int) + 1) = ((2 + p : Nat) : Int) := by rw [show (((1 + p : Nat) : Int) + 1) = ((2 + p : Nat) : Int) by omega]; exact IntWalk.i64_in _ (by omega)
    obtain ⟨q, hq⟩ : ∃ q, q = 1 + p := ⟨_, rfl⟩
    obtain ⟨f, hf⟩ : ∃ f, f = 2 + p := ⟨_, rfl⟩
    rw [← hq] at HV W1
    rw [← hf] at HCF W1 hrz
    clear HC HOK HRL hv ho hM hf1 hf2 hzz hfew hmul hp hR hC hq hf
    go_enter Try.func15, Try.ntmps15
    go_upto_region 1 with fail
    generalize hW : World.alloc w _ = W1
    have hX : W1.heap[w.heap.size]? = some (.cells #[.int .i64 x, .slice a1 n1 c1, .slice a2 n2 c2, .slice a3 n3 c3, .slice a4 n4 c4, .slice a5 n5 c5] 26 (0, 0)) := by subst hW; exact heap_new _ _ _ rfl
    have hB : Below w.heap.size w W1 := by subst hW; exact ext_alloc _ _
    have HX1 := Lib.hid hX
    have HB1 := Lib.hid hB
    clear hW hX hB
    have p0 := cell_of_block HX1.out 0
    have p1 := cell_of_block HX1.out 1
    have p2 := cell_of_block HX1.out 2
    have p3 := cell_of_block HX1.out 3
    have p4 := cell_of_block HX1.out 4
    have p5 := cell_of_block HX1.out 5
    go_wp2_with fail
    refine (HV.out W1 HB1.out).mono ?_
    rintro e W2 ⟨rfl, hb⟩
    have HX2 := Lib.hid (heap_below HX1.out hb)
    have HB2 := Lib.hid (ext_trans HB1.out hb)
    clear hb HV p0 p1 p2 p3 p4 p5
    have p0 := cell_of_block HX2.out 0
    have p1 := cell_of_block HX2.out 1
    have p2 := cell_of_block HX2.out 2
    have p3 := cell_of_block HX2.out 3
    have p4 := cell_of_block HX2.out 4
    have p5 := cell_of_block HX2.out 5
    go_wp2_with fail
    refine (HCF.out W2 HB2.out).mono ?_
    rintro e W3 ⟨hb, a, n, k, ss, rfl, hs⟩
    have HB3 := Lib.hid (ext_trans HB2.out hb)
    have HS3 := Lib.hid hs
    clear hb hs HCF HB2 p0 p1 p2 p3 p4 p5
    by_cases h0 : c2l = 0
    · subst h0
      have hr := hrz rfl
      subst hr
      clear hrz hrn
      go_wp2
      refine bodyPost_ret (v := .tuple #[.slice a n k, .int .i64 (r2 : Nat), .int .i64 0]) ?_ rfl ?_
      · simp [results, Try.results15, go_sem]
      · exact ⟨HB3.out, a, n, k, ss, rfl, HS3.out⟩
    · have hr := hrn h0
      obtain ⟨hr1, hr2⟩ : c1l = [] ∧ r2 = 0 := by simpa using hr
      subst hr1 hr2
      have e1 : ((c2l : Int) == 0) = false := by simp; omega
      have e2 : ((c2l : Int) != 0) = true := by simp; omega
      clear hrz hrn hr h0
      go_wp2
      refine bodyPost_ret (v := .tuple #[.slice none 0 0, .int .i64 0, .int .i64 (c2l : Nat)]) ?_ rfl ?_
      · simp [results, Try.results15, go_sem]
      · exact ⟨HB3.out, none, 0, 0, [], rfl, SeesZ.nil _⟩
end Go.Proofs.Ytcoehbkjccfhlaa
namespace Go.Proofs.Ytcoehbkjccfhlaa
open Go Go.RowKit Go.Joins

/-- A variable's literal by a value. -/
def bitE (V v f val : Nat) : Int := if val = 1 then ((spotE V v f : Nat) : Int) else -((spotE V v f : Nat) : Int)
theorem tell_bit {V v f val : Nat} (h : val ≤ 1) : tellE V v f val = [bitE V v f val] := by
  unfold tellE bitE
  by_cases h1 : val = 1
  · rw [if_neg (by omega), if_pos h1, if_pos h1]
  · rw [if_pos (by omega), if_neg h1]
theorem tell_two {V v f : Nat} : tellE V v f 2 = [] := rfl
theorem lit_bit (V v f val : Nat) (h : val ≤ 1) (hv : 1 ≤ v) : litE V (2 * v + (1 - val)) f = bitE V v f val := by
  unfold bitE litE absE
  by_cases h1 : val = 1
  · subst h1
    rw [if_pos rfl, if_neg (by omega), if_neg (by omega), show (2 * v + (1 - 1)) / 2 = v by omega]
  · obtain rfl : val = 0 := by omega
    rw [if_neg h1, if_pos (by omega), if_neg (by omega), show (2 * v + (1 - 0)) / 2 = v by omega]
set_option maxRecDepth 100000 in
set_option maxHeartbeats 3200000 in
theorem bit14_any (c : NormC) (s : CSlots) (v f val : Nat) (hM : MayC c) (hv1 : 1 ≤ v) (hv : v ≤ varsN c) (hval : val ≤ 1) (hf : f ≤ 256) (w : World) (h : SeesCir w s c) (hs : s.small) (hlo : -9223372036854775808 ≤ c.ins) (hhi : c.ins < 9223372036854775808) (hw : Wide c) :
    Calls Try.prog 49 #[cirV c.ins s, .int .i64 (v : Int), .int .u8 (val : Int), .int .i64 (f : Int)] w fun e w' => e = .returned (.int .i64 (bitE (varsN c) v f val)) ∧ Below w.heap.size w w' := by
  have HOF := Lib.hid (fun W (hb : Below w.heap.size w W) => refof14_any c s (2 * v + (1 - val)) f hM (by omega) hf W (h.below hb) hs hlo hhi hw)
  rw [lit_bit (varsN c) v f val hval hv1] at HOF
  have hfew := hM.few
  have WA : IntKind.i64.wrap (2 * (v : Int)) = ((2 * v : Nat) : Int) := by rw [show 2 * (v : Int) = ((2 * v : Nat) : Int) by omega]; exact IntWalk.i64_in _ (by omega)
  have WA2 : IntKind.i64.wrap (2 * (v : Int)) = 2 * (v : Int) := IntWalk.i64_in _ (by omega)
  have WU : IntKind.u32.wrap ((2 * v : Nat) : Int) = ((2 * v : Nat) : Int) := by rw [IntKind.wrap_u32]; omega
  have WU2 : IntKind.u32.wrap (2 * (v : Int)) = 2 * (v : Int) := by rw [IntKind.wrap_u32]; omega
  obtain ⟨b, hb⟩ : ∃ b, b = 1 - val := ⟨_, rfl⟩
  have W8 : IntKind.u8.wrap (1 - (val : Int)) = (b : Int) := by rw [show 1 - (val : Int) = (b : Int) by omega, IntKind.wrap_u8]; omega
  have W32 : IntKind.u32.wrap (b : Int) = (b : Int) := by rw [IntKind.wrap_u32]; omega
  have WP : IntKind.u32.wrap (((2 * v : Nat) : Int) + (b : Int)) = ((2 * v + b : Nat) : Int) := by rw [show ((2 * v : Nat) : Int) + (b : Int) = ((2 * v + b : Nat) : Int) by omega, IntKind.wrap_u32]; omega
  have WP2 : IntKind.u32.wrap (2 * (v : Int) + (b : Int)) = ((2 * v + b : Nat) : Int) := by rw [show 2 * (v : Int) + (b : Int) = ((2 * v + b : Nat) : Int) by omega, IntKind.wrap_u32]; omega
  rw [← hb] at HOF
  obtain ⟨z, hz⟩ : ∃ z, z = bitE (varsN c) v f val := ⟨_, rfl⟩
  simp only [← hz] at HOF ⊢
  obtain ⟨x, hx⟩ : ∃ x, x = c.ins := ⟨_, rfl⟩
  rw [← hx]
  rw [← hx] at HOF
  clear hx hz hb hfew h hs hlo hhi hw hM hv1 hv hval hf
  obtain ⟨a1, n1, c1, a2, n2, c2, a3, n3, c3, a4, n4, c4, a5, n5, c5⟩ := s
  unfold cirV at *
  go_enter Try.func49, Try.ntmps49
  go_wp2_with fail
  refine (HOF.out _ (ext_alloc _ _)).mono ?_
  rintro e W2 ⟨rfl, hb⟩
  have HB2 := Lib.hid (ext_trans (ext_alloc w (.cells #[.int .i64 x, .slice a1 n1 c1, .slice a2 n2 c2, .slice a3 n3 c3, .slice a4 n4 c4, .slice a5 n5 c5] 26)) hb)
  clear hb HOF
  go_wp2
  go_ret
  exact ⟨rfl, HB2.out⟩
end Go.Proofs.Ytcoehbkjccfhlaa
