/- enc.Vars, enc.Lit, by their contracts. -/
import Derived.Test.YtcoehbkjccfhlaaGEncT01
import Derived.Test.YtcoehbkjccfhlaaGEncT02
import Derived.Test.YtcoehbkjccfhlaaGEncT07
import Derived.Test.YtcoehbkjccfhlaaEnSmall
import Derived.Test.YtcoehbkjccfhlaaEnOf
import Derived.Test.YtcoehbkjccfhlaaEnLim
import Derived.Test.YtcoehbkjccfhlaaRows
import Derived.BigQuiet
import Derived.Deep.AppendLies
import Derived.Deep.CutRange
import Derived.Deep.QuietTactic
import Derived.Deep.RegionHeld3
import Derived.Deep.RegionLaw
import Derived.Deep.RegionWith
import Derived.KernelRfl
import Derived.Laws.EntriesVeiled
import Derived.Laws.Tables
import Derived.Lib.ConvBytes
import Derived.Lib.Hide
import Derived.Lib.SlBytesRow
import Derived.Lib.SmallJoins
import Derived.Maps.AppendAt
import Derived.Shelf.Bytes.SlSmallAll
import Derived.WalkKit
import Derived.WalkLawsBesides
import Derived.WalkSpells
namespace Go.Proofs.Ytcoehbkjccfhlaa
open Go Go.RowKit Go.Joins

def varsA (c : NormC) (z : Int) : Nat × Nat := if ofOk c z then (1 + z.toNat * varsN c, 0) else (0, 2)
def litOk14 (c : NormC) (x : Nat) (f : Int) : Bool := (decide (0 ≤ f) && decide (f < 256)) && (mayC c && decide (x / 2 ≤ varsN c))
def litA (c : NormC) (x : Nat) (f : Int) : Int × Nat := if litOk14 c x f then (litE (varsN c) x f.toNat, 0) else (0, 2)

set_option maxRecDepth 100000 in
set_option maxHeartbeats 3200000 in
theorem vars14_any (c : NormC) (s : CSlots) (z : Int) (w : World) (h : SeesCir w s c) (hs : s.small) (hlo : -9223372036854775808 ≤ c.ins) (hhi : c.ins < 9223372036854775808) :
    Calls Try.prog 8 #[cirV c.ins s, .int .i64 z] w fun e w' => e = .returned (.tuple #[.int .i64 ((varsA c z).1 : Nat), .int .i64 ((varsA c z).2 : Nat)]) ∧ Below w.heap.size w w' := by
  have HOF := Lib.hid (fun W (hb : Below w.heap.size w W) => enof_any c s z W (h.below hb) hs hlo hhi)
  have HLA := Lib.hid (fun (ho : ofOk c z = true) W => last_any c.ins s (varsN c) z.toNat (ofOk_iff ho).1.few (ofOk_iff ho).2.2.1 W)
  clear h hs hlo hhi
  obtain ⟨a1, n1, c1, a2, n2, c2, a3, n3, c3, a4, n4, c4, a5, n5, c5⟩ := s
  obtain ⟨x, hx⟩ : ∃ x, x = c.ins := ⟨_, rfl⟩
  have HA : Hid (ofOk c z = true → varsA c z = (1 + z.toNat * varsN c, 0)) := fun h => by unfold varsA; rw [if_pos h]
  have HA2 : Hid (ofOk c z = false → varsA c z = (0, 2)) := fun h => by unfold varsA; rw [if_neg (by rw [h]; simp)]
  obtain ⟨A, hA⟩ : ∃ A, A = varsA c z := ⟨_, rfl⟩
  rw [← hA]
  rw [← hA] at HA HA2
  obtain ⟨o, ho⟩ : ∃ o, o = ofOk c z := ⟨_, rfl⟩
  obtain ⟨V, hV⟩ : ∃ V, V = varsN c := ⟨_, rfl⟩
  obtain ⟨nf, hnf⟩ : ∃ n, n = z.toNat := ⟨_, rfl⟩
  unfold OfE at HOF
  rw [← hx]
  rw [← hx, ← ho, ← hV, ← hnf] at HOF
  rw [← hx, ← ho, ← hV, ← hnf] at HLA
  rw [← ho, ← hV, ← hnf] at HA
  rw [← ho] at HA2
  clear hx ho hV hnf hA
  unfold cirV at *
  unfold uV at *
  go_enter Try.func8, Try.ntmps8
  go_upto_region 1 with fail
  generalize hW : World.alloc w _ = W2
  have hX : W2.heap[w.heap.size]? = some (.cells #[.int .i64 x, .slice a1 n1 c1, .slice a2 n2 c2, .slice a3 n3 c3, .slice a4 n4 c4, .slice a5 n5 c5] 26 (0, 0)) := by subst hW; exact heap_new _ _ _ rfl
  have hB : Below w.heap.size w W2 := by subst hW; exact ext_alloc _ _
  have HX := Lib.hid hX
  have HB := Lib.hid hB
  clear hW hX hB
  have p0 := cell_of_block HX.out 0
  have p1 := cell_of_block HX.out 1
  have p2 := cell_of_block HX.out 2
  have p3 := cell_of_block HX.out 3
  have p4 := cell_of_block HX.out 4
  have p5 := cell_of_block HX.out 5
  go_wp2_with fail
  refine (HOF.out W2 HB.out).mono ?_
  rintro e W3 ⟨hb, hcase⟩
  have HB3 := Lib.hid (ext_trans HB.out hb)
  clear p0 p1 p2 p3 p4 p5 hb HX HB HOF
  rcases hcase with ⟨rfl, rfl⟩ | ⟨rfl, rfl⟩
  · have HLA2 := Lib.hid (HLA.out rfl)
    have HA3 := Lib.hid (HA.out rfl)
    clear HLA HA HA2
    obtain ⟨r, hr⟩ : ∃ r, r = 1 + nf * V := ⟨_, rfl⟩
    rw [← hr] at HLA2 HA3
    clear hr
    go_wp2_with fail
    generalize hW : World.alloc W3 _ = W4
    have hU : W4.heap[W3.heap.size]? = some (.cells #[.int .i64 x, .slice a1 n1 c1, .slice a2 n2 c2, .slice a3 n3 c3, .slice a4 n4 c4, .slice a5 n5 c5, .int .i64 (V : Int), .int .i64 (nf : Int)] 67 (0, 0)) := by subst hW; exact heap_new _ _ _ rfl
    have hB : Below w.heap.size w W4 := by subst hW; exact ext_trans HB3.out (ext_alloc _ _)
    have HU := Lib.hid hU
    have HB := Lib.hid hB
    clear hW hU hB HB3
    have p0 := cell_of_block HU.out 0
    have p1 := cell_of_block HU.out 1
    have p2 := cell_of_block HU.out 2
    have p3 := cell_of_block HU.out 3
    have p4 := cell_of_block HU.out 4
    have p5 := cell_of_block HU.out 5
    have p6 := cell_of_block HU.out 6
    have p7 := cell_of_block HU.out 7
    go_wp2_with fail
    refine (HLA2.out W4).mono ?_
    rintro e W5 ⟨rfl, hb⟩
    have HB5 := Lib.hid (ext_trans HB.out hb)
    clear p0 p1 p2 p3 p4 p5 p6 p7 hb HU HB HLA2
    go_wp2
    refine bodyPost_ret (v := .tuple #[.int .i64 (r : Int), .int .i64 0]) ?_ rfl ?_
    · simp [results, Try.results8, go_sem]
    · exact ⟨by rw [HA3.out]; rfl, HB5.out⟩
  · have HA3 := Lib.hid (HA2.out rfl)
    clear HLA HA HA2
    unfold uZ
    go_wp2
    refine bodyPost_ret (v := .tuple #[.int .i64 0, .int .i64 2]) ?_ rfl ?_
    · simp [results, Try.results8, go_sem]
    · exact ⟨by rw [HA3.out]; rfl, ext_trans HB3.out (ext_alloc _ _)⟩

set_option maxRecDepth 100000 in
set_option maxHeartbeats 3200000 in
theorem lit14_any (c : NormC) (s : CSlots) (x : Nat) (f : Int) (w : World) (h : SeesCir w s c) (hs : s.small) (hlo : -9223372036854775808 ≤ c.ins) (hhi : c.ins < 9223372036854775808) (hx : x < 4294967296) :
    Calls Try.prog 10 #[cirV c.ins s, .int .u32 (x : Int), .int .i64 f] w fun e w' => e = .returned (.tuple #[.int .i64 (litA c x f).1, .int .i64 ((litA c x f).2 : Nat)]) ∧ Below w.heap.size w w' := by
  have HOF := Lib.hid (fun W (hb : Below w.heap.size w W) => enof_any c s (f + 1) W (h.below hb) hs hlo hhi)
  have HLI := Lib.hid (fun (ho : ofOk c (f + 1) = true) (hf : 0 ≤ f) (hx : x ≤ 2 * varsN c + 1) W => ulit_any c.ins s (varsN c) (f + 1).toNat x f.toNat (ofOk_iff ho).1.few hx (by have := (ofOk_iff ho).2.2.1; omega) W)
  clear h hs hlo hhi
  obtain ⟨a1, n1, c1, a2, n2, c2, a3, n3, c3, a4, n4, c4, a5, n5, c5⟩ := s
  obtain ⟨i, hi⟩ : ∃ x, x = c.ins := ⟨_, rfl⟩
  obtain ⟨A, hA⟩ : ∃ A, A = litA c x f := ⟨_, rfl⟩
  rw [← hA]
  have NO : Hid (litOk14 c x f = false → A = (0, 2)) := fun h => by rw [hA]; unfold litA; rw [if_neg (by rw [h]; simp)]
  have YES : Hid (litOk14 c x f = true → A = (litE (varsN c) x f.toNat, 0)) := fun h => by rw [hA]; unfold litA; rw [if_pos h]
  clear hA
  by_cases f0 : f < 0
  · have e1 : decide (f < (0 : Int)) = true := by simpa using f0
    have HA := Lib.hid (NO.out (by unfold litOk14; simp; intro h; omega))
    clear HOF HLI NO YES f0 hi
    unfold cirV
    go_enter Try.func10, Try.ntmps10
    go_wp2
    refine bodyPost_ret (v := .tuple #[.int .i64 0, .int .i64 2]) ?_ rfl ?_
    · simp [results, Try.results10, go_sem]
    · exact ⟨by rw [HA.out]; rfl, ext_alloc _ _⟩
  by_cases f1 : 256 ≤ f
  · have e1 : decide (f < (0 : Int)) = false := by simpa using f0
    have e2 : decide ((256 : Int) ≤ f) = true := by simpa using f1
    have HA := Lib.hid (NO.out (by unfold litOk14; simp; intro _ h; omega))
    clear HOF HLI NO YES f0 f1 hi
    unfold cirV
    go_enter Try.func10, Try.ntmps10
    go_wp2
    refine bodyPost_ret (v := .tuple #[.int .i64 0, .int .i64 2]) ?_ rfl ?_
    · simp [results, Try.results10, go_sem]
    · exact ⟨by rw [HA.out]; rfl, ext_alloc _ _⟩
  obtain ⟨k, rfl⟩ := Int.eq_ofNat_of_zero_le (show 0 ≤ f by omega)
  have e1 : decide ((k : Int) < (0 : Int)) = false := by simp
  have e2 : decide ((256 : Int) ≤ (k : Int)) = false := by simp; omega
  have e3 : decide (256 ≤ k) = false := by simp; omega
  have W1 : IntKind.i64.wrap ((k : Int) + 1) = (k : Int) + 1 := IntWalk.i64_in _ (by omega)
  have hfr : framesOk ((k : Int) + 1) = true := by unfold framesOk; simp; omega
  have hok : ofOk c ((k : Int) + 1) = mayC c := by unfold ofOk; rw [hfr]; rfl
  have hl : litOk14 c x (k : Int) = (mayC c && decide (x / 2 ≤ varsN c)) := by unfold litOk14; simp; omega
  unfold OfE at HOF
  rw [hok] at HOF HLI
  rw [hl] at YES NO
  rw [← hi]
  rw [← hi] at HOF HLI
  obtain ⟨q, hq⟩ : ∃ q, q = mayC c := ⟨_, rfl⟩
  rw [← hq] at HOF HLI YES NO
  obtain ⟨V, hV⟩ : ∃ V, V = varsN c := ⟨_, rfl⟩
  rw [← hV] at HOF HLI YES NO
  have HLI2 : Hid (q = true → x ≤ 2 * V + 1 → ∀ W, Calls Try.prog 34 #[uV i ⟨a1, n1, c1, a2, n2, c2, a3, n3, c3, a4, n4, c4, a5, n5, c5⟩ V (k + 1), .int .u32 (x : Int), .int .i64 (k : Int)] W fun e w' => e = .returned (.int .i64 (litE V x k)) ∧ Below W.heap.size W w') := fun h1 h2 W => HLI.out h1 (by omega) h2 W
  have HOF2 : Hid (∀ W, Below w.heap.size w W → Calls Try.prog 30 #[cirV i ⟨a1, n1, c1, a2, n2, c2, a3, n3, c3, a4, n4, c4, a5, n5, c5⟩, .int .i64 ((k : Int) + 1)] W fun e w' => Below W.heap.size W w' ∧ ((q = true ∧ e = .returned (.tuple #[uV i ⟨a1, n1, c1, a2, n2, c2, a3, n3, c3, a4, n4, c4, a5, n5, c5⟩ V (k + 1), .int .i64 0])) ∨ (q = false ∧ e = .returned (.tuple #[uZ, .int .i64 2])))) := HOF.out
  simp only [Int.toNat_natCast] at YES
  clear HLI HOF f0 f1 hfr hok hl hi hq hV
  unfold cirV at *
  unfold uV at *
  have hk1 : ((k + 1 : Nat) : Int) = (k : Int) + 1 := by omega
  rw [hk1] at HLI2 HOF2
  clear hk1
  go_enter Try.func10, Try.ntmps10
  go_upto_region 3 with fail
  generalize hW : World.alloc w _ = W2
  have hX : W2.heap[w.heap.size]? = some (.cells #[.int .i64 i, .slice a1 n1 c1, .slice a2 n2 c2, .slice a3 n3 c3, .slice a4 n4 c4, .slice a5 n5 c5] 26 (0, 0)) := by subst hW; exact heap_new _ _ _ rfl
  have hB : Below w.heap.size w W2 := by subst hW; exact ext_alloc _ _
  have HX := Lib.hid hX
  have HB := Lib.hid hB
  clear hW hX hB
  have p0 := cell_of_block HX.out 0
  have p1 := cell_of_block HX.out 1
  have p2 := cell_of_block HX.out 2
  have p3 := cell_of_block HX.out 3
  have p4 := cell_of_block HX.out 4
  have p5 := cell_of_block HX.out 5
  go_wp2_with fail
  refine (HOF2.out W2 HB.out).mono ?_
  rintro e W3 ⟨hb, hcase⟩
  have HB3 := Lib.hid (ext_trans HB.out hb)
  clear p0 p1 p2 p3 p4 p5 hb HX HB HOF2
  rcases hcase with ⟨rfl, rfl⟩ | ⟨rfl, rfl⟩
  · have S1 : IntKind.u32.wrap ((x : Int) / 2) = ((x / 2 : Nat) : Int) := by rw [IntKind.wrap_u32]; omega
    have S2 : (x : Int) / 2 = ((x / 2 : Nat) : Int) := by omega
    have S3 : IntKind.i64.wrap ((x / 2 : Nat) : Int) = ((x / 2 : Nat) : Int) := IntWalk.i64_in _ (by omega)
    obtain ⟨y, hy⟩ : ∃ y, y = x / 2 := ⟨_, rfl⟩
    rw [← hy] at S1 S2 S3 YES NO
    have hxy : x ≤ 2 * y + 1 := by omega
    clear hx hy
    by_cases hVy : V < y
    · have d1 : decide ((V : Int) < (y : Int)) = true := by simp; omega
      have d2 : decide (V < y) = true := by simp; omega
      have HA3 := Lib.hid (NO.out (by simp; omega))
      clear HLI2 YES NO hVy hxy
      go_wp2
      refine bodyPost_ret (v := .tuple #[.int .i64 0, .int .i64 2]) ?_ rfl ?_
      · simp [results, Try.results10, go_sem]
      · exact ⟨by rw [HA3.out]; rfl, ext_trans HB3.out (ext_alloc _ _)⟩
    · have d1 : decide ((V : Int) < (y : Int)) = false := by simp; omega
      have d2 : decide (V < y) = false := by simp; omega
      have HA3 := Lib.hid (YES.out (by simp; omega))
      have HL3 := Lib.hid (HLI2.out rfl (by omega))
      clear HLI2 YES NO hVy hxy
      obtain ⟨z, hz⟩ : ∃ z, z = litE V x k := ⟨_, rfl⟩
      rw [← hz] at HA3 HL3
      clear hz
      go_wp2_with fail
      refine (HL3.out _).mono ?_
      rintro e W5 ⟨rfl, hb⟩
      have HB5 := Lib.hid (ext_trans HB3.out (ext_trans (ext_alloc _ _) hb))
      clear hb HL3
      go_wp2
      refine bodyPost_ret (v := .tuple #[.int .i64 z, .int .i64 0]) ?_ rfl ?_
      · simp [results, Try.results10, go_sem]
      · exact ⟨by rw [HA3.out]; rfl, HB5.out⟩
  · have HA3 := Lib.hid (NO.out rfl)
    clear HLI2 YES NO
    unfold uZ
    go_wp2
    refine bodyPost_ret (v := .tuple #[.int .i64 0, .int .i64 2]) ?_ rfl ?_
    · simp [results, Try.results10, go_sem]
    · exact ⟨by rw [HA3.out]; rfl, ext_trans HB3.out (ext_alloc _ _)⟩
end Go.Proofs.Ytcoehbkjccfhlaa
