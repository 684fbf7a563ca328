/- inquestref14.some, Vars, of, Lit, many, by their contracts. -/
import Derived.Test.YtcoehbkjccfhlaaGEncT01
import Derived.Test.YtcoehbkjccfhlaaGEncT02
import Derived.Test.YtcoehbkjccfhlaaGEncT07
import Derived.Test.YtcoehbkjccfhlaaGEncT03
import Derived.Test.YtcoehbkjccfhlaaNRefMay3
import Derived.Test.YtcoehbkjccfhlaaGEncT10
import Derived.Test.YtcoehbkjccfhlaaEnLim
import Derived.Test.YtcoehbkjccfhlaaEnVL
import Derived.Test.YtcoehbkjccfhlaaRows
import Derived.BigQuiet
import Derived.Deep.AppendLies
import Derived.Deep.CutRange
import Derived.Deep.QuietTactic
import Derived.Deep.RegionHeld3
import Derived.Deep.RegionLaw
import Derived.Deep.RegionWith
import Derived.KernelRfl
import Derived.Laws.EntriesVeiled
import Derived.Laws.Tables
import Derived.Lib.ConvBytes
import Derived.Lib.Hide
import Derived.Lib.SlBytesRow
import Derived.Lib.SmallJoins
import Derived.Maps.AppendAt
import Derived.Shelf.Bytes.SlSmallAll
import Derived.WalkKit
import Derived.WalkLawsBesides
import Derived.WalkSpells
namespace Go.Proofs.Ytcoehbkjccfhlaa
open Go Go.RowKit Go.Joins

theorem varsC_may {c : NormC} (h : mayC c = true) : varsC c = varsN c := by unfold varsC; rw [if_pos h]
set_option maxRecDepth 100000 in
set_option maxHeartbeats 6400000 in
theorem some14_any (c : NormC) (s : CSlots) (z : Int) (w : World) (h : SeesCir w s c) (hs : s.small) (hlo : -9223372036854775808 ≤ c.ins) (hhi : c.ins < 9223372036854775808) (hw : Wide c) :
    Calls Try.prog 32 #[cirV c.ins s, .int .i64 z] w fun e w' => e = .returned (.bool (ofOk c z)) ∧ Below w.heap.size w w' := by
  have HMAY := Lib.hid (fun W (hb : Below w.heap.size w W) => refmay3_any c s W (h.below hb) hs hlo hhi hw)
  obtain ⟨o, ho⟩ : ∃ o, o = ofOk c z := ⟨_, rfl⟩
  have HO : Hid (o = ((decide (1 ≤ z) && decide (z ≤ 256)) && mayC c)) := ho
  rw [← ho]
  clear ho h hs hlo hhi hw
  obtain ⟨a1, n1, c1, a2, n2, c2, a3, n3, c3, a4, n4, c4, a5, n5, c5⟩ := s
  obtain ⟨x, hx⟩ : ∃ x, x = c.ins := ⟨_, rfl⟩
  rw [← hx]
  rw [← hx] at HMAY
  obtain ⟨q, hq⟩ : ∃ q, q = mayC c := ⟨_, rfl⟩
  rw [← hq] at HMAY HO
  clear hx hq
  unfold cirV at *
  go_enter Try.func32, Try.ntmps32
  go_upto_region 1 with fail
  generalize hW : World.alloc w _ = W1
  have hX : W1.heap[w.heap.size]? = some (.cells #[.int .i64 x, .slice a1 n1 c1, .slice a2 n2 c2, .slice a3 n3 c3, .slice a4 n4 c4, .slice a5 n5 c5] 26 (0, 0)) := by subst hW; exact heap_new _ _ _ rfl
  have hB : Below w.heap.size w W1 := by subst hW; exact ext_alloc _ _
  have HX1 := Lib.hid hX
  have HB1 := Lib.hid hB
  clear hW hX hB
  have p0 := cell_of_block HX1.out 0
  have p1 := cell_of_block HX1.out 1
  have p2 := cell_of_block HX1.out 2
  have p3 := cell_of_block HX1.out 3
  have p4 := cell_of_block HX1.out 4
  have p5 := cell_of_block HX1.out 5
  go_wp2_with fail
  refine (HMAY.out W1 HB1.out).mono ?_
  rintro e W2 ⟨rfl, hb⟩
  have HX2 := Lib.hid (heap_below HX1.out hb)
  have HB2 := Lib.hid (ext_trans HB1.out hb)
  clear p0 p1 p2 p3 p4 p5 hb HX1 HB1
  cases q with
  | false =>
    have HO2 : Hid (o = false) := by show _ = _; rw [HO.out]; simp
    go_wp2
    go_ret
    exact ⟨by rw [HO2.out]; rfl, HB2.out⟩
  | true =>
    by_cases z1 : 1 ≤ z
    · have e1 : decide ((1 : Int) ≤ z) = true := by simpa using z1
      by_cases z2 : z ≤ 256
      · have e2 : decide (z ≤ (256 : Int)) = true := by simpa using z2
        have HO2 : Hid (o = true) := by show _ = _; rw [HO.out, e1, e2]; rfl
        clear z1 z2 HO
        go_wp2
        go_ret
        exact ⟨by rw [HO2.out]; rfl, HB2.out⟩
      · have e2 : decide (z ≤ (256 : Int)) = false := by simpa using z2
        have HO2 : Hid (o = false) := by show _ = _; rw [HO.out, e1, e2]; rfl
        clear z1 z2 HO
        go_wp2
        go_ret
        exact ⟨by rw [HO2.out]; rfl, HB2.out⟩
    · have e1 : decide ((1 : Int) ≤ z) = false := by simpa using z1
      have HO2 : Hid (o = false) := by show _ = _; rw [HO.out, e1]; rfl
      clear z1 HO
      go_wp2
      go_ret
      exact ⟨by rw [HO2.out]; rfl, HB2.out⟩

set_option maxRecDepth 100000 in
set_option maxHeartbeats 6400000 in
theorem refvars14_any (c : NormC) (s : CSlots) (z : Int) (w : World) (h : SeesCir w s c) (hs : s.small) (hlo : -9223372036854775808 ≤ c.ins) (hhi : c.ins < 9223372036854775808) (hw : Wide c) :
    Calls Try.prog 9 #[cirV c.ins s, .int .i64 z] w fun e w' => e = .returned (.tuple #[.int .i64 ((varsA c z).1 : Nat), .int .i64 ((varsA c z).2 : Nat)]) ∧ Below w.heap.size w w' := by
  have HSO := Lib.hid (fun W (hb : Below w.heap.size w W) => some14_any c s z W (h.below hb) hs hlo hhi hw)
  have HVA := Lib.hid (fun W (hb : Below w.heap.size w W) => refvars_any c s W (h.below hb) hs hlo hhi hw)
  have A1 : Hid (ofOk c z = true → varsA c z = (1 + z.toNat * varsN c, 0)) := fun h => by unfold varsA; rw [if_pos h]
  have A2 : Hid (ofOk c z = false → varsA c z = (0, 2)) := fun h => by unfold varsA; rw [if_neg (by rw [h]; simp)]
  have HOK := Lib.hid (fun (ho : ofOk c z = true) => (⟨(ofOk_iff ho).2.2.2, varsC_may (mayC_iff.2 (ofOk_iff ho).1), (spotE_lt (V := varsN c) (v := 0) (f := z.toNat) (ofOk_iff ho).1.few (by omega) (ofOk_iff ho).2.2.1).2⟩ : z = (z.toNat : Int) ∧ varsC c = varsN c ∧ z.toNat * varsN c ≤ 4194304))
  obtain ⟨A, hA⟩ : ∃ A, A = varsA c z := ⟨_, rfl⟩
  rw [← hA]
  rw [← hA] at A1 A2
  clear h hs hlo hhi hw hA
  obtain ⟨a1, n1, c1, a2, n2, c2, a3, n3, c3, a4, n4, c4, a5, n5, c5⟩ := s
  obtain ⟨x, hx⟩ : ∃ x, x = c.ins := ⟨_, rfl⟩
  rw [← hx]
  rw [← hx] at HSO HVA
  obtain ⟨o, ho⟩ : ∃ o, o = ofOk c z := ⟨_, rfl⟩
  rw [← ho] at HSO A1 A2 HOK
  obtain ⟨nf, hnf⟩ : ∃ n, n = z.toNat := ⟨_, rfl⟩
  rw [← hnf] at A1 HOK
  obtain ⟨V, hV⟩ : ∃ V, V = varsN c := ⟨_, rfl⟩
  rw [← hV] at A1 HOK
  obtain ⟨VC, hVC⟩ : ∃ V, V = varsC c := ⟨_, rfl⟩
  rw [← hVC] at HVA HOK
  clear hx ho hnf hV hVC
  unfold cirV at *
  go_enter Try.func9, Try.ntmps9
  go_upto_region 1 with fail
  generalize hW : World.alloc w _ = W1
  have hX : W1.heap[w.heap.size]? = some (.cells #[.int .i64 x, .slice a1 n1 c1, .slice a2 n2 c2, .slice a3 n3 c3, .slice a4 n4 c4, .slice a5 n5 c5] 26 (0, 0)) := by subst hW; exact heap_new _ _ _ rfl
  have hB : Below w.heap.size w W1 := by subst hW; exact ext_alloc _ _
  have HX1 := Lib.hid hX
  have HB1 := Lib.hid hB
  clear hW hX hB
  have p0 := cell_of_block HX1.out 0
  have p1 := cell_of_block HX1.out 1
  have p2 := cell_of_block HX1.out 2
  have p3 := cell_of_block HX1.out 3
  have p4 := cell_of_block HX1.out 4
  have p5 := cell_of_block HX1.out 5
  go_wp2_with fail
  refine (HSO.out W1 HB1.out).mono ?_
  rintro e W2 ⟨rfl, hb⟩
  have HX2 := Lib.hid (heap_below HX1.out hb)
  have HB2 := Lib.hid (ext_trans HB1.out hb)
  clear p0 p1 p2 p3 p4 p5 hb HX1 HB1
  cases o with
  | false =>
    have HA := Lib.hid (A2.out (by trivial))
    clear A1 A2 HOK HVA
    go_wp2
    refine bodyPost_ret (v := .tuple #[.int .i64 0, .int .i64 2]) ?_ rfl ?_
    · simp [results, Try.results9, go_sem]
    · exact ⟨by rw [HA.out]; rfl, HB2.out⟩
  | true =>
    have HA := Lib.hid (A1.out (by trivial))
    obtain ⟨hz, hvc, hmm⟩ := HOK.out (by trivial)
    subst hz
    subst hvc
    clear A1 A2 HOK
    obtain ⟨m, hm⟩ : ∃ m, m = nf * VC := ⟨_, rfl⟩
    rw [← hm] at HA hmm
    have W1m : IntKind.i64.wrap ((nf : Int) * (VC : Int)) = (m : Int) := by rw [show (nf : Int) * (VC : Int) = (m : Int) by rw [hm]; simp]; exact IntWalk.i64_in _ (by omega)
    have W2m : IntKind.i64.wrap ((1 : Int) + (m : Int)) = 1 + (m : Int) := IntWalk.i64_in _ (by omega)
    clear hm hmm
    have p0 := cell_of_block HX2.out 0
    have p1 := cell_of_block HX2.out 1
    have p2 := cell_of_block HX2.out 2
    have p3 := cell_of_block HX2.out 3
    have p4 := cell_of_block HX2.out 4
    have p5 := cell_of_block HX2.out 5
    go_wp2_with fail
    refine (HVA.out W2 HB2.out).mono ?_
    rintro e W3 ⟨rfl, hb⟩
    have HX3 := Lib.hid (heap_below HX2.out hb)
    have HB3 := Lib.hid (ext_trans HB2.out hb)
    clear p0 p1 p2 p3 p4 p5 hb HX2 HB2
    go_wp2
    refine bodyPost_ret (v := .tuple #[.int .i64 (1 + (m : Int)), .int .i64 0]) ?_ rfl ?_
    · simp [results, Try.results9, go_sem]
    · exact ⟨by rw [HA.out]; simp, HB3.out⟩

set_option maxRecDepth 100000 in
set_option maxHeartbeats 6400000 in
theorem refof14_any (c : NormC) (s : CSlots) (l f : Nat) (hM : MayC c) (hl : l ≤ 2 * varsN c + 1) (hf : f ≤ 256) (w : World) (h : SeesCir w s c) (hs : s.small) (hlo : -9223372036854775808 ≤ c.ins) (hhi : c.ins < 9223372036854775808) (hw : Wide c) :
    Calls Try.prog 36 #[cirV c.ins s, .int .u32 (l : Int), .int .i64 (f : Int)] w fun e w' => e = .returned (.int .i64 (litE (varsN c) l f)) ∧ Below w.heap.size w w' := by
  have HVA := Lib.hid (fun W (hb : Below w.heap.size w W) => refvars_any c s W (h.below hb) hs hlo hhi hw)
  rw [varsC_may (mayC_iff.2 hM)] at HVA
  have hfew := hM.few
  obtain ⟨V, hV⟩ : ∃ V, V = varsN c := ⟨_, rfl⟩
  rw [← hV] at HVA hfew hl ⊢
  clear h hs hlo hhi hw hM hV
  obtain ⟨a1, n1, c1, a2, n2, c2, a3, n3, c3, a4, n4, c4, a5, n5, c5⟩ := s
  obtain ⟨x, hx⟩ : ∃ x, x = c.ins := ⟨_, rfl⟩
  rw [← hx]
  rw [← hx] at HVA
  clear hx
  have hsm := spotE_lt (V := V) (v := l / 2) (f := f) hfew (by omega) hf
  have hz3 := absE_small (V := V) (x := l) (f := f) hfew hl hf
  have HT : Hid (litE V l f = if l % 2 = 1 then -(absE V l f) else absE V l f) := rfl
  have hab : absE V l f = if l / 2 = 0 then -1 else ((1 + f * V + l / 2 : Nat) : Int) := rfl
  obtain ⟨z, hz⟩ : ∃ z, z = absE V l f := ⟨_, rfl⟩
  rw [← hz] at HT hab hz3
  have N1 : IntKind.i64.wrap (-z) = -z := IntWalk.i64_in _ (by omega)
  obtain ⟨m, hm⟩ : ∃ m, m = f * V := ⟨_, rfl⟩
  rw [← hm] at hab hsm
  have W1m : IntKind.i64.wrap ((f : Int) * (V : Int)) = (m : Int) := by rw [show (f : Int) * (V : Int) = (m : Int) by rw [hm]; simp]; exact IntWalk.i64_in _ (by omega)
  have W2m : IntKind.i64.wrap ((1 : Int) + (m : Int)) = 1 + (m : Int) := IntWalk.i64_in _ (by omega)
  have Q1 : IntKind.u32.wrap ((l : Int) / 2) = ((l / 2 : Nat) : Int) := by rw [IntKind.wrap_u32]; omega
  have Q2 : (l : Int) / 2 = ((l / 2 : Nat) : Int) := by omega
  have Q3 : IntKind.i64.wrap ((l / 2 : Nat) : Int) = ((l / 2 : Nat) : Int) := IntWalk.i64_in _ (by omega)
  have Q4 : ((l / 2 : Nat) : Int) % 4294967296 = ((l / 2 : Nat) : Int) := by omega
  have R1 : IntKind.u32.wrap ((l : Int) % 2) = ((l % 2 : Nat) : Int) := by rw [IntKind.wrap_u32]; omega
  have R2 : (l : Int) % 2 = ((l % 2 : Nat) : Int) := by omega
  have W3m : IntKind.i64.wrap (1 + (m : Int) + ((l / 2 : Nat) : Int)) = ((1 + m + l / 2 : Nat) : Int) := by rw [show 1 + (m : Int) + ((l / 2 : Nat) : Int) = ((1 + m + l / 2 : Nat) : Int) by omega]; exact IntWalk.i64_in _ (by omega)
  have hdiv : l / 2 = 0 ↔ l < 2 := by omega
  have hmod : l % 2 = 0 ∨ l % 2 = 1 := by omega
  obtain ⟨r, hr⟩ : ∃ r, r = l % 2 := ⟨_, rfl⟩
  rw [← hr] at R1 R2 HT hmod
  obtain ⟨y, hy⟩ : ∃ y, y = l / 2 := ⟨_, rfl⟩
  rw [← hy] at Q1 Q2 Q3 Q4 W3m hab hdiv
  obtain ⟨k, hk⟩ : ∃ k, k = 1 + m + y := ⟨_, rfl⟩
  rw [← hk] at W3m hab
  clear hr hy hk hm hsm hz3 hl hf hfew hz
  unfold cirV at *
  by_cases l2 : l < 2
  · have d1 : decide ((l : Int) < 2) = true := by simp; omega
    have d2 : decide (l < 2) = true := by simp; omega
    have hzz : z = -1 := by rw [hab, if_pos (hdiv.2 l2)]
    subst hzz
    clear l2 hdiv hab
    rcases hmod with rfl | rfl
    · have HT2 : Hid (litE V l f = (-1 : Int)) := by show _ = _; rw [HT.out]; rfl
      clear HT
      go_enter Try.func36, Try.ntmps36
      go_upto_region 1 with fail
      generalize hW : World.alloc w _ = W1
      have hX : W1.heap[w.heap.size]? = some (.cells #[.int .i64 x, .slice a1 n1 c1, .slice a2 n2 c2, .slice a3 n3 c3, .slice a4 n4 c4, .slice a5 n5 c5] 26 (0, 0)) := by subst hW; exact heap_new _ _ _ rfl
      have hB : Below w.heap.size w W1 := by subst hW; exact ext_alloc _ _
      have HX1 := Lib.hid hX
      have HB1 := Lib.hid hB
      clear hW hX hB
      have p0 := cell_of_block HX1.out 0
      have p1 := cell_of_block HX1.out 1
      have p2 := cell_of_block HX1.out 2
      have p3 := cell_of_block HX1.out 3
      have p4 := cell_of_block HX1.out 4
      have p5 := cell_of_block HX1.out 5
      go_wp2_with fail
      refine (HVA.out W1 HB1.out).mono ?_
      rintro e W2 ⟨rfl, hb⟩
      have HX2 := Lib.hid (heap_below HX1.out hb)
      have HB2 := Lib.hid (ext_trans HB1.out hb)
      clear p0 p1 p2 p3 p4 p5 hb HX1 HB1
      go_wp2
      go_ret
      exact ⟨by rw [HT2.out]; first | rfl | simp, HB2.out⟩
    · have HT2 : Hid (litE V l f = -(-1 : Int)) := by show _ = _; rw [HT.out]; rfl
      clear HT
      go_enter Try.func36, Try.ntmps36
      go_upto_region 1 with fail
      generalize hW : World.alloc w _ = W1
      have hX : W1.heap[w.heap.size]? = some (.cells #[.int .i64 x, .slice a1 n1 c1, .slice a2 n2 c2, .slice a3 n3 c3, .slice a4 n4 c4, .slice a5 n5 c5] 26 (0, 0)) := by subst hW; exact heap_new _ _ _ rfl
      have hB : Below w.heap.size w W1 := by subst hW; exact ext_alloc _ _
      have HX1 := Lib.hid hX
      have HB1 := Lib.hid hB
      clear hW hX hB
      have p0 := cell_of_block HX1.out 0
      have p1 := cell_of_block HX1.out 1
      have p2 := cell_of_block HX1.out 2
      have p3 := cell_of_block HX1.out 3
      have p4 := cell_of_block HX1.out 4
      have p5 := cell_of_block HX1.out 5
      go_wp2_with fail
      refine (HVA.out W1 HB1.out).mono ?_
      rintro e W2 ⟨rfl, hb⟩
      have HX2 := Lib.hid (heap_below HX1.out hb)
      have HB2 := Lib.hid (ext_trans HB1.out hb)
      clear p0 p1 p2 p3 p4 p5 hb HX1 HB1
      go_wp2
      go_ret
      exact ⟨by rw [HT2.out]; first | rfl | simp, HB2.out⟩
  · have d1 : decide ((l : Int) < 2) = false := by simp; omega
    have d2 : decide (l < 2) = false := by simp; omega
    have hzz : z = (k : Int) := by rw [hab, if_neg (fun e => l2 (hdiv.1 e))]
    subst hzz
    clear l2 hdiv hab
    rcases hmod with rfl | rfl
    · have HT2 : Hid (litE V l f = (k : Int)) := by show _ = _; rw [HT.out]; rfl
      clear HT
      go_enter Try.func36, Try.ntmps36
      go_upto_region 1 with fail
      generalize hW : World.alloc w _ = W1
      have hX : W1.heap[w.heap.size]? = some (.cells #[.int .i64 x, .slice a1 n1 c1, .slice a2 n2 c2, .slice a3 n3 c3, .slice a4 n4 c4, .slice a5 n5 c5] 26 (0, 0)) := by subst hW; exact heap_new _ _ _ rfl
      have hB : Below w.heap.size w W1 := by subst hW; exact ext_alloc _ _
      have HX1 := Lib.hid hX
      have HB1 := Lib.hid hB
      clear hW hX hB
      have p0 := cell_of_block HX1.out 0
      have p1 := cell_of_block HX1.out 1
      have p2 := cell_of_block HX1.out 2
      have p3 := cell_of_block HX1.out 3
      have p4 := cell_of_block HX1.out 4
      have p5 := cell_of_block HX1.out 5
      go_wp2_with fail
      refine (HVA.out W1 HB1.out).mono ?_
      rintro e W2 ⟨rfl, hb⟩
      have HX2 := Lib.hid (heap_below HX1.out hb)
      have HB2 := Lib.hid (ext_trans HB1.out hb)
      clear p0 p1 p2 p3 p4 p5 hb HX1 HB1
      go_wp2
      go_ret
      exact ⟨by rw [HT2.out]; first | rfl | simp, HB2.out⟩
    · have HT2 : Hid (litE V l f = -(k : Int)) := by show _ = _; rw [HT.out]; rfl
      clear HT
      go_enter Try.func36, Try.ntmps36
      go_upto_region 1 with fail
      generalize hW : World.alloc w _ = W1
      have hX : W1.heap[w.heap.size]? = some (.cells #[.int .i64 x, .slice a1 n1 c1, .slice a2 n2 c2, .slice a3 n3 c3, .slice a4 n4 c4, .slice a5 n5 c5] 26 (0, 0)) := by subst hW; exact heap_new _ _ _ rfl
      have hB : Below w.heap.size w W1 := by subst hW; exact ext_alloc _ _
      have HX1 := Lib.hid hX
      have HB1 := Lib.hid hB
      clear hW hX hB
      have p0 := cell_of_block HX1.out 0
      have p1 := cell_of_block HX1.out 1
      have p2 := cell_of_block HX1.out 2
      have p3 := cell_of_block HX1.out 3
      have p4 := cell_of_block HX1.out 4
      have p5 := cell_of_block HX1.out 5
      go_wp2_with fail
      refine (HVA.out W1 HB1.out).mono ?_
      rintro e W2 ⟨rfl, hb⟩
      have HX2 := Lib.hid (heap_below HX1.out hb)
      have HB2 := Lib.hid (ext_trans HB1.out hb)
      clear p0 p1 p2 p3 p4 p5 hb HX1 HB1
      go_wp2
      go_ret
      exact ⟨by rw [HT2.out]; first | rfl | simp, HB2.out⟩

end Go.Proofs.Ytcoehbkjccfhlaa
