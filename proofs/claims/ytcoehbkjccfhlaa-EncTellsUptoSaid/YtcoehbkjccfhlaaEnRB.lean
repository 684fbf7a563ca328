/- inquestref14.Lit, many, by their contracts. -/
import Derived.Test.YtcoehbkjccfhlaaGEncT01
import Derived.Test.YtcoehbkjccfhlaaGEncT06
import Derived.Test.YtcoehbkjccfhlaaGEncT02
import Derived.Test.YtcoehbkjccfhlaaGEncT07
import Derived.Test.YtcoehbkjccfhlaaGEncT03
import Derived.Test.YtcoehbkjccfhlaaNRefMay3
import Derived.Test.YtcoehbkjccfhlaaGEncT10
import Derived.Test.YtcoehbkjccfhlaaEnVL
import Derived.Test.YtcoehbkjccfhlaaEnRA
import Derived.Test.YtcoehbkjccfhlaaRows
import Derived.BigQuiet
import Derived.Deep.AppendLies
import Derived.Deep.CutRange
import Derived.Deep.QuietTactic
import Derived.Deep.RegionHeld3
import Derived.Deep.RegionLaw
import Derived.Deep.RegionWith
import Derived.KernelRfl
import Derived.Laws.EntriesVeiled
import Derived.Laws.Tables
import Derived.Lib.ConvBytes
import Derived.Lib.Hide
import Derived.Lib.SlBytesRow
import Derived.Lib.SmallJoins
import Derived.Maps.AppendAt
import Derived.Shelf.Bytes.SlSmallAll
import Derived.WalkKit
import Derived.WalkLawsBesides
import Derived.WalkSpells
namespace Go.Proofs.Ytcoehbkjccfhlaa
open Go Go.RowKit Go.Joins

set_option maxRecDepth 100000 in
set_option maxHeartbeats 6400000 in
theorem reflit14_any (c : NormC) (s : CSlots) (l : Nat) (f : Int) (hl4 : l < 4294967296) (w : World) (h : SeesCir w s c) (hs : s.small) (hlo : -9223372036854775808 ≤ c.ins) (hhi : c.ins < 9223372036854775808) (hw : Wide c) :
    Calls Try.prog 11 #[cirV c.ins s, .int .u32 (l : Int), .int .i64 f] w fun e w' => e = .returned (.tuple #[.int .i64 (litA c l f).1, .int .i64 ((litA c l f).2 : Nat)]) ∧ Below w.heap.size w w' := by
  have HMAY := Lib.hid (fun W (hb : Below w.heap.size w W) => refmay3_any c s W (h.below hb) hs hlo hhi hw)
  have HVA := Lib.hid (fun W (hb : Below w.heap.size w W) => refvars_any c s W (h.below hb) hs hlo hhi hw)
  have HOF := Lib.hid (fun (hM : MayC c) (g : Nat) (hl : l ≤ 2 * varsN c + 1) (hf : g ≤ 256) W (hb : Below w.heap.size w W) => refof14_any c s l g hM hl hf W (h.below hb) hs hlo hhi hw)
  have YES : Hid (litOk14 c l f = true → litA c l f = (litE (varsN c) l f.toNat, 0)) := fun h => by unfold litA; rw [if_pos h]
  have NO : Hid (litOk14 c l f = false → litA c l f = (0, 2)) := fun h => by unfold litA; rw [if_neg (by rw [h]; simp)]
  have HOK : Hid (litOk14 c l f = ((decide (0 ≤ f) && decide (f < 256)) && (mayC c && decide (l / 2 ≤ varsN c)))) := rfl
  have HMM : Hid (mayC c = true → MayC c ∧ varsC c = varsN c) := fun h => ⟨mayC_iff.1 h, varsC_may h⟩
  obtain ⟨A, hA⟩ : ∃ A, A = litA c l f := ⟨_, rfl⟩
  rw [← hA]
  rw [← hA] at YES NO
  obtain ⟨o, ho⟩ : ∃ o, o = litOk14 c l f := ⟨_, rfl⟩
  rw [← ho] at YES NO HOK
  clear h hs hlo hhi hw hA ho
  obtain ⟨a1, n1, c1, a2, n2, c2, a3, n3, c3, a4, n4, c4, a5, n5, c5⟩ := s
  obtain ⟨x, hx⟩ : ∃ x, x = c.ins := ⟨_, rfl⟩
  rw [← hx]
  rw [← hx] at HMAY HVA HOF
  obtain ⟨q, hq⟩ : ∃ q, q = mayC c := ⟨_, rfl⟩
  rw [← hq] at HMAY HOK HMM
  obtain ⟨V, hV⟩ : ∃ V, V = varsN c := ⟨_, rfl⟩
  rw [← hV] at HOK HMM HOF YES
  obtain ⟨VC, hVC⟩ : ∃ V, V = varsC c := ⟨_, rfl⟩
  rw [← hVC] at HVA HMM
  clear hx hq hV hVC
  unfold cirV at *
  go_enter Try.func11, Try.ntmps11
  go_upto_region 1 with fail
  generalize hW : World.alloc w _ = W1
  have hX : W1.heap[w.heap.size]? = some (.cells #[.int .i64 x, .slice a1 n1 c1, .slice a2 n2 c2, .slice a3 n3 c3, .slice a4 n4 c4, .slice a5 n5 c5] 26 (0, 0)) := by subst hW; exact heap_new _ _ _ rfl
  have hB : Below w.heap.size w W1 := by subst hW; exact ext_alloc _ _
  have HX1 := Lib.hid hX
  have HB1 := Lib.hid hB
  clear hW hX hB
  have p0 := cell_of_block HX1.out 0
  have p1 := cell_of_block HX1.out 1
  have p2 := cell_of_block HX1.out 2
  have p3 := cell_of_block HX1.out 3
  have p4 := cell_of_block HX1.out 4
  have p5 := cell_of_block HX1.out 5
  go_wp2_with fail
  refine (HMAY.out W1 HB1.out).mono ?_
  rintro e W2 ⟨rfl, hb⟩
  have HX2 := Lib.hid (heap_below HX1.out hb)
  have HB2 := Lib.hid (ext_trans HB1.out hb)
  clear p0 p1 p2 p3 p4 p5 hb HX1 HB1
  cases q with
  | false =>
    have HA := Lib.hid (NO.out (by rw [HOK.out]; simp))
    clear YES NO HOK HMM HOF HVA HMAY
    go_wp2
    refine bodyPost_ret (v := .tuple #[.int .i64 0, .int .i64 2]) ?_ rfl ?_
    · simp [results, Try.results11, go_sem]
    · exact ⟨by rw [HA.out]; rfl, HB2.out⟩
  | true =>
    obtain ⟨hM, hvc⟩ := HMM.out rfl
    subst hvc
    by_cases f0 : f < 0
    · have e1 : decide (f < (0 : Int)) = true := by simpa using f0
      have HA := Lib.hid (NO.out (by rw [HOK.out]; simp; intro h; omega))
      clear YES NO HOK HMM HOF HVA HMAY f0 hM
      go_wp2
      refine bodyPost_ret (v := .tuple #[.int .i64 0, .int .i64 2]) ?_ rfl ?_
      · simp [results, Try.results11, go_sem]
      · exact ⟨by rw [HA.out]; rfl, HB2.out⟩
    have e1 : decide (f < (0 : Int)) = false := by simpa using f0
    by_cases f1 : 256 ≤ f
    · have e2 : decide ((256 : Int) ≤ f) = true := by simpa using f1
      have HA := Lib.hid (NO.out (by rw [HOK.out]; simp; intro _ h; omega))
      clear YES NO HOK HMM HOF HVA HMAY f0 f1 hM
      go_wp2
      refine bodyPost_ret (v := .tuple #[.int .i64 0, .int .i64 2]) ?_ rfl ?_
      · simp [results, Try.results11, go_sem]
      · exact ⟨by rw [HA.out]; rfl, HB2.out⟩
    obtain ⟨k, rfl⟩ := Int.eq_ofNat_of_zero_le (show 0 ≤ f by omega)
    have e2 : decide ((256 : Int) ≤ (k : Int)) = false := by simp; omega
    have e3 : decide (256 ≤ k) = false := by simp; omega
    have hk : k ≤ 256 := by omega
    have HO2 : Hid (o = decide (l / 2 ≤ VC)) := by show _ = _; rw [HOK.out]; simp; omega
    clear e1 f0 f1 HOK
    simp only [Int.toNat_natCast] at YES
    have e1 : decide ((k : Int) < 0) = false := by simp
    have Q1 : IntKind.u32.wrap ((l : Int) / 2) = ((l / 2 : Nat) : Int) := by rw [IntKind.wrap_u32]; omega
    have Q2 : (l : Int) / 2 = ((l / 2 : Nat) : Int) := by omega
    have Q3 : IntKind.i64.wrap ((l / 2 : Nat) : Int) = ((l / 2 : Nat) : Int) := IntWalk.i64_in _ (by omega)
    have Q4 : ((l / 2 : Nat) : Int) % 4294967296 = ((l / 2 : Nat) : Int) := by omega
    have hly : l ≤ 2 * (l / 2) + 1 := by omega
    obtain ⟨y, hy⟩ : ∃ y, y = l / 2 := ⟨_, rfl⟩
    rw [← hy] at Q1 Q2 Q3 Q4 HO2 hly
    clear hy
    have p0 := cell_of_block HX2.out 0
    have p1 := cell_of_block HX2.out 1
    have p2 := cell_of_block HX2.out 2
    have p3 := cell_of_block HX2.out 3
    have p4 := cell_of_block HX2.out 4
    have p5 := cell_of_block HX2.out 5
    go_wp2_with fail
    refine (HVA.out W2 HB2.out).mono ?_
    rintro e W3 ⟨rfl, hb⟩
    have HX3 := Lib.hid (heap_below HX2.out hb)
    have HB3 := Lib.hid (ext_trans HB2.out hb)
    clear p0 p1 p2 p3 p4 p5 hb HX2 HB2
    by_cases hv : VC < y
    · have d1 : decide ((VC : Int) < (y : Int)) = true := by simp; omega
      have d2 : decide (VC < y) = true := by simp; omega
      have HA := Lib.hid (NO.out (by rw [HO2.out]; simp; omega))
      clear YES NO HO2 HMM HOF HVA HMAY hv hly hM
      go_wp2
      refine bodyPost_ret (v := .tuple #[.int .i64 0, .int .i64 2]) ?_ rfl ?_
      · simp [results, Try.results11, go_sem]
      · exact ⟨by rw [HA.out]; rfl, HB3.out⟩
    · have d1 : decide ((VC : Int) < (y : Int)) = false := by simp; omega
      have d2 : decide (VC < y) = false := by simp; omega
      have HA := Lib.hid (YES.out (by rw [HO2.out]; simp; omega))
      have HL := Lib.hid (fun W hb => HOF.out hM k (by omega) hk W hb)
      obtain ⟨zz, hz⟩ : ∃ z, z = litE VC l k := ⟨_, rfl⟩
      rw [← hz] at HA
      simp only [← hz] at HL
      clear YES NO HO2 HMM HOF HVA HMAY hv hly hM hz
      have p0 := cell_of_block HX3.out 0
      have p1 := cell_of_block HX3.out 1
      have p2 := cell_of_block HX3.out 2
      have p3 := cell_of_block HX3.out 3
      have p4 := cell_of_block HX3.out 4
      have p5 := cell_of_block HX3.out 5
      go_wp2_with fail
      refine (HL.out W3 HB3.out).mono ?_
      rintro e W4 ⟨rfl, hb⟩
      have HX4 := Lib.hid (heap_below HX3.out hb)
      have HB4 := Lib.hid (ext_trans HB3.out hb)
      clear p0 p1 p2 p3 p4 p5 hb HX3 HB3
      go_wp2
      refine bodyPost_ret (v := .tuple #[.int .i64 zz, .int .i64 0]) ?_ rfl ?_
      · simp [results, Try.results11, go_sem]
      · exact ⟨by rw [HA.out]; rfl, HB4.out⟩

set_option maxRecDepth 100000 in
set_option maxHeartbeats 3200000 in
theorem refmany14_any (c : NormC) (s : CSlots) (nf : Nat) (w : World) (h : SeesCir w s c) (hs : s.small) (hM : MayC c) (hf : 1 ≤ nf ∧ nf ≤ 256) :
    Calls Try.prog 44 #[cirV c.ins s, .int .i64 (nf : Int)] w fun e w' => e = .returned (.int .i64 ((manyE c nf : Nat) : Int)) ∧ Below w.heap.size w w' := by
  have hfew := hM.few
  have hpos := hM.pos
  have hlat := hM.lats
  have hfix := fun k => fixedE_le c k
  have hsucc := fun k hk => fixedE_succ c k hk
  obtain ⟨V, hV⟩ : ∃ V, V = varsN c := ⟨_, rfl⟩
  obtain ⟨x, hx⟩ : ∃ x, x = c.ins := ⟨_, rfl⟩
  rw [← hV] at hfew
  rw [← hx] at hpos ⊢
  have HS1 := Lib.hid h.s1
  have l1 : c.lats.length = s.n1 := h.s1.1
  have l2 : c.gates.length = s.n2 := h.s2.1
  have hn : s.n1 ≤ 16384 ∧ s.n2 ≤ 16384 := by unfold varsN at hV; omega
  obtain ⟨a1, n1, c1, a2, n2, c2, a3, n3, c3, a4, n4, c4, a5, n5, c5⟩ := s
  simp only at HS1 l1 l2 hn
  obtain ⟨m1, hm1⟩ : ∃ m, m = 2 * n1 * (nf - 1) := ⟨_, rfl⟩
  obtain ⟨m2, hm2⟩ : ∃ m, m = 3 * n2 * nf := ⟨_, rfl⟩
  have k1 : m1 ≤ 8388608 := by
    rw [hm1]
    exact Nat.le_trans (Nat.mul_le_mul (show 2 * n1 ≤ 32768 by omega) (show nf - 1 ≤ 255 by omega)) (by omega)
  have k2 : m2 ≤ 12582912 := by
    rw [hm2]
    exact Nat.le_trans (Nat.mul_le_mul (show 3 * n2 ≤ 49152 by omega) (show nf ≤ 256 by omega)) (by omega)
  have hmany : manyE c nf = 1 + m1 + m2 + fixedE c n1 := by unfold manyE; rw [l1, l2, hm1, hm2]
  rw [hmany]
  have W1 : IntKind.i64.wrap ((3 : Int) * (nf : Int)) = 3 * (nf : Int) := IntWalk.i64_in _ (by omega)
  have W2 : IntKind.i64.wrap (3 * (nf : Int) * (n2 : Int)) = (m2 : Int) := by rw [show 3 * (nf : Int) * (n2 : Int) = (m2 : Int) by rw [hm2, show 3 * n2 * nf = 3 * nf * n2 from by rw [Nat.mul_assoc, Nat.mul_assoc, Nat.mul_comm n2 nf]]; simp]; exact IntWalk.i64_in _ (by omega)
  have W3 : IntKind.i64.wrap ((1 : Int) + (m2 : Int)) = 1 + (m2 : Int) := IntWalk.i64_in _ (by omega)
  have W4 : IntKind.i64.wrap ((nf : Int) - 1) = ((nf - 1 : Nat) : Int) := by rw [show (nf : Int) - 1 = ((nf - 1 : Nat) : Int) by omega]; exact IntWalk.i64_in _ (by omega)
  have W5 : IntKind.i64.wrap (2 * ((nf - 1 : Nat) : Int)) = 2 * ((nf - 1 : Nat) : Int) := IntWalk.i64_in _ (by omega)
  have W6 : IntKind.i64.wrap (2 * ((nf - 1 : Nat) : Int) * (n1 : Int)) = (m1 : Int) := by rw [show 2 * ((nf - 1 : Nat) : Int) * (n1 : Int) = (m1 : Int) by rw [hm1, show 2 * n1 * (nf - 1) = 2 * (nf - 1) * n1 from by rw [Nat.mul_assoc, Nat.mul_assoc, Nat.mul_comm n1]]; simp]; exact IntWalk.i64_in _ (by omega)
  have W7 : IntKind.i64.wrap (1 + (m2 : Int) + (m1 : Int)) = ((1 + m1 + m2 : Nat) : Int) := by rw [show 1 + (m2 : Int) + (m1 : Int) = ((1 + m1 + m2 : Nat) : Int) by omega]; exact IntWalk.i64_in _ (by omega)
  obtain ⟨T, hT⟩ : ∃ T, T = 1 + m1 + m2 := ⟨_, rfl⟩
  rw [← hT] at W7 ⊢
  have hTT : T ≤ 20971521 := by omega
  have HL1 := Lib.hid l1
  have HLT := Lib.hid hlat
  have HFX := Lib.hid hfix
  have HSU := Lib.hid hsucc
  clear hm1 hm2 k1 k2 hmany hT hV hx l1 l2 h hs hM hf hfew hpos hlat hfix hsucc
  unfold cirV
  go_enter Try.func44, Try.ntmps44
  go_wp2_with fail
  generalize hW : World.alloc w _ = W0
  have B1 : Below w.heap.size w W0 := by subst hW; exact ext_alloc _ _
  have hX : W0.heap[w.heap.size]? = some (.cells #[.int .i64 x, .slice a1 n1 c1, .slice a2 n2 c2, .slice a3 n3 c3, .slice a4 n4 c4, .slice a5 n5 c5] 26 (0, 0)) := by subst hW; exact heap_new _ _ _ rfl
  have HB0 := Lib.hid B1
  have p1 : W0.cell? ⟨w.heap.size, 1, none⟩ = some (.slice a1 n1 c1) := cell_of_block hX 1
  clear hW B1 hX
  go_wp2_with fail
  go_loop [6, 5] (fun i n => ∃ k : Nat, k ≤ n1 ∧ i = .int .i64 k ∧ n = .int .i64 ((T + fixedE c k : Nat) : Int)) (fun i _ => n1 - (intOf i).toNat)
  case atStart => exact ⟨0, Nat.zero_le _, rfl, by simp [fixedE]⟩
  case round =>
    obtain ⟨k, hk, rfl, rfl⟩ := hrel
    by_cases hlt : k < n1
    · obtain ⟨b, off, rfl, hbw⟩ := HS1.out.addr (by omega)
      have hcx := (HS1.out.below HB0.out).cells k hlt (0, 0)
      have hsu := HSU.out k (by rw [HL1.out]; exact hlt)
      have hfx := HFX.out k
      have hl3 := HLT.out (c.lats.getD k (0, 0)) (getD_mem (by rw [HL1.out]; exact hlt))
      rw [HL1.out] at hfx
      obtain ⟨p, hp⟩ : ∃ p, p = c.lats.getD k (0, 0) := ⟨_, rfl⟩
      rw [← hp] at hcx hsu hl3
      obtain ⟨p1, p2⟩ := p
      obtain ⟨hcx1, hcx2⟩ := hcx
      simp only at hcx1 hcx2 hl3 hsu
      unfold nv32 at hcx1
      unfold nv8 at hcx2
      obtain ⟨F, hF⟩ : ∃ F, F = fixedE c k := ⟨_, rfl⟩
      rw [← hF] at hsu hfx ⊢
      have W8 : IntKind.i64.wrap ((k : Int) + 1) = (k : Int) + 1 := IntWalk.i64_in _ (by omega)
      have W9 : IntKind.i64.wrap ((T : Int) + (F : Int) + 1) = ((T + (F + 1) : Nat) : Int) := by rw [show (T : Int) + (F : Int) + 1 = ((T + (F + 1) : Nat) : Int) by omega]; exact IntWalk.i64_in _ (by omega)
      have HSU2 := Lib.hid hsu
      have I1 : ((k : Nat) : Int) < (n1 : Int) := by omega
      have I2 : (0 : Int) ≤ (k : Int) := by omega
      clear hsu hp hF hfx hl3 hcx1
      by_cases e2 : p2 = 2
      · subst e2
        have HSU3 : Hid (fixedE c (k + 1) = F) := HSU2.out
        clear HSU2
        go_wp2
        go_round
        case rel => exact ⟨k + 1, by omega, by go_num, by rw [HSU3.out]⟩
        case measure => simp [intOf]; omega
      · have q1 : ((p2 : Int) == 2) = false := by simp; omega
        have q2 : ((p2 : Int) != 2) = true := by simp; omega
        have HSU3 : Hid (fixedE c (k + 1) = F + 1) := by show _ = _; rw [HSU2.out, if_neg e2]
        clear HSU2 e2
        go_wp2
        go_round
        case rel => exact ⟨k + 1, by omega, by go_num, by rw [HSU3.out]; simp⟩
        case measure => simp [intOf]; omega
    · obtain rfl : k = n1 := by omega
      go_wp2
      go_ret
      exact ⟨rfl, HB0.out⟩

end Go.Proofs.Ytcoehbkjccfhlaa
