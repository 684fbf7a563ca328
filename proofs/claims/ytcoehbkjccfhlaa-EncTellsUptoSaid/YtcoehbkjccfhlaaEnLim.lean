/- enc.many, limited, hasBad, Vars, Lit, by their contracts. -/
import Derived.Test.YtcoehbkjccfhlaaGEncT01
import Derived.Test.YtcoehbkjccfhlaaGEncT06
import Derived.Test.YtcoehbkjccfhlaaGEncT02
import Derived.Test.YtcoehbkjccfhlaaGEncT07
import Derived.Test.YtcoehbkjccfhlaaEnOf
import Derived.Test.YtcoehbkjccfhlaaRows
import Derived.BigQuiet
import Derived.Deep.AppendLies
import Derived.Deep.CutRange
import Derived.Deep.QuietTactic
import Derived.Deep.RegionHeld3
import Derived.Deep.RegionLaw
import Derived.Deep.RegionWith
import Derived.KernelRfl
import Derived.Laws.EntriesVeiled
import Derived.Laws.Tables
import Derived.Lib.ConvBytes
import Derived.Lib.Hide
import Derived.Lib.SlBytesRow
import Derived.Lib.SmallJoins
import Derived.Maps.AppendAt
import Derived.Shelf.Bytes.SlSmallAll
import Derived.WalkKit
import Derived.WalkLawsBesides
import Derived.WalkSpells
namespace Go.Proofs.Ytcoehbkjccfhlaa
open Go Go.RowKit Go.Joins

set_option maxRecDepth 100000 in
set_option maxHeartbeats 3200000 in
theorem many_any14 (c : NormC) (s : CSlots) (nf : Nat) (w : World) (h : SeesCir w s c) (hs : s.small) (hM : MayC c) (hf : 1 ≤ nf ∧ nf ≤ 256) :
    Calls Try.prog 38 #[uV c.ins s (varsN c) nf] w fun e w' => e = .returned (.int .i64 ((manyE c nf : Nat) : Int)) ∧ Below w.heap.size w w' := by
  have hfew := hM.few
  have hpos := hM.pos
  have hlat := hM.lats
  have hfix := fun k => fixedE_le c k
  have hsucc := fun k hk => fixedE_succ c k hk
  obtain ⟨V, hV⟩ : ∃ V, V = varsN c := ⟨_, rfl⟩
  obtain ⟨x, hx⟩ : ∃ x, x = c.ins := ⟨_, rfl⟩
  rw [← hV] at hfew ⊢
  rw [← hx] at hpos ⊢
  have HS1 := Lib.hid h.s1
  have l1 : c.lats.length = s.n1 := h.s1.1
  have l2 : c.gates.length = s.n2 := h.s2.1
  have hn : s.n1 ≤ 16384 ∧ s.n2 ≤ 16384 := by unfold varsN at hV; omega
  obtain ⟨a1, n1, c1, a2, n2, c2, a3, n3, c3, a4, n4, c4, a5, n5, c5⟩ := s
  simp only at HS1 l1 l2 hn
  obtain ⟨m1, hm1⟩ : ∃ m, m = 2 * n1 * (nf - 1) := ⟨_, rfl⟩
  obtain ⟨m2, hm2⟩ : ∃ m, m = 3 * n2 * nf := ⟨_, rfl⟩
  have k1 : m1 ≤ 8388608 := by
    rw [hm1]
    exact Nat.le_trans (Nat.mul_le_mul (show 2 * n1 ≤ 32768 by omega) (show nf - 1 ≤ 255 by omega)) (by omega)
  have k2 : m2 ≤ 12582912 := by
    rw [hm2]
    exact Nat.le_trans (Nat.mul_le_mul (show 3 * n2 ≤ 49152 by omega) (show nf ≤ 256 by omega)) (by omega)
  have hmany : manyE c nf = 1 + m1 + m2 + fixedE c n1 := by unfold manyE; rw [l1, l2, hm1, hm2]
  rw [hmany]
  have W1 : IntKind.i64.wrap ((2 : Int) * (n1 : Int)) = 2 * (n1 : Int) := IntWalk.i64_in _ (by omega)
  have W2 : IntKind.i64.wrap ((nf : Int) - 1) = ((nf - 1 : Nat) : Int) := by rw [show (nf : Int) - 1 = ((nf - 1 : Nat) : Int) by omega]; exact IntWalk.i64_in _ (by omega)
  have W3 : IntKind.i64.wrap (2 * (n1 : Int) * ((nf - 1 : Nat) : Int)) = (m1 : Int) := by rw [show 2 * (n1 : Int) * ((nf - 1 : Nat) : Int) = (m1 : Int) by rw [hm1]; simp]; exact IntWalk.i64_in _ (by omega)
  have W4 : IntKind.i64.wrap ((1 : Int) + (m1 : Int)) = 1 + (m1 : Int) := IntWalk.i64_in _ (by omega)
  have W5 : IntKind.i64.wrap ((3 : Int) * (n2 : Int)) = 3 * (n2 : Int) := IntWalk.i64_in _ (by omega)
  have W6 : IntKind.i64.wrap (3 * (n2 : Int) * (nf : Int)) = (m2 : Int) := by rw [show 3 * (n2 : Int) * (nf : Int) = (m2 : Int) by rw [hm2]; simp]; exact IntWalk.i64_in _ (by omega)
  have W7 : IntKind.i64.wrap (1 + (m1 : Int) + (m2 : Int)) = ((1 + m1 + m2 : Nat) : Int) := by rw [show 1 + (m1 : Int) + (m2 : Int) = ((1 + m1 + m2 : Nat) : Int) by omega]; exact IntWalk.i64_in _ (by omega)
  obtain ⟨T, hT⟩ : ∃ T, T = 1 + m1 + m2 := ⟨_, rfl⟩
  rw [← hT] at W7 ⊢
  have hTT : T ≤ 20971521 := by omega
  have HL1 := Lib.hid l1
  have HLT := Lib.hid hlat
  have HFX := Lib.hid hfix
  have HSU := Lib.hid hsucc
  clear hm1 hm2 k1 k2 hmany hT hV hx l1 l2 h hs hM hf hfew hpos hlat hfix hsucc
  unfold uV
  go_enter Try.func38, Try.ntmps38
  go_wp2_with fail
  generalize hW : World.alloc w _ = W0
  have B1 : Below w.heap.size w W0 := by subst hW; exact ext_alloc _ _
  have HB0 := Lib.hid B1
  clear hW B1
  go_loopw [29, 3] (fun i n wr => ∃ k : Nat, k ≤ n1 ∧ i = .int .i64 k ∧ n = .int .i64 ((T + fixedE c k : Nat) : Int) ∧ Hid (Below w.heap.size w wr)) (fun i _ _ => n1 - (intOf i).toNat)
  case atStart => exact ⟨0, Nat.zero_le _, rfl, by simp [fixedE], HB0.out⟩
  case round =>
    obtain ⟨k, hk, rfl, rfl, hB⟩ := hrel
    by_cases hlt : k < n1
    · obtain ⟨b, off, rfl, hbw⟩ := HS1.out.addr (by omega)
      have hcx := (HS1.out.below hB.out).cells k hlt (0, 0)
      have hsu := HSU.out k (by rw [HL1.out]; exact hlt)
      have hfx := HFX.out k
      have hl3 := HLT.out (c.lats.getD k (0, 0)) (getD_mem (by rw [HL1.out]; exact hlt))
      rw [HL1.out] at hfx
      obtain ⟨p, hp⟩ : ∃ p, p = c.lats.getD k (0, 0) := ⟨_, rfl⟩
      rw [← hp] at hcx hsu hl3
      obtain ⟨p1, p2⟩ := p
      obtain ⟨hcx1, hcx2⟩ := hcx
      simp only at hcx1 hcx2 hl3 hsu
      unfold nv32 at hcx1
      unfold nv8 at hcx2
      obtain ⟨F, hF⟩ : ∃ F, F = fixedE c k := ⟨_, rfl⟩
      rw [← hF] at hsu hfx ⊢
      have W8 : IntKind.i64.wrap ((k : Int) + 1) = (k : Int) + 1 := IntWalk.i64_in _ (by omega)
      have W9 : IntKind.i64.wrap ((T : Int) + (F : Int) + 1) = ((T + (F + 1) : Nat) : Int) := by rw [show (T : Int) + (F : Int) + 1 = ((T + (F + 1) : Nat) : Int) by omega]; exact IntWalk.i64_in _ (by omega)
      have HSU2 := Lib.hid hsu
      have HB := Lib.hid hB.out
      clear hsu hp hF hB hfx hl3
      by_cases e2 : p2 = 2
      · subst e2
        have HSU3 : Hid (fixedE c (k + 1) = F) := HSU2.out
        clear HSU2
        go_wp2
        go_roundw
        case rel => exact ⟨k + 1, by omega, by go_num, by rw [HSU3.out], ext_trans HB.out (ext_alloc _ _)⟩
        case measure => simp [intOf]; omega
      · have q1 : ((p2 : Int) == 2) = false := by simp; omega
        have q2 : ((p2 : Int) != 2) = true := by simp; omega
        have HSU3 : Hid (fixedE c (k + 1) = F + 1) := by show _ = _; rw [HSU2.out, if_neg e2]
        clear HSU2 e2
        go_wp2
        go_roundw
        case rel => exact ⟨k + 1, by omega, by go_num, by rw [HSU3.out]; simp, ext_trans HB.out (ext_alloc _ _)⟩
        case measure => simp [intOf]; omega
    · obtain rfl : k = n1 := by omega
      go_wp2
      go_ret
      exact ⟨rfl, hB.out⟩

/-- What 'limited' answers. -/
def LimE (c : NormC) (s : CSlots) (z : Int) (w : World) (e : Ending) (w' : World) : Prop :=
  Below w.heap.size w w' ∧ ((ofOk c z = true ∧ manyE c z.toNat ≤ 1048576 ∧ e = .returned (.tuple #[uV c.ins s (varsN c) z.toNat, .int .i64 0])) ∨ (ofOk c z = true ∧ 1048576 < manyE c z.toNat ∧ e = .returned (.tuple #[uZ, .int .i64 3])) ∨ (ofOk c z = false ∧ e = .returned (.tuple #[uZ, .int .i64 2])))
theorem ofOk_iff {c : NormC} {z : Int} (h : ofOk c z = true) : MayC c ∧ 1 ≤ z.toNat ∧ z.toNat ≤ 256 ∧ z = (z.toNat : Int) := by
  unfold ofOk framesOk at h
  simp only [Bool.and_eq_true, decide_eq_true_eq] at h
  exact ⟨mayC_iff.1 h.2, by omega, by omega, by omega⟩

set_option maxRecDepth 100000 in
set_option maxHeartbeats 3200000 in
theorem limited_any (c : NormC) (s : CSlots) (z : Int) (w : World) (h : SeesCir w s c) (hs : s.small) (hlo : -9223372036854775808 ≤ c.ins) (hhi : c.ins < 9223372036854775808) :
    Calls Try.prog 37 #[cirV c.ins s, .int .i64 z] w (LimE c s z w) := by
  have HOF := Lib.hid (fun W (hb : Below w.heap.size w W) => enof_any c s z W (h.below hb) hs hlo hhi)
  have HMN := Lib.hid (fun (ho : ofOk c z = true) W (hb : Below w.heap.size w W) => many_any14 c s z.toNat W (h.below hb) hs (ofOk_iff ho).1 ⟨(ofOk_iff ho).2.1, (ofOk_iff ho).2.2.1⟩)
  clear h hs hlo hhi
  obtain ⟨a1, n1, c1, a2, n2, c2, a3, n3, c3, a4, n4, c4, a5, n5, c5⟩ := s
  obtain ⟨x, hx⟩ : ∃ x, x = c.ins := ⟨_, rfl⟩
  obtain ⟨o, ho⟩ : ∃ o, o = ofOk c z := ⟨_, rfl⟩
  obtain ⟨V, hV⟩ : ∃ V, V = varsN c := ⟨_, rfl⟩
  obtain ⟨nf, hnf⟩ : ∃ n, n = z.toNat := ⟨_, rfl⟩
  obtain ⟨m, hm⟩ : ∃ n, n = manyE c nf := ⟨_, rfl⟩
  unfold LimE
  unfold OfE at HOF
  rw [← hnf, ← hx, ← ho, ← hV, ← hm]
  rw [← hx, ← ho, ← hV, ← hnf] at HOF
  rw [← hx, ← ho, ← hV, ← hnf, ← hm] at HMN
  clear hx ho hV hnf hm
  unfold cirV at *
  unfold uV at *
  go_enter Try.func37, Try.ntmps37
  go_upto_region 1 with fail
  generalize hW : World.alloc (World.alloc w _) _ = W2
  have hR : W2.heap[w.heap.size + 1]? = some (.cells #[.int .i64 0, .slice none 0 0, .slice none 0 0, .slice none 0 0, .slice none 0 0, .slice none 0 0, .int .i64 0, .int .i64 0] 67 (0, 0)) := by subst hW; exact heap_new _ _ _ (by simp)
  have hX : W2.heap[w.heap.size]? = some (.cells #[.int .i64 x, .slice a1 n1 c1, .slice a2 n2 c2, .slice a3 n3 c3, .slice a4 n4 c4, .slice a5 n5 c5] 26 (0, 0)) := by subst hW; exact heap_below (heap_new _ _ _ rfl) (ext_alloc _ _)
  have hB : Below w.heap.size w W2 := by subst hW; exact ext_trans (ext_alloc _ _) (ext_alloc _ _)
  have HR := Lib.hid hR
  have HX := Lib.hid hX
  have HB := Lib.hid hB
  clear hW hR hX hB
  have p0 := cell_of_block HX.out 0
  have p1 := cell_of_block HX.out 1
  have p2 := cell_of_block HX.out 2
  have p3 := cell_of_block HX.out 3
  have p4 := cell_of_block HX.out 4
  have p5 := cell_of_block HX.out 5
  go_wp2_with fail
  refine (HOF.out W2 HB.out).mono ?_
  rintro e W3 ⟨hb, hcase⟩
  have HR3 := Lib.hid (heap_below HR.out hb)
  have HB3 := Lib.hid (ext_trans HB.out hb)
  clear p0 p1 p2 p3 p4 p5 hb HX HR HB HOF
  rcases hcase with ⟨rfl, rfl⟩ | ⟨rfl, rfl⟩
  · have HMN2 := Lib.hid (HMN.out rfl)
    clear HMN
    go_upto_region 2 with fail
    generalize hW : World.alloc W3 _ = W4
    have hU : W4.heap[W3.heap.size]? = some (.cells #[.int .i64 x, .slice a1 n1 c1, .slice a2 n2 c2, .slice a3 n3 c3, .slice a4 n4 c4, .slice a5 n5 c5, .int .i64 (V : Int), .int .i64 (nf : Int)] 67 (0, 0)) := by subst hW; exact heap_new _ _ _ rfl
    have hR : W4.heap[w.heap.size + 1]? = some (.cells #[.int .i64 0, .slice none 0 0, .slice none 0 0, .slice none 0 0, .slice none 0 0, .slice none 0 0, .int .i64 0, .int .i64 0] 67 (0, 0)) := by subst hW; exact heap_below HR3.out (ext_alloc _ _)
    have hB : Below w.heap.size w W4 := by subst hW; exact ext_trans HB3.out (ext_alloc _ _)
    have HU := Lib.hid hU
    have HR := Lib.hid hR
    have HB := Lib.hid hB
    clear hW hU hR hB HR3 HB3
    have p0 := cell_of_block HU.out 0
    have p1 := cell_of_block HU.out 1
    have p2 := cell_of_block HU.out 2
    have p3 := cell_of_block HU.out 3
    have p4 := cell_of_block HU.out 4
    have p5 := cell_of_block HU.out 5
    have p6 := cell_of_block HU.out 6
    have p7 := cell_of_block HU.out 7
    go_wp2_with fail
    refine (HMN2.out W4 HB.out).mono ?_
    rintro e W5 ⟨rfl, hb⟩
    have HU5 := Lib.hid (heap_below HU.out hb)
    have HR5 := Lib.hid (heap_below HR.out hb)
    have HB5 := Lib.hid (ext_trans HB.out hb)
    clear p0 p1 p2 p3 p4 p5 p6 p7 hb HU HR HB HMN2
    have p0 := cell_of_block HU5.out 0
    have p1 := cell_of_block HU5.out 1
    have p2 := cell_of_block HU5.out 2
    have p3 := cell_of_block HU5.out 3
    have p4 := cell_of_block HU5.out 4
    have p5 := cell_of_block HU5.out 5
    have p6 := cell_of_block HU5.out 6
    have p7 := cell_of_block HU5.out 7
    have r0 := cell_of_block HR5.out 0
    have r1 := cell_of_block HR5.out 1
    have r2 := cell_of_block HR5.out 2
    have r3 := cell_of_block HR5.out 3
    have r4 := cell_of_block HR5.out 4
    have r5 := cell_of_block HR5.out 5
    have r6 := cell_of_block HR5.out 6
    have r7 := cell_of_block HR5.out 7
    have y0 := unfrozen_of_block HR5.out 0
    have y1 := unfrozen_of_block HR5.out 1
    have y2 := unfrozen_of_block HR5.out 2
    have y3 := unfrozen_of_block HR5.out 3
    have y4 := unfrozen_of_block HR5.out 4
    have y5 := unfrozen_of_block HR5.out 5
    have y6 := unfrozen_of_block HR5.out 6
    have y7 := unfrozen_of_block HR5.out 7
    by_cases hm : 1048576 < m
    · have e1 : decide ((1048576 : Int) < (m : Int)) = true := by simp; omega
      have e2 : decide (1048576 < m) = true := by simp; omega
      have HM := Lib.hid hm
      clear hm
      go_wp2
      refine bodyPost_ret (v := .tuple #[uZ, .int .i64 3]) ?_ rfl ?_
      · have h6 := u_set HR5.out rfl (.int .i64 0) (.slice none 0 0) (.slice none 0 0) (.slice none 0 0) (.slice none 0 0) (.slice none 0 0) (.int .i64 0) (.int .i64 0)
        have g0 := cell_of_block h6 0
        have g1 := cell_of_block h6 1
        have g2 := cell_of_block h6 2
        have g3 := cell_of_block h6 3
        have g4 := cell_of_block h6 4
        have g5 := cell_of_block h6 5
        have g6 := cell_of_block h6 6
        have g7 := cell_of_block h6 7
        simp [results, Try.results37, go_sem, g0, g1, g2, g3, g4, g5, g6, g7]
        rfl
      · exact ⟨by with_reducible exact set8 (w.heap.size + 1) (Nat.le_succ _) HB5.out, (by first | exact rfl | exact ⟨by have := HM.out; omega, rfl⟩ | exact Or.inl ⟨by have := HM.out; omega, rfl⟩ | exact Or.inr ⟨by have := HM.out; omega, rfl⟩ | exact Or.inr (Or.inl ⟨by have := HM.out; omega, rfl⟩) | exact Or.inr rfl)⟩
    · have e1 : decide ((1048576 : Int) < (m : Int)) = false := by simp; omega
      have e2 : decide (1048576 < m) = false := by simp; omega
      have HM := Lib.hid hm
      clear hm
      go_wp2
      refine bodyPost_ret (v := .tuple #[uV x ⟨a1, n1, c1, a2, n2, c2, a3, n3, c3, a4, n4, c4, a5, n5, c5⟩ V nf, .int .i64 0]) ?_ rfl ?_
      · have h6 := u_set HR5.out rfl (.int .i64 x) (.slice a1 n1 c1) (.slice a2 n2 c2) (.slice a3 n3 c3) (.slice a4 n4 c4) (.slice a5 n5 c5) (.int .i64 (V : Int)) (.int .i64 (nf : Int))
        have g0 := cell_of_block h6 0
        have g1 := cell_of_block h6 1
        have g2 := cell_of_block h6 2
        have g3 := cell_of_block h6 3
        have g4 := cell_of_block h6 4
        have g5 := cell_of_block h6 5
        have g6 := cell_of_block h6 6
        have g7 := cell_of_block h6 7
        simp [results, Try.results37, go_sem, g0, g1, g2, g3, g4, g5, g6, g7]
        rfl
      · exact ⟨by with_reducible exact set8 (w.heap.size + 1) (Nat.le_succ _) HB5.out, (by first | exact rfl | exact ⟨by have := HM.out; omega, rfl⟩ | exact Or.inl ⟨by have := HM.out; omega, rfl⟩ | exact Or.inr ⟨by have := HM.out; omega, rfl⟩ | exact Or.inr (Or.inl ⟨by have := HM.out; omega, rfl⟩) | exact Or.inr rfl)⟩
  · unfold uZ
    go_upto_region 2 with fail
    generalize hW : World.alloc W3 _ = W4
    have hU : W4.heap[W3.heap.size]? = some (.cells #[.int .i64 0, .slice none 0 0, .slice none 0 0, .slice none 0 0, .slice none 0 0, .slice none 0 0, .int .i64 0, .int .i64 0] 67 (0, 0)) := by subst hW; exact heap_new _ _ _ rfl
    have hR : W4.heap[w.heap.size + 1]? = some (.cells #[.int .i64 0, .slice none 0 0, .slice none 0 0, .slice none 0 0, .slice none 0 0, .slice none 0 0, .int .i64 0, .int .i64 0] 67 (0, 0)) := by subst hW; exact heap_below HR3.out (ext_alloc _ _)
    have hB : Below w.heap.size w W4 := by subst hW; exact ext_trans HB3.out (ext_alloc _ _)
    have HU5 := Lib.hid hU
    have HR5 := Lib.hid hR
    have HB5 := Lib.hid hB
    clear hW hU hR hB HR3 HB3 HMN
    have p0 := cell_of_block HU5.out 0
    have p1 := cell_of_block HU5.out 1
    have p2 := cell_of_block HU5.out 2
    have p3 := cell_of_block HU5.out 3
    have p4 := cell_of_block HU5.out 4
    have p5 := cell_of_block HU5.out 5
    have p6 := cell_of_block HU5.out 6
    have p7 := cell_of_block HU5.out 7
    have r0 := cell_of_block HR5.out 0
    have r1 := cell_of_block HR5.out 1
    have r2 := cell_of_block HR5.out 2
    have r3 := cell_of_block HR5.out 3
    have r4 := cell_of_block HR5.out 4
    have r5 := cell_of_block HR5.out 5
    have r6 := cell_of_block HR5.out 6
    have r7 := cell_of_block HR5.out 7
    have y0 := unfrozen_of_block HR5.out 0
    have y1 := unfrozen_of_block HR5.out 1
    have y2 := unfrozen_of_block HR5.out 2
    have y3 := unfrozen_of_block HR5.out 3
    have y4 := unfrozen_of_block HR5.out 4
    have y5 := unfrozen_of_block HR5.out 5
    have y6 := unfrozen_of_block HR5.out 6
    have y7 := unfrozen_of_block HR5.out 7
    go_wp2
    refine bodyPost_ret (v := .tuple #[uZ, .int .i64 2]) ?_ rfl ?_
    · have h6 := u_set HR5.out rfl (.int .i64 0) (.slice none 0 0) (.slice none 0 0) (.slice none 0 0) (.slice none 0 0) (.slice none 0 0) (.int .i64 0) (.int .i64 0)
      have g0 := cell_of_block h6 0
      have g1 := cell_of_block h6 1
      have g2 := cell_of_block h6 2
      have g3 := cell_of_block h6 3
      have g4 := cell_of_block h6 4
      have g5 := cell_of_block h6 5
      have g6 := cell_of_block h6 6
      have g7 := cell_of_block h6 7
      simp [results, Try.results37, go_sem, g0, g1, g2, g3, g4, g5, g6, g7]
      rfl
    · exact ⟨by with_reducible exact set8 (w.heap.size + 1) (Nat.le_succ _) HB5.out, (by first | exact rfl | exact Or.inr rfl | exact Or.inr (Or.inr ⟨rfl, rfl⟩))⟩

set_option maxRecDepth 100000 in
theorem hasBad_any (c : NormC) (s : CSlots) (bad : Int) (w : World) (h4 : c.bads.length = s.n4) :
    Calls Try.prog 43 #[cirV c.ins s, .int .i64 bad] w fun e w' => e = .returned (.bool (decide (0 ≤ bad) && decide (bad < (c.bads.length : Int)))) ∧ Below w.heap.size w w' := by
  rw [h4]
  obtain ⟨a1, n1, c1, a2, n2, c2, a3, n3, c3, a4, n4, c4, a5, n5, c5⟩ := s
  clear h4
  unfold cirV
  by_cases hb : 0 ≤ bad
  · have e1 : decide ((0 : Int) ≤ bad) = true := by simpa using hb
    clear hb
    rw [e1]
    go_enter Try.func43, Try.ntmps43
    go_wp2
    go_ret
    exact ⟨rfl, ext_alloc _ _⟩
  · have e1 : decide ((0 : Int) ≤ bad) = false := by simpa using hb
    clear hb
    rw [e1]
    go_enter Try.func43, Try.ntmps43
    go_wp2
    go_ret
    exact ⟨rfl, ext_alloc _ _⟩
end Go.Proofs.Ytcoehbkjccfhlaa
