/- inquestref14.Fails, by its contract. -/
import Derived.Test.YtcoehbkjccfhlaaGEncT00
import Derived.Test.YtcoehbkjccfhlaaGEncT12
import Derived.Test.YtcoehbkjccfhlaaGEncT01
import Derived.Test.YtcoehbkjccfhlaaGEncT06
import Derived.Test.YtcoehbkjccfhlaaGEncT03
import Derived.Test.YtcoehbkjccfhlaaGEncT02
import Derived.Test.YtcoehbkjccfhlaaGEncT07
import Derived.Test.YtcoehbkjccfhlaaGEncT05
import Derived.Test.YtcoehbkjccfhlaaEnLim
import Derived.Test.YtcoehbkjccfhlaaEnFa
import Derived.Test.YtcoehbkjccfhlaaEnRA
import Derived.Test.YtcoehbkjccfhlaaEnRB
import Derived.Test.YtcoehbkjccfhlaaRows
import Derived.BigQuiet
import Derived.Deep.AppendLies
import Derived.Deep.CutRange
import Derived.Deep.QuietTactic
import Derived.Deep.RegionHeld3
import Derived.Deep.RegionLaw
import Derived.Deep.RegionWith
import Derived.KernelRfl
import Derived.Laws.EntriesVeiled
import Derived.Laws.Tables
import Derived.Lib.ConvBytes
import Derived.Lib.Hide
import Derived.Lib.SlBytesRow
import Derived.Lib.SmallJoins
import Derived.Maps.AppendAt
import Derived.OrdersHeld
import Derived.Shelf.Bytes.SlSmallAll
import Derived.WalkKit
import Derived.WalkLawsBesides
import Derived.WalkSpells
namespace Go.Proofs.Ytcoehbkjccfhlaa
open Go Go.RowKit Go.Joins

set_option maxRecDepth 100000 in
set_option maxHeartbeats 6400000 in
theorem reffails14_any (c : NormC) (s : CSlots) (bad z : Int) (w : World) (h : SeesCir w s c) (hs : s.small) (hlo : -9223372036854775808 ≤ c.ins) (hhi : c.ins < 9223372036854775808) (hw : Wide c) :
    Calls Try.prog 18 #[cirV c.ins s, .int .i64 bad, .int .i64 z] w (FaE c bad z w) := by
  obtain ⟨i0, hi0, hz0, hz1, hz2⟩ := info_parts info_int
  have HSO := Lib.hid (fun W (hb : Below w.heap.size w W) => some14_any c s z W (h.below hb) hs hlo hhi hw)
  have HMN := Lib.hid (fun (ho : ofOk c z = true) W (hb : Below w.heap.size w W) => refmany14_any c s z.toNat W (h.below hb) hs (ofOk_iff ho).1 ⟨(ofOk_iff ho).2.1, (ofOk_iff ho).2.2.1⟩)
  have HOF := Lib.hid (fun (ho : ofOk c z = true) (l f : Nat) (hl : l ≤ 2 * varsN c + 1) (hf : f ≤ 256) W (hb : Below w.heap.size w W) => refof14_any c s l f (ofOk_iff ho).1 hl hf W (h.below hb) hs hlo hhi hw)
  have HOK := Lib.hid (fun (ho : ofOk c z = true) => ofOk_iff ho)
  have A1 : Hid (badOk c bad = true → ofOk c z = true → manyE c z.toNat ≤ 1048576 → faA c bad z = (mustE c bad.toNat z.toNat, 0)) := fun h0 h1 h2 => by unfold faA; rw [if_pos h0, if_pos h1, if_pos h2]
  have A2 : Hid (badOk c bad = true → ofOk c z = true → 1048576 < manyE c z.toNat → faA c bad z = ([], 3)) := fun h0 h1 h2 => by unfold faA; rw [if_pos h0, if_pos h1, if_neg (by omega)]
  have A3 : Hid (ofOk c z = false → faA c bad z = ([], 2)) := fun h1 => by unfold faA; by_cases e : badOk c bad = true; rw [if_pos e, if_neg (by rw [h1]; simp)]; rw [if_neg e]
  have A4 : Hid (badOk c bad = false → faA c bad z = ([], 2)) := fun h1 => by unfold faA; rw [if_neg (by rw [h1]; simp)]
  have HS4 := Lib.hid h.s4
  have HS5 := Lib.hid h.s5
  have l5 : c.cons.length = s.n5 := h.s5.lenMap
  have l4 : c.bads.length = s.n4 := h.s4.lenMap
  clear h hs hlo hhi hw
  obtain ⟨a1, n1, c1, a2, n2, c2, a3, n3, c3, a4, n4, c4, a5, n5, c5⟩ := s
  simp only at HS4 HS5 l4 l5
  have HBO : Hid (badOk c bad = (decide (0 ≤ bad) && decide (bad < (n4 : Int)))) := by show _ = _; unfold badOk; rw [l4]
  obtain ⟨A, hA⟩ : ∃ A, A = faA c bad z := ⟨_, rfl⟩
  unfold FaE
  rw [← hA]
  rw [← hA] at A1 A2 A3 A4
  obtain ⟨x, hx⟩ : ∃ x, x = c.ins := ⟨_, rfl⟩
  rw [← hx]
  rw [← hx] at HSO HMN HOF
  obtain ⟨o, ho⟩ : ∃ o, o = ofOk c z := ⟨_, rfl⟩
  rw [← ho] at HSO HMN HOF HOK A1 A2 A3
  obtain ⟨bo, hbo⟩ : ∃ o, o = badOk c bad := ⟨_, rfl⟩
  rw [← hbo] at A1 A2 A4 HBO
  clear hx ho hbo hA
  unfold cirV at *
  go_enter Try.func18, Try.ntmps18
  go_upto_region 1 with fail
  generalize hW : World.alloc w _ = W1
  have hX : W1.heap[w.heap.size]? = some (.cells #[.int .i64 x, .slice a1 n1 c1, .slice a2 n2 c2, .slice a3 n3 c3, .slice a4 n4 c4, .slice a5 n5 c5] 26 (0, 0)) := by subst hW; exact heap_new _ _ _ rfl
  have hB : Below w.heap.size w W1 := by subst hW; exact ext_alloc _ _
  have HX1 := Lib.hid hX
  have HB1 := Lib.hid hB
  clear hW hX hB
  have p0 := cell_of_block HX1.out 0
  have p1 := cell_of_block HX1.out 1
  have p2 := cell_of_block HX1.out 2
  have p3 := cell_of_block HX1.out 3
  have p4 := cell_of_block HX1.out 4
  have p5 := cell_of_block HX1.out 5
  go_wp2_with fail
  refine (HSO.out W1 HB1.out).mono ?_
  rintro e W2 ⟨rfl, hb⟩
  have HX2 := Lib.hid (heap_below HX1.out hb)
  have HB2 := Lib.hid (ext_trans HB1.out hb)
  clear p0 p1 p2 p3 p4 p5 hb HX1 HB1 HSO
  cases o with
  | false =>
    clear HMN HOF HOK A1 A2 A4
    have HA := Lib.hid (A3.out (by trivial))
    go_wp2
    refine bodyPost_ret (v := .tuple #[.slice none 0 0, .int .i64 2]) ?_ rfl ?_
    · simp [results, Try.results18, go_sem]
    · refine ⟨HB2.out, none, 0, 0, by rw [HA.out]; rfl, ?_⟩
      rw [HA.out]; exact Sees.nil _ _ _ (fun _ => rfl)
  | true =>
  by_cases b0 : bad < 0
  · have e1 : decide (bad < (0 : Int)) = true := by simpa using b0
    have HBF := Lib.hid (A4.out (by rw [HBO.out]; simp; omega))
    clear HMN HOF HOK A1 A2 A3 A4 HBO b0
    go_wp2
    refine bodyPost_ret (v := .tuple #[.slice none 0 0, .int .i64 2]) ?_ rfl ?_
    · simp [results, Try.results18, go_sem]
    · refine ⟨HB2.out, none, 0, 0, by rw [HBF.out]; rfl, ?_⟩
      rw [HBF.out]; exact Sees.nil _ _ _ (fun _ => rfl)
  have e1 : decide (bad < (0 : Int)) = false := by simpa using b0
  by_cases b1 : (n4 : Int) ≤ bad
  · have e2 : decide ((n4 : Int) ≤ bad) = true := by simpa using b1
    have HBF := Lib.hid (A4.out (by rw [HBO.out]; simp; omega))
    clear HMN HOF HOK A1 A2 A3 A4 HBO b0 b1
    have p0 := cell_of_block HX2.out 0
    have p1 := cell_of_block HX2.out 1
    have p2 := cell_of_block HX2.out 2
    have p3 := cell_of_block HX2.out 3
    have p4 := cell_of_block HX2.out 4
    have p5 := cell_of_block HX2.out 5
    go_wp2
    refine bodyPost_ret (v := .tuple #[.slice none 0 0, .int .i64 2]) ?_ rfl ?_
    · simp [results, Try.results18, go_sem]
    · refine ⟨HB2.out, none, 0, 0, by rw [HBF.out]; rfl, ?_⟩
      rw [HBF.out]; exact Sees.nil _ _ _ (fun _ => rfl)
  have e2 : decide ((n4 : Int) ≤ bad) = false := by simpa using b1
  have HBT : bo = true := by rw [HBO.out]; simp; omega
  obtain ⟨hM, hf1, hf2, hzz⟩ := HOK.out (by trivial)
  have HMN2 := Lib.hid (HMN.out (by trivial))
  have HOF2 := Lib.hid (HOF.out (by trivial))
  have A1b := Lib.hid (A1.out HBT (by trivial))
  have A2b := Lib.hid (A2.out HBT (by trivial))
  clear HMN HOF HOK A1 A2 A3 A4 HBO HBT
  obtain ⟨b, rfl⟩ := Int.eq_ofNat_of_zero_le (show 0 ≤ bad by omega)
  have hbn : b < n4 := by omega
  have hcons := hM.cons
  have hcl := hM.lens.2.2
  have hbads := hM.bads
  have hfew := hM.few
  obtain ⟨V, hV⟩ : ∃ V, V = varsN c := ⟨_, rfl⟩
  obtain ⟨nf, hnf⟩ : ∃ n, n = z.toNat := ⟨_, rfl⟩
  rw [← hnf] at hzz hf1 hf2 HMN2 A1b A2b
  rw [← hV] at hcons hbads HOF2 hfew
  subst hzz
  clear hnf
  have HMU : Hid (mustE c b nf = upE (consE c) nf ++ [litE V (c.bads.getD b 0) (nf - 1)]) := by rw [hV]; rfl
  have HCE : Hid (∀ f, consE c f = c.cons.map (fun x => litE V x f)) := fun f => by rw [hV]; rfl
  have hby : c.bads.getD b 0 ≤ 2 * V + 1 := hbads _ (getD_mem (by rw [l4]; exact hbn))
  obtain ⟨y, hy⟩ : ∃ y, y = c.bads.getD b 0 := ⟨_, rfl⟩
  rw [← hy] at HMU hby
  obtain ⟨b4, o4, rfl, hb4⟩ := HS4.out.addr (by omega)
  have hcy := HS4.out.num b hbn
  rw [← hy] at hcy
  have hn5 : n5 ≤ 1024 := by omega
  have HLN : Hid (∀ k, k ≤ nf → (upE (consE c) k).length ≤ 262144) := fun k hk => by
    have h1 := upE_len (consE c) 1024 k (fun i _ => by rw [HCE.out]; simp; omega)
    have h2 : k * 1024 ≤ 256 * 1024 := Nat.mul_le_mul_right _ (by omega)
    omega
  have HCO := Lib.hid hcons
  have HL5 := Lib.hid l5
  have HYY : Hid (y ≤ 2 * V + 1) := hby
  have HBY := Lib.hid hcy
  have HB4 : Hid (b4 < w.heap.size) := hb4
  obtain ⟨ff, hff⟩ : ∃ n, n = nf - 1 := ⟨_, rfl⟩
  rw [← hff] at HMU
  have WM : IntKind.i64.wrap ((nf : Int) - 1) = (ff : Int) := by rw [show (nf : Int) - 1 = (ff : Int) by omega]; exact IntWalk.i64_in _ (by omega)
  have hff2 : ff ≤ 256 := by omega
  obtain ⟨m, hm⟩ : ∃ n, n = manyE c nf := ⟨_, rfl⟩
  rw [← hm] at HMN2 A1b A2b
  clear hM hf1 hcl hbads hV hm l4 l5 hby hcons hff hcy hy hb4 b0 b1
  have p0 := cell_of_block HX2.out 0
  have p1 := cell_of_block HX2.out 1
  have p2 := cell_of_block HX2.out 2
  have p3 := cell_of_block HX2.out 3
  have p4 := cell_of_block HX2.out 4
  have p5 := cell_of_block HX2.out 5
  go_wp2_with fail
  refine (HMN2.out W2 HB2.out).mono ?_
  rintro e W3 ⟨rfl, hb⟩
  have HX3 := Lib.hid (heap_below HX2.out hb)
  have HB3 := Lib.hid (ext_trans HB2.out hb)
  clear p0 p1 p2 p3 p4 p5 hb HX2 HB2 HMN2 e1 e2
  by_cases hm : 1048576 < m
  · have e1 : decide ((1048576 : Int) < (m : Int)) = true := by simp; omega
    have e2 : decide (1048576 < m) = true := by simp; omega
    have HM := Lib.hid hm
    clear hm HOF2 A1b
    have HA := Lib.hid (A2b.out HM.out)
    go_wp2
    refine bodyPost_ret (v := .tuple #[.slice none 0 0, .int .i64 3]) ?_ rfl ?_
    · simp [results, Try.results18, go_sem]
    · refine ⟨HB3.out, none, 0, 0, by rw [HA.out]; rfl, ?_⟩
      rw [HA.out]; exact Sees.nil _ _ _ (fun _ => rfl)
  · have e1 : decide ((1048576 : Int) < (m : Int)) = false := by simp; omega
    have e2 : decide (1048576 < m) = false := by simp; omega
    have HA := Lib.hid (A1b.out (by omega))
    clear hm A1b A2b
    go_wp2_with fail
    clear e1 e2
    go_loopw [9, 8] (fun f v wr => ∃ k : Nat, k ≤ nf ∧ f = .int .i64 k ∧ Hid (Row isZ wr w.heap.size 3 v (upE (consE c) k).length (zvs (upE (consE c) k))) ∧ Hid (KeepT 3 W3 wr) ∧ Hid (Below w.heap.size w wr)) (fun f _ _ => nf - (intOf f).toNat)
    case atStart => exact ⟨0, Nat.zero_le _, rfl, by rw [upE_zero]; exact Row.nil _ _ _ _, KeepT.refl _ _, HB3.out⟩
    case round =>
      obtain ⟨k, hk, rfl, hR, hK, hB⟩ := hrel
      by_cases hlt : k < nf
      · have W8 : IntKind.i64.wrap ((k : Int) + 1) = (k : Int) + 1 := IntWalk.i64_in _ (by omega)
        have HLK : Hid ((upE (consE c) k).length ≤ 262144) := HLN.out k hk
        have HR := Lib.hid hR.out
        have HK := Lib.hid hK.out
        have HBw := Lib.hid hB.out
        clear hR hK hB
        obtain ⟨Lk, hLk⟩ : ∃ l, l = upE (consE c) k := ⟨_, rfl⟩
        rw [← hLk] at HR HLK
        have HLKE := Lib.hid hLk
        clear hLk
        have hk256 : k ≤ 256 := by omega
        have HNXT : Hid (upE (consE c) (k + 1) = Lk ++ (c.cons.take n5).map (fun x => litE V x k)) := by show _ = _; rw [upE_succ, ← HLKE.out, HCE.out, ← HL5.out, List.take_length]
        go_wp2_with fail
        go_loopw [10, 8] (fun j v wr => ∃ i : Nat, i ≤ n5 ∧ j = .int .i64 i ∧ Hid (Row isZ wr w.heap.size 3 v (Lk ++ (c.cons.take i).map (fun x => litE V x k)).length (zvs (Lk ++ (c.cons.take i).map (fun x => litE V x k)))) ∧ Hid (KeepT 3 W3 wr) ∧ Hid (Below w.heap.size w wr)) (fun j _ _ => n5 - (intOf j).toNat)
        case atStart => exact ⟨0, Nat.zero_le _, rfl, by show Row _ _ _ _ _ _ _; simpa using HR.out, HK.out, HBw.out⟩
        case round =>
          obtain ⟨i, hi, rfl, hR, hK, hB⟩ := hrel
          by_cases hlt2 : i < n5
          · obtain ⟨b5, o5, rfl, hb5⟩ := HS5.out.addr (by omega)
            have hcx0 := HS5.out.num i hlt2
            have hxx := HCO.out (c.cons.getD i 0) (getD_mem (by rw [HL5.out]; exact hlt2))
            have hsn := take_snocZ14 c.cons (fun x => litE V x k) i (by rw [HL5.out]; exact hlt2)
            obtain ⟨xx, hx⟩ : ∃ x, x = c.cons.getD i 0 := ⟨_, rfl⟩
            rw [← hx] at hcx0 hxx hsn
            have HC := Lib.hid (fun W hb => HOF2.out xx k hxx hk256 W hb)
            obtain ⟨zz, hz⟩ : ∃ z, z = litE V xx k := ⟨_, rfl⟩
            simp only [← hz] at HC hsn
            have hll : ((c.cons.take i).map (fun x => litE V x k)).length ≤ 1024 := by simp; omega
            obtain ⟨Li, hLi⟩ : ∃ l, l = Lk ++ (c.cons.take i).map (fun x => litE V x k) := ⟨_, rfl⟩
            have HLI3 : Hid (Li.length ≤ 300000) := by show _ ≤ _; rw [hLi, List.length_append]; have := HLK.out; omega
            rw [← hLi] at hR
            have HNI : Hid (Lk ++ (c.cons.take (i + 1)).map (fun x => litE V x k) = Li ++ [zz]) := by show _ = _; rw [hsn, hLi, List.append_assoc]
            have HCX := Lib.hid hcx0
            have HB5 : Hid (b5 < w.heap.size) := hb5
            have HR2 := Lib.hid hR.out
            have HK2 := Lib.hid hK.out
            have HB2 := Lib.hid hB.out
            have HXr := Lib.hid (hK.out.block _ _ _ _ HX3.out (by decide))
            have I1 : ((i : Nat) : Int) < (n5 : Int) := by omega
            have I2 : (0 : Int) ≤ (i : Int) := by omega
            clear hx hz hLi hll hsn hxx hR hK hB hb5 hcx0
            have W9 : IntKind.i64.wrap ((i : Int) + 1) = (i : Int) + 1 := IntWalk.i64_in _ (by omega)
            have q_0 : wr.cell? ⟨w.heap.size, 0, none⟩ = some (.int .i64 x) := cell_of_block HXr.out 0
            have q_1 : wr.cell? ⟨w.heap.size, 1, none⟩ = some (.slice a1 n1 c1) := cell_of_block HXr.out 1
            have q_2 : wr.cell? ⟨w.heap.size, 2, none⟩ = some (.slice a2 n2 c2) := cell_of_block HXr.out 2
            have q_3 : wr.cell? ⟨w.heap.size, 3, none⟩ = some (.slice a3 n3 c3) := cell_of_block HXr.out 3
            have q_4 : wr.cell? ⟨w.heap.size, 4, none⟩ = some (.slice (some ⟨b4, o4, none⟩) n4 c4) := cell_of_block HXr.out 4
            have q_5 : wr.cell? ⟨w.heap.size, 5, none⟩ = some (.slice (some ⟨b5, o5, none⟩) n5 c5) := cell_of_block HXr.out 5
            have q_6 : wr.cell? ⟨b5, o5 + i, none⟩ = some (.int .u32 (xx : Int)) := (HB2.out.cell HB5.out).trans HCX.out
            go_upto_region 12 with fail
            refine wp_region_noPanic ?_
            refine wp_region_held (S := fun w' => w'.cell? ⟨w.heap.size, 0, none⟩ = some (.int .i64 x) ∧ w'.cell? ⟨w.heap.size, 1, none⟩ = some (.slice a1 n1 c1) ∧ w'.cell? ⟨w.heap.size, 2, none⟩ = some (.slice a2 n2 c2) ∧ w'.cell? ⟨w.heap.size, 3, none⟩ = some (.slice a3 n3 c3) ∧ w'.cell? ⟨w.heap.size, 4, none⟩ = some (.slice (some ⟨b4, o4, none⟩) n4 c4) ∧ w'.cell? ⟨w.heap.size, 5, none⟩ = some (.slice (some ⟨b5, o5, none⟩) n5 c5) ∧ w'.cell? ⟨b5, o5 + i, none⟩ = some (.int .u32 (xx : Int))) (by kernel_rfl) ?_
            generalize hYY : ({ wr with drawn := wr.drawn + 1 } : World) = Y0
            have HY0 : Hid (Below wr.heap.size wr Y0) := by subst hYY; exact (Below.refl _ _).drew
            have HS0 : Hid (Y0.cell? ⟨w.heap.size, 0, none⟩ = some (.int .i64 x) ∧ Y0.cell? ⟨w.heap.size, 1, none⟩ = some (.slice a1 n1 c1) ∧ Y0.cell? ⟨w.heap.size, 2, none⟩ = some (.slice a2 n2 c2) ∧ Y0.cell? ⟨w.heap.size, 3, none⟩ = some (.slice a3 n3 c3) ∧ Y0.cell? ⟨w.heap.size, 4, none⟩ = some (.slice (some ⟨b4, o4, none⟩) n4 c4) ∧ Y0.cell? ⟨w.heap.size, 5, none⟩ = some (.slice (some ⟨b5, o5, none⟩) n5 c5) ∧ Y0.cell? ⟨b5, o5 + i, none⟩ = some (.int .u32 (xx : Int))) := ⟨cell_below q_0 HY0.out, cell_below q_1 HY0.out, cell_below q_2 HY0.out, cell_below q_3 HY0.out, cell_below q_4 HY0.out, cell_below q_5 HY0.out, cell_below q_6 HY0.out⟩
            clear hYY
            clear q_0 q_1 q_2 q_3 q_4 q_5 q_6
            refine wpAnyH_take (i := 0) (v := ?_) (by simp only [List.getElem?_toArray, List.getElem?_cons_zero]; rfl) (by kernel_rfl) (by kernel_rfl) (by kernel_rfl) (fun _ _ _ h => h) (Or.inl ⟨by rfl, ?_⟩) HS0.out ?_
            rotate_left
            · intro w hSw
              (try dsimp only at hSw)
              obtain ⟨q0_, q1_, q2_, q3_, q4_, q5_, q6_⟩ := hSw
              go_simp
              try with_reducible rfl
            try simp only [Act.put, List.setIfInBounds_toArray, List.set_cons_zero, List.set_cons_succ]
            refine wpAnyH_take (i := 1) (v := ?_) (by simp only [List.getElem?_toArray, List.getElem?_cons_zero, List.getElem?_cons_succ]; rfl) (by kernel_rfl) (by kernel_rfl) (by kernel_rfl) (fun _ _ _ h => h) (Or.inl ⟨by rfl, ?_⟩) HS0.out ?_
            rotate_left
            · intro w hSw
              (try dsimp only at hSw)
              obtain ⟨q0_, q1_, q2_, q3_, q4_, q5_, q6_⟩ := hSw
              go_simp
              try with_reducible rfl
            try simp only [Act.put, List.setIfInBounds_toArray, List.set_cons_zero, List.set_cons_succ]
            refine wpAnyH_take (i := 2) (v := ?_) (by simp only [List.getElem?_toArray, List.getElem?_cons_zero, List.getElem?_cons_succ]; rfl) (by kernel_rfl) (by kernel_rfl) (by kernel_rfl) (fun _ _ _ h => h) (Or.inl ⟨by rfl, ?_⟩) HS0.out ?_
            rotate_left
            · intro w hSw
              (try dsimp only at hSw)
              obtain ⟨q0_, q1_, q2_, q3_, q4_, q5_, q6_⟩ := hSw
              go_simp
              try with_reducible rfl
            try simp only [Act.put, List.setIfInBounds_toArray, List.set_cons_zero, List.set_cons_succ]
            refine wpAnyH_take (i := 3) (v := ?_) (by simp only [List.getElem?_toArray, List.getElem?_cons_zero, List.getElem?_cons_succ]; rfl) (by kernel_rfl) (by kernel_rfl) (by kernel_rfl) (fun _ _ _ h => h) (Or.inl ⟨by rfl, ?_⟩) HS0.out ?_
            rotate_left
            · intro w hSw
              (try dsimp only at hSw)
              obtain ⟨q0_, q1_, q2_, q3_, q4_, q5_, q6_⟩ := hSw
              go_simp
              try with_reducible rfl
            try simp only [Act.put, List.setIfInBounds_toArray, List.set_cons_zero, List.set_cons_succ]
            refine wpAnyH_take (i := 4) (v := ?_) (by simp only [List.getElem?_toArray, List.getElem?_cons_zero, List.getElem?_cons_succ]; rfl) (by kernel_rfl) (by kernel_rfl) (by kernel_rfl) (fun _ _ _ h => h) (Or.inl ⟨by rfl, ?_⟩) HS0.out ?_
            rotate_left
            · intro w hSw
              (try dsimp only at hSw)
              obtain ⟨q0_, q1_, q2_, q3_, q4_, q5_, q6_⟩ := hSw
              go_simp
              try with_reducible rfl
            try simp only [Act.put, List.setIfInBounds_toArray, List.set_cons_zero, List.set_cons_succ]
            refine wpAnyH_take (i := 5) (v := ?_) (by simp only [List.getElem?_toArray, List.getElem?_cons_zero, List.getElem?_cons_succ]; rfl) (by kernel_rfl) (by kernel_rfl) (by kernel_rfl) (fun _ _ _ h => h) (Or.inl ⟨by rfl, ?_⟩) HS0.out ?_
            rotate_left
            · intro w hSw
              (try dsimp only at hSw)
              obtain ⟨q0_, q1_, q2_, q3_, q4_, q5_, q6_⟩ := hSw
              go_simp
              try with_reducible rfl
            try simp only [Act.put, List.setIfInBounds_toArray, List.set_cons_zero, List.set_cons_succ]
            refine wpAnyH_take (i := 6) (v := ?_) (by simp only [List.getElem?_toArray, List.getElem?_cons_zero, List.getElem?_cons_succ]; rfl) (by kernel_rfl) (by kernel_rfl) (by kernel_rfl) (fun _ _ _ h => h) (Or.inl ⟨by rfl, ?_⟩) HS0.out ?_
            rotate_left
            · intro w hSw
              (try dsimp only at hSw)
              obtain ⟨q0_, q1_, q2_, q3_, q4_, q5_, q6_⟩ := hSw
              go_simp
              try with_reducible rfl
            try simp only [Act.put, List.setIfInBounds_toArray, List.set_cons_zero, List.set_cons_succ]
            refine wpAnyH_take (i := 7) (v := ?_) (by simp only [List.getElem?_toArray, List.getElem?_cons_zero, List.getElem?_cons_succ]; rfl) (by kernel_rfl) (by kernel_rfl) (by kernel_rfl) (fun _ _ _ h => h) (Or.inl ⟨by rfl, ?_⟩) HS0.out ?_
            rotate_left
            · intro w hSw
              (try dsimp only at hSw)
              obtain ⟨q0_, q1_, q2_, q3_, q4_, q5_, q6_⟩ := hSw
              go_simp
              try with_reducible rfl
            try simp only [Act.put, List.setIfInBounds_toArray, List.set_cons_zero, List.set_cons_succ]
            refine wpAnyH_ready (rs := [8]) (by kernel_rfl) (by simp) ?_
            refine AllReadyH.cons (by simp only [List.getElem?_toArray, List.getElem?_cons_zero, List.getElem?_cons_succ]; rfl) (fun K hK => ?_) AllReadyH.nil
            go_simp
            refine (HC.out _ (ext_trans HB2.out HY0.out)).mono ?_
            rintro e s1 ⟨rfl, bb⟩
            have HY1 := Lib.hid (ext_trans HY0.out bb)
            have HS1 : Hid (s1.cell? ⟨w.heap.size, 0, none⟩ = some (.int .i64 x) ∧ s1.cell? ⟨w.heap.size, 1, none⟩ = some (.slice a1 n1 c1) ∧ s1.cell? ⟨w.heap.size, 2, none⟩ = some (.slice a2 n2 c2) ∧ s1.cell? ⟨w.heap.size, 3, none⟩ = some (.slice a3 n3 c3) ∧ s1.cell? ⟨w.heap.size, 4, none⟩ = some (.slice (some ⟨b4, o4, none⟩) n4 c4) ∧ s1.cell? ⟨w.heap.size, 5, none⟩ = some (.slice (some ⟨b5, o5, none⟩) n5 c5) ∧ s1.cell? ⟨b5, o5 + i, none⟩ = some (.int .u32 (xx : Int))) := ⟨cell_below HS0.out.1 bb, cell_below HS0.out.2.1 bb, cell_below HS0.out.2.2.1 bb, cell_below HS0.out.2.2.2.1 bb, cell_below HS0.out.2.2.2.2.1 bb, cell_below HS0.out.2.2.2.2.2.1 bb, cell_below HS0.out.2.2.2.2.2.2 bb⟩
            refine hK.out _ _ HS1.out (fun _ => ?_)
            clear hK K
            try simp only [Act.put, List.setIfInBounds_toArray, List.set_cons_zero, List.set_cons_succ]
            clear bb
            refine wpAnyH_ready (rs := [9]) (by kernel_rfl) (by simp) ?_
            refine AllReadyH.cons (by simp only [List.getElem?_toArray, List.getElem?_cons_zero, List.getElem?_cons_succ]; rfl) (fun K hK => ?_) AllReadyH.nil
            go_simp
            generalize hYV : World.alloc s1 _ = s2
            have HSE : Hid (Sees s2 (some ⟨s1.heap.size, 0, none⟩) 1 1 (zvs [zz])) := by subst hYV; exact sees_oneI s1 zz
            have HY2 : Hid (Below wr.heap.size wr s2) := by subst hYV; exact ext_trans HY1.out (ext_alloc _ _)
            have HYV : Hid (Below s1.heap.size s1 s2) := by subst hYV; exact ext_alloc _ _
            clear hYV
            have HS2 : Hid (s2.cell? ⟨w.heap.size, 0, none⟩ = some (.int .i64 x) ∧ s2.cell? ⟨w.heap.size, 1, none⟩ = some (.slice a1 n1 c1) ∧ s2.cell? ⟨w.heap.size, 2, none⟩ = some (.slice a2 n2 c2) ∧ s2.cell? ⟨w.heap.size, 3, none⟩ = some (.slice a3 n3 c3) ∧ s2.cell? ⟨w.heap.size, 4, none⟩ = some (.slice (some ⟨b4, o4, none⟩) n4 c4) ∧ s2.cell? ⟨w.heap.size, 5, none⟩ = some (.slice (some ⟨b5, o5, none⟩) n5 c5) ∧ s2.cell? ⟨b5, o5 + i, none⟩ = some (.int .u32 (xx : Int))) := ⟨cell_below HS1.out.1 HYV.out, cell_below HS1.out.2.1 HYV.out, cell_below HS1.out.2.2.1 HYV.out, cell_below HS1.out.2.2.2.1 HYV.out, cell_below HS1.out.2.2.2.2.1 HYV.out, cell_below HS1.out.2.2.2.2.2.1 HYV.out, cell_below HS1.out.2.2.2.2.2.2 HYV.out⟩
            refine hK.out _ _ HS2.out (fun _ => ?_)
            clear hK K
            try simp only [Act.put, List.setIfInBounds_toArray, List.set_cons_zero, List.set_cons_succ]
            have HR3 := Lib.hid (HR2.out.below HY2.out)
            have HB3b := Lib.hid (ext_trans HB2.out HY2.out)
            have h9 := HLI3.out
            refine wpAnyH_ready (rs := [10]) (by kernel_rfl) (by simp) ?_
            refine AllReadyH.cons (by simp only [List.getElem?_toArray, List.getElem?_cons_zero, List.getElem?_cons_succ]; rfl) (fun K hK => ?_) AllReadyH.nil
            refine step_append_row isZ _ rfl _ _ 45 rfl w.heap.size 3 i0 (.int .i64 0) 8 Try.underlying45 hi0 hz0 hz1 hz2 rfl isZ_zero14 _ Li.length (zvs Li) (by rfl) HR3.out (some ⟨s1.heap.size, 0, none⟩) 1 1 (zvs [zz]) (by rfl) HSE.out (zvs_one1 zz) (isZ_zvs [zz]) (by unfold maxLen; omega) (by omega) HB3b.out.size ?_
            intro v' w6 hrow hg
            have HR4 : Hid (Row isZ w6 w.heap.size 3 v' (Lk ++ (c.cons.take (i + 1)).map (fun x => litE V x k)).length (zvs (Lk ++ (c.cons.take (i + 1)).map (fun x => litE V x k)))) := by show Row _ _ _ _ _ _ _; rw [HNI.out, List.length_append, zvs_append]; exact hrow
            have HK4 := Lib.hid (HK2.out.trans ((KeepT.below HY2.out).trans (KeepT.grown HR3.out hg)))
            have HB4w := Lib.hid (HB3b.out.grown hg HB3b.out.size (fun j hj => (HR3.out.own.lt j hj).1))
            have hx6 := HK4.out.block _ _ _ _ HX3.out (by decide)
            have HS3 : Hid (w6.cell? ⟨w.heap.size, 0, none⟩ = some (.int .i64 x) ∧ w6.cell? ⟨w.heap.size, 1, none⟩ = some (.slice a1 n1 c1) ∧ w6.cell? ⟨w.heap.size, 2, none⟩ = some (.slice a2 n2 c2) ∧ w6.cell? ⟨w.heap.size, 3, none⟩ = some (.slice a3 n3 c3) ∧ w6.cell? ⟨w.heap.size, 4, none⟩ = some (.slice (some ⟨b4, o4, none⟩) n4 c4) ∧ w6.cell? ⟨w.heap.size, 5, none⟩ = some (.slice (some ⟨b5, o5, none⟩) n5 c5) ∧ w6.cell? ⟨b5, o5 + i, none⟩ = some (.int .u32 (xx : Int))) := ⟨cell_of_block hx6 0, cell_of_block hx6 1, cell_of_block hx6 2, cell_of_block hx6 3, cell_of_block hx6 4, cell_of_block hx6 5, (HB4w.out.cell HB5.out).trans HCX.out⟩
            clear hrow hg h9 hx6
            refine hK.out _ _ HS3.out (fun _ => ?_)
            clear hK K
            try simp only [Act.put, List.setIfInBounds_toArray, List.set_cons_zero, List.set_cons_succ]
            refine wpAnyH_take (i := 11) (v := ?_) (by simp only [List.getElem?_toArray, List.getElem?_cons_zero, List.getElem?_cons_succ]; rfl) (by kernel_rfl) (by kernel_rfl) (by kernel_rfl) (fun _ _ _ h => h) (Or.inl ⟨by rfl, ?_⟩) HS3.out ?_
            rotate_left
            · intro w hSw
              (try dsimp only at hSw)
              obtain ⟨q0_, q1_, q2_, q3_, q4_, q5_, q6_⟩ := hSw
              go_simp
              try with_reducible rfl
            try simp only [Act.put, List.setIfInBounds_toArray, List.set_cons_zero, List.set_cons_succ]
            refine wpAnyH_done (by kernel_rfl) ?_ _
            refine NoPanic.normal ?_
            go_wp2
            go_roundw
            case rel => exact ⟨i + 1, by omega, by go_num, HR4.out, HK4.out, HB4w.out⟩
            case measure => simp [intOf]; omega
          · obtain rfl : i = n5 := by omega
            have hR3 := hR.out
            rw [← HNXT.out] at hR3
            have HR3 := Lib.hid hR3
            have HK3 := Lib.hid hK.out
            have HB3w := Lib.hid hB.out
            have p5 := cell_of_block (hK.out.block _ _ _ _ HX3.out (by decide)) 5
            clear hR hK hB hR3
            go_wp2
            go_roundw
            case rel => exact ⟨k + 1, by omega, by go_num, HR3.out, HK3.out, HB3w.out⟩
            case measure => simp [intOf]; omega
      · obtain rfl : nf = k := by omega
        have HR := Lib.hid hR.out
        have HK := Lib.hid hK.out
        have HBw := Lib.hid hB.out
        have HXr := Lib.hid (hK.out.block _ _ _ _ HX3.out (by decide))
        have HLK : Hid ((upE (consE c) nf).length ≤ 262144) := HLN.out nf (Nat.le_refl _)
        have HC := Lib.hid (fun W hb => HOF2.out y ff HYY.out hff2 W hb)
        obtain ⟨zz, hz⟩ : ∃ z, z = litE V y ff := ⟨_, rfl⟩
        simp only [← hz] at HC
        rw [← hz] at HMU
        clear hz hR hK hB
        obtain ⟨Lk, hLk⟩ : ∃ l, l = upE (consE c) nf := ⟨_, rfl⟩
        rw [← hLk] at HR HLK HMU
        have HNI := HMU
        clear hLk
        have I1 : (0 : Int) ≤ (b : Int) := by omega
        have I2 : (b : Int) < (n4 : Int) := by omega
        have q_0 : wr.cell? ⟨w.heap.size, 0, none⟩ = some (.int .i64 x) := cell_of_block HXr.out 0
        have q_1 : wr.cell? ⟨w.heap.size, 1, none⟩ = some (.slice a1 n1 c1) := cell_of_block HXr.out 1
        have q_2 : wr.cell? ⟨w.heap.size, 2, none⟩ = some (.slice a2 n2 c2) := cell_of_block HXr.out 2
        have q_3 : wr.cell? ⟨w.heap.size, 3, none⟩ = some (.slice a3 n3 c3) := cell_of_block HXr.out 3
        have q_4 : wr.cell? ⟨w.heap.size, 4, none⟩ = some (.slice (some ⟨b4, o4, none⟩) n4 c4) := cell_of_block HXr.out 4
        have q_5 : wr.cell? ⟨w.heap.size, 5, none⟩ = some (.slice a5 n5 c5) := cell_of_block HXr.out 5
        have q_6 : wr.cell? ⟨b4, o4 + b, none⟩ = some (.int .u32 (y : Int)) := (HBw.out.cell HB4.out).trans HBY.out
        go_upto_region 13 with fail
        refine wp_region_noPanic ?_
        refine wp_region_held (S := fun w' => w'.cell? ⟨w.heap.size, 0, none⟩ = some (.int .i64 x) ∧ w'.cell? ⟨w.heap.size, 1, none⟩ = some (.slice a1 n1 c1) ∧ w'.cell? ⟨w.heap.size, 2, none⟩ = some (.slice a2 n2 c2) ∧ w'.cell? ⟨w.heap.size, 3, none⟩ = some (.slice a3 n3 c3) ∧ w'.cell? ⟨w.heap.size, 4, none⟩ = some (.slice (some ⟨b4, o4, none⟩) n4 c4) ∧ w'.cell? ⟨w.heap.size, 5, none⟩ = some (.slice a5 n5 c5) ∧ w'.cell? ⟨b4, o4 + b, none⟩ = some (.int .u32 (y : Int))) (by kernel_rfl) ?_
        generalize hYY : ({ wr with drawn := wr.drawn + 1 } : World) = Y0
        have HY0 : Hid (Below wr.heap.size wr Y0) := by subst hYY; exact (Below.refl _ _).drew
        have HS0 : Hid (Y0.cell? ⟨w.heap.size, 0, none⟩ = some (.int .i64 x) ∧ Y0.cell? ⟨w.heap.size, 1, none⟩ = some (.slice a1 n1 c1) ∧ Y0.cell? ⟨w.heap.size, 2, none⟩ = some (.slice a2 n2 c2) ∧ Y0.cell? ⟨w.heap.size, 3, none⟩ = some (.slice a3 n3 c3) ∧ Y0.cell? ⟨w.heap.size, 4, none⟩ = some (.slice (some ⟨b4, o4, none⟩) n4 c4) ∧ Y0.cell? ⟨w.heap.size, 5, none⟩ = some (.slice a5 n5 c5) ∧ Y0.cell? ⟨b4, o4 + b, none⟩ = some (.int .u32 (y : Int))) := ⟨cell_below q_0 HY0.out, cell_below q_1 HY0.out, cell_below q_2 HY0.out, cell_below q_3 HY0.out, cell_below q_4 HY0.out, cell_below q_5 HY0.out, cell_below q_6 HY0.out⟩
        clear hYY
        clear q_0 q_1 q_2 q_3 q_4 q_5 q_6
        refine wpAnyH_take (i := 0) (v := ?_) (by simp only [List.getElem?_toArray, List.getElem?_cons_zero]; rfl) (by kernel_rfl) (by kernel_rfl) (by kernel_rfl) (fun _ _ _ h => h) (Or.inl ⟨by rfl, ?_⟩) HS0.out ?_
        rotate_left
        · intro w hSw
          (try dsimp only at hSw)
          obtain ⟨q0_, q1_, q2_, q3_, q4_, q5_, q6_⟩ := hSw
          go_simp
          try with_reducible rfl
        try simp only [Act.put, List.setIfInBounds_toArray, List.set_cons_zero, List.set_cons_succ]
        refine wpAnyH_take (i := 1) (v := ?_) (by simp only [List.getElem?_toArray, List.getElem?_cons_zero, List.getElem?_cons_succ]; rfl) (by kernel_rfl) (by kernel_rfl) (by kernel_rfl) (fun _ _ _ h => h) (Or.inl ⟨by rfl, ?_⟩) HS0.out ?_
        rotate_left
        · intro w hSw
          (try dsimp only at hSw)
          obtain ⟨q0_, q1_, q2_, q3_, q4_, q5_, q6_⟩ := hSw
          go_simp
          try with_reducible rfl
        try simp only [Act.put, List.setIfInBounds_toArray, List.set_cons_zero, List.set_cons_succ]
        refine wpAnyH_take (i := 2) (v := ?_) (by simp only [List.getElem?_toArray, List.getElem?_cons_zero, List.getElem?_cons_succ]; rfl) (by kernel_rfl) (by kernel_rfl) (by kernel_rfl) (fun _ _ _ h => h) (Or.inl ⟨by rfl, ?_⟩) HS0.out ?_
        rotate_left
        · intro w hSw
          (try dsimp only at hSw)
          obtain ⟨q0_, q1_, q2_, q3_, q4_, q5_, q6_⟩ := hSw
          go_simp
          try with_reducible rfl
        try simp only [Act.put, List.setIfInBounds_toArray, List.set_cons_zero, List.set_cons_succ]
        refine wpAnyH_take (i := 3) (v := ?_) (by simp only [List.getElem?_toArray, List.getElem?_cons_zero, List.getElem?_cons_succ]; rfl) (by kernel_rfl) (by kernel_rfl) (by kernel_rfl) (fun _ _ _ h => h) (Or.inl ⟨by rfl, ?_⟩) HS0.out ?_
        rotate_left
        · intro w hSw
          (try dsimp only at hSw)
          obtain ⟨q0_, q1_, q2_, q3_, q4_, q5_, q6_⟩ := hSw
          go_simp
          try with_reducible rfl
        try simp only [Act.put, List.setIfInBounds_toArray, List.set_cons_zero, List.set_cons_succ]
        refine wpAnyH_take (i := 4) (v := ?_) (by simp only [List.getElem?_toArray, List.getElem?_cons_zero, List.getElem?_cons_succ]; rfl) (by kernel_rfl) (by kernel_rfl) (by kernel_rfl) (fun _ _ _ h => h) (Or.inl ⟨by rfl, ?_⟩) HS0.out ?_
        rotate_left
        · intro w hSw
          (try dsimp only at hSw)
          obtain ⟨q0_, q1_, q2_, q3_, q4_, q5_, q6_⟩ := hSw
          go_simp
          try with_reducible rfl
        try simp only [Act.put, List.setIfInBounds_toArray, List.set_cons_zero, List.set_cons_succ]
        refine wpAnyH_take (i := 5) (v := ?_) (by simp only [List.getElem?_toArray, List.getElem?_cons_zero, List.getElem?_cons_succ]; rfl) (by kernel_rfl) (by kernel_rfl) (by kernel_rfl) (fun _ _ _ h => h) (Or.inl ⟨by rfl, ?_⟩) HS0.out ?_
        rotate_left
        · intro w hSw
          (try dsimp only at hSw)
          obtain ⟨q0_, q1_, q2_, q3_, q4_, q5_, q6_⟩ := hSw
          go_simp
          try with_reducible rfl
        try simp only [Act.put, List.setIfInBounds_toArray, List.set_cons_zero, List.set_cons_succ]
        refine wpAnyH_take (i := 6) (v := ?_) (by simp only [List.getElem?_toArray, List.getElem?_cons_zero, List.getElem?_cons_succ]; rfl) (by kernel_rfl) (by kernel_rfl) (by kernel_rfl) (fun _ _ _ h => h) (Or.inl ⟨by rfl, ?_⟩) HS0.out ?_
        rotate_left
        · intro w hSw
          (try dsimp only at hSw)
          obtain ⟨q0_, q1_, q2_, q3_, q4_, q5_, q6_⟩ := hSw
          go_simp
          try with_reducible rfl
        try simp only [Act.put, List.setIfInBounds_toArray, List.set_cons_zero, List.set_cons_succ]
        refine wpAnyH_take (i := 7) (v := ?_) (by simp only [List.getElem?_toArray, List.getElem?_cons_zero, List.getElem?_cons_succ]; rfl) (by kernel_rfl) (by kernel_rfl) (by kernel_rfl) (fun _ _ _ h => h) (Or.inl ⟨by rfl, ?_⟩) HS0.out ?_
        rotate_left
        · intro w hSw
          (try dsimp only at hSw)
          obtain ⟨q0_, q1_, q2_, q3_, q4_, q5_, q6_⟩ := hSw
          go_simp
          try with_reducible rfl
        try simp only [Act.put, List.setIfInBounds_toArray, List.set_cons_zero, List.set_cons_succ]
        refine wpAnyH_take (i := 8) (v := ?_) (by simp only [List.getElem?_toArray, List.getElem?_cons_zero, List.getElem?_cons_succ]; rfl) (by kernel_rfl) (by kernel_rfl) (by kernel_rfl) (fun _ _ _ h => h) (Or.inl ⟨by rfl, ?_⟩) HS0.out ?_
        rotate_left
        · intro w hSw
          (try dsimp only at hSw)
          obtain ⟨q0_, q1_, q2_, q3_, q4_, q5_, q6_⟩ := hSw
          go_simp
          try with_reducible rfl
        try simp only [Act.put, List.setIfInBounds_toArray, List.set_cons_zero, List.set_cons_succ]
        refine wpAnyH_ready (rs := [9]) (by kernel_rfl) (by simp) ?_
        refine AllReadyH.cons (by simp only [List.getElem?_toArray, List.getElem?_cons_zero, List.getElem?_cons_succ]; rfl) (fun K hK => ?_) AllReadyH.nil
        go_simp
        refine (HC.out _ (ext_trans HBw.out HY0.out)).mono ?_
        rintro e s1 ⟨rfl, bb⟩
        have HY1 := Lib.hid (ext_trans HY0.out bb)
        have HS1 : Hid (s1.cell? ⟨w.heap.size, 0, none⟩ = some (.int .i64 x) ∧ s1.cell? ⟨w.heap.size, 1, none⟩ = some (.slice a1 n1 c1) ∧ s1.cell? ⟨w.heap.size, 2, none⟩ = some (.slice a2 n2 c2) ∧ s1.cell? ⟨w.heap.size, 3, none⟩ = some (.slice a3 n3 c3) ∧ s1.cell? ⟨w.heap.size, 4, none⟩ = some (.slice (some ⟨b4, o4, none⟩) n4 c4) ∧ s1.cell? ⟨w.heap.size, 5, none⟩ = some (.slice a5 n5 c5) ∧ s1.cell? ⟨b4, o4 + b, none⟩ = some (.int .u32 (y : Int))) := ⟨cell_below HS0.out.1 bb, cell_below HS0.out.2.1 bb, cell_below HS0.out.2.2.1 bb, cell_below HS0.out.2.2.2.1 bb, cell_below HS0.out.2.2.2.2.1 bb, cell_below HS0.out.2.2.2.2.2.1 bb, cell_below HS0.out.2.2.2.2.2.2 bb⟩
        refine hK.out _ _ HS1.out (fun _ => ?_)
        clear hK K
        try simp only [Act.put, List.setIfInBounds_toArray, List.set_cons_zero, List.set_cons_succ]
        clear bb
        refine wpAnyH_ready (rs := [10]) (by kernel_rfl) (by simp) ?_
        refine AllReadyH.cons (by simp only [List.getElem?_toArray, List.getElem?_cons_zero, List.getElem?_cons_succ]; rfl) (fun K hK => ?_) AllReadyH.nil
        go_simp
        generalize hYV : World.alloc s1 _ = s2
        have HSE : Hid (Sees s2 (some ⟨s1.heap.size, 0, none⟩) 1 1 (zvs [zz])) := by subst hYV; exact sees_oneI s1 zz
        have HY2 : Hid (Below wr.heap.size wr s2) := by subst hYV; exact ext_trans HY1.out (ext_alloc _ _)
        have HYV : Hid (Below s1.heap.size s1 s2) := by subst hYV; exact ext_alloc _ _
        clear hYV
        have HS2 : Hid (s2.cell? ⟨w.heap.size, 0, none⟩ = some (.int .i64 x) ∧ s2.cell? ⟨w.heap.size, 1, none⟩ = some (.slice a1 n1 c1) ∧ s2.cell? ⟨w.heap.size, 2, none⟩ = some (.slice a2 n2 c2) ∧ s2.cell? ⟨w.heap.size, 3, none⟩ = some (.slice a3 n3 c3) ∧ s2.cell? ⟨w.heap.size, 4, none⟩ = some (.slice (some ⟨b4, o4, none⟩) n4 c4) ∧ s2.cell? ⟨w.heap.size, 5, none⟩ = some (.slice a5 n5 c5) ∧ s2.cell? ⟨b4, o4 + b, none⟩ = some (.int .u32 (y : Int))) := ⟨cell_below HS1.out.1 HYV.out, cell_below HS1.out.2.1 HYV.out, cell_below HS1.out.2.2.1 HYV.out, cell_below HS1.out.2.2.2.1 HYV.out, cell_below HS1.out.2.2.2.2.1 HYV.out, cell_below HS1.out.2.2.2.2.2.1 HYV.out, cell_below HS1.out.2.2.2.2.2.2 HYV.out⟩
        refine hK.out _ _ HS2.out (fun _ => ?_)
        clear hK K
        try simp only [Act.put, List.setIfInBounds_toArray, List.set_cons_zero, List.set_cons_succ]
        have HR3 := Lib.hid (HR.out.below HY2.out)
        have HB3b := Lib.hid (ext_trans HBw.out HY2.out)
        have h9 := HLK.out
        refine wpAnyH_ready (rs := [11]) (by kernel_rfl) (by simp) ?_
        refine AllReadyH.cons (by simp only [List.getElem?_toArray, List.getElem?_cons_zero, List.getElem?_cons_succ]; rfl) (fun K hK => ?_) AllReadyH.nil
        refine step_append_row isZ _ rfl _ _ 45 rfl w.heap.size 3 i0 (.int .i64 0) 8 Try.underlying45 hi0 hz0 hz1 hz2 rfl isZ_zero14 _ Lk.length (zvs Lk) (by rfl) HR3.out (some ⟨s1.heap.size, 0, none⟩) 1 1 (zvs [zz]) (by rfl) HSE.out (zvs_one1 zz) (isZ_zvs [zz]) (by unfold maxLen; omega) (by omega) HB3b.out.size ?_
        intro v' w6 hrow hg
        have HR4 : Hid (Row isZ w6 w.heap.size 3 v' (mustE c b nf).length (zvs (mustE c b nf))) := by show Row _ _ _ _ _ _ _; rw [HNI.out, List.length_append, zvs_append]; exact hrow
        have HK4 := Lib.hid (HK.out.trans ((KeepT.below HY2.out).trans (KeepT.grown HR3.out hg)))
        have HB4w := Lib.hid (HB3b.out.grown hg HB3b.out.size (fun j hj => (HR3.out.own.lt j hj).1))
        have hx6 := HK4.out.block _ _ _ _ HX3.out (by decide)
        have HS3 : Hid (w6.cell? ⟨w.heap.size, 0, none⟩ = some (.int .i64 x) ∧ w6.cell? ⟨w.heap.size, 1, none⟩ = some (.slice a1 n1 c1) ∧ w6.cell? ⟨w.heap.size, 2, none⟩ = some (.slice a2 n2 c2) ∧ w6.cell? ⟨w.heap.size, 3, none⟩ = some (.slice a3 n3 c3) ∧ w6.cell? ⟨w.heap.size, 4, none⟩ = some (.slice (some ⟨b4, o4, none⟩) n4 c4) ∧ w6.cell? ⟨w.heap.size, 5, none⟩ = some (.slice a5 n5 c5) ∧ w6.cell? ⟨b4, o4 + b, none⟩ = some (.int .u32 (y : Int))) := ⟨cell_of_block hx6 0, cell_of_block hx6 1, cell_of_block hx6 2, cell_of_block hx6 3, cell_of_block hx6 4, cell_of_block hx6 5, (HB4w.out.cell HB4.out).trans HBY.out⟩
        clear hrow hg h9 hx6
        refine hK.out _ _ HS3.out (fun _ => ?_)
        clear hK K
        try simp only [Act.put, List.setIfInBounds_toArray, List.set_cons_zero, List.set_cons_succ]
        refine wpAnyH_take (i := 12) (v := ?_) (by simp only [List.getElem?_toArray, List.getElem?_cons_zero, List.getElem?_cons_succ]; rfl) (by kernel_rfl) (by kernel_rfl) (by kernel_rfl) (fun _ _ _ h => h) (Or.inl ⟨by rfl, ?_⟩) HS3.out ?_
        rotate_left
        · intro w hSw
          (try dsimp only at hSw)
          obtain ⟨q0_, q1_, q2_, q3_, q4_, q5_, q6_⟩ := hSw
          go_simp
          try with_reducible rfl
        try simp only [Act.put, List.setIfInBounds_toArray, List.set_cons_zero, List.set_cons_succ]
        refine wpAnyH_take (i := 13) (v := ?_) (by simp only [List.getElem?_toArray, List.getElem?_cons_zero, List.getElem?_cons_succ]; rfl) (by kernel_rfl) (by kernel_rfl) (by kernel_rfl) (fun _ _ _ h => h) (Or.inl ⟨by rfl, ?_⟩) HS3.out ?_
        rotate_left
        · intro w hSw
          (try dsimp only at hSw)
          obtain ⟨q0_, q1_, q2_, q3_, q4_, q5_, q6_⟩ := hSw
          go_simp
          try with_reducible rfl
        try simp only [Act.put, List.setIfInBounds_toArray, List.set_cons_zero, List.set_cons_succ]
        refine wpAnyH_done (by kernel_rfl) ?_ _
        refine NoPanic.normal ?_
        obtain ⟨ra, rk, rfl⟩ := HR4.out.form
        go_wp2
        refine bodyPost_ret (v := .tuple #[.slice ra (mustE c b nf).length rk, .int .i64 0]) ?_ rfl ?_
        · simp [results, Try.results18, go_sem]
        · refine ⟨HB4w.out, ra, _, rk, by rw [HA.out]; rfl, ?_⟩
          rw [HA.out]
          exact (row_sees_slice HR4.out).2
end Go.Proofs.Ytcoehbkjccfhlaa
