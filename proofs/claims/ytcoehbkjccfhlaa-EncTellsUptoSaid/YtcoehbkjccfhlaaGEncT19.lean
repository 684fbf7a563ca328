/- inquestref14.Trace's memory; inquestref14.value, by its contract. -/
import Derived.Test.YtcoehbkjccfhlaaGEncT00
import Derived.Test.YtcoehbkjccfhlaaGEncT12
import Derived.Test.YtcoehbkjccfhlaaGEncT01
import Derived.Test.YtcoehbkjccfhlaaGEncT06
import Derived.Test.YtcoehbkjccfhlaaGEncT03
import Derived.Test.YtcoehbkjccfhlaaGEncT02
import Derived.Test.YtcoehbkjccfhlaaGEncT07
import Derived.Test.YtcoehbkjccfhlaaGEncT14
import Derived.Test.YtcoehbkjccfhlaaGEncT05
import Derived.Test.YtcoehbkjccfhlaaNRefFits
import Derived.Test.YtcoehbkjccfhlaaEnFa
import Derived.Test.YtcoehbkjccfhlaaEnTell
import Derived.Test.YtcoehbkjccfhlaaEnGv
import Derived.Test.YtcoehbkjccfhlaaGEncT18
import Derived.Test.YtcoehbkjccfhlaaRows
import Derived.BigQuiet
import Derived.Deep.AppendLies
import Derived.Deep.CutRange
import Derived.Deep.QuietTactic
import Derived.Deep.RegionHeld3
import Derived.Deep.RegionLaw
import Derived.Deep.RegionWith
import Derived.KernelRfl
import Derived.Laws.EntriesVeiled
import Derived.Laws.Tables
import Derived.Lib.AppendStr
import Derived.Lib.AppendZeros
import Derived.Lib.ConvBytes
import Derived.Lib.Hide
import Derived.Lib.SlBytesRow
import Derived.Lib.SmallJoins
import Derived.Maps.AppendAt
import Derived.OrdersHeld
import Derived.Shelf.Bytes.SlSmallAll
import Derived.WalkKit
import Derived.WalkLawsBesides
import Derived.WalkSpells
import Derived.Test.YtcoehbkjccfhlaaGEncT10
import Derived.Test.YtcoehbkjccfhlaaGEncT08
import Derived.Test.YtcoehbkjccfhlaaGEncT13
import Derived.Laws.Bits64b
import Derived.Laws.BitsAllLaws
import Derived.Laws.BitsLemmas
import Derived.LoopIn
import Derived.LoopNIn
import Derived.OrdersIn
import Derived.OwnWalkIn
import Derived.RangeFuncBox
import Derived.RangeFuncCalls
import Derived.RangeFuncLeaves
import Derived.RangeFuncNested
import Derived.RangeFuncWrites
import Derived.Shelf.Abstract
import Derived.Shelf.RegionOpen
import Derived.Sort.CutIn
import Derived.Stop.RegionWithIn
import Derived.TacticsInMore
/- inquestref14.Given, by its contract. -/
namespace Go.Proofs.Ytcoehbkjccfhlaa
open Go Go.RowKit Go.Joins

set_option maxRecDepth 100000 in
set_option maxHeartbeats 12800000 in
theorem refgiven14_any (c : NormC) (t : TraceC) (s : CSlots) (st : TSlots) (w : World) (h : SeesCir w s c) (ht : SeesTr w st t) (hs : s.small) (hst : st.small) (hlo : -9223372036854775808 ≤ c.ins) (hhi : c.ins < 9223372036854775808) (hb1 : -9223372036854775808 ≤ t.bad ∧ t.bad < 9223372036854775808) (hw : Wide c) :
    Calls Try.prog 20 #[cirV c.ins s, traceV t.bad st] w (GvE c t w) := by
  obtain ⟨i0, hi0, hz0, hz1, hz2⟩ := info_parts info_int
  have HFT := Lib.hid (fun W (hb : Below w.heap.size w W) => reffits_any c t s st W (h.below hb) (ht.below hb) hs hst hlo hhi hb1 hw)
  have HBI := Lib.hid (fun (hM : MayC c) (v f val : Nat) (h1 : 1 ≤ v) (h2 : v ≤ varsN c) (h3 : val ≤ 1) (h4 : f ≤ 256) W (hb : Below w.heap.size w W) => bit14_any c s v f val hM h1 h2 h3 h4 W (h.below hb) hs hlo hhi hw)
  have HFI : Hid (fitsS c t = true → FitsC c t) := fun h => fits_iff.1 h
  have A1 : Hid (fitsS c t = true → gvA c t = (givE c t, 0)) := fun h => by unfold gvA; rw [if_pos h]
  have A2 : Hid (fitsS c t = false → gvA c t = ([], 2)) := fun h => by unfold gvA; rw [if_neg (by rw [h]; simp)]
  have HS1 := Lib.hid h.s1
  have HT1 := Lib.hid ht.s1
  have HT2 := Lib.hid ht.s2
  have l1 : c.lats.length = s.n1 := h.s1.1
  have l2 : c.gates.length = s.n2 := h.s2.1
  have k1 : t.init.length = st.n1 := ht.s1.lenMap
  have k2 : t.frames.length = st.n2 := ht.s2.n_eq
  have HSM := Lib.hid hst
  clear h ht hs hst hlo hhi hb1 hw
  obtain ⟨a1, n1, c1, a2, n2, c2, a3, n3, c3, a4, n4, c4, a5, n5, c5⟩ := s
  obtain ⟨b1, m1, d1, b2, m2, d2, ss⟩ := st
  simp only at HS1 HT1 HT2 l1 l2 k1 k2
  obtain ⟨A, hA⟩ : ∃ A, A = gvA c t := ⟨_, rfl⟩
  unfold GvE
  rw [← hA]
  rw [← hA] at A1 A2
  obtain ⟨q, hq⟩ : ∃ q, q = fitsS c t := ⟨_, rfl⟩
  rw [← hq] at HFT HFI A1 A2
  obtain ⟨x, hx⟩ : ∃ x, x = c.ins := ⟨_, rfl⟩
  obtain ⟨tb, htb⟩ : ∃ x, x = t.bad := ⟨_, rfl⟩
  rw [← hx, ← htb]
  rw [← hx, ← htb] at HFT
  rw [← hx] at HBI
  have HX0 := Lib.hid hx
  clear hA hq hx htb
  unfold cirV traceV at *
  go_enter Try.func20, Try.ntmps20
  go_upto_region 1 with fail
  generalize hW : World.alloc (World.alloc w _) _ = W1
  have hX : W1.heap[w.heap.size]? = some (.cells #[.int .i64 x, .slice a1 n1 c1, .slice a2 n2 c2, .slice a3 n3 c3, .slice a4 n4 c4, .slice a5 n5 c5] 26 (0, 0)) := by subst hW; exact heap_below (heap_new _ _ _ rfl) (ext_alloc _ _)
  have hT : W1.heap[w.heap.size + 1]? = some (.cells #[.int .i64 tb, .slice b1 m1 d1, .slice b2 m2 d2] 30 (0, 0)) := by subst hW; exact heap_new _ _ _ (by simp)
  have hB : Below w.heap.size w W1 := by subst hW; exact ext_trans (ext_alloc _ _) (ext_alloc _ _)
  have HX := Lib.hid hX
  have HT := Lib.hid hT
  have HB := Lib.hid hB
  clear hW hX hT hB
  have p0 := cell_of_block HX.out 0
  have p1 := cell_of_block HX.out 1
  have p2 := cell_of_block HX.out 2
  have p3 := cell_of_block HX.out 3
  have p4 := cell_of_block HX.out 4
  have p5 := cell_of_block HX.out 5
  have r0 := cell_of_block HT.out 0
  have r1 := cell_of_block HT.out 1
  have r2 := cell_of_block HT.out 2
  go_wp2_with fail
  refine (HFT.out W1 HB.out).mono ?_
  rintro e W2 ⟨rfl, hb⟩
  have HX2 := Lib.hid (heap_below HX.out hb)
  have HT2b := Lib.hid (heap_below HT.out hb)
  have HB2 := Lib.hid (ext_trans HB.out hb)
  clear p0 p1 p2 p3 p4 p5 r0 r1 r2 hb HX HT HB HFT
  cases q with
  | false =>
    have HA := Lib.hid (A2.out (by trivial))
    clear HBI HFI A1 A2
    go_wp2
    refine bodyPost_ret (v := .tuple #[.slice none 0 0, .int .i64 2]) ?_ rfl ?_
    · simp [results, Try.results20, go_sem]
    · refine ⟨HB2.out, none, 0, 0, by rw [HA.out]; rfl, ?_⟩
      rw [HA.out]; exact Sees.nil _ _ _ (fun _ => rfl)
  | true =>
    have HA := Lib.hid (A1.out (by trivial))
    have HF := Lib.hid (HFI.out (by trivial))
    clear A1 A2 HFI
    have hfit := HF.out
    obtain ⟨ii, hii⟩ := Int.eq_ofNat_of_zero_le hfit.may.pos
    have hiv : x = (ii : Int) := HX0.out.trans hii
    subst hiv
    have hin : c.ins.toNat = ii := by rw [hii]; rfl
    have hm22 : m2 ≤ 256 := by rw [← k2]; exact hfit.few
    have hmn : m1 = n1 := by rw [← k1, hfit.init, l1]
    subst hmn
    replace HBI := Lib.hid (HBI.out hfit.may)
    obtain ⟨V, hV⟩ : ∃ V, V = varsN c := ⟨_, rfl⟩
    rw [← hV] at HBI
    have hV1 : ii + m1 ≤ V := by rw [hV]; unfold varsN; rw [hin, l1]; omega
    have hV2 : V ≤ 16384 := by rw [hV]; exact hfit.may.few
    have HGL : Hid (∀ i, latG c t i = if (c.lats.getD i (0, 0)).2 = 2 then tellE V (1 + ii + i) 0 (t.init.getD i 0).toNat else []) := fun i => by unfold latG firstLatE; rw [hin, ← hV]
    have HGI : Hid (∀ f i, inG c t f i = tellE V (1 + i) f ((t.frames.getD f []).getD i 0).toNat) := fun f i => by unfold inG; rw [← hV]
    have HGV : Hid (givE c t = upE (latG c t) m1 ++ upE (fun f => upE (inG c t f) ii) m2) := by show _ = _; unfold givE; rw [l1, hin, k2]
    have HLEN : Hid (∀ k m f, k ≤ m2 → m ≤ ii → (upE (latG c t) m1 ++ upE (fun f => upE (inG c t f) ii) k ++ upE (inG c t f) m).length ≤ 5000000) := fun k m f hk hm => by have := givE_len hfit k m (by rw [k2]; exact hk) (by rw [hin]; exact hm) f; rw [l1, hin] at this; exact this
    have HLE1 : Hid (∀ k, k ≤ m1 → (upE (latG c t) k).length ≤ 20000) := fun k hk => by have := upE_len (latG c t) 1 k (fun i _ => latG_len c t i); omega
    have HIN : Hid (∀ i, i < m1 → (t.init.getD i 0).toNat ≤ 2) := fun i hi => hfit.inits _ (getD_mem (by rw [k1]; exact hi))
    have HFR : Hid (∀ k, k < m2 → (t.frames.getD k []).length = ii ∧ ∀ i, i < ii → ((t.frames.getD k []).getD i 0).toNat ≤ 2) := fun k hk => by
      have h1 := hfit.frames k (by rw [k2]; exact hk)
      have h2 : (t.frames.getD k []).length = ii := by rw [hii] at h1; omega
      exact ⟨h2, fun i hi => hfit.values _ (getD_mem (by rw [k2]; exact hk)) _ (getD_mem (by rw [h2]; exact hi))⟩
    have HL1 := Lib.hid l1
    have HK1 := Lib.hid k1
    have HK2 := Lib.hid k2
    clear hfit hii hin hV l1 l2 k1 k2 HX0 HF
    have r1 := cell_of_block HT2b.out 1
    go_wp2_with fail
    clear r1
    go_loopw [7, 6] (fun ix v wr => ∃ k : Nat, k ≤ m1 ∧ ix = .int .i64 k ∧ Hid (Row isZ wr w.heap.size 3 v (upE (latG c t) k).length (zvs (upE (latG c t) k))) ∧ Hid (KeepT 3 W2 wr) ∧ Hid (Below w.heap.size w wr)) (fun ix _ _ => m1 - (intOf ix).toNat)
    case atStart => exact ⟨0, Nat.zero_le _, rfl, by rw [upE_zero]; exact Row.nil _ _ _ _, KeepT.refl _ _, HB2.out⟩
    case round =>
      obtain ⟨k, hk, rfl, hR, hK, hB⟩ := hrel
      by_cases hlt : k < m1
      · obtain ⟨b0, o0, rfl, hb0⟩ := HS1.out.addr (by omega)
        obtain ⟨bi, oi, rfl, hbi⟩ := HT1.out.addr (by omega)
        have hcx := (HS1.out.below hB.out).cells k hlt (0, 0)
        have hci := (HT1.out.below hB.out).byte k hlt
        have hgl := HGL.out k
        have hval := HIN.out k hlt
        have hlen := HLE1.out k hk
        obtain ⟨p, hp⟩ : ∃ p, p = c.lats.getD k (0, 0) := ⟨_, rfl⟩
        rw [← hp] at hcx hgl
        obtain ⟨q1, q2⟩ := p
        obtain ⟨hcx1, hcx2⟩ := hcx
        simp only at hcx1 hcx2 hgl
        unfold nv32 at hcx1
        unfold nv8 at hcx2
        obtain ⟨vl, hvl⟩ : ∃ v, v = (t.init.getD k 0).toNat := ⟨_, rfl⟩
        rw [← hvl] at hci hgl hval
        have HVL := Lib.hid hvl
        have hnext : upE (latG c t) (k + 1) = upE (latG c t) k ++ latG c t k := upE_succ _ _
        rw [hgl] at hnext
        obtain ⟨Lk, hLk⟩ : ∃ l, l = upE (latG c t) k := ⟨_, rfl⟩
        rw [← hLk] at hR hnext hlen
        obtain ⟨fv, hfv⟩ : ∃ n, n = 1 + ii + k := ⟨_, rfl⟩
        rw [← hfv] at hnext
        have WA : IntKind.i64.wrap (1 + (ii : Int)) = 1 + (ii : Int) := IntWalk.i64_in _ (by omega)
        have WF : IntKind.i64.wrap (1 + (ii : Int) + (k : Int)) = (fv : Int) := by rw [show 1 + (ii : Int) + (k : Int) = (fv : Int) by omega]; exact IntWalk.i64_in _ (by omega)
        have W8 : IntKind.i64.wrap ((k : Int) + 1) = (k : Int) + 1 := IntWalk.i64_in _ (by omega)
        have I1 : ((k : Nat) : Int) < (m1 : Int) := by omega
        have I2 : (0 : Int) ≤ (k : Int) := by omega
        have hfv1 : 1 ≤ fv ∧ fv ≤ V := by omega
        have HFV1 := Lib.hid hfv1
        have HR := Lib.hid hR.out
        have HK := Lib.hid hK.out
        have HBw := Lib.hid hB.out
        have HXr := Lib.hid (hK.out.block _ _ _ _ HX2.out (by decide))
        have HTr := Lib.hid (hK.out.block _ _ _ _ HT2b.out (by decide))
        have HNX := Lib.hid hnext
        have HLK : Hid (Lk.length ≤ 20000) := hlen
        have HVA := Lib.hid hval
        have HCI := Lib.hid hci
        clear hgl hval hlen hp hvl hnext hLk hfv hR hK hB hb0 hbi hfv1 hcx1
        have p1 := cell_of_block HXr.out 1
        have r1 := cell_of_block HTr.out 1
        by_cases eq2 : q2 = 2
        · subst eq2
          by_cases ev2 : vl = 2
          · subst ev2
            have HNX2 : Hid (upE (latG c t) (k + 1) = Lk) := by show _ = _; rw [HNX.out, if_pos rfl, tell_two, List.append_nil]
            clear HNX
            go_wp2
            go_roundw
            case rel => exact ⟨k + 1, by omega, by go_num, by show Row _ _ _ _ _ _ _; rw [HNX2.out]; exact HR.out, HK.out, HBw.out⟩
            case measure => simp [intOf]; omega
          · have hv1 : vl ≤ 1 := by have := HVA.out; omega
            have e3 : ((vl : Int) != 2) = true := by simp; omega
            have e4 : (vl != 2) = true := by simp; omega
            have e5 : ((vl : Int) == 2) = false := by simp; omega
            have e6 : (vl == 2) = false := by simp; omega
            have HNI : Hid (upE (latG c t) (k + 1) = Lk ++ [bitE V fv 0 vl]) := by show _ = _; rw [HNX.out, if_pos rfl, tell_bit hv1]
            have HC := Lib.hid (fun W hb => HBI.out fv 0 vl HFV1.out.1 HFV1.out.2 hv1 (by omega) W hb)
            obtain ⟨zz, hz⟩ : ∃ z, z = bitE V fv 0 vl := ⟨_, rfl⟩
            simp only [← hz] at HC HNI
            clear hz hv1 ev2 HNX
            go_upto_region 8 with fail
            clear hci hcx2 p1 r1 e3 e4 e5 e6
            have q_0 : wr.cell? ⟨w.heap.size, 0, none⟩ = some (.int .i64 (ii : Int)) := cell_of_block HXr.out 0
            have q_1 : wr.cell? ⟨w.heap.size, 1, none⟩ = some (.slice (some ⟨b0, o0, none⟩) m1 c1) := cell_of_block HXr.out 1
            have q_2 : wr.cell? ⟨w.heap.size, 2, none⟩ = some (.slice a2 n2 c2) := cell_of_block HXr.out 2
            have q_3 : wr.cell? ⟨w.heap.size, 3, none⟩ = some (.slice a3 n3 c3) := cell_of_block HXr.out 3
            have q_4 : wr.cell? ⟨w.heap.size, 4, none⟩ = some (.slice a4 n4 c4) := cell_of_block HXr.out 4
            have q_5 : wr.cell? ⟨w.heap.size, 5, none⟩ = some (.slice a5 n5 c5) := cell_of_block HXr.out 5
            have q_6 : wr.cell? ⟨w.heap.size + 1, 1, none⟩ = some (.slice (some ⟨bi, oi, none⟩) m1 d1) := cell_of_block HTr.out 1
            have q_7 : wr.cell? ⟨bi, oi + k, none⟩ = some (.int .u8 (vl : Int)) := HCI.out
            refine wp_region_noPanic ?_
            refine wp_region_held (S := fun w' => w'.cell? ⟨w.heap.size, 0, none⟩ = some (.int .i64 (ii : Int)) ∧ w'.cell? ⟨w.heap.size, 1, none⟩ = some (.slice (some ⟨b0, o0, none⟩) m1 c1) ∧ w'.cell? ⟨w.heap.size, 2, none⟩ = some (.slice a2 n2 c2) ∧ w'.cell? ⟨w.heap.size, 3, none⟩ = some (.slice a3 n3 c3) ∧ w'.cell? ⟨w.heap.size, 4, none⟩ = some (.slice a4 n4 c4) ∧ w'.cell? ⟨w.heap.size, 5, none⟩ = some (.slice a5 n5 c5) ∧ w'.cell? ⟨w.heap.size + 1, 1, none⟩ = some (.slice (some ⟨bi, oi, none⟩) m1 d1) ∧ w'.cell? ⟨bi, oi + k, none⟩ = some (.int .u8 (vl : Int))) (by kernel_rfl) ?_
            generalize hYY : ({ wr with drawn := wr.drawn + 1 } : World) = Y0
            have HY0 : Hid (Below wr.heap.size wr Y0) := by subst hYY; exact (Below.refl _ _).drew
            have HS0 : Hid (Y0.cell? ⟨w.heap.size, 0, none⟩ = some (.int .i64 (ii : Int)) ∧ Y0.cell? ⟨w.heap.size, 1, none⟩ = some (.slice (some ⟨b0, o0, none⟩) m1 c1) ∧ Y0.cell? ⟨w.heap.size, 2, none⟩ = some (.slice a2 n2 c2) ∧ Y0.cell? ⟨w.heap.size, 3, none⟩ = some (.slice a3 n3 c3) ∧ Y0.cell? ⟨w.heap.size, 4, none⟩ = some (.slice a4 n4 c4) ∧ Y0.cell? ⟨w.heap.size, 5, none⟩ = some (.slice a5 n5 c5) ∧ Y0.cell? ⟨w.heap.size + 1, 1, none⟩ = some (.slice (some ⟨bi, oi, none⟩) m1 d1) ∧ Y0.cell? ⟨bi, oi + k, none⟩ = some (.int .u8 (vl : Int))) := ⟨cell_below q_0 HY0.out, cell_below q_1 HY0.out, cell_below q_2 HY0.out, cell_below q_3 HY0.out, cell_below q_4 HY0.out, cell_below q_5 HY0.out, cell_below q_6 HY0.out, cell_below q_7 HY0.out⟩
            clear hYY
            clear q_0 q_1 q_2 q_3 q_4 q_5 q_6 q_7
            refine wpAnyH_take (i := 0) (v := ?_) (by simp only [List.getElem?_toArray, List.getElem?_cons_zero]; rfl) (by kernel_rfl) (by kernel_rfl) (by kernel_rfl) (fun _ _ _ h => h) (Or.inl ⟨by rfl, ?_⟩) HS0.out ?_
            rotate_left
            · intro w hSw
              (try dsimp only at hSw)
              obtain ⟨q0_, q1_, q2_, q3_, q4_, q5_, q6_, q7_⟩ := hSw
              go_simp
              try with_reducible rfl
            try simp only [Act.put, List.setIfInBounds_toArray, List.set_cons_zero, List.set_cons_succ]
            refine wpAnyH_take (i := 1) (v := ?_) (by simp only [List.getElem?_toArray, List.getElem?_cons_zero, List.getElem?_cons_succ]; rfl) (by kernel_rfl) (by kernel_rfl) (by kernel_rfl) (fun _ _ _ h => h) (Or.inl ⟨by rfl, ?_⟩) HS0.out ?_
            rotate_left
            · intro w hSw
              (try dsimp only at hSw)
              obtain ⟨q0_, q1_, q2_, q3_, q4_, q5_, q6_, q7_⟩ := hSw
              go_simp
              try with_reducible rfl
            try simp only [Act.put, List.setIfInBounds_toArray, List.set_cons_zero, List.set_cons_succ]
            refine wpAnyH_take (i := 2) (v := ?_) (by simp only [List.getElem?_toArray, List.getElem?_cons_zero, List.getElem?_cons_succ]; rfl) (by kernel_rfl) (by kernel_rfl) (by kernel_rfl) (fun _ _ _ h => h) (Or.inl ⟨by rfl, ?_⟩) HS0.out ?_
            rotate_left
            · intro w hSw
              (try dsimp only at hSw)
              obtain ⟨q0_, q1_, q2_, q3_, q4_, q5_, q6_, q7_⟩ := hSw
              go_simp
              try with_reducible rfl
            try simp only [Act.put, List.setIfInBounds_toArray, List.set_cons_zero, List.set_cons_succ]
            refine wpAnyH_take (i := 3) (v := ?_) (by simp only [List.getElem?_toArray, List.getElem?_cons_zero, List.getElem?_cons_succ]; rfl) (by kernel_rfl) (by kernel_rfl) (by kernel_rfl) (fun _ _ _ h => h) (Or.inl ⟨by rfl, ?_⟩) HS0.out ?_
            rotate_left
            · intro w hSw
              (try dsimp only at hSw)
              obtain ⟨q0_, q1_, q2_, q3_, q4_, q5_, q6_, q7_⟩ := hSw
              go_simp
              try with_reducible rfl
            try simp only [Act.put, List.setIfInBounds_toArray, List.set_cons_zero, List.set_cons_succ]
            refine wpAnyH_take (i := 4) (v := ?_) (by simp only [List.getElem?_toArray, List.getElem?_cons_zero, List.getElem?_cons_succ]; rfl) (by kernel_rfl) (by kernel_rfl) (by kernel_rfl) (fun _ _ _ h => h) (Or.inl ⟨by rfl, ?_⟩) HS0.out ?_
            rotate_left
            · intro w hSw
              (try dsimp only at hSw)
              obtain ⟨q0_, q1_, q2_, q3_, q4_, q5_, q6_, q7_⟩ := hSw
              go_simp
              try with_reducible rfl
            try simp only [Act.put, List.setIfInBounds_toArray, List.set_cons_zero, List.set_cons_succ]
            refine wpAnyH_take (i := 5) (v := ?_) (by simp only [List.getElem?_toArray, List.getElem?_cons_zero, List.getElem?_cons_succ]; rfl) (by kernel_rfl) (by kernel_rfl) (by kernel_rfl) (fun _ _ _ h => h) (Or.inl ⟨by rfl, ?_⟩) HS0.out ?_
            rotate_left
            · intro w hSw
              (try dsimp only at hSw)
              obtain ⟨q0_, q1_, q2_, q3_, q4_, q5_, q6_, q7_⟩ := hSw
              go_simp
              try with_reducible rfl
            try simp only [Act.put, List.setIfInBounds_toArray, List.set_cons_zero, List.set_cons_succ]
            refine wpAnyH_take (i := 6) (v := ?_) (by simp only [List.getElem?_toArray, List.getElem?_cons_zero, List.getElem?_cons_succ]; rfl) (by kernel_rfl) (by kernel_rfl) (by kernel_rfl) (fun _ _ _ h => h) (Or.inl ⟨by rfl, ?_⟩) HS0.out ?_
            rotate_left
            · intro w hSw
              (try dsimp only at hSw)
              obtain ⟨q0_, q1_, q2_, q3_, q4_, q5_, q6_, q7_⟩ := hSw
              go_simp
              try with_reducible rfl
            try simp only [Act.put, List.setIfInBounds_toArray, List.set_cons_zero, List.set_cons_succ]
            refine wpAnyH_take (i := 7) (v := ?_) (by simp only [List.getElem?_toArray, List.getElem?_cons_zero, List.getElem?_cons_succ]; rfl) (by kernel_rfl) (by kernel_rfl) (by kernel_rfl) (fun _ _ _ h => h) (Or.inl ⟨by rfl, ?_⟩) HS0.out ?_
            rotate_left
            · intro w hSw
              (try dsimp only at hSw)
              obtain ⟨q0_, q1_, q2_, q3_, q4_, q5_, q6_, q7_⟩ := hSw
              go_simp
              try with_reducible rfl
            try simp only [Act.put, List.setIfInBounds_toArray, List.set_cons_zero, List.set_cons_succ]
            refine wpAnyH_take (i := 8) (v := ?_) (by simp only [List.getElem?_toArray, List.getElem?_cons_zero, List.getElem?_cons_succ]; rfl) (by kernel_rfl) (by kernel_rfl) (by kernel_rfl) (fun _ _ _ h => h) (Or.inl ⟨by rfl, ?_⟩) HS0.out ?_
            rotate_left
            · intro w hSw
              (try dsimp only at hSw)
              obtain ⟨q0_, q1_, q2_, q3_, q4_, q5_, q6_, q7_⟩ := hSw
              go_simp
              try with_reducible rfl
            try simp only [Act.put, List.setIfInBounds_toArray, List.set_cons_zero, List.set_cons_succ]
            refine wpAnyH_take (i := 9) (v := ?_) (by simp only [List.getElem?_toArray, List.getElem?_cons_zero, List.getElem?_cons_succ]; rfl) (by kernel_rfl) (by kernel_rfl) (by kernel_rfl) (fun _ _ _ h => h) (Or.inl ⟨by rfl, ?_⟩) HS0.out ?_
            rotate_left
            · intro w hSw
              (try dsimp only at hSw)
              obtain ⟨q0_, q1_, q2_, q3_, q4_, q5_, q6_, q7_⟩ := hSw
              go_simp
              try with_reducible rfl
            try simp only [Act.put, List.setIfInBounds_toArray, List.set_cons_zero, List.set_cons_succ]
            refine wpAnyH_take (i := 10) (v := ?_) (by simp only [List.getElem?_toArray, List.getElem?_cons_zero, List.getElem?_cons_succ]; rfl) (by kernel_rfl) (by kernel_rfl) (by kernel_rfl) (fun _ _ _ h => h) (Or.inl ⟨by rfl, ?_⟩) HS0.out ?_
            rotate_left
            · intro w hSw
              (try dsimp only at hSw)
              obtain ⟨q0_, q1_, q2_, q3_, q4_, q5_, q6_, q7_⟩ := hSw
              go_simp
              try with_reducible rfl
            try simp only [Act.put, List.setIfInBounds_toArray, List.set_cons_zero, List.set_cons_succ]
            refine wpAnyH_take (i := 11) (v := ?_) (by simp only [List.getElem?_toArray, List.getElem?_cons_zero, List.getElem?_cons_succ]; rfl) (by kernel_rfl) (by kernel_rfl) (by kernel_rfl) (fun _ _ _ h => h) (Or.inl ⟨by rfl, ?_⟩) HS0.out ?_
            rotate_left
            · intro w hSw
              (try dsimp only at hSw)
              obtain ⟨q0_, q1_, q2_, q3_, q4_, q5_, q6_, q7_⟩ := hSw
              go_simp
              try with_reducible rfl
            try simp only [Act.put, List.setIfInBounds_toArray, List.set_cons_zero, List.set_cons_succ]
            refine wpAnyH_ready (rs := [12]) (by kernel_rfl) (by simp) ?_
            refine AllReadyH.cons (by simp only [List.getElem?_toArray, List.getElem?_cons_zero, List.getElem?_cons_succ]; rfl) (fun K hK => ?_) AllReadyH.nil
            go_simp
            refine (HC.out _ (ext_trans HBw.out HY0.out)).mono ?_
            rintro e s1 ⟨rfl, bb⟩
            have HY1 := Lib.hid (ext_trans HY0.out bb)
            have HS1 : Hid (s1.cell? ⟨w.heap.size, 0, none⟩ = some (.int .i64 (ii : Int)) ∧ s1.cell? ⟨w.heap.size, 1, none⟩ = some (.slice (some ⟨b0, o0, none⟩) m1 c1) ∧ s1.cell? ⟨w.heap.size, 2, none⟩ = some (.slice a2 n2 c2) ∧ s1.cell? ⟨w.heap.size, 3, none⟩ = some (.slice a3 n3 c3) ∧ s1.cell? ⟨w.heap.size, 4, none⟩ = some (.slice a4 n4 c4) ∧ s1.cell? ⟨w.heap.size, 5, none⟩ = some (.slice a5 n5 c5) ∧ s1.cell? ⟨w.heap.size + 1, 1, none⟩ = some (.slice (some ⟨bi, oi, none⟩) m1 d1) ∧ s1.cell? ⟨bi, oi + k, none⟩ = some (.int .u8 (vl : Int))) := ⟨cell_below HS0.out.1 bb, cell_below HS0.out.2.1 bb, cell_below HS0.out.2.2.1 bb, cell_below HS0.out.2.2.2.1 bb, cell_below HS0.out.2.2.2.2.1 bb, cell_below HS0.out.2.2.2.2.2.1 bb, cell_below HS0.out.2.2.2.2.2.2.1 bb, cell_below HS0.out.2.2.2.2.2.2.2 bb⟩
            refine hK.out _ _ HS1.out (fun _ => ?_)
            clear hK K
            try simp only [Act.put, List.setIfInBounds_toArray, List.set_cons_zero, List.set_cons_succ]
            clear bb
            refine wpAnyH_ready (rs := [13]) (by kernel_rfl) (by simp) ?_
            refine AllReadyH.cons (by simp only [List.getElem?_toArray, List.getElem?_cons_zero, List.getElem?_cons_succ]; rfl) (fun K hK => ?_) AllReadyH.nil
            go_simp
            generalize hYV : World.alloc s1 _ = s2
            have HSEL : Hid (Sees s2 (some ⟨s1.heap.size, 0, none⟩) 1 1 (zvs [zz])) := by subst hYV; exact sees_oneI s1 zz
            have HY2 : Hid (Below wr.heap.size wr s2) := by subst hYV; exact ext_trans HY1.out (ext_alloc _ _)
            have HYV : Hid (Below s1.heap.size s1 s2) := by subst hYV; exact ext_alloc _ _
            clear hYV
            have HS2 : Hid (s2.cell? ⟨w.heap.size, 0, none⟩ = some (.int .i64 (ii : Int)) ∧ s2.cell? ⟨w.heap.size, 1, none⟩ = some (.slice (some ⟨b0, o0, none⟩) m1 c1) ∧ s2.cell? ⟨w.heap.size, 2, none⟩ = some (.slice a2 n2 c2) ∧ s2.cell? ⟨w.heap.size, 3, none⟩ = some (.slice a3 n3 c3) ∧ s2.cell? ⟨w.heap.size, 4, none⟩ = some (.slice a4 n4 c4) ∧ s2.cell? ⟨w.heap.size, 5, none⟩ = some (.slice a5 n5 c5) ∧ s2.cell? ⟨w.heap.size + 1, 1, none⟩ = some (.slice (some ⟨bi, oi, none⟩) m1 d1) ∧ s2.cell? ⟨bi, oi + k, none⟩ = some (.int .u8 (vl : Int))) := ⟨cell_below HS1.out.1 HYV.out, cell_below HS1.out.2.1 HYV.out, cell_below HS1.out.2.2.1 HYV.out, cell_below HS1.out.2.2.2.1 HYV.out, cell_below HS1.out.2.2.2.2.1 HYV.out, cell_below HS1.out.2.2.2.2.2.1 HYV.out, cell_below HS1.out.2.2.2.2.2.2.1 HYV.out, cell_below HS1.out.2.2.2.2.2.2.2 HYV.out⟩
            refine hK.out _ _ HS2.out (fun _ => ?_)
            clear hK K
            try simp only [Act.put, List.setIfInBounds_toArray, List.set_cons_zero, List.set_cons_succ]
            have HR3 := Lib.hid (HR.out.below HY2.out)
            have HB3b := Lib.hid (ext_trans HBw.out HY2.out)
            have h9 := HLK.out
            refine wpAnyH_ready (rs := [14]) (by kernel_rfl) (by simp) ?_
            refine AllReadyH.cons (by simp only [List.getElem?_toArray, List.getElem?_cons_zero, List.getElem?_cons_succ]; rfl) (fun K hK => ?_) AllReadyH.nil
            refine step_append_row isZ _ rfl _ _ 45 rfl w.heap.size 3 i0 (.int .i64 0) 8 Try.underlying45 hi0 hz0 hz1 hz2 rfl isZ_zero14 _ Lk.length (zvs Lk) (by rfl) HR3.out (some ⟨s1.heap.size, 0, none⟩) 1 1 (zvs [zz]) (by rfl) HSEL.out (zvs_one1 zz) (isZ_zvs [zz]) (by unfold maxLen; omega) (by omega) HB3b.out.size ?_
            intro v' w6 hrow hg
            have HR4 : Hid (Row isZ w6 w.heap.size 3 v' (upE (latG c t) (k + 1)).length (zvs (upE (latG c t) (k + 1)))) := by show Row _ _ _ _ _ _ _; rw [HNI.out, List.length_append, zvs_append]; exact hrow
            have HK4 := Lib.hid (HK.out.trans ((KeepT.below HY2.out).trans (KeepT.grown HR3.out hg)))
            have HB4w := Lib.hid (HB3b.out.grown hg HB3b.out.size (fun j hj => (HR3.out.own.lt j hj).1))
            have hx6 := HK4.out.block _ _ _ _ HX2.out (by decide)
            have ht6 := HK4.out.block _ _ _ _ HT2b.out (by decide)
            have HS3 : Hid (w6.cell? ⟨w.heap.size, 0, none⟩ = some (.int .i64 (ii : Int)) ∧ w6.cell? ⟨w.heap.size, 1, none⟩ = some (.slice (some ⟨b0, o0, none⟩) m1 c1) ∧ w6.cell? ⟨w.heap.size, 2, none⟩ = some (.slice a2 n2 c2) ∧ w6.cell? ⟨w.heap.size, 3, none⟩ = some (.slice a3 n3 c3) ∧ w6.cell? ⟨w.heap.size, 4, none⟩ = some (.slice a4 n4 c4) ∧ w6.cell? ⟨w.heap.size, 5, none⟩ = some (.slice a5 n5 c5) ∧ w6.cell? ⟨w.heap.size + 1, 1, none⟩ = some (.slice (some ⟨bi, oi, none⟩) m1 d1) ∧ w6.cell? ⟨bi, oi + k, none⟩ = some (.int .u8 (vl : Int))) := ⟨cell_of_block hx6 0, cell_of_block hx6 1, cell_of_block hx6 2, cell_of_block hx6 3, cell_of_block hx6 4, cell_of_block hx6 5, cell_of_block ht6 1, ((HT1.out.below HB4w.out).byte k hlt).trans (by rw [HVL.out])⟩
            clear hrow hg h9 hx6 ht6
            refine hK.out _ _ HS3.out (fun _ => ?_)
            clear hK K
            try simp only [Act.put, List.setIfInBounds_toArray, List.set_cons_zero, List.set_cons_succ]
            refine wpAnyH_take (i := 15) (v := ?_) (by simp only [List.getElem?_toArray, List.getElem?_cons_zero, List.getElem?_cons_succ]; rfl) (by kernel_rfl) (by kernel_rfl) (by kernel_rfl) (fun _ _ _ h => h) (Or.inl ⟨by rfl, ?_⟩) HS3.out ?_
            rotate_left
            · intro w hSw
              (try dsimp only at hSw)
              obtain ⟨q0_, q1_, q2_, q3_, q4_, q5_, q6_, q7_⟩ := hSw
              go_simp
              try with_reducible rfl
            try simp only [Act.put, List.setIfInBounds_toArray, List.set_cons_zero, List.set_cons_succ]
            refine wpAnyH_done (by kernel_rfl) ?_ _
            refine NoPanic.normal ?_
            go_wp2
            go_roundw
            case rel => exact ⟨k + 1, by omega, by go_num, HR4.out, HK4.out, HB4w.out⟩
            case measure => simp [intOf]; omega
        · have e1 : ((q2 : Int) == 2) = false := by simp; omega
          have e2 : (q2 == 2) = false := by simp; omega
          have HNX2 : Hid (upE (latG c t) (k + 1) = Lk) := by show _ = _; rw [HNX.out, if_neg eq2, List.append_nil]
          clear HNX eq2
          go_wp2
          go_roundw
          case rel => exact ⟨k + 1, by omega, by go_num, by show Row _ _ _ _ _ _ _; rw [HNX2.out]; exact HR.out, HK.out, HBw.out⟩
          case measure => simp [intOf]; omega
      · obtain rfl : m1 = k := by omega
        have HRa := Lib.hid hR.out
        have HKa := Lib.hid hK.out
        have HBa := Lib.hid hB.out
        have HTa := Lib.hid (hK.out.block _ _ _ _ HT2b.out (by decide))
        clear hR hK hB
        have r1 := cell_of_block HTa.out 1
        have r2 := cell_of_block HTa.out 2
        go_wp2_with fail
        clear r1 r2
        go_loopw [8, 6] (fun fx v wr => ∃ k : Nat, k ≤ m2 ∧ fx = .int .i64 k ∧ Hid (Row isZ wr w.heap.size 3 v (upE (latG c t) m1 ++ upE (fun f => upE (inG c t f) ii) k).length (zvs (upE (latG c t) m1 ++ upE (fun f => upE (inG c t f) ii) k))) ∧ Hid (KeepT 3 W2 wr) ∧ Hid (Below w.heap.size w wr)) (fun fx _ _ => m2 - (intOf fx).toNat)
        case atStart => exact ⟨0, Nat.zero_le _, rfl, by show Row _ _ _ _ _ _ _; rw [upE_zero, List.append_nil]; exact HRa.out, HKa.out, HBa.out⟩
        case round =>
          obtain ⟨k, hk, rfl, hR, hK, hB⟩ := hrel
          have r2 := cell_of_block (hK.out.block _ _ _ _ HT2b.out (by decide)) 2
          by_cases hlt : k < m2
          · obtain ⟨bf, of, rfl, hbf⟩ := HT2.out.row.addr (by omega)
            have hse := HT2.out.each k (by rw [HK2.out]; exact hlt)
            have hfr := HFR.out k hlt
            obtain ⟨sl, hsl⟩ : ∃ s, s = ss.getD k slc0 := ⟨_, rfl⟩
            have HCF : Hid (∀ W, Below w.heap.size w W → W.cell? ⟨bf, of + k, none⟩ = some (.slice sl.1 sl.2.1 sl.2.2)) := fun W hb => by have := (HT2.out.below hb).cellAt k hlt; rw [← hsl] at this; exact this
            rw [← hsl] at hse
            obtain ⟨sa, sn, sc⟩ := sl
            simp only at HCF hse
            have hsn : sn = ii := by rw [← hse.lenMap]; exact hfr.1
            subst hsn
            have HSE := Lib.hid hse
            have HFV := Lib.hid hfr.2
            have hnext : upE (latG c t) m1 ++ upE (fun f => upE (inG c t f) sn) (k + 1) = upE (latG c t) m1 ++ upE (fun f => upE (inG c t f) sn) k ++ upE (inG c t k) sn := by rw [upE_succ, List.append_assoc]
            have HLI : Hid (∀ m, m ≤ sn → (upE (latG c t) m1 ++ upE (fun f => upE (inG c t f) sn) k ++ upE (inG c t k) m).length ≤ 5000000) := fun m hm => HLEN.out k m k hk hm
            obtain ⟨Lk, hLk⟩ : ∃ l, l = upE (latG c t) m1 ++ upE (fun f => upE (inG c t f) sn) k := ⟨_, rfl⟩
            rw [← hLk] at hR hnext HLI
            have HNX := Lib.hid hnext
            have HR := Lib.hid hR.out
            have HK := Lib.hid hK.out
            have HBw := Lib.hid hB.out
            have I1 : ((k : Nat) : Int) < (m2 : Int) := by omega
            have I2 : (0 : Int) ≤ (k : Int) := by omega
            have W8 : IntKind.i64.wrap ((k : Int) + 1) = (k : Int) + 1 := IntWalk.i64_in _ (by omega)
            have HK256 : Hid (k ≤ 256) := by show _ ≤ _; omega
            clear hse hfr hnext hLk hR hK hB hsl hbf
            go_wp2_with fail
            clear r2
            go_loopw [9, 6] (fun jx v wr => ∃ j : Nat, j ≤ sn ∧ jx = .int .i64 j ∧ Hid (Row isZ wr w.heap.size 3 v (Lk ++ upE (inG c t k) j).length (zvs (Lk ++ upE (inG c t k) j))) ∧ Hid (KeepT 3 W2 wr) ∧ Hid (Below w.heap.size w wr)) (fun jx _ _ => sn - (intOf jx).toNat)
            case atStart => exact ⟨0, Nat.zero_le _, rfl, by show Row _ _ _ _ _ _ _; rw [upE_zero, List.append_nil]; exact HR.out, HK.out, HBw.out⟩
            case round =>
              obtain ⟨j, hj, rfl, hR, hK, hB⟩ := hrel
              have p0 := cell_of_block (hK.out.block _ _ _ _ HX2.out (by decide)) 0
              by_cases hlt2 : j < sn
              · obtain ⟨bx, ox, rfl, hbx⟩ := HSE.out.addr (by omega)
                have hcv := (HSE.out.below hB.out).byte j hlt2
                have hval := HFV.out j hlt2
                have hlen := HLI.out j hj
                have hgi := HGI.out k j
                have hcf := HCF.out _ hB.out
                obtain ⟨vl, hvl⟩ : ∃ v, v = ((t.frames.getD k []).getD j 0).toNat := ⟨_, rfl⟩
                rw [← hvl] at hcv hval hgi
                have HVL := Lib.hid hvl
                have hnx : Lk ++ upE (inG c t k) (j + 1) = (Lk ++ upE (inG c t k) j) ++ tellE V (1 + j) k vl := by rw [upE_succ, hgi, List.append_assoc]
                obtain ⟨Lj, hLj⟩ : ∃ l, l = Lk ++ upE (inG c t k) j := ⟨_, rfl⟩
                rw [← hLj] at hR hlen hnx
                obtain ⟨fv, hfv⟩ : ∃ n, n = 1 + j := ⟨_, rfl⟩
                rw [← hfv] at hnx
                have hfv1 : 1 ≤ fv ∧ fv ≤ V := by omega
                have HFV1 := Lib.hid hfv1
                have WF : IntKind.i64.wrap (1 + (j : Int)) = (fv : Int) := by rw [show 1 + (j : Int) = (fv : Int) by omega]; exact IntWalk.i64_in _ (by omega)
                have W9 : IntKind.i64.wrap ((j : Int) + 1) = (j : Int) + 1 := IntWalk.i64_in _ (by omega)
                have I3 : ((j : Nat) : Int) < (sn : Int) := by omega
                have I4 : (0 : Int) ≤ (j : Int) := by omega
                have HNX2 := Lib.hid hnx
                have HR := Lib.hid hR.out
                have HK := Lib.hid hK.out
                have HBw := Lib.hid hB.out
                have HXr := Lib.hid (hK.out.block _ _ _ _ HX2.out (by decide))
                have HTr := Lib.hid (hK.out.block _ _ _ _ HT2b.out (by decide))
                have HLK : Hid (Lj.length ≤ 5000000) := hlen
                have HVA := Lib.hid hval
                have HCI := Lib.hid hcv
                have HCFr := Lib.hid hcf
                clear hval hlen hgi hvl hnx hLj hfv hR hK hB hbx hfv1
                have r2 := cell_of_block HTr.out 2
                by_cases ev2 : vl = 2
                · subst ev2
                  have HNX3 : Hid (Lk ++ upE (inG c t k) (j + 1) = Lj) := by show _ = _; rw [HNX2.out, tell_two, List.append_nil]
                  clear HNX2
                  go_wp2
                  go_roundw
                  case rel => exact ⟨j + 1, by omega, by go_num, by show Row _ _ _ _ _ _ _; rw [HNX3.out]; exact HR.out, HK.out, HBw.out⟩
                  case measure => simp [intOf]; omega
                · have hv1 : vl ≤ 1 := by have := HVA.out; omega
                  have e3 : ((vl : Int) != 2) = true := by simp; omega
                  have e4 : (vl != 2) = true := by simp; omega
                  have e5 : ((vl : Int) == 2) = false := by simp; omega
                  have e6 : (vl == 2) = false := by simp; omega
                  have HNI : Hid (Lk ++ upE (inG c t k) (j + 1) = Lj ++ [bitE V fv k vl]) := by show _ = _; rw [HNX2.out, tell_bit hv1]
                  have HC := Lib.hid (fun W hb => HBI.out fv k vl HFV1.out.1 HFV1.out.2 hv1 HK256.out W hb)
                  obtain ⟨zz, hz⟩ : ∃ z, z = bitE V fv k vl := ⟨_, rfl⟩
                  simp only [← hz] at HC HNI
                  clear hz hv1 ev2 HNX2
                  go_upto_region 16 with fail
                  clear hcv hcf p0 r2 e3 e4 e5 e6
                  have q_0 : wr.cell? ⟨w.heap.size, 0, none⟩ = some (.int .i64 (sn : Int)) := cell_of_block HXr.out 0
                  have q_1 : wr.cell? ⟨w.heap.size, 1, none⟩ = some (.slice a1 m1 c1) := cell_of_block HXr.out 1
                  have q_2 : wr.cell? ⟨w.heap.size, 2, none⟩ = some (.slice a2 n2 c2) := cell_of_block HXr.out 2
                  have q_3 : wr.cell? ⟨w.heap.size, 3, none⟩ = some (.slice a3 n3 c3) := cell_of_block HXr.out 3
                  have q_4 : wr.cell? ⟨w.heap.size, 4, none⟩ = some (.slice a4 n4 c4) := cell_of_block HXr.out 4
                  have q_5 : wr.cell? ⟨w.heap.size, 5, none⟩ = some (.slice a5 n5 c5) := cell_of_block HXr.out 5
                  have q_6 : wr.cell? ⟨w.heap.size + 1, 2, none⟩ = some (.slice (some ⟨bf, of, none⟩) m2 d2) := cell_of_block HTr.out 2
                  have q_7 : wr.cell? ⟨bf, of + k, none⟩ = some (.slice (some ⟨bx, ox, none⟩) sn sc) := HCFr.out
                  have q_8 : wr.cell? ⟨bx, ox + j, none⟩ = some (.int .u8 (vl : Int)) := HCI.out
                  refine wp_region_noPanic ?_
                  refine wp_region_held (S := fun w' => w'.cell? ⟨w.heap.size, 0, none⟩ = some (.int .i64 (sn : Int)) ∧ w'.cell? ⟨w.heap.size, 1, none⟩ = some (.slice a1 m1 c1) ∧ w'.cell? ⟨w.heap.size, 2, none⟩ = some (.slice a2 n2 c2) ∧ w'.cell? ⟨w.heap.size, 3, none⟩ = some (.slice a3 n3 c3) ∧ w'.cell? ⟨w.heap.size, 4, none⟩ = some (.slice a4 n4 c4) ∧ w'.cell? ⟨w.heap.size, 5, none⟩ = some (.slice a5 n5 c5) ∧ w'.cell? ⟨w.heap.size + 1, 2, none⟩ = some (.slice (some ⟨bf, of, none⟩) m2 d2) ∧ w'.cell? ⟨bf, of + k, none⟩ = some (.slice (some ⟨bx, ox, none⟩) sn sc) ∧ w'.cell? ⟨bx, ox + j, none⟩ = some (.int .u8 (vl : Int))) (by kernel_rfl) ?_
                  generalize hYY : ({ wr with drawn := wr.drawn + 1 } : World) = Y0
                  have HY0 : Hid (Below wr.heap.size wr Y0) := by subst hYY; exact (Below.refl _ _).drew
                  have HS0 : Hid (Y0.cell? ⟨w.heap.size, 0, none⟩ = some (.int .i64 (sn : Int)) ∧ Y0.cell? ⟨w.heap.size, 1, none⟩ = some (.slice a1 m1 c1) ∧ Y0.cell? ⟨w.heap.size, 2, none⟩ = some (.slice a2 n2 c2) ∧ Y0.cell? ⟨w.heap.size, 3, none⟩ = some (.slice a3 n3 c3) ∧ Y0.cell? ⟨w.heap.size, 4, none⟩ = some (.slice a4 n4 c4) ∧ Y0.cell? ⟨w.heap.size, 5, none⟩ = some (.slice a5 n5 c5) ∧ Y0.cell? ⟨w.heap.size + 1, 2, none⟩ = some (.slice (some ⟨bf, of, none⟩) m2 d2) ∧ Y0.cell? ⟨bf, of + k, none⟩ = some (.slice (some ⟨bx, ox, none⟩) sn sc) ∧ Y0.cell? ⟨bx, ox + j, none⟩ = some (.int .u8 (vl : Int))) := ⟨cell_below q_0 HY0.out, cell_below q_1 HY0.out, cell_below q_2 HY0.out, cell_below q_3 HY0.out, cell_below q_4 HY0.out, cell_below q_5 HY0.out, cell_below q_6 HY0.out, cell_below q_7 HY0.out, cell_below q_8 HY0.out⟩
                  clear hYY
                  clear q_0 q_1 q_2 q_3 q_4 q_5 q_6 q_7 q_8
                  refine wpAnyH_take (i := 0) (v := ?_) (by simp only [List.getElem?_toArray, List.getElem?_cons_zero]; rfl) (by kernel_rfl) (by kernel_rfl) (by kernel_rfl) (fun _ _ _ h => h) (Or.inl ⟨by rfl, ?_⟩) HS0.out ?_
                  rotate_left
                  · intro w hSw
                    (try dsimp only at hSw)
                    obtain ⟨q0_, q1_, q2_, q3_, q4_, q5_, q6_, q7_, q8_⟩ := hSw
                    go_simp
                    try with_reducible rfl
                  try simp only [Act.put, List.setIfInBounds_toArray, List.set_cons_zero, List.set_cons_succ]
                  refine wpAnyH_take (i := 1) (v := ?_) (by simp only [List.getElem?_toArray, List.getElem?_cons_zero, List.getElem?_cons_succ]; rfl) (by kernel_rfl) (by kernel_rfl) (by kernel_rfl) (fun _ _ _ h => h) (Or.inl ⟨by rfl, ?_⟩) HS0.out ?_
                  rotate_left
                  · intro w hSw
                    (try dsimp only at hSw)
                    obtain ⟨q0_, q1_, q2_, q3_, q4_, q5_, q6_, q7_, q8_⟩ := hSw
                    go_simp
                    try with_reducible rfl
                  try simp only [Act.put, List.setIfInBounds_toArray, List.set_cons_zero, List.set_cons_succ]
                  refine wpAnyH_take (i := 2) (v := ?_) (by simp only [List.getElem?_toArray, List.getElem?_cons_zero, List.getElem?_cons_succ]; rfl) (by kernel_rfl) (by kernel_rfl) (by kernel_rfl) (fun _ _ _ h => h) (Or.inl ⟨by rfl, ?_⟩) HS0.out ?_
                  rotate_left
                  · intro w hSw
                    (try dsimp only at hSw)
                    obtain ⟨q0_, q1_, q2_, q3_, q4_, q5_, q6_, q7_, q8_⟩ := hSw
                    go_simp
                    try with_reducible rfl
                  try simp only [Act.put, List.setIfInBounds_toArray, List.set_cons_zero, List.set_cons_succ]
                  refine wpAnyH_take (i := 3) (v := ?_) (by simp only [List.getElem?_toArray, List.getElem?_cons_zero, List.getElem?_cons_succ]; rfl) (by kernel_rfl) (by kernel_rfl) (by kernel_rfl) (fun _ _ _ h => h) (Or.inl ⟨by rfl, ?_⟩) HS0.out ?_
                  rotate_left
                  · intro w hSw
                    (try dsimp only at hSw)
                    obtain ⟨q0_, q1_, q2_, q3_, q4_, q5_, q6_, q7_, q8_⟩ := hSw
                    go_simp
                    try with_reducible rfl
                  try simp only [Act.put, List.setIfInBounds_toArray, List.set_cons_zero, List.set_cons_succ]
                  refine wpAnyH_take (i := 4) (v := ?_) (by simp only [List.getElem?_toArray, List.getElem?_cons_zero, List.getElem?_cons_succ]; rfl) (by kernel_rfl) (by kernel_rfl) (by kernel_rfl) (fun _ _ _ h => h) (Or.inl ⟨by rfl, ?_⟩) HS0.out ?_
                  rotate_left
                  · intro w hSw
                    (try dsimp only at hSw)
                    obtain ⟨q0_, q1_, q2_, q3_, q4_, q5_, q6_, q7_, q8_⟩ := hSw
                    go_simp
                    try with_reducible rfl
                  try simp only [Act.put, List.setIfInBounds_toArray, List.set_cons_zero, List.set_cons_succ]
                  refine wpAnyH_take (i := 5) (v := ?_) (by simp only [List.getElem?_toArray, List.getElem?_cons_zero, List.getElem?_cons_succ]; rfl) (by kernel_rfl) (by kernel_rfl) (by kernel_rfl) (fun _ _ _ h => h) (Or.inl ⟨by rfl, ?_⟩) HS0.out ?_
                  rotate_left
                  · intro w hSw
                    (try dsimp only at hSw)
                    obtain ⟨q0_, q1_, q2_, q3_, q4_, q5_, q6_, q7_, q8_⟩ := hSw
                    go_simp
                    try with_reducible rfl
                  try simp only [Act.put, List.setIfInBounds_toArray, List.set_cons_zero, List.set_cons_succ]
                  refine wpAnyH_take (i := 6) (v := ?_) (by simp only [List.getElem?_toArray, List.getElem?_cons_zero, List.getElem?_cons_succ]; rfl) (by kernel_rfl) (by kernel_rfl) (by kernel_rfl) (fun _ _ _ h => h) (Or.inl ⟨by rfl, ?_⟩) HS0.out ?_
                  rotate_left
                  · intro w hSw
                    (try dsimp only at hSw)
                    obtain ⟨q0_, q1_, q2_, q3_, q4_, q5_, q6_, q7_, q8_⟩ := hSw
                    go_simp
                    try with_reducible rfl
                  try simp only [Act.put, List.setIfInBounds_toArray, List.set_cons_zero, List.set_cons_succ]
                  refine wpAnyH_take (i := 7) (v := ?_) (by simp only [List.getElem?_toArray, List.getElem?_cons_zero, List.getElem?_cons_succ]; rfl) (by kernel_rfl) (by kernel_rfl) (by kernel_rfl) (fun _ _ _ h => h) (Or.inl ⟨by rfl, ?_⟩) HS0.out ?_
                  rotate_left
                  · intro w hSw
                    (try dsimp only at hSw)
                    obtain ⟨q0_, q1_, q2_, q3_, q4_, q5_, q6_, q7_, q8_⟩ := hSw
                    go_simp
                    try with_reducible rfl
                  try simp only [Act.put, List.setIfInBounds_toArray, List.set_cons_zero, List.set_cons_succ]
                  refine wpAnyH_take (i := 8) (v := ?_) (by simp only [List.getElem?_toArray, List.getElem?_cons_zero, List.getElem?_cons_succ]; rfl) (by kernel_rfl) (by kernel_rfl) (by kernel_rfl) (fun _ _ _ h => h) (Or.inl ⟨by rfl, ?_⟩) HS0.out ?_
                  rotate_left
                  · intro w hSw
                    (try dsimp only at hSw)
                    obtain ⟨q0_, q1_, q2_, q3_, q4_, q5_, q6_, q7_, q8_⟩ := hSw
                    go_simp
                    try with_reducible rfl
                  try simp only [Act.put, List.setIfInBounds_toArray, List.set_cons_zero, List.set_cons_succ]
                  refine wpAnyH_take (i := 9) (v := ?_) (by simp only [List.getElem?_toArray, List.getElem?_cons_zero, List.getElem?_cons_succ]; rfl) (by kernel_rfl) (by kernel_rfl) (by kernel_rfl) (fun _ _ _ h => h) (Or.inl ⟨by rfl, ?_⟩) HS0.out ?_
                  rotate_left
                  · intro w hSw
                    (try dsimp only at hSw)
                    obtain ⟨q0_, q1_, q2_, q3_, q4_, q5_, q6_, q7_, q8_⟩ := hSw
                    go_simp
                    try with_reducible rfl
                  try simp only [Act.put, List.setIfInBounds_toArray, List.set_cons_zero, List.set_cons_succ]
                  refine wpAnyH_take (i := 10) (v := ?_) (by simp only [List.getElem?_toArray, List.getElem?_cons_zero, List.getElem?_cons_succ]; rfl) (by kernel_rfl) (by kernel_rfl) (by kernel_rfl) (fun _ _ _ h => h) (Or.inl ⟨by rfl, ?_⟩) HS0.out ?_
                  rotate_left
                  · intro w hSw
                    (try dsimp only at hSw)
                    obtain ⟨q0_, q1_, q2_, q3_, q4_, q5_, q6_, q7_, q8_⟩ := hSw
                    go_simp
                    try with_reducible rfl
                  try simp only [Act.put, List.setIfInBounds_toArray, List.set_cons_zero, List.set_cons_succ]
                  refine wpAnyH_take (i := 11) (v := ?_) (by simp only [List.getElem?_toArray, List.getElem?_cons_zero, List.getElem?_cons_succ]; rfl) (by kernel_rfl) (by kernel_rfl) (by kernel_rfl) (fun _ _ _ h => h) (Or.inl ⟨by rfl, ?_⟩) HS0.out ?_
                  rotate_left
                  · intro w hSw
                    (try dsimp only at hSw)
                    obtain ⟨q0_, q1_, q2_, q3_, q4_, q5_, q6_, q7_, q8_⟩ := hSw
                    go_simp
                    try with_reducible rfl
                  try simp only [Act.put, List.setIfInBounds_toArray, List.set_cons_zero, List.set_cons_succ]
                  refine wpAnyH_take (i := 12) (v := ?_) (by simp only [List.getElem?_toArray, List.getElem?_cons_zero, List.getElem?_cons_succ]; rfl) (by kernel_rfl) (by kernel_rfl) (by kernel_rfl) (fun _ _ _ h => h) (Or.inl ⟨by rfl, ?_⟩) HS0.out ?_
                  rotate_left
                  · intro w hSw
                    (try dsimp only at hSw)
                    obtain ⟨q0_, q1_, q2_, q3_, q4_, q5_, q6_, q7_, q8_⟩ := hSw
                    go_simp
                    try with_reducible rfl
                  try simp only [Act.put, List.setIfInBounds_toArray, List.set_cons_zero, List.set_cons_succ]
                  refine wpAnyH_ready (rs := [13]) (by kernel_rfl) (by simp) ?_
                  refine AllReadyH.cons (by simp only [List.getElem?_toArray, List.getElem?_cons_zero, List.getElem?_cons_succ]; rfl) (fun K hK => ?_) AllReadyH.nil
                  go_simp
                  refine (HC.out _ (ext_trans HBw.out HY0.out)).mono ?_
                  rintro e s1 ⟨rfl, bb⟩
                  have HY1 := Lib.hid (ext_trans HY0.out bb)
                  have HS1 : Hid (s1.cell? ⟨w.heap.size, 0, none⟩ = some (.int .i64 (sn : Int)) ∧ s1.cell? ⟨w.heap.size, 1, none⟩ = some (.slice a1 m1 c1) ∧ s1.cell? ⟨w.heap.size, 2, none⟩ = some (.slice a2 n2 c2) ∧ s1.cell? ⟨w.heap.size, 3, none⟩ = some (.slice a3 n3 c3) ∧ s1.cell? ⟨w.heap.size, 4, none⟩ = some (.slice a4 n4 c4) ∧ s1.cell? ⟨w.heap.size, 5, none⟩ = some (.slice a5 n5 c5) ∧ s1.cell? ⟨w.heap.size + 1, 2, none⟩ = some (.slice (some ⟨bf, of, none⟩) m2 d2) ∧ s1.cell? ⟨bf, of + k, none⟩ = some (.slice (some ⟨bx, ox, none⟩) sn sc) ∧ s1.cell? ⟨bx, ox + j, none⟩ = some (.int .u8 (vl : Int))) := ⟨cell_below HS0.out.1 bb, cell_below HS0.out.2.1 bb, cell_below HS0.out.2.2.1 bb, cell_below HS0.out.2.2.2.1 bb, cell_below HS0.out.2.2.2.2.1 bb, cell_below HS0.out.2.2.2.2.2.1 bb, cell_below HS0.out.2.2.2.2.2.2.1 bb, cell_below HS0.out.2.2.2.2.2.2.2.1 bb, cell_below HS0.out.2.2.2.2.2.2.2.2 bb⟩
                  refine hK.out _ _ HS1.out (fun _ => ?_)
                  clear hK K
                  try simp only [Act.put, List.setIfInBounds_toArray, List.set_cons_zero, List.set_cons_succ]
                  clear bb
                  refine wpAnyH_ready (rs := [14]) (by kernel_rfl) (by simp) ?_
                  refine AllReadyH.cons (by simp only [List.getElem?_toArray, List.getElem?_cons_zero, List.getElem?_cons_succ]; rfl) (fun K hK => ?_) AllReadyH.nil
                  go_simp
                  generalize hYV : World.alloc s1 _ = s2
                  have HSEL : Hid (Sees s2 (some ⟨s1.heap.size, 0, none⟩) 1 1 (zvs [zz])) := by subst hYV; exact sees_oneI s1 zz
                  have HY2 : Hid (Below wr.heap.size wr s2) := by subst hYV; exact ext_trans HY1.out (ext_alloc _ _)
                  have HYV : Hid (Below s1.heap.size s1 s2) := by subst hYV; exact ext_alloc _ _
                  clear hYV
                  have HS2 : Hid (s2.cell? ⟨w.heap.size, 0, none⟩ = some (.int .i64 (sn : Int)) ∧ s2.cell? ⟨w.heap.size, 1, none⟩ = some (.slice a1 m1 c1) ∧ s2.cell? ⟨w.heap.size, 2, none⟩ = some (.slice a2 n2 c2) ∧ s2.cell? ⟨w.heap.size, 3, none⟩ = some (.slice a3 n3 c3) ∧ s2.cell? ⟨w.heap.size, 4, none⟩ = some (.slice a4 n4 c4) ∧ s2.cell? ⟨w.heap.size, 5, none⟩ = some (.slice a5 n5 c5) ∧ s2.cell? ⟨w.heap.size + 1, 2, none⟩ = some (.slice (some ⟨bf, of, none⟩) m2 d2) ∧ s2.cell? ⟨bf, of + k, none⟩ = some (.slice (some ⟨bx, ox, none⟩) sn sc) ∧ s2.cell? ⟨bx, ox + j, none⟩ = some (.int .u8 (vl : Int))) := ⟨cell_below HS1.out.1 HYV.out, cell_below HS1.out.2.1 HYV.out, cell_below HS1.out.2.2.1 HYV.out, cell_below HS1.out.2.2.2.1 HYV.out, cell_below HS1.out.2.2.2.2.1 HYV.out, cell_below HS1.out.2.2.2.2.2.1 HYV.out, cell_below HS1.out.2.2.2.2.2.2.1 HYV.out, cell_below HS1.out.2.2.2.2.2.2.2.1 HYV.out, cell_below HS1.out.2.2.2.2.2.2.2.2 HYV.out⟩
                  refine hK.out _ _ HS2.out (fun _ => ?_)
                  clear hK K
                  try simp only [Act.put, List.setIfInBounds_toArray, List.set_cons_zero, List.set_cons_succ]
                  have HR3 := Lib.hid (HR.out.below HY2.out)
                  have HB3b := Lib.hid (ext_trans HBw.out HY2.out)
                  have h9 := HLK.out
                  refine wpAnyH_ready (rs := [15]) (by kernel_rfl) (by simp) ?_
                  refine AllReadyH.cons (by simp only [List.getElem?_toArray, List.getElem?_cons_zero, List.getElem?_cons_succ]; rfl) (fun K hK => ?_) AllReadyH.nil
                  refine step_append_row isZ _ rfl _ _ 45 rfl w.heap.size 3 i0 (.int .i64 0) 8 Try.underlying45 hi0 hz0 hz1 hz2 rfl isZ_zero14 _ Lj.length (zvs Lj) (by rfl) HR3.out (some ⟨s1.heap.size, 0, none⟩) 1 1 (zvs [zz]) (by rfl) HSEL.out (zvs_one1 zz) (isZ_zvs [zz]) (by unfold maxLen; omega) (by omega) HB3b.out.size ?_
                  intro v' w6 hrow hg
                  have HR4 : Hid (Row isZ w6 w.heap.size 3 v' (Lk ++ upE (inG c t k) (j + 1)).length (zvs (Lk ++ upE (inG c t k) (j + 1)))) := by show Row _ _ _ _ _ _ _; rw [HNI.out, List.length_append, zvs_append]; exact hrow
                  have HK4 := Lib.hid (HK.out.trans ((KeepT.below HY2.out).trans (KeepT.grown HR3.out hg)))
                  have HB4w := Lib.hid (HB3b.out.grown hg HB3b.out.size (fun j hj => (HR3.out.own.lt j hj).1))
                  have hx6 := HK4.out.block _ _ _ _ HX2.out (by decide)
                  have ht6 := HK4.out.block _ _ _ _ HT2b.out (by decide)
                  have HS3 : Hid (w6.cell? ⟨w.heap.size, 0, none⟩ = some (.int .i64 (sn : Int)) ∧ w6.cell? ⟨w.heap.size, 1, none⟩ = some (.slice a1 m1 c1) ∧ w6.cell? ⟨w.heap.size, 2, none⟩ = some (.slice a2 n2 c2) ∧ w6.cell? ⟨w.heap.size, 3, none⟩ = some (.slice a3 n3 c3) ∧ w6.cell? ⟨w.heap.size, 4, none⟩ = some (.slice a4 n4 c4) ∧ w6.cell? ⟨w.heap.size, 5, none⟩ = some (.slice a5 n5 c5) ∧ w6.cell? ⟨w.heap.size + 1, 2, none⟩ = some (.slice (some ⟨bf, of, none⟩) m2 d2) ∧ w6.cell? ⟨bf, of + k, none⟩ = some (.slice (some ⟨bx, ox, none⟩) sn sc) ∧ w6.cell? ⟨bx, ox + j, none⟩ = some (.int .u8 (vl : Int))) := ⟨cell_of_block hx6 0, cell_of_block hx6 1, cell_of_block hx6 2, cell_of_block hx6 3, cell_of_block hx6 4, cell_of_block hx6 5, cell_of_block ht6 2, HCF.out _ HB4w.out, ((HSE.out.below HB4w.out).byte j hlt2).trans (by rw [HVL.out])⟩
                  clear hrow hg h9 hx6 ht6
                  refine hK.out _ _ HS3.out (fun _ => ?_)
                  clear hK K
                  try simp only [Act.put, List.setIfInBounds_toArray, List.set_cons_zero, List.set_cons_succ]
                  refine wpAnyH_take (i := 16) (v := ?_) (by simp only [List.getElem?_toArray, List.getElem?_cons_zero, List.getElem?_cons_succ]; rfl) (by kernel_rfl) (by kernel_rfl) (by kernel_rfl) (fun _ _ _ h => h) (Or.inl ⟨by rfl, ?_⟩) HS3.out ?_
                  rotate_left
                  · intro w hSw
                    (try dsimp only at hSw)
                    obtain ⟨q0_, q1_, q2_, q3_, q4_, q5_, q6_, q7_, q8_⟩ := hSw
                    go_simp
                    try with_reducible rfl
                  try simp only [Act.put, List.setIfInBounds_toArray, List.set_cons_zero, List.set_cons_succ]
                  refine wpAnyH_done (by kernel_rfl) ?_ _
                  refine NoPanic.normal ?_
                  go_wp2
                  go_roundw
                  case rel => exact ⟨j + 1, by omega, by go_num, HR4.out, HK4.out, HB4w.out⟩
                  case measure => simp [intOf]; omega
              · obtain rfl : sn = j := by omega
                have HR5 : Hid (Row isZ wr w.heap.size 3 _ (upE (latG c t) m1 ++ upE (fun f => upE (inG c t f) sn) (k + 1)).length (zvs (upE (latG c t) m1 ++ upE (fun f => upE (inG c t f) sn) (k + 1)))) := (show Row _ _ _ _ _ _ _ from by rw [HNX.out]; exact hR.out)
                have HK5 := Lib.hid hK.out
                have HB5 := Lib.hid hB.out
                clear hR hK hB
                go_wp2
                go_roundw
                case rel => exact ⟨k + 1, by omega, by go_num, HR5.out, HK5.out, HB5.out⟩
                case measure => simp [intOf]; omega
          · obtain rfl : m2 = k := by omega
            have HRZ : Hid (Row isZ wr w.heap.size 3 _ (givE c t).length (zvs (givE c t))) := (show Row _ _ _ _ _ _ _ from by rw [HGV.out]; exact hR.out)
            have HBE := Lib.hid hB.out
            clear hR hK hB
            obtain ⟨ra, rk, rfl⟩ := HRZ.out.form
            go_wp2
            refine bodyPost_ret (v := .tuple #[.slice ra (givE c t).length rk, .int .i64 0]) ?_ rfl ?_
            · simp [results, Try.results20, go_sem]
            · refine ⟨HBE.out, ra, _, rk, by rw [HA.out]; rfl, ?_⟩
              rw [HA.out]
              exact (row_sees_slice HRZ.out).2
end Go.Proofs.Ytcoehbkjccfhlaa
namespace Go.Proofs.Ytcoehbkjccfhlaa
open Go Go.RowKit Go.Joins

set_option maxRecDepth 100000 in
set_option maxHeartbeats 3200000 in
theorem value14_any (bs : List Bool) (ma : Option Addr) (mn mc i : Nat) (w : World) (h : Sees w ma mn mc (bs.map Value.bool)) (hi : i < mn) :
    Calls Try.prog 51 #[.slice ma mn mc, .int .i64 (i : Int)] w fun e w' => e = .returned (.int .u8 ((modV bs i : Nat) : Int)) ∧ Below w.heap.size w w' := by
  obtain ⟨b, o, rfl, hb⟩ := h.addr (by omega)
  have hl := h.lenMap
  have hc : w.cell? ⟨b, o + i, none⟩ = some (.bool (bs.getD i false)) := by
    have h1 := (h.cell i hi).2
    rw [h1, List.getElem?_map, List.getD, List.getElem?_eq_getElem (by omega)]
    rfl
  have I1 : (i : Int) < (mn : Int) := by omega
  have I2 : (0 : Int) ≤ (i : Int) := by omega
  cases hv : bs.getD i false with
  | false =>
    rw [hv] at hc
    have HM : Hid (modV bs i = 0) := by show _ = _; unfold modV; rw [hv]; rfl
    clear h hl hv hb
    go_enter Try.func51, Try.ntmps51
    go_wp2
    go_ret
    exact ⟨by rw [HM.out]; rfl, Below.refl _ _⟩
  | true =>
    rw [hv] at hc
    have HM : Hid (modV bs i = 1) := by show _ = _; unfold modV; rw [hv]; rfl
    clear h hl hv hb
    go_enter Try.func51, Try.ntmps51
    go_wp2
    go_ret
    exact ⟨by rw [HM.out]; rfl, Below.refl _ _⟩

/-- While a trace is made: its box, the circuit's, the result's. -/
structure TtI (w : World) (G : Nat) (C : Array Value) (bad : Int) (vi vf : Value) (W : World) : Prop where
  box : W.heap[G]? = some (.cells #[.int .i64 bad, vi, vf] 30 (0, 0))
  cb : W.heap[w.heap.size]? = some (.cells C 26 (0, 0))
  rb : W.heap[w.heap.size + 1]? = some (.cells #[.int .i64 0, .slice none 0 0, .slice none 0 0] 30 (0, 0))
  low : Below w.heap.size w W
  gt : w.heap.size + 1 < G
section
variable {G : Nat} {w W W' : World} {C : Array Value} {bad : Int} {vi vf v : Value}
theorem TtI.below (h : TtI w G C bad vi vf W) (hb : Below W.heap.size W W') : TtI w G C bad vi vf W' := ⟨heap_below h.box hb, heap_below h.cb hb, heap_below h.rb hb, ext_trans h.low hb, h.gt⟩
theorem TtI.grown {ok : Value → Prop} {base n : Nat} {e : TypeId} {xs : List Value} (h : TtI w G C bad vi vf W) (hr : Row ok W base e v n xs) (h1 : 30 ≠ e) (h2 : 26 ≠ e) (hb : w.heap.size ≤ base) (hg : W.grownBy W' v.ownBlock) : TtI w G C bad vi vf W' :=
  ⟨heap_grown h.box hg (hr.not_own h.box h1), heap_grown h.cb hg (hr.not_own h.cb h2), heap_grown h.rb hg (hr.not_own h.rb h1), h.low.grown hg h.low.size (fun j hj => Nat.le_trans hb (hr.own.lt j hj).1), h.gt⟩
theorem TtI.set (h : TtI w G C bad vi vf W) (i : Nat) (v : Value) (a b : Value) (he : (#[.int .i64 bad, vi, vf] : Array Value).setIfInBounds i v = #[.int .i64 bad, a, b]) : TtI w G C bad a b (W.setCell ⟨G, i, none⟩ v) := by
  have hx := block_setCell h.box (i := i) v
  rw [he] at hx
  exact ⟨hx, (Below.heap_setCell W ⟨G, i, none⟩ v _ (by have := h.gt; show _ ≠ G; omega)).trans h.cb, (Below.heap_setCell W ⟨G, i, none⟩ v _ (by have := h.gt; show _ ≠ G; omega)).trans h.rb, h.low.setCell (p := ⟨G, i, none⟩) (by have := h.gt; show _ ≤ G; omega) v, h.gt⟩
theorem TtI.set1 (h : TtI w G C bad vi vf W) (v : Value) : TtI w G C bad v vf (W.setCell ⟨G, 1, none⟩ v) := h.set 1 v v vf rfl
theorem TtI.set2 (h : TtI w G C bad vi vf W) (v : Value) : TtI w G C bad vi v (W.setCell ⟨G, 2, none⟩ v) := h.set 2 v vi v rfl
theorem TtI.row {ok : Value → Prop} {base n : Nat} {e : TypeId} {xs : List Value} (h : TtI w G C bad vi vf W) (hr : Row ok W base e v n xs) (h1 : 30 ≠ e) (i : Nat) (u : Value) : Row ok (W.setCell ⟨G, i, none⟩ u) base e v n xs :=
  hr.other fun q hq => Below.heap_setCell W ⟨G, i, none⟩ u q (fun e => (hr.not_own h.box h1) (by rw [hq, e]))
end
/-- While the frames are made. -/
structure TtJ (w : World) (G : Nat) (C : Array Value) (bad : Int) (I : List UInt8) (FF : List (List UInt8)) (vi vf : Value) (ss : List Slc) (W : World) : Prop where
  t : TtI w G C bad vi vf W
  init : Row isByte W w.heap.size 5 vi I.length (I.map bv)
  row : Row (fun _ => True) W w.heap.size 27 vf ss.length (ss.map slV)
  len : ss.length = FF.length
  rows : ∀ j, j < FF.length → Row isByte W w.heap.size 5 (slV (ss.getD j slc0)) (FF.getD j []).length ((FF.getD j []).map bv)
section
variable {G : Nat} {w W W1 W2 : World} {C : Array Value} {bad : Int} {I : List UInt8} {FF : List (List UInt8)} {vi vf vf' : Value} {ss : List Slc}
theorem TtJ.below (h : TtJ w G C bad I FF vi vf ss W) (hb : Below W.heap.size W W1) : TtJ w G C bad I FF vi vf ss W1 := ⟨h.t.below hb, h.init.below hb, h.row.below hb, h.len, fun j hj => (h.rows j hj).below hb⟩
theorem getD_app1 {α : Type} {L : List α} {x d : α} {j : Nat} (h : j < L.length) : (L ++ [x]).getD j d = L.getD j d := by simp [List.getD, List.getElem?_append_left h]
theorem getD_app2 {α : Type} {L : List α} {x d : α} : (L ++ [x]).getD L.length d = x := by simp
theorem TtJ.more (h : TtJ w G C bad I FF vi vf ss W) (hb : Below W.heap.size W W1) {s : Slc} {L : List UInt8} (hl : Row isByte W1 w.heap.size 5 (slV s) L.length (L.map bv)) (hrow : Row (fun _ => True) W2 w.heap.size 27 vf' (ss.length + 1) (ss.map slV ++ [slV s])) (hg : W1.grownBy W2 vf.ownBlock) :
    TtJ w G C bad I (FF ++ [L]) vi vf' (ss ++ [s]) (W2.setCell ⟨G, 2, none⟩ vf') := by
  have h1 := h.below hb
  have t2 : TtI w G C bad vi vf W2 := h1.t.grown h1.row (by decide) (by decide) (Nat.le_refl _) hg
  have one : ∀ {v : Value} {n : Nat} {xs : List Value}, Row isByte W1 w.heap.size 5 v n xs → Row isByte (W2.setCell ⟨G, 2, none⟩ vf') w.heap.size 5 v n xs := fun hr => t2.row (hr.apart h1.row (by decide) hg) (by decide) 2 _
  refine ⟨t2.set2 vf', one h1.init, ?_, by simp [h.len], fun j hj => ?_⟩
  · have h3 := t2.row hrow (by decide) 2 vf'
    simpa using h3
  · by_cases e : j < FF.length
    · rw [getD_app1 e, getD_app1 (by rw [h.len]; exact e)]
      exact one (h1.rows j e)
    · obtain rfl : j = FF.length := by simp at hj; omega
      rw [getD_app2]
      have e2 : (ss ++ [s]).getD FF.length slc0 = s := by rw [← h.len]; exact getD_app2
      rw [e2]
      exact one hl
theorem TtJ.sees {a : Option Addr} {n c : Nat} {b : Option Addr} {m d : Nat} (h : TtJ w G C bad I FF (.slice a n c) (.slice b m d) ss W) : SeesTr (((W.setCell ⟨w.heap.size + 1, 0, .none⟩ (.int .i64 bad)).setCell ⟨w.heap.size + 1, 1, .none⟩ (.slice a n c)).setCell ⟨w.heap.size + 1, 2, .none⟩ (.slice b m d)) ⟨a, n, c, b, m, d, ss⟩ ⟨bad, I, FF⟩ := by
  have oth : ∀ {ok : Value → Prop} {e : TypeId} {v : Value} {k : Nat} {xs : List Value}, Row ok W w.heap.size e v k xs → 30 ≠ e → Row ok (((W.setCell ⟨w.heap.size + 1, 0, .none⟩ (.int .i64 bad)).setCell ⟨w.heap.size + 1, 1, .none⟩ (.slice a n c)).setCell ⟨w.heap.size + 1, 2, .none⟩ (.slice b m d)) w.heap.size e v k xs := fun hr he => hr.other fun q hq => set3_other (w.heap.size + 1) q (fun e => (hr.not_own h.t.rb he) (by rw [hq, e])) _ _ _
  have hm := row_len h.row
  refine OwnTA.sees (base := w.heap.size) ⟨oth h.init (by decide), ⟨by rw [← h.len]; exact hm, hm, ?_, fun j hj => oth (h.rows j (by rw [← h.len, hm]; exact hj)) (by decide)⟩⟩
  have h3 := (oth h.row (by decide)).own
  rw [hm] at h3
  exact h3
end
theorem u8l_succ (v : Nat → Nat) (k : Nat) : u8l v (k + 1) = u8l v k ++ [UInt8.ofNat (v k)] := by simp [u8l, List.range_succ]
theorem bv_ofNat {k : Nat} (h : k < 256) : bv (UInt8.ofNat k) = .int .u8 (k : Int) := by
  unfold bv
  congr 2
  simp [UInt8.toNat_ofNat', Nat.mod_eq_of_lt h]
end Go.Proofs.Ytcoehbkjccfhlaa
