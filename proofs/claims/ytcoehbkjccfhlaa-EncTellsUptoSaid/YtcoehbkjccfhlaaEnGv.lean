/- enc.Given, by its contract. -/
import Derived.Test.YtcoehbkjccfhlaaGEncT00
import Derived.Test.YtcoehbkjccfhlaaGEncT01
import Derived.Test.YtcoehbkjccfhlaaGEncT06
import Derived.Test.YtcoehbkjccfhlaaGEncT03
import Derived.Test.YtcoehbkjccfhlaaGEncT02
import Derived.Test.YtcoehbkjccfhlaaGEncT07
import Derived.Test.YtcoehbkjccfhlaaGEncT05
import Derived.Test.YtcoehbkjccfhlaaGEncT12
import Derived.Test.YtcoehbkjccfhlaaNFits
import Derived.Test.YtcoehbkjccfhlaaEnSmall
import Derived.Test.YtcoehbkjccfhlaaEnOf
import Derived.Test.YtcoehbkjccfhlaaEnTell
import Derived.Test.YtcoehbkjccfhlaaRows
import Derived.BigQuiet
import Derived.Deep.AppendLies
import Derived.Deep.CutRange
import Derived.Deep.QuietTactic
import Derived.Deep.RegionHeld3
import Derived.Deep.RegionLaw
import Derived.Deep.RegionWith
import Derived.KernelRfl
import Derived.Laws.EntriesVeiled
import Derived.Laws.Tables
import Derived.Lib.AppendStr
import Derived.Lib.AppendZeros
import Derived.Lib.ConvBytes
import Derived.Lib.Hide
import Derived.Lib.SlBytesRow
import Derived.Lib.SmallJoins
import Derived.Maps.AppendAt
import Derived.OrdersHeld
import Derived.Shelf.Bytes.SlSmallAll
import Derived.WalkKit
import Derived.WalkLawsBesides
import Derived.WalkSpells
namespace Go.Proofs.Ytcoehbkjccfhlaa
open Go Go.RowKit Go.Joins

/-- What a trace tells: of the i-th latch, of the i-th input in frame f. -/
def latG (c : NormC) (t : TraceC) (i : Nat) : List Int := if (c.lats.getD i (0, 0)).2 = 2 then tellE (varsN c) (firstLatE c + i) 0 (t.init.getD i 0).toNat else []
def inG (c : NormC) (t : TraceC) (f i : Nat) : List Int := tellE (varsN c) (1 + i) f ((t.frames.getD f []).getD i 0).toNat
def givE (c : NormC) (t : TraceC) : List Int := upE (latG c t) c.lats.length ++ upE (fun f => upE (inG c t f) c.ins.toNat) t.frames.length
def gvA (c : NormC) (t : TraceC) : List Int × Nat := if fitsS c t then (givE c t, 0) else ([], 2)
def GvE (c : NormC) (t : TraceC) (w : World) (e : Ending) (w' : World) : Prop :=
  Below w.heap.size w w' ∧ ∃ a n k, e = .returned (.tuple #[.slice a n k, .int .i64 ((gvA c t).2 : Nat)]) ∧ Sees w' a n k (zvs (gvA c t).1)
theorem latG_len (c : NormC) (t : TraceC) (i : Nat) : (latG c t i).length ≤ 1 := by unfold latG; split; exact tellE_len _ _ _ _; simp
theorem givE_len {c : NormC} {t : TraceC} (h : FitsC c t) (k m : Nat) (hk : k ≤ t.frames.length) (hm : m ≤ c.ins.toNat) (f : Nat) : (upE (latG c t) c.lats.length ++ upE (fun f => upE (inG c t f) c.ins.toNat) k ++ upE (inG c t f) m).length ≤ 5000000 := by
  have h1 := upE_len (latG c t) 1 c.lats.length (fun i _ => latG_len c t i)
  have h2 : ∀ g j, (upE (inG c t g) j).length ≤ j * 1 := fun g j => upE_len _ 1 j (fun i _ => tellE_len _ _ _ _)
  have h3 := upE_len (fun f => upE (inG c t f) c.ins.toNat) 16384 k (fun i _ => by have := h2 i c.ins.toNat; have := h.may.few; unfold varsN at this; omega)
  have h4 := h2 f m
  have h5 := h.may.few
  have h6 := h.few
  have h7 : k * 16384 ≤ 256 * 16384 := Nat.mul_le_mul_right _ (by omega)
  unfold varsN at h5
  simp only [List.length_append]
  omega

set_option maxRecDepth 100000 in
set_option maxHeartbeats 12800000 in
theorem given14_any (c : NormC) (t : TraceC) (s : CSlots) (st : TSlots) (w : World) (h : SeesCir w s c) (ht : SeesTr w st t) (hs : s.small) (hst : st.small) (hlo : -9223372036854775808 ≤ c.ins) (hhi : c.ins < 9223372036854775808) (hb1 : -9223372036854775808 ≤ t.bad ∧ t.bad < 9223372036854775808) :
    Calls Try.prog 19 #[cirV c.ins s, traceV t.bad st] w (GvE c t w) := by
  have HFT := Lib.hid (fun W (hb : Below w.heap.size w W) => fits_any c t s st W (h.below hb) (ht.below hb) hs hst hlo hhi hb1)
  have HOF := Lib.hid (fun W (hb : Below w.heap.size w W) => enof_any c s (t.frames.length : Int) W (h.below hb) hs hlo hhi)
  have HFI : Hid (fitsS c t = true → FitsC c t) := fun h => fits_iff.1 h
  have A1 : Hid (fitsS c t = true → gvA c t = (givE c t, 0)) := fun h => by unfold gvA; rw [if_pos h]
  have A2 : Hid (fitsS c t = false → gvA c t = ([], 2)) := fun h => by unfold gvA; rw [if_neg (by rw [h]; simp)]
  have HS1 := Lib.hid h.s1
  have HT1 := Lib.hid ht.s1
  have HT2 := Lib.hid ht.s2
  have l1 : c.lats.length = s.n1 := h.s1.1
  have l2 : c.gates.length = s.n2 := h.s2.1
  have k1 : t.init.length = st.n1 := ht.s1.lenMap
  have k2 : t.frames.length = st.n2 := ht.s2.n_eq
  have HSM := Lib.hid hst
  clear h ht hs hst hlo hhi hb1
  obtain ⟨a1, n1, c1, a2, n2, c2, a3, n3, c3, a4, n4, c4, a5, n5, c5⟩ := s
  obtain ⟨b1, m1, d1, b2, m2, d2, ss⟩ := st
  simp only at HS1 HT1 HT2 l1 l2 k1 k2
  obtain ⟨A, hA⟩ : ∃ A, A = gvA c t := ⟨_, rfl⟩
  unfold GvE
  rw [← hA]
  rw [← hA] at A1 A2
  obtain ⟨q, hq⟩ : ∃ q, q = fitsS c t := ⟨_, rfl⟩
  rw [← hq] at HFT HFI A1 A2
  rw [k2] at HOF
  obtain ⟨x, hx⟩ : ∃ x, x = c.ins := ⟨_, rfl⟩
  obtain ⟨tb, htb⟩ : ∃ x, x = t.bad := ⟨_, rfl⟩
  rw [← hx, ← htb]
  rw [← hx, ← htb] at HFT
  unfold OfE at HOF
  rw [← hx] at HOF
  have HX0 := Lib.hid hx
  clear hA hq hx htb
  unfold cirV traceV at *
  go_enter Try.func19, Try.ntmps19
  go_upto_region 1 with fail
  generalize hW : World.alloc (World.alloc w _) _ = W1
  have hX : W1.heap[w.heap.size]? = some (.cells #[.int .i64 x, .slice a1 n1 c1, .slice a2 n2 c2, .slice a3 n3 c3, .slice a4 n4 c4, .slice a5 n5 c5] 26 (0, 0)) := by subst hW; exact heap_below (heap_new _ _ _ rfl) (ext_alloc _ _)
  have hT : W1.heap[w.heap.size + 1]? = some (.cells #[.int .i64 tb, .slice b1 m1 d1, .slice b2 m2 d2] 30 (0, 0)) := by subst hW; exact heap_new _ _ _ (by simp)
  have hB : Below w.heap.size w W1 := by subst hW; exact ext_trans (ext_alloc _ _) (ext_alloc _ _)
  have HX := Lib.hid hX
  have HT := Lib.hid hT
  have HB := Lib.hid hB
  clear hW hX hT hB
  have p0 := cell_of_block HX.out 0
  have p1 := cell_of_block HX.out 1
  have p2 := cell_of_block HX.out 2
  have p3 := cell_of_block HX.out 3
  have p4 := cell_of_block HX.out 4
  have p5 := cell_of_block HX.out 5
  have r0 := cell_of_block HT.out 0
  have r1 := cell_of_block HT.out 1
  have r2 := cell_of_block HT.out 2
  go_wp2_with fail
  refine (HFT.out W1 HB.out).mono ?_
  rintro e W2 ⟨rfl, hb⟩
  have HX2 := Lib.hid (heap_below HX.out hb)
  have HT2b := Lib.hid (heap_below HT.out hb)
  have HB2 := Lib.hid (ext_trans HB.out hb)
  clear p0 p1 p2 p3 p4 p5 r0 r1 r2 hb HX HT HB HFT
  cases q with
  | false =>
    have HA := Lib.hid (A2.out (by trivial))
    clear HOF HFI A1 A2
    go_wp2
    refine bodyPost_ret (v := .tuple #[.slice none 0 0, .int .i64 2]) ?_ rfl ?_
    · simp [results, Try.results19, go_sem]
    · refine ⟨HB2.out, none, 0, 0, by rw [HA.out]; rfl, ?_⟩
      rw [HA.out]; exact Sees.nil _ _ _ (fun _ => rfl)
  | true =>
    have HA := Lib.hid (A1.out (by trivial))
    have HF := Lib.hid (HFI.out (by trivial))
    clear A1 A2 HFI
    have hfit := HF.out
    obtain ⟨ii, hii⟩ := Int.eq_ofNat_of_zero_le hfit.may.pos
    have hiv : x = (ii : Int) := HX0.out.trans hii
    subst hiv
    have hin : c.ins.toNat = ii := by rw [hii]; rfl
    have hm21 : 1 ≤ m2 := by rw [← k2]; exact hfit.one
    have hm22 : m2 ≤ 256 := by rw [← k2]; exact hfit.few
    have hmn : m1 = n1 := by rw [← k1, hfit.init, l1]
    subst hmn
    have hok : ofOk c (m2 : Int) = true := by unfold ofOk framesOk; rw [mayC_iff.2 hfit.may]; simp; omega
    rw [hok] at HOF
    obtain ⟨V, hV⟩ : ∃ V, V = varsN c := ⟨_, rfl⟩
    rw [← hV] at HOF
    have hV1 : ii + m1 ≤ V := by rw [hV]; unfold varsN; rw [hin, l1]; omega
    have hV2 : V ≤ 16384 := by rw [hV]; exact hfit.may.few
    have HGL : Hid (∀ i, latG c t i = if (c.lats.getD i (0, 0)).2 = 2 then tellE V (1 + ii + i) 0 (t.init.getD i 0).toNat else []) := fun i => by unfold latG firstLatE; rw [hin, ← hV]
    have HGI : Hid (∀ f i, inG c t f i = tellE V (1 + i) f ((t.frames.getD f []).getD i 0).toNat) := fun f i => by unfold inG; rw [← hV]
    have HGV : Hid (givE c t = upE (latG c t) m1 ++ upE (fun f => upE (inG c t f) ii) m2) := by show _ = _; unfold givE; rw [l1, hin, k2]
    have HLEN : Hid (∀ k m f, k ≤ m2 → m ≤ ii → (upE (latG c t) m1 ++ upE (fun f => upE (inG c t f) ii) k ++ upE (inG c t f) m).length ≤ 5000000) := fun k m f hk hm => by have := givE_len hfit k m (by rw [k2]; exact hk) (by rw [hin]; exact hm) f; rw [l1, hin] at this; exact this
    have HLE1 : Hid (∀ k, k ≤ m1 → (upE (latG c t) k).length ≤ 20000) := fun k hk => by have := upE_len (latG c t) 1 k (fun i _ => latG_len c t i); omega
    have HIN : Hid (∀ i, i < m1 → (t.init.getD i 0).toNat ≤ 2) := fun i hi => hfit.inits _ (getD_mem (by rw [k1]; exact hi))
    have HFR : Hid (∀ k, k < m2 → (t.frames.getD k []).length = ii ∧ ∀ i, i < ii → ((t.frames.getD k []).getD i 0).toNat ≤ 2) := fun k hk => by
      have h1 := hfit.frames k (by rw [k2]; exact hk)
      have h2 : (t.frames.getD k []).length = ii := by rw [hii] at h1; omega
      exact ⟨h2, fun i hi => hfit.values _ (getD_mem (by rw [k2]; exact hk)) _ (getD_mem (by rw [h2]; exact hi))⟩
    have HL1 := Lib.hid l1
    have HK1 := Lib.hid k1
    have HK2 := Lib.hid k2
    clear hfit hii hin hok hV l1 l2 k1 k2 HX0 HF
    have p0 := cell_of_block HX2.out 0
    have p1 := cell_of_block HX2.out 1
    have p2 := cell_of_block HX2.out 2
    have p3 := cell_of_block HX2.out 3
    have p4 := cell_of_block HX2.out 4
    have p5 := cell_of_block HX2.out 5
    have r0 := cell_of_block HT2b.out 0
    have r1 := cell_of_block HT2b.out 1
    have r2 := cell_of_block HT2b.out 2
    go_wp2_with fail
    refine (HOF.out W2 HB2.out).mono ?_
    rintro e W3 ⟨hb, hcase⟩
    have HX3 := Lib.hid (heap_below HX2.out hb)
    have HT3 := Lib.hid (heap_below HT2b.out hb)
    have HB3 := Lib.hid (ext_trans HB2.out hb)
    clear p0 p1 p2 p3 p4 p5 r0 r1 r2 hb HX2 HT2b HB2 HOF
    obtain rfl : e = .returned (.tuple #[uV (ii : Int) ⟨a1, m1, c1, a2, n2, c2, a3, n3, c3, a4, n4, c4, a5, n5, c5⟩ V m2, .int .i64 0]) := by rcases hcase with ⟨_, h⟩ | ⟨h, _⟩; exact h; exact absurd h (by simp)
    clear hcase
    unfold uV
    go_upto_region 8 with fail
    generalize hW : World.alloc (World.alloc W3 _) _ = W4
    obtain ⟨U, hU⟩ : ∃ U, U = W3.heap.size := ⟨_, rfl⟩
    obtain ⟨B, hBe⟩ : ∃ B, B = W3.heap.size + 1 := ⟨_, rfl⟩
    have hU4 : W4.heap[U]? = some (.cells #[.int .i64 (ii : Int), .slice a1 m1 c1, .slice a2 n2 c2, .slice a3 n3 c3, .slice a4 n4 c4, .slice a5 n5 c5, .int .i64 (V : Int), .int .i64 (m2 : Int)] 67 (0, 0)) := by subst hW; rw [hU]; exact heap_below (heap_new _ _ _ rfl) (ext_alloc _ _)
    have hB4 : W4.heap[B]? = some (.cells #[.slice none 0 0] 45 (0, 0)) := by subst hW; rw [hBe]; exact heap_new _ _ _ (by simp)
    have hX4 : W4.heap[w.heap.size]? = some (.cells #[.int .i64 (ii : Int), .slice a1 m1 c1, .slice a2 n2 c2, .slice a3 n3 c3, .slice a4 n4 c4, .slice a5 n5 c5] 26 (0, 0)) := by subst hW; exact heap_below HX3.out (ext_trans (ext_alloc _ _) (ext_alloc _ _))
    have hT4 : W4.heap[w.heap.size + 1]? = some (.cells #[.int .i64 tb, .slice b1 m1 d1, .slice b2 m2 d2] 30 (0, 0)) := by subst hW; exact heap_below HT3.out (ext_trans (ext_alloc _ _) (ext_alloc _ _))
    have hbb : Below w.heap.size w W4 := by subst hW; exact ext_trans HB3.out (ext_trans (ext_alloc _ _) (ext_alloc _ _))
    have hUB : U ≠ B := by omega
    have hszB : w.heap.size + 1 < W3.heap.size := heap_lt HT3.out
    have HUB := Lib.hid hUB
    have HXB : Hid (w.heap.size ≠ B) := by show _ ≠ _; omega
    have HTB : Hid (w.heap.size + 1 ≠ B) := by show _ ≠ _; omega
    have HG4 : Hid (GiSt w B [] W4) := ⟨by omega, hbb, none, 0, hB4, Row.nil _ _ _ _⟩
    have HU4 := Lib.hid hU4
    have HX4 := Lib.hid hX4
    have HT4 := Lib.hid hT4
    rw [← hBe]
    rw [← hU]
    clear hW hU4 hB4 hX4 hT4 hbb hUB hszB hU hBe HX3 HT3 HB3
    have HTE := Lib.hid (fun (v f val : Nat) (W : World) (L : List Int) (H : GiSt w B L W) (hL : L.length ≤ 100000000) (hU : W.heap[U]? = _) (hv : v ≤ V) (hf : f ≤ 256) (hval : val ≤ 2) => tell_any v f val (ii : Int) V m2 a1 a2 a3 a4 a5 m1 c1 n2 c2 n3 c3 n4 c4 n5 c5 w W B U L H hL hU hV2 hv hf hval)
    have HFL := Lib.hid (fun W => ufirstLatch_any ii ⟨a1, m1, c1, a2, n2, c2, a3, n3, c3, a4, n4, c4, a5, n5, c5⟩ V m2 (by omega) W)
    unfold uV at HFL
    have p1 := cell_of_block HX4.out 1
    go_wp2_with fail
    clear p1
    go_loopw [35] (fun ix wr => ∃ k : Nat, k ≤ m1 ∧ ix = .int .i64 k ∧ Hid (GiSt w B (upE (latG c t) k) wr) ∧ Hid (KeepB 3 B W4 wr)) (fun ix _ => m1 - (intOf ix).toNat)
    case atStart => exact ⟨0, Nat.zero_le _, rfl, by rw [upE_zero]; exact HG4.out, KeepB.refl _ _ _⟩
    case round =>
      obtain ⟨k, hk, rfl, hG, hK⟩ := hrel
      by_cases hlt : k < m1
      · obtain ⟨b0, o0, rfl, hb0⟩ := HS1.out.addr (by omega)
        obtain ⟨bi, oi, rfl, hbi⟩ := HT1.out.addr (by omega)
        have hcx := (HS1.out.below hG.out.bel).cells k hlt (0, 0)
        have hci := (HT1.out.below hG.out.bel).byte k hlt
        have hgl := HGL.out k
        have hval := HIN.out k hlt
        have hlen := HLE1.out k hk
        obtain ⟨p, hp⟩ : ∃ p, p = c.lats.getD k (0, 0) := ⟨_, rfl⟩
        rw [← hp] at hcx hgl
        obtain ⟨q1, q2⟩ := p
        obtain ⟨hcx1, hcx2⟩ := hcx
        simp only at hcx1 hcx2 hgl
        unfold nv32 at hcx1
        unfold nv8 at hcx2
        obtain ⟨vl, hvl⟩ : ∃ v, v = (t.init.getD k 0).toNat := ⟨_, rfl⟩
        rw [← hvl] at hci hgl hval
        have HVL := Lib.hid hvl
        have hnext : upE (latG c t) (k + 1) = upE (latG c t) k ++ latG c t k := upE_succ _ _
        rw [hgl] at hnext
        obtain ⟨Lk, hLk⟩ : ∃ l, l = upE (latG c t) k := ⟨_, rfl⟩
        rw [← hLk] at hG hnext hlen
        have HTK := Lib.hid (fun W (H : GiSt w B Lk W) (hU : W.heap[U]? = _) => HTE.out (1 + ii + k) 0 vl W Lk H (by omega) hU (by omega) (by omega) hval)
        obtain ⟨fv, hfv⟩ : ∃ n, n = 1 + ii + k := ⟨_, rfl⟩
        rw [← hfv] at hnext HTK
        have WF : IntKind.i64.wrap (1 + (ii : Int) + (k : Int)) = (fv : Int) := by rw [show 1 + (ii : Int) + (k : Int) = (fv : Int) by omega]; exact IntWalk.i64_in _ (by omega)
        have WF2 : IntKind.i64.wrap (((1 + ii : Nat) : Int) + (k : Int)) = (fv : Int) := by rw [show ((1 + ii : Nat) : Int) + (k : Int) = (fv : Int) by omega]; exact IntWalk.i64_in _ (by omega)
        have W8 : IntKind.i64.wrap ((k : Int) + 1) = (k : Int) + 1 := IntWalk.i64_in _ (by omega)
        have I1 : ((k : Nat) : Int) < (m1 : Int) := by omega
        have I2 : (0 : Int) ≤ (k : Int) := by omega
        have HG := Lib.hid hG.out
        have HK := Lib.hid hK.out
        have HUr := Lib.hid (hK.out.block _ _ _ _ HU4.out HUB.out (by decide))
        have HTr := Lib.hid (hK.out.block _ _ _ _ HT4.out HTB.out (by decide))
        have HNX := Lib.hid hnext
        have HLK : Hid (Lk.length ≤ 20000) := hlen
        clear hgl hval hlen hp hvl hnext hLk hfv hG hK hb0 hbi
        by_cases eq2 : q2 = 2
        · subst eq2
          replace HNX : Hid (upE (latG c t) (k + 1) = Lk ++ tellE V fv 0 vl) := HNX.out
          go_upto_region 12 with fail
          generalize hW : World.alloc wr _ = W5
          have HB5 : Hid (Below wr.heap.size wr W5) := by subst hW; exact ext_alloc _ _
          clear hW hcx1 hcx2
          have hU5 := heap_below HUr.out HB5.out
          have hT5 := heap_below HTr.out HB5.out
          have hci5 := cell_below hci HB5.out
          have p_0 : W5.cell? ⟨U, 0, none⟩ = some (.int .i64 (ii : Int)) := cell_of_block hU5 0
          have p_1 : W5.cell? ⟨U, 1, none⟩ = some (.slice (some ⟨b0, o0, none⟩) m1 c1) := cell_of_block hU5 1
          have p_2 : W5.cell? ⟨U, 2, none⟩ = some (.slice a2 n2 c2) := cell_of_block hU5 2
          have p_3 : W5.cell? ⟨U, 3, none⟩ = some (.slice a3 n3 c3) := cell_of_block hU5 3
          have p_4 : W5.cell? ⟨U, 4, none⟩ = some (.slice a4 n4 c4) := cell_of_block hU5 4
          have p_5 : W5.cell? ⟨U, 5, none⟩ = some (.slice a5 n5 c5) := cell_of_block hU5 5
          have p_6 : W5.cell? ⟨U, 6, none⟩ = some (.int .i64 (V : Int)) := cell_of_block hU5 6
          have p_7 : W5.cell? ⟨U, 7, none⟩ = some (.int .i64 (m2 : Int)) := cell_of_block hU5 7
          have p_8 : W5.cell? ⟨w.heap.size + 1, 1, none⟩ = some (.slice (some ⟨bi, oi, none⟩) m1 d1) := cell_of_block hT5 1
          have p_9 : W5.cell? ⟨bi, oi + k, none⟩ = some (.int .u8 (vl : Int)) := hci5
          clear hU5 hT5 hci5 hci
          refine wp_region_noPanic ?_
          refine wp_region_held (S := fun w' => w'.cell? ⟨U, 0, none⟩ = some (.int .i64 (ii : Int)) ∧ w'.cell? ⟨U, 1, none⟩ = some (.slice (some ⟨b0, o0, none⟩) m1 c1) ∧ w'.cell? ⟨U, 2, none⟩ = some (.slice a2 n2 c2) ∧ w'.cell? ⟨U, 3, none⟩ = some (.slice a3 n3 c3) ∧ w'.cell? ⟨U, 4, none⟩ = some (.slice a4 n4 c4) ∧ w'.cell? ⟨U, 5, none⟩ = some (.slice a5 n5 c5) ∧ w'.cell? ⟨U, 6, none⟩ = some (.int .i64 (V : Int)) ∧ w'.cell? ⟨U, 7, none⟩ = some (.int .i64 (m2 : Int)) ∧ w'.cell? ⟨w.heap.size + 1, 1, none⟩ = some (.slice (some ⟨bi, oi, none⟩) m1 d1) ∧ w'.cell? ⟨bi, oi + k, none⟩ = some (.int .u8 (vl : Int))) (by kernel_rfl) ?_
          generalize hYY : ({ W5 with drawn := W5.drawn + 1 } : World) = Y0
          have HY0 : Hid (Below W5.heap.size W5 Y0) := by subst hYY; exact (Below.refl _ _).drew
          have HS0 : Hid (Y0.cell? ⟨U, 0, none⟩ = some (.int .i64 (ii : Int)) ∧ Y0.cell? ⟨U, 1, none⟩ = some (.slice (some ⟨b0, o0, none⟩) m1 c1) ∧ Y0.cell? ⟨U, 2, none⟩ = some (.slice a2 n2 c2) ∧ Y0.cell? ⟨U, 3, none⟩ = some (.slice a3 n3 c3) ∧ Y0.cell? ⟨U, 4, none⟩ = some (.slice a4 n4 c4) ∧ Y0.cell? ⟨U, 5, none⟩ = some (.slice a5 n5 c5) ∧ Y0.cell? ⟨U, 6, none⟩ = some (.int .i64 (V : Int)) ∧ Y0.cell? ⟨U, 7, none⟩ = some (.int .i64 (m2 : Int)) ∧ Y0.cell? ⟨w.heap.size + 1, 1, none⟩ = some (.slice (some ⟨bi, oi, none⟩) m1 d1) ∧ Y0.cell? ⟨bi, oi + k, none⟩ = some (.int .u8 (vl : Int))) := ⟨cell_below p_0 HY0.out, cell_below p_1 HY0.out, cell_below p_2 HY0.out, cell_below p_3 HY0.out, cell_below p_4 HY0.out, cell_below p_5 HY0.out, cell_below p_6 HY0.out, cell_below p_7 HY0.out, cell_below p_8 HY0.out, cell_below p_9 HY0.out⟩
          clear hYY
          clear p_0 p_1 p_2 p_3 p_4 p_5 p_6 p_7 p_8 p_9
          refine wpAnyH_take (i := 0) (v := ?_) (by simp only [List.getElem?_toArray, List.getElem?_cons_zero]; rfl) (by kernel_rfl) (by kernel_rfl) (by kernel_rfl) (fun _ _ _ h => h) (Or.inl ⟨by rfl, ?_⟩) HS0.out ?_
          rotate_left
          · intro w hSw
            (try dsimp only at hSw)
            obtain ⟨q0_, q1_, q2_, q3_, q4_, q5_, q6_, q7_, q8_, q9_⟩ := hSw
            go_simp
            try with_reducible rfl
          try simp only [Act.put, List.setIfInBounds_toArray, List.set_cons_zero, List.set_cons_succ]
          refine wpAnyH_take (i := 1) (v := ?_) (by simp only [List.getElem?_toArray, List.getElem?_cons_zero, List.getElem?_cons_succ]; rfl) (by kernel_rfl) (by kernel_rfl) (by kernel_rfl) (fun _ _ _ h => h) (Or.inl ⟨by rfl, ?_⟩) HS0.out ?_
          rotate_left
          · intro w hSw
            (try dsimp only at hSw)
            obtain ⟨q0_, q1_, q2_, q3_, q4_, q5_, q6_, q7_, q8_, q9_⟩ := hSw
            go_simp
            try with_reducible rfl
          try simp only [Act.put, List.setIfInBounds_toArray, List.set_cons_zero, List.set_cons_succ]
          refine wpAnyH_take (i := 3) (v := ?_) (by simp only [List.getElem?_toArray, List.getElem?_cons_zero, List.getElem?_cons_succ]; rfl) (by kernel_rfl) (by kernel_rfl) (by kernel_rfl) (fun _ _ _ h => h) (Or.inl ⟨by rfl, ?_⟩) HS0.out ?_
          rotate_left
          · intro w hSw
            (try dsimp only at hSw)
            obtain ⟨q0_, q1_, q2_, q3_, q4_, q5_, q6_, q7_, q8_, q9_⟩ := hSw
            go_simp
            try with_reducible rfl
          try simp only [Act.put, List.setIfInBounds_toArray, List.set_cons_zero, List.set_cons_succ]
          refine wpAnyH_take (i := 5) (v := ?_) (by simp only [List.getElem?_toArray, List.getElem?_cons_zero, List.getElem?_cons_succ]; rfl) (by kernel_rfl) (by kernel_rfl) (by kernel_rfl) (fun _ _ _ h => h) (Or.inl ⟨by rfl, ?_⟩) HS0.out ?_
          rotate_left
          · intro w hSw
            (try dsimp only at hSw)
            obtain ⟨q0_, q1_, q2_, q3_, q4_, q5_, q6_, q7_, q8_, q9_⟩ := hSw
            go_simp
            try with_reducible rfl
          try simp only [Act.put, List.setIfInBounds_toArray, List.set_cons_zero, List.set_cons_succ]
          refine wpAnyH_take (i := 6) (v := ?_) (by simp only [List.getElem?_toArray, List.getElem?_cons_zero, List.getElem?_cons_succ]; rfl) (by kernel_rfl) (by kernel_rfl) (by kernel_rfl) (fun _ _ _ h => h) (Or.inl ⟨by rfl, ?_⟩) HS0.out ?_
          rotate_left
          · intro w hSw
            (try dsimp only at hSw)
            obtain ⟨q0_, q1_, q2_, q3_, q4_, q5_, q6_, q7_, q8_, q9_⟩ := hSw
            go_simp
            try with_reducible rfl
          try simp only [Act.put, List.setIfInBounds_toArray, List.set_cons_zero, List.set_cons_succ]
          refine wpAnyH_take (i := 7) (v := ?_) (by simp only [List.getElem?_toArray, List.getElem?_cons_zero, List.getElem?_cons_succ]; rfl) (by kernel_rfl) (by kernel_rfl) (by kernel_rfl) (fun _ _ _ h => h) (Or.inl ⟨by rfl, ?_⟩) HS0.out ?_
          rotate_left
          · intro w hSw
            (try dsimp only at hSw)
            obtain ⟨q0_, q1_, q2_, q3_, q4_, q5_, q6_, q7_, q8_, q9_⟩ := hSw
            go_simp
            try with_reducible rfl
          try simp only [Act.put, List.setIfInBounds_toArray, List.set_cons_zero, List.set_cons_succ]
          refine wpAnyH_take (i := 8) (v := ?_) (by simp only [List.getElem?_toArray, List.getElem?_cons_zero, List.getElem?_cons_succ]; rfl) (by kernel_rfl) (by kernel_rfl) (by kernel_rfl) (fun _ _ _ h => h) (Or.inl ⟨by rfl, ?_⟩) HS0.out ?_
          rotate_left
          · intro w hSw
            (try dsimp only at hSw)
            obtain ⟨q0_, q1_, q2_, q3_, q4_, q5_, q6_, q7_, q8_, q9_⟩ := hSw
            go_simp
            try with_reducible rfl
          try simp only [Act.put, List.setIfInBounds_toArray, List.set_cons_zero, List.set_cons_succ]
          refine wpAnyH_take (i := 9) (v := ?_) (by simp only [List.getElem?_toArray, List.getElem?_cons_zero, List.getElem?_cons_succ]; rfl) (by kernel_rfl) (by kernel_rfl) (by kernel_rfl) (fun _ _ _ h => h) (Or.inl ⟨by rfl, ?_⟩) HS0.out ?_
          rotate_left
          · intro w hSw
            (try dsimp only at hSw)
            obtain ⟨q0_, q1_, q2_, q3_, q4_, q5_, q6_, q7_, q8_, q9_⟩ := hSw
            go_simp
            try with_reducible rfl
          try simp only [Act.put, List.setIfInBounds_toArray, List.set_cons_zero, List.set_cons_succ]
          refine wpAnyH_ready (rs := [2]) (by kernel_rfl) (by simp) ?_
          refine AllReadyH.cons (by simp only [List.getElem?_toArray, List.getElem?_cons_zero, List.getElem?_cons_succ]; rfl) (fun K hK => ?_) AllReadyH.nil
          go_simp
          refine (HFL.out _).mono ?_
          rintro e s1 ⟨rfl, b1⟩
          have HY1 := Lib.hid (ext_trans HY0.out b1)
          have HS1b : Hid (s1.cell? ⟨U, 0, none⟩ = some (.int .i64 (ii : Int)) ∧ s1.cell? ⟨U, 1, none⟩ = some (.slice (some ⟨b0, o0, none⟩) m1 c1) ∧ s1.cell? ⟨U, 2, none⟩ = some (.slice a2 n2 c2) ∧ s1.cell? ⟨U, 3, none⟩ = some (.slice a3 n3 c3) ∧ s1.cell? ⟨U, 4, none⟩ = some (.slice a4 n4 c4) ∧ s1.cell? ⟨U, 5, none⟩ = some (.slice a5 n5 c5) ∧ s1.cell? ⟨U, 6, none⟩ = some (.int .i64 (V : Int)) ∧ s1.cell? ⟨U, 7, none⟩ = some (.int .i64 (m2 : Int)) ∧ s1.cell? ⟨w.heap.size + 1, 1, none⟩ = some (.slice (some ⟨bi, oi, none⟩) m1 d1) ∧ s1.cell? ⟨bi, oi + k, none⟩ = some (.int .u8 (vl : Int))) := ⟨cell_below HS0.out.1 b1, cell_below HS0.out.2.1 b1, cell_below HS0.out.2.2.1 b1, cell_below HS0.out.2.2.2.1 b1, cell_below HS0.out.2.2.2.2.1 b1, cell_below HS0.out.2.2.2.2.2.1 b1, cell_below HS0.out.2.2.2.2.2.2.1 b1, cell_below HS0.out.2.2.2.2.2.2.2.1 b1, cell_below HS0.out.2.2.2.2.2.2.2.2.1 b1, cell_below HS0.out.2.2.2.2.2.2.2.2.2 b1⟩
          refine hK.out _ _ HS1b.out (fun _ => ?_)
          clear hK K
          try simp only [Act.put, List.setIfInBounds_toArray, List.set_cons_zero, List.set_cons_succ]
          clear b1
          refine wpAnyH_take (i := 4) (v := ?_) (by simp only [List.getElem?_toArray, List.getElem?_cons_zero, List.getElem?_cons_succ]; rfl) (by kernel_rfl) (by kernel_rfl) (by kernel_rfl) (fun _ _ _ h => h) (Or.inl ⟨by rfl, ?_⟩) HS1b.out ?_
          rotate_left
          · intro w hSw
            (try dsimp only at hSw)
            obtain ⟨q0_, q1_, q2_, q3_, q4_, q5_, q6_, q7_, q8_, q9_⟩ := hSw
            go_simp
            try with_reducible rfl
          try simp only [Act.put, List.setIfInBounds_toArray, List.set_cons_zero, List.set_cons_succ]
          have HB6 := Lib.hid (ext_trans HB5.out HY1.out)
          refine wpAnyH_ready (rs := [10]) (by kernel_rfl) (by simp) ?_
          refine AllReadyH.cons (by simp only [List.getElem?_toArray, List.getElem?_cons_zero, List.getElem?_cons_succ]; rfl) (fun K hK => ?_) AllReadyH.nil
          go_simp
          refine (HTK.out s1 (HG.out.below HB6.out) (heap_below HUr.out HB6.out)).mono ?_
          rintro e s2 ⟨rfl, hg2, hk2⟩
          have HG2 : Hid (GiSt w B (upE (latG c t) (k + 1)) s2) := by show GiSt _ _ _ _; rw [HNX.out]; exact hg2
          have HK2b := Lib.hid (HK.out.trans ((KeepB.below HB6.out).trans hk2))
          have hu2 := (HK2b.out).block _ _ _ _ HU4.out HUB.out (by decide)
          have ht2 := (HK2b.out).block _ _ _ _ HT4.out HTB.out (by decide)
          have hci2 : s2.cell? ⟨bi, oi + k, none⟩ = some (.int .u8 (vl : Int)) := ((HT1.out.below HG2.out.bel).byte k hlt).trans (by rw [HVL.out])
          have HS2 : Hid (s2.cell? ⟨U, 0, none⟩ = some (.int .i64 (ii : Int)) ∧ s2.cell? ⟨U, 1, none⟩ = some (.slice (some ⟨b0, o0, none⟩) m1 c1) ∧ s2.cell? ⟨U, 2, none⟩ = some (.slice a2 n2 c2) ∧ s2.cell? ⟨U, 3, none⟩ = some (.slice a3 n3 c3) ∧ s2.cell? ⟨U, 4, none⟩ = some (.slice a4 n4 c4) ∧ s2.cell? ⟨U, 5, none⟩ = some (.slice a5 n5 c5) ∧ s2.cell? ⟨U, 6, none⟩ = some (.int .i64 (V : Int)) ∧ s2.cell? ⟨U, 7, none⟩ = some (.int .i64 (m2 : Int)) ∧ s2.cell? ⟨w.heap.size + 1, 1, none⟩ = some (.slice (some ⟨bi, oi, none⟩) m1 d1) ∧ s2.cell? ⟨bi, oi + k, none⟩ = some (.int .u8 (vl : Int))) := ⟨cell_of_block hu2 0, cell_of_block hu2 1, cell_of_block hu2 2, cell_of_block hu2 3, cell_of_block hu2 4, cell_of_block hu2 5, cell_of_block hu2 6, cell_of_block hu2 7, cell_of_block ht2 1, hci2⟩
          clear hg2 hk2 hu2 ht2 hci2
          refine hK.out _ _ HS2.out (fun _ => ?_)
          clear hK K
          try simp only [Act.put, List.setIfInBounds_toArray, List.set_cons_zero, List.set_cons_succ]
          refine wpAnyH_done (by kernel_rfl) ?_ _
          refine NoPanic.normal ?_
          go_wp2
          go_roundw
          case rel => exact ⟨k + 1, by omega, by go_num, HG2.out, HK2b.out⟩
          case measure => simp [intOf]; omega
        · have e1 : ((q2 : Int) == 2) = false := by simp; omega
          have e2 : (q2 == 2) = false := by simp; omega
          have HNX2 : Hid (upE (latG c t) (k + 1) = Lk) := by show _ = _; rw [HNX.out, if_neg eq2, List.append_nil]
          clear HNX eq2
          go_wp2
          go_roundw
          case rel => exact ⟨k + 1, by omega, by go_num, by show GiSt _ _ _ _; rw [HNX2.out]; exact HG.out.below (ext_alloc _ _), HK.out.trans (KeepB.below (ext_alloc _ _))⟩
          case measure => simp [intOf]; omega
      · obtain rfl : m1 = k := by omega
        have HGa := Lib.hid hG.out
        have HKa := Lib.hid hK.out
        obtain ⟨wa, hwa⟩ : ∃ W, W = wr := ⟨_, rfl⟩
        have HTa := Lib.hid (hK.out.block _ _ _ _ HT4.out HTB.out (by decide))
        clear hG hK hwa
        have r2 := cell_of_block HTa.out 2
        go_wp2_with fail
        clear r2
        go_loopw [58] (fun fx wr => ∃ k : Nat, k ≤ m2 ∧ fx = .int .i64 k ∧ Hid (GiSt w B (upE (latG c t) m1 ++ upE (fun f => upE (inG c t f) ii) k) wr) ∧ Hid (KeepB 3 B W4 wr)) (fun fx _ => m2 - (intOf fx).toNat)
        case atStart => exact ⟨0, Nat.zero_le _, rfl, by show GiSt _ _ _ _; rw [upE_zero, List.append_nil]; exact HGa.out, HKa.out⟩
        case round =>
          obtain ⟨k, hk, rfl, hG, hK⟩ := hrel
          by_cases hlt : k < m2
          · obtain ⟨bf, of, rfl, hbf⟩ := HT2.out.row.addr (by omega)
            have hcf := (HT2.out.below hG.out.bel).cellAt k hlt
            have hse := HT2.out.each k (by rw [HK2.out]; exact hlt)
            have hfr := HFR.out k hlt
            obtain ⟨sl, hsl⟩ : ∃ s, s = ss.getD k slc0 := ⟨_, rfl⟩
            rw [← hsl] at hcf hse
            obtain ⟨sa, sn, sc⟩ := sl
            simp only at hcf hse
            have hsn : sn = ii := by rw [← hse.lenMap]; exact hfr.1
            subst hsn
            have HSE := Lib.hid hse
            have HFV := Lib.hid hfr.2
            have hnext : upE (latG c t) m1 ++ upE (fun f => upE (inG c t f) sn) (k + 1) = upE (latG c t) m1 ++ upE (fun f => upE (inG c t f) sn) k ++ upE (inG c t k) sn := by rw [upE_succ, List.append_assoc]
            have HLI : Hid (∀ m, m ≤ sn → (upE (latG c t) m1 ++ upE (fun f => upE (inG c t f) sn) k ++ upE (inG c t k) m).length ≤ 5000000) := fun m hm => HLEN.out k m k hk hm
            obtain ⟨Lk, hLk⟩ : ∃ l, l = upE (latG c t) m1 ++ upE (fun f => upE (inG c t f) sn) k := ⟨_, rfl⟩
            rw [← hLk] at hG hnext HLI
            have HNX := Lib.hid hnext
            have HG := Lib.hid hG.out
            have HK := Lib.hid hK.out
            have I1 : ((k : Nat) : Int) < (m2 : Int) := by omega
            have I2 : (0 : Int) ≤ (k : Int) := by omega
            have W8 : IntKind.i64.wrap ((k : Int) + 1) = (k : Int) + 1 := IntWalk.i64_in _ (by omega)
            have HK256 : Hid (k ≤ 256) := by show _ ≤ _; omega
            clear hse hfr hnext hLk hG hK hsl hbf
            go_wp2_with fail
            clear hcf
            go_loopw [65] (fun jx wr => ∃ j : Nat, j ≤ sn ∧ jx = .int .i64 j ∧ Hid (GiSt w B (Lk ++ upE (inG c t k) j) wr) ∧ Hid (KeepB 3 B W4 wr)) (fun jx _ => sn - (intOf jx).toNat)
            case atStart => exact ⟨0, Nat.zero_le _, rfl, by show GiSt _ _ _ _; rw [upE_zero, List.append_nil]; exact HG.out, HK.out⟩
            case round =>
              obtain ⟨j, hj, rfl, hG, hK⟩ := hrel
              by_cases hlt2 : j < sn
              · obtain ⟨bx, ox, rfl, hbx⟩ := HSE.out.addr (by omega)
                have hcv := (HSE.out.below hG.out.bel).byte j hlt2
                have hval := HFV.out j hlt2
                have hlen := HLI.out j hj
                have hgi := HGI.out k j
                obtain ⟨vl, hvl⟩ : ∃ v, v = ((t.frames.getD k []).getD j 0).toNat := ⟨_, rfl⟩
                rw [← hvl] at hcv hval hgi
                have hnx : Lk ++ upE (inG c t k) (j + 1) = (Lk ++ upE (inG c t k) j) ++ tellE V (1 + j) k vl := by rw [upE_succ, hgi, List.append_assoc]
                obtain ⟨Lj, hLj⟩ : ∃ l, l = Lk ++ upE (inG c t k) j := ⟨_, rfl⟩
                rw [← hLj] at hG hlen hnx
                have HTK := Lib.hid (fun W (H : GiSt w B Lj W) (hU : W.heap[U]? = _) => HTE.out (1 + j) k vl W Lj H (by omega) hU (by omega) HK256.out hval)
                obtain ⟨fv, hfv⟩ : ∃ n, n = 1 + j := ⟨_, rfl⟩
                rw [← hfv] at hnx HTK
                have WF : IntKind.i64.wrap (1 + (j : Int)) = (fv : Int) := by rw [show 1 + (j : Int) = (fv : Int) by omega]; exact IntWalk.i64_in _ (by omega)
                have W9 : IntKind.i64.wrap ((j : Int) + 1) = (j : Int) + 1 := IntWalk.i64_in _ (by omega)
                have I3 : ((j : Nat) : Int) < (sn : Int) := by omega
                have I4 : (0 : Int) ≤ (j : Int) := by omega
                have HNJ := Lib.hid hnx
                have HGj := Lib.hid hG.out
                have HKj := Lib.hid hK.out
                have HUj := Lib.hid (hK.out.block _ _ _ _ HU4.out HUB.out (by decide))
                clear hval hlen hgi hvl hnx hLj hfv hG hK hbx
                go_wp2_with fail
                refine (HTK.out wr HGj.out HUj.out).mono ?_
                rintro e w5 ⟨rfl, hg2, hk2⟩
                have HG2 : Hid (GiSt w B (Lk ++ upE (inG c t k) (j + 1)) w5) := by show GiSt _ _ _ _; rw [HNJ.out]; exact hg2
                have HK5 := Lib.hid (HKj.out.trans hk2)
                clear hg2 hk2 hcv
                go_wp2
                go_roundw
                case rel => exact ⟨j + 1, by omega, by go_num, HG2.out, HK5.out⟩
                case measure => simp [intOf]; omega
              · obtain rfl : sn = j := by omega
                have HG2 : Hid (GiSt w B (upE (latG c t) m1 ++ upE (fun f => upE (inG c t f) sn) (k + 1)) wr) := by show GiSt _ _ _ _; rw [HNX.out]; exact hG.out
                have HK5 := Lib.hid hK.out
                clear hG hK
                go_wp2
                go_roundw
                case rel => exact ⟨k + 1, by omega, by go_num, HG2.out, HK5.out⟩
                case measure => simp [intOf]; omega
          · obtain rfl : m2 = k := by omega
            obtain ⟨ra, rk, hbx, hrw⟩ := hG.out.has
            have d0 := cell_of_block hbx 0
            have HRW := Lib.hid hrw
            have HBE := Lib.hid hG.out.bel
            rw [← HGV.out] at HRW
            rw [← HGV.out] at d0
            clear hG hK hbx hrw
            go_wp2
            refine bodyPost_ret (v := .tuple #[.slice ra (givE c t).length rk, .int .i64 0]) ?_ rfl ?_
            · simp [results, Try.results19, go_sem]
            · refine ⟨HBE.out, ra, _, rk, by rw [HA.out]; rfl, ?_⟩
              rw [HA.out]
              exact (row_sees_slice HRW.out).2
end Go.Proofs.Ytcoehbkjccfhlaa
