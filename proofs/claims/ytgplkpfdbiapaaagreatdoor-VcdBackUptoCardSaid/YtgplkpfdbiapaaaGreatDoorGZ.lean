/- VcdBack returns true for every circuit and trace, where what it reads is of bulk at most 1048576: what is written is read as one time more than there are frames, and as the values that the run has. Conditions: the bound; the listed variables start as the program's text lays them (the card ties them). -/
import Derived.Test.YtgplkpfdbiapaaaGreatDoorLib
import Derived.Test.YtgplkpfdbiapaaaGreatDoorNBase
import Derived.Test.YtgplkpfdbiapaaaGreatDoorGA3
import Derived.Test.YtgplkpfdbiapaaaGreatDoorGA1
import Derived.Test.YtgplkpfdbiapaaaGreatDoorNHeap
import Derived.Test.YtgplkpfdbiapaaaGreatDoorGA4
import Derived.Test.YtgplkpfdbiapaaaGreatDoorGN1
import Derived.Test.YtgplkpfdbiapaaaGreatDoorGB
import Derived.Test.YtgplkpfdbiapaaaGreatDoorSRun
import Derived.Test.YtgplkpfdbiapaaaGreatDoorGF1
import Derived.Test.YtgplkpfdbiapaaaGreatDoorGD1
import Derived.Test.YtgplkpfdbiapaaaGreatDoorGE1
import Derived.Test.YtgplkpfdbiapaaaGreatDoorGE2
import Derived.Test.YtgplkpfdbiapaaaGreatDoorSRRun
import Derived.Test.YtgplkpfdbiapaaaGreatDoorGG
import Derived.Test.YtgplkpfdbiapaaaGreatDoorGI2
import Derived.Test.YtgplkpfdbiapaaaGreatDoorVdWrite
import Derived.Test.YtgplkpfdbiapaaaGreatDoorGK
import Derived.Test.YtgplkpfdbiapaaaGreatDoorVdRead
import Derived.Test.YtgplkpfdbiapaaaGreatDoorGO
import Derived.Test.YtgplkpfdbiapaaaGreatDoorRows
import Derived.Test.YtgplkpfdbiapaaaGreatDoorShelf
import Derived.Test.YtgplkpfdbiapaaaGreatDoorShelf2
import Derived.BigQuiet
import Derived.BigRegion
import Derived.Deep.AppendLies
import Derived.Deep.CutRange
import Derived.Deep.QuietTactic
import Derived.Deep.RegionHeld3
import Derived.Deep.RegionLaw
import Derived.Deep.RegionWith
import Derived.KernelRfl
import Derived.Laws.Bits64b
import Derived.Laws.BitsAllLaws
import Derived.Laws.BitsLemmas
import Derived.Laws.CopyOwn
import Derived.Laws.EntriesVeiled
import Derived.Laws.IdiomCopy
import Derived.Laws.OwnMore
import Derived.Laws.Runes
import Derived.Laws.Tables
import Derived.Lib.AppendIntMem
import Derived.Lib.AppendStr
import Derived.Lib.AppendZeros
import Derived.Lib.BufferWrite
import Derived.Lib.ConvBytes
import Derived.Lib.DecodeN
import Derived.Lib.Hide
import Derived.Lib.Index
import Derived.Lib.IndexEntry
import Derived.Lib.ItoaNum
import Derived.Lib.Join
import Derived.Lib.MakeNoZero
import Derived.Lib.ParseIntBCases
import Derived.Lib.SlBytesRow
import Derived.Lib.SmallJoins
import Derived.LoopIn
import Derived.LoopNIn
import Derived.Maps.AppendAt
import Derived.Maps.Own
import Derived.Maps.OwnOps
import Derived.Maps.OwnSet
import Derived.OrdersHeld
import Derived.OrdersIn
import Derived.OwnWalkIn
import Derived.RangeFuncBox
import Derived.RangeFuncCalls
import Derived.RangeFuncLeaves
import Derived.RangeFuncNested
import Derived.RangeFuncWrites
import Derived.Shelf.Abstract
import Derived.Shelf.Bytes.SlSmallAll
import Derived.Shelf.Pu.Lower
import Derived.Shelf.Pu.ToError
import Derived.Shelf.Pu.ToErrorRange
import Derived.Shelf.RegionOpen
import Derived.Shelf.Spec.DecodeRune
import Derived.Shelf.Unicode.DecodeSlow
import Derived.Sort.CutIn
import Derived.Stop.RegionWithIn
import Derived.TacticsInMore
import Derived.WalkKit
import Derived.WalkLawsBesides
import Derived.WalkSpells
import Derived.Test.YtgplkpfdbiapaaaGreatDoorPost0
import Derived.Test.YtgplkpfdbiapaaaGreatDoorPost
import Derived.Test.YtgplkpfdbiapaaaGreatDoorGA2
import Derived.Test.YtgplkpfdbiapaaaGreatDoorNOpen
import Derived.Test.YtgplkpfdbiapaaaGreatDoorVdLaid
import Derived.Test.YtgplkpfdbiapaaaGreatDoorVdSt1
import Derived.Test.YtgplkpfdbiapaaaGreatDoorCards
import Derived.Test.YtgplkpfdbiapaaaGreatDoorTie
import Derived.ChangeSame
import Derived.Deep.DeepHandedRow
import Derived.Deep.Fields
import Derived.Deep.Slices
import Derived.LaidMore
import Derived.Lay
import Derived.Lib.LaidTab
import Derived.Lib.LaidU8T
import Derived.OpenShut
import Derived.PinnedBridge
import Derived.ProofKit
import Derived.Shelf.Vars
import Derived.Stop.LaidErr
/- The law VcdBack, walked. -/
namespace Go.Proofs.YtgplkpfdbiapaaaGreatDoor
open Go Go.RowKit Go.Joins Go.Shelf Go.Maps

/-- What Read makes of what Write tells. -/
def BackPost (c : NormC) (t : TraceC) (W : World) (e : Ending) (w' : World) : Prop :=
  ∃ ta tc va vc ss, e = .returned (.tuple #[.slice ta (t.frames.length + 1) tc, .slice va (varsN c + c.bads.length) vc, .int .i64 0]) ∧ Sees w' ta (t.frames.length + 1) tc ((List.range (t.frames.length + 1)).map nv32) ∧ OwnW w' W.heap.size (.slice va (varsN c + c.bads.length) vc) ss (wavesT c t) ∧ Below W.heap.size W w'
theorem back_read {c : NormC} {t : TraceC} (hf : FitsC c t) (hg : great10 c t = false) (W : World) (G : GapEnv W) (GN : NumEnv W) (a : Option Addr) (n cc : Nat) (h : Sees W a n cc ((fileT c t).map bv)) (hc : cc ≤ maxLen) :
    Calls Tryz.prog 9 #[.slice a n cc] W (BackPost c t W) := by
  refine (read_any W G GN (fileT c t) a n cc h hc).mono ?_
  rintro e w' ⟨hb, tv, vv, ss, he, ht, hw⟩
  rw [read_waves hf hg] at he ht hw
  obtain ⟨ta, tc, rfl⟩ := ht.form
  obtain ⟨va, vc, rfl⟩ := ownsN_form hw.row
  have e1 : (List.range (t.frames.length + 1)).length = t.frames.length + 1 := List.length_range
  simp only [e1, waves_len] at he
  have h1 := (row_sees_slice ht).2
  simp only [e1] at h1
  have h2 := hw
  simp only [waves_len] at h2
  exact ⟨ta, tc, va, vc, ss, he, h1, h2, hb⟩
set_option maxRecDepth 100000 in
set_option maxHeartbeats 25600000 in
theorem vcdback_any (c : NormC) (t : TraceC) (s : CSlots) (st : TSlots) (w : World) (h : SeesCir w s c) (ht : SeesTr w st t) (hs : s.small) (hst : st.small) (hlo : -9223372036854775808 ≤ c.ins) (hhi : c.ins < 9223372036854775808) (hb1 : -9223372036854775808 ≤ t.bad ∧ t.bad < 9223372036854775808) (hwd : Wide c)
    (G : GapEnv w) (GN : NumEnv w) (htab : TabV w) (hdig : DigEnv w) :
    Calls Tryz.prog 3 #[cirV c.ins s, traceV t.bad st] w fun e w' => e = .returned (.bool true) ∧ Below w.heap.size w w' := by
  have HWR := Lib.hid (fun W (hb : Below w.heap.size w W) => write10_any c t s st W (h.below hb) (ht.below hb) hs hst hlo hhi hb1 (htab.below hb) (hdig.below hb))
  have HGR := Lib.hid (fun W (hb : Below w.heap.size w W) => great10_any c t s st W (h.below hb) (ht.below hb))
  have HFT := Lib.hid (fun W (hb : Below w.heap.size w W) => reffits_any c t s st W (h.below hb) (ht.below hb) hs hst hlo hhi hb1 hwd)
  have HRU := Lib.hid (fun W (hb : Below w.heap.size w W) => rrun_any c t s st W (h.below hb) (ht.below hb) hs hst hlo hhi hb1 hwd)
  have HVR := Lib.hid (fun W (hb : Below w.heap.size w W) => refvars_any c s W (h.below hb) hs hlo hhi hwd)
  have HLV := Lib.hid (fun W (hb : Below w.heap.size w W) => lives10_any W (G.below hb) (GN.below hb) (htab.below hb) (hdig.below hb))
  have HG := Lib.hid G
  have HGN := Lib.hid GN
  have HS4 := Lib.hid (fun W (hb : Below w.heap.size w W) => (h.below hb).s4)
  have HWD := Lib.hid hwd
  have HBL : Hid (c.bads.length = s.n4) := h.s4.lenMap
  obtain ⟨q, hq⟩ : ∃ q, q = fitsS c t := ⟨_, rfl⟩
  have HQ := Lib.hid hq
  clear h ht hs hst hlo hhi hb1 hwd G GN htab hdig hq
  unfold cirV at HVR
  unfold cirV traceV at HWR HGR HFT HRU ⊢
  go_enter Tryz.func3, Tryz.ntmps3
  go_upto_region 1 with fail
  generalize hW : World.alloc (World.alloc w _) _ = W1
  have hlow : Below w.heap.size w W1 := by subst hW; exact ext_trans (ext_alloc _ _) (ext_alloc _ _)
  have hbc : W1.heap[w.heap.size]? = some (.cells #[.int .i64 c.ins, .slice s.a1 s.n1 s.c1, .slice s.a2 s.n2 s.c2, .slice s.a3 s.n3 s.c3, .slice s.a4 s.n4 s.c4, .slice s.a5 s.n5 s.c5] 26 (0, 0)) := by subst hW; exact heap_below (heap_new _ _ _ rfl) (ext_alloc _ _)
  have hbt : W1.heap[w.heap.size + 1]? = some (.cells #[.int .i64 t.bad, .slice st.a1 st.n1 st.c1, .slice st.a2 st.n2 st.c2] 30 (0, 0)) := by subst hW; exact heap_new _ _ _ (by simp)
  obtain ⟨x0, hx0⟩ : ∃ x, x = c.ins := ⟨_, rfl⟩
  obtain ⟨y0, hy0⟩ : ∃ x, x = t.bad := ⟨_, rfl⟩
  rw [← hx0] at hbc HWR HGR HFT HRU HVR
  rw [← hy0] at hbt HWR HGR HFT HRU
  have hC : ∀ W, Below W1.heap.size W1 W → Below w.heap.size w W ∧ W.cell? ⟨w.heap.size, 0, none⟩ = some (.int .i64 x0) ∧ W.cell? ⟨w.heap.size, 1, none⟩ = some (.slice s.a1 s.n1 s.c1) ∧ W.cell? ⟨w.heap.size, 2, none⟩ = some (.slice s.a2 s.n2 s.c2) ∧ W.cell? ⟨w.heap.size, 3, none⟩ = some (.slice s.a3 s.n3 s.c3) ∧ W.cell? ⟨w.heap.size, 4, none⟩ = some (.slice s.a4 s.n4 s.c4) ∧ W.cell? ⟨w.heap.size, 5, none⟩ = some (.slice s.a5 s.n5 s.c5) ∧ W.cell? ⟨w.heap.size + 1, 0, none⟩ = some (.int .i64 y0) ∧ W.cell? ⟨w.heap.size + 1, 1, none⟩ = some (.slice st.a1 st.n1 st.c1) ∧ W.cell? ⟨w.heap.size + 1, 2, none⟩ = some (.slice st.a2 st.n2 st.c2) := fun W hb => by
    have h1 := heap_below hbc hb
    have h2 := heap_below hbt hb
    exact ⟨ext_trans hlow hb, cell_of_block h1 0, cell_of_block h1 1, cell_of_block h1 2, cell_of_block h1 3, cell_of_block h1 4, cell_of_block h1 5, cell_of_block h2 0, cell_of_block h2 1, cell_of_block h2 2⟩
  have HC := Lib.hid hC
  clear hW hlow hbc hbt hx0 hy0 hC
  obtain ⟨hl1, k0, k1, k2, k3, k4, k5, j0, j1, j2⟩ := HC.out W1 (Below.refl _ _)
  go_wp2_with fail
  refine (HWR.out _ hl1).mono ?_
  intro e w2 hp
  have HX2 : Hid (Below W1.heap.size W1 w2) := hp.2.2
  clear hl1 k0 k1 k2 k3 k4 k5 j0 j1 j2
  cases q with
  | false =>
    have he := hp.2.1 HQ.out.symm
    subst he
    clear hp
    obtain ⟨hl2, k0, k1, k2, k3, k4, k5, j0, j1, j2⟩ := HC.out w2 HX2.out
    go_wp2_with fail
    refine (HGR.out _ hl2).mono ?_
    rintro e w3 ⟨rfl, hb3⟩
    have HX3 : Hid (Below W1.heap.size W1 w3) := ext_trans HX2.out hb3
    obtain ⟨gq, hgq⟩ : ∃ gq, gq = great10 c t := ⟨_, rfl⟩
    have HGQ := Lib.hid hgq
    rw [← hgq]
    clear hl2 hb3 hgq HX2 k0 k1 k2 k3 k4 k5 j0 j1 j2
    obtain ⟨hl3, k0, k1, k2, k3, k4, k5, j0, j1, j2⟩ := HC.out w3 HX3.out
    cases gq with
    | true =>
      clear hl3
      have hg2 := HGR.out w3 (HC.out w3 HX3.out).1
      rw [← HGQ.out] at hg2
      have HG2 := Lib.hid hg2
      clear hg2
      go_wp2_with fail
      refine HG2.out.mono ?_
      rintro e w4 ⟨rfl, hb4⟩
      have hl4 := (HC.out w4 (ext_trans HX3.out hb4)).1
      have HL4 := Lib.hid hl4
      have HL := Lib.hid (HLV.out w4 hl4)
      clear hb4 hl4 k0 k1 k2 k3 k4 k5 j0 j1 j2 HG2
      go_wp2_with fail
      refine HL.out.mono ?_
      rintro e w5 ⟨rfl, hb5⟩
      have HE : Hid (Below w.heap.size w w5) := ext_trans HL4.out hb5
      clear hb5 HL
      go_wp2
      go_ret
      exact ⟨rfl, HE.out⟩
    | false =>
      have hf := HFT.out _ hl3
      rw [← HQ.out] at hf
      have HF := Lib.hid hf
      clear hf hl3
      go_wp2_with fail
      refine HF.out.mono ?_
      rintro e w4 ⟨rfl, hb4⟩
      have hl4 := (HC.out w4 (ext_trans HX3.out hb4)).1
      have HL4 := Lib.hid hl4
      have HL := Lib.hid (HLV.out w4 hl4)
      clear hb4 hl4 k0 k1 k2 k3 k4 k5 j0 j1 j2
      go_wp2_with fail
      refine HL.out.mono ?_
      rintro e w5 ⟨rfl, hb5⟩
      have HE : Hid (Below w.heap.size w w5) := ext_trans HL4.out hb5
      clear hb5 HL
      go_wp2
      go_ret
      exact ⟨rfl, HE.out⟩
  | true =>
    obtain ⟨v, rfl, hrow⟩ := hp.1 HQ.out.symm
    obtain ⟨nf, hnf⟩ : ∃ nf, nf = (fileT c t).length := ⟨_, rfl⟩
    rw [← hnf] at hrow
    obtain ⟨ba, bc, rfl⟩ := ownsN_form hrow
    have HROW := Lib.hid hrow
    have HNFL := Lib.hid hnf
    clear hp hrow hnf
    obtain ⟨hl2, k0, k1, k2, k3, k4, k5, j0, j1, j2⟩ := HC.out w2 HX2.out
    go_wp2_with fail
    refine (HGR.out _ hl2).mono ?_
    rintro e w3 ⟨rfl, hb3⟩
    have HX3 : Hid (Below W1.heap.size W1 w3) := ext_trans HX2.out hb3
    have HY3 : Hid (Below w2.heap.size w2 w3) := hb3
    obtain ⟨gq, hgq⟩ : ∃ gq, gq = great10 c t := ⟨_, rfl⟩
    have HGQ := Lib.hid hgq
    rw [← hgq]
    clear hl2 hb3 hgq HX2 k0 k1 k2 k3 k4 k5 j0 j1 j2
    obtain ⟨hl3, k0, k1, k2, k3, k4, k5, j0, j1, j2⟩ := HC.out w3 HX3.out
    cases gq with
    | true =>
      clear hl3
      have hg2 := HGR.out w3 (HC.out w3 HX3.out).1
      rw [← HGQ.out] at hg2
      have HG2 := Lib.hid hg2
      clear hg2
      go_wp2_with fail
      refine HG2.out.mono ?_
      rintro e w4 ⟨rfl, hb4⟩
      have hl4 := (HC.out w4 (ext_trans HX3.out hb4)).1
      have HL4 := Lib.hid hl4
      have HL := Lib.hid (HLV.out w4 hl4)
      clear hb4 hl4 k0 k1 k2 k3 k4 k5 j0 j1 j2 HG2
      go_wp2_with fail
      refine HL.out.mono ?_
      rintro e w5 ⟨rfl, hb5⟩
      have HE : Hid (Below w.heap.size w w5) := ext_trans HL4.out hb5
      clear hb5 HL
      go_wp2
      go_ret
      exact ⟨rfl, HE.out⟩
    | false =>
      have hf := HFT.out _ hl3
      rw [← HQ.out] at hf
      have HF := Lib.hid hf
      clear hf hl3
      go_wp2_with fail
      refine HF.out.mono ?_
      rintro e w4 ⟨rfl, hb4⟩
      have HX4 : Hid (Below W1.heap.size W1 w4) := ext_trans HX3.out hb4
      have hl4 := (HC.out w4 HX4.out).1
      have hfit := fits_iff.1 HQ.out.symm
      have hrow4 := ownsN_below HROW.out (ext_trans HY3.out hb4)
      obtain ⟨a', c', e', hbc, hsee⟩ := Sees.owned hrow4
      cases e'
      have hrd := back_read hfit HGQ.out.symm w4 (HG.out.below hl4) (HGN.out.below hl4) ba nf bc hsee hbc
      obtain ⟨T, hT⟩ : ∃ T, T = t.frames.length + 1 := ⟨_, rfl⟩
      obtain ⟨V, hV⟩ : ∃ V, V = varsN c := ⟨_, rfl⟩
      obtain ⟨wn, hwn⟩ : ∃ wn, wn = V + s.n4 := ⟨_, rfl⟩
      unfold BackPost at hrd
      rw [HBL.out, ← hT, ← hV, ← hwn] at hrd
      have HRD := Lib.hid hrd
      have HTT := Lib.hid hT
      have HVV := Lib.hid hV
      have HWN := Lib.hid hwn
      have HFC := Lib.hid hfit
      have hn4 : 0 < s.n4 := by rw [← HBL.out]; have := hfit.bad; omega
      have hv16 : V ≤ 16384 := by rw [hV]; exact hfit.may.few
      have hn41 : s.n4 ≤ 1024 := by rw [← HBL.out]; exact hfit.may.lens.2.1
      have ht256 : T ≤ 257 := by rw [hT]; have := hfit.few; omega
      have ht2 : 2 ≤ T := by rw [hT]; have := hfit.one; omega
      clear hb4 hl4 hfit hrow4 hsee hbc hrd hT hV hwn HROW HNFL HY3 HX3 HF k0 k1 k2 k3 k4 k5 j0 j1 j2
      go_wp2_with fail
      refine HRD.out.mono ?_
      rintro e w5 ⟨ta, tc, va, vc, ws, rfl, ht5, hw5, hb5⟩
      have HX5 : Hid (Below W1.heap.size W1 w5) := ext_trans HX4.out hb5
      have HT5 := Lib.hid ht5
      have HW5 := Lib.hid hw5
      obtain ⟨hl5, k0, k1, k2, k3, k4, k5, j0, j1, j2⟩ := HC.out w5 HX5.out
      clear hb5 ht5 hw5 HRD HX4
      go_wp2_with fail
      refine (HRU.out _ hl5).mono ?_
      intro e w6 hp
      obtain ⟨ra, rc, rs, rfl, hss, hb6⟩ := run_sees hp HQ.out.symm
      obtain ⟨N, hN⟩ : ∃ N, N = t.frames.length := ⟨_, rfl⟩
      rw [← hN] at hss ⊢
      have HX6 : Hid (Below W1.heap.size W1 w6) := ext_trans HX5.out hb6
      have HT6 := Lib.hid (HT5.out.below hb6)
      have HW6 := Lib.hid (HW5.out.below hb6)
      have HSS := Lib.hid hss
      have hTN : T = N + 1 := by rw [HTT.out, hN]
      have HNN := Lib.hid hN
      have HTN := Lib.hid hTN
      have hN256 : N ≤ 256 := by omega
      have hN1 : 1 ≤ N := by omega
      have Wt : IntKind.i64.wrap ((N : Int) + 1) = (T : Int) := by rw [IntWalk.i64_in _ (by omega)]; omega
      have Wv : IntKind.i64.wrap ((V : Int) + (s.n4 : Int)) = (wn : Int) := by rw [IntWalk.i64_in _ (by omega), HWN.out]; omega
      have hvr : ∀ W, Below W1.heap.size W1 W → Calls Tryz.prog 11 #[.agg #[.int .i64 x0, .slice s.a1 s.n1 s.c1, .slice s.a2 s.n2 s.c2, .slice s.a3 s.n3 s.c3, .slice s.a4 s.n4 s.c4, .slice s.a5 s.n5 s.c5]] W fun e w' => e = .returned (.int .i64 (V : Int)) ∧ Below W.heap.size W w' := fun W hb => by
        have h1 := HVR.out W (HC.out W hb).1
        have e1 : varsC c = V := by rw [HVV.out]; unfold varsC; rw [if_pos (mayC_iff.2 HFC.out.may)]
        rw [e1] at h1
        exact h1
      have HVC := Lib.hid hvr
      clear hp hss hb6 hN hTN hvr hl5 HX5 HT5 HW5 HRU HGR HFT HWR HVR k0 k1 k2 k3 k4 k5 j0 j1 j2
      go_upto_region 8 with fail
      refine reg_Vk8 w.heap.size s.n1 s.c1 s.n2 s.c2 s.n3 s.c3 s.n4 s.c4 s.n5 s.c5 s.a1 s.a2 s.a3 s.a4 s.a5 x0 ta va ra T tc wn vc N rc V w6 Wt Wv (fun W hW => ?_) (fun W hW => ?_) _ ?_
      · obtain ⟨_, k0, k1, k2, k3, k4, k5, _, _, _⟩ := HC.out W (ext_trans HX6.out hW)
        exact ⟨k0, k1, k2, k3, k4, k5⟩
      · exact (HVC.out W (ext_trans HX6.out hW)).mono fun e w' h => ⟨h.1, h.2.mono hW.size⟩
      intro w7
      intros
      rename_i hb7
      have HX7 : Hid (Below W1.heap.size W1 w7) := ext_trans HX6.out hb7
      have HT7 := Lib.hid (HT6.out.below hb7)
      have HW7 := Lib.hid (HW6.out.below hb7)
      have HS7 := Lib.hid (HSS.out.below hb7)
      clear hb7 HX6 HT6 HW6 HSS Wt Wv
      obtain ⟨tb, tof, rfl, _⟩ := HT7.out.addr (show 0 < T by omega)
      obtain ⟨rb, ro, rfl, _⟩ := HS7.out.row.addr (show 0 < N by omega)
      have hwl : (wavesT c t).length = wn := by rw [waves_len, HWN.out, HVV.out, HBL.out]
      obtain ⟨Vb, _, _, _, rfl, _⟩ := wave_cells HW7.out (show 0 < (wavesT c t).length by rw [hwl]; have := HWN.out; omega)
      obtain ⟨bb, bo, ha4, _⟩ := (HS4.out w7 (HC.out w7 HX7.out).1).addr hn4
      have HA4 := Lib.hid ha4
      have HWL := Lib.hid hwl
      have hwn : wn ≤ 20000 := by have := HWN.out; omega
      clear ha4 hwl
      go_wp2
      go_loopg [12, 13, 14, 15, 82] T (fun g _ _ _ _ kv wq => ∃ k : Nat, k + g = T ∧ kv = .int .i64 k ∧ Hid (Below w7.heap.size w7 wq))
      case atStart => exact ⟨0, by omega, rfl, Below.refl _ _⟩
      case round =>
        obtain ⟨k, hk, rfl, hb⟩ := hrel
        have HB := Lib.hid hb.out
        clear hb
        cases gk with
        | zero =>
          obtain rfl : T = k := by omega
          have HXE : Hid (Below W1.heap.size W1 wr) := ext_trans HX7.out HB.out
          have hle := (HC.out wr HXE.out).1
          have HLE2 := Lib.hid hle
          have HL := Lib.hid (HLV.out wr hle)
          clear hle
          go_wp2_with fail
          refine HL.out.mono ?_
          rintro e w9 ⟨rfl, hb9⟩
          have HE : Hid (Below w.heap.size w w9) := ext_trans HLE2.out hb9
          clear hb9 HL
          go_wp2
          go_ret
          exact ⟨rfl, HE.out⟩
        | succ g =>
          have hkT : k < T := by omega
          have hkz : (k : Int) < (T : Int) := by omega
          have hkz0 : (0 : Int) ≤ (k : Int) := by omega
          have hTN : T = N + 1 := HTN.out
          obtain ⟨km, hkm⟩ : ∃ km, km = min k (N - 1) := ⟨_, rfl⟩
          have hkmN : km < N := by omega
          have hkmz : (km : Int) < (N : Int) := by omega
          have hkmz0 : (0 : Int) ≤ (km : Int) := by omega
          obtain ⟨nm, hnm⟩ : ∃ nm, nm = N - 1 := ⟨_, rfl⟩
          have Wn : IntKind.i64.wrap ((N : Int) - 1) = (nm : Int) := by rw [IntWalk.i64_in _ (by omega)]; omega
          have Wmin : min (k : Int) (nm : Int) = (km : Int) := by omega
          have Wk : IntKind.u32.wrap (k : Int) = (k : Int) := by rw [IntKind.wrap_u32]; omega
          have Wk1 : IntKind.i64.wrap ((k : Int) + 1) = ((k + 1 : Nat) : Int) := by rw [IntWalk.i64_in _ (by omega)]; omega
          have HKM := Lib.hid hkm
          have hct : wr.cell? ⟨tb, tof + k, none⟩ = some (.int .u32 (k : Int)) := by
            have h1 := (HT7.out.below HB.out).num k hkT
            rw [List.getD_eq_getElem?_getD, List.getElem?_range hkT] at h1
            exact h1
          have hcr := (HS7.out.below HB.out).cellAt km hkmN
          have hsr := HS7.out.each km (by unfold runRows; rw [List.length_map, List.length_range, ← HNN.out]; exact hkmN)
          rw [runRows_at c t km (by rw [← HNN.out]; exact hkmN)] at hsr
          obtain ⟨x, hx⟩ : ∃ x : Slc, x = rs.getD km slc0 := ⟨_, rfl⟩
          rw [← hx] at hcr hsr
          obtain ⟨xa, xn, xc⟩ := x
          simp only at hcr hsr
          have hxn : xn = 1 + V := by
            have h1 := hsr.lenMap
            rw [varsAt_len c t HFC.out.init HFC.out.frames km (by rw [← HNN.out]; exact hkmN), ← HVV.out] at h1
            exact h1.symm
          obtain ⟨xb, xo, rfl, _⟩ := hsr.addr (by omega)
          have HSR := Lib.hid hsr
          have HXN := Lib.hid hxn
          have ek : ((k : Int) != (k : Int)) = false := by simp
          have ek2 : (k != k) = false := by simp
          clear hTN hkm hnm hx hsr hxn
          go_wp2
          go_loopg [14, 15, 102] wn (fun g2 _ _ iv wq => ∃ i : Nat, i + g2 = wn ∧ iv = .int .i64 i ∧ Hid (Below w7.heap.size w7 wq))
          case atStart => exact ⟨0, by omega, rfl, HB.out⟩
          case round =>
            obtain ⟨i, hi, rfl, hb⟩ := hrel
            have HB2 := Lib.hid hb.out
            clear hb HB hct hcr Wn Wmin Wk ek ek2
            cases gk with
            | zero =>
              obtain rfl : wn = i := by omega
              go_wp2
              go_roundg g
              case measure => omega
              case rel => exact ⟨k + 1, by omega, rfl, HB2.out⟩
            | succ g2 =>
              have hiw : i < wn := by omega
              have hiz : (i : Int) < (wn : Int) := by omega
              have hiz0 : (0 : Int) ≤ (i : Int) := by omega
              obtain ⟨ix, hix⟩ : ∃ ix, ix = i + 1 := ⟨_, rfl⟩
              have Wi : IntKind.i64.wrap ((i : Int) + 1) = (ix : Int) := by rw [IntWalk.i64_in _ (by omega)]; omega
              have HIX := Lib.hid hix
              have HX8 : Hid (Below W1.heap.size W1 wr) := ext_trans HX7.out HB2.out
              obtain ⟨_, k0, k1, k2, k3, k4, k5, j0, j1, j2⟩ := HC.out wr HX8.out
              obtain ⟨uz, huz⟩ : ∃ uz : Nat, uz = (waveU c t i k).toNat := ⟨_, rfl⟩
              have HUZ := Lib.hid huz
              have HVQ := Lib.hid (HVC.out wr HX8.out)
              clear huz hix
              go_wp2_with fail
              refine HVQ.out.mono ?_
              rintro e w8 ⟨rfl, hb8⟩
              have HB8 : Hid (Below w7.heap.size w7 w8) := ext_trans HB2.out hb8
              clear hb8 HVQ HB2 HX8 k0 k1 k2 k3 k4 k5 j0 j1 j2
              by_cases hiv : i < V
              · have hd : decide ((i : Int) < (V : Int)) = true := decide_eq_true (by omega)
                have hd2 : (i : Int) < (V : Int) := by omega
                have hcv : w8.cell? ⟨xb, xo + ix, none⟩ = some (.int .u8 (uz : Int)) := by
                  rw [HUZ.out, waveU_var HFC.out i k (by rw [← HVV.out]; exact hiv), ← HNN.out, ← HKM.out, HIX.out]
                  exact (HSR.out.below HB8.out).byte (i + 1) (by have := HXN.out; omega)
                have hixz : (ix : Int) < (xn : Int) := by have := HXN.out; have := HIX.out; omega
                have hixz0 : (0 : Int) ≤ (ix : Int) := by omega
                obtain ⟨Vb', ya, yn, yc, ev, _, c2, s1⟩ := wave_cells (HW7.out.below HB8.out) (show i < (wavesT c t).length by rw [HWL.out]; exact hiw)
                cases ev
                rw [wave_vals c t i (by rw [← HVV.out, HBL.out, ← HWN.out]; exact hiw), ← HTT.out] at s1
                obtain rfl : T = yn := by have := s1.lenMap; rw [List.length_map, List.length_range] at this; exact this
                obtain ⟨yb, yo, rfl, _⟩ := s1.addr (by omega)
                have hcy := s1.byte k hkT
                have eg : ((List.range T).map (fun j => waveU c t i j)).getD k 0 = waveU c t i k := by
                  rw [List.getD_eq_getElem?_getD, List.getElem?_map, List.getElem?_range hkT]
                  rfl
                rw [eg, ← HUZ.out] at hcy
                have eT : ((T : Int) != (T : Int)) = false := by simp
                have eu : ((uz : Int) != (uz : Int)) = false := by simp
                have eT2 : (T != T) = false := by simp
                have eu2 : (uz != uz) = false := by simp
                clear s1 eg
                go_wp2
                go_roundg g2
                case measure => omega
                case rel => exact ⟨ix, by have := HIX.out; omega, rfl, HB8.out⟩
              · have hd : decide ((i : Int) < (V : Int)) = false := decide_eq_false (by omega)
                have hd2 : ¬ (i : Int) < (V : Int) := by omega
                obtain ⟨m, hm⟩ : ∃ m, m = i - V := ⟨_, rfl⟩
                have hmn : m < s.n4 := by have := HWN.out; omega
                have Wm : IntKind.i64.wrap ((i : Int) - (V : Int)) = (m : Int) := by rw [IntWalk.i64_in _ (by omega)]; omega
                obtain ⟨lit, hlit⟩ : ∃ lit, lit = c.bads.getD m 0 := ⟨_, rfl⟩
                have hlit32 : lit < 4294967296 := by rw [hlit]; exact HWD.out.bads _ (getD_mem (by rw [HBL.out]; exact hmn))
                have HM := Lib.hid hm
                have HLIT := Lib.hid hlit
                have HX9 : Hid (Below W1.heap.size W1 w8) := ext_trans HX7.out HB8.out
                have HIV := Lib.hid hiv
                clear hm hlit hiv
                go_upto_region 22 with fail
                refine reg_Vk22 w.heap.size s.n1 s.c1 s.n2 s.c2 s.n3 s.c3 s.n4 s.c4 s.n5 s.c5 s.a1 s.a2 s.a3 s.a5 x0 (some ⟨xb, xo, none⟩) xn xc i V m bb bo lit uz w8 Wm hmn (fun W hW => ?_) (fun W hW => ?_) (fun W hW => ?_) _ ?_
                · obtain ⟨hlw, k0, k1, k2, k3, k4, k5, _, _, _⟩ := HC.out W (ext_trans HX9.out hW)
                  have h4 := HS4.out W hlw
                  rw [HA4.out] at h4 k4
                  have h5 := h4.num m hmn
                  rw [← HLIT.out] at h5
                  exact ⟨k0, k1, k2, k3, k4, k5, h5⟩
                · rw [← HA4.out]
                  exact (HVC.out W (ext_trans HX9.out hW)).mono fun e w' h => ⟨h.1, h.2.mono hW.size⟩
                · have h1 := refvalue_any (varsAt c t km) (some ⟨xb, xo, none⟩) xn xc lit W ((HSR.out.below HB8.out).below hW) hlit32
                  have e1 : bv (valueL (varsAt c t km) lit) = .int .u8 (uz : Int) := by
                    rw [HUZ.out, waveU_bad c t i k (by rw [← HVV.out]; exact HIV.out), ← HNN.out, ← HKM.out, ← HVV.out, ← HM.out, ← HLIT.out]
                    rfl
                  rw [e1] at h1
                  exact h1
                intro w9
                intros
                rename_i hb9
                have HB9 : Hid (Below w7.heap.size w7 w9) := ext_trans HB8.out hb9
                clear hb9 HX9 HB8 Wm
                obtain ⟨Vb', ya, yn, yc, ev, _, c2, s1⟩ := wave_cells (HW7.out.below HB9.out) (show i < (wavesT c t).length by rw [HWL.out]; exact hiw)
                cases ev
                rw [wave_vals c t i (by rw [← HVV.out, HBL.out, ← HWN.out]; exact hiw), ← HTT.out] at s1
                obtain rfl : T = yn := by have := s1.lenMap; rw [List.length_map, List.length_range] at this; exact this
                obtain ⟨yb, yo, rfl, _⟩ := s1.addr (by omega)
                have hcy := s1.byte k hkT
                have eg : ((List.range T).map (fun j => waveU c t i j)).getD k 0 = waveU c t i k := by
                  rw [List.getD_eq_getElem?_getD, List.getElem?_map, List.getElem?_range hkT]
                  rfl
                rw [eg, ← HUZ.out] at hcy
                have eT : ((T : Int) != (T : Int)) = false := by simp
                have eu : ((uz : Int) != (uz : Int)) = false := by simp
                have eT2 : (T != T) = false := by simp
                have eu2 : (uz != uz) = false := by simp
                clear s1 eg
                go_wp2
                go_roundg g2
                case measure => omega
                case rel => exact ⟨ix, by have := HIX.out; omega, rfl, HB9.out⟩
end Go.Proofs.YtgplkpfdbiapaaaGreatDoor
namespace Go.Proofs.YtgplkpfdbiapaaaGreatDoor.vcdBack
open Go Go.ChangeShapes Go.WideShapes Go.ChangeAt Go.RowKit

set_option maxRecDepth 100000 in
theorem contract (H : Type) (enc : TypeId × Value → H) (W : World) (base : Nat) (args : Array Value) (ds gs : List (DataW H)) (before : List MemPlace)
    (hval : ∀ (j : Nat) t v, Tryz.f3.params[j]? = some t → args[j]? = some v → Value.okWide Tryz.prog W .any base t v)
    (hW : DataW.Whole enc Tryz.prog Tryz.f3.params.toList Rows.vcdBackSpec.vars false W args.toList ds gs before) (hL : laidMetH Tryz.prog Rows.vcdBackRow.laid W)
    (hk : Rows.uptoSmall H (ds ++ gs) = true) (hS : W.ShapedOpen Tryz.prog) :
    Calls Tryz.prog 3 args W fun e W' => ∃ v, e = .returned v ∧ Rows.vcdBackSpec.post enc Tryz.prog Tryz.f3 false true false false W args v W' := by
  have hW' := hW
  obtain ⟨p, q, hA0, hV, rfl, hfz, hnd⟩ := hW
  have hA : DataW.TrodAll enc Tryz.prog W 0 (fun _ => true) true Tryz.f3.params.toList args.toList ds p := hA0
  rw [Tryz.params3] at hA hval
  obtain ⟨v0, vs0, d0, ds0, p0, q0, hargs, rfl, rfl, h0, r0⟩ := trodAll_cons hA
  obtain ⟨v1, vs1, d1, ds1, p1, q1, rfl, rfl, rfl, h1, r1⟩ := trodAll_cons r0
  obtain ⟨rfl, rfl, rfl⟩ := trodAll_nil r1
  obtain rfl : args = #[v0, v1] := by cases args; simp_all
  obtain ⟨rfl, rfl⟩ := trodVars_none hV
  have hb := bulk_bound hk
  have hb0 := bulk_part (d := d0) (l := [d0, d1] ++ []) (by simp)
  have hb1 := bulk_part (d := d1) (l := [d0, d1] ++ []) (by simp)
  obtain ⟨t0, s0, rfl, hs0, lo0, hi0, m01, m02, m03, m04, m05, m06, m07, m08, m09, m010⟩ := open_cir (hval 0 26 _ rfl rfl) h0
  obtain ⟨t1, s1, rfl, hs1, lo1, hi1, m11, m12, m13⟩ := open_trace (hval 1 30 _ rfl rfl) h1
  clear hA0 hA
  have HL : laidMet Tryz.prog laidV W := plainV W hL
  refine (vcdback_any t0 t1 s0 s1 W hs0 hs1 ⟨by omega, by omega, by omega, by omega, by omega⟩ ⟨by omega, by omega, fun x hx => by have := m13 x hx; omega⟩ lo0 hi0 ⟨lo1, hi1⟩ ⟨m06, m07, m08, m09, m010⟩ (gap_of HL hS) (num_of HL) (tab_of HL) (vdig_of HL)).mono fun e W' ⟨he, hbel⟩ => ?_
  subst he
  exact ⟨_, rfl, law_end laidOut (by decide +kernel) rfl rfl Tryz.underlying4 hW' rfl rfl rfl hbel⟩

theorem laid_met (os : Os) : laidMet Tryz.prog Rows.vcdBackUptoRow.laid ((worldV os).forCall (fun _ _ => 0) ⟨#[], #[.agg #[.int .i64 0, .slice none 0 0, .slice none 0 0, .slice none 0 0, .slice none 0 0, .slice none 0 0], .agg #[.int .i64 0, .slice none 0 0, .slice none 0 0]], []⟩).memory := metV os _
theorem reads (os : Os) {H : Type} (enc : TypeId × Value → H) : ∃ places, DataW.whole enc Tryz.prog ((worldV os).forCall (fun _ _ => 0) ⟨#[], #[.agg #[.int .i64 0, .slice none 0 0, .slice none 0 0, .slice none 0 0, .slice none 0 0, .slice none 0 0], .agg #[.int .i64 0, .slice none 0 0, .slice none 0 0]], []⟩).memory Tryz.f3.params.toList Rows.vcdBackSpec.vars false #[Value.agg #[.int .i64 0, .slice none 0 0, .slice none 0 0, .slice none 0 0, .slice none 0 0, .slice none 0 0], Value.agg #[.int .i64 0, .slice none 0 0, .slice none 0 0]].toList 8 = some ([.agg [.lit (.int .i64 0), .nil, .nil, .nil, .nil, .nil], .agg [.lit (.int .i64 0), .nil, .nil]], [], places) :=
  ⟨[], by kernel_rfl⟩

set_option maxRecDepth 100000 in
theorem liftedUpto (os : Os) (started : os.Started) (H : Type) (enc : TypeId × Value → H) (F : Stop.Interp) :
    ReturnsInHanded {} Tryz.checked os 3 .any ((Rows.OpenSpec.upto Rows.vcdBackSpec).preRow enc Tryz.prog Tryz.f3 Rows.vcdBackUptoRow.domain false Rows.vcdBackUptoRow.laid) (((Rows.OpenSpec.upto Rows.vcdBackSpec).at F).post enc Tryz.prog Tryz.f3 false true false false) := by
  obtain ⟨places, hx⟩ := reads os enc
  refine returnsInHanded_of_row (C := Tryz.checked) (s := Rows.OpenSpec.upto Rows.vcdBackSpec) own started (by kernel_rfl) Tryz.func3
    (witnessV os #[.agg #[.int .i64 0, .slice none 0 0, .slice none 0 0, .slice none 0 0, .slice none 0 0, .slice none 0 0], .agg #[.int .i64 0, .slice none 0 0, .slice none 0 0]] (by kernel_rfl)
      (OpenSpec.preRow_of_cond 8 hx (by kernel_rfl) (fun k hk => by cases hk; kernel_rfl) (by kernel_rfl) (laid_met os))) ?_
  intro W base args ds gs before hval hW _ hcond _ hL hS _
  exact contract H enc W base args ds gs before hval hW hL (hcond _ rfl) hS

theorem saidUpto : Rows.VcdBackUptoSaid :=
  OpenClaim.holds_of_cond 3 Tryz.f3 rfl rfl rfl rfl rfl rfl rfl ⟨rfl, rfl, rfl, rfl, rfl⟩ rfl rfl rfl rfl rfl (by kernel_rfl) Tryz.func3 (by kernel_rfl)
    (of_decide_eq_true (by kernel_rfl)) (by unfold Func.isWrapper; first | (rw [if_pos (by decide +kernel)]; kernel_rfl) | (rw [if_neg (by decide +kernel)]; exact ⟨rfl, rfl⟩))
    (fun os started H enc _ F => by rw [OpenClaim.pre_eq_preRow]; exact liftedUpto os started H enc F)

theorem plain (f : FuncId) (fn : Func) (hf : Tryz.pinned.checked.prog.funcNamed "inquest/inquestlaw10.VcdBack" = some f) (hfn : Tryz.pinned.checked.prog.funcs[f]? = some fn) :
    true = Tryz.pinned.checked.prog.looks [] ∧ ∀ (j : Nat) t, fn.params[j]? = some t → Tryz.pinned.checked.prog.wantsStandIn t = false := by
  obtain rfl : f = 3 := Option.some.inj ((show Tryz.prog.funcNamed "inquest/inquestlaw10.VcdBack" = some 3 by kernel_rfl).symm.trans hf) |>.symm
  obtain rfl : fn = Tryz.f3 := (Option.some.inj (Tryz.func3.symm.trans hfn)).symm
  refine ⟨by kernel_rfl, fun j t ht => ?_⟩
  rw [Tryz.params3] at ht
  have hm := Array.mem_of_getElem? ht
  have hall : ∀ t ∈ #[26, 30], Tryz.prog.wantsStandIn t = false := by decide +kernel
  exact hall t hm

/-- ████ THE SECOND FORM's CARD ████ -/
theorem cardUpto : Rows.VcdBackUptoCardSaid :=
  Claim7.holds_tied_plain_at .later [] _ _ _ _ saidUpto (fun _ h => by cases h) (by kernel_rfl) (fun _ h => by cases h) vcdBackUpto_row_tie rfl ⟨rfl, rfl⟩ (by kernel_rfl) rfl plain (by kernel_rfl)
end Go.Proofs.YtgplkpfdbiapaaaGreatDoor.vcdBack
