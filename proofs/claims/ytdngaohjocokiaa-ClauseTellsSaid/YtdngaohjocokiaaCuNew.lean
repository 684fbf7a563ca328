/- clause.newPropagation, by its contract. -/
import Derived.Test.YtdngaohjocokiaaLib
import Derived.Test.YtdngaohjocokiaaNBools
import Derived.Test.YtdngaohjocokiaaCuPure
import Derived.Test.YtdngaohjocokiaaCuInts
import Derived.Test.YtdngaohjocokiaaCuInv
import Derived.Test.YtdngaohjocokiaaCuMay
import Derived.Test.YtdngaohjocokiaaCuAllP
import Derived.Test.YtdngaohjocokiaaCuRunP
import Derived.Test.YtdngaohjocokiaaCuMem
import Derived.Test.YtdngaohjocokiaaCuMake
import Derived.Test.YtdngaohjocokiaaCuLink
import Derived.Test.YtdngaohjocokiaaCuNewP
import Derived.Test.YtdngaohjocokiaaRows
import Derived.Test.YtdngaohjocokiaaShelf
import Derived.BigQuiet
import Derived.Conc.LoneSelect
import Derived.Deep.AppendLies
import Derived.Deep.CutRange
import Derived.Deep.QuietTactic
import Derived.Deep.RegionHeld3
import Derived.Deep.RegionLaw
import Derived.Deep.RegionWith
import Derived.KernelRfl
import Derived.Laws.CopyOwn
import Derived.Laws.EntriesVeiled
import Derived.Laws.Tables
import Derived.Lib.ConvBytes
import Derived.Lib.Hide
import Derived.Lib.SlBytesRow
import Derived.Lib.SlicesCompact
import Derived.Lib.SmallJoins
import Derived.Maps.AppendAt
import Derived.OrdersHeld
import Derived.Shelf.Bytes.SlSmallAll
import Derived.Sort.Statements
import Derived.WalkKit
import Derived.WalkLawsBesides
import Derived.WalkSpells
namespace Go.Proofs.Ytdngaohjocokiaa
open Go Go.RowKit Go.Joins

/-- What newPropagation answers. -/
def NewPost (wE : World) (cls : List (List Int)) (given : List Int) (vars : Nat) (e : Ending) (w' : World) : Prop :=
  ∃ (y : PLay) (F : List Nat) (K : List (Nat × Nat)) (C : Array Value), e = .returned (.pointer (some ⟨y.B, 0, none⟩)) ∧ y.vars = vars ∧ PFix wE y cls given F K C ∧ PAt wE y F C [] 0 (lensU cls) w'
theorem i32_in (x : Int) (h : -2147483648 ≤ x) (h2 : x ≤ 2147483647) : IntKind.i32.wrap x = x := by
  simp [IntKind.wrap, IntKind.bits, IntKind.signed]
  omega
set_option maxRecDepth 100000 in
set_option maxHeartbeats 12800000 in
theorem newProp_any (cls : List (List Int)) (given : List Int) (vars ng : Nat) (ac : Option Addr) (nc cc : Nat) (ss : List ZSlc) (w : World) (h : SeesZ w ac nc cc ss cls) (hng : given.length = ng) (hng4 : ng ≤ 4096) (hv : vars ≤ 4194304) (hnc : nc ≤ 4096) (hT : total cls ≤ 1000000)
    (hsm : ∀ c ∈ cls, c.length ≤ 4096) (hlt : ∀ c ∈ cls, ∀ x ∈ c, VLit vars x) (hasc : ∀ c ∈ cls, Asc c) :
    Calls Try.prog 20 #[.slice ac nc cc, .int .i64 ng, .int .i64 vars] w (NewPost w cls given vars) := by
  have hl := h.zlen
  have W1 : IntKind.i64.wrap ((vars : Int) + 1) = ((vars + 1 : Nat) : Int) := by rw [IntWalk.i64_in _ (by omega)]; omega
  have W2 : IntKind.i64.wrap (2 * ((vars + 1 : Nat) : Int)) = ((2 * (vars + 1) : Nat) : Int) := by rw [IntWalk.i64_in _ (by omega)]; omega
  obtain ⟨V1, hV1⟩ : ∃ V1, V1 = vars + 1 := ⟨_, rfl⟩
  rw [← hV1] at W1 W2
  obtain ⟨M, hM⟩ : ∃ M, M = 2 * V1 := ⟨_, rfl⟩
  rw [← hM] at W2
  obtain ⟨gn, hgn⟩ : ∃ gn, gn = ng + nc := ⟨_, rfl⟩
  obtain ⟨cap, hcap⟩ : ∃ cap, cap = min vars gn := ⟨_, rfl⟩
  have HGN : Hid (IntKind.i64.wrap ((ng : Int) + (nc : Int)) = (gn : Int)) := by show _ = _; rw [IntWalk.i64_in _ (by omega), hgn]; omega
  have HCP : Hid (min (vars : Int) (gn : Int) = (cap : Int)) := by show _ = _; rw [hcap]; omega
  have HCE : Hid (cap = min vars (given.length + cls.length)) := by show _ = _; rw [hcap, hgn, hng, hl]
  have HME : Hid (M = 2 * (vars + 1)) := by show _ = _; rw [hM, hV1]
  have HMB : Hid (M ≤ 10000000) := by have := HME.out; show _ ≤ _; omega
  have HCB : Hid (cap ≤ 100000000) := by show _ ≤ _; rw [hcap]; omega
  have HS := Lib.hid h
  have HL := Lib.hid hl
  have HA := Lib.hid (fun h0 : 0 < nc => h.addr h0)
  have HT := Lib.hid hT
  have HSM := Lib.hid hsm
  have HLT := Lib.hid hlt
  have HAS := Lib.hid hasc
  have HV := Lib.hid hv
  clear h hl hT hsm hlt hasc hV1 hM hgn hcap hng hv
  go_enter Try.func20, Try.ntmps20
  go_upto_region 2 with fail
  refine reg_mk ac nc cc ng vars M gn cap w HGN.out HCP.out (by omega) HMB.out HCB.out _ ?_
  intro gL gF gK gD gC B w2 hb hbL hbF hbK hbD hbC hbB g1 g2 g3 g4 g5 g6
  have hst : NAt w ⟨B, gL, gF, gD, gC, ac, nc, cc, M, cap⟩ vars cls 0 0 0 (List.replicate (2 * (vars + 1)) 0) [(0, 0)] (List.replicate nc 0) gK 1 1 w2 := by
    refine ⟨hb, hbB, ?_, ⟨rfl, .inr ⟨gK, 1, _, rfl, g3, hbK, Nat.le_refl _, by unfold maxLen; omega, rfl, rfl⟩⟩, rfl, ?_, ?_, hbC, IsLinksTo.start vars cls, by simp [HL.out], fun j hj => absurd hj (by omega), by simp [total]⟩
    · rw [hbF, nv3_zero, HME.out]
    · rw [hbL, nvI_zero]
    · rw [hbD, bcells_zero]
  have HST := Lib.hid hst
  have G := Lib.hid (show w.heap.size ≤ gL ∧ w.heap.size ≤ gF ∧ w.heap.size ≤ gK ∧ w.heap.size ≤ gD ∧ w.heap.size ≤ gC ∧ w.heap.size ≤ B from ⟨g1, g2, g3, g4, g5, g6⟩)
  clear hst hb hbL hbF hbK hbD hbC hbB g1 g2 g3 g4 g5 g6 W1 W2
  go_wp2
  go_loopw [37, 9, 10, 12, 13] (fun i _ _ _ _ wr => ∃ (k : Nat) (F : List Nat) (K : List (Nat × Nat)) (left : List Nat) (gK nk ck : Nat), k ≤ nc ∧ i = .int .i64 k ∧ Hid (NAt w ⟨B, gL, gF, gD, gC, ac, nc, cc, M, cap⟩ vars cls k 0 k F K left gK nk ck wr)) (fun i _ _ _ _ _ => nc - (intOf i).toNat)
  case atStart => exact ⟨0, _, _, _, gK, 1, 1, Nat.zero_le _, rfl, HST.out⟩
  case round =>
    clear HST
    obtain ⟨k, F, K, left, gK2, nk, ck, hk, rfl, hN⟩ := hrel
    by_cases hlt : k < nc
    · obtain ⟨b, boff, rfl, hbw⟩ := HA.out (by omega)
      have hkl : k < cls.length := by rw [HL.out]; exact hlt
      have hcx := (HS.out.below hN.out.bel).cellAt k hlt
      have hsk := fun W (hbb : Below w.heap.size w W) => (HS.out.below hbb).each k hkl
      have hmc := getD_memL hkl
      obtain ⟨c, hc⟩ : ∃ c, c = cls.getD k [] := ⟨_, rfl⟩
      obtain ⟨sa, hsa⟩ : ∃ sa, sa = (ss.getD k zs0).1 := ⟨_, rfl⟩
      obtain ⟨sn, hsn⟩ : ∃ sn, sn = (ss.getD k zs0).2.1 := ⟨_, rfl⟩
      obtain ⟨sc, hsc⟩ : ∃ sc, sc = (ss.getD k zs0).2.2 := ⟨_, rfl⟩
      rw [← hsa, ← hsn, ← hsc] at hcx
      rw [← hc] at hmc
      have hsk2 : ∀ W, Below w.heap.size w W → Sees W sa sn sc (zvs c) := fun W hbb => by rw [hsa, hsn, hsc, hc]; exact hsk W hbb
      have hln : c.length = sn := (hsk2 _ hN.out.bel).zlen
      have b1 := (cell_of_block hN.out.box 1).trans (show _ = some (.slice (some ⟨gL, 0, none⟩) nc nc) from rfl)
      have c1 := (cell_of_block hN.out.hL k).trans (nvI_get (by rw [hN.out.llen]; exact hkl))
      have f1 := unfrozen_of_block hN.out.hL k
      dsimp only at b1 c1 f1
      have W3 : IntKind.i64.wrap ((k : Int) + 1) = (k : Int) + 1 := IntWalk.i64_in _ (by omega)
      have I1 : (k : Int) < (nc : Int) := by omega
      have hs4 : sn ≤ 4096 := by rw [← hln]; exact HSM.out c hmc
      have hN2 := hN.out.len hkl G.out.1 (n := sn) (by rw [← hc]; exact hln.symm)
      have HN2 := Lib.hid hN2
      have HSK := Lib.hid hsk2
      have HCC := Lib.hid hc
      have HMC := Lib.hid hmc
      have HLN := Lib.hid hln
      have HKL := Lib.hid hkl
      clear hN hN2 hsk hsk2 hc hmc hln hsa hsn hsc hkl hbw
      go_upto_region 7 with fail
      have hN5 : NAt w ⟨B, gL, gF, gD, gC, some ⟨b, boff, none⟩, nc, cc, M, cap⟩ vars cls k 0 (k + 1) F K (left.set k sn) gK2 nk ck (wr.setCell ⟨gL, k, none⟩ (.int .i64 (sn : Int))) := HN2.out
      generalize wr.setCell ⟨gL, k, none⟩ (.int .i64 (sn : Int)) = w5 at hN5 ⊢
      generalize left.set k sn = left5 at hN5
      have HN5 := Lib.hid hN5
      clear hN5 HN2 b1 c1 f1 hcx
      go_wp2
      go_loopw [52, 12, 13] (fun i _ _ wr => ∃ (j : Nat) (F : List Nat) (K : List (Nat × Nat)) (gK nk ck : Nat), j ≤ sn ∧ i = .int .i64 j ∧ Hid (NAt w ⟨B, gL, gF, gD, gC, some ⟨b, boff, none⟩, nc, cc, M, cap⟩ vars cls k j (k + 1) F K left5 gK nk ck wr)) (fun i _ _ _ => sn - (intOf i).toNat)
      case atStart => exact ⟨0, F, K, gK2, nk, ck, Nat.zero_le _, rfl, HN5.out⟩
      case round =>
        clear HN5
        obtain ⟨j, F, K, gK, nk, ck, hj, rfl, hN⟩ := hrel
        by_cases hjl : j < sn
        · have hse := HSK.out _ hN.out.bel
          obtain ⟨eb, eo, he, _⟩ := hse.addr (show 0 < sn by omega)
          subst he
          have hcx := hse.z_at j hjl
          have hjc : j < c.length := by rw [HLN.out]; exact hjl
          obtain ⟨x, hx⟩ : ∃ x, x = c.getD j 0 := ⟨_, rfl⟩
          rw [← hx] at hcx
          have hxc : x ∈ c := by rw [hx]; exact getD_memZ hjc
          have hvx := HLT.out c HMC.out x hxc
          have HPL := Lib.hid (fun W => place_any x (by have := hvx.2; have := HV.out; omega) W)
          have hpl := placeN_lt hvx.2
          obtain ⟨p, hp⟩ : ∃ p, p = placeN x := ⟨_, rfl⟩
          rw [← hp] at HPL hpl
          obtain ⟨q, hq⟩ : ∃ q, q = F.getD p 0 := ⟨_, rfl⟩
          have W4 : IntKind.i64.wrap ((j : Int) + 1) = (j : Int) + 1 := IntWalk.i64_in _ (by omega)
          have I2 : (j : Int) < (sn : Int) := by omega
          have hnk : nk ≤ 1000001 := by
            have h1 := hN.out.count
            have h2 := total_next cls k HKL.out
            rw [← HCC.out] at h2
            have := HT.out
            omega
          have HX : Hid (x = (cls.getD k []).getD j 0) := by show _ = _; rw [← HCC.out]; exact hx
          have HVX := Lib.hid hvx
          have HP := Lib.hid hp
          have HQ := Lib.hid hq
          have HNN := Lib.hid hN.out
          have HJC : Hid (j < (cls.getD k []).length) := by show _ < _; rw [← HCC.out]; exact hjc
          have HND : Hid ((cls.getD k []).Nodup) := by rw [← HCC.out]; exact asc_nodup (HAS.out c HMC.out)
          have HPM : Hid (p < M) := by show _ < _; rw [HME.out]; exact hpl
          clear hse hx hxc hvx hp hq hN hjc hpl
          go_wp2_with (go_at_call 23; refine (HPL.out _).mono ?_; rintro e w' ⟨rfl, rfl⟩)
          refine reg_lk B gF gK M k p q nk ck w.heap.size (kcs K) _ _ HNN.out.box rfl rfl _ HNN.out.hF ?c1 HNN.out.row (by omega) HNN.out.bel.size (i32_in _ (by omega) (by omega)) ?c2 _ ?_
          case c1 => rw [HQ.out]; exact nv3_get (by have h1 := HNN.out.links.len; have h2 := HPM.out; have h3 := HME.out; omega)
          case c2 => have := HPM.out; omega
          intro vv u73 w2 Y0 hb0 ho2 hg2
          obtain ⟨gK3, ck3, rfl, hbX, hfX, hN3⟩ := HNN.out.link G.out.2.2.2.2.2 G.out.2.1 HJC.out HND.out HX.out HVX.out HP.out HQ.out hb0 ho2 hg2
          dsimp only at hbX hfX hN3
          obtain ⟨X, hX⟩ : ∃ X, X = w2.setCell ⟨B, 3, none⟩ (.slice (some ⟨gK3, 0, none⟩) (nk + 1) ck3) := ⟨_, rfl⟩
          rw [← hX] at hbX hfX hN3 ⊢
          obtain ⟨nk1, hnk1⟩ : ∃ nk1, nk1 = nk + 1 := ⟨_, rfl⟩
          rw [← hnk1] at hbX hN3 ⊢
          have kB2 := (cell_of_block hbX 2).trans (show _ = some (.slice (some ⟨gF, 0, none⟩) M M) from rfl)
          have kB3 := (cell_of_block hbX 3).trans (show _ = some (.slice (some ⟨gK3, 0, none⟩) nk1 ck3) from rfl)
          have kF := (cell_of_block hfX p).trans (nv3_get (show p < F.length by have h1 := HNN.out.links.len; have h2 := HPM.out; have h3 := HME.out; omega))
          have kU := unfrozen_of_block hfX p
          have W5 : IntKind.i64.wrap ((nk1 : Int) - 1) = (nk : Int) := by rw [IntWalk.i64_in _ (by omega)]; omega
          have W6 : IntKind.i32.wrap (nk : Int) = (nk : Int) := i32_in _ (by omega) (by omega)
          have I3 : (p : Int) < (M : Int) := by have := HPM.out; omega
          have HN3 := Lib.hid hN3
          clear hX hbX hfX hN3 hb0 ho2 hg2 hnk1
          go_wp2
          go_region
          all_goals go_wp2
          all_goals go_roundw
          case rel => exact ⟨j + 1, F.set p nk, K ++ [(k, q)], gK3, nk1, ck3, by omega, by go_num, HN3.out.below (Below.refl _ _).drew⟩
          case measure => simp [intOf]; omega
        · have hjn : j = (cls.getD k []).length := by rw [← HCC.out, HLN.out]; omega
          have HN6 : Hid (NAt w ⟨B, gL, gF, gD, gC, some ⟨b, boff, none⟩, nc, cc, M, cap⟩ vars cls (k + 1) 0 (k + 1) F K left5 gK nk ck wr) := hN.out.nextC HKL.out hjn
          have I2 : decide ((j : Int) < (sn : Int)) = false := by simp; omega
          have I4 : decide (j < sn) = false := by simpa using hjl
          clear hjn hN
          go_wp2
          go_roundw
          case rel => exact ⟨k + 1, F, K, left5, gK, nk, ck, by omega, by go_num, HN6.out⟩
          case measure => simp [intOf]; omega
    · have hkn : k = cls.length := by rw [HL.out]; omega
      have I1 : decide ((k : Int) < (nc : Int)) = false := by simp; omega
      have I2 : decide (k < nc) = false := by simpa using hlt
      have hN2 := hN.out
      rw [hkn] at hN2
      have hnk : nk < 2147483648 := by
        have h1 := hN2.count
        rw [total_all] at h1
        have := HT.out
        omega
      obtain ⟨C, hfx, hpa⟩ := hN2.done (given := given) (ss := ss) HS.out HME.out HV.out (by show nc ≤ _; omega) hnk HSM.out HLT.out HAS.out HCE.out G.out.2.2.2.2.2 G.out.1 G.out.2.1 G.out.2.2.2.1 G.out.2.2.2.2.1
      have HFX := Lib.hid hfx
      have HPA := Lib.hid hpa
      clear hN hN2 hnk hfx hpa hkn
      go_wp2
      go_ret
      exact ⟨_, F, K, C, rfl, rfl, HFX.out, HPA.out⟩
end Go.Proofs.Ytdngaohjocokiaa
