/- propagation.run, by its contract. -/
import Derived.Test.YtdngaohjocokiaaLib
import Derived.Test.YtdngaohjocokiaaCuPure
import Derived.Test.YtdngaohjocokiaaCuInts
import Derived.Test.YtdngaohjocokiaaCuInv
import Derived.Test.YtdngaohjocokiaaCuRunP
import Derived.Test.YtdngaohjocokiaaCuReg
import Derived.Test.YtdngaohjocokiaaCuMem
import Derived.Test.YtdngaohjocokiaaCuDerive
import Derived.Test.YtdngaohjocokiaaCuRest
import Derived.Test.YtdngaohjocokiaaCuTell
import Derived.Test.YtdngaohjocokiaaRows
import Derived.BigQuiet
import Derived.Conc.LoneSelect
import Derived.Deep.AppendLies
import Derived.Deep.CutRange
import Derived.Deep.QuietTactic
import Derived.Deep.RegionLaw
import Derived.Deep.RegionWith
import Derived.KernelRfl
import Derived.Laws.EntriesVeiled
import Derived.Lib.ConvBytes
import Derived.Lib.Hide
import Derived.Lib.SlBytesRow
import Derived.Lib.SmallJoins
import Derived.Shelf.Bytes.SlSmallAll
import Derived.WalkKit
import Derived.WalkLawsBesides
import Derived.WalkSpells
namespace Go.Proofs.Ytdngaohjocokiaa
open Go Go.RowKit Go.Joins

theorem Core.len_le {cls : List (List Int)} {given : List Int} {vars : Nat} {S : List Int} (h : Core cls given vars S) : S.length ≤ vars := by
  have := pigeon vars (S.map Int.natAbs) (by rw [List.Nodup, List.pairwise_map]; exact h.nd) (fun x hx => by
    obtain ⟨y, hy, rfl⟩ := List.mem_map.1 hx
    have := h.sv y hy
    have := this.1
    have := (h.sv y hy).2
    omega)
  simpa using this
/-- What is left of the channel's turns. -/
def turns (c v : Nat) (w : World) : Nat := match w.heap[c]? with
  | some (.chan _ _ _ _ r _) => v - r
  | _ => 0
/-- What run answers, and leaves. -/
def RunPost (wE : World) (y : PLay) (cls : List (List Int)) (given : List Int) (F : List Nat) (C : Array Value) (e : Ending) (w' : World) : Prop :=
  (e = .returned (.bool false) ∧ Clash cls given ∧ Below wE.heap.size wE w') ∨
  (e = .returned (.bool true) ∧ ∃ S left, PAt wE y F C S S.length left w' ∧ (∀ l, l ∈ S ↔ Der cls given l) ∧ ¬ Clash cls given ∧ ∀ x, x ∈ S → VLit y.vars x)
set_option maxRecDepth 100000 in
set_option maxHeartbeats 6400000 in
theorem run_any11 (wE : World) (y : PLay) (cls : List (List Int)) (given : List Int) (F : List Nat) (K : List (Nat × Nat)) (C : Array Value) (ag : Option Addr) (ng cg : Nat) (w : World) (hf : PFix wE y cls given F K C)
    (hg : Sees wE ag ng cg (zvs given)) (hng : ng ≤ 4096) (hgv : ∀ x ∈ given, VLit y.vars x) (hp : PAt wE y F C [] 0 (lensU cls) w) :
    Calls Try.prog 22 #[.pointer (some ⟨y.B, 0, none⟩), .slice ag ng cg] w (RunPost wE y cls given F C) := by
  have hncl : cls.length = y.nc := hf.cl.zlen
  have hlg := hg.zlen
  obtain ⟨B, hB⟩ : ∃ B, B = y.B := ⟨_, rfl⟩
  obtain ⟨GC, hGC⟩ : ∃ GC, GC = y.gC := ⟨_, rfl⟩
  obtain ⟨NC, hNC⟩ : ∃ NC, NC = y.nc := ⟨_, rfl⟩
  obtain ⟨AC, hAC⟩ : ∃ AC, AC = y.ac := ⟨_, rfl⟩
  obtain ⟨CC, hCC⟩ : ∃ CC, CC = y.cc := ⟨_, rfl⟩
  have HBOX : Hid (∀ S r left W, PAt wE y F C S r left W → W.cell? ⟨B, 0, none⟩ = some (.slice AC NC CC) ∧ W.cell? ⟨B, 5, none⟩ = some (.chan (some GC))) := fun S r left W hW => by
    rw [hB, hGC, hNC, hAC, hCC]
    exact ⟨hW.b0, hW.b5⟩
  have HDER : Hid (∀ S W k, k < ng → PAt wE y F C S 0 (lensU cls) W → Giv cls given y.vars S k → Calls Try.prog 37 #[.pointer (some ⟨B, 0, none⟩), .int .i64 (given.getD k 0)] W (DerPost wE y F C S 0 (lensU cls) (given.getD k 0))) := fun S W k hk hW hG => by
    have hv := hgv _ (getD_memZ (L := given) (k := k) (by omega))
    rw [hB]
    refine derive_any wE y F C S 0 (lensU cls) _ W hW hv hf.vmax hf.gD hf.gC (Nat.zero_le _) fun h1 h2 => ?_
    have a1 := hG.toCore.room hv h2 h1
    have a2 := hG.room_
    rw [hf.capE]
    omega
  have HRES : Hid (∀ S W k, k < NC → PAt wE y F C S 0 (lensU cls) W → Sho cls given y.vars S k → (cls.getD k []).length ≤ 1 → Calls Try.prog 38 #[.pointer (some ⟨B, 0, none⟩), .slice (y.ss.getD k zs0).1 (y.ss.getD k zs0).2.1 (y.ss.getD k zs0).2.2] W (RestPost wE y F C S 0 (lensU cls) (cls.getD k []))) := fun S W k hk hW hG h1 => by
    have hk2 : k < cls.length := by omega
    have hmc := getD_memL hk2
    have hse : ∀ W, Below wE.heap.size wE W → Sees W (y.ss.getD k zs0).1 (y.ss.getD k zs0).2.1 (y.ss.getD k zs0).2.2 (zvs (cls.getD k [])) := fun W hb => hf.sees hk2 hb
    rw [hB]
    refine deriveRest_any wE y F C S 0 (lensU cls) (cls.getD k []) _ _ _ W hW (hse W hW.bel) (by rw [← (hse W hW.bel).zlen]; exact hf.small _ hmc) (hf.lits _ hmc) hf.vmax hf.gD hf.gC (Nat.zero_le _) (fun z hz h2 h3 => ?_) hse
    rw [hf.capE]
    have a1 := hG.toCore.room (hf.lits _ hmc z hz) h3 h2
    have a2 := hG.fits hk2 h1
    omega
  have HTEL : Hid (∀ S W r left, r < S.length → PAt wE y F C S (r + 1) left W → Tel cls given y.vars S left → (∀ i, i < cls.length → left.getD i 0 = cntU (cls.getD i []) (S.take r)) → Calls Try.prog 39 #[.pointer (some ⟨B, 0, none⟩), .int .i64 (S.getD r 0)] W (TellPost wE y cls given F C S (r + 1))) := fun S W r left hr hW hT hc => by
    rw [hB]
    exact tell_any wE y cls given F K C S (r + 1) left _ W hf (by omega) hr (by rw [Nat.add_sub_cancel]) hW hT (by rw [Nat.add_sub_cancel]; exact hc)
  have HF := Lib.hid hf
  have HP := Lib.hid hp
  have HG := Lib.hid hg
  have HGA := Lib.hid (fun h0 : 0 < ng => hg.addr h0)
  have HGV := Lib.hid hgv
  have HLG := Lib.hid hlg
  have HNL := Lib.hid hncl
  have HNC := Lib.hid hNC
  have HAC := Lib.hid hAC
  have HGC := Lib.hid hGC
  have hnm : NC ≤ 1048576 := by rw [hNC]; exact hf.nmax
  rw [← hB]
  clear hf hg hgv hp hncl hlg hB hGC hNC hAC hCC
  go_enter Try.func22, Try.ntmps22
  go_wp2
  go_loopw [12, 6] (fun i _ wr => ∃ (k : Nat) (S : List Int), k ≤ ng ∧ i = .int .i64 k ∧ Hid (PAt wE y F C S 0 (lensU cls) wr) ∧ Hid (Giv cls given y.vars S k)) (fun i _ _ => ng - (intOf i).toNat)
  case atStart => exact ⟨0, [], Nat.zero_le _, rfl, HP.out, Giv.start⟩
  case round =>
    obtain ⟨k, S, hk, rfl, hW, hG⟩ := hrel
    by_cases hlt : k < ng
    · obtain ⟨b, off, rfl, hbw⟩ := HGA.out (by omega)
      have hcx := (HG.out.below hW.out.bel).z_at k hlt
      have W1 : IntKind.i64.wrap ((k : Int) + 1) = (k : Int) + 1 := IntWalk.i64_in _ (by omega)
      have I1 : (k : Int) < (ng : Int) := by omega
      have hklt : k < given.length := by rw [HLG.out]; exact hlt
      have HKL := Lib.hid hklt
      have HDD := HDER.out S wr k hlt hW.out hG.out
      obtain ⟨x, hx⟩ : ∃ x, x = given.getD k 0 := ⟨_, rfl⟩
      rw [← hx] at hcx HDD
      have HDD2 := Lib.hid HDD
      have HX := Lib.hid hx
      have HGG := Lib.hid hG.out
      clear hx HDD hG hW hbw hklt
      go_wp2_with fail
      refine HDD2.out.mono ?_
      rintro e w' hpost
      have HPO := Lib.hid hpost
      clear hpost hcx
      rcases HPO.out with ⟨h1, h2, h3⟩ | ⟨h1, h2, h3, h4⟩ | ⟨h1, h2, h3, h4⟩
      · subst h2
        have HCL : Hid (Clash cls given) := HGG.out.toCore.clash (.given (by rw [HX.out]; exact getD_memZ HKL.out)) h1
        have HBE := Lib.hid h3.bel
        clear h1 h3 HPO
        go_wp2
        go_ret
        exact .inl ⟨rfl, HCL.out, HBE.out⟩
      · subst h3
        have HG2 : Hid (Giv cls given y.vars S (k + 1)) := HGG.out.same HKL.out (by rw [← HX.out]; exact h2)
        have H4 := Lib.hid h4
        clear h1 h2 h4 HPO
        go_wp2
        go_roundw
        case rel => exact ⟨k + 1, S, by omega, by go_num, H4.out, HG2.out⟩
        case measure => simp [intOf]; omega
      · subst h3
        have HG2 : Hid (Giv cls given y.vars (S ++ [x]) (k + 1)) := by
          have hv := HGV.out _ (getD_memZ HKL.out)
          have := HGG.out.put HKL.out hv (by rw [← HX.out]; exact h2) (by rw [← HX.out]; exact h1)
          rw [← HX.out] at this
          exact this
        have H4 := Lib.hid h4
        clear h1 h2 h4 HPO
        go_wp2
        go_roundw
        case rel => exact ⟨k + 1, S ++ [x], by omega, by go_num, H4.out, HG2.out⟩
        case measure => simp [intOf]; omega
    · have hkn : k = given.length := by have := HLG.out; omega
      have HS0 : Hid (Sho cls given y.vars S 0) := by have := hG.out; rw [hkn] at this; exact this.done
      have I1 : decide ((k : Int) < (ng : Int)) = false := by simp; omega
      have I2 : decide (k < ng) = false := by simpa using hlt
      have HW := Lib.hid hW.out
      have hb0 := (HBOX.out S 0 _ wr hW.out).1
      clear hkn hG hW
      go_wp2
      clear hb0 I1 I2
      go_loopw [26, 8] (fun i _ wr => ∃ (k : Nat) (S : List Int), k ≤ NC ∧ i = .int .i64 k ∧ Hid (PAt wE y F C S 0 (lensU cls) wr) ∧ Hid (Sho cls given y.vars S k)) (fun i _ _ => NC - (intOf i).toNat)
      case atStart => exact ⟨0, S, Nat.zero_le _, rfl, HW.out, HS0.out⟩
      case round =>
        clear HS0 HW S hlt hk
        obtain ⟨k, S, hk, rfl, hW, hG⟩ := hrel
        by_cases hlt : k < NC
        · have hkl : k < cls.length := by have := HNL.out; have := HNC.out; omega
          obtain ⟨ab, ao, hab, hrow⟩ := HF.out.row (i := k) (by have := HNC.out; omega) (W := wr) hW.out.bel
          rw [← HAC.out] at hab
          subst hab
          have HRR := HRES.out S wr k hlt hW.out hG.out
          have hse := HF.out.sees hkl hW.out.bel
          obtain ⟨sa, hsa⟩ : ∃ sa, sa = (y.ss.getD k zs0).1 := ⟨_, rfl⟩
          obtain ⟨sn, hsn⟩ : ∃ sn, sn = (y.ss.getD k zs0).2.1 := ⟨_, rfl⟩
          obtain ⟨sc, hsc⟩ : ∃ sc, sc = (y.ss.getD k zs0).2.2 := ⟨_, rfl⟩
          rw [← hsa, ← hsn, ← hsc] at hrow hse HRR
          have hln : (cls.getD k []).length = sn := hse.zlen
          have W1 : IntKind.i64.wrap ((k : Int) + 1) = (k : Int) + 1 := IntWalk.i64_in _ (by omega)
          have I1 : (k : Int) < (NC : Int) := by omega
          have HLN := Lib.hid hln
          have HGG := Lib.hid hG.out
          have HWW := Lib.hid hW.out
          have HKL := Lib.hid hkl
          have HR2 := Lib.hid HRR
          clear hsa hsn hsc hse hln hG hW HRR hkl
          by_cases h1 : sn ≤ 1
          · have HDD := Lib.hid (HR2.out (by rw [HLN.out]; exact h1))
            have E1 : decide ((sn : Int) ≤ 1) = true := by simp; omega
            have E2 : decide (sn ≤ 1) = true := by simpa using h1
            have H1 := Lib.hid h1
            clear h1
            go_wp2_with fail
            refine HDD.out.mono ?_
            rintro e w' hpost
            have HPO := Lib.hid hpost
            clear hpost hrow
            rcases HPO.out with ⟨h1, h2, h3⟩ | ⟨z, h1, h2, h3, h4, h5⟩ | ⟨z, h1, h2, h3, h4, h5⟩
            · subst h2
              have HCL : Hid (Clash cls given) := HGG.out.toCore.clash2 (getD_memL HKL.out) h1
              have HBE := Lib.hid h3.bel
              clear h1 h3 HPO
              go_wp2
              go_ret
              exact .inl ⟨rfl, HCL.out, HBE.out⟩
            · subst h4
              have HG2 : Hid (Sho cls given y.vars S (k + 1)) := HGG.out.same HKL.out h1 h3
              have H4 := Lib.hid h5
              clear h1 h2 h3 h5 HPO
              go_wp2
              go_roundw
              case rel => exact ⟨k + 1, S, by omega, by go_num, H4.out, HG2.out⟩
              case measure => simp [intOf]; omega
            · subst h4
              have HG2 : Hid (Sho cls given y.vars (S ++ [z]) (k + 1)) := HGG.out.put HKL.out (by rw [HLN.out]; exact H1.out) h1 (HF.out.lits _ (getD_memL HKL.out) z h1) h3 h2
              have H4 := Lib.hid h5
              clear h1 h2 h3 h5 HPO
              go_wp2
              go_roundw
              case rel => exact ⟨k + 1, S ++ [z], by omega, by go_num, H4.out, HG2.out⟩
              case measure => simp [intOf]; omega
          · have HG2 : Hid (Sho cls given y.vars S (k + 1)) := HGG.out.long HKL.out (by rw [HLN.out]; exact h1)
            have E1 : decide ((sn : Int) ≤ 1) = false := by simp; omega
            have E2 : decide (sn ≤ 1) = false := by simpa using h1
            clear h1
            go_wp2
            go_roundw
            case rel => exact ⟨k + 1, S, by omega, by go_num, HWW.out, HG2.out⟩
            case measure => simp [intOf]; omega
        · have hkn : k = cls.length := by have := HNL.out; have := HNC.out; omega
          have HT0 : Hid (Tel cls given y.vars S (lensU cls)) := by have := hG.out; rw [hkn] at this; exact this.done
          have I1 : decide ((k : Int) < (NC : Int)) = false := by simp; omega
          have I2 : decide (k < NC) = false := by simpa using hlt
          have HW := Lib.hid hW.out
          clear hkn hG hW
          go_wp2
          clear I1 I2
          go_loopw [9] (fun _ wr => ∃ (S : List Int) (r : Nat) (left : List Nat), r ≤ S.length ∧ Hid (PAt wE y F C S r left wr) ∧ Hid (Tel cls given y.vars S left) ∧ Hid (∀ i, i < cls.length → left.getD i 0 = cntU (cls.getD i []) (S.take r))) (fun _ w => turns GC y.vars w)
          case atStart => exact ⟨S, 0, lensU cls, Nat.zero_le _, HW.out, HT0.out, fun i hi => by rw [lensU_at hi, List.take_zero, cnt_nil]⟩
          case round =>
            clear HT0 HW S hlt hk
            obtain ⟨S, r, left, hr, hW, hT, hC⟩ := hrel
            have hb5 := (HBOX.out S r left wr hW.out).2
            have hch := hW.out.hC
            rw [← HGC.out] at hch
            by_cases hlt : r < S.length
            · have hHD := qv_head hlt
              have hTK := hW.out.taken HF.out.gC hlt
              rw [← HGC.out] at hTK
              obtain ⟨buf, hbuf⟩ : ∃ buf, buf = qv S r := ⟨_, rfl⟩
              have hbs : 0 < buf.size := by rw [hbuf, qv_size]; omega
              rw [← hbuf] at hch hTK hHD
              have HCALL := Lib.hid (HTEL.out S _ r left hlt hTK hT.out hC.out)
              obtain ⟨x, hx⟩ : ∃ x, x = S.getD r 0 := ⟨_, rfl⟩
              rw [← hx] at hHD HCALL
              have HCH := Lib.hid hch
              have HBS := Lib.hid hbs
              have HHD := Lib.hid hHD
              have HRV : Hid (turns GC y.vars wr = y.vars - r) := by show _ = _; unfold turns; rw [hch]
              have HVR : Hid (r < y.vars) := Nat.lt_of_lt_of_le hlt hT.out.toCore.len_le
              have HTT := Lib.hid hT.out
              have HLT := Lib.hid hlt
              clear hHD hTK hbuf hch hbs hx hC hT hW hlt
              go_upto_region 14 with fail
              refine reg_sel_buf B GC _ _ r buf wr HCH.out HBS.out _ ?_
              rw [HHD.out]
              go_wp2_with fail
              refine HCALL.out.mono ?_
              rintro e w' hpost
              have HPO := Lib.hid hpost
              clear hpost
              rcases HPO.out with ⟨h1, h2, h3⟩ | ⟨h1, S2, left2, h2⟩
              · subst h1
                have HCL := Lib.hid h2
                have HBE := Lib.hid h3
                clear h2 h3 HPO
                go_wp2
                go_ret
                exact .inl ⟨rfl, HCL.out, HBE.out⟩
              · subst h1
                have H2 := Lib.hid h2
                clear h2 HPO
                have HM2 : Hid (turns GC y.vars w' = y.vars - (r + 1)) := by
                  show _ = _
                  unfold turns
                  have := H2.out.mem.hC
                  rw [← HGC.out] at this
                  rw [this]
                go_wp2
                go_roundw
                case rel => exact ⟨S2, r + 1, left2, by have := H2.out.len; have := HLT.out; omega, H2.out.mem, H2.out.tel, fun i hi => by rw [H2.out.pre, H2.out.cnt i hi]; simp⟩
                case measure => have := HM2.out; have := HRV.out; have := HVR.out; omega
            · have hrs : r = S.length := by omega
              rw [qv_none (by omega)] at hch
              have HCH := Lib.hid hch
              have HFIN : Hid ((∀ l, l ∈ S ↔ Der cls given l) ∧ ¬ Clash cls given) := hT.out.done (fun c hc => asc_nodup (HF.out.asc c hc)) fun i hi => by rw [hC.out i hi, hrs, List.take_length]
              have HWW : Hid (PAt wE y F C S S.length left wr) := by have := hW.out; rw [hrs] at this; exact this
              have HSV : Hid (∀ x, x ∈ S → VLit y.vars x) := hT.out.sv
              clear hch hC hT hW hrs hlt hr
              go_upto_region 14 with fail
              refine reg_sel_none B GC _ _ r wr HCH.out _ ?_
              go_wp2
              go_ret
              exact .inr ⟨rfl, S, left, HWW.out, HFIN.out.1, HFIN.out.2, HSV.out⟩
end Go.Proofs.Ytdngaohjocokiaa
