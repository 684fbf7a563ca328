/- inquestref11.Must, by its contract. -/
import Derived.Test.YtdngaohjocokiaaLib
import Derived.Test.YtdngaohjocokiaaOwn
import Derived.Test.YtdngaohjocokiaaNBase
import Derived.Test.YtdngaohjocokiaaCuPure
import Derived.Test.YtdngaohjocokiaaCuInts
import Derived.Test.YtdngaohjocokiaaCuOrder
import Derived.Test.YtdngaohjocokiaaCuTell
import Derived.Test.YtdngaohjocokiaaCuMustP
import Derived.Test.YtdngaohjocokiaaCuMust
import Derived.Test.YtdngaohjocokiaaCuLives
import Derived.Test.YtdngaohjocokiaaCuRefA
import Derived.Test.YtdngaohjocokiaaCuRefB
import Derived.Test.YtdngaohjocokiaaCuRefC
import Derived.Test.YtdngaohjocokiaaCuRefMP
import Derived.Test.YtdngaohjocokiaaRows
import Derived.Test.YtdngaohjocokiaaShelf
import Derived.BigQuiet
import Derived.Conc.LoneSelect
import Derived.Deep.AppendLies
import Derived.Deep.CutRange
import Derived.Deep.QuietTactic
import Derived.Deep.RegionHeld3
import Derived.Deep.RegionLaw
import Derived.Deep.RegionWith
import Derived.KernelRfl
import Derived.Laws.CopyOwn
import Derived.Laws.EntriesVeiled
import Derived.Laws.Tables
import Derived.Lib.ConvBytes
import Derived.Lib.Hide
import Derived.Lib.SlBytesRow
import Derived.Lib.SlicesCompact
import Derived.Lib.SmallJoins
import Derived.Maps.AppendAt
import Derived.OrdersHeld
import Derived.Shelf.Bytes.SlSmallAll
import Derived.Sort.Statements
import Derived.WalkKit
import Derived.WalkLawsBesides
import Derived.WalkSpells
namespace Go.Proofs.Ytdngaohjocokiaa
open Go Go.RowKit Go.Joins

/-- A value that reads as these ints. -/
def ValZ (w : World) (v : Value) (O : List Int) : Prop := ∃ a c, v = .slice a O.length c ∧ Sees w a O.length c (zvs O)
theorem ValZ.below {w w' : World} {v : Value} {O : List Int} (h : ValZ w v O) (hb : Below w.heap.size w w') : ValZ w' v O := by
  obtain ⟨a, c, e, hs⟩ := h
  exact ⟨a, c, e, hs.below hb⟩
theorem RowZ.val {w : World} {base : Nat} {v : Value} {O : List Int} (h : RowZ w base v O) : ValZ w v O := by
  obtain ⟨a, c, e, hn⟩ := h.sees
  exact ⟨a, c, e, hn.sees⟩
def slLen : Value → Nat
  | .slice _ n _ => n
  | _ => 0
set_option maxRecDepth 100000 in
set_option maxHeartbeats 12800000 in
theorem refMust_any (L : List (List Int)) (given : List Int) (vars : Int) (a ag : Option Addr) (n c ng cg : Nat) (ss : List ZSlc) (w : World) (h : SeesZ w a n c ss L) (hg : Sees w ag ng cg (zvs given)) (hn : n ≤ 9223372036854775807) (hm : SmallZ L) (hng : ng ≤ 9223372036854775807) :
    Calls Try.prog 10 #[.slice a n c, .slice ag ng cg, .int .i64 vars] w (MustPost L given vars w) := by
  obtain ⟨i0, hi, hz0, hz1, hz2⟩ := info_parts info_int
  have HS := Lib.hid h
  have HG := Lib.hid hg
  have HL := Lib.hid h.zlen
  have HGL := Lib.hid hg.zlen
  have HSM := Lib.hid hm
  have HM1 := Lib.hid (refMay_any L vars a n c ss w h hn hm)
  have HM2 := Lib.hid (one_any given vars ag ng cg w hg hng)
  obtain ⟨q1, hq1⟩ : ∃ q, q = mayS L vars := ⟨_, rfl⟩
  obtain ⟨q2, hq2⟩ : ∃ q, q = oneR vars given := ⟨_, rfl⟩
  rw [← hq1] at HM1
  rw [← hq2] at HM2
  have HQ1 := Lib.hid hq1.symm
  have HQ2 := Lib.hid hq2.symm
  clear h hg hm hq1 hq2
  go_enter Try.func10, Try.ntmps10
  go_wp2_with fail
  refine HM1.out.mono ?_
  rintro e w1 ⟨rfl, hw⟩
  obtain rfl := hw.symm
  clear hw
  cases q1 with
  | false =>
    go_wp2
    go_ret2
    exact ⟨Below.refl _ _, .inl ⟨.inl HQ1.out, rfl⟩⟩
  | true =>
    obtain ⟨hv0, hv1, hL1, hL2⟩ := mayS_iff.1 HQ1.out
    have HQ3 : Hid (mayS [given] vars = q2) := by show _ = _; rw [← oneR_may hv0 hv1]; exact HQ2.out
    go_wp2_with fail
    refine HM2.out.mono ?_
    rintro e w2 ⟨rfl, hw⟩
    obtain rfl := hw.symm
    clear hw
    cases q2 with
    | false =>
      clear hv0 hv1 hL1 hL2
      go_wp2
      go_ret2
      exact ⟨Below.refl _ _, .inl ⟨.inr (.inl HQ3.out), rfl⟩⟩
    | true =>
      obtain ⟨_, _, hg4, hgl⟩ := may_one HQ3.out
      obtain ⟨V, rfl⟩ := Int.eq_ofNat_of_zero_le hv0
      have hV4 : V ≤ 4194304 := by omega
      have HGV : Hid (∀ x ∈ given, x ≠ 0 ∧ x.natAbs ≤ V) := fun x hx => by have := hgl x hx; exact ⟨this.1, by omega⟩
      have HLV : Hid (∀ C ∈ L, C.length ≤ 4096 ∧ ∀ x ∈ C, x ≠ 0 ∧ x.natAbs ≤ V) := fun C hC => ⟨(hL2 C hC).1, fun x hx => by have := (hL2 C hC).2 x hx; exact ⟨this.1, by omega⟩⟩
      have HONE : Hid (∀ C ∈ L, mayS [C] (V : Int) = true) := fun C hC => mayS_iff.2 ⟨hv0, hv1, by simp, fun d hd => by
        have : d = C := by simpa using hd
        subst this; exact hL2 d hC⟩
      have hng4 : ng ≤ 4096 := by have := HGL.out; omega
      have hn4 : n ≤ 1048576 := by have := HL.out; omega
      clear hv0 hv1 hL1 hL2 hg4 hgl
      go_wp2
      go_loopw [9, 8] (fun i o wr => ∃ (k : Nat) (v : Value) (O : List Int), k ≤ ng ∧ i = .int .i64 k ∧ o = v ∧ Hid (O = ordL (given.take k)) ∧ Hid (∀ j, j < k → given.contains (-(given.getD j 0)) = false) ∧ Hid (ValZ wr v O) ∧ Hid (Below w.heap.size w wr)) (fun i _ _ => ng - (intOf i).toNat)
      case atStart => exact ⟨0, _, [], Nat.zero_le _, rfl, rfl, rfl, (fun j hj => absurd hj (by omega)), ⟨none, 0, rfl, Sees.nil _ _ _ (fun _ => rfl)⟩, Below.refl _ _⟩
      case round =>
        obtain ⟨k, v, O, hk, rfl, hvv, hO, hN, hR, hB⟩ := hrel
        obtain rfl := hvv.symm
        have HO := Lib.hid hO.out
        have HN := Lib.hid hN.out
        have HB := Lib.hid hB.out
        have HR := Lib.hid hR.out
        clear hO hN hR hB hvv
        by_cases hlt : k < ng
        · obtain ⟨b, off, rfl, _⟩ := HG.out.addr (show 0 < ng by omega)
          have hkl : k < given.length := by rw [HGL.out]; exact hlt
          have hc := (HG.out.below HB.out).z_at k hlt
          obtain ⟨y, hy⟩ : ∃ y, y = given.getD k 0 := ⟨_, rfl⟩
          rw [← hy] at hc
          have hyl : y ∈ given := by rw [hy]; exact getD_memZ hkl
          have hyb := (HGV.out y hyl).2
          have W2 : IntKind.i64.wrap (-y) = -y := IntWalk.i64_in _ (by omega)
          have hI1 : ((k : Nat) : Int) < (ng : Int) := by omega
          have hI2 : (0 : Int) ≤ (k : Int) := by omega
          have W1 : IntKind.i64.wrap ((k : Int) + 1) = (k : Int) + 1 := IntWalk.i64_in _ (by omega)
          have HH1 := Lib.hid (has_any given (-y) (some ⟨b, off, none⟩) ng cg wr (HG.out.below HB.out) (by omega))
          obtain ⟨q1, hq1⟩ : ∃ q, q = given.contains (-y) := ⟨_, rfl⟩
          rw [← hq1] at HH1
          cases q1 with
          | true =>
            have HT : Hid (Clash (ordAll L) given) := .inl ⟨y, .given hyl, .given (by rw [← List.contains_iff_mem]; exact hq1.symm)⟩
            clear hq1 hy hyl hyb hkl
            go_wp2_with fail
            refine HH1.out.mono ?_
            rintro e w2 ⟨rfl, rfl⟩
            go_wp2
            go_ret2
            exact ⟨HB.out, .inl ⟨.inr (.inr HT.out), rfl⟩⟩
          | false =>
            have HN2 : Hid (∀ j, j < k + 1 → given.contains (-(given.getD j 0)) = false) := fun j hj => by
              by_cases e : j = k
              · rw [e, ← hy, ← hq1]
              · exact HN.out j (by omega)
            obtain ⟨va, vc, rfl, hsee⟩ := HR.out
            have hol : O.length ≤ 4096 := by
              have h1 := ordL_len (given.take k)
              rw [← HO.out, List.length_take] at h1
              omega
            have HH2 := Lib.hid (has_any O y va O.length vc wr hsee (by omega))
            have HIN := Lib.hid (into_any O y va O.length vc wr hsee (by omega) (fun z hz => by
              rw [HO.out] at hz
              have := (HGV.out z (List.mem_of_mem_take (mem_ordL.1 hz))).2
              omega) (by omega))
            have ho := ordL_take given k hkl
            rw [← HO.out, ← hy] at ho
            obtain ⟨q2, hq2⟩ : ∃ q, q = O.contains y := ⟨_, rfl⟩
            rw [← hq2] at HH2
            cases q2 with
            | true =>
              have HO2 : Hid (O = ordL (given.take (k + 1))) := by show _ = _; rw [ho]; unfold addS; rw [← hq2]; rfl
              clear hq1 hq2 hy hyl hyb hkl hsee ho
              go_wp2_with fail
              refine HH1.out.mono ?_
              rintro e w2 ⟨rfl, rfl⟩
              go_wp2_with fail
              refine HH2.out.mono ?_
              rintro e w2 ⟨rfl, rfl⟩
              go_wp2
              go_roundw
              case rel => exact ⟨k + 1, _, O, by omega, by go_num, rfl, HO2.out, HN2.out, HR.out, HB.out⟩
              case measure => simp [intOf]; omega
            | false =>
              have HO2 : Hid (intoS O y = ordL (given.take (k + 1))) := by show _ = _; rw [ho]; unfold addS; rw [← hq2]; rfl
              clear hq1 hq2 hy hyl hyb hkl hsee ho
              go_wp2_with fail
              refine HH1.out.mono ?_
              rintro e w2 ⟨rfl, rfl⟩
              go_wp2_with fail
              refine HH2.out.mono ?_
              rintro e w2 ⟨rfl, rfl⟩
              go_wp2_with fail
              refine HIN.out.mono ?_
              rintro e w3 ⟨v3, rfl, hr3, hb3⟩
              have HR3 := Lib.hid (RowZ.val hr3)
              have HB3 := Lib.hid (ext_trans HB.out hb3)
              clear hr3 hb3
              go_wp2
              go_roundw
              case rel => exact ⟨k + 1, v3, _, by omega, by go_num, rfl, HO2.out, HN2.out, HR3.out, HB3.out⟩
              case measure => simp [intOf]; omega
        · obtain rfl : k = ng := by omega
          have hop : opp given = false := by
            cases hq : opp given with
            | false => rfl
            | true =>
              obtain ⟨x, hx, hx2⟩ := opp_iff.1 hq
              obtain ⟨i, hi, e⟩ := List.getElem_of_mem hx
              have h1 := HN.out i (by rw [← HGL.out]; exact hi)
              have e2 : given.getD i 0 = x := by simp [List.getD, List.getElem?_eq_getElem hi, e]
              rw [e2, ← Bool.not_eq_true, List.contains_iff_mem] at h1
              exact absurd hx2 h1
          have hoe : O = ordL given := by rw [HO.out, ← HGL.out, List.take_length]
          have HI : Hid (MInv L given V O) := by show MInv _ _ _ _; rw [hoe]; exact MInv.start hop HGV.out
          clear hop hoe HN HO
          go_wp2
          go_loopw [8] (fun mu wr => ∃ (v : Value) (Mu : List Int), mu = v ∧ Hid (MInv L given V Mu) ∧ Hid (ValZ wr v Mu) ∧ Hid (Below w.heap.size w wr)) (fun mu _ => V + 1 - slLen mu)
          case atStart => exact ⟨v, O, rfl, HI.out, HR.out, HB.out⟩
          case round =>
            clear HI HR HB
            obtain ⟨vm, Mu, hvm, hI, hR, hB⟩ := hrel
            obtain rfl := hvm.symm
            have HI := Lib.hid hI.out
            have HR := Lib.hid hR.out
            have HB := Lib.hid hB.out
            have HMU := Lib.hid hI.out.len
            clear hI hR hB hvm
            go_wp2
            go_loopw [11, 10] (fun i g wx => ∃ (k2 : Nat) (vg : Value) (G : List Int), k2 ≤ n ∧ i = .int .i64 k2 ∧ g = vg ∧ Hid (RoundAt L given V Mu k2 G) ∧ Hid (ValZ wx vg G) ∧ Hid (Below wr.heap.size wr wx)) (fun i _ _ => n - (intOf i).toNat)
            case atStart => exact ⟨0, vm, Mu, Nat.zero_le _, rfl, rfl, RoundAt.start HI.out, HR.out, Below.refl _ _⟩
            case round =>
              obtain ⟨k2, vg, G, hk2, rfl, hvg, hA, hVG, hBx⟩ := hrel
              obtain rfl := hvg.symm
              have HA := Lib.hid hA.out
              have HVG := Lib.hid hVG.out
              have HBX := Lib.hid (ext_trans HB.out hBx.out)
              have HBR := Lib.hid hBx.out
              have HGLEN := Lib.hid hA.out.inv.len
              clear hA hVG hBx hvg
              by_cases hlt2 : k2 < n
              · obtain ⟨b, off, rfl, _⟩ := HS.out.addr (show 0 < n by omega)
                have hkl : k2 < L.length := by rw [HL.out]; exact hlt2
                have hs0 := HS.out.below HBX.out
                have hc := hs0.cellAt k2 hlt2
                have he := hs0.each k2 hkl
                obtain ⟨⟨sa, sn, sc⟩, hs⟩ : ∃ s, s = ss.getD k2 zs0 := ⟨_, rfl⟩
                rw [← hs] at hc he
                simp only at hc he
                have HYL := Lib.hid (getD_memL hkl)
                obtain ⟨y, hy⟩ : ∃ y, y = L.getD k2 [] := ⟨_, rfl⟩
                have HY := Lib.hid hy
                rw [← hy] at he HYL
                have hsn : sn ≤ 9223372036854775807 := by rw [← he.zlen]; exact HSM.out _ HYL.out
                have HOR := Lib.hid (refOrder_any y (V : Int) sa sn sc wr he hsn)
                have hI1 : ((k2 : Nat) : Int) < (n : Int) := by omega
                have hI2 : (0 : Int) ≤ (k2 : Int) := by omega
                have W3 : IntKind.i64.wrap ((k2 : Int) + 1) = (k2 : Int) + 1 := IntWalk.i64_in _ (by omega)
                clear hs he hy hkl hs0
                go_wp2_with fail
                refine HOR.out.mono ?_
                intro e w4 hpost
                cases hoy : orderS y with
                | none =>
                  obtain ⟨hb4, rfl⟩ := OrderPost.talk (l := y) (vars := (V : Int)) (w := wr) (w' := w4) hpost (HONE.out y HYL.out) hoy
                  have HN2 : Hid (RoundAt L given V Mu (k2 + 1) G) := HA.out.talk (by rw [← HY.out]; exact hoy)
                  have HV4 := Lib.hid (HVG.out.below hb4)
                  have HB4 := Lib.hid (ext_trans HBR.out hb4)
                  clear hb4 hpost hoy
                  go_wp2
                  go_roundw
                  case rel => exact ⟨k2 + 1, vg, G, by omega, by go_num, rfl, HN2.out, HV4.out, HB4.out⟩
                  case measure => simp [intOf]; omega
                | some C =>
                  obtain ⟨hb4, ca, cc, rfl, hnew⟩ := OrderPost.yes (l := y) (vars := (V : Int)) (w := wr) (w' := w4) hpost (HONE.out y HYL.out) hoy
                  have HC : Hid (orderS (L.getD k2 []) = some C) := by show _ = _; rw [← HY.out]; exact hoy
                  have HCM : Hid (C ∈ ordAll L) := List.mem_filterMap.2 ⟨y, HYL.out, hoy⟩
                  have hcv : ∀ z ∈ C, z ≠ 0 ∧ z.natAbs ≤ V := fun z hz => by
                    obtain ⟨_, e⟩ := orderS_some hoy
                    rw [e] at hz
                    exact (HLV.out y HYL.out).2 z (mem_ordL.1 hz)
                  have HCV := Lib.hid hcv
                  have hcl : C.length ≤ 4096 := by
                    obtain ⟨_, e⟩ := orderS_some hoy
                    have h1 := ordL_len y
                    rw [← e] at h1
                    have := (HLV.out y HYL.out).1
                    omega
                  have HCS := Lib.hid hnew.sees
                  have HB4 := Lib.hid (ext_trans HBR.out hb4)
                  obtain ⟨ga, gc, hge, hgs⟩ := HVG.out
                  have HGS := Lib.hid (hgs.below hb4)
                  have hgl2 : G.length ≤ 4194304 := by have := HGLEN.out; omega
                  have HVG4 := Lib.hid (HVG.out.below hb4)
                  obtain ⟨m, hmC⟩ : ∃ m, m = C.length := ⟨_, rfl⟩
                  obtain ⟨gl, hgl⟩ : ∃ m, m = G.length := ⟨_, rfl⟩
                  rw [← hmC] at HCS hcl ⊢
                  rw [← hgl] at HGS hgl2 hge
                  subst hge
                  have HMC := Lib.hid hmC
                  have HGE := Lib.hid hgl
                  clear hb4 hpost hoy hnew hcv hgs hmC hgl
                  go_wp2
                  go_loopw [17, 16, 15] (fun i q o wy => ∃ (j : Nat) (qq : Bool) (vo : Value) (O2 : List Int), j ≤ m ∧ i = .int .i64 j ∧ q = .bool qq ∧ o = vo ∧ Hid (qq = holdsIn G (C.take j)) ∧ Hid (O2 = openS G (C.take j)) ∧ Hid (RowZ wy w4.heap.size vo O2) ∧ Hid (Below w4.heap.size w4 wy)) (fun i _ _ _ => m - (intOf i).toNat)
                  case atStart => exact ⟨0, false, _, [], Nat.zero_le _, rfl, rfl, rfl, rfl, rfl, Row.nil _ _ _ _, Below.refl _ _⟩
                  case round =>
                    obtain ⟨j, qq, vo, O2, hj, rfl, rfl, hvo, hQ, hO2, hRO, hBy⟩ := hrel
                    obtain rfl := hvo.symm
                    have HQ := Lib.hid hQ.out
                    have HO2 := Lib.hid hO2.out
                    have HRO := Lib.hid hRO.out
                    have HBY := Lib.hid hBy.out
                    have HSZ := Lib.hid hBy.out.size
                    clear hQ hO2 hRO hBy hvo
                    by_cases hlj : j < m
                    · obtain ⟨b2, off2, rfl, _⟩ := HCS.out.addr (show 0 < m by omega)
                      have hjl : j < C.length := by rw [← HMC.out]; exact hlj
                      have hc2 := (HCS.out.below HBY.out).z_at j hlj
                      obtain ⟨z, hz⟩ : ∃ z, z = C.getD j 0 := ⟨_, rfl⟩
                      rw [← hz] at hc2
                      have hzb := (HCV.out z (by rw [hz]; exact getD_memZ hjl)).2
                      have W4 : IntKind.i64.wrap (-z) = -z := IntWalk.i64_in _ (by omega)
                      have hI3 : ((j : Nat) : Int) < (m : Int) := by omega
                      have hI4 : (0 : Int) ≤ (j : Int) := by omega
                      have W5 : IntKind.i64.wrap ((j : Int) + 1) = (j : Int) + 1 := IntWalk.i64_in _ (by omega)
                      have HH3 := Lib.hid (has_any G z ga gl gc wr (HGS.out.below HBY.out) (by omega))
                      have HH4 := Lib.hid (has_any G (-z) ga gl gc wr (HGS.out.below HBY.out) (by omega))
                      have h5 := holdsIn_snoc G C j hjl
                      have h6 := open_snoc G C j hjl
                      rw [← hz, ← HQ.out] at h5
                      rw [← hz, ← HO2.out] at h6
                      have HO2L : Hid (O2.length ≤ 4096) := by
                        show _ ≤ _
                        rw [HO2.out]
                        refine Nat.le_trans (List.length_filter_le _ _) ?_
                        rw [List.length_take]; omega
                      obtain ⟨t3, ht3⟩ : ∃ q, q = G.contains z := ⟨_, rfl⟩
                      obtain ⟨t4, ht4⟩ : ∃ q, q = G.contains (-z) := ⟨_, rfl⟩
                      rw [← ht3] at HH3 h5
                      rw [← ht4] at HH4 h6
                      have HQ2 : Hid ((qq || t3) = holdsIn G (C.take (j + 1))) := h5.symm
                      have HO3 : Hid (O2 ++ (if t4 then [] else [z]) = openS G (C.take (j + 1))) := h6.symm
                      clear hz ht3 ht4 h5 h6 hzb hjl
                      cases qq with
                      | true =>
                        go_wp2_with fail
                        refine HH4.out.mono ?_
                        rintro e w5 ⟨rfl, hw⟩
                        obtain rfl := hw.symm
                        clear hw
                        cases t4 with
                        | true =>
                          have HO4 : Hid (O2 = openS G (C.take (j + 1))) := by show _ = _; rw [← HO3.out]; simp
                          go_wp2
                          go_roundw
                          case rel => exact ⟨j + 1, true, vo, O2, by omega, by go_num, rfl, rfl, HQ2.out, HO4.out, HRO.out, HBY.out⟩
                          case measure => simp [intOf]; omega
                        | false =>
                          go_wp2_with (at_builtin; refine wpList_append_row isZ _ rfl _ _ 23 rfl w4.heap.size 3 i0 (.int .i64 0) 8 Try.underlying23 hi hz0 hz1 hz2 rfl isZ_zero vo O2.length (zvs O2) rfl (HRO.out.below (ext_alloc _ _)) (some ⟨wr.heap.size, 0, none⟩) 1 1 (zvs [z]) rfl (sees_one_z wr z) (zvs_one _) (isZ_zvs _) ?c1 ?c2 ?c3 ?_)
                          case c1 => have := HO2L.out; unfold maxLen; omega
                          case c2 => have := HO2L.out; omega
                          case c3 => have := HSZ.out; simp; omega
                          intro v6 w6 hr6 hg6 _
                          have HR6 := Lib.hid (RowZ.snoc hr6)
                          have HB6 : Hid (Below w4.heap.size w4 w6) := (ext_trans HBY.out (ext_alloc _ _)).grown hg6 (by have := HSZ.out; simp; omega) (fun j hj => (Row.own HRO.out).lt j hj |>.1)
                          have HO4 : Hid (O2 ++ [z] = openS G (C.take (j + 1))) := by show _ = _; rw [← HO3.out]; simp
                          clear hr6 hg6
                          go_wp2
                          go_roundw
                          case rel => exact ⟨j + 1, true, v6, _, by omega, by go_num, rfl, rfl, HQ2.out, HO4.out, HR6.out, HB6.out⟩
                          case measure => simp [intOf]; omega
                      | false =>
                        go_wp2_with fail
                        refine HH3.out.mono ?_
                        rintro e w5 ⟨rfl, hw⟩
                        obtain rfl := hw.symm
                        clear hw
                        go_wp2_with fail
                        refine HH4.out.mono ?_
                        rintro e w5 ⟨rfl, hw⟩
                        obtain rfl := hw.symm
                        clear hw
                        cases t4 with
                        | true =>
                          have HO4 : Hid (O2 = openS G (C.take (j + 1))) := by show _ = _; rw [← HO3.out]; simp
                          go_wp2
                          go_roundw
                          case rel => exact ⟨j + 1, t3, vo, O2, by omega, by go_num, rfl, rfl, HQ2.out, HO4.out, HRO.out, HBY.out⟩
                          case measure => simp [intOf]; omega
                        | false =>
                          go_wp2_with (at_builtin; refine wpList_append_row isZ _ rfl _ _ 23 rfl w4.heap.size 3 i0 (.int .i64 0) 8 Try.underlying23 hi hz0 hz1 hz2 rfl isZ_zero vo O2.length (zvs O2) rfl (HRO.out.below (ext_alloc _ _)) (some ⟨wr.heap.size, 0, none⟩) 1 1 (zvs [z]) rfl (sees_one_z wr z) (zvs_one _) (isZ_zvs _) ?c1 ?c2 ?c3 ?_)
                          case c1 => have := HO2L.out; unfold maxLen; omega
                          case c2 => have := HO2L.out; omega
                          case c3 => have := HSZ.out; simp; omega
                          intro v6 w6 hr6 hg6 _
                          have HR6 := Lib.hid (RowZ.snoc hr6)
                          have HB6 : Hid (Below w4.heap.size w4 w6) := (ext_trans HBY.out (ext_alloc _ _)).grown hg6 (by have := HSZ.out; simp; omega) (fun j hj => (Row.own HRO.out).lt j hj |>.1)
                          have HO4 : Hid (O2 ++ [z] = openS G (C.take (j + 1))) := by show _ = _; rw [← HO3.out]; simp
                          clear hr6 hg6
                          go_wp2
                          go_roundw
                          case rel => exact ⟨j + 1, t3, v6, _, by omega, by go_num, rfl, rfl, HQ2.out, HO4.out, HR6.out, HB6.out⟩
                          case measure => simp [intOf]; omega
                    · obtain rfl : j = m := by omega
                      have hq2 : qq = holdsIn G C := by rw [HQ.out, HMC.out, List.take_length]
                      have ho2 : O2 = openS G C := by rw [HO2.out, HMC.out, List.take_length]
                      obtain ⟨oa, oc, rfl, hnw⟩ := HRO.out.sees
                      have HBF := Lib.hid (ext_trans HB4.out HBY.out)
                      have HBW := Lib.hid (ext_trans HB.out (ext_trans HB4.out HBY.out))
                      have HVF := Lib.hid (HVG4.out.below HBY.out)
                      have HGF := Lib.hid (HGS.out.below HBY.out)
                      match O2, ho2, hnw with
                      | [], ho2, _ =>
                        have HT := Lib.hid (HA.out.inv.clash HCM.out ho2.symm)
                        clear hq2 ho2 hnw HRO HO2 HQ
                        go_wp2
                        go_ret2
                        exact ⟨HBW.out, .inl ⟨.inr (.inr HT.out), rfl⟩⟩
                      | [x], ho2, hnw =>
                        cases qq with
                        | true =>
                          have HN2 : Hid (RoundAt L given V Mu (k2 + 1) G) := HA.out.keep HC.out (by rw [← ho2]; simp) (by rw [← hq2]; simp)
                          clear hq2 ho2 hnw HRO HO2 HQ
                          go_wp2
                          go_roundw
                          case rel => exact ⟨k2 + 1, _, G, by omega, by go_num, rfl, HN2.out, HVF.out, HBF.out⟩
                          case measure => simp [intOf]; omega
                        | false =>
                          have HN2 : Hid (RoundAt L given V Mu (k2 + 1) (intoS G x)) := HA.out.grow (HA.out.inv.unit HCM.out HCV.out ho2.symm hq2.symm)
                          have hxb : x.natAbs ≤ V := (HCV.out x (by
                            have : x ∈ openS G C := by rw [← ho2]; simp
                            exact (mem_open.1 this).1)).2
                          obtain ⟨ob, oo, rfl, _⟩ := hnw.sees.addr (show 0 < [x].length by simp)
                          have hc3 := hnw.sees.z_at 0 (show 0 < [x].length by simp)
                          have hc4 : wr.cell? ⟨ob, oo, none⟩ = some (.int .i64 x) := hc3
                          have HIN := Lib.hid (into_any G x ga gl gc wr HGF.out (by omega) (fun z hz => by have := (HA.out.inv.ins z hz).2; omega) (by omega))
                          clear hq2 ho2 hnw HRO HO2 HQ hxb hc3
                          go_wp2_with fail
                          refine HIN.out.mono ?_
                          rintro e w7 ⟨v7, rfl, hr7, hb7⟩
                          have HV7 := Lib.hid (RowZ.val hr7)
                          have HB7 := Lib.hid (ext_trans HBF.out hb7)
                          clear hr7 hb7
                          go_wp2
                          go_roundw
                          case rel => exact ⟨k2 + 1, v7, _, by omega, by go_num, rfl, HN2.out, HV7.out, HB7.out⟩
                          case measure => simp [intOf]; omega
                      | x :: y2 :: r, ho2, _ =>
                        have HN2 : Hid (RoundAt L given V Mu (k2 + 1) G) := HA.out.keep HC.out (by rw [← ho2]; simp) (by rw [← ho2]; simp)
                        obtain ⟨ln, hln⟩ : ∃ m, m = (x :: y2 :: r).length := ⟨_, rfl⟩
                        rw [← hln]
                        have hl2 : 2 ≤ ln := by rw [hln]; simp
                        have E1 : ((ln : Int) == 0) = false := by simp; omega
                        have E2 : ((ln : Int) == 1) = false := by simp; omega
                        have E3 : (ln == 0) = false := by simp; omega
                        have E4 : (ln == 1) = false := by simp; omega
                        clear hq2 ho2 hnw HRO HO2 HQ hln
                        go_wp2
                        go_roundw
                        case rel => exact ⟨k2 + 1, _, G, by omega, by go_num, rfl, HN2.out, HVF.out, HBF.out⟩
                        case measure => simp [intOf]; omega
              · obtain rfl : k2 = n := by omega
                have hA2 := HA.out
                rw [← HL.out] at hA2
                obtain ⟨ma, mc, rfl, hms⟩ := HR.out
                obtain ⟨ga, gc, rfl, hgs⟩ := HVG.out
                by_cases heq : G.length = Mu.length
                · have HD := Lib.hid (hA2.done heq)
                  have HMS := Lib.hid (hms.below HBR.out)
                  obtain ⟨m, hm⟩ : ∃ m, m = Mu.length := ⟨_, rfl⟩
                  rw [heq]
                  rw [← hm] at HMS HMU ⊢
                  have hmu : m ≤ 100000000 := by have := HMU.out; omega
                  clear hms hgs hA2 heq hm
                  go_wp2
                  go_ret2
                  exact ⟨HBX.out, .inr ⟨Mu, ma, m, mc, ⟨HQ1.out, HQ3.out, HD.out⟩, rfl, hmu, HMS.out⟩⟩
                · have hle := hA2.le
                  have HIG := Lib.hid hA2.inv
                  obtain ⟨m, hm⟩ : ∃ m, m = Mu.length := ⟨_, rfl⟩
                  obtain ⟨g, hg⟩ : ∃ m, m = G.length := ⟨_, rfl⟩
                  have HVG2 : Hid (ValZ wr (.slice ga g gc) G) := by rw [hg]; exact HVG.out
                  have HGL2 : Hid (g ≤ V) := by show _ ≤ _; rw [hg]; exact HGLEN.out
                  have HME := Lib.hid hm
                  have HLT : Hid (m < g) := by show _ < _; omega
                  rw [← hm, ← hg]
                  have E1 : ((g : Int) == (m : Int)) = false := by have := HLT.out; simp; omega
                  have E2 : (g == m) = false := by have := HLT.out; simp; omega
                  clear hms hgs hA2 heq hm hle hg HVG HR
                  go_wp2
                  go_roundw
                  case rel => exact ⟨_, G, rfl, HIG.out, HVG2.out, HBX.out⟩
                  case measure => have := HLT.out; have := HGL2.out; have := HME.out; simp [slLen]; omega
end Go.Proofs.Ytdngaohjocokiaa
