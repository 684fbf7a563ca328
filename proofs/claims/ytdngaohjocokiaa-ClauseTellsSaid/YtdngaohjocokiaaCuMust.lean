/- clause.Must, by its contract. -/
import Derived.Test.YtdngaohjocokiaaLib
import Derived.Test.YtdngaohjocokiaaOwn
import Derived.Test.YtdngaohjocokiaaNBase
import Derived.Test.YtdngaohjocokiaaCuPure
import Derived.Test.YtdngaohjocokiaaCuInts
import Derived.Test.YtdngaohjocokiaaCuInv
import Derived.Test.YtdngaohjocokiaaCuMay
import Derived.Test.YtdngaohjocokiaaCuOrder
import Derived.Test.YtdngaohjocokiaaCuAllP
import Derived.Test.YtdngaohjocokiaaCuAll
import Derived.Test.YtdngaohjocokiaaCuMem
import Derived.Test.YtdngaohjocokiaaCuTell
import Derived.Test.YtdngaohjocokiaaCuRun
import Derived.Test.YtdngaohjocokiaaCuMustP
import Derived.Test.YtdngaohjocokiaaCuNew
import Derived.Test.YtdngaohjocokiaaRows
import Derived.Test.YtdngaohjocokiaaShelf
import Derived.BigQuiet
import Derived.Conc.LoneSelect
import Derived.Deep.AppendLies
import Derived.Deep.CutRange
import Derived.Deep.QuietTactic
import Derived.Deep.RegionHeld3
import Derived.Deep.RegionLaw
import Derived.Deep.RegionWith
import Derived.KernelRfl
import Derived.Laws.CopyOwn
import Derived.Laws.EntriesVeiled
import Derived.Laws.Tables
import Derived.Lib.ConvBytes
import Derived.Lib.Hide
import Derived.Lib.SlBytesRow
import Derived.Lib.SlicesCompact
import Derived.Lib.SmallJoins
import Derived.Maps.AppendAt
import Derived.OrdersHeld
import Derived.Shelf.Bytes.SlSmallAll
import Derived.Sort.Statements
import Derived.WalkKit
import Derived.WalkLawsBesides
import Derived.WalkSpells
namespace Go.Proofs.Ytdngaohjocokiaa
open Go Go.RowKit Go.Joins

/-- What Must answers. -/
def MustPost (L : List (List Int)) (given : List Int) (vars : Int) (w : World) (e : Ending) (w' : World) : Prop :=
  Below w.heap.size w w' ∧
  ((MustIs L given vars none ∧ e = .returned (.tuple #[.slice none 0 0, .bool false])) ∨
   (∃ M a n c, MustIs L given vars (some M) ∧ e = .returned (.tuple #[.slice a n c, .bool true]) ∧ n ≤ 100000000 ∧ Sees w' a n c (zvs M)))
theorem isZ_zero : isZ (.int .i64 0) := ⟨0, rfl⟩
theorem sees_one_z (w : World) (x : Int) : Sees (w.alloc (.cells #[.int .i64 x] 3)) (some ⟨w.heap.size, 0, none⟩) 1 1 (zvs [x]) := sees_lit w _ _ _ _ 1 rfl rfl
set_option maxRecDepth 100000 in
set_option maxHeartbeats 12800000 in
theorem must_any11 (L : List (List Int)) (given : List Int) (vars : Int) (a ag : Option Addr) (n c ng cg : Nat) (ss : List ZSlc) (w : World) (h : SeesZ w a n c ss L) (hg : Sees w ag ng cg (zvs given)) (hn : n ≤ 4096) (hng : ng ≤ 9223372036854775807) (hT : total L ≤ 1000000) :
    Calls Try.prog 9 #[.slice a n c, .slice ag ng cg, .int .i64 vars] w (MustPost L given vars w) := by
  have hl := h.zlen
  have hlg := hg.zlen
  have HM1 := Lib.hid (may11_any L a n c ss vars w h (by omega) (fun x hx => by have := total_one hx; omega))
  have HM2 := Lib.hid (fun W (hb : Below w.heap.size w W) => may11_any [given] (some ⟨W.heap.size, 0, none⟩) 1 1 [(ag, ng, cg)] vars _ (seesZ_one W ag ng cg given (hg.below hb)) (by omega) (fun x hx => by
    have : x = given := by simpa using hx
    subst this; omega))
  obtain ⟨q1, hq1⟩ : ∃ q1, q1 = mayS L vars := ⟨_, rfl⟩
  obtain ⟨q2, hq2⟩ : ∃ q2, q2 = mayS [given] vars := ⟨_, rfl⟩
  rw [← hq1] at HM1
  rw [← hq2] at HM2
  cases q1 with
  | false =>
    have HQ : Hid (MustIs L given vars none) := .inl hq1.symm
    clear h hg hl hlg hq1 hq2 HM2
    go_enter Try.func9, Try.ntmps9
    go_wp2_with fail
    refine HM1.out.mono ?_
    rintro e w1 ⟨rfl, hb⟩
    have HB := Lib.hid hb
    clear hb
    go_wp2
    go_ret2
    exact ⟨HB.out, .inl ⟨HQ.out, rfl⟩⟩
  | true =>
    cases q2 with
    | false =>
      have HQ : Hid (MustIs L given vars none) := .inr (.inl hq2.symm)
      clear h hg hl hlg hq1 hq2
      go_enter Try.func9, Try.ntmps9
      go_wp2_with fail
      refine HM1.out.mono ?_
      rintro e w1 ⟨rfl, hb⟩
      have HB := Lib.hid hb
      have HM3 := Lib.hid (HM2.out w1 hb)
      clear hb
      go_wp2_with fail
      refine HM3.out.mono ?_
      rintro e w2 ⟨rfl, hb2⟩
      have HB2 := Lib.hid (ext_trans HB.out (ext_trans (ext_alloc w1 _) hb2))
      clear hb2
      go_wp2
      go_ret2
      exact ⟨HB2.out, .inl ⟨HQ.out, rfl⟩⟩
    | true =>
      obtain ⟨hv0, hv1, hL1, hL2⟩ := mayS_iff.1 hq1.symm
      obtain ⟨_, _, hg4, hgl⟩ := may_one hq2.symm
      obtain ⟨V, rfl⟩ := Int.eq_ofNat_of_zero_le hv0
      have hV4 : V ≤ 4194304 := by omega
      have hall := allOrdered_any L a n c ss
      have HS := Lib.hid h
      have HG := Lib.hid hg
      have HLG := Lib.hid hlg
      have HQ1 := Lib.hid hq1
      have HQ2 := Lib.hid hq2
      have HALL := Lib.hid (fun W (hb : Below w.heap.size w W) => allOrdered_any L a n c ss W (h.below hb) hn hT (fun x hx => (hL2 x hx).1) (fun x hx => ⟨fun z hz => by have := (hL2 x hx).2 z hz; omega, fun hz => ((hL2 x hx).2 0 hz).1 rfl⟩))
      have HPR : Hid ((∀ c ∈ ordAll L, c.length ≤ 4096) ∧ (∀ c ∈ ordAll L, ∀ x ∈ c, VLit V x) ∧ (∀ c ∈ ordAll L, Asc c) ∧ (∀ x ∈ given, VLit V x)) := by
        refine ⟨fun c hc => ?_, fun c hc x hx => ?_, fun c hc => (ordAll_mem hc).1, fun x hx => ?_⟩
        · obtain ⟨c0, h1, h2⟩ := ordAll_one hc
          have := (hL2 c0 h1).1
          omega
        · obtain ⟨_, c0, h1, h2⟩ := ordAll_mem hc
          have := (hL2 c0 h1).2 x ((h2 x).1 hx)
          exact ⟨this.1, by omega⟩
        · have := hgl x hx
          exact ⟨this.1, by omega⟩
      have hng4 : ng ≤ 4096 := by omega
      have hcl : (ordAll L).length ≤ 4096 := Nat.le_trans (ordAll_len L) (by omega)
      have HCL := Lib.hid hcl
      have HTT : Hid (total (ordAll L) ≤ 1000000) := Nat.le_trans (total_ordAll L) hT
      clear h hg hl hlg hq1 hq2 hv0 hv1 hL1 hL2 hg4 hgl hall hcl
      go_enter Try.func9, Try.ntmps9
      go_wp2_with fail
      refine HM1.out.mono ?_
      rintro e w1 ⟨rfl, hb⟩
      have HB := Lib.hid hb
      have HM3 := Lib.hid (HM2.out w1 hb)
      clear hb
      go_wp2_with fail
      refine HM3.out.mono ?_
      rintro e w2 ⟨rfl, hb2⟩
      have HB2 := Lib.hid (ext_trans HB.out (ext_trans (ext_alloc w1 _) hb2))
      have HA2 := Lib.hid (HALL.out w2 HB2.out)
      clear hb2
      go_wp2_with fail
      refine HA2.out.mono ?_
      rintro e w3 ⟨ac, nc, cc, us, rfl, hz, hb3⟩
      have HB3 := Lib.hid (ext_trans HB2.out hb3)
      have hnc : nc ≤ 4096 := by rw [← hz.zlen]; exact HCL.out
      have HNP := Lib.hid (newProp_any (ordAll L) given V ng ac nc cc us w3 hz HLG.out hng4 hV4 hnc HTT.out HPR.out.1 HPR.out.2.1 HPR.out.2.2.1)
      clear hz hb3 hnc
      go_wp2_with fail
      refine HNP.out.mono ?_
      rintro e w4 ⟨y, F, K, C, rfl, hy, hfx, hpa⟩
      have HRUN := Lib.hid (run_any11 w3 y (ordAll L) given F K C ag ng cg w4 hfx (HG.out.below HB3.out) hng4 (by rw [hy]; exact HPR.out.2.2.2) hpa)
      have HFX := Lib.hid hfx
      have HY := Lib.hid hy
      clear hfx hpa hy
      go_wp2_with fail
      refine HRUN.out.mono ?_
      rintro e w5 hpost
      have HPO := Lib.hid hpost
      clear hpost
      rcases HPO.out with ⟨rfl, hcl, hb5⟩ | ⟨rfl, S, left, hpa, hder, hncl, hsv⟩
      · have HQ : Hid (MustIs L given (V : Int) none) := .inr (.inr hcl)
        have HB5 := Lib.hid (ext_trans HB3.out hb5)
        clear hcl hb5 HPO
        go_wp2
        go_ret2
        exact ⟨HB5.out, .inl ⟨HQ.out, rfl⟩⟩
      · have HIS : Hid (MustIs L given (V : Int) (some (sorted S V))) := ⟨HQ1.out.symm, HQ2.out.symm, sorted_is hder hncl (fun x hx => by rw [← HY.out]; exact hsv x hx)⟩
        have HPA := Lib.hid hpa
        have HB5 := Lib.hid (ext_trans HB3.out hpa.bel)
        obtain ⟨B, hB⟩ : ∃ B, B = y.B := ⟨_, rfl⟩
        obtain ⟨GD, hGD⟩ : ∃ GD, GD = y.gD := ⟨_, rfl⟩
        obtain ⟨MM, hMM⟩ : ∃ MM, MM = y.m := ⟨_, rfl⟩
        have HCELL : Hid (∀ W, Below w5.heap.size w5 W → W.cell? ⟨B, 4, none⟩ = some (.slice (some ⟨GD, 0, none⟩) MM MM) ∧ ∀ x, VLit V x → W.cell? ⟨GD, placeN x, none⟩ = some (.bool (decide (x ∈ S)))) := fun W hb => by
          rw [hB, hGD, hMM]
          have := HPA.out.below hb
          exact ⟨this.b4, fun x hx => this.d_at (by rw [HY.out]; exact hx)⟩
        have HMM : Hid (MM = 2 * (V + 1)) := by show _ = _; rw [hMM]; unfold PLay.m; rw [HY.out]
        obtain ⟨i0, hi, hz0, hz1, hz2⟩ := info_parts info_int
        rw [← hB]
        clear hder hncl hsv hpa HPO hB hGD hMM HRUN HNP HA2 HM3 HM1 HM2
        go_wp2
        go_loopw [9, 11, 6] (fun vv _ mm wr => ∃ (k : Nat) (u : Value), k ≤ V ∧ vv = .int .i64 ((k + 1 : Nat) : Int) ∧ mm = u ∧ Hid (Row isZ wr w5.heap.size 3 u (sorted S k).length (zvs (sorted S k))) ∧ Hid (Below w5.heap.size w5 wr)) (fun vv _ _ _ => V + 1 - (intOf vv).toNat)
        case atStart => exact ⟨0, _, Nat.zero_le _, rfl, rfl, Row.nil _ _ _ _, Below.refl _ _⟩
        case round =>
          obtain ⟨k, u, hk, rfl, hu, hR, hB⟩ := hrel
          obtain rfl := hu.symm
          obtain ⟨k1, hk1⟩ : ∃ k1, k1 = k + 1 := ⟨_, rfl⟩
          rw [← hk1]
          by_cases hlt : k < V
          · have I1 : (k1 : Int) ≤ (V : Int) := by omega
            have W1 : IntKind.i64.wrap (-(k1 : Int)) = -(k1 : Int) := IntWalk.i64_in _ (by omega)
            have W2 : IntKind.i64.wrap ((k1 : Int) + 1) = ((k1 + 1 : Nat) : Int) := by rw [IntWalk.i64_in _ (by omega)]; omega
            have HR0 : Hid (Row isZ wr w5.heap.size 3 u (sortedTo S k 0).length (zvs (sortedTo S k 0))) := by rw [sortedTo_zero]; exact hR.out
            have HB0 := Lib.hid hB.out
            have HK1 := Lib.hid hk1
            clear hR hB hk1
            go_wp2
            go_loopw [42, 11, 6] (fun i _ mm wr => ∃ (j : Nat) (u : Value), j ≤ 2 ∧ i = .int .i64 j ∧ mm = u ∧ Hid (Row isZ wr w5.heap.size 3 u (sortedTo S k j).length (zvs (sortedTo S k j))) ∧ Hid (Below w5.heap.size w5 wr)) (fun i _ _ _ => 2 - (intOf i).toNat)
            case atStart => exact ⟨0, _, by omega, rfl, rfl, HR0.out, HB0.out⟩
            case round =>
              clear HR0 HB0
              obtain ⟨j, u, hj, rfl, hu, hR, hB⟩ := hrel
              obtain rfl := hu.symm
              by_cases hj2 : j < 2
              · obtain ⟨x, hx⟩ : ∃ x, x = (two (k + 1)).getD j 0 := ⟨_, rfl⟩
                have hix : ∀ W, (Instr.index 45 (.agg #[.int .i64 (k1 : Int), .int .i64 (-(k1 : Int))]) (.int .i64 (j : Int))).run Try.prog W = .ok (.int .i64 x) W := by
                  intro W
                  have hk2 := HK1.out
                  subst hk2
                  rcases j with _ | _ | j
                  · rw [hx]
                    show _ = Result.ok (Value.int .i64 (((k + 1 : Nat)) : Int)) W
                    kernel_rfl
                  · rw [hx]
                    show _ = Result.ok (Value.int .i64 (-((k + 1 : Nat) : Int))) W
                    kernel_rfl
                  · omega
                have hvx : VLit V x := by
                  rw [hx]
                  rcases j with _ | _ | j
                  · show VLit V (((k + 1 : Nat)) : Int); exact ⟨by omega, by omega⟩
                  · show VLit V (-((k + 1 : Nat) : Int)); exact ⟨by omega, by omega⟩
                  · omega
                obtain ⟨b4, hd⟩ := HCELL.out wr hB.out
                have d1 := hd x hvx
                have hpl := placeN_lt hvx.2
                have HP1 := Lib.hid (fun W => place_any x (by have := hvx.2; omega) W)
                obtain ⟨p, hp⟩ : ∃ p, p = placeN x := ⟨_, rfl⟩
                rw [← hp] at d1 HP1 hpl
                have i1 : (p : Int) < (MM : Int) := by have := HMM.out; omega
                have W3 : IntKind.i64.wrap ((j : Int) + 1) = (j : Int) + 1 := IntWalk.i64_in _ (by omega)
                obtain ⟨q, hq⟩ : ∃ q, q = decide (x ∈ S) := ⟨_, rfl⟩
                rw [← hq] at d1
                have hnx := sortedTo_next S k j hj2
                rw [← hx] at hnx
                have hlen := sortedTo_len S k j
                have HNX := Lib.hid hnx
                have HQ := Lib.hid hq
                have HR := Lib.hid hR.out
                have HB := Lib.hid hB.out
                have HLEN := Lib.hid hlen
                have J1 : decide ((j : Int) < 2) = true := by simp; omega
                clear hx hvx hd hpl hp hq hnx hR hB hlen
                go_wp2
                go_quiet ((go_at_call 23; exact Calls.quiet_of_same (HP1.out _)))
                generalize hW6 : wr.drewN nq = w6
                have HB6 : Hid (Below w5.heap.size w5 w6) := ext_trans HB.out (by subst hW6; exact ext_drewN _ _)
                have HR6 : Hid (Row isZ w6 w5.heap.size 3 u (sortedTo S k j).length (zvs (sortedTo S k j))) := HR.out.below (by subst hW6; exact ext_drewN _ _)
                clear hW6 d1 b4 hix
                cases q with
                | false =>
                  have HN : Hid (Row isZ w6 w5.heap.size 3 u (sortedTo S k (j + 1)).length (zvs (sortedTo S k (j + 1)))) := by
                    rw [HNX.out, if_neg (of_decide_eq_false HQ.out.symm), List.append_nil]; exact HR6.out
                  go_wp2
                  go_roundw
                  case rel => exact ⟨j + 1, u, by omega, by go_num, rfl, HN.out, HB6.out⟩
                  case measure => simp [intOf]; omega
                | true =>
                  go_wp2_with (at_builtin; refine wpList_append_row isZ _ rfl _ _ 23 rfl w5.heap.size 3 i0 (.int .i64 0) 8 Try.underlying23 hi hz0 hz1 hz2 rfl isZ_zero u (sortedTo S k j).length (zvs (sortedTo S k j)) rfl (HR6.out.below (ext_alloc _ _)) (some ⟨w6.heap.size, 0, none⟩) 1 1 (zvs [x]) rfl (sees_one_z w6 x) (zvs_one _) (isZ_zvs _) ?c1 ?c2 ?c3 ?_)
                  case c1 => have := HLEN.out; unfold maxLen; omega
                  case c2 => have := HLEN.out; omega
                  case c3 => have h2 := HB6.out.size; simp; omega
                  intro v2 w7 hr7 hg7 _
                  have hlow := HR6.out.own
                  have hb6 := ext_trans HB6.out (ext_alloc w6 (.cells #[.int .i64 x] 3))
                  have HB7 : Hid (Below w5.heap.size w5 w7) := hb6.grown hg7 hb6.size (fun j hj => (hlow.lt j hj).1)
                  have HN : Hid (Row isZ w7 w5.heap.size 3 v2 (sortedTo S k (j + 1)).length (zvs (sortedTo S k (j + 1)))) := by
                    rw [HNX.out, if_pos (of_decide_eq_true HQ.out.symm), List.length_append]
                    have e : zvs (sortedTo S k j ++ [x]) = zvs (sortedTo S k j) ++ zvs [x] := by simp [zvs]
                    rw [e]
                    exact hr7
                  clear hr7 hg7 hb6 hlow
                  go_wp2
                  go_roundw
                  case rel => exact ⟨j + 1, v2, by omega, by go_num, rfl, HN.out, HB7.out⟩
                  case measure => simp [intOf]; omega
              · have hj3 : j = 2 := by omega
                have HN : Hid (Row isZ wr w5.heap.size 3 u (sorted S k1).length (zvs (sorted S k1))) := by
                  have := hR.out
                  rw [hj3, sortedTo_two, ← HK1.out] at this
                  exact this
                have HB := Lib.hid hB.out
                have J1 : decide ((j : Int) < 2) = false := by simp; omega
                have J2 : decide (j < 2) = false := by simpa using hj2
                clear hj3 hR hB
                go_wp2
                go_roundw
                case rel => exact ⟨k1, u, by omega, rfl, rfl, HN.out, HB.out⟩
                case measure => simp [intOf]; omega
          · have hkV : k = V := by omega
            have I1 : decide ((k1 : Int) ≤ (V : Int)) = false := by simp; omega
            have I2 : decide (k1 ≤ V) = false := by simp; omega
            have hR2 := hR.out
            rw [hkV] at hR2
            obtain ⟨ra, rc, hru, _, hrs⟩ := hR2.sees
            have hln := sorted_len (S := S) V
            obtain ⟨rn, hrn⟩ : ∃ rn, rn = (sorted S V).length := ⟨_, rfl⟩
            rw [← hrn] at hru hrs hln
            have HRS := Lib.hid hrs
            have HBF := Lib.hid (ext_trans HB5.out hB.out)
            have HLN := Lib.hid hln
            subst hru
            clear hR hR2 hB hkV hrs hln hrn
            go_wp2
            go_ret2
            exact ⟨HBF.out, .inr ⟨_, ra, rn, rc, HIS.out, rfl, by have := HLN.out; omega, HRS.out⟩⟩
end Go.Proofs.Ytdngaohjocokiaa
