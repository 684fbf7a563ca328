/- inquestref11: Order, by its contract. -/
import Derived.Test.YtdngaohjocokiaaLib
import Derived.Test.YtdngaohjocokiaaOwn
import Derived.Test.YtdngaohjocokiaaNBase
import Derived.Test.YtdngaohjocokiaaCuPure
import Derived.Test.YtdngaohjocokiaaCuInts
import Derived.Test.YtdngaohjocokiaaCuInv
import Derived.Test.YtdngaohjocokiaaCuOrder
import Derived.Test.YtdngaohjocokiaaCuTell
import Derived.Test.YtdngaohjocokiaaCuMustP
import Derived.Test.YtdngaohjocokiaaCuRefA
import Derived.Test.YtdngaohjocokiaaCuRefB
import Derived.Test.YtdngaohjocokiaaRows
import Derived.Test.YtdngaohjocokiaaShelf
import Derived.BigQuiet
import Derived.Conc.LoneSelect
import Derived.Deep.AppendLies
import Derived.Deep.CutRange
import Derived.Deep.QuietTactic
import Derived.Deep.RegionHeld3
import Derived.Deep.RegionLaw
import Derived.Deep.RegionWith
import Derived.KernelRfl
import Derived.Laws.CopyOwn
import Derived.Laws.EntriesVeiled
import Derived.Laws.Tables
import Derived.Lib.ConvBytes
import Derived.Lib.Hide
import Derived.Lib.SlBytesRow
import Derived.Lib.SlicesCompact
import Derived.Lib.SmallJoins
import Derived.Maps.AppendAt
import Derived.OrdersHeld
import Derived.Shelf.Bytes.SlSmallAll
import Derived.Sort.Statements
import Derived.WalkKit
import Derived.WalkLawsBesides
import Derived.WalkSpells
namespace Go.Proofs.Ytdngaohjocokiaa
open Go Go.RowKit Go.Joins

theorem ordL_take (l : List Int) (k : Nat) (h : k < l.length) : ordL (l.take (k + 1)) = addS (ordL (l.take k)) (l.getD k 0) := by
  unfold ordL
  rw [take_snocZ l k h, List.foldl_append]
  rfl
set_option maxRecDepth 100000 in
set_option maxHeartbeats 6400000 in
theorem refOrder_any (l : List Int) (vars : Int) (a : Option Addr) (n c : Nat) (w : World) (h : Sees w a n c (zvs l)) (hn : n ≤ 9223372036854775807) :
    Calls Try.prog 17 #[.slice a n c, .int .i64 vars] w (OrderPost l vars w) := by
  have HS := Lib.hid h
  have HL := Lib.hid h.zlen
  have HM := Lib.hid (refMay_any [l] vars (some ⟨w.heap.size, 0, none⟩) 1 1 [(a, n, c)] _ (seesZ_one w a n c l h) (by omega) (fun x hx => by
    have : x = l := by simpa using hx
    subst this; have := h.zlen; omega))
  obtain ⟨q, hq⟩ : ∃ q, q = mayS [l] vars := ⟨_, rfl⟩
  rw [← hq] at HM
  cases q with
  | false =>
    have HQ := Lib.hid hq.symm
    clear h hq
    go_enter Try.func17, Try.ntmps17
    go_wp2_with fail
    refine HM.out.mono ?_
    rintro e w1 ⟨rfl, rfl⟩
    go_wp2
    go_ret3
    exact ⟨ext_alloc _ _, .inl ⟨HQ.out, rfl⟩⟩
  | true =>
    have HQ := Lib.hid hq.symm
    obtain ⟨hv0, hv1, hl4, hlv⟩ := may_one hq.symm
    have HLV : Hid (∀ y ∈ l, y.natAbs ≤ 4194304) := fun y hy => by have := hlv y hy; omega
    have hn4 : n ≤ 4096 := by have := h.zlen; omega
    clear h hq hv0 hv1 hl4 hlv
    go_enter Try.func17, Try.ntmps17
    go_wp2_with fail
    refine HM.out.mono ?_
    rintro e w1 ⟨rfl, rfl⟩
    go_wp2
    go_loopw [8, 7] (fun i o wr => ∃ (k : Nat) (v : Value) (O : List Int), k ≤ n ∧ i = .int .i64 k ∧ o = v ∧ Hid (O = ordL (l.take k)) ∧ Hid (∀ j, j < k → l.contains (-(l.getD j 0)) = false) ∧ Hid (RowZ wr w.heap.size v O) ∧ Hid (Below w.heap.size w wr)) (fun i _ _ => n - (intOf i).toNat)
    case atStart => exact ⟨0, _, [], Nat.zero_le _, rfl, rfl, rfl, (fun j hj => absurd hj (by omega)), Row.nil _ _ _ _, ext_alloc _ _⟩
    case round =>
      obtain ⟨k, v, O, hk, rfl, hvv, hO, hN, hR, hB⟩ := hrel
      obtain rfl := hvv.symm
      have HO := Lib.hid hO.out
      have HN := Lib.hid hN.out
      have HB := Lib.hid hB.out
      have HR := Lib.hid hR.out
      have HSZ := Lib.hid hB.out.size
      clear hO hN hR hB hvv
      by_cases hlt : k < n
      · obtain ⟨b, off, rfl, _⟩ := HS.out.addr (show 0 < n by omega)
        have hkl : k < l.length := by rw [HL.out]; exact hlt
        have hc := (HS.out.below HB.out).z_at k hlt
        obtain ⟨y, hy⟩ : ∃ y, y = l.getD k 0 := ⟨_, rfl⟩
        rw [← hy] at hc
        have hyl : y ∈ l := by rw [hy]; exact getD_memZ hkl
        have hyb := HLV.out y hyl
        have W2 : IntKind.i64.wrap (-y) = -y := IntWalk.i64_in _ (by omega)
        have hI1 : ((k : Nat) : Int) < (n : Int) := by omega
        have hI2 : (0 : Int) ≤ (k : Int) := by omega
        have W1 : IntKind.i64.wrap ((k : Int) + 1) = (k : Int) + 1 := IntWalk.i64_in _ (by omega)
        have HH1 := Lib.hid (has_any l (-y) (some ⟨b, off, none⟩) n c wr (HS.out.below HB.out) (by omega))
        obtain ⟨q1, hq1⟩ : ∃ q, q = l.contains (-y) := ⟨_, rfl⟩
        rw [← hq1] at HH1
        cases q1 with
        | true =>
          have HT : Hid (orderS l = none) := by
            show _ = _
            have : opp l = true := opp_iff.2 ⟨y, hyl, by rw [← List.contains_iff_mem]; exact hq1.symm⟩
            simp [orderS, this]
          clear hq1 hy hyl hyb hkl
          go_wp2_with fail
          refine HH1.out.mono ?_
          rintro e w2 ⟨rfl, rfl⟩
          go_wp2
          go_ret3
          exact ⟨HB.out, .inr (.inl ⟨HQ.out, HT.out, rfl⟩)⟩
        | false =>
          have HN2 : Hid (∀ j, j < k + 1 → l.contains (-(l.getD j 0)) = false) := fun j hj => by
            by_cases e : j = k
            · rw [e, ← hy, ← hq1]
            · exact HN.out j (by omega)
          obtain ⟨va, vc, rfl, hnew⟩ := HR.out.sees
          have hol : O.length ≤ 4096 := by
            have h1 := ordL_len (l.take k)
            rw [← HO.out, List.length_take] at h1
            have := HL.out
            omega
          have HH2 := Lib.hid (has_any O y va O.length vc wr hnew.sees (by omega))
          have HIN := Lib.hid (into_any O y va O.length vc wr hnew.sees (by omega) (fun z hz => HLV.out z (by
            rw [HO.out] at hz
            exact List.mem_of_mem_take (mem_ordL.1 hz))) hyb)
          have ho := ordL_take l k hkl
          rw [← HO.out, ← hy] at ho
          obtain ⟨q2, hq2⟩ : ∃ q, q = O.contains y := ⟨_, rfl⟩
          rw [← hq2] at HH2
          cases q2 with
          | true =>
            have HO2 : Hid (O = ordL (l.take (k + 1))) := by show _ = _; rw [ho]; unfold addS; rw [← hq2]; rfl
            clear hq1 hq2 hy hyl hyb hkl hnew ho
            go_wp2_with fail
            refine HH1.out.mono ?_
            rintro e w2 ⟨rfl, rfl⟩
            go_wp2_with fail
            refine HH2.out.mono ?_
            rintro e w2 ⟨rfl, rfl⟩
            go_wp2
            go_roundw
            case rel => exact ⟨k + 1, _, O, by omega, by go_num, rfl, HO2.out, HN2.out, HR.out, HB.out⟩
            case measure => simp [intOf]; omega
          | false =>
            have HO2 : Hid (intoS O y = ordL (l.take (k + 1))) := by show _ = _; rw [ho]; unfold addS; rw [← hq2]; rfl
            clear hq1 hq2 hy hyl hyb hkl hnew ho
            go_wp2_with fail
            refine HH1.out.mono ?_
            rintro e w2 ⟨rfl, rfl⟩
            go_wp2_with fail
            refine HH2.out.mono ?_
            rintro e w2 ⟨rfl, rfl⟩
            go_wp2_with fail
            refine HIN.out.mono ?_
            rintro e w3 ⟨v3, rfl, hr3, hb3⟩
            have HR3 : Hid (RowZ w3 w.heap.size v3 (intoS O y)) := Row.base_le hr3 HSZ.out
            have HB3 := Lib.hid (ext_trans HB.out hb3)
            clear hr3 hb3
            go_wp2
            go_roundw
            case rel => exact ⟨k + 1, v3, _, by omega, by go_num, rfl, HO2.out, HN2.out, HR3.out, HB3.out⟩
            case measure => simp [intOf]; omega
      · obtain rfl : k = n := by omega
        have hop : opp l = false := by
          cases hq : opp l with
          | false => rfl
          | true =>
            obtain ⟨x, hx, hx2⟩ := opp_iff.1 hq
            obtain ⟨i, hi, e⟩ := List.getElem_of_mem hx
            have h1 := HN.out i (by rw [← HL.out]; exact hi)
            have e2 : l.getD i 0 = x := by simp [List.getD, List.getElem?_eq_getElem hi, e]
            rw [e2, ← Bool.not_eq_true, List.contains_iff_mem] at h1
            exact absurd hx2 h1
        have hoe : O = ordL l := by rw [HO.out, ← HL.out, List.take_length]
        have HT : Hid (orderS l = some O) := by show _ = _; unfold orderS; rw [hop, hoe]; rfl
        have HOL : Hid (O.length ≤ 4096) := by show _ ≤ _; rw [hoe]; have := ordL_len l; have := HL.out; omega
        obtain ⟨va, vc, rfl, hnew⟩ := HR.out.sees
        have HNW := Lib.hid hnew
        clear hop hoe hnew
        go_wp2
        go_ret3
        exact ⟨HB.out, .inr (.inr ⟨HQ.out, O, va, O.length, vc, HT.out, rfl, HOL.out, HNW.out⟩)⟩
end Go.Proofs.Ytdngaohjocokiaa
