/- The law ClauseOrder: a clause in order holds where it held; empty talk holds in each model; in order it stays as it is. -/
import Derived.Test.YtdngaohjocokiaaLib
import Derived.Test.YtdngaohjocokiaaNBase
import Derived.Test.YtdngaohjocokiaaCuPure
import Derived.Test.YtdngaohjocokiaaCuInts
import Derived.Test.YtdngaohjocokiaaCuOrder
import Derived.Test.YtdngaohjocokiaaCuHolds
import Derived.Test.YtdngaohjocokiaaCuTell
import Derived.Test.YtdngaohjocokiaaCuMustP
import Derived.Test.YtdngaohjocokiaaCuLives
import Derived.Test.YtdngaohjocokiaaCuModel
import Derived.Test.YtdngaohjocokiaaRows
import Derived.Test.YtdngaohjocokiaaShelf
import Derived.BigQuiet
import Derived.Conc.LoneSelect
import Derived.Deep.AppendLies
import Derived.Deep.CutRange
import Derived.Deep.QuietTactic
import Derived.Deep.RegionHeld3
import Derived.Deep.RegionLaw
import Derived.Deep.RegionWith
import Derived.KernelRfl
import Derived.Laws.CopyOwn
import Derived.Laws.EntriesVeiled
import Derived.Laws.Tables
import Derived.Lib.ConvBytes
import Derived.Lib.Hide
import Derived.Lib.SlBytesRow
import Derived.Lib.SlicesCompact
import Derived.Lib.SmallJoins
import Derived.Maps.AppendAt
import Derived.OrdersHeld
import Derived.Shelf.Bytes.SlSmallAll
import Derived.Sort.Statements
import Derived.WalkKit
import Derived.WalkLawsBesides
import Derived.WalkSpells
namespace Go.Proofs.Ytdngaohjocokiaa
open Go Go.RowKit Go.Joins

theorem pow_le (V : Nat) (h : V ≤ 10) : (2 : Nat) ^ V ≤ 1024 := Nat.le_trans (Nat.pow_le_pow_right (by omega) h) (by decide)
theorem shl_pow (V : Nat) (h : V ≤ 10) : IntKind.i64.wrap ((2 : Int) ^ V) = ((2 ^ V : Nat) : Int) := by
  have hp := pow_le V h
  have e : ((2 : Int) ^ V) = ((2 ^ V : Nat) : Int) := by simp
  rw [e]
  generalize (2 : Nat) ^ V = P at hp ⊢
  exact IntWalk.i64_in _ (by omega)
/-- What the law asks, on plain lists. -/
structure OrdFacts (l C : List Int) (b : Bool) (V : Nat) : Prop where
  holds : ∀ M : List Bool, M.length = V + 1 → holdsS [l] M = (b || holdsS [C] M)
  may : mayS [C] (V : Int) = true
  ord : orderS C = some C
theorem ordFacts_talk {l : List Int} {V : Nat} (hm : mayS [l] (V : Int) = true) (ho : orderS l = none) : OrdFacts l [] true V := by
  obtain ⟨h0, h1, h2, h3⟩ := may_one hm
  refine ⟨fun M hM => ?_, ?_, rfl⟩
  · have hop : opp l = true := by
      cases hq : opp l with
      | true => rfl
      | false => simp [orderS, hq] at ho
    rw [holds_opp hop (fun x hx => by have := h3 x hx; exact ⟨this.1, by omega⟩)]
    rfl
  · rw [mayS_iff]
    exact ⟨h0, h1, by simp, fun c hc => by simp at hc; subst hc; simp⟩
theorem ordFacts_some {l C : List Int} {V : Nat} (hm : mayS [l] (V : Int) = true) (ho : orderS l = some C) : OrdFacts l C false V := by
  obtain ⟨h0, h1, h2, h3⟩ := may_one hm
  obtain ⟨h4, rfl⟩ := orderS_some ho
  have ha := asc_ordL h4
  have h0l : (0 : Int) ∉ ordL l := fun hx => (h3 0 (mem_ordL.1 hx)).1 rfl
  refine ⟨fun M _ => by rw [holds_ordL]; rfl, ?_, ?_⟩
  · rw [mayS_iff]
    refine ⟨h0, h1, by simp, fun c hc => ?_⟩
    simp at hc
    subst hc
    exact ⟨Nat.le_trans (ordL_len l) h2, fun x hx => h3 x (mem_ordL.1 hx)⟩
  · have := ordL_asc ha h0l
    simp [orderS, this.1, this.2]
set_option maxRecDepth 100000 in
set_option maxHeartbeats 6400000 in
theorem clauseOrder_any (l : List Int) (vars : Int) (a : Option Addr) (n c : Nat) (w : World) (h : Sees w a n c (zvs l)) (hn : n ≤ 9223372036854775807) :
    Calls Try.prog 5 #[.slice a n c, .int .i64 vars] w fun e w' => e = .returned (.bool true) ∧ Below w.heap.size w w' := by
  have HO := Lib.hid (order_any11 l vars a n c w h hn)
  have HLV := Lib.hid lives11_any
  have HS := Lib.hid h
  clear h
  go_enter Try.func5, Try.ntmps5
  go_wp2_with fail
  refine HO.out.mono ?_
  intro e w1 hpost
  have HPO := Lib.hid hpost
  have HB1 := Lib.hid hpost.1
  clear hpost
  have key : (e = .returned (.tuple #[.slice none 0 0, .bool false, .int .i64 2])) ∨ (∃ C b ca cn ccp, e = .returned (.tuple #[.slice ca cn ccp, .bool b, .int .i64 0]) ∧ mayS [l] vars = true ∧ cn ≤ 4096 ∧ Sees w1 ca cn ccp (zvs C) ∧ ∀ V : Nat, vars = (V : Int) → OrdFacts l C b V) := by
    rcases HPO.out.2 with ⟨hm, he⟩ | ⟨hm, ho, he⟩ | ⟨hm, C, ca, cn, ccp, ho, he, hcn, hnew⟩
    · exact .inl he
    · exact .inr ⟨[], true, none, 0, 0, he, hm, by omega, Sees.nil _ _ _ (fun _ => rfl), fun V hV => by subst hV; exact ordFacts_talk hm ho⟩
    · exact .inr ⟨C, false, ca, cn, ccp, he, hm, hcn, hnew.sees, fun V hV => by subst hV; exact ordFacts_some hm ho⟩
  clear HPO
  rcases key with rfl | ⟨C, b, ca, cn, ccp, rfl, hm, hcn, hsc, hfacts⟩
  · go_wp2_with fail
    refine (HLV.out _).mono ?_
    rintro e w2 ⟨rfl, hb2⟩
    have HB2 := Lib.hid (ext_trans HB1.out hb2)
    clear hb2
    go_wp2
    go_ret
    exact ⟨rfl, HB2.out⟩
  · by_cases hv : 10 < vars
    · have E1 : decide (10 < vars) = true := by simpa using hv
      clear hm hv hfacts hsc
      go_wp2_with fail
      refine (HLV.out _).mono ?_
      rintro e w2 ⟨rfl, hb2⟩
      have HB2 := Lib.hid (ext_trans HB1.out hb2)
      clear hb2
      go_wp2
      go_ret
      exact ⟨rfl, HB2.out⟩
    · obtain ⟨hv0, _, hl4, hlv⟩ := may_one hm
      obtain ⟨V, rfl⟩ := Int.eq_ofNat_of_zero_le hv0
      have hV : V ≤ 10 := by omega
      have HF := Lib.hid (hfacts V rfl)
      have HSC := Lib.hid hsc
      have hp2 := pow_le V hV
      have hsh := shl_pow V hV
      obtain ⟨P, hP⟩ : ∃ P, P = 2 ^ V := ⟨_, rfl⟩
      rw [← hP] at hp2 hsh
      have HIN : Hid (AllInZ [l] ∧ AllInZ [C]) := by
        refine ⟨fun x hx z hz => ?_, fun x hx z hz => ?_⟩
        · simp at hx; subst hx
          have := hlv z hz
          exact ⟨by omega, by omega⟩
        · simp at hx; subst hx
          have := (may_one HF.out.may).2.2.2 z hz
          exact ⟨by omega, by omega⟩
      have HLL : Hid (SmallZ [l] ∧ SmallZ [C]) := by
        refine ⟨fun x hx => ?_, fun x hx => ?_⟩
        · simp at hx; subst hx; omega
        · simp at hx; subst hx; have := hsc.zlen; omega
      have HORD := Lib.hid (fun W (hb : Below w1.heap.size w1 W) => order_any11 C (V : Int) ca cn ccp W (hsc.below hb) (by omega))
      have HEQ := Lib.hid hsc.zlen
      have E1 : decide (10 < (V : Int)) = false := by simp; omega
      have E2 : decide (10 < V) = false := by simp; omega
      clear hm hv hfacts hsc hv0 hl4 hlv hP
      go_wp2
      go_loopw [8, 9] (fun i _ wr => ∃ k : Nat, k ≤ P ∧ i = .int .i64 k ∧ Hid (Below w1.heap.size w1 wr)) (fun i _ _ => P - (intOf i).toNat)
      case atStart => exact ⟨0, Nat.zero_le _, rfl, Below.refl _ _⟩
      case round =>
        obtain ⟨k, hk, rfl, hB⟩ := hrel
        by_cases hlt : k < P
        · have HB := Lib.hid hB.out
          have HMD := Lib.hid (model_any k V hV wr)
          have W1 : IntKind.i64.wrap ((k : Int) + 1) = (k : Int) + 1 := IntWalk.i64_in _ (by omega)
          have I1 : decide ((k : Int) < (P : Int)) = true := by simpa using hlt
          clear hB
          go_wp2_with fail
          refine HMD.out.mono ?_
          rintro e w2 ⟨am, cm, M, rfl, hM, hsm, hb2⟩
          have HB2 := Lib.hid (ext_trans HB.out hb2)
          have HSM := Lib.hid hsm
          have hf := HF.out.holds M hM
          have HH1 := Lib.hid (holds11_any [l] HIN.out.1 (some ⟨w2.heap.size, 0, none⟩) 1 1 [(a, n, c)] M am (V + 1) cm _ (seesZ_one w2 a n c l (HS.out.below (ext_trans HB1.out (ext_trans HB.out hb2)))) (by omega) HLL.out.1 (hsm.below (ext_alloc _ _)) (by omega))
          have HH2 := Lib.hid (fun W (hb : Below w2.heap.size w2 W) => holds11_any [C] HIN.out.2 (some ⟨W.heap.size, 0, none⟩) 1 1 [(ca, cn, ccp)] M am (V + 1) cm _ (seesZ_one W ca cn ccp C (HSC.out.below (ext_trans HB2.out hb))) (by omega) HLL.out.2 ((hsm.below hb).below (ext_alloc _ _)) (by omega))
          obtain ⟨q1, hq1⟩ : ∃ q1, q1 = holdsS [l] M := ⟨_, rfl⟩
          obtain ⟨q2, hq2⟩ : ∃ q2, q2 = holdsS [C] M := ⟨_, rfl⟩
          rw [← hq1] at HH1 hf
          rw [← hq2] at HH2 hf
          have HFF := Lib.hid hf
          clear hb2 hsm hM hf hq1 hq2
          go_wp2_with fail
          refine HH1.out.mono ?_
          rintro e w3 ⟨rfl, hb3⟩
          have HB3 := Lib.hid (ext_trans HB2.out (ext_trans (ext_alloc w2 _) hb3))
          have HB23 := Lib.hid (ext_trans (ext_alloc w2 _) hb3)
          clear hb3
          cases b with
          | true =>
            have hq : q1 = true := HFF.out
            subst hq
            go_wp2
            go_roundw
            case rel => exact ⟨k + 1, by omega, by go_num, HB3.out⟩
            case measure => simp [intOf]; omega
          | false =>
            have hq : q1 = q2 := HFF.out
            subst hq
            have HH3 := Lib.hid (HH2.out w3 HB23.out)
            go_wp2_with fail
            refine HH3.out.mono ?_
            rintro e w4 ⟨rfl, hb4⟩
            have HB4 := Lib.hid (ext_trans HB3.out (ext_trans (ext_alloc w3 _) hb4))
            clear hb4
            cases q1 with
            | true =>
              go_wp2
              go_roundw
              case rel => exact ⟨k + 1, by omega, by go_num, HB4.out⟩
              case measure => simp [intOf]; omega
            | false =>
              go_wp2
              go_roundw
              case rel => exact ⟨k + 1, by omega, by go_num, HB4.out⟩
              case measure => simp [intOf]; omega
        · have I1 : decide ((k : Int) < (P : Int)) = false := by simp; omega
          have I2 : decide (k < P) = false := by simpa using hlt
          have HB := Lib.hid hB.out
          have HO2 := Lib.hid (HORD.out wr hB.out)
          clear hB
          go_wp2_with fail
          refine HO2.out.mono ?_
          intro e w2 hpost
          obtain ⟨hb2, a2, c2, rfl, hnew⟩ := hpost.yes HF.out.may HF.out.ord
          have HB2 := Lib.hid (ext_trans HB.out hb2)
          have HN2 := Lib.hid hnew.sees
          obtain ⟨m2, hm2⟩ : ∃ m2, m2 = C.length := ⟨_, rfl⟩
          rw [← hm2] at HN2 ⊢
          have hmc : m2 = cn := hm2.trans HEQ.out
          subst hmc
          have HI := Lib.hid (zints_any C ca a2 m2 ccp c2 w2 (HSC.out.below HB2.out) HN2.out (by omega))
          clear hpost hb2 hnew hm2
          go_wp2_with fail
          refine HI.out.mono ?_
          rintro e w3 ⟨rfl, hb3⟩
          have HB3 := Lib.hid (ext_trans HB2.out hb3)
          clear hb3
          go_wp2_with fail
          refine (HLV.out _).mono ?_
          rintro e w4 ⟨rfl, hb4⟩
          have HB4 := Lib.hid (ext_trans HB1.out (ext_trans HB3.out hb4))
          clear hb4
          go_wp2
          go_ret
          exact ⟨rfl, HB4.out⟩
end Go.Proofs.Ytdngaohjocokiaa
