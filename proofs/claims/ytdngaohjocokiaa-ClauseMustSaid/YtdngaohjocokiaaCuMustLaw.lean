/- The law ClauseMust: in each model in which the clauses, and the given literals, hold what must hold does; if they clash there is none. -/
import Derived.Test.YtdngaohjocokiaaLib
import Derived.Test.YtdngaohjocokiaaNBase
import Derived.Test.YtdngaohjocokiaaCuPure
import Derived.Test.YtdngaohjocokiaaCuInts
import Derived.Test.YtdngaohjocokiaaCuMay
import Derived.Test.YtdngaohjocokiaaCuOrder
import Derived.Test.YtdngaohjocokiaaCuAllP
import Derived.Test.YtdngaohjocokiaaCuMustP
import Derived.Test.YtdngaohjocokiaaCuMust
import Derived.Test.YtdngaohjocokiaaCuLives
import Derived.Test.YtdngaohjocokiaaCuModel
import Derived.Test.YtdngaohjocokiaaCuHolds
import Derived.Test.YtdngaohjocokiaaCuOrdLaw
import Derived.Test.YtdngaohjocokiaaCuGreat
import Derived.Test.YtdngaohjocokiaaCuUnits
import Derived.Test.YtdngaohjocokiaaRows
import Derived.Test.YtdngaohjocokiaaShelf
import Derived.BigQuiet
import Derived.Conc.LoneSelect
import Derived.Deep.AppendLies
import Derived.Deep.CutRange
import Derived.Deep.QuietTactic
import Derived.Deep.RegionHeld3
import Derived.Deep.RegionLaw
import Derived.Deep.RegionWith
import Derived.KernelRfl
import Derived.Laws.CopyOwn
import Derived.Laws.EntriesVeiled
import Derived.Laws.Tables
import Derived.Lib.ConvBytes
import Derived.Lib.Hide
import Derived.Lib.SlBytesRow
import Derived.Lib.SlicesCompact
import Derived.Lib.SmallJoins
import Derived.Maps.AppendAt
import Derived.OrdersHeld
import Derived.Shelf.Bytes.SlSmallAll
import Derived.Sort.Statements
import Derived.WalkKit
import Derived.WalkLawsBesides
import Derived.WalkSpells
namespace Go.Proofs.Ytdngaohjocokiaa
open Go Go.RowKit Go.Joins

theorem holds_units (G : List Int) (M : List Bool) : holdsS (unitsZ G) M = G.all (trueS M) := by
  unfold holdsS unitsZ
  rw [List.all_map]
  congr 1
  funext x
  simp
theorem holds_app (L U : List (List Int)) (M : List Bool) : holdsS (L ++ U) M = (holdsS L M && holdsS U M) := by
  unfold holdsS; rw [List.all_append]
theorem total_bound (B : Nat) : ∀ (L : List (List Int)), (∀ c ∈ L, c.length ≤ B) → total L ≤ L.length * B
  | [], _ => by simp [total]
  | c :: L, h => by
    have h1 := total_bound B L (fun x hx => h x (by simp [hx]))
    have h2 := h c (by simp)
    rw [total_cons, List.length_cons, Nat.add_mul]
    omega
theorem der_in {L : List (List Int)} {given : List Int} {x : Int} (h : Der (ordAll L) given x) (hz : AllInZ L) (hg : ∀ z ∈ given, InZ z) : InZ x := by
  cases h with
  | given h => exact hg _ h
  | unit hc hl _ =>
    obtain ⟨_, c0, h1, h2⟩ := ordAll_mem hc
    exact hz c0 h1 _ ((h2 _).1 hl)
/-- What the law asks of the answer, on plain lists. -/
structure MustFacts (L : List (List Int)) (given N : List Int) (ok : Bool) : Prop where
  holds : ∀ M : List Bool, holdsS (L ++ unitsZ given) M = true → ok = true ∧ holdsS (unitsZ N) M = true
  ins : AllInZ (unitsZ N)
theorem units_in {N : List Int} (h : ∀ z ∈ N, InZ z) : AllInZ (unitsZ N) := by
  intro c hc z hz
  obtain ⟨x, hx, rfl⟩ := List.mem_map.1 hc
  simp at hz
  subst hz
  exact h _ hx
theorem units_small (N : List Int) : SmallZ (unitsZ N) := by
  intro c hc
  obtain ⟨x, hx, rfl⟩ := List.mem_map.1 hc
  simp
theorem mustFacts_some {L : List (List Int)} {given N : List Int} {vars : Int} (h : MustIs L given vars (some N)) (hz : AllInZ L) (hg : ∀ z ∈ given, InZ z) : MustFacts L given N true := by
  obtain ⟨_, _, hm⟩ := h
  refine ⟨fun M hM => ⟨rfl, ?_⟩, units_in fun z hz' => der_in ((hm.mem z).1 hz') hz hg⟩
  rw [holds_app, Bool.and_eq_true, holds_units, List.all_eq_true] at hM
  rw [holds_units, List.all_eq_true]
  exact fun x hx => der_true hM.1 hM.2 ((hm.mem x).1 hx)
theorem mustFacts_none {L : List (List Int)} {given : List Int} {vars : Int} (h : MustIs L given vars none) (h1 : mayS L vars = true) (h2 : mayS [given] vars = true) : MustFacts L given [] false := by
  refine ⟨fun M hM => ?_, units_in (by simp)⟩
  rw [holds_app, Bool.and_eq_true, holds_units, List.all_eq_true] at hM
  rcases h with h | h | h
  · rw [h1] at h; cases h
  · rw [h2] at h; cases h
  · exact absurd h (clash_none hM.1 hM.2)
set_option maxRecDepth 100000 in
set_option maxHeartbeats 6400000 in
theorem clauseMust_any (L : List (List Int)) (given : List Int) (vars : Int) (a ag : Option Addr) (n c ng cg : Nat) (ss : List ZSlc) (w : World) (h : SeesZ w a n c ss L) (hg : Sees w ag ng cg (zvs given)) (hn : n ≤ 9223372036854775807) (hm : SmallZ L) (hz : AllInZ L) (hng : ng ≤ 9223372036854775807) (hzg : ∀ z ∈ given, InZ z) :
    Calls Try.prog 4 #[.slice a n c, .slice ag ng cg, .int .i64 vars] w fun e w' => e = .returned (.bool true) ∧ Below w.heap.size w w' := by
  have HGR := Lib.hid (great11_any L a n c ss w h hn)
  have HLV := Lib.hid lives11_any
  have HS := Lib.hid h
  have HG := Lib.hid hg
  have HIN := Lib.hid hz
  have HING := Lib.hid hzg
  have HSM := Lib.hid hm
  clear h hg hz hzg hm
  go_enter Try.func4, Try.ntmps4
  go_wp2_with fail
  refine HGR.out.mono ?_
  rintro e w1 ⟨b, rfl, hb, hb1⟩
  have HB1 := Lib.hid hb1
  have HBB := Lib.hid hb
  clear hb hb1
  cases b with
  | true =>
    go_wp2_with fail
    refine (HLV.out _).mono ?_
    rintro e w2 ⟨rfl, hb2⟩
    have HB2 := Lib.hid (ext_trans HB1.out hb2)
    clear hb2
    go_wp2
    go_ret
    exact ⟨rfl, HB2.out⟩
  | false =>
    have hn60 := (HBB.out rfl).1
    by_cases hg60 : 60 < ng
    · have E1 : decide ((60 : Int) < (ng : Int)) = true := by simp; omega
      go_wp2_with fail
      refine (HLV.out _).mono ?_
      rintro e w2 ⟨rfl, hb2⟩
      have HB2 := Lib.hid (ext_trans HB1.out hb2)
      clear hb2
      go_wp2
      go_ret
      exact ⟨rfl, HB2.out⟩
    · have E1 : decide ((60 : Int) < (ng : Int)) = false := by simp; omega
      have E1' : decide (60 < ng) = false := by simp; omega
      by_cases hv10 : 10 < vars
      · have E2 : decide ((10 : Int) < vars) = true := by simpa using hv10
        go_wp2_with fail
        refine (HLV.out _).mono ?_
        rintro e w2 ⟨rfl, hb2⟩
        have HB2 := Lib.hid (ext_trans HB1.out hb2)
        clear hb2
        go_wp2
        go_ret
        exact ⟨rfl, HB2.out⟩
      · have E2 : decide ((10 : Int) < vars) = false := by simpa using hv10
        have HM1 := Lib.hid (may11_any L a n c ss vars w1 (HS.out.below HB1.out) hn HSM.out)
        have HM2 := Lib.hid (fun W (hb : Below w.heap.size w W) => may11_any [given] (some ⟨W.heap.size, 0, none⟩) 1 1 [(ag, ng, cg)] vars _ (seesZ_one W ag ng cg given (HG.out.below hb)) (by omega) (fun x hx => by
          have : x = given := by simpa using hx
          subst this; have := HG.out.zlen; omega))
        obtain ⟨q1, hq1⟩ : ∃ q1, q1 = mayS L vars := ⟨_, rfl⟩
        obtain ⟨q2, hq2⟩ : ∃ q2, q2 = mayS [given] vars := ⟨_, rfl⟩
        rw [← hq1] at HM1
        rw [← hq2] at HM2
        have HQ1 := Lib.hid hq1.symm
        have HQ2 := Lib.hid hq2.symm
        clear hq1 hq2
        go_wp2_with fail
        refine HM1.out.mono ?_
        rintro e w2 ⟨rfl, hb2⟩
        have HB2 := Lib.hid (ext_trans HB1.out hb2)
        clear hb2
        cases q1 with
        | false =>
          go_wp2_with fail
          refine (HLV.out _).mono ?_
          rintro e w3 ⟨rfl, hb3⟩
          have HB3 := Lib.hid (ext_trans HB2.out hb3)
          clear hb3
          go_wp2
          go_ret
          exact ⟨rfl, HB3.out⟩
        | true =>
          have HM3 := Lib.hid (HM2.out w2 HB2.out)
          go_wp2_with fail
          refine HM3.out.mono ?_
          rintro e w3 ⟨rfl, hb3⟩
          have HB3 := Lib.hid (ext_trans HB2.out (ext_trans (ext_alloc w2 _) hb3))
          clear hb3
          cases q2 with
          | false =>
            go_wp2_with fail
            refine (HLV.out _).mono ?_
            rintro e w4 ⟨rfl, hb4⟩
            have HB4 := Lib.hid (ext_trans HB3.out hb4)
            clear hb4
            go_wp2
            go_ret
            exact ⟨rfl, HB4.out⟩
          | true =>
            obtain ⟨hv0, _, _, hL2⟩ := mayS_iff.1 HQ1.out
            obtain ⟨V, rfl⟩ := Int.eq_ofNat_of_zero_le hv0
            have hV : V ≤ 10 := by omega
            have hT : total L ≤ 1000000 := by
              have h1 := total_bound 4096 L (fun c hc => (hL2 c hc).1)
              have h2 : L.length = n := HS.out.zlen
              rw [h2] at h1
              omega
            have HMU := Lib.hid (must_any11 L given (V : Int) a ag n c ng cg ss w3 (HS.out.below HB3.out) (HG.out.below HB3.out) (by omega) hng hT)
            have hp2 := pow_le V hV
            have hsh := shl_pow V hV
            obtain ⟨P, hP⟩ : ∃ P, P = 2 ^ V := ⟨_, rfl⟩
            rw [← hP] at hp2 hsh
            clear hv0 hL2 hT hP
            go_wp2_with fail
            refine HMU.out.mono ?_
            intro e w4 hpost
            have key : ∃ am nm cm N ok, e = .returned (.tuple #[.slice am nm cm, .bool ok]) ∧ Sees w4 am nm cm (zvs N) ∧ nm ≤ 100000000 ∧ MustFacts L given N ok := by
              rcases hpost.2 with ⟨hi, he⟩ | ⟨N, am, nm, cm, hi, he, hnm, hs⟩
              · exact ⟨_, _, _, [], _, he, Sees.nil _ _ _ (fun _ => rfl), by omega, mustFacts_none hi HQ1.out HQ2.out⟩
              · exact ⟨_, _, _, N, _, he, hs, hnm, mustFacts_some hi HIN.out HING.out⟩
            have HB4 := Lib.hid (ext_trans HB3.out hpost.1)
            obtain ⟨am, nm, cm, N, ok, rfl, hs, hnm, hfacts⟩ := key
            have HF := Lib.hid hfacts
            have HN := Lib.hid hs
            have HU1 := Lib.hid (units_any L given a ag n c ng cg ss w4 (HS.out.below HB4.out) (HG.out.below HB4.out) (by omega) (by omega))
            clear hpost hs hfacts
            go_wp2_with fail
            refine HU1.out.mono ?_
            rintro e w5 ⟨ua, un, uc, us, rfl, hu, hun, hb5⟩
            have HB5 := Lib.hid (ext_trans HB4.out hb5)
            have HB45 := Lib.hid hb5
            have HUS := Lib.hid hu
            have HU2 := Lib.hid (units_any [] N none am 0 0 nm cm [] w5 (SeesZ.nil _) (HN.out.below hb5) (by omega) hnm)
            have hub : un ≤ 9223372036854775807 := by omega
            clear hu hb5 hun
            go_wp2_with fail
            refine HU2.out.mono ?_
            rintro e w6 ⟨va, vn, vc, vs, rfl, hv, hvn, hb6⟩
            have HB6 := Lib.hid (ext_trans HB5.out hb6)
            have HUS6 := Lib.hid (HUS.out.below hb6)
            have HVS := Lib.hid hv
            have hvb : vn ≤ 9223372036854775807 := by omega
            clear hv hb6 hvn
            have HINU : Hid (AllInZ (L ++ unitsZ given)) := fun x hx => (List.mem_append.1 hx).elim (HIN.out x) (units_in HING.out x)
            have HSMU : Hid (SmallZ (L ++ unitsZ given)) := fun x hx => (List.mem_append.1 hx).elim (HSM.out x) (units_small given x)
            go_wp2
            go_loopw [11, 12] (fun i _ wr => ∃ k : Nat, k ≤ P ∧ i = .int .i64 k ∧ Hid (Below w6.heap.size w6 wr)) (fun i _ _ => P - (intOf i).toNat)
            case atStart => exact ⟨0, Nat.zero_le _, rfl, Below.refl _ _⟩
            case round =>
              obtain ⟨k, hk, rfl, hB⟩ := hrel
              by_cases hlt : k < P
              · have HB := Lib.hid hB.out
                have HMD := Lib.hid (model_any k V hV wr)
                have W1 : IntKind.i64.wrap ((k : Int) + 1) = (k : Int) + 1 := IntWalk.i64_in _ (by omega)
                have I1 : decide ((k : Int) < (P : Int)) = true := by simpa using hlt
                clear hB
                go_wp2_with fail
                refine HMD.out.mono ?_
                rintro e w7 ⟨ma, mc, M, rfl, hM, hsm, hb7⟩
                have HB7 := Lib.hid (ext_trans HB.out hb7)
                have HH1 := Lib.hid (holds11_any (L ++ unitsZ given) HINU.out ua un uc us M ma (V + 1) mc w7 (HUS6.out.below (ext_trans HB.out hb7)) hub HSMU.out hsm (by omega))
                have HH2 := Lib.hid (fun W (hb : Below w7.heap.size w7 W) => holds11_any ([] ++ unitsZ N) HF.out.ins va vn vc vs M ma (V + 1) mc W (HVS.out.below (ext_trans HB7.out hb)) hvb (units_small N) (hsm.below hb) (by omega))
                have hf := HF.out.holds M
                obtain ⟨q1, hq1⟩ : ∃ q1, q1 = holdsS (L ++ unitsZ given) M := ⟨_, rfl⟩
                obtain ⟨q2, hq2⟩ : ∃ q2, q2 = holdsS (unitsZ N) M := ⟨_, rfl⟩
                rw [List.nil_append] at HH2
                rw [← hq1] at HH1 hf
                rw [← hq2] at HH2 hf
                have HFF := Lib.hid hf
                clear hb7 hsm hM hf hq1 hq2
                go_wp2_with fail
                refine HH1.out.mono ?_
                rintro e w8 ⟨rfl, hb8⟩
                have HB8 := Lib.hid (ext_trans HB7.out hb8)
                have HH3 := Lib.hid (HH2.out w8 hb8)
                clear hb8
                cases q1 with
                | false =>
                  go_wp2
                  go_roundw
                  case rel => exact ⟨k + 1, by omega, by go_num, HB8.out⟩
                  case measure => simp [intOf]; omega
                | true =>
                  obtain ⟨rfl, rfl⟩ := HFF.out rfl
                  go_wp2_with fail
                  refine HH3.out.mono ?_
                  rintro e w9 ⟨rfl, hb9⟩
                  have HB9 := Lib.hid (ext_trans HB8.out hb9)
                  clear hb9
                  go_wp2
                  go_roundw
                  case rel => exact ⟨k + 1, by omega, by go_num, HB9.out⟩
                  case measure => simp [intOf]; omega
              · have I1 : decide ((k : Int) < (P : Int)) = false := by simp; omega
                have I2 : decide (k < P) = false := by simpa using hlt
                have HB := Lib.hid (ext_trans HB6.out hB.out)
                clear hB
                go_wp2_with fail
                refine (HLV.out _).mono ?_
                rintro e w4 ⟨rfl, hb4⟩
                have HB4 := Lib.hid (ext_trans HB.out hb4)
                clear hb4
                go_wp2
                go_ret
                exact ⟨rfl, HB4.out⟩
end Go.Proofs.Ytdngaohjocokiaa
