/- inquestref13.Can, by its contract: is there a model. -/
import Derived.Test.YtionibckeicncaaLib
import Derived.Test.YtionibckeicncaaNBase
import Derived.Test.YtionibckeicncaaCuPure
import Derived.Test.YtionibckeicncaaCuInts
import Derived.Test.YtionibckeicncaaTaRM
import Derived.Test.YtionibckeicncaaTaC
import Derived.Test.YtionibckeicncaaTaA
import Derived.Test.YtionibckeicncaaRows
import Derived.Test.YtionibckeicncaaShelf
import Derived.BigQuiet
import Derived.Deep.AppendLies
import Derived.Deep.QuietTactic
import Derived.Deep.RegionLaw
import Derived.Deep.RegionWith
import Derived.KernelRfl
import Derived.Laws.EntriesVeiled
import Derived.Lib.ConvBytes
import Derived.Lib.Hide
import Derived.Lib.SlBytesRow
import Derived.Lib.SlicesCompact
import Derived.Lib.SmallJoins
import Derived.Shelf.Bytes.SlSmallAll
import Derived.Sort.Statements
import Derived.WalkKit
import Derived.WalkLawsBesides
import Derived.WalkSpells
namespace Go.Proofs.Ytionibckeicncaa
open Go Go.RowKit Go.Joins

def CanPost (L : List (List Int)) (given : List Int) (vars : Nat) (w : World) (e : Ending) (w' : World) : Prop :=
  (∃ b : Bool, e = .returned (.bool b) ∧ (b = true ↔ CanP L given vars)) ∧ Below w.heap.size w w'
set_option maxRecDepth 100000 in
set_option maxHeartbeats 6400000 in
theorem refCan_rec (L : List (List Int)) (vars : Nat) (a : Option Addr) (n c : Nat) (ss : List ZSlc) (hn : n ≤ 9223372036854775807) (hm : SmallZ L) (hv : vars ≤ 4000) : ∀ (N : Nat) (given : List Int) (ag : Option Addr) (ng cg : Nat) (w : World),
    freeN given vars < N → SeesZ w a n c ss L → Sees w ag ng cg (zvs given) → ng ≤ 100000 →
    Calls Try.prog 12 #[.slice a n c, .slice ag ng cg, .int .i64 vars] w (CanPost L given vars w)
  | 0, _, _, _, _, _, h, _, _, _ => absurd h (by omega)
  | N + 1, given, ag, ng, cg, w, hN, h, hg, hng => by
    have HMU := Lib.hid (refMust_any L given vars a ag n c ng cg ss w h hg hn hm (by omega))
    have HS := Lib.hid h
    have HSP : Hid (∀ Mu v, MustIs L given vars (some Mu) → 1 ≤ v → v ≤ vars → (CanP L given vars ↔ CanP L (Mu ++ [(v : Int)]) vars ∨ CanP L (Mu ++ [-(v : Int)]) vars)) := fun Mu v h h1 h2 => can_split h h1 h2 (by omega)
    have HFR : Hid (∀ Mu v y, MustIs L given vars (some Mu) → 1 ≤ v → v ≤ vars → openV Mu v = true → (y = (v : Int) ∨ y = -(v : Int)) → freeN (Mu ++ [y]) vars < N) := fun Mu v y h h1 h2 h3 h4 => by
      have := free_lt (must_sub h) h1 h2 h3 h4
      omega
    have HDO : Hid (∀ Mu, MustIs L given vars (some Mu) → (∀ u, 1 ≤ u → u ≤ vars → openV Mu u = false) → CanP L given vars) := fun Mu h h1 => can_done h h1
    have HNO : Hid (MustIs L given vars none → ¬ CanP L given vars) := can_none
    have HIH := Lib.hid (fun given ag ng cg w => refCan_rec L vars a n c ss hn hm hv N given ag ng cg w)
    have HVV := Lib.hid hv
    clear h hg hng hN hn hm
    unfold CanPost
    go_enter Try.func12, Try.ntmps12
    go_wp2_with fail
    refine HMU.out.mono ?_
    rintro e W1 ⟨hb, hr⟩
    have HB1 := Lib.hid hb
    have HS1 := Lib.hid (HS.out.below hb)
    clear HMU HS hb
    rcases hr with ⟨hno, rfl⟩ | ⟨Mu, ma, mn, mc, hyes, rfl, hmn, hsm⟩
    · have HQ := Lib.hid (HNO.out hno)
      clear hno
      go_wp2
      go_ret
      exact ⟨⟨false, rfl, ⟨(fun h => by cases h), (fun h => absurd h HQ.out)⟩⟩, HB1.out⟩
    · have HY := Lib.hid hyes
      have HSM := Lib.hid hsm
      have HML : Hid (mn ≤ 4000) := by
        have h1 := must_len hyes
        have h2 := hsm.zlen
        show _ ≤ _
        omega
      have HOP := Lib.hid (refOpen_any Mu vars ma mn mc W1 hsm hmn (by omega))
      clear hyes hsm hmn
      go_wp2_with fail
      refine HOP.out.mono ?_
      rintro e W2 ⟨⟨v, rfl, hv2⟩, rfl⟩
      clear HOP
      rcases hv2 with ⟨rfl, hall⟩ | ⟨h1, h2, h3⟩
      · have HC := Lib.hid (HDO.out Mu HY.out hall)
        clear hall
        go_wp2
        go_ret
        exact ⟨⟨true, rfl, ⟨fun _ => HC.out, fun _ => rfl⟩⟩, HB1.out⟩
      · have hv0 : ¬ v = 0 := by omega
        have HSPL := Lib.hid (HSP.out Mu v HY.out h1 h2)
        have HF1 := Lib.hid (HFR.out Mu v (v : Int) HY.out h1 h2 h3 (.inl rfl))
        have HF2 := Lib.hid (HFR.out Mu v (-(v : Int)) HY.out h1 h2 h3 (.inr rfl))
        have WN : IntKind.i64.wrap (-(v : Int)) = -(v : Int) := IntWalk.i64_in _ (by have := HVV.out; omega)
        have HMO := Lib.hid (fun (x : Int) W (hb : Below W2.heap.size W2 W) => more_any Mu x ma mn mc W (HSM.out.below hb) (by have := HML.out; omega))
        clear h1 h2 h3 HSP HFR HDO HNO
        go_wp2_with fail
        refine (HMO.out (v : Int) W2 (Below.refl _ _)).mono ?_
        rintro e W3 ⟨oa, oc, rfl, hso, hb⟩
        have HB3 := Lib.hid hb
        have HS3 := Lib.hid (HS1.out.below hb)
        have HCA := Lib.hid (HIH.out (Mu ++ [(v : Int)]) oa (mn + 1) oc W3 HF1.out HS3.out hso (by have := HML.out; omega))
        clear hso hb
        go_wp2_with fail
        refine HCA.out.mono ?_
        rintro e W4 ⟨⟨b, rfl, hbi⟩, hb⟩
        have HBI := Lib.hid hbi
        have HB4 := Lib.hid (ext_trans HB3.out hb)
        have HS4 := Lib.hid (HS3.out.below hb)
        clear hbi hb HCA HS3 HB3
        cases b with
        | true =>
          have HB9 := Lib.hid (ext_trans HB1.out HB4.out)
          have HC := Lib.hid (HSPL.out.2 (.inl (HBI.out.1 rfl)))
          clear HMO HIH
          go_wp2
          go_ret
          exact ⟨⟨true, rfl, ⟨fun _ => HC.out, fun _ => rfl⟩⟩, HB9.out⟩
        | false =>
          go_wp2_with fail
          refine (HMO.out (-(v : Int)) W4 HB4.out).mono ?_
          rintro e W5 ⟨oa2, oc2, rfl, hso, hb⟩
          have HB5 := Lib.hid (ext_trans HB4.out hb)
          have HCA := Lib.hid (HIH.out (Mu ++ [-(v : Int)]) oa2 (mn + 1) oc2 W5 HF2.out (HS4.out.below hb) hso (by have := HML.out; omega))
          clear hso hb HMO HIH
          go_wp2_with fail
          refine HCA.out.mono ?_
          rintro e W6 ⟨⟨b, rfl, hbi⟩, hb⟩
          have HB9 := Lib.hid (ext_trans HB1.out (ext_trans HB5.out hb))
          have HC : Hid (b = true ↔ CanP L given vars) := by
            rw [HSPL.out]
            constructor
            · intro h; exact .inr (hbi.1 h)
            · rintro (h | h)
              · have := HBI.out.2 h; cases this
              · exact hbi.2 h
          clear hbi hb HCA
          go_wp2
          go_ret
          exact ⟨⟨b, rfl, HC.out⟩, HB9.out⟩
theorem refCan_any (L : List (List Int)) (given : List Int) (vars : Nat) (a ag : Option Addr) (n c ng cg : Nat) (ss : List ZSlc) (w : World) (h : SeesZ w a n c ss L) (hg : Sees w ag ng cg (zvs given)) (hn : n ≤ 9223372036854775807) (hm : SmallZ L) (hng : ng ≤ 100000) (hv : vars ≤ 4000) :
    Calls Try.prog 12 #[.slice a n c, .slice ag ng cg, .int .i64 vars] w (CanPost L given vars w) :=
  refCan_rec L vars a n c ss hn hm hv (freeN given vars + 1) given ag ng cg w (by omega) h hg hng
end Go.Proofs.Ytionibckeicncaa
