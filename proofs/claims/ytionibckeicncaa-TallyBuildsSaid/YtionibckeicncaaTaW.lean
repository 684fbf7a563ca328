/- The law TallyMost: with what Most tells just those ways are left in which at most k of the literals hold. -/
import Derived.Test.YtionibckeicncaaLib
import Derived.Test.YtionibckeicncaaOwn
import Derived.Test.YtionibckeicncaaNBase
import Derived.Test.YtionibckeicncaaNTrace
import Derived.Test.YtionibckeicncaaCuPure
import Derived.Test.YtionibckeicncaaCuInts
import Derived.Test.YtionibckeicncaaCuModel
import Derived.Test.YtionibckeicncaaCuHolds
import Derived.Test.YtionibckeicncaaTaRM
import Derived.Test.YtionibckeicncaaTaP
import Derived.Test.YtionibckeicncaaTaC
import Derived.Test.YtionibckeicncaaTaA
import Derived.Test.YtionibckeicncaaTaB
import Derived.Test.YtionibckeicncaaTaG
import Derived.Test.YtionibckeicncaaTaS
import Derived.Test.YtionibckeicncaaTaT
import Derived.Test.YtionibckeicncaaTaV
import Derived.Test.YtionibckeicncaaTaK
import Derived.Test.YtionibckeicncaaRows
import Derived.Test.YtionibckeicncaaShelf
import Derived.BigQuiet
import Derived.Deep.AppendLies
import Derived.Deep.CutRange
import Derived.Deep.QuietTactic
import Derived.Deep.RegionHeld3
import Derived.Deep.RegionLaw
import Derived.Deep.RegionWith
import Derived.KernelRfl
import Derived.Laws.EntriesVeiled
import Derived.Laws.Tables
import Derived.Lib.ConvBytes
import Derived.Lib.Hide
import Derived.Lib.SlBytesRow
import Derived.Lib.SlicesCompact
import Derived.Lib.SmallJoins
import Derived.Maps.AppendAt
import Derived.OrdersHeld
import Derived.Shelf.Bytes.SlSmallAll
import Derived.Sort.Statements
import Derived.WalkKit
import Derived.WalkLawsBesides
import Derived.WalkSpells
namespace Go.Proofs.Ytionibckeicncaa
open Go Go.RowKit Go.Joins

theorem pow_leT (V : Nat) (h : V ≤ 10) : (2 : Nat) ^ V ≤ 1024 := Nat.le_trans (Nat.pow_le_pow_right (by omega) h) (by decide)
theorem shl_powT (V : Nat) (h : V ≤ 10) : IntKind.i64.wrap ((2 : Int) ^ V) = ((2 ^ V : Nat) : Int) := by
  have hp := pow_leT V h
  have e : ((2 : Int) ^ V) = ((2 ^ V : Nat) : Int) := by simp
  rw [e]
  generalize (2 : Nat) ^ V = P at hp ⊢
  exact IntWalk.i64_in _ (by omega)
theorem shl_minT (V : Nat) (h : V ≤ 10) : wrap64 ((2 : Int) ^ min (IntKind.u64.wrap (V : Int)).toNat 64) = ((2 ^ V : Nat) : Int) := by
  have e : IntKind.u64.wrap (V : Int) = (V : Int) := by rw [IntKind.wrap_u64]; omega
  rw [e, Int.toNat_natCast, show min V 64 = V by omega, ← IntWalk.i64_left]
  exact shl_powT V h
/-- What Most tells of so many outs. -/
def mostL (out : List Int) (k : Nat) : List Int := if k < out.length then [-(out.getD k 0)] else []
theorem most_anyT (out : List Int) (k : Nat) (a : Option Addr) (n c : Nat) (w : World) (h : Sees w a n c (zvs out)) (hn : n ≤ 100000) (hr : ∀ x ∈ out, x.natAbs ≤ 1000000) :
    Calls Try.prog 14 #[.slice a n c, .int .i64 (k : Int)] w fun e w' => ∃ ma mc, e = .returned (.tuple #[.slice ma (mostL out k).length mc, .int .i64 0]) ∧ Sees w' ma (mostL out k).length mc (zvs (mostL out k)) ∧ Below w.heap.size w w' := by
  have hl := h.zlen
  refine (most_any out (k : Int) a n c w h (by omega)).mono ?_
  rintro e w' (⟨h0, _⟩ | ⟨h0, rfl, rfl⟩ | ⟨_, h0, rfl, rfl⟩)
  · omega
  · have e1 : mostL out k = [] := by unfold mostL; rw [if_neg (by omega)]
    rw [e1]
    exact ⟨none, 0, rfl, Sees.nil _ _ _ (fun _ => rfl), Below.refl _ _⟩
  · have e1 : mostL out k = [-(out.getD k 0)] := by unfold mostL; rw [if_pos (by omega)]
    have hx := hr _ (getD_memZ (L := out) (k := k) (by omega))
    have e2 : wrap64 (-(out.getD k 0)) = -(out.getD k 0) := by unfold wrap64; omega
    rw [e1, Int.toNat_natCast, e2]
    exact ⟨_, _, rfl, seesI_lit w [-(out.getD k 0)] 1 _ rfl rfl, ext_alloc _ _⟩
theorem out_small {T : Tly} {v : Nat} (h : ∀ x ∈ T.out, Lt T.next x) (hv : T.next = v + 1) (hv2 : v ≤ 100) : ∀ x ∈ T.out, x.natAbs ≤ 1000000 := fun x hx => by
  have := h x hx
  unfold Lt at this
  omega
set_option maxRecDepth 100000 in
set_option maxHeartbeats 6400000 in
theorem tallyMost_any (lits : List Int) (hz : ∀ x ∈ lits, InZ x) (k next : Int) (a : Option Addr) (n c : Nat) (w : World) (h : Sees w a n c (zvs lits)) (hn : n ≤ 17592186044416) (hk : -9223372036854775808 ≤ k) :
    Calls Try.prog 4 #[.slice a n c, .int .i64 k, .int .i64 next] w fun e w' => e = .returned (.bool true) ∧ Below w.heap.size w w' := by
  obtain ⟨i0, hi0, hz0, hz1, hz2⟩ := info_parts info_int
  have HS := Lib.hid h
  have HZ := Lib.hid hz
  have HL := Lib.hid h.zlen
  go_enter Try.func4, Try.ntmps4
  by_cases q0 : k < 0
  · have HM := Lib.hid (most_any lits k a n c w h (by omega))
    have d0 : decide (k < 0) = true := decide_eq_true q0
    clear h hz
    go_wp2_with fail
    refine HM.out.mono ?_
    intro e W1 hp
    have hp2 : e = .returned (.tuple #[.slice none 0 0, .int .i64 2]) ∧ W1 = w := by
      rcases hp with ⟨_, h1, h2⟩ | ⟨h, _⟩ | ⟨h, _⟩
      · exact ⟨h1, h2⟩
      · omega
      · omega
    obtain ⟨rfl, rfl⟩ := hp2
    clear hp HM q0
    go_wp2_with fail
    refine (lives15_any W1).mono ?_
    rintro e W3 ⟨rfl, hb⟩
    have HB := Lib.hid hb
    clear hb
    go_wp2
    go_ret
    exact ⟨rfl, HB.out⟩
  have d0 : decide (k < 0) = false := decide_eq_false q0
  clear h hz hk
  obtain ⟨k, rfl⟩ := Int.eq_ofNat_of_zero_le (a := k) (by omega)
  clear q0
  by_cases q1 : 7 < next
  · have d1 : decide (7 < next) = true := decide_eq_true q1
    clear q1
    go_wp2_with fail
    refine (lives15_any w).mono ?_
    rintro e W3 ⟨rfl, hb⟩
    have HB := Lib.hid hb
    clear hb
    go_wp2
    go_ret
    exact ⟨rfl, HB.out⟩
  have d1 : decide (7 < next) = false := decide_eq_false q1
  by_cases q2 : 8 < n
  · have d2 : decide (8 < n) = true := decide_eq_true q2
    have d2' : decide ((8 : Int) < (n : Int)) = true := decide_eq_true (by omega)
    clear q1 q2
    go_wp2_with fail
    refine (lives15_any w).mono ?_
    rintro e W3 ⟨rfl, hb⟩
    have HB := Lib.hid hb
    clear hb
    go_wp2
    go_ret
    exact ⟨rfl, HB.out⟩
  have d2 : decide (8 < n) = false := decide_eq_false q2
  have d2' : decide ((8 : Int) < (n : Int)) = false := decide_eq_false (by omega)
  by_cases q3 : 20 < k
  · have d3 : decide (20 < k) = true := decide_eq_true q3
    have d3' : decide ((20 : Int) < (k : Int)) = true := decide_eq_true (by omega)
    clear q1 q2 q3
    go_wp2_with fail
    refine (lives15_any w).mono ?_
    rintro e W3 ⟨rfl, hb⟩
    have HB := Lib.hid hb
    clear hb
    go_wp2
    go_ret
    exact ⟨rfl, HB.out⟩
  have d3 : decide (20 < k) = false := decide_eq_false q3
  have d3' : decide ((20 : Int) < (k : Int)) = false := decide_eq_false (by omega)
  obtain ⟨k1, hk1⟩ : ∃ x : Nat, x = k + 1 := ⟨_, rfl⟩
  have w1 : IntKind.i64.wrap ((k : Int) + 1) = (k1 : Int) := by rw [show (k : Int) + 1 = (k1 : Int) by omega]; exact IntWalk.i64_in _ (by omega)
  have HBD := Lib.hid (build_any lits (k1 : Int) next a n c w HS.out (by omega) (by omega))
  have HQ := Lib.hid (And.intro q1 (And.intro q2 (And.intro q3 hk1)))
  clear q1 q2 q3 hk1 hn
  go_wp2_with fail
  refine HBD.out.mono ?_
  rintro e W1 ⟨hb, hp⟩
  have HW1 := Lib.hid hb
  clear hb HBD w1 d0 d1 d2 d2' d3 d3'
  rcases hp with ⟨_, rfl⟩ | ⟨_, _, rfl⟩ | ⟨hnb, _, _, la, lc, lss, oa, oc, rfl, hzz, hoo⟩
  · go_wp2_with fail
    refine (lives15_any W1).mono ?_
    rintro e W3 ⟨rfl, hb⟩
    have HB := Lib.hid (ext_trans HW1.out hb)
    clear hb
    go_wp2
    go_ret
    exact ⟨rfl, HB.out⟩
  · go_wp2_with fail
    refine (lives15_any W1).mono ?_
    rintro e W3 ⟨rfl, hb⟩
    have HB := Lib.hid (ext_trans HW1.out hb)
    clear hb
    go_wp2
    go_ret
    exact ⟨rfl, HB.out⟩
  have hn1 : ¬ next < 1 := fun h => hnb (.inr (.inl h))
  have hmy : mayS [lits] (next - 1) = true := by
    cases hq : mayS [lits] (next - 1) with
    | true => rfl
    | false => exact absurd (.inr (.inr (.inr hq))) hnb
  obtain ⟨nx, rfl⟩ := Int.eq_ofNat_of_zero_le (a := next) (by omega)
  obtain ⟨V, hV⟩ : ∃ V, V = nx - 1 := ⟨_, rfl⟩
  have hV6 : V ≤ 6 := by have := HQ.out.1; omega
  have hnV : nx = V + 1 := by omega
  have hlt : ∀ x ∈ lits, Lt (V + 1) x := fun x hx => by
    have := (may_oneT hmy).2.2.2 x hx
    exact ⟨this.1, by omega⟩
  have hlen : lits.length ≤ 8 := by rw [HL.out]; have := HQ.out.2.1; omega
  have hF := talF (most := min k1 lits.length) hV6 hlen hlt
  have eT : outT lits (k1 : Int) (nx : Int) = outsF lits.length (min k1 lits.length) lits (V + 1) := by
    unfold outT
    rw [Int.toNat_natCast, Int.toNat_natCast, hnV]
  obtain ⟨T, hT⟩ : ∃ T, T = outsF lits.length (min k1 lits.length) lits (V + 1) := ⟨_, rfl⟩
  rw [← hT] at eT hF
  rw [eT] at hzz hoo ⊢
  obtain ⟨v, hv⟩ : ∃ v, v = T.next - 1 := ⟨_, rfl⟩
  rw [← hv] at hF
  have HF := Lib.hid hF
  have HZZ := Lib.hid hzz
  have HOO := Lib.hid hoo
  have hts := hF.nx
  have hbar : ∀ M : List Bool, M.length = V + 1 → (CanP T.cls (saidL M V ++ mostL T.out k) v ↔ lits.countP (trueS M) ≤ k) := fun M lM => by
    rcases hF.bar M lM k with h | h
    · unfold mostL; exact h
    · have hl2 : lits.length ≤ k := by have := HQ.out; omega
      have hcl := List.countP_le_length (p := trueS M) (l := lits)
      have hol := hF.len
      unfold mostL
      rw [if_neg (by omega), List.append_nil]
      exact ⟨fun _ => by omega, fun _ => hF.yes M lM⟩
  have HBAR := Lib.hid hbar
  have HMO := Lib.hid (most_anyT T.out k oa T.out.length oc W1 hoo (by have := hF.len; omega) (out_small hF.outs hts hF.few.1))
  have HV6 := Lib.hid (And.intro hV6 (And.intro hnV hlen))
  obtain ⟨ln, hln⟩ : ∃ x, x = T.cls.length := ⟨_, rfl⟩
  obtain ⟨on, hon⟩ : ∃ x, x = T.out.length := ⟨_, rfl⟩
  obtain ⟨af, haf⟩ : ∃ x, x = T.next := ⟨_, rfl⟩
  rw [← hln] at HZZ
  rw [← hon] at HMO HOO
  rw [← hln, ← hon, ← haf]
  have wa : IntKind.i64.wrap ((af : Int) - 1) = (v : Int) := by rw [show (af : Int) - 1 = (v : Int) by omega]; exact IntWalk.i64_in _ (by have := hF.few; omega)
  have wx : IntKind.i64.wrap ((nx : Int) - 1) = (V : Int) := by rw [show (nx : Int) - 1 = (V : Int) by omega]; exact IntWalk.i64_in _ (by omega)
  have hp2 := pow_leT V (by omega)
  have hsh := shl_minT V (by omega)
  obtain ⟨P, hP⟩ : ∃ P, P = 2 ^ V := ⟨_, rfl⟩
  rw [← hP] at hp2 hsh
  have HP := Lib.hid hp2
  have HLN : Hid (ln ≤ 1000) := by show _ ≤ _; rw [hln]; exact hF.ncls
  clear hnb hn1 hmy hV hV6 hnV hlt hlen hF eT hT hv hzz hoo hts hbar hln hon haf hp2 hP
  go_wp2_with fail
  refine HMO.out.mono ?_
  rintro e W2 ⟨ma, mc, rfl, hms, hb⟩
  have HW2 := Lib.hid (ext_trans HW1.out hb)
  have HZ2 := Lib.hid (HZZ.out.below hb)
  have HS2 := Lib.hid (HS.out.below HW2.out)
  have HMS := Lib.hid hms
  obtain ⟨ml, hml⟩ : ∃ x, x = (mostL T.out k).length := ⟨_, rfl⟩
  have HML : Hid (ml ≤ 1) := by show _ ≤ _; rw [hml]; unfold mostL; split <;> simp
  rw [← hml] at HMS ⊢
  have HMLL := Lib.hid hml
  clear hb hms hml HMO HZZ HOO HS HW1
  go_wp2_with fail
  go_loopw [14] (fun i wr => ∃ j : Nat, j ≤ P ∧ i = .int .i64 j ∧ Hid (Below W2.heap.size W2 wr)) (fun i _ => P - (intOf i).toNat)
  case atStart => exact ⟨0, Nat.zero_le _, rfl, Below.refl _ _⟩
  case round =>
    obtain ⟨j, hj, rfl, hB⟩ := hrel
    have HB := Lib.hid hB.out
    clear hB
    by_cases hlt : j < P
    · have HMD := Lib.hid (model_any j V (by have := HV6.out; omega) wr)
      have I1 : decide ((j : Int) < (P : Int)) = true := by simpa using hlt
      have W1' : IntKind.i64.wrap ((j : Int) + 1) = (j : Int) + 1 := IntWalk.i64_in _ (by have := HP.out; omega)
      go_wp2_with fail
      refine HMD.out.mono ?_
      rintro e w2 ⟨am, cm, M, rfl, hM, hsm, hb2⟩
      have HB2 := Lib.hid (ext_trans HB.out hb2)
      have HSM := Lib.hid hsm
      have HMM := Lib.hid hM
      have HSD := Lib.hid (said_any M V am (V + 1) cm w2 hsm rfl (by have := HV6.out; omega))
      have e9 : ((V + 1 : Nat) : Int) = (nx : Int) := by rw [HV6.out.2.1]
      rw [e9] at HSD
      clear hM hsm hb2 HMD I1 e9
      go_wp2_with fail
      refine HSD.out.mono ?_
      rintro e w3 ⟨sv, rfl, hrow, hb3⟩
      have HR3 := Lib.hid hrow
      have HB3 := Lib.hid (ext_trans HB2.out hb3)
      have HB23 := Lib.hid hb3
      clear hrow hb3 HSD
      go_wp2_with (at_builtin; refine wpList_append_row isZ _ rfl _ _ 22 rfl w2.heap.size 3 i0 (.int .i64 0) 8 Try.underlying22 hi0 hz0 hz1 hz2 rfl isZ_zero sv V (zvs (saidL M V)) rfl HR3.out ma ml mc (zvs (mostL T.out k)) rfl (HMS.out.below HB3.out) (zvs_one _) (isZ_zvs _) ?c1 ?c2 ?c3 ?_)
      case c1 => have := HML.out; have := HV6.out; unfold maxLen; omega
      case c2 => have := HML.out; have := HV6.out; omega
      case c3 => exact HB23.out.size
      intro v2 w4 hr4 hg4 _
      have hb4 : Below w2.heap.size w2 w4 := HB23.out.grown hg4 HB23.out.size (fun q hq => (HR3.out.own.lt q hq).1)
      have hr5 : Row isZ w4 w2.heap.size 3 v2 (V + ml) (zvs (saidL M V ++ mostL T.out k)) := by
        have e2 : zvs (saidL M V) ++ zvs (mostL T.out k) = zvs (saidL M V ++ mostL T.out k) := by simp [zvs]
        rw [e2] at hr4
        exact hr4
      obtain ⟨ga, gc, hgv, _, hgs⟩ := hr5.sees
      subst hgv
      have HB4 := Lib.hid (ext_trans HB2.out hb4)
      have HCA := Lib.hid (refCan_any T.cls (saidL M V ++ mostL T.out k) v la ga ln lc (V + ml) gc lss w4 (HZ2.out.below HB4.out) hgs (by have := HLN.out; omega) HF.out.small (by have := HML.out; have := HV6.out; omega) (by have := HF.out.few; omega))
      have HB24 := Lib.hid hb4
      clear hr4 hg4 hb4 hr5 hgs HR3 HB23 HB3
      go_wp2_with fail
      refine HCA.out.mono ?_
      rintro e w5 ⟨⟨b, rfl, hbi⟩, hb5⟩
      have HB5 := Lib.hid (ext_trans HB4.out hb5)
      have hcnt := HBAR.out M HMM.out
      have HHO := Lib.hid (hold_any lits HZ.out M a n c am (V + 1) cm w5 (HS2.out.below HB5.out) (HSM.out.below (ext_trans HB24.out hb5)) (by have := HQ.out; omega) (by have := HV6.out; omega))
      obtain ⟨cn, hcn⟩ : ∃ x, x = lits.countP (trueS M) := ⟨_, rfl⟩
      rw [← hcn] at HHO hcnt
      have hbv : b = decide (cn ≤ k) := by
        rw [Bool.eq_iff_iff, decide_eq_true_eq, hbi]
        exact hcnt
      subst hbv
      clear hbi hb5 hcnt hcn HCA HB24 HB4 HB2 HSM HMM HB
      go_wp2_with fail
      refine HHO.out.mono ?_
      rintro e w6 ⟨rfl, rfl⟩
      clear HHO
      by_cases q9 : cn ≤ k
      · have d9 : decide (cn ≤ k) = true := decide_eq_true q9
        have d9' : decide ((cn : Int) ≤ (k : Int)) = true := decide_eq_true (by omega)
        clear q9
        go_wp2
        go_roundw
        case rel => exact ⟨j + 1, by omega, by go_num, HB5.out⟩
        case measure => simp [intOf]; omega
      · have d9 : decide (cn ≤ k) = false := decide_eq_false q9
        have d9' : decide ((cn : Int) ≤ (k : Int)) = false := decide_eq_false (by omega)
        clear q9
        go_wp2
        go_roundw
        case rel => exact ⟨j + 1, by omega, by go_num, HB5.out⟩
        case measure => simp [intOf]; omega
    · have I1 : decide ((j : Int) < (P : Int)) = false := by simpa using hlt
      have I2 : decide (j < P) = false := by simpa using hlt
      have HBE := Lib.hid (ext_trans HW2.out HB.out)
      clear hlt hj HB
      go_wp2_with fail
      refine (lives15_any wr).mono ?_
      rintro e W18 ⟨rfl, hb⟩
      have HBF := Lib.hid (ext_trans HBE.out hb)
      clear hb
      go_wp2
      go_ret
      exact ⟨rfl, HBF.out⟩
end Go.Proofs.Ytionibckeicncaa
