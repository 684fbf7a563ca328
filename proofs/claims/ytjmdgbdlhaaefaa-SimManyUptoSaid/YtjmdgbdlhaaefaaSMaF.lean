/- SimMany returns true for every circuit, trace, table of bytes and bool where what it reads is of bulk at most 1048576: what sim.Many answers of at most 64 traces at once is what sim.Fails and sim.Surely answer of each of them alone, and an error where they may not run together. Condition: the bound. -/
import Derived.Test.YtjmdgbdlhaaefaaNBase
import Derived.Test.YtjmdgbdlhaaefaaNOwnsN
import Derived.Test.YtjmdgbdlhaaefaaNSpec
import Derived.Test.YtjmdgbdlhaaefaaNTrace
import Derived.Test.YtjmdgbdlhaaefaaNCirc
import Derived.Test.YtjmdgbdlhaaefaaNOwns
import Derived.Test.YtjmdgbdlhaaefaaNHeap
import Derived.Test.YtjmdgbdlhaaefaaSSurely
import Derived.Test.YtjmdgbdlhaaefaaSMaB
import Derived.Test.YtjmdgbdlhaaefaaSMaC
import Derived.Test.YtjmdgbdlhaaefaaSMaD
import Derived.Test.YtjmdgbdlhaaefaaSMaE
import Derived.Test.YtjmdgbdlhaaefaaRows
import Derived.Test.YtjmdgbdlhaaefaaShelf
import Derived.BigQuiet
import Derived.BigRegion
import Derived.Deep.AppendLies
import Derived.Deep.CutRange
import Derived.Deep.QuietTactic
import Derived.Deep.RegionHeld3
import Derived.Deep.RegionLaw
import Derived.Deep.RegionWith
import Derived.KernelRfl
import Derived.Laws.Bits64b
import Derived.Laws.BitsAllLaws
import Derived.Laws.BitsLemmas
import Derived.Laws.EntriesVeiled
import Derived.Laws.MakeOwn
import Derived.Laws.Tables
import Derived.Lib.AppendStr
import Derived.Lib.AppendZeros
import Derived.Lib.ConvBytes
import Derived.Lib.Hide
import Derived.Lib.SlBytesRow
import Derived.Lib.SmallJoins
import Derived.LoopIn
import Derived.LoopNIn
import Derived.Maps.AppendAt
import Derived.OrdersHeld
import Derived.OrdersIn
import Derived.OwnWalkIn
import Derived.RangeFuncBox
import Derived.RangeFuncCalls
import Derived.RangeFuncLeaves
import Derived.RangeFuncNested
import Derived.RangeFuncWrites
import Derived.Shelf.Abstract
import Derived.Shelf.Bytes.SlSmallAll
import Derived.Shelf.RegionOpen
import Derived.Sort.CutIn
import Derived.Stop.RegionWithIn
import Derived.TacticsInMore
import Derived.WalkKit
import Derived.WalkLawsBesides
import Derived.WalkSpells
import Derived.Test.YtjmdgbdlhaaefaaRawPred
import Derived.Test.YtjmdgbdlhaaefaaNVal
import Derived.Test.YtjmdgbdlhaaefaaNWide
import Derived.Test.YtjmdgbdlhaaefaaNRefFits
import Derived.Test.YtjmdgbdlhaaefaaTBits
import Derived.Test.YtjmdgbdlhaaefaaSMaA
import Derived.Deep.CutBlock
import Derived.Test.YtjmdgbdlhaaefaaNOpen
import Derived.ChangeSame
import Derived.Deep.DeepHandedRow
import Derived.Deep.Fields
import Derived.Deep.Slices
import Derived.Lib.LaidTab
import Derived.OpenShut
import Derived.ProofKit
import Derived.Stop.LaidErr
import Derived.Test.YtjmdgbdlhaaefaaPost0
import Derived.Test.YtjmdgbdlhaaefaaPost
import Derived.Test.YtjmdgbdlhaaefaaNOpenC
import Derived.JoinedCond
/- What the law SimMany's loop keeps. -/
namespace Go.Proofs.Ytjmdgbdlhaaefaa
open Go Go.RowKit Go.Joins

/-- The cells of traces. -/
def tcs : List (TSlots × TraceC) → List Value
  | [] => []
  | p :: r => .int .i64 p.2.bad :: .slice p.1.a1 p.1.n1 p.1.c1 :: .slice p.1.a2 p.1.n2 p.1.c2 :: tcs r
theorem tcs_len : ∀ l, (tcs l).length = 3 * l.length
  | [] => rfl
  | p :: r => by rw [tcs, List.length_cons, List.length_cons, List.length_cons, tcs_len r, List.length_cons]; omega
theorem tcs_append : ∀ a b, tcs (a ++ b) = tcs a ++ tcs b
  | [], _ => rfl
  | p :: a, b => by rw [List.cons_append, tcs, tcs, tcs_append a b]; rfl
def p00 : TSlots × TraceC := (st00, t00)
theorem tcs_at : ∀ (l : List (TSlots × TraceC)) (k : Nat), k < l.length → (tcs l)[k * 3]? = some (.int .i64 (l.getD k p00).2.bad) ∧ (tcs l)[k * 3 + 1]? = some (.slice (l.getD k p00).1.a1 (l.getD k p00).1.n1 (l.getD k p00).1.c1) ∧ (tcs l)[k * 3 + 2]? = some (.slice (l.getD k p00).1.a2 (l.getD k p00).1.n2 (l.getD k p00).1.c2)
  | [], k, h => by simp at h
  | p :: r, 0, _ => by simp [tcs]
  | p :: r, k + 1, h => by
    have ih := tcs_at r k (by simpa using h)
    have el : ∀ i, (tcs (p :: r))[i + 3]? = (tcs r)[i]? := fun i => by simp [tcs]
    rw [show (k + 1) * 3 + 1 = k * 3 + 1 + 3 by omega, show (k + 1) * 3 + 2 = k * 3 + 2 + 3 by omega, show (k + 1) * 3 = k * 3 + 3 by omega, el, el, el]
    simpa using ih
theorem cell_three_new (w : World) (x y z : Value) (t : TypeId) : ∀ j u, [x, y, z][j]? = some u → (w.alloc (.cells #[x, y, z] t)).cell? ((⟨w.heap.size, 0, none⟩ : Addr).add j) = some u := by
  intro j u hj
  have hh := heap_new w (.cells #[x, y, z] t) _ rfl
  match j, hj with
  | 0, hj => simp at hj; subst hj; exact cell_of_block hh 0
  | 1, hj => simp at hj; subst hj; exact cell_of_block hh 1
  | 2, hj => simp at hj; subst hj; exact cell_of_block hh 2
/-- How many frames the i-th trace has. -/
def nfAt (NF : Nat) (odd : Bool) (i : Nat) : Nat := if odd = true ∧ i = 1 then NF + 1 else NF
structure LInv (c : NormC) (bad : Int) (NF : Nat) (odd : Bool) (B k : Nat) (W : World) (v : Value) (fine : Bool) (ps : List (TSlots × TraceC)) : Prop where
  len : ps.length = k
  row : W.ownsRow B 30 3 v k (tcs ps)
  own : ∀ i, i < k → OwnT4 W B (ps.getD i p00).1 (ps.getD i p00).2 ∧ (ps.getD i p00).1.small
  shape : ∀ i, i < k → (ps.getD i p00).2.bad = bad ∧ (ps.getD i p00).2.frames.length = nfAt NF odd i
  fine : fine = true ↔ ∀ i, i < k → fitsS c (ps.getD i p00).2 = true ∧ ¬ (odd = true ∧ i = 1)
theorem LInv.below {c : NormC} {bad : Int} {NF : Nat} {odd : Bool} {B k : Nat} {W W' : World} {v : Value} {fine : Bool} {ps : List (TSlots × TraceC)} (h : LInv c bad NF odd B k W v fine ps) (hb : Below W.heap.size W W') : LInv c bad NF odd B k W' v fine ps :=
  ⟨h.len, ownsN_below h.row hb, fun i hi => ⟨(h.own i hi).1.below hb, (h.own i hi).2⟩, h.shape, h.fine⟩
theorem LInv.step {c : NormC} {bad : Int} {NF : Nat} {odd : Bool} {B k : Nat} {W WA w' : World} {v v' : Value} {fine nf : Bool} {ps : List (TSlots × TraceC)} {s2 : TSlots} {u2 : TraceC} (h : LInv c bad NF odd B k W v fine ps) (hA : Below W.heap.size W WA)
    (hO : OwnT4 WA B s2 u2) (hs : s2.small) (hb : u2.bad = bad) (hf : u2.frames.length = nfAt NF odd k)
    (hr : w'.ownsRow B 30 3 v' (k + 1) (tcs ps ++ [.int .i64 u2.bad, .slice s2.a1 s2.n1 s2.c1, .slice s2.a2 s2.n2 s2.c2])) (hg : WA.grownBy w' v.ownBlock)
    (hnf : nf = (fine && (fitsS c u2 && !(odd && decide (k = 1))))) : LInv c bad NF odd B (k + 1) w' v' nf (ps ++ [(s2, u2)]) := by
  have hrow := ownsN_below h.row hA
  have at_lt : ∀ i, i < k → (ps ++ [(s2, u2)]).getD i p00 = ps.getD i p00 := fun i hi => by simp [List.getD, List.getElem?_append_left (show i < ps.length by rw [h.len]; exact hi)]
  have at_k : (ps ++ [(s2, u2)]).getD k p00 = (s2, u2) := by rw [← h.len]; simp
  have split : ∀ i, i < k + 1 → i < k ∨ i = k := fun i hi => by omega
  refine ⟨by simp [h.len], by rw [tcs_append]; exact hr, fun i hi => ?_, fun i hi => ?_, ?_⟩
  · rcases split i hi with h1 | rfl
    · rw [at_lt i h1]
      exact ⟨((h.own i h1).1.below hA).grown hrow hg (by decide) (by decide), (h.own i h1).2⟩
    · rw [at_k]; exact ⟨hO.grown hrow hg (by decide) (by decide), hs⟩
  · rcases split i hi with h1 | rfl
    · rw [at_lt i h1]; exact h.shape i h1
    · rw [at_k]; exact ⟨hb, hf⟩
  · rw [hnf]
    simp only [Bool.and_eq_true, Bool.not_eq_true', Bool.and_eq_false_iff, decide_eq_false_iff_not]
    constructor
    · rintro ⟨h1, h2, h3⟩ i hi
      rcases split i hi with h4 | rfl
      · rw [at_lt i h4]; exact h.fine.1 h1 i h4
      · rw [at_k]
        refine ⟨h2, fun h5 => ?_⟩
        rcases h3 with h3 | h3
        · rw [h5.1] at h3; cases h3
        · exact h3 h5.2
    · intro h1
      have h2 := h1 k (Nat.lt_succ_self k)
      rw [at_k] at h2
      refine ⟨h.fine.2 fun i hi => by have := h1 i (by omega); rw [at_lt i hi] at this; exact this, h2.1, ?_⟩
      by_cases ho : odd = true
      · exact .inr fun h3 => h2.2 ⟨ho, h3⟩
      · exact .inl (by simpa using ho)
theorem snd_at {ps : List (TSlots × TraceC)} (i : Nat) : (ps.map Prod.snd).getD i t00 = (ps.getD i p00).2 := by
  simp only [List.getD, List.getElem?_map]
  cases ps[i]? <;> rfl
theorem fst_at {ps : List (TSlots × TraceC)} (i : Nat) : (ps.map Prod.fst).getD i st00 = (ps.getD i p00).1 := by
  simp only [List.getD, List.getElem?_map]
  cases ps[i]? <;> rfl
theorem LInv.tog {c : NormC} {bad : Int} {NF : Nat} {odd : Bool} {B k : Nat} {W : World} {v : Value} {fine : Bool} {ps : List (TSlots × TraceC)} (h : LInv c bad NF odd B k W v fine ps) : mayTog c (ps.map Prod.snd) k = (fine && decide (k ≤ 64)) := by
  rw [Bool.eq_iff_iff, mayTog_iff, Bool.and_eq_true, decide_eq_true_eq, h.fine]
  constructor
  · rintro ⟨h1, h2⟩
    refine ⟨fun i hi => ?_, h1⟩
    have h3 := wrongT_fits (h2 i hi)
    rw [snd_at, snd_at] at h3
    refine ⟨fits_iff.2 h3.1, fun h4 => ?_⟩
    have h5 := h3.2.2
    rw [(h.shape i hi).2, (h.shape 0 (by omega)).2] at h5
    unfold nfAt at h5
    rw [if_pos h4, if_neg (by rintro ⟨_, h6⟩; cases h6)] at h5
    omega
  · rintro ⟨h1, h2⟩
    refine ⟨h2, fun i hi => ?_⟩
    have h3 := h1 i hi
    have h0 := h1 0 (by omega)
    rw [snd_at, snd_at]
    unfold wrongT
    rw [h3.1, (h.shape i hi).1, (h.shape 0 (by omega)).1, (h.shape i hi).2, (h.shape 0 (by omega)).2]
    unfold nfAt
    rw [if_neg h3.2, if_neg h0.2]
    simp
theorem LInv.see {c : NormC} {bad : Int} {NF : Nat} {odd : Bool} {B k cc : Nat} {a : Option Addr} {W : World} {fine : Bool} {ps : List (TSlots × TraceC)} (h : LInv c bad NF odd B k W (.slice a k cc) fine ps) : TsSee W a k cc (ps.map Prod.fst) (ps.map Prod.snd) := by
  have hl := h.len
  refine ⟨by simpa using hl, by simpa using hl, ?_, fun h0 => ?_, fun i hi => ?_, fun i hi => ?_⟩
  · rcases h.row.2 with ⟨h1, h2⟩ | ⟨g, cap, cur, h1, _, _, h2, _⟩
    · cases h1; exact Nat.le_refl _
    · cases h1; exact h2
  · rcases h.row.2 with ⟨h1, h2⟩ | ⟨g, cap, cur, h1, h2, h3, h4, _, _, h5⟩
    · cases h1; omega
    · cases h1
      refine ⟨g, rfl, heap_lt h3, fun i hi => ?_⟩
      rw [snd_at, fst_at]
      obtain ⟨x, y, z⟩ := tcs_at ps i (by rw [hl]; exact hi)
      have hc : ∀ j u, j < k * 3 → (tcs ps)[j]? = some u → W.cell? ⟨g, j, none⟩ = some u := fun j u hj hu => by
        rw [cell_of_row W g j cur _ (0, 0) h3]
        rw [← h5, List.getElem?_take_of_lt (by omega)] at hu
        simpa using hu
      exact ⟨hc _ _ (by omega) x, hc _ _ (by omega) y, hc _ _ (by omega) z⟩
  · rw [snd_at, fst_at]; exact (h.own i hi).1.sees
  · rw [fst_at]; exact (h.own i hi).2
end Go.Proofs.Ytjmdgbdlhaaefaa
/- The law SimMany, walked. -/
namespace Go.Proofs.Ytjmdgbdlhaaefaa
open Go Go.RowKit Go.Joins

theorem u64_self {j : Nat} (h : j < 18446744073709551616) : IntKind.u64.wrap (j : Int) = (j : Int) := IntWalk.u64_in _ (by omega)
theorem shift_at (F : Nat) {j : Nat} (hj : j ≤ 64) : (F : Int) / 2 ^ min (IntKind.u64.wrap (j : Int)).toNat 64 = ((F / 2 ^ j : Nat) : Int) := by
  rw [u64_self (by omega), Int.toNat_natCast, Nat.min_eq_left hj]
  push_cast
  rfl
theorem bit_at {F j : Nat} (hj : j < 64) (hF : F < 18446744073709551616) : (bits BinOp.and IntKind.u64 ((F : Int) / 2 ^ min (IntKind.u64.wrap (j : Int)).toNat 64) 1 == 1) = F.testBit j := by
  have h1 : F / 2 ^ j < 18446744073709551616 := Nat.lt_of_le_of_lt (Nat.div_le_self _ _) hF
  rw [shift_at F (by omega), show bits BinOp.and IntKind.u64 ((F / 2 ^ j : Nat) : Int) 1 = ((F / 2 ^ j % 2 : Nat) : Int) from by
    have := Nat.and_one_is_mod (F / 2 ^ j)
    rw [← this]
    exact bits_and_u64_nat _ 1 h1 (by decide), Nat.testBit_eq_decide_div_mod_eq]
  generalize F / 2 ^ j % 2 = q
  rw [Bool.eq_iff_iff, beq_iff_eq, decide_eq_true_eq]
  omega

set_option maxRecDepth 100000 in
set_option maxHeartbeats 25600000 in
theorem simmany_any (c : NormC) (t : TraceC) (fl : List (List UInt8)) (odd : Bool) (s : CSlots) (st : TSlots) (la : Option Addr) (ln lc : Nat) (ls : List Slc) (w : World) (h : SeesCir w s c) (ht : SeesTr w st t) (hl : SeesF w la ln lc ls fl) (hls : ∀ x ∈ ls, x.2.1 ≤ 1048576) (hln : ln ≤ 1048576) (hs : s.small) (hst : st.small)
    (hlo : -9223372036854775808 ≤ c.ins) (hhi : c.ins < 9223372036854775808) (hb1 : -9223372036854775808 ≤ t.bad ∧ t.bad < 9223372036854775808) (hw : Wide c) :
    Calls Try.prog 4 #[cirV c.ins s, traceV t.bad st, .slice la ln lc, .bool odd] w fun e w' => e = .returned (.bool true) ∧ Below w.heap.size w w' := by
  obtain ⟨iT, hiT, hzT0, hzT1, hzT2⟩ := info_parts info_trace
  have HGR := Lib.hid (fun W (hb : Below w.heap.size w W) => great7_any c t s st W (h.below hb) (ht.below hb))
  have HLV := Lib.hid lives7_any
  have HNF : Hid (t.frames.length = st.n2) := ht.s2.n_eq
  obtain ⟨NF, hNFE⟩ : ∃ n, n = st.n2 := ⟨_, rfl⟩
  have HLN : Hid (fl.length = ln ∧ ls.length = ln) := ⟨hl.n_eq, by rw [hl.len]; exact hl.n_eq⟩
  have HLK : Hid (∀ k, k < ln → ∀ W, Below w.heap.size w W → Calls Try.prog 25 #[.agg #[.int .i64 t.bad, .slice st.a1 st.n1 st.c1, .slice st.a2 st.n2 st.c2], .slice (ls.getD k slc0).1 (ls.getD k slc0).2.1 (ls.getD k slc0).2.2] W fun e w' => ∃ (u : TraceC) (s' : TSlots), e = .returned (.agg #[.int .i64 u.bad, .slice s'.a1 s'.n1 s'.c1, .slice s'.a2 s'.n2 s'.c2]) ∧ OwnT4 w' W.heap.size s' u ∧ u.bad = t.bad ∧ u.frames.length = NF ∧ s'.small ∧ Below W.heap.size W w') := fun k hk W hb => by
    have h1 := like_any (fl.getD k []) t st (ls.getD k slc0).1 (ls.getD k slc0).2.1 (ls.getD k slc0).2.2 W (ht.below hb) hst ((hl.each k (by rw [hl.n_eq]; exact hk)).below hb) (hls _ (getD_mem (by rw [hl.len, hl.n_eq]; exact hk)))
    exact h1.mono fun e w' ⟨u, s', h1, h2, h3, h4, h5⟩ => ⟨u, s', h1, h2, h3, h4.trans (HNF.out.trans hNFE.symm), h5⟩
  have HLC : Hid (∀ k, k < ln → ∃ b o, la = some ⟨b, o, none⟩ ∧ ∀ W, Below w.heap.size w W → W.cell? ⟨b, o + k, none⟩ = some (.slice (ls.getD k slc0).1 (ls.getD k slc0).2.1 (ls.getD k slc0).2.2)) := fun k hk => by
    obtain ⟨b, o, e, _⟩ := hl.row.addr (by omega)
    subst e
    exact ⟨b, o, rfl, fun W hb => (hl.below hb).cellAt k hk⟩
  have HRF : Hid (∀ (u : TraceC) (s' : TSlots) W, Below w.heap.size w W → SeesTr W s' u → s'.small → u.bad = t.bad → Calls Try.prog 26 #[.agg #[.int .i64 c.ins, .slice s.a1 s.n1 s.c1, .slice s.a2 s.n2 s.c2, .slice s.a3 s.n3 s.c3, .slice s.a4 s.n4 s.c4, .slice s.a5 s.n5 s.c5], .agg #[.int .i64 u.bad, .slice s'.a1 s'.n1 s'.c1, .slice s'.a2 s'.n2 s'.c2]] W fun e w' => e = .returned (.bool (fitsS c u)) ∧ Below W.heap.size W w') := fun u s' W hb h1 h2 h3 => reffits_any c u s s' W (h.below hb) h1 hs h2 hlo hhi (by rw [h3]; exact hb1) hw
  have HMY : Hid (∀ a n cc sts ts W, Below w.heap.size w W → TsSee W a n cc sts ts → n ≤ 1048576 → BadOk ts n → Calls Try.prog 27 #[.agg #[.int .i64 c.ins, .slice s.a1 s.n1 s.c1, .slice s.a2 s.n2 s.c2, .slice s.a3 s.n3 s.c3, .slice s.a4 s.n4 s.c4, .slice s.a5 s.n5 s.c5], .slice a n cc] W fun e w' => e = (if mayTog c ts n = true then .returned (.tuple #[.int .u64 (sureB c (ts.map readT) n : Nat), .int .u64 (sureB c ts n : Nat), .int .i64 0]) else .returned (.tuple #[.int .u64 0, .int .u64 0, .int .i64 2])) ∧ Below W.heap.size W w') := fun a n cc sts ts W hb h1 h2 h3 => many_any c s a n cc sts ts W (h.below hb) hs hlo hhi h1 h2 h3
  have HFA : Hid (∀ (u : TraceC) (s' : TSlots) W, Below w.heap.size w W → SeesTr W s' u → s'.small → u.bad = t.bad → Calls Try.prog 21 #[.agg #[.int .i64 c.ins, .slice s.a1 s.n1 s.c1, .slice s.a2 s.n2 s.c2, .slice s.a3 s.n3 s.c3, .slice s.a4 s.n4 s.c4, .slice s.a5 s.n5 s.c5], .agg #[.int .i64 u.bad, .slice s'.a1 s'.n1 s'.c1, .slice s'.a2 s'.n2 s'.c2]] W fun e w' => e = failsE c u ∧ Below W.heap.size W w') := fun u s' W hb h1 h2 h3 => fails_any c u s s' W (h.below hb) h1 hs h2 hlo hhi (by rw [h3]; exact hb1)
  have HSU : Hid (∀ (u : TraceC) (s' : TSlots) W, Below w.heap.size w W → SeesTr W s' u → s'.small → u.bad = t.bad → Calls Try.prog 23 #[.agg #[.int .i64 c.ins, .slice s.a1 s.n1 s.c1, .slice s.a2 s.n2 s.c2, .slice s.a3 s.n3 s.c3, .slice s.a4 s.n4 s.c4, .slice s.a5 s.n5 s.c5], .agg #[.int .i64 u.bad, .slice s'.a1 s'.n1 s'.c1, .slice s'.a2 s'.n2 s'.c2]] W fun e w' => e = surelyE c u ∧ Below W.heap.size W w') := fun u s' W hb h1 h2 h3 => surely_any c u s s' W (h.below hb) h1 hs h2 hlo hhi (by rw [h3]; exact hb1)
  have HBD := Lib.hid hb1
  obtain ⟨gq, hgq⟩ : ∃ g, g = great7 c t := ⟨_, rfl⟩
  rw [← hgq] at HGR
  clear hgq h ht hl hls hs hst hlo hhi hb1 hw
  have HNFE := Lib.hid hNFE
  clear hNFE
  unfold cirV traceV at *
  go_enter Try.func4, Try.ntmps4
  go_upto_region 1 with fail
  generalize hW : World.alloc (World.alloc w _) _ = W1
  have hb : Below w.heap.size w W1 := by subst hW; exact ext_trans (ext_alloc _ _) (ext_alloc _ _)
  have hx : W1.heap[w.heap.size]? = some (.cells #[.int .i64 c.ins, .slice s.a1 s.n1 s.c1, .slice s.a2 s.n2 s.c2, .slice s.a3 s.n3 s.c3, .slice s.a4 s.n4 s.c4, .slice s.a5 s.n5 s.c5] 26 (0, 0)) := by subst hW; exact heap_below (heap_new _ _ _ rfl) (ext_alloc _ _)
  have hy : W1.heap[w.heap.size + 1]? = some (.cells #[.int .i64 t.bad, .slice st.a1 st.n1 st.c1, .slice st.a2 st.n2 st.c2] 30 (0, 0)) := by subst hW; exact heap_new _ _ _ (by simp)
  have HB := Lib.hid hb
  have HX := Lib.hid hx
  have HY := Lib.hid hy
  clear hW hb hx hy
  have p0 := cell_of_block HX.out 0
  have p1 := cell_of_block HX.out 1
  have p2 := cell_of_block HX.out 2
  have p3 := cell_of_block HX.out 3
  have p4 := cell_of_block HX.out 4
  have p5 := cell_of_block HX.out 5
  have r0 := cell_of_block HY.out 0
  have r1 := cell_of_block HY.out 1
  have r2 := cell_of_block HY.out 2
  go_wp2_with fail
  refine (HGR.out W1 HB.out).mono ?_
  rintro e W2 ⟨rfl, hb⟩
  have HB2 := Lib.hid (ext_trans HB.out hb)
  have HX2 := Lib.hid (heap_below HX.out hb)
  have HY2 := Lib.hid (heap_below HY.out hb)
  clear p0 p1 p2 p3 p4 p5 r0 r1 r2 hb HX HY HB
  cases gq with
  | true =>
    go_wp2_with fail
    refine (HLV.out _).mono ?_
    rintro e WL ⟨rfl, hbL⟩
    have HBL := Lib.hid (ext_trans HB2.out hbL)
    clear hbL
    go_wp2
    go_ret
    exact ⟨rfl, HBL.out⟩
  | false =>
  have p0 := cell_of_block HX2.out 0
  have p1 := cell_of_block HX2.out 1
  have p2 := cell_of_block HX2.out 2
  have p3 := cell_of_block HX2.out 3
  have p4 := cell_of_block HX2.out 4
  have p5 := cell_of_block HX2.out 5
  have r0 := cell_of_block HY2.out 0
  have r1 := cell_of_block HY2.out 1
  have r2 := cell_of_block HY2.out 2
  by_cases hg50 : 50 < s.n2
  · have e1 : decide ((50 : Int) < (s.n2 : Int)) = true := by simp; omega
    have e1b : decide (50 < s.n2) = true := decide_eq_true hg50
    clear hg50
    go_wp2_with fail
    refine (HLV.out _).mono ?_
    rintro e WL ⟨rfl, hbL⟩
    have HBL := Lib.hid (ext_trans HB2.out hbL)
    clear hbL
    go_wp2
    go_ret
    exact ⟨rfl, HBL.out⟩
  have e1 : decide ((50 : Int) < (s.n2 : Int)) = false := by simp; omega
  have e1b : decide (50 < s.n2) = false := decide_eq_false hg50
  by_cases hf20 : 20 < st.n2
  · have e2 : decide ((20 : Int) < (st.n2 : Int)) = true := by simp; omega
    have e2b : decide (20 < st.n2) = true := decide_eq_true hf20
    clear hf20 hg50
    go_wp2_with fail
    refine (HLV.out _).mono ?_
    rintro e WL ⟨rfl, hbL⟩
    have HBL := Lib.hid (ext_trans HB2.out hbL)
    clear hbL
    go_wp2
    go_ret
    exact ⟨rfl, HBL.out⟩
  have e2 : decide ((20 : Int) < (st.n2 : Int)) = false := by simp; omega
  have e2b : decide (20 < st.n2) = false := decide_eq_false hf20
  by_cases hi50 : 50 < c.ins
  · have e3 : decide (50 < c.ins) = true := decide_eq_true hi50
    clear hi50 hf20 hg50
    go_wp2_with fail
    refine (HLV.out _).mono ?_
    rintro e WL ⟨rfl, hbL⟩
    have HBL := Lib.hid (ext_trans HB2.out hbL)
    clear hbL
    go_wp2
    go_ret
    exact ⟨rfl, HBL.out⟩
  have e3 : decide (50 < c.ins) = false := decide_eq_false hi50
  obtain ⟨M, hM⟩ : ∃ M, M = c.ins.toNat := ⟨_, rfl⟩
  have hmx : max c.ins 0 = (M : Int) := by omega
  have HMX := Lib.hid hmx
  have HMM : Hid (M ≤ 1000) := by show _ ≤ _; omega
  have HNF20 : Hid (NF ≤ 20) := by show _ ≤ _; have := HNFE.out; omega
  have hX0 := HX2.out
  clear hg50 hf20 hi50 hM hmx hX0
  go_upto_block 0 with fail
  clear p0 p1 p2 p3 p4 p5 r0 r1 r2 e1 e1b e2 e2b e3
  go_cut [9, 10, 11, 12] from 42 to 89 (fun v9 v10 _ _ wx => ∃ (k : Nat) (va : Option Addr) (vc : Nat) (fine : Bool) (ps : List (TSlots × TraceC)), k ≤ 70 ∧ v9 = .slice va k vc ∧ v10 = .bool fine ∧ Hid (LInv c t.bad NF odd w.heap.size k wx (.slice va k vc) fine ps) ∧ Hid (wx.heap[w.heap.size]? = some (.cells #[.int .i64 c.ins, .slice s.a1 s.n1 s.c1, .slice s.a2 s.n2 s.c2, .slice s.a3 s.n3 s.c3, .slice s.a4 s.n4 s.c4, .slice s.a5 s.n5 s.c5] 26 (0, 0))) ∧ Hid (wx.heap[w.heap.size + 1]? = some (.cells #[.int .i64 t.bad, .slice st.a1 st.n1 st.c1, .slice st.a2 st.n2 st.c2] 30 (0, 0))) ∧ Hid (Below w.heap.size w wx))
  case first =>
    go_wp2_with fail
    go_loopw [11, 9, 10, 12] (fun i v9 v10 _ wr => ∃ (k : Nat) (va : Option Addr) (vc : Nat) (fine : Bool) (ps : List (TSlots × TraceC)), k ≤ ln ∧ k ≤ 70 ∧ i = .int .i64 k ∧ v9 = .slice va k vc ∧ v10 = .bool fine ∧ Hid (LInv c t.bad NF odd w.heap.size k wr (.slice va k vc) fine ps) ∧ Hid (wr.heap[w.heap.size]? = some (.cells #[.int .i64 c.ins, .slice s.a1 s.n1 s.c1, .slice s.a2 s.n2 s.c2, .slice s.a3 s.n3 s.c3, .slice s.a4 s.n4 s.c4, .slice s.a5 s.n5 s.c5] 26 (0, 0))) ∧ Hid (wr.heap[w.heap.size + 1]? = some (.cells #[.int .i64 t.bad, .slice st.a1 st.n1 st.c1, .slice st.a2 st.n2 st.c2] 30 (0, 0))) ∧ Hid (Below w.heap.size w wr) ∧ Hid ((Value.slice va k vc).ownBlock ≠ some (w.heap.size + 1))) (fun i _ _ _ _ => ln - (intOf i).toNat)
    case atStart => exact ⟨0, none, 0, true, [], Nat.zero_le _, Nat.zero_le _, rfl, rfl, rfl, ⟨rfl, ⟨rfl, .inl ⟨rfl, rfl⟩⟩, fun i hi => absurd hi (by omega), fun i hi => absurd hi (by omega), ⟨fun _ i hi => absurd hi (by omega), fun _ => rfl⟩⟩, HX2.out, HY2.out, HB2.out, fun e => by cases e⟩
    case round =>
      clear HX2 HY2 HB2
      obtain ⟨k, va, vc, fine, ps, hk, hk70, rfl, rfl, rfl, hI, hX, hY, hB, hAL⟩ := hrel
      by_cases hlt : k < ln
      · have e1 : decide ((k : Int) < (ln : Int)) = true := by simp; omega
        have e1b : decide (k < ln) = true := decide_eq_true hlt
        by_cases h70 : k < 70
        · have e2 : decide ((k : Int) < 70) = true := by simp; omega
          have e2b : decide (k < 70) = true := decide_eq_true h70
          obtain ⟨lb, lo, rfl, hlc⟩ := HLC.out k hlt
          have hlk := HLK.out k hlt
          obtain ⟨x, hx⟩ : ∃ x : Slc, x = ls.getD k slc0 := ⟨_, rfl⟩
          rw [← hx] at hlc hlk
          obtain ⟨xa, xn, xc⟩ := x
          simp only at hlc hlk
          have HELDB : Hid (∀ W, Below wr.heap.size wr W → (W.cell? ⟨w.heap.size + 1, 0, none⟩ = some (.int .i64 t.bad) ∧ W.cell? ⟨w.heap.size + 1, 1, none⟩ = some (.slice st.a1 st.n1 st.c1) ∧ W.cell? ⟨w.heap.size + 1, 2, none⟩ = some (.slice st.a2 st.n2 st.c2) ∧ W.cell? ⟨lb, lo + k, none⟩ = some (.slice xa xn xc))) := fun W hb => ⟨cell_of_block (heap_below hY.out hb) 0, cell_of_block (heap_below hY.out hb) 1, cell_of_block (heap_below hY.out hb) 2, hlc W (ext_trans hB.out hb)⟩
          have HE1 := Lib.hid (fun W (hb : Below wr.heap.size wr W) => hlk W (ext_trans hB.out hb))
          have W1' : IntKind.i64.wrap ((k : Int) + 1) = (k : Int) + 1 := IntWalk.i64_in _ (by omega)
          clear hx hlk hlc
          go_upto_region 8 with fail
          refine reg_SMR8 (w.heap.size + 1) lb lo ln lc k NF t.bad st.a1 st.n1 st.c1 st.a2 st.n2 st.c2 xa xn xc wr HELDB hlt HE1 _ ?_
          intro G u2 s2 W4 _ _ _ _ _ _ hG hZ hO hU hb4
          have HO4 := Lib.hid hO
          have HZ4 := Lib.hid hZ
          have HBR := Lib.hid hb4
          have HSM := Lib.hid hU.2.2
          have HUB := Lib.hid hU.1
          have HUN := Lib.hid hU.2.1
          have HGG := Lib.hid hG
          clear hG hZ hO hU hb4 HELDB HE1
          cases odd with
          | false =>
            have HUF : Hid (u2.frames.length = nfAt NF false k) := by show _ = _; rw [HUN.out]; unfold nfAt; rw [if_neg (by simp)]
            cases fine with
            | false =>
              have z0 := cell_of_block HZ4.out 0
              have z1 := cell_of_block HZ4.out 1
              have z2 := cell_of_block HZ4.out 2
              go_wp2_with (at_builtin; refine wpList_append_own_at _ rfl _ _ 50 rfl w.heap.size 30 iT (.agg #[.int .i64 0, .slice none 0 0, .slice none 0 0]) 3 56 Try.underlying50 hiT hzT0 hzT1 hzT2 rfl (by omega) (.slice va k vc) k (tcs ps) rfl (ownsN_below hI.out.row (ext_trans HBR.out (ext_alloc _ _))) ⟨W4.heap.size, 0, none⟩ 1 1 [.int .i64 u2.bad, .slice s2.a1 s2.n1 s2.c1, .slice s2.a2 s2.n2 s2.c2] rfl rfl (cell_three_new _ _ _ _ _) (by simp [Value.oneCell']) ?a11 ?a12 ?a13 ?_)
              case a11 => unfold maxLen; omega
              case a12 => omega
              case a13 => have h1 := hB.out.size; have h2 := HBR.out.size; simp; omega
              intro v' w1 hown' hgrow _ hat'
              have hal := ext_alloc W4 (.cells #[.int .i64 u2.bad, .slice s2.a1 s2.n1 s2.c1, .slice s2.a2 s2.n2 s2.c2] 30)
              have hA := ext_trans HBR.out hal
              have hrow := ownsN_below hI.out.row hA
              have HNI : Hid (LInv c t.bad NF false w.heap.size (k + 1) w1 v' false (ps ++ [(s2, u2)])) := hI.out.step hA ((HO4.out.base hB.out.size).below hal) HSM.out HUB.out HUF.out hown' hgrow (by simp)
              have HNX := Lib.hid (heap_grown (heap_below hX.out hA) hgrow (ownsN_notown hrow (heap_below hX.out hA) (by decide)))
              have HNY := Lib.hid (heap_grown (heap_below hY.out hA) hgrow (fun e => hAL.out (by simpa using e)))
              have HNB := Lib.hid ((ext_trans hB.out hA).grown hgrow (ext_trans hB.out hA).size (fun q hq => (hrow.lt q hq).1))
              have HNA : Hid (v'.ownBlock ≠ some (w.heap.size + 1)) := fun e => by
                rcases hat' with h1 | h1
                · exact hAL.out (by rw [← h1]; exact e)
                · rw [h1] at e
                  have h2 : ((W4.alloc (.cells #[.int .i64 u2.bad, .slice s2.a1 s2.n1 s2.c1, .slice s2.a2 s2.n2 s2.c2] 30)).heap.size = w.heap.size + 1) := by simpa using e
                  have h3 := heap_lt (heap_below hY.out hA)
                  omega
              obtain ⟨va2, vc2, rfl⟩ := ownsN_form hown'
              clear hal hA hrow hown' hgrow hat' z0 z1 z2
              go_wp2
              go_roundw
              case rel => exact ⟨k + 1, va2, vc2, false, ps ++ [(s2, u2)], by omega, by omega, by go_num, rfl, rfl, HNI.out, HNX.out, HNY.out, HNB.out, HNA.out⟩
              case measure => simp [intOf]; omega
            | true =>
              have HQ4 := Lib.hid (HRF.out u2 s2 W4 (ext_trans hB.out HBR.out) HO4.out.sees HSM.out HUB.out)
              obtain ⟨q4, hq4⟩ : ∃ q, q = fitsS c u2 := ⟨_, rfl⟩
              rw [← hq4] at HQ4
              have HQE := Lib.hid hq4
              clear hq4
              have p0 := cell_of_block (heap_below hX.out HBR.out) 0
              have p1 := cell_of_block (heap_below hX.out HBR.out) 1
              have p2 := cell_of_block (heap_below hX.out HBR.out) 2
              have p3 := cell_of_block (heap_below hX.out HBR.out) 3
              have p4 := cell_of_block (heap_below hX.out HBR.out) 4
              have p5 := cell_of_block (heap_below hX.out HBR.out) 5
              have z0 := cell_of_block HZ4.out 0
              have z1 := cell_of_block HZ4.out 1
              have z2 := cell_of_block HZ4.out 2
              go_wp2_with fail
              refine HQ4.out.mono ?_
              rintro e W7 ⟨rfl, hb7⟩
              have HO7 := Lib.hid (HO4.out.below hb7)
              have HZ7 := Lib.hid (heap_below HZ4.out hb7)
              have HBR7 := Lib.hid (ext_trans HBR.out hb7)
              clear p0 p1 p2 p3 p4 p5 z0 z1 z2 hb7 HO4 HZ4 HBR HQ4
              have HO4 := HO7
              have HZ4 := HZ7
              have HBR := HBR7
              clear HO7 HZ7 HBR7
              cases q4 with
              | false =>
                have z0 := cell_of_block HZ4.out 0
                have z1 := cell_of_block HZ4.out 1
                have z2 := cell_of_block HZ4.out 2
                go_wp2_with (at_builtin; refine wpList_append_own_at _ rfl _ _ 50 rfl w.heap.size 30 iT (.agg #[.int .i64 0, .slice none 0 0, .slice none 0 0]) 3 56 Try.underlying50 hiT hzT0 hzT1 hzT2 rfl (by omega) (.slice va k vc) k (tcs ps) rfl (ownsN_below hI.out.row (ext_trans HBR.out (ext_alloc _ _))) ⟨W7.heap.size, 0, none⟩ 1 1 [.int .i64 u2.bad, .slice s2.a1 s2.n1 s2.c1, .slice s2.a2 s2.n2 s2.c2] rfl rfl (cell_three_new _ _ _ _ _) (by simp [Value.oneCell']) ?a21 ?a22 ?a23 ?_)
                case a21 => unfold maxLen; omega
                case a22 => omega
                case a23 => have h1 := hB.out.size; have h2 := HBR.out.size; simp; omega
                intro v' w1 hown' hgrow _ hat'
                have hal := ext_alloc W7 (.cells #[.int .i64 u2.bad, .slice s2.a1 s2.n1 s2.c1, .slice s2.a2 s2.n2 s2.c2] 30)
                have hA := ext_trans HBR.out hal
                have hrow := ownsN_below hI.out.row hA
                have HNI : Hid (LInv c t.bad NF false w.heap.size (k + 1) w1 v' false (ps ++ [(s2, u2)])) := hI.out.step hA ((HO4.out.base hB.out.size).below hal) HSM.out HUB.out HUF.out hown' hgrow (by rw [← HQE.out]; simp)
                have HNX := Lib.hid (heap_grown (heap_below hX.out hA) hgrow (ownsN_notown hrow (heap_below hX.out hA) (by decide)))
                have HNY := Lib.hid (heap_grown (heap_below hY.out hA) hgrow (fun e => hAL.out (by simpa using e)))
                have HNB := Lib.hid ((ext_trans hB.out hA).grown hgrow (ext_trans hB.out hA).size (fun q hq => (hrow.lt q hq).1))
                have HNA : Hid (v'.ownBlock ≠ some (w.heap.size + 1)) := fun e => by
                  rcases hat' with h1 | h1
                  · exact hAL.out (by rw [← h1]; exact e)
                  · rw [h1] at e
                    have h2 : ((W7.alloc (.cells #[.int .i64 u2.bad, .slice s2.a1 s2.n1 s2.c1, .slice s2.a2 s2.n2 s2.c2] 30)).heap.size = w.heap.size + 1) := by simpa using e
                    have h3 := heap_lt (heap_below hY.out hA)
                    omega
                obtain ⟨va2, vc2, rfl⟩ := ownsN_form hown'
                clear hal hA hrow hown' hgrow hat' z0 z1 z2
                go_wp2
                go_roundw
                case rel => exact ⟨k + 1, va2, vc2, false, ps ++ [(s2, u2)], by omega, by omega, by go_num, rfl, rfl, HNI.out, HNX.out, HNY.out, HNB.out, HNA.out⟩
                case measure => simp [intOf]; omega
              | true =>
                have z0 := cell_of_block HZ4.out 0
                have z1 := cell_of_block HZ4.out 1
                have z2 := cell_of_block HZ4.out 2
                go_wp2_with (at_builtin; refine wpList_append_own_at _ rfl _ _ 50 rfl w.heap.size 30 iT (.agg #[.int .i64 0, .slice none 0 0, .slice none 0 0]) 3 56 Try.underlying50 hiT hzT0 hzT1 hzT2 rfl (by omega) (.slice va k vc) k (tcs ps) rfl (ownsN_below hI.out.row (ext_trans HBR.out (ext_alloc _ _))) ⟨W7.heap.size, 0, none⟩ 1 1 [.int .i64 u2.bad, .slice s2.a1 s2.n1 s2.c1, .slice s2.a2 s2.n2 s2.c2] rfl rfl (cell_three_new _ _ _ _ _) (by simp [Value.oneCell']) ?a31 ?a32 ?a33 ?_)
                case a31 => unfold maxLen; omega
                case a32 => omega
                case a33 => have h1 := hB.out.size; have h2 := HBR.out.size; simp; omega
                intro v' w1 hown' hgrow _ hat'
                have hal := ext_alloc W7 (.cells #[.int .i64 u2.bad, .slice s2.a1 s2.n1 s2.c1, .slice s2.a2 s2.n2 s2.c2] 30)
                have hA := ext_trans HBR.out hal
                have hrow := ownsN_below hI.out.row hA
                have HNI : Hid (LInv c t.bad NF false w.heap.size (k + 1) w1 v' true (ps ++ [(s2, u2)])) := hI.out.step hA ((HO4.out.base hB.out.size).below hal) HSM.out HUB.out HUF.out hown' hgrow (by rw [← HQE.out]; simp)
                have HNX := Lib.hid (heap_grown (heap_below hX.out hA) hgrow (ownsN_notown hrow (heap_below hX.out hA) (by decide)))
                have HNY := Lib.hid (heap_grown (heap_below hY.out hA) hgrow (fun e => hAL.out (by simpa using e)))
                have HNB := Lib.hid ((ext_trans hB.out hA).grown hgrow (ext_trans hB.out hA).size (fun q hq => (hrow.lt q hq).1))
                have HNA : Hid (v'.ownBlock ≠ some (w.heap.size + 1)) := fun e => by
                  rcases hat' with h1 | h1
                  · exact hAL.out (by rw [← h1]; exact e)
                  · rw [h1] at e
                    have h2 : ((W7.alloc (.cells #[.int .i64 u2.bad, .slice s2.a1 s2.n1 s2.c1, .slice s2.a2 s2.n2 s2.c2] 30)).heap.size = w.heap.size + 1) := by simpa using e
                    have h3 := heap_lt (heap_below hY.out hA)
                    omega
                obtain ⟨va2, vc2, rfl⟩ := ownsN_form hown'
                clear hal hA hrow hown' hgrow hat' z0 z1 z2
                go_wp2
                go_roundw
                case rel => exact ⟨k + 1, va2, vc2, true, ps ++ [(s2, u2)], by omega, by omega, by go_num, rfl, rfl, HNI.out, HNX.out, HNY.out, HNB.out, HNA.out⟩
                case measure => simp [intOf]; omega
          | true =>
            by_cases hk1 : k = 1
            · have e3 : ((k : Int) == 1) = true := by simp; omega
              have e3b : ((k : Int) != 1) = false := by simp; omega
              have HK1 : Hid (decide (k = 1) = true) := decide_eq_true hk1
              have HKK := Lib.hid hk1
              clear hk1
              have hmx := HMX.out
              have hP4 : W4.cell? ⟨w.heap.size, 0, none⟩ = some (.int .i64 c.ins) := cell_of_block (heap_below hX.out HBR.out) 0
              have hne : w.heap.size ≠ G := by have h1 := HGG.out; have h2 := heap_lt hX.out; omega
              have hPN : Hid ((Value.slice s2.a2 s2.n2 s2.c2).ownBlock ≠ some w.heap.size) := ownsN_notown HO4.out.o2 (heap_below hX.out HBR.out) (by decide)
              go_upto_region 10 with fail
              refine reg_SMR10 w.heap.size G M wr.heap.size c.ins u2.bad s2.a1 s2.n1 s2.c1 s2 u2 W4 HBR.out.size hne HGG.out hP4 hPN hmx HMM.out HZ4.out HO4.out HSM.out (by rw [HUN.out]; have := HNF20.out; omega) ⟨rfl, rfl, rfl⟩ _ ?_
              intro s3 u3 W5 _ _ _ _ _ _ _ _ _ hO3 hs3 hb3 hf3 hZ3 hbel
              have HO5 := Lib.hid hO3
              have HSM5 := Lib.hid hs3
              have HUB5 := Lib.hid (hb3.trans HUB.out)
              have HUF5 : Hid (u3.frames.length = nfAt NF true k) := by show _ = _; rw [hf3, HUN.out]; unfold nfAt; rw [if_pos ⟨rfl, HKK.out⟩]
              have HBR5 := Lib.hid (hbel _ _ HBR.out (Nat.le_refl _))
              have HBD3 := Lib.hid hb3
              have HZ5 : Hid (W5.heap[G]? = some (.cells #[.int .i64 u3.bad, .slice s3.a1 s3.n1 s3.c1, .slice s3.a2 s3.n2 s3.c2] 30 (0, 0))) := by show _ = _; rw [hb3]; exact hZ3
              clear hO3 hs3 hb3 hf3 hZ3 hbel HO4 HSM HUB HUN HBR HZ4 hP4 hne hPN hmx HGG HBD3
              have HO4 := HO5
              have HSM := HSM5
              have HUB := HUB5
              have HUF := HUF5
              have HBR := HBR5
              have HZ4 := HZ5
              clear HO5 HSM5 HUB5 HUF5 HBR5 HZ5
              obtain ⟨s2, hs2⟩ : ∃ x, x = s3 := ⟨_, rfl⟩
              obtain ⟨u2, hu2⟩ : ∃ x, x = u3 := ⟨_, rfl⟩
              subst hs2
              subst hu2
              cases fine with
              | false =>
                have z0 := cell_of_block HZ4.out 0
                have z1 := cell_of_block HZ4.out 1
                have z2 := cell_of_block HZ4.out 2
                go_wp2_with (at_builtin; refine wpList_append_own_at _ rfl _ _ 50 rfl w.heap.size 30 iT (.agg #[.int .i64 0, .slice none 0 0, .slice none 0 0]) 3 56 Try.underlying50 hiT hzT0 hzT1 hzT2 rfl (by omega) (.slice va k vc) k (tcs ps) rfl (ownsN_below hI.out.row (ext_trans HBR.out (ext_alloc _ _))) ⟨W5.heap.size, 0, none⟩ 1 1 [.int .i64 u2.bad, .slice s2.a1 s2.n1 s2.c1, .slice s2.a2 s2.n2 s2.c2] rfl rfl (cell_three_new _ _ _ _ _) (by simp [Value.oneCell']) ?a41 ?a42 ?a43 ?_)
                case a41 => unfold maxLen; omega
                case a42 => omega
                case a43 => have h1 := hB.out.size; have h2 := HBR.out.size; simp; omega
                intro v' w1 hown' hgrow _ hat'
                have hal := ext_alloc W5 (.cells #[.int .i64 u2.bad, .slice s2.a1 s2.n1 s2.c1, .slice s2.a2 s2.n2 s2.c2] 30)
                have hA := ext_trans HBR.out hal
                have hrow := ownsN_below hI.out.row hA
                have HNI : Hid (LInv c t.bad NF true w.heap.size (k + 1) w1 v' false (ps ++ [(s2, u2)])) := hI.out.step hA ((HO4.out.base hB.out.size).below hal) HSM.out HUB.out HUF.out hown' hgrow (by simp)
                have HNX := Lib.hid (heap_grown (heap_below hX.out hA) hgrow (ownsN_notown hrow (heap_below hX.out hA) (by decide)))
                have HNY := Lib.hid (heap_grown (heap_below hY.out hA) hgrow (fun e => hAL.out (by simpa using e)))
                have HNB := Lib.hid ((ext_trans hB.out hA).grown hgrow (ext_trans hB.out hA).size (fun q hq => (hrow.lt q hq).1))
                have HNA : Hid (v'.ownBlock ≠ some (w.heap.size + 1)) := fun e => by
                  rcases hat' with h1 | h1
                  · exact hAL.out (by rw [← h1]; exact e)
                  · rw [h1] at e
                    have h2 : ((W5.alloc (.cells #[.int .i64 u2.bad, .slice s2.a1 s2.n1 s2.c1, .slice s2.a2 s2.n2 s2.c2] 30)).heap.size = w.heap.size + 1) := by simpa using e
                    have h3 := heap_lt (heap_below hY.out hA)
                    omega
                obtain ⟨va2, vc2, rfl⟩ := ownsN_form hown'
                clear hal hA hrow hown' hgrow hat' z0 z1 z2
                go_wp2
                go_roundw
                case rel => exact ⟨k + 1, va2, vc2, false, ps ++ [(s2, u2)], by omega, by omega, by go_num, rfl, rfl, HNI.out, HNX.out, HNY.out, HNB.out, HNA.out⟩
                case measure => simp [intOf]; omega
              | true =>
                have HQ4 := Lib.hid (HRF.out u2 s2 W5 (ext_trans hB.out HBR.out) HO4.out.sees HSM.out HUB.out)
                obtain ⟨q4, hq4⟩ : ∃ q, q = fitsS c u2 := ⟨_, rfl⟩
                rw [← hq4] at HQ4
                have HQE := Lib.hid hq4
                clear hq4
                have p0 := cell_of_block (heap_below hX.out HBR.out) 0
                have p1 := cell_of_block (heap_below hX.out HBR.out) 1
                have p2 := cell_of_block (heap_below hX.out HBR.out) 2
                have p3 := cell_of_block (heap_below hX.out HBR.out) 3
                have p4 := cell_of_block (heap_below hX.out HBR.out) 4
                have p5 := cell_of_block (heap_below hX.out HBR.out) 5
                have z0 := cell_of_block HZ4.out 0
                have z1 := cell_of_block HZ4.out 1
                have z2 := cell_of_block HZ4.out 2
                go_wp2_with fail
                refine HQ4.out.mono ?_
                rintro e W7 ⟨rfl, hb7⟩
                have HO7 := Lib.hid (HO4.out.below hb7)
                have HZ7 := Lib.hid (heap_below HZ4.out hb7)
                have HBR7 := Lib.hid (ext_trans HBR.out hb7)
                clear p0 p1 p2 p3 p4 p5 z0 z1 z2 hb7 HO4 HZ4 HBR HQ4
                have HO4 := HO7
                have HZ4 := HZ7
                have HBR := HBR7
                clear HO7 HZ7 HBR7
                cases q4 with
                | false =>
                  have z0 := cell_of_block HZ4.out 0
                  have z1 := cell_of_block HZ4.out 1
                  have z2 := cell_of_block HZ4.out 2
                  go_wp2_with (at_builtin; refine wpList_append_own_at _ rfl _ _ 50 rfl w.heap.size 30 iT (.agg #[.int .i64 0, .slice none 0 0, .slice none 0 0]) 3 56 Try.underlying50 hiT hzT0 hzT1 hzT2 rfl (by omega) (.slice va k vc) k (tcs ps) rfl (ownsN_below hI.out.row (ext_trans HBR.out (ext_alloc _ _))) ⟨W7.heap.size, 0, none⟩ 1 1 [.int .i64 u2.bad, .slice s2.a1 s2.n1 s2.c1, .slice s2.a2 s2.n2 s2.c2] rfl rfl (cell_three_new _ _ _ _ _) (by simp [Value.oneCell']) ?a51 ?a52 ?a53 ?_)
                  case a51 => unfold maxLen; omega
                  case a52 => omega
                  case a53 => have h1 := hB.out.size; have h2 := HBR.out.size; simp; omega
                  intro v' w1 hown' hgrow _ hat'
                  have hal := ext_alloc W7 (.cells #[.int .i64 u2.bad, .slice s2.a1 s2.n1 s2.c1, .slice s2.a2 s2.n2 s2.c2] 30)
                  have hA := ext_trans HBR.out hal
                  have hrow := ownsN_below hI.out.row hA
                  have HNI : Hid (LInv c t.bad NF true w.heap.size (k + 1) w1 v' false (ps ++ [(s2, u2)])) := hI.out.step hA ((HO4.out.base hB.out.size).below hal) HSM.out HUB.out HUF.out hown' hgrow (by rw [← HQE.out]; simp)
                  have HNX := Lib.hid (heap_grown (heap_below hX.out hA) hgrow (ownsN_notown hrow (heap_below hX.out hA) (by decide)))
                  have HNY := Lib.hid (heap_grown (heap_below hY.out hA) hgrow (fun e => hAL.out (by simpa using e)))
                  have HNB := Lib.hid ((ext_trans hB.out hA).grown hgrow (ext_trans hB.out hA).size (fun q hq => (hrow.lt q hq).1))
                  have HNA : Hid (v'.ownBlock ≠ some (w.heap.size + 1)) := fun e => by
                    rcases hat' with h1 | h1
                    · exact hAL.out (by rw [← h1]; exact e)
                    · rw [h1] at e
                      have h2 : ((W7.alloc (.cells #[.int .i64 u2.bad, .slice s2.a1 s2.n1 s2.c1, .slice s2.a2 s2.n2 s2.c2] 30)).heap.size = w.heap.size + 1) := by simpa using e
                      have h3 := heap_lt (heap_below hY.out hA)
                      omega
                  obtain ⟨va2, vc2, rfl⟩ := ownsN_form hown'
                  clear hal hA hrow hown' hgrow hat' z0 z1 z2
                  go_wp2
                  go_roundw
                  case rel => exact ⟨k + 1, va2, vc2, false, ps ++ [(s2, u2)], by omega, by omega, by go_num, rfl, rfl, HNI.out, HNX.out, HNY.out, HNB.out, HNA.out⟩
                  case measure => simp [intOf]; omega
                | true =>
                  have z0 := cell_of_block HZ4.out 0
                  have z1 := cell_of_block HZ4.out 1
                  have z2 := cell_of_block HZ4.out 2
                  go_wp2_with (at_builtin; refine wpList_append_own_at _ rfl _ _ 50 rfl w.heap.size 30 iT (.agg #[.int .i64 0, .slice none 0 0, .slice none 0 0]) 3 56 Try.underlying50 hiT hzT0 hzT1 hzT2 rfl (by omega) (.slice va k vc) k (tcs ps) rfl (ownsN_below hI.out.row (ext_trans HBR.out (ext_alloc _ _))) ⟨W7.heap.size, 0, none⟩ 1 1 [.int .i64 u2.bad, .slice s2.a1 s2.n1 s2.c1, .slice s2.a2 s2.n2 s2.c2] rfl rfl (cell_three_new _ _ _ _ _) (by simp [Value.oneCell']) ?a61 ?a62 ?a63 ?_)
                  case a61 => unfold maxLen; omega
                  case a62 => omega
                  case a63 => have h1 := hB.out.size; have h2 := HBR.out.size; simp; omega
                  intro v' w1 hown' hgrow _ hat'
                  have hal := ext_alloc W7 (.cells #[.int .i64 u2.bad, .slice s2.a1 s2.n1 s2.c1, .slice s2.a2 s2.n2 s2.c2] 30)
                  have hA := ext_trans HBR.out hal
                  have hrow := ownsN_below hI.out.row hA
                  have HNI : Hid (LInv c t.bad NF true w.heap.size (k + 1) w1 v' false (ps ++ [(s2, u2)])) := hI.out.step hA ((HO4.out.base hB.out.size).below hal) HSM.out HUB.out HUF.out hown' hgrow (by rw [← HQE.out, HK1.out]; rfl)
                  have HNX := Lib.hid (heap_grown (heap_below hX.out hA) hgrow (ownsN_notown hrow (heap_below hX.out hA) (by decide)))
                  have HNY := Lib.hid (heap_grown (heap_below hY.out hA) hgrow (fun e => hAL.out (by simpa using e)))
                  have HNB := Lib.hid ((ext_trans hB.out hA).grown hgrow (ext_trans hB.out hA).size (fun q hq => (hrow.lt q hq).1))
                  have HNA : Hid (v'.ownBlock ≠ some (w.heap.size + 1)) := fun e => by
                    rcases hat' with h1 | h1
                    · exact hAL.out (by rw [← h1]; exact e)
                    · rw [h1] at e
                      have h2 : ((W7.alloc (.cells #[.int .i64 u2.bad, .slice s2.a1 s2.n1 s2.c1, .slice s2.a2 s2.n2 s2.c2] 30)).heap.size = w.heap.size + 1) := by simpa using e
                      have h3 := heap_lt (heap_below hY.out hA)
                      omega
                  obtain ⟨va2, vc2, rfl⟩ := ownsN_form hown'
                  clear hal hA hrow hown' hgrow hat' z0 z1 z2
                  go_wp2
                  go_roundw
                  case rel => exact ⟨k + 1, va2, vc2, false, ps ++ [(s2, u2)], by omega, by omega, by go_num, rfl, rfl, HNI.out, HNX.out, HNY.out, HNB.out, HNA.out⟩
                  case measure => simp [intOf]; omega
            · have e3 : ((k : Int) == 1) = false := by simp; omega
              have e3b : ((k : Int) != 1) = true := by simp; omega
              have HK1 : Hid (decide (k = 1) = false) := decide_eq_false hk1
              have HUF : Hid (u2.frames.length = nfAt NF true k) := by show _ = _; rw [HUN.out]; unfold nfAt; rw [if_neg (fun h => hk1 h.2)]
              clear hk1
              cases fine with
              | false =>
                have z0 := cell_of_block HZ4.out 0
                have z1 := cell_of_block HZ4.out 1
                have z2 := cell_of_block HZ4.out 2
                go_wp2_with (at_builtin; refine wpList_append_own_at _ rfl _ _ 50 rfl w.heap.size 30 iT (.agg #[.int .i64 0, .slice none 0 0, .slice none 0 0]) 3 56 Try.underlying50 hiT hzT0 hzT1 hzT2 rfl (by omega) (.slice va k vc) k (tcs ps) rfl (ownsN_below hI.out.row (ext_trans HBR.out (ext_alloc _ _))) ⟨W4.heap.size, 0, none⟩ 1 1 [.int .i64 u2.bad, .slice s2.a1 s2.n1 s2.c1, .slice s2.a2 s2.n2 s2.c2] rfl rfl (cell_three_new _ _ _ _ _) (by simp [Value.oneCell']) ?a71 ?a72 ?a73 ?_)
                case a71 => unfold maxLen; omega
                case a72 => omega
                case a73 => have h1 := hB.out.size; have h2 := HBR.out.size; simp; omega
                intro v' w1 hown' hgrow _ hat'
                have hal := ext_alloc W4 (.cells #[.int .i64 u2.bad, .slice s2.a1 s2.n1 s2.c1, .slice s2.a2 s2.n2 s2.c2] 30)
                have hA := ext_trans HBR.out hal
                have hrow := ownsN_below hI.out.row hA
                have HNI : Hid (LInv c t.bad NF true w.heap.size (k + 1) w1 v' false (ps ++ [(s2, u2)])) := hI.out.step hA ((HO4.out.base hB.out.size).below hal) HSM.out HUB.out HUF.out hown' hgrow (by simp)
                have HNX := Lib.hid (heap_grown (heap_below hX.out hA) hgrow (ownsN_notown hrow (heap_below hX.out hA) (by decide)))
                have HNY := Lib.hid (heap_grown (heap_below hY.out hA) hgrow (fun e => hAL.out (by simpa using e)))
                have HNB := Lib.hid ((ext_trans hB.out hA).grown hgrow (ext_trans hB.out hA).size (fun q hq => (hrow.lt q hq).1))
                have HNA : Hid (v'.ownBlock ≠ some (w.heap.size + 1)) := fun e => by
                  rcases hat' with h1 | h1
                  · exact hAL.out (by rw [← h1]; exact e)
                  · rw [h1] at e
                    have h2 : ((W4.alloc (.cells #[.int .i64 u2.bad, .slice s2.a1 s2.n1 s2.c1, .slice s2.a2 s2.n2 s2.c2] 30)).heap.size = w.heap.size + 1) := by simpa using e
                    have h3 := heap_lt (heap_below hY.out hA)
                    omega
                obtain ⟨va2, vc2, rfl⟩ := ownsN_form hown'
                clear hal hA hrow hown' hgrow hat' z0 z1 z2
                go_wp2
                go_roundw
                case rel => exact ⟨k + 1, va2, vc2, false, ps ++ [(s2, u2)], by omega, by omega, by go_num, rfl, rfl, HNI.out, HNX.out, HNY.out, HNB.out, HNA.out⟩
                case measure => simp [intOf]; omega
              | true =>
                have HQ4 := Lib.hid (HRF.out u2 s2 W4 (ext_trans hB.out HBR.out) HO4.out.sees HSM.out HUB.out)
                obtain ⟨q4, hq4⟩ : ∃ q, q = fitsS c u2 := ⟨_, rfl⟩
                rw [← hq4] at HQ4
                have HQE := Lib.hid hq4
                clear hq4
                have p0 := cell_of_block (heap_below hX.out HBR.out) 0
                have p1 := cell_of_block (heap_below hX.out HBR.out) 1
                have p2 := cell_of_block (heap_below hX.out HBR.out) 2
                have p3 := cell_of_block (heap_below hX.out HBR.out) 3
                have p4 := cell_of_block (heap_below hX.out HBR.out) 4
                have p5 := cell_of_block (heap_below hX.out HBR.out) 5
                have z0 := cell_of_block HZ4.out 0
                have z1 := cell_of_block HZ4.out 1
                have z2 := cell_of_block HZ4.out 2
                go_wp2_with fail
                refine HQ4.out.mono ?_
                rintro e W7 ⟨rfl, hb7⟩
                have HO7 := Lib.hid (HO4.out.below hb7)
                have HZ7 := Lib.hid (heap_below HZ4.out hb7)
                have HBR7 := Lib.hid (ext_trans HBR.out hb7)
                clear p0 p1 p2 p3 p4 p5 z0 z1 z2 hb7 HO4 HZ4 HBR HQ4
                have HO4 := HO7
                have HZ4 := HZ7
                have HBR := HBR7
                clear HO7 HZ7 HBR7
                cases q4 with
                | false =>
                  have z0 := cell_of_block HZ4.out 0
                  have z1 := cell_of_block HZ4.out 1
                  have z2 := cell_of_block HZ4.out 2
                  go_wp2_with (at_builtin; refine wpList_append_own_at _ rfl _ _ 50 rfl w.heap.size 30 iT (.agg #[.int .i64 0, .slice none 0 0, .slice none 0 0]) 3 56 Try.underlying50 hiT hzT0 hzT1 hzT2 rfl (by omega) (.slice va k vc) k (tcs ps) rfl (ownsN_below hI.out.row (ext_trans HBR.out (ext_alloc _ _))) ⟨W7.heap.size, 0, none⟩ 1 1 [.int .i64 u2.bad, .slice s2.a1 s2.n1 s2.c1, .slice s2.a2 s2.n2 s2.c2] rfl rfl (cell_three_new _ _ _ _ _) (by simp [Value.oneCell']) ?a81 ?a82 ?a83 ?_)
                  case a81 => unfold maxLen; omega
                  case a82 => omega
                  case a83 => have h1 := hB.out.size; have h2 := HBR.out.size; simp; omega
                  intro v' w1 hown' hgrow _ hat'
                  have hal := ext_alloc W7 (.cells #[.int .i64 u2.bad, .slice s2.a1 s2.n1 s2.c1, .slice s2.a2 s2.n2 s2.c2] 30)
                  have hA := ext_trans HBR.out hal
                  have hrow := ownsN_below hI.out.row hA
                  have HNI : Hid (LInv c t.bad NF true w.heap.size (k + 1) w1 v' false (ps ++ [(s2, u2)])) := hI.out.step hA ((HO4.out.base hB.out.size).below hal) HSM.out HUB.out HUF.out hown' hgrow (by rw [← HQE.out]; simp)
                  have HNX := Lib.hid (heap_grown (heap_below hX.out hA) hgrow (ownsN_notown hrow (heap_below hX.out hA) (by decide)))
                  have HNY := Lib.hid (heap_grown (heap_below hY.out hA) hgrow (fun e => hAL.out (by simpa using e)))
                  have HNB := Lib.hid ((ext_trans hB.out hA).grown hgrow (ext_trans hB.out hA).size (fun q hq => (hrow.lt q hq).1))
                  have HNA : Hid (v'.ownBlock ≠ some (w.heap.size + 1)) := fun e => by
                    rcases hat' with h1 | h1
                    · exact hAL.out (by rw [← h1]; exact e)
                    · rw [h1] at e
                      have h2 : ((W7.alloc (.cells #[.int .i64 u2.bad, .slice s2.a1 s2.n1 s2.c1, .slice s2.a2 s2.n2 s2.c2] 30)).heap.size = w.heap.size + 1) := by simpa using e
                      have h3 := heap_lt (heap_below hY.out hA)
                      omega
                  obtain ⟨va2, vc2, rfl⟩ := ownsN_form hown'
                  clear hal hA hrow hown' hgrow hat' z0 z1 z2
                  go_wp2
                  go_roundw
                  case rel => exact ⟨k + 1, va2, vc2, false, ps ++ [(s2, u2)], by omega, by omega, by go_num, rfl, rfl, HNI.out, HNX.out, HNY.out, HNB.out, HNA.out⟩
                  case measure => simp [intOf]; omega
                | true =>
                  have z0 := cell_of_block HZ4.out 0
                  have z1 := cell_of_block HZ4.out 1
                  have z2 := cell_of_block HZ4.out 2
                  go_wp2_with (at_builtin; refine wpList_append_own_at _ rfl _ _ 50 rfl w.heap.size 30 iT (.agg #[.int .i64 0, .slice none 0 0, .slice none 0 0]) 3 56 Try.underlying50 hiT hzT0 hzT1 hzT2 rfl (by omega) (.slice va k vc) k (tcs ps) rfl (ownsN_below hI.out.row (ext_trans HBR.out (ext_alloc _ _))) ⟨W7.heap.size, 0, none⟩ 1 1 [.int .i64 u2.bad, .slice s2.a1 s2.n1 s2.c1, .slice s2.a2 s2.n2 s2.c2] rfl rfl (cell_three_new _ _ _ _ _) (by simp [Value.oneCell']) ?a91 ?a92 ?a93 ?_)
                  case a91 => unfold maxLen; omega
                  case a92 => omega
                  case a93 => have h1 := hB.out.size; have h2 := HBR.out.size; simp; omega
                  intro v' w1 hown' hgrow _ hat'
                  have hal := ext_alloc W7 (.cells #[.int .i64 u2.bad, .slice s2.a1 s2.n1 s2.c1, .slice s2.a2 s2.n2 s2.c2] 30)
                  have hA := ext_trans HBR.out hal
                  have hrow := ownsN_below hI.out.row hA
                  have HNI : Hid (LInv c t.bad NF true w.heap.size (k + 1) w1 v' true (ps ++ [(s2, u2)])) := hI.out.step hA ((HO4.out.base hB.out.size).below hal) HSM.out HUB.out HUF.out hown' hgrow (by rw [← HQE.out, HK1.out]; rfl)
                  have HNX := Lib.hid (heap_grown (heap_below hX.out hA) hgrow (ownsN_notown hrow (heap_below hX.out hA) (by decide)))
                  have HNY := Lib.hid (heap_grown (heap_below hY.out hA) hgrow (fun e => hAL.out (by simpa using e)))
                  have HNB := Lib.hid ((ext_trans hB.out hA).grown hgrow (ext_trans hB.out hA).size (fun q hq => (hrow.lt q hq).1))
                  have HNA : Hid (v'.ownBlock ≠ some (w.heap.size + 1)) := fun e => by
                    rcases hat' with h1 | h1
                    · exact hAL.out (by rw [← h1]; exact e)
                    · rw [h1] at e
                      have h2 : ((W7.alloc (.cells #[.int .i64 u2.bad, .slice s2.a1 s2.n1 s2.c1, .slice s2.a2 s2.n2 s2.c2] 30)).heap.size = w.heap.size + 1) := by simpa using e
                      have h3 := heap_lt (heap_below hY.out hA)
                      omega
                  obtain ⟨va2, vc2, rfl⟩ := ownsN_form hown'
                  clear hal hA hrow hown' hgrow hat' z0 z1 z2
                  go_wp2
                  go_roundw
                  case rel => exact ⟨k + 1, va2, vc2, true, ps ++ [(s2, u2)], by omega, by omega, by go_num, rfl, rfl, HNI.out, HNX.out, HNY.out, HNB.out, HNA.out⟩
                  case measure => simp [intOf]; omega
        · have e2 : decide ((k : Int) < 70) = false := by simp; omega
          have e2b : decide (k < 70) = false := decide_eq_false h70
          go_wp2
          go_meet
          exact ⟨k, va, vc, fine, ps, hk70, rfl, rfl, hI.out, hX.out, hY.out, hB.out⟩
      · have e1 : decide ((k : Int) < (ln : Int)) = false := by simp; omega
        have e1b : decide (k < ln) = false := decide_eq_false hlt
        go_wp2
        go_meet
        exact ⟨k, va, vc, fine, ps, hk70, rfl, rfl, hI.out, hX.out, hY.out, hB.out⟩
  case rest =>
    obtain ⟨k, va, vc, fine, ps, hk70, rfl, rfl, hI, hX, hY, hB⟩ := hcut
    have HQF := Lib.hid hI.out.tog
    have HSEE := Lib.hid hI.out.see
    have HBK : Hid (BadOk (ps.map Prod.snd) k) := fun i hi => by
      rw [snd_at, (hI.out.shape i hi).1]
      exact HBD.out
    have HQ8 := Lib.hid (HMY.out va k vc _ _ _ hB.out HSEE.out (by omega) HBK.out)
    rw [HQF.out] at HQ8
    have HK70 := Lib.hid hk70
    have p0 := cell_of_block hX.out 0
    have p1 := cell_of_block hX.out 1
    have p2 := cell_of_block hX.out 2
    have p3 := cell_of_block hX.out 3
    have p4 := cell_of_block hX.out 4
    have p5 := cell_of_block hX.out 5
    by_cases h64 : k ≤ 64
    · have HD : Hid (decide (k ≤ 64) = true) := decide_eq_true h64
      have H64 := Lib.hid h64
      cases fine with
      | true =>
        have HTG : Hid (mayTog c (ps.map Prod.snd) k = true) := by show _ = _; rw [HQF.out, HD.out]; rfl
        have HTR : Hid (mayTog c ((ps.map Prod.snd).map readT) k = true) := mayTog_read (by simpa using hI.out.len) HTG.out
        simp only [HD.out, Bool.and_self, ite_true] at HQ8
        obtain ⟨F, hF⟩ : ∃ F, F = sureB c ((ps.map Prod.snd).map readT) k := ⟨_, rfl⟩
        obtain ⟨S, hS⟩ : ∃ F, F = sureB c (ps.map Prod.snd) k := ⟨_, rfl⟩
        have HFL : Hid (F < 2 ^ k ∧ F < 18446744073709551616) := by show _ ∧ _; rw [hF]; exact sureB_lt HTR.out
        have HSL : Hid (S < 2 ^ k ∧ S < 18446744073709551616) := by show _ ∧ _; rw [hS]; exact sureB_lt HTG.out
        have HFB : Hid (∀ j, j < k → failsE c (ps.getD j p00).2 = .returned (.tuple #[.bool (F.testBit j), .int .i64 0])) := fun j hj => by
          have h1 := (hI.out.fine.1 rfl j hj).1
          have h2 := sureB_bit HTR.out hj
          rw [getD_map_t (by simpa using hI.out.len) hj, snd_at, ← hF] at h2
          unfold failsE
          rw [if_pos h1, h2]
          rfl
        have HSB : Hid (∀ j, j < k → ∃ V : Nat, S.testBit j = decide (V = 1) ∧ surelyE c (ps.getD j p00).2 = .returned (.tuple #[.int .u8 (V : Nat), .int .i64 0])) := fun j hj => by
          have h1 := (hI.out.fine.1 rfl j hj).1
          have h2 := sureB_bit HTG.out hj
          rw [snd_at, ← hS] at h2
          refine ⟨_, h2, ?_⟩
          unfold surelyE
          rw [if_pos h1]
          rfl
        have HFS : Hid (∀ W j, Below w.heap.size w W → j < k → SeesTr W (ps.getD j p00).1 (ps.getD j p00).2 → Calls Try.prog 21 #[.agg #[.int .i64 c.ins, .slice s.a1 s.n1 s.c1, .slice s.a2 s.n2 s.c2, .slice s.a3 s.n3 s.c3, .slice s.a4 s.n4 s.c4, .slice s.a5 s.n5 s.c5], .agg #[.int .i64 t.bad, .slice (ps.getD j p00).1.a1 (ps.getD j p00).1.n1 (ps.getD j p00).1.c1, .slice (ps.getD j p00).1.a2 (ps.getD j p00).1.n2 (ps.getD j p00).1.c2]] W fun e w' => e = .returned (.tuple #[.bool (F.testBit j), .int .i64 0]) ∧ Below W.heap.size W w') := fun W j hb hj hsee => by
          have h1 := HFA.out _ _ W hb hsee (hI.out.own j hj).2 (hI.out.shape j hj).1
          rw [HFB.out j hj, (hI.out.shape j hj).1] at h1
          exact h1
        have HSS : Hid (∀ j, j < k → ∃ V : Nat, S.testBit j = decide (V = 1) ∧ ∀ W, Below w.heap.size w W → SeesTr W (ps.getD j p00).1 (ps.getD j p00).2 → Calls Try.prog 23 #[.agg #[.int .i64 c.ins, .slice s.a1 s.n1 s.c1, .slice s.a2 s.n2 s.c2, .slice s.a3 s.n3 s.c3, .slice s.a4 s.n4 s.c4, .slice s.a5 s.n5 s.c5], .agg #[.int .i64 t.bad, .slice (ps.getD j p00).1.a1 (ps.getD j p00).1.n1 (ps.getD j p00).1.c1, .slice (ps.getD j p00).1.a2 (ps.getD j p00).1.n2 (ps.getD j p00).1.c2]] W fun e w' => e = .returned (.tuple #[.int .u8 (V : Nat), .int .i64 0]) ∧ Below W.heap.size W w') := fun j hj => by
          obtain ⟨V, hV, hE⟩ := HSB.out j hj
          refine ⟨V, hV, fun W hb hsee => ?_⟩
          have h1 := HSU.out _ _ W hb hsee (hI.out.own j hj).2 (hI.out.shape j hj).1
          rw [hE, (hI.out.shape j hj).1] at h1
          exact h1
        rw [← hF, ← hS] at HQ8
        clear hF hS HFB HSB
        have e1 : decide ((k : Int) ≤ 64) = true := by simp; omega
        have e1b : decide (k ≤ 64) = true := decide_eq_true h64
        clear h64 hk70
        go_wp2_with fail
        refine HQ8.out.mono ?_
        rintro e W3 ⟨rfl, hb3⟩
        have HB3 := Lib.hid (ext_trans hB.out hb3)
        have HX3 := Lib.hid (heap_below hX.out hb3)
        have HI3 := Lib.hid (hI.out.below hb3)
        clear p0 p1 p2 p3 p4 p5 hb3 hX hY hI hB HQ8 HSEE
        have HCL : Hid (∀ j, j < k → ∃ g, va = some ⟨g, 0, none⟩ ∧ ∀ W, Below W3.heap.size W3 W → W.cell? ⟨g, j * 3, none⟩ = some (.int .i64 t.bad) ∧ W.cell? ⟨g, j * 3 + 1, none⟩ = some (.slice (ps.getD j p00).1.a1 (ps.getD j p00).1.n1 (ps.getD j p00).1.c1) ∧ W.cell? ⟨g, j * 3 + 2, none⟩ = some (.slice (ps.getD j p00).1.a2 (ps.getD j p00).1.n2 (ps.getD j p00).1.c2)) := fun j hj => by
          obtain ⟨g, e, hg, hcc⟩ := HI3.out.see.cells (by omega)
          refine ⟨g, e, fun W hb => ?_⟩
          obtain ⟨h0, h1, h2⟩ := hcc j hj
          rw [snd_at, (HI3.out.shape j hj).1] at h0
          rw [fst_at] at h1 h2
          exact ⟨(hb.cell hg).trans h0, (hb.cell hg).trans h1, (hb.cell hg).trans h2⟩
        have HSE3 : Hid (∀ j, j < k → ∀ W, Below W3.heap.size W3 W → SeesTr W (ps.getD j p00).1 (ps.getD j p00).2) := fun j hj W hb => (HI3.out.own j hj).1.sees.below hb
        clear HI3
        go_wp2_with fail
        go_loopw [121, 16, 17, 18, 19, 20] (fun i _ _ _ _ _ wr => ∃ j : Nat, j ≤ k ∧ i = .int .i64 j ∧ Hid (Below W3.heap.size W3 wr)) (fun i _ _ _ _ _ _ => k - (intOf i).toNat)
        case atStart => exact ⟨0, Nat.zero_le _, rfl, Below.refl _ _⟩
        case round =>
          obtain ⟨j, hj, rfl, hB⟩ := hrel
          by_cases hlt : j < k
          · have e2 : decide ((j : Int) < (k : Int)) = true := by simp; omega
            have e2b : decide (j < k) = true := decide_eq_true hlt
            obtain ⟨g, rfl, hcl⟩ := HCL.out j hlt
            obtain ⟨V, hV, hsu⟩ := HSS.out j hlt
            have hfa := fun W hb => HFS.out W j hb hlt
            have hse := HSE3.out j hlt
            have hcw := hcl wr hB.out
            obtain ⟨xs, hxs⟩ : ∃ x, x = (ps.getD j p00).1 := ⟨_, rfl⟩
            obtain ⟨xu, hxu⟩ : ∃ x, x = (ps.getD j p00).2 := ⟨_, rfl⟩
            rw [← hxs] at hcw
            rw [← hxs, ← hxu] at hse
            obtain ⟨bF, hbF⟩ : ∃ b, b = F.testBit j := ⟨_, rfl⟩
            simp only [← hxs, ← hxu, ← hbF] at hfa hsu
            have HCF : Hid (∀ W, Below W3.heap.size W3 W → Calls Try.prog 21 #[.agg #[.int .i64 c.ins, .slice s.a1 s.n1 s.c1, .slice s.a2 s.n2 s.c2, .slice s.a3 s.n3 s.c3, .slice s.a4 s.n4 s.c4, .slice s.a5 s.n5 s.c5], .agg #[.int .i64 t.bad, .slice xs.a1 xs.n1 xs.c1, .slice xs.a2 xs.n2 xs.c2]] W fun e w' => e = .returned (.tuple #[.bool bF, .int .i64 0]) ∧ Below W.heap.size W w') := fun W hb => hfa W (ext_trans HB3.out hb) (hse W hb)
            have HCS : Hid (∀ W, Below W3.heap.size W3 W → Calls Try.prog 23 #[.agg #[.int .i64 c.ins, .slice s.a1 s.n1 s.c1, .slice s.a2 s.n2 s.c2, .slice s.a3 s.n3 s.c3, .slice s.a4 s.n4 s.c4, .slice s.a5 s.n5 s.c5], .agg #[.int .i64 t.bad, .slice xs.a1 xs.n1 xs.c1, .slice xs.a2 xs.n2 xs.c2]] W fun e w' => e = .returned (.tuple #[.int .u8 (V : Nat), .int .i64 0]) ∧ Below W.heap.size W w') := fun W hb => hsu W (ext_trans HB3.out hb) (hse W hb)
            have hxw := heap_below HX3.out hB.out
            have HS0 := Lib.hid (And.intro (cell_of_block hxw 0) (And.intro (cell_of_block hxw 1) (And.intro (cell_of_block hxw 2) (And.intro (cell_of_block hxw 3) (And.intro (cell_of_block hxw 4) (And.intro (cell_of_block hxw 5) hcw))))))
            have HVB := Lib.hid hV
            have HBF := Lib.hid hbF
            have W2 : IntKind.i64.wrap ((j : Int) + 1) = (j : Int) + 1 := IntWalk.i64_in _ (by have := HK70.out; omega)
            have hI1 : (j : Int) < (k : Int) := by omega
            have hI0 : (0 : Int) ≤ (j : Int) := by omega
            clear hcl hsu hfa hse hcw hxs hxu hV hbF hxw
            go_upto_region 21 with fail
            refine wp_region_noPanic ?_
            refine wp_region_held (S := fun w' => w'.cell? ⟨w.heap.size, 0, none⟩ = some (.int .i64 c.ins) ∧ w'.cell? ⟨w.heap.size, 1, none⟩ = some (.slice s.a1 s.n1 s.c1) ∧ w'.cell? ⟨w.heap.size, 2, none⟩ = some (.slice s.a2 s.n2 s.c2) ∧ w'.cell? ⟨w.heap.size, 3, none⟩ = some (.slice s.a3 s.n3 s.c3) ∧ w'.cell? ⟨w.heap.size, 4, none⟩ = some (.slice s.a4 s.n4 s.c4) ∧ w'.cell? ⟨w.heap.size, 5, none⟩ = some (.slice s.a5 s.n5 s.c5) ∧ w'.cell? ⟨g, j * 3, none⟩ = some (.int .i64 t.bad) ∧ w'.cell? ⟨g, j * 3 + 1, none⟩ = some (.slice xs.a1 xs.n1 xs.c1) ∧ w'.cell? ⟨g, j * 3 + 2, none⟩ = some (.slice xs.a2 xs.n2 xs.c2)) (by kernel_rfl) ?_
            generalize hY : ({ wr with drawn := wr.drawn + 1 } : World) = Y0
            have hY0 : Below wr.heap.size wr Y0 := by subst hY; exact (Below.refl _ _).drew
            have HSD := Lib.hid (keep9 HS0.out hY0)
            have HYB := Lib.hid (ext_trans hB.out hY0)
            clear hY0 hY
            refine wpAnyH_take (i := 0) (v := ?_) (by simp only [List.getElem?_toArray, List.getElem?_cons_zero]; rfl) (by kernel_rfl) (by kernel_rfl) (by kernel_rfl) (fun _ _ _ h => h) (Or.inl ⟨by rfl, ?_⟩) HSD.out ?_
            rotate_left
            · intro w hSw
              (try dsimp only at hSw)
              obtain ⟨q0_, q1_, q2_, q3_, q4_, q5_, q6_, q7_, q8_⟩ := hSw
              go_simp
              try with_reducible rfl
            try simp only [Act.put, List.setIfInBounds_toArray, List.set_cons_zero, List.set_cons_succ]
            refine wpAnyH_take (i := 1) (v := ?_) (by simp only [List.getElem?_toArray, List.getElem?_cons_zero, List.getElem?_cons_succ]; rfl) (by kernel_rfl) (by kernel_rfl) (by kernel_rfl) (fun _ _ _ h => h) (Or.inl ⟨by rfl, ?_⟩) HSD.out ?_
            rotate_left
            · intro w hSw
              (try dsimp only at hSw)
              obtain ⟨q0_, q1_, q2_, q3_, q4_, q5_, q6_, q7_, q8_⟩ := hSw
              go_simp
              try with_reducible rfl
            try simp only [Act.put, List.setIfInBounds_toArray, List.set_cons_zero, List.set_cons_succ]
            refine wpAnyH_take (i := 2) (v := ?_) (by simp only [List.getElem?_toArray, List.getElem?_cons_zero, List.getElem?_cons_succ]; rfl) (by kernel_rfl) (by kernel_rfl) (by kernel_rfl) (fun _ _ _ h => h) (Or.inl ⟨by rfl, ?_⟩) HSD.out ?_
            rotate_left
            · intro w hSw
              (try dsimp only at hSw)
              obtain ⟨q0_, q1_, q2_, q3_, q4_, q5_, q6_, q7_, q8_⟩ := hSw
              go_simp
              try with_reducible rfl
            try simp only [Act.put, List.setIfInBounds_toArray, List.set_cons_zero, List.set_cons_succ]
            refine wpAnyH_take (i := 3) (v := ?_) (by simp only [List.getElem?_toArray, List.getElem?_cons_zero, List.getElem?_cons_succ]; rfl) (by kernel_rfl) (by kernel_rfl) (by kernel_rfl) (fun _ _ _ h => h) (Or.inl ⟨by rfl, ?_⟩) HSD.out ?_
            rotate_left
            · intro w hSw
              (try dsimp only at hSw)
              obtain ⟨q0_, q1_, q2_, q3_, q4_, q5_, q6_, q7_, q8_⟩ := hSw
              go_simp
              try with_reducible rfl
            try simp only [Act.put, List.setIfInBounds_toArray, List.set_cons_zero, List.set_cons_succ]
            refine wpAnyH_take (i := 4) (v := ?_) (by simp only [List.getElem?_toArray, List.getElem?_cons_zero, List.getElem?_cons_succ]; rfl) (by kernel_rfl) (by kernel_rfl) (by kernel_rfl) (fun _ _ _ h => h) (Or.inl ⟨by rfl, ?_⟩) HSD.out ?_
            rotate_left
            · intro w hSw
              (try dsimp only at hSw)
              obtain ⟨q0_, q1_, q2_, q3_, q4_, q5_, q6_, q7_, q8_⟩ := hSw
              go_simp
              try with_reducible rfl
            try simp only [Act.put, List.setIfInBounds_toArray, List.set_cons_zero, List.set_cons_succ]
            refine wpAnyH_ready (rs := [5]) (by kernel_rfl) (by simp) ?_
            refine AllReadyH.cons (by simp only [List.getElem?_toArray, List.getElem?_cons_zero, List.getElem?_cons_succ]; rfl) (fun K hK => ?_) AllReadyH.nil
            go_simp
            refine (HCF.out _ HYB.out).mono ?_
            rintro e s1 ⟨rfl, b1⟩
            have HB4 := Lib.hid (ext_trans HYB.out b1)
            have HS1 := Lib.hid (keep9 HSD.out b1)
            clear b1
            refine hK.out _ _ HS1.out (fun _ => ?_)
            clear hK K
            try simp only [Act.put, List.setIfInBounds_toArray, List.set_cons_zero, List.set_cons_succ]
            refine wpAnyH_take (i := 6) (v := ?_) (by simp only [List.getElem?_toArray, List.getElem?_cons_zero, List.getElem?_cons_succ]; rfl) (by kernel_rfl) (by kernel_rfl) (by kernel_rfl) (fun _ _ _ h => h) (Or.inl ⟨by rfl, ?_⟩) HS1.out ?_
            rotate_left
            · intro w hSw
              (try dsimp only at hSw)
              obtain ⟨q0_, q1_, q2_, q3_, q4_, q5_, q6_, q7_, q8_⟩ := hSw
              go_simp
              try with_reducible rfl
            try simp only [Act.put, List.setIfInBounds_toArray, List.set_cons_zero, List.set_cons_succ]
            refine wpAnyH_take (i := 7) (v := ?_) (by simp only [List.getElem?_toArray, List.getElem?_cons_zero, List.getElem?_cons_succ]; rfl) (by kernel_rfl) (by kernel_rfl) (by kernel_rfl) (fun _ _ _ h => h) (Or.inl ⟨by rfl, ?_⟩) HS1.out ?_
            rotate_left
            · intro w hSw
              (try dsimp only at hSw)
              obtain ⟨q0_, q1_, q2_, q3_, q4_, q5_, q6_, q7_, q8_⟩ := hSw
              go_simp
              try with_reducible rfl
            try simp only [Act.put, List.setIfInBounds_toArray, List.set_cons_zero, List.set_cons_succ]
            refine wpAnyH_take (i := 8) (v := ?_) (by simp only [List.getElem?_toArray, List.getElem?_cons_zero, List.getElem?_cons_succ]; rfl) (by kernel_rfl) (by kernel_rfl) (by kernel_rfl) (fun _ _ _ h => h) (Or.inl ⟨by rfl, ?_⟩) HS1.out ?_
            rotate_left
            · intro w hSw
              (try dsimp only at hSw)
              obtain ⟨q0_, q1_, q2_, q3_, q4_, q5_, q6_, q7_, q8_⟩ := hSw
              go_simp
              try with_reducible rfl
            try simp only [Act.put, List.setIfInBounds_toArray, List.set_cons_zero, List.set_cons_succ]
            refine wpAnyH_take (i := 9) (v := ?_) (by simp only [List.getElem?_toArray, List.getElem?_cons_zero, List.getElem?_cons_succ]; rfl) (by kernel_rfl) (by kernel_rfl) (by kernel_rfl) (fun _ _ _ h => h) (Or.inl ⟨by rfl, ?_⟩) HS1.out ?_
            rotate_left
            · intro w hSw
              (try dsimp only at hSw)
              obtain ⟨q0_, q1_, q2_, q3_, q4_, q5_, q6_, q7_, q8_⟩ := hSw
              go_simp
              try with_reducible rfl
            try simp only [Act.put, List.setIfInBounds_toArray, List.set_cons_zero, List.set_cons_succ]
            refine wpAnyH_take (i := 10) (v := ?_) (by simp only [List.getElem?_toArray, List.getElem?_cons_zero, List.getElem?_cons_succ]; rfl) (by kernel_rfl) (by kernel_rfl) (by kernel_rfl) (fun _ _ _ h => h) (Or.inl ⟨by rfl, ?_⟩) HS1.out ?_
            rotate_left
            · intro w hSw
              (try dsimp only at hSw)
              obtain ⟨q0_, q1_, q2_, q3_, q4_, q5_, q6_, q7_, q8_⟩ := hSw
              go_simp
              try with_reducible rfl
            try simp only [Act.put, List.setIfInBounds_toArray, List.set_cons_zero, List.set_cons_succ]
            refine wpAnyH_done (by kernel_rfl) ?_ _
            refine NoPanic.normal ?_
            go_upto_region 22 with fail
            refine wp_region_noPanic ?_
            refine wp_region_held (S := fun w' => w'.cell? ⟨w.heap.size, 0, none⟩ = some (.int .i64 c.ins) ∧ w'.cell? ⟨w.heap.size, 1, none⟩ = some (.slice s.a1 s.n1 s.c1) ∧ w'.cell? ⟨w.heap.size, 2, none⟩ = some (.slice s.a2 s.n2 s.c2) ∧ w'.cell? ⟨w.heap.size, 3, none⟩ = some (.slice s.a3 s.n3 s.c3) ∧ w'.cell? ⟨w.heap.size, 4, none⟩ = some (.slice s.a4 s.n4 s.c4) ∧ w'.cell? ⟨w.heap.size, 5, none⟩ = some (.slice s.a5 s.n5 s.c5) ∧ w'.cell? ⟨g, j * 3, none⟩ = some (.int .i64 t.bad) ∧ w'.cell? ⟨g, j * 3 + 1, none⟩ = some (.slice xs.a1 xs.n1 xs.c1) ∧ w'.cell? ⟨g, j * 3 + 2, none⟩ = some (.slice xs.a2 xs.n2 xs.c2)) (by kernel_rfl) ?_
            generalize hY : ({ s1 with drawn := s1.drawn + 1 } : World) = Y1
            have hY0 : Below s1.heap.size s1 Y1 := by subst hY; exact (Below.refl _ _).drew
            have HSD2 := Lib.hid (keep9 HS1.out hY0)
            have HYB2 := Lib.hid (ext_trans HB4.out hY0)
            clear hY0 hY
            refine wpAnyH_take (i := 0) (v := ?_) (by simp only [List.getElem?_toArray, List.getElem?_cons_zero]; rfl) (by kernel_rfl) (by kernel_rfl) (by kernel_rfl) (fun _ _ _ h => h) (Or.inl ⟨by rfl, ?_⟩) HSD2.out ?_
            rotate_left
            · intro w hSw
              (try dsimp only at hSw)
              obtain ⟨q0_, q1_, q2_, q3_, q4_, q5_, q6_, q7_, q8_⟩ := hSw
              go_simp
              try with_reducible rfl
            try simp only [Act.put, List.setIfInBounds_toArray, List.set_cons_zero, List.set_cons_succ]
            refine wpAnyH_take (i := 1) (v := ?_) (by simp only [List.getElem?_toArray, List.getElem?_cons_zero, List.getElem?_cons_succ]; rfl) (by kernel_rfl) (by kernel_rfl) (by kernel_rfl) (fun _ _ _ h => h) (Or.inl ⟨by rfl, ?_⟩) HSD2.out ?_
            rotate_left
            · intro w hSw
              (try dsimp only at hSw)
              obtain ⟨q0_, q1_, q2_, q3_, q4_, q5_, q6_, q7_, q8_⟩ := hSw
              go_simp
              try with_reducible rfl
            try simp only [Act.put, List.setIfInBounds_toArray, List.set_cons_zero, List.set_cons_succ]
            refine wpAnyH_take (i := 2) (v := ?_) (by simp only [List.getElem?_toArray, List.getElem?_cons_zero, List.getElem?_cons_succ]; rfl) (by kernel_rfl) (by kernel_rfl) (by kernel_rfl) (fun _ _ _ h => h) (Or.inl ⟨by rfl, ?_⟩) HSD2.out ?_
            rotate_left
            · intro w hSw
              (try dsimp only at hSw)
              obtain ⟨q0_, q1_, q2_, q3_, q4_, q5_, q6_, q7_, q8_⟩ := hSw
              go_simp
              try with_reducible rfl
            try simp only [Act.put, List.setIfInBounds_toArray, List.set_cons_zero, List.set_cons_succ]
            refine wpAnyH_take (i := 3) (v := ?_) (by simp only [List.getElem?_toArray, List.getElem?_cons_zero, List.getElem?_cons_succ]; rfl) (by kernel_rfl) (by kernel_rfl) (by kernel_rfl) (fun _ _ _ h => h) (Or.inl ⟨by rfl, ?_⟩) HSD2.out ?_
            rotate_left
            · intro w hSw
              (try dsimp only at hSw)
              obtain ⟨q0_, q1_, q2_, q3_, q4_, q5_, q6_, q7_, q8_⟩ := hSw
              go_simp
              try with_reducible rfl
            try simp only [Act.put, List.setIfInBounds_toArray, List.set_cons_zero, List.set_cons_succ]
            refine wpAnyH_take (i := 4) (v := ?_) (by simp only [List.getElem?_toArray, List.getElem?_cons_zero, List.getElem?_cons_succ]; rfl) (by kernel_rfl) (by kernel_rfl) (by kernel_rfl) (fun _ _ _ h => h) (Or.inl ⟨by rfl, ?_⟩) HSD2.out ?_
            rotate_left
            · intro w hSw
              (try dsimp only at hSw)
              obtain ⟨q0_, q1_, q2_, q3_, q4_, q5_, q6_, q7_, q8_⟩ := hSw
              go_simp
              try with_reducible rfl
            try simp only [Act.put, List.setIfInBounds_toArray, List.set_cons_zero, List.set_cons_succ]
            refine wpAnyH_ready (rs := [5]) (by kernel_rfl) (by simp) ?_
            refine AllReadyH.cons (by simp only [List.getElem?_toArray, List.getElem?_cons_zero, List.getElem?_cons_succ]; rfl) (fun K hK => ?_) AllReadyH.nil
            go_simp
            refine (HCS.out _ HYB2.out).mono ?_
            rintro e s2 ⟨rfl, b1⟩
            have HB5 := Lib.hid (ext_trans HYB2.out b1)
            have HS3 := Lib.hid (keep9 HSD2.out b1)
            clear b1
            refine hK.out _ _ HS3.out (fun _ => ?_)
            clear hK K
            try simp only [Act.put, List.setIfInBounds_toArray, List.set_cons_zero, List.set_cons_succ]
            refine wpAnyH_take (i := 6) (v := ?_) (by simp only [List.getElem?_toArray, List.getElem?_cons_zero, List.getElem?_cons_succ]; rfl) (by kernel_rfl) (by kernel_rfl) (by kernel_rfl) (fun _ _ _ h => h) (Or.inl ⟨by rfl, ?_⟩) HS3.out ?_
            rotate_left
            · intro w hSw
              (try dsimp only at hSw)
              obtain ⟨q0_, q1_, q2_, q3_, q4_, q5_, q6_, q7_, q8_⟩ := hSw
              go_simp
              try with_reducible rfl
            try simp only [Act.put, List.setIfInBounds_toArray, List.set_cons_zero, List.set_cons_succ]
            refine wpAnyH_take (i := 7) (v := ?_) (by simp only [List.getElem?_toArray, List.getElem?_cons_zero, List.getElem?_cons_succ]; rfl) (by kernel_rfl) (by kernel_rfl) (by kernel_rfl) (fun _ _ _ h => h) (Or.inl ⟨by rfl, ?_⟩) HS3.out ?_
            rotate_left
            · intro w hSw
              (try dsimp only at hSw)
              obtain ⟨q0_, q1_, q2_, q3_, q4_, q5_, q6_, q7_, q8_⟩ := hSw
              go_simp
              try with_reducible rfl
            try simp only [Act.put, List.setIfInBounds_toArray, List.set_cons_zero, List.set_cons_succ]
            refine wpAnyH_take (i := 8) (v := ?_) (by simp only [List.getElem?_toArray, List.getElem?_cons_zero, List.getElem?_cons_succ]; rfl) (by kernel_rfl) (by kernel_rfl) (by kernel_rfl) (fun _ _ _ h => h) (Or.inl ⟨by rfl, ?_⟩) HS3.out ?_
            rotate_left
            · intro w hSw
              (try dsimp only at hSw)
              obtain ⟨q0_, q1_, q2_, q3_, q4_, q5_, q6_, q7_, q8_⟩ := hSw
              go_simp
              try with_reducible rfl
            try simp only [Act.put, List.setIfInBounds_toArray, List.set_cons_zero, List.set_cons_succ]
            refine wpAnyH_take (i := 9) (v := ?_) (by simp only [List.getElem?_toArray, List.getElem?_cons_zero, List.getElem?_cons_succ]; rfl) (by kernel_rfl) (by kernel_rfl) (by kernel_rfl) (fun _ _ _ h => h) (Or.inl ⟨by rfl, ?_⟩) HS3.out ?_
            rotate_left
            · intro w hSw
              (try dsimp only at hSw)
              obtain ⟨q0_, q1_, q2_, q3_, q4_, q5_, q6_, q7_, q8_⟩ := hSw
              go_simp
              try with_reducible rfl
            try simp only [Act.put, List.setIfInBounds_toArray, List.set_cons_zero, List.set_cons_succ]
            refine wpAnyH_take (i := 10) (v := ?_) (by simp only [List.getElem?_toArray, List.getElem?_cons_zero, List.getElem?_cons_succ]; rfl) (by kernel_rfl) (by kernel_rfl) (by kernel_rfl) (fun _ _ _ h => h) (Or.inl ⟨by rfl, ?_⟩) HS3.out ?_
            rotate_left
            · intro w hSw
              (try dsimp only at hSw)
              obtain ⟨q0_, q1_, q2_, q3_, q4_, q5_, q6_, q7_, q8_⟩ := hSw
              go_simp
              try with_reducible rfl
            try simp only [Act.put, List.setIfInBounds_toArray, List.set_cons_zero, List.set_cons_succ]
            refine wpAnyH_done (by kernel_rfl) ?_ _
            refine NoPanic.normal ?_
            have HBT : Hid ((bits BinOp.and IntKind.u64 ((F : Int) / 2 ^ min (IntKind.u64.wrap (j : Int)).toNat 64) 1 == 1) = bF) := by
              show _ = _
              rw [bit_at (by have := H64.out; omega) HFL.out.2, HBF.out]
            have HCT : Hid ((!((bits BinOp.and IntKind.u64 ((S : Int) / 2 ^ min (IntKind.u64.wrap (j : Int)).toNat 64) 1 == 1) == ((V : Int) == 1))) = false) := by
              show _ = _
              rw [bit_at (by have := H64.out; omega) HSL.out.2, HVB.out]
              have : ((V : Int) == 1) = decide (V = 1) := by rw [Bool.eq_iff_iff]; simp; omega
              rw [this]
              simp
            go_upto_region 23 with fail
            go_wp2
            all_goals first | (exact absurd HBT.out (by assumption)) | (exact absurd (HCT.out.symm.trans (by assumption)) Bool.false_ne_true) | skip
            go_roundw
            case rel => exact ⟨j + 1, by omega, by go_num, HB5.out⟩
            case measure => simp [intOf]; omega
          · have e2 : decide ((j : Int) < (k : Int)) = false := by simp; omega
            have e2b : decide (j < k) = false := decide_eq_false hlt
            have HZF : Hid ((F : Int) / 2 ^ min (IntKind.u64.wrap (k : Int)).toNat 64 = 0) := by
              show _ = _
              rw [shift_at F H64.out, Nat.div_eq_of_lt HFL.out.1]
              rfl
            have HZS : Hid ((S : Int) / 2 ^ min (IntKind.u64.wrap (k : Int)).toNat 64 = 0) := by
              show _ = _
              rw [shift_at S H64.out, Nat.div_eq_of_lt HSL.out.1]
              rfl
            have HB9 := Lib.hid (ext_trans HB3.out hB.out)
            clear hB
            go_wp2_with fail
            all_goals first | (exact absurd HZF.out (by assumption)) | (exact absurd HZS.out (by assumption)) | skip
            all_goals
              refine (HLV.out _).mono ?_
              rintro e WL ⟨rfl, hbL⟩
              have HBL := Lib.hid (ext_trans HB9.out hbL)
              clear hbL
              go_wp2
              go_ret
              exact ⟨rfl, HBL.out⟩
      | false =>
        have e0 : decide ((k : Int) ≤ 64) = true := by simp; omega
        have e0b : decide (k ≤ 64) = true := decide_eq_true h64
        simp only [Bool.false_and, Bool.false_eq_true, if_false] at HQ8
        clear h64 hk70
        go_wp2_with fail
        refine HQ8.out.mono ?_
        rintro e W3 ⟨rfl, hb3⟩
        have HB3 := Lib.hid (ext_trans hB.out hb3)
        clear p0 p1 p2 p3 p4 p5 hb3 hX hY hI hB HQ8 HSEE
        go_wp2_with fail
        refine (HLV.out _).mono ?_
        rintro e WL ⟨rfl, hbL⟩
        have HBL := Lib.hid (ext_trans HB3.out hbL)
        clear hbL
        go_wp2
        go_ret
        exact ⟨rfl, HBL.out⟩
    · have HD : Hid (decide (k ≤ 64) = false) := decide_eq_false h64
      rw [HD.out] at HQ8
      simp only [Bool.and_false, Bool.false_eq_true, if_false] at HQ8
      have e0 : decide ((k : Int) ≤ 64) = false := by simp; omega
      have e0b : decide (k ≤ 64) = false := decide_eq_false h64
      clear h64 hk70
      go_wp2_with fail
      refine HQ8.out.mono ?_
      rintro e W3 ⟨rfl, hb3⟩
      have HB3 := Lib.hid (ext_trans hB.out hb3)
      clear p0 p1 p2 p3 p4 p5 hb3 hX hY hI hB HQ8 HSEE
      cases fine with
      | true =>
        go_wp2_with fail
        refine (HLV.out _).mono ?_
        rintro e WL ⟨rfl, hbL⟩
        have HBL := Lib.hid (ext_trans HB3.out hbL)
        clear hbL
        go_wp2
        go_ret
        exact ⟨rfl, HBL.out⟩
      | false =>
        go_wp2_with fail
        refine (HLV.out _).mono ?_
        rintro e WL ⟨rfl, hbL⟩
        have HBL := Lib.hid (ext_trans HB3.out hbL)
        clear hbL
        go_wp2
        go_ret
        exact ⟨rfl, HBL.out⟩
end Go.Proofs.Ytjmdgbdlhaaefaa
/- A table of bytes among the arguments. -/
namespace Go.Proofs.Ytjmdgbdlhaaefaa
open Go Go.RowKit Go.Joins Go.ChangeShapes Go.WideShapes Go.ChangeAt

set_option maxRecDepth 100000 in
theorem open_tab {H : Type} {enc : TypeId × Value → H} {W : World} {v : Value} {d : DataW H} {p : List MemPlace} {base : Nat} (hv : Value.okWide Try.prog W .any base 28 v)
    (h : DataW.Trod enc Try.prog W 0 (fun _ => true) true 28 v d p) : ∃ a n c fl ss, v = .slice a n c ∧ SeesF W a n c ss fl ∧ n ≤ Rows.uptoBulk d ∧ ∀ s ∈ ss, s.2.1 ≤ Rows.uptoBulk d := by
  obtain ⟨a0, len, cap, rfl⟩ := okWide_slice Try.underlying28 hv
  obtain ⟨fuel, hf⟩ := h
  obtain ⟨a, n, c, ss, fs, e, s, b, q⟩ := open_frames (v := .slice a0 len cap) hf
  exact ⟨a, n, c, fs, ss, e, s, b, q⟩
end Go.Proofs.Ytjmdgbdlhaaefaa
namespace Go.Proofs.Ytjmdgbdlhaaefaa.simMany
open Go Go.ChangeShapes Go.WideShapes Go.ChangeAt Go.RowKit

set_option maxRecDepth 100000 in
set_option maxHeartbeats 1600000 in
theorem contract (H : Type) (enc : TypeId × Value → H) (W : World) (base : Nat) (args : Array Value) (ds gs : List (DataW H)) (before : List MemPlace)
    (hval : ∀ (j : Nat) t v, Try.f4.params[j]? = some t → args[j]? = some v → Value.okWide Try.prog W .any base t v)
    (hW : DataW.Whole enc Try.prog Try.f4.params.toList Rows.simManySpec.vars false W args.toList ds gs before)
    (hk : Rows.uptoSmall H (ds ++ gs) = true) :
    Calls Try.prog 4 args W fun e W' => ∃ v, e = .returned v ∧ Rows.simManySpec.post enc Try.prog Try.f4 false true false false W args v W' := by
  have hW' := hW
  obtain ⟨p, q, hA0, hV, rfl, hfz, hnd⟩ := hW
  have hA : DataW.TrodAll enc Try.prog W 0 (fun _ => true) true Try.f4.params.toList args.toList ds p := hA0
  rw [Try.params4] at hA hval
  obtain ⟨v0, vs0, d0, ds0, p0, q0, hargs, rfl, rfl, h0, r0⟩ := trodAll_cons hA
  obtain ⟨v1, vs1, d1, ds1, p1, q1, rfl, rfl, rfl, h1, r1⟩ := trodAll_cons r0
  obtain ⟨v2, vs2, d2, ds2, p2, q2, rfl, rfl, rfl, h2, r2⟩ := trodAll_cons r1
  obtain ⟨v3, vs3, d3, ds3, p3, q3, rfl, rfl, rfl, h3, r3⟩ := trodAll_cons r2
  obtain ⟨rfl, rfl, rfl⟩ := trodAll_nil r3
  obtain rfl : args = #[v0, v1, v2, v3] := by cases args; simp_all
  obtain ⟨rfl, rfl⟩ := trodVars_none hV
  have hb := bulk_bound hk
  have hb0 := bulk_part (d := d0) (l := [d0, d1, d2, d3] ++ []) (by simp)
  obtain ⟨c0, s0, rfl, hs0, lo0, hi0, m01, m02, m03, m04, m05, w01, w02, w03, w04, w05⟩ := open_cir (hval 0 26 _ rfl rfl) h0
  have sm0 : s0.small := ⟨by omega, by omega, by omega, by omega, by omega⟩
  have wd0 : Wide c0 := ⟨w01, w02, w03, w04, w05⟩
  have hb1 := bulk_part (d := d1) (l := [d0, d1, d2, d3] ++ []) (by simp)
  obtain ⟨t1, s1, rfl, hs1, lo1, hi1, m11, m12, m13⟩ := open_trace (hval 1 30 _ rfl rfl) h1
  have sm1 : s1.small := ⟨by omega, by omega, fun x hx => by have := m13 x hx; omega⟩
  have hb2 := bulk_part (d := d2) (l := [d0, d1, d2, d3] ++ []) (by simp)
  obtain ⟨a2, n2, c2, fl2, ss2, rfl, hs2, m21, m22⟩ := open_tab (hval 2 28 _ rfl rfl) h2
  have hb3 := bulk_part (d := d3) (l := [d0, d1, d2, d3] ++ []) (by simp)
  obtain ⟨b3, rfl⟩ := okWide_bool Try.underlying4 (hval 3 4 v3 rfl rfl)
  clear hA0 hA
  refine (simmany_any c0 t1 fl2 b3 s0 s1 a2 n2 c2 ss2 W hs0 hs1 hs2 (fun x hx => by have := m22 x hx; omega) (by omega) sm0 sm1 lo0 hi0 ⟨lo1, hi1⟩ wd0).mono fun e W' ⟨he, hbel⟩ => ?_
  subst he
  exact ⟨_, rfl, law_end laidOut (by decide +kernel) rfl rfl Try.underlying4 hW' rfl rfl rfl hbel⟩

set_option maxRecDepth 100000 in
theorem lifted (os : Os) (started : os.Started) (H : Type) (enc : TypeId × Value → H) (F : Stop.Interp) :
    ReturnsInHanded {} Try.checked os 4 .any ((Rows.OpenSpec.upto Rows.simManySpec).pre6 enc Try.prog Try.f4 Rows.simManyUptoRow.domain false) (((Rows.OpenSpec.upto Rows.simManySpec).at F).post enc Try.prog Try.f4 false true false false) := by
  refine returnsInHanded_of_cond (C := Try.checked) (s := Rows.OpenSpec.upto Rows.simManySpec) (k := Rows.uptoSmall) rfl own started (by kernel_rfl) Try.func4
    (OpenSpec.witness (enc := enc) (C := Try.checked) (s := Rows.OpenSpec.upto Rows.simManySpec) (k := Rows.uptoSmall) rfl false ⟨#[], #[.agg #[.int .i64 0, .slice none 0 0, .slice none 0 0, .slice none 0 0, .slice none 0 0, .slice none 0 0], .agg #[.int .i64 0, .slice none 0 0, .slice none 0 0], .slice none 0 0, .bool false], []⟩ 8 (by kernel_rfl) (by kernel_rfl) (by kernel_rfl)
      (x := ([.agg [.lit (.int .i64 0), .nil, .nil, .nil, .nil, .nil], .agg [.lit (.int .i64 0), .nil, .nil], .nil, .lit (.bool false)], [], [])) (by kernel_rfl) rfl (by kernel_rfl)) ?_
  intro W base args ds gs before hval hW _ hk _
  exact contract H enc W base args ds gs before hval hW hk

theorem proved : Rows.SimManyUptoSaid :=
  OpenClaim.holds_of_cond 4 Try.f4 rfl rfl rfl rfl rfl rfl rfl ⟨rfl, rfl, rfl, rfl, rfl⟩ rfl rfl rfl rfl rfl (by kernel_rfl) Try.func4 (by kernel_rfl)
    (of_decide_eq_true (by kernel_rfl)) (by unfold Func.isWrapper; first | (rw [if_pos (by decide +kernel)]; kernel_rfl) | (rw [if_neg (by decide +kernel)]; exact ⟨rfl, rfl⟩))
    (fun os started H enc _ F => lifted os started H enc F)
end Go.Proofs.Ytjmdgbdlhaaefaa.simMany
