/- sim.packed: a word for each of the values that pick takes from every trace, by its contract. -/
import Derived.Test.YtjmdgbdlhaaefaaTBits
import Derived.Test.YtjmdgbdlhaaefaaTMay
import Derived.Test.YtjmdgbdlhaaefaaRows
import Derived.BigQuiet
import Derived.Deep.QuietTactic
import Derived.Deep.RegionWith
import Derived.KernelRfl
import Derived.Laws.Bits64b
import Derived.Laws.BitsAllLaws
import Derived.Laws.BitsLemmas
import Derived.Lib.ConvBytes
import Derived.Lib.Hide
import Derived.Lib.SlBytesRow
import Derived.Lib.SmallJoins
import Derived.Shelf.Bytes.SlSmallAll
import Derived.WalkKit
import Derived.WalkLawsBesides
import Derived.WalkSpells
import Derived.BigRegion
import Derived.Deep.CutRange
import Derived.Test.YtjmdgbdlhaaefaaLib
import Derived.Test.YtjmdgbdlhaaefaaNBase
import Derived.Test.YtjmdgbdlhaaefaaNOwnsN
import Derived.Deep.AppendLies
import Derived.Deep.RegionLaw
import Derived.Laws.EntriesVeiled
import Derived.Laws.MakeOwn
import Derived.Test.YtjmdgbdlhaaefaaRawPred
import Derived.Test.YtjmdgbdlhaaefaaNHeap
import Derived.Test.YtjmdgbdlhaaefaaSSpec
import Derived.Test.YtjmdgbdlhaaefaaSVal
import Derived.Deep.RegionHeld3
import Derived.Laws.Tables
import Derived.Lib.AppendZeros
import Derived.Maps.AppendAt
import Derived.OrdersHeld
import Derived.Test.YtjmdgbdlhaaefaaNStep
import Derived.Test.YtjmdgbdlhaaefaaNSpec
import Derived.Test.YtjmdgbdlhaaefaaNVal
import Derived.Test.YtjmdgbdlhaaefaaNTrace
import Derived.Test.YtjmdgbdlhaaefaaNCirc
import Derived.Test.YtjmdgbdlhaaefaaNOwns
import Derived.Test.YtjmdgbdlhaaefaaNHeap2
import Derived.Test.YtjmdgbdlhaaefaaSFrame
import Derived.Lib.AppendStr
import Derived.Test.YtjmdgbdlhaaefaaOwn
import Derived.Test.YtjmdgbdlhaaefaaFCells
import Derived.Test.YtjmdgbdlhaaefaaNClone2
import Derived.LoopIn
import Derived.LoopNIn
import Derived.OrdersIn
import Derived.OwnWalkIn
import Derived.RangeFuncBox
import Derived.RangeFuncCalls
import Derived.RangeFuncLeaves
import Derived.RangeFuncNested
import Derived.RangeFuncWrites
import Derived.Shelf.Abstract
import Derived.Shelf.RegionOpen
import Derived.Sort.CutIn
import Derived.Stop.RegionWithIn
import Derived.TacticsInMore
/- tern.bits, put, At, With, by their contracts. -/
namespace Go.Proofs.Ytjmdgbdlhaaefaa
open Go Go.RowKit

theorem and64 {a b : Nat} (ha : a < 18446744073709551616) (hb : b < 18446744073709551616) : bits .and .u64 (a : Int) (b : Int) = ((a &&& b : Nat) : Int) := bits_and_u64_nat a b ha hb
theorem andNot64 {a b : Nat} (ha : a < 18446744073709551616) (hb : b < 18446744073709551616) : bits .andNot .u64 (a : Int) (b : Int) = ((a &&& (full - b) : Nat) : Int) := u64_andNot_nat a b ha hb
theorem test64 (n k : Nat) : (((n &&& 2 ^ k : Nat) : Int) == 0) = !n.testBit k := by
  rw [Bool.eq_iff_iff]
  simp only [beq_iff_eq, Bool.not_eq_true']
  constructor
  · intro h
    have h0 : n &&& 2 ^ k = 0 := by omega
    have := congrArg (fun x => x.testBit k) h0
    simpa [Nat.testBit_two_pow] using this
  · intro h
    have h0 : n &&& 2 ^ k = 0 := by
      apply Nat.eq_of_testBit_eq
      intro j
      rw [Nat.testBit_and, Nat.testBit_two_pow, Nat.zero_testBit]
      by_cases e : k = j
      · subst e; rw [h]; rfl
      · simp [e]
    rw [h0]; rfl

theorem text_behind {w w' : World} {o : Obj} (k : Below (w.alloc o).heap.size (w.alloc o) w') : Below w.heap.size w w' := text_trans (text_alloc w o) k
/-- A box of two cells, behind a call. -/
theorem box_cells {w w1 : World} {x y : Value} {t : TypeId} (hb : Below (w.alloc (.cells #[x, y] t)).heap.size (w.alloc (.cells #[x, y] t)) w1) :
    w1.cell? ⟨w.heap.size, 0, none⟩ = some x ∧ w1.cell? ⟨w.heap.size, 1, none⟩ = some y := by
  have h0 : (w.alloc (.cells #[x, y] t)).cell? ⟨w.heap.size, 0, none⟩ = some x := by rw [World.cell?_alloc_mark]; rfl
  have h1 : (w.alloc (.cells #[x, y] t)).cell? ⟨w.heap.size, 1, none⟩ = some y := by rw [World.cell?_alloc_mark]; rfl
  exact ⟨(hb.cell (World.block_lt_of_cell? _ _ h0)).trans h0, (hb.cell (World.block_lt_of_cell? _ _ h1)).trans h1⟩

set_option maxRecDepth 100000 in
theorem bits_any (v : Nat) (w : World) : Calls Try.prog 95 #[.int .u8 (v : Int)] w fun e w' => e = .returned (wv ((bz v).toNat, (bo v).toNat)) ∧ Below w.heap.size w w' := by
  go_enter Try.func95, Try.ntmps95
  by_cases h0 : v = 0
  · subst h0
    go_wp2
    refine bodyPost_ret (v := wv (1, 0)) ?_ rfl ?_
    · simp [results, Try.results95, go_sem]
      rfl
    · exact ⟨rfl, text_alloc _ _⟩
  · have e0 : ((v : Int) == 0) = false := by simp; omega
    by_cases h1 : v = 1
    · subst h1
      go_wp2
      refine bodyPost_ret (v := wv (0, 1)) ?_ rfl ?_
      · simp [results, Try.results95, go_sem]
        rfl
      · exact ⟨rfl, text_alloc _ _⟩
    · have e1 : ((v : Int) == 1) = false := by simp; omega
      have HE : Hid (bz v = true ∧ bo v = true) := by unfold bz bo; exact ⟨decide_eq_true h1, decide_eq_true h0⟩
      clear h0 h1
      go_wp2
      refine bodyPost_ret (v := wv (1, 1)) ?_ rfl ?_
      · simp [results, Try.results95, go_sem]
        rfl
      · exact ⟨by rw [HE.out.1, HE.out.2]; rfl, text_alloc _ _⟩

theorem wrap_pow {k : Nat} (hk : k < 64) : IntKind.u64.wrap ((2 : Int) ^ k) = ((2 ^ k : Nat) : Int) := by
  have h := pow_lt hk
  have e : (2 : Int) ^ k = ((2 ^ k : Nat) : Int) := by norm_cast
  rw [e]
  obtain ⟨p, hp⟩ : ∃ p, p = 2 ^ k := ⟨_, rfl⟩
  rw [← hp] at h ⊢
  rw [IntKind.wrap_u64]
  omega
/-- What At answers. -/
def atE (m : Bool) (a : W2) (i : Int) : Ending := if m = true ∧ 0 ≤ i ∧ i < 64 then .returned (.tuple #[.int .u8 (atW a i.toNat : Nat), .bool true]) else .returned (.tuple #[.int .u8 0, .bool false])
theorem atE_yes {a : W2} {k : Nat} (hk : k < 64) : atE true a (k : Int) = .returned (.tuple #[.int .u8 (atW a k : Nat), .bool true]) := by
  unfold atE; rw [if_pos ⟨rfl, by omega, by omega⟩]; rfl
theorem atE_no {m : Bool} {a : W2} {i : Int} (h : ¬ (m = true ∧ 0 ≤ i ∧ i < 64)) : atE m a i = .returned (.tuple #[.int .u8 0, .bool false]) := by
  unfold atE; rw [if_neg h]

end Go.Proofs.Ytjmdgbdlhaaefaa
/- tern.put, With, Not, And, Within, by their contracts. -/
namespace Go.Proofs.Ytjmdgbdlhaaefaa
open Go Go.RowKit Go.Joins

theorem tset {w w1 : World} (hb : Below w.heap.size w w1) {g : Nat} (hg : w.heap.size ≤ g) (u0 u1 : Value) : Below w.heap.size w ((w1.setCell ⟨g, 0, none⟩ u0).setCell ⟨g, 1, none⟩ u1) :=
  (hb.setCell (p := ⟨g, 0, none⟩) hg u0).setCell (p := ⟨g, 1, none⟩) hg u1
/-- Two blocks made. -/
theorem tmade2 {w W : World} {A B : Obj} (h : (w.alloc A).alloc B = W) : W.heap[w.heap.size]? = some A ∧ W.heap[w.heap.size + 1]? = some B ∧ Below w.heap.size w W := by
  subst h
  exact ⟨heap_alloc2_old _ _ _, heap_alloc2_new _ _ _, text_trans (text_alloc _ _) (text_alloc _ _)⟩
/-- Three blocks made. -/
theorem tmade3 {w W : World} {A B C : Obj} (h : ((w.alloc A).alloc B).alloc C = W) : W.heap[w.heap.size]? = some A ∧ W.heap[w.heap.size + 1]? = some B ∧ W.heap[w.heap.size + 2]? = some C ∧ Below w.heap.size w W := by
  obtain ⟨h1, h2, h3⟩ := tmade2 (w := w) (A := A) (B := B) rfl
  subst h
  have hs : ((w.alloc A).alloc B).heap.size = w.heap.size + 2 := by simp
  refine ⟨theap_below h1 (text_alloc _ _), theap_below h2 (text_alloc _ _), ?_, text_trans h3 (text_alloc _ _)⟩
  have := theap_new ((w.alloc A).alloc B) C
  rw [hs] at this
  exact this
theorem zeros_flat (w : World) : Calls Try.prog 97 #[] w fun e w' => e = .returned (.agg #[.int .u64 18446744073709551615, .int .u64 0]) ∧ Below w.heap.size w w' := zeros_any w

set_option maxRecDepth 100000 in
theorem tnot_any (a : W2) (ha : a.in) (w : World) : Calls Try.prog 86 #[wv a] w fun e w' => e = .returned (wv (notW a)) ∧ Below w.heap.size w w' := by
  have HM := Lib.hid (may_any a ha)
  have HZ := Lib.hid zeros_flat
  obtain ⟨z, o⟩ := a
  unfold wv at HM
  have HV : Hid (notW (z, o) = if mayW (z, o) = true then (o, z) else zeroW) := rfl
  obtain ⟨m, hm⟩ : ∃ m, m = mayW (z, o) := ⟨_, rfl⟩
  rw [← hm] at HM HV
  clear hm
  obtain ⟨v, hv⟩ : ∃ v, v = notW (z, o) := ⟨_, rfl⟩
  rw [← hv] at HV ⊢
  clear hv
  obtain ⟨V, hVv⟩ : ∃ V, V = wv v := ⟨_, rfl⟩
  rw [← hVv]
  have HVV := Lib.hid hVv
  clear hVv ha
  show Calls Try.prog 86 #[.agg #[.int .u64 (z : Int), .int .u64 (o : Int)]] w _
  go_enter Try.func86, Try.ntmps86
  go_wp2_with fail
  refine (HM.out _).mono ?_
  generalize hW : World.alloc _ _ = W
  rintro e w1 ⟨rfl, hb1⟩
  have hW0 := tmade2 hW
  clear hW
  have h0 := theap_below hW0.1 hb1
  have h1 := theap_below hW0.2.1 hb1
  have hB := Lib.hid (text_trans hW0.2.2 hb1)
  clear hW0 hb1 HM
  have hc0 := cell_of_block h0 0
  have hc1 := cell_of_block h0 1
  have H1 := Lib.hid h1
  clear h0 h1
  cases m with
  | true =>
    clear HZ
    have f0 := unfrozen_of_block H1.out 0
    have f1 := unfrozen_of_block H1.out 1
    have d0 := cell_of_block H1.out 0
    have d1 := cell_of_block H1.out 1
    go_wp2
    refine bodyPost_ret (v := wv (o, z)) ?_ rfl ?_
    · have h6 := tcell2 H1.out rfl (.int .u64 (o : Int)) (.int .u64 (z : Int))
      simp [results, Try.results86, go_sem, cell_of_block h6 0, cell_of_block h6 1]
      rfl
    · exact ⟨by rw [HVV.out, HV.out]; rfl, tset hB.out (by omega) _ _⟩
  | false =>
    go_wp2_with fail
    refine (HZ.out _).mono ?_
    rintro e w2 ⟨rfl, hb2⟩
    have h2 := theap_below H1.out hb2
    have hB2 := Lib.hid (text_trans hB.out hb2)
    clear hc0 hc1 HZ
    have f0 := unfrozen_of_block h2 0
    have f1 := unfrozen_of_block h2 1
    have d0 := cell_of_block h2 0
    have d1 := cell_of_block h2 1
    have H2 := Lib.hid h2
    clear h2 hb2 H1 hB
    go_wp2
    refine bodyPost_ret (v := wv zeroW) ?_ rfl ?_
    · have h6 := tcell2 H2.out rfl (.int .u64 18446744073709551615) (.int .u64 0)
      simp [results, Try.results86, go_sem, cell_of_block h6 0, cell_of_block h6 1]
      rfl
    · exact ⟨by rw [HVV.out, HV.out]; rfl, tset hB2.out (by omega) _ _⟩

set_option maxRecDepth 100000 in
theorem tand_any (a b : W2) (ha : a.in) (hb : b.in) (w : World) : Calls Try.prog 87 #[wv a, wv b] w fun e w' => e = .returned (wv (andW a b)) ∧ Below w.heap.size w w' := by
  have HM := Lib.hid (may_any a ha)
  have HN := Lib.hid (may_any b hb)
  have HZ := Lib.hid zeros_flat
  obtain ⟨z, o⟩ := a
  obtain ⟨y, u⟩ := b
  unfold wv at HM HN
  have HV : Hid (andW (z, o) (y, u) = if mayW (z, o) = true ∧ mayW (y, u) = true then (z ||| y, o &&& u) else zeroW) := rfl
  have Q1 := or64 ha.1 hb.1
  have Q2 := and64 ha.2 hb.2
  obtain ⟨m, hm⟩ : ∃ m, m = mayW (z, o) := ⟨_, rfl⟩
  obtain ⟨n, hn⟩ : ∃ n, n = mayW (y, u) := ⟨_, rfl⟩
  obtain ⟨x1, hx1⟩ : ∃ x, x = z ||| y := ⟨_, rfl⟩
  obtain ⟨x2, hx2⟩ : ∃ x, x = o &&& u := ⟨_, rfl⟩
  simp only at Q1 Q2
  rw [← hm] at HM HV
  rw [← hn] at HN HV
  rw [← hx1] at Q1 HV
  rw [← hx2] at Q2 HV
  clear hm hn hx1 hx2
  obtain ⟨v, hv⟩ : ∃ v, v = andW (z, o) (y, u) := ⟨_, rfl⟩
  rw [← hv] at HV ⊢
  clear hv
  obtain ⟨V, hVv⟩ : ∃ V, V = wv v := ⟨_, rfl⟩
  rw [← hVv]
  have HVV := Lib.hid hVv
  clear hVv ha hb
  show Calls Try.prog 87 #[.agg #[.int .u64 (z : Int), .int .u64 (o : Int)], .agg #[.int .u64 (y : Int), .int .u64 (u : Int)]] w _
  go_enter Try.func87, Try.ntmps87
  go_wp2_with fail
  refine (HM.out _).mono ?_
  generalize hW : World.alloc _ _ = W
  rintro e w1 ⟨rfl, hb1⟩
  have hW0 := tmade3 hW
  clear hW
  have h0 := theap_below hW0.1 hb1
  have h1 := theap_below hW0.2.1 hb1
  have h2 := theap_below hW0.2.2.1 hb1
  have hB := Lib.hid (text_trans hW0.2.2.2 hb1)
  clear hW0 hb1 HM
  have H0 := Lib.hid h0
  have H1 := Lib.hid h1
  have H2 := Lib.hid h2
  have b0 := cell_of_block h1 0
  have b1 := cell_of_block h1 1
  clear h0 h1 h2
  cases m with
  | false =>
    clear HN
    go_wp2_with fail
    refine (HZ.out _).mono ?_
    rintro e w2 ⟨rfl, hb2⟩
    have h2 := theap_below H2.out hb2
    have hB2 := Lib.hid (text_trans hB.out hb2)
    clear b0 b1 HZ
    have f0 := unfrozen_of_block h2 0
    have f1 := unfrozen_of_block h2 1
    have d0 := cell_of_block h2 0
    have d1 := cell_of_block h2 1
    have HH := Lib.hid h2
    clear h2 hb2 H0 H1 H2 hB
    go_wp2
    refine bodyPost_ret (v := wv zeroW) ?_ rfl ?_
    · have h6 := tcell2 HH.out rfl (.int .u64 18446744073709551615) (.int .u64 0)
      simp [results, Try.results87, go_sem, cell_of_block h6 0, cell_of_block h6 1]
      rfl
    · exact ⟨by rw [HVV.out, HV.out]; rfl, tset hB2.out (by omega) _ _⟩
  | true =>
    go_wp2_with fail
    refine (HN.out _).mono ?_
    rintro e w2 ⟨rfl, hb2⟩
    have h0 := theap_below H0.out hb2
    have h1 := theap_below H1.out hb2
    have h2 := theap_below H2.out hb2
    have hB2 := Lib.hid (text_trans hB.out hb2)
    clear H0 H1 H2 hB hb2 b0 b1 HN
    have H2 := Lib.hid h2
    cases n with
    | false =>
      go_wp2_with fail
      refine (HZ.out _).mono ?_
      rintro e w3 ⟨rfl, hb3⟩
      have h3 := theap_below H2.out hb3
      have hB3 := Lib.hid (text_trans hB2.out hb3)
      clear HZ h0 h1 h2
      have f0 := unfrozen_of_block h3 0
      have f1 := unfrozen_of_block h3 1
      have d0 := cell_of_block h3 0
      have d1 := cell_of_block h3 1
      have HH := Lib.hid h3
      clear h3 hb3 hB2
      go_wp2
      refine bodyPost_ret (v := wv zeroW) ?_ rfl ?_
      · have h6 := tcell2 HH.out rfl (.int .u64 18446744073709551615) (.int .u64 0)
        simp [results, Try.results87, go_sem, cell_of_block h6 0, cell_of_block h6 1]
        rfl
      · exact ⟨by rw [HVV.out, HV.out]; rfl, tset hB3.out (by omega) _ _⟩
    | true =>
      clear HZ
      have f0 := unfrozen_of_block h2 0
      have f1 := unfrozen_of_block h2 1
      have d0 := cell_of_block h2 0
      have d1 := cell_of_block h2 1
      have a0 := cell_of_block h0 0
      have a1 := cell_of_block h0 1
      have b0 := cell_of_block h1 0
      have b1 := cell_of_block h1 1
      clear h0 h1 h2
      go_wp2
      refine bodyPost_ret (v := wv (x1, x2)) ?_ rfl ?_
      · have h6 := tcell2 H2.out rfl (.int .u64 (x1 : Int)) (.int .u64 (x2 : Int))
        simp [results, Try.results87, go_sem, cell_of_block h6 0, cell_of_block h6 1]
        rfl
      · exact ⟨by rw [HVV.out, HV.out]; rfl, tset hB2.out (by omega) _ _⟩
end Go.Proofs.Ytjmdgbdlhaaefaa
/- tern.Within, put, With, by their contracts. -/
namespace Go.Proofs.Ytjmdgbdlhaaefaa
open Go Go.RowKit Go.Joins

theorem tnewD (X : World) (o : Obj) : (X.alloc o).drew.heap[X.heap.size]? = some o := theap_new X o
set_option maxRecDepth 100000 in
theorem put_any (a : W2) (ha : a.in) (k v : Nat) (hk : k < 64) (w : World) : Calls Try.prog 101 #[wv a, .int .i64 (k : Int), .int .u8 (v : Int)] w fun e w' => e = .returned (wv (putW a k v)) ∧ Below w.heap.size w w' := by
  have HM := Lib.hid (bits_any v)
  obtain ⟨z, o⟩ := a
  unfold wv at HM
  have P1 := wrap_pow hk
  have hp := pow_lt hk
  have HV : Hid (putW (z, o) k v = ((z &&& (full - 2 ^ k)) ||| (bz v).toNat * 2 ^ k, (o &&& (full - 2 ^ k)) ||| (bo v).toNat * 2 ^ k)) := rfl
  have sh : ∀ b : Bool, IntKind.u64.wrap (((b.toNat : Nat) : Int) * (2 : Int) ^ k) = ((b.toNat * 2 ^ k : Nat) : Int) := by
    intro b
    cases b
    · simp only [Bool.toNat_false, Int.natCast_zero, Int.zero_mul, Nat.zero_mul]; rfl
    · simp only [Bool.toNat_true, Nat.one_mul]
      rw [show ((1 : Nat) : Int) * (2 : Int) ^ k = (2 : Int) ^ k by omega]
      exact P1
  have S1 := sh (bz v)
  have S2 := sh (bo v)
  have k1 := oneb_lt (bz v) hk
  have k2 := oneb_lt (bo v) hk
  clear sh
  have Q1 := andNot64 ha.1 hp
  have Q2 := andNot64 ha.2 hp
  simp only at Q1 Q2
  have l1 : z &&& (full - 2 ^ k) < 18446744073709551616 := and_lt ha.1
  have l2 : o &&& (full - 2 ^ k) < 18446744073709551616 := and_lt ha.2
  obtain ⟨x1, hx1⟩ : ∃ x, x = z &&& (full - 2 ^ k) := ⟨_, rfl⟩
  obtain ⟨x2, hx2⟩ : ∃ x, x = o &&& (full - 2 ^ k) := ⟨_, rfl⟩
  obtain ⟨y1, hy1⟩ : ∃ x, x = (bz v).toNat * 2 ^ k := ⟨_, rfl⟩
  obtain ⟨y2, hy2⟩ : ∃ x, x = (bo v).toNat * 2 ^ k := ⟨_, rfl⟩
  rw [← hx1] at Q1 HV l1
  rw [← hx2] at Q2 HV l2
  rw [← hy1] at S1 HV k1
  rw [← hy2] at S2 HV k2
  have Q3 := or64 l1 k1
  have Q4 := or64 l2 k2
  obtain ⟨r1, hr1⟩ : ∃ x, x = x1 ||| y1 := ⟨_, rfl⟩
  obtain ⟨r2, hr2⟩ : ∃ x, x = x2 ||| y2 := ⟨_, rfl⟩
  rw [← hr1] at Q3 HV
  rw [← hr2] at Q4 HV
  obtain ⟨p, hp2⟩ : ∃ p : Nat, p = 2 ^ k := ⟨_, rfl⟩
  rw [← hp2] at P1 Q1 Q2
  clear hp2 hr1 hr2 hx1 hx2 hy1 hy2 l1 l2 k1 k2 ha hp
  obtain ⟨V, hVv⟩ : ∃ V, V = wv (putW (z, o) k v) := ⟨_, rfl⟩
  rw [← hVv]
  have HVV := Lib.hid hVv
  clear hVv
  obtain ⟨n1, hn1⟩ : ∃ x : Nat, x = (bz v).toNat := ⟨_, rfl⟩
  obtain ⟨n2, hn2⟩ : ∃ x : Nat, x = (bo v).toNat := ⟨_, rfl⟩
  rw [← hn1] at S1
  rw [← hn2] at S2
  rw [← hn1, ← hn2] at HM
  clear hn1 hn2
  show Calls Try.prog 101 #[.agg #[.int .u64 (z : Int), .int .u64 (o : Int)], .int .i64 (k : Int), .int .u8 (v : Int)] w _
  go_enter Try.func101, Try.ntmps101
  go_wp2_with fail
  generalize hW : World.alloc _ _ = W
  have hW0 := tmade2 hW
  clear hW
  have HW0 := Lib.hid hW0.1
  have HW1 := Lib.hid hW0.2.1
  have HWB := Lib.hid hW0.2.2
  clear hW0
  go_cut [7, 8] from 9 (fun at1 bp wx => ∃ G : Nat, at1 = .int .u64 (p : Int) ∧ bp = .pointer (some ⟨G, 0, none⟩) ∧ Hid (wx.heap[G]? = some (.cells #[.int .u64 (n1 : Int), .int .u64 (n2 : Int)] 106 (0, 0))) ∧ Hid (W.heap.size ≤ G) ∧ Hid (Below W.heap.size W wx))
  case first =>
    go_region_with (go_at_call 95; refine (HM.out _).mono ?_; rintro e w1 ⟨rfl, hb1⟩; try (have hz := theap_below (tnewD W (.cells #[.int .u64 0, .int .u64 0] 106)) hb1; have z0 := cell_of_block hz 0; have z1 := cell_of_block hz 1; have y0 := unfrozen_of_block hz 0; have y1 := unfrozen_of_block hz 1))
    all_goals go_wp2_with fail
    all_goals go_meet
    · have hb := ((Below.refl _ W).drew).trans hb1
      exact ⟨w1.heap.size, rfl, rfl, theap_new _ _, hb.size, text_trans hb (text_alloc _ _)⟩
    · have hb := (((Below.refl _ W).alloc (Nat.le_refl _) (.cells #[.int .u64 0, .int .u64 0] 106)).drew).trans (hb1.mono (by simp))
      exact ⟨W.heap.size, rfl, rfl, tcell2 hz rfl _ _, Nat.le_refl _, tset hb (Nat.le_refl _) _ _⟩
  case rest =>
    obtain ⟨G, rfl, rfl, hG, hGs, hGB⟩ := hcut
    have h0 := theap_below HW0.out hGB.out
    have h1 := theap_below HW1.out hGB.out
    have a0 := cell_of_block h0 0
    have a1 := cell_of_block h0 1
    have H1 := Lib.hid h1
    have f0 := unfrozen_of_block h1 0
    have f1 := unfrozen_of_block h1 1
    have d0 := cell_of_block h1 0
    have d1 := cell_of_block h1 1
    have g0 := cell_of_block hG.out 0
    have g1 := cell_of_block hG.out 1
    have HB := Lib.hid (text_trans HWB.out hGB.out)
    clear h0 h1 hG hGs hGB HM HW0 HW1 HWB
    go_wp2_with fail
    go_region
    go_wp2
    refine bodyPost_ret (v := wv (r1, r2)) ?_ rfl ?_
    · have h6 := tcell2 H1.out rfl (.int .u64 (r1 : Int)) (.int .u64 (r2 : Int))
      simp [results, Try.results101, go_sem, cell_of_block h6 0, cell_of_block h6 1]
      rfl
    · exact ⟨by rw [HVV.out, HV.out], (tset HB.out (by omega) _ _).drew⟩
end Go.Proofs.Ytjmdgbdlhaaefaa
/- tern.With, All, Of, by their contracts. -/
namespace Go.Proofs.Ytjmdgbdlhaaefaa
open Go Go.RowKit Go.Joins

theorem tset_other {X : World} {g d : Nat} {o : Obj} (h : X.heap[d]? = some o) (hne : g ≠ d) (u0 u1 : Value) : ((X.setCell ⟨g, 0, none⟩ u0).setCell ⟨g, 1, none⟩ u1).heap[d]? = some o :=
  (Below.heap_setCell _ ⟨g, 1, none⟩ u1 d (fun e => hne (by simpa using e.symm))).trans ((Below.heap_setCell _ ⟨g, 0, none⟩ u0 d (fun e => hne (by simpa using e.symm))).trans h)
/-- What With answers. -/
def withR (a : W2) (i : Int) (v : Nat) : W2 × Int := if mayW a = true ∧ (0 ≤ i ∧ i < 64) ∧ v ≤ 2 then (putW a i.toNat v, 0) else ((0, 0), 2)
theorem withR_yes {a : W2} {k v : Nat} (hm : mayW a = true) (hk : k < 64) (hv : v ≤ 2) : withR a (k : Int) v = (putW a k v, 0) := by
  unfold withR; rw [if_pos ⟨hm, by omega, hv⟩]; rfl
theorem withR_no {a : W2} {i : Int} {v : Nat} (h : ¬ (mayW a = true ∧ (0 ≤ i ∧ i < 64) ∧ v ≤ 2)) : withR a i v = ((0, 0), 2) := by
  unfold withR; rw [if_neg h]
def w2E (r : W2 × Int) : Ending := .returned (.tuple #[wv r.1, .int .i64 r.2])

/-- What All answers. -/
def allR (v : Nat) : W2 × Int := if v ≤ 2 then (((bz v).toNat * full, (bo v).toNat * full), 0) else ((0, 0), 2)
theorem mul_full (b : Bool) : IntKind.u64.wrap (((b.toNat : Nat) : Int) * 18446744073709551615) = ((b.toNat * full : Nat) : Int) := by cases b <;> rfl

set_option maxRecDepth 100000 in
theorem tall_any (v : Nat) (w : World) : Calls Try.prog 85 #[.int .u8 (v : Int)] w fun e w' => e = w2E (allR v) ∧ Below w.heap.size w w' := by
  have HM := bits_any v
  obtain ⟨E, hE⟩ : ∃ E, E = w2E (allR v) := ⟨_, rfl⟩
  have HNO : Hid (¬ v ≤ 2 → E = .returned (.tuple #[.agg #[.int .u64 0, .int .u64 0], .int .i64 2])) := by
    intro h; rw [hE]; unfold allR; rw [if_neg h]; rfl
  have HYES : Hid (v ≤ 2 → E = .returned (.tuple #[.agg #[.int .u64 (((bz v).toNat * full : Nat) : Int), .int .u64 (((bo v).toNat * full : Nat) : Int)], .int .i64 0])) := by
    intro h; rw [hE]; unfold allR; rw [if_pos h]; rfl
  rw [← hE]
  clear hE
  unfold wv at HM
  have S1 := mul_full (bz v)
  have S2 := mul_full (bo v)
  obtain ⟨y1, hy1⟩ : ∃ x, x = (bz v).toNat * full := ⟨_, rfl⟩
  obtain ⟨y2, hy2⟩ : ∃ x, x = (bo v).toNat * full := ⟨_, rfl⟩
  rw [← hy1] at S1 HYES
  rw [← hy2] at S2 HYES
  clear hy1 hy2
  obtain ⟨n1, hn1⟩ : ∃ x : Nat, x = (bz v).toNat := ⟨_, rfl⟩
  obtain ⟨n2, hn2⟩ : ∃ x : Nat, x = (bo v).toNat := ⟨_, rfl⟩
  rw [← hn1] at S1
  rw [← hn2] at S2
  rw [← hn1, ← hn2] at HM
  clear hn1 hn2
  have HM2 := Lib.hid HM
  clear HM
  go_enter Try.func85, Try.ntmps85
  by_cases hv : v ≤ 2
  · have e1 : decide ((2 : Int) < (v : Int)) = false := by simp; omega
    have HY := Lib.hid (HYES.out hv)
    clear hv HNO HYES
    go_wp2_with fail
    refine (HM2.out _).mono ?_
    generalize hW : World.alloc _ _ = W
    rintro e w1 ⟨rfl, hb1⟩
    have h1 : W.heap[w.heap.size]? = some (.cells #[.int .u64 0, .int .u64 0] 106 (0, 0)) ∧ Below w.heap.size w W := by subst hW; exact ⟨theap_new _ _, text_alloc _ _⟩
    clear hW
    have h3 := theap_below h1.1 hb1
    have hB3 := Lib.hid (text_trans h1.2 hb1)
    clear hb1 h1 HM2
    have hw2 : Hid (∀ x y : Value, (w1.alloc (.cells #[x, y] 106)).heap[w.heap.size]? = some (.cells #[.int .u64 0, .int .u64 0] 106 (0, 0))) := fun x y => theap_below h3 (text_alloc _ _)
    have f0 := unfrozen_of_block h3 0
    have f1 := unfrozen_of_block h3 1
    have d0 := cell_of_block h3 0
    have d1 := cell_of_block h3 1
    have hlt : w.heap.size < w1.heap.size := (Array.getElem?_eq_some_iff.1 h3).1
    have hne : ¬ w.heap.size = w1.heap.size := by omega
    have hne2 : ¬ w1.heap.size = w.heap.size := by omega
    have H3 := Lib.hid h3
    clear h3
    go_wp2
    refine bodyPost_ret (v := .tuple #[.agg #[.int .u64 (y1 : Int), .int .u64 (y2 : Int)], .int .i64 0]) ?_ rfl ?_
    · have h6 := theap_below (tcell2 H3.out rfl (.int .u64 (y1 : Int)) (.int .u64 (y2 : Int))) (text_alloc _ (.cells #[.int .u64 (n1 : Int), .int .u64 (n2 : Int)] 106))
      simp [results, Try.results85, go_sem, cell_of_block h6 0, cell_of_block h6 1]
    · exact ⟨HY.out.symm, text_trans (tset hB3.out (Nat.le_refl _) _ _) (text_alloc _ _)⟩
  · have e1 : decide ((2 : Int) < (v : Int)) = true := by simp; omega
    have HV := Lib.hid hv
    clear hv HYES
    go_wp2
    refine bodyPost_ret (v := .tuple #[.agg #[.int .u64 0, .int .u64 0], .int .i64 2]) ?_ rfl ?_
    · simp [results, Try.results85, go_sem]
    · exact ⟨(HNO.out HV.out).symm, text_alloc _ _⟩

/-- The values of a list put one by one from the i-th place on. -/
def ofGo : W2 → Nat → List UInt8 → Option W2
  | a, _, [] => some a
  | a, i, x :: r => if 2 < x.toNat then none else ofGo (putW a i x.toNat) (i + 1) r
/-- What Of answers. -/
def ofR (l : List UInt8) : W2 × Int := if 64 < l.length then ((0, 0), 2) else match ofGo zeroW 0 l with | some a => (a, 0) | none => ((0, 0), 2)

set_option maxRecDepth 100000 in
set_option maxHeartbeats 1600000 in
theorem tof_any (l : List UInt8) (a : Option Addr) (n c : Nat) (w : World) (hs : Sees w a n c (l.map bv)) : Calls Try.prog 100 #[.slice a n c] w fun e w' => e = w2E (ofR l) ∧ Below w.heap.size w w' := by
  have hl : l.length = n := by have := hs.len; simpa using this
  have HS := Lib.hid hs
  have HL := Lib.hid hl
  have HZ := Lib.hid zeros_flat
  have HP := Lib.hid put_any
  obtain ⟨E, hE⟩ : ∃ E, E = w2E (ofR l) := ⟨_, rfl⟩
  have HLONG : Hid (64 < n → E = .returned (.tuple #[.agg #[.int .u64 0, .int .u64 0], .int .i64 2])) := by
    intro h; rw [hE]; unfold ofR; rw [if_pos (by omega)]; rfl
  have HNO : Hid (¬ 64 < n → ofGo zeroW 0 l = none → E = .returned (.tuple #[.agg #[.int .u64 0, .int .u64 0], .int .i64 2])) := by
    intro h h2; rw [hE]; unfold ofR; rw [if_neg (by omega), h2]; rfl
  have HYES : Hid (∀ r1 r2 : Nat, ¬ 64 < n → ofGo zeroW 0 l = some (r1, r2) → E = .returned (.tuple #[.agg #[.int .u64 (r1 : Int), .int .u64 (r2 : Int)], .int .i64 0])) := by
    intro r1 r2 h h2; rw [hE]; unfold ofR; rw [if_neg (by omega), h2]; rfl
  rw [← hE]
  clear hE hs hl
  go_enter Try.func100, Try.ntmps100
  by_cases h64 : 64 < n
  · have e1 : decide ((64 : Int) < (n : Int)) = true := by simp; omega
    have HY := Lib.hid (HLONG.out h64)
    clear h64 HLONG HNO HYES
    go_wp2
    refine bodyPost_ret (v := .tuple #[.agg #[.int .u64 0, .int .u64 0], .int .i64 2]) ?_ rfl ?_
    · simp [results, Try.results100, go_sem]
    · exact ⟨HY.out.symm, text_alloc _ _⟩
  · have e1 : decide ((64 : Int) < (n : Int)) = false := by simp; omega
    have hn64 : n ≤ 64 := by omega
    have HN := Lib.hid (HNO.out h64)
    have HY := Lib.hid (fun r1 r2 => HYES.out r1 r2 h64)
    clear h64 HLONG HNO HYES
    go_wp2_with fail
    refine (HZ.out _).mono ?_
    generalize hW : World.alloc _ _ = W
    rintro e w1 ⟨rfl, hb1⟩
    have h1 : W.heap[w.heap.size]? = some (.cells #[.int .u64 0, .int .u64 0] 106 (0, 0)) ∧ Below w.heap.size w W := by subst hW; exact ⟨theap_new _ _, text_alloc _ _⟩
    clear hW
    have h3 := theap_below h1.1 hb1
    have hB3 := Lib.hid (text_trans h1.2 hb1)
    have hlt : w.heap.size < w1.heap.size := (Array.getElem?_eq_some_iff.1 h3).1
    have H3 := Lib.hid h3
    clear hb1 h1 h3 HZ
    have HLT := Lib.hid hlt
    obtain ⟨G, hG⟩ : ∃ G, G = w1.heap.size := ⟨_, rfl⟩
    have HG := Lib.hid hG
    have hne : G ≠ w.heap.size := by omega
    have HNE := Lib.hid hne
    have hGw : w.heap.size ≤ G := by omega
    have HGW := Lib.hid hGw
    clear hlt hne hGw
    go_wp2_with fail
    rw [← hG]
    clear hG
    go_loopw [5, 6, 14] (fun _ _ i wr => ∃ k r1 r2 : Nat, k ≤ n ∧ i = .int .i64 k ∧ Hid (wr.heap[G]? = some (.cells #[.int .u64 (r1 : Int), .int .u64 (r2 : Int)] 106 (0, 0))) ∧ Hid (wr.heap[w.heap.size]? = some (.cells #[.int .u64 0, .int .u64 0] 106 (0, 0))) ∧ Hid (W2.in (r1, r2)) ∧ Hid (ofGo zeroW 0 l = ofGo (r1, r2) k (l.drop k)) ∧ Hid (Below w.heap.size w wr)) (fun _ _ i _ => n - (intOf i).toNat)
    case atStart =>
      exact ⟨0, full, 0, Nat.zero_le _, rfl, (by rw [HG.out]; exact theap_new _ _), theap_below H3.out (text_alloc _ _), zeroW_in, rfl, text_trans hB3.out (text_alloc _ _)⟩
    case round =>
      obtain ⟨k, r1, r2, hk, rfl, hc, hr, hin, hgo, hb⟩ := hrel
      by_cases hlt : k < n
      · obtain ⟨b, off, rfl, hbw⟩ := HS.out.addr (by omega)
        have hcx := (HS.out.below hb.out).byte k hlt
        obtain ⟨x, hx⟩ : ∃ x, x = (l.getD k 0).toNat := ⟨_, rfl⟩
        rw [← hx] at hcx
        have hdr : l.drop k = l.getD k 0 :: l.drop (k + 1) := by
          rw [List.drop_eq_getElem_cons (by rw [HL.out]; exact hlt)]; simp [List.getD, List.getElem?_eq_getElem (show k < l.length by rw [HL.out]; exact hlt)]
        have hst : ofGo zeroW 0 l = if 2 < x then none else ofGo (putW (r1, r2) k x) (k + 1) (l.drop (k + 1)) := by
          rw [hgo.out, hdr, ofGo, ← hx]
        have HST := Lib.hid hst
        clear hst hdr hx hbw hgo
        have g0 := cell_of_block hc.out 0
        have g1 := cell_of_block hc.out 1
        have g2 := unfrozen_of_block hc.out 0
        have g3 := unfrozen_of_block hc.out 1
        have f0 := unfrozen_of_block hr.out 0
        have f1 := unfrozen_of_block hr.out 1
        have d0 := cell_of_block hr.out 0
        have d1 := cell_of_block hr.out 1
        have W1 : IntKind.i64.wrap ((k : Int) + 1) = (k : Int) + 1 := IntWalk.i64_in _ (by omega)
        by_cases h2 : 2 < x
        · have e2 : decide ((2 : Int) < (x : Int)) = true := by simp; omega
          have HE := Lib.hid (HN.out (by rw [HST.out, if_pos h2]))
          clear h2 HN HY HP HST
          go_wp2
          refine bodyPost_ret (v := .tuple #[.agg #[.int .u64 0, .int .u64 0], .int .i64 2]) ?_ rfl ?_
          · have h6 := tcell2 hr.out rfl (.int .u64 0) (.int .u64 0)
            simp [results, Try.results100, go_sem, cell_of_block h6 0, cell_of_block h6 1]
          · exact ⟨HE.out.symm, tset hb.out (Nat.le_refl _) _ _⟩
        · have e2 : decide ((2 : Int) < (x : Int)) = false := by simp; omega
          have hk6 : k < 64 := by omega
          have HP2 := HP.out (r1, r2) hin.out k x hk6
          have HGO : Hid (ofGo zeroW 0 l = ofGo (putW (r1, r2) k x) (k + 1) (l.drop (k + 1))) := by show _ = _; rw [HST.out, if_neg h2]
          have HIN : Hid (W2.in (putW (r1, r2) k x)) := putW_in hin.out hk6
          obtain ⟨r, hr3⟩ : ∃ r, r = putW (r1, r2) k x := ⟨_, rfl⟩
          rw [← hr3] at HP2 HGO HIN
          obtain ⟨s1, s2⟩ := r
          have HP3 : Hid (∀ W, Calls Try.prog 101 #[.agg #[.int .u64 (r1 : Int), .int .u64 (r2 : Int)], .int .i64 (k : Int), .int .u8 (x : Int)] W fun e w' => e = .returned (.agg #[.int .u64 (s1 : Int), .int .u64 (s2 : Int)]) ∧ Below W.heap.size W w') := HP2
          clear h2 HN HY HP HP2 HST hr3 hin f0 f1 d0 d1
          go_wp2_with fail
          refine (HP3.out _).mono ?_
          rintro e w2 ⟨rfl, hb2⟩
          have h3 := theap_below hc.out hb2
          have HR2 := Lib.hid (theap_below hr.out hb2)
          have HB2 := Lib.hid (text_trans hb.out hb2)
          have HC2 := Lib.hid h3
          clear g0 g1 g2 g3 hb2 hcx hc hr hb
          have g0 := cell_of_block h3 0
          have g1 := cell_of_block h3 1
          have g2 := unfrozen_of_block h3 0
          have g3 := unfrozen_of_block h3 1
          clear h3
          go_wp2
          go_roundw
          case rel =>
            exact ⟨k + 1, s1, s2, by omega, by go_num, tcell2 HC2.out rfl _ _, tset_other HR2.out HNE.out _ _, HIN.out, HGO.out, tset HB2.out HGW.out _ _⟩
          case measure => simp [intOf]; omega
      · have hkn : k = n := by omega
        subst hkn
        have HE := Lib.hid (HY.out r1 r2 (by rw [hgo.out, List.drop_of_length_le (by rw [HL.out]; exact Nat.le_refl _)]; rfl))
        have g0 := cell_of_block hc.out 0
        have g1 := cell_of_block hc.out 1
        have f0 := unfrozen_of_block hr.out 0
        have f1 := unfrozen_of_block hr.out 1
        have d0 := cell_of_block hr.out 0
        have d1 := cell_of_block hr.out 1
        clear HN HY HP hgo hin
        go_wp2
        refine bodyPost_ret (v := .tuple #[.agg #[.int .u64 (r1 : Int), .int .u64 (r2 : Int)], .int .i64 0]) ?_ rfl ?_
        · have h6 := tcell2 hr.out rfl (.int .u64 (r1 : Int)) (.int .u64 (r2 : Int))
          simp [results, Try.results100, go_sem, cell_of_block h6 0, cell_of_block h6 1]
        · exact ⟨HE.out.symm, tset hb.out (Nat.le_refl _) _ _⟩
end Go.Proofs.Ytjmdgbdlhaaefaa
/- Words as elements of slices: two cells each. -/
namespace Go.Proofs.Ytjmdgbdlhaaefaa
open Go Go.RowKit Go.Joins

def uv (n : Nat) : Value := .int .u64 (n : Int)
/-- The cells of words. -/
def wcs : List W2 → List Value
  | [] => []
  | p :: r => uv p.1 :: uv p.2 :: wcs r
theorem wcs_len : ∀ l, (wcs l).length = 2 * l.length
  | [] => rfl
  | p :: r => by rw [wcs, List.length_cons, List.length_cons, wcs_len r, List.length_cons]; omega
theorem wcs_append : ∀ a b, wcs (a ++ b) = wcs a ++ wcs b
  | [], _ => rfl
  | p :: a, b => by rw [List.cons_append, wcs, wcs, wcs_append a b]; rfl
theorem wcs_at : ∀ (l : List W2) (k : Nat) (d : W2), k < l.length → (wcs l)[2 * k]? = some (uv (l.getD k d).1) ∧ (wcs l)[2 * k + 1]? = some (uv (l.getD k d).2)
  | [], k, _, h => by simp at h
  | p :: r, 0, d, _ => by simp [wcs]
  | p :: r, k + 1, d, h => by
    have ih := wcs_at r k d (by simpa using h)
    have el : ∀ i, (wcs (p :: r))[i + 2]? = (wcs r)[i]? := fun i => by simp [wcs]
    rw [show 2 * (k + 1) + 1 = 2 * k + 1 + 2 by omega, show 2 * (k + 1) = 2 * k + 2 by omega, el, el]
    simpa using ih
theorem wcs_one : ∀ (l : List W2), ∀ u ∈ wcs l, u.oneCell' = true
  | [], u, h => by cases h
  | p :: r, u, h => by
    rcases List.mem_cons.1 h with rfl | h
    · rfl
    · rcases List.mem_cons.1 h with rfl | h
      · rfl
      · exact wcs_one r u h

/-- The slice at block g owns a row that reads as these words. -/
def OwnW (w : World) (base g n c : Nat) (l : List W2) : Prop := l.length = n ∧ w.ownsRow base 106 2 (.slice (some ⟨g, 0, none⟩) n c) n (wcs l)
theorem OwnW.below {w w' : World} {base g n c : Nat} {l : List W2} (h : OwnW w base g n c l) (hb : Below w.heap.size w w') : OwnW w' base g n c l := ⟨h.1, ownsN_below h.2 hb⟩
theorem OwnW.base {w : World} {base base' g n c : Nat} {l : List W2} (h : OwnW w base g n c l) (hb : base' ≤ base) : OwnW w base' g n c l := ⟨h.1, ownsN_base h.2 hb⟩
theorem OwnW.block {w : World} {base g n c : Nat} {l : List W2} (h : OwnW w base g n c l) : base ≤ g ∧ g < w.heap.size ∧ ∃ cur, w.heap[g]? = some (.cells cur 106 (0, 0)) ∧ cur.toList.take (2 * n) = wcs l := by
  obtain ⟨hl, h2⟩ := h
  rcases h2.2 with ⟨h3, _⟩ | ⟨g', cap, cur, h3, hg, hh, _, _, _, ht⟩
  · cases h3
  · cases h3
    exact ⟨hg, heap_lt hh, cur, hh, by rw [Nat.mul_comm]; exact ht⟩
theorem OwnW.cell {w : World} {base g n c : Nat} {l : List W2} (h : OwnW w base g n c l) (j : Nat) (u : Value) (hj : (wcs l)[j]? = some u) : w.cell? ⟨g, j, none⟩ = some u := by
  obtain ⟨_, _, cur, hh, ht⟩ := h.block
  rw [cell_of_row w g j cur _ (0, 0) hh]
  rw [← ht, List.getElem?_take] at hj
  split at hj
  · simpa using hj
  · cases hj
theorem OwnW.cells {w : World} {base g n c : Nat} {l : List W2} (h : OwnW w base g n c l) (k : Nat) (hk : k < n) :
    w.cell? ⟨g, k * 2, none⟩ = some (.int .u64 ((l.getD k (0, 0)).1 : Nat)) ∧ w.cell? ⟨g, k * 2 + 1, none⟩ = some (.int .u64 ((l.getD k (0, 0)).2 : Nat)) := by
  have ht := wcs_at l k (0, 0) (by rw [h.1]; exact hk)
  rw [Nat.mul_comm k 2]
  exact ⟨h.cell _ _ ht.1, h.cell _ _ ht.2⟩
theorem OwnW.other {w w' : World} {base g n c : Nat} {l : List W2} (h : OwnW w base g n c l) (hg : w'.heap[g]? = w.heap[g]?) : OwnW w' base g n c l := by
  obtain ⟨hl, h2⟩ := h
  refine ⟨hl, h2.1, ?_⟩
  rcases h2.2 with ⟨h3, _⟩ | ⟨g', cap, cur, h3, hgg, hh, r⟩
  · cases h3
  · cases h3
    exact .inr ⟨g, c, cur, rfl, hgg, hg.trans hh, r⟩
theorem OwnW.own {w : World} {base g n c : Nat} {l : List W2} (h : OwnW w base g n c l) : w.ownsRow base 106 2 (.slice (some ⟨g, 0, none⟩) n c) n (wcs l) := h.2

def wcells (l : List W2) : Array Value := (wcs l).toArray
theorem wcells_zero (m : Nat) : madeCells #[uv 0, uv 0] (m * 2) = wcells (List.replicate m (0, 0)) := by
  apply Array.ext'
  simp only [madeCells, wcells, Array.toList_map, Array.toList_range]
  induction m with
  | zero => simp [wcs]
  | succ m ih =>
    rw [show (m + 1) * 2 = m * 2 + 1 + 1 by omega, List.range_succ, List.range_succ, List.map_append, List.map_append, ih, List.replicate_succ', wcs_append]
    simp [wcs, show (m * 2 + 1) % 2 = 1 by omega]
theorem wcs_set : ∀ (l : List W2) (i : Nat) (p : W2), ((wcs l).set (i * 2) (uv p.1)).set (i * 2 + 1) (uv p.2) = wcs (l.set i p)
  | [], _, _ => by simp [wcs]
  | q :: r, 0, p => by simp [wcs]
  | q :: r, i + 1, p => by
    rw [show (i + 1) * 2 + 1 = (i * 2 + 1) + 1 + 1 by omega, show (i + 1) * 2 = i * 2 + 1 + 1 by omega]
    have := wcs_set r i p
    simpa [wcs] using this
theorem wcells_set (l : List W2) (i : Nat) (p : W2) : ((wcells l).setIfInBounds (i * 2) (uv p.1)).setIfInBounds (i * 2 + 1) (uv p.2) = wcells (l.set i p) := by
  apply Array.ext'
  simpa [wcells] using wcs_set l i p
theorem wcells_get (l : List W2) (i : Nat) (h : i < l.length) : (wcells l)[i * 2]? = some (uv (l.getD i (0, 0)).1) ∧ (wcells l)[i * 2 + 1]? = some (uv (l.getD i (0, 0)).2) := by
  have := wcs_at l i (0, 0) h
  rw [Nat.mul_comm] at this
  simpa [wcells] using this
theorem ownW_cells {w : World} {D n : Nat} {l : List W2} (base : Nat) (hb : base ≤ D) (h : w.heap[D]? = some (.cells (wcells l) 106 (0, 0))) (hn : l.length = n) (hl : n ≤ 1000000) : OwnW w base D n n l := by
  subst hn
  refine ⟨rfl, by rw [wcs_len]; omega, .inr ⟨D, l.length, _, rfl, hb, h, Nat.le_refl _, by unfold maxLen; omega, ?_, ?_⟩⟩
  · simp [wcells, wcs_len]; omega
  · simp [wcells, List.take_of_length_le, wcs_len, Nat.mul_comm]
end Go.Proofs.Ytjmdgbdlhaaefaa
/- sim: a literal's value over words, by its contract. -/
namespace Go.Proofs.Ytjmdgbdlhaaefaa
open Go Go.RowKit Go.Joins

/-- The kind of words. -/
def kvw : Value := .agg #[.int .u64 18446744073709551615, .int .u64 0, .func (.func 86) #[] #[], .func (.func 87) #[] #[]]
theorem four_set {X : World} {g : Nat} {C : Array Value} {t : TypeId} (h : X.heap[g]? = some (.cells C t (0, 0))) (hC : C.size = 4) (u0 u1 u2 u3 : Value) :
    ((((X.setCell ⟨g, 0, .none⟩ u0).setCell ⟨g, 1, .none⟩ u1).setCell ⟨g, 2, .none⟩ u2).setCell ⟨g, 3, .none⟩ u3).heap[g]? = some (.cells #[u0, u1, u2, u3] t (0, 0)) := by
  have h1 := block_setCell h (i := 0) u0
  have h2 := block_setCell h1 (i := 1) u1
  have h3 := block_setCell h2 (i := 2) u2
  have h4 := block_setCell h3 (i := 3) u3
  have e : (((C.setIfInBounds 0 u0).setIfInBounds 1 u1).setIfInBounds 2 u2).setIfInBounds 3 u3 = #[u0, u1, u2, u3] := by
    obtain ⟨l⟩ := C
    have hl : l.length = 4 := hC
    obtain ⟨a, b, c, d, rfl⟩ : ∃ a b c d, l = [a, b, c, d] := by
      rcases l with _ | ⟨a, l⟩
      · simp at hl
      rcases l with _ | ⟨b, l⟩
      · simp at hl
      rcases l with _ | ⟨c, l⟩
      · simp at hl
      rcases l with _ | ⟨d, l⟩
      · simp at hl
      rcases l with _ | ⟨e, l⟩
      · exact ⟨a, b, c, d, rfl⟩
      · simp at hl
    rfl
  exact h4.trans (by rw [e])
theorem two_set {X : World} {g : Nat} {C : Array Value} {t : TypeId} (h : X.heap[g]? = some (.cells C t (0, 0))) (hC : C.size = 2) (u0 u1 : Value) :
    ((X.setCell ⟨g, 0, .none⟩ u0).setCell ⟨g, 1, .none⟩ u1).heap[g]? = some (.cells #[u0, u1] t (0, 0)) := by
  have h1 := block_setCell h (i := 0) u0
  have h2 := block_setCell h1 (i := 1) u1
  rw [h2]
  congr 2
  apply Array.ext'
  obtain ⟨l⟩ := C
  rcases l with _ | ⟨a, _ | ⟨b, _ | ⟨c, r⟩⟩⟩ <;> first | (simp at hC; done) | rfl
theorem two_below {B : Nat} {w X : World} (g : Nat) (hg : B ≤ g) (h : Below B w X) {u0 u1 : Value} : Below B w ((X.setCell ⟨g, 0, .none⟩ u0).setCell ⟨g, 1, .none⟩ u1) := (h.setCell hg _).setCell hg _
theorem two_other {X : World} (g D : Nat) (hD : D ≠ g) (u0 u1 : Value) : ((X.setCell ⟨g, 0, .none⟩ u0).setCell ⟨g, 1, .none⟩ u1).heap[D]? = X.heap[D]? :=
  (Below.heap_setCell _ ⟨g, 1, none⟩ u1 D hD).trans (Below.heap_setCell _ ⟨g, 0, none⟩ u0 D hD)

set_option maxRecDepth 100000 in
theorem words_any (w : World) : Calls Try.prog 75 #[] w fun e w' => e = .returned kvw ∧ Below w.heap.size w w' := by
  have HALL : Hid (∀ W, Calls Try.prog 85 #[.int .u8 0] W fun e w' => e = .returned (.tuple #[.agg #[.int .u64 18446744073709551615, .int .u64 0], .int .i64 0]) ∧ Below W.heap.size W w') := fun W => by
    have h := tall_any 0 W
    have e : w2E (allR 0) = .returned (.tuple #[.agg #[.int .u64 18446744073709551615, .int .u64 0], .int .i64 0]) := by unfold w2E allR wv; rfl
    rw [e] at h
    exact h
  go_enter Try.func75, Try.ntmps75
  go_upto_region 1 with fail
  generalize hW : World.alloc w _ = W1
  have HB : Hid (Below w.heap.size w W1) := by subst hW; exact ext_alloc _ _
  have HX : Hid (W1.heap[w.heap.size]? = some (.cells #[.int .u64 0, .int .u64 0, .nilFunc, .nilFunc] 110 (0, 0))) := by show _ = _; subst hW; exact heap_new _ _ _ rfl
  clear hW
  go_wp2_with fail
  refine (HALL.out _).mono ?_
  rintro e W2 ⟨rfl, hb⟩
  have HB2 := Lib.hid (ext_trans HB.out hb)
  have HX2 := Lib.hid (heap_below HX.out hb)
  clear hb HB HX
  go_upto_region 2 with fail
  generalize hW : World.alloc W2 _ = W3
  have hb : Below W2.heap.size W2 W3 := by subst hW; exact ext_alloc _ _
  have hz : W3.heap[W2.heap.size]? = some (.cells #[.int .u64 18446744073709551615, .int .u64 0] 106 (0, 0)) := by subst hW; exact heap_new _ _ _ rfl
  have HB3 := Lib.hid (ext_trans HB2.out hb)
  have HX3 := Lib.hid (heap_below HX2.out hb)
  have z0 := cell_of_block hz 0
  have z1 := cell_of_block hz 1
  have p0 := cell_of_block HX3.out 0
  have p1 := cell_of_block HX3.out 1
  have p2 := cell_of_block HX3.out 2
  have p3 := cell_of_block HX3.out 3
  have y0 := unfrozen_of_block HX3.out 0
  have y1 := unfrozen_of_block HX3.out 1
  have y2 := unfrozen_of_block HX3.out 2
  have y3 := unfrozen_of_block HX3.out 3
  clear hW hb hz HB2 HX2
  go_wp2
  refine bodyPost_ret (v := kvw) ?_ rfl ?_
  · have h6 := four_set HX3.out rfl (.int .u64 18446744073709551615) (.int .u64 0) (.func (.func 86) #[] #[]) (.func (.func 87) #[] #[])
    have g0 := cell_of_block h6 0
    have g1 := cell_of_block h6 1
    have g2 := cell_of_block h6 2
    have g3 := cell_of_block h6 3
    simp [results, Try.results75, go_sem, g0, g1, g2, g3]
    rfl
  · exact ⟨rfl, (((HB3.out.setCell (p := ⟨w.heap.size, 0, none⟩) (Nat.le_refl _) _).setCell (p := ⟨w.heap.size, 1, none⟩) (Nat.le_refl _) _).setCell (p := ⟨w.heap.size, 2, none⟩) (Nat.le_refl _) _).setCell (p := ⟨w.heap.size, 3, none⟩) (Nat.le_refl _) _⟩

theorem keep4w {w w' : World} {a0 a1 a2 a3 : Addr} {v0 v1 v2 v3 : Value} (h : w.cell? a0 = some v0 ∧ w.cell? a1 = some v1 ∧ w.cell? a2 = some v2 ∧ w.cell? a3 = some v3) (hb : Below w.heap.size w w') : w'.cell? a0 = some v0 ∧ w'.cell? a1 = some v1 ∧ w'.cell? a2 = some v2 ∧ w'.cell? a3 = some v3 := by
  obtain ⟨h0, h1, h2, h3⟩ := h
  have one : ∀ {a : Addr} {v : Value}, w.cell? a = some v → w'.cell? a = some v := fun {a v} h => (hb.cell (World.block_lt_of_cell? _ _ h)).trans h
  exact ⟨one h0, one h1, one h2, one h3⟩

set_option maxRecDepth 100000 in
set_option maxHeartbeats 1600000 in
theorem valuew_any (vars : List W2) (base g n c lit : Nat) (w : World) (h : OwnW w base g n c vars) (hin : ∀ x ∈ vars, x.in) (h1 : lit / 2 < n) (h2 : lit < 4294967296) :
    Calls Try.prog 89 #[kvw, .slice (some ⟨g, 0, none⟩) n c, .int .u32 lit] w fun e w' => e = .returned (wv (kw.val vars lit)) ∧ Below w.heap.size w w' := by
  obtain ⟨_, hgw, _⟩ := h.block
  obtain ⟨c0, c1⟩ := h.cells (lit / 2) h1
  have hl : lit / 2 < vars.length := by rw [h.1]; exact h1
  have hx : kw.val vars lit = if lit % 2 = 1 then notW (vars.getD (lit / 2) (0, 0)) else vars.getD (lit / 2) (0, 0) := by
    unfold Kd.val
    have e : vars.getD (lit / 2) kw.z = vars.getD (lit / 2) (0, 0) := by simp [List.getD, List.getElem?_eq_getElem hl]
    rw [e]
    rfl
  have hxin := hin _ (getD_mem (d := (0, 0)) hl)
  obtain ⟨x, hxx⟩ : ∃ x, x = vars.getD (lit / 2) (0, 0) := ⟨_, rfl⟩
  rw [← hxx] at c0 c1 hx hxin
  have A1 := u32_and1' lit h2
  have D1 : (lit : Int) / 2 = ((lit / 2 : Nat) : Int) := by omega
  have hd32 : lit / 2 < 4294967296 := by omega
  obtain ⟨m, hm⟩ : ∃ m, m = lit % 2 := ⟨_, rfl⟩
  obtain ⟨d, hd⟩ : ∃ d, d = lit / 2 := ⟨_, rfl⟩
  rw [← hm] at A1 hx
  rw [← hd] at D1 c0 c1 h1 hd32
  obtain ⟨R, hR⟩ : ∃ R, R = kw.val vars lit := ⟨_, rfl⟩
  rw [← hR] at hx ⊢
  obtain ⟨x1, x2⟩ := x
  simp only at c0 c1
  have HX := Lib.hid hx
  have HXI := Lib.hid hxin
  have HG := Lib.hid hgw
  have hI1 : (d : Int) < (n : Int) := by omega
  have hI0 : (0 : Int) ≤ (d : Int) := by omega
  have U1 : IntKind.u32.wrap (d : Int) = (d : Int) := IntWalk.u32_in _ (by omega)
  clear h hin hl hxx hm hd hR hx hxin hgw h2 hd32
  unfold kvw
  go_enter Try.func89, Try.ntmps89
  go_upto_region 1 with fail
  generalize hW : World.alloc (World.alloc w _) _ = W1
  have HB : Hid (Below w.heap.size w W1) := by subst hW; exact ext_trans (ext_alloc _ _) (ext_alloc _ _)
  have HK : Hid (W1.heap[w.heap.size]? = some (.cells #[.int .u64 18446744073709551615, .int .u64 0, .func (.func 86) #[] #[], .func (.func 87) #[] #[]] 110 (0, 0))) := by show _ = _; subst hW; exact heap_below (heap_new _ _ _ rfl) (ext_alloc _ _)
  have HZ : Hid (W1.heap[w.heap.size + 1]? = some (.cells #[.int .u64 0, .int .u64 0] 106 (0, 0))) := by show _ = _; subst hW; exact heap_new _ _ _ (by simp)
  clear hW
  have e0 : W1.cell? ⟨g, d * 2, none⟩ = some (.int .u64 (x1 : Int)) := (HB.out.cell (p := ⟨g, d * 2, none⟩) HG.out).trans c0
  have e1 : W1.cell? ⟨g, d * 2 + 1, none⟩ = some (.int .u64 (x2 : Int)) := (HB.out.cell (p := ⟨g, d * 2 + 1, none⟩) HG.out).trans c1
  clear c0 c1
  by_cases h3 : m = 1
  · subst h3
    have HNOT : Hid (∀ W, Calls Try.prog 86 #[.agg #[.int .u64 (x1 : Int), .int .u64 (x2 : Int)]] W fun e w' => e = .returned (.agg #[.int .u64 (R.1 : Int), .int .u64 (R.2 : Int)]) ∧ Below W.heap.size W w') := fun W => by
      have h := tnot_any (x1, x2) HXI.out W
      have hr : R = notW (x1, x2) := by rw [HX.out, if_pos rfl]
      rw [← hr] at h
      exact h
    obtain ⟨r1, r2⟩ := R
    simp only at HNOT
    clear HX HXI
    have q1 : W1.cell? ⟨w.heap.size, 2, none⟩ = some (.func (.func 86) #[] #[]) := cell_of_block HK.out 2
    have q2 : W1.cell? ⟨w.heap.size, 3, none⟩ = some (.func (.func 87) #[] #[]) := cell_of_block HK.out 3
    go_upto_region 2 with fail
    have HS0 := Lib.hid (And.intro q1 (And.intro q2 (And.intro e0 e1)))
    have HSD := Lib.hid (keep4w HS0.out ((Below.refl _ W1).drew))
    clear q1 q2 e0 e1
    refine wp_region_noPanic ?_
    refine wp_region_held (S := fun w' => w'.cell? ⟨w.heap.size, 2, none⟩ = some (.func (.func 86) #[] #[]) ∧ w'.cell? ⟨w.heap.size, 3, none⟩ = some (.func (.func 87) #[] #[]) ∧ w'.cell? ⟨g, d * 2, none⟩ = some (.int .u64 (x1 : Int)) ∧ w'.cell? ⟨g, d * 2 + 1, none⟩ = some (.int .u64 (x2 : Int))) (by kernel_rfl) ?_
    generalize hY : ({ W1 with drawn := W1.drawn + 1 } : World) = Y0
    have hY0 : Below W1.heap.size W1 Y0 := by subst hY; exact (Below.refl _ _).drew
    have HYS := Lib.hid (keep4w HS0.out hY0)
    have HYB := Lib.hid hY0
    clear hY hY0 HS0 HSD
    refine wpAnyH_take (i := 0) (v := ?_) (by simp only [List.getElem?_toArray, List.getElem?_cons_zero]; rfl) (by kernel_rfl) (by kernel_rfl) (by kernel_rfl) (fun _ _ _ h => h) (Or.inl ⟨by rfl, ?_⟩) HYS.out ?_
    rotate_left
    · intro w hSw
      (try dsimp only at hSw)
      obtain ⟨q0_, q1_, q2_, q3_⟩ := hSw
      go_simp
      try with_reducible rfl
    try simp only [Act.put, List.setIfInBounds_toArray, List.set_cons_zero, List.set_cons_succ]
    refine wpAnyH_take (i := 1) (v := ?_) (by simp only [List.getElem?_toArray, List.getElem?_cons_zero, List.getElem?_cons_succ]; rfl) (by kernel_rfl) (by kernel_rfl) (by kernel_rfl) (fun _ _ _ h => h) (Or.inl ⟨by rfl, ?_⟩) HYS.out ?_
    rotate_left
    · intro w hSw
      (try dsimp only at hSw)
      obtain ⟨q0_, q1_, q2_, q3_⟩ := hSw
      go_simp
      try with_reducible rfl
    try simp only [Act.put, List.setIfInBounds_toArray, List.set_cons_zero, List.set_cons_succ]
    refine wpAnyH_take (i := 2) (v := ?_) (by simp only [List.getElem?_toArray, List.getElem?_cons_zero, List.getElem?_cons_succ]; rfl) (by kernel_rfl) (by kernel_rfl) (by kernel_rfl) (fun _ _ _ h => h) (Or.inl ⟨by rfl, ?_⟩) HYS.out ?_
    rotate_left
    · intro w hSw
      (try dsimp only at hSw)
      obtain ⟨q0_, q1_, q2_, q3_⟩ := hSw
      go_simp
      try with_reducible rfl
    try simp only [Act.put, List.setIfInBounds_toArray, List.set_cons_zero, List.set_cons_succ]
    refine wpAnyH_take (i := 3) (v := ?_) (by simp only [List.getElem?_toArray, List.getElem?_cons_zero, List.getElem?_cons_succ]; rfl) (by kernel_rfl) (by kernel_rfl) (by kernel_rfl) (fun _ _ _ h => h) (Or.inl ⟨by rfl, ?_⟩) HYS.out ?_
    rotate_left
    · intro w hSw
      (try dsimp only at hSw)
      obtain ⟨q0_, q1_, q2_, q3_⟩ := hSw
      go_simp
      try with_reducible rfl
    try simp only [Act.put, List.setIfInBounds_toArray, List.set_cons_zero, List.set_cons_succ]
    refine wpAnyH_take (i := 4) (v := ?_) (by simp only [List.getElem?_toArray, List.getElem?_cons_zero, List.getElem?_cons_succ]; rfl) (by kernel_rfl) (by kernel_rfl) (by kernel_rfl) (fun _ _ _ h => h) (Or.inl ⟨by rfl, ?_⟩) HYS.out ?_
    rotate_left
    · intro w hSw
      (try dsimp only at hSw)
      obtain ⟨q0_, q1_, q2_, q3_⟩ := hSw
      go_simp
      try with_reducible rfl
    try simp only [Act.put, List.setIfInBounds_toArray, List.set_cons_zero, List.set_cons_succ]
    refine wpAnyH_take (i := 5) (v := ?_) (by simp only [List.getElem?_toArray, List.getElem?_cons_zero, List.getElem?_cons_succ]; rfl) (by kernel_rfl) (by kernel_rfl) (by kernel_rfl) (fun _ _ _ h => h) (Or.inl ⟨by rfl, ?_⟩) HYS.out ?_
    rotate_left
    · intro w hSw
      (try dsimp only at hSw)
      obtain ⟨q0_, q1_, q2_, q3_⟩ := hSw
      go_simp
      try with_reducible rfl
    try simp only [Act.put, List.setIfInBounds_toArray, List.set_cons_zero, List.set_cons_succ]
    refine wpAnyH_take (i := 6) (v := ?_) (by simp only [List.getElem?_toArray, List.getElem?_cons_zero, List.getElem?_cons_succ]; rfl) (by kernel_rfl) (by kernel_rfl) (by kernel_rfl) (fun _ _ _ h => h) (Or.inl ⟨by rfl, ?_⟩) HYS.out ?_
    rotate_left
    · intro w hSw
      (try dsimp only at hSw)
      obtain ⟨q0_, q1_, q2_, q3_⟩ := hSw
      go_simp
      try with_reducible rfl
    try simp only [Act.put, List.setIfInBounds_toArray, List.set_cons_zero, List.set_cons_succ]
    refine wpAnyH_ready (rs := [7]) (by kernel_rfl) (by simp) ?_
    refine AllReadyH.cons (by simp only [List.getElem?_toArray, List.getElem?_cons_zero, List.getElem?_cons_succ]; rfl) (fun K hK => ?_) AllReadyH.nil
    go_simp
    refine (HNOT.out _).mono ?_
    rintro e s1 ⟨rfl, b1⟩
    have HB1 := Lib.hid (ext_trans HYB.out b1)
    have HS1 := Lib.hid (keep4w HYS.out b1)
    have HZ1 := Lib.hid (heap_below HZ.out HB1.out)
    clear b1
    refine hK.out _ _ HS1.out (fun _ => ?_)
    clear hK K
    try simp only [Act.put, List.setIfInBounds_toArray, List.set_cons_zero, List.set_cons_succ]
    refine wpAnyH_ready (rs := [8]) (by kernel_rfl) (by simp) ?_
    refine AllReadyH.cons (by simp only [List.getElem?_toArray, List.getElem?_cons_zero, List.getElem?_cons_succ]; rfl) (fun K hK => ?_) AllReadyH.nil
    have z0 := cell_of_block HZ1.out 0
    have z1 := cell_of_block HZ1.out 1
    have y0 := unfrozen_of_block HZ1.out 0
    have y1 := unfrozen_of_block HZ1.out 1
    go_simp
    clear z0 z1 y0 y1
    have HZ2 := Lib.hid (two_set HZ1.out rfl (.int .u64 (r1 : Int)) (.int .u64 (r2 : Int)))
    have hne : g ≠ w.heap.size + 1 := by have := HG.out; omega
    have HS2 : Hid (((s1.setCell ⟨w.heap.size + 1, 0, none⟩ (.int .u64 (r1 : Int))).setCell ⟨w.heap.size + 1, 1, none⟩ (.int .u64 (r2 : Int))).cell? ⟨w.heap.size, 2, none⟩ = some (.func (.func 86) #[] #[]) ∧ ((s1.setCell ⟨w.heap.size + 1, 0, none⟩ (.int .u64 (r1 : Int))).setCell ⟨w.heap.size + 1, 1, none⟩ (.int .u64 (r2 : Int))).cell? ⟨w.heap.size, 3, none⟩ = some (.func (.func 87) #[] #[]) ∧
        ((s1.setCell ⟨w.heap.size + 1, 0, none⟩ (.int .u64 (r1 : Int))).setCell ⟨w.heap.size + 1, 1, none⟩ (.int .u64 (r2 : Int))).cell? ⟨g, d * 2, none⟩ = some (.int .u64 (x1 : Int)) ∧ ((s1.setCell ⟨w.heap.size + 1, 0, none⟩ (.int .u64 (r1 : Int))).setCell ⟨w.heap.size + 1, 1, none⟩ (.int .u64 (r2 : Int))).cell? ⟨g, d * 2 + 1, none⟩ = some (.int .u64 (x2 : Int))) :=
      ⟨(World.cell?_of_block (w := s1) (two_other (w.heap.size + 1) w.heap.size (Nat.ne_of_lt (Nat.lt_succ_self _)) _ _)).trans HS1.out.1, (World.cell?_of_block (w := s1) (two_other (w.heap.size + 1) w.heap.size (Nat.ne_of_lt (Nat.lt_succ_self _)) _ _)).trans HS1.out.2.1, (World.cell?_of_block (w := s1) (two_other (w.heap.size + 1) g hne _ _)).trans HS1.out.2.2.1, (World.cell?_of_block (w := s1) (two_other (w.heap.size + 1) g hne _ _)).trans HS1.out.2.2.2⟩
    have HB2 := Lib.hid (two_below (u0 := .int .u64 (r1 : Int)) (u1 := .int .u64 (r2 : Int)) (w.heap.size + 1) (Nat.le_succ _) (ext_trans HB.out HB1.out))
    clear hne
    refine hK.out _ _ HS2.out (fun _ => ?_)
    clear hK K
    try simp only [Act.put, List.setIfInBounds_toArray, List.set_cons_zero, List.set_cons_succ]
    refine wpAnyH_done (by kernel_rfl) ?_ _
    refine NoPanic.normal ?_
    go_wp2
    refine bodyPost_ret (v := wv (r1, r2)) ?_ rfl ?_
    · have g0 := cell_of_block HZ2.out 0
      have g1 := cell_of_block HZ2.out 1
      simp [results, Try.results89, go_sem, g0, g1]
      rfl
    · exact ⟨rfl, HB2.out⟩
  · have e3 : ((m : Int) == 1) = false := by simp; omega
    have hr : R = (x1, x2) := by rw [HX.out, if_neg h3]
    subst hr
    clear h3 HX HXI
    have z0 := cell_of_block HZ.out 0
    have z1 := cell_of_block HZ.out 1
    have y0 := unfrozen_of_block HZ.out 0
    have y1 := unfrozen_of_block HZ.out 1
    go_wp2
    refine bodyPost_ret (v := wv (x1, x2)) ?_ rfl ?_
    · have h6 := two_set HZ.out rfl (.int .u64 (x1 : Int)) (.int .u64 (x2 : Int))
      have g0 := cell_of_block h6 0
      have g1 := cell_of_block h6 1
      simp [results, Try.results89, go_sem, g0, g1]
      rfl
    · exact ⟨rfl, two_below (w.heap.size + 1) (Nat.le_succ _) HB.out⟩
end Go.Proofs.Ytjmdgbdlhaaefaa
/- sim: the values of a frame over words, by its contract. -/
namespace Go.Proofs.Ytjmdgbdlhaaefaa
open Go Go.RowKit Go.Joins

theorem valw_in {vs : List W2} (h : ∀ x ∈ vs, x.in) (lit : Nat) : (kw.val vs lit).in := by
  have h1 : (vs.getD (lit / 2) kw.z).in := by
    by_cases e : lit / 2 < vs.length
    · exact h _ (getD_mem e)
    · rw [show vs.getD (lit / 2) kw.z = kw.z by simp [List.getD, List.getElem?_eq_none (Nat.le_of_not_lt e)]]; exact zeroW_in
  unfold Kd.val
  split
  · exact notW_in h1
  · exact h1
theorem gatesw_in : ∀ (l : List (Nat × Nat)) (vs : List W2), (∀ x ∈ vs, x.in) → ∀ x ∈ kw.gates l vs, x.in
  | [], _, h => h
  | g :: r, vs, h => by
    rw [Kd.gates]
    refine gatesw_in r _ (fun u hu => ?_)
    rcases List.mem_append.1 hu with hu | hu
    · exact h u hu
    · obtain rfl : u = _ := by simpa using hu
      exact andW_in (valw_in h _) (valw_in h _)
theorem headw_in {st ins : List W2} (h1 : ∀ x ∈ st, x.in) (h2 : ∀ x ∈ ins, x.in) : ∀ x ∈ kw.z :: (ins ++ st), x.in := fun x hx => by
  rcases List.mem_cons.1 hx with rfl | hx
  · exact zeroW_in
  · rcases List.mem_append.1 hx with hx | hx
    · exact h2 x hx
    · exact h1 x hx
theorem varsw_in (c : NormC) {st ins : List W2} (h1 : ∀ x ∈ st, x.in) (h2 : ∀ x ∈ ins, x.in) : ∀ x ∈ kw.vars c st ins, x.in := gatesw_in _ _ (headw_in h1 h2)
theorem nextw_in (c : NormC) {vs : List W2} (h : ∀ x ∈ vs, x.in) : ∀ x ∈ kw.next c vs, x.in := fun x hx => by
  unfold Kd.next at hx
  obtain ⟨p, _, rfl⟩ := List.mem_map.1 hx
  exact valw_in h _

theorem info_word : (Try.prog.info? 106).map (fun i => (i.zero, i.size, i.bytes)) = some (some (.agg #[.int .u64 0, .int .u64 0]), 2, 16) := by kernel_rfl
theorem run_makeW {i : TypeInfo} (hi : Try.prog.info? 106 = some i) (hz : i.zero = some (.agg #[.int .u64 0, .int .u64 0])) (hs : i.size = 2) (hy : i.bytes = 16) (n m : Nat) (x y : Int) (hx : x = (n : Int)) (hyy : y = (m : Int)) (hnm : n ≤ m) (hm : m ≤ 1000000) (W : World) :
    (Instr.makeSlice 113 (.int .i64 x) (.int .i64 y)).run Try.prog W = .ok (.slice (some ⟨W.heap.size, 0, none⟩) n m) (W.alloc (.cells (wcells (List.replicate m (0, 0))) 106)) := by
  subst hx; subst hyy
  have h := run_make (P := Try.prog) W 113 106 i _ Try.underlying113 hi hz .i64 .i64 (n : Int) (m : Int) (by omega) (by omega) (by rw [hy]; omega) (by omega)
  rw [h, hs, Int.toNat_natCast, Int.toNat_natCast]
  show Result.ok _ (W.alloc (.cells (madeCells #[uv 0, uv 0] (m * 2)) _)) = _
  rw [wcells_zero]
theorem owns_made {w : World} {base D m : Nat} (hb : base ≤ D) (h : w.heap[D]? = some (.cells (wcells (List.replicate m (0, 0))) 106 (0, 0))) (hm : m ≤ 1000000) : OwnW w base D 0 m [] := by
  refine ⟨rfl, rfl, .inr ⟨D, m, _, rfl, hb, h, Nat.zero_le _, by unfold maxLen; omega, ?_, by simp [wcs]⟩⟩
  simp [wcells, wcs_len]; omega
theorem ownsN_some {w : World} {base k n : Nat} {e : TypeId} {v : Value} {xs : List Value} (h : w.ownsRow base e k v n xs) (hne : v ≠ .slice none 0 0) : ∃ g c, v = .slice (some ⟨g, 0, none⟩) n c := by
  rcases h.2 with ⟨h1, _⟩ | ⟨g, cap, cur, h1, _⟩
  · exact absurd h1 hne
  · exact ⟨g, cap, h1⟩
theorem ownW_news {w : World} {base g n c : Nat} {l : List W2} (h : OwnW w base g n c l) : ∀ j u, (wcs l)[j]? = some u → w.cell? ((⟨g, 0, none⟩ : Addr).add j) = some u := fun j u hj => by
  have h1 := h.cell j u hj
  have e : (⟨g, 0, none⟩ : Addr).add j = ⟨g, j, none⟩ := by simp [Addr.add]; intro h; exact h.symm
  rw [e]
  exact h1
theorem wcs_len' {l : List W2} {n : Nat} (h : l.length = n) : (wcs l).length = n * 2 := by rw [wcs_len, h]; omega
theorem cell_two_new (w : World) (x y : Value) (t : TypeId) : ∀ j u, [x, y][j]? = some u → (w.alloc (.cells #[x, y] t)).cell? ((⟨w.heap.size, 0, none⟩ : Addr).add j) = some u := by
  intro j u hj
  have hh := heap_new w (.cells #[x, y] t) _ rfl
  match j, hj with
  | 0, hj => simp at hj; subst hj; exact cell_of_block hh 0
  | 1, hj => simp at hj; subst hj; exact cell_of_block hh 1
theorem fill_set {α : Type} (L : List α) (d : α) (k m : Nat) (hL : L.length = m) (hk : k < m) : (L.take k ++ List.replicate (m - k) d).set k (L.getD k d) = L.take (k + 1) ++ List.replicate (m - (k + 1)) d := by
  have e : (L.take k).length = k := by rw [List.length_take, hL]; omega
  rw [List.set_append_right _ _ (Nat.le_of_eq e), e, Nat.sub_self, show m - k = (m - (k + 1)) + 1 by omega, List.replicate_succ, List.set_cons_zero, List.take_add_one, List.getElem?_eq_getElem (by rw [hL]; exact hk), List.append_assoc]
  simp [List.getD, List.getElem?_eq_getElem (show k < L.length by rw [hL]; exact hk)]
theorem fill_get {α : Type} (L : List α) (d : α) (k m : Nat) (hL : L.length = m) (hk : k < m) : (L.take k ++ List.replicate (m - k) d).getD k d = d := by
  have e : (L.take k).length = k := by rw [List.length_take, hL]; omega
  rw [show m - k = (m - k - 1) + 1 by omega, List.replicate_succ]
  rw [List.getD, List.getElem?_append_right (Nat.le_of_eq e), e, Nat.sub_self]
  rfl
theorem fill_len {α : Type} (L : List α) (d : α) (k m : Nat) (hL : L.length = m) (hk : k ≤ m) : (L.take k ++ List.replicate (m - k) d).length = m := by
  rw [List.length_append, List.length_take, List.length_replicate, hL]; omega

theorem keep6w {w w' : World} {a0 a1 a2 a3 a4 a5 : Addr} {v0 v1 v2 v3 v4 v5 : Value} (h : w.cell? a0 = some v0 ∧ w.cell? a1 = some v1 ∧ w.cell? a2 = some v2 ∧ w.cell? a3 = some v3 ∧ w.cell? a4 = some v4 ∧ w.cell? a5 = some v5) (hb : Below w.heap.size w w') :
    w'.cell? a0 = some v0 ∧ w'.cell? a1 = some v1 ∧ w'.cell? a2 = some v2 ∧ w'.cell? a3 = some v3 ∧ w'.cell? a4 = some v4 ∧ w'.cell? a5 = some v5 := by
  obtain ⟨h0, h1, h2, h3, h4, h5⟩ := h
  have one : ∀ {a : Addr} {v : Value}, w.cell? a = some v → w'.cell? a = some v := fun {a v} h => (hb.cell (World.block_lt_of_cell? _ _ h)).trans h
  exact ⟨one h0, one h1, one h2, one h3, one h4, one h5⟩
/-- What a frame of words answers. -/
def FrameWPost (w : World) (vs ns : List W2) (e : Ending) (w' : World) : Prop :=
  ∃ f1 c1 f2 c2, e = .returned (.tuple #[.slice (some ⟨f1, 0, none⟩) vs.length c1, .slice (some ⟨f2, 0, none⟩) ns.length c2]) ∧ OwnW w' w.heap.size f1 vs.length c1 vs ∧ OwnW w' w.heap.size f2 ns.length c2 ns ∧ Below w.heap.size w w'

set_option maxRecDepth 100000 in
set_option maxHeartbeats 6400000 in
theorem framew_any (c : NormC) (hm : MayC c) (s : CSlots) (st ins : List W2) (B1 B2 g1 n1 c1 g2 n2 c2 : Nat) (w : World) (hc : SeesCir w s c) (hs : s.small)
    (h1 : OwnW w B1 g1 n1 c1 st) (h2 : OwnW w B2 g2 n2 c2 ins) (hin1 : ∀ x ∈ st, x.in) (hin2 : ∀ x ∈ ins, x.in) (hl1 : st.length = c.lats.length) (hl2 : (ins.length : Int) = c.ins) :
    Calls Try.prog 99 #[kvw, cirV c.ins s, .slice (some ⟨g1, 0, none⟩) n1 c1, .slice (some ⟨g2, 0, none⟩) n2 c2] w (FrameWPost w (kw.vars c st ins) (kw.next c (kw.vars c st ins))) := by
  obtain ⟨i0, hi, hz0, hz1, hz2⟩ := info_parts info_word
  have hn1 : st.length = n1 := h1.1
  have hn2 : ins.length = n2 := h2.1
  have HLT := Lib.hid (vars_lt c hm st ins hl1 hl2)
  have hfew := hm.few
  unfold varsN at hfew
  rw [← hl2, ← hl1, hn1, hn2] at hfew
  simp only [Int.toNat_natCast] at hfew
  obtain ⟨b1, m1, d1, b2, m2, d2, b3, m3, d3, b4, m4, d4, b5, m5, d5⟩ := s
  have hg : c.gates.length = m2 := hc.s2.1
  have hla : c.lats.length = m1 := hc.s1.1
  rw [hg] at hfew
  obtain rfl : m1 = n1 := by omega
  obtain ⟨M, hM⟩ : ∃ M, M = 1 + n2 + m1 + m2 := ⟨_, rfl⟩
  have W1 : IntKind.i64.wrap (1 + (n2 : Int)) = 1 + (n2 : Int) := IntWalk.i64_in _ (by omega)
  have W2 : IntKind.i64.wrap (1 + (n2 : Int) + (m1 : Int)) = 1 + (n2 : Int) + (m1 : Int) := IntWalk.i64_in _ (by omega)
  have W3 : IntKind.i64.wrap (1 + (n2 : Int) + (m1 : Int) + (m2 : Int)) = (M : Int) := by rw [IntWalk.i64_in _ (by omega)]; omega
  have mk := fun W => run_makeW hi hz0 hz1 hz2 0 M 0 (M : Int) rfl rfl (Nat.zero_le _) (by omega) W
  have mk2 := fun W => run_makeW hi hz0 hz1 hz2 m1 m1 (m1 : Int) (m1 : Int) rfl rfl (Nat.le_refl _) (by omega) W
  have HC := Lib.hid hc
  have H1 := Lib.hid h1
  have H2 := Lib.hid h2
  have HI0 := Lib.hid (headw_in hin1 hin2)
  have HN1 := Lib.hid hn1
  have HN2 := Lib.hid hn2
  have HG := Lib.hid hg
  have HLA := Lib.hid hla
  have HM := Lib.hid hM
  have HF := Lib.hid hfew
  have HINS : Hid ((n2 : Int) = c.ins) := by show _ = _; rw [← hn2]; exact hl2
  clear hc h1 h2 hn1 hn2 hg hla hM hfew hl1 hl2 hin1 hin2
  unfold cirV
  have hkv : kvw = .agg #[.int .u64 18446744073709551615, .int .u64 0, .func (.func 86) #[] #[], .func (.func 87) #[] #[]] := rfl
  rw [hkv]
  clear hkv
  go_enter Try.func99, Try.ntmps99
  go_upto_region 1 with fail
  generalize hW : World.alloc (World.alloc w _) _ = W1
  have B1_ : Below w.heap.size w W1 := by subst hW; exact ext_trans (ext_alloc _ _) (ext_alloc _ _)
  have hK : W1.heap[w.heap.size]? = some (.cells #[.int .u64 18446744073709551615, .int .u64 0, .func (.func 86) #[] #[], .func (.func 87) #[] #[]] 110 (0, 0)) := by subst hW; exact heap_below (heap_new _ _ _ rfl) (ext_alloc _ _)
  have hX : W1.heap[w.heap.size + 1]? = some (.cells #[.int .i64 c.ins, .slice b1 m1 d1, .slice b2 m2 d2, .slice b3 m3 d3, .slice b4 m4 d4, .slice b5 m5 d5] 26 (0, 0)) := by subst hW; exact heap_new _ _ _ (by simp)
  have HB := Lib.hid B1_
  have HK := Lib.hid hK
  have HX := Lib.hid hX
  clear hW B1_ hK hX
  have q2 := cell_of_block HX.out 2
  go_upto_region 2 with fail
  generalize hW : World.alloc W1 _ = W2
  have B2_ : Below W1.heap.size W1 W2 := by subst hW; exact ext_alloc _ _
  have hrow0 : OwnW W2 w.heap.size W1.heap.size 0 M [] := owns_made HB.out.size (by subst hW; exact heap_new _ _ _ rfl) (by have := HM.out; have := HF.out; omega)
  have HK2 := Lib.hid (heap_below HK.out B2_)
  have HX2 := Lib.hid (heap_below HX.out B2_)
  have HB2 := Lib.hid (ext_trans HB.out B2_)
  have HR := Lib.hid hrow0
  clear hW B2_ hrow0 q2 mk HK HX HB
  have p0 := cell_of_block HK2.out 0
  have p1 := cell_of_block HK2.out 1
  go_wp2_with (at_builtin; refine wpList_append_own_at _ rfl _ _ 113 rfl w.heap.size 106 i0 (.agg #[.int .u64 0, .int .u64 0]) 2 16 Try.underlying113 hi hz0 hz1 hz2 rfl (by omega) _ _ _ rfl (ownsN_below HR.out.own (ext_alloc _ _)) ⟨W2.heap.size, 0, none⟩ 1 1 [.int .u64 18446744073709551615, .int .u64 0] rfl rfl (cell_two_new _ _ _ _) (by simp [Value.oneCell']) ?qa4 ?qa5 ?qa6 ?_)
  case qa4 => decide
  case qa5 => omega
  case qa6 => have := HB2.out.size; simp; omega
  intro v1 w1 r1 g1_ nn1 _
  have hx1 := ownsN_below HR.out.own (ext_alloc W2 (.cells #[.int .u64 18446744073709551615, .int .u64 0] 106))
  have HK3 := Lib.hid (heap_grown (heap_below HK2.out (ext_alloc _ _)) g1_ (ownsN_notown hx1 (heap_below HK2.out (ext_alloc _ _)) (by decide)))
  have HX3 := Lib.hid (heap_grown (heap_below HX2.out (ext_alloc _ _)) g1_ (ownsN_notown hx1 (heap_below HX2.out (ext_alloc _ _)) (by decide)))
  have HB3 := Lib.hid ((ext_trans HB2.out (ext_alloc _ _)).grown g1_ (by have := HB2.out.size; simp; omega) (fun k hk => (hx1.lt k hk).1))
  obtain ⟨e1, f1, rfl⟩ := ownsN_some r1 (by first | exact nn1 | exact fun e => by have := (nn1.1 e).1; cases this)
  have R1 := Lib.hid r1
  clear HK2 HX2 HB2 HR g1_ r1 hx1 p0 p1 nn1
  go_wp2_with (at_builtin; refine wpList_append_own_at _ rfl _ _ 113 rfl w.heap.size 106 i0 (.agg #[.int .u64 0, .int .u64 0]) 2 16 Try.underlying113 hi hz0 hz1 hz2 rfl (by omega) _ _ _ rfl R1.out ⟨g2, 0, none⟩ n2 c2 (wcs ins) rfl (wcs_len' HN2.out) (ownW_news (H2.out.below HB3.out)) (wcs_one _) ?qb4 ?qb5 ?qb6 ?_)
  case qb4 => unfold maxLen; have := HF.out; omega
  case qb5 => have := HF.out; omega
  case qb6 => exact HB3.out.size
  intro v2 w2 r2 g2_ nn2 _
  have HK4 := Lib.hid (heap_grown HK3.out g2_ (ownsN_notown R1.out HK3.out (by decide)))
  have HX4 := Lib.hid (heap_grown HX3.out g2_ (ownsN_notown R1.out HX3.out (by decide)))
  have HB4 := Lib.hid (HB3.out.grown g2_ HB3.out.size (fun k hk => (R1.out.lt k hk).1))
  obtain ⟨e2, f2, rfl⟩ := ownsN_some r2 (by first | exact nn2 | exact fun e => by have := (nn2.1 e).1; cases this)
  have R2 := Lib.hid r2
  clear HK3 HX3 HB3 R1 g2_ r2 nn2
  go_wp2_with (at_builtin; refine wpList_append_own_at _ rfl _ _ 113 rfl w.heap.size 106 i0 (.agg #[.int .u64 0, .int .u64 0]) 2 16 Try.underlying113 hi hz0 hz1 hz2 rfl (by omega) _ _ _ rfl R2.out ⟨g1, 0, none⟩ m1 c1 (wcs st) rfl (wcs_len' HN1.out) (ownW_news (H1.out.below HB4.out)) (wcs_one _) ?qc4 ?qc5 ?qc6 ?_)
  case qc4 => unfold maxLen; have := HF.out; omega
  case qc5 => have := HF.out; omega
  case qc6 => exact HB4.out.size
  intro v3 w3 r3 g3_ nn3 _
  have HK5 := Lib.hid (heap_grown HK4.out g3_ (ownsN_notown R2.out HK4.out (by decide)))
  have HX5 := Lib.hid (heap_grown HX4.out g3_ (ownsN_notown R2.out HX4.out (by decide)))
  have HB5 := Lib.hid (HB4.out.grown g3_ HB4.out.size (fun k hk => (R2.out.lt k hk).1))
  obtain ⟨V0, hV0⟩ : ∃ V0, V0 = kw.z :: (ins ++ st) := ⟨_, rfl⟩
  obtain ⟨N0, hN0⟩ : ∃ N0, N0 = 1 + n2 + m1 := ⟨_, rfl⟩
  have HN0 : Hid (V0.length = N0) := by show _ = _; rw [hV0, hN0, List.length_cons, List.length_append, HN1.out, HN2.out]; omega
  obtain ⟨e3, f3, rfl⟩ := ownsN_some r3 (by first | exact nn3 | exact fun e => by have := (nn3.1 e).1; cases this)
  have hr4 : OwnW w3 w.heap.size e3 N0 f3 V0 := by
    refine ⟨HN0.out, ?_⟩
    have e : wcs V0 = (wcs [] ++ [.int .u64 18446744073709551615, .int .u64 0]) ++ wcs ins ++ wcs st := by
      have e1 : wcs (kw.z :: (ins ++ st)) = uv kw.z.1 :: uv kw.z.2 :: wcs (ins ++ st) := rfl
      rw [hV0, e1, wcs_append]; rfl
    have e2 : 0 + 1 + n2 + m1 = N0 := by omega
    rw [e2] at r3
    rw [e]
    exact r3
  have e2 : 0 + 1 + n2 + m1 = N0 := by omega
  rw [e2]
  have R3 := Lib.hid hr4
  have HV0 := Lib.hid hV0
  have HNE := Lib.hid hN0
  rw [← hV0] at HI0
  clear HK4 HX4 HB4 R2 g3_ r3 hr4 hV0 hN0 nn3 e2
  have q2 := cell_of_block HX5.out 2
  go_wp2_with fail
  clear q2
  have mk2' := Lib.hid mk2
  clear mk2
  go_loopw [39, 8, 11] (fun i v _ wr => ∃ (k g cp : Nat), k ≤ m2 ∧ i = .int .i64 k ∧ v = .slice (some ⟨g, 0, none⟩) (N0 + k) cp ∧ Hid (OwnW wr w.heap.size g (N0 + k) cp (kw.gates (c.gates.take k) V0)) ∧
      Hid (wr.heap[w.heap.size]? = some (.cells #[.int .u64 18446744073709551615, .int .u64 0, .func (.func 86) #[] #[], .func (.func 87) #[] #[]] 110 (0, 0))) ∧ Hid (wr.heap[w.heap.size + 1]? = some (.cells #[.int .i64 c.ins, .slice b1 m1 d1, .slice b2 m2 d2, .slice b3 m3 d3, .slice b4 m4 d4, .slice b5 m5 d5] 26 (0, 0))) ∧ Hid (Below w.heap.size w wr)) (fun i _ _ _ => m2 - (intOf i).toNat)
  case atStart => exact ⟨0, e3, f3, Nat.zero_le _, rfl, rfl, R3.out, HK5.out, HX5.out, HB5.out⟩
  case round =>
    clear HK5 HX5 HB5 R3
    obtain ⟨k, va, vc, hk, rfl, rfl, hR, hK, hX, hB⟩ := hrel
    by_cases hlt : k < m2
    · obtain ⟨bb, off, rfl, _⟩ := HC.out.s2.addr (show 0 < m2 by omega)
      obtain ⟨qx, qy⟩ := (HC.out.below hB.out).s2.cells k hlt (0, 0)
      have hl4 := HLT.out k (by rw [HG.out]; exact hlt)
      have hsn : c.gates.take (k + 1) = c.gates.take k ++ [c.gates.getD k (0, 0)] := by
        rw [List.take_add_one, List.getElem?_eq_getElem (by rw [HG.out]; exact hlt)]; simp [List.getD, List.getElem?_eq_getElem (show k < c.gates.length by rw [HG.out]; exact hlt)]
      obtain ⟨p, hp⟩ : ∃ t, t = c.gates.getD k (0, 0) := ⟨_, rfl⟩
      rw [← hp] at qx qy hl4 hsn
      obtain ⟨x, y⟩ := p
      simp only [nv32] at qx qy
      simp only at hl4
      have hGS : kw.gates (c.gates.take (k + 1)) V0 = kw.gates (c.gates.take k) V0 ++ [kw.an (kw.val (kw.gates (c.gates.take k) V0) x) (kw.val (kw.gates (c.gates.take k) V0) y)] := by rw [hsn, Kd.gates_snoc]
      have hVI := gatesw_in (c.gates.take k) V0 HI0.out
      obtain ⟨V, hV⟩ : ∃ V, V = kw.gates (c.gates.take k) V0 := ⟨_, rfl⟩
      rw [← hV] at hGS hR hVI
      have hsum : 1 + (ins.length + st.length) + k = N0 + k := by rw [HNE.out, HN1.out, HN2.out]; omega
      rw [hsum] at hl4
      have HL4 := Lib.hid hl4
      have HVI := Lib.hid hVI
      clear hl4 hsum hVI hV hsn hp
      have W1' : IntKind.i64.wrap ((k : Int) + 1) = (k : Int) + 1 := IntWalk.i64_in _ (by have := HF.out; omega)
      go_upto_region 8 with fail
      generalize hW : World.alloc wr _ = X0
      have B0 : Below wr.heap.size wr X0 := by subst hW; exact ext_alloc _ _
      have hGB : X0.heap[wr.heap.size]? = some (.cells #[.int .u32 (x : Int), .int .u32 (y : Int)] 73 (0, 0)) := by subst hW; exact heap_new _ _ _ rfl
      have HKX := Lib.hid (heap_below hK.out B0)
      have HXX := Lib.hid (heap_below hX.out B0)
      have HRX := Lib.hid (hR.out.below B0)
      have HBX := Lib.hid (ext_trans hB.out B0)
      have HGB := Lib.hid hGB
      have HS0 : Hid (X0.cell? ⟨w.heap.size, 0, none⟩ = some (.int .u64 18446744073709551615) ∧ X0.cell? ⟨w.heap.size, 1, none⟩ = some (.int .u64 0) ∧ X0.cell? ⟨w.heap.size, 2, none⟩ = some (.func (.func 86) #[] #[]) ∧ X0.cell? ⟨w.heap.size, 3, none⟩ = some (.func (.func 87) #[] #[]) ∧ X0.cell? ⟨wr.heap.size, 0, none⟩ = some (.int .u32 (x : Int)) ∧ X0.cell? ⟨wr.heap.size, 1, none⟩ = some (.int .u32 (y : Int))) := ⟨cell_of_block HKX.out 0, cell_of_block HKX.out 1, cell_of_block HKX.out 2, cell_of_block HKX.out 3, cell_of_block hGB 0, cell_of_block hGB 1⟩
      clear hW hK hX hB qx qy B0 hGB hR
      obtain ⟨na, hna⟩ : ∃ na, na = kw.val V x := ⟨_, rfl⟩
      obtain ⟨nb, hnb⟩ : ∃ nb, nb = kw.val V y := ⟨_, rfl⟩
      have HEA : Hid (∀ W, Below X0.heap.size X0 W → Calls Try.prog 89 #[.agg #[.int .u64 18446744073709551615, .int .u64 0, .func (.func 86) #[] #[], .func (.func 87) #[] #[]], .slice (some ⟨va, 0, none⟩) (N0 + k) vc, .int .u32 (x : Int)] W fun e w' => e = .returned (.agg #[.int .u64 (na.1 : Nat), .int .u64 (na.2 : Nat)]) ∧ Below W.heap.size W w') := fun W hb => by
        rw [hna]; exact valuew_any V _ va (N0 + k) vc x W (HRX.out.below hb) HVI.out HL4.out.1 HL4.out.2.2.1
      have HEB : Hid (∀ W, Below X0.heap.size X0 W → Calls Try.prog 89 #[.agg #[.int .u64 18446744073709551615, .int .u64 0, .func (.func 86) #[] #[], .func (.func 87) #[] #[]], .slice (some ⟨va, 0, none⟩) (N0 + k) vc, .int .u32 (y : Int)] W fun e w' => e = .returned (.agg #[.int .u64 (nb.1 : Nat), .int .u64 (nb.2 : Nat)]) ∧ Below W.heap.size W w') := fun W hb => by
        rw [hnb]; exact valuew_any V _ va (N0 + k) vc y W (HRX.out.below hb) HVI.out HL4.out.2.1 HL4.out.2.2.2
      obtain ⟨nc, hnc⟩ : ∃ nc, nc = kw.an na nb := ⟨_, rfl⟩
      have HEC : Hid (∀ W, Calls Try.prog 87 #[.agg #[.int .u64 (na.1 : Nat), .int .u64 (na.2 : Nat)], .agg #[.int .u64 (nb.1 : Nat), .int .u64 (nb.2 : Nat)]] W fun e w' => e = .returned (.agg #[.int .u64 (nc.1 : Nat), .int .u64 (nc.2 : Nat)]) ∧ Below W.heap.size W w') := fun W => by
        rw [hnc]; exact tand_any na nb (by rw [hna]; exact valw_in HVI.out _) (by rw [hnb]; exact valw_in HVI.out _) W
      have HGS : Hid (kw.gates (c.gates.take (k + 1)) V0 = V ++ [nc]) := by show _ = _; rw [hGS, hnc, hna, hnb]
      obtain ⟨na1, na2⟩ := na
      obtain ⟨nb1, nb2⟩ := nb
      obtain ⟨nc1, nc2⟩ := nc
      simp only at HEA HEB HEC
      clear hna hnb hnc hGS
      have HQ4 : Hid (N0 + k + 1 ≤ maxLen) := by show _ ≤ _; unfold maxLen; have := HF.out; have := HNE.out; omega
      have HQ5 : Hid ((N0 + k + 1) * 16 ≤ 140737488355328) := by show _ ≤ _; have := HF.out; have := HNE.out; omega
      refine wp_region_noPanic ?_
      refine wp_region_held (S := fun w' => w'.cell? ⟨w.heap.size, 0, none⟩ = some (.int .u64 18446744073709551615) ∧ w'.cell? ⟨w.heap.size, 1, none⟩ = some (.int .u64 0) ∧ w'.cell? ⟨w.heap.size, 2, none⟩ = some (.func (.func 86) #[] #[]) ∧ w'.cell? ⟨w.heap.size, 3, none⟩ = some (.func (.func 87) #[] #[]) ∧ w'.cell? ⟨wr.heap.size, 0, none⟩ = some (.int .u32 (x : Int)) ∧ w'.cell? ⟨wr.heap.size, 1, none⟩ = some (.int .u32 (y : Int))) (by kernel_rfl) ?_
      generalize hY : ({ X0 with drawn := X0.drawn + 1 } : World) = Y0
      have hY0 : Below X0.heap.size X0 Y0 := by subst hY; exact (Below.refl _ _).drew
      have HSD := Lib.hid (keep6w HS0.out hY0)
      have HYB := Lib.hid hY0
      clear hY hY0 HS0
      refine wpAnyH_take (i := 0) (v := ?_) (by simp only [List.getElem?_toArray, List.getElem?_cons_zero]; rfl) (by kernel_rfl) (by kernel_rfl) (by kernel_rfl) (fun _ _ _ h => h) (Or.inl ⟨by rfl, ?_⟩) HSD.out ?_
      rotate_left
      · intro w hSw
        (try dsimp only at hSw)
        obtain ⟨q0_, q1_, q2_, q3_, q4_, q5_⟩ := hSw
        go_simp
        try with_reducible rfl
      try simp only [Act.put, List.setIfInBounds_toArray, List.set_cons_zero, List.set_cons_succ]
      refine wpAnyH_take (i := 1) (v := ?_) (by simp only [List.getElem?_toArray, List.getElem?_cons_zero, List.getElem?_cons_succ]; rfl) (by kernel_rfl) (by kernel_rfl) (by kernel_rfl) (fun _ _ _ h => h) (Or.inl ⟨by rfl, ?_⟩) HSD.out ?_
      rotate_left
      · intro w hSw
        (try dsimp only at hSw)
        obtain ⟨q0_, q1_, q2_, q3_, q4_, q5_⟩ := hSw
        go_simp
        try with_reducible rfl
      try simp only [Act.put, List.setIfInBounds_toArray, List.set_cons_zero, List.set_cons_succ]
      refine wpAnyH_take (i := 2) (v := ?_) (by simp only [List.getElem?_toArray, List.getElem?_cons_zero, List.getElem?_cons_succ]; rfl) (by kernel_rfl) (by kernel_rfl) (by kernel_rfl) (fun _ _ _ h => h) (Or.inl ⟨by rfl, ?_⟩) HSD.out ?_
      rotate_left
      · intro w hSw
        (try dsimp only at hSw)
        obtain ⟨q0_, q1_, q2_, q3_, q4_, q5_⟩ := hSw
        go_simp
        try with_reducible rfl
      try simp only [Act.put, List.setIfInBounds_toArray, List.set_cons_zero, List.set_cons_succ]
      refine wpAnyH_take (i := 3) (v := ?_) (by simp only [List.getElem?_toArray, List.getElem?_cons_zero, List.getElem?_cons_succ]; rfl) (by kernel_rfl) (by kernel_rfl) (by kernel_rfl) (fun _ _ _ h => h) (Or.inl ⟨by rfl, ?_⟩) HSD.out ?_
      rotate_left
      · intro w hSw
        (try dsimp only at hSw)
        obtain ⟨q0_, q1_, q2_, q3_, q4_, q5_⟩ := hSw
        go_simp
        try with_reducible rfl
      try simp only [Act.put, List.setIfInBounds_toArray, List.set_cons_zero, List.set_cons_succ]
      refine wpAnyH_take (i := 4) (v := ?_) (by simp only [List.getElem?_toArray, List.getElem?_cons_zero, List.getElem?_cons_succ]; rfl) (by kernel_rfl) (by kernel_rfl) (by kernel_rfl) (fun _ _ _ h => h) (Or.inl ⟨by rfl, ?_⟩) HSD.out ?_
      rotate_left
      · intro w hSw
        (try dsimp only at hSw)
        obtain ⟨q0_, q1_, q2_, q3_, q4_, q5_⟩ := hSw
        go_simp
        try with_reducible rfl
      try simp only [Act.put, List.setIfInBounds_toArray, List.set_cons_zero, List.set_cons_succ]
      refine wpAnyH_take (i := 5) (v := ?_) (by simp only [List.getElem?_toArray, List.getElem?_cons_zero, List.getElem?_cons_succ]; rfl) (by kernel_rfl) (by kernel_rfl) (by kernel_rfl) (fun _ _ _ h => h) (Or.inl ⟨by rfl, ?_⟩) HSD.out ?_
      rotate_left
      · intro w hSw
        (try dsimp only at hSw)
        obtain ⟨q0_, q1_, q2_, q3_, q4_, q5_⟩ := hSw
        go_simp
        try with_reducible rfl
      try simp only [Act.put, List.setIfInBounds_toArray, List.set_cons_zero, List.set_cons_succ]
      refine wpAnyH_take (i := 6) (v := ?_) (by simp only [List.getElem?_toArray, List.getElem?_cons_zero, List.getElem?_cons_succ]; rfl) (by kernel_rfl) (by kernel_rfl) (by kernel_rfl) (fun _ _ _ h => h) (Or.inl ⟨by rfl, ?_⟩) HSD.out ?_
      rotate_left
      · intro w hSw
        (try dsimp only at hSw)
        obtain ⟨q0_, q1_, q2_, q3_, q4_, q5_⟩ := hSw
        go_simp
        try with_reducible rfl
      try simp only [Act.put, List.setIfInBounds_toArray, List.set_cons_zero, List.set_cons_succ]
      refine wpAnyH_take (i := 8) (v := ?_) (by simp only [List.getElem?_toArray, List.getElem?_cons_zero, List.getElem?_cons_succ]; rfl) (by kernel_rfl) (by kernel_rfl) (by kernel_rfl) (fun _ _ _ h => h) (Or.inl ⟨by rfl, ?_⟩) HSD.out ?_
      rotate_left
      · intro w hSw
        (try dsimp only at hSw)
        obtain ⟨q0_, q1_, q2_, q3_, q4_, q5_⟩ := hSw
        go_simp
        try with_reducible rfl
      try simp only [Act.put, List.setIfInBounds_toArray, List.set_cons_zero, List.set_cons_succ]
      refine wpAnyH_take (i := 9) (v := ?_) (by simp only [List.getElem?_toArray, List.getElem?_cons_zero, List.getElem?_cons_succ]; rfl) (by kernel_rfl) (by kernel_rfl) (by kernel_rfl) (fun _ _ _ h => h) (Or.inl ⟨by rfl, ?_⟩) HSD.out ?_
      rotate_left
      · intro w hSw
        (try dsimp only at hSw)
        obtain ⟨q0_, q1_, q2_, q3_, q4_, q5_⟩ := hSw
        go_simp
        try with_reducible rfl
      try simp only [Act.put, List.setIfInBounds_toArray, List.set_cons_zero, List.set_cons_succ]
      refine wpAnyH_take (i := 10) (v := ?_) (by simp only [List.getElem?_toArray, List.getElem?_cons_zero, List.getElem?_cons_succ]; rfl) (by kernel_rfl) (by kernel_rfl) (by kernel_rfl) (fun _ _ _ h => h) (Or.inl ⟨by rfl, ?_⟩) HSD.out ?_
      rotate_left
      · intro w hSw
        (try dsimp only at hSw)
        obtain ⟨q0_, q1_, q2_, q3_, q4_, q5_⟩ := hSw
        go_simp
        try with_reducible rfl
      try simp only [Act.put, List.setIfInBounds_toArray, List.set_cons_zero, List.set_cons_succ]
      refine wpAnyH_take (i := 11) (v := ?_) (by simp only [List.getElem?_toArray, List.getElem?_cons_zero, List.getElem?_cons_succ]; rfl) (by kernel_rfl) (by kernel_rfl) (by kernel_rfl) (fun _ _ _ h => h) (Or.inl ⟨by rfl, ?_⟩) HSD.out ?_
      rotate_left
      · intro w hSw
        (try dsimp only at hSw)
        obtain ⟨q0_, q1_, q2_, q3_, q4_, q5_⟩ := hSw
        go_simp
        try with_reducible rfl
      try simp only [Act.put, List.setIfInBounds_toArray, List.set_cons_zero, List.set_cons_succ]
      refine wpAnyH_ready (rs := [7]) (by kernel_rfl) (by simp) ?_
      refine AllReadyH.cons (by simp only [List.getElem?_toArray, List.getElem?_cons_zero, List.getElem?_cons_succ]; rfl) (fun K hK => ?_) AllReadyH.nil
      go_simp
      refine (HEA.out _ HYB.out).mono ?_
      rintro e s1 ⟨rfl, b1_⟩
      have HD1 := Lib.hid (ext_trans HYB.out b1_)
      have HS1 := Lib.hid (keep6w HSD.out b1_)
      clear b1_
      refine hK.out _ _ HS1.out (fun _ => ?_)
      clear hK K
      try simp only [Act.put, List.setIfInBounds_toArray, List.set_cons_zero, List.set_cons_succ]
      refine wpAnyH_ready (rs := [12]) (by kernel_rfl) (by simp) ?_
      refine AllReadyH.cons (by simp only [List.getElem?_toArray, List.getElem?_cons_zero, List.getElem?_cons_succ]; rfl) (fun K hK => ?_) AllReadyH.nil
      go_simp
      refine (HEB.out _ HD1.out).mono ?_
      rintro e s2 ⟨rfl, b2_⟩
      have HD2 := Lib.hid (ext_trans HD1.out b2_)
      have HS2 := Lib.hid (keep6w HS1.out b2_)
      clear b2_
      refine hK.out _ _ HS2.out (fun _ => ?_)
      clear hK K
      try simp only [Act.put, List.setIfInBounds_toArray, List.set_cons_zero, List.set_cons_succ]
      refine wpAnyH_ready (rs := [13]) (by kernel_rfl) (by simp) ?_
      refine AllReadyH.cons (by simp only [List.getElem?_toArray, List.getElem?_cons_zero, List.getElem?_cons_succ]; rfl) (fun K hK => ?_) AllReadyH.nil
      go_simp
      refine (HEC.out _).mono ?_
      rintro e s3 ⟨rfl, b3_⟩
      have HD3 := Lib.hid (ext_trans HD2.out b3_)
      have HS3 := Lib.hid (keep6w HS2.out b3_)
      clear b3_
      refine hK.out _ _ HS3.out (fun _ => ?_)
      clear hK K
      try simp only [Act.put, List.setIfInBounds_toArray, List.set_cons_zero, List.set_cons_succ]
      refine wpAnyH_ready (rs := [14]) (by kernel_rfl) (by simp) ?_
      refine AllReadyH.cons (by simp only [List.getElem?_toArray, List.getElem?_cons_zero, List.getElem?_cons_succ]; rfl) (fun K hK => ?_) AllReadyH.nil
      go_simp
      have HS4 := Lib.hid (keep6w HS3.out (ext_alloc s3 (.cells #[.int .u64 (nc1 : Int), .int .u64 (nc2 : Int)] 106)))
      have HD4 := Lib.hid (ext_trans HD3.out (ext_alloc s3 (.cells #[.int .u64 (nc1 : Int), .int .u64 (nc2 : Int)] 106)))
      have HR4 := Lib.hid (HRX.out.below HD4.out)
      refine hK.out _ _ HS4.out (fun _ => ?_)
      clear hK K
      try simp only [Act.put, List.setIfInBounds_toArray, List.set_cons_zero, List.set_cons_succ]
      refine wpAnyH_ready (rs := [15]) (by kernel_rfl) (by simp) ?_
      refine AllReadyH.cons (by simp only [List.getElem?_toArray, List.getElem?_cons_zero, List.getElem?_cons_succ]; rfl) (fun K hK => ?_) AllReadyH.nil
      refine step_append_own_at rfl _ _ 113 rfl w.heap.size 106 i0 (.agg #[.int .u64 0, .int .u64 0]) 2 16 Try.underlying113 hi hz0 hz1 hz2 rfl (by decide) (.slice (some ⟨va, 0, none⟩) (N0 + k) vc) (N0 + k) (wcs V) (by simp [Act.eval]) HR4.out.own ⟨s3.heap.size, 0, none⟩ 1 1 [.int .u64 (nc1 : Int), .int .u64 (nc2 : Int)] (by simp [Act.eval]) rfl (cell_two_new _ _ _ _) (by simp [Value.oneCell']) HQ4.out HQ5.out (ext_trans HBX.out HD4.out).size ?_
      intro v5 w5 r5 g5
      obtain ⟨fa, fc, hv5⟩ : ∃ g c, v5 = .slice (some ⟨g, 0, none⟩) (N0 + k + 1) c := by
        rcases r5.2 with ⟨_, h0⟩ | ⟨g, cap, cur, h1, _⟩
        · omega
        · exact ⟨g, cap, h1⟩
      subst hv5
      have HK5 := Lib.hid (heap_grown (heap_below HKX.out HD4.out) g5 (ownsN_notown HR4.out.own (heap_below HKX.out HD4.out) (by decide)))
      have HX5 := Lib.hid (heap_grown (heap_below HXX.out HD4.out) g5 (ownsN_notown HR4.out.own (heap_below HXX.out HD4.out) (by decide)))
      have HB5 := Lib.hid ((ext_trans HBX.out HD4.out).grown g5 (ext_trans HBX.out HD4.out).size (fun q hq => (HR4.out.own.lt q hq).1))
      have hgz : w5.heap[wr.heap.size]? = some (.cells #[.int .u32 (x : Int), .int .u32 (y : Int)] 73 (0, 0)) := heap_grown (heap_below HGB.out HD4.out) g5 (ownsN_notown HR4.out.own (heap_below HGB.out HD4.out) (by decide))
      have HS5 : Hid (w5.cell? ⟨w.heap.size, 0, none⟩ = some (.int .u64 18446744073709551615) ∧ w5.cell? ⟨w.heap.size, 1, none⟩ = some (.int .u64 0) ∧ w5.cell? ⟨w.heap.size, 2, none⟩ = some (.func (.func 86) #[] #[]) ∧ w5.cell? ⟨w.heap.size, 3, none⟩ = some (.func (.func 87) #[] #[]) ∧ w5.cell? ⟨wr.heap.size, 0, none⟩ = some (.int .u32 (x : Int)) ∧ w5.cell? ⟨wr.heap.size, 1, none⟩ = some (.int .u32 (y : Int))) := ⟨cell_of_block HK5.out 0, cell_of_block HK5.out 1, cell_of_block HK5.out 2, cell_of_block HK5.out 3, cell_of_block hgz 0, cell_of_block hgz 1⟩
      have HR5 : Hid (OwnW w5 w.heap.size fa (N0 + (k + 1)) fc (V ++ [(nc1, nc2)])) := ⟨by rw [List.length_append, HR4.out.1]; rfl, by rw [wcs_append]; exact r5⟩
      clear r5 g5 hgz
      refine hK.out _ _ HS5.out (fun _ => ?_)
      clear hK K
      try simp only [Act.put, List.setIfInBounds_toArray, List.set_cons_zero, List.set_cons_succ]
      refine wpAnyH_take (i := 16) (v := ?_) (by simp only [List.getElem?_toArray, List.getElem?_cons_zero, List.getElem?_cons_succ]; rfl) (by kernel_rfl) (by kernel_rfl) (by kernel_rfl) (fun _ _ _ h => h) (Or.inl ⟨by rfl, ?_⟩) HS5.out ?_
      rotate_left
      · intro w hSw
        (try dsimp only at hSw)
        obtain ⟨q0_, q1_, q2_, q3_, q4_, q5_⟩ := hSw
        go_simp
        try with_reducible rfl
      try simp only [Act.put, List.setIfInBounds_toArray, List.set_cons_zero, List.set_cons_succ]
      refine wpAnyH_done (by kernel_rfl) ?_ _
      refine NoPanic.normal ?_
      clear HSD HS1 HS2 HS3 HS4 HS5
      go_wp2
      go_roundw
      case rel => exact ⟨k + 1, fa, fc, by omega, by go_num, rfl, (by rw [HGS.out]; exact HR5.out), HK5.out, HX5.out, HB5.out⟩
      case measure => simp [intOf]; omega
    · obtain rfl : m2 = k := by omega
      rw [List.take_of_length_le (by rw [HG.out]; exact Nat.le_refl _)] at hR
      have hVV : kw.gates c.gates V0 = kw.vars c st ins := by rw [HV0.out]; rfl
      rw [hVV] at hR
      have hVIN : ∀ x ∈ kw.vars c st ins, x.in := by rw [← hVV]; exact gatesw_in _ _ HI0.out
      clear hVV
      obtain ⟨VS, hVS⟩ : ∃ VS, VS = kw.vars c st ins := ⟨_, rfl⟩
      rw [← hVS] at hR hVIN
      have hVL : VS.length = N0 + m2 := hR.out.1
      have HLL : Hid (∀ j, j < m1 → (c.lats.getD j (0, 0)).1 / 2 < N0 + m2 ∧ (c.lats.getD j (0, 0)).1 < 4294967296) := fun j hj => by
        have h1 := (hm.lats _ (getD_mem (d := (0, 0)) (show j < c.lats.length by rw [HLA.out]; exact hj))).1
        have h2 : varsN c = n2 + m1 + m2 := by
          unfold varsN
          have h3 := HINS.out
          rw [HG.out, HLA.out]
          omega
        have h4 := HF.out
        have h5 := HNE.out
        omega
      have HVS := Lib.hid hVS
      have HVL := Lib.hid hVL
      have HVIN := Lib.hid hVIN
      have hnl : (kw.next c VS).length = m1 := by rw [Kd.next_len, HLA.out]
      obtain ⟨NS, hNS⟩ : ∃ NS, NS = kw.next c VS := ⟨_, rfl⟩
      rw [← hNS] at hnl
      have HNL := Lib.hid hnl
      have HNA : Hid (∀ j, j < m1 → NS.getD j (0, 0) = kw.val VS (c.lats.getD j (0, 0)).1) := fun j hj => by
        have e2 : j < c.lats.length := by rw [HLA.out]; exact hj
        rw [hNS]
        simp [Kd.next, List.getD, List.getElem?_eq_getElem e2]
      have HNS := Lib.hid hNS
      have mk2 := mk2'.out
      have q1 := cell_of_block hX.out 1
      clear hVS hVL hlt hk HLT hVIN hnl hNS
      go_upto_region 11 with fail
      generalize hW : World.alloc wr _ = X0
      have B0 : Below wr.heap.size wr X0 := by subst hW; exact ext_alloc _ _
      obtain ⟨F, hF⟩ : ∃ F, F = wr.heap.size := ⟨_, rfl⟩
      have hFB : X0.heap[F]? = some (.cells (wcells (NS.take 0 ++ List.replicate (m1 - 0) (0, 0))) 106 (0, 0)) := by subst hW; subst hF; simp only [List.take_zero, List.nil_append, Nat.sub_zero]; exact heap_new _ _ _ rfl
      have hFw : w.heap.size ≤ F := by rw [hF]; exact hB.out.size
      have HKX := Lib.hid (heap_below hK.out B0)
      have HXX := Lib.hid (heap_below hX.out B0)
      have HRX := Lib.hid (hR.out.below B0)
      have HBX := Lib.hid (ext_trans hB.out B0)
      have HFB := Lib.hid hFB
      have HK1 : Hid (w.heap.size ≠ F) := by have := heap_lt hK.out; show _ ≠ _; omega
      have HX1 : Hid (w.heap.size + 1 ≠ F) := by have := heap_lt hX.out; show _ ≠ _; omega
      have HR1 : Hid (va ≠ F) := by obtain ⟨_, h, _⟩ := hR.out.block; show _ ≠ _; omega
      have HFW := Lib.hid hFw
      rw [← hF]
      clear hW hF hK hX hR hB B0 hFB q1 mk2 hFw
      have q1 := cell_of_block HXX.out 1
      go_wp2_with fail
      clear q1
      go_loopw [67, 12, 13] (fun i _ _ wr2 => ∃ (k : Nat), k ≤ m1 ∧ i = .int .i64 k ∧ Hid (wr2.heap[F]? = some (.cells (wcells (NS.take k ++ List.replicate (m1 - k) (0, 0))) 106 (0, 0))) ∧ Hid (OwnW wr2 w.heap.size va (N0 + m2) vc VS) ∧
        Hid (wr2.heap[w.heap.size]? = some (.cells #[.int .u64 18446744073709551615, .int .u64 0, .func (.func 86) #[] #[], .func (.func 87) #[] #[]] 110 (0, 0))) ∧ Hid (wr2.heap[w.heap.size + 1]? = some (.cells #[.int .i64 c.ins, .slice b1 m1 d1, .slice b2 m2 d2, .slice b3 m3 d3, .slice b4 m4 d4, .slice b5 m5 d5] 26 (0, 0))) ∧ Hid (Below w.heap.size w wr2)) (fun i _ _ _ => m1 - (intOf i).toNat)
      case atStart => exact ⟨0, Nat.zero_le _, rfl, HFB.out, HRX.out, HKX.out, HXX.out, HBX.out⟩
      case round =>
        clear HKX HXX HRX HBX HFB
        obtain ⟨k, hk, rfl, hFB, hR, hK, hX, hB⟩ := hrel
        by_cases hlt : k < m1
        · obtain ⟨bb, off, rfl, _⟩ := HC.out.s1.addr (show 0 < m1 by omega)
          obtain ⟨qx, qy⟩ := (HC.out.below hB.out).s1.cells k hlt (0, 0)
          have hl4 := HLL.out k hlt
          have hnv := HNA.out k hlt
          obtain ⟨p, hp⟩ : ∃ t, t = c.lats.getD k (0, 0) := ⟨_, rfl⟩
          rw [← hp] at qx qy hl4 hnv
          clear hp
          obtain ⟨x, y⟩ := p
          simp only [nv32, nv8] at qx qy
          simp only at hl4 hnv
          have W1' : IntKind.i64.wrap ((k : Int) + 1) = (k : Int) + 1 := IntWalk.i64_in _ (by have := HF.out; omega)
          go_upto_region 14 with fail
          generalize hW : World.alloc wr _ = X1
          have B0 : Below wr.heap.size wr X1 := by subst hW; exact ext_alloc _ _
          have hGB : X1.heap[wr.heap.size]? = some (.cells #[.int .u32 (x : Int), .int .u8 (y : Int)] 75 (0, 0)) := by subst hW; exact heap_new _ _ _ rfl
          have HV : Hid (Calls Try.prog 89 #[.agg #[.int .u64 18446744073709551615, .int .u64 0, .func (.func 86) #[] #[], .func (.func 87) #[] #[]], .slice (some ⟨va, 0, none⟩) (N0 + m2) vc, .int .u32 (x : Int)] X1 fun e w' => e = .returned (.agg #[.int .u64 ((NS.getD k (0, 0)).1 : Nat), .int .u64 ((NS.getD k (0, 0)).2 : Nat)]) ∧ Below X1.heap.size X1 w') := by
            rw [hnv]; exact valuew_any VS _ va (N0 + m2) vc x X1 (hR.out.below B0) HVIN.out hl4.1 hl4.2
          have p0 : X1.cell? ⟨w.heap.size, 0, none⟩ = some (.int .u64 18446744073709551615) := cell_of_block (heap_below hK.out B0) 0
          have p1 : X1.cell? ⟨w.heap.size, 1, none⟩ = some (.int .u64 0) := cell_of_block (heap_below hK.out B0) 1
          have p2 : X1.cell? ⟨w.heap.size, 2, none⟩ = some (.func (.func 86) #[] #[]) := cell_of_block (heap_below hK.out B0) 2
          have p3 : X1.cell? ⟨w.heap.size, 3, none⟩ = some (.func (.func 87) #[] #[]) := cell_of_block (heap_below hK.out B0) 3
          have p4 : X1.cell? ⟨wr.heap.size, 0, none⟩ = some (.int .u32 (x : Int)) := cell_of_block hGB 0
          have HB0 := Lib.hid B0
          obtain ⟨z, hz⟩ : ∃ z, z = NS.getD k (0, 0) := ⟨_, rfl⟩
          rw [← hz] at HV
          have HZE := Lib.hid hz
          obtain ⟨z1, z2⟩ := z
          simp only at HV
          clear hW qx qy B0 hGB hl4 hnv hz
          go_wp2_with fail
          refine HV.out.mono ?_
          rintro e X2 ⟨rfl, b2⟩
          have hb := ext_trans HB0.out b2
          have HFZ := Lib.hid (heap_below hFB.out hb)
          have HRZ := Lib.hid (hR.out.below hb)
          have HKZ := Lib.hid (heap_below hK.out hb)
          have HXZ := Lib.hid (heap_below hX.out hb)
          have HBZ := Lib.hid (ext_trans hB.out hb)
          clear p0 p1 p2 p3 p4 b2 hb HB0 HV hFB hR hK hX hB
          have hgt := wcells_get (NS.take k ++ List.replicate (m1 - k) (0, 0)) k (by rw [fill_len NS _ k m1 HNL.out hk]; exact hlt)
          rw [fill_get NS _ k m1 HNL.out hlt] at hgt
          have f0 : X2.cell? ⟨F, k * 2, none⟩ = some (.int .u64 0) := (cell_of_block HFZ.out (k * 2)).trans hgt.1
          have f1 : X2.cell? ⟨F, k * 2 + 1, none⟩ = some (.int .u64 0) := (cell_of_block HFZ.out (k * 2 + 1)).trans hgt.2
          have f2 := unfrozen_of_block HFZ.out (k * 2)
          have f3 := unfrozen_of_block HFZ.out (k * 2 + 1)
          clear hgt
          go_wp2
          go_roundw
          case rel =>
            refine ⟨k + 1, by omega, by go_num, ?_, ?_, ?_, ?_, ?_⟩
            · have h1 := block_setCell HFZ.out (i := k * 2) (.int .u64 (z1 : Int))
              have h2 := block_setCell h1 (i := k * 2 + 1) (.int .u64 (z2 : Int))
              refine h2.trans ?_
              rw [← fill_set NS (0, 0) k m1 HNL.out hlt, ← wcells_set, ← HZE.out]
              rfl
            · exact HRZ.out.other ((Below.heap_setCell _ ⟨F, k * 2 + 1, none⟩ _ _ HR1.out).trans (Below.heap_setCell X2 ⟨F, k * 2, none⟩ _ _ HR1.out))
            · exact ((Below.heap_setCell _ ⟨F, k * 2 + 1, none⟩ _ _ HK1.out).trans (Below.heap_setCell X2 ⟨F, k * 2, none⟩ _ _ HK1.out)).trans HKZ.out
            · exact ((Below.heap_setCell _ ⟨F, k * 2 + 1, none⟩ _ _ HX1.out).trans (Below.heap_setCell X2 ⟨F, k * 2, none⟩ _ _ HX1.out)).trans HXZ.out
            · exact (HBZ.out.setCell (p := ⟨F, k * 2, none⟩) HFW.out _).setCell (p := ⟨F, k * 2 + 1, none⟩) HFW.out _
          case measure => simp [intOf]; omega
        · obtain rfl : m1 = k := by omega
          go_wp2
          go_ret2
          have h1 := hFB.out
          rw [Nat.sub_self, List.replicate_zero, List.append_nil, List.take_of_length_le (by rw [HNL.out]; exact Nat.le_refl _)] at h1
          rw [← HVS.out, ← HNS.out]
          refine ⟨va, vc, F, m1, by rw [HVL.out, HNL.out]; rfl, by rw [HVL.out]; exact hR.out, ?_, hB.out⟩
          rw [HNL.out]
          exact ownW_cells _ HFW.out h1 HNL.out (by have := HF.out; omega)
end Go.Proofs.Ytjmdgbdlhaaefaa
namespace Go.Proofs.Ytjmdgbdlhaaefaa
open Go Go.RowKit Go.Joins

def t00 : TraceC := ⟨0, [], []⟩
def st00 : TSlots := ⟨none, 0, 0, none, 0, 0, []⟩
/-- The slice (a, n, c) of traces reads as these. -/
structure TsSee (w : World) (a : Option Addr) (n c : Nat) (sts : List TSlots) (ts : List TraceC) : Prop where
  l1 : sts.length = n
  l2 : ts.length = n
  nc : n ≤ c
  cells : 0 < n → ∃ b, a = some ⟨b, 0, none⟩ ∧ b < w.heap.size ∧ ∀ k, k < n → w.cell? ⟨b, k * 3, none⟩ = some (.int .i64 (ts.getD k t00).bad) ∧ w.cell? ⟨b, k * 3 + 1, none⟩ = some (.slice (sts.getD k st00).a1 (sts.getD k st00).n1 (sts.getD k st00).c1) ∧ w.cell? ⟨b, k * 3 + 2, none⟩ = some (.slice (sts.getD k st00).a2 (sts.getD k st00).n2 (sts.getD k st00).c2)
  each : ∀ k, k < n → SeesTr w (sts.getD k st00) (ts.getD k t00)
  small : ∀ k, k < n → (sts.getD k st00).small
theorem TsSee.below {w w' : World} {a : Option Addr} {n c : Nat} {sts : List TSlots} {ts : List TraceC} (h : TsSee w a n c sts ts) (hb : Below w.heap.size w w') : TsSee w' a n c sts ts :=
  ⟨h.l1, h.l2, h.nc, fun h0 => by
    obtain ⟨b, e, hlt, hc⟩ := h.cells h0
    refine ⟨b, e, Nat.lt_of_lt_of_le hlt hb.size, fun k hk => ?_⟩
    obtain ⟨x, y, z⟩ := hc k hk
    exact ⟨(hb.cell (p := ⟨b, k * 3, none⟩) hlt).trans x, (hb.cell (p := ⟨b, k * 3 + 1, none⟩) hlt).trans y, (hb.cell (p := ⟨b, k * 3 + 2, none⟩) hlt).trans z⟩, fun k hk => (h.each k hk).below hb, h.small⟩

/-- The values at one place, of all traces. -/
def colL (P : TraceC → List UInt8) (ts : List TraceC) (n i : Nat) : List UInt8 := (List.range n).map fun q => (P (ts.getD q t00)).getD i 0
def packL (P : TraceC → List UInt8) (ts : List TraceC) (n m : Nat) : List W2 := (List.range m).map fun i => (ofR (colL P ts n i)).1
theorem packL_len (P : TraceC → List UInt8) (ts : List TraceC) (n m : Nat) : (packL P ts n m).length = m := by simp [packL]
theorem packL_at (P : TraceC → List UInt8) (ts : List TraceC) (n m k : Nat) (h : k < m) : (packL P ts n m).getD k (0, 0) = (ofR (colL P ts n k)).1 := by
  simp [packL, List.getD, h]
theorem sees_fcells {w : World} {D n : Nat} {g : Nat → UInt8} (h : w.heap[D]? = some (.cells (fcells n (fun q => bv (g q))) 5 (0, 0))) : Sees w (some ⟨D, 0, none⟩) n n (((List.range n).map g).map bv) := by
  refine ⟨by simp, Nat.le_refl _, (fun e => by cases e), fun _ => ⟨D, 0, rfl, heap_lt h, fun j hj => ?_⟩⟩
  rw [Nat.zero_add, cell_of_block h j, fcells_get _ _ _ hj]
  simp [hj]

set_option maxRecDepth 100000 in
set_option maxHeartbeats 6400000 in
theorem packedA_any (P : TraceC → List UInt8) (pa : Nat → Slc) (m n c : Nat) (a : Option Addr) (sts : List TSlots) (ts : List TraceC) (w : World) (h : TsSee w a n c sts ts) (hn : 0 < n) (hn64 : n ≤ 64) (hm : m ≤ 1000000)
    (hlen : ∀ k, k < n → (P (ts.getD k t00)).length = m) (hpa : ∀ k, k < n → ∀ W, Below w.heap.size w W → Sees W (pa k).1 (pa k).2.1 (pa k).2.2 ((P (ts.getD k t00)).map bv))
    (hcall : ∀ k, k < n → ∀ W, Below w.heap.size w W → Calls Try.prog 91 (#[.agg #[.int .i64 (ts.getD k t00).bad, .slice (sts.getD k st00).a1 (sts.getD k st00).n1 (sts.getD k st00).c1, .slice (sts.getD k st00).a2 (sts.getD k st00).n2 (sts.getD k st00).c2]]) W fun e w' => e = .returned (.slice (pa k).1 (pa k).2.1 (pa k).2.2) ∧ Below W.heap.size W w') :
    Calls Try.prog 90 #[.slice a n c, .func (.func 91) #[] #[]] w fun e w' => ∃ g, e = .returned (.slice (some ⟨g, 0, none⟩) m m) ∧ OwnW w' w.heap.size g m m (packL P ts n m) ∧ Below w.heap.size w w' := by
  obtain ⟨i0, hi, hz0, hz1, hz2⟩ := info_parts info_word
  obtain ⟨iB, hiB, hzB0, hzB1, hzB2⟩ := info_parts info_byte
  obtain ⟨b, rfl, hblt, hcells⟩ := h.cells hn
  have mkw := fun W => run_makeW hi hz0 hz1 hz2 m m (m : Int) (m : Int) rfl rfl (Nat.le_refl _) hm W
  have mkb := fun W => run_make_n (P := Try.prog) Try.underlying27 hiB hzB0 hzB1 hzB2 rfl n (by omega) (by omega) W
  have HC : Hid (∀ k, k < n → ∀ W, Below w.heap.size w W → W.cell? ⟨b, k * 3, none⟩ = some (.int .i64 (ts.getD k t00).bad) ∧ W.cell? ⟨b, k * 3 + 1, none⟩ = some (.slice (sts.getD k st00).a1 (sts.getD k st00).n1 (sts.getD k st00).c1) ∧ W.cell? ⟨b, k * 3 + 2, none⟩ = some (.slice (sts.getD k st00).a2 (sts.getD k st00).n2 (sts.getD k st00).c2)) := fun k hk W hb => by
    obtain ⟨x, y, z⟩ := hcells k hk
    exact ⟨(hb.cell (p := ⟨b, k * 3, none⟩) hblt).trans x, (hb.cell (p := ⟨b, k * 3 + 1, none⟩) hblt).trans y, (hb.cell (p := ⟨b, k * 3 + 2, none⟩) hblt).trans z⟩
  have HCALL := Lib.hid hcall
  have HPA := Lib.hid hpa
  have HLEN := Lib.hid hlen
  have HPN : Hid (∀ k, k < n → (pa k).2.1 = m) := fun k hk => by rw [← hlen k hk]; exact (hpa k hk w (Below.refl _ _)).lenMap.symm
  have hnI : (n : Int) ≤ 64 := by omega
  have hn0 : (0 : Int) < (n : Int) := by omega
  have HNN : Hid (0 < n ∧ n ≤ 64) := ⟨hn, hn64⟩
  have HMM := Lib.hid hm
  have c0 := HC.out 0 hn w (Below.refl _ _)
  simp only [Nat.zero_mul, Nat.zero_add] at c0
  obtain ⟨p0, p1, p2⟩ := c0
  have hcall0 := HCALL.out 0 hn
  have hpn0 := HPN.out 0 hn
  obtain ⟨x, hx⟩ : ∃ x : Slc, x = pa 0 := ⟨_, rfl⟩
  rw [← hx] at hcall0 hpn0
  obtain ⟨xa, xn, xc⟩ := x
  simp only at hcall0 hpn0
  subst hpn0
  obtain ⟨z, hz⟩ : ∃ z, z = (ts.getD 0 t00).bad := ⟨_, rfl⟩
  obtain ⟨y, hy⟩ : ∃ y, y = sts.getD 0 st00 := ⟨_, rfl⟩
  rw [← hz] at p0 hcall0
  rw [← hy] at p1 p2 hcall0
  have HC0 := Lib.hid hcall0
  clear h hcells hlen hpa hcall hx hz hy hcall0 hn hn64 hm hblt
  have mkw' := Lib.hid mkw
  have mkb' := Lib.hid mkb
  clear mkw mkb
  go_enter Try.func90, Try.ntmps90
  go_wp2_with fail
  refine (HC0.out _ (Below.refl _ _)).mono ?_
  rintro e W1 ⟨rfl, hb⟩
  have HB1 := Lib.hid hb
  clear hb p0 p1 p2
  have mkw := mkw'.out
  go_upto_region 2 with fail
  clear mkw
  generalize hW : World.alloc W1 _ = W2
  have hb : Below W1.heap.size W1 W2 := by subst hW; exact ext_alloc _ _
  have HD : Hid (W2.heap[W1.heap.size]? = some (.cells (wcells ((packL P ts n xn).take 0 ++ List.replicate (xn - 0) (0, 0))) 106 (0, 0))) := by show _ = _; subst hW; simp only [List.take_zero, List.nil_append, Nat.sub_zero]; exact heap_new _ _ _ rfl
  obtain ⟨D, hD⟩ : ∃ D, D = W1.heap.size := ⟨_, rfl⟩
  rw [← hD] at HD ⊢
  have HDW : Hid (w.heap.size ≤ D) := by show _ ≤ _; rw [hD]; exact HB1.out.size
  have HB2 := Lib.hid (ext_trans HB1.out hb)
  have HDL : Hid (D < W2.heap.size) := heap_lt HD.out
  clear hW hb hD HB1
  have mkb := mkb'.out
  go_upto_region 3 with fail
  clear mkb
  generalize hW : World.alloc W2 _ = W3
  have hb : Below W2.heap.size W2 W3 := by subst hW; exact ext_alloc _ _
  have HE : Hid (W3.heap[W2.heap.size]? = some (.cells (fcells n (fun q => bv ((fun _ => 0 : Nat → UInt8) q))) 5 (0, 0))) := by show _ = _; subst hW; rw [show (fun q => bv ((fun _ => 0 : Nat → UInt8) q)) = (fun _ => (.int .u8 0 : Value)) from rfl, ← fcells_zero]; exact heap_new _ _ _ rfl
  obtain ⟨E, hE⟩ : ∃ E, E = W2.heap.size := ⟨_, rfl⟩
  rw [← hE] at HE ⊢
  have HEW : Hid (w.heap.size ≤ E) := by show _ ≤ _; rw [hE]; exact HB2.out.size
  have HDE : Hid (D ≠ E) := by have := HDL.out; show _ ≠ _; omega
  have HD3 := Lib.hid (heap_below HD.out hb)
  have HB3 := Lib.hid (ext_trans HB2.out hb)
  clear hW hb hE HB2 HD HDL
  go_wp2_with fail
  go_loopw [22, 7, 8, 9] (fun i _ _ _ wr => ∃ (k : Nat) (cf : Nat → UInt8), k ≤ xn ∧ i = .int .i64 k ∧ Hid (wr.heap[D]? = some (.cells (wcells ((packL P ts n xn).take k ++ List.replicate (xn - k) (0, 0))) 106 (0, 0))) ∧ Hid (wr.heap[E]? = some (.cells (fcells n (fun q => bv (cf q))) 5 (0, 0))) ∧ Hid (Below w.heap.size w wr)) (fun i _ _ _ _ => xn - (intOf i).toNat)
  case atStart => exact ⟨0, _, Nat.zero_le _, rfl, HD3.out, HE.out, HB3.out⟩
  case round =>
    clear HD3 HE HB3
    obtain ⟨k, cf, hk, rfl, hD, hE, hB⟩ := hrel
    by_cases hlt : k < xn
    · have hI1 : (k : Int) < (xn : Int) := by omega
      have hI0 : (0 : Int) ≤ (k : Int) := by omega
      have W1' : IntKind.i64.wrap ((k : Int) + 1) = (k : Int) + 1 := IntWalk.i64_in _ (by have := HMM.out; omega)
      go_wp2_with fail
      go_loopw [27, 8, 9] (fun i _ _ wr2 => ∃ (j : Nat), j ≤ n ∧ i = .int .i64 j ∧ Hid (wr2.heap[D]? = some (.cells (wcells ((packL P ts n xn).take k ++ List.replicate (xn - k) (0, 0))) 106 (0, 0))) ∧ Hid (wr2.heap[E]? = some (.cells (fcells n (fun q => bv (if q < j then (P (ts.getD q t00)).getD k 0 else cf q))) 5 (0, 0))) ∧ Hid (Below w.heap.size w wr2)) (fun i _ _ _ => n - (intOf i).toNat)
      case atStart => exact ⟨0, Nat.zero_le _, rfl, hD.out, (by show _ = _; simpa using hE.out), hB.out⟩
      case round =>
        clear hD hE hB
        obtain ⟨j, hj, rfl, hD, hE, hB⟩ := hrel
        by_cases hlt2 : j < n
        · obtain ⟨p0, p1, p2⟩ := HC.out j hlt2 wr hB.out
          have hcallj := HCALL.out j hlt2
          have hpaj := HPA.out j hlt2
          have hpnj := HPN.out j hlt2
          obtain ⟨x, hx⟩ : ∃ x : Slc, x = pa j := ⟨_, rfl⟩
          rw [← hx] at hcallj hpaj hpnj
          obtain ⟨ya, yn, yc⟩ := x
          simp only at hcallj hpaj hpnj
          subst hpnj
          obtain ⟨z, hz⟩ : ∃ z, z = (ts.getD j t00).bad := ⟨_, rfl⟩
          obtain ⟨y, hy⟩ : ∃ y, y = sts.getD j st00 := ⟨_, rfl⟩
          rw [← hz] at p0 hcallj
          rw [← hy] at p1 p2 hcallj
          have HCJ := Lib.hid hcallj
          have HPJ := Lib.hid hpaj
          have hI3 : (j : Int) < (n : Int) := by omega
          have hI4 : (0 : Int) ≤ (j : Int) := by omega
          have W2' : IntKind.i64.wrap ((j : Int) + 1) = (j : Int) + 1 := IntWalk.i64_in _ (by have := HNN.out; omega)
          clear hcallj hpaj hx hz hy
          go_upto_region 9 with fail
          generalize hW : World.alloc wr _ = X0
          have hb : Below wr.heap.size wr X0 := by subst hW; exact ext_alloc _ _
          have hT : X0.heap[wr.heap.size]? = some (.cells #[.int .i64 z, .slice y.a1 y.n1 y.c1, .slice y.a2 y.n2 y.c2] 30 (0, 0)) := by subst hW; exact heap_new _ _ _ rfl
          have HD1 := Lib.hid (heap_below hD.out hb)
          have HE1 := Lib.hid (heap_below hE.out hb)
          have HB1 := Lib.hid (ext_trans hB.out hb)
          clear hW hb p0 p1 p2 hD hE hB
          have p0 := cell_of_block hT 0
          have p1 := cell_of_block hT 1
          have p2 := cell_of_block hT 2
          clear hT
          go_wp2_with fail
          refine (HCJ.out _ HB1.out).mono ?_
          rintro e X2 ⟨rfl, hb⟩
          have HB2 := Lib.hid (ext_trans HB1.out hb)
          have HD2 := Lib.hid (heap_below HD1.out hb)
          have HE2 := Lib.hid (heap_below HE1.out hb)
          have hs := HPJ.out X2 HB2.out
          obtain ⟨yb, yo, rfl, _⟩ := hs.addr (by omega)
          have hcx := hs.byte k hlt
          have e0 := (cell_of_block HE2.out j).trans (fcells_get _ _ _ hlt2)
          have e1 := unfrozen_of_block HE2.out j
          obtain ⟨u, hu⟩ : ∃ u, u = (P (ts.getD j t00)).getD k 0 := ⟨_, rfl⟩
          rw [← hu] at hcx
          obtain ⟨un, hun⟩ : ∃ un : Nat, un = u.toNat := ⟨_, rfl⟩
          rw [← hun] at hcx
          rw [if_neg (Nat.lt_irrefl j)] at e0
          unfold bv at e0
          have HU := Lib.hid hu
          have HUN : Hid (bv u = .int .u8 (un : Int)) := by show _ = _; rw [hun]; rfl
          clear hb p0 p1 p2 hs hu hun HB1 HD1 HE1 HCJ HPJ
          go_wp2
          go_roundw
          case rel =>
            refine ⟨j + 1, by omega, by go_num, (Below.heap_setCell X2 ⟨E, j, none⟩ _ _ HDE.out).trans HD2.out, ?_, HB2.out.setCell (p := ⟨E, j, none⟩) HEW.out _⟩
            have h := block_setCell HE2.out (i := j) (.int .u8 (un : Int))
            rw [fcells_set] at h
            refine h.trans ?_
            rw [fcells_congr]
            intro q _
            by_cases e : q = j
            · subst e; rw [if_pos rfl, if_pos (Nat.lt_succ_self q), ← HU.out, HUN.out]
            · by_cases e2 : q < j
              · rw [if_neg e, if_pos e2, if_pos (by omega)]
              · rw [if_neg e, if_neg e2, if_neg (by omega)]
          case measure => simp [intOf]; omega
        · obtain rfl : n = j := by omega
          have hE2 : wr.heap[E]? = some (.cells (fcells n (fun q => bv ((fun q => (P (ts.getD q t00)).getD k 0) q))) 5 (0, 0)) := by
            rw [hE.out]
            congr 2
            exact congrArg _ rfl |>.trans (fcells_congr fun q hq => by rw [if_pos hq])
          have hof : Calls Try.prog 100 #[.slice (some ⟨E, 0, none⟩) n n] wr fun e w' => e = w2E (ofR (colL P ts n k)) ∧ Below wr.heap.size wr w' := tof_any (colL P ts n k) (some ⟨E, 0, none⟩) n n wr (sees_fcells hE2)
          have hat := packL_at P ts n xn k hlt
          obtain ⟨R, hR⟩ : ∃ R, R = ofR (colL P ts n k) := ⟨_, rfl⟩
          rw [← hR] at hof hat
          obtain ⟨⟨r1, r2⟩, rz⟩ := R
          have HOF : Hid (Calls Try.prog 100 #[.slice (some ⟨E, 0, none⟩) n n] wr fun e w' => e = .returned (.tuple #[.agg #[.int .u64 (r1 : Int), .int .u64 (r2 : Int)], .int .i64 rz]) ∧ Below wr.heap.size wr w') := hof
          have HAT := Lib.hid hat
          clear hof hat hR hE2
          go_wp2_with fail
          refine HOF.out.mono ?_
          rintro e X2 ⟨rfl, hb⟩
          have HB2 := Lib.hid (ext_trans hB.out hb)
          have HD2 := Lib.hid (heap_below hD.out hb)
          have HE2 := Lib.hid (heap_below hE.out hb)
          have hgt := wcells_get ((packL P ts n xn).take k ++ List.replicate (xn - k) (0, 0)) k (by rw [fill_len _ _ k xn (packL_len P ts n xn) hk]; exact hlt)
          rw [fill_get _ _ k xn (packL_len P ts n xn) hlt] at hgt
          have f0 : X2.cell? ⟨D, k * 2, none⟩ = some (.int .u64 0) := (cell_of_block HD2.out (k * 2)).trans hgt.1
          have f1 : X2.cell? ⟨D, k * 2 + 1, none⟩ = some (.int .u64 0) := (cell_of_block HD2.out (k * 2 + 1)).trans hgt.2
          have f2 := unfrozen_of_block HD2.out (k * 2)
          have f3 := unfrozen_of_block HD2.out (k * 2 + 1)
          clear hb hgt HOF hD hE hB
          go_wp2
          go_roundw
          case rel =>
            refine ⟨k + 1, _, by omega, by go_num, ?_, ((Below.heap_setCell _ ⟨D, k * 2 + 1, none⟩ _ _ HDE.out.symm).trans (Below.heap_setCell X2 ⟨D, k * 2, none⟩ _ _ HDE.out.symm)).trans HE2.out, (HB2.out.setCell (p := ⟨D, k * 2, none⟩) HDW.out _).setCell (p := ⟨D, k * 2 + 1, none⟩) HDW.out _⟩
            have h1 := block_setCell HD2.out (i := k * 2) (.int .u64 (r1 : Int))
            have h2 := block_setCell h1 (i := k * 2 + 1) (.int .u64 (r2 : Int))
            refine h2.trans ?_
            rw [← fill_set (packL P ts n xn) (0, 0) k xn (packL_len P ts n xn) hlt, ← wcells_set, HAT.out]
            rfl
          case measure => simp [intOf]; omega
    · obtain rfl : k = xn := by omega
      go_wp2
      go_ret
      have h1 := hD.out
      rw [Nat.sub_self, List.replicate_zero, List.append_nil, List.take_of_length_le (by rw [packL_len]; exact Nat.le_refl _)] at h1
      exact ⟨D, rfl, ownW_cells _ HDW.out h1 (packL_len P ts n k) HMM.out, hB.out⟩
set_option maxRecDepth 100000 in
set_option maxHeartbeats 6400000 in
theorem packedB_any (P : TraceC → List UInt8) (pa : Nat → Slc) (fb : Nat) (m n c : Nat) (a : Option Addr) (sts : List TSlots) (ts : List TraceC) (w : World) (h : TsSee w a n c sts ts) (hn : 0 < n) (hn64 : n ≤ 64) (hm : m ≤ 1000000)
    (hlen : ∀ k, k < n → (P (ts.getD k t00)).length = m) (hpa : ∀ k, k < n → ∀ W, Below w.heap.size w W → Sees W (pa k).1 (pa k).2.1 (pa k).2.2 ((P (ts.getD k t00)).map bv))
    (hcall : ∀ k, k < n → ∀ W, Below w.heap.size w W → Calls Try.prog 93 (#[.agg #[.int .i64 (ts.getD k t00).bad, .slice (sts.getD k st00).a1 (sts.getD k st00).n1 (sts.getD k st00).c1, .slice (sts.getD k st00).a2 (sts.getD k st00).n2 (sts.getD k st00).c2], .pointer (some ⟨fb, 0, none⟩)]) W fun e w' => e = .returned (.slice (pa k).1 (pa k).2.1 (pa k).2.2) ∧ Below W.heap.size W w') :
    Calls Try.prog 90 #[.slice a n c, .func (.func 93) #[] #[.pointer (some ⟨fb, 0, none⟩)]] w fun e w' => ∃ g, e = .returned (.slice (some ⟨g, 0, none⟩) m m) ∧ OwnW w' w.heap.size g m m (packL P ts n m) ∧ Below w.heap.size w w' := by
  obtain ⟨i0, hi, hz0, hz1, hz2⟩ := info_parts info_word
  obtain ⟨iB, hiB, hzB0, hzB1, hzB2⟩ := info_parts info_byte
  obtain ⟨b, rfl, hblt, hcells⟩ := h.cells hn
  have mkw := fun W => run_makeW hi hz0 hz1 hz2 m m (m : Int) (m : Int) rfl rfl (Nat.le_refl _) hm W
  have mkb := fun W => run_make_n (P := Try.prog) Try.underlying27 hiB hzB0 hzB1 hzB2 rfl n (by omega) (by omega) W
  have HC : Hid (∀ k, k < n → ∀ W, Below w.heap.size w W → W.cell? ⟨b, k * 3, none⟩ = some (.int .i64 (ts.getD k t00).bad) ∧ W.cell? ⟨b, k * 3 + 1, none⟩ = some (.slice (sts.getD k st00).a1 (sts.getD k st00).n1 (sts.getD k st00).c1) ∧ W.cell? ⟨b, k * 3 + 2, none⟩ = some (.slice (sts.getD k st00).a2 (sts.getD k st00).n2 (sts.getD k st00).c2)) := fun k hk W hb => by
    obtain ⟨x, y, z⟩ := hcells k hk
    exact ⟨(hb.cell (p := ⟨b, k * 3, none⟩) hblt).trans x, (hb.cell (p := ⟨b, k * 3 + 1, none⟩) hblt).trans y, (hb.cell (p := ⟨b, k * 3 + 2, none⟩) hblt).trans z⟩
  have HCALL := Lib.hid hcall
  have HPA := Lib.hid hpa
  have HLEN := Lib.hid hlen
  have HPN : Hid (∀ k, k < n → (pa k).2.1 = m) := fun k hk => by rw [← hlen k hk]; exact (hpa k hk w (Below.refl _ _)).lenMap.symm
  have hnI : (n : Int) ≤ 64 := by omega
  have hn0 : (0 : Int) < (n : Int) := by omega
  have HNN : Hid (0 < n ∧ n ≤ 64) := ⟨hn, hn64⟩
  have HMM := Lib.hid hm
  have c0 := HC.out 0 hn w (Below.refl _ _)
  simp only [Nat.zero_mul, Nat.zero_add] at c0
  obtain ⟨p0, p1, p2⟩ := c0
  have hcall0 := HCALL.out 0 hn
  have hpn0 := HPN.out 0 hn
  obtain ⟨x, hx⟩ : ∃ x : Slc, x = pa 0 := ⟨_, rfl⟩
  rw [← hx] at hcall0 hpn0
  obtain ⟨xa, xn, xc⟩ := x
  simp only at hcall0 hpn0
  subst hpn0
  obtain ⟨z, hz⟩ : ∃ z, z = (ts.getD 0 t00).bad := ⟨_, rfl⟩
  obtain ⟨y, hy⟩ : ∃ y, y = sts.getD 0 st00 := ⟨_, rfl⟩
  rw [← hz] at p0 hcall0
  rw [← hy] at p1 p2 hcall0
  have HC0 := Lib.hid hcall0
  clear h hcells hlen hpa hcall hx hz hy hcall0 hn hn64 hm hblt
  have mkw' := Lib.hid mkw
  have mkb' := Lib.hid mkb
  clear mkw mkb
  go_enter Try.func90, Try.ntmps90
  go_wp2_with fail
  refine (HC0.out _ (Below.refl _ _)).mono ?_
  rintro e W1 ⟨rfl, hb⟩
  have HB1 := Lib.hid hb
  clear hb p0 p1 p2
  have mkw := mkw'.out
  go_upto_region 2 with fail
  clear mkw
  generalize hW : World.alloc W1 _ = W2
  have hb : Below W1.heap.size W1 W2 := by subst hW; exact ext_alloc _ _
  have HD : Hid (W2.heap[W1.heap.size]? = some (.cells (wcells ((packL P ts n xn).take 0 ++ List.replicate (xn - 0) (0, 0))) 106 (0, 0))) := by show _ = _; subst hW; simp only [List.take_zero, List.nil_append, Nat.sub_zero]; exact heap_new _ _ _ rfl
  obtain ⟨D, hD⟩ : ∃ D, D = W1.heap.size := ⟨_, rfl⟩
  rw [← hD] at HD ⊢
  have HDW : Hid (w.heap.size ≤ D) := by show _ ≤ _; rw [hD]; exact HB1.out.size
  have HB2 := Lib.hid (ext_trans HB1.out hb)
  have HDL : Hid (D < W2.heap.size) := heap_lt HD.out
  clear hW hb hD HB1
  have mkb := mkb'.out
  go_upto_region 3 with fail
  clear mkb
  generalize hW : World.alloc W2 _ = W3
  have hb : Below W2.heap.size W2 W3 := by subst hW; exact ext_alloc _ _
  have HE : Hid (W3.heap[W2.heap.size]? = some (.cells (fcells n (fun q => bv ((fun _ => 0 : Nat → UInt8) q))) 5 (0, 0))) := by show _ = _; subst hW; rw [show (fun q => bv ((fun _ => 0 : Nat → UInt8) q)) = (fun _ => (.int .u8 0 : Value)) from rfl, ← fcells_zero]; exact heap_new _ _ _ rfl
  obtain ⟨E, hE⟩ : ∃ E, E = W2.heap.size := ⟨_, rfl⟩
  rw [← hE] at HE ⊢
  have HEW : Hid (w.heap.size ≤ E) := by show _ ≤ _; rw [hE]; exact HB2.out.size
  have HDE : Hid (D ≠ E) := by have := HDL.out; show _ ≠ _; omega
  have HD3 := Lib.hid (heap_below HD.out hb)
  have HB3 := Lib.hid (ext_trans HB2.out hb)
  clear hW hb hE HB2 HD HDL
  go_wp2_with fail
  go_loopw [22, 7, 8, 9] (fun i _ _ _ wr => ∃ (k : Nat) (cf : Nat → UInt8), k ≤ xn ∧ i = .int .i64 k ∧ Hid (wr.heap[D]? = some (.cells (wcells ((packL P ts n xn).take k ++ List.replicate (xn - k) (0, 0))) 106 (0, 0))) ∧ Hid (wr.heap[E]? = some (.cells (fcells n (fun q => bv (cf q))) 5 (0, 0))) ∧ Hid (Below w.heap.size w wr)) (fun i _ _ _ _ => xn - (intOf i).toNat)
  case atStart => exact ⟨0, _, Nat.zero_le _, rfl, HD3.out, HE.out, HB3.out⟩
  case round =>
    clear HD3 HE HB3
    obtain ⟨k, cf, hk, rfl, hD, hE, hB⟩ := hrel
    by_cases hlt : k < xn
    · have hI1 : (k : Int) < (xn : Int) := by omega
      have hI0 : (0 : Int) ≤ (k : Int) := by omega
      have W1' : IntKind.i64.wrap ((k : Int) + 1) = (k : Int) + 1 := IntWalk.i64_in _ (by have := HMM.out; omega)
      go_wp2_with fail
      go_loopw [27, 8, 9] (fun i _ _ wr2 => ∃ (j : Nat), j ≤ n ∧ i = .int .i64 j ∧ Hid (wr2.heap[D]? = some (.cells (wcells ((packL P ts n xn).take k ++ List.replicate (xn - k) (0, 0))) 106 (0, 0))) ∧ Hid (wr2.heap[E]? = some (.cells (fcells n (fun q => bv (if q < j then (P (ts.getD q t00)).getD k 0 else cf q))) 5 (0, 0))) ∧ Hid (Below w.heap.size w wr2)) (fun i _ _ _ => n - (intOf i).toNat)
      case atStart => exact ⟨0, Nat.zero_le _, rfl, hD.out, (by show _ = _; simpa using hE.out), hB.out⟩
      case round =>
        clear hD hE hB
        obtain ⟨j, hj, rfl, hD, hE, hB⟩ := hrel
        by_cases hlt2 : j < n
        · obtain ⟨p0, p1, p2⟩ := HC.out j hlt2 wr hB.out
          have hcallj := HCALL.out j hlt2
          have hpaj := HPA.out j hlt2
          have hpnj := HPN.out j hlt2
          obtain ⟨x, hx⟩ : ∃ x : Slc, x = pa j := ⟨_, rfl⟩
          rw [← hx] at hcallj hpaj hpnj
          obtain ⟨ya, yn, yc⟩ := x
          simp only at hcallj hpaj hpnj
          subst hpnj
          obtain ⟨z, hz⟩ : ∃ z, z = (ts.getD j t00).bad := ⟨_, rfl⟩
          obtain ⟨y, hy⟩ : ∃ y, y = sts.getD j st00 := ⟨_, rfl⟩
          rw [← hz] at p0 hcallj
          rw [← hy] at p1 p2 hcallj
          have HCJ := Lib.hid hcallj
          have HPJ := Lib.hid hpaj
          have hI3 : (j : Int) < (n : Int) := by omega
          have hI4 : (0 : Int) ≤ (j : Int) := by omega
          have W2' : IntKind.i64.wrap ((j : Int) + 1) = (j : Int) + 1 := IntWalk.i64_in _ (by have := HNN.out; omega)
          clear hcallj hpaj hx hz hy
          go_upto_region 9 with fail
          generalize hW : World.alloc wr _ = X0
          have hb : Below wr.heap.size wr X0 := by subst hW; exact ext_alloc _ _
          have hT : X0.heap[wr.heap.size]? = some (.cells #[.int .i64 z, .slice y.a1 y.n1 y.c1, .slice y.a2 y.n2 y.c2] 30 (0, 0)) := by subst hW; exact heap_new _ _ _ rfl
          have HD1 := Lib.hid (heap_below hD.out hb)
          have HE1 := Lib.hid (heap_below hE.out hb)
          have HB1 := Lib.hid (ext_trans hB.out hb)
          clear hW hb p0 p1 p2 hD hE hB
          have p0 := cell_of_block hT 0
          have p1 := cell_of_block hT 1
          have p2 := cell_of_block hT 2
          clear hT
          go_wp2_with fail
          refine (HCJ.out _ HB1.out).mono ?_
          rintro e X2 ⟨rfl, hb⟩
          have HB2 := Lib.hid (ext_trans HB1.out hb)
          have HD2 := Lib.hid (heap_below HD1.out hb)
          have HE2 := Lib.hid (heap_below HE1.out hb)
          have hs := HPJ.out X2 HB2.out
          obtain ⟨yb, yo, rfl, _⟩ := hs.addr (by omega)
          have hcx := hs.byte k hlt
          have e0 := (cell_of_block HE2.out j).trans (fcells_get _ _ _ hlt2)
          have e1 := unfrozen_of_block HE2.out j
          obtain ⟨u, hu⟩ : ∃ u, u = (P (ts.getD j t00)).getD k 0 := ⟨_, rfl⟩
          rw [← hu] at hcx
          obtain ⟨un, hun⟩ : ∃ un : Nat, un = u.toNat := ⟨_, rfl⟩
          rw [← hun] at hcx
          rw [if_neg (Nat.lt_irrefl j)] at e0
          unfold bv at e0
          have HU := Lib.hid hu
          have HUN : Hid (bv u = .int .u8 (un : Int)) := by show _ = _; rw [hun]; rfl
          clear hb p0 p1 p2 hs hu hun HB1 HD1 HE1 HCJ HPJ
          go_wp2
          go_roundw
          case rel =>
            refine ⟨j + 1, by omega, by go_num, (Below.heap_setCell X2 ⟨E, j, none⟩ _ _ HDE.out).trans HD2.out, ?_, HB2.out.setCell (p := ⟨E, j, none⟩) HEW.out _⟩
            have h := block_setCell HE2.out (i := j) (.int .u8 (un : Int))
            rw [fcells_set] at h
            refine h.trans ?_
            rw [fcells_congr]
            intro q _
            by_cases e : q = j
            · subst e; rw [if_pos rfl, if_pos (Nat.lt_succ_self q), ← HU.out, HUN.out]
            · by_cases e2 : q < j
              · rw [if_neg e, if_pos e2, if_pos (by omega)]
              · rw [if_neg e, if_neg e2, if_neg (by omega)]
          case measure => simp [intOf]; omega
        · obtain rfl : n = j := by omega
          have hE2 : wr.heap[E]? = some (.cells (fcells n (fun q => bv ((fun q => (P (ts.getD q t00)).getD k 0) q))) 5 (0, 0)) := by
            rw [hE.out]
            congr 2
            exact congrArg _ rfl |>.trans (fcells_congr fun q hq => by rw [if_pos hq])
          have hof : Calls Try.prog 100 #[.slice (some ⟨E, 0, none⟩) n n] wr fun e w' => e = w2E (ofR (colL P ts n k)) ∧ Below wr.heap.size wr w' := tof_any (colL P ts n k) (some ⟨E, 0, none⟩) n n wr (sees_fcells hE2)
          have hat := packL_at P ts n xn k hlt
          obtain ⟨R, hR⟩ : ∃ R, R = ofR (colL P ts n k) := ⟨_, rfl⟩
          rw [← hR] at hof hat
          obtain ⟨⟨r1, r2⟩, rz⟩ := R
          have HOF : Hid (Calls Try.prog 100 #[.slice (some ⟨E, 0, none⟩) n n] wr fun e w' => e = .returned (.tuple #[.agg #[.int .u64 (r1 : Int), .int .u64 (r2 : Int)], .int .i64 rz]) ∧ Below wr.heap.size wr w') := hof
          have HAT := Lib.hid hat
          clear hof hat hR hE2
          go_wp2_with fail
          refine HOF.out.mono ?_
          rintro e X2 ⟨rfl, hb⟩
          have HB2 := Lib.hid (ext_trans hB.out hb)
          have HD2 := Lib.hid (heap_below hD.out hb)
          have HE2 := Lib.hid (heap_below hE.out hb)
          have hgt := wcells_get ((packL P ts n xn).take k ++ List.replicate (xn - k) (0, 0)) k (by rw [fill_len _ _ k xn (packL_len P ts n xn) hk]; exact hlt)
          rw [fill_get _ _ k xn (packL_len P ts n xn) hlt] at hgt
          have f0 : X2.cell? ⟨D, k * 2, none⟩ = some (.int .u64 0) := (cell_of_block HD2.out (k * 2)).trans hgt.1
          have f1 : X2.cell? ⟨D, k * 2 + 1, none⟩ = some (.int .u64 0) := (cell_of_block HD2.out (k * 2 + 1)).trans hgt.2
          have f2 := unfrozen_of_block HD2.out (k * 2)
          have f3 := unfrozen_of_block HD2.out (k * 2 + 1)
          clear hb hgt HOF hD hE hB
          go_wp2
          go_roundw
          case rel =>
            refine ⟨k + 1, _, by omega, by go_num, ?_, ((Below.heap_setCell _ ⟨D, k * 2 + 1, none⟩ _ _ HDE.out.symm).trans (Below.heap_setCell X2 ⟨D, k * 2, none⟩ _ _ HDE.out.symm)).trans HE2.out, (HB2.out.setCell (p := ⟨D, k * 2, none⟩) HDW.out _).setCell (p := ⟨D, k * 2 + 1, none⟩) HDW.out _⟩
            have h1 := block_setCell HD2.out (i := k * 2) (.int .u64 (r1 : Int))
            have h2 := block_setCell h1 (i := k * 2 + 1) (.int .u64 (r2 : Int))
            refine h2.trans ?_
            rw [← fill_set (packL P ts n xn) (0, 0) k xn (packL_len P ts n xn) hlt, ← wcells_set, HAT.out]
            rfl
          case measure => simp [intOf]; omega
    · obtain rfl : k = xn := by omega
      go_wp2
      go_ret
      have h1 := hD.out
      rw [Nat.sub_self, List.replicate_zero, List.append_nil, List.take_of_length_le (by rw [packL_len]; exact Nat.le_refl _)] at h1
      exact ⟨D, rfl, ownW_cells _ HDW.out h1 (packL_len P ts n k) HMM.out, hB.out⟩
end Go.Proofs.Ytjmdgbdlhaaefaa
