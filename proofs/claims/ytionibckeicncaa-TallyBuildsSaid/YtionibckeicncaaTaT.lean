/- tally.Build, by its contract. -/
import Derived.Test.YtionibckeicncaaLib
import Derived.Test.YtionibckeicncaaOwn
import Derived.Test.YtionibckeicncaaNBase
import Derived.Test.YtionibckeicncaaCuPure
import Derived.Test.YtionibckeicncaaCuInts
import Derived.Test.YtionibckeicncaaCuMay
import Derived.Test.YtionibckeicncaaTaRM
import Derived.Test.YtionibckeicncaaTaP
import Derived.Test.YtionibckeicncaaTaG
import Derived.Test.YtionibckeicncaaTaF
import Derived.Test.YtionibckeicncaaTaO
import Derived.Test.YtionibckeicncaaTaS
import Derived.Test.YtionibckeicncaaTaZ
import Derived.Test.YtionibckeicncaaRows
import Derived.Test.YtionibckeicncaaShelf
import Derived.BigQuiet
import Derived.Deep.AppendLies
import Derived.Deep.CutRange
import Derived.Deep.QuietTactic
import Derived.Deep.RegionHeld3
import Derived.Deep.RegionLaw
import Derived.Deep.RegionWith
import Derived.KernelRfl
import Derived.Laws.EntriesVeiled
import Derived.Lib.ConvBytes
import Derived.Lib.Hide
import Derived.Lib.SlBytesRow
import Derived.Lib.SlicesCompact
import Derived.Lib.SmallJoins
import Derived.OrdersHeld
import Derived.Shelf.Bytes.SlSmallAll
import Derived.Sort.Statements
import Derived.WalkKit
import Derived.WalkLawsBesides
import Derived.WalkSpells
namespace Go.Proofs.Ytionibckeicncaa
open Go Go.RowKit Go.Joins

theorem NewT.base0 {w : World} {base : Nat} {a : Option Addr} {n c : Nat} {C : List Int} (h : NewT w base a n c C) : NewT w 0 a n c C :=
  ⟨h.sees, fun h0 => by
    obtain ⟨g, off, Cur, ha, _, hh, hc⟩ := h.blk h0
    exact ⟨g, off, Cur, ha, Nat.zero_le _, hh, hc⟩⟩
/-- slices.Clone: the same ints in new memory. -/
theorem clone_anyT (l : List Int) (a : Option Addr) (n c : Nat) (w : World) (h : Sees w a n c (zvs l)) (hn : n ≤ 4096) :
    Calls Try.prog 18 #[.slice a n c] w fun e w' => ∃ a' c', e = .returned (.slice a' n c') ∧ NewT w' 0 a' n c' l ∧ Below w.heap.size w w' := by
  have hl := h.zlen
  cases a with
  | none =>
    have hc := h.nilc rfl
    have hn0 : n = 0 := by have := h.cap; omega
    subst hn0; subst hc
    have : l = [] := List.eq_nil_of_length_eq_zero hl
    subst this
    refine (Try.slices_Clone_int_nil 0 0 w).mono ?_
    rintro e w' ⟨rfl, rfl⟩
    exact ⟨none, 0, rfl, NewT.nil _ _ _ _ (fun _ => rfl), Below.refl _ _⟩
  | some p =>
    by_cases hn0 : n = 0
    · subst hn0
      have : l = [] := List.eq_nil_of_length_eq_zero hl
      subst this
      refine (Try.slices_Clone_int_zero p c w).mono ?_
      rintro e w' ⟨v, rfl, ho, hv, hb⟩
      rcases ho.2 with ⟨rfl, _⟩ | ⟨g, cap, cur, rfl, hg, _⟩
      · exact absurd rfl hv
      · exact ⟨_, _, rfl, NewT.nil _ _ _ _ (fun e => by cases e), hb⟩
    · obtain ⟨b, off, e, hlt⟩ := h.addr (by omega)
      cases e
      refine (Try.slices_Clone_int b off n c l w (by omega) (by omega) fun j hj => h.z_at j (by omega)).mono ?_
      rintro e w' ⟨v, rfl, ho, hv, hb⟩
      rcases ho.2 with ⟨rfl, _⟩ | ⟨g, cap, cur, rfl, hg, hh, hnc, hm, hcs, ht⟩
      · exact absurd rfl hv
      · have hat : ∀ j, j < n → cur[0 + j]? = some (.int .i64 (l.getD j 0)) := fun j hj => by
          have e1 : (cur.toList.take (n * 1))[j]? = cur[j]? := by rw [List.getElem?_take_of_lt (by omega)]; simp
          rw [Nat.zero_add, ← e1, ht, List.take_of_length_le (by omega)]
          simp [List.getD, List.getElem?_eq_getElem (show j < l.length by omega)]
        refine ⟨_, _, rfl, ⟨⟨by rw [zvs_len]; exact hl, hnc, (fun e => by cases e), fun _ => ⟨g, 0, rfl, heap_lt hh, fun j hj => ?_⟩⟩, fun _ => ⟨g, 0, cur, rfl, Nat.zero_le _, hh, hat⟩⟩, hb⟩
        rw [cell_of_block hh, hat j hj]
        simp [zvs, List.getD, List.getElem?_eq_getElem (show j < l.length by omega)]
/-- What Build refuses; what it makes. -/
def badT (lits : List Int) (outs next : Int) : Prop := outs < 0 ∨ next < 1 ∨ 4194304 < next ∨ mayS [lits] (next - 1) = false
def sizeT (lits : List Int) (outs : Int) : Nat × Nat := sizeF lits.length lits.length (min outs.toNat lits.length)
def outT (lits : List Int) (outs next : Int) : Tly := outsF lits.length (min outs.toNat lits.length) lits next.toNat
def BuildPost (lits : List Int) (outs next : Int) (w : World) (e : Ending) (w' : World) : Prop := Below w.heap.size w w' ∧
  ((badT lits outs next ∧ e = .returned (.tuple #[.slice none 0 0, .slice none 0 0, .int .i64 0, .int .i64 2])) ∨
   (¬ badT lits outs next ∧ (1048576 < (sizeT lits outs).1 ∨ 4194305 < (sizeT lits outs).2 + next.toNat) ∧ e = .returned (.tuple #[.slice none 0 0, .slice none 0 0, .int .i64 0, .int .i64 3])) ∨
   (¬ badT lits outs next ∧ (sizeT lits outs).1 ≤ 1048576 ∧ (sizeT lits outs).2 + next.toNat ≤ 4194305 ∧ ∃ la lc lss oa oc, e = .returned (.tuple #[.slice la (outT lits outs next).cls.length lc, .slice oa (outT lits outs next).out.length oc, .int .i64 ((outT lits outs next).next : Nat), .int .i64 0]) ∧
     SeesZ w' la (outT lits outs next).cls.length lc lss (outT lits outs next).cls ∧ Sees w' oa (outT lits outs next).out.length oc (zvs (outT lits outs next).out)))
set_option maxRecDepth 100000 in
set_option maxHeartbeats 6400000 in
theorem build_any (lits : List Int) (outs next : Int) (a : Option Addr) (n c : Nat) (w : World) (h : Sees w a n c (zvs lits)) (hn : n ≤ 9223372036854775807) (ho : -9223372036854775808 ≤ outs ∧ outs ≤ 9223372036854775807) :
    Calls Try.prog 6 #[.slice a n c, .int .i64 outs, .int .i64 next] w (BuildPost lits outs next w) := by
  have l1 := h.zlen
  obtain ⟨j0, hj0, hy0, hy1, hy2⟩ := info_parts info_zsT
  have HMY := Lib.hid (fun (vars : Int) => may11_any [lits] (some ⟨w.heap.size, 0, none⟩) 1 1 [(a, n, c)] vars _ (seesT_one w a n c lits h) (by omega) (fun x hx => by obtain rfl := List.mem_singleton.1 hx; omega))
  have HS := Lib.hid h
  have HL := Lib.hid l1
  clear h l1 hn
  unfold BuildPost
  go_enter Try.func6, Try.ntmps6
  by_cases q0 : outs < 0
  · have d0 : decide (outs < 0) = true := decide_eq_true q0
    have HB : Hid (badT lits outs next) := .inl q0
    clear q0
    go_wp2
    refine bodyPost_ret (v := .tuple #[.slice none 0 0, .slice none 0 0, .int .i64 0, .int .i64 2]) ?_ rfl ?_
    · simp [results, Try.results6, go_sem]
    · exact ⟨Below.refl _ _, .inl ⟨HB.out, rfl⟩⟩
  have d0 : decide (outs < 0) = false := decide_eq_false q0
  by_cases q1 : next < 1
  · have d1 : decide (next < 1) = true := decide_eq_true q1
    have HB : Hid (badT lits outs next) := .inr (.inl q1)
    clear q0 q1
    go_wp2
    refine bodyPost_ret (v := .tuple #[.slice none 0 0, .slice none 0 0, .int .i64 0, .int .i64 2]) ?_ rfl ?_
    · simp [results, Try.results6, go_sem]
    · exact ⟨Below.refl _ _, .inl ⟨HB.out, rfl⟩⟩
  have d1 : decide (next < 1) = false := decide_eq_false q1
  by_cases q2 : 4194304 < next
  · have d2 : decide (4194304 < next) = true := decide_eq_true q2
    have HB : Hid (badT lits outs next) := .inr (.inr (.inl q2))
    clear q0 q1 q2
    go_wp2
    refine bodyPost_ret (v := .tuple #[.slice none 0 0, .slice none 0 0, .int .i64 0, .int .i64 2]) ?_ rfl ?_
    · simp [results, Try.results6, go_sem]
    · exact ⟨Below.refl _ _, .inl ⟨HB.out, rfl⟩⟩
  have d2 : decide (4194304 < next) = false := decide_eq_false q2
  obtain ⟨nx, rfl⟩ := Int.eq_ofNat_of_zero_le (a := next) (by omega)
  obtain ⟨o, rfl⟩ := Int.eq_ofNat_of_zero_le (a := outs) (by omega)
  obtain ⟨v, hv⟩ : ∃ v : Nat, v = nx - 1 := ⟨_, rfl⟩
  have wv : IntKind.i64.wrap ((nx : Int) - 1) = (v : Int) := by rw [show (nx : Int) - 1 = (v : Int) by omega]; exact IntWalk.i64_in _ (by omega)
  have HM1 := Lib.hid (HMY.out (v : Int))
  have hvi : (nx : Int) - 1 = (v : Int) := by omega
  obtain ⟨q, hq⟩ : ∃ q, q = mayS [lits] (v : Int) := ⟨_, rfl⟩
  rw [← hq] at HM1
  cases q with
  | false =>
    have HB : Hid (badT lits (o : Int) (nx : Int)) := .inr (.inr (.inr (by rw [hvi]; exact hq.symm)))
    clear q0 q1 q2 hq hv hvi HMY
    go_wp2_with fail
    refine HM1.out.mono ?_
    rintro e W1 ⟨rfl, hb⟩
    have HB1 := Lib.hid (ext_trans (ext_alloc _ _) hb)
    clear hb HM1
    go_wp2
    refine bodyPost_ret (v := .tuple #[.slice none 0 0, .slice none 0 0, .int .i64 0, .int .i64 2]) ?_ rfl ?_
    · simp [results, Try.results6, go_sem]
    · exact ⟨HB1.out, .inl ⟨HB.out, rfl⟩⟩
  | true =>
  have hone := may_oneT hq.symm
  have hn4 : n ≤ 4096 := by rw [← HL.out]; exact hone.2.2.1
  have HNB : Hid (¬ badT lits (o : Int) (nx : Int)) := by
    rintro (h | h | h | h)
    · exact q0 h
    · exact q1 h
    · exact q2 h
    · rw [hvi, ← hq] at h; cases h
  have hlt : ∀ x ∈ lits, Lt nx x := fun x hx => by
    have := hone.2.2.2 x hx
    exact ⟨this.1, by omega⟩
  obtain ⟨most, hmost⟩ : ∃ m, m = min o n := ⟨_, rfl⟩
  have m1 : min (o : Int) (n : Int) = (most : Int) := by omega
  have hsl := sizeF_le n n most
  have hsq : n * n ≤ 4096 * 4096 := Nat.mul_le_mul hn4 hn4
  obtain ⟨⟨S1, S2⟩, hS⟩ : ∃ s, s = sizeF n n most := ⟨_, rfl⟩
  have HSZ := Lib.hid (fun W => size_any n n most W (by omega) hn4 (by omega))
  rw [← hS] at HSZ hsl
  simp only at HSZ hsl
  obtain ⟨TT, hT⟩ : ∃ T, T = outsF n most lits nx := ⟨_, rfl⟩
  have hts := outsF_size n most lits nx (by rw [HL.out]; omega)
  rw [← hT, HL.out, ← hS] at hts
  simp only at hts
  have HST : Hid (sizeT lits (o : Int) = (S1, S2)) := by show _ = _; unfold sizeT; rw [HL.out, Int.toNat_natCast, ← hmost, hS]
  have HOT : Hid (outT lits (o : Int) (nx : Int) = TT) := by show _ = _; unfold outT; rw [HL.out, Int.toNat_natCast, Int.toNat_natCast, ← hmost, hT]
  rw [HST.out, HOT.out]
  obtain ⟨room, hroom⟩ : ∃ r : Nat, r = 4194304 - v := ⟨_, rfl⟩
  have w2 : IntKind.i64.wrap (4194304 - (v : Int)) = (room : Int) := by rw [show 4194304 - (v : Int) = (room : Int) by omega]; exact IntWalk.i64_in _ (by omega)
  have HCLN := Lib.hid (fun W (hb : Below w.heap.size w W) => clone_anyT lits a n c W (HS.out.below hb) hn4)
  have HOU := Lib.hid (fun (w0 W : World) (B : Nat) (a' : Option Addr) (c' : Nat) (H : TaSt w0 B most nx [] W) (h : NewT W 0 a' n c' lits) (hc : S1 ≤ 1048576) (hv2 : S2 + nx ≤ 4194305) => outputs_any n w0 B most (by omega) W nx [] lits a' n c' H h (by omega) hn4 (by omega) hlt (by rw [← hT]; omega) (by rw [← hT]; simp; omega))
  unfold OutPost at HOU
  rw [← hT] at HOU
  have HNM := Lib.hid (And.intro (show nx + 0 = v + 1 by omega) (show v ≤ 4194303 by omega))
  have HR : Hid (room + v = 4194304) := by show _ = _; omega
  have HS1 : Hid (S1 ≤ 100000000) := by show _ ≤ _; omega
  rw [Int.toNat_natCast]
  clear q0 q1 q2 hq hv hvi HMY hone hn4 hlt hmost hsl hsq hS hT hts hroom ho HST HOT HS
  go_wp2_with fail
  refine HM1.out.mono ?_
  rintro e W1 ⟨rfl, hb⟩
  have HB1 := Lib.hid (ext_trans (ext_alloc _ _) hb)
  clear hb HM1
  go_wp2_with fail
  refine (HSZ.out W1).mono ?_
  rintro e W1' ⟨rfl, rfl⟩
  clear HSZ
  by_cases q3 : 1048576 < S1
  · have d3 : decide (1048576 < S1) = true := decide_eq_true q3
    have d3' : decide ((1048576 : Int) < (S1 : Int)) = true := decide_eq_true (by omega)
    have HQ : Hid (1048576 < S1 ∨ 4194305 < S2 + nx) := .inl q3
    clear q3
    go_wp2
    refine bodyPost_ret (v := .tuple #[.slice none 0 0, .slice none 0 0, .int .i64 0, .int .i64 3]) ?_ rfl ?_
    · simp [results, Try.results6, go_sem]
    · exact ⟨HB1.out, .inr (.inl ⟨HNB.out, HQ.out, rfl⟩)⟩
  have d3 : decide (1048576 < S1) = false := decide_eq_false q3
  have d3' : decide ((1048576 : Int) < (S1 : Int)) = false := decide_eq_false (by omega)
  by_cases q4 : room < S2
  · have d4 : decide (room < S2) = true := decide_eq_true q4
    have d4' : decide ((room : Int) < (S2 : Int)) = true := decide_eq_true (by omega)
    have HQ : Hid (1048576 < S1 ∨ 4194305 < S2 + nx) := .inr (by have := HR.out; have := HNM.out; omega)
    clear q3 q4
    go_wp2
    refine bodyPost_ret (v := .tuple #[.slice none 0 0, .slice none 0 0, .int .i64 0, .int .i64 3]) ?_ rfl ?_
    · simp [results, Try.results6, go_sem]
    · exact ⟨HB1.out, .inr (.inl ⟨HNB.out, HQ.out, rfl⟩)⟩
  have d4 : decide (room < S2) = false := decide_eq_false q4
  have d4' : decide ((room : Int) < (S2 : Int)) = false := decide_eq_false (by omega)
  have HQ : Hid (S1 ≤ 1048576 ∧ S2 + nx ≤ 4194305) := ⟨by omega, by have := HR.out; have := HNM.out; omega⟩
  have mk := fun W => run_make_cap (P := Try.prog) Try.underlying23 hj0 hy0 hy1 hy2 rfl S1 (S1 : Int) rfl (by have := HS1.out; omega) (by have := HS1.out; omega) W
  clear q3 q4
  go_upto_region 8 with fail
  generalize hWa : World.alloc W1' _ = Wa
  generalize hWb : World.alloc Wa _ = Wb
  have hsz : Wa.heap.size = W1'.heap.size + 1 := by subst hWa; simp
  have hba : Below W1'.heap.size W1' Wa := by subst hWa; exact ext_alloc _ _
  have hbb : Below Wa.heap.size Wa Wb := by subst hWb; exact ext_alloc _ _
  have hrow : Row (fun _ => True) Wa W1'.heap.size 22 (.slice (some ⟨W1'.heap.size, 0, none⟩) 0 S1) 0 [] := by subst hWa; exact Row.made_at _ 0 _ _ _ rfl (by simp [zeros]) rfl (Nat.le_refl _) (by have := HS1.out; simp [zeros, maxLen]; omega) (by simp) (fun _ _ => trivial)
  have hst : TaSt W1' Wa.heap.size most nx [] Wb := by
    refine ⟨hba.size, _, 0, _, [], rfl, by subst hWb; exact heap_new _ _ _ rfl, ⟨ext_trans hba hbb, hrow.below hbb, rfl, fun j hj => absurd hj (by simp)⟩⟩
  have HST := Lib.hid hst
  have HBB := Lib.hid (ext_trans hba hbb)
  have HWB := Lib.hid (ext_trans HB1.out (ext_trans hba hbb))
  obtain ⟨B, hB⟩ : ∃ B, B = W1'.heap.size + 1 := ⟨_, rfl⟩
  rw [hsz, ← hB] at HST
  rw [← hB]
  clear hWa hWb hba hbb hrow hst mk hB hsz
  go_wp2_with fail
  refine (HCLN.out Wb HWB.out).mono ?_
  rintro e Wc ⟨ca, cc, rfl, hnew, hb⟩
  have HOC := Lib.hid (HOU.out W1' Wc B ca cc (HST.out.below hb) hnew HQ.out.1 HQ.out.2)
  have HBC := Lib.hid (ext_trans HBB.out hb)
  clear hnew hb HCLN HOU
  go_wp2_with fail
  refine HOC.out.mono ?_
  rintro e Wd ⟨oa, oc, rfl, hnew, hst, hgo⟩
  obtain ⟨la, ln, lc, lss, hln, hbox, HLs⟩ := hst.has
  rw [List.nil_append] at hln HLs
  obtain ⟨la2, lc2, hv2, hz⟩ := HLs.done
  injection hv2 with e1 e2 e3
  subst e1
  subst e3
  have HZ := Lib.hid hz
  have HON := Lib.hid hnew.sees
  have HBD := Lib.hid (ext_trans HB1.out HLs.bel)
  have p2 := cell_of_block hbox 2
  have p1 := cell_of_block hbox 1
  subst e2
  clear hnew hst hgo hln hbox HLs HOC hz
  go_wp2_with fail
  go_quiet (fail)
  rename_i nq
  go_wp2
  refine bodyPost_ret (v := .tuple #[.slice la TT.cls.length lc, .slice oa TT.out.length oc, .int .i64 (TT.next : Nat), .int .i64 0]) ?_ rfl ?_
  · simp [results, Try.results6, go_sem]
  · exact ⟨ext_trans HBD.out (ext_drewN _ _), .inr (.inr ⟨HNB.out, HQ.out.1, HQ.out.2, la, lc, lss, oa, oc, rfl, HZ.out.below (ext_drewN _ _), HON.out.below (ext_drewN _ _)⟩)⟩
end Go.Proofs.Ytionibckeicncaa
