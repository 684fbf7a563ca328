/- (*queue.Queue).Fade, Bump, Back, Next: each does what the document says to the step, the scores and who waits. -/
import Derived.Test.YthedgbdnidghnaaNBase
import Derived.Test.YthedgbdnidghnaaQuPure
import Derived.Test.YthedgbdnidghnaaQuW
import Derived.Test.YthedgbdnidghnaaQuPut
import Derived.Test.YthedgbdnidghnaaQuUp
import Derived.Test.YthedgbdnidghnaaQuLess
import Derived.Test.YthedgbdnidghnaaRows
import Derived.ArgAppend
import Derived.BigQuiet
import Derived.Deep.AppendLies
import Derived.Deep.QuietTactic
import Derived.Deep.RegionLaw
import Derived.Deep.RegionWith
import Derived.KernelRfl
import Derived.Laws.EntriesVeiled
import Derived.Lib.ConvBytes
import Derived.Lib.Hide
import Derived.Lib.SlBytesRow
import Derived.Lib.SmallJoins
import Derived.Shelf.Bytes.SlSmallAll
import Derived.WalkKit
import Derived.WalkLawsBesides
import Derived.WalkSpells
namespace Go.Proofs.Ythedgbdnidghnaa
open Go Go.RowKit Go.Joins

theorem info_i32 : (Try.prog.info? 21).map (fun i => (i.zero, i.size, i.bytes)) = some (some (.int .i32 0), 1, 4) := by kernel_rfl
theorem size_i32 : ∀ w, (sizeOf 21).run Try.prog w = .ok 1 w := fun w => by
  obtain ⟨i0, hi, hz0, hz1, hz2⟩ := info_parts info_i32
  simp [sizeOf, typeInfo, hi, hz1]

/-- append of one cell to a slice that has room: the cell behind its end is written. -/
theorem wpList_append_put {P : Program} {w : World} {ops : Array Oper} {rest : List Oper} {o : Oper} {a : Act} {Q : Exit → Act → World → Prop} (hgd : o.guard = none) (s x : Operand) (t : TypeId)
    (ho : o.op = .call { callee := .builtin .append, args := #[s, x], argTypes := #[t, t] }) (e : TypeId) (i : TypeInfo) (ht : P.underlying t = some (.slice e)) (hi : P.info? e = some i) (hsize : i.size = 1)
    (b k cap g c : Nat) (u : Value) (hs : a.eval s = .slice (some ⟨b, 0, none⟩) k cap) (hx : a.eval x = .slice (some ⟨g, 0, none⟩) 1 c) (hu : w.cell? ⟨g, 0, none⟩ = some u) (h1 : u.oneCell' = true)
    (hroom : k + 1 ≤ cap) (hc : (w.cell? ⟨b, k, none⟩).isSome = true) (hf : w.frozen? ⟨b, k, none⟩ = false)
    (h : wpList P ops Q rest (a.put o.dst (.slice (some ⟨b, 0, none⟩) (k + 1) cap)) (w.setCell ⟨b, k, none⟩ u)) : wpList P ops Q (o :: rest) a w := by
  refine wpList_plain hgd fun K hK => ?_
  have hr := run_append_room_cells (P := P) (w := w) t o.type e i ht hi b 0 k cap ⟨g, 0, none⟩ 1 c [u] (by simp [hsize])
    (fun j v hj => by
      cases j with
      | zero => simp at hj; subst hj; rw [show (⟨g, 0, none⟩ : Addr).add 0 = ⟨g, 0, none⟩ from by simp [Addr.add]]; exact hu
      | succ j => simp at hj)
    (fun v hv => by simp at hv; subst hv; exact h1) hroom
    (fun j hj => by have : j = 0 := by simpa using hj
                    subst this; simpa [hsize] using hc)
    (fun j hj => by have : j = 0 := by simpa using hj
                    subst this; simpa [hsize] using hf)
  have e1 : w.setCells b (0 + k * i.size) [u] = w.setCell ⟨b, k, none⟩ u := by
    rw [hsize, Nat.mul_one, Nat.zero_add]; rfl
  rw [e1] at hr
  unfold Oper.wp execOp
  simp only [ho, resolve, invoke, builtin, Sem.run_bind, Sem.run_pure, Result.andThen_ok, List.map_toArray, List.map_cons, List.map_nil, hs, hx, hr]
  exact hK _ _ h

/-- At blocks q, s, h, a lies the queue r. -/
def QIs (w : World) (q s h a n : Nat) (r : RQ) : Prop := ∃ hp m pl, QW w q s h a n r.st r.sc hp m pl ∧ Rep n hp m pl r
/-- What is answered, and what the queue then is. -/
def QPost (w : World) (q s h a n : Nat) (v : Value) (r : RQ) (e : Ending) (w' : World) : Prop := e = .returned v ∧ QIs w' q s h a n r ∧ Turn (Four q s h a) w w'

section
variable {q s h a n : Nat} {w w' : World} {r : RQ} {hp : List Nat} {m : Nat} {pl : List Int}
theorem QIs.ok (H : QIs w q s h a n r) : r.Ok n := by obtain ⟨_, _, _, _, R⟩ := H; exact R.ok
theorem QIs.below (H : QIs w q s h a n r) (k : Below w.heap.size w w') : QIs w' q s h a n r := by obtain ⟨hp, m, pl, W, R⟩ := H; exact ⟨hp, m, pl, W.below k, R⟩
theorem QIs.turn (H : QIs w q s h a n r) {F : Nat → Prop} (k : Turn F w w') (h1 : ¬ F q) (h2 : ¬ F s) (h3 : ¬ F h) (h4 : ¬ F a) : QIs w' q s h a n r := by obtain ⟨hp, m, pl, W, R⟩ := H; exact ⟨hp, m, pl, W.turn k h1 h2 h3 h4, R⟩
theorem QIs.lt (H : QIs w q s h a n r) : ∀ D, Four q s h a D → D < w.heap.size := by obtain ⟨hp, m, pl, W, R⟩ := H; exact W.lt

/-- Behind lessen. -/
theorem rep_down {r0 : RQ} (nm : n ≤ 4194304) (ls : r0.sc.length = n + 1) (lw : r0.wt.length = n + 1) (w0 : r0.wt.getD 0 false = false) (s1 : r0.st ≤ 1125899906842624) (sb : ∀ v, r0.sc.getD v 0 ≤ 1125899906842624)
    (hP : Pl n hp m pl r0.wt 0) (hH : HeapF (hpK (r0.sc.map (· / 16777216)) hp) m 0) (hl : m = lenR r0) : Rep n hp m pl (downR r0) :=
  ⟨RQ.Ok.down nm ls lw w0 s1 sb, hP, hH, hl⟩

set_option maxRecDepth 100000 in
set_option maxHeartbeats 800000 in
theorem qfade_any (H : QIs w q s h a n r) : Calls Try.prog 12 #[.pointer (some ⟨q, 0, none⟩)] w (QPost w q s h a n (.tuple #[]) (fadeR r)) := by
  obtain ⟨hp, m, pl, W, R⟩ := H
  have nm := R.ok.nm; have s0 := R.ok.s0; have s1 := R.ok.s1
  have c0 := W.c0
  have fq := W.fq 0
  obtain ⟨d, hd⟩ : ∃ d, d = r.st / 8 := ⟨_, rfl⟩
  obtain ⟨x, hx⟩ : ∃ x, x = r.st + r.st / 8 + 1 := ⟨_, rfl⟩
  obtain ⟨st, hst⟩ : ∃ st, st = r.st := ⟨_, rfl⟩
  rw [← hst] at c0 hd hx s0 s1
  have e0 : ((st : Int) == 0) = false := by simp; omega
  have E1 : (st : Int) / 8 = (d : Int) := by omega
  have E2 : (st : Int) + ((d : Int) + 1) = (x : Int) := by omega
  have W1 : IntKind.u64.wrap ((d : Int) + 1) = (d : Int) + 1 := IntWalk.u64_in _ (by omega)
  have W2 : IntKind.u64.wrap ((st : Int) + ((d : Int) + 1)) = (x : Int) := (IntWalk.u64_in _ (by omega)).trans (by omega)
  have HQ1 := Lib.hid (W.setSt x).drew
  have HT1 := Lib.hid ((Turn.refl (Four q s h a) w).setCell ⟨q, 0, none⟩ (Or.inl rfl) (.int .u64 (x : Int))).drew
  have HR := Lib.hid R
  have HX : Hid (x = r.st + r.st / 8 + 1) := by show _ = _; rw [hx, hst]
  have hxb : x ≤ 1125899906842624 := by omega
  clear W R hd hx hst
  by_cases hbig : 281474976710656 < x
  · have e1 : decide ((281474976710656 : Int) < (x : Int)) = true := by simp; omega
    have e1n : decide (281474976710656 < x) = true := by simp; omega
    have HF : Hid (fadeR r = downR (moreR r)) := by show _ = _; unfold fadeR; rw [if_pos (by rw [← HX.out]; exact hbig)]
    clear hbig
    go_enter Try.func12, Try.ntmps12
    go_wp2
    go_region
    generalize (w.setCell ⟨q, 0, none⟩ (.int .u64 (x : Int))).drew = w1 at HQ1 HT1
    have c0' := HQ1.out.c0
    go_wp2_with fail
    refine (qlessen_any HQ1.out HR.out.pl nm (by omega) (fun v => Nat.le_trans (HR.out.ok.sb v) (by omega))).mono ?_
    rintro e w2 ⟨rfl, hp2, pl2, hq2, hpl2, hh2, ht2⟩
    have HQ2 := Lib.hid hq2
    have HP2 := Lib.hid hpl2
    have HH2 := Lib.hid hh2
    have HT2 := Lib.hid (HT1.out.trans ht2)
    clear hq2 hpl2 hh2 ht2 c0'
    go_wp2
    go_end0
    refine ⟨rfl, ?_, HT2.out⟩
    rw [HF.out]
    have k := HR.out
    have hq := HQ2.out
    rw [HX.out] at hq
    exact ⟨hp2, m, pl2, hq, rep_down (r0 := moreR r) nm k.ok.ls k.ok.lw k.ok.w0 (by show r.st + r.st / 8 + 1 ≤ _; rw [← HX.out]; exact hxb) (fun v => Nat.le_trans (k.ok.sb v) (by omega)) HP2.out HH2.out k.len⟩
  · have e1 : decide ((281474976710656 : Int) < (x : Int)) = false := by simp; omega
    have e1n : decide (281474976710656 < x) = false := by simp; omega
    have HF : Hid (fadeR r = moreR r) := by show _ = _; unfold fadeR; rw [if_neg (by rw [← HX.out]; exact hbig)]
    clear hbig
    go_enter Try.func12, Try.ntmps12
    go_wp2
    go_region
    generalize (w.setCell ⟨q, 0, none⟩ (.int .u64 (x : Int))).drew = w1 at HQ1 HT1
    have c0' := HQ1.out.c0
    go_wp2
    go_end0
    have k := HR.out
    have hk := k.ok.fade
    refine ⟨rfl, ?_, HT1.out⟩
    rw [HF.out] at hk ⊢
    have hq := HQ1.out
    rw [HX.out] at hq
    exact ⟨hp, m, pl, hq, ⟨hk, k.pl, k.heap, k.len⟩⟩

/-- What Back and Bump leave. -/
def backV (r : RQ) (n : Nat) (v : Int) : RQ := if hasR n v then backR r v.toNat else r
def bumpV (r : RQ) (n : Nat) (v : Int) : RQ := if hasR n v then bumpR r v.toNat else r

set_option maxRecDepth 100000 in
set_option maxHeartbeats 800000 in
theorem qbump_any (v : Int) (H : QIs w q s h a n r) : Calls Try.prog 11 #[.pointer (some ⟨q, 0, none⟩), .int .i64 v] w (QPost w q s h a n (.int .i64 (codeR n v)) (bumpV r n v)) := by
  obtain ⟨hp, m, pl, W, R⟩ := H
  have nm := R.ok.nm; have s0 := R.ok.s0; have s1 := R.ok.s1
  have HCK := Lib.hid (qcheck_any v W s0)
  have HW := Lib.hid W
  have HR := Lib.hid R
  cases hv : hasR n v
  · have HC : Hid (codeR n v = 2) := by show _ = _; unfold codeR; rw [hv]; rfl
    have HV : Hid (bumpV r n v = r) := by show _ = _; unfold bumpV; rw [hv]; rfl
    clear W R hv
    rw [HC.out] at HCK
    go_enter Try.func11, Try.ntmps11
    go_wp2_with fail
    refine HCK.out.mono ?_
    rintro e w1 ⟨rfl, rfl⟩
    go_wp2
    go_ret
    refine ⟨by rw [HC.out]; rfl, ?_, Turn.refl _ _⟩
    rw [HV.out]
    exact ⟨hp, m, pl, HW.out, HR.out⟩
  · obtain ⟨u, rfl, h1, h2⟩ := has_nat hv
    have HC : Hid (codeR n (u : Int) = 0) := by show _ = _; unfold codeR; rw [hv]; rfl
    have HV : Hid (bumpV r n (u : Int) = bumpR r u) := by show _ = _; unfold bumpV; rw [hv, if_pos rfl]; simp
    rw [HC.out] at HCK
    have c0 := W.c0
    have c1 := W.c1
    have cs := W.cs h2
    have fs := W.fs u
    obtain ⟨y, hy⟩ : ∃ y, y = r.sc.getD u 0 := ⟨_, rfl⟩
    have hyb : y ≤ 281474976710656 := by rw [hy]; exact R.ok.sb u
    rw [← hy] at cs
    obtain ⟨st, hst⟩ : ∃ st, st = r.st := ⟨_, rfl⟩
    rw [← hst] at c0 s0 s1
    obtain ⟨x, hx⟩ : ∃ x, x = y + st := ⟨_, rfl⟩
    have E2 : (y : Int) + (st : Int) = (x : Int) := by omega
    have W2 : IntKind.u64.wrap ((y : Int) + (st : Int)) = (x : Int) := (IntWalk.u64_in _ (by omega)).trans (by omega)
    have hxb : x ≤ 562949953421312 := by omega
    have W3 : IntKind.i32.wrap (u : Int) = (u : Int) := IntWalk.i32_in _ (by omega)
    have HQ1 := Lib.hid (W.setS u x).drew
    have HT1 := Lib.hid ((Turn.refl (Four q s h a) w).setCell ⟨s, u, none⟩ (Or.inr (Or.inl rfl)) (.int .u64 (x : Int))).drew
    have HX : Hid (x = r.sc.getD u 0 + r.st) := by show _ = _; rw [hx, hy, hst]
    have HY : Hid (y = r.sc.getD u 0) := hy
    have HSB : Hid (∀ v, (r.sc.set u x).getD v 0 ≤ 562949953421312) := fun v => by
      rw [getD_setQ]; have := R.ok.sb v
      split
      · exact hxb
      · omega
    have hun : (u : Int) < (n : Int) + 1 := by omega
    clear W R hv hy hst hx
    go_enter Try.func11, Try.ntmps11
    go_wp2_with fail
    refine HCK.out.mono ?_
    rintro e w1 ⟨rfl, rfl⟩
    go_wp2
    go_region -- bump
    generalize (w.setCell ⟨s, u, none⟩ (.int .u64 (x : Int))).drew = w1 at HQ1 HT1
    have HUL : Hid (u < r.sc.length) := by show _ < _; rw [HR.out.ok.ls]; omega
    have HWT : Hid ((hasR n (u : Int) && !decide (pl.getD (u : Int).toNat 0 = -1)) = r.wt.getD u false) := by
      show _ = _
      rw [has_of h1 h2, Bool.true_and, Int.toNat_natCast]
      cases hw : r.wt.getD u false
      · rw [HR.out.pl.off u h1 h2 (by omega) hw]; rfl
      · obtain ⟨i, _, hi, _⟩ := HR.out.pl.on u h1 h2 hw
        rw [hi]; simp
    have HQW := Lib.hid (qwaits_any (u : Int) HQ1.out)
    rw [HWT.out] at HQW
    cases hw : r.wt.getD u false
    · rw [hw] at HQW
      have HH1 : Hid (HeapF (hpK (r.sc.set u x) hp) m 0) := heap_bump HR.out hw
      have HP1 : Hid (Pl n hp m pl r.wt 0) := HR.out.pl
      clear hw c0 c1 cs fs
      go_wp2_with fail
      refine HQW.out.mono ?_
      rintro e w2 ⟨rfl, rfl⟩
      have cs2 := HQ1.out.cs h2
      rw [getD_setE _ _ _ _ HUL.out] at cs2
      have c12 := HQ1.out.c1
      by_cases hbig : 281474976710656 < x
      · have e1 : decide ((281474976710656 : Int) < (x : Int)) = true := by simp; omega
        have e1n : decide (281474976710656 < x) = true := by simp; omega
        have HF : Hid (bumpR r u = downR (addR r u)) := by show _ = _; unfold bumpR; rw [if_pos (by rw [← HX.out]; exact hbig)]
        clear hbig
        go_wp2_with fail
        refine (qlessen_any HQ1.out HP1.out nm (by have := HR.out.ok.s1; omega) (fun v => Nat.le_trans (HSB.out v) (by omega))).mono ?_
        rintro e w4 ⟨rfl, hp4, pl4, hq4, hpl4, hh4, ht4⟩
        have HQ4 := Lib.hid hq4
        have HP4 := Lib.hid hpl4
        have HH4 := Lib.hid hh4
        have HT4 := Lib.hid (HT1.out.trans ht4)
        clear hq4 hpl4 hh4 ht4 cs2 c12
        go_wp2
        go_ret
        refine ⟨by rw [HC.out]; rfl, ?_, HT4.out⟩
        rw [HV.out, HF.out]
        have k := HR.out
        have hq := HQ4.out
        have hh := HH4.out
        have hsb := HSB.out
        rw [HX.out] at hq hh hsb
        exact ⟨hp4, m, pl4, hq, rep_down (r0 := addR r u) nm (by simpa [addR] using k.ok.ls) k.ok.lw k.ok.w0 (by have := k.ok.s1; show r.st ≤ _; omega) (fun v => Nat.le_trans (hsb v) (by omega)) HP4.out hh k.len⟩
      · have e1 : decide ((281474976710656 : Int) < (x : Int)) = false := by simp; omega
        have e1n : decide (281474976710656 < x) = false := by simp; omega
        have HF : Hid (bumpR r u = addR r u) := by show _ = _; unfold bumpR; rw [if_neg (by rw [← HX.out]; exact hbig)]
        clear hbig
        go_wp2
        go_ret
        refine ⟨by rw [HC.out]; rfl, ?_, HT1.out⟩
        have k := HR.out
        have hk := k.ok.bump u
        have hq := HQ1.out
        have hh := HH1.out
        rw [HX.out] at hq hh
        rw [HV.out]
        rw [HF.out] at hk ⊢
        exact ⟨_, m, _, hq, ⟨hk, HP1.out, hh, k.len⟩⟩
    · rw [hw] at HQW
      obtain ⟨i, him, hi, hpi⟩ := HR.out.pl.on u h1 h2 hw
      have hmn := HR.out.pl.mn
      have ca := HQ1.out.ca h2
      rw [hi] at ca
      have c3 := HQ1.out.c3
      have W4 : IntKind.i64.wrap (i : Int) = (i : Int) := IntWalk.i64_in _ (by omega)
      have HHO : Hid (PlH n hp m pl r.wt 0 u i) := HR.out.pl.hole him hpi
      have HUP : Hid (UpF (vwK (r.sc.set u x) hp u i) m i) := up_bump HR.out him hpi (by rw [HX.out]; omega)
      clear hw c0 c1 cs fs hi hpi
      go_wp2_with fail
      refine HQW.out.mono ?_
      rintro e w2 ⟨rfl, rfl⟩
      go_wp2_with fail
      refine (qup_any u i HQ1.out HHO.out HUP.out nm (fun v => Nat.le_trans (HSB.out v) (by omega))).mono ?_
      rintro e w3 ⟨rfl, hp3, pl3, hq3, hpl3, hh3, ht3⟩
      have HQ3 := Lib.hid hq3
      have HP3 := Lib.hid hpl3
      have HH3 := Lib.hid hh3
      have HT3 := Lib.hid (HT1.out.trans ht3)
      clear hq3 hpl3 hh3 ht3 ca c3 him
      have cs2 := HQ3.out.cs h2
      rw [getD_setE _ _ _ _ HUL.out] at cs2
      have c12 := HQ3.out.c1
      by_cases hbig : 281474976710656 < x
      · have e1 : decide ((281474976710656 : Int) < (x : Int)) = true := by simp; omega
        have e1n : decide (281474976710656 < x) = true := by simp; omega
        have HF : Hid (bumpR r u = downR (addR r u)) := by show _ = _; unfold bumpR; rw [if_pos (by rw [← HX.out]; exact hbig)]
        clear hbig
        go_wp2_with fail
        refine (qlessen_any HQ3.out HP3.out nm (by have := HR.out.ok.s1; omega) (fun v => Nat.le_trans (HSB.out v) (by omega))).mono ?_
        rintro e w4 ⟨rfl, hp4, pl4, hq4, hpl4, hh4, ht4⟩
        have HQ4 := Lib.hid hq4
        have HP4 := Lib.hid hpl4
        have HH4 := Lib.hid hh4
        have HT4 := Lib.hid (HT3.out.trans ht4)
        clear hq4 hpl4 hh4 ht4 cs2 c12
        go_wp2
        go_ret
        refine ⟨by rw [HC.out]; rfl, ?_, HT4.out⟩
        rw [HV.out, HF.out]
        have k := HR.out
        have hq := HQ4.out
        have hh := HH4.out
        have hsb := HSB.out
        rw [HX.out] at hq hh hsb
        exact ⟨hp4, m, pl4, hq, rep_down (r0 := addR r u) nm (by simpa [addR] using k.ok.ls) k.ok.lw k.ok.w0 (by have := k.ok.s1; show r.st ≤ _; omega) (fun v => Nat.le_trans (hsb v) (by omega)) HP4.out hh k.len⟩
      · have e1 : decide ((281474976710656 : Int) < (x : Int)) = false := by simp; omega
        have e1n : decide (281474976710656 < x) = false := by simp; omega
        have HF : Hid (bumpR r u = addR r u) := by show _ = _; unfold bumpR; rw [if_neg (by rw [← HX.out]; exact hbig)]
        clear hbig
        go_wp2
        go_ret
        refine ⟨by rw [HC.out]; rfl, ?_, HT3.out⟩
        have k := HR.out
        have hk := k.ok.bump u
        have hq := HQ3.out
        have hh := HH3.out
        rw [HX.out] at hq hh
        rw [HV.out]
        rw [HF.out] at hk ⊢
        exact ⟨_, m, _, hq, ⟨hk, HP3.out, hh, k.len⟩⟩

theorem set_same (l : List Bool) (u : Nat) (h : l.getD u false = true) : l.set u true = l := by
  apply List.ext_getElem (by simp)
  intro k h1 h2
  rw [List.getElem_set]
  split
  · rename_i e; subst e; simp only [List.getD, List.getElem?_eq_getElem h2, Option.getD_some] at h; exact h.symm
  · rfl

set_option maxRecDepth 100000 in
set_option maxHeartbeats 800000 in
theorem qback_any (v : Int) (H : QIs w q s h a n r) : Calls Try.prog 17 #[.pointer (some ⟨q, 0, none⟩), .int .i64 v] w (QPost w q s h a n (.int .i64 (codeR n v)) (backV r n v)) := by
  obtain ⟨i0, hi, hz0, hz1, hz2⟩ := info_parts info_i32
  obtain ⟨hp, m, pl, W, R⟩ := H
  have nm := R.ok.nm; have s0 := R.ok.s0; have s1 := R.ok.s1
  have HCK := Lib.hid (qcheck_any v W s0)
  have HW := Lib.hid W
  have HR := Lib.hid R
  cases hv : hasR n v
  · have HC : Hid (codeR n v = 2) := by show _ = _; unfold codeR; rw [hv]; rfl
    have HV : Hid (backV r n v = r) := by show _ = _; unfold backV; rw [hv]; rfl
    clear W R hv
    rw [HC.out] at HCK
    go_enter Try.func17, Try.ntmps17
    go_wp2_with fail
    refine HCK.out.mono ?_
    rintro e w1 ⟨rfl, rfl⟩
    go_wp2
    go_ret
    refine ⟨by rw [HC.out]; rfl, ?_, Turn.refl _ _⟩
    rw [HV.out]
    exact ⟨hp, m, pl, HW.out, HR.out⟩
  · obtain ⟨u, rfl, h1, h2⟩ := has_nat hv
    have HC : Hid (codeR n (u : Int) = 0) := by show _ = _; unfold codeR; rw [hv]; rfl
    have HV : Hid (backV r n (u : Int) = backR r u) := by show _ = _; unfold backV; rw [hv, if_pos rfl]; simp
    rw [HC.out] at HCK
    have HWT : Hid ((hasR n (u : Int) && !decide (pl.getD (u : Int).toNat 0 = -1)) = r.wt.getD u false) := by
      show _ = _
      rw [has_of h1 h2, Bool.true_and, Int.toNat_natCast]
      cases hw : r.wt.getD u false
      · rw [HR.out.pl.off u h1 h2 (by omega) hw]; rfl
      · obtain ⟨i, _, hi, _⟩ := HR.out.pl.on u h1 h2 hw
        rw [hi]; simp
    have HQW := Lib.hid (qwaits_any (u : Int) W)
    rw [HWT.out] at HQW
    cases hw : r.wt.getD u false
    · rw [hw] at HQW
      have hmn : m < n := by rw [R.len]; exact len_room R.ok h1 h2 hw
      have c2 := W.c2
      have W3 : IntKind.i32.wrap (u : Int) = (u : Int) := IntWalk.i32_in _ (by omega)
      have W5 : IntKind.i64.wrap (((m + 1 : Nat) : Int) - 1) = (m : Int) := (IntWalk.i64_in _ (by omega)).trans (by omega)
      have W6 : IntKind.i64.wrap ((m : Int) + 1 - 1) = (m : Int) := (IntWalk.i64_in _ (by omega)).trans (by omega)
      have HHO : Hid (PlH n (hp.set m u) (m + 1) pl (r.wt.set u true) 0 u m) := R.pl.back h1 h2 R.ok.lw hw hmn
      have HUP : Hid (UpF (vwK r.sc (hp.set m u) u m) (m + 1) m) := up_back R.heap
      have HLN : Hid (m + 1 = lenR (backR r u)) := by
        show m + 1 = (r.wt.set u true).count true
        rw [count_setT _ _ (by rw [R.ok.lw]; omega) hw, R.len]; rfl
      have HA : Hid (QW (w.alloc (.cells #[.int .i32 (u : Int)] 21)) q s h a n r.st r.sc hp m pl) := W.below (ext_alloc _ _)
      have hlt := W.lt
      have cnew : (w.alloc (.cells #[.int .i32 (u : Int)] 21)).cell? ⟨w.heap.size, 0, none⟩ = some (.int .i32 (u : Int)) := cell_of_block (heap_new w _ _ rfl) 0
      have HTA : Hid (Turn (Four q s h a) w (w.alloc (.cells #[.int .i32 (u : Int)] 21))) := Turn.of_below (ext_alloc _ _)
      have HQ1 := Lib.hid (HA.out.setH m u)
      have HT1 := Lib.hid (HTA.out.setCell ⟨h, m, none⟩ (Or.inr (Or.inr (Or.inl rfl))) (.int .i32 (u : Int)))
      have c2' := HQ1.out.c2
      have fq := HQ1.out.fq 2
      have fq' := HA.out.fq 2
      have cq' := HA.out.c2
      have HQ2 := Lib.hid (HQ1.out.setM (m + 1))
      have HT2 := Lib.hid (HT1.out.setCell ⟨q, 2, none⟩ (Or.inl rfl) (.slice (some ⟨h, 0, none⟩) (m + 1) n))
      have c2'' := HQ2.out.c2
      clear W R hv hw hlt
      go_enter Try.func17, Try.ntmps17
      go_wp2_with fail
      refine HCK.out.mono ?_
      rintro e w1 ⟨rfl, rfl⟩
      go_wp2_with fail
      refine HQW.out.mono ?_
      rintro e w2 ⟨rfl, rfl⟩
      go_wp2_with (at_builtin; refine wpList_append_put rfl _ _ 47 rfl 21 i0 Try.underlying47 hi hz1 h m n w.heap.size 1 (.int .i32 (u : Int)) rfl rfl cnew rfl (by omega) (by rw [HA.out.ch hmn]; rfl) (HA.out.fh m) ?_)
      go_wp2_with fail
      refine (qup_any u m HQ2.out HHO.out HUP.out nm (fun v => Nat.le_trans (HR.out.ok.sb v) (by omega))).mono ?_
      rintro e w4 ⟨rfl, hp4, pl4, hq4, hpl4, hh4, ht4⟩
      have HQ4 := Lib.hid hq4
      have HP4 := Lib.hid hpl4
      have HH4 := Lib.hid hh4
      have HT4 := Lib.hid (HT2.out.trans ht4)
      clear hq4 hpl4 hh4 ht4 c2' c2'' fq fq' cq' cnew c2
      go_wp2
      go_ret
      refine ⟨by rw [HC.out]; rfl, ?_, HT4.out⟩
      rw [HV.out]
      exact ⟨hp4, m + 1, pl4, HQ4.out, ⟨HR.out.ok.back h1, HP4.out, HH4.out, HLN.out⟩⟩
    · rw [hw] at HQW
      have HB : Hid (backR r u = r) := by show _ = _; unfold backR; rw [set_same _ _ hw]
      clear W R hv hw
      go_enter Try.func17, Try.ntmps17
      go_wp2_with fail
      refine HCK.out.mono ?_
      rintro e w1 ⟨rfl, rfl⟩
      go_wp2_with fail
      refine HQW.out.mono ?_
      rintro e w2 ⟨rfl, rfl⟩
      go_wp2
      go_ret
      refine ⟨by rw [HC.out]; rfl, ?_, Turn.refl _ _⟩
      rw [HV.out, HB.out]
      exact ⟨hp, m, pl, HW.out, HR.out⟩
end
end Go.Proofs.Ythedgbdnidghnaa
