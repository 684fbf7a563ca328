/- (*queue.Queue).Next: the next variable is taken. -/
import Derived.Test.YthedgbdnidghnaaLib
import Derived.Test.YthedgbdnidghnaaQuPure
import Derived.Test.YthedgbdnidghnaaQuW
import Derived.Test.YthedgbdnidghnaaQuPut
import Derived.Test.YthedgbdnidghnaaQuDown
import Derived.Test.YthedgbdnidghnaaQuOps
import Derived.Test.YthedgbdnidghnaaRows
import Derived.ArgAppend
import Derived.BigQuiet
import Derived.Deep.AppendLies
import Derived.Deep.QuietTactic
import Derived.Deep.RegionLaw
import Derived.Deep.RegionWith
import Derived.KernelRfl
import Derived.Laws.EntriesVeiled
import Derived.Lib.ConvBytes
import Derived.Lib.Hide
import Derived.Lib.SlBytesRow
import Derived.Lib.SmallJoins
import Derived.Shelf.Bytes.SlSmallAll
import Derived.WalkKit
import Derived.WalkLawsBesides
import Derived.WalkSpells
namespace Go.Proofs.Ythedgbdnidghnaa
open Go Go.RowKit Go.Joins

/-- What Next answers, and leaves. -/
def nextA (r : RQ) (n : Nat) : Value := .tuple #[.int .i64 (bestR r n : Int), .bool (decide (bestR r n ≠ 0))]
def nextV (r : RQ) (n : Nat) : RQ := if bestR r n = 0 then r else takeR r (bestR r n)

section
variable {q s h a n : Nat} {w w' : World} {r : RQ} {hp : List Nat} {m : Nat} {pl : List Int}

theorem qupto (W : World) (h k cap : Nat) (hk : k ≤ cap) : (Instr.slice 47 (.slice (some ⟨h, 0, none⟩) (k + 1) cap) none (some (.int .i64 (k : Int))) none).run Try.prog W = .ok (.slice (some ⟨h, 0, none⟩) k cap) W := by
  have := run_upto (P := Try.prog) Try.underlying47 size_i32 W (some ⟨h, 0, none⟩) (k + 1) cap k k rfl hk
  rw [this]
  simp [sliced, Addr.add]

set_option maxRecDepth 100000 in
set_option maxHeartbeats 800000 in
theorem qnext_any (H : QIs w q s h a n r) : Calls Try.prog 13 #[.pointer (some ⟨q, 0, none⟩)] w (QPost w q s h a n (nextA r n) (nextV r n)) := by
  obtain ⟨hp, m, pl, W, R⟩ := H
  have nm := R.ok.nm
  have HLEN := Lib.hid (qlen_any W)
  have HR := Lib.hid R
  have HW := Lib.hid W
  cases m with
  | zero =>
    have HB : Hid (bestR r n = 0) := best_none R.ok R.len.symm
    clear W R
    go_enter Try.func13, Try.ntmps13
    go_wp2_with fail
    refine HLEN.out.mono ?_
    rintro e w1 ⟨rfl, rfl⟩
    go_wp2
    go_ret2
    refine ⟨?_, ?_, Turn.refl _ _⟩
    · unfold nextA; rw [HB.out]; rfl
    · unfold nextV; rw [HB.out, if_pos rfl]; exact ⟨hp, 0, pl, HW.out, HR.out⟩
  | succ k =>
    have htop := R.top (by omega)
    have hmn := R.pl.mn
    obtain ⟨v, hv⟩ : ∃ v, v = hp.getD 0 0 := ⟨_, rfl⟩
    obtain ⟨u, hu⟩ : ∃ u, u = hp.getD k 0 := ⟨_, rfl⟩
    rw [← hv] at htop
    have hv1 := htop.v1; have hv2 := htop.v2
    have HB : Hid (bestR r n = v) := htop.best R.ok
    have HV0 : Hid (v ≠ 0) := by show _ ≠ _; omega
    have HLN : Hid (k = lenR (takeR r v)) := by
      show k = (r.wt.set v false).count true
      rw [count_setF _ _ (by rw [R.ok.lw]; omega) htop.w]
      have := R.len; unfold lenR at this; omega
    have HOK : Hid ((takeR r v).Ok n) := R.ok.take hv1
    have c2 := W.c2
    have ch0 := W.ch (i := 0) (by omega)
    rw [← hv] at ch0
    have W5 : IntKind.i64.wrap (((k + 1 : Nat) : Int) - 1) = (k : Int) := (IntWalk.i64_in _ (by omega)).trans (by omega)
    have W6 : IntKind.i64.wrap ((k : Int) + 1 - 1) = (k : Int) := (IntWalk.i64_in _ (by omega)).trans (by omega)
    have W7 : IntKind.i64.wrap (v : Int) = (v : Int) := IntWalk.i64_in _ (by omega)
    have e0 : (((k + 1 : Nat) : Int) == 0) = false := by simp; omega
    have e0' : ((k : Int) + 1 == 0) = false := by simp; omega
    have SL := fun W => qupto W h k n (by omega)
    have HNX0 : Hid (∀ w2 hp' pl', QW w2 q s h a n r.st r.sc hp' k pl' → Turn (Four q s h a) w w2 → Pl n hp' k pl' (r.wt.set v false) v → HeapF (hpK r.sc hp') k 0 → QPost w q s h a n (nextA r n) (nextV r n) (.returned (.tuple #[.int .i64 (v : Int), .bool true])) (w2.setCell ⟨a, v, none⟩ (.int .i32 (-1)))) := by
      intro w2 hp' pl' h1 h2 h3 h4
      refine ⟨?_, ?_, h2.setCell ⟨a, v, none⟩ (Or.inr (Or.inr (Or.inr rfl))) _⟩
      · unfold nextA; rw [HB.out, show decide (v ≠ 0) = true by simpa using HV0.out]
      · unfold nextV; rw [HB.out, if_neg HV0.out]
        refine ⟨hp', k, _, h1.setA v (-1), ⟨HOK.out, h3.away hv2 (getD_setE _ _ _ _ (by rw [HR.out.ok.lw]; omega)), h4, HLN.out⟩⟩
    by_cases hk : k = 0
    · subst hk
      have HPL : Hid (Pl n hp 0 pl (r.wt.set v false) v) := R.pl.next0 hv.symm R.ok.lw
      have HHE : Hid (HeapF (hpK r.sc hp) 0 0) := fun k h0 hk => absurd hk (by omega)
      clear W R hv hu
      go_enter Try.func13, Try.ntmps13
      go_wp2_with fail
      refine HLEN.out.mono ?_
      rintro e w1 ⟨rfl, rfl⟩
      go_wp2
      go_quiet (fail)
      have HQ1 := Lib.hid (HW.out.drewN nq)
      have HT1 := Lib.hid ((Turn.refl (Four q s h a) w).drewN nq)
      generalize w.drewN nq = w1 at HQ1 HT1 ⊢
      clear c2 ch0
      have c2 := HQ1.out.c2
      have fq := HQ1.out.fq 2
      have ch0 := HQ1.out.ch (i := 0) (by omega)
      have HQ2 := Lib.hid (HQ1.out.setM 0)
      have HT2 := Lib.hid (HT1.out.setCell ⟨q, 2, none⟩ (Or.inl rfl) (.slice (some ⟨h, 0, none⟩) 0 n))
      have c3 := HQ2.out.c3
      have ca := HQ2.out.ca hv2
      have fa := HQ2.out.fa v
      have ca' := HQ1.out.ca hv2
      have fa' := HQ1.out.fa v
      go_wp2
      go_ret2
      exact HNX0.out _ _ _ HQ2.out HT2.out HPL.out HHE.out
    · have HPL : Hid (PlH n hp k pl (r.wt.set v false) v u 0) := R.pl.next (by omega) hv.symm hu.symm R.ok.lw
      have HDN : Hid (DownF (vwK r.sc hp u 0) k 0 0) := down_next R.heap
      have d1 : decide ((0 : Int) < (k : Int)) = true := by simp; omega
      have d1n : decide (0 < k) = true := by simp; omega
      have HU := Lib.hid hu
      have HK := Lib.hid hk
      clear W R hv hu hk
      go_enter Try.func13, Try.ntmps13
      go_wp2_with fail
      refine HLEN.out.mono ?_
      rintro e w1 ⟨rfl, rfl⟩
      go_wp2
      go_quiet (fail)
      have HQ1 := Lib.hid (HW.out.drewN nq)
      have HT1 := Lib.hid ((Turn.refl (Four q s h a) w).drewN nq)
      generalize w.drewN nq = w1 at HQ1 HT1 ⊢
      clear c2 ch0
      have c2 := HQ1.out.c2
      have fq := HQ1.out.fq 2
      have ch0 := HQ1.out.ch (i := k) (by omega)
      rw [← HU.out] at ch0
      have HQ2 := Lib.hid (HQ1.out.setM k)
      have HT2 := Lib.hid (HT1.out.setCell ⟨q, 2, none⟩ (Or.inl rfl) (.slice (some ⟨h, 0, none⟩) k n))
      go_wp2_with fail
      refine (qdown_any u 0 0 HQ2.out HPL.out HDN.out (Nat.le_refl _) nm (fun v => Nat.le_trans (HR.out.ok.sb v) (by omega))).mono ?_
      rintro e w3 ⟨rfl, hp3, pl3, hq3, hpl3, hh3, ht3⟩
      have HQ3 := Lib.hid hq3
      have HP3 := Lib.hid hpl3
      have HH3 := Lib.hid hh3
      have HT3 := Lib.hid (HT2.out.trans ht3)
      clear hq3 hpl3 hh3 ht3 c2 fq ch0
      have c3 := HQ3.out.c3
      have ca := HQ3.out.ca hv2
      have fa := HQ3.out.fa v
      go_wp2
      go_ret2
      exact HNX0.out _ _ _ HQ3.out HT3.out HP3.out HH3.out
end
end Go.Proofs.Ythedgbdnidghnaa
