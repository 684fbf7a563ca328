/- (*queue.Queue).put, ahead, has, check, Len, by their contracts. -/
import Derived.Test.YthedgbdnidghnaaQuPure
import Derived.Test.YthedgbdnidghnaaQuW
import Derived.Test.YthedgbdnidghnaaRows
import Derived.BigQuiet
import Derived.Deep.AppendLies
import Derived.Deep.QuietTactic
import Derived.Deep.RegionLaw
import Derived.Deep.RegionWith
import Derived.KernelRfl
import Derived.Laws.EntriesVeiled
import Derived.Lib.ConvBytes
import Derived.Lib.Hide
import Derived.Lib.SlBytesRow
import Derived.Lib.SmallJoins
import Derived.Shelf.Bytes.SlSmallAll
import Derived.WalkKit
import Derived.WalkLawsBesides
import Derived.WalkSpells
namespace Go.Proofs.Ythedgbdnidghnaa
open Go Go.RowKit Go.Joins

section
variable {q s h a n st : Nat} {sc hp : List Nat} {m : Nat} {pl : List Int} {w : World}

set_option maxRecDepth 100000 in
theorem qput_any (v i : Nat) (H : QW w q s h a n st sc hp m pl) (hi : i < m) (hm : m ≤ n) (hv : v ≤ n) (hn : n ≤ 4194304) :
    Calls Try.prog 18 #[.pointer (some ⟨q, 0, none⟩), .int .i32 v, .int .i64 i] w fun e w' =>
      e = .returned (.tuple #[]) ∧ QW w' q s h a n st sc (hp.set i v) m (pl.set v (i : Int)) ∧ Turn (Four q s h a) w w' := by
  have H1 := H.setH i v
  have c2 := H.c2
  have ch := H.ch (i := i) (by omega)
  have fh := H.fh i
  have c3 := H1.c3
  have ca := H1.ca hv
  have fa := H1.fa v
  have W1 : IntKind.i32.wrap (i : Int) = (i : Int) := IntWalk.i32_in _ (by omega)
  have e1 : ((i : Nat) : Int) < (m : Int) := by omega
  have e2 : (v : Int) < ((n + 1 : Nat) : Int) := by omega
  have HH := Lib.hid H
  have HH1 := Lib.hid H1
  clear H H1
  go_enter Try.func18, Try.ntmps18
  go_wp2
  go_end0
  exact ⟨rfl, HH1.out.setA v i, ((Turn.refl _ _).setCell ⟨h, i, none⟩ (Or.inr (Or.inr (Or.inl rfl))) _).setCell ⟨a, v, none⟩ (Or.inr (Or.inr (Or.inr rfl))) _⟩

set_option maxRecDepth 100000 in
theorem qahead_any (v u : Nat) (H : QW w q s h a n st sc hp m pl) (hv : v ≤ n) (hu : u ≤ n) (hn : n ≤ 4194304) (hs : ∀ v, sc.getD v 0 ≤ 18446744073709551615) :
    Calls Try.prog 33 #[.pointer (some ⟨q, 0, none⟩), .int .i32 v, .int .i32 u] w fun e w' =>
      e = .returned (.bool (ahd sc v u)) ∧ ∃ k, w' = w.drewN k := by
  have c1 := H.c1
  have cv := H.cs hv
  have cu := H.cs hu
  have hne := fun h => ahd_ne (sc := sc) (v := v) (u := u) (by omega) (by omega) (by have := hs v; omega) (by have := hs u; omega) h
  have heq := fun h => ahd_eq (sc := sc) (v := v) (u := u) h
  obtain ⟨x, hx⟩ : ∃ x, x = sc.getD v 0 := ⟨_, rfl⟩
  obtain ⟨y, hy⟩ : ∃ y, y = sc.getD u 0 := ⟨_, rfl⟩
  rw [← hx] at cv hne heq
  rw [← hy] at cu hne heq
  have e1 : (v : Int) < ((n + 1 : Nat) : Int) := by omega
  have e2 : (u : Int) < ((n + 1 : Nat) : Int) := by omega
  clear H hs hx hy
  by_cases hxy : x = y
  · have HA := Lib.hid (heq hxy)
    clear hne heq
    subst hxy
    go_enter Try.func33, Try.ntmps33
    go_wp2
    go_quiet (fail)
    go_wp2
    go_ret
    refine ⟨?_, _, rfl⟩
    rw [HA.out]; simp
  · have HA := Lib.hid (hne hxy)
    have d1 : ((x : Int) == (y : Int)) = false := by simp; omega
    have d2 : ((x : Int) != (y : Int)) = true := by simp; omega
    have HX := Lib.hid hxy
    clear hne heq hxy
    go_enter Try.func33, Try.ntmps33
    go_wp2
    go_quiet (fail)
    go_wp2
    go_quiet (fail)
    go_wp2
    go_ret
    refine ⟨?_, _, World.drewN_drewN ..⟩
    rw [HA.out]; simp

set_option maxRecDepth 100000 in
theorem qhas_any (v : Int) (H : QW w q s h a n st sc hp m pl) :
    Calls Try.prog 30 #[.pointer (some ⟨q, 0, none⟩), .int .i64 v] w fun e w' => e = .returned (.bool (hasR n v)) ∧ w = w' := by
  have c1 := H.c1
  clear H
  by_cases h1 : 1 ≤ v
  · have d1 : decide ((0 : Int) < v) = true := by simp; omega
    have HR : Hid (hasR n v = decide (v < ((n + 1 : Nat) : Int))) := by
      show _ = _
      unfold hasR
      rw [show decide (1 ≤ v) = true by simpa using h1, Bool.true_and]
      congr 1; apply propext; constructor <;> intro h' <;> omega
    clear h1
    go_enter Try.func30, Try.ntmps30
    go_wp2
    go_ret
    refine ⟨?_, rfl⟩
    rw [HR.out]; simp
  · have d1 : decide ((0 : Int) < v) = false := by simp; omega
    have HR : Hid (hasR n v = false) := by
      show _ = _
      unfold hasR
      rw [show decide (1 ≤ v) = false by simpa using h1, Bool.false_and]
    clear h1
    go_enter Try.func30, Try.ntmps30
    go_wp2
    go_ret
    refine ⟨?_, rfl⟩
    rw [HR.out]; rfl

set_option maxRecDepth 100000 in
theorem qcheck_any (v : Int) (H : QW w q s h a n st sc hp m pl) (h0 : 1 ≤ st) :
    Calls Try.prog 26 #[.pointer (some ⟨q, 0, none⟩), .int .i64 v] w fun e w' => e = .returned (.int .i64 (codeR n v)) ∧ w = w' := by
  have c0 := H.c0
  have HH := Lib.hid (qhas_any v H)
  have e0 : ((st : Int) == 0) = false := by simp; omega
  clear H h0
  go_enter Try.func26, Try.ntmps26
  go_wp2_with fail
  refine HH.out.mono ?_
  rintro e w' ⟨rfl, rfl⟩
  cases hh : hasR n v
  · have HC : Hid (codeR n v = 2) := by show _ = _; unfold codeR; rw [hh]; rfl
    clear hh
    go_wp2
    go_ret
    refine ⟨?_, rfl⟩
    rw [HC.out]; rfl
  · have HC : Hid (codeR n v = 0) := by show _ = _; unfold codeR; rw [hh]; rfl
    clear hh
    go_wp2
    go_ret
    refine ⟨?_, rfl⟩
    rw [HC.out]; rfl

set_option maxRecDepth 100000 in
theorem qlen_any (H : QW w q s h a n st sc hp m pl) :
    Calls Try.prog 15 #[.pointer (some ⟨q, 0, none⟩)] w fun e w' => e = .returned (.int .i64 m) ∧ w = w' := by
  have c2 := H.c2
  clear H
  go_enter Try.func15, Try.ntmps15
  go_wp2
  go_ret
  exact ⟨rfl, rfl⟩

set_option maxRecDepth 100000 in
theorem qscore_any (v : Int) (H : QW w q s h a n st sc hp m pl) :
    Calls Try.prog 16 #[.pointer (some ⟨q, 0, none⟩), .int .i64 v] w fun e w' => e = .returned (.int .u64 (scoreR sc n v : Int)) ∧ w = w' := by
  have c1 := H.c1
  have HH := Lib.hid (qhas_any v H)
  by_cases h1 : 1 ≤ v ∧ v ≤ n
  · obtain ⟨u, rfl⟩ := Int.eq_ofNat_of_zero_le (show 0 ≤ v by omega)
    have cu := H.cs (i := u) (by omega)
    have HR : Hid (hasR n (u : Int) = true) := has_of (by omega) (by omega)
    have HS : Hid (scoreR sc n (u : Int) = sc.getD u 0) := by show _ = _; unfold scoreR; rw [HR.out, if_pos rfl]; simp
    have e1 : (u : Int) < ((n + 1 : Nat) : Int) := by omega
    obtain ⟨x, hx⟩ : ∃ x, x = sc.getD u 0 := ⟨_, rfl⟩
    rw [← hx] at cu
    have HX := Lib.hid hx
    clear H h1 hx
    rw [HR.out] at HH
    go_enter Try.func16, Try.ntmps16
    go_wp2_with fail
    refine HH.out.mono ?_
    rintro e w' ⟨rfl, rfl⟩
    go_wp2
    go_ret
    refine ⟨?_, rfl⟩
    rw [HS.out, ← HX.out]; rfl
  · have HR : Hid (hasR n v = false) := has_not h1
    have HS : Hid (scoreR sc n v = 0) := by show _ = _; unfold scoreR; rw [HR.out]; rfl
    clear H h1
    rw [HR.out] at HH
    go_enter Try.func16, Try.ntmps16
    go_wp2_with fail
    refine HH.out.mono ?_
    rintro e w' ⟨rfl, rfl⟩
    go_wp2
    go_ret
    refine ⟨?_, rfl⟩
    rw [HS.out]; rfl

set_option maxRecDepth 100000 in
theorem qwaits_any (v : Int) (H : QW w q s h a n st sc hp m pl) :
    Calls Try.prog 14 #[.pointer (some ⟨q, 0, none⟩), .int .i64 v] w fun e w' => e = .returned (.bool (hasR n v && !decide (pl.getD v.toNat 0 = -1))) ∧ w = w' := by
  have c3 := H.c3
  have HH := Lib.hid (qhas_any v H)
  by_cases h1 : 1 ≤ v ∧ v ≤ n
  · obtain ⟨u, rfl⟩ := Int.eq_ofNat_of_zero_le (show 0 ≤ v by omega)
    have cu := H.ca (i := u) (by omega)
    have HR : Hid (hasR n (u : Int) = true) := has_of (by omega) (by omega)
    have e1 : (u : Int) < ((n + 1 : Nat) : Int) := by omega
    have HU : Hid ((u : Int).toNat = u) := by show _ = _; simp
    obtain ⟨x, hx⟩ : ∃ x, x = pl.getD u 0 := ⟨_, rfl⟩
    rw [← hx] at cu
    have HX := Lib.hid hx
    clear H h1 hx
    rw [HR.out] at HH
    go_enter Try.func14, Try.ntmps14
    go_wp2_with fail
    refine HH.out.mono ?_
    rintro e w' ⟨rfl, rfl⟩
    go_wp2
    go_ret
    refine ⟨?_, rfl⟩
    rw [HR.out, HU.out, ← HX.out]
    by_cases hm : x = -1 <;> simp [hm]
  · have HR : Hid (hasR n v = false) := has_not h1
    clear H h1
    rw [HR.out] at HH
    go_enter Try.func14, Try.ntmps14
    go_wp2_with fail
    refine HH.out.mono ?_
    rintro e w' ⟨rfl, rfl⟩
    go_wp2
    go_ret
    refine ⟨?_, rfl⟩
    rw [HR.out]; rfl
end
end Go.Proofs.Ythedgbdnidghnaa
