/- slices.IndexFunc and slices.ContainsFunc at ints and at lists of ints, over each closure's contract. -/
import Derived.Test.YtionibckeicncaaLib
import Derived.Test.YtionibckeicncaaNBase
import Derived.Test.YtionibckeicncaaCuInts
import Derived.Test.YtionibckeicncaaRows
import Derived.BigQuiet
import Derived.Deep.AppendLies
import Derived.Deep.QuietTactic
import Derived.Deep.RegionLaw
import Derived.Deep.RegionWith
import Derived.KernelRfl
import Derived.Laws.EntriesVeiled
import Derived.Lib.ConvBytes
import Derived.Lib.Hide
import Derived.Lib.SlBytesRow
import Derived.Lib.SmallJoins
import Derived.Shelf.Bytes.SlSmallAll
import Derived.WalkKit
import Derived.WalkLawsBesides
import Derived.WalkSpells
namespace Go.Proofs.Ytionibckeicncaa
open Go Go.RowKit Go.Joins

set_option maxRecDepth 100000 in
theorem idx_noLit (p : Int → Bool) (l : List Int) (a : Option Addr) (n c : Nat) (V : Nat) (w : World) (h : Sees w a n c (zvs l)) (hn : n ≤ 9223372036854775807) (HC : ∀ k, k < n → ∀ W, Below w.heap.size w W → Calls Try.prog 24 #[.int .i64 (l.getD k 0), .pointer (some ⟨V, 0, none⟩)] W fun e w' => e = .returned (.bool (p (l.getD k 0))) ∧ Below W.heap.size W w') :
    Calls Try.prog 35 #[.slice a n c, .func (.func 24) #[] #[.pointer (some ⟨V, 0, none⟩)]] w (IdxQ p l w) := by
  have hl := h.zlen
  have HS := Lib.hid h
  have HL := Lib.hid hl
  have HA := Lib.hid (fun h0 : 0 < n => h.addr h0)
  have HCC := Lib.hid HC
  clear h hl HC
  go_enter Try.func35, Try.ntmps35
  go_wp2
  go_loopw [5, 8] (fun v i wr => ∃ k : Nat, k ≤ n ∧ i = .int .i64 k ∧ Hid (∀ j, j < k → p (l.getD j 0) = false) ∧ Hid (Below w.heap.size w wr)) (fun _ i _ => n - (intOf i).toNat)
  case atStart => exact ⟨0, Nat.zero_le _, rfl, fun j hj => absurd hj (by omega), Below.refl _ _⟩
  case round =>
    obtain ⟨k, hk, rfl, hno, hB⟩ := hrel
    by_cases hlt : k < n
    · obtain ⟨b, off, rfl, hbw⟩ := HA.out (by omega)
      have hcx := (HS.out.below hB.out).z_at k hlt
      have W1 : IntKind.i64.wrap ((k : Int) + 1) = (k : Int) + 1 := IntWalk.i64_in _ (by omega)
      have HB := Lib.hid hB.out
      have HNO := Lib.hid hno.out
      have HC1 := HCC.out k hlt wr hB.out
      obtain ⟨q, hq⟩ : ∃ q, q = p (l.getD k 0) := ⟨_, rfl⟩
      rw [← hq] at HC1
      have HQ := Lib.hid hq
      obtain ⟨x, hx⟩ : ∃ x, x = l.getD k 0 := ⟨_, rfl⟩
      have HX := Lib.hid hx
      rw [← hx] at hcx HC1
      have HC2 := Lib.hid HC1
      clear hq hB hno HC1 hx hbw
      go_wp2_with fail
      refine HC2.out.mono ?_
      rintro e w' ⟨rfl, hb⟩
      have HB2 := Lib.hid (ext_trans HB.out hb)
      clear hb HC2
      cases q with
      | true =>
        go_wp2
        go_ret
        exact ⟨k, rfl, by omega, ⟨fun _ => any_at (d := 0) (by rw [HL.out]; exact hlt) HQ.out.symm, fun _ => by omega⟩, HB2.out⟩
      | false =>
        have HN : Hid (∀ j, j < k + 1 → p (l.getD j 0) = false) := fun j hj => by
          rcases Nat.lt_or_ge j k with h | h
          · exact HNO.out j h
          · have : j = k := by omega
            subst this
            exact HQ.out.symm
        go_wp2
        go_roundw
        case rel => exact ⟨k + 1, by omega, by go_num, HN.out, HB2.out⟩
        case measure => simp [intOf]; omega
    · have hkn : k = n := by omega
      subst hkn
      have HB := Lib.hid hB.out
      have HNO := Lib.hid hno.out
      clear hB hno
      go_wp2
      go_ret
      refine ⟨-1, rfl, by omega, ⟨fun h => absurd h (by decide), fun h => ?_⟩, HB.out⟩
      rw [any_upto (d := 0) (fun j hj => HNO.out j (by rw [← HL.out]; exact hj))] at h
      cases h
theorem has_noLit (p : Int → Bool) (l : List Int) (a : Option Addr) (n c : Nat) (V : Nat) (w : World) (h : Sees w a n c (zvs l)) (hn : n ≤ 9223372036854775807) (HC : ∀ k, k < n → ∀ W, Below w.heap.size w W → Calls Try.prog 24 #[.int .i64 (l.getD k 0), .pointer (some ⟨V, 0, none⟩)] W fun e w' => e = .returned (.bool (p (l.getD k 0))) ∧ Below W.heap.size W w') :
    Calls Try.prog 26 #[.slice a n c, .func (.func 24) #[] #[.pointer (some ⟨V, 0, none⟩)]] w (fun e w' => e = .returned (.bool (l.any p)) ∧ Below w.heap.size w w') := by
  have HI := Lib.hid (idx_noLit p l a n c V w h hn HC)
  clear h HC
  obtain ⟨f, hf⟩ : ∃ f, f = (.func (.func 24) #[] #[.pointer (some ⟨V, 0, none⟩)] : Value) := ⟨_, rfl⟩
  rw [← hf] at HI ⊢
  clear hf
  go_enter Try.func26, Try.ntmps26
  go_wp2_with fail
  refine HI.out.mono ?_
  rintro e w' ⟨z, rfl, hz, hiff, hb⟩
  have e : decide (0 ≤ z) = l.any p := by
    cases hq : l.any p with
    | true => simpa using hiff.2 hq
    | false => simp; have := fun h => hiff.1 h; rw [hq] at this; exact Int.not_le.1 (fun h => by cases this h)
  have E := Lib.hid e
  clear e hiff
  go_wp2
  go_ret
  exact ⟨congrArg (fun b => Ending.returned (.bool b)) E.out, hb⟩

set_option maxRecDepth 100000 in
theorem idx_wrong (p : (List Int) → Bool) (l : List (List Int)) (a : Option Addr) (n c : Nat) (ss : List ZSlc) (V : Nat) (w : World) (h : SeesZ w a n c ss l) (hn : n ≤ 9223372036854775807) (HC : ∀ k, k < n → ∀ W, Below w.heap.size w W → Calls Try.prog 25 #[.slice (ss.getD k zs0).1 (ss.getD k zs0).2.1 (ss.getD k zs0).2.2, .pointer (some ⟨V, 0, none⟩)] W fun e w' => e = .returned (.bool (p (l.getD k []))) ∧ Below W.heap.size W w') :
    Calls Try.prog 36 #[.slice a n c, .func (.func 25) #[] #[.pointer (some ⟨V, 0, none⟩)]] w (IdxQ p l w) := by
  have hl := h.zlen
  have HS := Lib.hid h
  have HL := Lib.hid hl
  have HA := Lib.hid (fun h0 : 0 < n => h.addr h0)
  have HCC := Lib.hid HC
  clear h hl HC
  go_enter Try.func36, Try.ntmps36
  go_wp2
  go_loopw [5, 8] (fun v i wr => ∃ k : Nat, k ≤ n ∧ i = .int .i64 k ∧ Hid (∀ j, j < k → p (l.getD j []) = false) ∧ Hid (Below w.heap.size w wr)) (fun _ i _ => n - (intOf i).toNat)
  case atStart => exact ⟨0, Nat.zero_le _, rfl, fun j hj => absurd hj (by omega), Below.refl _ _⟩
  case round =>
    obtain ⟨k, hk, rfl, hno, hB⟩ := hrel
    by_cases hlt : k < n
    · obtain ⟨b, off, rfl, hbw⟩ := HA.out (by omega)
      have hcx := (HS.out.below hB.out).cellAt k hlt
      have W1 : IntKind.i64.wrap ((k : Int) + 1) = (k : Int) + 1 := IntWalk.i64_in _ (by omega)
      have HB := Lib.hid hB.out
      have HNO := Lib.hid hno.out
      have HC1 := HCC.out k hlt wr hB.out
      obtain ⟨q, hq⟩ : ∃ q, q = p (l.getD k []) := ⟨_, rfl⟩
      rw [← hq] at HC1
      have HQ := Lib.hid hq
      obtain ⟨xa, hxa⟩ : ∃ xa, xa = (ss.getD k zs0).1 := ⟨_, rfl⟩
      obtain ⟨xn, hxn⟩ : ∃ xn, xn = (ss.getD k zs0).2.1 := ⟨_, rfl⟩
      obtain ⟨xc, hxc⟩ : ∃ xc, xc = (ss.getD k zs0).2.2 := ⟨_, rfl⟩
      rw [← hxa, ← hxn, ← hxc] at hcx HC1
      have HC2 := Lib.hid HC1
      clear hq hB hno HC1 hxa hxn hxc hbw
      go_wp2_with fail
      refine HC2.out.mono ?_
      rintro e w' ⟨rfl, hb⟩
      have HB2 := Lib.hid (ext_trans HB.out hb)
      clear hb HC2
      cases q with
      | true =>
        go_wp2
        go_ret
        exact ⟨k, rfl, by omega, ⟨fun _ => any_at (d := []) (by rw [HL.out]; exact hlt) HQ.out.symm, fun _ => by omega⟩, HB2.out⟩
      | false =>
        have HN : Hid (∀ j, j < k + 1 → p (l.getD j []) = false) := fun j hj => by
          rcases Nat.lt_or_ge j k with h | h
          · exact HNO.out j h
          · have : j = k := by omega
            subst this
            exact HQ.out.symm
        go_wp2
        go_roundw
        case rel => exact ⟨k + 1, by omega, by go_num, HN.out, HB2.out⟩
        case measure => simp [intOf]; omega
    · have hkn : k = n := by omega
      subst hkn
      have HB := Lib.hid hB.out
      have HNO := Lib.hid hno.out
      clear hB hno
      go_wp2
      go_ret
      refine ⟨-1, rfl, by omega, ⟨fun h => absurd h (by decide), fun h => ?_⟩, HB.out⟩
      rw [any_upto (d := []) (fun j hj => HNO.out j (by rw [← HL.out]; exact hj))] at h
      cases h
theorem has_wrong (p : (List Int) → Bool) (l : List (List Int)) (a : Option Addr) (n c : Nat) (ss : List ZSlc) (V : Nat) (w : World) (h : SeesZ w a n c ss l) (hn : n ≤ 9223372036854775807) (HC : ∀ k, k < n → ∀ W, Below w.heap.size w W → Calls Try.prog 25 #[.slice (ss.getD k zs0).1 (ss.getD k zs0).2.1 (ss.getD k zs0).2.2, .pointer (some ⟨V, 0, none⟩)] W fun e w' => e = .returned (.bool (p (l.getD k []))) ∧ Below W.heap.size W w') :
    Calls Try.prog 27 #[.slice a n c, .func (.func 25) #[] #[.pointer (some ⟨V, 0, none⟩)]] w (fun e w' => e = .returned (.bool (l.any p)) ∧ Below w.heap.size w w') := by
  have HI := Lib.hid (idx_wrong p l a n c ss V w h hn HC)
  clear h HC
  obtain ⟨f, hf⟩ : ∃ f, f = (.func (.func 25) #[] #[.pointer (some ⟨V, 0, none⟩)] : Value) := ⟨_, rfl⟩
  rw [← hf] at HI ⊢
  clear hf
  go_enter Try.func27, Try.ntmps27
  go_wp2_with fail
  refine HI.out.mono ?_
  rintro e w' ⟨z, rfl, hz, hiff, hb⟩
  have e : decide (0 ≤ z) = l.any p := by
    cases hq : l.any p with
    | true => simpa using hiff.2 hq
    | false => simp; have := fun h => hiff.1 h; rw [hq] at this; exact Int.not_le.1 (fun h => by cases this h)
  have E := Lib.hid e
  clear e hiff
  go_wp2
  go_ret
  exact ⟨congrArg (fun b => Ending.returned (.bool b)) E.out, hb⟩

end Go.Proofs.Ytionibckeicncaa
