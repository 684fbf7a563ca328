/- wit.mayLine, wit.may, by their contracts. -/
import Derived.Test.YtkimhlomadmnkaaDoorWSpec
import Derived.Test.YtkimhlomadmnkaaDoorRawPred
namespace Go.Proofs.YtkimhlomadmnkaaDoor
open Go Go.RowKit Go.Joins

theorem wcell_below {w w' : World} {p : Addr} {v : Value} (h : w.cell? p = some v) (hb : Below w.heap.size w w') : w'.cell? p = some v := (hb.cell (World.block_lt_of_cell? w p h)).trans h
theorem wbig_any (u : UInt8) (w : World) :
    Calls Tryd.prog 100 #[bv u] w fun e w' => e = .returned (.bool (tooBig u)) ∧ w = w' := by
  obtain ⟨x, hx⟩ : ∃ x, x = u.toNat := ⟨_, rfl⟩
  have e : decide ((2 : Int) < (x : Int)) = tooBig u := by unfold tooBig; rw [hx]; exact decide_eq_decide.2 (by omega)
  have E := Lib.hid e
  unfold bv
  rw [← hx]
  clear e hx
  go_enter Tryd.func100, Tryd.ntmps100
  go_wp2
  go_ret
  exact ⟨congrArg (fun b => Ending.returned (.bool b)) E.out, rfl⟩
set_option maxRecDepth 100000 in
theorem widx_vals (l : List UInt8) (a : Option Addr) (n c : Nat) (hn : n ≤ 1048577) (w : World) (h : Sees w a n c (l.map bv)) :
    Calls Tryd.prog 104 #[.slice a n c, .func (.func 100) #[] #[]] w (IdxPost tooBig l w) := by
  have hl := h.lenMap
  have HS := Lib.hid h
  have HL := Lib.hid hl
  have HA := Lib.hid (fun h0 : 0 < n => h.addr h0)
  have HC : Hid (∀ k, k < n → ∀ W, Below w.heap.size w W → Calls Tryd.prog 100 #[bv (l.getD k 0)] W fun e w' => e = .returned (.bool (tooBig (l.getD k 0))) ∧ Below W.heap.size W w') := fun k hk W hb => (wbig_any (l.getD k 0) W).mono fun e w' ⟨h1, h2⟩ => ⟨h1, by subst h2; exact Below.refl _ _⟩
  clear h hl
  go_enter Tryd.func104, Tryd.ntmps104
  go_wp2
  go_loopw [5, 8] (fun v i wr => ∃ k : Nat, k ≤ n ∧ i = .int .i64 k ∧ Hid (∀ j, j < k → tooBig (l.getD j 0) = false) ∧ Hid (Below w.heap.size w wr)) (fun _ i _ => n - (intOf i).toNat)
  case atStart => exact ⟨0, Nat.zero_le _, rfl, fun j hj => absurd hj (by omega), Below.refl _ _⟩
  case round =>
    obtain ⟨k, hk, rfl, hno, hB⟩ := hrel
    by_cases hlt : k < n
    · obtain ⟨b, off, rfl, hbw⟩ := HA.out (by omega)
      have hcx := (HS.out.below hB.out).byte k hlt
      obtain ⟨u, hu⟩ : ∃ u, u = l.getD k 0 := ⟨_, rfl⟩
      have W1 : IntKind.i64.wrap ((k : Int) + 1) = (k : Int) + 1 := IntWalk.i64_in _ (by omega)
      obtain ⟨q, hq⟩ : ∃ q, q = tooBig (l.getD k 0) := ⟨_, rfl⟩
      have HQ := Lib.hid hq
      have HB := Lib.hid hB.out
      have HNO := Lib.hid hno.out
      have HC1 := HC.out k hlt wr hB.out
      rw [← hq] at HC1
      have HC2 := Lib.hid HC1
      clear hq hB hno HC1
      go_wp2_with fail
      refine HC2.out.mono ?_
      rintro e w' ⟨rfl, hb⟩
      have HB2 := Lib.hid (ext_trans HB.out hb)
      clear hb hbw HC2
      cases q with
      | true =>
        go_wp2
        go_ret
        refine ⟨k, rfl, by omega, ⟨fun _ => ?_, fun _ => by omega⟩, HB2.out⟩
        exact List.any_eq_true.2 ⟨l.getD k 0, getD_mem (by rw [HL.out]; exact hlt), HQ.out.symm⟩
      | false =>
        have HN : Hid (∀ j, j < k + 1 → tooBig (l.getD j 0) = false) := fun j hj => by
          rcases Nat.lt_or_ge j k with h | h
          · exact HNO.out j h
          · have : j = k := by omega
            subst this
            exact HQ.out.symm
        go_wp2
        go_roundw
        case rel => exact ⟨k + 1, by omega, by go_num, HN.out, HB2.out⟩
        case measure => simp [intOf]; omega
    · have hkn : k = n := by omega
      subst hkn
      have HB := Lib.hid hB.out
      have HNO := Lib.hid hno.out
      clear hB hno
      go_wp2
      go_ret
      refine ⟨-1, rfl, by omega, ⟨fun h => absurd h (by decide), fun h => ?_⟩, HB.out⟩
      rw [any_none (all_of_getD (d := 0) (fun j hj => HNO.out j (by rw [← HL.out]; exact hj)))] at h
      cases h
theorem whas_vals (l : List UInt8) (a : Option Addr) (n c : Nat) (hn : n ≤ 1048577) (w : World) (h : Sees w a n c (l.map bv)) :
    Calls Tryd.prog 83 #[.slice a n c, .func (.func 100) #[] #[]] w (fun e w' => e = .returned (.bool (l.any tooBig)) ∧ Below w.heap.size w w') := by
  have HI := Lib.hid (widx_vals l a n c hn w h)
  clear h
  obtain ⟨f, hf⟩ : ∃ f, f = (.func (.func 100) #[] #[] : Value) := ⟨_, rfl⟩
  rw [← hf] at HI ⊢
  have HF := Lib.hid hf
  clear hf
  go_enter Tryd.func83, Tryd.ntmps83
  go_wp2_with fail
  refine HI.out.mono ?_
  rintro e w' ⟨z, rfl, hz, hiff, hb⟩
  have e : decide (0 ≤ z) = l.any tooBig := by
    cases hq : l.any tooBig with
    | true => simpa using hiff.2 hq
    | false => simp; have := fun h => hiff.1 h; rw [hq] at this; exact Int.not_le.1 (fun h => by cases this h)
  have E := Lib.hid e
  clear e hiff
  go_wp2
  go_ret
  exact ⟨congrArg (fun b => Ending.returned (.bool b)) E.out, hb⟩
set_option maxRecDepth 100000 in
theorem mayLine_any (l : List UInt8) (a : Option Addr) (n c : Nat) (w : World) (h : Sees w a n c (l.map bv)) :
    Calls Tryd.prog 73 #[.slice a n c] w fun e w' => e = .returned (.bool (mayLineW l)) ∧ Below w.heap.size w w' := by
  have hl := h.lenMap
  obtain ⟨q, hq⟩ : ∃ q, q = l.any tooBig := ⟨_, rfl⟩
  have HV : Hid (mayLineW l = (decide (n ≤ 16384) && !q)) := by show _ = _; unfold mayLineW; rw [hl, hq]
  by_cases hm : n ≤ 16384
  · have HI := whas_vals l a n c (by omega) w h
    rw [← hq] at HI
    have HH := Lib.hid HI
    clear hq HI h hl
    have e1 : (n : Int) ≤ 16384 := by omega
    have HM := Lib.hid hm
    clear hm
    go_enter Tryd.func73, Tryd.ntmps73
    go_wp2_with fail
    refine HH.out.mono ?_
    rintro e w' ⟨rfl, hb⟩
    have HB := Lib.hid hb
    clear hb
    go_wp2
    go_ret
    exact ⟨by rw [HV.out, decide_eq_true HM.out]; simp, HB.out⟩
  · have e1 : ¬ (n : Int) ≤ 16384 := by omega
    have HM := Lib.hid hm
    clear hm hq h hl
    go_enter Tryd.func73, Tryd.ntmps73
    go_wp2
    go_ret
    exact ⟨by rw [HV.out, decide_eq_false HM.out]; rfl, Below.refl _ _⟩

set_option maxRecDepth 100000 in
theorem wmay1_any (z : Nat) (C : Nat) (f : List UInt8) (a : Option Addr) (n c : Nat) (w : World) (h : Sees w a n c (f.map bv)) (hc : w.cell? ⟨C, 0, .none⟩ = some (.int .i64 (z : Nat))) :
    Calls Tryd.prog 72 #[.slice a n c, .pointer (some ⟨C, 0, .none⟩)] w fun e w' => e = .returned (.bool (wrongF z f)) ∧ Below w.heap.size w w' := by
  have hl := h.lenMap
  obtain ⟨q, hq⟩ : ∃ q, q = mayLineW f := ⟨_, rfl⟩
  have H1 := mayLine_any f a n c w h
  have HV : Hid (wrongF z f = (decide (n ≠ z) || !q)) := by show _ = _; unfold wrongF; rw [hl, hq]
  rw [← hq] at H1
  have HA := Lib.hid H1
  clear H1 hq h hl
  by_cases hm : n = z
  · have e1 : ((n : Int) != (z : Int)) = false := by simp; omega
    have HM := Lib.hid hm
    go_enter Tryd.func72, Tryd.ntmps72
    clear hm
    go_wp2_with fail
    refine HA.out.mono ?_
    rintro e w' ⟨rfl, hb⟩
    have HB := Lib.hid hb
    clear hb
    go_wp2
    go_ret
    exact ⟨by rw [HV.out, decide_eq_false (fun h => h HM.out)]; simp, HB.out⟩
  · have e1 : ((n : Int) != (z : Int)) = true := by simp; omega
    have HM := Lib.hid hm
    go_enter Tryd.func72, Tryd.ntmps72
    clear hm
    go_wp2
    go_ret
    exact ⟨by rw [HV.out, decide_eq_true HM.out]; rfl, Below.refl _ _⟩

set_option maxRecDepth 100000 in
theorem widx_frames (z : Nat) (C : Nat) (l : List (List UInt8)) (ss : List Slc) (a : Option Addr) (n c : Nat) (hn : n ≤ 1048576) (w : World) (h : SeesF w a n c ss l) (hc : w.cell? ⟨C, 0, .none⟩ = some (.int .i64 (z : Nat))) :
    Calls Tryd.prog 101 #[.slice a n c, .func (.func 72) #[] #[.pointer (some ⟨C, 0, .none⟩)]] w (IdxPost (wrongF z) l w) := by
  have hl := h.n_eq
  have HS := Lib.hid h
  have HL := Lib.hid hl
  have HCC := Lib.hid hc
  clear h hl hc
  go_enter Tryd.func101, Tryd.ntmps101
  go_wp2
  go_loopw [5, 8] (fun v i wr => ∃ k : Nat, k ≤ n ∧ i = .int .i64 k ∧ Hid (∀ j, j < k → wrongF z (l.getD j []) = false) ∧ Hid (Below w.heap.size w wr)) (fun _ i _ => n - (intOf i).toNat)
  case atStart => exact ⟨0, Nat.zero_le _, rfl, fun j hj => absurd hj (by omega), Below.refl _ _⟩
  case round =>
    obtain ⟨k, hk, rfl, hno, hB⟩ := hrel
    by_cases hlt : k < n
    · obtain ⟨b, off, rfl, hbw⟩ := HS.out.row.addr (by omega)
      have hcx := (HS.out.below hB.out).cellAt k hlt
      have hsx := (HS.out.below hB.out).each k (by rw [HL.out]; exact hlt)
      obtain ⟨x, hx⟩ : ∃ x : Slc, x = ss.getD k slc0 := ⟨_, rfl⟩
      rw [← hx] at hcx hsx
      clear hx
      obtain ⟨xa, xn, xc⟩ := x
      simp only at hcx hsx
      have W1 : IntKind.i64.wrap ((k : Int) + 1) = (k : Int) + 1 := IntWalk.i64_in _ (by omega)
      obtain ⟨q, hq⟩ : ∃ q, q = wrongF z (l.getD k []) := ⟨_, rfl⟩
      have HC1 := wmay1_any z C (l.getD k []) xa xn xc wr hsx (wcell_below HCC.out hB.out)
      rw [← hq] at HC1
      have HC2 := Lib.hid HC1
      have HQ := Lib.hid hq
      have HB := Lib.hid hB.out
      have HNO := Lib.hid hno.out
      clear hq hB hno HC1 hsx
      go_wp2_with fail
      refine HC2.out.mono ?_
      rintro e w' ⟨rfl, hb⟩
      have HB2 := Lib.hid (ext_trans HB.out hb)
      clear hb hbw HC2 hcx
      cases q with
      | true =>
        go_wp2
        go_ret
        refine ⟨k, rfl, by omega, ⟨fun _ => ?_, fun _ => by omega⟩, HB2.out⟩
        exact List.any_eq_true.2 ⟨l.getD k [], getD_mem (by rw [HL.out]; exact hlt), HQ.out.symm⟩
      | false =>
        have HN : Hid (∀ j, j < k + 1 → wrongF z (l.getD j []) = false) := fun j hj => by
          rcases Nat.lt_or_ge j k with h | h
          · exact HNO.out j h
          · have : j = k := by omega
            subst this
            exact HQ.out.symm
        go_wp2
        go_roundw
        case rel => exact ⟨k + 1, by omega, by go_num, HN.out, HB2.out⟩
        case measure => simp [intOf]; omega
    · have hkn : k = n := by omega
      subst hkn
      have HB := Lib.hid hB.out
      have HNO := Lib.hid hno.out
      clear hB hno
      go_wp2
      go_ret
      refine ⟨-1, rfl, by omega, ⟨fun h => absurd h (by decide), fun h => ?_⟩, HB.out⟩
      rw [any_none (all_of_getD (d := []) (fun j hj => HNO.out j (by rw [← HL.out]; exact hj)))] at h
      cases h

theorem whas_frames (z : Nat) (C : Nat) (l : List (List UInt8)) (ss : List Slc) (a : Option Addr) (n c : Nat) (hn : n ≤ 1048576) (w : World) (h : SeesF w a n c ss l) (hc : w.cell? ⟨C, 0, .none⟩ = some (.int .i64 (z : Nat))) :
    Calls Tryd.prog 74 #[.slice a n c, .func (.func 72) #[] #[.pointer (some ⟨C, 0, .none⟩)]] w (fun e w' => e = .returned (.bool (l.any (wrongF z))) ∧ Below w.heap.size w w') := by
  have HI := Lib.hid (widx_frames z C l ss a n c hn w h hc)
  clear h hc
  obtain ⟨f, hf⟩ : ∃ f, f = (.func (.func 72) #[] #[.pointer (some ⟨C, 0, .none⟩)] : Value) := ⟨_, rfl⟩
  rw [← hf] at HI ⊢
  have HF := Lib.hid hf
  clear hf
  go_enter Tryd.func74, Tryd.ntmps74
  go_wp2_with fail
  refine HI.out.mono ?_
  rintro e w' ⟨z1, rfl, hz, hiff, hb⟩
  have e : decide (0 ≤ z1) = l.any (wrongF z) := by
    cases hq : l.any (wrongF z) with
    | true => simpa using hiff.2 hq
    | false => simp; have := fun h => hiff.1 h; rw [hq] at this; exact Int.not_le.1 (fun h => by cases this h)
  have E := Lib.hid e
  clear e hiff
  go_wp2
  go_ret
  exact ⟨congrArg (fun b => Ending.returned (.bool b)) E.out, hb⟩

end Go.Proofs.YtkimhlomadmnkaaDoor
