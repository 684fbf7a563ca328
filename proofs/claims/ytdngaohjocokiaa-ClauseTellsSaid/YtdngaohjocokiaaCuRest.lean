/- propagation.deriveRest, by its contract. -/
import Derived.Test.YtdngaohjocokiaaLib
import Derived.Test.YtdngaohjocokiaaNBase
import Derived.Test.YtdngaohjocokiaaCuInts
import Derived.Test.YtdngaohjocokiaaCuInv
import Derived.Test.YtdngaohjocokiaaCuMay
import Derived.Test.YtdngaohjocokiaaCuMem
import Derived.Test.YtdngaohjocokiaaCuDerive
import Derived.Test.YtdngaohjocokiaaRows
import Derived.BigQuiet
import Derived.Conc.LoneSelect
import Derived.Deep.AppendLies
import Derived.Deep.CutRange
import Derived.Deep.QuietTactic
import Derived.Deep.RegionLaw
import Derived.Deep.RegionWith
import Derived.KernelRfl
import Derived.Laws.EntriesVeiled
import Derived.Lib.ConvBytes
import Derived.Lib.Hide
import Derived.Lib.SlBytesRow
import Derived.Lib.SmallJoins
import Derived.Shelf.Bytes.SlSmallAll
import Derived.WalkKit
import Derived.WalkLawsBesides
import Derived.WalkSpells
namespace Go.Proofs.Ytdngaohjocokiaa
open Go Go.RowKit Go.Joins

/-- What deriveRest answers, and leaves. -/
def RestPost (wE : World) (y : PLay) (F : List Nat) (C : Array Value) (S : List Int) (r : Nat) (left : List Nat) (c : List Int) (e : Ending) (w' : World) : Prop :=
  ((∀ x, x ∈ c → -x ∈ S) ∧ e = .returned (.bool false) ∧ PAt wE y F C S r left w') ∨ (∃ l, l ∈ c ∧ -l ∉ S ∧ l ∈ S ∧ e = .returned (.bool true) ∧ PAt wE y F C S r left w') ∨
  (∃ l, l ∈ c ∧ -l ∉ S ∧ l ∉ S ∧ e = .returned (.bool true) ∧ PAt wE y F C (S ++ [l]) r left w')
set_option maxRecDepth 100000 in
set_option maxHeartbeats 3200000 in
theorem deriveRest_any (wE : World) (y : PLay) (F : List Nat) (C : Array Value) (S : List Int) (r : Nat) (left : List Nat) (c : List Int) (a : Option Addr) (n cp : Nat) (w : World) (h : PAt wE y F C S r left w) (hs : Sees w a n cp (zvs c)) (hn : n ≤ 4096)
    (hv : ∀ x ∈ c, VLit y.vars x) (hm : y.vars ≤ 4194304) (hg : wE.heap.size ≤ y.gD) (hgc : wE.heap.size ≤ y.gC) (hr : r ≤ S.length) (hroom : ∀ l, l ∈ c → -l ∉ S → l ∉ S → S.length < y.cap) (hsE : ∀ W, Below wE.heap.size wE W → Sees W a n cp (zvs c)) :
    Calls Try.prog 38 #[.pointer (some ⟨y.B, 0, none⟩), .slice a n cp] w (RestPost wE y F C S r left c) := by
  have hl := hs.zlen
  obtain ⟨B, hB⟩ : ∃ B, B = y.B := ⟨_, rfl⟩
  obtain ⟨GD, hGD⟩ : ∃ GD, GD = y.gD := ⟨_, rfl⟩
  obtain ⟨M, hM⟩ : ∃ M, M = y.m := ⟨_, rfl⟩
  have HL := Lib.hid hl
  have HA := Lib.hid (fun h0 : 0 < n => hs.addr h0)
  have HCELL : Hid (∀ W, PAt wE y F C S r left W → W.cell? ⟨B, 4, none⟩ = some (.slice (some ⟨GD, 0, none⟩) M M) ∧ ∀ x, x ∈ c → W.cell? ⟨GD, placeN (-x), none⟩ = some (.bool (decide (-x ∈ S)))) := fun W hW => by
    rw [hB, hGD, hM]
    exact ⟨hW.b4, fun x hx => hW.d_at (hv x hx).neg⟩
  have HP : Hid (∀ x, x ∈ c → (∀ W, Calls Try.prog 23 #[.int .i64 (-x)] W fun e w' => e = .returned (.int .i64 (placeN (-x))) ∧ w' = w' ∧ w' = W) ∧ ((placeN (-x) : Nat) : Int) < (M : Int) ∧ IntKind.i64.wrap (-x) = -x) := fun x hx => by
    have h1 := hv x hx
    have h2 := placeN_lt h1.neg.2
    have h3 := h1.2
    exact ⟨fun W => (place_any (-x) (by rw [Int.natAbs_neg]; omega) W).mono fun _ _ ⟨p, q⟩ => ⟨p, rfl, q⟩, by rw [hM]; unfold PLay.m; omega, IntWalk.i64_in _ (by omega)⟩
  have HD : Hid (∀ x W, x ∈ c → PAt wE y F C S r left W → Calls Try.prog 37 #[.pointer (some ⟨B, 0, none⟩), .int .i64 x] W (DerPost wE y F C S r left x)) := fun x W hx hW => by
    rw [hB]
    exact derive_any wE y F C S r left x W hW (hv x hx) hm hg hgc hr (fun h1 h2 => hroom x hx h1 h2)
  have HSE := Lib.hid hsE
  have HH := Lib.hid h
  rw [← hB]
  clear hl hB hGD hM h hs hv hm hg hgc hr hroom hsE
  go_enter Try.func38, Try.ntmps38
  go_wp2
  go_loopw [9, 6] (fun i _ wr => ∃ k : Nat, k ≤ n ∧ i = .int .i64 k ∧ Hid (∀ j, j < k → -(c.getD j 0) ∈ S) ∧ Hid (PAt wE y F C S r left wr)) (fun i _ _ => n - (intOf i).toNat)
  case atStart => exact ⟨0, Nat.zero_le _, rfl, fun j hj => absurd hj (by omega), HH.out⟩
  case round =>
    obtain ⟨k, hk, rfl, hno, hB⟩ := hrel
    by_cases hlt : k < n
    · obtain ⟨b, off, rfl, hbw⟩ := HA.out (by omega)
      have hcx := (HSE.out wr hB.out.bel).z_at k hlt
      have hmem : c.getD k 0 ∈ c := getD_memZ (by rw [HL.out]; exact hlt)
      have W1 : IntKind.i64.wrap ((k : Int) + 1) = (k : Int) + 1 := IntWalk.i64_in _ (by omega)
      have I1 : (k : Int) < (n : Int) := by omega
      obtain ⟨x, hx⟩ : ∃ x, x = c.getD k 0 := ⟨_, rfl⟩
      rw [← hx] at hcx hmem
      obtain ⟨b4, hd⟩ := HCELL.out wr hB.out
      have d1 := hd x hmem
      obtain ⟨hp, i1, W2⟩ := HP.out x hmem
      obtain ⟨P, hP⟩ : ∃ P, P = placeN (-x) := ⟨_, rfl⟩
      rw [← hP] at d1 hp i1
      have HP1 := Lib.hid fun W => (hp W).mono fun _ _ ⟨p, _, q⟩ => (⟨p, q⟩ : _ ∧ _)
      obtain ⟨q, hq⟩ : ∃ q, q = decide (-x ∈ S) := ⟨_, rfl⟩
      rw [← hq] at d1
      have HX := Lib.hid hx
      have HQ := Lib.hid hq
      have HB := Lib.hid hB.out
      have HNO := Lib.hid hno.out
      have HM := Lib.hid hmem
      clear hx hP hp hq hd hB hno hmem hbw
      go_wp2
      go_quiet ((go_at_call 23; exact Calls.quiet_of_same (HP1.out _)))
      generalize hW2 : wr.drewN nq = w2
      have h2 := HB.out.below (show Below wr.heap.size wr w2 by subst hW2; exact ext_drewN _ _)
      have H2 := Lib.hid h2
      clear hW2 h2 d1 b4 hcx
      cases q with
      | false =>
        have hn2 : -x ∉ S := of_decide_eq_false HQ.out.symm
        have HN2 := Lib.hid hn2
        have HDD := Lib.hid (HD.out x w2 HM.out H2.out)
        clear hn2
        go_wp2_with fail
        refine HDD.out.mono ?_
        rintro e w' hpost
        have HPO := Lib.hid hpost
        clear hpost
        rcases HPO.out with ⟨h1, h2, h3⟩ | ⟨h1, h2, h3, h4⟩ | ⟨h1, h2, h3, h4⟩
        · exact absurd h1 HN2.out
        · subst h3
          have A1 := Lib.hid h2
          have A2 := Lib.hid h4
          clear h1 h2 h4 HPO
          go_wp2
          go_ret
          exact .inr (.inl ⟨x, HM.out, HN2.out, A1.out, rfl, A2.out⟩)
        · subst h3
          have A1 := Lib.hid h2
          have A2 := Lib.hid h4
          clear h1 h2 h4 HPO
          go_wp2
          go_ret
          exact .inr (.inr ⟨x, HM.out, HN2.out, A1.out, rfl, A2.out⟩)
      | true =>
        have HNN : Hid (∀ j, j < k + 1 → -(c.getD j 0) ∈ S) := fun j hj => by
          rcases Nat.lt_or_ge j k with h | h
          · exact HNO.out j h
          · have : j = k := by omega
            subst this
            rw [← HX.out]
            exact of_decide_eq_true HQ.out.symm
        go_wp2
        go_roundw
        case rel => exact ⟨k + 1, by omega, by go_num, HNN.out, H2.out⟩
        case measure => simp [intOf]; omega
    · have hkn : k = n := by omega
      subst hkn
      have HB := Lib.hid hB.out
      have HNO := Lib.hid hno.out
      clear hB hno
      go_wp2
      go_ret
      refine .inl ⟨fun x hx => ?_, rfl, HB.out⟩
      obtain ⟨i, hi, rfl⟩ := List.getElem_of_mem hx
      have := HNO.out i (by rw [← HL.out]; exact hi)
      simpa [List.getD, List.getElem?_eq_getElem hi] using this
end Go.Proofs.Ytdngaohjocokiaa
