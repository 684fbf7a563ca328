/- clause.variable, place, May and its two closures, by their contracts. -/
import Derived.Test.YtionibckeicncaaLib
import Derived.Test.YtionibckeicncaaNBase
import Derived.Test.YtionibckeicncaaCuPure
import Derived.Test.YtionibckeicncaaCuInts
import Derived.Test.YtionibckeicncaaCuIdx
import Derived.Test.YtionibckeicncaaRows
import Derived.BigQuiet
import Derived.Deep.AppendLies
import Derived.Deep.QuietTactic
import Derived.Deep.RegionLaw
import Derived.Deep.RegionWith
import Derived.KernelRfl
import Derived.Laws.EntriesVeiled
import Derived.Lib.ConvBytes
import Derived.Lib.Hide
import Derived.Lib.SlBytesRow
import Derived.Lib.SmallJoins
import Derived.Shelf.Bytes.SlSmallAll
import Derived.WalkKit
import Derived.WalkLawsBesides
import Derived.WalkSpells
namespace Go.Proofs.Ytionibckeicncaa
open Go Go.RowKit Go.Joins

/-- A literal's variable, as the program reckons it. -/
def varW (x : Int) : Int := max x (IntKind.i64.wrap (-x))
theorem varW_in {x : Int} (h : -9223372036854775807 ≤ x) (h2 : x ≤ 9223372036854775807) : varW x = (x.natAbs : Int) := by
  unfold varW
  rw [IntWalk.i64_in _ (by omega)]
  omega
theorem noLit_any (x vars : Int) (V : Nat) (w : World) (hc : w.cell? ⟨V, 0, none⟩ = some (.int .i64 vars)) (h0 : 0 ≤ vars) (h1 : vars ≤ 4194304) :
    Calls Try.prog 24 #[.int .i64 x, .pointer (some ⟨V, 0, none⟩)] w fun e w' => e = .returned (.bool (!litOk vars x)) ∧ w' = w := by
  have W1 : IntKind.i64.wrap (-vars) = -vars := IntWalk.i64_in _ (by omega)
  have e : litOk vars x = !(decide (x = 0) || (decide (vars < x) || decide (x < -vars))) := rfl
  have E := Lib.hid e
  clear e
  by_cases ha : x = 0
  · have a1 : (x == 0) = true := by simpa using ha
    have HA := Lib.hid ha
    clear ha
    go_enter Try.func24, Try.ntmps24
    go_wp2
    go_ret
    exact ⟨by rw [E.out, decide_eq_true HA.out]; rfl, rfl⟩
  · have a1 : (x == 0) = false := by simpa using ha
    have HA := Lib.hid ha
    clear ha
    by_cases hb : vars < x
    · have b1 : decide (vars < x) = true := by simpa using hb
      go_enter Try.func24, Try.ntmps24
      go_wp2
      go_ret
      exact ⟨by rw [E.out, b1, decide_eq_false HA.out]; rfl, rfl⟩
    · have b1 : decide (vars < x) = false := by simpa using hb
      go_enter Try.func24, Try.ntmps24
      go_wp2
      go_ret
      exact ⟨by rw [E.out, b1, decide_eq_false HA.out]; simp, rfl⟩

set_option maxRecDepth 100000 in
theorem wrong_any (c : List Int) (a : Option Addr) (n cp : Nat) (vars : Int) (V F : Nat) (w : World) (hs : Sees w a n cp (zvs c)) (hn : n ≤ 9223372036854775807) (hV : V < w.heap.size)
    (hc : w.cell? ⟨V, 0, none⟩ = some (.int .i64 vars)) (hf : w.cell? ⟨F, 0, none⟩ = some (.func (.func 24) #[] #[.pointer (some ⟨V, 0, none⟩)])) (h0 : 0 ≤ vars) (h1 : vars ≤ 4194304) :
    Calls Try.prog 25 #[.slice a n cp, .pointer (some ⟨F, 0, none⟩)] w fun e w' => e = .returned (.bool (!oneOk vars c)) ∧ Below w.heap.size w w' := by
  have hl := hs.zlen
  have HH := Lib.hid (has_noLit (fun x => !litOk vars x) c a n cp V w hs hn fun k hk W hb => (noLit_any (c.getD k 0) vars V W ((hb.cell (p := ⟨V, 0, none⟩) hV).trans hc) h0 h1).mono fun e w' ⟨h1, h2⟩ => ⟨h1, by subst h2; exact Below.refl _ _⟩)
  have e : (!oneOk vars c) = (decide (4096 < (n : Int)) || c.any fun x => !litOk vars x) := by
    unfold oneOk
    rw [hl, Bool.not_and, Bool.eq_iff_iff]
    simp only [Bool.or_eq_true, Bool.not_eq_true', decide_eq_false_iff_not, decide_eq_true_eq, List.all_eq_false, List.any_eq_true, Bool.not_eq_true]
    constructor
    · rintro (h | h)
      · exact .inl (by omega)
      · exact .inr h
    · rintro (h | h)
      · exact .inl (by omega)
      · exact .inr h
  obtain ⟨q, hq⟩ : ∃ q, q = c.any fun x => !litOk vars x := ⟨_, rfl⟩
  rw [← hq] at e HH
  have E := Lib.hid e
  clear e hq hs hl hc
  obtain ⟨fv, hfv⟩ : ∃ f, f = (.func (.func 24) #[] #[.pointer (some ⟨V, 0, none⟩)] : Value) := ⟨_, rfl⟩
  rw [← hfv] at HH hf
  clear hfv
  by_cases hb : 4096 < (n : Int)
  · have b1 : decide (4096 < (n : Int)) = true := by simpa using hb
    go_enter Try.func25, Try.ntmps25
    go_wp2
    go_ret
    exact ⟨by rw [E.out, b1]; rfl, Below.refl _ _⟩
  · have b1 : decide (4096 < (n : Int)) = false := by simpa using hb
    go_enter Try.func25, Try.ntmps25
    go_wp2_with fail
    refine HH.out.mono ?_
    rintro e w' ⟨rfl, hbl⟩
    go_wp2
    go_ret
    exact ⟨by rw [E.out, b1]; rfl, hbl⟩
/-- The lists that are tried, all at once. -/
theorem any_not {α : Type} (p : α → Bool) (L : List α) : (L.any fun x => !p x) = !L.all p := by
  rw [Bool.eq_iff_iff]
  simp only [List.any_eq_true, Bool.not_eq_true', List.all_eq_false, Bool.not_eq_true]
set_option maxRecDepth 100000 in
theorem may11_any (L : List (List Int)) (a : Option Addr) (n c : Nat) (ss : List ZSlc) (vars : Int) (w : World) (hs : SeesZ w a n c ss L) (hn : n ≤ 9223372036854775807) (hm : SmallZ L) :
    Calls Try.prog 15 #[.slice a n c, .int .i64 vars] w fun e w' => e = .returned (.bool (mayS L vars)) ∧ Below w.heap.size w w' := by
  have hl := hs.zlen
  have e : mayS L vars = (decide (0 ≤ vars) && (decide (vars ≤ 4194304) && (decide ((n : Int) ≤ 1048576) && L.all (oneOk vars)))) := by
    unfold mayS
    rw [hl]
    congr 3
    exact decide_eq_decide.2 (by omega)
  by_cases h0 : vars < 0
  · have b1 : decide (vars < 0) = true := by simpa using h0
    have b2 : decide (0 ≤ vars) = false := by simp; omega
    have E : Hid (mayS L vars = false) := by show _ = _; rw [e, b2]; rfl
    clear e b2 hs hl
    go_enter Try.func15, Try.ntmps15
    go_wp2
    go_ret
    exact ⟨by rw [E.out]; rfl, ext_alloc _ _⟩
  have b1 : decide (vars < 0) = false := by simpa using h0
  have b2 : decide (0 ≤ vars) = true := by simp; omega
  by_cases h1 : 4194304 < vars
  · have b3 : decide (4194304 < vars) = true := by simpa using h1
    have b4 : decide (vars ≤ 4194304) = false := by simp; omega
    have E : Hid (mayS L vars = false) := by show _ = _; rw [e, b2, b4]; rfl
    clear e b2 b4 hs hl
    go_enter Try.func15, Try.ntmps15
    go_wp2
    go_ret
    exact ⟨by rw [E.out]; rfl, ext_alloc _ _⟩
  have b3 : decide (4194304 < vars) = false := by simpa using h1
  have b4 : decide (vars ≤ 4194304) = true := by simp; omega
  by_cases h2 : 1048576 < (n : Int)
  · have b5 : decide (1048576 < (n : Int)) = true := by simpa using h2
    have b6 : decide ((n : Int) ≤ 1048576) = false := by simp; omega
    have E : Hid (mayS L vars = false) := by show _ = _; rw [e, b2, b4, b6]; rfl
    clear e b2 b4 b6 hs hl
    go_enter Try.func15, Try.ntmps15
    go_wp2
    go_ret
    exact ⟨by rw [E.out]; rfl, ext_alloc _ _⟩
  have b5 : decide (1048576 < (n : Int)) = false := by simpa using h2
  have b6 : decide ((n : Int) ≤ 1048576) = true := by simp; omega
  have E : Hid (mayS L vars = L.all (oneOk vars)) := by show _ = _; rw [e, b2, b4, b6]; rfl
  have HC : Hid (∀ V F W, Below w.heap.size w W → V < W.heap.size → W.cell? ⟨V, 0, none⟩ = some (.int .i64 vars) → F < W.heap.size → W.cell? ⟨F, 0, none⟩ = some (.func (.func 24) #[] #[.pointer (some ⟨V, 0, none⟩)]) →
      Calls Try.prog 27 #[.slice a n c, .func (.func 25) #[] #[.pointer (some ⟨F, 0, none⟩)]] W fun e w' => e = .returned (.bool (!L.all (oneOk vars))) ∧ Below W.heap.size W w') := by
    intro V F W hb hV hVc hF hFc
    have := has_wrong (fun c => !oneOk vars c) L a n c ss F W (hs.below hb) hn fun k hk W' hb' => by
      have hk' : k < L.length := by rw [hl]; exact hk
      have hse := ((hs.below hb).below hb').each k hk'
      exact wrong_any (L.getD k []) _ _ _ vars V F W' hse (by rw [← hse.zlen]; exact hm _ (getD_memL hk')) (Nat.lt_of_lt_of_le hV hb'.size) ((hb'.cell (p := ⟨V, 0, none⟩) hV).trans hVc) ((hb'.cell (p := ⟨F, 0, none⟩) hF).trans hFc) (by omega) (by omega)
    rw [any_not] at this
    exact this
  obtain ⟨q, hq⟩ : ∃ q, q = L.all (oneOk vars) := ⟨_, rfl⟩
  rw [← hq] at E HC
  clear e b2 b4 b6 hs hl hq hm
  go_enter Try.func15, Try.ntmps15
  go_wp2_with fail
  refine (HC.out w.heap.size (w.heap.size + 1) _ ?c1 ?c2 ?c3 ?c4 ?c5).mono ?_
  case c1 => exact ext_trans (ext_alloc _ _) (ext_alloc _ _)
  case c2 => simp; omega
  case c3 => exact ((ext_alloc _ _).cell (p := ⟨w.heap.size, 0, none⟩) (by simp)).trans (by simp)
  case c4 => simp
  case c5 => simp
  rintro e w' ⟨rfl, hb⟩
  have HB := Lib.hid (ext_trans (ext_trans (ext_alloc _ _) (ext_alloc _ _)) hb)
  clear hb
  go_wp2
  go_ret
  exact ⟨by rw [E.out]; simp, HB.out⟩
end Go.Proofs.Ytionibckeicncaa
