/- clause.Holds and its two closures, by their contracts. -/
import Derived.Test.YtdngaohjocokiaaLib
import Derived.Test.YtdngaohjocokiaaNBase
import Derived.Test.YtdngaohjocokiaaCuPure
import Derived.Test.YtdngaohjocokiaaCuInts
import Derived.Test.YtdngaohjocokiaaCuIdx
import Derived.Test.YtdngaohjocokiaaCuMay
import Derived.Test.YtdngaohjocokiaaRows
import Derived.BigQuiet
import Derived.Deep.AppendLies
import Derived.Deep.QuietTactic
import Derived.Deep.RegionLaw
import Derived.Deep.RegionWith
import Derived.KernelRfl
import Derived.Laws.EntriesVeiled
import Derived.Lib.ConvBytes
import Derived.Lib.Hide
import Derived.Lib.SlBytesRow
import Derived.Lib.SmallJoins
import Derived.Shelf.Bytes.SlSmallAll
import Derived.WalkKit
import Derived.WalkLawsBesides
import Derived.WalkSpells
namespace Go.Proofs.Ytdngaohjocokiaa
open Go Go.RowKit Go.Joins

theorem Sees.b_at {w : World} {b off n c : Nat} {M : List Bool} (h : Sees w (some ⟨b, off, .none⟩) n c (M.map Value.bool)) (j : Nat) (hj : j < n) : w.cell? ⟨b, off + j, .none⟩ = some (.bool (M.getD j false)) := by
  have hl : M.length = n := h.lenMap
  rw [(h.cell j hj).2]
  simp [List.getD, List.getElem?_eq_getElem (show j < M.length by omega)]
/-- An int of 64 bits. -/
def InZ (x : Int) : Prop := -9223372036854775808 ≤ x ∧ x ≤ 9223372036854775807
theorem varW_cases {x : Int} (h : InZ x) : (0 < varW x ∧ varW x = (x.natAbs : Int) ∧ 0 < x.natAbs) ∨ (¬ 0 < varW x ∧ (x.natAbs = 0 ∨ 9223372036854775808 ≤ x.natAbs)) := by
  obtain ⟨h1, h2⟩ := h
  by_cases e : x = -9223372036854775808
  · subst e
    exact .inr ⟨by decide, .inr (by decide)⟩
  · rw [varW_in (by omega) h2]
    by_cases h0 : x = 0
    · subst h0; exact .inr ⟨by decide, .inl rfl⟩
    · exact .inl ⟨by omega, rfl, by omega⟩
set_option maxRecDepth 100000 in
theorem isTrue_any (x : Int) (hx : InZ x) (M : List Bool) (am : Option Addr) (nm cm : Nat) (V : Nat) (w : World) (hs : Sees w am nm cm (M.map Value.bool)) (hn : nm ≤ 9223372036854775807) (hc : w.cell? ⟨V, 0, none⟩ = some (.slice am nm cm)) :
    Calls Try.prog 31 #[.int .i64 x, .pointer (some ⟨V, 0, none⟩)] w fun e w' => e = .returned (.bool (trueS M x)) ∧ w' = w := by
  have hl : M.length = nm := hs.lenMap
  have HV := Lib.hid (variable_any x w)
  obtain ⟨y, hy⟩ : ∃ y, y = varW x := ⟨_, rfl⟩
  have hcs := varW_cases hx
  rw [← hy] at HV hcs
  clear hy
  rcases hcs with ⟨h0, hym, hm0⟩ | ⟨h0, hm⟩
  · obtain ⟨m, hm⟩ : ∃ m, m = x.natAbs := ⟨_, rfl⟩
    rw [← hm] at hym hm0
    subst hym
    have E : Hid (trueS M x = (decide (m < nm) && (M.getD m false == decide (0 < x)))) := by
      show _ = _
      unfold trueS
      rw [← hm, hl, decide_eq_true hm0]
      rfl
    by_cases h1 : m < nm
    · obtain ⟨b, off, rfl, hbw⟩ := hs.addr (show 0 < nm by omega)
      have hcell := hs.b_at m h1
      obtain ⟨q, hq⟩ : ∃ q, q = M.getD m false := ⟨_, rfl⟩
      rw [← hq] at hcell E
      have b1 : decide ((m : Int) < (nm : Int)) = true := by simpa using h1
      have b0 : decide ((0 : Int) < (m : Int)) = true := by simpa using hm0
      have I1 : (m : Int) < (nm : Int) := by omega
      have I0 : (0 : Int) ≤ (m : Int) := by omega
      have E2 : Hid (trueS M x = (q == decide (0 < x))) := by show _ = _; rw [E.out, decide_eq_true h1]; rfl
      clear E hq hm hs hl h1 h0 hx
      go_enter Try.func31, Try.ntmps31
      go_wp2_with fail
      refine HV.out.mono ?_
      rintro e w' ⟨rfl, rfl⟩
      go_wp2
      go_ret
      exact ⟨by rw [E2.out]; rfl, rfl⟩
    · have b1 : decide ((m : Int) < (nm : Int)) = false := by simp; omega
      have b0 : decide ((0 : Int) < (m : Int)) = true := by simpa using hm0
      have E2 : Hid (trueS M x = false) := by show _ = _; rw [E.out, decide_eq_false h1]; rfl
      have b2 : decide (m < nm) = false := by simpa using h1
      have b3 : decide (0 < m) = true := by simpa using hm0
      clear E hm hs hl h1 h0 hx
      go_enter Try.func31, Try.ntmps31
      go_wp2_with fail
      refine HV.out.mono ?_
      rintro e w' ⟨rfl, rfl⟩
      go_wp2
      all_goals (go_ret; exact ⟨by rw [E2.out]; rfl, rfl⟩)
  · have b0 : decide (0 < y) = false := by simpa using h0
    have b1 : (0 < y) = False := by simpa using h0
    have E2 : Hid (trueS M x = false) := by
      show _ = _
      unfold trueS
      rcases hm with h | h
      · rw [h]; rfl
      · rw [show decide (x.natAbs < M.length) = false by simp; omega]; simp
    clear hm hs hl h0 hx
    go_enter Try.func31, Try.ntmps31
    go_wp2_with fail
    refine HV.out.mono ?_
    rintro e w' ⟨rfl, rfl⟩
    go_wp2
    go_ret
    exact ⟨by rw [E2.out]; rfl, rfl⟩

set_option maxRecDepth 100000 in
theorem noTrue_any (c : List Int) (hz : ∀ x ∈ c, InZ x) (a : Option Addr) (n cp : Nat) (M : List Bool) (am : Option Addr) (nm cm : Nat) (V F : Nat) (w : World) (hs : Sees w a n cp (zvs c)) (hn : n ≤ 9223372036854775807) (hV : V < w.heap.size)
    (hsm : Sees w am nm cm (M.map Value.bool)) (hnm : nm ≤ 9223372036854775807) (hc : w.cell? ⟨V, 0, none⟩ = some (.slice am nm cm)) (hf : w.cell? ⟨F, 0, none⟩ = some (.func (.func 31) #[] #[.pointer (some ⟨V, 0, none⟩)])) :
    Calls Try.prog 33 #[.slice a n cp, .pointer (some ⟨F, 0, none⟩)] w fun e w' => e = .returned (.bool (!c.any (trueS M))) ∧ Below w.heap.size w w' := by
  have hl := hs.zlen
  have HH := Lib.hid (has_isTrue (trueS M) c a n cp V w hs hn fun k hk W hb => (isTrue_any (c.getD k 0) (hz _ (getD_memZ (by rw [hl]; exact hk))) M am nm cm V W (hsm.below hb) hnm ((hb.cell (p := ⟨V, 0, none⟩) hV).trans hc)).mono fun e w' ⟨h1, h2⟩ => ⟨h1, by subst h2; exact Below.refl _ _⟩)
  obtain ⟨q, hq⟩ : ∃ q, q = c.any (trueS M) := ⟨_, rfl⟩
  rw [← hq] at HH ⊢
  clear hq hs hl hc hsm hz
  obtain ⟨fv, hfv⟩ : ∃ f, f = (.func (.func 31) #[] #[.pointer (some ⟨V, 0, none⟩)] : Value) := ⟨_, rfl⟩
  rw [← hfv] at HH hf
  clear hfv
  go_enter Try.func33, Try.ntmps33
  go_wp2_with fail
  refine HH.out.mono ?_
  rintro e w' ⟨rfl, hbl⟩
  go_wp2
  go_ret
  exact ⟨rfl, hbl⟩
/-- All are ints of 64 bits. -/
def AllInZ (L : List (List Int)) : Prop := ∀ c ∈ L, ∀ x ∈ c, InZ x
set_option maxRecDepth 100000 in
theorem holds11_any (L : List (List Int)) (hz : AllInZ L) (a : Option Addr) (n c : Nat) (ss : List ZSlc) (M : List Bool) (am : Option Addr) (nm cm : Nat) (w : World) (hs : SeesZ w a n c ss L) (hn : n ≤ 9223372036854775807) (hm : SmallZ L)
    (hsm : Sees w am nm cm (M.map Value.bool)) (hnm : nm ≤ 9223372036854775807) :
    Calls Try.prog 13 #[.slice a n c, .slice am nm cm] w fun e w' => e = .returned (.bool (holdsS L M)) ∧ Below w.heap.size w w' := by
  have hl := hs.zlen
  have HC : Hid (∀ V F W, Below w.heap.size w W → V < W.heap.size → W.cell? ⟨V, 0, none⟩ = some (.slice am nm cm) → F < W.heap.size → W.cell? ⟨F, 0, none⟩ = some (.func (.func 31) #[] #[.pointer (some ⟨V, 0, none⟩)]) →
      Calls Try.prog 30 #[.slice a n c, .func (.func 33) #[] #[.pointer (some ⟨F, 0, none⟩)]] W fun e w' => e = .returned (.bool (!holdsS L M)) ∧ Below W.heap.size W w') := by
    intro V F W hb hV hVc hF hFc
    have := has_noTrue (fun c => !c.any (trueS M)) L a n c ss F W (hs.below hb) hn fun k hk W' hb' => by
      have hk' : k < L.length := by rw [hl]; exact hk
      have hse := ((hs.below hb).below hb').each k hk'
      exact noTrue_any (L.getD k []) (hz _ (getD_memL hk')) _ _ _ M am nm cm V F W' hse (by rw [← hse.zlen]; exact hm _ (getD_memL hk')) (Nat.lt_of_lt_of_le hV hb'.size) ((hsm.below hb).below hb') hnm ((hb'.cell (p := ⟨V, 0, none⟩) hV).trans hVc) ((hb'.cell (p := ⟨F, 0, none⟩) hF).trans hFc)
    rw [any_not] at this
    exact this
  obtain ⟨q, hq⟩ : ∃ q, q = holdsS L M := ⟨_, rfl⟩
  rw [← hq] at HC ⊢
  clear hs hl hq hm hsm hz
  go_enter Try.func13, Try.ntmps13
  go_wp2_with fail
  refine (HC.out w.heap.size (w.heap.size + 1) _ ?c1 ?c2 ?c3 ?c4 ?c5).mono ?_
  case c1 => exact ext_trans (ext_alloc _ _) (ext_alloc _ _)
  case c2 => simp; omega
  case c3 => exact ((ext_alloc _ _).cell (p := ⟨w.heap.size, 0, none⟩) (by simp)).trans (by simp)
  case c4 => simp
  case c5 => simp
  rintro e w' ⟨rfl, hb⟩
  have HB := Lib.hid (ext_trans (ext_trans (ext_alloc _ _) (ext_alloc _ _)) hb)
  clear hb
  go_wp2
  go_ret
  exact ⟨by simp, HB.out⟩
end Go.Proofs.Ytdngaohjocokiaa
