/- norm.literal, by its contract. -/
import Derived.Test.YtcoehbkjccfhlaaGEncM01
import Derived.Test.YtcoehbkjccfhlaaGEncM03
import Derived.Test.YtcoehbkjccfhlaaRows
import Derived.BigQuiet
import Derived.Deep.AppendLies
import Derived.Deep.QuietTactic
import Derived.Deep.RegionLaw
import Derived.Deep.RegionWith
import Derived.KernelRfl
import Derived.Laws.EntriesVeiled
import Derived.Lib.ConvBytes
import Derived.Lib.Hide
import Derived.Lib.SlBytesRow
import Derived.Lib.SmallJoins
import Derived.Shelf.Bytes.SlSmallAll
import Derived.WalkKit
import Derived.WalkLawsBesides
import Derived.WalkSpells
import Derived.Test.YtcoehbkjccfhlaaGEncM00
import Derived.Test.YtcoehbkjccfhlaaProg
import Derived.Deep.CutRange
import Derived.Deep.RegionHeld3
import Derived.Laws.Tables
import Derived.Lib.AppendStr
import Derived.Lib.AppendZeros
import Derived.Maps.AppendAt
import Derived.OrdersHeld
/- What a trace that fits is. -/
namespace Go.Proofs.Ytcoehbkjccfhlaa
open Go Go.RowKit Go.Joins

/-- What a trace that fits is. -/
structure FitsC (c : NormC) (t : TraceC) : Prop where
  may : MayC c
  pos : 0 ≤ t.bad
  bad : t.bad.toNat < c.bads.length
  init : t.init.length = c.lats.length
  inits : ∀ u ∈ t.init, u.toNat ≤ 2
  resets : ∀ i, i < c.lats.length → (c.lats.getD i (0, 0)).2 = 2 ∨ (t.init.getD i 0).toNat = (c.lats.getD i (0, 0)).2
  one : 1 ≤ t.frames.length
  few : t.frames.length ≤ 256
  frames : ∀ k, k < t.frames.length → ((t.frames.getD k []).length : Int) = c.ins
  values : ∀ f ∈ t.frames, ∀ u ∈ f, u.toNat ≤ 2
theorem fits_iff {c : NormC} {t : TraceC} : fitsS c t = true ↔ FitsC c t := by
  unfold fitsS valsOk initOk
  simp only [Bool.and_eq_true, Bool.not_eq_true', Bool.or_eq_false_iff, decide_eq_true_eq, decide_eq_false_iff_not, List.any_eq_false, List.all_eq_true, List.mem_range, Bool.or_eq_true, mayC_iff]
  constructor
  · rintro ⟨h1, ⟨h2, h3⟩, ⟨h4, h5⟩, h6, h7, h8, h9⟩
    refine ⟨h1, by omega, by omega, by omega, fun u hu => by have := h5 u hu; omega, fun i hi => h6 i hi, h7, h8, fun k hk => (h9 _ (getD_mem hk)).1, fun f hf u hu => by have := (h9 f hf).2 u hu; omega⟩
  · intro h
    refine ⟨h.may, ⟨by have := h.pos; omega, by have := h.bad; have := h.pos; omega⟩, ⟨by have := h.init; omega, fun u hu => by have := h.inits u hu; omega⟩, h.resets, h.one, h.few, fun f hf => ⟨?_, fun u hu => by have := h.values f hf u hu; omega⟩⟩
    obtain ⟨k, hk, he⟩ := List.getElem_of_mem hf
    have := h.frames k hk
    simpa [List.getD, List.getElem?_eq_getElem hk, he] using this

end Go.Proofs.Ytcoehbkjccfhlaa
/- inquestref03.lits, by its contract. -/
namespace Go.Proofs.Ytcoehbkjccfhlaa
open Go Go.RowKit Go.Joins
set_option maxRecDepth 100000 in
theorem reflits_any (m : Nat) (l : List Nat) (a : Option Addr) (n c : Nat) (hn : n ≤ 1048576) (hx : ∀ x ∈ l, x < 4294967296) (w : World) (h : Sees w a n c (l.map nv32)) :
    Calls Try.prog 60 #[.slice a n c, .int .i64 (m : Int)] w fun e w' => e = .returned (.bool (!badList m l)) ∧ w = w' := by
  have hl := h.lenMap
  obtain ⟨q, hq⟩ : ∃ q, q = badList m l := ⟨_, rfl⟩
  have NO : Hid (∀ k, k < n → m < l.getD k 0 / 2 → q = true) := fun k hk hb => by
    rw [hq]; unfold badList
    rw [show l.any (above m) = true from List.any_eq_true.2 ⟨l.getD k 0, getD_mem (by rw [hl]; exact hk), by unfold above; exact decide_eq_true (by omega)⟩]; simp
  have YES : Hid ((∀ k, k < n → ¬ m < l.getD k 0 / 2) → q = decide (1024 < n)) := fun hh => by
    rw [hq]; unfold badList
    rw [hl, show l.any (above m) = false from any_none (all_of_getD (d := 0) (fun j hj => by have := hh j (by rw [← hl]; exact hj); unfold above; exact decide_eq_false (by omega)))]; simp
  have HX := Lib.hid hx
  have HS := Lib.hid h
  have HL := Lib.hid hl
  rw [← hq]
  clear hq h hl hx
  go_enter Try.func60, Try.ntmps60
  go_wp2
  go_loop [5] (fun i => ∃ k : Nat, k ≤ n ∧ i = .int .i64 k ∧ Hid (∀ j, j < k → ¬ m < l.getD j 0 / 2)) (fun i => n - (intOf i).toNat)
  case atStart => exact ⟨0, Nat.zero_le _, rfl, fun j hj => absurd hj (by omega)⟩
  case round =>
    obtain ⟨k, hk, rfl, hno⟩ := hrel
    by_cases hlt : k < n
    · obtain ⟨b, off, rfl, hbw⟩ := HS.out.addr (by omega)
      have hcx := HS.out.num k hlt
      have h32 := HX.out (l.getD k 0) (getD_mem (by rw [HL.out]; exact hlt))
      obtain ⟨x, hx⟩ : ∃ x, x = l.getD k 0 := ⟨_, rfl⟩
      rw [← hx] at hcx h32
      have D1 : Int.tdiv (x : Int) 2 = ((x / 2 : Nat) : Int) := by rw [Int.tdiv_eq_ediv_of_nonneg (by omega)]; omega
      obtain ⟨u, hu⟩ : ∃ u, u = x / 2 := ⟨_, rfl⟩
      have hu3 : u < 4294967296 := by omega
      rw [← hu] at D1
      have U1 : IntKind.u32.wrap ((u : Nat) : Int) = (u : Int) := IntWalk.u32_in _ (by omega)
      have U2 : IntKind.i64.wrap ((u : Nat) : Int) = (u : Int) := IntWalk.i64_in _ (by omega)
      have HU : Hid (u = l.getD k 0 / 2) := by show _ = _; rw [hu, hx]
      have W1 : IntKind.i64.wrap ((k : Int) + 1) = (k : Int) + 1 := IntWalk.i64_in _ (by omega)
      clear hx hu
      by_cases hq : m < u
      · have e1 : decide ((m : Int) < (u : Int)) = true := by simp; omega
        have HQ : Hid (q = true) := NO.out k hlt (by rw [← HU.out]; exact hq)
        go_wp2
        go_ret
        exact ⟨by rw [HQ.out]; rfl, rfl⟩
      · have e1 : decide ((m : Int) < (u : Int)) = false := by simp; omega
        have HQ := Lib.hid hq
        clear hq
        go_wp2
        go_round
        case rel =>
          refine ⟨k + 1, by omega, by go_num, fun j hj => ?_⟩
          rcases Nat.lt_or_ge j k with h | h
          · exact hno.out j h
          · have : j = k := by omega
            subst this
            rw [← HU.out]; exact HQ.out
        case measure => simp [intOf]; omega
    · have hkn : k = n := by omega
      subst hkn
      have Y := Lib.hid (YES.out hno.out)
      by_cases hq : k ≤ 1024
      · have e1 : decide ((k : Int) ≤ 1024) = true := by simp; omega
        have HQ := Lib.hid hq
        clear hq
        go_wp2
        go_ret
        exact ⟨by rw [Y.out]; simp; exact HQ.out, rfl⟩
      · have e1 : decide ((k : Int) ≤ 1024) = false := by simp; omega
        have HQ := Lib.hid hq
        clear hq
        go_wp2
        go_ret
        exact ⟨by rw [Y.out]; have := HQ.out; simp; omega, rfl⟩
end Go.Proofs.Ytcoehbkjccfhlaa
/- No library function has a contract to be laid in this seat: this text only stands where the others import it. -/
namespace Go.Proofs
end Go.Proofs
/- inquestref03.lits, .values, by their contracts. -/
namespace Go.Proofs.Ytcoehbkjccfhlaa
open Go Go.RowKit Go.Joins

set_option maxRecDepth 100000 in
theorem refvalues_any (many : Int) (l : List UInt8) (a : Option Addr) (n c : Nat) (hn : n ≤ 1048576) (w : World) (h : Sees w a n c (l.map bv)) :
    Calls Try.prog 54 #[.slice a n c, .int .i64 many] w fun e w' => e = .returned (.bool (valsOk l many)) ∧ w = w' := by
  have hl := h.lenMap
  obtain ⟨q, hq⟩ : ∃ q, q = valsOk l many := ⟨_, rfl⟩
  have NO : Hid (∀ k, k < n → 2 < (l.getD k 0).toNat → q = false) := fun k hk hb => by
    rw [hq]; unfold valsOk
    rw [show l.any (fun u => decide (2 < u.toNat)) = true from List.any_eq_true.2 ⟨_, getD_mem (by rw [hl]; exact hk), decide_eq_true hb⟩]; simp
  have YES : Hid ((∀ k, k < n → ¬ 2 < (l.getD k 0).toNat) → q = decide ((n : Int) = many)) := fun hh => by
    rw [hq]; unfold valsOk
    rw [hl, show l.any (fun u => decide (2 < u.toNat)) = false from any_none (all_of_getD (d := 0) (fun j hj => decide_eq_false (hh j (by rw [← hl]; exact hj))))]; simp
  have HS := Lib.hid h
  have HL := Lib.hid hl
  rw [← hq]
  clear hq h hl
  go_enter Try.func54, Try.ntmps54
  go_wp2
  go_loop [5] (fun i => ∃ k : Nat, k ≤ n ∧ i = .int .i64 k ∧ Hid (∀ j, j < k → ¬ 2 < (l.getD j 0).toNat)) (fun i => n - (intOf i).toNat)
  case atStart => exact ⟨0, Nat.zero_le _, rfl, fun j hj => absurd hj (by omega)⟩
  case round =>
    obtain ⟨k, hk, rfl, hno⟩ := hrel
    by_cases hlt : k < n
    · obtain ⟨b, off, rfl, hbw⟩ := HS.out.addr (by omega)
      have hcx := HS.out.byte k hlt
      have W1 : IntKind.i64.wrap ((k : Int) + 1) = (k : Int) + 1 := IntWalk.i64_in _ (by omega)
      obtain ⟨u, hu⟩ : ∃ u, u = (l.getD k 0).toNat := ⟨_, rfl⟩
      have hcx2 : w.cell? ⟨b, off + k, none⟩ = some (.int .u8 (u : Int)) := by rw [hu]; exact hcx
      have HU := Lib.hid hu
      clear hcx hu
      by_cases hq : 2 < u
      · have e1 : decide ((2 : Int) < (u : Int)) = true := by simp; omega
        have HQ : Hid (q = false) := NO.out k hlt (by rw [← HU.out]; exact hq)
        go_wp2
        go_ret
        exact ⟨by rw [HQ.out]; rfl, rfl⟩
      · have e1 : decide ((2 : Int) < (u : Int)) = false := by simp; omega
        have HQ := Lib.hid hq
        clear hq
        go_wp2
        go_round
        case rel =>
          refine ⟨k + 1, by omega, by go_num, fun j hj => ?_⟩
          rcases Nat.lt_or_ge j k with h | h
          · exact hno.out j h
          · have : j = k := by omega
            subst this
            rw [← HU.out]; exact HQ.out
        case measure => simp [intOf]; omega
    · have hkn : k = n := by omega
      subst hkn
      have Y := Lib.hid (YES.out hno.out)
      by_cases hq : (k : Int) = many
      · have e1 : ((k : Int) == many) = true := by simpa using hq
        have HQ := Lib.hid hq
        clear hq
        go_wp2
        go_ret
        exact ⟨by rw [Y.out]; have := HQ.out; simp [this], rfl⟩
      · have e1 : ((k : Int) == many) = false := by simpa using hq
        have e2 : ((k : Int) = many) = False := by simpa using hq
        have HQ := Lib.hid hq
        clear hq
        go_wp2
        go_ret
        exact ⟨by rw [Y.out]; have := HQ.out; simp [this], rfl⟩
end Go.Proofs.Ytcoehbkjccfhlaa
namespace Go.Proofs.Ytcoehbkjccfhlaa
open Go Go.RowKit Go.Joins
theorem literal_any (v : Nat) (hv : v ≤ 1000000000) (w : World) : Calls Try.prog 71 #[.int .i64 v] w fun e w' => e = .returned (.int .u32 ((2 * v : Nat) : Int)) ∧ w = w' := by
  have h0 : (0 : Int) ≤ v := by omega
  have h1 : (v : Int) ≤ 1000000000 := by omega
  have W1 : IntKind.u32.wrap (v : Int) = (v : Int) := by rw [IntKind.wrap_u32]; omega
  have W2 : IntKind.u32.wrap (2 * (v : Int)) = 2 * (v : Int) := by rw [IntKind.wrap_u32]; omega
  go_enter Try.func71, Try.ntmps71
  go_wp2
  go_ret
  simp
theorem literal_at (z : Int) (v : Nat) (hz : z = (v : Int)) (hv : v ≤ 1000000000) (w : World) : Calls Try.prog 71 #[.int .i64 z] w fun e w' => e = .returned (.int .u32 ((2 * v : Nat) : Int)) ∧ w = w' := by
  subst hz; exact literal_any v hv w
end Go.Proofs.Ytcoehbkjccfhlaa
