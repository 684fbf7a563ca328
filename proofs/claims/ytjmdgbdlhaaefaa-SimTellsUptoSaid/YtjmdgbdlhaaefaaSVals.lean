/- sim: isValue, areValues, Value; the reference's fine and Value, by their contracts. -/
import Derived.Test.YtjmdgbdlhaaefaaLib
import Derived.Test.YtjmdgbdlhaaefaaNBase
import Derived.Test.YtjmdgbdlhaaefaaRawPred
import Derived.Test.YtjmdgbdlhaaefaaNCirc
import Derived.Test.YtjmdgbdlhaaefaaNHeap
import Derived.Test.YtjmdgbdlhaaefaaNVals
import Derived.Test.YtjmdgbdlhaaefaaSSpec
import Derived.Test.YtjmdgbdlhaaefaaSVal
import Derived.Test.YtjmdgbdlhaaefaaTRefA
import Derived.Test.YtjmdgbdlhaaefaaRows
import Derived.Test.YtjmdgbdlhaaefaaShelf
import Derived.BigQuiet
import Derived.BigRegion
import Derived.Deep.AppendLies
import Derived.Deep.CutRange
import Derived.Deep.QuietTactic
import Derived.Deep.RegionHeld3
import Derived.Deep.RegionLaw
import Derived.Deep.RegionWith
import Derived.KernelRfl
import Derived.Laws.Bits64b
import Derived.Laws.BitsAllLaws
import Derived.Laws.BitsLemmas
import Derived.Laws.EntriesVeiled
import Derived.Laws.Tables
import Derived.Lib.AppendStr
import Derived.Lib.AppendZeros
import Derived.Lib.ConvBytes
import Derived.Lib.Hide
import Derived.Lib.SlBytesRow
import Derived.Lib.SmallJoins
import Derived.Maps.AppendAt
import Derived.OrdersHeld
import Derived.Shelf.Bytes.SlSmallAll
import Derived.WalkKit
import Derived.WalkLawsBesides
import Derived.WalkSpells
namespace Go.Proofs.Ytjmdgbdlhaaefaa
open Go Go.RowKit Go.Joins

theorem isvalue_any (v : Nat) (w : World) : Calls Try.prog 39 #[.int .u8 (v : Int)] w fun e w' => e = .returned (.bool (decide (v ≤ 2))) ∧ w' = w := by
  have e : decide ((v : Int) ≤ 2) = decide (v ≤ 2) := decide_eq_decide.2 (by omega)
  have E := Lib.hid e
  clear e
  go_enter Try.func39, Try.ntmps39
  go_wp2
  go_ret
  exact ⟨congrArg (fun b => Ending.returned (.bool b)) E.out, rfl⟩
theorem swrongv_any (u : UInt8) (w : World) :
    Calls Try.prog 60 #[bv u] w fun e w' => e = .returned (.bool (big2 u)) ∧ w = w' := by
  obtain ⟨x, hx⟩ : ∃ x, x = u.toNat := ⟨_, rfl⟩
  have e : (!decide (x ≤ 2)) = big2 u := by unfold big2; rw [← hx]; by_cases h : x ≤ 2 <;> simp [h] <;> omega
  obtain ⟨q, hq⟩ : ∃ q, q = decide (x ≤ 2) := ⟨_, rfl⟩
  rw [← hq] at e
  have E := Lib.hid e
  have HI := isvalue_any x
  rw [← hq] at HI
  have HI2 := Lib.hid HI
  unfold bv
  rw [← hx]
  clear e hx HI hq
  go_enter Try.func60, Try.ntmps60
  go_wp2_with fail
  refine (HI2.out _).mono ?_
  rintro e w' ⟨rfl, rfl⟩
  cases q with
  | true =>
    go_wp2
    go_ret
    exact ⟨congrArg (fun b => Ending.returned (.bool b)) E.out, rfl⟩
  | false =>
    go_wp2
    go_ret
    exact ⟨congrArg (fun b => Ending.returned (.bool b)) E.out, rfl⟩
set_option maxRecDepth 100000 in
theorem sidx_vals (l : List UInt8) (a : Option Addr) (n c : Nat) (hn : n ≤ 1048576) (w : World) (h : Sees w a n c (l.map bv)) :
    Calls Try.prog 81 #[.slice a n c, .func (.func 60) #[] #[]] w (IdxPost big2 l w) := by
  have hl := h.lenMap
  have HS := Lib.hid h
  have HL := Lib.hid hl
  have HA := Lib.hid (fun h0 : 0 < n => h.addr h0)
  have HC : Hid (∀ k, k < n → ∀ W, Below w.heap.size w W → Calls Try.prog 60 #[bv (l.getD k 0)] W fun e w' => e = .returned (.bool (big2 (l.getD k 0))) ∧ Below W.heap.size W w') := fun k hk W hb => (swrongv_any (l.getD k 0) W).mono fun e w' ⟨h1, h2⟩ => ⟨h1, by subst h2; exact Below.refl _ _⟩
  clear h hl
  go_enter Try.func81, Try.ntmps81
  go_wp2
  go_loopw [5, 8] (fun v i wr => ∃ k : Nat, k ≤ n ∧ i = .int .i64 k ∧ Hid (∀ j, j < k → big2 (l.getD j 0) = false) ∧ Hid (Below w.heap.size w wr)) (fun _ i _ => n - (intOf i).toNat)
  case atStart => exact ⟨0, Nat.zero_le _, rfl, fun j hj => absurd hj (by omega), Below.refl _ _⟩
  case round =>
    obtain ⟨k, hk, rfl, hno, hB⟩ := hrel
    by_cases hlt : k < n
    · obtain ⟨b, off, rfl, hbw⟩ := HA.out (by omega)
      have hcx := (HS.out.below hB.out).byte k hlt
      obtain ⟨u, hu⟩ : ∃ u, u = l.getD k 0 := ⟨_, rfl⟩
      have W1 : IntKind.i64.wrap ((k : Int) + 1) = (k : Int) + 1 := IntWalk.i64_in _ (by omega)
      obtain ⟨q, hq⟩ : ∃ q, q = big2 (l.getD k 0) := ⟨_, rfl⟩
      have HQ := Lib.hid hq
      have HB := Lib.hid hB.out
      have HNO := Lib.hid hno.out
      have HC1 := HC.out k hlt wr hB.out
      rw [← hq] at HC1
      have HC2 := Lib.hid HC1
      clear hq hB hno HC1
      go_wp2_with fail
      refine HC2.out.mono ?_
      rintro e w' ⟨rfl, hb⟩
      have HB2 := Lib.hid (ext_trans HB.out hb)
      clear hb hbw HC2
      cases q with
      | true =>
        go_wp2
        go_ret
        refine ⟨k, rfl, by omega, ⟨fun _ => ?_, fun _ => by omega⟩, HB2.out⟩
        exact List.any_eq_true.2 ⟨l.getD k 0, getD_mem (by rw [HL.out]; exact hlt), HQ.out.symm⟩
      | false =>
        have HN : Hid (∀ j, j < k + 1 → big2 (l.getD j 0) = false) := fun j hj => by
          rcases Nat.lt_or_ge j k with h | h
          · exact HNO.out j h
          · have : j = k := by omega
            subst this
            exact HQ.out.symm
        go_wp2
        go_roundw
        case rel => exact ⟨k + 1, by omega, by go_num, HN.out, HB2.out⟩
        case measure => simp [intOf]; omega
    · have hkn : k = n := by omega
      subst hkn
      have HB := Lib.hid hB.out
      have HNO := Lib.hid hno.out
      clear hB hno
      go_wp2
      go_ret
      refine ⟨-1, rfl, by omega, ⟨fun h => absurd h (by decide), fun h => ?_⟩, HB.out⟩
      rw [any_none (all_of_getD (d := 0) (fun j hj => HNO.out j (by rw [← HL.out]; exact hj)))] at h
      cases h
theorem shas_vals (l : List UInt8) (a : Option Addr) (n c : Nat) (hn : n ≤ 1048576) (w : World) (h : Sees w a n c (l.map bv)) :
    Calls Try.prog 61 #[.slice a n c, .func (.func 60) #[] #[]] w (fun e w' => e = .returned (.bool (l.any big2)) ∧ Below w.heap.size w w') := by
  have HI := Lib.hid (sidx_vals l a n c hn w h)
  clear h
  obtain ⟨f, hf⟩ : ∃ f, f = (.func (.func 60) #[] #[] : Value) := ⟨_, rfl⟩
  rw [← hf] at HI ⊢
  have HF := Lib.hid hf
  clear hf
  go_enter Try.func61, Try.ntmps61
  go_wp2_with fail
  refine HI.out.mono ?_
  rintro e w' ⟨z, rfl, hz, hiff, hb⟩
  have e : decide (0 ≤ z) = l.any big2 := by
    cases hq : l.any big2 with
    | true => simpa using hiff.2 hq
    | false => simp; have := fun h => hiff.1 h; rw [hq] at this; exact Int.not_le.1 (fun h => by cases this h)
  have E := Lib.hid e
  clear e hiff
  go_wp2
  go_ret
  exact ⟨congrArg (fun b => Ending.returned (.bool b)) E.out, hb⟩
set_option maxRecDepth 100000 in
theorem sarevals_any (many : Int) (l : List UInt8) (a : Option Addr) (n c : Nat) (hn : n ≤ 1048576) (w : World) (h : Sees w a n c (l.map bv)) :
    Calls Try.prog 33 #[.slice a n c, .int .i64 many] w fun e w' => e = .returned (.bool (valsOk l many)) ∧ Below w.heap.size w w' := by
  have hl := h.lenMap
  obtain ⟨q, hq⟩ : ∃ q, q = l.any big2 := ⟨_, rfl⟩
  have HV : Hid (valsOk l many = (decide ((n : Int) = many) && !q)) := by show _ = _; rw [valsOk_any, hl, hq]
  have HI := shas_vals l a n c hn w h
  rw [← hq] at HI
  have HH := Lib.hid HI
  clear hq HI h hl
  go_enter Try.func33, Try.ntmps33
  by_cases hm : (n : Int) = many
  · have e1 : ((n : Int) == many) = true := by simpa using hm
    have HM := Lib.hid hm
    clear hm
    go_wp2_with fail
    refine HH.out.mono ?_
    rintro e w' ⟨rfl, hb⟩
    have HB := Lib.hid hb
    clear hb
    cases q with
    | true =>
      go_wp2
      go_ret
      exact ⟨by rw [HV.out]; simp, HB.out⟩
    | false =>
      go_wp2
      go_ret
      exact ⟨by rw [HV.out, decide_eq_true HM.out]; simp, HB.out⟩
  · have e1 : ((n : Int) == many) = false := by simpa using hm
    have e2 : ((n : Int) = many) = False := by simpa using hm
    have HM := Lib.hid hm
    clear hm
    go_wp2
    go_ret
    exact ⟨by rw [HV.out, decide_eq_false HM.out]; simp, Below.refl _ _⟩
set_option maxRecDepth 100000 in
theorem fine_any (many : Int) (l : List UInt8) (a : Option Addr) (n c : Nat) (hn : n ≤ 1048576) (w : World) (h : Sees w a n c (l.map bv)) :
    Calls Try.prog 37 #[.slice a n c, .int .i64 many] w fun e w' => e = .returned (.bool (valsOk l many)) ∧ w = w' := by
  have hl := h.lenMap
  obtain ⟨q, hq⟩ : ∃ q, q = valsOk l many := ⟨_, rfl⟩
  have NO : Hid (∀ k, k < n → 2 < (l.getD k 0).toNat → q = false) := fun k hk hb => by
    rw [hq]; unfold valsOk
    rw [show l.any (fun u => decide (2 < u.toNat)) = true from List.any_eq_true.2 ⟨_, getD_mem (by rw [hl]; exact hk), decide_eq_true hb⟩]; simp
  have YES : Hid ((∀ k, k < n → ¬ 2 < (l.getD k 0).toNat) → q = decide ((n : Int) = many)) := fun hh => by
    rw [hq]; unfold valsOk
    rw [hl, show l.any (fun u => decide (2 < u.toNat)) = false from any_none (all_of_getD (d := 0) (fun j hj => decide_eq_false (hh j (by rw [← hl]; exact hj))))]; simp
  have HS := Lib.hid h
  have HL := Lib.hid hl
  rw [← hq]
  clear hq h hl
  go_enter Try.func37, Try.ntmps37
  go_wp2
  go_loop [5] (fun i => ∃ k : Nat, k ≤ n ∧ i = .int .i64 k ∧ Hid (∀ j, j < k → ¬ 2 < (l.getD j 0).toNat)) (fun i => n - (intOf i).toNat)
  case atStart => exact ⟨0, Nat.zero_le _, rfl, fun j hj => absurd hj (by omega)⟩
  case round =>
    obtain ⟨k, hk, rfl, hno⟩ := hrel
    by_cases hlt : k < n
    · obtain ⟨b, off, rfl, hbw⟩ := HS.out.addr (by omega)
      have hcx := HS.out.byte k hlt
      have W1 : IntKind.i64.wrap ((k : Int) + 1) = (k : Int) + 1 := IntWalk.i64_in _ (by omega)
      obtain ⟨u, hu⟩ : ∃ u, u = (l.getD k 0).toNat := ⟨_, rfl⟩
      have hcx2 : w.cell? ⟨b, off + k, none⟩ = some (.int .u8 (u : Int)) := by rw [hu]; exact hcx
      have HU := Lib.hid hu
      clear hcx hu
      by_cases hq : 2 < u
      · have e1 : decide ((2 : Int) < (u : Int)) = true := by simp; omega
        have HQ : Hid (q = false) := NO.out k hlt (by rw [← HU.out]; exact hq)
        go_wp2
        go_ret
        exact ⟨by rw [HQ.out]; rfl, rfl⟩
      · have e1 : decide ((2 : Int) < (u : Int)) = false := by simp; omega
        have HQ := Lib.hid hq
        clear hq
        go_wp2
        go_round
        case rel =>
          refine ⟨k + 1, by omega, by go_num, fun j hj => ?_⟩
          rcases Nat.lt_or_ge j k with h | h
          · exact hno.out j h
          · have : j = k := by omega
            subst this
            rw [← HU.out]; exact HQ.out
        case measure => simp [intOf]; omega
    · have hkn : k = n := by omega
      subst hkn
      have Y := Lib.hid (YES.out hno.out)
      by_cases hq : (k : Int) = many
      · have e1 : ((k : Int) == many) = true := by simpa using hq
        have HQ := Lib.hid hq
        clear hq
        go_wp2
        go_ret
        exact ⟨by rw [Y.out]; have := HQ.out; simp [this], rfl⟩
      · have e1 : ((k : Int) == many) = false := by simpa using hq
        have e2 : ((k : Int) = many) = False := by simpa using hq
        have HQ := Lib.hid hq
        clear hq
        go_wp2
        go_ret
        exact ⟨by rw [Y.out]; have := HQ.out; simp [this], rfl⟩

/-- What is told of a literal. -/
def valueL (vars : List UInt8) (lit : Nat) : UInt8 := if lit / 2 < vars.length ∧ (vars.getD (lit / 2) 0).toNat ≤ 2 then k1.val vars lit else 2

set_option maxRecDepth 100000 in
theorem simvalue_any (vars : List UInt8) (a : Option Addr) (n c lit : Nat) (w : World) (h : Sees w a n c (vars.map bv)) (h2 : lit < 4294967296) :
    Calls Try.prog 12 #[.slice a n c, .int .u32 lit] w fun e w' => e = .returned (bv (valueL vars lit)) ∧ Below w.heap.size w w' := by
  have hl := h.lenMap
  have HV := Lib.hid (fun (h1 : lit / 2 < n) W (hb : Below w.heap.size w W) => value_any vars a n c lit W (h.below hb) h1 h2)
  have HSG := Lib.hid single_any
  have D1 : (lit : Int) / 2 = ((lit / 2 : Nat) : Int) := by omega
  have hE : ∀ d, d = lit / 2 → valueL vars lit = if d < n ∧ (vars.getD d 0).toNat ≤ 2 then k1.val vars lit else 2 := fun d hd => by unfold valueL; rw [hl, hd]
  obtain ⟨d, hd⟩ : ∃ d, d = lit / 2 := ⟨_, rfl⟩
  have HE := Lib.hid (hE d hd)
  rw [← hd] at D1 HV
  have hd32 : d < 4294967296 := by omega
  have U1 : IntKind.u32.wrap (d : Int) = (d : Int) := IntWalk.u32_in _ (by omega)
  have U2 : IntKind.i64.wrap (d : Int) = (d : Int) := IntWalk.i64_in _ (by omega)
  clear hE hl hd
  have HS := Lib.hid h
  obtain ⟨V, hV⟩ : ∃ V, V = valueL vars lit := ⟨_, rfl⟩
  rw [← hV] at HE ⊢
  obtain ⟨V2, hV2⟩ : ∃ V, V = k1.val vars lit := ⟨_, rfl⟩
  rw [← hV2] at HE HV
  clear hV hV2 h h2 hd32
  unfold kv1 at HSG HV
  go_enter Try.func12, Try.ntmps12
  by_cases h1 : d < n
  · obtain ⟨b, off, rfl, hbw⟩ := HS.out.addr (by omega)
    have hcx := HS.out.byte d h1
    obtain ⟨x, hx⟩ : ∃ x, x = (vars.getD d 0).toNat := ⟨_, rfl⟩
    rw [← hx] at hcx HE
    have hI : (d : Int) < (n : Int) := by omega
    have hI2 : ¬ (n : Int) ≤ (d : Int) := by omega
    have HI := Lib.hid (isvalue_any x)
    have HV2 := Lib.hid (HV.out h1)
    clear hx
    by_cases h3 : x ≤ 2
    · have e3 : decide (x ≤ 2) = true := decide_eq_true h3
      rw [e3] at HI
      have HF : Hid (V = V2) := by show _ = _; rw [HE.out, if_pos ⟨h1, h3⟩]
      clear e3 h3 HE
      go_wp2_with fail
      refine (HI.out _).mono ?_
      rintro e w1 ⟨rfl, rfl⟩
      go_wp2_with fail
      refine (HSG.out _).mono ?_
      rintro e w2 ⟨rfl, hb⟩
      have HB := Lib.hid hb
      clear hb hcx
      go_wp2_with fail
      refine (HV2.out _ HB.out).mono ?_
      rintro e w3 ⟨rfl, hb⟩
      have HB2 := Lib.hid (ext_trans HB.out hb)
      clear hb
      go_wp2
      go_ret
      exact ⟨by rw [HF.out]; rfl, HB2.out⟩
    · have e3 : decide (x ≤ 2) = false := decide_eq_false h3
      rw [e3] at HI
      have HF : Hid (V = 2) := by show _ = _; rw [HE.out, if_neg (fun h => h3 h.2)]
      clear e3 h3 HE
      go_wp2_with fail
      refine (HI.out _).mono ?_
      rintro e w1 ⟨rfl, rfl⟩
      go_wp2
      go_ret
      exact ⟨by rw [HF.out]; rfl, Below.refl _ _⟩
  · have hI2 : (n : Int) ≤ (d : Int) := by omega
    have HF : Hid (V = 2) := by show _ = _; rw [HE.out, if_neg (fun h => h1 h.1)]
    clear h1 HE
    go_wp2
    go_ret
    exact ⟨by rw [HF.out]; rfl, Below.refl _ _⟩

set_option maxRecDepth 100000 in
theorem refvalue_any (vars : List UInt8) (a : Option Addr) (n c lit : Nat) (w : World) (h : Sees w a n c (vars.map bv)) (h2 : lit < 4294967296) :
    Calls Try.prog 13 #[.slice a n c, .int .u32 lit] w fun e w' => e = .returned (bv (valueL vars lit)) ∧ w' = w := by
  have hl := h.lenMap
  have D1 : Int.tdiv (lit : Int) 2 = ((lit / 2 : Nat) : Int) := by rw [Int.tdiv_eq_ediv_of_nonneg (by omega)]; omega
  have D2 : Int.tmod (lit : Int) 2 = ((lit % 2 : Nat) : Int) := by rw [Int.tmod_eq_emod_of_nonneg (by omega)]; omega
  have hE : ∀ d m, d = lit / 2 → m = lit % 2 → valueL vars lit = if d < n ∧ (vars.getD d 0).toNat ≤ 2 then (if m = 1 then k1.nt (vars.getD d 0) else vars.getD d 0) else 2 := fun d m hd hm => by unfold valueL; rw [hl, hd, hm]; rfl
  obtain ⟨d, hd⟩ : ∃ d, d = lit / 2 := ⟨_, rfl⟩
  obtain ⟨m, hm⟩ : ∃ m, m = lit % 2 := ⟨_, rfl⟩
  have HE := Lib.hid (hE d m hd hm)
  rw [← hd] at D1
  rw [← hm] at D2
  have hd32 : d < 4294967296 := by omega
  have hm2 : m < 2 := by omega
  have U1 : IntKind.u32.wrap (d : Int) = (d : Int) := IntWalk.u32_in _ (by omega)
  have U2 : IntKind.i64.wrap (d : Int) = (d : Int) := IntWalk.i64_in _ (by omega)
  have U3 : IntKind.u32.wrap (m : Int) = (m : Int) := IntWalk.u32_in _ (by omega)
  clear hE hl hd hm
  have HS := Lib.hid h
  obtain ⟨V, hV⟩ : ∃ V, V = valueL vars lit := ⟨_, rfl⟩
  rw [← hV] at HE ⊢
  clear hV h h2 hd32
  go_enter Try.func13, Try.ntmps13
  by_cases h1 : d < n
  · obtain ⟨b, off, rfl, hbw⟩ := HS.out.addr (by omega)
    have hcx := HS.out.byte d h1
    obtain ⟨u, hu⟩ : ∃ u, u = vars.getD d 0 := ⟨_, rfl⟩
    rw [← hu] at hcx HE
    obtain ⟨x, hx⟩ : ∃ x, x = u.toNat := ⟨_, rfl⟩
    rw [← hx] at hcx HE
    have hI : (d : Int) < (n : Int) := by omega
    have hI2 : ¬ (n : Int) ≤ (d : Int) := by omega
    have HN := Lib.hid (rnot1_any x)
    by_cases h3 : x ≤ 2
    · have e3 : decide ((2 : Int) < (x : Int)) = false := by simp; omega
      have HF : Hid (V = if m = 1 then k1.nt u else u) := by show _ = _; rw [HE.out, if_pos ⟨h1, h3⟩]
      have HU := Lib.hid hx
      clear h3 HE hu hx
      by_cases h4 : m = 1
      · subst h4
        go_wp2_with fail
        refine (HN.out _).mono ?_
        rintro e w1 ⟨rfl, rfl⟩
        go_wp2
        go_ret
        exact ⟨by rw [HF.out]; simp only [if_true]; rw [bv_not, ← HU.out]; rfl, rfl⟩
      · have e1 : ((m : Int) == 1) = false := by simp; omega
        have H4 := Lib.hid h4
        clear h4 hm2
        go_wp2
        go_ret
        exact ⟨by rw [HF.out, if_neg H4.out]; show _ = Ending.returned (.int .u8 ((u.toNat : Nat) : Int)); rw [← HU.out]; rfl, rfl⟩
    · have e3 : decide ((2 : Int) < (x : Int)) = true := by simp; omega
      have HF : Hid (V = 2) := by show _ = _; rw [HE.out, if_neg (fun h => h3 h.2)]
      clear h3 HE hu hx
      go_wp2
      go_ret
      exact ⟨by rw [HF.out]; rfl, rfl⟩
  · have hI2 : (n : Int) ≤ (d : Int) := by omega
    have HF : Hid (V = 2) := by show _ = _; rw [HE.out, if_neg (fun h => h1 h.1)]
    clear h1 HE
    go_wp2
    go_ret
    exact ⟨by rw [HF.out]; rfl, rfl⟩
end Go.Proofs.Ytjmdgbdlhaaefaa
