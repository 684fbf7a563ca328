/- inquestref11: side, literal, One, May, has, True, by their contracts. -/
import Derived.Test.YtionibckeicncaaLib
import Derived.Test.YtionibckeicncaaNBase
import Derived.Test.YtionibckeicncaaCuPure
import Derived.Test.YtionibckeicncaaCuInts
import Derived.Test.YtionibckeicncaaCuMay
import Derived.Test.YtionibckeicncaaCuHolds
import Derived.Test.YtionibckeicncaaRows
import Derived.Test.YtionibckeicncaaShelf
import Derived.BigQuiet
import Derived.Deep.AppendLies
import Derived.Deep.QuietTactic
import Derived.Deep.RegionLaw
import Derived.Deep.RegionWith
import Derived.KernelRfl
import Derived.Laws.EntriesVeiled
import Derived.Lib.ConvBytes
import Derived.Lib.Hide
import Derived.Lib.SlBytesRow
import Derived.Lib.SlicesCompact
import Derived.Lib.SmallJoins
import Derived.Shelf.Bytes.SlSmallAll
import Derived.Sort.Statements
import Derived.WalkKit
import Derived.WalkLawsBesides
import Derived.WalkSpells
namespace Go.Proofs.Ytionibckeicncaa
open Go Go.RowKit Go.Joins

theorem side_any (x : Int) (hx : InZ x) (w : World) : Calls Try.prog 34 #[.int .i64 x] w fun e w' => e = .returned (.tuple #[.int .i64 (varW x), .bool (decide (x < 0))]) ∧ w' = w := by
  by_cases h0 : x < 0
  · have e1 : decide (x < 0) = true := by simpa using h0
    have e2 : varW x = IntKind.i64.wrap (-x) := by
      obtain ⟨h1, h2⟩ := hx
      by_cases e : x = -9223372036854775808
      · subst e; decide
      · rw [varW_in (by omega) h2, IntWalk.i64_in _ (by omega)]; omega
    have E2 := Lib.hid e2
    have H0 := Lib.hid h0
    clear e2 h0 hx
    go_enter Try.func34, Try.ntmps34
    go_wp2
    go_ret2
    exact ⟨by rw [E2.out, e1]; first | rfl | simp [IntWalk.i64_left], rfl⟩
  · have e1 : decide (x < 0) = false := by simpa using h0
    have e2 : varW x = x := by
      obtain ⟨h1, h2⟩ := hx
      rw [varW_in (by omega) h2]; omega
    have E2 := Lib.hid e2
    clear e2 h0 hx
    go_enter Try.func34, Try.ntmps34
    go_wp2
    go_ret2
    exact ⟨by rw [E2.out, e1] <;> rfl, rfl⟩

/-- The reference's literal, its One, its May. -/
def litR (vars l : Int) : Bool := decide (l ≠ 0) && (decide (l ≤ vars) && (decide (wrap64 (-vars) ≤ l) && decide (vars ≤ 4194304)))
def oneR (vars : Int) (c : List Int) : Bool := c.all (litR vars) && decide (c.length ≤ 4096)
def mayR (L : List (List Int)) (vars : Int) : Bool := L.all (oneR vars) && (decide (L.length ≤ 1048576) && (decide (0 ≤ vars) && decide (vars ≤ 4194304)))
theorem litR_ok {vars l : Int} (h0 : 0 ≤ vars) (h1 : vars ≤ 4194304) : litR vars l = litOk vars l := by
  have e : wrap64 (-vars) = -vars := by rw [← IntWalk.i64_left]; exact IntWalk.i64_in _ (by omega)
  have h2 : decide (vars ≤ 4194304) = true := by simpa using h1
  unfold litR litOk
  rw [e, h2, Bool.and_true]
  by_cases a : l = 0
  · simp [a]
  · by_cases b : vars < l
    · have : ¬ l ≤ vars := by omega
      simp [a, b, this]
    · have : l ≤ vars := by omega
      by_cases c : l < -vars
      · have h3 : ¬ -vars ≤ l := by omega
        simp [a, b, this, c, h3]
      · have h3 : -vars ≤ l := by omega
        simp [a, b, this, c, h3]
theorem oneR_ok {vars : Int} {c : List Int} (h0 : 0 ≤ vars) (h1 : vars ≤ 4194304) : oneR vars c = oneOk vars c := by
  unfold oneR oneOk
  rw [Bool.and_comm]
  congr 2
  funext l
  exact litR_ok h0 h1
theorem mayR_is (L : List (List Int)) (vars : Int) : mayR L vars = mayS L vars := by
  unfold mayR mayS
  by_cases h0 : 0 ≤ vars
  · by_cases h1 : vars ≤ 4194304
    · have e : L.all (oneR vars) = L.all (oneOk vars) := by congr 1; funext c; exact oneR_ok h0 h1
      rw [e, decide_eq_true h0, decide_eq_true h1]
      simp [Bool.and_comm]
    · rw [decide_eq_false h1]; simp
  · rw [decide_eq_false h0]; simp
theorem oneR_may {vars : Int} {c : List Int} (h0 : 0 ≤ vars) (h1 : vars ≤ 4194304) : oneR vars c = mayS [c] vars := by
  rw [oneR_ok h0 h1]
  unfold mayS
  rw [decide_eq_true h0, decide_eq_true h1]
  simp

set_option maxRecDepth 100000 in
set_option maxHeartbeats 3200000 in
theorem literal_any (x vars : Int) (w : World) : Calls Try.prog 30 #[.int .i64 x, .int .i64 vars] w fun e w' => e = .returned (.bool (litR vars x)) ∧ w' = w := by
  have E : Hid (litR vars x = (decide (x ≠ 0) && (decide (x ≤ vars) && (decide (wrap64 (-vars) ≤ x) && decide (vars ≤ 4194304))))) := rfl
  by_cases ha : x = 0
  · have E1 : Hid (litR vars x = false) := by show _ = _; rw [E.out, ha]; rfl
    subst ha
    clear E
    go_enter Try.func30, Try.ntmps30
    go_wp2
    go_ret
    exact ⟨by rw [E1.out] <;> rfl, rfl⟩
  · have a1 : (x == 0) = false := by simpa using ha
    have a2 : (x != 0) = true := by simpa using ha
    have a3 : decide (x ≠ 0) = true := by simpa using ha
    have a4 : decide (x = 0) = false := by simpa using ha
    by_cases hb : x ≤ vars
    · have b1 : decide (x ≤ vars) = true := by simpa using hb
      by_cases hc : wrap64 (-vars) ≤ x
      · have c1 : decide (wrap64 (-vars) ≤ x) = true := decide_eq_true hc
        obtain ⟨y, hy⟩ : ∃ y, wrap64 (-vars) = y := ⟨_, rfl⟩
        have Y1 : IntKind.i64.wrap (-vars) = y := by rw [IntWalk.i64_left]; exact hy
        by_cases hd : vars ≤ 4194304
        · have d1 : decide (vars ≤ 4194304) = true := decide_eq_true hd
          have E1 : Hid (litR vars x = true) := by show _ = _; rw [E.out, a3, b1, c1, d1]; rfl
          rw [hy] at c1
          clear E ha hb hc a3 hy hd
          go_enter Try.func30, Try.ntmps30
          go_wp2
          go_ret
          exact ⟨by rw [E1.out] <;> rfl, rfl⟩
        · have d1 : decide (vars ≤ 4194304) = false := decide_eq_false hd
          have E1 : Hid (litR vars x = false) := by show _ = _; rw [E.out, a3, b1, c1, d1]; rfl
          rw [hy] at c1
          clear E ha hb hc a3 hy hd
          go_enter Try.func30, Try.ntmps30
          go_wp2
          go_ret
          exact ⟨by rw [E1.out] <;> rfl, rfl⟩
      · have c1 : decide (wrap64 (-vars) ≤ x) = false := decide_eq_false hc
        have E1 : Hid (litR vars x = false) := by show _ = _; rw [E.out, a3, b1, c1]; rfl
        obtain ⟨y, hy⟩ : ∃ y, wrap64 (-vars) = y := ⟨_, rfl⟩
        have Y1 : IntKind.i64.wrap (-vars) = y := by rw [IntWalk.i64_left]; exact hy
        rw [hy] at c1
        clear E ha hb hc a3 hy
        go_enter Try.func30, Try.ntmps30
        go_wp2
        go_ret
        exact ⟨by rw [E1.out] <;> rfl, rfl⟩
    · have b1 : decide (x ≤ vars) = false := by simpa using hb
      have E1 : Hid (litR vars x = false) := by show _ = _; rw [E.out, a3, b1]; rfl
      clear E ha hb a3
      go_enter Try.func30, Try.ntmps30
      go_wp2
      go_ret
      exact ⟨by rw [E1.out] <;> rfl, rfl⟩

set_option maxRecDepth 100000 in
set_option maxHeartbeats 3200000 in
theorem has_any (l : List Int) (x : Int) (a : Option Addr) (n c : Nat) (w : World) (h : Sees w a n c (zvs l)) (hn : n ≤ 9223372036854775807) :
    Calls Try.prog 31 #[.slice a n c, .int .i64 x] w fun e w' => e = .returned (.bool (l.contains x)) ∧ w' = w := by
  have HS := Lib.hid h
  have HL := Lib.hid h.zlen
  clear h
  go_enter Try.func31, Try.ntmps31
  go_wp2
  go_loopw [5] (fun i wr => ∃ k : Nat, k ≤ n ∧ i = .int .i64 k ∧ Hid (∀ j, j < k → l.getD j 0 ≠ x) ∧ Hid (wr = w)) (fun i _ => n - (intOf i).toNat)
  case atStart => exact ⟨0, Nat.zero_le _, rfl, (fun j hj => absurd hj (by omega)), rfl⟩
  case round =>
    obtain ⟨k, hk, rfl, hN, hw⟩ := hrel
    obtain rfl := hw.out.symm
    have HN := Lib.hid hN.out
    clear hw hN
    by_cases hlt : k < n
    · obtain ⟨b, off, rfl, _⟩ := HS.out.addr (show 0 < n by omega)
      have hc := HS.out.z_at k hlt
      obtain ⟨y, hy⟩ : ∃ y, y = l.getD k 0 := ⟨_, rfl⟩
      rw [← hy] at hc
      have hI1 : ((k : Nat) : Int) < (n : Int) := by omega
      have hI2 : (0 : Int) ≤ (k : Int) := by omega
      have W1 : IntKind.i64.wrap ((k : Int) + 1) = (k : Int) + 1 := IntWalk.i64_in _ (by omega)
      by_cases hyx : y = x
      · have E1 : Hid (l.contains x = true) := by
          show _ = _
          rw [List.contains_iff_mem, ← hyx, hy]
          exact getD_memZ (by rw [HL.out]; exact hlt)
        subst hyx
        clear hy
        go_wp2
        go_ret
        exact ⟨by rw [E1.out] <;> rfl, rfl⟩
      · have y1 : (y == x) = false := by simpa using hyx
        have HM : Hid (∀ j, j < k + 1 → l.getD j 0 ≠ x) := fun j hj => by
          by_cases e : j = k
          · rw [e, ← hy]; exact hyx
          · exact HN.out j (by omega)
        clear hy hyx
        go_wp2
        go_roundw
        case rel => exact ⟨k + 1, by omega, by go_num, HM.out, trivial⟩
        case measure => simp [intOf]; omega
    · obtain rfl : k = n := by omega
      have E1 : Hid (l.contains x = false) := by
        show _ = _
        rw [← Bool.not_eq_true, List.contains_iff_mem]
        intro hx
        obtain ⟨i, hi, e⟩ := List.getElem_of_mem hx
        exact HN.out i (by rw [← HL.out]; exact hi) (by simp [List.getD, List.getElem?_eq_getElem hi, e])
      go_wp2
      go_ret
      exact ⟨by rw [E1.out] <;> rfl, rfl⟩
set_option maxRecDepth 100000 in
set_option maxHeartbeats 3200000 in
theorem one_any (l : List Int) (vars : Int) (a : Option Addr) (n c : Nat) (w : World) (h : Sees w a n c (zvs l)) (hn : n ≤ 9223372036854775807) :
    Calls Try.prog 19 #[.slice a n c, .int .i64 vars] w fun e w' => e = .returned (.bool (oneR vars l)) ∧ w' = w := by
  have HS := Lib.hid h
  have HL := Lib.hid h.zlen
  clear h
  go_enter Try.func19, Try.ntmps19
  go_wp2
  go_loopw [5] (fun i wr => ∃ k : Nat, k ≤ n ∧ i = .int .i64 k ∧ Hid (∀ j, j < k → litR vars (l.getD j 0) = true) ∧ Hid (wr = w)) (fun i _ => n - (intOf i).toNat)
  case atStart => exact ⟨0, Nat.zero_le _, rfl, (fun j hj => absurd hj (by omega)), rfl⟩
  case round =>
    obtain ⟨k, hk, rfl, hN, hw⟩ := hrel
    obtain rfl := hw.out.symm
    have HN := Lib.hid hN.out
    clear hw hN
    by_cases hlt : k < n
    · obtain ⟨b, off, rfl, _⟩ := HS.out.addr (show 0 < n by omega)
      have hc := HS.out.z_at k hlt
      obtain ⟨y, hy⟩ : ∃ y, y = l.getD k 0 := ⟨_, rfl⟩
      rw [← hy] at hc
      have hI1 : ((k : Nat) : Int) < (n : Int) := by omega
      have hI2 : (0 : Int) ≤ (k : Int) := by omega
      have W1 : IntKind.i64.wrap ((k : Int) + 1) = (k : Int) + 1 := IntWalk.i64_in _ (by omega)
      have HLI := Lib.hid (literal_any y vars w)
      obtain ⟨q, hq⟩ : ∃ q, q = litR vars y := ⟨_, rfl⟩
      rw [← hq] at HLI
      cases q with
      | false =>
        have E1 : Hid (oneR vars l = false) := by
          show _ = _
          unfold oneR
          have : l.all (litR vars) = false := by
            rw [List.all_eq_false]
            refine ⟨y, ?_, by rw [← hq]; simp⟩
            rw [hy]; exact getD_memZ (by rw [HL.out]; exact hlt)
          rw [this]; rfl
        clear hy hq
        go_wp2_with fail
        refine HLI.out.mono ?_
        rintro e w1 ⟨rfl, rfl⟩
        go_wp2
        go_ret
        exact ⟨by rw [E1.out] <;> rfl, rfl⟩
      | true =>
        have HM : Hid (∀ j, j < k + 1 → litR vars (l.getD j 0) = true) := fun j hj => by
          by_cases e : j = k
          · rw [e, ← hy, ← hq]
          · exact HN.out j (by omega)
        clear hy hq
        go_wp2_with fail
        refine HLI.out.mono ?_
        rintro e w1 ⟨rfl, rfl⟩
        go_wp2
        go_roundw
        case rel => exact ⟨k + 1, by omega, by go_num, HM.out, trivial⟩
        case measure => simp [intOf]; omega
    · obtain rfl : k = n := by omega
      have E1 : Hid (oneR vars l = decide (k ≤ 4096)) := by
        show _ = _
        unfold oneR
        have : l.all (litR vars) = true := by
          rw [List.all_eq_true]
          intro x hx
          obtain ⟨i, hi, e⟩ := List.getElem_of_mem hx
          have := HN.out i (by rw [← HL.out]; exact hi)
          simpa [List.getD, List.getElem?_eq_getElem hi, e] using this
        rw [this, HL.out]; rfl
      by_cases h4 : k ≤ 4096
      · have e1 : decide ((k : Int) ≤ 4096) = true := by simp; omega
        have e1' : decide (k ≤ 4096) = true := by simpa using h4
        have E2 : Hid (oneR vars l = true) := by show _ = _; rw [E1.out, e1']
        clear E1 h4
        go_wp2
        go_ret
        exact ⟨by rw [E2.out] <;> rfl, rfl⟩
      · have e1 : decide ((k : Int) ≤ 4096) = false := by simp; omega
        have e1' : decide (k ≤ 4096) = false := by simpa using h4
        have E2 : Hid (oneR vars l = false) := by show _ = _; rw [E1.out, e1']
        clear E1 h4
        go_wp2
        go_ret
        exact ⟨by rw [E2.out] <;> rfl, rfl⟩
set_option maxRecDepth 100000 in
set_option maxHeartbeats 3200000 in
theorem refMay_any (L : List (List Int)) (vars : Int) (a : Option Addr) (n c : Nat) (ss : List ZSlc) (w : World) (h : SeesZ w a n c ss L) (hn : n ≤ 9223372036854775807) (hm : SmallZ L) :
    Calls Try.prog 9 #[.slice a n c, .int .i64 vars] w fun e w' => e = .returned (.bool (mayS L vars)) ∧ w' = w := by
  rw [← mayR_is]
  have HS := Lib.hid h
  have HL := Lib.hid h.zlen
  have HSM := Lib.hid hm
  clear h hm
  go_enter Try.func9, Try.ntmps9
  go_wp2
  go_loopw [5] (fun i wr => ∃ k : Nat, k ≤ n ∧ i = .int .i64 k ∧ Hid (∀ j, j < k → oneR vars (L.getD j []) = true) ∧ Hid (wr = w)) (fun i _ => n - (intOf i).toNat)
  case atStart => exact ⟨0, Nat.zero_le _, rfl, (fun j hj => absurd hj (by omega)), rfl⟩
  case round =>
    obtain ⟨k, hk, rfl, hN, hw⟩ := hrel
    obtain rfl := hw.out.symm
    have HN := Lib.hid hN.out
    clear hw hN
    by_cases hlt : k < n
    · obtain ⟨b, off, rfl, _⟩ := HS.out.addr (show 0 < n by omega)
      have hkl : k < L.length := by rw [HL.out]; exact hlt
      have hc := HS.out.cellAt k hlt
      have he := HS.out.each k hkl
      obtain ⟨⟨sa, sn, sc⟩, hs⟩ : ∃ s, s = ss.getD k zs0 := ⟨_, rfl⟩
      rw [← hs] at hc he
      simp only at hc he
      obtain ⟨y, hy⟩ : ∃ y, y = L.getD k [] := ⟨_, rfl⟩
      rw [← hy] at he
      have hI1 : ((k : Nat) : Int) < (n : Int) := by omega
      have hI2 : (0 : Int) ≤ (k : Int) := by omega
      have W1 : IntKind.i64.wrap ((k : Int) + 1) = (k : Int) + 1 := IntWalk.i64_in _ (by omega)
      have hsn : sn ≤ 9223372036854775807 := by rw [← he.zlen, hy]; exact HSM.out _ (getD_memL hkl)
      have HLI := Lib.hid (one_any y vars sa sn sc w he hsn)
      obtain ⟨q, hq⟩ : ∃ q, q = oneR vars y := ⟨_, rfl⟩
      rw [← hq] at HLI
      cases q with
      | false =>
        have E1 : Hid (mayR L vars = false) := by
          show _ = _
          unfold mayR
          have : L.all (oneR vars) = false := by
            rw [List.all_eq_false]
            refine ⟨y, ?_, by rw [← hq]; simp⟩
            rw [hy]; exact getD_memL hkl
          rw [this]; rfl
        clear hy hq hs he
        go_wp2_with fail
        refine HLI.out.mono ?_
        rintro e w1 ⟨rfl, rfl⟩
        go_wp2
        go_ret
        exact ⟨by rw [E1.out] <;> rfl, rfl⟩
      | true =>
        have HM : Hid (∀ j, j < k + 1 → oneR vars (L.getD j []) = true) := fun j hj => by
          by_cases e : j = k
          · rw [e, ← hy, ← hq]
          · exact HN.out j (by omega)
        clear hy hq hs he
        go_wp2_with fail
        refine HLI.out.mono ?_
        rintro e w1 ⟨rfl, rfl⟩
        go_wp2
        go_roundw
        case rel => exact ⟨k + 1, by omega, by go_num, HM.out, trivial⟩
        case measure => simp [intOf]; omega
    · obtain rfl : k = n := by omega
      have E0 : L.all (oneR vars) = true := by
        rw [List.all_eq_true]
        intro x hx
        obtain ⟨i, hi, e⟩ := List.getElem_of_mem hx
        have := HN.out i (by rw [← HL.out]; exact hi)
        simpa [List.getD, List.getElem?_eq_getElem hi, e] using this
      have E1 : Hid (mayR L vars = (decide (k ≤ 1048576) && (decide (0 ≤ vars) && decide (vars ≤ 4194304)))) := by
        show _ = _
        unfold mayR
        rw [E0, HL.out]; rfl
      clear E0
      by_cases h1 : k ≤ 1048576
      · have e1 : decide ((k : Int) ≤ 1048576) = true := by simp; omega
        have e1' : decide (k ≤ 1048576) = true := by simpa using h1
        by_cases h2 : 0 ≤ vars
        · have e2 : decide ((0 : Int) ≤ vars) = true := by simpa using h2
          by_cases h3 : vars ≤ 4194304
          · have e3 : decide (vars ≤ 4194304) = true := decide_eq_true h3
            have E2 : Hid (mayR L vars = true) := by show _ = _; rw [E1.out, e1', e2, e3]; rfl
            clear E1 h1 h2 h3
            go_wp2
            go_ret
            exact ⟨by rw [E2.out] <;> rfl, rfl⟩
          · have e3 : decide (vars ≤ 4194304) = false := decide_eq_false h3
            have E2 : Hid (mayR L vars = false) := by show _ = _; rw [E1.out, e1', e2, e3]; rfl
            clear E1 h1 h2 h3
            go_wp2
            go_ret
            exact ⟨by rw [E2.out] <;> rfl, rfl⟩
        · have e2 : decide ((0 : Int) ≤ vars) = false := by simpa using h2
          have E2 : Hid (mayR L vars = false) := by show _ = _; rw [E1.out, e1', e2]; rfl
          clear E1 h1 h2
          go_wp2
          go_ret
          exact ⟨by rw [E2.out] <;> rfl, rfl⟩
      · have e1 : decide ((k : Int) ≤ 1048576) = false := by simp; omega
        have e1' : decide (k ≤ 1048576) = false := by simpa using h1
        have E2 : Hid (mayR L vars = false) := by show _ = _; rw [E1.out, e1']; rfl
        clear E1 h1
        go_wp2
        go_ret
        exact ⟨by rw [E2.out] <;> rfl, rfl⟩

set_option maxRecDepth 100000 in
set_option maxHeartbeats 3200000 in
theorem refTrue_any (x : Int) (hx : InZ x) (M : List Bool) (am : Option Addr) (nm cm : Nat) (w : World) (hs : Sees w am nm cm (M.map Value.bool)) (hn : nm ≤ 9223372036854775807) :
    Calls Try.prog 23 #[.int .i64 x, .slice am nm cm] w fun e w' => e = .returned (.bool (trueS M x)) ∧ w' = w := by
  have hl : M.length = nm := hs.lenMap
  have HV := Lib.hid (side_any x hx w)
  obtain ⟨y, hy⟩ : ∃ y, y = varW x := ⟨_, rfl⟩
  have hcs := varW_cases hx
  rw [← hy] at HV hcs
  clear hy
  rcases hcs with ⟨h0, hym, hm0⟩ | ⟨h0, hm⟩
  · have hneg : decide (0 < x) = !decide (x < 0) := by
      by_cases e : x < 0
      · have : ¬ 0 < x := by omega
        simp [e, this]
      · have : 0 < x := by omega
        simp [e, this]
    obtain ⟨m, hm⟩ : ∃ m, m = x.natAbs := ⟨_, rfl⟩
    rw [← hm] at hym hm0
    subst hym
    obtain ⟨p, hp⟩ : ∃ p, p = decide (x < 0) := ⟨_, rfl⟩
    rw [← hp] at hneg HV
    have E : Hid (trueS M x = (decide (m < nm) && (M.getD m false == !p))) := by
      show _ = _
      unfold trueS
      rw [← hm, hl, decide_eq_true hm0, hneg]
      rfl
    by_cases h1 : m < nm
    · obtain ⟨b, off, rfl, hbw⟩ := hs.addr (show 0 < nm by omega)
      have hcell := hs.b_at m h1
      obtain ⟨q, hq⟩ : ∃ q, q = M.getD m false := ⟨_, rfl⟩
      rw [← hq] at hcell E
      have b1 : decide ((m : Int) < (nm : Int)) = true := by simpa using h1
      have b0 : decide ((0 : Int) < (m : Int)) = true := by simpa using hm0
      have I1 : (m : Int) < (nm : Int) := by omega
      have I0 : (0 : Int) ≤ (m : Int) := by omega
      have E2 : Hid (trueS M x = (q != p)) := by show _ = _; rw [E.out, decide_eq_true h1]; cases q <;> cases p <;> rfl
      clear E hq hm hs hl h1 h0 hx hneg hp
      cases q <;> cases p <;>
        (go_enter Try.func23, Try.ntmps23
         go_wp2_with fail
         refine HV.out.mono ?_
         rintro e w' ⟨rfl, rfl⟩
         go_wp2
         go_ret
         exact ⟨by rw [E2.out] <;> rfl, rfl⟩)
    · have b1 : decide ((m : Int) < (nm : Int)) = false := by simp; omega
      have b0 : decide ((0 : Int) < (m : Int)) = true := by simpa using hm0
      have E2 : Hid (trueS M x = false) := by show _ = _; rw [E.out, decide_eq_false h1]; rfl
      have b2 : decide (m < nm) = false := by simpa using h1
      have b3 : decide (0 < m) = true := by simpa using hm0
      clear E hm hs hl h1 h0 hx hneg hp
      go_enter Try.func23, Try.ntmps23
      go_wp2_with fail
      refine HV.out.mono ?_
      rintro e w' ⟨rfl, rfl⟩
      go_wp2
      all_goals (go_ret; exact ⟨by rw [E2.out] <;> rfl, rfl⟩)
  · have b0 : decide (0 < y) = false := by simpa using h0
    have b1 : (0 < y) = False := by simpa using h0
    have E2 : Hid (trueS M x = false) := by
      show _ = _
      unfold trueS
      rcases hm with h | h
      · rw [h]; rfl
      · rw [show decide (x.natAbs < M.length) = false by simp; omega]; simp
    clear hm hs hl h0 hx
    go_enter Try.func23, Try.ntmps23
    go_wp2_with fail
    refine HV.out.mono ?_
    rintro e w' ⟨rfl, rfl⟩
    go_wp2
    go_ret
    exact ⟨by rw [E2.out] <;> rfl, rfl⟩
end Go.Proofs.Ytionibckeicncaa
