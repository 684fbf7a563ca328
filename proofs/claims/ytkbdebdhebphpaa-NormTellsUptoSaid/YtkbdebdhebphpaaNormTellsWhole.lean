/- NormTells returns true for every two circuits and traces where what it reads is of bulk at most 1048576: whether they may be, fit, are the same, how many variables there are, copies, and the raw circuit, are the reference's, or its error. Condition: the bound. -/
import Derived.Test.YtkbdebdhebphpaaNTab
import Derived.Test.YtkbdebdhebphpaaNSameC
import Derived.Test.YtkbdebdhebphpaaNTwo
import Derived.Test.YtkbdebdhebphpaaNRegion
import Derived.Deep.RegionHeld3
import Derived.Test.YtkbdebdhebphpaaEqNums
import Derived.Test.YtkbdebdhebphpaaRawMay
import Derived.Test.YtkbdebdhebphpaaNLives
import Derived.Test.YtkbdebdhebphpaaNTellsParts
import Derived.Test.YtkbdebdhebphpaaNCopyTr
import Derived.Test.YtkbdebdhebphpaaNGreat
import Derived.Test.YtkbdebdhebphpaaNWrap
import Derived.Test.YtkbdebdhebphpaaNOpen
import Derived.JoinedCond
/- bytes.Equal, slices.EqualFunc on frames, norm.SameTrace, by their contracts. -/
namespace Go.Proofs.Ytkbdebdhebphpaa
open Go Go.RowKit Go.Joins

set_option maxRecDepth 100000 in
set_option maxHeartbeats 400000 in
theorem beq_any (bs cs : List UInt8) (a a' : Option Addr) (n c n' c' : Nat) (w : World) (h : Sees w a n c (bs.map bv)) (h' : Sees w a' n' c' (cs.map bv)) :
    Calls Try.prog 50 #[.slice a n c, .slice a' n' c'] w fun e w' => e = .returned (.bool (decide (bs = cs))) ∧ w' = w := by
  have q1 := h.str (P := Try.prog) 27 5 9 Try.underlying27 Try.underlying5 Try.underlying9
  have q2 := h'.str (P := Try.prog) 27 5 9 Try.underlying27 Try.underlying5 Try.underlying9
  clear h h'
  go_enter Try.func50, Try.ntmps50
  go_wp2
  go_ret
  exact ⟨by rw [show decide (bs = cs) = (bs == cs) by by_cases e : bs = cs <;> simp [e]]; simp [str], rfl⟩

set_option maxRecDepth 100000 in
set_option maxHeartbeats 1600000 in
theorem eqframes_any (fs gs : List (List UInt8)) (ss ss' : List Slc) (a a' : Option Addr) (n c n' c' : Nat) (w : World) (h : SeesF w a n c ss fs) (h' : SeesF w a' n' c' ss' gs) (hn : n ≤ 1048576) :
    Calls Try.prog 51 #[.slice a n c, .slice a' n' c', .func (.func 50) #[] #[]] w fun e w' => e = .returned (.bool (decide (fs = gs))) ∧ Below w.heap.size w w' := by
  have hl := h.n_eq
  have hl' := h'.n_eq
  obtain ⟨q, hq⟩ : ∃ q, q = decide (fs = gs) := ⟨_, rfl⟩
  have NO : fs ≠ gs → q = false := fun h => by rw [hq]; exact decide_eq_false h
  rw [← hq]
  by_cases hne : n = n'
  · subst hne
    have YES : (∀ j, j < n → fs.getD j [] = gs.getD j []) → q = true := fun h => by
      rw [hq, decide_eq_true_eq]
      apply List.ext_getElem (by omega)
      intro i h1 h2
      have := h i (by omega)
      simpa [List.getD, List.getElem?_eq_getElem h1, List.getElem?_eq_getElem h2] using this
    have H := Lib.hid h
    have H' := Lib.hid h'
    have HL := Lib.hid hl
    have HL' := Lib.hid hl'
    have HNO := Lib.hid NO
    have HYES := Lib.hid YES
    clear h h' hl hl' NO YES hq
    go_enter Try.func51, Try.ntmps51
    go_wp2
    go_loopw [7, 8, 9, 17] (fun v1 v2 v3 i wr => ∃ k : Nat, k ≤ n ∧ i = .int .i64 k ∧ Hid (∀ j, j < k → fs.getD j [] = gs.getD j []) ∧ Hid (Below w.heap.size w wr))
      (fun _ _ _ i _ => n - (intOf i).toNat)
    case atStart => exact ⟨0, Nat.zero_le _, rfl, fun j hj => absurd hj (by omega), Below.refl _ _⟩
    case round =>
      obtain ⟨k, hk, rfl, heq, hB⟩ := hrel
      by_cases hlt : k < n
      · obtain ⟨b1, o1, rfl, _⟩ := H.out.row.addr (by omega)
        obtain ⟨b2, o2, rfl, _⟩ := H'.out.row.addr (by omega)
        obtain ⟨x, hx⟩ : ∃ x : Slc, x = ss.getD k slc0 := ⟨_, rfl⟩
        obtain ⟨y, hy⟩ : ∃ y : Slc, y = ss'.getD k slc0 := ⟨_, rfl⟩
        have hsx := (H.out.below hB.out).each k (by rw [HL.out]; exact hlt)
        have hsy := (H'.out.below hB.out).each k (by rw [HL'.out]; exact hlt)
        have hc1 := (H.out.below hB.out).cellAt k hlt
        have hc2 := (H'.out.below hB.out).cellAt k hlt
        rw [← hx] at hsx hc1
        rw [← hy] at hsy hc2
        obtain ⟨xa, xn, xc⟩ := x
        obtain ⟨ya, yn, yc⟩ := y
        simp only at hsx hsy hc1 hc2
        obtain ⟨p, hp⟩ : ∃ p, p = decide (fs.getD k [] = gs.getD k []) := ⟨_, rfl⟩
        have HCALL : Hid (Calls Try.prog 50 #[.slice xa xn xc, .slice ya yn yc] wr fun e w' => e = .returned (.bool p) ∧ w' = wr) := by
          have h1 := beq_any _ _ xa ya xn xc yn yc wr hsx hsy
          rw [← hp] at h1
          exact h1
        have HP := Lib.hid hp
        have HB := Lib.hid hB.out
        have HEQ := Lib.hid heq.out
        have W1 : IntKind.i64.wrap ((k : Int) + 1) = (k : Int) + 1 := IntWalk.i64_in _ (by omega)
        clear hx hy hp heq hB hsx hsy
        go_wp2_with fail
        refine HCALL.out.mono ?_
        rintro e w' ⟨rfl, rfl⟩
        clear hc1 hc2 HCALL
        cases p with
        | true =>
          have HN : Hid (∀ j, j < k + 1 → fs.getD j [] = gs.getD j []) := fun j hj => by
            rcases Nat.lt_or_ge j k with h | h
            · exact HEQ.out j h
            · have : j = k := by omega
              subst this
              exact of_decide_eq_true HP.out.symm
          go_wp2
          go_roundw
          case rel => exact ⟨k + 1, by omega, by go_num, HN.out, HB.out⟩
          case measure => simp [intOf]; omega
        | false =>
          have HF : Hid (q = false) := HNO.out fun e => by
            have := HP.out
            rw [e] at this
            simp at this
          go_wp2
          go_ret
          exact ⟨by rw [HF.out]; rfl, HB.out⟩
      · have hkn : k = n := by omega
        subst hkn
        have HT : Hid (q = true) := HYES.out heq.out
        have HB := Lib.hid hB.out
        clear heq hB
        go_wp2
        go_ret
        exact ⟨by rw [HT.out]; rfl, HB.out⟩
  · have hb : ((n : Int) != (n' : Int)) = true := by simp; omega
    have hb' : ((n : Int) == (n' : Int)) = false := by simp; omega
    have HF : Hid (q = false) := NO fun e => hne (by rw [← hl, ← hl', e])
    clear h h' hl hl' NO hq hne
    go_enter Try.func51, Try.ntmps51
    go_wp2
    go_ret
    exact ⟨by rw [HF.out]; rfl, Below.refl _ _⟩

set_option maxRecDepth 100000 in
set_option maxHeartbeats 1600000 in
theorem sametr3_any (t u : TraceC) (s s' : TSlots) (w : World) (h : SeesTr w s t) (h' : SeesTr w s' u) (hs : s.small) :
    Calls Try.prog 20 #[traceV t.bad s, traceV u.bad s'] w fun e w' => e = .returned (.bool (decide (t = u))) ∧ Below w.heap.size w w' := by
  obtain ⟨a1, n1, c1, a2, n2, c2, ss⟩ := s
  obtain ⟨a1', n1', c1', a2', n2', c2', ss'⟩ := s'
  obtain ⟨z, init, fs⟩ := t
  obtain ⟨z', init', fs'⟩ := u
  have hn2 := hs.n2
  simp only at hn2
  obtain ⟨q, hq⟩ : ∃ q, q = decide ((⟨z, init, fs⟩ : TraceC) = ⟨z', init', fs'⟩) := ⟨_, rfl⟩
  have hiff : q = (decide (z = z') && (decide (init = init') && decide (fs = fs'))) := by
    rw [hq]
    by_cases e1 : z = z' <;> by_cases e2 : init = init' <;> by_cases e3 : fs = fs' <;> simp [e1, e2, e3]
  rw [← hq]
  have EB : Hid (∀ W, Below w.heap.size w W → Calls Try.prog 50 #[.slice a1 n1 c1, .slice a1' n1' c1'] W fun e w' => e = .returned (.bool (decide (init = init'))) ∧ w' = W) := fun W hb => beq_any _ _ a1 a1' n1 c1 n1' c1' W (h.s1.below hb) (h'.s1.below hb)
  have ET : Hid (∀ W, Below w.heap.size w W → Calls Try.prog 51 #[.slice a2 n2 c2, .slice a2' n2' c2', .func (.func 50) #[] #[]] W fun e w' => e = .returned (.bool (decide (fs = fs'))) ∧ Below W.heap.size W w') := fun W hb => eqframes_any fs fs' ss ss' a2 a2' n2 c2 n2' c2' W (h.s2.below hb) (h'.s2.below hb) hn2
  obtain ⟨q2, hq2⟩ : ∃ q, q = decide (init = init') := ⟨_, rfl⟩
  obtain ⟨q3, hq3⟩ : ∃ q, q = decide (fs = fs') := ⟨_, rfl⟩
  rw [← hq2] at EB hiff
  rw [← hq3] at ET hiff
  have HI := Lib.hid hiff
  clear hq hq2 hq3 hiff h h' hs
  unfold traceV
  by_cases h0 : z = z'
  case neg =>
    have e0 : (z == z') = false := by simpa using h0
    have HF : Hid (q = false) := by show _ = _; rw [HI.out]; simp [h0]
    clear h0
    go_enter Try.func20, Try.ntmps20
    go_wp2
    go_ret
    exact ⟨by rw [HF.out]; rfl, ext_trans (ext_alloc _ _) (ext_alloc _ _)⟩
  subst h0
  have HQ : Hid (q = (q2 && q3)) := by show _ = _; rw [HI.out]; simp
  clear HI
  go_enter Try.func20, Try.ntmps20
  go_wp2_with fail
  refine (EB.out _ (ext_trans (ext_alloc _ _) (ext_alloc _ _))).mono ?_
  rintro e W1 ⟨rfl, rfl⟩
  cases q2 with
  | false =>
    go_wp2
    go_ret
    exact ⟨by rw [HQ.out]; rfl, ext_trans (ext_alloc _ _) (ext_alloc _ _)⟩
  | true =>
    go_wp2_with fail
    refine (ET.out _ (ext_trans (ext_alloc _ _) (ext_alloc _ _))).mono ?_
    rintro e W2 ⟨rfl, hb⟩
    have HB := Lib.hid (ext_trans (ext_trans (ext_alloc _ _) (ext_alloc _ _)) hb)
    clear hb
    go_wp2
    go_ret
    exact ⟨by rw [HQ.out]; simp, HB.out⟩
end Go.Proofs.Ytkbdebdhebphpaa
/- norm.Same: are two circuits the same? -/
namespace Go.Proofs.Ytkbdebdhebphpaa
open Go Go.RowKit Go.Joins

theorem list_eq_dec {α : Type} [DecidableEq α] {xs ys : List α} {q : Bool} (h : q = decide (xs = ys)) : (xs = ys → q = true) ∧ (xs ≠ ys → q = false) := by
  subst h
  exact ⟨fun e => by simpa using e, fun e => by simpa using e⟩


set_option maxRecDepth 100000 in
set_option maxHeartbeats 3200000 in
theorem eql_lat (xs ys : List (Nat × Nat)) (a a' : Option Addr) (n c n' c' : Nat) (w : World) (h : Sees2 nv8 w a n c xs) (h' : Sees2 nv8 w a' n' c' ys) (hn : n ≤ 1048576) :
    Calls Try.prog 42 #[.slice a n c, .slice a' n' c'] w fun e w' => e = .returned (.bool (decide (xs = ys))) ∧ Below w.heap.size w w' := by
  obtain ⟨q, hq⟩ : ∃ q, q = decide (xs = ys) := ⟨_, rfl⟩
  rw [← hq]
  have HY := Lib.hid (list_eq_dec hq).1
  have HNO := Lib.hid (list_eq_dec hq).2
  have L := Lib.hid h.1
  have L' := Lib.hid h'.1
  have HS := Lib.hid h
  have HS' := Lib.hid h'
  clear hq h h'
  by_cases h1 : n = n'
  case neg =>
    have e0 : ((n : Int) == (n' : Int)) = false := by simp; omega
    have e0' : ((n : Int) != (n' : Int)) = true := by simp; omega
    have HF : Hid (q = false) := HNO.out fun e => h1 (by rw [← L.out, ← L'.out, e])
    have H0 := Lib.hid h1
    clear h1
    go_enter Try.func42, Try.ntmps42
    go_wp2
    go_ret
    exact ⟨by rw [HF.out]; rfl, Below.refl _ _⟩
  subst h1
  go_enter Try.func42, Try.ntmps42
  go_wp2
  go_loopw [13] (fun i wr => ∃ k : Nat, k ≤ n ∧ i = .int .i64 k ∧ Hid (∀ j, j < k → xs.getD j (0, 0) = ys.getD j (0, 0)) ∧ Hid (Below w.heap.size w wr))
    (fun i _ => n - (intOf i).toNat)
  case atStart => exact ⟨0, Nat.zero_le _, rfl, fun j hj => absurd hj (by omega), Below.refl _ _⟩
  case round =>
    obtain ⟨k, hk, rfl, hno, hb⟩ := hrel
    by_cases hlt : k < n
    · obtain ⟨b, off, rfl, hbw⟩ := HS.out.addr (show 0 < n by omega)
      obtain ⟨b', off', rfl, hbw'⟩ := HS'.out.addr (show 0 < n by omega)
      obtain ⟨qx, qy⟩ := (HS.out.below hb.out).cells k hlt (0, 0)
      obtain ⟨qx', qy'⟩ := (HS'.out.below hb.out).cells k hlt (0, 0)
      obtain ⟨t, ht⟩ : ∃ t, t = xs.getD k (0, 0) := ⟨_, rfl⟩
      obtain ⟨t', ht'⟩ : ∃ t, t = ys.getD k (0, 0) := ⟨_, rfl⟩
      rw [← ht] at qx qy
      rw [← ht'] at qx' qy'
      have HT := Lib.hid ht
      have HT' := Lib.hid ht'
      clear ht ht'
      obtain ⟨x, y⟩ := t
      obtain ⟨x', y'⟩ := t'
      simp only [nv32, nv8] at qx qy qx' qy'
      have W1 : IntKind.i64.wrap ((k : Int) + 1) = (k : Int) + 1 := IntWalk.i64_in _ (by omega)
      by_cases hxy : x = x' ∧ y = y'
      · obtain ⟨rfl, rfl⟩ := hxy
        go_wp2
        go_quiet (fail)
        go_wp2
        go_roundw
        case rel =>
          rename_i nq
          refine ⟨k + 1, by omega, by go_num, fun j hj => ?_, ext_trans hb.out (ext_drewN _ nq)⟩
          rcases Nat.lt_or_ge j k with h | h
          · exact hno.out j h
          · have : j = k := by omega
            subst this
            rw [← HT.out, ← HT'.out]
        case measure => simp [intOf]; omega
      · have HF : Hid (q = false) := HNO.out fun e => hxy (by
          have h1 := HT.out
          have h2 := HT'.out
          rw [← e, ← h1] at h2
          cases h2
          exact ⟨rfl, rfl⟩)
        by_cases hx1 : x = x'
        · subst hx1
          have e1 : ((y : Int) == (y' : Int)) = false := by simp; omega
          have e2 : ((y : Int) != (y' : Int)) = true := by simp; omega
          have e3 : ((y : Int) = (y' : Int)) = False := by simp; omega
          have HXY := Lib.hid hxy
          clear hxy
          go_wp2
          go_quiet (fail)
          go_wp2
          go_ret
          rename_i nq
          exact ⟨by rw [HF.out]; rfl, ext_trans hb.out (ext_drewN _ nq)⟩
        · have e1 : ((x : Int) == (x' : Int)) = false := by simp; omega
          have e2 : ((x : Int) != (x' : Int)) = true := by simp; omega
          have e3 : ((x : Int) = (x' : Int)) = False := by simp; omega
          have HXY := Lib.hid hxy
          have HX1 := Lib.hid hx1
          clear hxy hx1
          go_wp2
          go_quiet (fail)
          go_wp2
          go_ret
          rename_i nq
          exact ⟨by rw [HF.out]; rfl, ext_trans hb.out (ext_drewN _ nq)⟩
    · obtain rfl : n = k := by omega
      have HEQ : Hid (q = true) := HY.out (list_eq_of (d := ((0, 0) : Nat × Nat)) L.out L'.out hno.out)
      have HB := Lib.hid hb.out
      clear hlt hk hb hno
      go_wp2
      go_ret
      exact ⟨by rw [HEQ.out]; rfl, HB.out⟩

set_option maxRecDepth 100000 in
set_option maxHeartbeats 3200000 in
theorem eql_gate (xs ys : List (Nat × Nat)) (a a' : Option Addr) (n c n' c' : Nat) (w : World) (h : Sees2 nv32 w a n c xs) (h' : Sees2 nv32 w a' n' c' ys) (hn : n ≤ 1048576) :
    Calls Try.prog 43 #[.slice a n c, .slice a' n' c'] w fun e w' => e = .returned (.bool (decide (xs = ys))) ∧ Below w.heap.size w w' := by
  obtain ⟨q, hq⟩ : ∃ q, q = decide (xs = ys) := ⟨_, rfl⟩
  rw [← hq]
  have HY := Lib.hid (list_eq_dec hq).1
  have HNO := Lib.hid (list_eq_dec hq).2
  have L := Lib.hid h.1
  have L' := Lib.hid h'.1
  have HS := Lib.hid h
  have HS' := Lib.hid h'
  clear hq h h'
  by_cases h1 : n = n'
  case neg =>
    have e0 : ((n : Int) == (n' : Int)) = false := by simp; omega
    have e0' : ((n : Int) != (n' : Int)) = true := by simp; omega
    have HF : Hid (q = false) := HNO.out fun e => h1 (by rw [← L.out, ← L'.out, e])
    have H0 := Lib.hid h1
    clear h1
    go_enter Try.func43, Try.ntmps43
    go_wp2
    go_ret
    exact ⟨by rw [HF.out]; rfl, Below.refl _ _⟩
  subst h1
  go_enter Try.func43, Try.ntmps43
  go_wp2
  go_loopw [13] (fun i wr => ∃ k : Nat, k ≤ n ∧ i = .int .i64 k ∧ Hid (∀ j, j < k → xs.getD j (0, 0) = ys.getD j (0, 0)) ∧ Hid (Below w.heap.size w wr))
    (fun i _ => n - (intOf i).toNat)
  case atStart => exact ⟨0, Nat.zero_le _, rfl, fun j hj => absurd hj (by omega), Below.refl _ _⟩
  case round =>
    obtain ⟨k, hk, rfl, hno, hb⟩ := hrel
    by_cases hlt : k < n
    · obtain ⟨b, off, rfl, hbw⟩ := HS.out.addr (show 0 < n by omega)
      obtain ⟨b', off', rfl, hbw'⟩ := HS'.out.addr (show 0 < n by omega)
      obtain ⟨qx, qy⟩ := (HS.out.below hb.out).cells k hlt (0, 0)
      obtain ⟨qx', qy'⟩ := (HS'.out.below hb.out).cells k hlt (0, 0)
      obtain ⟨t, ht⟩ : ∃ t, t = xs.getD k (0, 0) := ⟨_, rfl⟩
      obtain ⟨t', ht'⟩ : ∃ t, t = ys.getD k (0, 0) := ⟨_, rfl⟩
      rw [← ht] at qx qy
      rw [← ht'] at qx' qy'
      have HT := Lib.hid ht
      have HT' := Lib.hid ht'
      clear ht ht'
      obtain ⟨x, y⟩ := t
      obtain ⟨x', y'⟩ := t'
      simp only [nv32] at qx qy qx' qy'
      have W1 : IntKind.i64.wrap ((k : Int) + 1) = (k : Int) + 1 := IntWalk.i64_in _ (by omega)
      by_cases hxy : x = x' ∧ y = y'
      · obtain ⟨rfl, rfl⟩ := hxy
        go_wp2
        go_quiet (fail)
        go_wp2
        go_roundw
        case rel =>
          rename_i nq
          refine ⟨k + 1, by omega, by go_num, fun j hj => ?_, ext_trans hb.out (ext_drewN _ nq)⟩
          rcases Nat.lt_or_ge j k with h | h
          · exact hno.out j h
          · have : j = k := by omega
            subst this
            rw [← HT.out, ← HT'.out]
        case measure => simp [intOf]; omega
      · have HF : Hid (q = false) := HNO.out fun e => hxy (by
          have h1 := HT.out
          have h2 := HT'.out
          rw [← e, ← h1] at h2
          cases h2
          exact ⟨rfl, rfl⟩)
        by_cases hx1 : x = x'
        · subst hx1
          have e1 : ((y : Int) == (y' : Int)) = false := by simp; omega
          have e2 : ((y : Int) != (y' : Int)) = true := by simp; omega
          have e3 : ((y : Int) = (y' : Int)) = False := by simp; omega
          have HXY := Lib.hid hxy
          clear hxy
          go_wp2
          go_quiet (fail)
          go_wp2
          go_ret
          rename_i nq
          exact ⟨by rw [HF.out]; rfl, ext_trans hb.out (ext_drewN _ nq)⟩
        · have e1 : ((x : Int) == (x' : Int)) = false := by simp; omega
          have e2 : ((x : Int) != (x' : Int)) = true := by simp; omega
          have e3 : ((x : Int) = (x' : Int)) = False := by simp; omega
          have HXY := Lib.hid hxy
          have HX1 := Lib.hid hx1
          clear hxy hx1
          go_wp2
          go_quiet (fail)
          go_wp2
          go_ret
          rename_i nq
          exact ⟨by rw [HF.out]; rfl, ext_trans hb.out (ext_drewN _ nq)⟩
    · obtain rfl : n = k := by omega
      have HEQ : Hid (q = true) := HY.out (list_eq_of (d := ((0, 0) : Nat × Nat)) L.out L'.out hno.out)
      have HB := Lib.hid hb.out
      clear hlt hk hb hno
      go_wp2
      go_ret
      exact ⟨by rw [HEQ.out]; rfl, HB.out⟩

set_option maxRecDepth 100000 in
set_option maxHeartbeats 3200000 in
theorem eql_u32 (xs ys : List Nat) (a a' : Option Addr) (n c n' c' : Nat) (w : World) (h : Sees w a n c (xs.map nv32)) (h' : Sees w a' n' c' (ys.map nv32)) (hn : n ≤ 1048576) :
    Calls Try.prog 44 #[.slice a n c, .slice a' n' c'] w fun e w' => e = .returned (.bool (decide (xs = ys))) ∧ Below w.heap.size w w' := by
  obtain ⟨q, hq⟩ : ∃ q, q = decide (xs = ys) := ⟨_, rfl⟩
  rw [← hq]
  have HY := Lib.hid (list_eq_dec hq).1
  have HNO := Lib.hid (list_eq_dec hq).2
  have L := Lib.hid h.lenMap
  have L' := Lib.hid h'.lenMap
  have HS := Lib.hid h
  have HS' := Lib.hid h'
  clear hq h h'
  by_cases h1 : n = n'
  case neg =>
    have e0 : ((n : Int) == (n' : Int)) = false := by simp; omega
    have e0' : ((n : Int) != (n' : Int)) = true := by simp; omega
    have HF : Hid (q = false) := HNO.out fun e => h1 (by rw [← L.out, ← L'.out, e])
    have H0 := Lib.hid h1
    clear h1
    go_enter Try.func44, Try.ntmps44
    go_wp2
    go_ret
    exact ⟨by rw [HF.out]; rfl, Below.refl _ _⟩
  subst h1
  go_enter Try.func44, Try.ntmps44
  go_wp2
  go_loopw [13] (fun i wr => ∃ k : Nat, k ≤ n ∧ i = .int .i64 k ∧ Hid (∀ j, j < k → xs.getD j 0 = ys.getD j 0) ∧ Hid (Below w.heap.size w wr))
    (fun i _ => n - (intOf i).toNat)
  case atStart => exact ⟨0, Nat.zero_le _, rfl, fun j hj => absurd hj (by omega), Below.refl _ _⟩
  case round =>
    obtain ⟨k, hk, rfl, hno, hb⟩ := hrel
    by_cases hlt : k < n
    · obtain ⟨b, off, rfl, hbw⟩ := HS.out.addr (show 0 < n by omega)
      obtain ⟨b', off', rfl, hbw'⟩ := HS'.out.addr (show 0 < n by omega)
      have qx := (HS.out.below hb.out).num k hlt
      have qx' := (HS'.out.below hb.out).num k hlt
      obtain ⟨x, hx⟩ : ∃ t, t = xs.getD k 0 := ⟨_, rfl⟩
      obtain ⟨x', hx'⟩ : ∃ t, t = ys.getD k 0 := ⟨_, rfl⟩
      rw [← hx] at qx
      rw [← hx'] at qx'
      have HT := Lib.hid hx
      have HT' := Lib.hid hx'
      clear hx hx'
      have W1 : IntKind.i64.wrap ((k : Int) + 1) = (k : Int) + 1 := IntWalk.i64_in _ (by omega)
      by_cases hxy : x = x'
      · subst hxy
        go_wp2
        go_quiet (fail)
        go_wp2
        go_roundw
        case rel =>
          rename_i nq
          refine ⟨k + 1, by omega, by go_num, fun j hj => ?_, ext_trans hb.out (ext_drewN _ nq)⟩
          rcases Nat.lt_or_ge j k with h | h
          · exact hno.out j h
          · have : j = k := by omega
            subst this
            rw [← HT.out, ← HT'.out]
        case measure => simp [intOf]; omega
      · have HF : Hid (q = false) := HNO.out fun e => hxy (by
          have h1 := HT.out
          have h2 := HT'.out
          rw [← e, ← h1] at h2
          exact h2.symm)
        have e1 : ((x : Int) == (x' : Int)) = false := by simp; omega
        have e2 : ((x : Int) != (x' : Int)) = true := by simp; omega
        have e3 : ((x : Int) = (x' : Int)) = False := by simp; omega
        have HXY := Lib.hid hxy
        clear hxy
        go_wp2
        go_quiet (fail)
        go_wp2
        go_ret
        rename_i nq
        exact ⟨by rw [HF.out]; rfl, ext_trans hb.out (ext_drewN _ nq)⟩
    · obtain rfl : n = k := by omega
      have HEQ : Hid (q = true) := HY.out (list_eq_of (d := 0) L.out L'.out hno.out)
      have HB := Lib.hid hb.out
      clear hlt hk hb hno
      go_wp2
      go_ret
      exact ⟨by rw [HEQ.out]; rfl, HB.out⟩
end Go.Proofs.Ytkbdebdhebphpaa
/- norm.Same: are two circuits the same? -/
namespace Go.Proofs.Ytkbdebdhebphpaa
open Go Go.RowKit Go.Joins

theorem normC_eq {c d : NormC} (h0 : c.ins = d.ins) (h1 : c.lats = d.lats) (h2 : c.gates = d.gates) (h3 : c.outs = d.outs) (h4 : c.bads = d.bads) (h5 : c.cons = d.cons) : c = d := by
  cases c; cases d
  simp only at h0 h1 h2 h3 h4 h5
  subst h0; subst h1; subst h2; subst h3; subst h4; subst h5
  rfl

set_option maxRecDepth 100000 in
set_option maxHeartbeats 3200000 in
theorem same_any (c d : NormC) (s s' : CSlots) (w : World) (h : SeesCir w s c) (h' : SeesCir w s' d) (hs : s.small) :
    Calls Try.prog 15 #[cirV c.ins s, cirV d.ins s'] w fun e w' => e = .returned (.bool (decide (c = d))) ∧ Below w.heap.size w w' := by
  obtain ⟨a1, n1, c1, a2, n2, c2, a3, n3, c3, a4, n4, c4, a5, n5, c5⟩ := s
  obtain ⟨a1', n1', c1', a2', n2', c2', a3', n3', c3', a4', n4', c4', a5', n5', c5'⟩ := s'
  obtain ⟨hs1, hs2, hs3, hs4, hs5⟩ := hs
  simp only at hs1 hs2 hs3 hs4 hs5
  obtain ⟨q, hq⟩ : ∃ q, q = decide (c = d) := ⟨_, rfl⟩
  rw [← hq]
  have HY : Hid (c = d → q = true) := fun e => by rw [hq]; exact decide_eq_true e
  have HNO : Hid (c ≠ d → q = false) := fun e => by rw [hq]; exact decide_eq_false e
  obtain ⟨z, hz⟩ : ∃ z, z = c.ins := ⟨_, rfl⟩
  obtain ⟨z', hz'⟩ : ∃ z, z = d.ins := ⟨_, rfl⟩
  rw [← hz, ← hz']
  have HZ := Lib.hid hz
  have HZ' := Lib.hid hz'
  have HS := Lib.hid h
  have HS' := Lib.hid h'
  clear hq h h' hz hz'
  unfold cirV
  by_cases h0 : z = z'
  case neg =>
    have e0 : (z == z') = false := by simpa using h0
    have e0' : (z = z') = False := by simpa using h0
    have HF : Hid (q = false) := HNO.out fun e => h0 (by rw [HZ.out, HZ'.out, e])
    have H0 := Lib.hid h0
    clear h0
    go_enter Try.func15, Try.ntmps15
    go_wp2
    go_ret
    exact ⟨by rw [HF.out]; rfl, ext_trans (ext_alloc _ _) (ext_alloc _ _)⟩
  subst h0
  go_enter Try.func15, Try.ntmps15
  go_upto_region 1 with fail
  generalize hW : World.alloc (World.alloc w _) _ = W0
  have hb : Below w.heap.size w W0 := by subst hW; exact ext_trans (ext_alloc _ _) (ext_alloc _ _)
  have hx : W0.heap[w.heap.size]? = some (.cells #[.int .i64 z, .slice a1 n1 c1, .slice a2 n2 c2, .slice a3 n3 c3, .slice a4 n4 c4, .slice a5 n5 c5] 26 (0, 0)) := by
    subst hW; exact heap_below (heap_new _ _ _ rfl) (ext_alloc _ _)
  have hy : W0.heap[w.heap.size + 1]? = some (.cells #[.int .i64 z, .slice a1' n1' c1', .slice a2' n2' c2', .slice a3' n3' c3', .slice a4' n4' c4', .slice a5' n5' c5'] 26 (0, 0)) := by
    subst hW; exact heap_new _ _ _ (by simp)
  have B0 := Lib.hid hb
  have X0 := Lib.hid hx
  have Y0 := Lib.hid hy
  clear hW hb hx hy
  have px0 := cell_of_block X0.out 0
  have py0 := cell_of_block Y0.out 0
  have px1 := cell_of_block X0.out 1
  have py1 := cell_of_block Y0.out 1
  go_wp2_with fail
  clear px0 py0
  refine (eql_lat c.lats d.lats a1 a1' n1 c1 n1' c1' W0 (HS.out.below B0.out).s1 (HS'.out.below B0.out).s1 hs1).mono ?_
  rintro e W1 ⟨rfl, hb⟩
  have B1 := Lib.hid (ext_trans B0.out hb)
  have X1 := Lib.hid (heap_below X0.out hb)
  have Y1 := Lib.hid (heap_below Y0.out hb)
  clear hb px1 py1
  by_cases h1 : c.lats = d.lats
  case neg =>
    have HF : Hid (q = false) := HNO.out fun e => h1 (by rw [e])
    rw [decide_eq_false h1]
    clear h1
    go_wp2
    go_ret
    exact ⟨by rw [HF.out]; rfl, B1.out⟩
  rw [decide_eq_true h1]
  have H1 := Lib.hid h1
  clear h1
  have px2 := cell_of_block X1.out 2
  have py2 := cell_of_block Y1.out 2
  go_wp2_with fail
  refine (eql_gate c.gates d.gates a2 a2' n2 c2 n2' c2' W1 (HS.out.below B1.out).s2 (HS'.out.below B1.out).s2 hs2).mono ?_
  rintro e W2 ⟨rfl, hb⟩
  have B2 := Lib.hid (ext_trans B1.out hb)
  have X2 := Lib.hid (heap_below X1.out hb)
  have Y2 := Lib.hid (heap_below Y1.out hb)
  clear hb px2 py2
  by_cases h2 : c.gates = d.gates
  case neg =>
    have HF : Hid (q = false) := HNO.out fun e => h2 (by rw [e])
    rw [decide_eq_false h2]
    clear h2
    go_wp2
    go_ret
    exact ⟨by rw [HF.out]; rfl, B2.out⟩
  rw [decide_eq_true h2]
  have H2 := Lib.hid h2
  clear h2
  have px3 := cell_of_block X2.out 3
  have py3 := cell_of_block Y2.out 3
  go_wp2_with fail
  refine (eql_u32 c.outs d.outs a3 a3' n3 c3 n3' c3' W2 (HS.out.below B2.out).s3 (HS'.out.below B2.out).s3 hs3).mono ?_
  rintro e W3 ⟨rfl, hb⟩
  have B3 := Lib.hid (ext_trans B2.out hb)
  have X3 := Lib.hid (heap_below X2.out hb)
  have Y3 := Lib.hid (heap_below Y2.out hb)
  clear hb px3 py3
  by_cases h3 : c.outs = d.outs
  case neg =>
    have HF : Hid (q = false) := HNO.out fun e => h3 (by rw [e])
    rw [decide_eq_false h3]
    clear h3
    go_wp2
    go_ret
    exact ⟨by rw [HF.out]; rfl, B3.out⟩
  rw [decide_eq_true h3]
  have H3 := Lib.hid h3
  clear h3
  have px4 := cell_of_block X3.out 4
  have py4 := cell_of_block Y3.out 4
  go_wp2_with fail
  refine (eql_u32 c.bads d.bads a4 a4' n4 c4 n4' c4' W3 (HS.out.below B3.out).s4 (HS'.out.below B3.out).s4 hs4).mono ?_
  rintro e W4 ⟨rfl, hb⟩
  have B4 := Lib.hid (ext_trans B3.out hb)
  have X4 := Lib.hid (heap_below X3.out hb)
  have Y4 := Lib.hid (heap_below Y3.out hb)
  clear hb px4 py4
  by_cases h4 : c.bads = d.bads
  case neg =>
    have HF : Hid (q = false) := HNO.out fun e => h4 (by rw [e])
    rw [decide_eq_false h4]
    clear h4
    go_wp2
    go_ret
    exact ⟨by rw [HF.out]; rfl, B4.out⟩
  rw [decide_eq_true h4]
  have H4 := Lib.hid h4
  clear h4
  have px5 := cell_of_block X4.out 5
  have py5 := cell_of_block Y4.out 5
  go_wp2_with fail
  refine (eql_u32 c.cons d.cons a5 a5' n5 c5 n5' c5' W4 (HS.out.below B4.out).s5 (HS'.out.below B4.out).s5 hs5).mono ?_
  rintro e W5 ⟨rfl, hb⟩
  have B5 := Lib.hid (ext_trans B4.out hb)
  have X5 := Lib.hid (heap_below X4.out hb)
  have Y5 := Lib.hid (heap_below Y4.out hb)
  clear hb px5 py5
  by_cases h5 : c.cons = d.cons
  case neg =>
    have HF : Hid (q = false) := HNO.out fun e => h5 (by rw [e])
    rw [decide_eq_false h5]
    clear h5
    go_wp2
    go_ret
    exact ⟨by rw [HF.out]; rfl, B5.out⟩
  rw [decide_eq_true h5]
  have H5 := Lib.hid h5
  clear h5
  have HQ : Hid (q = true) := HY.out (normC_eq (by rw [← HZ.out, ← HZ'.out]) H1.out H2.out H3.out H4.out H5.out)
  go_wp2
  go_ret
  exact ⟨by rw [HQ.out]; rfl, B5.out⟩
end Go.Proofs.Ytkbdebdhebphpaa
/- A region that copies a circuit and a trace, in whatever order: region 9 of inquest/inquestlaw03.NormTells, over whatever frame. -/
namespace Go.Proofs.Ytkbdebdhebphpaa
open Go Go.RowKit Go.Joins

noncomputable def codeNTelA : Code := ((Try.f3.body.bind (findRegion 9)).getD .skip)
set_option maxRecDepth 100000 in
set_option maxHeartbeats 25600000 in
theorem reg_NTelA (c : NormC) (t : TraceC) (z bad : Int) (P1 P2 : Nat) (sc : CSlots) (st : TSlots) (X0 : World)
    (HELDB : Hid (∀ W, Below X0.heap.size X0 W → (W.cell? ⟨P1, 0, none⟩ = some (.int .i64 z) ∧ W.cell? ⟨P1, 1, none⟩ = some (.slice sc.a1 sc.n1 sc.c1) ∧ W.cell? ⟨P1, 2, none⟩ = some (.slice sc.a2 sc.n2 sc.c2) ∧ W.cell? ⟨P1, 3, none⟩ = some (.slice sc.a3 sc.n3 sc.c3) ∧ W.cell? ⟨P1, 4, none⟩ = some (.slice sc.a4 sc.n4 sc.c4) ∧ W.cell? ⟨P1, 5, none⟩ = some (.slice sc.a5 sc.n5 sc.c5) ∧ W.cell? ⟨P2, 0, none⟩ = some (.int .i64 bad) ∧ W.cell? ⟨P2, 1, none⟩ = some (.slice st.a1 st.n1 st.c1) ∧ W.cell? ⟨P2, 2, none⟩ = some (.slice st.a2 st.n2 st.c2))))
    (E1 : Hid (∀ W, Below X0.heap.size X0 W → Calls Try.prog 22 #[.agg #[.int .i64 z, .slice sc.a1 sc.n1 sc.c1, .slice sc.a2 sc.n2 sc.c2, .slice sc.a3 sc.n3 sc.c3, .slice sc.a4 sc.n4 sc.c4, .slice sc.a5 sc.n5 sc.c5]] W fun e w' => ∃ s' : CSlots, e = .returned (.agg #[.int .i64 z, .slice s'.a1 s'.n1 s'.c1, .slice s'.a2 s'.n2 s'.c2, .slice s'.a3 s'.n3 s'.c3, .slice s'.a4 s'.n4 s'.c4, .slice s'.a5 s'.n5 s'.c5]) ∧ OwnCir w' W.heap.size s' c ∧ Below W.heap.size W w'))
    (E2 : Hid (∀ W, Below X0.heap.size X0 W → Calls Try.prog 23 #[.agg #[.int .i64 bad, .slice st.a1 st.n1 st.c1, .slice st.a2 st.n2 st.c2]] W fun e w' => ∃ s' : TSlots, e = .returned (.agg #[.int .i64 bad, .slice s'.a1 s'.n1 s'.c1, .slice s'.a2 s'.n2 s'.c2]) ∧ OwnTr w' W.heap.size s' t ∧ Below W.heap.size W w'))
    (KK : Act → World → Prop) (QQ : Exit → Act → World → Prop)
    {v0 v1 v2 v3 v5 v7 v8 v9 v10 v11 v12 v13 v14 v15 v16 v17 v18 v19 v20 v21 v22 v23 v24 v25 v26 v27 v28 v29 v30 v31 v32 v33 v34 v35 v36 v37 v38 v39 v40 v41 v42 v43 v44 v45 v46 v47 v48 v49 v50 v51 v52 v53 v54 v55 v56 v57 v58 v59 v60 v61 v62 v63 v64 v65 v66 v67 v68 v69 v70 v71 v72 v73 v74 v75 v76 v77 v78 v79 v80 v81 v82 v83 v84 v85 v86 v87 v88 v89 v90 v91 v92 v93 v94 v95 v96 v97 v98 v99 v100 v101 v102 v103 v104 v105 v106 v107 v108 v109 v110 v111 v112 v113 v114 v115 v116 : Value}
    (hK : ∀ (G7 G8 : Nat) (sx : CSlots) (sy : TSlots) (wx : World) (u92 u93 u94 u95 : Value), Two X0 z bad c t G7 G8 sx sy wx → KK ⟨#[v0, v1, v2, v3, .pointer (some ⟨P1, 0, .none⟩), v5, .pointer (some ⟨P2, 0, .none⟩), v7, v8, v9, v10, v11, v12, .pointer (some ⟨G7, 0, .none⟩), .pointer (some ⟨G8, 0, .none⟩), 
      v15, v16, v17, v18, v19, v20, v21, v22, v23, v24, v25, v26, v27, v28, v29, v30, v31, v32, v33, v34, v35, v36, v37, v38, v39, v40, v41, v42, v43, v44, v45, 
      v46, v47, v48, v49, v50, v51, v52, v53, v54, v55, v56, v57, v58, v59, v60, v61, v62, v63, v64, v65, v66, v67, v68, v69, v70, v71, v72, v73, v74, v75, v76, 
      v77, v78, v79, v80, v81, v82, v83, v84, v85, v86, v87, v88, v89, v90, v91, u92, u93, u94, u95, v96, v97, v98, v99, v100, v101, v102, v103, v104, v105, 
      v106, v107, v108, v109, v110, v111, v112, v113, v114, v115, v116], []⟩ wx) :
    Code.wp Try.prog codeNTelA (Exit.then KK QQ) ⟨#[v0, v1, v2, v3, .pointer (some ⟨P1, 0, .none⟩), v5, .pointer (some ⟨P2, 0, .none⟩), v7, v8, v9, v10, v11, v12, v13, v14, v15, v16, v17, v18, v19, v20, 
      v21, v22, v23, v24, v25, v26, v27, v28, v29, v30, v31, v32, v33, v34, v35, v36, v37, v38, v39, v40, v41, v42, v43, v44, v45, v46, v47, v48, v49, v50, v51, 
      v52, v53, v54, v55, v56, v57, v58, v59, v60, v61, v62, v63, v64, v65, v66, v67, v68, v69, v70, v71, v72, v73, v74, v75, v76, v77, v78, v79, v80, v81, v82, 
      v83, v84, v85, v86, v87, v88, v89, v90, v91, v92, v93, v94, v95, v96, v97, v98, v99, v100, v101, v102, v103, v104, v105, v106, v107, v108, v109, v110, 
      v111, v112, v113, v114, v115, v116], []⟩ X0 := by
  conv => arg 2; whnf
  refine wp_region_noPanic ?_
  refine wp_region_held (S := fun w' => w'.cell? ⟨P1, 0, none⟩ = some (.int .i64 z) ∧ w'.cell? ⟨P1, 1, none⟩ = some (.slice sc.a1 sc.n1 sc.c1) ∧ w'.cell? ⟨P1, 2, none⟩ = some (.slice sc.a2 sc.n2 sc.c2) ∧ w'.cell? ⟨P1, 3, none⟩ = some (.slice sc.a3 sc.n3 sc.c3) ∧ w'.cell? ⟨P1, 4, none⟩ = some (.slice sc.a4 sc.n4 sc.c4) ∧ w'.cell? ⟨P1, 5, none⟩ = some (.slice sc.a5 sc.n5 sc.c5) ∧ w'.cell? ⟨P2, 0, none⟩ = some (.int .i64 bad) ∧ w'.cell? ⟨P2, 1, none⟩ = some (.slice st.a1 st.n1 st.c1) ∧ w'.cell? ⟨P2, 2, none⟩ = some (.slice st.a2 st.n2 st.c2)) (by kernel_rfl) ?_
  generalize hY : ({ X0 with drawn := X0.drawn + 1 } : World) = Y0
  have hY0 : Below X0.heap.size X0 Y0 := by subst hY; exact (Below.refl _ _).drew
  have HELD := Lib.hid (HELDB.out Y0 hY0)
  have HBc := Lib.hid hY0
  clear hY hY0
  refine wpAnyH_take (i := 0) (v := ?_) (by simp only [List.getElem?_toArray, List.getElem?_cons_zero]; rfl) (by kernel_rfl) (by kernel_rfl) (by kernel_rfl) (fun _ _ _ h => h) (Or.inl ⟨by rfl, ?_⟩) HELD.out ?_
  rotate_left
  · intro w hSw
    (try dsimp only at hSw)
    obtain ⟨q0, q1, q2, q3, q4, q5, q6, q7, q8⟩ := hSw
    go_simp
    try with_reducible rfl
  try simp only [Act.put, List.setIfInBounds_toArray, List.set_cons_zero, List.set_cons_succ]
  refine wpAnyH_take (i := 2) (v := ?_) (by simp only [List.getElem?_toArray, List.getElem?_cons_zero, List.getElem?_cons_succ]; rfl) (by kernel_rfl) (by kernel_rfl) (by kernel_rfl) (fun _ _ _ h => h) (Or.inl ⟨by rfl, ?_⟩) HELD.out ?_
  rotate_left
  · intro w hSw
    (try dsimp only at hSw)
    obtain ⟨q0, q1, q2, q3, q4, q5, q6, q7, q8⟩ := hSw
    go_simp
    try with_reducible rfl
  try simp only [Act.put, List.setIfInBounds_toArray, List.set_cons_zero, List.set_cons_succ]
  refine wpAnyH_ready (rs := [1, 4, 5]) (by kernel_rfl) (by simp) ?_
  refine AllReadyH.cons (by simp only [List.getElem?_toArray, List.getElem?_cons_zero, List.getElem?_cons_succ]; rfl) (fun K hK => ?_) (AllReadyH.cons (by simp only [List.getElem?_toArray, List.getElem?_cons_zero, List.getElem?_cons_succ]; rfl) (fun K hK => ?_) (AllReadyH.cons (by simp only [List.getElem?_toArray, List.getElem?_cons_zero, List.getElem?_cons_succ]; rfl) (fun K hK => ?_) AllReadyH.nil))
  · go_simp
    refine (E1.out _ HBc.out).mono ?_
    rintro e V1 ⟨sx, rfl, ho, hb⟩
    have HSx := Lib.hid (ho.base_le (B := X0.heap.size) HBc.out.size)
    have HBc := Lib.hid (ext_trans HBc.out hb)
    have HELD := Lib.hid (HELDB.out V1 HBc.out)
    clear ho hb
    refine hK.out _ _ HELD.out (fun _ => ?_)
    clear hK K
    try simp only [Act.put, List.setIfInBounds_toArray, List.set_cons_zero, List.set_cons_succ]
    refine wpAnyH_ready (rs := [3, 4, 5]) (by kernel_rfl) (by simp) ?_
    refine AllReadyH.cons (by simp only [List.getElem?_toArray, List.getElem?_cons_zero, List.getElem?_cons_succ]; rfl) (fun K hK => ?_) (AllReadyH.cons (by simp only [List.getElem?_toArray, List.getElem?_cons_zero, List.getElem?_cons_succ]; rfl) (fun K hK => ?_) (AllReadyH.cons (by simp only [List.getElem?_toArray, List.getElem?_cons_zero, List.getElem?_cons_succ]; rfl) (fun K hK => ?_) AllReadyH.nil))
    · go_simp
      refine (E2.out _ HBc.out).mono ?_
      rintro e V2 ⟨sy, rfl, ho, hb⟩
      have HSy := Lib.hid (ho.base_le (B := X0.heap.size) HBc.out.size)
      have HSx := Lib.hid (HSx.out.below hb)
      have HBc := Lib.hid (ext_trans HBc.out hb)
      have HELD := Lib.hid (HELDB.out V2 HBc.out)
      clear ho hb
      refine hK.out _ _ HELD.out (fun _ => ?_)
      clear hK K
      try simp only [Act.put, List.setIfInBounds_toArray, List.set_cons_zero, List.set_cons_succ]
      refine wpAnyH_ready (rs := [4, 5]) (by kernel_rfl) (by simp) ?_
      refine AllReadyH.cons (by simp only [List.getElem?_toArray, List.getElem?_cons_zero, List.getElem?_cons_succ]; rfl) (fun K hK => ?_) (AllReadyH.cons (by simp only [List.getElem?_toArray, List.getElem?_cons_zero, List.getElem?_cons_succ]; rfl) (fun K hK => ?_) AllReadyH.nil)
      · go_simp
        generalize hV : World.alloc V2 _ = V3
        have hb : Below V2.heap.size V2 V3 := by subst hV; exact ext_alloc _ _
        have HZ7 : Hid (V3.heap[V2.heap.size]? = some (.cells #[.int .i64 0, .slice none 0 0, .slice none 0 0, .slice none 0 0, .slice none 0 0, .slice none 0 0] 26 (0, 0))) := by show _ = _; subst hV; exact heap_new _ _ _ rfl
        have HG7 := Lib.hid HBc.out.size
        have HSx := Lib.hid (HSx.out.below hb)
        have HSy := Lib.hid (HSy.out.below hb)
        have HBc := Lib.hid (ext_trans HBc.out hb)
        have HELD := Lib.hid (HELDB.out V3 HBc.out)
        clear hV hb
        refine hK.out _ _ HELD.out (fun _ => ?_)
        clear hK K
        try simp only [Act.put, List.setIfInBounds_toArray, List.set_cons_zero, List.set_cons_succ]
        refine wpAnyH_ready (rs := [5]) (by kernel_rfl) (by simp) ?_
        refine AllReadyH.cons (by simp only [List.getElem?_toArray, List.getElem?_cons_zero, List.getElem?_cons_succ]; rfl) (fun K hK => ?_) AllReadyH.nil
        go_simp
        generalize hV : World.alloc V3 _ = V4
        have hb : Below V3.heap.size V3 V4 := by subst hV; exact ext_alloc _ _
        have HZ8 : Hid (V4.heap[V3.heap.size]? = some (.cells #[.int .i64 0, .slice none 0 0, .slice none 0 0] 30 (0, 0))) := by show _ = _; subst hV; exact heap_new _ _ _ rfl
        have HG8 := Lib.hid HBc.out.size
        have HZ7 := Lib.hid (heap_below HZ7.out hb)
        have HSx := Lib.hid (HSx.out.below hb)
        have HSy := Lib.hid (HSy.out.below hb)
        have HBc := Lib.hid (ext_trans HBc.out hb)
        have HELD := Lib.hid (HELDB.out V4 HBc.out)
        clear hV hb
        refine hK.out _ _ HELD.out (fun _ => ?_)
        clear hK K
        try simp only [Act.put, List.setIfInBounds_toArray, List.set_cons_zero, List.set_cons_succ]
        refine wpAnyH_ready (rs := [6]) (by kernel_rfl) (by simp) ?_
        refine AllReadyH.cons (by simp only [List.getElem?_toArray, List.getElem?_cons_zero, List.getElem?_cons_succ]; rfl) (fun K hK => ?_) AllReadyH.nil
        have HTW := Lib.hid (Two.of (b := X0) (z := z) (bad := bad) HZ7.out rfl HZ8.out rfl HSx.out HSy.out HBc.out HG7.out HG8.out)
        have hne7 : V2.heap.size ≠ V3.heap.size := fun e => by have h7 := HZ7.out; rw [e, HZ8.out] at h7; cases h7
        have hh7 := HZ7.out
        have z0 := cell_of_block hh7 0
        have y0 := unfrozen_of_block hh7 0
        have z1 := cell_of_block hh7 1
        have y1 := unfrozen_of_block hh7 1
        have z2 := cell_of_block hh7 2
        have y2 := unfrozen_of_block hh7 2
        have z3 := cell_of_block hh7 3
        have y3 := unfrozen_of_block hh7 3
        have z4 := cell_of_block hh7 4
        have y4 := unfrozen_of_block hh7 4
        have z5 := cell_of_block hh7 5
        have y5 := unfrozen_of_block hh7 5
        clear hh7
        go_simp
        clear z0 y0 z1 y1 z2 y2 z3 y3 z4 y4 z5 y5
        have o7 := fun D hD => set6_other (X := V4) (V2.heap.size) D hD (.int .i64 z) (.slice sx.a1 sx.n1 sx.c1) (.slice sx.a2 sx.n2 sx.c2) (.slice sx.a3 sx.n3 sx.c3) (.slice sx.a4 sx.n4 sx.c4) (.slice sx.a5 sx.n5 sx.c5)
        have HZ8 := Lib.hid ((o7 (V3.heap.size) (fun e => hne7 e.symm)).trans HZ8.out)
        have hb6 := set6 (u0 := .int .i64 z) (u1 := .slice sx.a1 sx.n1 sx.c1) (u2 := .slice sx.a2 sx.n2 sx.c2) (u3 := .slice sx.a3 sx.n3 sx.c3) (u4 := .slice sx.a4 sx.n4 sx.c4) (u5 := .slice sx.a5 sx.n5 sx.c5) (V2.heap.size) HG7.out HBc.out
        have HELD := Lib.hid (HELDB.out _ hb6)
        clear o7 hne7
        generalize hV6 : World.setCell (World.setCell (World.setCell (World.setCell (World.setCell (World.setCell V4 _ _) _ _) _ _) _ _) _ _) _ _ = V6 at HELD HZ8 HTW hb6 ⊢
        clear hV6
        refine hK.out _ _ HELD.out (fun _ => ?_)
        clear hK K
        try simp only [Act.put, List.setIfInBounds_toArray, List.set_cons_zero, List.set_cons_succ]
        refine wpAnyH_ready (rs := [7]) (by kernel_rfl) (by simp) ?_
        refine AllReadyH.cons (by simp only [List.getElem?_toArray, List.getElem?_cons_zero, List.getElem?_cons_succ]; rfl) (fun K hK => ?_) AllReadyH.nil
        have hh8 := HZ8.out
        have z0 := cell_of_block hh8 0
        have y0 := unfrozen_of_block hh8 0
        have z1 := cell_of_block hh8 1
        have y1 := unfrozen_of_block hh8 1
        have z2 := cell_of_block hh8 2
        have y2 := unfrozen_of_block hh8 2
        clear hh8
        go_simp
        clear z0 y0 z1 y1 z2 y2
        have HELD := Lib.hid (HELDB.out _ (set3_t (u0 := .int .i64 bad) (u1 := .slice sy.a1 sy.n1 sy.c1) (u2 := .slice sy.a2 sy.n2 sy.c2) (V3.heap.size) HG8.out hb6))
        clear hb6
        refine hK.out _ _ HELD.out (fun _ => ?_)
        clear hK K
        try simp only [Act.put, List.setIfInBounds_toArray, List.set_cons_zero, List.set_cons_succ]
        refine wpAnyH_done (by kernel_rfl) ?_ _
        refine NoPanic.normal ?_
        exact hK _ _ _ _ _ _ _ _ _ HTW.out
      · go_simp
        generalize hV : World.alloc V2 _ = V7
        have hb : Below V2.heap.size V2 V7 := by subst hV; exact ext_alloc _ _
        have HZ8 : Hid (V7.heap[V2.heap.size]? = some (.cells #[.int .i64 0, .slice none 0 0, .slice none 0 0] 30 (0, 0))) := by show _ = _; subst hV; exact heap_new _ _ _ rfl
        have HG8 := Lib.hid HBc.out.size
        have HSx := Lib.hid (HSx.out.below hb)
        have HSy := Lib.hid (HSy.out.below hb)
        have HBc := Lib.hid (ext_trans HBc.out hb)
        have HELD := Lib.hid (HELDB.out V7 HBc.out)
        clear hV hb
        refine hK.out _ _ HELD.out (fun _ => ?_)
        clear hK K
        try simp only [Act.put, List.setIfInBounds_toArray, List.set_cons_zero, List.set_cons_succ]
        refine wpAnyH_ready (rs := [4]) (by kernel_rfl) (by simp) ?_
        refine AllReadyH.cons (by simp only [List.getElem?_toArray, List.getElem?_cons_zero, List.getElem?_cons_succ]; rfl) (fun K hK => ?_) AllReadyH.nil
        go_simp
        generalize hV : World.alloc V7 _ = V8
        have hb : Below V7.heap.size V7 V8 := by subst hV; exact ext_alloc _ _
        have HZ7 : Hid (V8.heap[V7.heap.size]? = some (.cells #[.int .i64 0, .slice none 0 0, .slice none 0 0, .slice none 0 0, .slice none 0 0, .slice none 0 0] 26 (0, 0))) := by show _ = _; subst hV; exact heap_new _ _ _ rfl
        have HG7 := Lib.hid HBc.out.size
        have HZ8 := Lib.hid (heap_below HZ8.out hb)
        have HSx := Lib.hid (HSx.out.below hb)
        have HSy := Lib.hid (HSy.out.below hb)
        have HBc := Lib.hid (ext_trans HBc.out hb)
        have HELD := Lib.hid (HELDB.out V8 HBc.out)
        clear hV hb
        refine hK.out _ _ HELD.out (fun _ => ?_)
        clear hK K
        try simp only [Act.put, List.setIfInBounds_toArray, List.set_cons_zero, List.set_cons_succ]
        refine wpAnyH_ready (rs := [6]) (by kernel_rfl) (by simp) ?_
        refine AllReadyH.cons (by simp only [List.getElem?_toArray, List.getElem?_cons_zero, List.getElem?_cons_succ]; rfl) (fun K hK => ?_) AllReadyH.nil
        have HTW := Lib.hid (Two.of (b := X0) (z := z) (bad := bad) HZ7.out rfl HZ8.out rfl HSx.out HSy.out HBc.out HG7.out HG8.out)
        have hne7 : V7.heap.size ≠ V2.heap.size := fun e => by have h7 := HZ7.out; rw [e, HZ8.out] at h7; cases h7
        have hh7 := HZ7.out
        have z0 := cell_of_block hh7 0
        have y0 := unfrozen_of_block hh7 0
        have z1 := cell_of_block hh7 1
        have y1 := unfrozen_of_block hh7 1
        have z2 := cell_of_block hh7 2
        have y2 := unfrozen_of_block hh7 2
        have z3 := cell_of_block hh7 3
        have y3 := unfrozen_of_block hh7 3
        have z4 := cell_of_block hh7 4
        have y4 := unfrozen_of_block hh7 4
        have z5 := cell_of_block hh7 5
        have y5 := unfrozen_of_block hh7 5
        clear hh7
        go_simp
        clear z0 y0 z1 y1 z2 y2 z3 y3 z4 y4 z5 y5
        have o7 := fun D hD => set6_other (X := V8) (V7.heap.size) D hD (.int .i64 z) (.slice sx.a1 sx.n1 sx.c1) (.slice sx.a2 sx.n2 sx.c2) (.slice sx.a3 sx.n3 sx.c3) (.slice sx.a4 sx.n4 sx.c4) (.slice sx.a5 sx.n5 sx.c5)
        have HZ8 := Lib.hid ((o7 (V2.heap.size) (fun e => hne7 e.symm)).trans HZ8.out)
        have hb6 := set6 (u0 := .int .i64 z) (u1 := .slice sx.a1 sx.n1 sx.c1) (u2 := .slice sx.a2 sx.n2 sx.c2) (u3 := .slice sx.a3 sx.n3 sx.c3) (u4 := .slice sx.a4 sx.n4 sx.c4) (u5 := .slice sx.a5 sx.n5 sx.c5) (V7.heap.size) HG7.out HBc.out
        have HELD := Lib.hid (HELDB.out _ hb6)
        clear o7 hne7
        generalize hV6 : World.setCell (World.setCell (World.setCell (World.setCell (World.setCell (World.setCell V8 _ _) _ _) _ _) _ _) _ _) _ _ = V6 at HELD HZ8 HTW hb6 ⊢
        clear hV6
        refine hK.out _ _ HELD.out (fun _ => ?_)
        clear hK K
        try simp only [Act.put, List.setIfInBounds_toArray, List.set_cons_zero, List.set_cons_succ]
        refine wpAnyH_ready (rs := [7]) (by kernel_rfl) (by simp) ?_
        refine AllReadyH.cons (by simp only [List.getElem?_toArray, List.getElem?_cons_zero, List.getElem?_cons_succ]; rfl) (fun K hK => ?_) AllReadyH.nil
        have hh8 := HZ8.out
        have z0 := cell_of_block hh8 0
        have y0 := unfrozen_of_block hh8 0
        have z1 := cell_of_block hh8 1
        have y1 := unfrozen_of_block hh8 1
        have z2 := cell_of_block hh8 2
        have y2 := unfrozen_of_block hh8 2
        clear hh8
        go_simp
        clear z0 y0 z1 y1 z2 y2
        have HELD := Lib.hid (HELDB.out _ (set3_t (u0 := .int .i64 bad) (u1 := .slice sy.a1 sy.n1 sy.c1) (u2 := .slice sy.a2 sy.n2 sy.c2) (V2.heap.size) HG8.out hb6))
        clear hb6
        refine hK.out _ _ HELD.out (fun _ => ?_)
        clear hK K
        try simp only [Act.put, List.setIfInBounds_toArray, List.set_cons_zero, List.set_cons_succ]
        refine wpAnyH_done (by kernel_rfl) ?_ _
        refine NoPanic.normal ?_
        exact hK _ _ _ _ _ _ _ _ _ HTW.out
    · go_simp
      generalize hV : World.alloc V1 _ = V11
      have hb : Below V1.heap.size V1 V11 := by subst hV; exact ext_alloc _ _
      have HZ7 : Hid (V11.heap[V1.heap.size]? = some (.cells #[.int .i64 0, .slice none 0 0, .slice none 0 0, .slice none 0 0, .slice none 0 0, .slice none 0 0] 26 (0, 0))) := by show _ = _; subst hV; exact heap_new _ _ _ rfl
      have HG7 := Lib.hid HBc.out.size
      have HSx := Lib.hid (HSx.out.below hb)
      have HBc := Lib.hid (ext_trans HBc.out hb)
      have HELD := Lib.hid (HELDB.out V11 HBc.out)
      clear hV hb
      refine hK.out _ _ HELD.out (fun _ => ?_)
      clear hK K
      try simp only [Act.put, List.setIfInBounds_toArray, List.set_cons_zero, List.set_cons_succ]
      refine wpAnyH_ready (rs := [3, 5]) (by kernel_rfl) (by simp) ?_
      refine AllReadyH.cons (by simp only [List.getElem?_toArray, List.getElem?_cons_zero, List.getElem?_cons_succ]; rfl) (fun K hK => ?_) (AllReadyH.cons (by simp only [List.getElem?_toArray, List.getElem?_cons_zero, List.getElem?_cons_succ]; rfl) (fun K hK => ?_) AllReadyH.nil)
      · go_simp
        refine (E2.out _ HBc.out).mono ?_
        rintro e V12 ⟨sy, rfl, ho, hb⟩
        have HSy := Lib.hid (ho.base_le (B := X0.heap.size) HBc.out.size)
        have HSx := Lib.hid (HSx.out.below hb)
        have HZ7 := Lib.hid (heap_below HZ7.out hb)
        have HBc := Lib.hid (ext_trans HBc.out hb)
        have HELD := Lib.hid (HELDB.out V12 HBc.out)
        clear ho hb
        refine hK.out _ _ HELD.out (fun _ => ?_)
        clear hK K
        try simp only [Act.put, List.setIfInBounds_toArray, List.set_cons_zero, List.set_cons_succ]
        refine wpAnyH_ready (rs := [5]) (by kernel_rfl) (by simp) ?_
        refine AllReadyH.cons (by simp only [List.getElem?_toArray, List.getElem?_cons_zero, List.getElem?_cons_succ]; rfl) (fun K hK => ?_) AllReadyH.nil
        go_simp
        generalize hV : World.alloc V12 _ = V13
        have hb : Below V12.heap.size V12 V13 := by subst hV; exact ext_alloc _ _
        have HZ8 : Hid (V13.heap[V12.heap.size]? = some (.cells #[.int .i64 0, .slice none 0 0, .slice none 0 0] 30 (0, 0))) := by show _ = _; subst hV; exact heap_new _ _ _ rfl
        have HG8 := Lib.hid HBc.out.size
        have HZ7 := Lib.hid (heap_below HZ7.out hb)
        have HSx := Lib.hid (HSx.out.below hb)
        have HSy := Lib.hid (HSy.out.below hb)
        have HBc := Lib.hid (ext_trans HBc.out hb)
        have HELD := Lib.hid (HELDB.out V13 HBc.out)
        clear hV hb
        refine hK.out _ _ HELD.out (fun _ => ?_)
        clear hK K
        try simp only [Act.put, List.setIfInBounds_toArray, List.set_cons_zero, List.set_cons_succ]
        refine wpAnyH_ready (rs := [6]) (by kernel_rfl) (by simp) ?_
        refine AllReadyH.cons (by simp only [List.getElem?_toArray, List.getElem?_cons_zero, List.getElem?_cons_succ]; rfl) (fun K hK => ?_) AllReadyH.nil
        have HTW := Lib.hid (Two.of (b := X0) (z := z) (bad := bad) HZ7.out rfl HZ8.out rfl HSx.out HSy.out HBc.out HG7.out HG8.out)
        have hne7 : V1.heap.size ≠ V12.heap.size := fun e => by have h7 := HZ7.out; rw [e, HZ8.out] at h7; cases h7
        have hh7 := HZ7.out
        have z0 := cell_of_block hh7 0
        have y0 := unfrozen_of_block hh7 0
        have z1 := cell_of_block hh7 1
        have y1 := unfrozen_of_block hh7 1
        have z2 := cell_of_block hh7 2
        have y2 := unfrozen_of_block hh7 2
        have z3 := cell_of_block hh7 3
        have y3 := unfrozen_of_block hh7 3
        have z4 := cell_of_block hh7 4
        have y4 := unfrozen_of_block hh7 4
        have z5 := cell_of_block hh7 5
        have y5 := unfrozen_of_block hh7 5
        clear hh7
        go_simp
        clear z0 y0 z1 y1 z2 y2 z3 y3 z4 y4 z5 y5
        have o7 := fun D hD => set6_other (X := V13) (V1.heap.size) D hD (.int .i64 z) (.slice sx.a1 sx.n1 sx.c1) (.slice sx.a2 sx.n2 sx.c2) (.slice sx.a3 sx.n3 sx.c3) (.slice sx.a4 sx.n4 sx.c4) (.slice sx.a5 sx.n5 sx.c5)
        have HZ8 := Lib.hid ((o7 (V12.heap.size) (fun e => hne7 e.symm)).trans HZ8.out)
        have hb6 := set6 (u0 := .int .i64 z) (u1 := .slice sx.a1 sx.n1 sx.c1) (u2 := .slice sx.a2 sx.n2 sx.c2) (u3 := .slice sx.a3 sx.n3 sx.c3) (u4 := .slice sx.a4 sx.n4 sx.c4) (u5 := .slice sx.a5 sx.n5 sx.c5) (V1.heap.size) HG7.out HBc.out
        have HELD := Lib.hid (HELDB.out _ hb6)
        clear o7 hne7
        generalize hV6 : World.setCell (World.setCell (World.setCell (World.setCell (World.setCell (World.setCell V13 _ _) _ _) _ _) _ _) _ _) _ _ = V6 at HELD HZ8 HTW hb6 ⊢
        clear hV6
        refine hK.out _ _ HELD.out (fun _ => ?_)
        clear hK K
        try simp only [Act.put, List.setIfInBounds_toArray, List.set_cons_zero, List.set_cons_succ]
        refine wpAnyH_ready (rs := [7]) (by kernel_rfl) (by simp) ?_
        refine AllReadyH.cons (by simp only [List.getElem?_toArray, List.getElem?_cons_zero, List.getElem?_cons_succ]; rfl) (fun K hK => ?_) AllReadyH.nil
        have hh8 := HZ8.out
        have z0 := cell_of_block hh8 0
        have y0 := unfrozen_of_block hh8 0
        have z1 := cell_of_block hh8 1
        have y1 := unfrozen_of_block hh8 1
        have z2 := cell_of_block hh8 2
        have y2 := unfrozen_of_block hh8 2
        clear hh8
        go_simp
        clear z0 y0 z1 y1 z2 y2
        have HELD := Lib.hid (HELDB.out _ (set3_t (u0 := .int .i64 bad) (u1 := .slice sy.a1 sy.n1 sy.c1) (u2 := .slice sy.a2 sy.n2 sy.c2) (V12.heap.size) HG8.out hb6))
        clear hb6
        refine hK.out _ _ HELD.out (fun _ => ?_)
        clear hK K
        try simp only [Act.put, List.setIfInBounds_toArray, List.set_cons_zero, List.set_cons_succ]
        refine wpAnyH_done (by kernel_rfl) ?_ _
        refine NoPanic.normal ?_
        exact hK _ _ _ _ _ _ _ _ _ HTW.out
      · go_simp
        generalize hV : World.alloc V11 _ = V16
        have hb : Below V11.heap.size V11 V16 := by subst hV; exact ext_alloc _ _
        have HZ8 : Hid (V16.heap[V11.heap.size]? = some (.cells #[.int .i64 0, .slice none 0 0, .slice none 0 0] 30 (0, 0))) := by show _ = _; subst hV; exact heap_new _ _ _ rfl
        have HG8 := Lib.hid HBc.out.size
        have HZ7 := Lib.hid (heap_below HZ7.out hb)
        have HSx := Lib.hid (HSx.out.below hb)
        have HBc := Lib.hid (ext_trans HBc.out hb)
        have HELD := Lib.hid (HELDB.out V16 HBc.out)
        clear hV hb
        refine hK.out _ _ HELD.out (fun _ => ?_)
        clear hK K
        try simp only [Act.put, List.setIfInBounds_toArray, List.set_cons_zero, List.set_cons_succ]
        refine wpAnyH_ready (rs := [3]) (by kernel_rfl) (by simp) ?_
        refine AllReadyH.cons (by simp only [List.getElem?_toArray, List.getElem?_cons_zero, List.getElem?_cons_succ]; rfl) (fun K hK => ?_) AllReadyH.nil
        go_simp
        refine (E2.out _ HBc.out).mono ?_
        rintro e V17 ⟨sy, rfl, ho, hb⟩
        have HSy := Lib.hid (ho.base_le (B := X0.heap.size) HBc.out.size)
        have HSx := Lib.hid (HSx.out.below hb)
        have HZ7 := Lib.hid (heap_below HZ7.out hb)
        have HZ8 := Lib.hid (heap_below HZ8.out hb)
        have HBc := Lib.hid (ext_trans HBc.out hb)
        have HELD := Lib.hid (HELDB.out V17 HBc.out)
        clear ho hb
        refine hK.out _ _ HELD.out (fun _ => ?_)
        clear hK K
        try simp only [Act.put, List.setIfInBounds_toArray, List.set_cons_zero, List.set_cons_succ]
        refine wpAnyH_ready (rs := [6]) (by kernel_rfl) (by simp) ?_
        refine AllReadyH.cons (by simp only [List.getElem?_toArray, List.getElem?_cons_zero, List.getElem?_cons_succ]; rfl) (fun K hK => ?_) AllReadyH.nil
        have HTW := Lib.hid (Two.of (b := X0) (z := z) (bad := bad) HZ7.out rfl HZ8.out rfl HSx.out HSy.out HBc.out HG7.out HG8.out)
        have hne7 : V1.heap.size ≠ V11.heap.size := fun e => by have h7 := HZ7.out; rw [e, HZ8.out] at h7; cases h7
        have hh7 := HZ7.out
        have z0 := cell_of_block hh7 0
        have y0 := unfrozen_of_block hh7 0
        have z1 := cell_of_block hh7 1
        have y1 := unfrozen_of_block hh7 1
        have z2 := cell_of_block hh7 2
        have y2 := unfrozen_of_block hh7 2
        have z3 := cell_of_block hh7 3
        have y3 := unfrozen_of_block hh7 3
        have z4 := cell_of_block hh7 4
        have y4 := unfrozen_of_block hh7 4
        have z5 := cell_of_block hh7 5
        have y5 := unfrozen_of_block hh7 5
        clear hh7
        go_simp
        clear z0 y0 z1 y1 z2 y2 z3 y3 z4 y4 z5 y5
        have o7 := fun D hD => set6_other (X := V17) (V1.heap.size) D hD (.int .i64 z) (.slice sx.a1 sx.n1 sx.c1) (.slice sx.a2 sx.n2 sx.c2) (.slice sx.a3 sx.n3 sx.c3) (.slice sx.a4 sx.n4 sx.c4) (.slice sx.a5 sx.n5 sx.c5)
        have HZ8 := Lib.hid ((o7 (V11.heap.size) (fun e => hne7 e.symm)).trans HZ8.out)
        have hb6 := set6 (u0 := .int .i64 z) (u1 := .slice sx.a1 sx.n1 sx.c1) (u2 := .slice sx.a2 sx.n2 sx.c2) (u3 := .slice sx.a3 sx.n3 sx.c3) (u4 := .slice sx.a4 sx.n4 sx.c4) (u5 := .slice sx.a5 sx.n5 sx.c5) (V1.heap.size) HG7.out HBc.out
        have HELD := Lib.hid (HELDB.out _ hb6)
        clear o7 hne7
        generalize hV6 : World.setCell (World.setCell (World.setCell (World.setCell (World.setCell (World.setCell V17 _ _) _ _) _ _) _ _) _ _) _ _ = V6 at HELD HZ8 HTW hb6 ⊢
        clear hV6
        refine hK.out _ _ HELD.out (fun _ => ?_)
        clear hK K
        try simp only [Act.put, List.setIfInBounds_toArray, List.set_cons_zero, List.set_cons_succ]
        refine wpAnyH_ready (rs := [7]) (by kernel_rfl) (by simp) ?_
        refine AllReadyH.cons (by simp only [List.getElem?_toArray, List.getElem?_cons_zero, List.getElem?_cons_succ]; rfl) (fun K hK => ?_) AllReadyH.nil
        have hh8 := HZ8.out
        have z0 := cell_of_block hh8 0
        have y0 := unfrozen_of_block hh8 0
        have z1 := cell_of_block hh8 1
        have y1 := unfrozen_of_block hh8 1
        have z2 := cell_of_block hh8 2
        have y2 := unfrozen_of_block hh8 2
        clear hh8
        go_simp
        clear z0 y0 z1 y1 z2 y2
        have HELD := Lib.hid (HELDB.out _ (set3_t (u0 := .int .i64 bad) (u1 := .slice sy.a1 sy.n1 sy.c1) (u2 := .slice sy.a2 sy.n2 sy.c2) (V11.heap.size) HG8.out hb6))
        clear hb6
        refine hK.out _ _ HELD.out (fun _ => ?_)
        clear hK K
        try simp only [Act.put, List.setIfInBounds_toArray, List.set_cons_zero, List.set_cons_succ]
        refine wpAnyH_done (by kernel_rfl) ?_ _
        refine NoPanic.normal ?_
        exact hK _ _ _ _ _ _ _ _ _ HTW.out
    · go_simp
      generalize hV : World.alloc V1 _ = V20
      have hb : Below V1.heap.size V1 V20 := by subst hV; exact ext_alloc _ _
      have HZ8 : Hid (V20.heap[V1.heap.size]? = some (.cells #[.int .i64 0, .slice none 0 0, .slice none 0 0] 30 (0, 0))) := by show _ = _; subst hV; exact heap_new _ _ _ rfl
      have HG8 := Lib.hid HBc.out.size
      have HSx := Lib.hid (HSx.out.below hb)
      have HBc := Lib.hid (ext_trans HBc.out hb)
      have HELD := Lib.hid (HELDB.out V20 HBc.out)
      clear hV hb
      refine hK.out _ _ HELD.out (fun _ => ?_)
      clear hK K
      try simp only [Act.put, List.setIfInBounds_toArray, List.set_cons_zero, List.set_cons_succ]
      refine wpAnyH_ready (rs := [3, 4]) (by kernel_rfl) (by simp) ?_
      refine AllReadyH.cons (by simp only [List.getElem?_toArray, List.getElem?_cons_zero, List.getElem?_cons_succ]; rfl) (fun K hK => ?_) (AllReadyH.cons (by simp only [List.getElem?_toArray, List.getElem?_cons_zero, List.getElem?_cons_succ]; rfl) (fun K hK => ?_) AllReadyH.nil)
      · go_simp
        refine (E2.out _ HBc.out).mono ?_
        rintro e V21 ⟨sy, rfl, ho, hb⟩
        have HSy := Lib.hid (ho.base_le (B := X0.heap.size) HBc.out.size)
        have HSx := Lib.hid (HSx.out.below hb)
        have HZ8 := Lib.hid (heap_below HZ8.out hb)
        have HBc := Lib.hid (ext_trans HBc.out hb)
        have HELD := Lib.hid (HELDB.out V21 HBc.out)
        clear ho hb
        refine hK.out _ _ HELD.out (fun _ => ?_)
        clear hK K
        try simp only [Act.put, List.setIfInBounds_toArray, List.set_cons_zero, List.set_cons_succ]
        refine wpAnyH_ready (rs := [4]) (by kernel_rfl) (by simp) ?_
        refine AllReadyH.cons (by simp only [List.getElem?_toArray, List.getElem?_cons_zero, List.getElem?_cons_succ]; rfl) (fun K hK => ?_) AllReadyH.nil
        go_simp
        generalize hV : World.alloc V21 _ = V22
        have hb : Below V21.heap.size V21 V22 := by subst hV; exact ext_alloc _ _
        have HZ7 : Hid (V22.heap[V21.heap.size]? = some (.cells #[.int .i64 0, .slice none 0 0, .slice none 0 0, .slice none 0 0, .slice none 0 0, .slice none 0 0] 26 (0, 0))) := by show _ = _; subst hV; exact heap_new _ _ _ rfl
        have HG7 := Lib.hid HBc.out.size
        have HZ8 := Lib.hid (heap_below HZ8.out hb)
        have HSx := Lib.hid (HSx.out.below hb)
        have HSy := Lib.hid (HSy.out.below hb)
        have HBc := Lib.hid (ext_trans HBc.out hb)
        have HELD := Lib.hid (HELDB.out V22 HBc.out)
        clear hV hb
        refine hK.out _ _ HELD.out (fun _ => ?_)
        clear hK K
        try simp only [Act.put, List.setIfInBounds_toArray, List.set_cons_zero, List.set_cons_succ]
        refine wpAnyH_ready (rs := [6]) (by kernel_rfl) (by simp) ?_
        refine AllReadyH.cons (by simp only [List.getElem?_toArray, List.getElem?_cons_zero, List.getElem?_cons_succ]; rfl) (fun K hK => ?_) AllReadyH.nil
        have HTW := Lib.hid (Two.of (b := X0) (z := z) (bad := bad) HZ7.out rfl HZ8.out rfl HSx.out HSy.out HBc.out HG7.out HG8.out)
        have hne7 : V21.heap.size ≠ V1.heap.size := fun e => by have h7 := HZ7.out; rw [e, HZ8.out] at h7; cases h7
        have hh7 := HZ7.out
        have z0 := cell_of_block hh7 0
        have y0 := unfrozen_of_block hh7 0
        have z1 := cell_of_block hh7 1
        have y1 := unfrozen_of_block hh7 1
        have z2 := cell_of_block hh7 2
        have y2 := unfrozen_of_block hh7 2
        have z3 := cell_of_block hh7 3
        have y3 := unfrozen_of_block hh7 3
        have z4 := cell_of_block hh7 4
        have y4 := unfrozen_of_block hh7 4
        have z5 := cell_of_block hh7 5
        have y5 := unfrozen_of_block hh7 5
        clear hh7
        go_simp
        clear z0 y0 z1 y1 z2 y2 z3 y3 z4 y4 z5 y5
        have o7 := fun D hD => set6_other (X := V22) (V21.heap.size) D hD (.int .i64 z) (.slice sx.a1 sx.n1 sx.c1) (.slice sx.a2 sx.n2 sx.c2) (.slice sx.a3 sx.n3 sx.c3) (.slice sx.a4 sx.n4 sx.c4) (.slice sx.a5 sx.n5 sx.c5)
        have HZ8 := Lib.hid ((o7 (V1.heap.size) (fun e => hne7 e.symm)).trans HZ8.out)
        have hb6 := set6 (u0 := .int .i64 z) (u1 := .slice sx.a1 sx.n1 sx.c1) (u2 := .slice sx.a2 sx.n2 sx.c2) (u3 := .slice sx.a3 sx.n3 sx.c3) (u4 := .slice sx.a4 sx.n4 sx.c4) (u5 := .slice sx.a5 sx.n5 sx.c5) (V21.heap.size) HG7.out HBc.out
        have HELD := Lib.hid (HELDB.out _ hb6)
        clear o7 hne7
        generalize hV6 : World.setCell (World.setCell (World.setCell (World.setCell (World.setCell (World.setCell V22 _ _) _ _) _ _) _ _) _ _) _ _ = V6 at HELD HZ8 HTW hb6 ⊢
        clear hV6
        refine hK.out _ _ HELD.out (fun _ => ?_)
        clear hK K
        try simp only [Act.put, List.setIfInBounds_toArray, List.set_cons_zero, List.set_cons_succ]
        refine wpAnyH_ready (rs := [7]) (by kernel_rfl) (by simp) ?_
        refine AllReadyH.cons (by simp only [List.getElem?_toArray, List.getElem?_cons_zero, List.getElem?_cons_succ]; rfl) (fun K hK => ?_) AllReadyH.nil
        have hh8 := HZ8.out
        have z0 := cell_of_block hh8 0
        have y0 := unfrozen_of_block hh8 0
        have z1 := cell_of_block hh8 1
        have y1 := unfrozen_of_block hh8 1
        have z2 := cell_of_block hh8 2
        have y2 := unfrozen_of_block hh8 2
        clear hh8
        go_simp
        clear z0 y0 z1 y1 z2 y2
        have HELD := Lib.hid (HELDB.out _ (set3_t (u0 := .int .i64 bad) (u1 := .slice sy.a1 sy.n1 sy.c1) (u2 := .slice sy.a2 sy.n2 sy.c2) (V1.heap.size) HG8.out hb6))
        clear hb6
        refine hK.out _ _ HELD.out (fun _ => ?_)
        clear hK K
        try simp only [Act.put, List.setIfInBounds_toArray, List.set_cons_zero, List.set_cons_succ]
        refine wpAnyH_done (by kernel_rfl) ?_ _
        refine NoPanic.normal ?_
        exact hK _ _ _ _ _ _ _ _ _ HTW.out
      · go_simp
        generalize hV : World.alloc V20 _ = V25
        have hb : Below V20.heap.size V20 V25 := by subst hV; exact ext_alloc _ _
        have HZ7 : Hid (V25.heap[V20.heap.size]? = some (.cells #[.int .i64 0, .slice none 0 0, .slice none 0 0, .slice none 0 0, .slice none 0 0, .slice none 0 0] 26 (0, 0))) := by show _ = _; subst hV; exact heap_new _ _ _ rfl
        have HG7 := Lib.hid HBc.out.size
        have HZ8 := Lib.hid (heap_below HZ8.out hb)
        have HSx := Lib.hid (HSx.out.below hb)
        have HBc := Lib.hid (ext_trans HBc.out hb)
        have HELD := Lib.hid (HELDB.out V25 HBc.out)
        clear hV hb
        refine hK.out _ _ HELD.out (fun _ => ?_)
        clear hK K
        try simp only [Act.put, List.setIfInBounds_toArray, List.set_cons_zero, List.set_cons_succ]
        refine wpAnyH_ready (rs := [3]) (by kernel_rfl) (by simp) ?_
        refine AllReadyH.cons (by simp only [List.getElem?_toArray, List.getElem?_cons_zero, List.getElem?_cons_succ]; rfl) (fun K hK => ?_) AllReadyH.nil
        go_simp
        refine (E2.out _ HBc.out).mono ?_
        rintro e V26 ⟨sy, rfl, ho, hb⟩
        have HSy := Lib.hid (ho.base_le (B := X0.heap.size) HBc.out.size)
        have HSx := Lib.hid (HSx.out.below hb)
        have HZ7 := Lib.hid (heap_below HZ7.out hb)
        have HZ8 := Lib.hid (heap_below HZ8.out hb)
        have HBc := Lib.hid (ext_trans HBc.out hb)
        have HELD := Lib.hid (HELDB.out V26 HBc.out)
        clear ho hb
        refine hK.out _ _ HELD.out (fun _ => ?_)
        clear hK K
        try simp only [Act.put, List.setIfInBounds_toArray, List.set_cons_zero, List.set_cons_succ]
        refine wpAnyH_ready (rs := [6]) (by kernel_rfl) (by simp) ?_
        refine AllReadyH.cons (by simp only [List.getElem?_toArray, List.getElem?_cons_zero, List.getElem?_cons_succ]; rfl) (fun K hK => ?_) AllReadyH.nil
        have HTW := Lib.hid (Two.of (b := X0) (z := z) (bad := bad) HZ7.out rfl HZ8.out rfl HSx.out HSy.out HBc.out HG7.out HG8.out)
        have hne7 : V20.heap.size ≠ V1.heap.size := fun e => by have h7 := HZ7.out; rw [e, HZ8.out] at h7; cases h7
        have hh7 := HZ7.out
        have z0 := cell_of_block hh7 0
        have y0 := unfrozen_of_block hh7 0
        have z1 := cell_of_block hh7 1
        have y1 := unfrozen_of_block hh7 1
        have z2 := cell_of_block hh7 2
        have y2 := unfrozen_of_block hh7 2
        have z3 := cell_of_block hh7 3
        have y3 := unfrozen_of_block hh7 3
        have z4 := cell_of_block hh7 4
        have y4 := unfrozen_of_block hh7 4
        have z5 := cell_of_block hh7 5
        have y5 := unfrozen_of_block hh7 5
        clear hh7
        go_simp
        clear z0 y0 z1 y1 z2 y2 z3 y3 z4 y4 z5 y5
        have o7 := fun D hD => set6_other (X := V26) (V20.heap.size) D hD (.int .i64 z) (.slice sx.a1 sx.n1 sx.c1) (.slice sx.a2 sx.n2 sx.c2) (.slice sx.a3 sx.n3 sx.c3) (.slice sx.a4 sx.n4 sx.c4) (.slice sx.a5 sx.n5 sx.c5)
        have HZ8 := Lib.hid ((o7 (V1.heap.size) (fun e => hne7 e.symm)).trans HZ8.out)
        have hb6 := set6 (u0 := .int .i64 z) (u1 := .slice sx.a1 sx.n1 sx.c1) (u2 := .slice sx.a2 sx.n2 sx.c2) (u3 := .slice sx.a3 sx.n3 sx.c3) (u4 := .slice sx.a4 sx.n4 sx.c4) (u5 := .slice sx.a5 sx.n5 sx.c5) (V20.heap.size) HG7.out HBc.out
        have HELD := Lib.hid (HELDB.out _ hb6)
        clear o7 hne7
        generalize hV6 : World.setCell (World.setCell (World.setCell (World.setCell (World.setCell (World.setCell V26 _ _) _ _) _ _) _ _) _ _) _ _ = V6 at HELD HZ8 HTW hb6 ⊢
        clear hV6
        refine hK.out _ _ HELD.out (fun _ => ?_)
        clear hK K
        try simp only [Act.put, List.setIfInBounds_toArray, List.set_cons_zero, List.set_cons_succ]
        refine wpAnyH_ready (rs := [7]) (by kernel_rfl) (by simp) ?_
        refine AllReadyH.cons (by simp only [List.getElem?_toArray, List.getElem?_cons_zero, List.getElem?_cons_succ]; rfl) (fun K hK => ?_) AllReadyH.nil
        have hh8 := HZ8.out
        have z0 := cell_of_block hh8 0
        have y0 := unfrozen_of_block hh8 0
        have z1 := cell_of_block hh8 1
        have y1 := unfrozen_of_block hh8 1
        have z2 := cell_of_block hh8 2
        have y2 := unfrozen_of_block hh8 2
        clear hh8
        go_simp
        clear z0 y0 z1 y1 z2 y2
        have HELD := Lib.hid (HELDB.out _ (set3_t (u0 := .int .i64 bad) (u1 := .slice sy.a1 sy.n1 sy.c1) (u2 := .slice sy.a2 sy.n2 sy.c2) (V1.heap.size) HG8.out hb6))
        clear hb6
        refine hK.out _ _ HELD.out (fun _ => ?_)
        clear hK K
        try simp only [Act.put, List.setIfInBounds_toArray, List.set_cons_zero, List.set_cons_succ]
        refine wpAnyH_done (by kernel_rfl) ?_ _
        refine NoPanic.normal ?_
        exact hK _ _ _ _ _ _ _ _ _ HTW.out
  · go_simp
    generalize hV : World.alloc Y0 _ = V29
    have hb : Below Y0.heap.size Y0 V29 := by subst hV; exact ext_alloc _ _
    have HZ7 : Hid (V29.heap[Y0.heap.size]? = some (.cells #[.int .i64 0, .slice none 0 0, .slice none 0 0, .slice none 0 0, .slice none 0 0, .slice none 0 0] 26 (0, 0))) := by show _ = _; subst hV; exact heap_new _ _ _ rfl
    have HG7 := Lib.hid HBc.out.size
    have HBc := Lib.hid (ext_trans HBc.out hb)
    have HELD := Lib.hid (HELDB.out V29 HBc.out)
    clear hV hb
    refine hK.out _ _ HELD.out (fun _ => ?_)
    clear hK K
    try simp only [Act.put, List.setIfInBounds_toArray, List.set_cons_zero, List.set_cons_succ]
    refine wpAnyH_ready (rs := [1, 5]) (by kernel_rfl) (by simp) ?_
    refine AllReadyH.cons (by simp only [List.getElem?_toArray, List.getElem?_cons_zero, List.getElem?_cons_succ]; rfl) (fun K hK => ?_) (AllReadyH.cons (by simp only [List.getElem?_toArray, List.getElem?_cons_zero, List.getElem?_cons_succ]; rfl) (fun K hK => ?_) AllReadyH.nil)
    · go_simp
      refine (E1.out _ HBc.out).mono ?_
      rintro e V30 ⟨sx, rfl, ho, hb⟩
      have HSx := Lib.hid (ho.base_le (B := X0.heap.size) HBc.out.size)
      have HZ7 := Lib.hid (heap_below HZ7.out hb)
      have HBc := Lib.hid (ext_trans HBc.out hb)
      have HELD := Lib.hid (HELDB.out V30 HBc.out)
      clear ho hb
      refine hK.out _ _ HELD.out (fun _ => ?_)
      clear hK K
      try simp only [Act.put, List.setIfInBounds_toArray, List.set_cons_zero, List.set_cons_succ]
      refine wpAnyH_ready (rs := [3, 5]) (by kernel_rfl) (by simp) ?_
      refine AllReadyH.cons (by simp only [List.getElem?_toArray, List.getElem?_cons_zero, List.getElem?_cons_succ]; rfl) (fun K hK => ?_) (AllReadyH.cons (by simp only [List.getElem?_toArray, List.getElem?_cons_zero, List.getElem?_cons_succ]; rfl) (fun K hK => ?_) AllReadyH.nil)
      · go_simp
        refine (E2.out _ HBc.out).mono ?_
        rintro e V31 ⟨sy, rfl, ho, hb⟩
        have HSy := Lib.hid (ho.base_le (B := X0.heap.size) HBc.out.size)
        have HSx := Lib.hid (HSx.out.below hb)
        have HZ7 := Lib.hid (heap_below HZ7.out hb)
        have HBc := Lib.hid (ext_trans HBc.out hb)
        have HELD := Lib.hid (HELDB.out V31 HBc.out)
        clear ho hb
        refine hK.out _ _ HELD.out (fun _ => ?_)
        clear hK K
        try simp only [Act.put, List.setIfInBounds_toArray, List.set_cons_zero, List.set_cons_succ]
        refine wpAnyH_ready (rs := [5]) (by kernel_rfl) (by simp) ?_
        refine AllReadyH.cons (by simp only [List.getElem?_toArray, List.getElem?_cons_zero, List.getElem?_cons_succ]; rfl) (fun K hK => ?_) AllReadyH.nil
        go_simp
        generalize hV : World.alloc V31 _ = V32
        have hb : Below V31.heap.size V31 V32 := by subst hV; exact ext_alloc _ _
        have HZ8 : Hid (V32.heap[V31.heap.size]? = some (.cells #[.int .i64 0, .slice none 0 0, .slice none 0 0] 30 (0, 0))) := by show _ = _; subst hV; exact heap_new _ _ _ rfl
        have HG8 := Lib.hid HBc.out.size
        have HZ7 := Lib.hid (heap_below HZ7.out hb)
        have HSx := Lib.hid (HSx.out.below hb)
        have HSy := Lib.hid (HSy.out.below hb)
        have HBc := Lib.hid (ext_trans HBc.out hb)
        have HELD := Lib.hid (HELDB.out V32 HBc.out)
        clear hV hb
        refine hK.out _ _ HELD.out (fun _ => ?_)
        clear hK K
        try simp only [Act.put, List.setIfInBounds_toArray, List.set_cons_zero, List.set_cons_succ]
        refine wpAnyH_ready (rs := [6]) (by kernel_rfl) (by simp) ?_
        refine AllReadyH.cons (by simp only [List.getElem?_toArray, List.getElem?_cons_zero, List.getElem?_cons_succ]; rfl) (fun K hK => ?_) AllReadyH.nil
        have HTW := Lib.hid (Two.of (b := X0) (z := z) (bad := bad) HZ7.out rfl HZ8.out rfl HSx.out HSy.out HBc.out HG7.out HG8.out)
        have hne7 : Y0.heap.size ≠ V31.heap.size := fun e => by have h7 := HZ7.out; rw [e, HZ8.out] at h7; cases h7
        have hh7 := HZ7.out
        have z0 := cell_of_block hh7 0
        have y0 := unfrozen_of_block hh7 0
        have z1 := cell_of_block hh7 1
        have y1 := unfrozen_of_block hh7 1
        have z2 := cell_of_block hh7 2
        have y2 := unfrozen_of_block hh7 2
        have z3 := cell_of_block hh7 3
        have y3 := unfrozen_of_block hh7 3
        have z4 := cell_of_block hh7 4
        have y4 := unfrozen_of_block hh7 4
        have z5 := cell_of_block hh7 5
        have y5 := unfrozen_of_block hh7 5
        clear hh7
        go_simp
        clear z0 y0 z1 y1 z2 y2 z3 y3 z4 y4 z5 y5
        have o7 := fun D hD => set6_other (X := V32) (Y0.heap.size) D hD (.int .i64 z) (.slice sx.a1 sx.n1 sx.c1) (.slice sx.a2 sx.n2 sx.c2) (.slice sx.a3 sx.n3 sx.c3) (.slice sx.a4 sx.n4 sx.c4) (.slice sx.a5 sx.n5 sx.c5)
        have HZ8 := Lib.hid ((o7 (V31.heap.size) (fun e => hne7 e.symm)).trans HZ8.out)
        have hb6 := set6 (u0 := .int .i64 z) (u1 := .slice sx.a1 sx.n1 sx.c1) (u2 := .slice sx.a2 sx.n2 sx.c2) (u3 := .slice sx.a3 sx.n3 sx.c3) (u4 := .slice sx.a4 sx.n4 sx.c4) (u5 := .slice sx.a5 sx.n5 sx.c5) (Y0.heap.size) HG7.out HBc.out
        have HELD := Lib.hid (HELDB.out _ hb6)
        clear o7 hne7
        generalize hV6 : World.setCell (World.setCell (World.setCell (World.setCell (World.setCell (World.setCell V32 _ _) _ _) _ _) _ _) _ _) _ _ = V6 at HELD HZ8 HTW hb6 ⊢
        clear hV6
        refine hK.out _ _ HELD.out (fun _ => ?_)
        clear hK K
        try simp only [Act.put, List.setIfInBounds_toArray, List.set_cons_zero, List.set_cons_succ]
        refine wpAnyH_ready (rs := [7]) (by kernel_rfl) (by simp) ?_
        refine AllReadyH.cons (by simp only [List.getElem?_toArray, List.getElem?_cons_zero, List.getElem?_cons_succ]; rfl) (fun K hK => ?_) AllReadyH.nil
        have hh8 := HZ8.out
        have z0 := cell_of_block hh8 0
        have y0 := unfrozen_of_block hh8 0
        have z1 := cell_of_block hh8 1
        have y1 := unfrozen_of_block hh8 1
        have z2 := cell_of_block hh8 2
        have y2 := unfrozen_of_block hh8 2
        clear hh8
        go_simp
        clear z0 y0 z1 y1 z2 y2
        have HELD := Lib.hid (HELDB.out _ (set3_t (u0 := .int .i64 bad) (u1 := .slice sy.a1 sy.n1 sy.c1) (u2 := .slice sy.a2 sy.n2 sy.c2) (V31.heap.size) HG8.out hb6))
        clear hb6
        refine hK.out _ _ HELD.out (fun _ => ?_)
        clear hK K
        try simp only [Act.put, List.setIfInBounds_toArray, List.set_cons_zero, List.set_cons_succ]
        refine wpAnyH_done (by kernel_rfl) ?_ _
        refine NoPanic.normal ?_
        exact hK _ _ _ _ _ _ _ _ _ HTW.out
      · go_simp
        generalize hV : World.alloc V30 _ = V35
        have hb : Below V30.heap.size V30 V35 := by subst hV; exact ext_alloc _ _
        have HZ8 : Hid (V35.heap[V30.heap.size]? = some (.cells #[.int .i64 0, .slice none 0 0, .slice none 0 0] 30 (0, 0))) := by show _ = _; subst hV; exact heap_new _ _ _ rfl
        have HG8 := Lib.hid HBc.out.size
        have HZ7 := Lib.hid (heap_below HZ7.out hb)
        have HSx := Lib.hid (HSx.out.below hb)
        have HBc := Lib.hid (ext_trans HBc.out hb)
        have HELD := Lib.hid (HELDB.out V35 HBc.out)
        clear hV hb
        refine hK.out _ _ HELD.out (fun _ => ?_)
        clear hK K
        try simp only [Act.put, List.setIfInBounds_toArray, List.set_cons_zero, List.set_cons_succ]
        refine wpAnyH_ready (rs := [3]) (by kernel_rfl) (by simp) ?_
        refine AllReadyH.cons (by simp only [List.getElem?_toArray, List.getElem?_cons_zero, List.getElem?_cons_succ]; rfl) (fun K hK => ?_) AllReadyH.nil
        go_simp
        refine (E2.out _ HBc.out).mono ?_
        rintro e V36 ⟨sy, rfl, ho, hb⟩
        have HSy := Lib.hid (ho.base_le (B := X0.heap.size) HBc.out.size)
        have HSx := Lib.hid (HSx.out.below hb)
        have HZ7 := Lib.hid (heap_below HZ7.out hb)
        have HZ8 := Lib.hid (heap_below HZ8.out hb)
        have HBc := Lib.hid (ext_trans HBc.out hb)
        have HELD := Lib.hid (HELDB.out V36 HBc.out)
        clear ho hb
        refine hK.out _ _ HELD.out (fun _ => ?_)
        clear hK K
        try simp only [Act.put, List.setIfInBounds_toArray, List.set_cons_zero, List.set_cons_succ]
        refine wpAnyH_ready (rs := [6]) (by kernel_rfl) (by simp) ?_
        refine AllReadyH.cons (by simp only [List.getElem?_toArray, List.getElem?_cons_zero, List.getElem?_cons_succ]; rfl) (fun K hK => ?_) AllReadyH.nil
        have HTW := Lib.hid (Two.of (b := X0) (z := z) (bad := bad) HZ7.out rfl HZ8.out rfl HSx.out HSy.out HBc.out HG7.out HG8.out)
        have hne7 : Y0.heap.size ≠ V30.heap.size := fun e => by have h7 := HZ7.out; rw [e, HZ8.out] at h7; cases h7
        have hh7 := HZ7.out
        have z0 := cell_of_block hh7 0
        have y0 := unfrozen_of_block hh7 0
        have z1 := cell_of_block hh7 1
        have y1 := unfrozen_of_block hh7 1
        have z2 := cell_of_block hh7 2
        have y2 := unfrozen_of_block hh7 2
        have z3 := cell_of_block hh7 3
        have y3 := unfrozen_of_block hh7 3
        have z4 := cell_of_block hh7 4
        have y4 := unfrozen_of_block hh7 4
        have z5 := cell_of_block hh7 5
        have y5 := unfrozen_of_block hh7 5
        clear hh7
        go_simp
        clear z0 y0 z1 y1 z2 y2 z3 y3 z4 y4 z5 y5
        have o7 := fun D hD => set6_other (X := V36) (Y0.heap.size) D hD (.int .i64 z) (.slice sx.a1 sx.n1 sx.c1) (.slice sx.a2 sx.n2 sx.c2) (.slice sx.a3 sx.n3 sx.c3) (.slice sx.a4 sx.n4 sx.c4) (.slice sx.a5 sx.n5 sx.c5)
        have HZ8 := Lib.hid ((o7 (V30.heap.size) (fun e => hne7 e.symm)).trans HZ8.out)
        have hb6 := set6 (u0 := .int .i64 z) (u1 := .slice sx.a1 sx.n1 sx.c1) (u2 := .slice sx.a2 sx.n2 sx.c2) (u3 := .slice sx.a3 sx.n3 sx.c3) (u4 := .slice sx.a4 sx.n4 sx.c4) (u5 := .slice sx.a5 sx.n5 sx.c5) (Y0.heap.size) HG7.out HBc.out
        have HELD := Lib.hid (HELDB.out _ hb6)
        clear o7 hne7
        generalize hV6 : World.setCell (World.setCell (World.setCell (World.setCell (World.setCell (World.setCell V36 _ _) _ _) _ _) _ _) _ _) _ _ = V6 at HELD HZ8 HTW hb6 ⊢
        clear hV6
        refine hK.out _ _ HELD.out (fun _ => ?_)
        clear hK K
        try simp only [Act.put, List.setIfInBounds_toArray, List.set_cons_zero, List.set_cons_succ]
        refine wpAnyH_ready (rs := [7]) (by kernel_rfl) (by simp) ?_
        refine AllReadyH.cons (by simp only [List.getElem?_toArray, List.getElem?_cons_zero, List.getElem?_cons_succ]; rfl) (fun K hK => ?_) AllReadyH.nil
        have hh8 := HZ8.out
        have z0 := cell_of_block hh8 0
        have y0 := unfrozen_of_block hh8 0
        have z1 := cell_of_block hh8 1
        have y1 := unfrozen_of_block hh8 1
        have z2 := cell_of_block hh8 2
        have y2 := unfrozen_of_block hh8 2
        clear hh8
        go_simp
        clear z0 y0 z1 y1 z2 y2
        have HELD := Lib.hid (HELDB.out _ (set3_t (u0 := .int .i64 bad) (u1 := .slice sy.a1 sy.n1 sy.c1) (u2 := .slice sy.a2 sy.n2 sy.c2) (V30.heap.size) HG8.out hb6))
        clear hb6
        refine hK.out _ _ HELD.out (fun _ => ?_)
        clear hK K
        try simp only [Act.put, List.setIfInBounds_toArray, List.set_cons_zero, List.set_cons_succ]
        refine wpAnyH_done (by kernel_rfl) ?_ _
        refine NoPanic.normal ?_
        exact hK _ _ _ _ _ _ _ _ _ HTW.out
    · go_simp
      generalize hV : World.alloc V29 _ = V39
      have hb : Below V29.heap.size V29 V39 := by subst hV; exact ext_alloc _ _
      have HZ8 : Hid (V39.heap[V29.heap.size]? = some (.cells #[.int .i64 0, .slice none 0 0, .slice none 0 0] 30 (0, 0))) := by show _ = _; subst hV; exact heap_new _ _ _ rfl
      have HG8 := Lib.hid HBc.out.size
      have HZ7 := Lib.hid (heap_below HZ7.out hb)
      have HBc := Lib.hid (ext_trans HBc.out hb)
      have HELD := Lib.hid (HELDB.out V39 HBc.out)
      clear hV hb
      refine hK.out _ _ HELD.out (fun _ => ?_)
      clear hK K
      try simp only [Act.put, List.setIfInBounds_toArray, List.set_cons_zero, List.set_cons_succ]
      refine wpAnyH_ready (rs := [1]) (by kernel_rfl) (by simp) ?_
      refine AllReadyH.cons (by simp only [List.getElem?_toArray, List.getElem?_cons_zero, List.getElem?_cons_succ]; rfl) (fun K hK => ?_) AllReadyH.nil
      go_simp
      refine (E1.out _ HBc.out).mono ?_
      rintro e V40 ⟨sx, rfl, ho, hb⟩
      have HSx := Lib.hid (ho.base_le (B := X0.heap.size) HBc.out.size)
      have HZ7 := Lib.hid (heap_below HZ7.out hb)
      have HZ8 := Lib.hid (heap_below HZ8.out hb)
      have HBc := Lib.hid (ext_trans HBc.out hb)
      have HELD := Lib.hid (HELDB.out V40 HBc.out)
      clear ho hb
      refine hK.out _ _ HELD.out (fun _ => ?_)
      clear hK K
      try simp only [Act.put, List.setIfInBounds_toArray, List.set_cons_zero, List.set_cons_succ]
      refine wpAnyH_ready (rs := [3]) (by kernel_rfl) (by simp) ?_
      refine AllReadyH.cons (by simp only [List.getElem?_toArray, List.getElem?_cons_zero, List.getElem?_cons_succ]; rfl) (fun K hK => ?_) AllReadyH.nil
      go_simp
      refine (E2.out _ HBc.out).mono ?_
      rintro e V41 ⟨sy, rfl, ho, hb⟩
      have HSy := Lib.hid (ho.base_le (B := X0.heap.size) HBc.out.size)
      have HSx := Lib.hid (HSx.out.below hb)
      have HZ7 := Lib.hid (heap_below HZ7.out hb)
      have HZ8 := Lib.hid (heap_below HZ8.out hb)
      have HBc := Lib.hid (ext_trans HBc.out hb)
      have HELD := Lib.hid (HELDB.out V41 HBc.out)
      clear ho hb
      refine hK.out _ _ HELD.out (fun _ => ?_)
      clear hK K
      try simp only [Act.put, List.setIfInBounds_toArray, List.set_cons_zero, List.set_cons_succ]
      refine wpAnyH_ready (rs := [6]) (by kernel_rfl) (by simp) ?_
      refine AllReadyH.cons (by simp only [List.getElem?_toArray, List.getElem?_cons_zero, List.getElem?_cons_succ]; rfl) (fun K hK => ?_) AllReadyH.nil
      have HTW := Lib.hid (Two.of (b := X0) (z := z) (bad := bad) HZ7.out rfl HZ8.out rfl HSx.out HSy.out HBc.out HG7.out HG8.out)
      have hne7 : Y0.heap.size ≠ V29.heap.size := fun e => by have h7 := HZ7.out; rw [e, HZ8.out] at h7; cases h7
      have hh7 := HZ7.out
      have z0 := cell_of_block hh7 0
      have y0 := unfrozen_of_block hh7 0
      have z1 := cell_of_block hh7 1
      have y1 := unfrozen_of_block hh7 1
      have z2 := cell_of_block hh7 2
      have y2 := unfrozen_of_block hh7 2
      have z3 := cell_of_block hh7 3
      have y3 := unfrozen_of_block hh7 3
      have z4 := cell_of_block hh7 4
      have y4 := unfrozen_of_block hh7 4
      have z5 := cell_of_block hh7 5
      have y5 := unfrozen_of_block hh7 5
      clear hh7
      go_simp
      clear z0 y0 z1 y1 z2 y2 z3 y3 z4 y4 z5 y5
      have o7 := fun D hD => set6_other (X := V41) (Y0.heap.size) D hD (.int .i64 z) (.slice sx.a1 sx.n1 sx.c1) (.slice sx.a2 sx.n2 sx.c2) (.slice sx.a3 sx.n3 sx.c3) (.slice sx.a4 sx.n4 sx.c4) (.slice sx.a5 sx.n5 sx.c5)
      have HZ8 := Lib.hid ((o7 (V29.heap.size) (fun e => hne7 e.symm)).trans HZ8.out)
      have hb6 := set6 (u0 := .int .i64 z) (u1 := .slice sx.a1 sx.n1 sx.c1) (u2 := .slice sx.a2 sx.n2 sx.c2) (u3 := .slice sx.a3 sx.n3 sx.c3) (u4 := .slice sx.a4 sx.n4 sx.c4) (u5 := .slice sx.a5 sx.n5 sx.c5) (Y0.heap.size) HG7.out HBc.out
      have HELD := Lib.hid (HELDB.out _ hb6)
      clear o7 hne7
      generalize hV6 : World.setCell (World.setCell (World.setCell (World.setCell (World.setCell (World.setCell V41 _ _) _ _) _ _) _ _) _ _) _ _ = V6 at HELD HZ8 HTW hb6 ⊢
      clear hV6
      refine hK.out _ _ HELD.out (fun _ => ?_)
      clear hK K
      try simp only [Act.put, List.setIfInBounds_toArray, List.set_cons_zero, List.set_cons_succ]
      refine wpAnyH_ready (rs := [7]) (by kernel_rfl) (by simp) ?_
      refine AllReadyH.cons (by simp only [List.getElem?_toArray, List.getElem?_cons_zero, List.getElem?_cons_succ]; rfl) (fun K hK => ?_) AllReadyH.nil
      have hh8 := HZ8.out
      have z0 := cell_of_block hh8 0
      have y0 := unfrozen_of_block hh8 0
      have z1 := cell_of_block hh8 1
      have y1 := unfrozen_of_block hh8 1
      have z2 := cell_of_block hh8 2
      have y2 := unfrozen_of_block hh8 2
      clear hh8
      go_simp
      clear z0 y0 z1 y1 z2 y2
      have HELD := Lib.hid (HELDB.out _ (set3_t (u0 := .int .i64 bad) (u1 := .slice sy.a1 sy.n1 sy.c1) (u2 := .slice sy.a2 sy.n2 sy.c2) (V29.heap.size) HG8.out hb6))
      clear hb6
      refine hK.out _ _ HELD.out (fun _ => ?_)
      clear hK K
      try simp only [Act.put, List.setIfInBounds_toArray, List.set_cons_zero, List.set_cons_succ]
      refine wpAnyH_done (by kernel_rfl) ?_ _
      refine NoPanic.normal ?_
      exact hK _ _ _ _ _ _ _ _ _ HTW.out
  · go_simp
    generalize hV : World.alloc Y0 _ = V44
    have hb : Below Y0.heap.size Y0 V44 := by subst hV; exact ext_alloc _ _
    have HZ8 : Hid (V44.heap[Y0.heap.size]? = some (.cells #[.int .i64 0, .slice none 0 0, .slice none 0 0] 30 (0, 0))) := by show _ = _; subst hV; exact heap_new _ _ _ rfl
    have HG8 := Lib.hid HBc.out.size
    have HBc := Lib.hid (ext_trans HBc.out hb)
    have HELD := Lib.hid (HELDB.out V44 HBc.out)
    clear hV hb
    refine hK.out _ _ HELD.out (fun _ => ?_)
    clear hK K
    try simp only [Act.put, List.setIfInBounds_toArray, List.set_cons_zero, List.set_cons_succ]
    refine wpAnyH_ready (rs := [1, 4]) (by kernel_rfl) (by simp) ?_
    refine AllReadyH.cons (by simp only [List.getElem?_toArray, List.getElem?_cons_zero, List.getElem?_cons_succ]; rfl) (fun K hK => ?_) (AllReadyH.cons (by simp only [List.getElem?_toArray, List.getElem?_cons_zero, List.getElem?_cons_succ]; rfl) (fun K hK => ?_) AllReadyH.nil)
    · go_simp
      refine (E1.out _ HBc.out).mono ?_
      rintro e V45 ⟨sx, rfl, ho, hb⟩
      have HSx := Lib.hid (ho.base_le (B := X0.heap.size) HBc.out.size)
      have HZ8 := Lib.hid (heap_below HZ8.out hb)
      have HBc := Lib.hid (ext_trans HBc.out hb)
      have HELD := Lib.hid (HELDB.out V45 HBc.out)
      clear ho hb
      refine hK.out _ _ HELD.out (fun _ => ?_)
      clear hK K
      try simp only [Act.put, List.setIfInBounds_toArray, List.set_cons_zero, List.set_cons_succ]
      refine wpAnyH_ready (rs := [3, 4]) (by kernel_rfl) (by simp) ?_
      refine AllReadyH.cons (by simp only [List.getElem?_toArray, List.getElem?_cons_zero, List.getElem?_cons_succ]; rfl) (fun K hK => ?_) (AllReadyH.cons (by simp only [List.getElem?_toArray, List.getElem?_cons_zero, List.getElem?_cons_succ]; rfl) (fun K hK => ?_) AllReadyH.nil)
      · go_simp
        refine (E2.out _ HBc.out).mono ?_
        rintro e V46 ⟨sy, rfl, ho, hb⟩
        have HSy := Lib.hid (ho.base_le (B := X0.heap.size) HBc.out.size)
        have HSx := Lib.hid (HSx.out.below hb)
        have HZ8 := Lib.hid (heap_below HZ8.out hb)
        have HBc := Lib.hid (ext_trans HBc.out hb)
        have HELD := Lib.hid (HELDB.out V46 HBc.out)
        clear ho hb
        refine hK.out _ _ HELD.out (fun _ => ?_)
        clear hK K
        try simp only [Act.put, List.setIfInBounds_toArray, List.set_cons_zero, List.set_cons_succ]
        refine wpAnyH_ready (rs := [4]) (by kernel_rfl) (by simp) ?_
        refine AllReadyH.cons (by simp only [List.getElem?_toArray, List.getElem?_cons_zero, List.getElem?_cons_succ]; rfl) (fun K hK => ?_) AllReadyH.nil
        go_simp
        generalize hV : World.alloc V46 _ = V47
        have hb : Below V46.heap.size V46 V47 := by subst hV; exact ext_alloc _ _
        have HZ7 : Hid (V47.heap[V46.heap.size]? = some (.cells #[.int .i64 0, .slice none 0 0, .slice none 0 0, .slice none 0 0, .slice none 0 0, .slice none 0 0] 26 (0, 0))) := by show _ = _; subst hV; exact heap_new _ _ _ rfl
        have HG7 := Lib.hid HBc.out.size
        have HZ8 := Lib.hid (heap_below HZ8.out hb)
        have HSx := Lib.hid (HSx.out.below hb)
        have HSy := Lib.hid (HSy.out.below hb)
        have HBc := Lib.hid (ext_trans HBc.out hb)
        have HELD := Lib.hid (HELDB.out V47 HBc.out)
        clear hV hb
        refine hK.out _ _ HELD.out (fun _ => ?_)
        clear hK K
        try simp only [Act.put, List.setIfInBounds_toArray, List.set_cons_zero, List.set_cons_succ]
        refine wpAnyH_ready (rs := [6]) (by kernel_rfl) (by simp) ?_
        refine AllReadyH.cons (by simp only [List.getElem?_toArray, List.getElem?_cons_zero, List.getElem?_cons_succ]; rfl) (fun K hK => ?_) AllReadyH.nil
        have HTW := Lib.hid (Two.of (b := X0) (z := z) (bad := bad) HZ7.out rfl HZ8.out rfl HSx.out HSy.out HBc.out HG7.out HG8.out)
        have hne7 : V46.heap.size ≠ Y0.heap.size := fun e => by have h7 := HZ7.out; rw [e, HZ8.out] at h7; cases h7
        have hh7 := HZ7.out
        have z0 := cell_of_block hh7 0
        have y0 := unfrozen_of_block hh7 0
        have z1 := cell_of_block hh7 1
        have y1 := unfrozen_of_block hh7 1
        have z2 := cell_of_block hh7 2
        have y2 := unfrozen_of_block hh7 2
        have z3 := cell_of_block hh7 3
        have y3 := unfrozen_of_block hh7 3
        have z4 := cell_of_block hh7 4
        have y4 := unfrozen_of_block hh7 4
        have z5 := cell_of_block hh7 5
        have y5 := unfrozen_of_block hh7 5
        clear hh7
        go_simp
        clear z0 y0 z1 y1 z2 y2 z3 y3 z4 y4 z5 y5
        have o7 := fun D hD => set6_other (X := V47) (V46.heap.size) D hD (.int .i64 z) (.slice sx.a1 sx.n1 sx.c1) (.slice sx.a2 sx.n2 sx.c2) (.slice sx.a3 sx.n3 sx.c3) (.slice sx.a4 sx.n4 sx.c4) (.slice sx.a5 sx.n5 sx.c5)
        have HZ8 := Lib.hid ((o7 (Y0.heap.size) (fun e => hne7 e.symm)).trans HZ8.out)
        have hb6 := set6 (u0 := .int .i64 z) (u1 := .slice sx.a1 sx.n1 sx.c1) (u2 := .slice sx.a2 sx.n2 sx.c2) (u3 := .slice sx.a3 sx.n3 sx.c3) (u4 := .slice sx.a4 sx.n4 sx.c4) (u5 := .slice sx.a5 sx.n5 sx.c5) (V46.heap.size) HG7.out HBc.out
        have HELD := Lib.hid (HELDB.out _ hb6)
        clear o7 hne7
        generalize hV6 : World.setCell (World.setCell (World.setCell (World.setCell (World.setCell (World.setCell V47 _ _) _ _) _ _) _ _) _ _) _ _ = V6 at HELD HZ8 HTW hb6 ⊢
        clear hV6
        refine hK.out _ _ HELD.out (fun _ => ?_)
        clear hK K
        try simp only [Act.put, List.setIfInBounds_toArray, List.set_cons_zero, List.set_cons_succ]
        refine wpAnyH_ready (rs := [7]) (by kernel_rfl) (by simp) ?_
        refine AllReadyH.cons (by simp only [List.getElem?_toArray, List.getElem?_cons_zero, List.getElem?_cons_succ]; rfl) (fun K hK => ?_) AllReadyH.nil
        have hh8 := HZ8.out
        have z0 := cell_of_block hh8 0
        have y0 := unfrozen_of_block hh8 0
        have z1 := cell_of_block hh8 1
        have y1 := unfrozen_of_block hh8 1
        have z2 := cell_of_block hh8 2
        have y2 := unfrozen_of_block hh8 2
        clear hh8
        go_simp
        clear z0 y0 z1 y1 z2 y2
        have HELD := Lib.hid (HELDB.out _ (set3_t (u0 := .int .i64 bad) (u1 := .slice sy.a1 sy.n1 sy.c1) (u2 := .slice sy.a2 sy.n2 sy.c2) (Y0.heap.size) HG8.out hb6))
        clear hb6
        refine hK.out _ _ HELD.out (fun _ => ?_)
        clear hK K
        try simp only [Act.put, List.setIfInBounds_toArray, List.set_cons_zero, List.set_cons_succ]
        refine wpAnyH_done (by kernel_rfl) ?_ _
        refine NoPanic.normal ?_
        exact hK _ _ _ _ _ _ _ _ _ HTW.out
      · go_simp
        generalize hV : World.alloc V45 _ = V50
        have hb : Below V45.heap.size V45 V50 := by subst hV; exact ext_alloc _ _
        have HZ7 : Hid (V50.heap[V45.heap.size]? = some (.cells #[.int .i64 0, .slice none 0 0, .slice none 0 0, .slice none 0 0, .slice none 0 0, .slice none 0 0] 26 (0, 0))) := by show _ = _; subst hV; exact heap_new _ _ _ rfl
        have HG7 := Lib.hid HBc.out.size
        have HZ8 := Lib.hid (heap_below HZ8.out hb)
        have HSx := Lib.hid (HSx.out.below hb)
        have HBc := Lib.hid (ext_trans HBc.out hb)
        have HELD := Lib.hid (HELDB.out V50 HBc.out)
        clear hV hb
        refine hK.out _ _ HELD.out (fun _ => ?_)
        clear hK K
        try simp only [Act.put, List.setIfInBounds_toArray, List.set_cons_zero, List.set_cons_succ]
        refine wpAnyH_ready (rs := [3]) (by kernel_rfl) (by simp) ?_
        refine AllReadyH.cons (by simp only [List.getElem?_toArray, List.getElem?_cons_zero, List.getElem?_cons_succ]; rfl) (fun K hK => ?_) AllReadyH.nil
        go_simp
        refine (E2.out _ HBc.out).mono ?_
        rintro e V51 ⟨sy, rfl, ho, hb⟩
        have HSy := Lib.hid (ho.base_le (B := X0.heap.size) HBc.out.size)
        have HSx := Lib.hid (HSx.out.below hb)
        have HZ7 := Lib.hid (heap_below HZ7.out hb)
        have HZ8 := Lib.hid (heap_below HZ8.out hb)
        have HBc := Lib.hid (ext_trans HBc.out hb)
        have HELD := Lib.hid (HELDB.out V51 HBc.out)
        clear ho hb
        refine hK.out _ _ HELD.out (fun _ => ?_)
        clear hK K
        try simp only [Act.put, List.setIfInBounds_toArray, List.set_cons_zero, List.set_cons_succ]
        refine wpAnyH_ready (rs := [6]) (by kernel_rfl) (by simp) ?_
        refine AllReadyH.cons (by simp only [List.getElem?_toArray, List.getElem?_cons_zero, List.getElem?_cons_succ]; rfl) (fun K hK => ?_) AllReadyH.nil
        have HTW := Lib.hid (Two.of (b := X0) (z := z) (bad := bad) HZ7.out rfl HZ8.out rfl HSx.out HSy.out HBc.out HG7.out HG8.out)
        have hne7 : V45.heap.size ≠ Y0.heap.size := fun e => by have h7 := HZ7.out; rw [e, HZ8.out] at h7; cases h7
        have hh7 := HZ7.out
        have z0 := cell_of_block hh7 0
        have y0 := unfrozen_of_block hh7 0
        have z1 := cell_of_block hh7 1
        have y1 := unfrozen_of_block hh7 1
        have z2 := cell_of_block hh7 2
        have y2 := unfrozen_of_block hh7 2
        have z3 := cell_of_block hh7 3
        have y3 := unfrozen_of_block hh7 3
        have z4 := cell_of_block hh7 4
        have y4 := unfrozen_of_block hh7 4
        have z5 := cell_of_block hh7 5
        have y5 := unfrozen_of_block hh7 5
        clear hh7
        go_simp
        clear z0 y0 z1 y1 z2 y2 z3 y3 z4 y4 z5 y5
        have o7 := fun D hD => set6_other (X := V51) (V45.heap.size) D hD (.int .i64 z) (.slice sx.a1 sx.n1 sx.c1) (.slice sx.a2 sx.n2 sx.c2) (.slice sx.a3 sx.n3 sx.c3) (.slice sx.a4 sx.n4 sx.c4) (.slice sx.a5 sx.n5 sx.c5)
        have HZ8 := Lib.hid ((o7 (Y0.heap.size) (fun e => hne7 e.symm)).trans HZ8.out)
        have hb6 := set6 (u0 := .int .i64 z) (u1 := .slice sx.a1 sx.n1 sx.c1) (u2 := .slice sx.a2 sx.n2 sx.c2) (u3 := .slice sx.a3 sx.n3 sx.c3) (u4 := .slice sx.a4 sx.n4 sx.c4) (u5 := .slice sx.a5 sx.n5 sx.c5) (V45.heap.size) HG7.out HBc.out
        have HELD := Lib.hid (HELDB.out _ hb6)
        clear o7 hne7
        generalize hV6 : World.setCell (World.setCell (World.setCell (World.setCell (World.setCell (World.setCell V51 _ _) _ _) _ _) _ _) _ _) _ _ = V6 at HELD HZ8 HTW hb6 ⊢
        clear hV6
        refine hK.out _ _ HELD.out (fun _ => ?_)
        clear hK K
        try simp only [Act.put, List.setIfInBounds_toArray, List.set_cons_zero, List.set_cons_succ]
        refine wpAnyH_ready (rs := [7]) (by kernel_rfl) (by simp) ?_
        refine AllReadyH.cons (by simp only [List.getElem?_toArray, List.getElem?_cons_zero, List.getElem?_cons_succ]; rfl) (fun K hK => ?_) AllReadyH.nil
        have hh8 := HZ8.out
        have z0 := cell_of_block hh8 0
        have y0 := unfrozen_of_block hh8 0
        have z1 := cell_of_block hh8 1
        have y1 := unfrozen_of_block hh8 1
        have z2 := cell_of_block hh8 2
        have y2 := unfrozen_of_block hh8 2
        clear hh8
        go_simp
        clear z0 y0 z1 y1 z2 y2
        have HELD := Lib.hid (HELDB.out _ (set3_t (u0 := .int .i64 bad) (u1 := .slice sy.a1 sy.n1 sy.c1) (u2 := .slice sy.a2 sy.n2 sy.c2) (Y0.heap.size) HG8.out hb6))
        clear hb6
        refine hK.out _ _ HELD.out (fun _ => ?_)
        clear hK K
        try simp only [Act.put, List.setIfInBounds_toArray, List.set_cons_zero, List.set_cons_succ]
        refine wpAnyH_done (by kernel_rfl) ?_ _
        refine NoPanic.normal ?_
        exact hK _ _ _ _ _ _ _ _ _ HTW.out
    · go_simp
      generalize hV : World.alloc V44 _ = V54
      have hb : Below V44.heap.size V44 V54 := by subst hV; exact ext_alloc _ _
      have HZ7 : Hid (V54.heap[V44.heap.size]? = some (.cells #[.int .i64 0, .slice none 0 0, .slice none 0 0, .slice none 0 0, .slice none 0 0, .slice none 0 0] 26 (0, 0))) := by show _ = _; subst hV; exact heap_new _ _ _ rfl
      have HG7 := Lib.hid HBc.out.size
      have HZ8 := Lib.hid (heap_below HZ8.out hb)
      have HBc := Lib.hid (ext_trans HBc.out hb)
      have HELD := Lib.hid (HELDB.out V54 HBc.out)
      clear hV hb
      refine hK.out _ _ HELD.out (fun _ => ?_)
      clear hK K
      try simp only [Act.put, List.setIfInBounds_toArray, List.set_cons_zero, List.set_cons_succ]
      refine wpAnyH_ready (rs := [1]) (by kernel_rfl) (by simp) ?_
      refine AllReadyH.cons (by simp only [List.getElem?_toArray, List.getElem?_cons_zero, List.getElem?_cons_succ]; rfl) (fun K hK => ?_) AllReadyH.nil
      go_simp
      refine (E1.out _ HBc.out).mono ?_
      rintro e V55 ⟨sx, rfl, ho, hb⟩
      have HSx := Lib.hid (ho.base_le (B := X0.heap.size) HBc.out.size)
      have HZ7 := Lib.hid (heap_below HZ7.out hb)
      have HZ8 := Lib.hid (heap_below HZ8.out hb)
      have HBc := Lib.hid (ext_trans HBc.out hb)
      have HELD := Lib.hid (HELDB.out V55 HBc.out)
      clear ho hb
      refine hK.out _ _ HELD.out (fun _ => ?_)
      clear hK K
      try simp only [Act.put, List.setIfInBounds_toArray, List.set_cons_zero, List.set_cons_succ]
      refine wpAnyH_ready (rs := [3]) (by kernel_rfl) (by simp) ?_
      refine AllReadyH.cons (by simp only [List.getElem?_toArray, List.getElem?_cons_zero, List.getElem?_cons_succ]; rfl) (fun K hK => ?_) AllReadyH.nil
      go_simp
      refine (E2.out _ HBc.out).mono ?_
      rintro e V56 ⟨sy, rfl, ho, hb⟩
      have HSy := Lib.hid (ho.base_le (B := X0.heap.size) HBc.out.size)
      have HSx := Lib.hid (HSx.out.below hb)
      have HZ7 := Lib.hid (heap_below HZ7.out hb)
      have HZ8 := Lib.hid (heap_below HZ8.out hb)
      have HBc := Lib.hid (ext_trans HBc.out hb)
      have HELD := Lib.hid (HELDB.out V56 HBc.out)
      clear ho hb
      refine hK.out _ _ HELD.out (fun _ => ?_)
      clear hK K
      try simp only [Act.put, List.setIfInBounds_toArray, List.set_cons_zero, List.set_cons_succ]
      refine wpAnyH_ready (rs := [6]) (by kernel_rfl) (by simp) ?_
      refine AllReadyH.cons (by simp only [List.getElem?_toArray, List.getElem?_cons_zero, List.getElem?_cons_succ]; rfl) (fun K hK => ?_) AllReadyH.nil
      have HTW := Lib.hid (Two.of (b := X0) (z := z) (bad := bad) HZ7.out rfl HZ8.out rfl HSx.out HSy.out HBc.out HG7.out HG8.out)
      have hne7 : V44.heap.size ≠ Y0.heap.size := fun e => by have h7 := HZ7.out; rw [e, HZ8.out] at h7; cases h7
      have hh7 := HZ7.out
      have z0 := cell_of_block hh7 0
      have y0 := unfrozen_of_block hh7 0
      have z1 := cell_of_block hh7 1
      have y1 := unfrozen_of_block hh7 1
      have z2 := cell_of_block hh7 2
      have y2 := unfrozen_of_block hh7 2
      have z3 := cell_of_block hh7 3
      have y3 := unfrozen_of_block hh7 3
      have z4 := cell_of_block hh7 4
      have y4 := unfrozen_of_block hh7 4
      have z5 := cell_of_block hh7 5
      have y5 := unfrozen_of_block hh7 5
      clear hh7
      go_simp
      clear z0 y0 z1 y1 z2 y2 z3 y3 z4 y4 z5 y5
      have o7 := fun D hD => set6_other (X := V56) (V44.heap.size) D hD (.int .i64 z) (.slice sx.a1 sx.n1 sx.c1) (.slice sx.a2 sx.n2 sx.c2) (.slice sx.a3 sx.n3 sx.c3) (.slice sx.a4 sx.n4 sx.c4) (.slice sx.a5 sx.n5 sx.c5)
      have HZ8 := Lib.hid ((o7 (Y0.heap.size) (fun e => hne7 e.symm)).trans HZ8.out)
      have hb6 := set6 (u0 := .int .i64 z) (u1 := .slice sx.a1 sx.n1 sx.c1) (u2 := .slice sx.a2 sx.n2 sx.c2) (u3 := .slice sx.a3 sx.n3 sx.c3) (u4 := .slice sx.a4 sx.n4 sx.c4) (u5 := .slice sx.a5 sx.n5 sx.c5) (V44.heap.size) HG7.out HBc.out
      have HELD := Lib.hid (HELDB.out _ hb6)
      clear o7 hne7
      generalize hV6 : World.setCell (World.setCell (World.setCell (World.setCell (World.setCell (World.setCell V56 _ _) _ _) _ _) _ _) _ _) _ _ = V6 at HELD HZ8 HTW hb6 ⊢
      clear hV6
      refine hK.out _ _ HELD.out (fun _ => ?_)
      clear hK K
      try simp only [Act.put, List.setIfInBounds_toArray, List.set_cons_zero, List.set_cons_succ]
      refine wpAnyH_ready (rs := [7]) (by kernel_rfl) (by simp) ?_
      refine AllReadyH.cons (by simp only [List.getElem?_toArray, List.getElem?_cons_zero, List.getElem?_cons_succ]; rfl) (fun K hK => ?_) AllReadyH.nil
      have hh8 := HZ8.out
      have z0 := cell_of_block hh8 0
      have y0 := unfrozen_of_block hh8 0
      have z1 := cell_of_block hh8 1
      have y1 := unfrozen_of_block hh8 1
      have z2 := cell_of_block hh8 2
      have y2 := unfrozen_of_block hh8 2
      clear hh8
      go_simp
      clear z0 y0 z1 y1 z2 y2
      have HELD := Lib.hid (HELDB.out _ (set3_t (u0 := .int .i64 bad) (u1 := .slice sy.a1 sy.n1 sy.c1) (u2 := .slice sy.a2 sy.n2 sy.c2) (Y0.heap.size) HG8.out hb6))
      clear hb6
      refine hK.out _ _ HELD.out (fun _ => ?_)
      clear hK K
      try simp only [Act.put, List.setIfInBounds_toArray, List.set_cons_zero, List.set_cons_succ]
      refine wpAnyH_done (by kernel_rfl) ?_ _
      refine NoPanic.normal ?_
      exact hK _ _ _ _ _ _ _ _ _ HTW.out
end Go.Proofs.Ytkbdebdhebphpaa
/- A region of NormTells that holds answers against the reference's, over whatever frame. -/
namespace Go.Proofs.Ytkbdebdhebphpaa
open Go Go.RowKit Go.Joins

noncomputable def codeNTelB : Code := ((Try.f3.body.bind (findRegion 5)).getD .skip)
set_option maxRecDepth 100000 in
set_option maxHeartbeats 25600000 in
theorem reg_NTelB (Pc Pd P9 P11 m9 : Nat) (zc zd er vv : Int) (qm qs : Bool) (sc sd : CSlots) (s9 s11 : Slots) (X0 : World) (hp : X0.heap[Pc]? = some (.cells #[.int .i64 zc, .slice sc.a1 sc.n1 sc.c1, .slice sc.a2 sc.n2 sc.c2, .slice sc.a3 sc.n3 sc.c3, .slice sc.a4 sc.n4 sc.c4, .slice sc.a5 sc.n5 sc.c5] 26 (0, 0))) (hq : X0.heap[Pd]? = some (.cells #[.int .i64 zd, .slice sd.a1 sd.n1 sd.c1, .slice sd.a2 sd.n2 sd.c2, .slice sd.a3 sd.n3 sd.c3, .slice sd.a4 sd.n4 sd.c4, .slice sd.a5 sd.n5 sd.c5] 26 (0, 0))) (hr : X0.heap[P9]? = some (.cells #[.int .u32 m9, .slice s9.a1 s9.n1 s9.c1, .slice s9.a2 s9.n2 s9.c2, .slice s9.a3 s9.n3 s9.c3, .slice s9.a4 s9.n4 s9.c4, .slice s9.a5 s9.n5 s9.c5, .slice s9.a6 s9.n6 s9.c6] 37 (0, 0))) (ht : X0.heap[P11]? = some (.cells #[.int .u32 m9, .slice s11.a1 s11.n1 s11.c1, .slice s11.a2 s11.n2 s11.c2, .slice s11.a3 s11.n3 s11.c3, .slice s11.a4 s11.n4 s11.c4, .slice s11.a5 s11.n5 s11.c5, .slice s11.a6 s11.n6 s11.c6] 37 (0, 0)))
    (E1 : Hid (∀ W, Below X0.heap.size X0 W → Calls Try.prog 11 #[.agg #[.int .i64 zc, .slice sc.a1 sc.n1 sc.c1, .slice sc.a2 sc.n2 sc.c2, .slice sc.a3 sc.n3 sc.c3, .slice sc.a4 sc.n4 sc.c4, .slice sc.a5 sc.n5 sc.c5]] W fun e w' => e = .returned (.bool qm) ∧ Below W.heap.size W w'))
    (E2 : Hid (∀ W, Below X0.heap.size X0 W → Calls Try.prog 12 #[.agg #[.int .i64 zc, .slice sc.a1 sc.n1 sc.c1, .slice sc.a2 sc.n2 sc.c2, .slice sc.a3 sc.n3 sc.c3, .slice sc.a4 sc.n4 sc.c4, .slice sc.a5 sc.n5 sc.c5]] W fun e w' => e = .returned (.bool qm) ∧ Below W.heap.size W w'))
    (E3 : Hid (∀ W, Below X0.heap.size X0 W → Calls Try.prog 13 #[.agg #[.int .i64 zc, .slice sc.a1 sc.n1 sc.c1, .slice sc.a2 sc.n2 sc.c2, .slice sc.a3 sc.n3 sc.c3, .slice sc.a4 sc.n4 sc.c4, .slice sc.a5 sc.n5 sc.c5]] W fun e w' => e = .returned (.int .i64 vv) ∧ Below W.heap.size W w'))
    (E4 : Hid (∀ W, Below X0.heap.size X0 W → Calls Try.prog 14 #[.agg #[.int .i64 zc, .slice sc.a1 sc.n1 sc.c1, .slice sc.a2 sc.n2 sc.c2, .slice sc.a3 sc.n3 sc.c3, .slice sc.a4 sc.n4 sc.c4, .slice sc.a5 sc.n5 sc.c5]] W fun e w' => e = .returned (.int .i64 vv) ∧ Below W.heap.size W w'))
    (E5 : Hid (∀ W, Below X0.heap.size X0 W → Calls Try.prog 15 #[.agg #[.int .i64 zc, .slice sc.a1 sc.n1 sc.c1, .slice sc.a2 sc.n2 sc.c2, .slice sc.a3 sc.n3 sc.c3, .slice sc.a4 sc.n4 sc.c4, .slice sc.a5 sc.n5 sc.c5], .agg #[.int .i64 zd, .slice sd.a1 sd.n1 sd.c1, .slice sd.a2 sd.n2 sd.c2, .slice sd.a3 sd.n3 sd.c3, .slice sd.a4 sd.n4 sd.c4, .slice sd.a5 sd.n5 sd.c5]] W fun e w' => e = .returned (.bool qs) ∧ Below W.heap.size W w'))
    (E6 : Hid (∀ W, Below X0.heap.size X0 W → Calls Try.prog 16 #[.agg #[.int .i64 zc, .slice sc.a1 sc.n1 sc.c1, .slice sc.a2 sc.n2 sc.c2, .slice sc.a3 sc.n3 sc.c3, .slice sc.a4 sc.n4 sc.c4, .slice sc.a5 sc.n5 sc.c5], .agg #[.int .i64 zd, .slice sd.a1 sd.n1 sd.c1, .slice sd.a2 sd.n2 sd.c2, .slice sd.a3 sd.n3 sd.c3, .slice sd.a4 sd.n4 sd.c4, .slice sd.a5 sd.n5 sd.c5]] W fun e w' => e = .returned (.bool qs) ∧ Below W.heap.size W w'))
    (E7 : Hid (∀ W, Below X0.heap.size X0 W → Calls Try.prog 17 #[.agg #[.int .u32 m9, .slice s9.a1 s9.n1 s9.c1, .slice s9.a2 s9.n2 s9.c2, .slice s9.a3 s9.n3 s9.c3, .slice s9.a4 s9.n4 s9.c4, .slice s9.a5 s9.n5 s9.c5, .slice s9.a6 s9.n6 s9.c6], .agg #[.int .u32 m9, .slice s11.a1 s11.n1 s11.c1, .slice s11.a2 s11.n2 s11.c2, .slice s11.a3 s11.n3 s11.c3, .slice s11.a4 s11.n4 s11.c4, .slice s11.a5 s11.n5 s11.c5, .slice s11.a6 s11.n6 s11.c6]] W fun e w' => e = .returned (.bool true) ∧ Below W.heap.size W w'))
    (QQ : Exit → Act → World → Prop) {v0 v1 v2 v3 v6 v7 v8 v13 v14 v15 v16 v17 v18 v19 v20 v21 v22 v23 v24 v25 v26 v27 v28 v29 v30 v31 v32 v33 v34 v35 v36 v37 v38 v39 v40 v41 v42 v43 v44 v45 v46 v47 v48 v49 v50 v51 v52 v53 v54 v55 v56 v57 v58 v59 v60 v61 v62 v63 v64 v65 v66 v67 v68 v69 v70 v71 v72 v73 v74 v75 v76 v77 v78 v79 v80 v81 v82 v83 v84 v85 v86 v87 v88 v89 v90 v91 v92 v93 v94 v95 v96 v97 v98 v99 v100 v101 v102 v103 v104 v105 v106 v107 v108 v109 v110 v111 v112 v113 v114 v115 v116 : Value}
    (hK : ∀ (W : World) (u44 u45 u46 u47 u48 u49 u50 u51 u52 u53 u54 u55 u56 u57 u58 u59 u60 u61 u62 u63 u64 u65 u66 u67 u68 u69 u70 u71 u72 u73 u74 : Value), Below X0.heap.size X0 W → QQ .normal ⟨#[v0, v1, v2, v3, .pointer (some ⟨Pc, 0, .none⟩), .pointer (some ⟨Pd, 0, .none⟩), v6, v7, v8, .pointer (some ⟨P9, 0, .none⟩), .int .i64 er, .pointer (some ⟨P11, 0, .none⟩), 
      .int .i64 er, v13, v14, v15, v16, v17, v18, v19, v20, v21, v22, v23, v24, v25, v26, v27, v28, v29, v30, v31, v32, v33, v34, v35, v36, v37, v38, v39, v40, 
      v41, v42, v43, u44, u45, u46, u47, u48, u49, u50, u51, u52, u53, u54, u55, u56, u57, u58, u59, u60, u61, u62, u63, u64, u65, u66, u67, u68, u69, u70, u71, 
      u72, u73, u74, .bool false, v76, v77, v78, v79, v80, v81, v82, v83, v84, v85, v86, v87, v88, v89, v90, v91, v92, v93, v94, v95, v96, v97, v98, v99, v100, 
      v101, v102, v103, v104, v105, v106, v107, v108, v109, v110, v111, v112, v113, v114, v115, v116], []⟩ W) :
    Code.wp Try.prog codeNTelB QQ ⟨#[v0, v1, v2, v3, .pointer (some ⟨Pc, 0, .none⟩), .pointer (some ⟨Pd, 0, .none⟩), v6, v7, v8, .pointer (some ⟨P9, 0, .none⟩), .int .i64 er, .pointer (some ⟨P11, 0, .none⟩), 
      .int .i64 er, v13, v14, v15, v16, v17, v18, v19, v20, v21, v22, v23, v24, v25, v26, v27, v28, v29, v30, v31, v32, v33, v34, v35, v36, v37, v38, v39, v40, 
      v41, v42, v43, v44, v45, v46, v47, v48, v49, v50, v51, v52, v53, v54, v55, v56, v57, v58, v59, v60, v61, v62, v63, v64, v65, v66, v67, v68, v69, v70, v71, 
      v72, v73, v74, v75, v76, v77, v78, v79, v80, v81, v82, v83, v84, v85, v86, v87, v88, v89, v90, v91, v92, v93, v94, v95, v96, v97, v98, v99, v100, v101, 
      v102, v103, v104, v105, v106, v107, v108, v109, v110, v111, v112, v113, v114, v115, v116], []⟩ X0 := by
  have p0 := cell_of_block hp 0
  have p1 := cell_of_block hp 1
  have p2 := cell_of_block hp 2
  have p3 := cell_of_block hp 3
  have p4 := cell_of_block hp 4
  have p5 := cell_of_block hp 5
  have q0 := cell_of_block hq 0
  have q1 := cell_of_block hq 1
  have q2 := cell_of_block hq 2
  have q3 := cell_of_block hq 3
  have q4 := cell_of_block hq 4
  have q5 := cell_of_block hq 5
  have r0 := cell_of_block hr 0
  have r1 := cell_of_block hr 1
  have r2 := cell_of_block hr 2
  have r3 := cell_of_block hr 3
  have r4 := cell_of_block hr 4
  have r5 := cell_of_block hr 5
  have r6 := cell_of_block hr 6
  have t0 := cell_of_block ht 0
  have t1 := cell_of_block ht 1
  have t2 := cell_of_block ht 2
  have t3 := cell_of_block ht 3
  have t4 := cell_of_block ht 4
  have t5 := cell_of_block ht 5
  have t6 := cell_of_block ht 6
  clear hp hq hr ht
  conv => arg 2; whnf
  go_region_held3 (fun w' => w'.cell? ⟨Pc, 0, none⟩ = some (.int .i64 zc) ∧ w'.cell? ⟨Pc, 1, none⟩ = some (.slice sc.a1 sc.n1 sc.c1) ∧ w'.cell? ⟨Pc, 2, none⟩ = some (.slice sc.a2 sc.n2 sc.c2) ∧ w'.cell? ⟨Pc, 3, none⟩ = some (.slice sc.a3 sc.n3 sc.c3) ∧ w'.cell? ⟨Pc, 4, none⟩ = some (.slice sc.a4 sc.n4 sc.c4) ∧ w'.cell? ⟨Pc, 5, none⟩ = some (.slice sc.a5 sc.n5 sc.c5) ∧ w'.cell? ⟨Pd, 0, none⟩ = some (.int .i64 zd) ∧ w'.cell? ⟨Pd, 1, none⟩ = some (.slice sd.a1 sd.n1 sd.c1) ∧ w'.cell? ⟨Pd, 2, none⟩ = some (.slice sd.a2 sd.n2 sd.c2) ∧ w'.cell? ⟨Pd, 3, none⟩ = some (.slice sd.a3 sd.n3 sd.c3) ∧ w'.cell? ⟨Pd, 4, none⟩ = some (.slice sd.a4 sd.n4 sd.c4) ∧ w'.cell? ⟨Pd, 5, none⟩ = some (.slice sd.a5 sd.n5 sd.c5) ∧ w'.cell? ⟨P9, 0, none⟩ = some (.int .u32 m9) ∧ w'.cell? ⟨P9, 1, none⟩ = some (.slice s9.a1 s9.n1 s9.c1) ∧ w'.cell? ⟨P9, 2, none⟩ = some (.slice s9.a2 s9.n2 s9.c2) ∧ w'.cell? ⟨P9, 3, none⟩ = some (.slice s9.a3 s9.n3 s9.c3) ∧ w'.cell? ⟨P9, 4, none⟩ = some (.slice s9.a4 s9.n4 s9.c4) ∧ w'.cell? ⟨P9, 5, none⟩ = some (.slice s9.a5 s9.n5 s9.c5) ∧ w'.cell? ⟨P9, 6, none⟩ = some (.slice s9.a6 s9.n6 s9.c6) ∧ w'.cell? ⟨P11, 0, none⟩ = some (.int .u32 m9) ∧ w'.cell? ⟨P11, 1, none⟩ = some (.slice s11.a1 s11.n1 s11.c1) ∧ w'.cell? ⟨P11, 2, none⟩ = some (.slice s11.a2 s11.n2 s11.c2) ∧ w'.cell? ⟨P11, 3, none⟩ = some (.slice s11.a3 s11.n3 s11.c3) ∧ w'.cell? ⟨P11, 4, none⟩ = some (.slice s11.a4 s11.n4 s11.c4) ∧ w'.cell? ⟨P11, 5, none⟩ = some (.slice s11.a5 s11.n5 s11.c5) ∧ w'.cell? ⟨P11, 6, none⟩ = some (.slice s11.a6 s11.n6 s11.c6))
    (first | with_reducible exact ⟨p0, p1, p2, p3, p4, p5, q0, q1, q2, q3, q4, q5, r0, r1, r2, r3, r4, r5, r6, t0, t1, t2, t3, t4, t5, t6⟩ | with_reducible exact ⟨cell_drew p0, cell_drew p1, cell_drew p2, cell_drew p3, cell_drew p4, cell_drew p5, cell_drew q0, cell_drew q1, cell_drew q2, cell_drew q3, cell_drew q4, cell_drew q5, cell_drew r0, cell_drew r1, cell_drew r2, cell_drew r3, cell_drew r4, cell_drew r5, cell_drew r6, cell_drew t0, cell_drew t1, cell_drew t2, cell_drew t3, cell_drew t4, cell_drew t5, cell_drew t6⟩ | with_reducible exact ⟨d1_0, d1_1, d1_2, d1_3, d1_4, d1_5, d1_6, d1_7, d1_8, d1_9, d1_10, d1_11, d1_12, d1_13, d1_14, d1_15, d1_16, d1_17, d1_18, d1_19, d1_20, d1_21, d1_22, d1_23, d1_24, d1_25⟩ | with_reducible exact ⟨cell_drew d1_0, cell_drew d1_1, cell_drew d1_2, cell_drew d1_3, cell_drew d1_4, cell_drew d1_5, cell_drew d1_6, cell_drew d1_7, cell_drew d1_8, cell_drew d1_9, cell_drew d1_10, cell_drew d1_11, cell_drew d1_12, cell_drew d1_13, cell_drew d1_14, cell_drew d1_15, cell_drew d1_16, cell_drew d1_17, cell_drew d1_18, cell_drew d1_19, cell_drew d1_20, cell_drew d1_21, cell_drew d1_22, cell_drew d1_23, cell_drew d1_24, cell_drew d1_25⟩ | with_reducible exact ⟨d2_0, d2_1, d2_2, d2_3, d2_4, d2_5, d2_6, d2_7, d2_8, d2_9, d2_10, d2_11, d2_12, d2_13, d2_14, d2_15, d2_16, d2_17, d2_18, d2_19, d2_20, d2_21, d2_22, d2_23, d2_24, d2_25⟩ | with_reducible exact ⟨cell_drew d2_0, cell_drew d2_1, cell_drew d2_2, cell_drew d2_3, cell_drew d2_4, cell_drew d2_5, cell_drew d2_6, cell_drew d2_7, cell_drew d2_8, cell_drew d2_9, cell_drew d2_10, cell_drew d2_11, cell_drew d2_12, cell_drew d2_13, cell_drew d2_14, cell_drew d2_15, cell_drew d2_16, cell_drew d2_17, cell_drew d2_18, cell_drew d2_19, cell_drew d2_20, cell_drew d2_21, cell_drew d2_22, cell_drew d2_23, cell_drew d2_24, cell_drew d2_25⟩ | with_reducible exact ⟨d3_0, d3_1, d3_2, d3_3, d3_4, d3_5, d3_6, d3_7, d3_8, d3_9, d3_10, d3_11, d3_12, d3_13, d3_14, d3_15, d3_16, d3_17, d3_18, d3_19, d3_20, d3_21, d3_22, d3_23, d3_24, d3_25⟩ | with_reducible exact ⟨cell_drew d3_0, cell_drew d3_1, cell_drew d3_2, cell_drew d3_3, cell_drew d3_4, cell_drew d3_5, cell_drew d3_6, cell_drew d3_7, cell_drew d3_8, cell_drew d3_9, cell_drew d3_10, cell_drew d3_11, cell_drew d3_12, cell_drew d3_13, cell_drew d3_14, cell_drew d3_15, cell_drew d3_16, cell_drew d3_17, cell_drew d3_18, cell_drew d3_19, cell_drew d3_20, cell_drew d3_21, cell_drew d3_22, cell_drew d3_23, cell_drew d3_24, cell_drew d3_25⟩ | with_reducible exact ⟨d4_0, d4_1, d4_2, d4_3, d4_4, d4_5, d4_6, d4_7, d4_8, d4_9, d4_10, d4_11, d4_12, d4_13, d4_14, d4_15, d4_16, d4_17, d4_18, d4_19, d4_20, d4_21, d4_22, d4_23, d4_24, d4_25⟩ | with_reducible exact ⟨cell_drew d4_0, cell_drew d4_1, cell_drew d4_2, cell_drew d4_3, cell_drew d4_4, cell_drew d4_5, cell_drew d4_6, cell_drew d4_7, cell_drew d4_8, cell_drew d4_9, cell_drew d4_10, cell_drew d4_11, cell_drew d4_12, cell_drew d4_13, cell_drew d4_14, cell_drew d4_15, cell_drew d4_16, cell_drew d4_17, cell_drew d4_18, cell_drew d4_19, cell_drew d4_20, cell_drew d4_21, cell_drew d4_22, cell_drew d4_23, cell_drew d4_24, cell_drew d4_25⟩ | with_reducible exact ⟨d5_0, d5_1, d5_2, d5_3, d5_4, d5_5, d5_6, d5_7, d5_8, d5_9, d5_10, d5_11, d5_12, d5_13, d5_14, d5_15, d5_16, d5_17, d5_18, d5_19, d5_20, d5_21, d5_22, d5_23, d5_24, d5_25⟩ | with_reducible exact ⟨cell_drew d5_0, cell_drew d5_1, cell_drew d5_2, cell_drew d5_3, cell_drew d5_4, cell_drew d5_5, cell_drew d5_6, cell_drew d5_7, cell_drew d5_8, cell_drew d5_9, cell_drew d5_10, cell_drew d5_11, cell_drew d5_12, cell_drew d5_13, cell_drew d5_14, cell_drew d5_15, cell_drew d5_16, cell_drew d5_17, cell_drew d5_18, cell_drew d5_19, cell_drew d5_20, cell_drew d5_21, cell_drew d5_22, cell_drew d5_23, cell_drew d5_24, cell_drew d5_25⟩ | with_reducible exact ⟨d6_0, d6_1, d6_2, d6_3, d6_4, d6_5, d6_6, d6_7, d6_8, d6_9, d6_10, d6_11, d6_12, d6_13, d6_14, d6_15, d6_16, d6_17, d6_18, d6_19, d6_20, d6_21, d6_22, d6_23, d6_24, d6_25⟩ | with_reducible exact ⟨cell_drew d6_0, cell_drew d6_1, cell_drew d6_2, cell_drew d6_3, cell_drew d6_4, cell_drew d6_5, cell_drew d6_6, cell_drew d6_7, cell_drew d6_8, cell_drew d6_9, cell_drew d6_10, cell_drew d6_11, cell_drew d6_12, cell_drew d6_13, cell_drew d6_14, cell_drew d6_15, cell_drew d6_16, cell_drew d6_17, cell_drew d6_18, cell_drew d6_19, cell_drew d6_20, cell_drew d6_21, cell_drew d6_22, cell_drew d6_23, cell_drew d6_24, cell_drew d6_25⟩ | with_reducible exact ⟨d7_0, d7_1, d7_2, d7_3, d7_4, d7_5, d7_6, d7_7, d7_8, d7_9, d7_10, d7_11, d7_12, d7_13, d7_14, d7_15, d7_16, d7_17, d7_18, d7_19, d7_20, d7_21, d7_22, d7_23, d7_24, d7_25⟩ | with_reducible exact ⟨cell_drew d7_0, cell_drew d7_1, cell_drew d7_2, cell_drew d7_3, cell_drew d7_4, cell_drew d7_5, cell_drew d7_6, cell_drew d7_7, cell_drew d7_8, cell_drew d7_9, cell_drew d7_10, cell_drew d7_11, cell_drew d7_12, cell_drew d7_13, cell_drew d7_14, cell_drew d7_15, cell_drew d7_16, cell_drew d7_17, cell_drew d7_18, cell_drew d7_19, cell_drew d7_20, cell_drew d7_21, cell_drew d7_22, cell_drew d7_23, cell_drew d7_24, cell_drew d7_25⟩ | go_keep)
    (first
      | (go_at_call 11; (with_reducible refine (E1.out _ (by first | with_reducible exact (Below.refl X0.heap.size X0) | with_reducible exact (Below.refl X0.heap.size X0).drew)).mono ?_); rintro e s1 ⟨rfl, b1⟩; have HB1 : Below X0.heap.size X0 s1 := (by first | exact ext_trans (Below.refl _ X0) b1 | exact ext_trans ((Below.refl _ X0).drew) b1); have d1_0 := cell_below p0 HB1; have d1_1 := cell_below p1 HB1; have d1_2 := cell_below p2 HB1; have d1_3 := cell_below p3 HB1; have d1_4 := cell_below p4 HB1; have d1_5 := cell_below p5 HB1; have d1_6 := cell_below q0 HB1; have d1_7 := cell_below q1 HB1; have d1_8 := cell_below q2 HB1; have d1_9 := cell_below q3 HB1; have d1_10 := cell_below q4 HB1; have d1_11 := cell_below q5 HB1; have d1_12 := cell_below r0 HB1; have d1_13 := cell_below r1 HB1; have d1_14 := cell_below r2 HB1; have d1_15 := cell_below r3 HB1; have d1_16 := cell_below r4 HB1; have d1_17 := cell_below r5 HB1; have d1_18 := cell_below r6 HB1; have d1_19 := cell_below t0 HB1; have d1_20 := cell_below t1 HB1; have d1_21 := cell_below t2 HB1; have d1_22 := cell_below t3 HB1; have d1_23 := cell_below t4 HB1; have d1_24 := cell_below t5 HB1; have d1_25 := cell_below t6 HB1)
      | (go_at_call 12; (with_reducible refine (E2.out _ (by first | with_reducible exact HB1 | with_reducible exact HB1.drew)).mono ?_); rintro e s2 ⟨rfl, b2⟩; have HB2 : Below X0.heap.size X0 s2 := (by first | exact ext_trans (HB1) b2 | exact ext_trans ((HB1).drew) b2); have d2_0 := cell_below p0 HB2; have d2_1 := cell_below p1 HB2; have d2_2 := cell_below p2 HB2; have d2_3 := cell_below p3 HB2; have d2_4 := cell_below p4 HB2; have d2_5 := cell_below p5 HB2; have d2_6 := cell_below q0 HB2; have d2_7 := cell_below q1 HB2; have d2_8 := cell_below q2 HB2; have d2_9 := cell_below q3 HB2; have d2_10 := cell_below q4 HB2; have d2_11 := cell_below q5 HB2; have d2_12 := cell_below r0 HB2; have d2_13 := cell_below r1 HB2; have d2_14 := cell_below r2 HB2; have d2_15 := cell_below r3 HB2; have d2_16 := cell_below r4 HB2; have d2_17 := cell_below r5 HB2; have d2_18 := cell_below r6 HB2; have d2_19 := cell_below t0 HB2; have d2_20 := cell_below t1 HB2; have d2_21 := cell_below t2 HB2; have d2_22 := cell_below t3 HB2; have d2_23 := cell_below t4 HB2; have d2_24 := cell_below t5 HB2; have d2_25 := cell_below t6 HB2)
      | (go_at_call 13; (with_reducible refine (E3.out _ (by first | with_reducible exact HB2 | with_reducible exact HB2.drew)).mono ?_); rintro e s3 ⟨rfl, b3⟩; have HB3 : Below X0.heap.size X0 s3 := (by first | exact ext_trans (HB2) b3 | exact ext_trans ((HB2).drew) b3); have d3_0 := cell_below p0 HB3; have d3_1 := cell_below p1 HB3; have d3_2 := cell_below p2 HB3; have d3_3 := cell_below p3 HB3; have d3_4 := cell_below p4 HB3; have d3_5 := cell_below p5 HB3; have d3_6 := cell_below q0 HB3; have d3_7 := cell_below q1 HB3; have d3_8 := cell_below q2 HB3; have d3_9 := cell_below q3 HB3; have d3_10 := cell_below q4 HB3; have d3_11 := cell_below q5 HB3; have d3_12 := cell_below r0 HB3; have d3_13 := cell_below r1 HB3; have d3_14 := cell_below r2 HB3; have d3_15 := cell_below r3 HB3; have d3_16 := cell_below r4 HB3; have d3_17 := cell_below r5 HB3; have d3_18 := cell_below r6 HB3; have d3_19 := cell_below t0 HB3; have d3_20 := cell_below t1 HB3; have d3_21 := cell_below t2 HB3; have d3_22 := cell_below t3 HB3; have d3_23 := cell_below t4 HB3; have d3_24 := cell_below t5 HB3; have d3_25 := cell_below t6 HB3)
      | (go_at_call 14; (with_reducible refine (E4.out _ (by first | with_reducible exact HB3 | with_reducible exact HB3.drew)).mono ?_); rintro e s4 ⟨rfl, b4⟩; have HB4 : Below X0.heap.size X0 s4 := (by first | exact ext_trans (HB3) b4 | exact ext_trans ((HB3).drew) b4); have d4_0 := cell_below p0 HB4; have d4_1 := cell_below p1 HB4; have d4_2 := cell_below p2 HB4; have d4_3 := cell_below p3 HB4; have d4_4 := cell_below p4 HB4; have d4_5 := cell_below p5 HB4; have d4_6 := cell_below q0 HB4; have d4_7 := cell_below q1 HB4; have d4_8 := cell_below q2 HB4; have d4_9 := cell_below q3 HB4; have d4_10 := cell_below q4 HB4; have d4_11 := cell_below q5 HB4; have d4_12 := cell_below r0 HB4; have d4_13 := cell_below r1 HB4; have d4_14 := cell_below r2 HB4; have d4_15 := cell_below r3 HB4; have d4_16 := cell_below r4 HB4; have d4_17 := cell_below r5 HB4; have d4_18 := cell_below r6 HB4; have d4_19 := cell_below t0 HB4; have d4_20 := cell_below t1 HB4; have d4_21 := cell_below t2 HB4; have d4_22 := cell_below t3 HB4; have d4_23 := cell_below t4 HB4; have d4_24 := cell_below t5 HB4; have d4_25 := cell_below t6 HB4)
      | (go_at_call 15; (with_reducible refine (E5.out _ (by first | with_reducible exact HB4 | with_reducible exact HB4.drew)).mono ?_); rintro e s5 ⟨rfl, b5⟩; have HB5 : Below X0.heap.size X0 s5 := (by first | exact ext_trans (HB4) b5 | exact ext_trans ((HB4).drew) b5); have d5_0 := cell_below p0 HB5; have d5_1 := cell_below p1 HB5; have d5_2 := cell_below p2 HB5; have d5_3 := cell_below p3 HB5; have d5_4 := cell_below p4 HB5; have d5_5 := cell_below p5 HB5; have d5_6 := cell_below q0 HB5; have d5_7 := cell_below q1 HB5; have d5_8 := cell_below q2 HB5; have d5_9 := cell_below q3 HB5; have d5_10 := cell_below q4 HB5; have d5_11 := cell_below q5 HB5; have d5_12 := cell_below r0 HB5; have d5_13 := cell_below r1 HB5; have d5_14 := cell_below r2 HB5; have d5_15 := cell_below r3 HB5; have d5_16 := cell_below r4 HB5; have d5_17 := cell_below r5 HB5; have d5_18 := cell_below r6 HB5; have d5_19 := cell_below t0 HB5; have d5_20 := cell_below t1 HB5; have d5_21 := cell_below t2 HB5; have d5_22 := cell_below t3 HB5; have d5_23 := cell_below t4 HB5; have d5_24 := cell_below t5 HB5; have d5_25 := cell_below t6 HB5)
      | (go_at_call 16; (with_reducible refine (E6.out _ (by first | with_reducible exact HB5 | with_reducible exact HB5.drew)).mono ?_); rintro e s6 ⟨rfl, b6⟩; have HB6 : Below X0.heap.size X0 s6 := (by first | exact ext_trans (HB5) b6 | exact ext_trans ((HB5).drew) b6); have d6_0 := cell_below p0 HB6; have d6_1 := cell_below p1 HB6; have d6_2 := cell_below p2 HB6; have d6_3 := cell_below p3 HB6; have d6_4 := cell_below p4 HB6; have d6_5 := cell_below p5 HB6; have d6_6 := cell_below q0 HB6; have d6_7 := cell_below q1 HB6; have d6_8 := cell_below q2 HB6; have d6_9 := cell_below q3 HB6; have d6_10 := cell_below q4 HB6; have d6_11 := cell_below q5 HB6; have d6_12 := cell_below r0 HB6; have d6_13 := cell_below r1 HB6; have d6_14 := cell_below r2 HB6; have d6_15 := cell_below r3 HB6; have d6_16 := cell_below r4 HB6; have d6_17 := cell_below r5 HB6; have d6_18 := cell_below r6 HB6; have d6_19 := cell_below t0 HB6; have d6_20 := cell_below t1 HB6; have d6_21 := cell_below t2 HB6; have d6_22 := cell_below t3 HB6; have d6_23 := cell_below t4 HB6; have d6_24 := cell_below t5 HB6; have d6_25 := cell_below t6 HB6)
      | (go_at_call 17; (with_reducible refine (E7.out _ (by first | with_reducible exact HB6 | with_reducible exact HB6.drew)).mono ?_); rintro e s7 ⟨rfl, b7⟩; have HB7 : Below X0.heap.size X0 s7 := (by first | exact ext_trans (HB6) b7 | exact ext_trans ((HB6).drew) b7); have d7_0 := cell_below p0 HB7; have d7_1 := cell_below p1 HB7; have d7_2 := cell_below p2 HB7; have d7_3 := cell_below p3 HB7; have d7_4 := cell_below p4 HB7; have d7_5 := cell_below p5 HB7; have d7_6 := cell_below q0 HB7; have d7_7 := cell_below q1 HB7; have d7_8 := cell_below q2 HB7; have d7_9 := cell_below q3 HB7; have d7_10 := cell_below q4 HB7; have d7_11 := cell_below q5 HB7; have d7_12 := cell_below r0 HB7; have d7_13 := cell_below r1 HB7; have d7_14 := cell_below r2 HB7; have d7_15 := cell_below r3 HB7; have d7_16 := cell_below r4 HB7; have d7_17 := cell_below r5 HB7; have d7_18 := cell_below r6 HB7; have d7_19 := cell_below t0 HB7; have d7_20 := cell_below t1 HB7; have d7_21 := cell_below t2 HB7; have d7_22 := cell_below t3 HB7; have d7_23 := cell_below t4 HB7; have d7_24 := cell_below t5 HB7; have d7_25 := cell_below t6 HB7))
  exact hK _ _ _ _ _ _ _ _ _ _ _ _ _ _ _ _ _ _ _ _ _ _ _ _ _ _ _ _ _ _ _ _ HB7
end Go.Proofs.Ytkbdebdhebphpaa
/- A region of NormTells that holds answers against the reference's, over whatever frame. -/
namespace Go.Proofs.Ytkbdebdhebphpaa
open Go Go.RowKit Go.Joins

noncomputable def codeNTelC : Code := ((Try.f3.body.bind (findRegion 7)).getD .skip)
set_option maxRecDepth 100000 in
set_option maxHeartbeats 25600000 in
theorem reg_NTelC (Pc Pt Pu : Nat) (zc bt bu : Int) (qf qs : Bool) (sc : CSlots) (st su : TSlots) (X0 : World) (hp : X0.heap[Pc]? = some (.cells #[.int .i64 zc, .slice sc.a1 sc.n1 sc.c1, .slice sc.a2 sc.n2 sc.c2, .slice sc.a3 sc.n3 sc.c3, .slice sc.a4 sc.n4 sc.c4, .slice sc.a5 sc.n5 sc.c5] 26 (0, 0))) (hq : X0.heap[Pt]? = some (.cells #[.int .i64 bt, .slice st.a1 st.n1 st.c1, .slice st.a2 st.n2 st.c2] 30 (0, 0))) (hr : X0.heap[Pu]? = some (.cells #[.int .i64 bu, .slice su.a1 su.n1 su.c1, .slice su.a2 su.n2 su.c2] 30 (0, 0)))
    (E1 : Hid (∀ W, Below X0.heap.size X0 W → Calls Try.prog 18 #[.agg #[.int .i64 zc, .slice sc.a1 sc.n1 sc.c1, .slice sc.a2 sc.n2 sc.c2, .slice sc.a3 sc.n3 sc.c3, .slice sc.a4 sc.n4 sc.c4, .slice sc.a5 sc.n5 sc.c5], .agg #[.int .i64 bt, .slice st.a1 st.n1 st.c1, .slice st.a2 st.n2 st.c2]] W fun e w' => e = .returned (.bool qf) ∧ Below W.heap.size W w'))
    (E2 : Hid (∀ W, Below X0.heap.size X0 W → Calls Try.prog 19 #[.agg #[.int .i64 zc, .slice sc.a1 sc.n1 sc.c1, .slice sc.a2 sc.n2 sc.c2, .slice sc.a3 sc.n3 sc.c3, .slice sc.a4 sc.n4 sc.c4, .slice sc.a5 sc.n5 sc.c5], .agg #[.int .i64 bt, .slice st.a1 st.n1 st.c1, .slice st.a2 st.n2 st.c2]] W fun e w' => e = .returned (.bool qf) ∧ Below W.heap.size W w'))
    (E3 : Hid (∀ W, Below X0.heap.size X0 W → Calls Try.prog 20 #[.agg #[.int .i64 bt, .slice st.a1 st.n1 st.c1, .slice st.a2 st.n2 st.c2], .agg #[.int .i64 bu, .slice su.a1 su.n1 su.c1, .slice su.a2 su.n2 su.c2]] W fun e w' => e = .returned (.bool qs) ∧ Below W.heap.size W w'))
    (E4 : Hid (∀ W, Below X0.heap.size X0 W → Calls Try.prog 21 #[.agg #[.int .i64 bt, .slice st.a1 st.n1 st.c1, .slice st.a2 st.n2 st.c2], .agg #[.int .i64 bu, .slice su.a1 su.n1 su.c1, .slice su.a2 su.n2 su.c2]] W fun e w' => e = .returned (.bool qs) ∧ Below W.heap.size W w'))
    (QQ : Exit → Act → World → Prop) {v0 v1 v2 v3 v5 v8 v9 v10 v11 v12 v13 v14 v15 v16 v17 v18 v19 v20 v21 v22 v23 v24 v25 v26 v27 v28 v29 v30 v31 v32 v33 v34 v35 v36 v37 v38 v39 v40 v41 v42 v43 v44 v45 v46 v47 v48 v49 v50 v51 v52 v53 v54 v55 v56 v57 v58 v59 v60 v61 v62 v63 v64 v65 v66 v67 v68 v69 v70 v71 v72 v73 v74 v75 v76 v77 v78 v79 v80 v81 v82 v83 v84 v85 v86 v87 v88 v89 v90 v91 v92 v93 v94 v95 v96 v97 v98 v99 v100 v101 v102 v103 v104 v105 v106 v107 v108 v109 v110 v111 v112 v113 v114 v115 v116 : Value}
    (hK : ∀ (W : World) (u76 u77 u78 u79 u80 u81 u82 u83 u84 u85 u86 u87 u88 u89 u90 : Value), Below X0.heap.size X0 W → QQ .normal ⟨#[v0, v1, v2, v3, .pointer (some ⟨Pc, 0, .none⟩), v5, .pointer (some ⟨Pt, 0, .none⟩), .pointer (some ⟨Pu, 0, .none⟩), v8, v9, v10, v11, v12, v13, v14, v15, 
      v16, v17, v18, v19, v20, v21, v22, v23, v24, v25, v26, v27, v28, v29, v30, v31, v32, v33, v34, v35, v36, v37, v38, v39, v40, v41, v42, v43, v44, v45, v46, 
      v47, v48, v49, v50, v51, v52, v53, v54, v55, v56, v57, v58, v59, v60, v61, v62, v63, v64, v65, v66, v67, v68, v69, v70, v71, v72, v73, v74, v75, u76, u77, 
      u78, u79, u80, u81, u82, u83, u84, u85, u86, u87, u88, u89, u90, .bool false, v92, v93, v94, v95, v96, v97, v98, v99, v100, v101, v102, v103, v104, v105, 
      v106, v107, v108, v109, v110, v111, v112, v113, v114, v115, v116], []⟩ W) :
    Code.wp Try.prog codeNTelC QQ ⟨#[v0, v1, v2, v3, .pointer (some ⟨Pc, 0, .none⟩), v5, .pointer (some ⟨Pt, 0, .none⟩), .pointer (some ⟨Pu, 0, .none⟩), v8, v9, v10, v11, v12, v13, v14, v15, 
      v16, v17, v18, v19, v20, v21, v22, v23, v24, v25, v26, v27, v28, v29, v30, v31, v32, v33, v34, v35, v36, v37, v38, v39, v40, v41, v42, v43, v44, v45, v46, 
      v47, v48, v49, v50, v51, v52, v53, v54, v55, v56, v57, v58, v59, v60, v61, v62, v63, v64, v65, v66, v67, v68, v69, v70, v71, v72, v73, v74, v75, v76, v77, 
      v78, v79, v80, v81, v82, v83, v84, v85, v86, v87, v88, v89, v90, v91, v92, v93, v94, v95, v96, v97, v98, v99, v100, v101, v102, v103, v104, v105, v106, 
      v107, v108, v109, v110, v111, v112, v113, v114, v115, v116], []⟩ X0 := by
  have p0 := cell_of_block hp 0
  have p1 := cell_of_block hp 1
  have p2 := cell_of_block hp 2
  have p3 := cell_of_block hp 3
  have p4 := cell_of_block hp 4
  have p5 := cell_of_block hp 5
  have q0 := cell_of_block hq 0
  have q1 := cell_of_block hq 1
  have q2 := cell_of_block hq 2
  have r0 := cell_of_block hr 0
  have r1 := cell_of_block hr 1
  have r2 := cell_of_block hr 2
  clear hp hq hr
  conv => arg 2; whnf
  go_region_held3 (fun w' => w'.cell? ⟨Pc, 0, none⟩ = some (.int .i64 zc) ∧ w'.cell? ⟨Pc, 1, none⟩ = some (.slice sc.a1 sc.n1 sc.c1) ∧ w'.cell? ⟨Pc, 2, none⟩ = some (.slice sc.a2 sc.n2 sc.c2) ∧ w'.cell? ⟨Pc, 3, none⟩ = some (.slice sc.a3 sc.n3 sc.c3) ∧ w'.cell? ⟨Pc, 4, none⟩ = some (.slice sc.a4 sc.n4 sc.c4) ∧ w'.cell? ⟨Pc, 5, none⟩ = some (.slice sc.a5 sc.n5 sc.c5) ∧ w'.cell? ⟨Pt, 0, none⟩ = some (.int .i64 bt) ∧ w'.cell? ⟨Pt, 1, none⟩ = some (.slice st.a1 st.n1 st.c1) ∧ w'.cell? ⟨Pt, 2, none⟩ = some (.slice st.a2 st.n2 st.c2) ∧ w'.cell? ⟨Pu, 0, none⟩ = some (.int .i64 bu) ∧ w'.cell? ⟨Pu, 1, none⟩ = some (.slice su.a1 su.n1 su.c1) ∧ w'.cell? ⟨Pu, 2, none⟩ = some (.slice su.a2 su.n2 su.c2))
    (first | with_reducible exact ⟨p0, p1, p2, p3, p4, p5, q0, q1, q2, r0, r1, r2⟩ | with_reducible exact ⟨cell_drew p0, cell_drew p1, cell_drew p2, cell_drew p3, cell_drew p4, cell_drew p5, cell_drew q0, cell_drew q1, cell_drew q2, cell_drew r0, cell_drew r1, cell_drew r2⟩ | with_reducible exact ⟨d1_0, d1_1, d1_2, d1_3, d1_4, d1_5, d1_6, d1_7, d1_8, d1_9, d1_10, d1_11⟩ | with_reducible exact ⟨cell_drew d1_0, cell_drew d1_1, cell_drew d1_2, cell_drew d1_3, cell_drew d1_4, cell_drew d1_5, cell_drew d1_6, cell_drew d1_7, cell_drew d1_8, cell_drew d1_9, cell_drew d1_10, cell_drew d1_11⟩ | with_reducible exact ⟨d2_0, d2_1, d2_2, d2_3, d2_4, d2_5, d2_6, d2_7, d2_8, d2_9, d2_10, d2_11⟩ | with_reducible exact ⟨cell_drew d2_0, cell_drew d2_1, cell_drew d2_2, cell_drew d2_3, cell_drew d2_4, cell_drew d2_5, cell_drew d2_6, cell_drew d2_7, cell_drew d2_8, cell_drew d2_9, cell_drew d2_10, cell_drew d2_11⟩ | with_reducible exact ⟨d3_0, d3_1, d3_2, d3_3, d3_4, d3_5, d3_6, d3_7, d3_8, d3_9, d3_10, d3_11⟩ | with_reducible exact ⟨cell_drew d3_0, cell_drew d3_1, cell_drew d3_2, cell_drew d3_3, cell_drew d3_4, cell_drew d3_5, cell_drew d3_6, cell_drew d3_7, cell_drew d3_8, cell_drew d3_9, cell_drew d3_10, cell_drew d3_11⟩ | with_reducible exact ⟨d4_0, d4_1, d4_2, d4_3, d4_4, d4_5, d4_6, d4_7, d4_8, d4_9, d4_10, d4_11⟩ | with_reducible exact ⟨cell_drew d4_0, cell_drew d4_1, cell_drew d4_2, cell_drew d4_3, cell_drew d4_4, cell_drew d4_5, cell_drew d4_6, cell_drew d4_7, cell_drew d4_8, cell_drew d4_9, cell_drew d4_10, cell_drew d4_11⟩ | go_keep)
    (first
      | (go_at_call 18; (with_reducible refine (E1.out _ (by first | with_reducible exact (Below.refl X0.heap.size X0) | with_reducible exact (Below.refl X0.heap.size X0).drew)).mono ?_); rintro e s1 ⟨rfl, b1⟩; have HB1 : Below X0.heap.size X0 s1 := (by first | exact ext_trans (Below.refl _ X0) b1 | exact ext_trans ((Below.refl _ X0).drew) b1); have d1_0 := cell_below p0 HB1; have d1_1 := cell_below p1 HB1; have d1_2 := cell_below p2 HB1; have d1_3 := cell_below p3 HB1; have d1_4 := cell_below p4 HB1; have d1_5 := cell_below p5 HB1; have d1_6 := cell_below q0 HB1; have d1_7 := cell_below q1 HB1; have d1_8 := cell_below q2 HB1; have d1_9 := cell_below r0 HB1; have d1_10 := cell_below r1 HB1; have d1_11 := cell_below r2 HB1)
      | (go_at_call 19; (with_reducible refine (E2.out _ (by first | with_reducible exact HB1 | with_reducible exact HB1.drew)).mono ?_); rintro e s2 ⟨rfl, b2⟩; have HB2 : Below X0.heap.size X0 s2 := (by first | exact ext_trans (HB1) b2 | exact ext_trans ((HB1).drew) b2); have d2_0 := cell_below p0 HB2; have d2_1 := cell_below p1 HB2; have d2_2 := cell_below p2 HB2; have d2_3 := cell_below p3 HB2; have d2_4 := cell_below p4 HB2; have d2_5 := cell_below p5 HB2; have d2_6 := cell_below q0 HB2; have d2_7 := cell_below q1 HB2; have d2_8 := cell_below q2 HB2; have d2_9 := cell_below r0 HB2; have d2_10 := cell_below r1 HB2; have d2_11 := cell_below r2 HB2)
      | (go_at_call 20; (with_reducible refine (E3.out _ (by first | with_reducible exact HB2 | with_reducible exact HB2.drew)).mono ?_); rintro e s3 ⟨rfl, b3⟩; have HB3 : Below X0.heap.size X0 s3 := (by first | exact ext_trans (HB2) b3 | exact ext_trans ((HB2).drew) b3); have d3_0 := cell_below p0 HB3; have d3_1 := cell_below p1 HB3; have d3_2 := cell_below p2 HB3; have d3_3 := cell_below p3 HB3; have d3_4 := cell_below p4 HB3; have d3_5 := cell_below p5 HB3; have d3_6 := cell_below q0 HB3; have d3_7 := cell_below q1 HB3; have d3_8 := cell_below q2 HB3; have d3_9 := cell_below r0 HB3; have d3_10 := cell_below r1 HB3; have d3_11 := cell_below r2 HB3)
      | (go_at_call 21; (with_reducible refine (E4.out _ (by first | with_reducible exact HB3 | with_reducible exact HB3.drew)).mono ?_); rintro e s4 ⟨rfl, b4⟩; have HB4 : Below X0.heap.size X0 s4 := (by first | exact ext_trans (HB3) b4 | exact ext_trans ((HB3).drew) b4); have d4_0 := cell_below p0 HB4; have d4_1 := cell_below p1 HB4; have d4_2 := cell_below p2 HB4; have d4_3 := cell_below p3 HB4; have d4_4 := cell_below p4 HB4; have d4_5 := cell_below p5 HB4; have d4_6 := cell_below q0 HB4; have d4_7 := cell_below q1 HB4; have d4_8 := cell_below q2 HB4; have d4_9 := cell_below r0 HB4; have d4_10 := cell_below r1 HB4; have d4_11 := cell_below r2 HB4))
  exact hK _ _ _ _ _ _ _ _ _ _ _ _ _ _ _ _ HB4
end Go.Proofs.Ytkbdebdhebphpaa
/- The reference's Same, at what is the same. -/
namespace Go.Proofs.Ytkbdebdhebphpaa
open Go Go.RowKit Go.Joins

theorem eqn_same (xs : List Nat) (a a' : Option Addr) (n c n' c' : Nat) (w : World) (h : Sees w a n c (xs.map nv32)) (h' : Sees w a' n' c' (xs.map nv32)) (hn : n ≤ 1000000000) :
    Calls Try.prog 45 #[.slice a n c, .slice a' n' c'] w fun e w' => e = .returned (.bool true) ∧ Below w.heap.size w w' := by
  refine (eqnums_any xs xs a a' n c n' c' w h h' hn).mono fun e w' hp => ?_
  obtain ⟨h1, q, rfl⟩ := hp
  exact ⟨by simpa using h1, ext_drewN w q⟩

set_option maxRecDepth 100000 in
set_option maxHeartbeats 1600000 in
theorem ref2_yes (r : RawC) (s s' : Slots) (w : World) (h : SeesRaw w s r) (h' : SeesRaw w s' r) (hf1 : s.n1 ≤ 1000000) (hf2 : s.n2 ≤ 1000000) (hf3 : s.n3 ≤ 1000000) (hf4 : s.n4 ≤ 1000000) (hf5 : s.n5 ≤ 1000000) (hf6 : s.n6 ≤ 1000000) :
    Calls Try.prog 17 #[rawV r.max s, rawV r.max s'] w fun e w' => e = .returned (.bool true) ∧ Below w.heap.size w w' := by
  obtain ⟨m, hm⟩ : ∃ m, m = r.max := ⟨_, rfl⟩
  rw [← hm]
  clear hm
  obtain ⟨a1, n1, c1, a2, n2, c2, a3, n3, c3, a4, n4, c4, a5, n5, c5, a6, n6, c6⟩ := s
  obtain ⟨a1', n1', c1', a2', n2', c2', a3', n3', c3', a4', n4', c4', a5', n5', c5', a6', n6', c6'⟩ := s'
  simp only at hf1 hf2 hf3 hf4 hf5 hf6
  have e2 : n2 = n2' := h.s2.1.symm.trans h'.s2.1
  have e6 : n6 = n6' := h.s6.1.symm.trans h'.s6.1
  subst e2
  subst e6
  have HS := Lib.hid h
  have HS' := Lib.hid h'
  clear h h'
  unfold rawV
  go_enter Try.func17, Try.ntmps17
  have B0 : Below w.heap.size w ((w.alloc (.cells #[.int .u32 m, .slice a1 n1 c1, .slice a2 n2 c2, .slice a3 n3 c3, .slice a4 n4 c4, .slice a5 n5 c5, .slice a6 n6 c6] 37)).alloc (.cells #[.int .u32 m, .slice a1' n1' c1', .slice a2' n2 c2', .slice a3' n3' c3', .slice a4' n4' c4', .slice a5' n5' c5', .slice a6' n6 c6'] 37)) := ext_trans (ext_alloc _ _) (ext_alloc _ _)
  have hx : Hid (((w.alloc (.cells #[.int .u32 m, .slice a1 n1 c1, .slice a2 n2 c2, .slice a3 n3 c3, .slice a4 n4 c4, .slice a5 n5 c5, .slice a6 n6 c6] 37)).alloc (.cells #[.int .u32 m, .slice a1' n1' c1', .slice a2' n2 c2', .slice a3' n3' c3', .slice a4' n4' c4', .slice a5' n5' c5', .slice a6' n6 c6'] 37)).heap[w.heap.size]? = some (.cells #[.int .u32 m, .slice a1 n1 c1, .slice a2 n2 c2, .slice a3 n3 c3, .slice a4 n4 c4, .slice a5 n5 c5, .slice a6 n6 c6] 37 (0, 0))) := heap_below (heap_new _ _ _ rfl) (ext_alloc _ _)
  have hy : Hid (((w.alloc (.cells #[.int .u32 m, .slice a1 n1 c1, .slice a2 n2 c2, .slice a3 n3 c3, .slice a4 n4 c4, .slice a5 n5 c5, .slice a6 n6 c6] 37)).alloc (.cells #[.int .u32 m, .slice a1' n1' c1', .slice a2' n2 c2', .slice a3' n3' c3', .slice a4' n4' c4', .slice a5' n5' c5', .slice a6' n6 c6'] 37)).heap[w.heap.size + 1]? = some (.cells #[.int .u32 m, .slice a1' n1' c1', .slice a2' n2 c2', .slice a3' n3' c3', .slice a4' n4' c4', .slice a5' n5' c5', .slice a6' n6 c6'] 37 (0, 0))) := heap_new _ _ _ (by simp)
  replace B0 := Lib.hid B0
  go_wp2
  go_loopw [5] (fun i wr => ∃ k : Nat, k ≤ n2 ∧ i = .int .i64 k ∧ Hid (Below w.heap.size w wr) ∧ Hid (wr.heap[w.heap.size]? = some (.cells #[.int .u32 m, .slice a1 n1 c1, .slice a2 n2 c2, .slice a3 n3 c3, .slice a4 n4 c4, .slice a5 n5 c5, .slice a6 n6 c6] 37 (0, 0))) ∧ Hid (wr.heap[w.heap.size + 1]? = some (.cells #[.int .u32 m, .slice a1' n1' c1', .slice a2' n2 c2', .slice a3' n3' c3', .slice a4' n4' c4', .slice a5' n5' c5', .slice a6' n6 c6'] 37 (0, 0))))
    (fun i _ => n2 - (intOf i).toNat)
  case atStart => exact ⟨0, Nat.zero_le _, rfl, B0.out, hx.out, hy.out⟩
  case round =>
    clear B0 hx hy
    obtain ⟨k, hk, rfl, hb, hx, hy⟩ := hrel
    have p := cell_of_block hx.out 2
    have p' := cell_of_block hy.out 2
    by_cases hlt : k < n2
    · obtain ⟨b, off, rfl, hbw⟩ := HS.out.s2.addr (show 0 < n2 by omega)
      obtain ⟨b', off', rfl, hbw'⟩ := HS'.out.s2.addr (show 0 < n2 by omega)
      obtain ⟨qx, qy, qz⟩ := (HS.out.s2.below hb.out).cells k hlt (0, 0, 0)
      obtain ⟨qx', qy', qz'⟩ := (HS'.out.s2.below hb.out).cells k hlt (0, 0, 0)
      obtain ⟨t, ht⟩ : ∃ t, t = r.lats.getD k (0, 0, 0) := ⟨_, rfl⟩
      rw [← ht] at qx qy qz qx' qy' qz'
      clear ht
      obtain ⟨x, y, z⟩ := t
      unfold nv32 at qx qy qz qx' qy' qz'
      have W1 : IntKind.i64.wrap ((k : Int) + 1) = (k : Int) + 1 := IntWalk.i64_in _ (by omega)
      go_wp2
      go_quiet (fail)
      go_wp2
      go_roundw
      case rel => rename_i nq; exact ⟨k + 1, by omega, by go_num, ext_trans hb.out (ext_drewN _ nq), hx.out, hy.out⟩
      case measure => simp [intOf]; omega
    · obtain rfl : n2 = k := by omega
      obtain ⟨V2, hV⟩ : ∃ V, V = wr := ⟨_, rfl⟩
      subst hV
      clear hlt hk
      have B0 := hb.out
      clear hb
      replace B0 := Lib.hid B0
      go_wp2
      clear p p'
      go_loopw [6] (fun i wr => ∃ k : Nat, k ≤ n6 ∧ i = .int .i64 k ∧ Hid (Below w.heap.size w wr) ∧ Hid (wr.heap[w.heap.size]? = some (.cells #[.int .u32 m, .slice a1 n1 c1, .slice a2 n2 c2, .slice a3 n3 c3, .slice a4 n4 c4, .slice a5 n5 c5, .slice a6 n6 c6] 37 (0, 0))) ∧ Hid (wr.heap[w.heap.size + 1]? = some (.cells #[.int .u32 m, .slice a1' n1' c1', .slice a2' n2 c2', .slice a3' n3' c3', .slice a4' n4' c4', .slice a5' n5' c5', .slice a6' n6 c6'] 37 (0, 0))))
        (fun i _ => n6 - (intOf i).toNat)
      case atStart => exact ⟨0, Nat.zero_le _, rfl, B0.out, hx.out, hy.out⟩
      case round =>
        clear B0 hx hy
        obtain ⟨k, hk, rfl, hb, hx, hy⟩ := hrel
        have p := cell_of_block hx.out 6
        have p' := cell_of_block hy.out 6
        by_cases hlt : k < n6
        · obtain ⟨b, off, rfl, hbw⟩ := HS.out.s6.addr (show 0 < n6 by omega)
          obtain ⟨b', off', rfl, hbw'⟩ := HS'.out.s6.addr (show 0 < n6 by omega)
          obtain ⟨qx, qy, qz⟩ := (HS.out.s6.below hb.out).cells k hlt (0, 0, 0)
          obtain ⟨qx', qy', qz'⟩ := (HS'.out.s6.below hb.out).cells k hlt (0, 0, 0)
          obtain ⟨t, ht⟩ : ∃ t, t = r.gates.getD k (0, 0, 0) := ⟨_, rfl⟩
          rw [← ht] at qx qy qz qx' qy' qz'
          clear ht
          obtain ⟨x, y, z⟩ := t
          unfold nv32 at qx qy qz qx' qy' qz'
          have W1 : IntKind.i64.wrap ((k : Int) + 1) = (k : Int) + 1 := IntWalk.i64_in _ (by omega)
          go_wp2
          go_quiet (fail)
          go_wp2
          go_roundw
          case rel => rename_i nq; exact ⟨k + 1, by omega, by go_num, ext_trans hb.out (ext_drewN _ nq), hx.out, hy.out⟩
          case measure => simp [intOf]; omega
        · obtain rfl : n6 = k := by omega
          obtain ⟨V6, hV⟩ : ∃ V, V = wr := ⟨_, rfl⟩
          subst hV
          clear hlt hk
          have B0 := hb.out
          clear hb
          have p2 := p
          clear p p'
          have B6 := B0
          clear B0
          have hx6 := hx.out
          have hy6 := hy.out
          clear hx hy
          have p := cell_of_block hx6 1
          have p' := cell_of_block hy6 1
          have HX := Lib.hid hx6
          have HY := Lib.hid hy6
          have HB := Lib.hid B6
          clear hx6 hy6 B6
          go_wp2_with fail
          refine (eqn_same r.ins a1 a1' n1 c1 n1' c1' V6 (HS.out.s1.below HB.out) (HS'.out.s1.below HB.out) (by omega)).mono ?_
          rintro e U1 ⟨rfl, hb⟩
          have BB1 := ext_trans HB.out hb
          have hx6 := heap_below HX.out hb
          have hy6 := heap_below HY.out hb
          clear hb HX HY HB p p'
          have p := cell_of_block hx6 3
          have p' := cell_of_block hy6 3
          have HX := Lib.hid hx6
          have HY := Lib.hid hy6
          have HB := Lib.hid BB1
          clear hx6 hy6 BB1
          go_wp2_with fail
          refine (eqn_same r.outs a3 a3' n3 c3 n3' c3' U1 (HS.out.s3.below HB.out) (HS'.out.s3.below HB.out) (by omega)).mono ?_
          rintro e U3 ⟨rfl, hb⟩
          have BB3 := ext_trans HB.out hb
          have hx6 := heap_below HX.out hb
          have hy6 := heap_below HY.out hb
          clear hb HX HY HB p p'
          have p := cell_of_block hx6 4
          have p' := cell_of_block hy6 4
          have HX := Lib.hid hx6
          have HY := Lib.hid hy6
          have HB := Lib.hid BB3
          clear hx6 hy6 BB3
          go_wp2_with fail
          refine (eqn_same r.bads a4 a4' n4 c4 n4' c4' U3 (HS.out.s4.below HB.out) (HS'.out.s4.below HB.out) (by omega)).mono ?_
          rintro e U4 ⟨rfl, hb⟩
          have BB4 := ext_trans HB.out hb
          have hx6 := heap_below HX.out hb
          have hy6 := heap_below HY.out hb
          clear hb HX HY HB p p'
          have p := cell_of_block hx6 5
          have p' := cell_of_block hy6 5
          have HX := Lib.hid hx6
          have HY := Lib.hid hy6
          have HB := Lib.hid BB4
          clear hx6 hy6 BB4
          go_wp2_with fail
          refine (eqn_same r.cons a5 a5' n5 c5 n5' c5' U4 (HS.out.s5.below HB.out) (HS'.out.s5.below HB.out) (by omega)).mono ?_
          rintro e U5 ⟨rfl, hb⟩
          have BB5 := ext_trans HB.out hb
          have hx6 := heap_below HX.out hb
          have hy6 := heap_below HY.out hb
          clear hb HX HY HB p p'
          have HB := Lib.hid BB5
          clear hx6 hy6 BB5
          go_wp2
          go_ret
          exact ⟨rfl, HB.out⟩
end Go.Proofs.Ytkbdebdhebphpaa
/- The law NormTells, by its walk. -/
namespace Go.Proofs.Ytkbdebdhebphpaa
open Go Go.RowKit Go.Joins

def rawR (c : NormC) : RawC := if mayC c then rawS c else ⟨0, [], [], [], [], [], []⟩
def errR (c : NormC) : Int := if mayC c then 0 else 2
def zSlots : Slots := ⟨none, 0, 0, none, 0, 0, none, 0, 0, none, 0, 0, none, 0, 0, none, 0, 0⟩
theorem sees_zero (w : World) : SeesRaw w zSlots ⟨0, [], [], [], [], [], []⟩ :=
  ⟨Sees.nil _ _ _ (fun _ => rfl), ⟨rfl, Nat.le_refl _, Sees.nil _ _ _ (fun _ => rfl)⟩, Sees.nil _ _ _ (fun _ => rfl), Sees.nil _ _ _ (fun _ => rfl), Sees.nil _ _ _ (fun _ => rfl), ⟨rfl, Nat.le_refl _, Sees.nil _ _ _ (fun _ => rfl)⟩⟩
structure Slots.few (s : Slots) : Prop where
  n1 : s.n1 ≤ 1000000
  n2 : s.n2 ≤ 1000000
  n3 : s.n3 ≤ 1000000
  n4 : s.n4 ≤ 1000000
  n5 : s.n5 ≤ 1000000
  n6 : s.n6 ≤ 1000000
theorem raw_few {c : NormC} (h : MayC c) {w : World} {s : Slots} (hs : SeesRaw w s (rawS c)) : s.few := by
  have hf := h.few
  have hl := h.lens
  unfold varsN at hf
  have e1 := hs.s1.lenMap
  have e2 := hs.s2.1
  have e3 := hs.s3.lenMap
  have e4 := hs.s4.lenMap
  have e5 := hs.s5.lenMap
  have e6 := hs.s6.1
  unfold rawS at e1 e2 e3 e4 e5 e6
  simp only [List.length_map, List.length_range, upFrom_len] at e1 e2 e3 e4 e5 e6
  exact ⟨by omega, by omega, by omega, by omega, by omega, by omega⟩
theorem raw_tells (c : NormC) (s : CSlots) (w : World) (h : SeesCir w s c) (hs : s.small) (hlo : -9223372036854775808 ≤ c.ins) (hhi : c.ins < 9223372036854775808) (hw : Wide c) :
    Calls Try.prog 9 #[.agg (cirCells c.ins s)] w fun e w' => ∃ s9 : Slots, e = .returned (.tuple #[.agg (rawCells9 (rawR c).max s9), .int .i64 (errR c)]) ∧ SeesRaw w' s9 (rawR c) ∧ s9.few ∧ Below w.heap.size w w' := by
  refine (raw3_any c s w h hs hlo hhi hw).mono fun e w' ⟨hb, hcase⟩ => ?_
  unfold rawR errR
  rcases hcase with ⟨hm, s9, he, hs9, _, _⟩ | ⟨hm, he⟩
  · rw [hm]
    exact ⟨s9, he, hs9, raw_few (mayC_iff.1 hm) hs9, hb⟩
  · rw [hm]
    exact ⟨zSlots, he, sees_zero _, ⟨by simp [zSlots], by simp [zSlots], by simp [zSlots], by simp [zSlots], by simp [zSlots], by simp [zSlots]⟩, hb⟩
theorem refraw_tells (c : NormC) (s : CSlots) (w : World) (h : SeesCir w s c) (hs : s.small) (hlo : -9223372036854775808 ≤ c.ins) (hhi : c.ins < 9223372036854775808) (hw : Wide c) :
    Calls Try.prog 10 #[.agg (cirCells c.ins s)] w fun e w' => ∃ s9 : Slots, e = .returned (.tuple #[.agg (rawCells9 (rawR c).max s9), .int .i64 (errR c)]) ∧ SeesRaw w' s9 (rawR c) ∧ s9.few ∧ Below w.heap.size w w' := by
  refine (refraw_any c s w h hs hlo hhi hw).mono fun e w' ⟨hb, hcase⟩ => ?_
  unfold rawR errR
  rcases hcase with ⟨hm, s9, he, hs9⟩ | ⟨hm, he⟩
  · rw [hm]
    exact ⟨s9, he, hs9, raw_few (mayC_iff.1 hm) hs9, hb⟩
  · rw [hm]
    exact ⟨zSlots, he, sees_zero _, ⟨by simp [zSlots], by simp [zSlots], by simp [zSlots], by simp [zSlots], by simp [zSlots], by simp [zSlots]⟩, hb⟩

set_option maxRecDepth 100000 in
set_option maxHeartbeats 12800000 in
theorem tells3_any (c d : NormC) (t u : TraceC) (sc sd : CSlots) (st su : TSlots) (w : World) (hc : SeesCir w sc c) (hd : SeesCir w sd d) (ht : SeesTr w st t) (hu : SeesTr w su u) (hsc : sc.small) (hsd : sd.small) (hst : st.small) (hsu : su.small)
    (hlo : -9223372036854775808 ≤ c.ins) (hhi : c.ins < 9223372036854775808) (hbt : -9223372036854775808 ≤ t.bad ∧ t.bad < 9223372036854775808) (hbu : -9223372036854775808 ≤ u.bad ∧ u.bad < 9223372036854775808) (hw : Wide c) :
    Calls Try.prog 3 #[cirV c.ins sc, cirV d.ins sd, traceV t.bad st, traceV u.bad su] w fun e w' => e = .returned (.bool true) ∧ Below w.heap.size w w' := by
  have HG1 := Lib.hid (fun W (hb : Below w.heap.size w W) => great3_any c sc W (hc.below hb) hsc)
  have HG2 := Lib.hid (fun W (hb : Below w.heap.size w W) => great3_any d sd W (hd.below hb) hsd)
  have HRW := Lib.hid (fun W (hb : Below w.heap.size w W) => raw_tells c sc W (hc.below hb) hsc hlo hhi hw)
  have HRR := Lib.hid (fun W (hb : Below w.heap.size w W) => refraw_tells c sc W (hc.below hb) hsc hlo hhi hw)
  have HM := Lib.hid (fun W (hb : Below w.heap.size w W) => may3_any c sc W (hc.below hb) hsc hlo hhi)
  have HRM := Lib.hid (fun W (hb : Below w.heap.size w W) => refmay3_any c sc W (hc.below hb) hsc hlo hhi hw)
  have HV := Lib.hid (fun W (hb : Below w.heap.size w W) => vars_any c sc W (hc.below hb) hsc hlo hhi)
  have HRV := Lib.hid (fun W (hb : Below w.heap.size w W) => refvars_any c sc W (hc.below hb) hsc hlo hhi hw)
  have HS := Lib.hid (fun W (hb : Below w.heap.size w W) => same_any c d sc sd W (hc.below hb) (hd.below hb) hsc)
  have HRS := Lib.hid (fun W (hb : Below w.heap.size w W) => samec_any c d sc sd W (hc.below hb) (hd.below hb) hsc hsd)
  have HF := Lib.hid (fun W (hb : Below w.heap.size w W) => fits_any c t sc st W (hc.below hb) (ht.below hb) hsc hst hlo hhi hbt)
  have HRF := Lib.hid (fun W (hb : Below w.heap.size w W) => reffits_any c t sc st W (hc.below hb) (ht.below hb) hsc hst hlo hhi hbt hw)
  have HT := Lib.hid (fun W (hb : Below w.heap.size w W) => sametr3_any t u st su W (ht.below hb) (hu.below hb) hst)
  have HRT := Lib.hid (fun W (hb : Below w.heap.size w W) => sametr_any t u st su W (ht.below hb) (hu.below hb) hst hbt hbu)
  have HCP := Lib.hid (fun W (hb : Below w.heap.size w W) => copy_any c sc W (hc.below hb) hsc hw)
  have HCT := Lib.hid (fun W (hb : Below w.heap.size w W) => copytr_any t st W (ht.below hb) hst)
  have HX1 := Lib.hid (fun W (hb : Below w.heap.size w W) (s : CSlots) (h : SeesCir W s c) (m : s.small) => samec_any c c s sc W h (hc.below hb) m hsc)
  have HX2 := Lib.hid (fun W (hb : Below w.heap.size w W) (s : CSlots) (h : SeesCir W s c) (m : s.small) => same_any c c s sc W h (hc.below hb) m)
  have HX3 := Lib.hid (fun W (hb : Below w.heap.size w W) (s : TSlots) (h : SeesTr W s t) (m : s.small) => sametr_any t t s st W h (ht.below hb) m hbt hbt)
  have HX4 := Lib.hid (fun W (hb : Below w.heap.size w W) (s : TSlots) (h : SeesTr W s t) (m : s.small) => sametr3_any t t s st W h (ht.below hb) m)
  rw [decide_eq_true (rfl : c = c)] at HX1 HX2
  rw [decide_eq_true (rfl : t = t)] at HX3 HX4
  have HCS : Hid (c.lats.length ≤ 1048576 ∧ c.gates.length ≤ 1048576 ∧ c.outs.length ≤ 1048576 ∧ c.bads.length ≤ 1048576 ∧ c.cons.length ≤ 1048576) := by
    have e1 := hc.s1.1
    have e2 := hc.s2.1
    have e3 := hc.s3.lenMap
    have e4 := hc.s4.lenMap
    have e5 := hc.s5.lenMap
    have := hsc.n1; have := hsc.n2; have := hsc.n3; have := hsc.n4; have := hsc.n5
    exact ⟨by omega, by omega, by omega, by omega, by omega⟩
  have HTS : Hid (∀ (W : World) (base : Nat) (s : TSlots), OwnTr W base s t → s.small) := fun W base s h => h.small ht hst
  have hm2 : st.n2 ≤ 1048576 := hst.n2
  have hu2 : su.n2 ≤ 1048576 := hsu.n2
  obtain ⟨z, hz⟩ : ∃ z, z = c.ins := ⟨_, rfl⟩
  obtain ⟨z2, hz2⟩ : ∃ z, z = d.ins := ⟨_, rfl⟩
  obtain ⟨bt, hbt'⟩ : ∃ z, z = t.bad := ⟨_, rfl⟩
  obtain ⟨bu, hbu'⟩ : ∃ z, z = u.bad := ⟨_, rfl⟩
  obtain ⟨q1, hq1⟩ : ∃ q, q = greatC c := ⟨_, rfl⟩
  obtain ⟨q2, hq2⟩ : ∃ q, q = greatC d := ⟨_, rfl⟩
  obtain ⟨qm, hqm⟩ : ∃ q, q = mayC c := ⟨_, rfl⟩
  obtain ⟨vv, hvv⟩ : ∃ q : Int, q = ((varsC c : Nat) : Int) := ⟨_, rfl⟩
  obtain ⟨qs, hqs⟩ : ∃ q, q = decide (c = d) := ⟨_, rfl⟩
  obtain ⟨qf, hqf⟩ : ∃ q, q = fitsS c t := ⟨_, rfl⟩
  obtain ⟨qt, hqt⟩ : ∃ q, q = decide (t = u) := ⟨_, rfl⟩
  obtain ⟨mr, hmr⟩ : ∃ m, m = (rawR c).max := ⟨_, rfl⟩
  obtain ⟨er, her⟩ : ∃ m, m = errR c := ⟨_, rfl⟩
  rw [← hz, ← hz2, ← hbt', ← hbu']
  rw [← hz, ← hq1] at HG1
  rw [← hz2, ← hq2] at HG2
  rw [← hz, ← hmr, ← her] at HRW HRR
  rw [← hz, ← hqm] at HM HRM
  rw [← hz, ← hvv] at HV HRV
  rw [← hz, ← hz2, ← hqs] at HS HRS
  rw [← hz, ← hbt', ← hqf] at HF HRF
  rw [← hbt', ← hbu', ← hqt] at HT HRT
  rw [← hz] at HCP HX1 HX2
  rw [← hbt'] at HCT HX3 HX4
  have HMR := Lib.hid hmr
  clear hz hz2 hbt' hbu' hq1 hq2 hqm hvv hqs hqf hqt hmr her hc hd ht hu hsc hsd hst hsu hlo hhi hbt hbu hw
  unfold cirV at *
  unfold traceV at *
  unfold cirCells at HRW HRR
  unfold rawCells9 at HRW HRR
  go_enter Try.func3, Try.ntmps3
  go_upto_region 1 with fail
  generalize hW : World.alloc (World.alloc (World.alloc (World.alloc w _) _) _) _ = W0
  have hb : Below w.heap.size w W0 := by subst hW; exact ext_trans (ext_alloc _ _) (ext_trans (ext_alloc _ _) (ext_trans (ext_alloc _ _) (ext_alloc _ _)))
  have hx : W0.heap[w.heap.size]? = some (.cells #[.int .i64 z, .slice sc.a1 sc.n1 sc.c1, .slice sc.a2 sc.n2 sc.c2, .slice sc.a3 sc.n3 sc.c3, .slice sc.a4 sc.n4 sc.c4, .slice sc.a5 sc.n5 sc.c5] 26 (0, 0)) := by subst hW; exact heap_below (heap_below (heap_below (heap_new _ _ _ rfl) (ext_alloc _ _)) (ext_alloc _ _)) (ext_alloc _ _)
  have hy : W0.heap[w.heap.size + 1]? = some (.cells #[.int .i64 z2, .slice sd.a1 sd.n1 sd.c1, .slice sd.a2 sd.n2 sd.c2, .slice sd.a3 sd.n3 sd.c3, .slice sd.a4 sd.n4 sd.c4, .slice sd.a5 sd.n5 sd.c5] 26 (0, 0)) := by subst hW; exact heap_below (heap_below (heap_new _ _ _ (by simp)) (ext_alloc _ _)) (ext_alloc _ _)
  have hp : W0.heap[w.heap.size + 1 + 1]? = some (.cells #[.int .i64 bt, .slice st.a1 st.n1 st.c1, .slice st.a2 st.n2 st.c2] 30 (0, 0)) := by subst hW; exact heap_below (heap_new _ _ _ (by simp)) (ext_alloc _ _)
  have hr : W0.heap[w.heap.size + 1 + 1 + 1]? = some (.cells #[.int .i64 bu, .slice su.a1 su.n1 su.c1, .slice su.a2 su.n2 su.c2] 30 (0, 0)) := by subst hW; exact heap_new _ _ _ (by simp)
  have B0 := Lib.hid hb
  have XC := Lib.hid hx
  have XD := Lib.hid hy
  have XT := Lib.hid hp
  have XU := Lib.hid hr
  clear hW hb hx hy hp hr
  have p0 := cell_of_block XC.out 0
  have p1 := cell_of_block XC.out 1
  have p2 := cell_of_block XC.out 2
  have p3 := cell_of_block XC.out 3
  have p4 := cell_of_block XC.out 4
  have p5 := cell_of_block XC.out 5
  go_wp2_with fail
  refine (HG1.out W0 B0.out).mono ?_
  rintro e W1 ⟨rfl, hb⟩
  have B1 := Lib.hid (ext_trans B0.out hb)
  have YC := Lib.hid (heap_below XC.out hb)
  have YD := Lib.hid (heap_below XD.out hb)
  have YT := Lib.hid (heap_below XT.out hb)
  have YU := Lib.hid (heap_below XU.out hb)
  clear hb p0 p1 p2 p3 p4 p5 B0 XC XD XT XU HG1
  cases q1 with
  | true =>
    go_wp2_with fail
    refine (lives3_any W1).mono ?_
    rintro e W9 ⟨rfl, hb⟩
    have HB9 := Lib.hid (ext_trans B1.out hb)
    clear hb
    go_wp2
    go_ret
    exact ⟨rfl, HB9.out⟩
  | false =>
  have p0 := cell_of_block YD.out 0
  have p1 := cell_of_block YD.out 1
  have p2 := cell_of_block YD.out 2
  have p3 := cell_of_block YD.out 3
  have p4 := cell_of_block YD.out 4
  have p5 := cell_of_block YD.out 5
  go_wp2_with fail
  refine (HG2.out W1 B1.out).mono ?_
  rintro e W2 ⟨rfl, hb⟩
  have B2 := Lib.hid (ext_trans B1.out hb)
  have XC := Lib.hid (heap_below YC.out hb)
  have XD := Lib.hid (heap_below YD.out hb)
  have XT := Lib.hid (heap_below YT.out hb)
  have XU := Lib.hid (heap_below YU.out hb)
  clear hb p0 p1 p2 p3 p4 p5 B1 YC YD YT YU HG2
  cases q2 with
  | true =>
    go_wp2_with fail
    refine (lives3_any W2).mono ?_
    rintro e W9 ⟨rfl, hb⟩
    have HB9 := Lib.hid (ext_trans B2.out hb)
    clear hb
    go_wp2
    go_ret
    exact ⟨rfl, HB9.out⟩
  | false =>
  have p2 : W2.cell? ⟨w.heap.size + 1 + 1, 2, none⟩ = some (.slice st.a2 st.n2 st.c2) := cell_of_block XT.out 2
  have r2 : W2.cell? ⟨w.heap.size + 1 + 1 + 1, 2, none⟩ = some (.slice su.a2 su.n2 su.c2) := cell_of_block XU.out 2
  by_cases ht1 : 300 < st.n2
  · have e1 : decide ((300 : Int) < (st.n2 : Int)) = true := by simp; omega
    go_wp2_with fail
    refine (lives3_any W2).mono ?_
    rintro e W9 ⟨rfl, hb⟩
    have HB9 := Lib.hid (ext_trans B2.out hb)
    clear hb
    go_wp2
    go_ret
    exact ⟨rfl, HB9.out⟩
  have e1 : decide ((300 : Int) < (st.n2 : Int)) = false := by simp; omega
  by_cases ht2 : 300 < su.n2
  · have e2 : decide ((300 : Int) < (su.n2 : Int)) = true := by simp; omega
    go_wp2_with fail
    refine (lives3_any W2).mono ?_
    rintro e W9 ⟨rfl, hb⟩
    have HB9 := Lib.hid (ext_trans B2.out hb)
    clear hb
    go_wp2
    go_ret
    exact ⟨rfl, HB9.out⟩
  have e2 : decide ((300 : Int) < (su.n2 : Int)) = false := by simp; omega
  go_upto_region 3 with fail
  clear ht1 ht2 e1 e2 p2 r2
  have p0 := cell_of_block XC.out 0
  have p1 := cell_of_block XC.out 1
  have p2 := cell_of_block XC.out 2
  have p3 := cell_of_block XC.out 3
  have p4 := cell_of_block XC.out 4
  have p5 := cell_of_block XC.out 5
  go_wp2_with fail
  refine (HRW.out W2 B2.out).mono ?_
  rintro e W3 ⟨s9, rfl, hs9, hf9, hb⟩
  have B3 := Lib.hid (ext_trans B2.out hb)
  have YC := Lib.hid (heap_below XC.out hb)
  have YD := Lib.hid (heap_below XD.out hb)
  have YT := Lib.hid (heap_below XT.out hb)
  have YU := Lib.hid (heap_below XU.out hb)
  have S9 := Lib.hid hs9
  have F9 := Lib.hid hf9
  clear hb p0 p1 p2 p3 p4 p5 B2 XC XD XT XU HRW hs9 hf9
  go_upto_region 4 with fail
  generalize hW : World.alloc W3 _ = U3
  have hb : Below W3.heap.size W3 U3 := by subst hW; exact ext_alloc _ _
  have G9 : Hid (U3.heap[W3.heap.size]? = some (.cells #[.int .u32 mr, .slice s9.a1 s9.n1 s9.c1, .slice s9.a2 s9.n2 s9.c2, .slice s9.a3 s9.n3 s9.c3, .slice s9.a4 s9.n4 s9.c4, .slice s9.a5 s9.n5 s9.c5, .slice s9.a6 s9.n6 s9.c6] 37 (0, 0))) := by show _ = _; subst hW; exact heap_new _ _ _ rfl
  have B4 := Lib.hid (ext_trans B3.out hb)
  have XC := Lib.hid (heap_below YC.out hb)
  have XD := Lib.hid (heap_below YD.out hb)
  have XT := Lib.hid (heap_below YT.out hb)
  have XU := Lib.hid (heap_below YU.out hb)
  have T9 := Lib.hid (S9.out.below hb)
  clear hW hb B3 YC YD YT YU S9
  have p0 := cell_of_block XC.out 0
  have p1 := cell_of_block XC.out 1
  have p2 := cell_of_block XC.out 2
  have p3 := cell_of_block XC.out 3
  have p4 := cell_of_block XC.out 4
  have p5 := cell_of_block XC.out 5
  go_wp2_with fail
  refine (HRR.out U3 B4.out).mono ?_
  rintro e W4 ⟨s11, rfl, hs9, hf9, hb⟩
  have B5 := Lib.hid (ext_trans B4.out hb)
  have YC := Lib.hid (heap_below XC.out hb)
  have YD := Lib.hid (heap_below XD.out hb)
  have YT := Lib.hid (heap_below XT.out hb)
  have YU := Lib.hid (heap_below XU.out hb)
  have H9 := Lib.hid (heap_below G9.out hb)
  have S9 := Lib.hid (T9.out.below hb)
  have S11 := Lib.hid hs9
  have F11 := Lib.hid hf9
  clear hb p0 p1 p2 p3 p4 p5 B4 XC XD XT XU HRR hs9 hf9 G9 T9
  go_upto_region 5 with fail
  generalize hW : World.alloc W4 _ = U4
  have hb : Below W4.heap.size W4 U4 := by subst hW; exact ext_alloc _ _
  have G11 : Hid (U4.heap[W4.heap.size]? = some (.cells #[.int .u32 mr, .slice s11.a1 s11.n1 s11.c1, .slice s11.a2 s11.n2 s11.c2, .slice s11.a3 s11.n3 s11.c3, .slice s11.a4 s11.n4 s11.c4, .slice s11.a5 s11.n5 s11.c5, .slice s11.a6 s11.n6 s11.c6] 37 (0, 0))) := by show _ = _; subst hW; exact heap_new _ _ _ rfl
  have B6 := Lib.hid (ext_trans B5.out hb)
  have XC := Lib.hid (heap_below YC.out hb)
  have XD := Lib.hid (heap_below YD.out hb)
  have XT := Lib.hid (heap_below YT.out hb)
  have XU := Lib.hid (heap_below YU.out hb)
  have G9 := Lib.hid (heap_below H9.out hb)
  have T9 := Lib.hid (S9.out.below hb)
  have T11 := Lib.hid (S11.out.below hb)
  clear hW hb B5 YC YD YT YU S9 S11 H9
  have HRAW : Hid (∀ W, Below U4.heap.size U4 W → Calls Try.prog 17 #[.agg #[.int .u32 mr, .slice s9.a1 s9.n1 s9.c1, .slice s9.a2 s9.n2 s9.c2, .slice s9.a3 s9.n3 s9.c3, .slice s9.a4 s9.n4 s9.c4, .slice s9.a5 s9.n5 s9.c5, .slice s9.a6 s9.n6 s9.c6], .agg #[.int .u32 mr, .slice s11.a1 s11.n1 s11.c1, .slice s11.a2 s11.n2 s11.c2, .slice s11.a3 s11.n3 s11.c3, .slice s11.a4 s11.n4 s11.c4, .slice s11.a5 s11.n5 s11.c5, .slice s11.a6 s11.n6 s11.c6]] W fun e w' => e = .returned (.bool true) ∧ Below W.heap.size W w') := fun W hb => by
    have h := ref2_yes (rawR c) s9 s11 W (T9.out.below hb) (T11.out.below hb) F9.out.n1 F9.out.n2 F9.out.n3 F9.out.n4 F9.out.n5 F9.out.n6
    rw [← HMR.out] at h
    exact h
  refine reg_NTelB w.heap.size (w.heap.size + 1) W3.heap.size W4.heap.size mr z z2 er vv qm qs sc sd s9 s11 U4 XC.out XD.out G9.out G11.out (fun W hb => HM.out W (ext_trans B6.out hb)) (fun W hb => HRM.out W (ext_trans B6.out hb)) (fun W hb => HV.out W (ext_trans B6.out hb)) (fun W hb => HRV.out W (ext_trans B6.out hb)) (fun W hb => HS.out W (ext_trans B6.out hb)) (fun W hb => HRS.out W (ext_trans B6.out hb)) HRAW.out _ ?_
  intro W5 _ _ _ _ _ _ _ _ _ _ _ _ _ _ _ _ _ _ _ _ _ _ _ _ _ _ _ _ _ _ _ hb
  have B7 := Lib.hid (ext_trans B6.out hb)
  have YC := Lib.hid (heap_below XC.out hb)
  have YT := Lib.hid (heap_below XT.out hb)
  have YU := Lib.hid (heap_below XU.out hb)
  clear hb B6 XC XD XT XU T9 T11 G9 G11 HRAW HM HRM HV HRV HS HRS F9 F11
  go_upto_region 7 with fail
  refine reg_NTelC w.heap.size (w.heap.size + 1 + 1) (w.heap.size + 1 + 1 + 1) z bt bu qf qt sc st su W5 YC.out YT.out YU.out (fun W hb => HF.out W (ext_trans B7.out hb)) (fun W hb => HRF.out W (ext_trans B7.out hb)) (fun W hb => HT.out W (ext_trans B7.out hb)) (fun W hb => HRT.out W (ext_trans B7.out hb)) _ ?_
  intro W6 _ _ _ _ _ _ _ _ _ _ _ _ _ _ _ hb
  have B8 := Lib.hid (ext_trans B7.out hb)
  have XC := Lib.hid (heap_below YC.out hb)
  have XT := Lib.hid (heap_below YT.out hb)
  clear hb B7 YC YT YU HF HRF HT HRT
  go_upto_region 9 with fail
  have HELDB : Hid (∀ W, Below W6.heap.size W6 W → (W.cell? ⟨w.heap.size, 0, none⟩ = some (.int .i64 z) ∧ W.cell? ⟨w.heap.size, 1, none⟩ = some (.slice sc.a1 sc.n1 sc.c1) ∧ W.cell? ⟨w.heap.size, 2, none⟩ = some (.slice sc.a2 sc.n2 sc.c2) ∧ W.cell? ⟨w.heap.size, 3, none⟩ = some (.slice sc.a3 sc.n3 sc.c3) ∧ W.cell? ⟨w.heap.size, 4, none⟩ = some (.slice sc.a4 sc.n4 sc.c4) ∧ W.cell? ⟨w.heap.size, 5, none⟩ = some (.slice sc.a5 sc.n5 sc.c5) ∧ W.cell? ⟨w.heap.size + 1 + 1, 0, none⟩ = some (.int .i64 bt) ∧ W.cell? ⟨w.heap.size + 1 + 1, 1, none⟩ = some (.slice st.a1 st.n1 st.c1) ∧ W.cell? ⟨w.heap.size + 1 + 1, 2, none⟩ = some (.slice st.a2 st.n2 st.c2))) := fun W hb => ⟨cell_of_block (heap_below XC.out hb) 0, cell_of_block (heap_below XC.out hb) 1, cell_of_block (heap_below XC.out hb) 2, cell_of_block (heap_below XC.out hb) 3, cell_of_block (heap_below XC.out hb) 4, cell_of_block (heap_below XC.out hb) 5, cell_of_block (heap_below XT.out hb) 0, cell_of_block (heap_below XT.out hb) 1, cell_of_block (heap_below XT.out hb) 2⟩
  refine reg_NTelA c t z bt w.heap.size (w.heap.size + 1 + 1) sc st W6 HELDB (fun W hb => HCP.out W (ext_trans B8.out hb)) (fun W hb => HCT.out W (ext_trans B8.out hb)) _ _ ?_
  intro G7 G8 sx sy wx _ _ _ _ hTW
  have TW := Lib.hid hTW
  have hsx : sx.small := hTW.oc.small HCS.out
  have hsy : sy.small := HTS.out _ _ _ hTW.ot
  have B9 := Lib.hid (ext_trans B8.out hTW.bel)
  have YC := Lib.hid (heap_below XC.out hTW.bel)
  have YT := Lib.hid (heap_below XT.out hTW.bel)
  have SX := Lib.hid hTW.oc.sees
  have SY := Lib.hid hTW.ot.sees
  have VX : Hid (wx.heap[G7]? = some (.cells #[.int .i64 z, .slice sx.a1 sx.n1 sx.c1, .slice sx.a2 sx.n2 sx.c2, .slice sx.a3 sx.n3 sx.c3, .slice sx.a4 sx.n4 sx.c4, .slice sx.a5 sx.n5 sx.c5] 26 (0, 0))) := hTW.cir
  have VY : Hid (wx.heap[G8]? = some (.cells #[.int .i64 bt, .slice sy.a1 sy.n1 sy.c1, .slice sy.a2 sy.n2 sy.c2] 30 (0, 0))) := hTW.tr
  clear hTW HELDB HCP HCT TW
  have CB := Lib.hid (Below.refl wx.heap.size wx)
  have p0 := cell_of_block (heap_below VX.out CB.out) 0
  have p1 := cell_of_block (heap_below VX.out CB.out) 1
  have p2 := cell_of_block (heap_below VX.out CB.out) 2
  have p3 := cell_of_block (heap_below VX.out CB.out) 3
  have p4 := cell_of_block (heap_below VX.out CB.out) 4
  have p5 := cell_of_block (heap_below VX.out CB.out) 5
  have r0 := cell_of_block (heap_below YC.out CB.out) 0
  have r1 := cell_of_block (heap_below YC.out CB.out) 1
  have r2 := cell_of_block (heap_below YC.out CB.out) 2
  have r3 := cell_of_block (heap_below YC.out CB.out) 3
  have r4 := cell_of_block (heap_below YC.out CB.out) 4
  have r5 := cell_of_block (heap_below YC.out CB.out) 5
  go_wp2_with fail
  refine (HX1.out wx (ext_trans B9.out CB.out) sx (SX.out.below CB.out) hsx).mono ?_
  rintro e V0 ⟨rfl, hb⟩
  have CB := Lib.hid (ext_trans CB.out hb)
  clear hb p0 p1 p2 p3 p4 p5 r0 r1 r2 r3 r4 r5
  have p0 := cell_of_block (heap_below VY.out CB.out) 0
  have p1 := cell_of_block (heap_below VY.out CB.out) 1
  have p2 := cell_of_block (heap_below VY.out CB.out) 2
  have r0 := cell_of_block (heap_below YT.out CB.out) 0
  have r1 := cell_of_block (heap_below YT.out CB.out) 1
  have r2 := cell_of_block (heap_below YT.out CB.out) 2
  go_wp2_with fail
  refine (HX3.out V0 (ext_trans B9.out CB.out) sy (SY.out.below CB.out) hsy).mono ?_
  rintro e V1 ⟨rfl, hb⟩
  have CB := Lib.hid (ext_trans CB.out hb)
  clear hb p0 p1 p2 r0 r1 r2
  have p0 := cell_of_block (heap_below VX.out CB.out) 0
  have p1 := cell_of_block (heap_below VX.out CB.out) 1
  have p2 := cell_of_block (heap_below VX.out CB.out) 2
  have p3 := cell_of_block (heap_below VX.out CB.out) 3
  have p4 := cell_of_block (heap_below VX.out CB.out) 4
  have p5 := cell_of_block (heap_below VX.out CB.out) 5
  have r0 := cell_of_block (heap_below YC.out CB.out) 0
  have r1 := cell_of_block (heap_below YC.out CB.out) 1
  have r2 := cell_of_block (heap_below YC.out CB.out) 2
  have r3 := cell_of_block (heap_below YC.out CB.out) 3
  have r4 := cell_of_block (heap_below YC.out CB.out) 4
  have r5 := cell_of_block (heap_below YC.out CB.out) 5
  go_wp2_with fail
  refine (HX2.out V1 (ext_trans B9.out CB.out) sx (SX.out.below CB.out) hsx).mono ?_
  rintro e V2 ⟨rfl, hb⟩
  have CB := Lib.hid (ext_trans CB.out hb)
  clear hb p0 p1 p2 p3 p4 p5 r0 r1 r2 r3 r4 r5
  have p0 := cell_of_block (heap_below VY.out CB.out) 0
  have p1 := cell_of_block (heap_below VY.out CB.out) 1
  have p2 := cell_of_block (heap_below VY.out CB.out) 2
  have r0 := cell_of_block (heap_below YT.out CB.out) 0
  have r1 := cell_of_block (heap_below YT.out CB.out) 1
  have r2 := cell_of_block (heap_below YT.out CB.out) 2
  go_wp2_with fail
  refine (HX4.out V2 (ext_trans B9.out CB.out) sy (SY.out.below CB.out) hsy).mono ?_
  rintro e V3 ⟨rfl, hb⟩
  have CB := Lib.hid (ext_trans CB.out hb)
  clear hb p0 p1 p2 r0 r1 r2
  go_wp2_with fail
  refine (lives3_any V3).mono ?_
  rintro e W9 ⟨rfl, hb⟩
  have HB9 := Lib.hid (ext_trans (ext_trans B9.out CB.out) hb)
  clear hb
  go_wp2
  go_ret
  exact ⟨rfl, HB9.out⟩
end Go.Proofs.Ytkbdebdhebphpaa
namespace Go.Proofs.Ytkbdebdhebphpaa.normTells
open Go Go.ChangeShapes Go.WideShapes Go.ChangeAt Go.RowKit

set_option maxRecDepth 100000 in
theorem contract (H : Type) (enc : TypeId × Value → H) (W : World) (base : Nat) (args : Array Value) (ds gs : List (DataW H)) (before : List MemPlace)
    (hval : ∀ (j : Nat) t v, Try.f3.params[j]? = some t → args[j]? = some v → Value.okWide Try.prog W .any base t v)
    (hW : DataW.Whole enc Try.prog Try.f3.params.toList Rows.normTellsSpec.vars false W args.toList ds gs before)
    (hk : Rows.uptoSmall H (ds ++ gs) = true) :
    Calls Try.prog 3 args W fun e W' => ∃ v, e = .returned v ∧ Rows.normTellsSpec.post enc Try.prog Try.f3 false true false false W args v W' := by
  have hW' := hW
  obtain ⟨p, q, hA0, hV, rfl, hfz, hnd⟩ := hW
  have hA : DataW.TrodAll enc Try.prog W 0 (fun _ => true) true Try.f3.params.toList args.toList ds p := hA0
  rw [Try.params3] at hA hval
  obtain ⟨v0, vs0, d0, ds0, p0, q0, hargs, rfl, rfl, h0, r0⟩ := trodAll_cons hA
  obtain ⟨v1, vs1, d1, ds1, p1, q1, rfl, rfl, rfl, h1, r1⟩ := trodAll_cons r0
  obtain ⟨v2, vs2, d2, ds2, p2, q2, rfl, rfl, rfl, h2, r2⟩ := trodAll_cons r1
  obtain ⟨v3, vs3, d3, ds3, p3, q3, rfl, rfl, rfl, h3, r3⟩ := trodAll_cons r2
  obtain ⟨rfl, rfl, rfl⟩ := trodAll_nil r3
  obtain rfl : args = #[v0, v1, v2, v3] := by cases args; simp_all
  obtain ⟨rfl, rfl⟩ := trodVars_none hV
  have hb := bulk_bound hk
  have hb0 := bulk_part (d := d0) (l := [d0, d1, d2, d3] ++ []) (by simp)
  obtain ⟨c0, s0, rfl, hs0, lo0, hi0, m01, m02, m03, m04, m05, w01, w02, w03, w04, w05⟩ := open_cir (hval 0 26 _ rfl rfl) h0
  have sm0 : s0.small := ⟨by omega, by omega, by omega, by omega, by omega⟩
  have wd0 : Wide c0 := ⟨w01, w02, w03, w04, w05⟩
  have hb1 := bulk_part (d := d1) (l := [d0, d1, d2, d3] ++ []) (by simp)
  obtain ⟨c1, s1, rfl, hs1, lo1, hi1, m11, m12, m13, m14, m15, w11, w12, w13, w14, w15⟩ := open_cir (hval 1 26 _ rfl rfl) h1
  have sm1 : s1.small := ⟨by omega, by omega, by omega, by omega, by omega⟩
  have wd1 : Wide c1 := ⟨w11, w12, w13, w14, w15⟩
  have hb2 := bulk_part (d := d2) (l := [d0, d1, d2, d3] ++ []) (by simp)
  obtain ⟨t2, s2, rfl, hs2, lo2, hi2, m21, m22, m23⟩ := open_trace (hval 2 30 _ rfl rfl) h2
  have sm2 : s2.small := ⟨by omega, by omega, fun x hx => by have := m23 x hx; omega⟩
  have hb3 := bulk_part (d := d3) (l := [d0, d1, d2, d3] ++ []) (by simp)
  obtain ⟨t3, s3, rfl, hs3, lo3, hi3, m31, m32, m33⟩ := open_trace (hval 3 30 _ rfl rfl) h3
  have sm3 : s3.small := ⟨by omega, by omega, fun x hx => by have := m33 x hx; omega⟩
  clear hA0 hA
  refine (tells3_any c0 c1 t2 t3 s0 s1 s2 s3 W hs0 hs1 hs2 hs3 sm0 sm1 sm2 sm3 lo0 hi0 ⟨lo2, hi2⟩ ⟨lo3, hi3⟩ wd0).mono fun e W' ⟨he, hbel⟩ => ?_
  subst he
  exact ⟨_, rfl, law_end laidOut (by decide +kernel) rfl rfl Try.underlying4 hW' rfl rfl rfl hbel⟩

set_option maxRecDepth 100000 in
theorem lifted (os : Os) (started : os.Started) (H : Type) (enc : TypeId × Value → H) (F : Stop.Interp) :
    ReturnsInHanded {} Try.checked os 3 .any ((Rows.OpenSpec.upto Rows.normTellsSpec).pre6 enc Try.prog Try.f3 Rows.normTellsUptoRow.domain false) (((Rows.OpenSpec.upto Rows.normTellsSpec).at F).post enc Try.prog Try.f3 false true false false) := by
  refine returnsInHanded_of_cond (C := Try.checked) (s := Rows.OpenSpec.upto Rows.normTellsSpec) (k := Rows.uptoSmall) rfl own started (by kernel_rfl) Try.func3
    (OpenSpec.witness (enc := enc) (C := Try.checked) (s := Rows.OpenSpec.upto Rows.normTellsSpec) (k := Rows.uptoSmall) rfl false ⟨#[], #[.agg #[.int .i64 0, .slice none 0 0, .slice none 0 0, .slice none 0 0, .slice none 0 0, .slice none 0 0], .agg #[.int .i64 0, .slice none 0 0, .slice none 0 0, .slice none 0 0, .slice none 0 0, .slice none 0 0], .agg #[.int .i64 0, .slice none 0 0, .slice none 0 0], .agg #[.int .i64 0, .slice none 0 0, .slice none 0 0]], []⟩ 8 (by kernel_rfl) (by kernel_rfl) (by kernel_rfl)
      (x := ([.agg [.lit (.int .i64 0), .nil, .nil, .nil, .nil, .nil], .agg [.lit (.int .i64 0), .nil, .nil, .nil, .nil, .nil], .agg [.lit (.int .i64 0), .nil, .nil], .agg [.lit (.int .i64 0), .nil, .nil]], [], [])) (by kernel_rfl) rfl (by kernel_rfl)) ?_
  intro W base args ds gs before hval hW _ hk _
  exact contract H enc W base args ds gs before hval hW hk

theorem proved : Rows.NormTellsUptoSaid :=
  OpenClaim.holds_of_cond 3 Try.f3 rfl rfl rfl rfl rfl rfl rfl ⟨rfl, rfl, rfl, rfl, rfl⟩ rfl rfl rfl rfl rfl (by kernel_rfl) Try.func3 (by kernel_rfl)
    (of_decide_eq_true (by kernel_rfl)) (by unfold Func.isWrapper; first | (rw [if_pos (by decide +kernel)]; kernel_rfl) | (rw [if_neg (by decide +kernel)]; exact ⟨rfl, rfl⟩))
    (fun os started H enc _ F => lifted os started H enc F)
end Go.Proofs.Ytkbdebdhebphpaa.normTells
