/- inquestref03.Raw, by its contract. -/
import Derived.Test.YtkbdebdhebphpaaNRefA
import Derived.Test.YtkbdebdhebphpaaNCopy
import Derived.Test.YtkbdebdhebphpaaNMay
import Derived.Test.YtkbdebdhebphpaaNMayC
import Derived.Test.YtkbdebdhebphpaaNRaw
import Derived.Test.YtkbdebdhebphpaaNRegion
import Derived.Test.YtkbdebdhebphpaaNRefC
/- inquestref03.lits, .values, by their contracts. -/
namespace Go.Proofs.Ytkbdebdhebphpaa
open Go Go.RowKit Go.Joins

set_option maxRecDepth 100000 in
theorem reflits_any (m : Nat) (l : List Nat) (a : Option Addr) (n c : Nat) (hn : n ≤ 1048576) (hx : ∀ x ∈ l, x < 4294967296) (w : World) (h : Sees w a n c (l.map nv32)) :
    Calls Try.prog 41 #[.slice a n c, .int .i64 (m : Int)] w fun e w' => e = .returned (.bool (!badList m l)) ∧ w = w' := by
  have hl := h.lenMap
  obtain ⟨q, hq⟩ : ∃ q, q = badList m l := ⟨_, rfl⟩
  have NO : Hid (∀ k, k < n → m < l.getD k 0 / 2 → q = true) := fun k hk hb => by
    rw [hq]; unfold badList
    rw [show l.any (above m) = true from List.any_eq_true.2 ⟨l.getD k 0, getD_mem (by rw [hl]; exact hk), by unfold above; exact decide_eq_true (by omega)⟩]; simp
  have YES : Hid ((∀ k, k < n → ¬ m < l.getD k 0 / 2) → q = decide (1024 < n)) := fun hh => by
    rw [hq]; unfold badList
    rw [hl, show l.any (above m) = false from any_none (all_of_getD (d := 0) (fun j hj => by have := hh j (by rw [← hl]; exact hj); unfold above; exact decide_eq_false (by omega)))]; simp
  have HX := Lib.hid hx
  have HS := Lib.hid h
  have HL := Lib.hid hl
  rw [← hq]
  clear hq h hl hx
  go_enter Try.func41, Try.ntmps41
  go_wp2
  go_loop [5] (fun i => ∃ k : Nat, k ≤ n ∧ i = .int .i64 k ∧ Hid (∀ j, j < k → ¬ m < l.getD j 0 / 2)) (fun i => n - (intOf i).toNat)
  case atStart => exact ⟨0, Nat.zero_le _, rfl, fun j hj => absurd hj (by omega)⟩
  case round =>
    obtain ⟨k, hk, rfl, hno⟩ := hrel
    by_cases hlt : k < n
    · obtain ⟨b, off, rfl, hbw⟩ := HS.out.addr (by omega)
      have hcx := HS.out.num k hlt
      have h32 := HX.out (l.getD k 0) (getD_mem (by rw [HL.out]; exact hlt))
      obtain ⟨x, hx⟩ : ∃ x, x = l.getD k 0 := ⟨_, rfl⟩
      rw [← hx] at hcx h32
      have D1 : Int.tdiv (x : Int) 2 = ((x / 2 : Nat) : Int) := by rw [Int.tdiv_eq_ediv_of_nonneg (by omega)]; omega
      obtain ⟨u, hu⟩ : ∃ u, u = x / 2 := ⟨_, rfl⟩
      have hu3 : u < 4294967296 := by omega
      rw [← hu] at D1
      have U1 : IntKind.u32.wrap ((u : Nat) : Int) = (u : Int) := IntWalk.u32_in _ (by omega)
      have U2 : IntKind.i64.wrap ((u : Nat) : Int) = (u : Int) := IntWalk.i64_in _ (by omega)
      have HU : Hid (u = l.getD k 0 / 2) := by show _ = _; rw [hu, hx]
      have W1 : IntKind.i64.wrap ((k : Int) + 1) = (k : Int) + 1 := IntWalk.i64_in _ (by omega)
      clear hx hu
      by_cases hq : m < u
      · have e1 : decide ((m : Int) < (u : Int)) = true := by simp; omega
        have HQ : Hid (q = true) := NO.out k hlt (by rw [← HU.out]; exact hq)
        go_wp2
        go_ret
        exact ⟨by rw [HQ.out]; rfl, rfl⟩
      · have e1 : decide ((m : Int) < (u : Int)) = false := by simp; omega
        have HQ := Lib.hid hq
        clear hq
        go_wp2
        go_round
        case rel =>
          refine ⟨k + 1, by omega, by go_num, fun j hj => ?_⟩
          rcases Nat.lt_or_ge j k with h | h
          · exact hno.out j h
          · have : j = k := by omega
            subst this
            rw [← HU.out]; exact HQ.out
        case measure => simp [intOf]; omega
    · have hkn : k = n := by omega
      subst hkn
      have Y := Lib.hid (YES.out hno.out)
      by_cases hq : k ≤ 1024
      · have e1 : decide ((k : Int) ≤ 1024) = true := by simp; omega
        have HQ := Lib.hid hq
        clear hq
        go_wp2
        go_ret
        exact ⟨by rw [Y.out]; simp; exact HQ.out, rfl⟩
      · have e1 : decide ((k : Int) ≤ 1024) = false := by simp; omega
        have HQ := Lib.hid hq
        clear hq
        go_wp2
        go_ret
        exact ⟨by rw [Y.out]; have := HQ.out; simp; omega, rfl⟩

set_option maxRecDepth 100000 in
theorem refvalues_any (many : Int) (l : List UInt8) (a : Option Addr) (n c : Nat) (hn : n ≤ 1048576) (w : World) (h : Sees w a n c (l.map bv)) :
    Calls Try.prog 49 #[.slice a n c, .int .i64 many] w fun e w' => e = .returned (.bool (valsOk l many)) ∧ w = w' := by
  have hl := h.lenMap
  obtain ⟨q, hq⟩ : ∃ q, q = valsOk l many := ⟨_, rfl⟩
  have NO : Hid (∀ k, k < n → 2 < (l.getD k 0).toNat → q = false) := fun k hk hb => by
    rw [hq]; unfold valsOk
    rw [show l.any (fun u => decide (2 < u.toNat)) = true from List.any_eq_true.2 ⟨_, getD_mem (by rw [hl]; exact hk), decide_eq_true hb⟩]; simp
  have YES : Hid ((∀ k, k < n → ¬ 2 < (l.getD k 0).toNat) → q = decide ((n : Int) = many)) := fun hh => by
    rw [hq]; unfold valsOk
    rw [hl, show l.any (fun u => decide (2 < u.toNat)) = false from any_none (all_of_getD (d := 0) (fun j hj => decide_eq_false (hh j (by rw [← hl]; exact hj))))]; simp
  have HS := Lib.hid h
  have HL := Lib.hid hl
  rw [← hq]
  clear hq h hl
  go_enter Try.func49, Try.ntmps49
  go_wp2
  go_loop [5] (fun i => ∃ k : Nat, k ≤ n ∧ i = .int .i64 k ∧ Hid (∀ j, j < k → ¬ 2 < (l.getD j 0).toNat)) (fun i => n - (intOf i).toNat)
  case atStart => exact ⟨0, Nat.zero_le _, rfl, fun j hj => absurd hj (by omega)⟩
  case round =>
    obtain ⟨k, hk, rfl, hno⟩ := hrel
    by_cases hlt : k < n
    · obtain ⟨b, off, rfl, hbw⟩ := HS.out.addr (by omega)
      have hcx := HS.out.byte k hlt
      have W1 : IntKind.i64.wrap ((k : Int) + 1) = (k : Int) + 1 := IntWalk.i64_in _ (by omega)
      obtain ⟨u, hu⟩ : ∃ u, u = (l.getD k 0).toNat := ⟨_, rfl⟩
      have hcx2 : w.cell? ⟨b, off + k, none⟩ = some (.int .u8 (u : Int)) := by rw [hu]; exact hcx
      have HU := Lib.hid hu
      clear hcx hu
      by_cases hq : 2 < u
      · have e1 : decide ((2 : Int) < (u : Int)) = true := by simp; omega
        have HQ : Hid (q = false) := NO.out k hlt (by rw [← HU.out]; exact hq)
        go_wp2
        go_ret
        exact ⟨by rw [HQ.out]; rfl, rfl⟩
      · have e1 : decide ((2 : Int) < (u : Int)) = false := by simp; omega
        have HQ := Lib.hid hq
        clear hq
        go_wp2
        go_round
        case rel =>
          refine ⟨k + 1, by omega, by go_num, fun j hj => ?_⟩
          rcases Nat.lt_or_ge j k with h | h
          · exact hno.out j h
          · have : j = k := by omega
            subst this
            rw [← HU.out]; exact HQ.out
        case measure => simp [intOf]; omega
    · have hkn : k = n := by omega
      subst hkn
      have Y := Lib.hid (YES.out hno.out)
      by_cases hq : (k : Int) = many
      · have e1 : ((k : Int) == many) = true := by simpa using hq
        have HQ := Lib.hid hq
        clear hq
        go_wp2
        go_ret
        exact ⟨by rw [Y.out]; have := HQ.out; simp [this], rfl⟩
      · have e1 : ((k : Int) == many) = false := by simpa using hq
        have e2 : ((k : Int) = many) = False := by simpa using hq
        have HQ := Lib.hid hq
        clear hq
        go_wp2
        go_ret
        exact ⟨by rw [Y.out]; have := HQ.out; simp [this], rfl⟩
end Go.Proofs.Ytkbdebdhebphpaa
/- inquestref03.May, by its contract. -/
namespace Go.Proofs.Ytkbdebdhebphpaa
open Go Go.RowKit Go.Joins

theorem any_getD {α : Type} {l : List α} {p : α → Bool} {d : α} {k : Nat} (hk : k < l.length) (h : p (l.getD k d) = true) : l.any p = true := List.any_eq_true.2 ⟨l.getD k d, getD_mem hk, h⟩
theorem any_noD {α : Type} {l : List α} {p : α → Bool} {d : α} {n : Nat} (hn : l.length = n) (h : ∀ k, k < n → p (l.getD k d) = false) : l.any p = false := any_none (all_of_getD (d := d) (fun j hj => h j (by rw [← hn]; exact hj)))

set_option maxRecDepth 100000 in
set_option maxHeartbeats 3200000 in
theorem refmay3_any (c : NormC) (s : CSlots) (w : World) (h : SeesCir w s c) (hs : s.small) (hlo : -9223372036854775808 ≤ c.ins) (hhi : c.ins < 9223372036854775808) (hw : Wide c) :
    Calls Try.prog 12 #[cirV c.ins s] w fun e w' => e = .returned (.bool (mayC c)) ∧ Below w.heap.size w w' := by
  obtain ⟨a1, n1, c1, a2, n2, c2, a3, n3, c3, a4, n4, c4, a5, n5, c5⟩ := s
  obtain ⟨hs1, hs2, hs3, hs4, hs5⟩ := hs
  simp only at hs1 hs2 hs3 hs4 hs5
  have L1 : Hid (c.lats.length = n1) := h.s1.1
  have L2 : Hid (c.gates.length = n2) := h.s2.1
  obtain ⟨z, hz⟩ : ∃ z, z = c.ins := ⟨_, rfl⟩
  obtain ⟨q, hq⟩ : ∃ q, q = mayC c := ⟨_, rfl⟩
  rw [← hz] at hlo hhi
  have HW := Lib.hid hw
  have HS := Lib.hid h
  rw [← hz, ← hq]
  have N0 : Hid (z < 0 → q = false) := fun t => by rw [hq]; unfold mayC tooMany; rw [← hz, decide_eq_true t]; rfl
  have N1 : Hid (16384 - z < ((n1 + n2 : Nat) : Int) → q = false) := fun t => by rw [hq]; unfold mayC tooMany; rw [← hz, L1.out, L2.out, decide_eq_true t]; simp
  unfold cirV
  by_cases t : z < 0
  · have e : decide (z < 0) = true := by simpa using t
    have HF : Hid (q = false) := N0.out t
    clear hz hq
    go_enter Try.func12, Try.ntmps12
    go_wp2
    go_ret
    exact ⟨by rw [HF.out]; rfl, ext_alloc _ _⟩
  obtain ⟨i, rfl⟩ := Int.eq_ofNat_of_zero_le (show 0 ≤ z by omega)
  have e0 : decide ((i : Int) < 0) = false := by simp
  clear t
  by_cases t : 16384 < i
  · have e : decide ((16384 : Int) < (i : Int)) = true := by simp; omega
    have HF : Hid (q = false) := N1.out (by omega)
    clear hz hq
    go_enter Try.func12, Try.ntmps12
    go_wp2
    go_ret
    exact ⟨by rw [HF.out]; rfl, ext_alloc _ _⟩
  have e1 : decide ((16384 : Int) < (i : Int)) = false := by simp; omega
  have t1 := t
  clear t
  by_cases t : 16384 < n1
  · have e : decide ((16384 : Int) < (n1 : Int)) = true := by simp; omega
    have HF : Hid (q = false) := N1.out (by omega)
    clear hz hq
    go_enter Try.func12, Try.ntmps12
    go_wp2
    go_ret
    exact ⟨by rw [HF.out]; rfl, ext_alloc _ _⟩
  have e2 : decide ((16384 : Int) < (n1 : Int)) = false := by simp; omega
  have t2 := t
  clear t
  by_cases t : 16384 < n2
  · have e : decide ((16384 : Int) < (n2 : Int)) = true := by simp; omega
    have HF : Hid (q = false) := N1.out (by omega)
    clear hz hq
    go_enter Try.func12, Try.ntmps12
    go_wp2
    go_ret
    exact ⟨by rw [HF.out]; rfl, ext_alloc _ _⟩
  have e3 : decide ((16384 : Int) < (n2 : Int)) = false := by simp; omega
  have t3 := t
  clear t
  have U1 : IntKind.i64.wrap ((i : Int) + (n1 : Int)) = (i : Int) + (n1 : Int) := IntWalk.i64_in _ (by omega)
  have U2 : IntKind.i64.wrap ((i : Int) + (n1 : Int) + (n2 : Int)) = (i : Int) + (n1 : Int) + (n2 : Int) := IntWalk.i64_in _ (by omega)
  by_cases t : 16384 < i + n1 + n2
  · have e : decide ((16384 : Int) < (i : Int) + (n1 : Int) + (n2 : Int)) = true := by simp; omega
    have HF : Hid (q = false) := N1.out (by omega)
    clear hz hq
    go_enter Try.func12, Try.ntmps12
    go_wp2
    go_ret
    exact ⟨by rw [HF.out]; rfl, ext_alloc _ _⟩
  have e4 : decide ((16384 : Int) < (i : Int) + (n1 : Int) + (n2 : Int)) = false := by simp; omega
  obtain ⟨m, hm⟩ : ∃ m, m = i + n1 + n2 := ⟨_, rfl⟩
  have hv : mayC c = (!badList m c.outs && (!badList m c.bads && (!badList m c.cons && (!c.lats.any (badLat2 m) && !badGates (1 + i + c.lats.length) c.gates)))) := by
    have e3 : varsN c = m := by unfold varsN; rw [← hz, L1.out, L2.out, hm]; simp
    unfold mayC tooMany
    rw [e3, ← hz, L1.out, L2.out, show decide ((i : Int) < 0) = false by simp, show decide (16384 - (i : Int) < ((n1 + n2 : Nat) : Int)) = false from decide_eq_false (by omega)]
    simp
  rw [← hq] at hv
  have NL : Hid (∀ k, k < n1 → badLat2 m (c.lats.getD k (0, 0)) = true → q = false) := fun k hk hb => by
    rw [hv, any_getD (by rw [L1.out]; exact hk) hb]; simp
  have NG : Hid (∀ k, k < n2 → badGate2 (1 + i + n1 + k) (c.gates.getD k (0, 0)) = true → q = false) := fun k hk hb => by
    rw [hv, (badGates_at c.gates (1 + i + c.lats.length)).2 ⟨k, by rw [L2.out]; exact hk, by rw [L1.out]; exact hb⟩]; simp
  have YES : Hid ((∀ k, k < n1 → badLat2 m (c.lats.getD k (0, 0)) = false) → (∀ k, k < n2 → badGate2 (1 + i + n1 + k) (c.gates.getD k (0, 0)) = false) → q = (!badList m c.outs && (!badList m c.bads && !badList m c.cons))) := fun h1 h2 => by
    rw [hv, any_noD L1.out h1, badGates_no.2 (fun k hk => by rw [L1.out]; exact h2 k (by rw [← L2.out]; exact hk))]; simp
  have hm16 : m ≤ 16384 := by omega
  have HM := Lib.hid hm
  clear hv hz hq hm t N0 N1
  go_enter Try.func12, Try.ntmps12
  go_upto_region 6 with fail
  clear e0 e1 e2 e3 e4 t1 t2 t3
  generalize hW : World.alloc _ _ = W1
  rw [show (i : Int) + (n1 : Int) + (n2 : Int) = (m : Int) by have := HM.out; omega]
  have B1 : Below w.heap.size w W1 := by subst hW; exact ext_alloc _ _
  have hX : W1.heap[w.heap.size]? = some (.cells #[.int .i64 i, .slice a1 n1 c1, .slice a2 n2 c2, .slice a3 n3 c3, .slice a4 n4 c4, .slice a5 n5 c5] 26 (0, 0)) := by subst hW; exact heap_new _ _ _ rfl
  clear hW U1 U2
  have HB1 := Lib.hid B1
  have HX := Lib.hid hX
  have HS := Lib.hid (HS.out.below B1)
  clear B1 hX
  go_wp2
  go_loopw [4] (fun ii wr => ∃ k : Nat, k ≤ n1 ∧ ii = .int .i64 k ∧ Hid (∀ j, j < k → badLat2 m (c.lats.getD j (0, 0)) = false) ∧ Hid (Below W1.heap.size W1 wr)) (fun ii _ => n1 - (intOf ii).toNat)
  case atStart => exact ⟨0, Nat.zero_le _, rfl, fun j hj => absurd hj (by omega), Below.refl _ _⟩
  case round =>
    obtain ⟨k, hk, rfl, hno, hB⟩ := hrel
    have p := cell_of_block (heap_below HX.out hB.out) 1
    by_cases hlt : k < n1
    · obtain ⟨b, off, rfl, hbw⟩ := HS.out.s1.addr (show 0 < n1 by omega)
      obtain ⟨qx, qy⟩ := (HS.out.s1.below hB.out).cells k hlt (0, 0)
      have hbad := NL.out k hlt
      have hwd := HW.out.lats (c.lats.getD k (0, 0)) (getD_mem (by rw [L1.out]; exact hlt))
      obtain ⟨t, ht⟩ : ∃ t, t = c.lats.getD k (0, 0) := ⟨_, rfl⟩
      rw [← ht] at qx qy hbad hwd
      have STEP : Hid (badLat2 m t = false → ∀ j, j < k + 1 → badLat2 m (c.lats.getD j (0, 0)) = false) := fun hq j hj => by
        rcases Nat.lt_or_ge j k with h | h
        · exact hno.out j h
        · have : j = k := by omega
          subst this
          rw [← ht]; exact hq
      clear ht
      obtain ⟨x, y⟩ := t
      simp only [nv32, nv8] at qx qy
      simp only at hwd
      obtain ⟨hw1, hw2⟩ := hwd
      have W1' : IntKind.i64.wrap ((k : Int) + 1) = (k : Int) + 1 := IntWalk.i64_in _ (by omega)
      have D1 : Int.tdiv (x : Int) 2 = ((x / 2 : Nat) : Int) := by rw [Int.tdiv_eq_ediv_of_nonneg (by omega)]; omega
      obtain ⟨u, hu⟩ : ∃ u, u = x / 2 := ⟨_, rfl⟩
      have hu3 : u < 4294967296 := by omega
      rw [← hu] at D1
      have U1 : IntKind.u32.wrap ((u : Nat) : Int) = (u : Int) := IntWalk.u32_in _ (by omega)
      have U2 : IntKind.i64.wrap ((u : Nat) : Int) = (u : Int) := IntWalk.i64_in _ (by omega)
      have HU : Hid (above m x = decide (m < u)) := by show _ = _; unfold above; exact decide_eq_decide.2 (by omega)
      have HBAD := Lib.hid hbad
      have HBB := Lib.hid hB.out
      clear hbad hB hno hu
      by_cases b1 : m < u
      · have hb : Hid (q = false) := HBAD.out (by unfold badLat2; rw [HU.out, decide_eq_true b1]; rfl)
        have g1 : decide ((m : Int) < (u : Int)) = true := by simp; omega
        go_wp2
        go_ret
        exact ⟨by rw [hb.out]; rfl, ext_trans HB1.out HBB.out⟩
      have g1 : decide ((m : Int) < (u : Int)) = false := by simp; omega
      by_cases b2 : 2 < y
      · have hb : Hid (q = false) := HBAD.out (by unfold badLat2; simp only; rw [decide_eq_true b2]; simp)
        have g2 : decide ((2 : Int) < (y : Int)) = true := by simp; omega
        go_wp2
        go_ret
        exact ⟨by rw [hb.out]; rfl, ext_trans HB1.out HBB.out⟩
      have g2 : decide ((2 : Int) < (y : Int)) = false := by simp; omega
      have HN := Lib.hid (STEP.out (by unfold badLat2; rw [HU.out]; simp only; rw [decide_eq_false b1, decide_eq_false b2]; rfl))
      clear STEP HBAD
      go_wp2
      go_roundw
      case rel => exact ⟨k + 1, by omega, by go_num, HN.out, HBB.out⟩
      case measure => simp [intOf]; omega
    · obtain rfl : n1 = k := by omega
      have YES := Lib.hid (YES.out hno.out)
      have HBL := Lib.hid hB.out
      clear hno hB hlt hk NL
      go_wp2
      clear p
      go_loopw [5] (fun ii wr => ∃ k : Nat, k ≤ n2 ∧ ii = .int .i64 k ∧ Hid (∀ j, j < k → badGate2 (1 + i + n1 + j) (c.gates.getD j (0, 0)) = false) ∧ Hid (Below W1.heap.size W1 wr)) (fun ii _ => n2 - (intOf ii).toNat)
      case atStart => exact ⟨0, Nat.zero_le _, rfl, fun j hj => absurd hj (by omega), HBL.out⟩
      case round =>
        clear HBL
        obtain ⟨k, hk, rfl, hno, hB⟩ := hrel
        have p2 := cell_of_block (heap_below HX.out hB.out) 2
        by_cases hlt : k < n2
        · obtain ⟨b, off, rfl, hbw⟩ := HS.out.s2.addr (show 0 < n2 by omega)
          obtain ⟨qx, qy⟩ := (HS.out.s2.below hB.out).cells k hlt (0, 0)
          have hbad := NG.out k hlt
          have hwd := HW.out.gates (c.gates.getD k (0, 0)) (getD_mem (by rw [L2.out]; exact hlt))
          obtain ⟨t, ht⟩ : ∃ t, t = c.gates.getD k (0, 0) := ⟨_, rfl⟩
          rw [← ht] at qx qy hbad hwd
          have STEP : Hid (badGate2 (1 + i + n1 + k) t = false → ∀ j, j < k + 1 → badGate2 (1 + i + n1 + j) (c.gates.getD j (0, 0)) = false) := fun hq j hj => by
            rcases Nat.lt_or_ge j k with h | h
            · exact hno.out j h
            · have : j = k := by omega
              subst this
              rw [← ht]; exact hq
          clear ht
          obtain ⟨x, y⟩ := t
          simp only [nv32] at qx qy
          simp only at hwd
          obtain ⟨hw1, hw2⟩ := hwd
          go_upto_region 15 with fail
          generalize hW : World.alloc wr _ = Wg
          have Bg : Below wr.heap.size wr Wg := by subst hW; exact ext_alloc _ _
          have hG : Wg.heap[wr.heap.size]? = some (.cells #[.int .u32 x, .int .u32 y] 56 (0, 0)) := by subst hW; exact heap_new _ _ _ rfl
          have HBB := Lib.hid (ext_trans hB.out Bg)
          have r0 : Wg.cell? ⟨wr.heap.size, 0, none⟩ = some (.int .u32 x) := cell_of_block hG 0
          have r1 : Wg.cell? ⟨wr.heap.size, 1, none⟩ = some (.int .u32 y) := cell_of_block hG 1
          have p0 := cell_of_block (heap_below HX.out HBB.out) 0
          have p1 := cell_of_block (heap_below HX.out HBB.out) 1
          clear hW hG Bg qx qy p2 hbw
          have W1' : IntKind.i64.wrap ((k : Int) + 1) = (k : Int) + 1 := IntWalk.i64_in _ (by omega)
          have D1 : Int.tdiv (x : Int) 2 = ((x / 2 : Nat) : Int) := by rw [Int.tdiv_eq_ediv_of_nonneg (by omega)]; omega
          obtain ⟨u, hu⟩ : ∃ u, u = x / 2 := ⟨_, rfl⟩
          have hu3 : u < 4294967296 := by omega
          rw [← hu] at D1
          have U1 : IntKind.u32.wrap ((u : Nat) : Int) = (u : Int) := IntWalk.u32_in _ (by omega)
          have U2 : IntKind.i64.wrap ((u : Nat) : Int) = (u : Int) := IntWalk.i64_in _ (by omega)
          have V1 : IntKind.i64.wrap ((i : Int) + (n1 : Int)) = (i : Int) + (n1 : Int) := IntWalk.i64_in _ (by have := HM.out; omega)
          have V2 : IntKind.i64.wrap ((i : Int) + (n1 : Int) + 1) = (i : Int) + (n1 : Int) + 1 := IntWalk.i64_in _ (by have := HM.out; omega)
          have V3 : IntKind.i64.wrap ((i : Int) + (n1 : Int) + 1 + (k : Int)) = (i : Int) + (n1 : Int) + 1 + (k : Int) := IntWalk.i64_in _ (by have := HM.out; omega)
          have HU : Hid (decide (2 * (1 + i + n1 + k) ≤ x) = decide (i + n1 + 1 + k ≤ u)) := by show _ = _; exact decide_eq_decide.2 (by omega)
          have HBAD := Lib.hid hbad
          clear hbad hB hno hu
          by_cases b1 : i + n1 + 1 + k ≤ u
          · have hb : Hid (q = false) := HBAD.out (by unfold badGate2; simp only; rw [HU.out, decide_eq_true b1]; simp)
            have g1 : decide ((i : Int) + (n1 : Int) + 1 + (k : Int) ≤ (u : Int)) = true := by simp; omega
            go_wp2
            go_ret
            exact ⟨by rw [hb.out]; rfl, ext_trans HB1.out HBB.out⟩
          have g1 : decide ((i : Int) + (n1 : Int) + 1 + (k : Int) ≤ (u : Int)) = false := by simp; omega
          by_cases b2 : x < y
          · have hb : Hid (q = false) := HBAD.out (by unfold badGate2; simp only; rw [decide_eq_true b2]; rfl)
            have g2 : decide ((x : Int) < (y : Int)) = true := by simp; omega
            go_wp2
            go_ret
            exact ⟨by rw [hb.out]; rfl, ext_trans HB1.out HBB.out⟩
          have g2 : decide ((x : Int) < (y : Int)) = false := by simp; omega
          have HN := Lib.hid (STEP.out (by unfold badGate2; simp only; rw [HU.out, decide_eq_false b1, decide_eq_false b2]; rfl))
          clear STEP HBAD
          go_wp2
          go_roundw
          case rel => exact ⟨k + 1, by omega, by go_num, HN.out, HBB.out⟩
          case measure => simp [intOf]; omega
        · obtain rfl : n2 = k := by omega
          have YES := Lib.hid (YES.out hno.out)
          have HBL := Lib.hid hB.out
          have hxw := heap_below HX.out hB.out
          have p3 := cell_of_block hxw 3
          have p4 := cell_of_block hxw 4
          have p5 := cell_of_block hxw 5
          have HSR := Lib.hid (HS.out.below hB.out)
          clear hno hB hlt hk NG hxw
          obtain ⟨q3, h3⟩ : ∃ q, q = badList m c.outs := ⟨_, rfl⟩
          obtain ⟨q4, h4⟩ : ∃ q, q = badList m c.bads := ⟨_, rfl⟩
          obtain ⟨q5, h5⟩ : ∃ q, q = badList m c.cons := ⟨_, rfl⟩
          rw [← h3, ← h4, ← h5] at YES
          have C3 := Lib.hid (reflits_any m c.outs a3 n3 c3 hs3 HW.out.outs wr HSR.out.s3)
          have C4 := Lib.hid (reflits_any m c.bads a4 n4 c4 hs4 HW.out.bads wr HSR.out.s4)
          have C5 := Lib.hid (reflits_any m c.cons a5 n5 c5 hs5 HW.out.cons wr HSR.out.s5)
          rw [← h3] at C3
          rw [← h4] at C4
          rw [← h5] at C5
          clear h3 h4 h5 HSR
          go_wp2_with fail
          refine C3.out.mono ?_
          rintro e w' ⟨rfl, rfl⟩
          cases q3 with
          | true =>
            go_wp2
            go_ret
            exact ⟨by rw [YES.out]; simp, ext_trans HB1.out HBL.out⟩
          | false =>
          go_wp2_with fail
          refine C4.out.mono ?_
          rintro e w' ⟨rfl, rfl⟩
          cases q4 with
          | true =>
            go_wp2
            go_ret
            exact ⟨by rw [YES.out]; simp, ext_trans HB1.out HBL.out⟩
          | false =>
          go_wp2_with fail
          refine C5.out.mono ?_
          rintro e w' ⟨rfl, rfl⟩
          cases q5 with
          | true =>
            go_wp2
            go_ret
            exact ⟨by rw [YES.out]; simp, ext_trans HB1.out HBL.out⟩
          | false =>
          go_wp2
          go_ret
          exact ⟨by rw [YES.out]; rfl, ext_trans HB1.out HBL.out⟩
end Go.Proofs.Ytkbdebdhebphpaa
/- norm.areValues, norm.Fits's closure, slices.ContainsFunc on values and on frames, by their contracts. -/
namespace Go.Proofs.Ytkbdebdhebphpaa
open Go Go.RowKit Go.Joins

def big2 (u : UInt8) : Bool := decide (2 < u.toNat)
theorem wrongv_any (u : UInt8) (w : World) :
    Calls Try.prog 71 #[bv u] w fun e w' => e = .returned (.bool (big2 u)) ∧ w = w' := by
  obtain ⟨x, hx⟩ : ∃ x, x = u.toNat := ⟨_, rfl⟩
  have e : decide ((2 : Int) < (x : Int)) = big2 u := by unfold big2; rw [hx]; exact decide_eq_decide.2 (by omega)
  have E := Lib.hid e
  unfold bv
  rw [← hx]
  clear e hx
  go_enter Try.func71, Try.ntmps71
  go_wp2
  go_ret
  exact ⟨congrArg (fun b => Ending.returned (.bool b)) E.out, rfl⟩
set_option maxRecDepth 100000 in
theorem idx_vals (l : List UInt8) (a : Option Addr) (n c : Nat) (hn : n ≤ 1048576) (w : World) (h : Sees w a n c (l.map bv)) :
    Calls Try.prog 90 #[.slice a n c, .func (.func 71) #[] #[]] w (IdxPost big2 l w) := by
  have hl := h.lenMap
  have HS := Lib.hid h
  have HL := Lib.hid hl
  have HA := Lib.hid (fun h0 : 0 < n => h.addr h0)
  have HC : Hid (∀ k, k < n → ∀ W, Below w.heap.size w W → Calls Try.prog 71 #[bv (l.getD k 0)] W fun e w' => e = .returned (.bool (big2 (l.getD k 0))) ∧ Below W.heap.size W w') := fun k hk W hb => (wrongv_any (l.getD k 0) W).mono fun e w' ⟨h1, h2⟩ => ⟨h1, by subst h2; exact Below.refl _ _⟩
  clear h hl
  go_enter Try.func90, Try.ntmps90
  go_wp2
  go_loopw [5, 8] (fun v i wr => ∃ k : Nat, k ≤ n ∧ i = .int .i64 k ∧ Hid (∀ j, j < k → big2 (l.getD j 0) = false) ∧ Hid (Below w.heap.size w wr)) (fun _ i _ => n - (intOf i).toNat)
  case atStart => exact ⟨0, Nat.zero_le _, rfl, fun j hj => absurd hj (by omega), Below.refl _ _⟩
  case round =>
    obtain ⟨k, hk, rfl, hno, hB⟩ := hrel
    by_cases hlt : k < n
    · obtain ⟨b, off, rfl, hbw⟩ := HA.out (by omega)
      have hcx := (HS.out.below hB.out).byte k hlt
      obtain ⟨u, hu⟩ : ∃ u, u = l.getD k 0 := ⟨_, rfl⟩
      have W1 : IntKind.i64.wrap ((k : Int) + 1) = (k : Int) + 1 := IntWalk.i64_in _ (by omega)
      obtain ⟨q, hq⟩ : ∃ q, q = big2 (l.getD k 0) := ⟨_, rfl⟩
      have HQ := Lib.hid hq
      have HB := Lib.hid hB.out
      have HNO := Lib.hid hno.out
      have HC1 := HC.out k hlt wr hB.out
      rw [← hq] at HC1
      have HC2 := Lib.hid HC1
      clear hq hB hno HC1
      go_wp2_with fail
      refine HC2.out.mono ?_
      rintro e w' ⟨rfl, hb⟩
      have HB2 := Lib.hid (ext_trans HB.out hb)
      clear hb hbw HC2
      cases q with
      | true =>
        go_wp2
        go_ret
        refine ⟨k, rfl, by omega, ⟨fun _ => ?_, fun _ => by omega⟩, HB2.out⟩
        exact List.any_eq_true.2 ⟨l.getD k 0, getD_mem (by rw [HL.out]; exact hlt), HQ.out.symm⟩
      | false =>
        have HN : Hid (∀ j, j < k + 1 → big2 (l.getD j 0) = false) := fun j hj => by
          rcases Nat.lt_or_ge j k with h | h
          · exact HNO.out j h
          · have : j = k := by omega
            subst this
            exact HQ.out.symm
        go_wp2
        go_roundw
        case rel => exact ⟨k + 1, by omega, by go_num, HN.out, HB2.out⟩
        case measure => simp [intOf]; omega
    · have hkn : k = n := by omega
      subst hkn
      have HB := Lib.hid hB.out
      have HNO := Lib.hid hno.out
      clear hB hno
      go_wp2
      go_ret
      refine ⟨-1, rfl, by omega, ⟨fun h => absurd h (by decide), fun h => ?_⟩, HB.out⟩
      rw [any_none (all_of_getD (d := 0) (fun j hj => HNO.out j (by rw [← HL.out]; exact hj)))] at h
      cases h
theorem has_vals (l : List UInt8) (a : Option Addr) (n c : Nat) (hn : n ≤ 1048576) (w : World) (h : Sees w a n c (l.map bv)) :
    Calls Try.prog 72 #[.slice a n c, .func (.func 71) #[] #[]] w (fun e w' => e = .returned (.bool (l.any big2)) ∧ Below w.heap.size w w') := by
  have HI := Lib.hid (idx_vals l a n c hn w h)
  clear h
  obtain ⟨f, hf⟩ : ∃ f, f = (.func (.func 71) #[] #[] : Value) := ⟨_, rfl⟩
  rw [← hf] at HI ⊢
  have HF := Lib.hid hf
  clear hf
  go_enter Try.func72, Try.ntmps72
  go_wp2_with fail
  refine HI.out.mono ?_
  rintro e w' ⟨z, rfl, hz, hiff, hb⟩
  have e : decide (0 ≤ z) = l.any big2 := by
    cases hq : l.any big2 with
    | true => simpa using hiff.2 hq
    | false => simp; have := fun h => hiff.1 h; rw [hq] at this; exact Int.not_le.1 (fun h => by cases this h)
  have E := Lib.hid e
  clear e hiff
  go_wp2
  go_ret
  exact ⟨congrArg (fun b => Ending.returned (.bool b)) E.out, hb⟩
theorem valsOk_any (l : List UInt8) (many : Int) : valsOk l many = (decide ((l.length : Int) = many) && !l.any big2) := rfl
set_option maxRecDepth 100000 in
theorem arevals_any (many : Int) (l : List UInt8) (a : Option Addr) (n c : Nat) (hn : n ≤ 1048576) (w : World) (h : Sees w a n c (l.map bv)) :
    Calls Try.prog 46 #[.slice a n c, .int .i64 many] w fun e w' => e = .returned (.bool (valsOk l many)) ∧ Below w.heap.size w w' := by
  have hl := h.lenMap
  obtain ⟨q, hq⟩ : ∃ q, q = l.any big2 := ⟨_, rfl⟩
  have HV : Hid (valsOk l many = (decide ((n : Int) = many) && !q)) := by show _ = _; rw [valsOk_any, hl, hq]
  have HI := has_vals l a n c hn w h
  rw [← hq] at HI
  have HH := Lib.hid HI
  clear hq HI h hl
  go_enter Try.func46, Try.ntmps46
  by_cases hm : (n : Int) = many
  · have e1 : ((n : Int) == many) = true := by simpa using hm
    have HM := Lib.hid hm
    clear hm
    go_wp2_with fail
    refine HH.out.mono ?_
    rintro e w' ⟨rfl, hb⟩
    have HB := Lib.hid hb
    clear hb
    cases q with
    | true =>
      go_wp2
      go_ret
      exact ⟨by rw [HV.out]; simp, HB.out⟩
    | false =>
      go_wp2
      go_ret
      exact ⟨by rw [HV.out, decide_eq_true HM.out]; simp, HB.out⟩
  · have e1 : ((n : Int) == many) = false := by simpa using hm
    have e2 : ((n : Int) = many) = False := by simpa using hm
    have HM := Lib.hid hm
    clear hm
    go_wp2
    go_ret
    exact ⟨by rw [HV.out, decide_eq_false HM.out]; simp, Below.refl _ _⟩
end Go.Proofs.Ytkbdebdhebphpaa
/- norm.Fits, by its contract. -/
namespace Go.Proofs.Ytkbdebdhebphpaa
open Go Go.RowKit Go.Joins

def wrongF (z : Int) (f : List UInt8) : Bool := !valsOk f z
set_option maxRecDepth 100000 in
theorem wrongf_any (z : Int) (C : Nat) (f : List UInt8) (a : Option Addr) (n c : Nat) (hn : n ≤ 1048576) (w : World) (h : Sees w a n c (f.map bv)) (hc : w.cell? ⟨C, 0, .none⟩ = some (.int .i64 z)) :
    Calls Try.prog 47 #[.slice a n c, .pointer (some ⟨C, 0, .none⟩)] w fun e w' => e = .returned (.bool (wrongF z f)) ∧ Below w.heap.size w w' := by
  obtain ⟨q, hq⟩ : ∃ q, q = valsOk f z := ⟨_, rfl⟩
  have H1 := arevals_any z f a n c hn w h
  unfold wrongF
  rw [← hq] at H1 ⊢
  have HA := Lib.hid H1
  clear H1 hq h
  go_enter Try.func47, Try.ntmps47
  go_wp2_with fail
  refine HA.out.mono ?_
  rintro e w' ⟨rfl, hb⟩
  have HB := Lib.hid hb
  clear hb
  go_wp2
  go_ret
  exact ⟨rfl, HB.out⟩

set_option maxRecDepth 100000 in
theorem idx_frames (z : Int) (C : Nat) (l : List (List UInt8)) (ss : List Slc) (a : Option Addr) (n c : Nat) (hn : n ≤ 1048576) (hss : ∀ x ∈ ss, x.2.1 ≤ 1048576) (w : World) (h : SeesF w a n c ss l) (hc : w.cell? ⟨C, 0, .none⟩ = some (.int .i64 z)) :
    Calls Try.prog 73 #[.slice a n c, .func (.func 47) #[] #[.pointer (some ⟨C, 0, .none⟩)]] w (IdxPost (wrongF z) l w) := by
  have hl := h.n_eq
  have HS := Lib.hid h
  have HL := Lib.hid hl
  have HSS := Lib.hid hss
  have HCC := Lib.hid hc
  clear h hl hss hc
  go_enter Try.func73, Try.ntmps73
  go_wp2
  go_loopw [5, 8] (fun v i wr => ∃ k : Nat, k ≤ n ∧ i = .int .i64 k ∧ Hid (∀ j, j < k → wrongF z (l.getD j []) = false) ∧ Hid (Below w.heap.size w wr)) (fun _ i _ => n - (intOf i).toNat)
  case atStart => exact ⟨0, Nat.zero_le _, rfl, fun j hj => absurd hj (by omega), Below.refl _ _⟩
  case round =>
    obtain ⟨k, hk, rfl, hno, hB⟩ := hrel
    by_cases hlt : k < n
    · obtain ⟨b, off, rfl, hbw⟩ := HS.out.row.addr (by omega)
      have hcx := (HS.out.below hB.out).cellAt k hlt
      have hsx := (HS.out.below hB.out).each k (by rw [HL.out]; exact hlt)
      have hsm := HSS.out (ss.getD k slc0) (getD_mem (by rw [HS.out.len, HL.out]; exact hlt))
      obtain ⟨x, hx⟩ : ∃ x : Slc, x = ss.getD k slc0 := ⟨_, rfl⟩
      rw [← hx] at hcx hsx hsm
      clear hx
      obtain ⟨xa, xn, xc⟩ := x
      simp only at hcx hsx hsm
      have W1 : IntKind.i64.wrap ((k : Int) + 1) = (k : Int) + 1 := IntWalk.i64_in _ (by omega)
      obtain ⟨q, hq⟩ : ∃ q, q = wrongF z (l.getD k []) := ⟨_, rfl⟩
      have HC1 := wrongf_any z C (l.getD k []) xa xn xc hsm wr hsx (cell_below HCC.out hB.out)
      rw [← hq] at HC1
      have HC2 := Lib.hid HC1
      have HQ := Lib.hid hq
      have HB := Lib.hid hB.out
      have HNO := Lib.hid hno.out
      clear hq hB hno HC1 hsx
      go_wp2_with fail
      refine HC2.out.mono ?_
      rintro e w' ⟨rfl, hb⟩
      have HB2 := Lib.hid (ext_trans HB.out hb)
      clear hb hbw HC2 hcx
      cases q with
      | true =>
        go_wp2
        go_ret
        refine ⟨k, rfl, by omega, ⟨fun _ => ?_, fun _ => by omega⟩, HB2.out⟩
        exact List.any_eq_true.2 ⟨l.getD k [], getD_mem (by rw [HL.out]; exact hlt), HQ.out.symm⟩
      | false =>
        have HN : Hid (∀ j, j < k + 1 → wrongF z (l.getD j []) = false) := fun j hj => by
          rcases Nat.lt_or_ge j k with h | h
          · exact HNO.out j h
          · have : j = k := by omega
            subst this
            exact HQ.out.symm
        go_wp2
        go_roundw
        case rel => exact ⟨k + 1, by omega, by go_num, HN.out, HB2.out⟩
        case measure => simp [intOf]; omega
    · have hkn : k = n := by omega
      subst hkn
      have HB := Lib.hid hB.out
      have HNO := Lib.hid hno.out
      clear hB hno
      go_wp2
      go_ret
      refine ⟨-1, rfl, by omega, ⟨fun h => absurd h (by decide), fun h => ?_⟩, HB.out⟩
      rw [any_none (all_of_getD (d := []) (fun j hj => HNO.out j (by rw [← HL.out]; exact hj)))] at h
      cases h

theorem has_frames (z : Int) (C : Nat) (l : List (List UInt8)) (ss : List Slc) (a : Option Addr) (n c : Nat) (hn : n ≤ 1048576) (hss : ∀ x ∈ ss, x.2.1 ≤ 1048576) (w : World) (h : SeesF w a n c ss l) (hc : w.cell? ⟨C, 0, .none⟩ = some (.int .i64 z)) :
    Calls Try.prog 48 #[.slice a n c, .func (.func 47) #[] #[.pointer (some ⟨C, 0, .none⟩)]] w (fun e w' => e = .returned (.bool (l.any (wrongF z))) ∧ Below w.heap.size w w') := by
  have HI := Lib.hid (idx_frames z C l ss a n c hn hss w h hc)
  clear h hc hss
  obtain ⟨f, hf⟩ : ∃ f, f = (.func (.func 47) #[] #[.pointer (some ⟨C, 0, .none⟩)] : Value) := ⟨_, rfl⟩
  rw [← hf] at HI ⊢
  have HF := Lib.hid hf
  clear hf
  go_enter Try.func48, Try.ntmps48
  go_wp2_with fail
  refine HI.out.mono ?_
  rintro e w' ⟨z1, rfl, hz, hiff, hb⟩
  have e : decide (0 ≤ z1) = l.any (wrongF z) := by
    cases hq : l.any (wrongF z) with
    | true => simpa using hiff.2 hq
    | false => simp; have := fun h => hiff.1 h; rw [hq] at this; exact Int.not_le.1 (fun h => by cases this h)
  have E := Lib.hid e
  clear e hiff
  go_wp2
  go_ret
  exact ⟨congrArg (fun b => Ending.returned (.bool b)) E.out, hb⟩

/-- What is known ahead of Fits's walk. -/
structure FitI (c : NormC) (t : TraceC) (z bad : Int) (n1 n4 m1 m2 : Nat) (q qm qv : Bool) : Prop where
  no1 : qm = false → q = false
  no2 : bad < 0 → q = false
  no3 : (n4 : Int) ≤ bad → q = false
  nov : qv = false → q = false
  len : qv = true → m1 = n1
  noi : ∀ k, k < n1 → (c.lats.getD k (0, 0)).2 ≠ 2 → (t.init.getD k 0).toNat ≠ (c.lats.getD k (0, 0)).2 → q = false
  yes : qm = true → ¬ bad < 0 → ¬ (n4 : Int) ≤ bad → qv = true → (∀ k, k < n1 → (c.lats.getD k (0, 0)).2 = 2 ∨ (t.init.getD k 0).toNat = (c.lats.getD k (0, 0)).2) → q = (decide (1 ≤ m2) && (decide (m2 ≤ 256) && !t.frames.any (wrongF z)))
theorem fitI_of (c : NormC) (t : TraceC) {n1 n4 m1 m2 : Nat} (l1 : c.lats.length = n1) (l4 : c.bads.length = n4) (lm : t.init.length = m1) (lf : t.frames.length = m2) : FitI c t c.ins t.bad n1 n4 m1 m2 (fitsS c t) (mayC c) (valsOk t.init (n1 : Int)) := by
  refine ⟨fun h => ?_, fun h => ?_, fun h => ?_, fun h => ?_, fun h => ?_, fun k hk h1 h2 => ?_, fun h1 h2 h3 h4 h5 => ?_⟩
  · unfold fitsS; rw [h]; rfl
  · unfold fitsS; rw [decide_eq_true h]; simp
  · unfold fitsS; rw [l4, decide_eq_true h]; simp
  · unfold fitsS; rw [l1, h]; simp
  · unfold valsOk at h
    rw [Bool.and_eq_true, decide_eq_true_eq] at h
    omega
  · have : initOk c t = false := by
      unfold initOk
      rw [List.all_eq_false]
      exact ⟨k, List.mem_range.2 (by rw [l1]; exact hk), by simp only [h1, h2, decide_false, Bool.or_self]; simp⟩
    unfold fitsS; rw [this]; simp
  · have hi : initOk c t = true := by
      unfold initOk
      rw [List.all_eq_true]
      intro k hk
      have := h5 k (by rw [← l1]; exact List.mem_range.1 hk)
      rcases this with h | h <;> simp only [h, decide_true, Bool.true_or, Bool.or_true]
    have hf : t.frames.all (fun f => valsOk f c.ins) = !t.frames.any (wrongF c.ins) := by
      unfold wrongF
      rw [List.all_eq_not_any_not]
    unfold fitsS
    rw [h1, decide_eq_false h2, l4, decide_eq_false h3, l1, h4, hi, lf, hf]
    simp
set_option maxRecDepth 100000 in
set_option maxHeartbeats 3200000 in
theorem fits_any (c : NormC) (t : TraceC) (s : CSlots) (st : TSlots) (w : World) (h : SeesCir w s c) (ht : SeesTr w st t) (hs : s.small) (hst : st.small) (hlo : -9223372036854775808 ≤ c.ins) (hhi : c.ins < 9223372036854775808) (hb1 : -9223372036854775808 ≤ t.bad ∧ t.bad < 9223372036854775808) :
    Calls Try.prog 18 #[cirV c.ins s, traceV t.bad st] w fun e w' => e = .returned (.bool (fitsS c t)) ∧ Below w.heap.size w w' := by
  have HMAY := Lib.hid (fun W (hb : Below w.heap.size w W) => may3_any c s W (h.below hb) hs hlo hhi)
  obtain ⟨a1, n1, c1, a2, n2, c2, a3, n3, c3, a4, n4, c4, a5, n5, c5⟩ := s
  obtain ⟨b1, m1, d1, b2, m2, d2, ss⟩ := st
  have FI := fitI_of c t h.s1.1 h.s4.lenMap ht.s1.lenMap ht.s2.n_eq
  simp only at FI
  have hs1 : n1 ≤ 1048576 := hs.n1
  have hs4 : n4 ≤ 1048576 := hs.n4
  have hm1 : m1 ≤ 1048576 := hst.n1
  have hm2 : m2 ≤ 1048576 := hst.n2
  obtain ⟨z, hz⟩ : ∃ z, z = c.ins := ⟨_, rfl⟩
  obtain ⟨bad, hbad⟩ : ∃ z, z = t.bad := ⟨_, rfl⟩
  obtain ⟨q, hq⟩ : ∃ q, q = fitsS c t := ⟨_, rfl⟩
  obtain ⟨qm, hqm⟩ : ∃ q, q = mayC c := ⟨_, rfl⟩
  obtain ⟨qv, hqv⟩ : ∃ q, q = valsOk t.init (n1 : Int) := ⟨_, rfl⟩
  rw [← hz, ← hbad, ← hq, ← hqm, ← hqv] at FI
  rw [← hz, ← hqm] at HMAY
  have HVAL : Hid (∀ W, Below w.heap.size w W → Calls Try.prog 46 #[.slice b1 m1 d1, .int .i64 (n1 : Int)] W fun e w' => e = .returned (.bool qv) ∧ Below W.heap.size W w') := fun W hb => by
    have h1 := arevals_any (n1 : Int) t.init b1 m1 d1 hm1 W (ht.s1.below hb)
    rw [← hqv] at h1
    exact h1
  have HFR : Hid (∀ (C : Nat) W, Below w.heap.size w W → W.cell? ⟨C, 0, .none⟩ = some (.int .i64 z) → Calls Try.prog 48 #[.slice b2 m2 d2, .func (.func 47) #[] #[.pointer (some ⟨C, 0, .none⟩)]] W (fun e w' => e = .returned (.bool (t.frames.any (wrongF z))) ∧ Below W.heap.size W w')) := fun C W hb hc => has_frames z C t.frames ss b2 m2 d2 hm2 hst.each W (ht.s2.below hb) hc
  have HS := Lib.hid h
  have HT := Lib.hid ht
  have HFI := Lib.hid FI
  have hb2 := hb1.2
  have hb3 := hb1.1
  rw [← hbad] at hb2 hb3
  rw [← hz, ← hbad, ← hq]
  clear hz hbad hq hqm hqv FI h ht hs hst hlo hhi hb1
  unfold cirV traceV at *
  go_enter Try.func18, Try.ntmps18
  go_upto_region 1 with fail
  generalize hW : World.alloc (World.alloc w _) _ = W1
  have hb : Below w.heap.size w W1 := by subst hW; exact ext_trans (ext_alloc _ _) (ext_alloc _ _)
  have hx : W1.heap[w.heap.size]? = some (.cells #[.int .i64 z, .slice a1 n1 c1, .slice a2 n2 c2, .slice a3 n3 c3, .slice a4 n4 c4, .slice a5 n5 c5] 26 (0, 0)) := by subst hW; exact heap_below (heap_new _ _ _ rfl) (ext_alloc _ _)
  have hy : W1.heap[w.heap.size + 1]? = some (.cells #[.int .i64 bad, .slice b1 m1 d1, .slice b2 m2 d2] 30 (0, 0)) := by subst hW; exact heap_new _ _ _ (by simp)
  have HB := Lib.hid hb
  have HX := Lib.hid hx
  have HY := Lib.hid hy
  clear hW hb hx hy
  have p0 := cell_of_block HX.out 0
  have p1 := cell_of_block HX.out 1
  have p2 := cell_of_block HX.out 2
  have p3 := cell_of_block HX.out 3
  have p4 := cell_of_block HX.out 4
  have p5 := cell_of_block HX.out 5
  go_wp2_with fail
  refine (HMAY.out W1 HB.out).mono ?_
  rintro e W2 ⟨rfl, hb⟩
  have HX2 := Lib.hid (heap_below HX.out hb)
  have HY2 := Lib.hid (heap_below HY.out hb)
  have HB2 := Lib.hid (ext_trans HB.out hb)
  clear hb p0 p1 p2 p3 p4 p5 HMAY HX HY HB
  cases qm with
  | false =>
    have HF : Hid (q = false) := HFI.out.no1 rfl
    go_wp2
    go_ret
    exact ⟨by rw [HF.out]; rfl, HB2.out⟩
  | true =>
  have p4 := cell_of_block HX2.out 4
  have p1 := cell_of_block HX2.out 1
  have r0 := cell_of_block HY2.out 0
  have r1 := cell_of_block HY2.out 1
  by_cases t1 : bad < 0
  · have e1 : decide (bad < 0) = true := by simpa using t1
    have HF : Hid (q = false) := HFI.out.no2 t1
    go_wp2
    go_ret
    exact ⟨by rw [HF.out]; rfl, HB2.out⟩
  have e1 : decide (bad < 0) = false := by simpa using t1
  by_cases t2 : (n4 : Int) ≤ bad
  · have e2 : decide ((n4 : Int) ≤ bad) = true := by simpa using t2
    have HF : Hid (q = false) := HFI.out.no3 t2
    go_wp2
    go_ret
    exact ⟨by rw [HF.out]; rfl, HB2.out⟩
  have e2 : decide ((n4 : Int) ≤ bad) = false := by simpa using t2
  have T1 := Lib.hid t1
  have T2 := Lib.hid t2
  clear t1 t2
  go_wp2_with fail
  refine (HVAL.out W2 HB2.out).mono ?_
  rintro e W3 ⟨rfl, hb⟩
  have HX3 := Lib.hid (heap_below HX2.out hb)
  have HY3 := Lib.hid (heap_below HY2.out hb)
  have HB3 := Lib.hid (ext_trans HB2.out hb)
  clear hb p1 p4 r0 r1 HVAL HX2 HY2 HB2 e1 e2
  cases qv with
  | false =>
    have HF : Hid (q = false) := HFI.out.nov rfl
    go_wp2
    go_ret
    exact ⟨by rw [HF.out]; rfl, HB3.out⟩
  | true =>
  obtain rfl : m1 = n1 := HFI.out.len rfl
  have p1 := cell_of_block HX3.out 1
  go_wp2
  clear p1
  go_loopw [36, 5, 6] (fun i v5 v6 wr => ∃ k : Nat, k ≤ m1 ∧ i = .int .i64 k ∧ Hid (∀ j, j < k → (c.lats.getD j (0, 0)).2 = 2 ∨ (t.init.getD j 0).toNat = (c.lats.getD j (0, 0)).2) ∧ Hid (Below W3.heap.size W3 wr)) (fun i _ _ _ => m1 - (intOf i).toNat)
  case atStart => exact ⟨0, Nat.zero_le _, rfl, fun j hj => absurd hj (by omega), Below.refl _ _⟩
  case round =>
    obtain ⟨k, hk, rfl, hno, hB⟩ := hrel
    by_cases hlt : k < m1
    · obtain ⟨b, off, rfl, hbw⟩ := HS.out.s1.addr (show 0 < m1 by omega)
      obtain ⟨b', off', rfl, hbw'⟩ := HT.out.s1.addr (show 0 < m1 by omega)
      obtain ⟨qx, qy⟩ := ((HS.out.below HB3.out).s1.below hB.out).cells k hlt (0, 0)
      have hby := ((HT.out.below HB3.out).s1.below hB.out).byte k hlt
      have hnoi := HFI.out.noi k hlt
      obtain ⟨v, hv⟩ : ∃ v, v = (t.init.getD k 0).toNat := ⟨_, rfl⟩
      have hby2 : wr.cell? ⟨b', off' + k, none⟩ = some (.int .u8 (v : Int)) := by rw [hv]; exact hby
      obtain ⟨p, hp⟩ : ∃ t, t = c.lats.getD k (0, 0) := ⟨_, rfl⟩
      rw [← hp] at qx qy hnoi
      rw [← hv] at hnoi
      have STEP : Hid ((p.2 = 2 ∨ v = p.2) → ∀ j, j < k + 1 → (c.lats.getD j (0, 0)).2 = 2 ∨ (t.init.getD j 0).toNat = (c.lats.getD j (0, 0)).2) := fun hh j hj => by
        rcases Nat.lt_or_ge j k with h | h
        · exact hno.out j h
        · have : j = k := by omega
          subst this
          rw [← hp, ← hv]; exact hh
      clear hv hp hby hno
      obtain ⟨x, y⟩ := p
      simp only [nv32, nv8] at qx qy
      simp only at hnoi STEP
      have HNOI := Lib.hid hnoi
      have W1' : IntKind.i64.wrap ((k : Int) + 1) = (k : Int) + 1 := IntWalk.i64_in _ (by omega)
      clear hnoi
      go_upto_region 6 with fail
      generalize hW : World.alloc wr _ = Wg
      have Bg : Below wr.heap.size wr Wg := by subst hW; exact ext_alloc _ _
      have hG : Wg.heap[wr.heap.size]? = some (.cells #[.int .u32 x, .int .u8 y] 61 (0, 0)) := by subst hW; exact heap_new _ _ _ rfl
      have HBB := Lib.hid (ext_trans hB.out Bg)
      have hby3 := cell_below hby2 Bg
      have g1 : Wg.cell? ⟨wr.heap.size, 1, none⟩ = some (.int .u8 y) := cell_of_block hG 1
      have r1 := cell_of_block (heap_below HY3.out HBB.out) 1
      clear hW hG Bg qx qy hby2 hB hbw hbw'
      by_cases hy2 : y = 2
      · have f1 : ((y : Int) != 2) = false := by simp; omega
        have f2 : ((y : Int) == 2) = true := by simp; omega
        have HN := Lib.hid (STEP.out (Or.inl hy2))
        clear STEP hy2
        go_quiet (fail)
        go_wp2
        go_roundw
        case rel =>
          rename_i nq
          exact ⟨k + 1, by omega, by go_num, HN.out, ext_trans HBB.out (ext_drewN _ nq)⟩
        case measure => simp [intOf]; omega
      · have f1 : ((y : Int) != 2) = true := by simp; omega
        have f2 : ((y : Int) == 2) = false := by simp; omega
        by_cases hvy : v = y
        · have f3 : ((v : Int) != (y : Int)) = false := by simp; omega
          have f4 : ((v : Int) == (y : Int)) = true := by simp; omega
          have HN := Lib.hid (STEP.out (Or.inr hvy))
          clear STEP hy2 hvy
          go_quiet (fail)
          go_wp2
          go_roundw
          case rel =>
            rename_i nq
            exact ⟨k + 1, by omega, by go_num, HN.out, ext_trans HBB.out (ext_drewN _ nq)⟩
          case measure => simp [intOf]; omega
        · have f3 : ((v : Int) != (y : Int)) = true := by simp; omega
          have f4 : ((v : Int) == (y : Int)) = false := by simp; omega
          have HF : Hid (q = false) := HNOI.out hy2 hvy
          clear STEP hy2 hvy
          go_quiet (fail)
          go_wp2
          go_ret
          rename_i nq
          exact ⟨by rw [HF.out]; rfl, ext_trans HB3.out (ext_trans HBB.out (ext_drewN _ nq))⟩
    · obtain rfl : m1 = k := by omega
      have hQ := HFI.out.yes rfl (by have := T1.out; omega) (by have := T2.out; omega) rfl hno.out
      have HXR := Lib.hid (heap_below HX3.out hB.out)
      have HYR := Lib.hid (heap_below HY3.out hB.out)
      have HBR := Lib.hid (ext_trans HB3.out hB.out)
      obtain ⟨qf, hqf⟩ : ∃ q, q = t.frames.any (wrongF z) := ⟨_, rfl⟩
      have HF1 := HFR.out w.heap.size wr HBR.out (cell_of_block HXR.out 0)
      rw [← hqf] at hQ HF1
      have HQ := Lib.hid hQ
      have HF2 := Lib.hid HF1
      clear hQ hqf HF1 hno hB hlt hk
      have r2 := cell_of_block HYR.out 2
      by_cases t1 : 1 ≤ m2
      case neg =>
        have e1 : decide ((1 : Int) ≤ (m2 : Int)) = false := by simp; omega
        have HF : Hid (q = false) := by show _ = _; rw [HQ.out, decide_eq_false t1]; rfl
        clear t1
        go_wp2
        go_ret
        exact ⟨by rw [HF.out]; rfl, HBR.out⟩
      have e1 : decide ((1 : Int) ≤ (m2 : Int)) = true := by simp; omega
      by_cases t2 : m2 ≤ 256
      case neg =>
        have e2 : decide ((m2 : Int) ≤ 256) = false := by simp; omega
        have HF : Hid (q = false) := by show _ = _; rw [HQ.out, decide_eq_false t2]; simp
        clear t1 t2
        go_wp2
        go_ret
        exact ⟨by rw [HF.out]; rfl, HBR.out⟩
      have e2 : decide ((m2 : Int) ≤ 256) = true := by simp; omega
      have HF : Hid (q = !qf) := by show _ = _; rw [HQ.out, decide_eq_true t1, decide_eq_true t2]; rfl
      clear t1 t2
      go_wp2_with fail
      refine HF2.out.mono ?_
      rintro e W4 ⟨rfl, hb⟩
      have HB4 := Lib.hid (ext_trans HBR.out hb)
      clear hb
      go_wp2
      go_ret
      exact ⟨by rw [HF.out]; rfl, HB4.out⟩
end Go.Proofs.Ytkbdebdhebphpaa
/- inquestref03.Fits, by its contract. -/
namespace Go.Proofs.Ytkbdebdhebphpaa
open Go Go.RowKit Go.Joins

structure FitJ (c : NormC) (t : TraceC) (z bad : Int) (n1 n4 m1 m2 : Nat) (q qm qv : Bool) : Prop where
  no1 : qm = false → q = false
  no2 : bad < 0 → q = false
  no3 : (n4 : Int) ≤ bad → q = false
  nov : qv = false → q = false
  len : qv = true → m1 = n1
  no4 : ¬ 1 ≤ m2 → q = false
  no5 : ¬ m2 ≤ 256 → q = false
  nof : ∀ k, k < m2 → valsOk (t.frames.getD k []) z = false → q = false
  noi : ∀ k, k < n1 → (c.lats.getD k (0, 0)).2 ≠ 2 → (t.init.getD k 0).toNat ≠ (c.lats.getD k (0, 0)).2 → q = false
  yes : qm = true → ¬ bad < 0 → ¬ (n4 : Int) ≤ bad → qv = true → 1 ≤ m2 → m2 ≤ 256 → (∀ k, k < m2 → valsOk (t.frames.getD k []) z = true) → (∀ k, k < n1 → (c.lats.getD k (0, 0)).2 = 2 ∨ (t.init.getD k 0).toNat = (c.lats.getD k (0, 0)).2) → q = true
theorem fitJ_of (c : NormC) (t : TraceC) {n1 n4 m1 m2 : Nat} (l1 : c.lats.length = n1) (l4 : c.bads.length = n4) (lm : t.init.length = m1) (lf : t.frames.length = m2) : FitJ c t c.ins t.bad n1 n4 m1 m2 (fitsS c t) (mayC c) (valsOk t.init (n1 : Int)) := by
  have I := fitI_of c t l1 l4 lm lf
  refine ⟨I.no1, I.no2, I.no3, I.nov, I.len, fun h => ?_, fun h => ?_, fun k hk h => ?_, I.noi, fun h1 h2 h3 h4 h5 h6 h7 h8 => ?_⟩
  · unfold fitsS; rw [lf, decide_eq_false h]; simp
  · unfold fitsS; rw [lf, decide_eq_false h]; simp
  · have hf : t.frames.all (fun f => valsOk f c.ins) = false := by
      rw [List.all_eq_false]
      exact ⟨t.frames.getD k [], getD_mem (by rw [lf]; exact hk), by rw [h]; simp⟩
    unfold fitsS; rw [hf]; simp
  · rw [I.yes h1 h2 h3 h4 h8, decide_eq_true h5, decide_eq_true h6, any_noD (d := []) lf (fun k hk => by unfold wrongF; rw [h7 k hk]; rfl)]
    rfl

set_option maxRecDepth 100000 in
set_option maxHeartbeats 3200000 in
theorem reffits_any (c : NormC) (t : TraceC) (s : CSlots) (st : TSlots) (w : World) (h : SeesCir w s c) (ht : SeesTr w st t) (hs : s.small) (hst : st.small) (hlo : -9223372036854775808 ≤ c.ins) (hhi : c.ins < 9223372036854775808) (hb1 : -9223372036854775808 ≤ t.bad ∧ t.bad < 9223372036854775808) (hwd : Wide c) :
    Calls Try.prog 19 #[cirV c.ins s, traceV t.bad st] w fun e w' => e = .returned (.bool (fitsS c t)) ∧ Below w.heap.size w w' := by
  have HMAY := Lib.hid (fun W (hb : Below w.heap.size w W) => refmay3_any c s W (h.below hb) hs hlo hhi hwd)
  obtain ⟨a1, n1, c1, a2, n2, c2, a3, n3, c3, a4, n4, c4, a5, n5, c5⟩ := s
  obtain ⟨b1, m1, d1, b2, m2, d2, ss⟩ := st
  have FI := fitJ_of c t h.s1.1 h.s4.lenMap ht.s1.lenMap ht.s2.n_eq
  simp only at FI
  have hs1 : n1 ≤ 1048576 := hs.n1
  have hs4 : n4 ≤ 1048576 := hs.n4
  have hm1 : m1 ≤ 1048576 := hst.n1
  have hm2 : m2 ≤ 1048576 := hst.n2
  have HSS := Lib.hid hst.each
  have HLF := Lib.hid ht.s2.n_eq
  obtain ⟨z, hz⟩ : ∃ z, z = c.ins := ⟨_, rfl⟩
  obtain ⟨bad, hbad⟩ : ∃ z, z = t.bad := ⟨_, rfl⟩
  obtain ⟨q, hq⟩ : ∃ q, q = fitsS c t := ⟨_, rfl⟩
  obtain ⟨qm, hqm⟩ : ∃ q, q = mayC c := ⟨_, rfl⟩
  obtain ⟨qv, hqv⟩ : ∃ q, q = valsOk t.init (n1 : Int) := ⟨_, rfl⟩
  rw [← hz, ← hbad, ← hq, ← hqm, ← hqv] at FI
  rw [← hz, ← hqm] at HMAY
  have HVAL : Hid (∀ W, Below w.heap.size w W → Calls Try.prog 49 #[.slice b1 m1 d1, .int .i64 (n1 : Int)] W fun e w' => e = .returned (.bool qv) ∧ W = w') := fun W hb => by
    have h1 := refvalues_any (n1 : Int) t.init b1 m1 d1 hm1 W (ht.s1.below hb)
    rw [← hqv] at h1
    exact h1
  have HS := Lib.hid h
  have HT := Lib.hid ht
  have HFI := Lib.hid FI
  have hb2 := hb1.2
  have hb3 := hb1.1
  rw [← hbad] at hb2 hb3
  rw [← hz] at hlo hhi
  rw [← hz, ← hbad, ← hq]
  clear hz hbad hq hqm hqv FI h ht hs hst hb1
  unfold cirV traceV at *
  go_enter Try.func19, Try.ntmps19
  go_upto_region 1 with fail
  generalize hW : World.alloc (World.alloc w _) _ = W1
  have hb : Below w.heap.size w W1 := by subst hW; exact ext_trans (ext_alloc _ _) (ext_alloc _ _)
  have hx : W1.heap[w.heap.size]? = some (.cells #[.int .i64 z, .slice a1 n1 c1, .slice a2 n2 c2, .slice a3 n3 c3, .slice a4 n4 c4, .slice a5 n5 c5] 26 (0, 0)) := by subst hW; exact heap_below (heap_new _ _ _ rfl) (ext_alloc _ _)
  have hy : W1.heap[w.heap.size + 1]? = some (.cells #[.int .i64 bad, .slice b1 m1 d1, .slice b2 m2 d2] 30 (0, 0)) := by subst hW; exact heap_new _ _ _ (by simp)
  have HB := Lib.hid hb
  have HX := Lib.hid hx
  have HY := Lib.hid hy
  clear hW hb hx hy
  have p0 := cell_of_block HX.out 0
  have p1 := cell_of_block HX.out 1
  have p2 := cell_of_block HX.out 2
  have p3 := cell_of_block HX.out 3
  have p4 := cell_of_block HX.out 4
  have p5 := cell_of_block HX.out 5
  go_wp2_with fail
  refine (HMAY.out W1 HB.out).mono ?_
  rintro e W2 ⟨rfl, hb⟩
  have HX2 := Lib.hid (heap_below HX.out hb)
  have HY2 := Lib.hid (heap_below HY.out hb)
  have HB2 := Lib.hid (ext_trans HB.out hb)
  clear hb p0 p1 p2 p3 p4 p5 HMAY HX HY HB
  cases qm with
  | false =>
    have HF : Hid (q = false) := HFI.out.no1 rfl
    go_wp2
    go_ret
    exact ⟨by rw [HF.out]; rfl, HB2.out⟩
  | true =>
  have p4 := cell_of_block HX2.out 4
  have p1 := cell_of_block HX2.out 1
  have r0 := cell_of_block HY2.out 0
  have r1 := cell_of_block HY2.out 1
  have r2 := cell_of_block HY2.out 2
  by_cases t1 : bad < 0
  · have e1 : decide (bad < 0) = true := by simpa using t1
    have HF : Hid (q = false) := HFI.out.no2 t1
    go_wp2
    go_ret
    exact ⟨by rw [HF.out]; rfl, HB2.out⟩
  have e1 : decide (bad < 0) = false := by simpa using t1
  by_cases t2 : (n4 : Int) ≤ bad
  · have e2 : decide ((n4 : Int) ≤ bad) = true := by simpa using t2
    have HF : Hid (q = false) := HFI.out.no3 t2
    go_wp2
    go_ret
    exact ⟨by rw [HF.out]; rfl, HB2.out⟩
  have e2 : decide ((n4 : Int) ≤ bad) = false := by simpa using t2
  have T1 := Lib.hid t1
  have T2 := Lib.hid t2
  clear t1 t2
  go_wp2_with fail
  refine (HVAL.out W2 HB2.out).mono ?_
  rintro e W3 ⟨rfl, rfl⟩
  clear HVAL
  cases qv with
  | false =>
    have HF : Hid (q = false) := HFI.out.nov rfl
    go_wp2
    go_ret
    exact ⟨by rw [HF.out]; rfl, HB2.out⟩
  | true =>
  obtain rfl : m1 = n1 := HFI.out.len rfl
  by_cases t1 : 1 ≤ m2
  case neg =>
    have g1 : decide ((m2 : Int) < 1) = true := by simp; omega
    have HF : Hid (q = false) := HFI.out.no4 t1
    clear t1
    go_wp2
    go_ret
    exact ⟨by rw [HF.out]; rfl, HB2.out⟩
  have g1 : decide ((m2 : Int) < 1) = false := by simp; omega
  by_cases t2 : m2 ≤ 256
  case neg =>
    have g2 : decide ((256 : Int) < (m2 : Int)) = true := by simp; omega
    have HF : Hid (q = false) := HFI.out.no5 t2
    clear t1 t2
    go_wp2
    go_ret
    exact ⟨by rw [HF.out]; rfl, HB2.out⟩
  have g2 : decide ((256 : Int) < (m2 : Int)) = false := by simp; omega
  have T3 := Lib.hid t1
  have T4 := Lib.hid t2
  clear t1 t2
  go_upto_region 3 with fail
  clear e1 e2 g1 g2 p4 p1 r0 r1 r2
  go_wp2
  go_loopw [5] (fun i wr => ∃ k : Nat, k ≤ m2 ∧ i = .int .i64 k ∧ Hid (∀ j, j < k → valsOk (t.frames.getD j []) z = true) ∧ Hid (Below W2.heap.size W2 wr)) (fun i _ => m2 - (intOf i).toNat)
  case atStart => exact ⟨0, Nat.zero_le _, rfl, fun j hj => absurd hj (by omega), Below.refl _ _⟩
  case round =>
    obtain ⟨k, hk, rfl, hno, hB⟩ := hrel
    have r2 := cell_of_block (heap_below HY2.out hB.out) 2
    by_cases hlt : k < m2
    · have p0 := cell_of_block (heap_below HX2.out hB.out) 0
      obtain ⟨b, off, rfl, hbw⟩ := HT.out.s2.row.addr (show 0 < m2 by omega)
      have hcx := ((HT.out.below HB2.out).below hB.out).s2.cellAt k hlt
      have hsx := ((HT.out.below HB2.out).below hB.out).s2.each k (by rw [HLF.out]; exact hlt)
      have hsm := HSS.out (ss.getD k slc0) (getD_mem (by rw [HT.out.s2.len, HLF.out]; exact hlt))
      have hnof := HFI.out.nof k hlt
      obtain ⟨x, hx⟩ : ∃ x : Slc, x = ss.getD k slc0 := ⟨_, rfl⟩
      rw [← hx] at hcx hsx hsm
      clear hx
      obtain ⟨xa, xn, xc⟩ := x
      simp only at hcx hsx hsm
      have W1' : IntKind.i64.wrap ((k : Int) + 1) = (k : Int) + 1 := IntWalk.i64_in _ (by omega)
      obtain ⟨p, hp⟩ : ∃ q, q = valsOk (t.frames.getD k []) z := ⟨_, rfl⟩
      have HCALL : Hid (∀ n, Calls Try.prog 49 #[.slice xa xn xc, .int .i64 z] (wr.drewN n) fun e w' => e = .returned (.bool p) ∧ w' = wr.drewN n) := fun n => by
        have h1 := refvalues_any z (t.frames.getD k []) xa xn xc hsm (wr.drewN n) (hsx.below (ext_drewN wr n))
        rw [← hp] at h1
        exact h1.mono fun e w' ⟨h2, h3⟩ => ⟨h2, h3.symm⟩
      rw [← hp] at hnof
      have HNOF := Lib.hid hnof
      have STEP : Hid (p = true → ∀ j, j < k + 1 → valsOk (t.frames.getD j []) z = true) := fun hh j hj => by
        rcases Nat.lt_or_ge j k with h | h
        · exact hno.out j h
        · have : j = k := by omega
          subst this
          rw [← hp]; exact hh
      have HBB := Lib.hid hB.out
      clear hsx hnof hp hno hB
      cases p with
      | false =>
        have HF : Hid (q = false) := HNOF.out rfl
        go_wp2
        go_quiet ((go_at_call 49; exact Calls.quiet_of_same (HCALL.out _)))
        go_wp2
        go_ret
        exact ⟨by rw [HF.out]; rfl, ext_trans HB2.out (ext_trans HBB.out (ext_drewN _ _))⟩
      | true =>
        have HN := Lib.hid (STEP.out rfl)
        go_wp2
        go_quiet ((go_at_call 49; exact Calls.quiet_of_same (HCALL.out _)))
        go_wp2
        go_roundw
        case rel => exact ⟨k + 1, by omega, by go_num, HN.out, ext_trans HBB.out (ext_drewN _ _)⟩
        case measure => simp [intOf]; omega
    · obtain rfl : m2 = k := by omega
      obtain ⟨W4, hW4⟩ : ∃ W4 : World, W4 = wr := ⟨_, rfl⟩
      subst hW4
      have HNF := Lib.hid hno.out
      have HX4 := Lib.hid (heap_below HX2.out hB.out)
      have HY4 := Lib.hid (heap_below HY2.out hB.out)
      have HB4 := Lib.hid (ext_trans HB2.out hB.out)
      clear hno hB hlt hk
      go_wp2
      clear r2
      go_loopw [6] (fun i wr => ∃ k : Nat, k ≤ m1 ∧ i = .int .i64 k ∧ Hid (∀ j, j < k → (c.lats.getD j (0, 0)).2 = 2 ∨ (t.init.getD j 0).toNat = (c.lats.getD j (0, 0)).2) ∧ Hid (Below W4.heap.size W4 wr)) (fun i _ => m1 - (intOf i).toNat)
      case atStart => exact ⟨0, Nat.zero_le _, rfl, fun j hj => absurd hj (by omega), Below.refl _ _⟩
      case round =>
        obtain ⟨k, hk, rfl, hno, hB⟩ := hrel
        have r1 := cell_of_block (heap_below HY4.out hB.out) 1
        by_cases hlt : k < m1
        · have p1 := cell_of_block (heap_below HX4.out hB.out) 1
          obtain ⟨b, off, rfl, hbw⟩ := HS.out.s1.addr (show 0 < m1 by omega)
          obtain ⟨b', off', rfl, hbw'⟩ := HT.out.s1.addr (show 0 < m1 by omega)
          obtain ⟨qx, qy⟩ := ((HS.out.below HB4.out).s1.below hB.out).cells k hlt (0, 0)
          have hby := ((HT.out.below HB4.out).s1.below hB.out).byte k hlt
          have hnoi := HFI.out.noi k hlt
          obtain ⟨v, hv⟩ : ∃ v, v = (t.init.getD k 0).toNat := ⟨_, rfl⟩
          have hby2 : wr.cell? ⟨b', off' + k, none⟩ = some (.int .u8 (v : Int)) := by rw [hv]; exact hby
          obtain ⟨p, hp⟩ : ∃ t, t = c.lats.getD k (0, 0) := ⟨_, rfl⟩
          rw [← hp] at qx qy hnoi
          rw [← hv] at hnoi
          have STEP : Hid ((p.2 = 2 ∨ v = p.2) → ∀ j, j < k + 1 → (c.lats.getD j (0, 0)).2 = 2 ∨ (t.init.getD j 0).toNat = (c.lats.getD j (0, 0)).2) := fun hh j hj => by
            rcases Nat.lt_or_ge j k with h | h
            · exact hno.out j h
            · have : j = k := by omega
              subst this
              rw [← hp, ← hv]; exact hh
          clear hv hp hby hno
          obtain ⟨x, y⟩ := p
          simp only [nv32, nv8] at qx qy
          simp only at hnoi STEP
          have HNOI := Lib.hid hnoi
          have HBB := Lib.hid hB.out
          have W1' : IntKind.i64.wrap ((k : Int) + 1) = (k : Int) + 1 := IntWalk.i64_in _ (by omega)
          clear hnoi hB
          by_cases hy2 : y = 2
          · have f1 : ((y : Int) != 2) = false := by simp; omega
            have f2 : ((y : Int) == 2) = true := by simp; omega
            have HN := Lib.hid (STEP.out (Or.inl hy2))
            clear STEP hy2
            go_wp2
            go_quiet (fail)
            go_wp2
            go_roundw
            case rel =>
              rename_i nq
              exact ⟨k + 1, by omega, by go_num, HN.out, ext_trans HBB.out (ext_drewN _ nq)⟩
            case measure => simp [intOf]; omega
          · have f1 : ((y : Int) != 2) = true := by simp; omega
            have f2 : ((y : Int) == 2) = false := by simp; omega
            by_cases hvy : v = y
            · have f3 : ((y : Int) != (v : Int)) = false := by simp; omega
              have f4 : ((y : Int) == (v : Int)) = true := by simp; omega
              have HN := Lib.hid (STEP.out (Or.inr hvy))
              clear STEP hy2 hvy
              go_wp2
              go_quiet (fail)
              go_wp2
              go_roundw
              case rel =>
                rename_i nq
                exact ⟨k + 1, by omega, by go_num, HN.out, ext_trans HBB.out (ext_drewN _ nq)⟩
              case measure => simp [intOf]; omega
            · have f3 : ((y : Int) != (v : Int)) = true := by simp; omega
              have f4 : ((y : Int) == (v : Int)) = false := by simp; omega
              have HF : Hid (q = false) := HNOI.out hy2 hvy
              clear STEP hy2 hvy
              go_wp2
              go_quiet (fail)
              go_wp2
              go_ret
              rename_i nq
              exact ⟨by rw [HF.out]; rfl, ext_trans HB4.out (ext_trans HBB.out (ext_drewN _ nq))⟩
        · obtain rfl : m1 = k := by omega
          have HQ : Hid (q = true) := HFI.out.yes rfl (by have := T1.out; omega) (by have := T2.out; omega) rfl (by have := T3.out; omega) (by have := T4.out; omega) HNF.out hno.out
          have HBB := Lib.hid hB.out
          clear hno hB hlt hk
          go_wp2
          go_ret
          exact ⟨by rw [HQ.out]; rfl, ext_trans HB4.out HBB.out⟩
end Go.Proofs.Ytkbdebdhebphpaa
/- norm.Vars and inquestref03.Vars, by their contracts. -/
namespace Go.Proofs.Ytkbdebdhebphpaa
open Go Go.RowKit Go.Joins

def varsC (c : NormC) : Nat := if mayC c then varsN c else 0
theorem varsC_yes {c : NormC} (h : mayC c = true) {i n1 n2 : Nat} (h0 : (i : Int) = c.ins) (h1 : c.lats.length = n1) (h2 : c.gates.length = n2) : varsC c = i + n1 + n2 ∧ i + n1 + n2 ≤ 16384 := by
  have hf := (mayC_iff.1 h).few
  unfold varsC
  rw [if_pos h]
  unfold varsN at hf ⊢
  rw [← h0, h1, h2] at hf ⊢
  simp only [Int.toNat_natCast] at hf ⊢
  exact ⟨trivial, hf⟩
set_option maxRecDepth 100000 in
set_option maxHeartbeats 1600000 in
theorem vars_any (c : NormC) (s : CSlots) (w : World) (h : SeesCir w s c) (hs : s.small) (hlo : -9223372036854775808 ≤ c.ins) (hhi : c.ins < 9223372036854775808) :
    Calls Try.prog 13 #[cirV c.ins s] w fun e w' => e = .returned (.int .i64 ((varsC c : Nat) : Int)) ∧ Below w.heap.size w w' := by
  have HMAY := Lib.hid (fun W (hb : Below w.heap.size w W) => may3_any c s W (h.below hb) hs hlo hhi)
  have HCNT := Lib.hid (fun (j : Nat) (hj : j ≤ 1048576) W => count_any j s hj hs W)
  have YES := Lib.hid (fun (hm : mayC c = true) (i : Nat) (h0 : (i : Int) = c.ins) => varsC_yes hm h0 h.s1.1 h.s2.1)
  have POS := Lib.hid (fun (hm : mayC c = true) => (mayC_iff.1 hm).pos)
  have NO : Hid (mayC c = false → varsC c = 0) := fun h => by unfold varsC; rw [h]; rfl
  obtain ⟨a1, n1, c1, a2, n2, c2, a3, n3, c3, a4, n4, c4, a5, n5, c5⟩ := s
  obtain ⟨z, hz⟩ : ∃ z, z = c.ins := ⟨_, rfl⟩
  obtain ⟨v, hv⟩ : ∃ v, v = varsC c := ⟨_, rfl⟩
  obtain ⟨q, hq⟩ : ∃ q, q = mayC c := ⟨_, rfl⟩
  rw [← hz, ← hv]
  rw [← hz, ← hq] at HMAY
  rw [← hz, ← hv, ← hq] at YES
  rw [← hz, ← hq] at POS
  rw [← hq, ← hv] at NO
  clear hz hv hq h hs hlo hhi
  unfold cirV at *
  go_enter Try.func13, Try.ntmps13
  go_upto_region 1 with fail
  generalize hW : World.alloc _ _ = W1
  have B1 : Below w.heap.size w W1 := by subst hW; exact ext_alloc _ _
  have hX : W1.heap[w.heap.size]? = some (.cells #[.int .i64 z, .slice a1 n1 c1, .slice a2 n2 c2, .slice a3 n3 c3, .slice a4 n4 c4, .slice a5 n5 c5] 26 (0, 0)) := by subst hW; exact heap_new _ _ _ rfl
  have HX := Lib.hid hX
  have HB := Lib.hid B1
  clear hW B1 hX
  have p0 := cell_of_block HX.out 0
  have p1 := cell_of_block HX.out 1
  have p2 := cell_of_block HX.out 2
  have p3 := cell_of_block HX.out 3
  have p4 := cell_of_block HX.out 4
  have p5 := cell_of_block HX.out 5
  go_wp2_with fail
  refine (HMAY.out W1 HB.out).mono ?_
  rintro e W2 ⟨rfl, hb⟩
  have HX2 := Lib.hid (heap_below HX.out hb)
  have HB2 := Lib.hid (ext_trans HB.out hb)
  clear hb p0 p1 p2 p3 p4 p5
  cases q with
  | false =>
    have N := Lib.hid (NO.out rfl)
    go_wp2
    go_ret
    exact ⟨by rw [N.out]; rfl, HB2.out⟩
  | true =>
    obtain ⟨i, hi⟩ := Int.eq_ofNat_of_zero_le (POS.out rfl)
    have hy := YES.out rfl i hi.symm
    have hi16 : i ≤ 1048576 := by omega
    have HY := Lib.hid hy.1
    clear hy
    subst hi
    have p0 := cell_of_block HX2.out 0
    have p1 := cell_of_block HX2.out 1
    have p2 := cell_of_block HX2.out 2
    have p3 := cell_of_block HX2.out 3
    have p4 := cell_of_block HX2.out 4
    have p5 := cell_of_block HX2.out 5
    go_wp2_with fail
    refine (HCNT.out i hi16 W2).mono ?_
    rintro e W3 ⟨rfl, hb⟩
    have HB3 := Lib.hid (ext_trans HB2.out hb)
    clear hb
    go_wp2
    go_ret
    exact ⟨by rw [HY.out]; simp, HB3.out⟩
set_option maxRecDepth 100000 in
set_option maxHeartbeats 1600000 in
theorem refvars_any (c : NormC) (s : CSlots) (w : World) (h : SeesCir w s c) (hs : s.small) (hlo : -9223372036854775808 ≤ c.ins) (hhi : c.ins < 9223372036854775808) (hw : Wide c) :
    Calls Try.prog 14 #[cirV c.ins s] w fun e w' => e = .returned (.int .i64 ((varsC c : Nat) : Int)) ∧ Below w.heap.size w w' := by
  have HMAY := Lib.hid (fun W (hb : Below w.heap.size w W) => refmay3_any c s W (h.below hb) hs hlo hhi hw)
  have YES := Lib.hid (fun (hm : mayC c = true) (i : Nat) (h0 : (i : Int) = c.ins) => varsC_yes hm h0 h.s1.1 h.s2.1)
  have POS := Lib.hid (fun (hm : mayC c = true) => (mayC_iff.1 hm).pos)
  have NO : Hid (mayC c = false → varsC c = 0) := fun h => by unfold varsC; rw [h]; rfl
  obtain ⟨a1, n1, c1, a2, n2, c2, a3, n3, c3, a4, n4, c4, a5, n5, c5⟩ := s
  obtain ⟨z, hz⟩ : ∃ z, z = c.ins := ⟨_, rfl⟩
  obtain ⟨v, hv⟩ : ∃ v, v = varsC c := ⟨_, rfl⟩
  obtain ⟨q, hq⟩ : ∃ q, q = mayC c := ⟨_, rfl⟩
  rw [← hz, ← hv]
  rw [← hz, ← hq] at HMAY
  rw [← hz, ← hv, ← hq] at YES
  rw [← hz, ← hq] at POS
  rw [← hq, ← hv] at NO
  clear hz hv hq h hs hlo hhi
  unfold cirV at *
  go_enter Try.func14, Try.ntmps14
  go_upto_region 1 with fail
  generalize hW : World.alloc _ _ = W1
  have B1 : Below w.heap.size w W1 := by subst hW; exact ext_alloc _ _
  have hX : W1.heap[w.heap.size]? = some (.cells #[.int .i64 z, .slice a1 n1 c1, .slice a2 n2 c2, .slice a3 n3 c3, .slice a4 n4 c4, .slice a5 n5 c5] 26 (0, 0)) := by subst hW; exact heap_new _ _ _ rfl
  have HX := Lib.hid hX
  have HB := Lib.hid B1
  clear hW B1 hX
  have p0 := cell_of_block HX.out 0
  have p1 := cell_of_block HX.out 1
  have p2 := cell_of_block HX.out 2
  have p3 := cell_of_block HX.out 3
  have p4 := cell_of_block HX.out 4
  have p5 := cell_of_block HX.out 5
  go_wp2_with fail
  refine (HMAY.out W1 HB.out).mono ?_
  rintro e W2 ⟨rfl, hb⟩
  have HX2 := Lib.hid (heap_below HX.out hb)
  have HB2 := Lib.hid (ext_trans HB.out hb)
  clear hb p0 p1 p2 p3 p4 p5
  cases q with
  | false =>
    have N := Lib.hid (NO.out rfl)
    go_wp2
    go_ret
    exact ⟨by rw [N.out]; rfl, HB2.out⟩
  | true =>
    obtain ⟨i, hi⟩ := Int.eq_ofNat_of_zero_le (POS.out rfl)
    have hy := YES.out rfl i hi.symm
    have hi16 : i + n1 + n2 ≤ 16384 := hy.2
    have HY := Lib.hid hy.1
    clear hy
    subst hi
    have U1 : IntKind.i64.wrap ((i : Int) + (n1 : Int)) = (i : Int) + (n1 : Int) := IntWalk.i64_in _ (by omega)
    have U2 : IntKind.i64.wrap ((i : Int) + (n1 : Int) + (n2 : Int)) = (i : Int) + (n1 : Int) + (n2 : Int) := IntWalk.i64_in _ (by omega)
    have p0 := cell_of_block HX2.out 0
    have p1 := cell_of_block HX2.out 1
    have p2 := cell_of_block HX2.out 2
    go_wp2
    go_ret
    exact ⟨by rw [HY.out]; simp, HB2.out⟩
end Go.Proofs.Ytkbdebdhebphpaa
/- The reference's Raw appends: a drawn region, over whatever frame. -/
namespace Go.Proofs.Ytkbdebdhebphpaa
open Go Go.RowKit Go.Joins

noncomputable def codeNRefRawA : Code := ((Try.f10.body.bind (findRegion 17)).getD .skip)
set_option maxRecDepth 100000 in
set_option maxHeartbeats 25600000 in
theorem reg_NRefRawA (RB X b off k nn vv y zr base : Nat) (cc : Nat) (va : Option Addr) (vc : Nat) (L : List Value) (X0 : World) {x0 x1 x3 x4 x5 xo : Value}
    (hC : X0.heap[RB]? = some (.cells #[x0, x1, .slice va k vc, x3, x4, x5, xo] 37 (0, 0)))
    (hX : X0.cell? ⟨X, 1, none⟩ = some (.slice (some ⟨b, off, .none⟩) nn cc)) (hk : k < nn)
    (hE0 : X0.cell? ⟨b, off + k * 2, none⟩ = some (.int .u32 y))
    (hXb : X < base) (hbb : b < base) (hvv : vv ≤ 1000000)
    (HOWN : Hid (X0.ownsRow base 54 3 (.slice va k vc) k L)) (hbase : base ≤ X0.heap.size) (hq4 : k + 1 ≤ maxLen) (hq5 : (k + 1) * 12 ≤ 140737488355328)
    (QQ : Exit → Act → World → Prop) {v0 v2 v3 v6 v9 v10 v11 v12 v13 v14 v15 v16 v17 v18 v19 v20 v21 v22 v23 v24 v25 v26 v27 v28 v29 v30 v31 v32 v33 v34 v35 v36 v37 v38 v39 v40 v41 v42 v43 v44 v45 v46 v47 v48 v49 v50 v51 v52 v53 v54 v55 v56 v57 v58 v59 v60 v61 v62 v63 v64 v65 v66 v67 v68 v69 v70 v71 v72 v73 v74 v75 v76 v77 v78 v79 v80 v81 v82 v83 v84 v85 v86 v87 v88 v89 v90 v91 v92 v93 v94 v95 v96 v97 v98 v99 v100 v101 v102 v103 v104 v105 v106 v107 v108 v109 v110 v111 v112 v113 v114 v115 : Value}
    (hK : ∀ (a' : Option Addr) (c' : Nat) (s2 w2 : World) (u54 u55 u56 u57 u58 u59 u60 u61 u62 u63 u64 u65 u66 u67 u68 : Value), Below X0.heap.size X0 s2 → s2.grownBy w2 (Value.slice va k vc).ownBlock → w2.ownsRow base 54 3 (.slice a' (k + 1) c') (k + 1) (L ++ [.int .u32 (2 * (vv : Int)), .int .u32 y, .int .u32 zr]) → QQ .normal ⟨#[v0, .pointer (some ⟨X, 0, .none⟩), v2, v3, .pointer (some ⟨RB, 0, .none⟩), .int .u32 vv, v6, .int .i64 k, .int .u32 zr, v9, v10, v11, v12, v13, v14, v15, 
      v16, v17, v18, v19, v20, v21, v22, v23, v24, v25, v26, v27, v28, v29, v30, v31, v32, v33, v34, v35, v36, v37, v38, v39, v40, v41, v42, v43, v44, v45, v46, 
      v47, v48, v49, v50, v51, v52, v53, u54, u55, u56, u57, u58, u59, u60, u61, u62, u63, u64, u65, u66, u67, u68, v69, v70, v71, v72, v73, v74, v75, v76, v77, 
      v78, v79, v80, v81, v82, v83, v84, v85, v86, v87, v88, v89, v90, v91, v92, v93, v94, v95, v96, v97, v98, v99, v100, v101, v102, v103, v104, v105, v106, 
      v107, v108, v109, v110, v111, v112, v113, v114, v115], []⟩ (w2.setCell ⟨RB, 2, none⟩ (.slice a' (k + 1) c'))) :
    Code.wp Try.prog codeNRefRawA QQ ⟨#[v0, .pointer (some ⟨X, 0, .none⟩), v2, v3, .pointer (some ⟨RB, 0, .none⟩), .int .u32 vv, v6, .int .i64 k, .int .u32 zr, v9, v10, v11, v12, v13, v14, v15, 
      v16, v17, v18, v19, v20, v21, v22, v23, v24, v25, v26, v27, v28, v29, v30, v31, v32, v33, v34, v35, v36, v37, v38, v39, v40, v41, v42, v43, v44, v45, v46, 
      v47, v48, v49, v50, v51, v52, v53, v54, v55, v56, v57, v58, v59, v60, v61, v62, v63, v64, v65, v66, v67, v68, v69, v70, v71, v72, v73, v74, v75, v76, v77, 
      v78, v79, v80, v81, v82, v83, v84, v85, v86, v87, v88, v89, v90, v91, v92, v93, v94, v95, v96, v97, v98, v99, v100, v101, v102, v103, v104, v105, v106, 
      v107, v108, v109, v110, v111, v112, v113, v114, v115], []⟩ X0 := by
  obtain ⟨il, hil, hzl0, hzl1, hzl2⟩ := info_parts info_lat
  have M1 : IntKind.u32.wrap (2 * (vv : Int)) = 2 * (vv : Int) := IntWalk.u32_in _ (by omega)
  conv => arg 2; whnf
  refine wp_region_noPanic ?_
  refine wp_region_peelN 15 (by kernel_rfl) rfl (by simp only [List.getElem?_toArray, List.getElem?_cons_zero, List.getElem?_cons_succ]; rfl) (by kernel_rfl) ?_
  simp only [List.pop_toArray, List.dropLast_cons_cons, List.dropLast_singleton]
  refine wpAny_of_held (S := fun w' => w'.cell? ⟨RB, 2, none⟩ = some (.slice va k vc) ∧ w'.cell? ⟨X, 1, none⟩ = some (.slice (some ⟨b, off, .none⟩) nn cc) ∧ w'.cell? ⟨b, off + k * 2, none⟩ = some (.int .u32 y)) _ _ _ _ ?_
  generalize hY : X0.drew = Y0
  have hY0 : Below X0.heap.size X0 Y0 := by subst hY; exact (Below.refl _ _).drew
  have HELDB : Hid (∀ W : World, W.heap[RB]? = some (.cells #[x0, x1, .slice va k vc, x3, x4, x5, xo] 37 (0, 0)) → W.heap[X]? = X0.heap[X]? → W.heap[b]? = X0.heap[b]? → (W.cell? ⟨RB, 2, none⟩ = some (.slice va k vc) ∧ W.cell? ⟨X, 1, none⟩ = some (.slice (some ⟨b, off, .none⟩) nn cc) ∧ W.cell? ⟨b, off + k * 2, none⟩ = some (.int .u32 y))) := fun W h1 h2 h3 => ⟨cell_of_block h1 2, (World.cell?_of_block h2).trans hX, (World.cell?_of_block h3).trans hE0⟩
  have HC := Lib.hid hC
  have hXl := cell_lt hX
  have hbl := cell_lt hE0
  have HELD := Lib.hid (HELDB.out Y0 (heap_below hC hY0) (hY0.block X hXl) (hY0.block b hbl))
  have HY0 := Lib.hid hY0
  clear hY hY0 hC hX hE0
  refine wpAnyH_take (i := 0) (v := ?_) (by simp only [List.getElem?_toArray, List.getElem?_cons_zero]; rfl) (by kernel_rfl) (by kernel_rfl) (by kernel_rfl) (fun _ _ _ h => h) (Or.inl ⟨by rfl, ?_⟩) HELD.out ?_
  rotate_left
  · intro w hSw
    (try dsimp only at hSw)
    obtain ⟨q0, q1, q2⟩ := hSw
    go_simp
    try with_reducible rfl
  try simp only [Act.put, List.setIfInBounds_toArray, List.set_cons_zero, List.set_cons_succ]
  refine wpAnyH_take (i := 1) (v := ?_) (by simp only [List.getElem?_toArray, List.getElem?_cons_zero, List.getElem?_cons_succ]; rfl) (by kernel_rfl) (by kernel_rfl) (by kernel_rfl) (fun _ _ _ h => h) (Or.inl ⟨by rfl, ?_⟩) HELD.out ?_
  rotate_left
  · intro w hSw
    (try dsimp only at hSw)
    obtain ⟨q0, q1, q2⟩ := hSw
    go_simp
    try with_reducible rfl
  try simp only [Act.put, List.setIfInBounds_toArray, List.set_cons_zero, List.set_cons_succ]
  refine wpAnyH_take (i := 2) (v := ?_) (by simp only [List.getElem?_toArray, List.getElem?_cons_zero, List.getElem?_cons_succ]; rfl) (by kernel_rfl) (by kernel_rfl) (by kernel_rfl) (fun _ _ _ h => h) (Or.inl ⟨by rfl, ?_⟩) HELD.out ?_
  rotate_left
  · intro w hSw
    (try dsimp only at hSw)
    obtain ⟨q0, q1, q2⟩ := hSw
    go_simp
    try with_reducible rfl
  try simp only [Act.put, List.setIfInBounds_toArray, List.set_cons_zero, List.set_cons_succ]
  refine wpAnyH_take (i := 3) (v := ?_) (by simp only [List.getElem?_toArray, List.getElem?_cons_zero, List.getElem?_cons_succ]; rfl) (by kernel_rfl) (by kernel_rfl) (by kernel_rfl) (fun _ _ _ h => h) (Or.inl ⟨by rfl, ?_⟩) HELD.out ?_
  rotate_left
  · intro w hSw
    (try dsimp only at hSw)
    obtain ⟨q0, q1, q2⟩ := hSw
    go_simp
    try with_reducible rfl
  try simp only [Act.put, List.setIfInBounds_toArray, List.set_cons_zero, List.set_cons_succ]
  refine wpAnyH_take (i := 4) (v := ?_) (by simp only [List.getElem?_toArray, List.getElem?_cons_zero, List.getElem?_cons_succ]; rfl) (by kernel_rfl) (by kernel_rfl) (by kernel_rfl) (fun _ _ _ h => h) (Or.inl ⟨by rfl, ?_⟩) HELD.out ?_
  rotate_left
  · intro w hSw
    (try dsimp only at hSw)
    obtain ⟨q0, q1, q2⟩ := hSw
    go_simp
    try with_reducible rfl
  try simp only [Act.put, List.setIfInBounds_toArray, List.set_cons_zero, List.set_cons_succ]
  refine wpAnyH_take (i := 5) (v := ?_) (by simp only [List.getElem?_toArray, List.getElem?_cons_zero, List.getElem?_cons_succ]; rfl) (by kernel_rfl) (by kernel_rfl) (by kernel_rfl) (fun _ _ _ h => h) (Or.inl ⟨by rfl, ?_⟩) HELD.out ?_
  rotate_left
  · intro w hSw
    (try dsimp only at hSw)
    obtain ⟨q0, q1, q2⟩ := hSw
    go_simp
    try with_reducible rfl
  try simp only [Act.put, List.setIfInBounds_toArray, List.set_cons_zero, List.set_cons_succ]
  refine wpAnyH_take (i := 6) (v := ?_) (by simp only [List.getElem?_toArray, List.getElem?_cons_zero, List.getElem?_cons_succ]; rfl) (by kernel_rfl) (by kernel_rfl) (by kernel_rfl) (fun _ _ _ h => h) (Or.inl ⟨by rfl, ?_⟩) HELD.out ?_
  rotate_left
  · intro w hSw
    (try dsimp only at hSw)
    obtain ⟨q0, q1, q2⟩ := hSw
    go_simp
    try with_reducible rfl
  try simp only [Act.put, List.setIfInBounds_toArray, List.set_cons_zero, List.set_cons_succ]
  refine wpAnyH_take (i := 7) (v := ?_) (by simp only [List.getElem?_toArray, List.getElem?_cons_zero, List.getElem?_cons_succ]; rfl) (by kernel_rfl) (by kernel_rfl) (by kernel_rfl) (fun _ _ _ h => h) (Or.inl ⟨by rfl, ?_⟩) HELD.out ?_
  rotate_left
  · intro w hSw
    (try dsimp only at hSw)
    obtain ⟨q0, q1, q2⟩ := hSw
    go_simp
    try with_reducible rfl
  try simp only [Act.put, List.setIfInBounds_toArray, List.set_cons_zero, List.set_cons_succ]
  refine wpAnyH_take (i := 8) (v := ?_) (by simp only [List.getElem?_toArray, List.getElem?_cons_zero, List.getElem?_cons_succ]; rfl) (by kernel_rfl) (by kernel_rfl) (by kernel_rfl) (fun _ _ _ h => h) (Or.inl ⟨by rfl, ?_⟩) HELD.out ?_
  rotate_left
  · intro w hSw
    (try dsimp only at hSw)
    obtain ⟨q0, q1, q2⟩ := hSw
    go_simp
    try with_reducible rfl
  try simp only [Act.put, List.setIfInBounds_toArray, List.set_cons_zero, List.set_cons_succ]
  refine wpAnyH_take (i := 9) (v := ?_) (by simp only [List.getElem?_toArray, List.getElem?_cons_zero, List.getElem?_cons_succ]; rfl) (by kernel_rfl) (by kernel_rfl) (by kernel_rfl) (fun _ _ _ h => h) (Or.inl ⟨by rfl, ?_⟩) HELD.out ?_
  rotate_left
  · intro w hSw
    (try dsimp only at hSw)
    obtain ⟨q0, q1, q2⟩ := hSw
    go_simp
    try with_reducible rfl
  try simp only [Act.put, List.setIfInBounds_toArray, List.set_cons_zero, List.set_cons_succ]
  refine wpAnyH_take (i := 10) (v := ?_) (by simp only [List.getElem?_toArray, List.getElem?_cons_zero, List.getElem?_cons_succ]; rfl) (by kernel_rfl) (by kernel_rfl) (by kernel_rfl) (fun _ _ _ h => h) (Or.inl ⟨by rfl, ?_⟩) HELD.out ?_
  rotate_left
  · intro w hSw
    (try dsimp only at hSw)
    obtain ⟨q0, q1, q2⟩ := hSw
    go_simp
    try with_reducible rfl
  try simp only [Act.put, List.setIfInBounds_toArray, List.set_cons_zero, List.set_cons_succ]
  refine wpAnyH_take (i := 11) (v := ?_) (by simp only [List.getElem?_toArray, List.getElem?_cons_zero, List.getElem?_cons_succ]; rfl) (by kernel_rfl) (by kernel_rfl) (by kernel_rfl) (fun _ _ _ h => h) (Or.inl ⟨by rfl, ?_⟩) HELD.out ?_
  rotate_left
  · intro w hSw
    (try dsimp only at hSw)
    obtain ⟨q0, q1, q2⟩ := hSw
    go_simp
    try with_reducible rfl
  try simp only [Act.put, List.setIfInBounds_toArray, List.set_cons_zero, List.set_cons_succ]
  refine wpAnyH_ready (rs := [12]) (by kernel_rfl) (by simp) ?_
  refine AllReadyH.cons (by simp only [List.getElem?_toArray, List.getElem?_cons_zero, List.getElem?_cons_succ]; rfl) (fun K hK => ?_) AllReadyH.nil
  go_simp
  generalize hS2 : World.alloc Y0 _ = s2
  have hbs : Below X0.heap.size X0 s2 := by subst hS2; exact HY0.out.alloc HY0.out.size _
  have hnews : ∀ j u, [.int .u32 (2 * (vv : Int)), .int .u32 y, .int .u32 zr][j]? = some u → s2.cell? ((⟨Y0.heap.size, 0, none⟩ : Addr).add j) = some u := by
    subst hS2; exact World.news_of_block (heap_new Y0 (.cells #[.int .u32 (2 * (vv : Int)), .int .u32 y, .int .u32 zr] 54) Y0.heap.size rfl)
  clear hS2
  have HO1 := Lib.hid (ownsN_below HOWN.out hbs)
  have HC1 := Lib.hid (heap_below HC.out hbs)
  have HNEWS := Lib.hid hnews
  have HBB := Lib.hid hbs
  have hq6 : base ≤ s2.heap.size := Nat.le_trans hbase hbs.size
  have HELD := Lib.hid (HELDB.out s2 HC1.out (hbs.block X hXl) (hbs.block b hbl))
  clear hbs hnews
  refine hK.out _ _ HELD.out (fun _ => ?_)
  clear hK K
  try simp only [Act.put, List.setIfInBounds_toArray, List.set_cons_zero, List.set_cons_succ]
  refine wpAnyH_ready (rs := [13]) (by kernel_rfl) (by simp) ?_
  refine AllReadyH.cons (by simp only [List.getElem?_toArray, List.getElem?_cons_zero, List.getElem?_cons_succ]; rfl) (fun K hK => ?_) AllReadyH.nil
  refine step_append_own_at rfl _ _ 34 rfl base 54 il (.agg #[.int .u32 0, .int .u32 0, .int .u32 0]) 3 12 Try.underlying34 hil hzl0 hzl1 hzl2 rfl (by omega) _ _ L rfl HO1.out _ 1 1 [.int .u32 (2 * (vv : Int)), .int .u32 y, .int .u32 zr] rfl rfl HNEWS.out (by intro u hu; simp at hu; rcases hu with rfl | rfl | rfl <;> rfl) hq4 hq5 hq6 ?_
  intro v2 w2 r2 hg2
  obtain ⟨a2, c2', rfl⟩ := ownsN_form r2
  have hC2 := heap_grown HC1.out hg2 (ownsN_notown HO1.out HC1.out (by decide))
  have hc2 : w2.cell? ⟨RB, 2, none⟩ = some (.slice va k vc) := cell_of_block hC2 2
  have hf2 : w2.frozen? ⟨RB, 2, none⟩ = false := unfrozen_of_block hC2 2
  have hlow := HO1.out.lt
  have HELD := Lib.hid (HELDB.out w2 hC2 ((hg2.block X (Nat.lt_of_lt_of_le hXl HBB.out.size) (fun e => by have := (hlow X e.symm).1; omega)).trans (HBB.out.block X hXl)) ((hg2.block b (Nat.lt_of_lt_of_le hbl HBB.out.size) (fun e => by have := (hlow b e.symm).1; omega)).trans (HBB.out.block b hbl)))
  have HG2 := Lib.hid hg2
  have R2 := Lib.hid r2
  clear hg2 r2 hC2 hlow
  refine hK.out _ _ HELD.out (fun _ => ?_)
  clear hK K
  try simp only [Act.put, List.setIfInBounds_toArray, List.set_cons_zero, List.set_cons_succ]
  refine wpAnyH_take (i := 14) (v := ?_) (by simp only [List.getElem?_toArray, List.getElem?_cons_zero, List.getElem?_cons_succ]; rfl) (by kernel_rfl) (by kernel_rfl) (by kernel_rfl) (fun _ _ _ h => h) (Or.inl ⟨by rfl, ?_⟩) HELD.out ?_
  rotate_left
  · intro w hSw
    (try dsimp only at hSw)
    obtain ⟨q0, q1, q2⟩ := hSw
    go_simp
    try with_reducible rfl
  try simp only [Act.put, List.setIfInBounds_toArray, List.set_cons_zero, List.set_cons_succ]
  refine wpAnyH_done (by kernel_rfl) ?_ _
  unfold LastQ wpOp
  simp only [List.getElem?_toArray, List.getElem?_cons_zero, List.getElem?_cons_succ]
  rw [if_pos (by rfl)]
  refine Or.inl ?_
  go_simp
  refine NoPanic.normal ?_
  exact hK _ _ _ _ _ _ _ _ _ _ _ _ _ _ _ _ _ _ _ HBB.out HG2.out R2.out

end Go.Proofs.Ytkbdebdhebphpaa
/- The reference's Raw appends: a drawn region, over whatever frame. -/
namespace Go.Proofs.Ytkbdebdhebphpaa
open Go Go.RowKit Go.Joins

noncomputable def codeNRefRawB : Code := ((Try.f10.body.bind (findRegion 22)).getD .skip)
set_option maxRecDepth 100000 in
set_option maxHeartbeats 25600000 in
theorem reg_NRefRawB (RB X b off k nn vv y z base : Nat) (cc : Nat) (va : Option Addr) (vc : Nat) (L : List Value) (X0 : World) {x0 x1 x3 x4 x5 xo : Value}
    (hC : X0.heap[RB]? = some (.cells #[x0, x1, xo, x3, x4, x5, .slice va k vc] 37 (0, 0)))
    (hX : X0.cell? ⟨X, 2, none⟩ = some (.slice (some ⟨b, off, .none⟩) nn cc)) (hk : k < nn)
    (hE0 : X0.cell? ⟨b, off + k * 2, none⟩ = some (.int .u32 y)) (hE1 : X0.cell? ⟨b, off + k * 2 + 1, none⟩ = some (.int .u32 z))
    (hXb : X < base) (hbb : b < base) (hvv : vv ≤ 1000000)
    (HOWN : Hid (X0.ownsRow base 59 3 (.slice va k vc) k L)) (hbase : base ≤ X0.heap.size) (hq4 : k + 1 ≤ maxLen) (hq5 : (k + 1) * 12 ≤ 140737488355328)
    (QQ : Exit → Act → World → Prop) {v0 v2 v3 v6 v7 v8 v10 v11 v12 v13 v14 v15 v16 v17 v18 v19 v20 v21 v22 v23 v24 v25 v26 v27 v28 v29 v30 v31 v32 v33 v34 v35 v36 v37 v38 v39 v40 v41 v42 v43 v44 v45 v46 v47 v48 v49 v50 v51 v52 v53 v54 v55 v56 v57 v58 v59 v60 v61 v62 v63 v64 v65 v66 v67 v68 v69 v70 v71 v72 v73 v74 v75 v76 v77 v78 v79 v80 v81 v82 v83 v84 v85 v86 v87 v88 v89 v90 v91 v92 v93 v94 v95 v96 v97 v98 v99 v100 v101 v102 v103 v104 v105 v106 v107 v108 v109 v110 v111 v112 v113 v114 v115 : Value}
    (hK : ∀ (a' : Option Addr) (c' : Nat) (s2 w2 : World) (u78 u79 u80 u81 u82 u83 u84 u85 u86 u87 u88 u89 u90 u91 u92 u93 u94 u95 u96 u97 : Value), Below X0.heap.size X0 s2 → s2.grownBy w2 (Value.slice va k vc).ownBlock → w2.ownsRow base 59 3 (.slice a' (k + 1) c') (k + 1) (L ++ [.int .u32 (2 * (vv : Int)), .int .u32 y, .int .u32 z]) → QQ .normal ⟨#[v0, .pointer (some ⟨X, 0, .none⟩), v2, v3, .pointer (some ⟨RB, 0, .none⟩), .int .u32 vv, v6, v7, v8, .int .i64 k, v10, v11, v12, v13, v14, v15, v16, v17, 
      v18, v19, v20, v21, v22, v23, v24, v25, v26, v27, v28, v29, v30, v31, v32, v33, v34, v35, v36, v37, v38, v39, v40, v41, v42, v43, v44, v45, v46, v47, v48, 
      v49, v50, v51, v52, v53, v54, v55, v56, v57, v58, v59, v60, v61, v62, v63, v64, v65, v66, v67, v68, v69, v70, v71, v72, v73, v74, v75, v76, v77, u78, u79, 
      u80, u81, u82, u83, u84, u85, u86, u87, u88, u89, u90, u91, u92, u93, u94, u95, u96, u97, v98, v99, v100, v101, v102, v103, v104, v105, v106, v107, v108, 
      v109, v110, v111, v112, v113, v114, v115], []⟩ (w2.setCell ⟨RB, 6, none⟩ (.slice a' (k + 1) c'))) :
    Code.wp Try.prog codeNRefRawB QQ ⟨#[v0, .pointer (some ⟨X, 0, .none⟩), v2, v3, .pointer (some ⟨RB, 0, .none⟩), .int .u32 vv, v6, v7, v8, .int .i64 k, v10, v11, v12, v13, v14, v15, v16, v17, 
      v18, v19, v20, v21, v22, v23, v24, v25, v26, v27, v28, v29, v30, v31, v32, v33, v34, v35, v36, v37, v38, v39, v40, v41, v42, v43, v44, v45, v46, v47, v48, 
      v49, v50, v51, v52, v53, v54, v55, v56, v57, v58, v59, v60, v61, v62, v63, v64, v65, v66, v67, v68, v69, v70, v71, v72, v73, v74, v75, v76, v77, v78, v79, 
      v80, v81, v82, v83, v84, v85, v86, v87, v88, v89, v90, v91, v92, v93, v94, v95, v96, v97, v98, v99, v100, v101, v102, v103, v104, v105, v106, v107, v108, 
      v109, v110, v111, v112, v113, v114, v115], []⟩ X0 := by
  obtain ⟨il, hil, hzl0, hzl1, hzl2⟩ := info_parts info_gate
  have M1 : IntKind.u32.wrap (2 * (vv : Int)) = 2 * (vv : Int) := IntWalk.u32_in _ (by omega)
  conv => arg 2; whnf
  refine wp_region_noPanic ?_
  refine wp_region_peelN 20 (by kernel_rfl) rfl (by simp only [List.getElem?_toArray, List.getElem?_cons_zero, List.getElem?_cons_succ]; rfl) (by kernel_rfl) ?_
  simp only [List.pop_toArray, List.dropLast_cons_cons, List.dropLast_singleton]
  refine wpAny_of_held (S := fun w' => w'.cell? ⟨RB, 6, none⟩ = some (.slice va k vc) ∧ w'.cell? ⟨X, 2, none⟩ = some (.slice (some ⟨b, off, .none⟩) nn cc) ∧ w'.cell? ⟨b, off + k * 2, none⟩ = some (.int .u32 y) ∧ w'.cell? ⟨b, off + k * 2 + 1, none⟩ = some (.int .u32 z)) _ _ _ _ ?_
  generalize hY : X0.drew = Y0
  have hY0 : Below X0.heap.size X0 Y0 := by subst hY; exact (Below.refl _ _).drew
  have HELDB : Hid (∀ W : World, W.heap[RB]? = some (.cells #[x0, x1, xo, x3, x4, x5, .slice va k vc] 37 (0, 0)) → W.heap[X]? = X0.heap[X]? → W.heap[b]? = X0.heap[b]? → (W.cell? ⟨RB, 6, none⟩ = some (.slice va k vc) ∧ W.cell? ⟨X, 2, none⟩ = some (.slice (some ⟨b, off, .none⟩) nn cc) ∧ W.cell? ⟨b, off + k * 2, none⟩ = some (.int .u32 y) ∧ W.cell? ⟨b, off + k * 2 + 1, none⟩ = some (.int .u32 z))) := fun W h1 h2 h3 => ⟨cell_of_block h1 6, (World.cell?_of_block h2).trans hX, (World.cell?_of_block h3).trans hE0, (World.cell?_of_block h3).trans hE1⟩
  have HC := Lib.hid hC
  have hXl := cell_lt hX
  have hbl := cell_lt hE0
  have HELD := Lib.hid (HELDB.out Y0 (heap_below hC hY0) (hY0.block X hXl) (hY0.block b hbl))
  have HY0 := Lib.hid hY0
  clear hY hY0 hC hX hE0 hE1
  refine wpAnyH_take (i := 0) (v := ?_) (by simp only [List.getElem?_toArray, List.getElem?_cons_zero]; rfl) (by kernel_rfl) (by kernel_rfl) (by kernel_rfl) (fun _ _ _ h => h) (Or.inl ⟨by rfl, ?_⟩) HELD.out ?_
  rotate_left
  · intro w hSw
    (try dsimp only at hSw)
    obtain ⟨q0, q1, q2, q3⟩ := hSw
    go_simp
    try with_reducible rfl
  try simp only [Act.put, List.setIfInBounds_toArray, List.set_cons_zero, List.set_cons_succ]
  refine wpAnyH_take (i := 1) (v := ?_) (by simp only [List.getElem?_toArray, List.getElem?_cons_zero, List.getElem?_cons_succ]; rfl) (by kernel_rfl) (by kernel_rfl) (by kernel_rfl) (fun _ _ _ h => h) (Or.inl ⟨by rfl, ?_⟩) HELD.out ?_
  rotate_left
  · intro w hSw
    (try dsimp only at hSw)
    obtain ⟨q0, q1, q2, q3⟩ := hSw
    go_simp
    try with_reducible rfl
  try simp only [Act.put, List.setIfInBounds_toArray, List.set_cons_zero, List.set_cons_succ]
  refine wpAnyH_take (i := 2) (v := ?_) (by simp only [List.getElem?_toArray, List.getElem?_cons_zero, List.getElem?_cons_succ]; rfl) (by kernel_rfl) (by kernel_rfl) (by kernel_rfl) (fun _ _ _ h => h) (Or.inl ⟨by rfl, ?_⟩) HELD.out ?_
  rotate_left
  · intro w hSw
    (try dsimp only at hSw)
    obtain ⟨q0, q1, q2, q3⟩ := hSw
    go_simp
    try with_reducible rfl
  try simp only [Act.put, List.setIfInBounds_toArray, List.set_cons_zero, List.set_cons_succ]
  refine wpAnyH_take (i := 3) (v := ?_) (by simp only [List.getElem?_toArray, List.getElem?_cons_zero, List.getElem?_cons_succ]; rfl) (by kernel_rfl) (by kernel_rfl) (by kernel_rfl) (fun _ _ _ h => h) (Or.inl ⟨by rfl, ?_⟩) HELD.out ?_
  rotate_left
  · intro w hSw
    (try dsimp only at hSw)
    obtain ⟨q0, q1, q2, q3⟩ := hSw
    go_simp
    try with_reducible rfl
  try simp only [Act.put, List.setIfInBounds_toArray, List.set_cons_zero, List.set_cons_succ]
  refine wpAnyH_take (i := 4) (v := ?_) (by simp only [List.getElem?_toArray, List.getElem?_cons_zero, List.getElem?_cons_succ]; rfl) (by kernel_rfl) (by kernel_rfl) (by kernel_rfl) (fun _ _ _ h => h) (Or.inl ⟨by rfl, ?_⟩) HELD.out ?_
  rotate_left
  · intro w hSw
    (try dsimp only at hSw)
    obtain ⟨q0, q1, q2, q3⟩ := hSw
    go_simp
    try with_reducible rfl
  try simp only [Act.put, List.setIfInBounds_toArray, List.set_cons_zero, List.set_cons_succ]
  refine wpAnyH_take (i := 5) (v := ?_) (by simp only [List.getElem?_toArray, List.getElem?_cons_zero, List.getElem?_cons_succ]; rfl) (by kernel_rfl) (by kernel_rfl) (by kernel_rfl) (fun _ _ _ h => h) (Or.inl ⟨by rfl, ?_⟩) HELD.out ?_
  rotate_left
  · intro w hSw
    (try dsimp only at hSw)
    obtain ⟨q0, q1, q2, q3⟩ := hSw
    go_simp
    try with_reducible rfl
  try simp only [Act.put, List.setIfInBounds_toArray, List.set_cons_zero, List.set_cons_succ]
  refine wpAnyH_take (i := 6) (v := ?_) (by simp only [List.getElem?_toArray, List.getElem?_cons_zero, List.getElem?_cons_succ]; rfl) (by kernel_rfl) (by kernel_rfl) (by kernel_rfl) (fun _ _ _ h => h) (Or.inl ⟨by rfl, ?_⟩) HELD.out ?_
  rotate_left
  · intro w hSw
    (try dsimp only at hSw)
    obtain ⟨q0, q1, q2, q3⟩ := hSw
    go_simp
    try with_reducible rfl
  try simp only [Act.put, List.setIfInBounds_toArray, List.set_cons_zero, List.set_cons_succ]
  refine wpAnyH_take (i := 7) (v := ?_) (by simp only [List.getElem?_toArray, List.getElem?_cons_zero, List.getElem?_cons_succ]; rfl) (by kernel_rfl) (by kernel_rfl) (by kernel_rfl) (fun _ _ _ h => h) (Or.inl ⟨by rfl, ?_⟩) HELD.out ?_
  rotate_left
  · intro w hSw
    (try dsimp only at hSw)
    obtain ⟨q0, q1, q2, q3⟩ := hSw
    go_simp
    try with_reducible rfl
  try simp only [Act.put, List.setIfInBounds_toArray, List.set_cons_zero, List.set_cons_succ]
  refine wpAnyH_take (i := 8) (v := ?_) (by simp only [List.getElem?_toArray, List.getElem?_cons_zero, List.getElem?_cons_succ]; rfl) (by kernel_rfl) (by kernel_rfl) (by kernel_rfl) (fun _ _ _ h => h) (Or.inl ⟨by rfl, ?_⟩) HELD.out ?_
  rotate_left
  · intro w hSw
    (try dsimp only at hSw)
    obtain ⟨q0, q1, q2, q3⟩ := hSw
    go_simp
    try with_reducible rfl
  try simp only [Act.put, List.setIfInBounds_toArray, List.set_cons_zero, List.set_cons_succ]
  refine wpAnyH_take (i := 9) (v := ?_) (by simp only [List.getElem?_toArray, List.getElem?_cons_zero, List.getElem?_cons_succ]; rfl) (by kernel_rfl) (by kernel_rfl) (by kernel_rfl) (fun _ _ _ h => h) (Or.inl ⟨by rfl, ?_⟩) HELD.out ?_
  rotate_left
  · intro w hSw
    (try dsimp only at hSw)
    obtain ⟨q0, q1, q2, q3⟩ := hSw
    go_simp
    try with_reducible rfl
  try simp only [Act.put, List.setIfInBounds_toArray, List.set_cons_zero, List.set_cons_succ]
  refine wpAnyH_take (i := 10) (v := ?_) (by simp only [List.getElem?_toArray, List.getElem?_cons_zero, List.getElem?_cons_succ]; rfl) (by kernel_rfl) (by kernel_rfl) (by kernel_rfl) (fun _ _ _ h => h) (Or.inl ⟨by rfl, ?_⟩) HELD.out ?_
  rotate_left
  · intro w hSw
    (try dsimp only at hSw)
    obtain ⟨q0, q1, q2, q3⟩ := hSw
    go_simp
    try with_reducible rfl
  try simp only [Act.put, List.setIfInBounds_toArray, List.set_cons_zero, List.set_cons_succ]
  refine wpAnyH_take (i := 11) (v := ?_) (by simp only [List.getElem?_toArray, List.getElem?_cons_zero, List.getElem?_cons_succ]; rfl) (by kernel_rfl) (by kernel_rfl) (by kernel_rfl) (fun _ _ _ h => h) (Or.inl ⟨by rfl, ?_⟩) HELD.out ?_
  rotate_left
  · intro w hSw
    (try dsimp only at hSw)
    obtain ⟨q0, q1, q2, q3⟩ := hSw
    go_simp
    try with_reducible rfl
  try simp only [Act.put, List.setIfInBounds_toArray, List.set_cons_zero, List.set_cons_succ]
  refine wpAnyH_take (i := 12) (v := ?_) (by simp only [List.getElem?_toArray, List.getElem?_cons_zero, List.getElem?_cons_succ]; rfl) (by kernel_rfl) (by kernel_rfl) (by kernel_rfl) (fun _ _ _ h => h) (Or.inl ⟨by rfl, ?_⟩) HELD.out ?_
  rotate_left
  · intro w hSw
    (try dsimp only at hSw)
    obtain ⟨q0, q1, q2, q3⟩ := hSw
    go_simp
    try with_reducible rfl
  try simp only [Act.put, List.setIfInBounds_toArray, List.set_cons_zero, List.set_cons_succ]
  refine wpAnyH_take (i := 13) (v := ?_) (by simp only [List.getElem?_toArray, List.getElem?_cons_zero, List.getElem?_cons_succ]; rfl) (by kernel_rfl) (by kernel_rfl) (by kernel_rfl) (fun _ _ _ h => h) (Or.inl ⟨by rfl, ?_⟩) HELD.out ?_
  rotate_left
  · intro w hSw
    (try dsimp only at hSw)
    obtain ⟨q0, q1, q2, q3⟩ := hSw
    go_simp
    try with_reducible rfl
  try simp only [Act.put, List.setIfInBounds_toArray, List.set_cons_zero, List.set_cons_succ]
  refine wpAnyH_take (i := 14) (v := ?_) (by simp only [List.getElem?_toArray, List.getElem?_cons_zero, List.getElem?_cons_succ]; rfl) (by kernel_rfl) (by kernel_rfl) (by kernel_rfl) (fun _ _ _ h => h) (Or.inl ⟨by rfl, ?_⟩) HELD.out ?_
  rotate_left
  · intro w hSw
    (try dsimp only at hSw)
    obtain ⟨q0, q1, q2, q3⟩ := hSw
    go_simp
    try with_reducible rfl
  try simp only [Act.put, List.setIfInBounds_toArray, List.set_cons_zero, List.set_cons_succ]
  refine wpAnyH_take (i := 15) (v := ?_) (by simp only [List.getElem?_toArray, List.getElem?_cons_zero, List.getElem?_cons_succ]; rfl) (by kernel_rfl) (by kernel_rfl) (by kernel_rfl) (fun _ _ _ h => h) (Or.inl ⟨by rfl, ?_⟩) HELD.out ?_
  rotate_left
  · intro w hSw
    (try dsimp only at hSw)
    obtain ⟨q0, q1, q2, q3⟩ := hSw
    go_simp
    try with_reducible rfl
  try simp only [Act.put, List.setIfInBounds_toArray, List.set_cons_zero, List.set_cons_succ]
  refine wpAnyH_take (i := 16) (v := ?_) (by simp only [List.getElem?_toArray, List.getElem?_cons_zero, List.getElem?_cons_succ]; rfl) (by kernel_rfl) (by kernel_rfl) (by kernel_rfl) (fun _ _ _ h => h) (Or.inl ⟨by rfl, ?_⟩) HELD.out ?_
  rotate_left
  · intro w hSw
    (try dsimp only at hSw)
    obtain ⟨q0, q1, q2, q3⟩ := hSw
    go_simp
    try with_reducible rfl
  try simp only [Act.put, List.setIfInBounds_toArray, List.set_cons_zero, List.set_cons_succ]
  refine wpAnyH_ready (rs := [17]) (by kernel_rfl) (by simp) ?_
  refine AllReadyH.cons (by simp only [List.getElem?_toArray, List.getElem?_cons_zero, List.getElem?_cons_succ]; rfl) (fun K hK => ?_) AllReadyH.nil
  go_simp
  generalize hS2 : World.alloc Y0 _ = s2
  have hbs : Below X0.heap.size X0 s2 := by subst hS2; exact HY0.out.alloc HY0.out.size _
  have hnews : ∀ j u, [.int .u32 (2 * (vv : Int)), .int .u32 y, .int .u32 z][j]? = some u → s2.cell? ((⟨Y0.heap.size, 0, none⟩ : Addr).add j) = some u := by
    subst hS2; exact World.news_of_block (heap_new Y0 (.cells #[.int .u32 (2 * (vv : Int)), .int .u32 y, .int .u32 z] 59) Y0.heap.size rfl)
  clear hS2
  have HO1 := Lib.hid (ownsN_below HOWN.out hbs)
  have HC1 := Lib.hid (heap_below HC.out hbs)
  have HNEWS := Lib.hid hnews
  have HBB := Lib.hid hbs
  have hq6 : base ≤ s2.heap.size := Nat.le_trans hbase hbs.size
  have HELD := Lib.hid (HELDB.out s2 HC1.out (hbs.block X hXl) (hbs.block b hbl))
  clear hbs hnews
  refine hK.out _ _ HELD.out (fun _ => ?_)
  clear hK K
  try simp only [Act.put, List.setIfInBounds_toArray, List.set_cons_zero, List.set_cons_succ]
  refine wpAnyH_ready (rs := [18]) (by kernel_rfl) (by simp) ?_
  refine AllReadyH.cons (by simp only [List.getElem?_toArray, List.getElem?_cons_zero, List.getElem?_cons_succ]; rfl) (fun K hK => ?_) AllReadyH.nil
  refine step_append_own_at rfl _ _ 35 rfl base 59 il (.agg #[.int .u32 0, .int .u32 0, .int .u32 0]) 3 12 Try.underlying35 hil hzl0 hzl1 hzl2 rfl (by omega) _ _ L rfl HO1.out _ 1 1 [.int .u32 (2 * (vv : Int)), .int .u32 y, .int .u32 z] rfl rfl HNEWS.out (by intro u hu; simp at hu; rcases hu with rfl | rfl | rfl <;> rfl) hq4 hq5 hq6 ?_
  intro v2 w2 r2 hg2
  obtain ⟨a2, c2', rfl⟩ := ownsN_form r2
  have hC2 := heap_grown HC1.out hg2 (ownsN_notown HO1.out HC1.out (by decide))
  have hc2 : w2.cell? ⟨RB, 6, none⟩ = some (.slice va k vc) := cell_of_block hC2 6
  have hf2 : w2.frozen? ⟨RB, 6, none⟩ = false := unfrozen_of_block hC2 6
  have hlow := HO1.out.lt
  have HELD := Lib.hid (HELDB.out w2 hC2 ((hg2.block X (Nat.lt_of_lt_of_le hXl HBB.out.size) (fun e => by have := (hlow X e.symm).1; omega)).trans (HBB.out.block X hXl)) ((hg2.block b (Nat.lt_of_lt_of_le hbl HBB.out.size) (fun e => by have := (hlow b e.symm).1; omega)).trans (HBB.out.block b hbl)))
  have HG2 := Lib.hid hg2
  have R2 := Lib.hid r2
  clear hg2 r2 hC2 hlow
  refine hK.out _ _ HELD.out (fun _ => ?_)
  clear hK K
  try simp only [Act.put, List.setIfInBounds_toArray, List.set_cons_zero, List.set_cons_succ]
  refine wpAnyH_take (i := 19) (v := ?_) (by simp only [List.getElem?_toArray, List.getElem?_cons_zero, List.getElem?_cons_succ]; rfl) (by kernel_rfl) (by kernel_rfl) (by kernel_rfl) (fun _ _ _ h => h) (Or.inl ⟨by rfl, ?_⟩) HELD.out ?_
  rotate_left
  · intro w hSw
    (try dsimp only at hSw)
    obtain ⟨q0, q1, q2, q3⟩ := hSw
    go_simp
    try with_reducible rfl
  try simp only [Act.put, List.setIfInBounds_toArray, List.set_cons_zero, List.set_cons_succ]
  refine wpAnyH_done (by kernel_rfl) ?_ _
  unfold LastQ wpOp
  simp only [List.getElem?_toArray, List.getElem?_cons_zero, List.getElem?_cons_succ]
  rw [if_pos (by rfl)]
  refine Or.inl ?_
  go_simp
  refine NoPanic.normal ?_
  exact hK _ _ _ _ _ _ _ _ _ _ _ _ _ _ _ _ _ _ _ _ _ _ _ _ HBB.out HG2.out R2.out

end Go.Proofs.Ytkbdebdhebphpaa
namespace Go.Proofs.Ytkbdebdhebphpaa
open Go Go.RowKit Go.Joins

structure RFin (w3 : World) (RB m : Nat) (v1 v2 v3 v4 v5 v6 : Value) (is : List Nat) (ls gs : List Tri) (o3 o4 o5 : List Nat) (w : World) : Prop where
  var : w.heap[RB]? = some (.cells #[.int .u32 m, v1, v2, v3, v4, v5, v6] 37 (0, 0))
  f1 : w.ownsRow w3.heap.size 33 1 v1 is.length (is.map nv32)
  f2 : own3 54 w w3.heap.size v2 ls
  f3 : w.ownsRow w3.heap.size 33 1 v3 o3.length (o3.map nv32)
  f4 : w.ownsRow w3.heap.size 33 1 v4 o4.length (o4.map nv32)
  f5 : w.ownsRow w3.heap.size 33 1 v5 o5.length (o5.map nv32)
  f6 : own3 59 w w3.heap.size v6 gs
  but : But2 w3.heap.size RB RB w3 w
theorem RInv.toFin {w3 : World} {RB m : Nat} {v1 v2 v6 : Value} {is : List Nat} {ls gs : List Tri} {w : World} (h : RInv w3 RB m v1 v2 (.slice none 0 0) (.slice none 0 0) (.slice none 0 0) v6 is ls gs w) : RFin w3 RB m v1 v2 (.slice none 0 0) (.slice none 0 0) (.slice none 0 0) v6 is ls gs [] [] [] w :=
  ⟨h.var, h.f1, h.f2, ownsN_nil _ _ _ _, ownsN_nil _ _ _ _, ownsN_nil _ _ _ _, h.f6, h.but⟩
theorem RFin.below {w3 : World} {RB m : Nat} {v1 v2 v3 v4 v5 v6 : Value} {is : List Nat} {ls gs : List Tri} {o3 o4 o5 : List Nat} {w w' : World} (h : RFin w3 RB m v1 v2 v3 v4 v5 v6 is ls gs o3 o4 o5 w) (hb : Below w.heap.size w w') : RFin w3 RB m v1 v2 v3 v4 v5 v6 is ls gs o3 o4 o5 w' :=
  ⟨heap_below h.var hb, ownsN_below h.f1 hb, own3_below h.f2 hb, ownsN_below h.f3 hb, ownsN_below h.f4 hb, ownsN_below h.f5 hb, own3_below h.f6 hb, h.but.trans (But2.of_below (hb.mono h.but.size))⟩
theorem but_set {base U : Nat} {w3 w : World} (h1 : But2 base U U w3 w) (j : Nat) (u : Value) : But2 base U U w3 (w.setCell ⟨U, j, .none⟩ u) := by
  refine ⟨h1.os, h1.tape, h1.output, by have := h1.size; simpa using this, fun D d1 d2 d3 => ?_⟩
  rw [Below.heap_setCell w ⟨U, j, .none⟩ u D d2]
  exact h1.block D d1 d2 d3
section
variable {w3 : World} {RB m : Nat} {v1 v2 v3 v4 v5 v6 v' : Value} {is : List Nat} {ls gs : List Tri} {o3 o4 o5 o' : List Nat} {w : World}
theorem RFin.put3 (h : RFin w3 RB m v1 v2 v3 v4 v5 v6 is ls gs o3 o4 o5 w) (hRB : RB < w3.heap.size) (hr : w.ownsRow w3.heap.size 33 1 v' o'.length (o'.map nv32)) : RFin w3 RB m v1 v2 v' v4 v5 v6 is ls gs o' o4 o5 (w.setCell ⟨RB, 3, .none⟩ v') :=
  ⟨by simpa using block_setCell h.var (i := 3) v', owns_setR h.f1 hRB _, owns_setR h.f2 hRB _, owns_setR hr hRB _, owns_setR h.f4 hRB _, owns_setR h.f5 hRB _, owns_setR h.f6 hRB _, but_set h.but 3 v'⟩
theorem RFin.put4 (h : RFin w3 RB m v1 v2 v3 v4 v5 v6 is ls gs o3 o4 o5 w) (hRB : RB < w3.heap.size) (hr : w.ownsRow w3.heap.size 33 1 v' o'.length (o'.map nv32)) : RFin w3 RB m v1 v2 v3 v' v5 v6 is ls gs o3 o' o5 (w.setCell ⟨RB, 4, .none⟩ v') :=
  ⟨by simpa using block_setCell h.var (i := 4) v', owns_setR h.f1 hRB _, owns_setR h.f2 hRB _, owns_setR h.f3 hRB _, owns_setR hr hRB _, owns_setR h.f5 hRB _, owns_setR h.f6 hRB _, but_set h.but 4 v'⟩
theorem RFin.put5 (h : RFin w3 RB m v1 v2 v3 v4 v5 v6 is ls gs o3 o4 o5 w) (hRB : RB < w3.heap.size) (hr : w.ownsRow w3.heap.size 33 1 v' o'.length (o'.map nv32)) : RFin w3 RB m v1 v2 v3 v4 v' v6 is ls gs o3 o4 o' (w.setCell ⟨RB, 5, .none⟩ v') :=
  ⟨by simpa using block_setCell h.var (i := 5) v', owns_setR h.f1 hRB _, owns_setR h.f2 hRB _, owns_setR h.f3 hRB _, owns_setR h.f4 hRB _, owns_setR hr hRB _, owns_setR h.f6 hRB _, but_set h.but 5 v'⟩
end

/-- What the reference's Raw answers. -/
def RefRawPost (c : NormC) (w : World) (e : Ending) (w' : World) : Prop :=
  Below w.heap.size w w' ∧ ((mayC c = true ∧ ∃ s, e = .returned (.tuple #[rawV (varsN c) s, .int .i64 0]) ∧ SeesRaw w' s (rawS c)) ∨
    (mayC c = false ∧ e = .returned (.tuple #[zeroRawV, .int .i64 2])))

set_option maxRecDepth 100000 in
set_option maxHeartbeats 6400000 in
theorem refraw_any (c : NormC) (s : CSlots) (w : World) (h : SeesCir w s c) (hs : s.small) (hlo : -9223372036854775808 ≤ c.ins) (hhi : c.ins < 9223372036854775808) (hw : Wide c) :
    Calls Try.prog 10 #[cirV c.ins s] w (RefRawPost c w) := by
  obtain ⟨i0, hi, hz0, hz1, hz2⟩ := info_parts info_u32
  have HMAY := Lib.hid (fun W (hb : Below w.heap.size w W) => refmay3_any c s W (h.below hb) hs hlo hhi hw)
  have HVARS := Lib.hid (fun W (hb : Below w.heap.size w W) => refvars_any c s W (h.below hb) hs hlo hhi hw)
  have YES := Lib.hid (fun (hm : mayC c = true) (i : Nat) (h0 : (i : Int) = c.ins) => varsC_yes hm h0 h.s1.1 h.s2.1)
  have POS := Lib.hid (fun (hm : mayC c = true) => (mayC_iff.1 hm).pos)
  obtain ⟨a1, n1, c1, a2, n2, c2, a3, n3, c3, a4, n4, c4, a5, n5, c5⟩ := s
  obtain ⟨hs1, hs2, hs3, hs4, hs5⟩ := hs
  simp only at hs1 hs2 hs3 hs4 hs5
  have L1 : Hid (c.lats.length = n1) := h.s1.1
  have L2 : Hid (c.gates.length = n2) := h.s2.1
  have L3 : Hid (c.outs.length = n3) := h.s3.lenMap
  have L4 : Hid (c.bads.length = n4) := h.s4.lenMap
  have L5 : Hid (c.cons.length = n5) := h.s5.lenMap
  obtain ⟨z, hz⟩ : ∃ z, z = c.ins := ⟨_, rfl⟩
  obtain ⟨v, hv⟩ : ∃ v, v = varsC c := ⟨_, rfl⟩
  obtain ⟨q, hq⟩ : ∃ q, q = mayC c := ⟨_, rfl⟩
  rw [← hz]
  rw [← hz, ← hq] at HMAY
  rw [← hz, ← hv] at HVARS
  rw [← hz, ← hv, ← hq] at YES
  rw [← hz, ← hq] at POS
  have HZ := Lib.hid hz
  have HQ := Lib.hid hq
  have HVC := Lib.hid hv
  have HW := Lib.hid hw
  have HS := Lib.hid h
  clear hz hv hq h hlo hhi hw
  unfold cirV at *
  go_enter Try.func10, Try.ntmps10
  go_upto_region 1 with fail
  generalize hW : World.alloc (World.alloc w _) _ = W0
  have hb : Below w.heap.size w W0 := by subst hW; exact ext_trans (ext_alloc _ _) (ext_alloc _ _)
  have hx : W0.heap[w.heap.size]? = some (.cells #[.int .i64 z, .slice a1 n1 c1, .slice a2 n2 c2, .slice a3 n3 c3, .slice a4 n4 c4, .slice a5 n5 c5] 26 (0, 0)) := by subst hW; exact heap_below (heap_new _ _ _ rfl) (ext_alloc _ _)
  have hr : W0.heap[w.heap.size + 1]? = some (.cells #[.int .u32 0, .slice none 0 0, .slice none 0 0, .slice none 0 0, .slice none 0 0, .slice none 0 0, .slice none 0 0] 37 (0, 0)) := by subst hW; exact heap_new _ _ _ (by simp)
  have HB := Lib.hid hb
  have HX := Lib.hid hx
  have HR := Lib.hid hr
  clear hW hb hx hr
  have p0 := cell_of_block HX.out 0
  have p1 := cell_of_block HX.out 1
  have p2 := cell_of_block HX.out 2
  have p3 := cell_of_block HX.out 3
  have p4 := cell_of_block HX.out 4
  have p5 := cell_of_block HX.out 5
  go_wp2_with fail
  refine (HMAY.out W0 HB.out).mono ?_
  rintro e W1 ⟨rfl, hb⟩
  have HX1 := Lib.hid (heap_below HX.out hb)
  have HR1 := Lib.hid (heap_below HR.out hb)
  have HB1 := Lib.hid (ext_trans HB.out hb)
  clear hb p0 p1 p2 p3 p4 p5 HMAY HX HR HB
  cases q with
  | false =>
    have hzr := HR1.out
    have z0 := cell_of_block hzr 0
    have z1 := cell_of_block hzr 1
    have z2 := cell_of_block hzr 2
    have z3 := cell_of_block hzr 3
    have z4 := cell_of_block hzr 4
    have z5 := cell_of_block hzr 5
    have z6 := cell_of_block hzr 6
    have y0 := unfrozen_of_block hzr 0
    have y1 := unfrozen_of_block hzr 1
    have y2 := unfrozen_of_block hzr 2
    have y3 := unfrozen_of_block hzr 3
    have y4 := unfrozen_of_block hzr 4
    have y5 := unfrozen_of_block hzr 5
    have y6 := unfrozen_of_block hzr 6
    clear hzr
    go_wp2
    refine bodyPost_ret (v := .tuple #[zeroRawV, .int .i64 2]) ?_ rfl ?_
    · have h6 := raw_set HR1.out rfl (.int .u32 0) (.slice none 0 0) (.slice none 0 0) (.slice none 0 0) (.slice none 0 0) (.slice none 0 0) (.slice none 0 0)
      have g0 := cell_of_block h6 0
      have g1 := cell_of_block h6 1
      have g2 := cell_of_block h6 2
      have g3 := cell_of_block h6 3
      have g4 := cell_of_block h6 4
      have g5 := cell_of_block h6 5
      have g6 := cell_of_block h6 6
      simp [results, Try.results10, go_sem, g0, g1, g2, g3, g4, g5, g6]
      rfl
    · exact ⟨set7 (w.heap.size + 1) (Nat.le_succ _) HB1.out, Or.inr ⟨HQ.out.symm, rfl⟩⟩
  | true =>
  obtain ⟨i, hie⟩ := Int.eq_ofNat_of_zero_le (POS.out rfl)
  have hy := YES.out rfl i hie.symm
  have hi16 : i + n1 + n2 ≤ 16384 := hy.2
  have HVE := Lib.hid hy.1
  clear hy YES POS
  subst hie
  have CVT : IntKind.u32.wrap (v : Int) = (v : Int) := IntWalk.u32_in _ (by have := HVE.out; omega)
  go_upto_region 4 with fail
  obtain ⟨RB, hRB⟩ : ∃ RB, RB = W1.heap.size := ⟨_, rfl⟩
  rw [← hRB]
  generalize hW : World.alloc W1 _ = W2
  have hb : Below W1.heap.size W1 W2 := by subst hW; exact ext_alloc _ _
  have hvar : W2.heap[RB]? = some (.cells #[.int .u32 0, .slice none 0 0, .slice none 0 0, .slice none 0 0, .slice none 0 0, .slice none 0 0, .slice none 0 0] 37 (0, 0)) := by subst hW; exact heap_new _ _ _ hRB
  have HX2 := Lib.hid (heap_below HX1.out hb)
  have HR2 := Lib.hid (heap_below HR1.out hb)
  have HB2 := Lib.hid (ext_trans HB1.out hb)
  have HV2 := Lib.hid hvar
  have hwRB : w.heap.size + 1 < RB := by have := heap_lt HR1.out; omega
  clear hW hb hvar HX1 HR1 hRB
  have p0 := cell_of_block HX2.out 0
  have p1 := cell_of_block HX2.out 1
  have p2 := cell_of_block HX2.out 2
  have p3 := cell_of_block HX2.out 3
  have p4 := cell_of_block HX2.out 4
  have p5 := cell_of_block HX2.out 5
  go_wp2_with fail
  refine (HVARS.out W2 HB2.out).mono ?_
  rintro e V3 ⟨rfl, hb⟩
  have hv3 := heap_below HV2.out hb
  have hx3 := heap_below HX2.out hb
  have hr3 := heap_below HR2.out hb
  have hb3 := ext_trans HB2.out hb
  have r0 := cell_of_block hv3 0
  have r0f := unfrozen_of_block hv3 0
  have HV3 : Hid ((World.setCell V3 ⟨RB, 0, .none⟩ (.int .u32 (v : Int))).heap[RB]? = some (.cells #[.int .u32 (v : Int), .slice none 0 0, .slice none 0 0, .slice none 0 0, .slice none 0 0, .slice none 0 0, .slice none 0 0] 37 (0, 0))) := by
    show _ = _
    simpa using block_setCell hv3 (i := 0) (.int .u32 (v : Int))
  have HX3 : Hid ((World.setCell V3 ⟨RB, 0, .none⟩ (.int .u32 (v : Int))).heap[w.heap.size]? = some (.cells #[.int .i64 i, .slice a1 n1 c1, .slice a2 n2 c2, .slice a3 n3 c3, .slice a4 n4 c4, .slice a5 n5 c5] 26 (0, 0))) := by
    show _ = _
    rw [Below.heap_setCell V3 ⟨RB, 0, .none⟩ _ w.heap.size (show w.heap.size ≠ RB by omega)]
    exact hx3
  have HR3 : Hid ((World.setCell V3 ⟨RB, 0, .none⟩ (.int .u32 (v : Int))).heap[w.heap.size + 1]? = some (.cells #[.int .u32 0, .slice none 0 0, .slice none 0 0, .slice none 0 0, .slice none 0 0, .slice none 0 0, .slice none 0 0] 37 (0, 0))) := by
    show _ = _
    rw [Below.heap_setCell V3 ⟨RB, 0, .none⟩ _ (w.heap.size + 1) (show w.heap.size + 1 ≠ RB by omega)]
    exact hr3
  have HB3 : Hid (Below w.heap.size w (World.setCell V3 ⟨RB, 0, .none⟩ (.int .u32 (v : Int)))) := hb3.setCell (show w.heap.size ≤ RB by omega) _
  clear hb hv3 hx3 hr3 hb3 p0 p1 p2 p3 p4 p5 HVARS HX2 HR2 HB2 HV2
  go_upto_region 5 with fail
  clear r0 r0f CVT
  generalize hW : World.setCell V3 ⟨RB, 0, .none⟩ (.int .u32 (v : Int)) = W3 at HV3 HX3 HR3 HB3 ⊢
  have hRB3 : RB < W3.heap.size := heap_lt HV3.out
  have HI0 : Hid (RInv W3 RB v (.slice none 0 0) (.slice none 0 0) (.slice none 0 0) (.slice none 0 0) (.slice none 0 0) (.slice none 0 0) ((List.range 0).map fun q => 2 * (1 + q)) [] [] W3) := ⟨HV3.out, ownsN_nil _ _ _ _, own3_nil _ _ _, own3_nil _ _ _, But2.refl _ _ _ _⟩
  have HXX : Hid (∀ wr, But2 W3.heap.size RB RB W3 wr → wr.heap[w.heap.size]? = some (.cells #[.int .i64 i, .slice a1 n1 c1, .slice a2 n2 c2, .slice a3 n3 c3, .slice a4 n4 c4, .slice a5 n5 c5] 26 (0, 0))) := fun wr hb => hb.at HX3.out (heap_lt HX3.out) (by omega) (by omega)
  have HSS : Hid (∀ wr, But2 W3.heap.size RB RB W3 wr → SeesCir wr ⟨a1, n1, c1, a2, n2, c2, a3, n3, c3, a4, n4, c4, a5, n5, c5⟩ c) := fun wr hb => (HS.out).below (HB3.out.trans (hb.low (Nat.le_trans (by omega) (Nat.le_of_lt hRB3)) (by omega) (by omega)))
  clear hW HX3
  go_wp2
  go_loopw [5, 6] (fun vz j wr => ∃ (k vv : Nat) (v1 : Value), k ≤ i ∧ vz = .int .u32 (vv : Int) ∧ j = .int .i64 k ∧ Hid (vv = 1 + k) ∧ Hid (RInv W3 RB v v1 (.slice none 0 0) (.slice none 0 0) (.slice none 0 0) (.slice none 0 0) (.slice none 0 0) ((List.range k).map fun q => 2 * (1 + q)) [] [] wr))
    (fun _ j _ => i - (intOf j).toNat)
  case atStart => exact ⟨0, 1, _, Nat.zero_le _, rfl, rfl, rfl, HI0.out⟩
  case round =>
    clear HI0
    obtain ⟨k, vv, v1, hk, rfl, rfl, hvv, hI⟩ := hrel
    have p0 := cell_of_block (HXX.out wr hI.out.but) 0
    by_cases hlt : k < i
    · obtain ⟨va, vc, hv1⟩ := ownsN_form hI.out.f1
      have hlen : ((List.range k).map fun q => 2 * (1 + q)).length = k := by simp
      rw [hlen] at hv1
      subst hv1
      have W1' : IntKind.i64.wrap ((k : Int) + 1) = (k : Int) + 1 := IntWalk.i64_in _ (by omega)
      have hv9 : vv ≤ 20000 := by have := hvv.out; omega
      have M1 : IntKind.u32.wrap (2 * (vv : Int)) = 2 * (vv : Int) := IntWalk.u32_in _ (by omega)
      have M2 : IntKind.u32.wrap ((vv : Int) + 1) = (vv : Int) + 1 := IntWalk.u32_in _ (by omega)
      have HLEN := Lib.hid hlen
      have cR : wr.cell? ⟨RB, 1, none⟩ = some (.slice va k vc) := cell_of_block hI.out.var 1
      obtain ⟨L, hL⟩ : ∃ L, L = ((List.range k).map fun q => 2 * (1 + q)).map nv32 := ⟨_, rfl⟩
      have hown0 := hI.out.f1
      rw [← hL, hlen] at hown0
      have HL := Lib.hid hL
      have HOWN0 := Lib.hid hown0
      have hws := hI.out.but.size
      clear hlen hL hown0
      go_wp2_with (at_builtin; refine wpList_append_own_at _ rfl _ _ 24 rfl W3.heap.size 33 i0 (.int .u32 0) 1 4 Try.underlying24 hi hz0 hz1 hz2 rfl (by omega) _ _ L rfl (ownsN_below HOWN0.out (ext_alloc _ _)) ⟨wr.heap.size, 0, none⟩ 1 1 [.int .u32 (2 * (vv : Int))] rfl rfl ?c1 ?c2 ?c4 ?c5 ?c6 ?_)
      case c1 => exact World.news_of_block (heap_new wr (.cells #[.int .u32 (2 * (vv : Int))] 33) wr.heap.size rfl)
      case c2 => first | rfl | exact ⟨rfl, rfl⟩ | (intro u hu; simp at hu; subst hu; rfl)
      case c4 => unfold maxLen; omega
      case c5 => omega
      case c6 => simp; omega
      intro v2 w2 hr2 hg2 _ _
      obtain ⟨va2, vc2, rfl⟩ := ownsN_form hr2
      have hC2 := heap_grown (heap_below hI.out.var (ext_alloc wr (.cells #[.int .u32 (2 * (vv : Int))] 33))) hg2 (fun e => by have := (HOWN0.out.lt RB e).1; omega)
      have s1 : w2.cell? ⟨RB, 1, none⟩ = some (.slice va k vc) := cell_of_block hC2 1
      have s2 : w2.frozen? ⟨RB, 1, none⟩ = false := unfrozen_of_block hC2 1
      have hgrow := hI.out.grow_ins hRB3 (ext_alloc wr (.cells #[.int .u32 (2 * (vv : Int))] 33)) hg2 (x := 2 * (1 + k)) hr2 (by rw [HLEN.out]) (by
        rw [HL.out]
        unfold nv32
        rw [show ((2 * (1 + k) : Nat) : Int) = 2 * (vv : Int) by have := hvv.out; omega])
      have ht : ((List.range k).map fun q => 2 * (1 + q)) ++ [2 * (1 + k)] = (List.range (k + 1)).map fun q => 2 * (1 + q) := by rw [List.range_succ, List.map_append]; rfl
      rw [ht] at hgrow
      have HG := Lib.hid hgrow
      have HVV : Hid (vv + 1 = 1 + (k + 1)) := by have := hvv.out; show _ = _; omega
      clear hgrow ht hC2 hg2 hr2 hI cR hvv HOWN0
      go_wp2
      go_roundw
      case rel => exact ⟨k + 1, vv + 1, _, by omega, by go_num, by go_num, HVV.out, HG.out⟩
      case measure => simp [intOf]; omega
    · obtain rfl : i = k := by omega
      have HI1 := Lib.hid hI.out
      have HVS := Lib.hid hvv.out
      obtain ⟨e1, d1, hv1⟩ := ownsN_form hI.out.f1
      rw [List.length_map, List.length_range] at hv1
      subst hv1
      obtain ⟨w5, hw5⟩ : ∃ w5 : World, w5 = wr := ⟨_, rfl⟩
      subst hw5
      clear hI hvv hlt hk
      go_wp2
      clear p0
      go_loopw [5, 7, 8] (fun vz j v8 wr => ∃ (k vv : Nat) (v2 : Value), k ≤ n1 ∧ vz = .int .u32 (vv : Int) ∧ j = .int .i64 k ∧ Hid (vv = 1 + i + k) ∧ Hid (RInv W3 RB v (.slice e1 i d1) v2 (.slice none 0 0) (.slice none 0 0) (.slice none 0 0) (.slice none 0 0) ((List.range i).map fun q => 2 * (1 + q)) ((upFrom latR (1 + i) c.lats).take k) [] wr))
        (fun _ j _ _ => n1 - (intOf j).toNat)
      case atStart => exact ⟨0, vv, _, Nat.zero_le _, rfl, rfl, HVS.out, by show RInv _ _ _ _ _ _ _ _ _ _ _ _ _; rw [List.take_zero]; exact HI1.out⟩
      case round =>
        clear HI1 HVS
        obtain ⟨k, vv, v2, hk, rfl, rfl, hvv, hI⟩ := hrel
        have p1 := cell_of_block (HXX.out wr hI.out.but) 1
        by_cases hlt : k < n1
        · obtain ⟨b, off, rfl, hbw⟩ := HS.out.s1.addr (show 0 < n1 by omega)
          obtain ⟨qx, qy⟩ := (HSS.out wr hI.out.but).s1.cells k hlt (0, 0)
          have hwd := HW.out.lats (c.lats.getD k (0, 0)) (getD_mem (by rw [L1.out]; exact hlt))
          obtain ⟨p, hp⟩ : ∃ t, t = c.lats.getD k (0, 0) := ⟨_, rfl⟩
          rw [← hp] at qx qy hwd
          have HP := Lib.hid hp
          clear hp
          obtain ⟨x, y⟩ := p
          simp only [nv32, nv8] at qx qy
          simp only at hwd
          obtain ⟨va, vc, hv2⟩ := own3_form hI.out.f2
          have hlen : ((upFrom latR (1 + i) c.lats).take k).length = k := by rw [List.length_take, upFrom_len, L1.out]; omega
          rw [hlen] at hv2
          subst hv2
          obtain ⟨L, hL⟩ : ∃ L, L = triCs ((upFrom latR (1 + i) c.lats).take k) := ⟨_, rfl⟩
          have hown0 := hI.out.f2
          unfold own3 at hown0
          rw [← hL, hlen] at hown0
          have W1' : IntKind.i64.wrap ((k : Int) + 1) = (k : Int) + 1 := IntWalk.i64_in _ (by omega)
          have hv9 : vv ≤ 20000 := by have := hvv.out; omega
          have M1 : IntKind.u32.wrap (2 * (vv : Int)) = 2 * (vv : Int) := IntWalk.u32_in _ (by omega)
          have M2 : IntKind.u32.wrap ((vv : Int) + 1) = (vv : Int) + 1 := IntWalk.u32_in _ (by omega)
          have CY : IntKind.u32.wrap (y : Int) = (y : Int) := IntWalk.u32_in _ (by omega)
          have hws := hI.out.but.size
          have hbW : b < W3.heap.size := Nat.lt_of_lt_of_le hbw (by have := HB3.out.size; exact this)
          have hwW : w.heap.size < W3.heap.size := by omega
          have HLEN := Lib.hid hlen
          have HL := Lib.hid hL
          have HOWN0 := Lib.hid hown0
          have HQX := Lib.hid qx
          have HQ1 := Lib.hid p1
          have FIN : Hid (∀ (zr : Nat) (hzr : zr = if y = 2 then 2 * vv else y) (a' : Option Addr) (c' : Nat) (s2 w2 : World), Below wr.heap.size wr s2 → s2.grownBy w2 (Value.slice va k vc).ownBlock → w2.ownsRow W3.heap.size 54 3 (.slice a' (k + 1) c') (k + 1) (L ++ [.int .u32 (2 * (vv : Int)), .int .u32 (x : Int), .int .u32 (zr : Int)]) →
              RInv W3 RB v (.slice e1 i d1) (.slice a' (k + 1) c') (.slice none 0 0) (.slice none 0 0) (.slice none 0 0) (.slice none 0 0) ((List.range i).map fun q => 2 * (1 + q)) ((upFrom latR (1 + i) c.lats).take (k + 1)) [] (w2.setCell ⟨RB, 2, none⟩ (.slice a' (k + 1) c'))) := fun zr hzr a' c' s2 w2 hb2 hg2 hr2 => by
            rw [upFrom_take latR (1 + i) c.lats k (by rw [L1.out]; exact hlt)]
            refine RInv.grow_lat hI.out hRB3 hb2 hg2 hr2 (by rw [HLEN.out]) ?_
            rw [HL.out, ← HP.out]
            unfold latR triC
            have e1 : 1 + i + k = vv := by have := hvv.out; omega
            rw [e1, ← hzr]
            rfl
          have HVV : Hid (vv + 1 = 1 + i + (k + 1)) := by have := hvv.out; show _ = _; omega
          have HVAR := Lib.hid hI.out.var
          clear hlen hL hown0 hI hvv hbw
          by_cases hy2 : y = 2
          · have f1 : ((y : Int) == 2) = true := by simp; omega
            go_upto_region 17 with fail
            refine reg_NRefRawA RB w.heap.size b off k n1 vv x (2 * vv) W3.heap.size c1 va vc L wr HVAR.out HQ1.out hlt HQX.out hwW hbW (by omega) HOWN0 hws (by unfold maxLen; omega) (by omega) _ ?_
            intro a' c' s2 w2 _ _ _ _ _ _ _ _ _ _ _ _ _ _ _ hb2 hg2 hr2
            have HN := Lib.hid (FIN.out (2 * vv) (by rw [if_pos hy2]) a' c' s2 w2 hb2 hg2 hr2)
            clear hb2 hg2 hr2 f1 qx qy p1 CY FIN HVAR
            go_wp2
            go_roundw
            case rel => exact ⟨k + 1, vv + 1, _, by omega, by go_num, by go_num, HVV.out, HN.out⟩
            case measure => simp [intOf]; omega
          · have f1 : ((y : Int) == 2) = false := by simp; omega
            go_upto_region 17 with fail
            refine reg_NRefRawA RB w.heap.size b off k n1 vv x y W3.heap.size c1 va vc L wr HVAR.out HQ1.out hlt HQX.out hwW hbW (by omega) HOWN0 hws (by unfold maxLen; omega) (by omega) _ ?_
            intro a' c' s2 w2 _ _ _ _ _ _ _ _ _ _ _ _ _ _ _ hb2 hg2 hr2
            have HN := Lib.hid (FIN.out y (by rw [if_neg hy2]) a' c' s2 w2 hb2 hg2 hr2)
            clear hb2 hg2 hr2 f1 qx qy p1 CY FIN HVAR
            go_wp2
            go_roundw
            case rel => exact ⟨k + 1, vv + 1, _, by omega, by go_num, by go_num, HVV.out, HN.out⟩
            case measure => simp [intOf]; omega
        · obtain rfl : n1 = k := by omega
          have hI' := hI.out
          rw [List.take_of_length_le (by rw [upFrom_len, L1.out]; exact Nat.le_refl _)] at hI'
          obtain ⟨e2, d2, hv2⟩ := own3_form hI'.f2
          rw [upFrom_len, L1.out] at hv2
          subst hv2
          have HI1 := Lib.hid hI'
          have HVS := Lib.hid hvv.out
          obtain ⟨w6, hw6⟩ : ∃ w6 : World, w6 = wr := ⟨_, rfl⟩
          subst hw6
          clear hI hI' hvv hlt hk
          go_wp2
          clear p1
          go_loopw [5, 9] (fun vz j wr => ∃ (k vv : Nat) (v6 : Value), k ≤ n2 ∧ vz = .int .u32 (vv : Int) ∧ j = .int .i64 k ∧ Hid (vv = 1 + i + n1 + k) ∧ Hid (RInv W3 RB v (.slice e1 i d1) (.slice e2 n1 d2) (.slice none 0 0) (.slice none 0 0) (.slice none 0 0) v6 ((List.range i).map fun q => 2 * (1 + q)) (upFrom latR (1 + i) c.lats) ((upFrom gateR (1 + i + n1) c.gates).take k) wr))
            (fun _ j _ => n2 - (intOf j).toNat)
          case atStart => exact ⟨0, vv, _, Nat.zero_le _, rfl, rfl, HVS.out, by show RInv _ _ _ _ _ _ _ _ _ _ _ _ _; rw [List.take_zero]; exact HI1.out⟩
          case round =>
            clear HI1 HVS
            obtain ⟨k, vv, v6, hk, rfl, rfl, hvv, hI⟩ := hrel
            have p2 := cell_of_block (HXX.out wr hI.out.but) 2
            by_cases hlt : k < n2
            · obtain ⟨b, off, rfl, hbw⟩ := HS.out.s2.addr (show 0 < n2 by omega)
              obtain ⟨qx, qy⟩ := (HSS.out wr hI.out.but).s2.cells k hlt (0, 0)
              obtain ⟨p, hp⟩ : ∃ t, t = c.gates.getD k (0, 0) := ⟨_, rfl⟩
              rw [← hp] at qx qy
              have HP := Lib.hid hp
              clear hp
              obtain ⟨x, y⟩ := p
              simp only [nv32] at qx qy
              obtain ⟨va, vc, hv6⟩ := own3_form hI.out.f6
              have hlen : ((upFrom gateR (1 + i + n1) c.gates).take k).length = k := by rw [List.length_take, upFrom_len, L2.out]; omega
              rw [hlen] at hv6
              subst hv6
              obtain ⟨L, hL⟩ : ∃ L, L = triCs ((upFrom gateR (1 + i + n1) c.gates).take k) := ⟨_, rfl⟩
              have hown0 := hI.out.f6
              unfold own3 at hown0
              rw [← hL, hlen] at hown0
              have W1' : IntKind.i64.wrap ((k : Int) + 1) = (k : Int) + 1 := IntWalk.i64_in _ (by omega)
              have hv9 : vv ≤ 20000 := by have := hvv.out; omega
              have M2 : IntKind.u32.wrap ((vv : Int) + 1) = (vv : Int) + 1 := IntWalk.u32_in _ (by omega)
              have hws := hI.out.but.size
              have hbW : b < W3.heap.size := Nat.lt_of_lt_of_le hbw (by have := HB3.out.size; exact this)
              have hwW : w.heap.size < W3.heap.size := by omega
              have HLEN := Lib.hid hlen
              have HL := Lib.hid hL
              have HOWN0 := Lib.hid hown0
              have HQX := Lib.hid qx
              have HQY := Lib.hid qy
              have HQ2 := Lib.hid p2
              have FIN : Hid (∀ (a' : Option Addr) (c' : Nat) (s2 w2 : World), Below wr.heap.size wr s2 → s2.grownBy w2 (Value.slice va k vc).ownBlock → w2.ownsRow W3.heap.size 59 3 (.slice a' (k + 1) c') (k + 1) (L ++ [.int .u32 (2 * (vv : Int)), .int .u32 (x : Int), .int .u32 (y : Int)]) →
                  RInv W3 RB v (.slice e1 i d1) (.slice e2 n1 d2) (.slice none 0 0) (.slice none 0 0) (.slice none 0 0) (.slice a' (k + 1) c') ((List.range i).map fun q => 2 * (1 + q)) (upFrom latR (1 + i) c.lats) ((upFrom gateR (1 + i + n1) c.gates).take (k + 1)) (w2.setCell ⟨RB, 6, none⟩ (.slice a' (k + 1) c'))) := fun a' c' s2 w2 hb2 hg2 hr2 => by
                rw [upFrom_take gateR (1 + i + n1) c.gates k (by rw [L2.out]; exact hlt)]
                refine RInv.grow_gate hI.out hRB3 hb2 hg2 hr2 (by rw [HLEN.out]) ?_
                rw [HL.out, ← HP.out]
                unfold gateR triC
                have e1 : 1 + i + n1 + k = vv := by have := hvv.out; omega
                rw [e1]
                rfl
              have HVV : Hid (vv + 1 = 1 + i + n1 + (k + 1)) := by have := hvv.out; show _ = _; omega
              have HVAR := Lib.hid hI.out.var
              clear hlen hL hown0 hI hvv hbw
              go_upto_region 22 with fail
              refine reg_NRefRawB RB w.heap.size b off k n2 vv x y W3.heap.size c2 va vc L wr HVAR.out HQ2.out hlt HQX.out HQY.out hwW hbW (by omega) HOWN0 hws (by unfold maxLen; omega) (by omega) _ ?_
              intro a' c' s2 w2 _ _ _ _ _ _ _ _ _ _ _ _ _ _ _ _ _ _ _ _ hb2 hg2 hr2
              have HN := Lib.hid (FIN.out a' c' s2 w2 hb2 hg2 hr2)
              clear hb2 hg2 hr2 qx qy p2 FIN HVAR
              go_wp2
              go_roundw
              case rel => exact ⟨k + 1, vv + 1, _, by omega, by go_num, by go_num, HVV.out, HN.out⟩
              case measure => simp [intOf]; omega
            · obtain rfl : n2 = k := by omega
              have hI' := hI.out
              rw [List.take_of_length_le (by rw [upFrom_len, L2.out]; exact Nat.le_refl _)] at hI'
              obtain ⟨e6, d6, hv6⟩ := own3_form hI'.f6
              rw [upFrom_len, L2.out] at hv6
              subst hv6
              have HF := Lib.hid hI'.toFin
              obtain ⟨w7, hw7⟩ : ∃ w7 : World, w7 = wr := ⟨_, rfl⟩
              subst hw7
              clear hI hI' hvv hlt hk
              go_upto_region 25 with fail
              clear p2
              have px := cell_of_block (HXX.out w7 HF.out.but) 3
              have S9 := Lib.hid ((HSS.out w7 HF.out.but).s3)
              have hbs := HF.out.but.size
              go_wp2_with (at_builtin; refine wpList_append_row isU32 _ rfl _ _ 24 rfl w7.heap.size 33 i0 (.int .u32 0) 4 Try.underlying24 hi hz0 hz1 hz2 rfl zero_isU32 _ _ _ rfl (Row.nil _ _ _ _) a3 n3 c3 (c.outs.map nv32) rfl S9.out (nv32_one _) (nv32_ok HW.out.outs) ?q31 ?q32 ?q33 ?_)
              case q31 => unfold maxLen; omega
              case q32 => omega
              intro v9 w80 hrow hgr _
              have hb : Below w7.heap.size w7 w80 := (Below.refl _ _).grown hgr (Nat.le_refl _) (fun k hk => by cases hk)
              obtain ⟨e3, d3, hv9⟩ := hrow.form
              try rw [Nat.zero_add] at hv9
              subst hv9
              have hFb := HF.out.below hb
              have c9c := cell_of_block hFb.var 3
              have c9f := unfrozen_of_block hFb.var 3
              have HF2 : Hid (RFin W3 RB v (.slice e1 i d1) (.slice e2 n1 d2) (.slice e3 n3 d3) (.slice none 0 0) (.slice none 0 0) (.slice e6 n2 d6) ((List.range i).map fun q => 2 * (1 + q)) (upFrom latR (1 + i) c.lats) (upFrom gateR (1 + i + n1) c.gates) c.outs [] [] (World.setCell w80 ⟨RB, 3, .none⟩ (.slice e3 n3 d3))) := hFb.put3 hRB3 (by rw [L3.out]; have h9 := ownsN_base hrow.own hbs; first | exact h9 | simpa using h9)
              clear hrow hgr hb hFb HF S9 px hbs
              go_upto_region 26 with fail
              clear c9c c9f
              generalize hW : (World.setCell w80 ⟨RB, 3, .none⟩ (.slice e3 n3 d3)) = w90 at HF2 ⊢
              have HF := Lib.hid HF2.out
              clear hW HF2
              have px := cell_of_block (HXX.out w90 HF.out.but) 4
              have S9 := Lib.hid ((HSS.out w90 HF.out.but).s4)
              have hbs := HF.out.but.size
              go_wp2_with (at_builtin; refine wpList_append_row isU32 _ rfl _ _ 24 rfl w90.heap.size 33 i0 (.int .u32 0) 4 Try.underlying24 hi hz0 hz1 hz2 rfl zero_isU32 _ _ _ rfl (Row.nil _ _ _ _) a4 n4 c4 (c.bads.map nv32) rfl S9.out (nv32_one _) (nv32_ok HW.out.bads) ?q41 ?q42 ?q43 ?_)
              case q41 => unfold maxLen; omega
              case q42 => omega
              intro v9 w81 hrow hgr _
              have hb : Below w90.heap.size w90 w81 := (Below.refl _ _).grown hgr (Nat.le_refl _) (fun k hk => by cases hk)
              obtain ⟨e4, d4, hv9⟩ := hrow.form
              try rw [Nat.zero_add] at hv9
              subst hv9
              have hFb := HF.out.below hb
              have c9c := cell_of_block hFb.var 4
              have c9f := unfrozen_of_block hFb.var 4
              have HF2 : Hid (RFin W3 RB v (.slice e1 i d1) (.slice e2 n1 d2) (.slice e3 n3 d3) (.slice e4 n4 d4) (.slice none 0 0) (.slice e6 n2 d6) ((List.range i).map fun q => 2 * (1 + q)) (upFrom latR (1 + i) c.lats) (upFrom gateR (1 + i + n1) c.gates) c.outs c.bads [] (World.setCell w81 ⟨RB, 4, .none⟩ (.slice e4 n4 d4))) := hFb.put4 hRB3 (by rw [L4.out]; have h9 := ownsN_base hrow.own hbs; first | exact h9 | simpa using h9)
              clear hrow hgr hb hFb HF S9 px hbs
              go_upto_region 27 with fail
              clear c9c c9f
              generalize hW : (World.setCell w81 ⟨RB, 4, .none⟩ (.slice e4 n4 d4)) = w91 at HF2 ⊢
              have HF := Lib.hid HF2.out
              clear hW HF2
              have px := cell_of_block (HXX.out w91 HF.out.but) 5
              have S9 := Lib.hid ((HSS.out w91 HF.out.but).s5)
              have hbs := HF.out.but.size
              go_wp2_with (at_builtin; refine wpList_append_row isU32 _ rfl _ _ 24 rfl w91.heap.size 33 i0 (.int .u32 0) 4 Try.underlying24 hi hz0 hz1 hz2 rfl zero_isU32 _ _ _ rfl (Row.nil _ _ _ _) a5 n5 c5 (c.cons.map nv32) rfl S9.out (nv32_one _) (nv32_ok HW.out.cons) ?q51 ?q52 ?q53 ?_)
              case q51 => unfold maxLen; omega
              case q52 => omega
              intro v9 w82 hrow hgr _
              have hb : Below w91.heap.size w91 w82 := (Below.refl _ _).grown hgr (Nat.le_refl _) (fun k hk => by cases hk)
              obtain ⟨e5, d5, hv9⟩ := hrow.form
              try rw [Nat.zero_add] at hv9
              subst hv9
              have hFb := HF.out.below hb
              have c9c := cell_of_block hFb.var 5
              have c9f := unfrozen_of_block hFb.var 5
              have HF2 : Hid (RFin W3 RB v (.slice e1 i d1) (.slice e2 n1 d2) (.slice e3 n3 d3) (.slice e4 n4 d4) (.slice e5 n5 d5) (.slice e6 n2 d6) ((List.range i).map fun q => 2 * (1 + q)) (upFrom latR (1 + i) c.lats) (upFrom gateR (1 + i + n1) c.gates) c.outs c.bads c.cons (World.setCell w82 ⟨RB, 5, .none⟩ (.slice e5 n5 d5))) := hFb.put5 hRB3 (by rw [L5.out]; have h9 := ownsN_base hrow.own hbs; first | exact h9 | simpa using h9)
              clear hrow hgr hb hFb HF S9 px hbs
              go_upto_region 28 with fail
              clear c9c c9f
              generalize hW : (World.setCell w82 ⟨RB, 5, .none⟩ (.slice e5 n5 d5)) = w92 at HF2 ⊢
              have HF := Lib.hid HF2.out
              clear hW HF2
              have HRR := Lib.hid (HF.out.but.at HR3.out (heap_lt HR3.out) (by omega) (by omega))
              have HBL := Lib.hid (HB3.out.trans (HF.out.but.low (Nat.le_trans (show w.heap.size ≤ RB by omega) (Nat.le_of_lt hRB3)) (by omega) (by omega)))
              have t0 := cell_of_block HF.out.var 0
              have t1 := cell_of_block HF.out.var 1
              have t2 := cell_of_block HF.out.var 2
              have t3 := cell_of_block HF.out.var 3
              have t4 := cell_of_block HF.out.var 4
              have t5 := cell_of_block HF.out.var 5
              have t6 := cell_of_block HF.out.var 6
              have z0 := cell_of_block HRR.out 0
              have z1 := cell_of_block HRR.out 1
              have z2 := cell_of_block HRR.out 2
              have z3 := cell_of_block HRR.out 3
              have z4 := cell_of_block HRR.out 4
              have z5 := cell_of_block HRR.out 5
              have z6 := cell_of_block HRR.out 6
              have y0 := unfrozen_of_block HRR.out 0
              have y1 := unfrozen_of_block HRR.out 1
              have y2 := unfrozen_of_block HRR.out 2
              have y3 := unfrozen_of_block HRR.out 3
              have y4 := unfrozen_of_block HRR.out 4
              have y5 := unfrozen_of_block HRR.out 5
              have y6 := unfrozen_of_block HRR.out 6
              have hltR := heap_lt HR3.out
              go_wp2
              refine bodyPost_ret (v := .tuple #[rawV v ⟨e1, i, d1, e2, n1, d2, e3, n3, d3, e4, n4, d4, e5, n5, d5, e6, n2, d6⟩, .int .i64 0]) ?_ rfl ?_
              · have h6 := raw_set HRR.out rfl (.int .u32 v) (.slice e1 i d1) (.slice e2 n1 d2) (.slice e3 n3 d3) (.slice e4 n4 d4) (.slice e5 n5 d5) (.slice e6 n2 d6)
                have g0 := cell_of_block h6 0
                have g1 := cell_of_block h6 1
                have g2 := cell_of_block h6 2
                have g3 := cell_of_block h6 3
                have g4 := cell_of_block h6 4
                have g5 := cell_of_block h6 5
                have g6 := cell_of_block h6 6
                simp [results, Try.results10, go_sem, g0, g1, g2, g3, g4, g5, g6]
                rfl
              · have hvn : v = varsN c := by rw [HVC.out]; unfold varsC; rw [← HQ.out]; rfl
                have hrs : rawS c = ⟨v, (List.range i).map fun q => 2 * (1 + q), upFrom latR (1 + i) c.lats, c.outs, c.bads, c.cons, upFrom gateR (1 + i + n1) c.gates⟩ := by
                  unfold rawS
                  rw [← hvn, ← HZ.out, L1.out]
                  simp
                refine ⟨set7 (w.heap.size + 1) (Nat.le_succ _) HBL.out, Or.inl ⟨HQ.out.symm, _, by rw [hvn], ?_⟩⟩
                rw [hrs]
                exact ⟨owns1_sees (owns_set7 HF.out.f1 hltR), own3_sees_slice (owns_set7 HF.out.f2 hltR), owns1_sees (owns_set7 HF.out.f3 hltR), owns1_sees (owns_set7 HF.out.f4 hltR), owns1_sees (owns_set7 HF.out.f5 hltR), own3_sees_slice (owns_set7 HF.out.f6 hltR)⟩
end Go.Proofs.Ytkbdebdhebphpaa
