/- inquestref00.Numbers, by its contract. -/
import Derived.Test.YtglhnmbfkbjemaaDoorNBase
namespace Go.Proofs.YtglhnmbfkbjemaaDoor
open Go Go.RowKit Go.Joins

/-- What holds at a round's head: k numbers were the same; both slices are behind them. -/
def EqInv (w : World) (xs ys : List Nat) (n : Nat) (a b : Value) (k : Nat) : Prop :=
  ∃ a1 c1 a2 c2, a = .slice a1 (n - k) c1 ∧ b = .slice a2 (n - k) c2 ∧ Sees w a1 (n - k) c1 ((xs.drop k).map nv32) ∧ Sees w a2 (n - k) c2 ((ys.drop k).map nv32) ∧ xs.take k = ys.take k

/-- A slice's length. -/
def slenQ : Value → Nat | .slice _ m _ => m | _ => 0

theorem eq_step {xs ys : List Nat} {k : Nat} (h : xs.take k = ys.take k) (hk : k < xs.length) (hk' : k < ys.length) (hx : xs.getD k 0 = ys.getD k 0) : xs.take (k + 1) = ys.take (k + 1) := by
  rw [List.take_succ_eq_append_getElem hk, List.take_succ_eq_append_getElem hk', h]
  have : xs[k] = ys[k] := by simpa [List.getD, List.getElem?_eq_getElem hk, List.getElem?_eq_getElem hk'] using hx
  rw [this]

set_option maxRecDepth 100000 in
set_option maxHeartbeats 1600000 in
theorem eqnums_any (xs ys : List Nat) (a a' : Option Addr) (n c n' c' : Nat) (w : World) (h : Sees w a n c (xs.map nv32)) (h' : Sees w a' n' c' (ys.map nv32)) (hn : n ≤ 1000000000) :
    Calls Tryd.prog 17 #[.slice a n c, .slice a' n' c'] w fun e w' => e = .returned (.bool (xs == ys)) ∧ ∃ q, w' = w.drewN q := by
  have hl : xs.length = n := by have := h.len; simpa using this
  have hl' : ys.length = n' := by have := h'.len; simpa using this
  by_cases hne : n = n'
  · subst hne
    have H := Lib.hid h
    have H' := Lib.hid h'
    have HL := Lib.hid hl
    have HL' := Lib.hid hl'
    clear h h' hl hl'
    go_enter Tryd.func17, Tryd.ntmps17
    go_wp2
    go_loopw [0, 1] (fun a b wr => ∃ k q : Nat, k ≤ n ∧ Hid (wr = w.drewN q) ∧ Hid (EqInv w xs ys n a b k) ∧ ∃ a1 c1 a2 c2, a = .slice a1 (n - k) c1 ∧ b = .slice a2 (n - k) c2)
      (fun a _ _ => slenQ a)
    case atStart => exact ⟨0, 0, Nat.zero_le _, rfl, ⟨_, _, _, _, rfl, rfl, H.out, H'.out, rfl⟩, _, _, _, _, rfl, rfl⟩
    case round =>
      obtain ⟨k, q, hk, hw, hinv, a1, c1, a2, c2, rfl, rfl⟩ := hrel
      obtain ⟨_, _, _, _, e1, e2, s1, s2, ht⟩ := hinv.out
      cases e1; cases e2
      have hw' := hw.out
      subst hw'
      clear hw hinv
      by_cases hlt : k < n
      · obtain ⟨b1, o1, rfl, _⟩ := s1.addr (by omega)
        obtain ⟨b2, o2, rfl, _⟩ := s2.addr (by omega)
        obtain ⟨x, hx⟩ : ∃ x : Nat, x = xs.getD k 0 := ⟨_, rfl⟩
        obtain ⟨y, hy⟩ : ∃ y : Nat, y = ys.getD k 0 := ⟨_, rfl⟩
        have hc1 : w.cell? ⟨b1, o1, none⟩ = some (.int .u32 (x : Int)) := by
          have := s1.num 0 (by omega)
          rw [hx, ← show (xs.drop k).getD 0 0 = xs.getD k 0 by simp [List.getD]]
          exact this
        have hc2 : w.cell? ⟨b2, o2, none⟩ = some (.int .u32 (y : Int)) := by
          have := s2.num 0 (by omega)
          rw [hy, ← show (ys.drop k).getD 0 0 = ys.getD k 0 by simp [List.getD]]
          exact this
        obtain ⟨a3, ec3, see3⟩ := s1.cut 1 (n - k) (by omega) (Nat.le_refl _)
        obtain ⟨a4, ec4, see4⟩ := s2.cut 1 (n - k) (by omega) (Nat.le_refl _)
        have q1 := fun W => (run_from (P := Tryd.prog) Tryd.underlying26 size_u32 W (some ⟨b1, o1, none⟩) (n - k) c1 1 1 rfl (by omega)).trans (congrArg (fun v => Result.ok v W) ec3)
        have q2 := fun W => (run_from (P := Tryd.prog) Tryd.underlying26 size_u32 W (some ⟨b2, o2, none⟩) (n - k) c2 1 1 rfl (by omega)).trans (congrArg (fun v => Result.ok v W) ec4)
        have S3 : Hid (Sees w a3 (n - (k + 1)) (c1 - 1) ((xs.drop (k + 1)).map nv32)) := by
          have e : (List.map nv32 (xs.drop k)).take (n - k) = List.map nv32 (xs.drop k) := List.take_of_length_le (by rw [s1.len]; exact Nat.le_refl _)
          rw [e, ← List.map_drop, List.drop_drop] at see3
          exact see3
        have S4 : Hid (Sees w a4 (n - (k + 1)) (c2 - 1) ((ys.drop (k + 1)).map nv32)) := by
          have e : (List.map nv32 (ys.drop k)).take (n - k) = List.map nv32 (ys.drop k) := List.take_of_length_le (by rw [s2.len]; exact Nat.le_refl _)
          rw [e, ← List.map_drop, List.drop_drop] at see4
          exact see4
        have HX := Lib.hid hx
        have HY := Lib.hid hy
        have HT := Lib.hid ht
        have hpos : (0 : Int) < ((n - k : Nat) : Int) := by omega
        clear ec3 ec4 see3 see4 hx hy ht s1 s2
        by_cases hxy : x = y
        · subst hxy
          go_wp2
          go_quiet (fail)
          go_wp2
          go_quiet (fail)
          go_wp2
          go_roundw
          case rel =>
            refine ⟨k + 1, _, by omega, (by unfold Hid; rw [World.drewN_drewN, World.drewN_drewN]), ⟨_, _, _, _, rfl, rfl, S3.out, S4.out, eq_step HT.out (by rw [HL.out]; exact hlt) (by rw [HL'.out]; exact hlt) (by rw [← HX.out, HY.out])⟩, _, _, _, _, rfl, rfl⟩
          case measure => simp [slenQ]; omega
        · have hn1 : ((x : Int) != (y : Int)) = true := by simp; omega
          have hn2 : ((x : Int) == (y : Int)) = false := by simp; omega
          have he : (xs == ys) = false := by
            rw [beq_eq_false_iff_ne]
            intro e
            apply hxy
            rw [HX.out, HY.out, e]
          have HE := Lib.hid he
          clear he
          go_wp2
          go_quiet (fail)
          go_wp2
          go_ret
          refine ⟨by rw [HE.out]; rfl, ?_⟩
          simp
          exact ⟨_, rfl⟩
      · have hkn : k = n := by omega
        subst hkn
        have he : (xs == ys) = true := by
          rw [List.take_of_length_le (by rw [HL.out]; exact Nat.le_refl _), List.take_of_length_le (by rw [HL'.out]; exact Nat.le_refl _)] at ht
          rw [ht]; simp
        have HE := Lib.hid he
        clear he ht s1 s2
        go_wp2
        go_ret
        exact ⟨by rw [HE.out]; rfl, _, rfl⟩
  · have hb : ((n : Int) != (n' : Int)) = true := by simp; omega
    have hb' : ((n : Int) == (n' : Int)) = false := by simp; omega
    have he : (xs == ys) = false := by
      rw [beq_eq_false_iff_ne]
      intro e
      subst e
      omega
    have HE := Lib.hid he
    clear h h' he hl hl'
    go_enter Tryd.func17, Tryd.ntmps17
    go_wp2
    go_ret
    exact ⟨by rw [HE.out]; rfl, 0, rfl⟩
end Go.Proofs.YtglhnmbfkbjemaaDoor
