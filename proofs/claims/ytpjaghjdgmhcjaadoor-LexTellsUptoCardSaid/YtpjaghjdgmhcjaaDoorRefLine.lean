/- inquestref01.Line, by its contract. -/
import Derived.Test.YtpjaghjdgmhcjaaDoorLent
namespace Go.Proofs.YtpjaghjdgmhcjaaDoor
open Go Go.RowKit Go.Joins

/-- What the document's Line answers. -/
def RefLinePost (bs : List UInt8) (n : Nat) (w : World) (e : Ending) (w' : World) : Prop :=
  (ahead bs < n ∧ ∃ a1 c1 a2 c2, e = .returned (.tuple #[.slice a1 (ahead bs) c1, .slice a2 (n - (ahead bs + 1)) c2, .int .i64 0]) ∧ Sees w' a1 (ahead bs) c1 ((bs.take (ahead bs)).map bv) ∧
    Sees w' a2 (n - (ahead bs + 1)) c2 ((bs.drop (ahead bs + 1)).map bv) ∧ Below w.heap.size w w') ∨
  (ahead bs = n ∧ e = .returned (.tuple #[.slice none 0 0, .slice none 0 0, .int .i64 4]) ∧ Below w.heap.size w w')

theorem sees_bytes (w : World) (s : List UInt8) : Sees (Lib.bytesWorld w 5 (str s)) (some ⟨w.heap.size, 0, none⟩) s.length (grownCap w s.length 0 5) (s.map bv) := by
  have hs := size_str s
  refine ⟨by simp, grownCap_ge _ _ _ _, (fun e => by cases e), fun _ => ⟨w.heap.size, 0, rfl, by rw [Lib.bytesWorld_size]; omega, fun j hj => ?_⟩⟩
  rw [Nat.zero_add, Lib.bytesWorld_cell w _ _ j (by rw [hs]; exact hj)]
  simp [str, bv, List.getD, List.getElem?_eq_getElem hj]

set_option maxHeartbeats 1600000 in
theorem refline_any (bs : List UInt8) (a : Option Addr) (n c : Nat) (w : World) (h : Sees w a n c (bs.map bv)) (hn : n ≤ 1000000000) :
    Calls Tryd.prog 8 #[.slice a n c] w (RefLinePost bs n w) := by
  have hcn := h.cap
  have hbl : bs.length = n := by have := h.len; simpa using this
  have HS : Hid (Sees w a n c (bs.map bv)) := h
  have HL : Hid (bs.length = n) := hbl
  have qc := fun (W : World) (s : List UInt8) => Lib.run_convert_string_bytes (P := Tryd.prog) W 9 22 5 (str s) Tryd.underlying9 Tryd.underlying22 Tryd.underlying5
  clear h hbl
  go_enter Tryd.func8, Tryd.ntmps8
  go_wp2
  go_loop [5] (fun j => ∃ k : Nat, k ≤ n ∧ j = .int .i64 k ∧ Hid (∀ m, m < k → bs.getD m 0 ≠ 10)) (fun j => n - (intOf j).toNat)
  case atStart => exact ⟨0, Nat.zero_le _, rfl, fun m hm => absurd hm (by omega)⟩
  case round =>
    obtain ⟨k, hk, rfl, hno⟩ := hrel
    by_cases hlt : k < n
    · obtain ⟨b, off, ea, hbw⟩ := HS.out.addr (by omega)
      have HS2 := HS.out
      rw [ea] at HS2 ⊢
      obtain ⟨x, hx⟩ : ∃ x : Nat, x = (bs.getD k 0).toNat := ⟨_, rfl⟩
      have hcx := HS2.byte k hlt
      rw [← hx] at hcx
      have HX := Lib.hid hx
      clear hx
      by_cases h10 : x = 10
      · subst h10
        have hk10 : bs.getD k 0 = 10 := UInt8.toNat_inj.1 (by rw [← HX.out]; rfl)
        have ea : ahead bs = k := ahead_at bs k (by rw [HL.out]; exact hlt) hno hk10
        have EA := Lib.hid ea
        obtain ⟨a1, ec1, see1⟩ := HS2.cut 0 k (Nat.zero_le _) hk
        obtain ⟨a2, ec2, see2⟩ := HS2.cut (k + 1) n (by omega) (Nat.le_refl _)
        have q1 := fun W => (run_upto (P := Tryd.prog) Tryd.underlying22 size_u8 W (some ⟨b, off, none⟩) n c k (k : Int) rfl (by omega)).trans (congrArg (fun v => Result.ok v W) ec1)
        have q2 := fun W => (run_from (P := Tryd.prog) Tryd.underlying22 size_u8 W (some ⟨b, off, none⟩) n c (k + 1) ((k : Int) + 1) (by omega) (by omega)).trans (congrArg (fun v => Result.ok v W) ec2)
        obtain ⟨s1, hs1⟩ : ∃ s1, s1 = bs.take k := ⟨_, rfl⟩
        obtain ⟨s2, hs2⟩ : ∃ s2, s2 = bs.drop (k + 1) := ⟨_, rfl⟩
        have S1 : Sees w a1 k c (s1.map bv) := by rw [hs1, List.map_take]; exact see1
        have S2 : Sees w a2 (n - (k + 1)) (c - (k + 1)) (s2.map bv) := by
          have e : (List.map bv bs).take n = List.map bv bs := List.take_of_length_le (by rw [HS.out.len]; exact Nat.le_refl _)
          rw [e, ← List.map_drop] at see2
          rw [hs2]; exact see2
        have S1d := S1.below ((Below.refl _ w).drew)
        have S2d := S2.below ((Below.refl _ w).drew)
        have r3 := (S1d.below (below_bytes w.drew 5 (str s2))).str (P := Tryd.prog) 22 5 9 Tryd.underlying22 Tryd.underlying5 Tryd.underlying9
        have r4 := (S2d.below (below_bytes w.drew 5 (str s1))).str (P := Tryd.prog) 22 5 9 Tryd.underlying22 Tryd.underlying5 Tryd.underlying9
        have r1 := S1d.str (P := Tryd.prog) 22 5 9 Tryd.underlying22 Tryd.underlying5 Tryd.underlying9
        have r2 := S2d.str (P := Tryd.prog) 22 5 9 Tryd.underlying22 Tryd.underlying5 Tryd.underlying9
        have l1 : s1.length = k := by have := S1.len; simpa using this
        have l2 : s2.length = n - (k + 1) := by have := S2.len; simpa using this
        have W1 : IntKind.i64.wrap ((k : Int) + 1) = (k : Int) + 1 := IntWalk.i64_in _ (by omega)
        have z1 : (str s1).size = k := by rw [size_str, l1]
        have z2 : (str s2).size = n - (k + 1) := by rw [size_str, l2]
        have L1 := Lib.hid l1
        have L2 := Lib.hid l2
        have E1 := Lib.hid hs1
        have E2 := Lib.hid hs2
        clear ec1 ec2 see1 see2 HS2 S1 S2 S1d S2d l1 l2 hs1 hs2 hno ea hk10
        go_wp2
        go_region
        all_goals
          go_wp2
          go_ret3
        · have f1 := sees_bytes w.drew s1
          have f2 := sees_bytes (Lib.bytesWorld w.drew 5 (str s1)) s2
          rw [L1.out] at f1
          rw [L2.out] at f2
          refine Or.inl ⟨by rw [EA.out]; exact hlt, _, _, _, _, by rw [EA.out]; rfl, ?_, ?_, ?_⟩
          · rw [EA.out, ← E1.out]; exact f1.below (below_bytes _ _ _)
          · rw [EA.out, ← E2.out]; exact f2
          · exact ((Below.refl _ w).drew).trans (ext_trans (below_bytes w.drew 5 (str s1)) (below_bytes _ _ _))
        · have f2 := sees_bytes w.drew s2
          have f1 := sees_bytes (Lib.bytesWorld w.drew 5 (str s2)) s1
          rw [L1.out] at f1
          rw [L2.out] at f2
          refine Or.inl ⟨by rw [EA.out]; exact hlt, _, _, _, _, by rw [EA.out]; rfl, ?_, ?_, ?_⟩
          · rw [EA.out, ← E1.out]; exact f1
          · rw [EA.out, ← E2.out]; exact f2.below (below_bytes _ _ _)
          · exact ((Below.refl _ w).drew).trans (ext_trans (below_bytes w.drew 5 (str s2)) (below_bytes _ _ _))
      · have h1 : ((x : Int) != 10) = true := by simp; omega
        have h2 : ((x : Int) == 10) = false := by simp; omega
        clear HS2
        go_wp2
        go_round
        case rel =>
          refine ⟨k + 1, by omega, by go_num, fun m hm => ?_⟩
          rcases Nat.lt_or_ge m k with h | h
          · exact hno m h
          · have : m = k := by omega
            subst this
            intro e; apply h10; rw [HX.out, e]; rfl
        case measure => simp [intOf]; omega
    · have : k = n := by omega
      subst this
      go_wp2
      go_ret3
      exact Or.inr ⟨(ahead_none bs (by rw [HL.out]; exact hno)).trans HL.out, rfl, Below.refl _ _⟩
end Go.Proofs.YtpjaghjdgmhcjaaDoor
