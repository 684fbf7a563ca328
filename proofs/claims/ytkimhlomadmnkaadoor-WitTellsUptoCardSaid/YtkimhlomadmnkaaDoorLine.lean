/- lex.Line, by its contract. -/
import Derived.Test.YtkimhlomadmnkaaDoorClone
namespace Go.Proofs.YtkimhlomadmnkaaDoor
open Go Go.RowKit

/-- A line: how many bytes are ahead of the first byte 10. -/
def ahead (bs : List UInt8) : Nat := (bs.takeWhile (fun u => u != 10)).length

theorem ahead_at (bs : List UInt8) (k : Nat) (hk : k < bs.length) (hno : ∀ m, m < k → bs.getD m 0 ≠ 10) (h10 : bs.getD k 0 = 10) : ahead bs = k := by
  induction bs generalizing k with
  | nil => simp at hk
  | cons x r ih =>
    cases k with
    | zero => simp [List.getD] at h10; simp [ahead, h10]
    | succ k =>
      have h0 : x ≠ 10 := by have := hno 0 (by omega); simpa [List.getD] using this
      have := ih k (by simpa using hk) (fun m hm => by have := hno (m + 1) (by omega); simpa [List.getD] using this) (by simpa [List.getD] using h10)
      unfold ahead at this ⊢
      rw [List.takeWhile_cons]
      simp [h0, this]

theorem ahead_none (bs : List UInt8) (hno : ∀ m, m < bs.length → bs.getD m 0 ≠ 10) : ahead bs = bs.length := by
  induction bs with
  | nil => rfl
  | cons x r ih =>
    have h0 : x ≠ 10 := by have := hno 0 (by simp); simpa [List.getD] using this
    have := ih (fun m hm => by have := hno (m + 1) (by simpa using hm); simpa [List.getD] using this)
    unfold ahead at this ⊢
    rw [List.takeWhile_cons]
    simp [h0, this]

/-- What Line answers: the line and what is behind it, both new, or ErrShort. -/
def LinePost (bs : List UInt8) (n : Nat) (w : World) (e : Ending) (w' : World) : Prop :=
  (ahead bs < n ∧ ∃ v1 v2, e = .returned (.tuple #[v1, v2, .int .i64 0]) ∧ Row isByte w' w.heap.size 5 v1 (ahead bs) ((bs.take (ahead bs)).map bv) ∧
    Row isByte w' w.heap.size 5 v2 (n - (ahead bs + 1)) ((bs.drop (ahead bs + 1)).map bv) ∧ Below w.heap.size w w') ∨
  (ahead bs = n ∧ e = .returned (.tuple #[.slice none 0 0, .slice none 0 0, .int .i64 4]) ∧ Below w.heap.size w w')

theorem size_u8 : ∀ w, (sizeOf 5).run Tryd.prog w = .ok 1 w := fun w => by
  obtain ⟨i0, hi, hz0, hz1, hz2⟩ := info_parts info_u8
  simp [sizeOf, typeInfo, hi, hz1]

set_option maxRecDepth 100000 in
set_option maxHeartbeats 800000 in
theorem line_any (bs : List UInt8) (a : Option Addr) (n c : Nat) (w : World) (h : Sees w a n c (bs.map bv)) (hn : n ≤ 1000000000) :
    Calls Tryd.prog 54 #[.slice a n c] w (LinePost bs n w) := by
  have hcn := h.cap
  have hbl : bs.length = n := by have := h.len; simpa using this
  have HS : Hid (Sees w a n c (bs.map bv)) := h
  have HL : Hid (bs.length = n) := hbl
  clear h hbl
  go_enter Tryd.func54, Tryd.ntmps54
  go_wp2
  go_loop [5, 6, 9] (fun i x j => ∃ k : Nat, k ≤ n ∧ j = .int .i64 k ∧ Hid (∀ m, m < k → bs.getD m 0 ≠ 10)) (fun _ _ j => n - (intOf j).toNat)
  case atStart => exact ⟨0, Nat.zero_le _, rfl, fun m hm => absurd hm (by omega)⟩
  case round =>
    obtain ⟨k, hk, rfl, hno⟩ := hrel
    by_cases hlt : k < n
    · obtain ⟨b, off, ea, hbw⟩ := HS.out.addr (by omega)
      have HS2 := HS.out
      rw [ea] at HS2 ⊢
      have hcx := HS2.byte k hlt
      obtain ⟨a1, ec1, see1⟩ := HS2.cut 0 k (Nat.zero_le _) hk
      obtain ⟨a2, ec2, see2⟩ := HS2.cut (k + 1) n (by omega) (Nat.le_refl _)
      have q1 := fun W => (run_upto (P := Tryd.prog) Tryd.underlying22 size_u8 W (some ⟨b, off, none⟩) n c k (k : Int) rfl (by omega)).trans (congrArg (fun v => Result.ok v W) ec1)
      have q2 := fun W => (run_from (P := Tryd.prog) Tryd.underlying22 size_u8 W (some ⟨b, off, none⟩) n c (k + 1) ((k : Int) + 1) (by omega) (by omega)).trans (congrArg (fun v => Result.ok v W) ec2)
      clear ec1 ec2
      have S1 : Hid (Sees w a1 k c ((bs.take k).map bv)) := by rw [List.map_take]; exact see1
      have S2 : Hid (Sees w a2 (n - (k + 1)) (c - (k + 1)) ((bs.drop (k + 1)).map bv)) := by
        have e : (List.map bv bs).take n = List.map bv bs := List.take_of_length_le (by rw [HS.out.len]; exact Nat.le_refl _)
        rw [e, ← List.map_drop] at see2
        exact see2
      clear see1 see2 HS2
      have W1 : IntKind.i64.wrap ((k : Int) + 1) = (k : Int) + 1 := IntWalk.i64_in _ (by omega)
      go_wp2
      · go_region_with (first
          | (go_at_call 53; (with_reducible refine (clone_from w (bs.take k) a1 k c w.drew S1.out ((Below.refl _ w).drew) (by omega)).mono ?_); rintro e w1 ⟨v1, rfl, r1, b1⟩; have b1' : Below w.heap.size w w1 := ((Below.refl _ w).drew).trans b1)
          | (go_at_call 53; (with_reducible refine (clone_from w (bs.drop (k + 1)) a2 (n - (k + 1)) (c - (k + 1)) w1 S2.out b1' (by omega)).mono ?_); rintro e w2 ⟨v2, rfl, r2, b2⟩))
        have h10 : ((bs[k]?.getD 0).toNat : Int) = 10 := by have := ‹((bs[k]?.getD 0).toNat : Int) == 10› ; simpa using this
        have hk10 : bs.getD k 0 = 10 := by
          have : (bs.getD k 0).toNat = 10 := by simp only [List.getD]; omega
          exact UInt8.toNat_inj.1 this
        have ea : ahead bs = k := ahead_at bs k (by rw [HL.out]; exact hlt) hno hk10
        have R1 := Lib.hid r1
        have R2 := Lib.hid r2
        clear r1 r2
        go_wp2
        go_ret3
        refine Or.inl ⟨by omega, v1, v2, rfl, ?_, ?_, b1'.trans (b2.mono b1'.size)⟩
        · rw [ea]; exact (R1.out.below b2).base_le (by simp)
        · rw [ea]; exact R2.out.base_le b1'.size
      · go_round
        case rel =>
          have hne : bs.getD k 0 ≠ 10 := by
            have hf : (((bs[k]?.getD 0).toNat : Int) == 10) = false := by assumption
            intro e
            simp only [List.getD] at e
            rw [e] at hf
            exact absurd hf (by decide)
          refine ⟨k + 1, by omega, by go_num, fun m hm => ?_⟩
          rcases Nat.lt_or_ge m k with h | h
          · exact hno m h
          · have : m = k := by omega
            subst this
            exact hne
        case measure => simp [intOf]; omega
    · go_wp2
      go_ret3
      have : k = n := by omega
      subst this
      exact Or.inr ⟨(ahead_none bs (by rw [HL.out]; exact hno)).trans HL.out, rfl, Below.refl _ _⟩
end Go.Proofs.YtkimhlomadmnkaaDoor
