/- What bytes.IndexAny meets that is no ASCII byte: what is decoded is no blank, nor is any byte of it. -/
import Derived.Test.YtgplkpfdbiapaaaGreatDoorVdSpec
import Derived.Lib.DecodeN
import Derived.Lib.Index
import Derived.Lib.ItoaNum
import Derived.Lib.ParseIntBCases
namespace Go.Proofs.YtgplkpfdbiapaaaGreatDoor
open Go

/-- A rune that was decoded of more than one byte, or of none that is right. -/
def FarRune (r k : Nat) : Prop := (r = 65533 ∧ k = 1) ∨ (k = 2 ∧ 128 ≤ r ∧ r < 2048) ∨ (k = 3 ∧ 2048 ≤ r ∧ r < 65536 ∧ (r < 55296 ∨ 57344 ≤ r)) ∨ (k = 4 ∧ 65536 ≤ r ∧ r ≤ 1114111)
theorem decode_far (n b0 b1 b2 b3 : Nat) (hn : 1 ≤ n) (h0 : 128 ≤ b0) (h0' : b0 < 256) (h1 : b1 < 256) (h2 : b2 < 256) (h3 : b3 < 256) :
    FarRune (Lib.decodeN n b0 b1 b2 b3).1 (Lib.decodeN n b0 b1 b2 b3).2 ∧ (Lib.decodeN n b0 b1 b2 b3).2 ≤ n ∧ (1 < (Lib.decodeN n b0 b1 b2 b3).2 → 128 ≤ b1) ∧ (2 < (Lib.decodeN n b0 b1 b2 b3).2 → 128 ≤ b2) ∧ (3 < (Lib.decodeN n b0 b1 b2 b3).2 → 128 ≤ b3) := by
  unfold Lib.decodeN FarRune
  rw [if_neg (by omega)]
  split
  · split
    · exact ⟨by omega, by omega, fun _ => by omega, fun _ => by omega, fun _ => by omega⟩
    · exact ⟨by omega, by omega, fun _ => by omega, fun _ => by omega, fun _ => by omega⟩
  · split
    · split
      · exact ⟨by omega, by omega, fun _ => by omega, fun _ => by omega, fun _ => by omega⟩
      · exact ⟨by omega, by omega, fun _ => by omega, fun _ => by omega, fun _ => by omega⟩
    · split
      · split
        · exact ⟨by omega, by omega, fun _ => by omega, fun _ => by omega, fun _ => by omega⟩
        · exact ⟨by omega, by omega, fun _ => by omega, fun _ => by omega, fun _ => by omega⟩
      · exact ⟨by omega, by omega, fun _ => by omega, fun _ => by omega, fun _ => by omega⟩
set_option maxRecDepth 100000 in
theorem enc_far (r k : Nat) (h : FarRune r k) (hr : r ≠ 65533) : (Utf8.encode (r : Int)).size = k ∧ 2 ≤ k ∧ k ≤ 4 ∧ ∃ b t, (Utf8.encode (r : Int)).data.toList = b :: t ∧ 192 ≤ b.toNat := by
  unfold FarRune at h
  have hv : Utf8.valid (r : Int) = true := by unfold Utf8.valid; simp; omega
  unfold Utf8.encode
  rw [hv]
  simp only [if_true, Int.toNat_natCast]
  rw [if_neg (by omega)]
  rcases h with h | h | h | h
  · omega
  · rw [if_pos (by omega)]
    refine ⟨by simp [ByteArray.size]; omega, by omega, by omega, _, _, rfl, ?_⟩
    simp only [UInt8.toNat_ofNat']; omega
  · rw [if_neg (by omega), if_pos (by omega)]
    refine ⟨by simp [ByteArray.size]; omega, by omega, by omega, _, _, rfl, ?_⟩
    simp only [UInt8.toNat_ofNat']; omega
  · rw [if_neg (by omega), if_neg (by omega)]
    refine ⟨by simp [ByteArray.size]; omega, by omega, by omega, _, _, rfl, ?_⟩
    simp only [UInt8.toNat_ofNat']; omega
def gapsL : List UInt8 := [32, 9, 10, 13]
theorem gap_far (b : UInt8) (t : List UInt8) (h : 192 ≤ b.toNat) : Lib.index gapsL (b :: t) = -1 := by
  refine Lib.index_none fun j hj => ?_
  have hb : b ≠ 32 ∧ b ≠ 9 ∧ b ≠ 10 ∧ b ≠ 13 := by
    refine ⟨?_, ?_, ?_, ?_⟩ <;> (rintro rfl; revert h; decide)
  have hj' : j ≤ 4 := hj
  unfold Lib.occAt gapsL
  rcases j with _ | _ | _ | _ | _ | j
  · simp [List.isPrefixOf, hb]
  · simp [List.isPrefixOf, hb]
  · simp [List.isPrefixOf, hb]
  · simp [List.isPrefixOf, hb]
  · rfl
  · omega
theorem gap_iff (x : UInt8) : gapV x = gapsL.contains x := by
  unfold gapV gapsL
  simp only [List.contains_cons, List.contains_nil, Bool.or_false]
  rw [Bool.or_assoc, Bool.or_assoc]
theorem gap_small (x : UInt8) (h : 128 ≤ x.toNat) : gapV x = false := by
  unfold gapV
  have hb : x ≠ 32 ∧ x ≠ 9 ∧ x ≠ 10 ∧ x ≠ 13 := by
    refine ⟨?_, ?_, ?_, ?_⟩ <;> (rintro rfl; revert h; decide)
  simp [hb]
/-- The place of the first gap. -/
def gapAt (bs : List UInt8) : Int := if (takeV bs).length = bs.length then -1 else ((takeV bs).length : Int)
theorem take_of {bs : List UInt8} : ∀ (i : Nat), i ≤ bs.length → (∀ j, j < i → gapV (bs.getD j 0) = false) → i ≤ (takeV bs).length
  | 0, _, _ => Nat.zero_le _
  | i + 1, hi, h => by
    cases bs with
    | nil => simp at hi
    | cons x r =>
      have h0 := h 0 (by omega)
      simp only [List.getD_cons_zero] at h0
      rw [takeV]
      simp only [h0, Bool.false_eq_true, if_false, List.length_cons]
      have := take_of (bs := r) i (by simpa using hi) (fun j hj => by have := h (j + 1) (by omega); simpa using this)
      omega
theorem take_no {bs : List UInt8} {i : Nat} (hi : i < bs.length) (h : gapV (bs.getD i 0) = true) : (takeV bs).length ≤ i := by
  induction bs generalizing i with
  | nil => simp at hi
  | cons x r ih =>
    rw [takeV]
    cases i with
    | zero => simp only [List.getD_cons_zero] at h; simp [h]
    | succ i =>
      split
      · simp
      · have := ih (i := i) (by simpa using hi) (by simpa using h)
        simp; omega
theorem gapAt_hit {bs : List UInt8} {i : Nat} (hi : i < bs.length) (h : ∀ j, j < i → gapV (bs.getD j 0) = false) (h1 : gapV (bs.getD i 0) = true) : gapAt bs = (i : Int) := by
  have a := take_of i (Nat.le_of_lt hi) h
  have b := take_no hi h1
  unfold gapAt
  rw [if_neg (by omega)]
  omega
theorem gapAt_none {bs : List UInt8} (h : ∀ j, j < bs.length → gapV (bs.getD j 0) = false) : gapAt bs = -1 := by
  have a := take_of bs.length (Nat.le_refl _) h
  have b := take_len bs
  unfold gapAt
  rw [if_pos (by omega)]
end Go.Proofs.YtgplkpfdbiapaaaGreatDoor
