/- Deltas on plain lists: what is written is read, and what is read was written so. -/
import Derived.Test.YtglhnmbfkbjemaaDoorLib
namespace Go.Proofs.YtglhnmbfkbjemaaDoor

/-- A number at the beginning of bytes, from the i-th byte on, s being what came before; 'es' is the error of what ends too soon, 'ef' that of a wrong form. -/
def dGo (es ef : Int) : List UInt8 → Nat → Nat → Except Int (Nat × Nat)
  | [], _, _ => .error es
  | x :: r, i, s =>
    if 4294967295 < s + x.toNat % 128 * 128 ^ i ∨ (128 ≤ x.toNat ∧ i = 4) ∨ (x.toNat = 0 ∧ 0 < i) then .error ef
    else if x.toNat < 128 then .ok (s + x.toNat % 128 * 128 ^ i, i + 1) else dGo es ef r (i + 1) (s + x.toNat % 128 * 128 ^ i)
/-- The bytes of a number, f + 1 of them at most. -/
def dEnc : Nat → Nat → List UInt8
  | 0, n => [UInt8.ofNat n]
  | f + 1, n => if 128 ≤ n then UInt8.ofNat (n % 128 + 128) :: dEnc f (n / 128) else [UInt8.ofNat n]

theorem u8_of (n : Nat) (h : n < 256) : (UInt8.ofNat n).toNat = n := by
  rw [UInt8.toNat_ofNat']
  omega
theorem dGo_last (es ef : Int) {n i s : Nat} {rest : List UInt8} (hn : n < 128) (hz : i = 0 ∨ 0 < n) (hm : s + n * 128 ^ i ≤ 4294967295) : dGo es ef (UInt8.ofNat n :: rest) i s = .ok (s + n * 128 ^ i, i + 1) := by
  have e := u8_of n (by omega)
  unfold dGo
  rw [e, Nat.mod_eq_of_lt hn, if_neg (by omega), if_pos hn]
theorem dEnc_go (es ef : Int) : ∀ (f n i s : Nat) (rest : List UInt8), n < 128 ^ (f + 1) → i + f = 4 → (i = 0 ∨ 0 < n) → s + n * 128 ^ i ≤ 4294967295 →
    dGo es ef (dEnc f n ++ rest) i s = .ok (s + n * 128 ^ i, i + (dEnc f n).length)
  | 0, n, i, s, rest, hn, _, hz, hm => dGo_last es ef (by simpa using hn) hz hm
  | f + 1, n, i, s, rest, hn, hf, hz, hm => by
    unfold dEnc
    by_cases h : 128 ≤ n
    · rw [if_pos h]
      have e := u8_of (n % 128 + 128) (by omega)
      have hp : n * 128 ^ i = n % 128 * 128 ^ i + n / 128 * 128 ^ (i + 1) := by
        have hd : n = n % 128 + 128 * (n / 128) := by omega
        rw [Nat.pow_succ]
        calc n * 128 ^ i = (n % 128 + 128 * (n / 128)) * 128 ^ i := by rw [← hd]
          _ = n % 128 * 128 ^ i + n / 128 * (128 ^ i * 128) := by rw [Nat.add_mul, Nat.mul_comm 128 (n / 128), Nat.mul_assoc, Nat.mul_comm 128 (128 ^ i)]
      have hq : n / 128 < 128 ^ (f + 1) := by
        rw [Nat.pow_succ] at hn
        exact Nat.div_lt_of_lt_mul (by rw [Nat.mul_comm]; exact hn)
      have ih := dEnc_go es ef f (n / 128) (i + 1) (s + n % 128 * 128 ^ i) rest hq (by omega) (Or.inr (by omega)) (by omega)
      rw [List.cons_append]
      unfold dGo
      rw [e, show (n % 128 + 128) % 128 = n % 128 by omega, if_neg (by omega), if_neg (by omega), ih]
      simp only [List.length_cons]
      congr 2
      · omega
      · omega
    · rw [if_neg h]
      exact dGo_last es ef (by omega) hz hm
theorem dGo_enc (es ef : Int) : ∀ (b : List UInt8) (i s m k : Nat), i ≤ 4 → dGo es ef b i s = .ok (m, k) →
    ∃ n, m = s + n * 128 ^ i ∧ (i = 0 ∨ 0 < n) ∧ b.take (k - i) = dEnc (4 - i) n ∧ i < k ∧ k - i ≤ b.length ∧ m ≤ 4294967295
  | [], i, s, m, k, _, h => by cases h
  | x :: r, i, s, m, k, hi, h => by
    have hx : x.toNat < 256 := x.toNat_lt
    have hxe : UInt8.ofNat x.toNat = x := by
      apply UInt8.toNat_inj.1
      exact u8_of _ hx
    unfold dGo at h
    split at h
    · cases h
    · rename_i hg
      split at h
      · rename_i hl
        cases h
        refine ⟨x.toNat, by rw [Nat.mod_eq_of_lt hl], by omega, ?_, by omega, by simp, by omega⟩
        rw [show i + 1 - i = 1 by omega]
        have e : dEnc (4 - i) x.toNat = [UInt8.ofNat x.toNat] := by
          cases h4 : 4 - i with
          | zero => rfl
          | succ f => unfold dEnc; rw [if_neg (by omega)]
        rw [e, hxe]
        rfl
      · rename_i hl
        have hi4 : i ≠ 4 := fun c => hg (Or.inr (Or.inl ⟨by omega, c⟩))
        obtain ⟨n, h1, h2, h3, h4, h5, h6⟩ := dGo_enc es ef r (i + 1) _ m k (by omega) h
        refine ⟨x.toNat % 128 + 128 * n, ?_, by omega, ?_, by omega, by simp only [List.length_cons]; omega, h6⟩
        · rw [h1, Nat.pow_succ, Nat.add_mul, Nat.add_assoc]
          congr 2
          rw [Nat.mul_comm 128 n, Nat.mul_assoc, Nat.mul_comm 128 (128 ^ i)]
        · obtain ⟨f, hf⟩ : ∃ f, 4 - i = f + 1 := ⟨3 - i, by omega⟩
          rw [hf]
          unfold dEnc
          have hn : 0 < n := by omega
          rw [if_pos (by omega), show (x.toNat % 128 + 128 * n) % 128 + 128 = x.toNat by omega, hxe, show (x.toNat % 128 + 128 * n) / 128 = n by omega]
          rw [show 4 - (i + 1) = f by omega, show k - (i + 1) = k - i - 1 by omega] at h3
          obtain ⟨j, hj⟩ : ∃ j, k - i = j + 1 := ⟨k - i - 1, by omega⟩
          rw [hj] at h3 ⊢
          rw [List.take_succ_cons, ← h3]
          rfl
theorem dEnc_len : ∀ (f n : Nat), 1 ≤ (dEnc f n).length ∧ (dEnc f n).length ≤ f + 1
  | 0, n => by simp [dEnc]
  | f + 1, n => by
    have ih := dEnc_len f (n / 128)
    unfold dEnc
    split
    · simp only [List.length_cons]; omega
    · simp
/-- A number at the beginning of bytes. -/
def deltaL (es ef : Int) (b : List UInt8) : Except Int (Nat × Nat) := dGo es ef b 0 0
def encL (n : Nat) : List UInt8 := dEnc 4 n
theorem delta_enc (es ef : Int) (n : Nat) (rest : List UInt8) (hn : n ≤ 4294967295) : deltaL es ef (encL n ++ rest) = .ok (n, (encL n).length) := by
  have := dEnc_go es ef 4 n 0 0 rest (by omega) rfl (Or.inl rfl) (by omega)
  unfold deltaL encL
  rw [this]
  simp
theorem enc_delta (es ef : Int) {b : List UInt8} {m k : Nat} (h : deltaL es ef b = .ok (m, k)) : b.take k = encL m ∧ k ≤ b.length ∧ 0 < k ∧ m ≤ 4294967295 := by
  obtain ⟨n, h1, _, h3, h4, h5, h6⟩ := dGo_enc es ef b 0 0 m k (by omega) h
  have e : m = n := by rw [h1]; simp
  subst e
  exact ⟨by simpa [encL] using h3, by omega, h4, h6⟩
end Go.Proofs.YtglhnmbfkbjemaaDoor
