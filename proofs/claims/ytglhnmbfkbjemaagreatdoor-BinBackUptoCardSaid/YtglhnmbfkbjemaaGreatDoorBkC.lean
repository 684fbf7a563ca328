/- slices.ContainsFunc at the closures of raw.May. -/
import Derived.Test.YtglhnmbfkbjemaaGreatDoorLib
import Derived.Test.YtglhnmbfkbjemaaGreatDoorBkA
import Derived.Laws.BitsAllLaws
import Derived.Laws.BitsLemmas
import Derived.Laws.Bits64b
import Derived.Test.YtglhnmbfkbjemaaGreatDoorBkB
import Derived.Shelf.Bytes.SlIndexAt
/- Deltas on plain lists: what is written is read, and what is read was written so. -/
namespace Go.Proofs.YtglhnmbfkbjemaaGreatDoor
def dGo (es ef : Int) : List UInt8 → Nat → Nat → Except Int (Nat × Nat)
  | [], _, _ => .error es
  | x :: r, i, s =>
    if 4294967295 < s + x.toNat % 128 * 128 ^ i ∨ (128 ≤ x.toNat ∧ i = 4) ∨ (x.toNat = 0 ∧ 0 < i) then .error ef
    else if x.toNat < 128 then .ok (s + x.toNat % 128 * 128 ^ i, i + 1) else dGo es ef r (i + 1) (s + x.toNat % 128 * 128 ^ i)
def dEnc : Nat → Nat → List UInt8
  | 0, n => [UInt8.ofNat n]
  | f + 1, n => if 128 ≤ n then UInt8.ofNat (n % 128 + 128) :: dEnc f (n / 128) else [UInt8.ofNat n]
theorem u8_of (n : Nat) (h : n < 256) : (UInt8.ofNat n).toNat = n := by
  rw [UInt8.toNat_ofNat']
  omega
theorem dGo_last (es ef : Int) {n i s : Nat} {rest : List UInt8} (hn : n < 128) (hz : i = 0 ∨ 0 < n) (hm : s + n * 128 ^ i ≤ 4294967295) : dGo es ef (UInt8.ofNat n :: rest) i s = .ok (s + n * 128 ^ i, i + 1) := by
  have e := u8_of n (by omega)
  unfold dGo
  rw [e, Nat.mod_eq_of_lt hn, if_neg (by omega), if_pos hn]
theorem dEnc_go (es ef : Int) : ∀ (f n i s : Nat) (rest : List UInt8), n < 128 ^ (f + 1) → i + f = 4 → (i = 0 ∨ 0 < n) → s + n * 128 ^ i ≤ 4294967295 →
    dGo es ef (dEnc f n ++ rest) i s = .ok (s + n * 128 ^ i, i + (dEnc f n).length)
  | 0, n, i, s, rest, hn, _, hz, hm => dGo_last es ef (by simpa using hn) hz hm
  | f + 1, n, i, s, rest, hn, hf, hz, hm => by
    unfold dEnc
    by_cases h : 128 ≤ n
    · rw [if_pos h]
      have e := u8_of (n % 128 + 128) (by omega)
      have hp : n * 128 ^ i = n % 128 * 128 ^ i + n / 128 * 128 ^ (i + 1) := by
        have hd : n = n % 128 + 128 * (n / 128) := by omega
        rw [Nat.pow_succ]
        calc n * 128 ^ i = (n % 128 + 128 * (n / 128)) * 128 ^ i := by rw [← hd]
          _ = n % 128 * 128 ^ i + n / 128 * (128 ^ i * 128) := by rw [Nat.add_mul, Nat.mul_comm 128 (n / 128), Nat.mul_assoc, Nat.mul_comm 128 (128 ^ i)]
      have hq : n / 128 < 128 ^ (f + 1) := by
        rw [Nat.pow_succ] at hn
        exact Nat.div_lt_of_lt_mul (by rw [Nat.mul_comm]; exact hn)
      have ih := dEnc_go es ef f (n / 128) (i + 1) (s + n % 128 * 128 ^ i) rest hq (by omega) (Or.inr (by omega)) (by omega)
      rw [List.cons_append]
      unfold dGo
      rw [e, show (n % 128 + 128) % 128 = n % 128 by omega, if_neg (by omega), if_neg (by omega), ih]
      simp only [List.length_cons]
      congr 2
      · omega
      · omega
    · rw [if_neg h]
      exact dGo_last es ef (by omega) hz hm
theorem dGo_enc (es ef : Int) : ∀ (b : List UInt8) (i s m k : Nat), i ≤ 4 → dGo es ef b i s = .ok (m, k) →
    ∃ n, m = s + n * 128 ^ i ∧ (i = 0 ∨ 0 < n) ∧ b.take (k - i) = dEnc (4 - i) n ∧ i < k ∧ k - i ≤ b.length ∧ m ≤ 4294967295
  | [], i, s, m, k, _, h => by cases h
  | x :: r, i, s, m, k, hi, h => by
    have hx : x.toNat < 256 := x.toNat_lt
    have hxe : UInt8.ofNat x.toNat = x := by
      apply UInt8.toNat_inj.1
      exact u8_of _ hx
    unfold dGo at h
    split at h
    · cases h
    · rename_i hg
      split at h
      · rename_i hl
        cases h
        refine ⟨x.toNat, by rw [Nat.mod_eq_of_lt hl], by omega, ?_, by omega, by simp, by omega⟩
        rw [show i + 1 - i = 1 by omega]
        have e : dEnc (4 - i) x.toNat = [UInt8.ofNat x.toNat] := by
          cases h4 : 4 - i with
          | zero => rfl
          | succ f => unfold dEnc; rw [if_neg (by omega)]
        rw [e, hxe]
        rfl
      · rename_i hl
        have hi4 : i ≠ 4 := fun c => hg (Or.inr (Or.inl ⟨by omega, c⟩))
        obtain ⟨n, h1, h2, h3, h4, h5, h6⟩ := dGo_enc es ef r (i + 1) _ m k (by omega) h
        refine ⟨x.toNat % 128 + 128 * n, ?_, by omega, ?_, by omega, by simp only [List.length_cons]; omega, h6⟩
        · rw [h1, Nat.pow_succ, Nat.add_mul, Nat.add_assoc]
          congr 2
          rw [Nat.mul_comm 128 n, Nat.mul_assoc, Nat.mul_comm 128 (128 ^ i)]
        · obtain ⟨f, hf⟩ : ∃ f, 4 - i = f + 1 := ⟨3 - i, by omega⟩
          rw [hf]
          unfold dEnc
          have hn : 0 < n := by omega
          rw [if_pos (by omega), show (x.toNat % 128 + 128 * n) % 128 + 128 = x.toNat by omega, hxe, show (x.toNat % 128 + 128 * n) / 128 = n by omega]
          rw [show 4 - (i + 1) = f by omega, show k - (i + 1) = k - i - 1 by omega] at h3
          obtain ⟨j, hj⟩ : ∃ j, k - i = j + 1 := ⟨k - i - 1, by omega⟩
          rw [hj] at h3 ⊢
          rw [List.take_succ_cons, ← h3]
          rfl
theorem dEnc_len : ∀ (f n : Nat), 1 ≤ (dEnc f n).length ∧ (dEnc f n).length ≤ f + 1
  | 0, n => by simp [dEnc]
  | f + 1, n => by
    have ih := dEnc_len f (n / 128)
    unfold dEnc
    split
    · simp only [List.length_cons]; omega
    · simp
def deltaL (es ef : Int) (b : List UInt8) : Except Int (Nat × Nat) := dGo es ef b 0 0
def encL (n : Nat) : List UInt8 := dEnc 4 n
theorem delta_enc (es ef : Int) (n : Nat) (rest : List UInt8) (hn : n ≤ 4294967295) : deltaL es ef (encL n ++ rest) = .ok (n, (encL n).length) := by
  have := dEnc_go es ef 4 n 0 0 rest (by omega) rfl (Or.inl rfl) (by omega)
  unfold deltaL encL
  rw [this]
  simp
theorem enc_delta (es ef : Int) {b : List UInt8} {m k : Nat} (h : deltaL es ef b = .ok (m, k)) : b.take k = encL m ∧ k ≤ b.length ∧ 0 < k ∧ m ≤ 4294967295 := by
  obtain ⟨n, h1, _, h3, h4, h5, h6⟩ := dGo_enc es ef b 0 0 m k (by omega) h
  have e : m = n := by rw [h1]; simp
  subst e
  exact ⟨by simpa [encL] using h3, by omega, h4, h6⟩
end Go.Proofs.YtglhnmbfkbjemaaGreatDoor
/- bin.delta, by its contract. -/
namespace Go.Proofs.YtglhnmbfkbjemaaGreatDoor
open Go Go.RowKit Go.Joins
theorem andNot128 (x : Nat) (h : x < 256) : bits .andNot .u8 (x : Int) 128 = ((x % 128 : Nat) : Int) := by
  have h1 := u8_andNot_nat x 128 h (by omega)
  rw [show ((128 : Nat) : Int) = 128 by rfl] at h1
  rw [h1]
  have h2 : x &&& (255 - 128) = x % 128 := Nat.and_two_pow_sub_one_eq_mod x 7
  rw [h2]
def DeltaPost (b : List UInt8) (w : World) (e : Ending) (w' : World) : Prop :=
  w' = w ∧ match deltaL 4 5 b with
    | .ok (m, k) => e = .returned (.tuple #[.int .u32 (m : Int), .int .i64 (k : Int), .int .i64 0])
    | .error er => e = .returned (.tuple #[.int .u32 0, .int .i64 0, .int .i64 er])
set_option maxRecDepth 100000 in
set_option maxHeartbeats 1600000 in
theorem delta_any (bs : List UInt8) (a : Option Addr) (n c : Nat) (w : World) (h : Sees w a n c (bs.map bv)) (hn : n ≤ 140737488355328) :
    Calls Tryz.prog 38 #[.slice a n c] w (DeltaPost bs w) := by
  have HL := Lib.hid h.lenMap
  have HS := Lib.hid h
  clear h
  go_enter Tryz.func38, Tryz.ntmps38
  go_wp2
  go_loop [5, 6, 7, 8, 11, 26, 40] (fun s _ _ _ i _ _ => ∃ k sm : Nat, k ≤ n ∧ k ≤ 4 ∧ i = .int .i64 k ∧ s = .int .u64 sm ∧ Hid (sm < 128 ^ k) ∧ Hid (deltaL 4 5 bs = dGo 4 5 (bs.drop k) k sm)) (fun _ _ _ _ i _ _ => n - (intOf i).toNat)
  case atStart => exact ⟨0, 0, Nat.zero_le _, by omega, rfl, rfl, by simp [Hid], by simp [Hid, deltaL]⟩
  case round =>
    obtain ⟨k, sm, hk, hk4, rfl, rfl, hsm, hd⟩ := hrel
    by_cases hlt : k < n
    · obtain ⟨b, off, rfl, hbw⟩ := HS.out.addr (by omega)
      have hcx := HS.out.byte k hlt
      obtain ⟨x, hx⟩ : ∃ x, x = (bs.getD k 0).toNat := ⟨_, rfl⟩
      have hx256 : x < 256 := by rw [hx]; exact (bs.getD k 0).toNat_lt
      have hcx2 : w.cell? ⟨b, off + k, none⟩ = some (.int .u8 (x : Int)) := by rw [hx]; exact hcx
      have hdr : bs.drop k = UInt8.ofNat x :: bs.drop (k + 1) := by
        rw [List.drop_eq_getElem_cons (by rw [HL.out]; exact hlt)]
        congr 1
        rw [hx]
        simp [List.getD, List.getElem?_eq_getElem (show k < bs.length by rw [HL.out]; exact hlt)]
      obtain ⟨y, hy⟩ : ∃ y, y = x % 128 := ⟨_, rfl⟩
      obtain ⟨p, hp⟩ : ∃ p, p = y * 128 ^ k := ⟨_, rfl⟩
      obtain ⟨t, ht⟩ : ∃ t, t = sm + p := ⟨_, rfl⟩
      have hy128 : y < 128 := by omega
      have hpw : 128 ^ k ≤ 128 ^ 4 := Nat.pow_le_pow_right (by omega) hk4
      have hp9 : p ≤ 127 * 128 ^ 4 := by
        rw [hp]
        exact Nat.mul_le_mul (by omega) hpw
      have hsm9 := hsm.out
      have hpk : ((128 ^ k : Nat) : Int) = 2 ^ (7 * k) := by
        rw [Int.pow_mul]
        norm_cast
      have hdd : deltaL 4 5 bs = if 4294967295 < t ∨ (128 ≤ x ∧ k = 4) ∨ (x = 0 ∧ 0 < k) then .error 5 else if x < 128 then .ok (t, k + 1) else dGo 4 5 (bs.drop (k + 1)) (k + 1) t := by
        rw [hd.out, hdr, dGo, u8_of x hx256, ht, hp, hy]
      have ht2 : t < 128 ^ (k + 1) := by
        have h1 : p + 128 ^ k ≤ 128 * 128 ^ k := by
          have h2 : (y + 1) * 128 ^ k ≤ 128 * 128 ^ k := Nat.mul_le_mul (by omega) (Nat.le_refl _)
          rw [Nat.add_mul, Nat.one_mul] at h2
          rw [hp]; exact h2
        rw [Nat.pow_succ, Nat.mul_comm (128 ^ k) 128]
        omega
      have A1 : bits .andNot .u8 (x : Int) 128 = (y : Int) := by rw [andNot128 x hx256, hy]
      have A2 : IntKind.u64.wrap (y : Int) = (y : Int) := by rw [IntKind.wrap_u64]; omega
      have A3 : IntKind.u64.wrap ((y : Int) * 2 ^ (7 * k)) = (p : Int) := by
        rw [← hpk, ← Int.natCast_mul, ← hp, IntKind.wrap_u64]
        omega
      have A4 : bits .or .u64 (sm : Int) (p : Int) = (t : Int) := by
        rw [bits_or_u64_nat sm p (by omega) (by omega), ht]
        congr 1
        rw [hp, Nat.mul_comm y, show 128 ^ k = 2 ^ (7 * k) by rw [Nat.pow_mul], Nat.or_comm, ← Nat.two_pow_add_eq_or_of_lt (by rw [Nat.pow_mul]; exact hsm9), Nat.add_comm]
      have ht9 : t < 18446744073709551616 := by omega
      have HT2 := Lib.hid ht2
      have HDD := Lib.hid hdd
      have W1 : IntKind.i64.wrap ((k : Int) + 1) = (k : Int) + 1 := IntWalk.i64_in _ (by omega)
      clear hcx hx hdr hy hp ht hpw hp9 hsm9 hpk hdd ht2 hsm hd
      by_cases c1 : 4294967295 < t
      · have e1 : decide ((4294967295 : Int) < (t : Int)) = true := by simp; omega
        have HE : Hid (deltaL 4 5 bs = .error 5) := by show _ = _; rw [HDD.out, if_pos (Or.inl c1)]
        clear c1
        go_wp2
        all_goals go_ret3
        all_goals exact ⟨rfl, by rw [HE.out]; rfl⟩
      have e1 : decide ((4294967295 : Int) < (t : Int)) = false := by simp; omega
      have T1 : IntKind.u32.wrap (t : Int) = (t : Int) := IntWalk.u32_in _ (by omega)
      by_cases c2 : 128 ≤ x
      · have e2 : decide ((128 : Int) ≤ (x : Int)) = true := by simp; omega
        by_cases c3 : k = 4
        · have e3 : ((k : Int) == 4) = true := by simp; omega
          have HE : Hid (deltaL 4 5 bs = .error 5) := by show _ = _; rw [HDD.out, if_pos (Or.inr (Or.inl ⟨c2, c3⟩))]
          clear c1 c2 c3
          go_wp2
          go_ret3
          exact ⟨rfl, by rw [HE.out]; rfl⟩
        · have e3 : ((k : Int) == 4) = false := by simp; omega
          have e4 : ((x : Int) == 0) = false := by simp; omega
          have HE : Hid (deltaL 4 5 bs = dGo 4 5 (bs.drop (k + 1)) (k + 1) t) := by show _ = _; rw [HDD.out, if_neg (by omega), if_neg (by omega)]
          have hk5 : k + 1 ≤ 4 := by omega
          clear c1 c2 c3
          go_wp2
          go_round
          case rel => exact ⟨k + 1, t, by omega, hk5, by go_num, rfl, HT2.out, HE.out⟩
          case measure => simp [intOf]; omega
      · have e2 : decide ((128 : Int) ≤ (x : Int)) = false := by simp; omega
        by_cases c4 : x = 0 ∧ 0 < k
        · have e4 : ((x : Int) == 0) = true := by simp; omega
          have e5 : decide ((0 : Int) < (k : Int)) = true := by simp; omega
          have e6 : decide (0 < k) = true := decide_eq_true c4.2
          have e7 : (0 < k) = True := eq_true c4.2
          have e8 : (x = 0) = True := eq_true c4.1
          have HE : Hid (deltaL 4 5 bs = .error 5) := by show _ = _; rw [HDD.out, if_pos (Or.inr (Or.inr c4))]
          clear c1 c2 c4
          go_wp2
          go_ret3
          exact ⟨rfl, by rw [HE.out]; rfl⟩
        · have HE : Hid (deltaL 4 5 bs = .ok (t, k + 1)) := by show _ = _; rw [HDD.out, if_neg (by omega), if_pos (by omega)]
          by_cases c5 : x = 0
          · have e4 : ((x : Int) == 0) = true := by simp; omega
            have e6 : decide (0 < k) = false := decide_eq_false (by omega)
            have e7 : (0 < k) = False := eq_false (by omega)
            have e8 : (x = 0) = True := eq_true c5
            clear c1 c2 c4 c5
            go_wp2
            go_ret3
            exact ⟨rfl, by rw [HE.out]; rfl⟩
          · have e4 : ((x : Int) == 0) = false := by simp; omega
            clear c1 c2 c4 c5
            go_wp2
            go_ret3
            exact ⟨rfl, by rw [HE.out]; rfl⟩
    · obtain rfl : n = k := by omega
      have HE : Hid (deltaL 4 5 bs = .error 4) := by
        show _ = _
        rw [hd.out, List.drop_of_length_le (by rw [HL.out]; exact Nat.le_refl _)]
        rfl
      clear hd hsm
      go_wp2
      go_ret3
      exact ⟨rfl, by rw [HE.out]; rfl⟩
end Go.Proofs.YtglhnmbfkbjemaaGreatDoor
/- The words of a line, on plain lists. -/
namespace Go.Proofs.YtglhnmbfkbjemaaGreatDoor
open Go Go.RowKit
def splitW : List UInt8 → List (List UInt8)
  | [] => [[]]
  | x :: r => if x = 32 then [] :: splitW r else match splitW r with
    | [] => [[x]]
    | h :: t => (x :: h) :: t
def wordsOf (l : List UInt8) : Option (List (List UInt8)) :=
  if l = [] then some [] else if (splitW l).any List.isEmpty then none else some (splitW l)
theorem splitW_ne : ∀ l, splitW l ≠ []
  | [] => by simp [splitW]
  | x :: r => by
    rw [splitW]
    split
    · simp
    · split <;> simp
theorem splitW_last : ∀ (l : List UInt8), (∀ x ∈ l, x ≠ 32) → splitW l = [l]
  | [], _ => rfl
  | x :: r, h => by
    have ih := splitW_last r (fun y hy => h y (by simp [hy]))
    rw [splitW, if_neg (h x (by simp)), ih]
theorem splitW_step : ∀ (l r : List UInt8), (∀ x ∈ l, x ≠ 32) → splitW (l ++ 32 :: r) = l :: splitW r
  | [], r, _ => by simp [splitW]
  | x :: l, r, h => by
    have ih := splitW_step l r (fun y hy => h y (by simp [hy]))
    rw [List.cons_append, splitW, if_neg (h x (by simp)), ih]
structure WInv (l : List UInt8) (k s : Nat) (W : List (List UInt8)) : Prop where
  done : splitW l = W ++ splitW (l.drop s)
  full : ∀ u ∈ W, u ≠ []
  free : ∀ m, s ≤ m → m < k → l.getD m 0 ≠ 32
  few : W.length ≤ k
theorem WInv.init (l : List UInt8) : WInv l 0 0 [] := ⟨rfl, by simp, fun m _ h => absurd h (by omega), Nat.le_refl _⟩
theorem window_free {l : List UInt8} {k s : Nat} (hk : k ≤ l.length) (h : ∀ m, s ≤ m → m < k → l.getD m 0 ≠ 32) : ∀ x ∈ (l.take k).drop s, x ≠ 32 := by
  intro x hx
  obtain ⟨j, hj, rfl⟩ := List.getElem_of_mem hx
  have hj' : s + j < k := by simp at hj; omega
  have := h (s + j) (by omega) hj'
  simp only [List.getElem_drop, List.getElem_take]
  simpa [List.getD, List.getElem?_eq_getElem (show s + j < l.length by omega)] using this
theorem drop_at {l : List UInt8} {k s : Nat} (hsk : s ≤ k) (hk : k < l.length) : l.drop s = (l.take k).drop s ++ l.getD k 0 :: l.drop (k + 1) := by
  have h1 : l = l.take k ++ l.drop k := (List.take_append_drop k l).symm
  have h2 : l.drop k = l.getD k 0 :: l.drop (k + 1) := by
    rw [List.drop_eq_getElem_cons hk]
    simp [List.getD, List.getElem?_eq_getElem hk]
  have hl : (l.take k).length = k := by simp; omega
  conv => lhs; rw [h1, List.drop_append_of_le_length (by omega), h2]
theorem WInv.next {l : List UInt8} {k s : Nat} {W : List (List UInt8)} (h : WInv l k s W) (h32 : l.getD k 0 ≠ 32) : WInv l (k + 1) s W := by
  refine ⟨h.done, h.full, fun m h1 h2 => ?_, by have := h.few; omega⟩
  rcases Nat.lt_or_ge m k with h' | h'
  · exact h.free m h1 h'
  · have : m = k := by omega
    subst this; exact h32
theorem WInv.word {l : List UInt8} {k s : Nat} {W : List (List UInt8)} (h : WInv l k s W) (hk : k < l.length) (hs : s < k) (h32 : l.getD k 0 = 32) : WInv l (k + 1) (k + 1) (W ++ [(l.take k).drop s]) := by
  refine ⟨?_, ?_, fun m h1 h2 => absurd h1 (by omega), by have := h.few; simp; omega⟩
  · rw [h.done, drop_at (Nat.le_of_lt hs) hk, h32, splitW_step _ _ (window_free (Nat.le_of_lt hk) h.free)]
    simp
  · intro u hu
    rcases List.mem_append.1 hu with hu | hu
    · exact h.full u hu
    · have : u = (l.take k).drop s := by simpa using hu
      subst this
      intro e
      have := congrArg List.length e
      simp at this
      omega
theorem any_empty {W V : List (List UInt8)} (h : ∀ u ∈ W, u ≠ []) : (W ++ V).any List.isEmpty = V.any List.isEmpty := by
  rw [List.any_append]
  have : W.any List.isEmpty = false := by
    rw [List.any_eq_false]
    intro x hx
    have := h x hx
    simpa using this
  rw [this, Bool.false_or]
theorem WInv.blank {l : List UInt8} {k s : Nat} {W : List (List UInt8)} (h : WInv l k s W) (hk : s < l.length) (h32 : l.getD s 0 = 32) : wordsOf l = none := by
  have hne : l ≠ [] := by intro e; subst e; simp at hk
  unfold wordsOf
  rw [if_neg hne, if_pos]
  rw [h.done, any_empty h.full, drop_at (Nat.le_refl s) hk, h32]
  simp [splitW]
theorem WInv.short {l : List UInt8} {k : Nat} {W : List (List UInt8)} (h : WInv l k l.length W) (hne : l ≠ []) : wordsOf l = none := by
  unfold wordsOf
  rw [if_neg hne, if_pos]
  rw [h.done, any_empty h.full]
  simp [splitW]
theorem WInv.last {l : List UInt8} {s : Nat} {W : List (List UInt8)} (h : WInv l l.length s W) (hs : s < l.length) : wordsOf l = some (W ++ [l.drop s]) := by
  have hne : l ≠ [] := by intro e; subst e; simp at hs
  have hf := window_free (Nat.le_refl _) h.free
  rw [List.take_length] at hf
  have e : splitW l = W ++ [l.drop s] := by rw [h.done, splitW_last _ hf]
  unfold wordsOf
  rw [if_neg hne, e, if_neg]
  rw [any_empty h.full]
  simp
  omega
theorem WInv.begin {l : List UInt8} {s : Nat} {W : List (List UInt8)} (h : WInv l l.length s W) (hs : s < l.length) : l.getD s 0 ≠ 32 := h.free s (Nat.le_refl _) hs
theorem splitW_size : ∀ (l : List UInt8), (splitW l).length ≤ l.length + 1 ∧ ∀ x ∈ splitW l, x.length ≤ l.length
  | [] => by simp [splitW]
  | x :: r => by
    have ⟨h1, h2⟩ := splitW_size r
    rw [splitW]
    split
    · refine ⟨by simp; omega, fun y hy => ?_⟩
      rcases List.mem_cons.1 hy with rfl | hy
      · simp
      · have := h2 y hy; simp; omega
    · split
      · exact ⟨by simp, fun y hy => by simp at hy; subst hy; simp⟩
      · rename_i h t he
        rw [he] at h1 h2
        refine ⟨by simp only [List.length_cons] at h1 ⊢; omega, fun y hy => ?_⟩
        rcases List.mem_cons.1 hy with rfl | hy
        · have := h2 h (by simp); simp; omega
        · have := h2 y (by simp [hy]); simp; omega
theorem wordsOf_size {l : List UInt8} {W : List (List UInt8)} (h : wordsOf l = some W) : W.length ≤ l.length + 1 ∧ ∀ x ∈ W, x.length ≤ l.length := by
  unfold wordsOf at h
  split at h
  · have : W = [] := by simpa using h.symm
    subst this; simp
  · split at h
    · cases h
    · have : W = splitW l := by simpa using h.symm
      subst this
      exact splitW_size l
end Go.Proofs.YtglhnmbfkbjemaaGreatDoor
/- lex.Line, by its contract. -/
namespace Go.Proofs.YtglhnmbfkbjemaaGreatDoor
open Go Go.RowKit
def ahead (bs : List UInt8) : Nat := (bs.takeWhile (fun u => u != 10)).length
theorem ahead_at (bs : List UInt8) (k : Nat) (hk : k < bs.length) (hno : ∀ m, m < k → bs.getD m 0 ≠ 10) (h10 : bs.getD k 0 = 10) : ahead bs = k := by
  induction bs generalizing k with
  | nil => simp at hk
  | cons x r ih =>
    cases k with
    | zero => simp [List.getD] at h10; simp [ahead, h10]
    | succ k =>
      have h0 : x ≠ 10 := by have := hno 0 (by omega); simpa [List.getD] using this
      have := ih k (by simpa using hk) (fun m hm => by have := hno (m + 1) (by omega); simpa [List.getD] using this) (by simpa [List.getD] using h10)
      unfold ahead at this ⊢
      rw [List.takeWhile_cons]
      simp [h0, this]
theorem ahead_none (bs : List UInt8) (hno : ∀ m, m < bs.length → bs.getD m 0 ≠ 10) : ahead bs = bs.length := by
  induction bs with
  | nil => rfl
  | cons x r ih =>
    have h0 : x ≠ 10 := by have := hno 0 (by simp); simpa [List.getD] using this
    have := ih (fun m hm => by have := hno (m + 1) (by simpa using hm); simpa [List.getD] using this)
    unfold ahead at this ⊢
    rw [List.takeWhile_cons]
    simp [h0, this]
def LinePost (bs : List UInt8) (n : Nat) (w : World) (e : Ending) (w' : World) : Prop :=
  (ahead bs < n ∧ ∃ v1 v2, e = .returned (.tuple #[v1, v2, .int .i64 0]) ∧ Row isByte w' w.heap.size 5 v1 (ahead bs) ((bs.take (ahead bs)).map bv) ∧
    Row isByte w' w.heap.size 5 v2 (n - (ahead bs + 1)) ((bs.drop (ahead bs + 1)).map bv) ∧ Below w.heap.size w w') ∨
  (ahead bs = n ∧ e = .returned (.tuple #[.slice none 0 0, .slice none 0 0, .int .i64 4]) ∧ Below w.heap.size w w')
theorem size_u8 : ∀ w, (sizeOf 5).run Tryz.prog w = .ok 1 w := fun w => by
  obtain ⟨i0, hi, hz0, hz1, hz2⟩ := info_parts info_u8
  simp [sizeOf, typeInfo, hi, hz1]
set_option maxRecDepth 100000 in
set_option maxHeartbeats 800000 in
theorem line_any (bs : List UInt8) (a : Option Addr) (n c : Nat) (w : World) (h : Sees w a n c (bs.map bv)) (hn : n ≤ 1000000000) :
    Calls Tryz.prog 51 #[.slice a n c] w (LinePost bs n w) := by
  have hcn := h.cap
  have hbl : bs.length = n := by have := h.len; simpa using this
  have HS : Hid (Sees w a n c (bs.map bv)) := h
  have HL : Hid (bs.length = n) := hbl
  clear h hbl
  go_enter Tryz.func51, Tryz.ntmps51
  go_wp2
  go_loop [5, 6, 9] (fun i x j => ∃ k : Nat, k ≤ n ∧ j = .int .i64 k ∧ Hid (∀ m, m < k → bs.getD m 0 ≠ 10)) (fun _ _ j => n - (intOf j).toNat)
  case atStart => exact ⟨0, Nat.zero_le _, rfl, fun m hm => absurd hm (by omega)⟩
  case round =>
    obtain ⟨k, hk, rfl, hno⟩ := hrel
    by_cases hlt : k < n
    · obtain ⟨b, off, ea, hbw⟩ := HS.out.addr (by omega)
      have HS2 := HS.out
      rw [ea] at HS2 ⊢
      have hcx := HS2.byte k hlt
      obtain ⟨a1, ec1, see1⟩ := HS2.cut 0 k (Nat.zero_le _) hk
      obtain ⟨a2, ec2, see2⟩ := HS2.cut (k + 1) n (by omega) (Nat.le_refl _)
      have q1 := fun W => (run_upto (P := Tryz.prog) Tryz.underlying27 size_u8 W (some ⟨b, off, none⟩) n c k (k : Int) rfl (by omega)).trans (congrArg (fun v => Result.ok v W) ec1)
      have q2 := fun W => (run_from (P := Tryz.prog) Tryz.underlying27 size_u8 W (some ⟨b, off, none⟩) n c (k + 1) ((k : Int) + 1) (by omega) (by omega)).trans (congrArg (fun v => Result.ok v W) ec2)
      clear ec1 ec2
      have S1 : Hid (Sees w a1 k c ((bs.take k).map bv)) := by rw [List.map_take]; exact see1
      have S2 : Hid (Sees w a2 (n - (k + 1)) (c - (k + 1)) ((bs.drop (k + 1)).map bv)) := by
        have e : (List.map bv bs).take n = List.map bv bs := List.take_of_length_le (by rw [HS.out.len]; exact Nat.le_refl _)
        rw [e, ← List.map_drop] at see2
        exact see2
      clear see1 see2 HS2
      have W1 : IntKind.i64.wrap ((k : Int) + 1) = (k : Int) + 1 := IntWalk.i64_in _ (by omega)
      go_wp2
      · go_region_with (first
          | (go_at_call 39; (with_reducible refine (clone_from w (bs.take k) a1 k c w.drew S1.out ((Below.refl _ w).drew) (by omega)).mono ?_); rintro e w1 ⟨v1, rfl, r1, b1⟩; have b1' : Below w.heap.size w w1 := ((Below.refl _ w).drew).trans b1)
          | (go_at_call 39; (with_reducible refine (clone_from w (bs.drop (k + 1)) a2 (n - (k + 1)) (c - (k + 1)) w1 S2.out b1' (by omega)).mono ?_); rintro e w2 ⟨v2, rfl, r2, b2⟩))
        have h10 : ((bs[k]?.getD 0).toNat : Int) = 10 := by have := ‹((bs[k]?.getD 0).toNat : Int) == 10› ; simpa using this
        have hk10 : bs.getD k 0 = 10 := by
          have : (bs.getD k 0).toNat = 10 := by simp only [List.getD]; omega
          exact UInt8.toNat_inj.1 this
        have ea : ahead bs = k := ahead_at bs k (by rw [HL.out]; exact hlt) hno hk10
        have R1 := Lib.hid r1
        have R2 := Lib.hid r2
        clear r1 r2
        go_wp2
        go_ret3
        refine Or.inl ⟨by omega, v1, v2, rfl, ?_, ?_, b1'.trans (b2.mono b1'.size)⟩
        · rw [ea]; exact (R1.out.below b2).base_le (by simp)
        · rw [ea]; exact R2.out.base_le b1'.size
      · go_round
        case rel =>
          have hne : bs.getD k 0 ≠ 10 := by
            have hf : (((bs[k]?.getD 0).toNat : Int) == 10) = false := by assumption
            intro e
            simp only [List.getD] at e
            rw [e] at hf
            exact absurd hf (by decide)
          refine ⟨k + 1, by omega, by go_num, fun m hm => ?_⟩
          rcases Nat.lt_or_ge m k with h | h
          · exact hno m h
          · have : m = k := by omega
            subst this
            exact hne
        case measure => simp [intOf]; omega
    · go_wp2
      go_ret3
      have : k = n := by omega
      subst this
      exact Or.inr ⟨(ahead_none bs (by rw [HL.out]; exact hno)).trans HL.out, rfl, Below.refl _ _⟩
end Go.Proofs.YtglhnmbfkbjemaaGreatDoor
/- lex.Words, by its contract. -/
namespace Go.Proofs.YtglhnmbfkbjemaaGreatDoor
open Go Go.RowKit
theorem info_str : (Tryz.prog.info? 9).map (fun i => (i.zero, i.size, i.bytes)) = some (some (.string ByteArray.empty), 1, 16) := by kernel_rfl
def WordsPost (l : List UInt8) (w : World) (e : Ending) (w' : World) : Prop :=
  (wordsOf l = none ∧ e = .returned (.tuple #[.slice none 0 0, .int .i64 5]) ∧ Below w.heap.size w w') ∨
  (∃ W v, wordsOf l = some W ∧ e = .returned (.tuple #[v, .int .i64 0]) ∧ Row anyCell w' w.heap.size 9 v W.length (W.map sv) ∧ Below w.heap.size w w')
set_option maxRecDepth 100000 in
set_option maxHeartbeats 1600000 in
theorem words_any (bs : List UInt8) (a : Option Addr) (n c : Nat) (w : World) (h : Sees w a n c (bs.map bv)) (hn : n ≤ 1000000000) (h0 : 0 < n) :
    Calls Tryz.prog 86 #[.slice a n c] w (WordsPost bs w) := by
  obtain ⟨i0, hi, hz0, hz1, hz2⟩ := info_parts info_str
  have hcn := h.cap
  have hbl : bs.length = n := by have := h.len; simpa using this
  obtain ⟨b, off, rfl, hbw⟩ := h.addr h0
  have HS : Hid (Sees w (some ⟨b, off, none⟩) n c (bs.map bv)) := h
  have HL : Hid (bs.length = n) := hbl
  clear h hbl
  go_enter Tryz.func86, Tryz.ntmps86
  have hn0 : ((n : Int) == 0) = false := by simp; omega
  go_wp2
  go_step3
  go_wp2
  go_step3
  go_wp2
  go_loopw [4, 5, 6, 7, 13] (fun ws st _ _ j wr => ∃ (k s : Nat) (W : List (List UInt8)), k ≤ n ∧ s ≤ k ∧ j = .int .i64 k ∧ st = .int .i64 s ∧ Row anyCell wr w.heap.size 9 ws W.length (W.map sv) ∧ Below w.heap.size w wr ∧ Hid (WInv bs k s W))
    (fun _ _ _ _ j _ => n - (intOf j).toNat)
  case atStart => exact ⟨0, 0, [], Nat.zero_le _, Nat.le_refl _, rfl, rfl, Row.nil _ _ _ _, Below.refl _ _, WInv.init bs⟩
  case round =>
    obtain ⟨k, s, W, hk, hsk, rfl, rfl, hrow, hb, hinv⟩ := hrel
    have hfew := hinv.few
    have hlen := HL.out
    clear hlen
    by_cases hlt : k < n
    · have hsee := HS.out
      obtain ⟨x, hx⟩ : ∃ x : Nat, x = (bs.getD k 0).toNat := ⟨_, rfl⟩
      have hx256 : x < 256 := by rw [hx]; exact UInt8.toNat_lt _
      have hcx : wr.cell? ⟨b, off + k, none⟩ = some (.int .u8 (x : Int)) := by rw [hx]; exact (hb.cell (p := ⟨b, off + k, none⟩) hbw).trans (hsee.byte k hlt)
      have HX := Lib.hid hx
      clear hx
      by_cases h32 : x = 32
      · have e32 : bs.getD k 0 = 32 := UInt8.toNat_inj.1 (by rw [← HX.out, h32]; rfl)
        have E32 := Lib.hid e32
        clear e32
        subst h32
        by_cases hks : k = s
        · -- a word would be empty
          subst hks
          have he := hinv.blank (by rw [HL.out]; exact hlt) E32.out
          have HE := Lib.hid he
          clear he hsee
          go_wp2
          rw [Exit.noGoto_ret]
          go_ret2
          exact Or.inl ⟨HE.out, rfl, hb⟩
        · have hne : ((k : Int) == (s : Int)) = false := by simp; omega
          obtain ⟨a2, ec2, see2⟩ := hsee.cut s k hsk hk
          have q1 := fun W => (run_part (P := Tryz.prog) Tryz.underlying27 size_u8 W (some ⟨b, off, none⟩) n c s k (s : Int) (k : Int) rfl rfl hsk (by omega)).trans (congrArg (fun v => Result.ok v W) ec2)
          rw [← List.map_take, ← List.map_drop] at see2
          have q2 := (see2.below hb).str (P := Tryz.prog) 27 5 9 Tryz.underlying27 Tryz.underlying5 Tryz.underlying9
          clear ec2 see2 hsee
          have HR := Lib.hid hrow
          have HB := Lib.hid hb
          clear hrow hb
          go_wp2_with (at_builtin; refine wpList_append_row anyCell _ rfl _ _ 128 rfl w.heap.size 9 i0 (.string ByteArray.empty) 16 Tryz.underlying128 hi hz0 hz1 hz2 rfl trivial _ _ _ rfl (HR.out.below ((Below.refl _ _).alloc (Nat.le_refl _) _)) (some ⟨wr.heap.size, 0, none⟩) 1 1 [sv ((bs.take k).drop s)] rfl (sees_one _ _ _) (sv_one [_]) (fun _ _ => trivial) ?c4 ?c5 ?c6 ?_)
          case c4 => unfold maxLen; omega
          case c5 => omega
          case c6 => have := HB.out.size; simp; omega
          intro v' w1 hrow1 hgrow1 _
          have hlt1 := HR.out.own.lt
          have hb1 : Below w.heap.size w w1 := (HB.out.alloc (by have := HB.out.size; omega) _).grown hgrow1 (by have := HB.out.size; simp; omega) (fun k hk => (hlt1 k hk).1)
          clear hgrow1 hlt1
          go_wp2
          go_roundw
          case rel => exact ⟨k + 1, k + 1, W ++ [(bs.take k).drop s], by omega, by omega, by go_num, by go_num, by simpa using hrow1, hb1, hinv.word (by rw [HL.out]; exact hlt) (by omega) E32.out⟩
          case measure => simp [intOf]; omega
      · have hne : ((x : Int) == 32) = false := by simp; omega
        have hne' : ((x : Int) != 32) = true := by simp; omega
        clear hsee
        go_wp2
        go_roundw
        case rel => exact ⟨k + 1, s, W, by omega, by omega, by go_num, rfl, hrow, hb, hinv.next (by intro e; apply h32; rw [HX.out, e]; rfl)⟩
        case measure => simp [intOf]; omega
    · have hkn : k = n := by omega
      subst hkn
      have hne : bs ≠ [] := by intro e; have := HL.out; rw [e] at this; simp at this; omega
      have HN := Lib.hid hne
      clear hne
      by_cases hks : s = k
      · subst hks
        have he : wordsOf bs = none := WInv.short (W := W) (by have h := hinv; have hl := HL.out; rw [← hl] at h; exact h) HN.out
        have HE := Lib.hid he
        clear he
        go_wp2
        rw [Exit.noGoto_ret]
        go_ret2
        exact Or.inl ⟨HE.out, rfl, hb⟩
      · have hsl : s < k := by omega
        have hne : ((s : Int) == (k : Int)) = false := by simp; omega
        have hi2 : WInv bs bs.length s W := by rw [HL.out]; exact hinv
        have hb32 := hi2.begin (by rw [HL.out]; exact hsl)
        have hfin := hi2.last (by rw [HL.out]; exact hsl)
        have hsee := HS.out
        obtain ⟨x, hx⟩ : ∃ x : Nat, x = (bs.getD s 0).toNat := ⟨_, rfl⟩
        have hcx : wr.cell? ⟨b, off + s, none⟩ = some (.int .u8 (x : Int)) := by rw [hx]; exact (hb.cell (p := ⟨b, off + s, none⟩) hbw).trans (hsee.byte s hsl)
        have hxne : ((x : Int) == 32) = false := by
          have : x ≠ 32 := by intro e; apply hb32; exact UInt8.toNat_inj.1 (by rw [← hx, e]; rfl)
          simp; omega
        obtain ⟨a2, ec2, see2⟩ := hsee.cut s k (by omega) (Nat.le_refl _)
        have q1 := fun W => (run_from (P := Tryz.prog) Tryz.underlying27 size_u8 W (some ⟨b, off, none⟩) k c s (s : Int) rfl (by omega)).trans (congrArg (fun v => Result.ok v W) ec2)
        have e2 : (List.map bv bs).take k = List.map bv bs := List.take_of_length_le (by rw [HS.out.len]; exact Nat.le_refl _)
        rw [e2, ← List.map_drop] at see2
        have q2 := (see2.below hb).str (P := Tryz.prog) 27 5 9 Tryz.underlying27 Tryz.underlying5 Tryz.underlying9
        have HR := Lib.hid hrow
        have HB := Lib.hid hb
        have HF := Lib.hid hfin
        clear ec2 see2 hsee e2 hrow hb hfin hb32 hx hi2
        go_wp2_with (at_builtin; refine wpList_append_row anyCell _ rfl _ _ 128 rfl w.heap.size 9 i0 (.string ByteArray.empty) 16 Tryz.underlying128 hi hz0 hz1 hz2 rfl trivial _ _ _ rfl (HR.out.below ((Below.refl _ _).alloc (Nat.le_refl _) _)) (some ⟨wr.heap.size, 0, none⟩) 1 1 [sv (bs.drop s)] rfl (sees_one _ _ _) (sv_one [_]) (fun _ _ => trivial) ?c4 ?c5 ?c6 ?_)
        case c4 => unfold maxLen; omega
        case c5 => omega
        case c6 => have := HB.out.size; simp; omega
        intro v' w1 hrow1 hgrow1 _
        have hlt1 := HR.out.own.lt
        have hb1 : Below w.heap.size w w1 := (HB.out.alloc (by have := HB.out.size; omega) _).grown hgrow1 (by have := HB.out.size; simp; omega) (fun k hk => (hlt1 k hk).1)
        clear hgrow1 hlt1
        go_wp2
        rw [Exit.noGoto_ret]
        go_ret2
        exact Or.inr ⟨_, v', HF.out, rfl, by simpa using hrow1, hb1⟩
set_option maxRecDepth 100000 in
set_option maxHeartbeats 400000 in
theorem words_empty (a : Option Addr) (c : Nat) (w : World) : Calls Tryz.prog 86 #[.slice a 0 c] w (WordsPost [] w) := by
  go_enter Tryz.func86, Tryz.ntmps86
  go_wp2
  go_step3
  go_wp2
  try rw [Exit.noGoto_ret]
  go_ret2
  exact Or.inr ⟨[], _, rfl, rfl, Row.nil _ _ _ _, Below.refl _ _⟩
theorem words_all (bs : List UInt8) (a : Option Addr) (n c : Nat) (w : World) (h : Sees w a n c (bs.map bv)) (hn : n ≤ 1000000000) :
    Calls Tryz.prog 86 #[.slice a n c] w (WordsPost bs w) := by
  rcases Nat.eq_zero_or_pos n with h0 | h0
  · subst h0
    have : bs = [] := List.eq_nil_of_length_eq_zero (by have := h.len; simpa using this)
    subst this
    exact words_empty a c w
  · exact words_any bs a n c w h hn h0
end Go.Proofs.YtglhnmbfkbjemaaGreatDoor
/- lex.Numbers, by its contract. -/
namespace Go.Proofs.YtglhnmbfkbjemaaGreatDoor
open Go Go.RowKit Go.Joins
def firstErr : List (List UInt8) → Nat → Int
  | [], _ => 0
  | x :: r, most => if numErr x most = 0 then firstErr r most else numErr x most
def numsErr (l : List UInt8) (least many : Int) (most : Nat) : Int :=
  match wordsOf l with
  | none => 5
  | some W => if (W.length : Int) < least ∨ many < (W.length : Int) then 5 else firstErr W most
def numsOf (l : List UInt8) (most : Nat) : List Nat := ((wordsOf l).getD []).map fun x => numOf x most
def NumsPost (l : List UInt8) (least many : Int) (most : Nat) (w : World) (e : Ending) (w' : World) : Prop :=
  Below w.heap.size w w' ∧
  ((numsErr l least many most ≠ 0 ∧ e = .returned (.tuple #[.slice none 0 0, .int .i64 (numsErr l least many most)])) ∨
   (numsErr l least many most = 0 ∧ ∃ v, e = .returned (.tuple #[v, .int .i64 0]) ∧ Row isU32 w' w.heap.size 35 v (numsOf l most).length ((numsOf l most).map nv32)))
theorem numOf_le (l : List UInt8) (most : Nat) : numOf l most ≤ most := by
  unfold numOf
  split
  · rename_i h
    unfold numErr at h
    split at h
    · cases h
    · split at h
      · cases h
      · omega
  · omega
theorem firstErr_at : ∀ (W : List (List UInt8)) (most k : Nat), k < W.length → (∀ m, m < k → numErr (W.getD m []) most = 0) → numErr (W.getD k []) most ≠ 0 → firstErr W most = numErr (W.getD k []) most
  | [], _, k, hk, _, _ => by simp at hk
  | x :: r, most, 0, _, _, h => by simp [List.getD] at h ⊢; simp [firstErr, h]
  | x :: r, most, k + 1, hk, hall, h => by
    have h0 : numErr x most = 0 := by have := hall 0 (by omega); simpa [List.getD] using this
    have := firstErr_at r most k (by simpa using hk) (fun m hm => by have := hall (m + 1) (by omega); simpa [List.getD] using this) (by simpa [List.getD] using h)
    rw [firstErr, if_pos h0, this]
    simp [List.getD]
theorem firstErr_none : ∀ (W : List (List UInt8)) (most : Nat), (∀ m, m < W.length → numErr (W.getD m []) most = 0) → firstErr W most = 0
  | [], _, _ => rfl
  | x :: r, most, hall => by
    have h0 : numErr x most = 0 := by have := hall 0 (by simp); simpa [List.getD] using this
    rw [firstErr, if_pos h0]
    exact firstErr_none r most fun m hm => by have := hall (m + 1) (by simpa using hm); simpa [List.getD] using this
def numCells (W : List (List UInt8)) (most k : Nat) : Array Value := ((W.take k).map (fun x => nv32 (numOf x most)) ++ List.replicate (W.length - k) (nv32 0)).toArray
theorem numCells_zero (W : List (List UInt8)) (most : Nat) : numCells W most 0 = zeros (.int .u32 0) W.length := by simp [numCells, zeros, nv32]
theorem numCells_size (W : List (List UInt8)) (most k : Nat) (hk : k ≤ W.length) : (numCells W most k).size = W.length := by simp [numCells]; omega
theorem numCells_step (W : List (List UInt8)) (most k : Nat) (hk : k < W.length) : (numCells W most k).setIfInBounds k (nv32 (numOf (W.getD k []) most)) = numCells W most (k + 1) := by
  apply Array.ext'
  have hl : (W.take k).length = k := by simp; omega
  have e1 : W.length - k = (W.length - (k + 1)) + 1 := by omega
  simp only [numCells, Array.toList_setIfInBounds, e1, List.replicate_succ]
  rw [List.set_append_right _ _ (by simp; omega)]
  have e2 : k - (List.map (fun x => nv32 (numOf x most)) (W.take k)).length = 0 := by simp; omega
  rw [e2, List.set_cons_zero, List.take_succ_eq_append_getElem hk, List.map_append, List.append_assoc]
  simp [List.getD, List.getElem?_eq_getElem hk]
theorem numCells_ok (W : List (List UInt8)) (most k : Nat) (hm : most < 4294967296) : ∀ u ∈ (numCells W most k).toList, isU32 u := by
  intro u hu
  simp only [numCells, List.mem_append, List.mem_map, List.mem_replicate] at hu
  rcases hu with ⟨x, _, rfl⟩ | ⟨_, rfl⟩
  · exact ⟨_, Nat.lt_of_le_of_lt (numOf_le x most) hm, rfl⟩
  · exact ⟨0, by omega, rfl⟩
theorem numCells_full (W : List (List UInt8)) (most : Nat) : (numCells W most W.length).toList = (W.map fun x => numOf x most).map nv32 := by simp [numCells]
theorem sees_str {w : World} {b off n c : Nat} {W : List (List UInt8)} (h : Sees w (some ⟨b, off, none⟩) n c (W.map sv)) (j : Nat) (hj : j < n) : w.cell? ⟨b, off + j, none⟩ = some (.string (str (W.getD j []))) := by
  have hl : W.length = n := by have := h.len; simpa using this
  rw [(h.cell j hj).2]
  simp [sv, List.getD, List.getElem?_eq_getElem (show j < W.length by omega)]
set_option maxRecDepth 100000 in
set_option maxHeartbeats 1600000 in
theorem numbers_any (bs : List UInt8) (a : Option Addr) (n c : Nat) (least many : Int) (most : Nat) (w : World) (h : Sees w a n c (bs.map bv)) (hn : n ≤ 100000000) (hm : most < 4294967296) :
    Calls Tryz.prog 89 #[.slice a n c, .int .i64 least, .int .i64 many, .int .u32 most] w (NumsPost bs least many most w) := by
  obtain ⟨i0, hi, hz0, hz1, hz2⟩ := info_parts info_u32
  have hbl : bs.length = n := by have := h.len; simpa using this
  have HL : Hid (bs.length = n) := hbl
  have HW := Lib.hid (words_all bs a n c w h (by omega))
  clear h hbl
  go_enter Tryz.func89, Tryz.ntmps89
  go_wp2_with fail
  refine HW.out.mono ?_
  rintro e w1 (⟨hno, rfl, hb1⟩ | ⟨W, vw, hso, rfl, hrow, hb1⟩)
  · have HN := Lib.hid hno
    clear hno
    go_wp2
    go_ret2
    have e5 : numsErr bs least many most = 5 := by unfold numsErr; rw [HN.out]
    exact ⟨hb1, Or.inl ⟨by rw [e5]; decide, by rw [e5]; rfl⟩⟩
  · have HS := Lib.hid hso
    obtain ⟨aw, cw, rfl, hcm, hsee⟩ := hrow.sees
    have hsz := wordsOf_size hso
    have hWn : W.length ≤ 100000001 := by have := hsz.1; have := HL.out; omega
    have HSZ := Lib.hid hsz.2
    have HSEE := Lib.hid hsee
    clear hso hrow hsz hsee
    by_cases hfew : (W.length : Int) < least ∨ many < (W.length : Int)
    · have e5 : numsErr bs least many most = 5 := by unfold numsErr; rw [HS.out]; exact if_pos hfew
      have E5 := Lib.hid e5
      clear e5
      rcases hfew with hf | hf
      · go_wp2
        go_ret2
        exact ⟨hb1, Or.inl ⟨by rw [E5.out]; decide, by rw [E5.out]; rfl⟩⟩
      · by_cases hf2 : (W.length : Int) < least
        all_goals
          go_wp2
          go_ret2
          exact ⟨hb1, Or.inl ⟨by rw [E5.out]; decide, by rw [E5.out]; rfl⟩⟩
    · have hf1 : least ≤ (W.length : Int) := by omega
      have hf2 : (W.length : Int) ≤ many := by omega
      have enum : numsErr bs least many most = firstErr W most := by unfold numsErr; rw [HS.out]; exact if_neg hfew
      have EN := Lib.hid enum
      clear enum hfew
      have hmk := run_make_n (P := Tryz.prog) Tryz.underlying24 hi hz0 hz1 hz2 rfl W.length (by omega) (by omega)
      go_wp2
      go_loopw [11, 13, 14, 38] (fun er _ _ j wr => ∃ k : Nat, k ≤ W.length ∧ j = .int .i64 k ∧ Hid (wr.heap[w1.heap.size]? = some (.cells (numCells W most k) 35 (0, 0))) ∧ Hid (Below w1.heap.size w1 wr) ∧ Hid (∀ m, m < k → numErr (W.getD m []) most = 0))
        (fun _ _ _ j _ => W.length - (intOf j).toNat)
      case atStart => exact ⟨0, Nat.zero_le _, rfl, by show _ = _; rw [numCells_zero]; exact heap_alloc_new _ _, (Below.refl _ _).alloc (Nat.le_refl _) _, fun m hm => absurd hm (by omega)⟩
      case round =>
        obtain ⟨k, hk, rfl, hcells, hb2, hall⟩ := hrel
        by_cases hlt : k < W.length
        · obtain ⟨b, off, ea, hbw⟩ := HSEE.out.addr (by omega)
          have hsee := HSEE.out.below hb2.out
          rw [ea] at hsee ⊢
          have hcx := sees_str hsee k hlt
          obtain ⟨nv, hnv⟩ : ∃ nv : Nat, nv = numOf (W.getD k []) most := ⟨_, rfl⟩
          obtain ⟨er, her⟩ : ∃ er : Int, er = numErr (W.getD k []) most := ⟨_, rfl⟩
          have HC := number_named (W.getD k []) most wr nv er hnv her (by
            have : W.getD k [] ∈ W := by simp [List.getD, List.getElem?_eq_getElem hlt]
            have := HSZ.out _ this
            have := HL.out
            omega) hm
          have HC' := Lib.hid HC
          have HNV := Lib.hid hnv
          have HER := Lib.hid her
          obtain ⟨wd, hwd⟩ : ∃ wd : ByteArray, wd = str (W.getD k []) := ⟨_, rfl⟩
          rw [← hwd] at hcx
          have HWD := Lib.hid hwd
          clear HC hnv her hsee hwd ea
          go_wp2_with fail
          rw [HWD.out]
          refine HC'.out.mono ?_
          rintro e w2 ⟨rfl, hb3⟩
          have hgsz : w1.heap.size < wr.heap.size := (Array.getElem?_eq_some_iff.1 hcells.out).1
          have hg2 : w2.heap[w1.heap.size]? = some (.cells (numCells W most k) 35 (0, 0)) := (hb3.block _ hgsz).trans hcells.out
          obtain ⟨old, hold⟩ : ∃ old, w2.cell? ⟨w1.heap.size, k, none⟩ = some old := by
            have hs := numCells_size W most k hk
            exact ⟨(numCells W most k)[k]'(by rw [hs]; exact hlt), by rw [cell_of_block hg2 k, Array.getElem?_eq_getElem]⟩
          have hfz := unfrozen_of_block hg2 k
          have hb4 : Below w1.heap.size w1 (w2.setCell ⟨w1.heap.size, k, none⟩ (nv32 nv)) := (hb2.out.trans (hb3.mono (by omega))).setCell (p := ⟨w1.heap.size, k, none⟩) (Nat.le_refl _) _
          have hg4 := block_setCell hg2 (i := k) (nv32 nv)
          rw [HNV.out, numCells_step W most k hlt, ← HNV.out] at hg4
          have HB4 := Lib.hid hb4
          have HG4 := Lib.hid hg4
          clear hb4 hg4 hg2 hb3 hgsz hcells hb2
          by_cases e0 : er = 0
          · subst e0
            go_wp2
            go_roundw
            case rel =>
              refine ⟨k + 1, by omega, by go_num, HG4.out, HB4.out, fun m hm => ?_⟩
              rcases Nat.lt_or_ge m k with h | h
              · exact hall.out m h
              · have : m = k := by omega
                subst this
                exact HER.out.symm
            case measure => simp [intOf]; omega
          · have en1 : (er != 0) = true := by simp [e0]
            have en2 : (er == 0) = false := by simp [e0]
            have ef : numsErr bs least many most = er := by
              rw [EN.out, HER.out]
              exact firstErr_at W most k hlt hall.out (by rw [← HER.out]; exact e0)
            have EF := Lib.hid ef
            have E0 := Lib.hid e0
            clear ef e0
            go_wp2
            go_ret2
            exact ⟨hb1.trans (HB4.out.mono hb1.size), Or.inl ⟨by rw [EF.out]; exact E0.out, by rw [EF.out]; rfl⟩⟩
        · have hkk : k = W.length := by omega
          subst hkk
          have ef : numsErr bs least many most = 0 := by rw [EN.out]; exact firstErr_none W most hall.out
          have EF := Lib.hid ef
          clear ef
          go_wp2
          go_ret2
          refine ⟨hb1.trans (hb2.out.mono hb1.size), Or.inr ⟨EF.out, _, rfl, ?_⟩⟩
          have hl : (numsOf bs most).length = W.length := by unfold numsOf; rw [HS.out]; simp
          have he : (numsOf bs most).map nv32 = (numCells W most W.length).toList := by unfold numsOf; rw [HS.out, numCells_full]; rfl
          have hs := numCells_size W most W.length (Nat.le_refl _)
          rw [hl, he]
          exact ⟨by rw [Array.length_toList, hs], .inr ⟨w1.heap.size, W.length, _, rfl, hb1.size, hcells.out, Nat.le_refl _, by unfold maxLen; omega, hs, by rw [List.take_of_length_le]; rw [Array.length_toList, hs]; exact Nat.le_refl _, numCells_ok W most _ hm⟩⟩
end Go.Proofs.YtglhnmbfkbjemaaGreatDoor
/- Numerals, words and lines, on plain lists: what is written is read, and what is read is written. -/
namespace Go.Proofs.YtglhnmbfkbjemaaGreatDoor
open Go Go.RowKit
theorem digit_byte (d : Nat) (h : d < 10) : (UInt8.ofNat (48 + d)).toNat = 48 + d := by
  rw [UInt8.toNat_ofNat']; omega
theorem dec_lt {u : Nat} (h : u < 10) : Lib.decDigits u = [UInt8.ofNat (48 + u)] := by rw [Lib.decDigits, dif_pos h]
theorem dec_ge {u : Nat} (h : ¬ u < 10) : Lib.decDigits u = Lib.decDigits (u / 10) ++ [UInt8.ofNat (48 + u % 10)] := by rw [Lib.decDigits, dif_neg h]
theorem dec_val (u : Nat) : numVal (Lib.decDigits u) = u := by
  induction u using Nat.strongRecOn with
  | _ u ih =>
    by_cases h : u < 10
    · rw [dec_lt h]; simp only [numVal, List.foldl_cons, List.foldl_nil, digit_byte u h]; omega
    · rw [dec_ge h, numVal_snoc, ih (u / 10) (by omega), digit_byte _ (by omega)]; omega
theorem dec_all (u : Nat) : ∀ x ∈ Lib.decDigits u, isDig x = true := by
  have one : ∀ d, d < 10 → isDig (UInt8.ofNat (48 + d)) = true := by
    intro d hd
    unfold isDig
    rw [digit_byte d hd, decide_eq_true (by omega), decide_eq_true (by omega)]; rfl
  induction u using Nat.strongRecOn with
  | _ u ih =>
    by_cases h : u < 10
    · rw [dec_lt h]; intro x hx; have : x = UInt8.ofNat (48 + u) := by simpa using hx
      subst this; exact one u h
    · rw [dec_ge h]
      intro x hx
      rcases List.mem_append.1 hx with hx | hx
      · exact ih (u / 10) (by omega) x hx
      · have : x = UInt8.ofNat (48 + u % 10) := by simpa using hx
        subst this; exact one _ (by omega)
theorem dec_ne (u : Nat) : Lib.decDigits u ≠ [] := by
  by_cases h : u < 10
  · rw [dec_lt h]; simp
  · rw [dec_ge h]; simp
theorem dec_head (u : Nat) (h1 : 1 ≤ u) : (Lib.decDigits u).head? ≠ some 48 := by
  induction u using Nat.strongRecOn with
  | _ u ih =>
    by_cases h : u < 10
    · rw [dec_lt h]
      intro e
      have e' : UInt8.ofNat (48 + u) = 48 := by simpa using e
      have := congrArg UInt8.toNat e'
      rw [digit_byte u h] at this
      have h48 : (48 : UInt8).toNat = 48 := rfl
      omega
    · rw [dec_ge h, List.head?_append]
      have := ih (u / 10) (by omega) (by omega)
      cases hh : (Lib.decDigits (u / 10)).head? with
      | none => rw [List.head?_eq_none_iff] at hh; exact absurd hh (dec_ne _)
      | some x => rw [hh] at this; simpa using this
theorem dec_err (u most : Nat) (h : u ≤ most) : numErr (Lib.decDigits u) most = 0 := by
  have e := num_end (Lib.decDigits u) most (dec_ne u) (by
    rintro ⟨h1, h2⟩
    rcases Nat.eq_zero_or_pos u with h0 | h0
    · subst h0; rw [dec_lt (by omega)] at h2; simp at h2
    · exact dec_head u h0 h1) (fun m hm => by
      have := dec_all u ((Lib.decDigits u).getD m 0) (by simp [List.getD, List.getElem?_eq_getElem hm])
      exact this)
  rw [e, dec_val, if_neg (by omega)]
theorem dec_num (u most : Nat) (h : u ≤ most) : numOf (Lib.decDigits u) most = u := by rw [numOf, dec_err u most h, if_pos rfl, dec_val]
theorem dec_canon (x : List UInt8) : x ≠ [] → ¬ (x.head? = some 48 ∧ 1 < x.length) → (∀ c ∈ x, isDig c = true) → Lib.decDigits (numVal x) = x := by
  generalize hn : x.length = n
  induction n generalizing x with
  | zero => intro h; exact absurd (List.eq_nil_of_length_eq_zero hn) h
  | succ n ih' =>
    intro hne hz hd
    obtain ⟨y, c, rfl⟩ : ∃ y c, x = y ++ [c] := ⟨x.dropLast, x.getLast hne, (List.dropLast_concat_getLast hne).symm⟩
    have ih := ih' y (by simpa using hn)
    have hc := hd c (by simp)
    have hc1 : 48 ≤ c.toNat ∧ c.toNat ≤ 57 := by simpa [isDig] using hc
    have hcc : UInt8.ofNat (48 + (c.toNat - 48)) = c := by
      apply UInt8.toNat_inj.1
      rw [digit_byte _ (by omega)]; omega
    rw [numVal_snoc]
    by_cases hy : y = []
    · subst hy
      rw [show numVal [] = 0 from rfl, Nat.mul_zero, Nat.zero_add, dec_lt (by omega), hcc]; rfl
    · have hyl : 0 < y.length := List.length_pos_iff.2 hy
      have hh : y.head? ≠ some 48 := by
        intro e
        apply hz
        refine ⟨by rw [List.head?_append, e]; rfl, by simp at hn; omega⟩
      have hv := ih hy (fun h => hh h.1) (fun c hc => hd c (by simp [hc]))
      have hpos : 1 ≤ numVal y := by
        have h1 := numVal_mono y 1 y.length hyl (Nat.le_refl _)
        rw [List.take_length] at h1
        cases y with
        | nil => exact absurd rfl hy
        | cons a r =>
          have ha := hd a (by simp)
          have ha1 : 48 ≤ a.toNat ∧ a.toNat ≤ 57 := by simpa [isDig] using ha
          have hne : a.toNat ≠ 48 := by
            intro e
            apply hh
            have : a = 48 := UInt8.toNat_inj.1 e
            rw [this]; rfl
          have : numVal ((a :: r).take 1) = a.toNat - 48 := by simp [numVal]
          omega
      rw [dec_ge (by omega), show (10 * numVal y + (c.toNat - 48)) / 10 = numVal y by omega, show (10 * numVal y + (c.toNat - 48)) % 10 = c.toNat - 48 by omega, hv, hcc]
theorem err_canon {x : List UInt8} {most : Nat} (h : numErr x most = 0) : Lib.decDigits (numOf x most) = x := by
  have h' := h
  unfold numErr at h
  split at h
  · cases h
  · rename_i hn
    rw [numOf, if_pos h']
    refine dec_canon x (fun e => hn (Or.inl e)) (fun e => hn (Or.inr (Or.inl e))) fun c hc => ?_
    cases hd : isDig c with
    | true => rfl
    | false =>
      refine absurd (Or.inr (Or.inr ?_)) hn
      rw [List.all_eq_false]
      exact ⟨c, hc, by rw [hd]; decide⟩
def tailW : List (List UInt8) → List UInt8
  | [] => []
  | x :: r => 32 :: (x ++ tailW r)
def joinW : List (List UInt8) → List UInt8
  | [] => []
  | x :: r => x ++ tailW r
theorem tailOf_eq : ∀ l : List Nat, tailOf l = tailW (l.map Lib.decDigits)
  | [] => rfl
  | x :: r => by simp [tailOf, tailW, tailOf_eq r]
theorem bodyOf_eq (l : List Nat) : bodyOf l = joinW (l.map Lib.decDigits) := by
  cases l with
  | nil => rfl
  | cons x r => simp [bodyOf, joinW, tailOf_eq]
theorem tailW_join {W : List (List UInt8)} (h : W ≠ []) : tailW W = 32 :: joinW W := by
  cases W with
  | nil => exact absurd rfl h
  | cons x r => rfl
theorem joinW_split : ∀ l, joinW (splitW l) = l
  | [] => rfl
  | x :: r => by
    have ih := joinW_split r
    rw [splitW]
    split
    · rename_i h
      rw [joinW, List.nil_append, tailW_join (splitW_ne r), ih, h]
    · split
      · rename_i h; exact absurd h (splitW_ne r)
      · rename_i a b h
        rw [h, joinW] at ih
        rw [joinW, List.cons_append, ih]
theorem splitW_join : ∀ (x : List UInt8) (W : List (List UInt8)), (∀ y ∈ x :: W, ∀ c ∈ y, c ≠ 32) → splitW (joinW (x :: W)) = x :: W
  | x, [], h => by rw [joinW, tailW, List.append_nil]; exact splitW_last x (h x (by simp))
  | x, y :: W, h => by
    have ih := splitW_join y W (fun z hz => h z (by simp at hz ⊢; exact Or.inr hz))
    rw [joinW, tailW_join (by simp), splitW_step x _ (h x (by simp)), ih]
theorem dec_blank (u : Nat) : ∀ c ∈ Lib.decDigits u, c ≠ 32 ∧ c ≠ 10 := by
  intro c hc
  have h := dec_all u c hc
  constructor
  · intro e; subst e; exact absurd h (by decide)
  · intro e; subst e; exact absurd h (by decide)
theorem words_body (l : List Nat) : wordsOf (bodyOf l) = some (l.map Lib.decDigits) := by
  rw [bodyOf_eq]
  cases l with
  | nil => rfl
  | cons x r =>
    have hs : splitW (joinW ((x :: r).map Lib.decDigits)) = (x :: r).map Lib.decDigits := by
      rw [List.map_cons]
      refine splitW_join _ _ fun y hy c hc => ?_
      rw [← List.map_cons] at hy
      obtain ⟨u, _, rfl⟩ := List.mem_map.1 hy
      exact (dec_blank u c hc).1
    have hne : joinW ((x :: r).map Lib.decDigits) ≠ [] := by
      rw [List.map_cons, joinW]
      intro e
      have := List.append_eq_nil_iff.1 e
      exact dec_ne x this.1
    unfold wordsOf
    rw [if_neg hne, hs, if_neg]
    intro h
    rw [List.any_eq_true] at h
    obtain ⟨y, hy, he⟩ := h
    obtain ⟨u, _, rfl⟩ := List.mem_map.1 hy
    exact dec_ne u (by simpa using he)
theorem body_free (l : List Nat) : ∀ c ∈ bodyOf l, c ≠ 10 := by
  have tail : ∀ l : List Nat, ∀ c ∈ tailOf l, c ≠ 10 := by
    intro l
    induction l with
    | nil => intro c hc; cases hc
    | cons x r ih =>
      intro c hc
      simp only [tailOf, List.mem_cons, List.mem_append] at hc
      rcases hc with hc | hc | hc
      · subst hc; decide
      · exact (dec_blank x c hc).2
      · exact ih c hc
  cases l with
  | nil => intro c hc; cases hc
  | cons x r =>
    intro c hc
    simp only [bodyOf, List.mem_append] at hc
    rcases hc with hc | hc
    · exact (dec_blank x c hc).2
    · exact tail r c hc
theorem ahead_line (l r : List UInt8) (h : ∀ c ∈ l, c ≠ 10) : ahead (l ++ 10 :: r) = l.length := by
  unfold ahead
  induction l with
  | nil => rfl
  | cons x t ih =>
    have := ih (fun c hc => h c (by simp [hc]))
    have hx := h x (by simp)
    rw [List.cons_append, List.takeWhile_cons, if_pos (by simpa using hx), List.length_cons, this, List.length_cons]
theorem firstErr_zero : ∀ {W : List (List UInt8)} {most : Nat}, firstErr W most = 0 → ∀ x ∈ W, numErr x most = 0
  | [], _, _, x, hx => by cases hx
  | y :: r, most, h, x, hx => by
    rw [firstErr] at h
    split at h
    · rename_i h0
      rcases List.mem_cons.1 hx with rfl | hx
      · exact h0
      · exact firstErr_zero h x hx
    · rename_i h0; exact absurd h h0
theorem firstErr_of : ∀ {W : List (List UInt8)} {most : Nat}, (∀ x ∈ W, numErr x most = 0) → firstErr W most = 0
  | [], _, _ => rfl
  | y :: r, most, h => by rw [firstErr, if_pos (h y (by simp))]; exact firstErr_of fun x hx => h x (by simp [hx])
theorem written_read (l : List Nat) (most : Nat) (hl : ∀ x ∈ l, x ≤ most) (least many : Int) (h1 : least ≤ (l.length : Int)) (h2 : (l.length : Int) ≤ many) : numsErr (bodyOf l) least many most = 0 ∧ numsOf (bodyOf l) most = l := by
  constructor
  · unfold numsErr
    rw [words_body]
    simp only [List.length_map]
    rw [if_neg (by omega)]
    refine firstErr_of fun x hx => ?_
    obtain ⟨u, hu, rfl⟩ := List.mem_map.1 hx
    exact dec_err u most (hl u hu)
  · unfold numsOf
    rw [words_body]
    simp only [Option.getD_some, List.map_map]
    conv => rhs; rw [← List.map_id l]
    apply List.map_congr_left
    intro u hu
    exact dec_num u most (hl u hu)
end Go.Proofs.YtglhnmbfkbjemaaGreatDoor
/- Package raw, on plain lists: what is valid, what is written, and what is read. -/
namespace Go.Proofs.YtglhnmbfkbjemaaGreatDoor
open Go Go.RowKit
def lineOf (l : List Nat) : List UInt8 := bodyOf l ++ [10]
def linesOf : List (List Nat) → List UInt8
  | [] => []
  | l :: r => lineOf l ++ linesOf r
theorem linesOf_append : ∀ (a b : List (List Nat)), linesOf (a ++ b) = linesOf a ++ linesOf b
  | [], b => rfl
  | x :: a, b => by rw [List.cons_append, linesOf, linesOf, linesOf_append a b, List.append_assoc]
theorem linesOf_snoc (a : List (List Nat)) (x : List Nat) : linesOf (a ++ [x]) = linesOf a ++ lineOf x := by
  rw [linesOf_append]; simp [linesOf]
def countsAll (r : RawC) : List Nat := [r.max, r.ins.length, r.lats.length, r.outs.length, r.gates.length, r.bads.length, r.cons.length]
def countsOf (r : RawC) : List Nat := if r.cons.length = 0 then (if r.bads.length = 0 then (countsAll r).take 5 else (countsAll r).take 6) else countsAll r
def latNums (t : Tri) : List Nat := if t.2.2 = 0 then [t.1, t.2.1] else [t.1, t.2.1, t.2.2]
def triNums (t : Tri) : List Nat := [t.1, t.2.1, t.2.2]
def bodyLines (r : RawC) : List (List Nat) :=
  r.ins.map (fun x => [x]) ++ (r.lats.map latNums ++ (r.outs.map (fun x => [x]) ++ (r.bads.map (fun x => [x]) ++ (r.cons.map (fun x => [x]) ++ r.gates.map triNums))))
def headText : List UInt8 := [97, 97, 103, 32]
def textOf (r : RawC) : List UInt8 := headText ++ (lineOf (countsOf r) ++ linesOf (bodyLines r))
def cutS (b : List UInt8) : Option (List UInt8 × List UInt8) := if ahead b < b.length then some (b.take (ahead b), b.drop (ahead b + 1)) else none
def sectS {α : Type} (item : List UInt8 → Nat → Except Int α) (most : Nat) : Nat → List UInt8 → Except Int (List α × List UInt8)
  | 0, b => .ok ([], b)
  | k + 1, b => match cutS b with
    | none => .error 4
    | some (line, rest) => match item line most with
      | .error e => .error e
      | .ok x => match sectS item most k rest with
        | .error e => .error e
        | .ok (xs, r) => .ok (x :: xs, r)
def litS (line : List UInt8) (most : Nat) : Except Int Nat :=
  if numsErr line 1 1 most = 0 then .ok ((numsOf line most).getD 0 0) else .error (numsErr line 1 1 most)
def latOf (l : List Nat) : Tri := (l.getD 0 0, l.getD 1 0, if 2 < l.length then l.getD 2 0 else 0)
def latS (line : List UInt8) (most : Nat) : Except Int Tri :=
  if numsErr line 2 3 most = 0 then (if mayReset (latOf (numsOf line most)) = true then .ok (latOf (numsOf line most)) else .error 5) else .error (numsErr line 2 3 most)
def triOf (l : List Nat) : Tri := (l.getD 0 0, l.getD 1 0, l.getD 2 0)
def gateS (line : List UInt8) (most : Nat) : Except Int Tri :=
  if numsErr line 3 3 most = 0 then .ok (triOf (numsOf line most)) else .error (numsErr line 3 3 most)
def checkErr (l : List Nat) : Int :=
  if 0 < l.getD 7 0 ∨ 0 < l.getD 8 0 then 6
  else if 16384 < l.getD 0 0 ∨ 1024 < l.getD 3 0 ∨ 1024 < l.getD 5 0 ∨ 1024 < l.getD 6 0 then 3
  else if l.getD 0 0 < l.getD 1 0 + l.getD 2 0 + l.getD 4 0 then 5 else 0
def nineOf (W : List (List UInt8)) : List Nat := W.map (fun x => numOf x 2147483647) ++ List.replicate (9 - W.length) 0
def headErr (word line : List UInt8) : Int :=
  match wordsOf line with
  | none => 5
  | some W => if W.length < 6 ∨ 10 < W.length ∨ W.getD 0 [] ≠ word then 5
    else if firstErr (W.drop 1) 2147483647 ≠ 0 then firstErr (W.drop 1) 2147483647 else checkErr (nineOf (W.drop 1))
def headNums (line : List UInt8) : List Nat := (nineOf (((wordsOf line).getD []).drop 1)).take 7
def headS (word b : List UInt8) : Except Int (List Nat × List UInt8) :=
  match cutS b with
  | none => .error 4
  | some (line, rest) => if headErr word line = 0 then .ok (headNums line, rest) else .error (headErr word line)
def isCtl (u : UInt8) : Bool := decide (u.toNat < 32) || decide (u.toNat = 127)
def nameOk (line : List UInt8) (many : List Nat) : Bool :=
  let mark := line.takeWhile (fun u => u != 32)
  let name := line.drop (mark.length + 1)
  match mark with
  | [] => false
  | x :: d => if name = [] then false else if name.any isCtl then false else
    match ([105, 108, 111, 98, 99] : List UInt8).findIdx? (fun u => u == x) with
    | none => false
    | some k => decide (numErr d 2147483647 = 0) && decide (numOf d 2147483647 < many.getD k 0)
def namesS (many : List Nat) : Nat → List UInt8 → Int
  | 0, _ => 0
  | f + 1, b => if b = [] then 0 else match cutS b with
    | none => 4
    | some (line, rest) => if line = [99] then 0 else if nameOk line many = true then namesS many f rest else 5
def namesErr (many : List Nat) (b : List UInt8) : Int := namesS many b.length b
def getS (b : List UInt8) : Except Int RawC :=
  if 1048576 < b.length then .error 3 else
  match headS [97, 97, 103] b with
  | .error e => .error e
  | .ok (h, r0) =>
    let most := 2 * h.getD 0 0 + 1
    match sectS litS most (h.getD 1 0) r0 with
    | .error e => .error e
    | .ok (ins, r1) => match sectS latS most (h.getD 2 0) r1 with
      | .error e => .error e
      | .ok (lats, r2) => match sectS litS most (h.getD 3 0) r2 with
        | .error e => .error e
        | .ok (outs, r3) => match sectS litS most (h.getD 5 0) r3 with
          | .error e => .error e
          | .ok (bads, r4) => match sectS litS most (h.getD 6 0) r4 with
            | .error e => .error e
            | .ok (cons, r5) => match sectS gateS most (h.getD 4 0) r5 with
              | .error e => .error e
              | .ok (gates, r6) => if namesErr [h.getD 1 0, h.getD 2 0, h.getD 3 0, h.getD 5 0, h.getD 6 0] r6 = 0 then .ok ⟨h.getD 0 0, ins, lats, outs, bads, cons, gates⟩
                else .error (namesErr [h.getD 1 0, h.getD 2 0, h.getD 3 0, h.getD 5 0, h.getD 6 0] r6)
end Go.Proofs.YtglhnmbfkbjemaaGreatDoor
/- A raw circuit as a value: its lists are slices that read as its numbers. -/
namespace Go.Proofs.YtglhnmbfkbjemaaGreatDoor
open Go Go.RowKit
end Go.Proofs.YtglhnmbfkbjemaaGreatDoor
/- bytes.IndexByte, bytes.Index and bytes.Cut at one byte, strings.IndexByte, by their contracts. -/
namespace Go.Proofs.YtglhnmbfkbjemaaGreatDoor
open Go Go.RowKit Go.Joins
theorem bytesOf_nat (bs : List UInt8) : Lib.bytesOf (bs.map fun u => (u.toNat : Int)) = bs := by
  unfold Lib.bytesOf
  rw [List.map_map]
  conv => rhs; rw [← List.map_id bs]
  apply List.map_congr_left
  intro u _
  simp
theorem run_idx (w : World) (a : Option Addr) (n c : Nat) (bs : List UInt8) (h : Sees w a n c (bs.map bv)) (cv : Int) :
    (Extern.BytealgIndexByte.indexByte #[.slice a n c, .int .u8 cv]).run Tryz.prog w = .ok (.int .i64 (Lib.indexByte bs cv.toNat.toUInt8)) w := by
  have hl := h.lenMap
  cases a with
  | none =>
    have h0 : n = 0 := by have := h.cap; have := h.nilc rfl; omega
    subst h0
    have : bs = [] := List.eq_nil_of_length_eq_zero hl
    subst this
    exact Lib.run_indexByteNil w 0 c cv
  | some ad =>
    have := Lib.run_indexByteAt (P := Tryz.prog) w ad n c (bs.map fun u => (u.toNat : Int)) (by simpa using hl) (by
      intro i hi
      obtain ⟨b, off, e, hlt, hc⟩ := h.real (by omega)
      cases e
      have hadd : (⟨b, off, none⟩ : Addr).add i = ⟨b, off + i, none⟩ := by unfold Addr.add; split <;> simp_all
      rw [hadd, hc i hi]
      simp [bv, List.getD, List.getElem?_eq_getElem (show i < bs.length by omega)]) cv
    rw [bytesOf_nat] at this
    exact this
set_option maxRecDepth 100000 in
theorem idxByte_any (w : World) (a : Option Addr) (n c : Nat) (bs : List UInt8) (h : Sees w a n c (bs.map bv)) (cv : Int) :
    Calls Tryz.prog 49 #[.slice a n c, .int .u8 cv] w fun e w' => e = .returned (.int .i64 (Lib.indexByte bs cv.toNat.toUInt8)) ∧ w = w' := by
  have hr := run_idx w a n c bs h cv
  have H := Lib.hid hr
  clear hr h
  go_enter Tryz.func49, Tryz.ntmps49
  go_wp2
  rw [run_callFunc_extern Tryz.func84 (by kernel_rfl) (by kernel_rfl) (by kernel_rfl) (e := Extern.BytealgIndexByte.indexByte) (by kernel_rfl), H.out]
  simp only [Result.andThen]
  rw [Oper.upon_value]
  go_wp2
  go_ret
  exact ⟨rfl, rfl⟩
set_option maxRecDepth 100000 in
theorem index_one (w : World) (a a' : Option Addr) (n c c' : Nat) (bs : List UInt8) (u : UInt8) (h : Sees w a n c (bs.map bv)) (h' : Sees w a' 1 c' [bv u]) :
    Calls Tryz.prog 114 #[.slice a n c, .slice a' 1 c'] w fun e w' => e = .returned (.int .i64 (Lib.indexByte bs u)) ∧ w = w' := by
  have hc := idxByte_any w a n c bs h (u.toNat : Int)
  obtain ⟨b, off, rfl, hlt⟩ := h'.addr (by omega)
  have hcell : w.cell? ⟨b, off, none⟩ = some (.int .u8 (u.toNat : Int)) := (h'.cell 0 (by omega)).2
  have e : ((u.toNat : Int)).toNat.toUInt8 = u := by simp
  rw [e] at hc
  have HC := Lib.hid hc
  clear hc h h' e
  go_enter Tryz.func114, Tryz.ntmps114
  go_wp2_with fail
  refine HC.out.mono ?_
  rintro e w' ⟨rfl, rfl⟩
  go_wp2
  go_ret
  exact ⟨rfl, rfl⟩
theorem indexByte_ahead (bs : List UInt8) : Lib.indexByte bs 10 = if ahead bs < bs.length then (ahead bs : Int) else -1 := by
  induction bs with
  | nil => simp [Lib.indexByte, ahead]
  | cons x r ih =>
    rw [Lib.indexByte]
    by_cases h : x = 10
    · subst h
      simp [ahead]
    · have hb : (x == 10) = false := by simpa using h
      have ha : ahead (x :: r) = ahead r + 1 := by unfold ahead; rw [List.takeWhile_cons]; simp [h]
      have hf : ∀ (a b : Int), (if false = true then a else b) = b := fun a b => by simp
      by_cases hlt : ahead r < r.length
      · rw [if_pos hlt] at ih
        have h1 : ((ahead r : Int) == -1) = false := by simp
        rw [hb, hf, ih, ha, if_pos (show ahead r + 1 < (x :: r).length by rw [List.length_cons]; omega), h1, hf]
        simp
      · rw [if_neg hlt] at ih
        rw [hb, hf, ih, ha, if_neg (show ¬ ahead r + 1 < (x :: r).length by rw [List.length_cons]; omega)]
        simp
end Go.Proofs.YtglhnmbfkbjemaaGreatDoor
/- The contracts of package lex at inputs whose answer is known. -/
namespace Go.Proofs.YtglhnmbfkbjemaaGreatDoor
open Go Go.RowKit Go.Joins
theorem line_yes (bs : List UInt8) (a : Option Addr) (n c k : Nat) (w : World) (h : Sees w a n c (bs.map bv)) (hn : n ≤ 1000000000) (hk : ahead bs = k) (hlt : k < n) :
    Calls Tryz.prog 51 #[.slice a n c] w fun e w' => ∃ v1 v2, e = .returned (.tuple #[v1, v2, .int .i64 0]) ∧ Row isByte w' w.heap.size 5 v1 k ((bs.take k).map bv) ∧
      Row isByte w' w.heap.size 5 v2 (n - (k + 1)) ((bs.drop (k + 1)).map bv) ∧ Below w.heap.size w w' := by
  refine (line_any bs a n c w h hn).mono fun e w' hp => ?_
  rcases hp with ⟨_, h⟩ | ⟨h, _⟩
  · rw [hk] at h; exact h
  · omega
theorem line_no (bs : List UInt8) (a : Option Addr) (n c : Nat) (w : World) (h : Sees w a n c (bs.map bv)) (hn : n ≤ 1000000000) (hk : ahead bs = n) :
    Calls Tryz.prog 51 #[.slice a n c] w fun e w' => e = .returned (.tuple #[.slice none 0 0, .slice none 0 0, .int .i64 4]) ∧ Below w.heap.size w w' := by
  refine (line_any bs a n c w h hn).mono fun e w' hp => ?_
  rcases hp with ⟨h, _⟩ | ⟨_, h⟩
  · omega
  · exact h
theorem words_yes (bs : List UInt8) (W : List (List UInt8)) (a : Option Addr) (n c : Nat) (w : World) (h : Sees w a n c (bs.map bv)) (hn : n ≤ 1000000000) (hw : wordsOf bs = some W) :
    Calls Tryz.prog 86 #[.slice a n c] w fun e w' => ∃ v, e = .returned (.tuple #[v, .int .i64 0]) ∧ Row anyCell w' w.heap.size 9 v W.length (W.map sv) ∧ Below w.heap.size w w' := by
  refine (words_all bs a n c w h hn).mono fun e w' hp => ?_
  rcases hp with ⟨h, _⟩ | ⟨W', v, h, hr⟩
  · rw [hw] at h; cases h
  · rw [hw] at h; cases h; exact ⟨v, hr⟩
theorem words_no (bs : List UInt8) (a : Option Addr) (n c : Nat) (w : World) (h : Sees w a n c (bs.map bv)) (hn : n ≤ 1000000000) (hw : wordsOf bs = none) :
    Calls Tryz.prog 86 #[.slice a n c] w fun e w' => e = .returned (.tuple #[.slice none 0 0, .int .i64 5]) ∧ Below w.heap.size w w' := by
  refine (words_all bs a n c w h hn).mono fun e w' hp => ?_
  rcases hp with ⟨_, h⟩ | ⟨W', v, h, hr⟩
  · exact h
  · rw [hw] at h; cases h
theorem numbers_yes (bs : List UInt8) (l : List Nat) (a : Option Addr) (n c : Nat) (least many : Int) (most : Nat) (w : World) (h : Sees w a n c (bs.map bv)) (hn : n ≤ 100000000) (hm : most < 4294967296) (he : numsErr bs least many most = 0) (hl : numsOf bs most = l) :
    Calls Tryz.prog 89 #[.slice a n c, .int .i64 least, .int .i64 many, .int .u32 most] w fun e w' => ∃ v, e = .returned (.tuple #[v, .int .i64 0]) ∧ Row isU32 w' w.heap.size 35 v l.length (l.map nv32) ∧ Below w.heap.size w w' := by
  refine (numbers_any bs a n c least many most w h hn hm).mono fun e w' hp => ?_
  obtain ⟨hb, ⟨h, _⟩ | ⟨_, v, h1, h2⟩⟩ := hp
  · exact absurd he h
  · rw [hl] at h2; exact ⟨v, h1, h2, hb⟩
theorem numbers_no (bs : List UInt8) (er : Int) (a : Option Addr) (n c : Nat) (least many : Int) (most : Nat) (w : World) (h : Sees w a n c (bs.map bv)) (hn : n ≤ 100000000) (hm : most < 4294967296) (he : numsErr bs least many most = er) (h0 : er ≠ 0) :
    Calls Tryz.prog 89 #[.slice a n c, .int .i64 least, .int .i64 many, .int .u32 most] w fun e w' => e = .returned (.tuple #[.slice none 0 0, .int .i64 er]) ∧ Below w.heap.size w w' := by
  refine (numbers_any bs a n c least many most w h hn hm).mono fun e w' hp => ?_
  obtain ⟨hb, ⟨_, h⟩ | ⟨h, _⟩⟩ := hp
  · rw [he] at h; exact ⟨h, hb⟩
  · exact absurd (he.symm.trans h) h0
end Go.Proofs.YtglhnmbfkbjemaaGreatDoor
/- raw.cut, by its contract. -/
namespace Go.Proofs.YtglhnmbfkbjemaaGreatDoor
open Go Go.RowKit Go.Joins
def CutPost (a0 : Option Addr) (bs : List UInt8) (w : World) (e : Ending) (w' : World) : Prop :=
  Below w.heap.size w w' ∧ ((cutS bs = none ∧ ∃ a c a2 n2 c2, e = .returned (.tuple #[.slice a 0 c, .slice a2 n2 c2, .int .i64 4])) ∨
    (∃ line rest a c a2 c2, cutS bs = some (line, rest) ∧ e = .returned (.tuple #[.slice a line.length c, .slice a2 rest.length c2, .int .i64 0]) ∧ Sees w' a line.length c (line.map bv) ∧ Sees w' a2 rest.length c2 (rest.map bv) ∧ a2.map Addr.block = a0.map Addr.block))
theorem sliced_block {a a2 : Option Addr} {l m c n2 c2 : Nat} (h : sliced a l m c 1 = .slice a2 n2 c2) : a2.map Addr.block = a.map Addr.block := by
  unfold sliced at h
  cases h
  split
  · rfl
  · cases a with
    | none => rfl
    | some x => simp [Addr.add]; split <;> rfl
theorem ahead_take (bs : List UInt8) (h : ahead bs < bs.length) : ahead (bs.take (ahead bs + 1)) = ahead bs := by
  induction bs with
  | nil => simp at h
  | cons x r ih =>
    by_cases hx : x = 10
    · subst hx; simp [ahead]
    · have ha : ahead (x :: r) = ahead r + 1 := by unfold ahead; rw [List.takeWhile_cons]; simp [hx]
      have h' : ahead r < r.length := by rw [ha, List.length_cons] at h; omega
      rw [ha, List.take_succ_cons]
      have hb : ahead (x :: r.take (ahead r + 1)) = ahead (r.take (ahead r + 1)) + 1 := by
        unfold ahead; rw [List.takeWhile_cons]; simp [hx]
      rw [hb, ih h']
set_option maxRecDepth 100000 in
set_option maxHeartbeats 800000 in
theorem cut_any (bs : List UInt8) (a : Option Addr) (n c : Nat) (w : World) (h : Sees w a n c (bs.map bv)) (hn : n ≤ 1000000000) :
    Calls Tryz.prog 56 #[.slice a n c] w (CutPost a bs w) := by
  have hbl := h.lenMap
  have hcap := h.cap
  have hi := idxByte_any w a n c bs h 10
  rw [show ((10 : Int)).toNat.toUInt8 = (10 : UInt8) from rfl, indexByte_ahead] at hi
  by_cases hk : ahead bs < bs.length
  · rw [if_pos hk] at hi
    have hcs : cutS bs = some (bs.take (ahead bs), bs.drop (ahead bs + 1)) := by unfold cutS; rw [if_pos hk]
    have hat := ahead_take bs hk
    obtain ⟨k, hkk⟩ : ∃ k, k = ahead bs := ⟨_, rfl⟩
    rw [← hkk] at hi hk hcs hat
    obtain ⟨a1, ec1, see1⟩ := h.cut 0 (k + 1) (Nat.zero_le _) (by omega)
    obtain ⟨a2, ec2, see2⟩ := h.cut (k + 1) n (by omega) (Nat.le_refl _)
    have ec1' : sliced a 0 (k + 1) c 1 = .slice a1 (k + 1) c := ec1
    have see1' : Sees w a1 (k + 1) c ((bs.take (k + 1)).map bv) := by rw [List.map_take]; exact see1
    have q1 := fun W => (run_upto (P := Tryz.prog) Tryz.underlying27 size_u8 W a n c (k + 1) ((k : Int) + 1) (by omega) (by omega)).trans (congrArg (fun v => Result.ok v W) ec1')
    have q2 := fun W => (run_from (P := Tryz.prog) Tryz.underlying27 size_u8 W a n c (k + 1) ((k : Int) + 1) (by omega) (by omega)).trans (congrArg (fun v => Result.ok v W) ec2)
    have S2 : Hid (Sees w a2 (n - (k + 1)) (c - (k + 1)) ((bs.drop (k + 1)).map bv)) := by
      have e : (List.map bv bs).take n = List.map bv bs := List.take_of_length_le (by rw [h.len]; exact Nat.le_refl _)
      rw [e, ← List.map_drop] at see2
      exact see2
    have hkn : k < n := by omega
    have hlen1 : (bs.take (k + 1)).length = k + 1 := by simp; omega
    have HLI := Lib.hid (line_yes (bs.take (k + 1)) a1 (k + 1) c k w see1' (by omega) hat (by omega))
    have HI := Lib.hid hi
    have HCS := Lib.hid hcs
    have HBL := Lib.hid hbl
    have e1 : (bs.take (k + 1)).take k = bs.take k := by rw [List.take_take]; congr 1; omega
    have E1 := Lib.hid e1
    have hblk := sliced_block ec2
    have HBK := Lib.hid hblk
    clear hblk
    clear hi hcs hat hkk ec1 ec2 ec1' see1 see1' see2 hbl hlen1 e1 h
    have W1 : IntKind.i64.wrap ((k : Int) + 1) = (k : Int) + 1 := IntWalk.i64_in _ (by omega)
    go_enter Tryz.func56, Tryz.ntmps56
    go_wp2_with fail
    refine HI.out.mono ?_
    rintro e w' ⟨rfl, rfl⟩
    go_wp2_with fail
    refine HLI.out.mono ?_
    rintro e w1 ⟨v1, v2, rfl, r1, _, hb⟩
    obtain ⟨b1, c1, rfl, _, s1⟩ := r1.sees
    have HS1 := Lib.hid s1
    have HB := Lib.hid hb
    clear r1 s1 hb
    go_wp2
    go_quiet (fail)
    go_wp2
    go_ret3
    rename_i nq
    have HD := Lib.hid (ext_trans HB.out (ext_drewN w1 nq))
    refine ⟨HD.out, Or.inr ⟨bs.take k, bs.drop (k + 1), b1, c1, a2, c - (k + 1), HCS.out, ?_, ?_, ?_, HBK.out⟩⟩
    · have l1 : (bs.take k).length = k := by simp; omega
      have l2 : (bs.drop (k + 1)).length = n - (k + 1) := by rw [List.length_drop, HBL.out]
      rw [l1, l2]; rfl
    · have l1 : (bs.take k).length = k := by simp; omega
      have := HS1.out
      rw [E1.out] at this
      rw [l1]; exact this.below (ext_drewN _ _)
    · have l2 : (bs.drop (k + 1)).length = n - (k + 1) := by rw [List.length_drop, HBL.out]
      rw [l2]; exact S2.out.below HD.out
  · rw [if_neg hk] at hi
    have hcs : cutS bs = none := by unfold cutS; rw [if_neg hk]
    obtain ⟨a1, ec1, see1⟩ := h.cut 0 0 (Nat.le_refl _) (Nat.zero_le _)
    obtain ⟨a2, ec2, _⟩ := h.cut 0 n (Nat.zero_le _) (Nat.le_refl _)
    have ec1' : sliced a 0 0 c 1 = .slice a1 0 c := ec1
    have ec2' : sliced a 0 n c 1 = .slice a2 n c := ec2
    have see1' : Sees w a1 0 c (([] : List UInt8).map bv) := see1
    have q1 := fun W => (run_upto (P := Tryz.prog) Tryz.underlying27 size_u8 W a n c 0 0 rfl (by omega)).trans (congrArg (fun v => Result.ok v W) ec1')
    have q2 := fun W => (run_from (P := Tryz.prog) Tryz.underlying27 size_u8 W a n c 0 0 rfl (by omega)).trans (congrArg (fun v => Result.ok v W) ec2')
    have HLI := Lib.hid (line_no [] a1 0 c w see1' (by omega) rfl)
    have HI := Lib.hid hi
    have HCS := Lib.hid hcs
    clear hi hcs ec1 ec2 ec1' ec2' see1 see1' hbl h
    go_enter Tryz.func56, Tryz.ntmps56
    go_wp2_with fail
    refine HI.out.mono ?_
    rintro e w' ⟨rfl, rfl⟩
    go_wp2_with fail
    refine HLI.out.mono ?_
    rintro e w1 ⟨rfl, hb⟩
    have HB := Lib.hid hb
    clear hb
    go_wp2
    go_quiet (fail)
    go_wp2
    go_ret3
    exact ⟨ext_trans HB.out (ext_drewN _ _), Or.inl ⟨HCS.out, none, 0, a2, n, c, rfl⟩⟩
end Go.Proofs.YtglhnmbfkbjemaaGreatDoor
/- The small functions of package raw. -/
namespace Go.Proofs.YtglhnmbfkbjemaaGreatDoor
open Go Go.RowKit Go.Joins
theorem mostLit_any (m : Nat) (hm : m ≤ 16384) (w : World) : Calls Tryz.prog 59 #[.int .u32 m] w fun e w' => e = .returned (.int .u32 ((2 * m + 1 : Nat) : Int)) ∧ w = w' := by
  have h0 : (0 : Int) ≤ m := by omega
  have h1 : (m : Int) ≤ 16384 := by omega
  go_enter Tryz.func59, Tryz.ntmps59
  go_wp2
  go_ret
  simp
theorem mayReset_any (x y z : Nat) (w : World) : Calls Tryz.prog 80 #[.agg #[.int .u32 x, .int .u32 y, .int .u32 z]] w fun e w' => e = .returned (.bool (mayReset (x, y, z))) ∧ Below w.heap.size w w' := by
  by_cases h1 : z ≤ 1
  · have hb : mayReset (x, y, z) = true := by simp [mayReset, h1]
    have e1 : decide ((z : Int) ≤ 1) = true := by simp; omega
    have HB := Lib.hid hb
    clear hb
    go_enter Tryz.func80, Tryz.ntmps80
    go_wp2
    go_ret
    exact ⟨by rw [HB.out]; rfl, ext_alloc _ _⟩
  · have e1 : decide ((z : Int) ≤ 1) = false := by simp; omega
    by_cases h2 : z = x
    · subst h2
      have hb : mayReset (z, y, z) = true := by simp [mayReset]
      have HB := Lib.hid hb
      clear hb
      go_enter Tryz.func80, Tryz.ntmps80
      go_wp2
      go_ret
      exact ⟨by rw [HB.out]; rfl, ext_alloc _ _⟩
    · have hb : mayReset (x, y, z) = false := by simp [mayReset, h2]; omega
      have e2 : ((z : Int) == (x : Int)) = false := by simp; omega
      have HB := Lib.hid hb
      have H2 := Lib.hid h2
      clear hb h2
      go_enter Tryz.func80, Tryz.ntmps80
      go_wp2
      go_ret
      exact ⟨by rw [HB.out]; rfl, ext_alloc _ _⟩
theorem above_any (m x B : Nat) (hm : m ≤ 16384) (w : World) (hc : w.cell? ⟨B, 0, .none⟩ = some (.int .u32 m)) :
    Calls Tryz.prog 78 #[.int .u32 x, .pointer (some ⟨B, 0, .none⟩)] w fun e w' => e = .returned (.bool (above m x)) ∧ w = w' := by
  have e : decide (2 * (m : Int) + 1 < (x : Int)) = above m x := by unfold above; apply decide_eq_decide.2; omega
  have E := Lib.hid e
  clear e
  go_enter Tryz.func78, Tryz.ntmps78
  go_wp2_with fail
  refine (mostLit_any m hm w).mono ?_
  rintro e w' ⟨rfl, rfl⟩
  go_wp2
  go_ret
  exact ⟨congrArg (fun b => Ending.returned (.bool b)) E.out, rfl⟩
end Go.Proofs.YtglhnmbfkbjemaaGreatDoor
namespace Go.Proofs.YtglhnmbfkbjemaaGreatDoor
open Go Go.RowKit Go.Joins
def clAbove (B : Nat) : Value := .func (.func 78) #[] #[.pointer (some ⟨B, 0, .none⟩)]
theorem any_none {α : Type} {p : α → Bool} {l : List α} (h : ∀ x ∈ l, p x = false) : l.any p = false := by
  rw [List.any_eq_false]; intro x hx; simp [h x hx]
theorem getD_mem {α : Type} {l : List α} {k : Nat} {d : α} (h : k < l.length) : l.getD k d ∈ l := by
  simp [List.getD, List.getElem?_eq_getElem h]
theorem all_of_getD {α : Type} {l : List α} {d : α} {P : α → Prop} (h : ∀ k, k < l.length → P (l.getD k d)) : ∀ x ∈ l, P x := by
  intro x hx
  obtain ⟨k, hk, rfl⟩ := List.getElem_of_mem hx
  have := h k hk
  simpa [List.getD, List.getElem?_eq_getElem hk] using this
def IdxPost {α : Type} (p : α → Bool) (l : List α) (w : World) (e : Ending) (w' : World) : Prop :=
  ∃ z : Int, e = .returned (.int .i64 z) ∧ -1 ≤ z ∧ (0 ≤ z ↔ l.any p = true) ∧ Below w.heap.size w w'
theorem idx_u32 (m B : Nat) (l : List Nat) (a : Option Addr) (n c : Nat) (hm : m ≤ 16384) (hn : n ≤ 140737488355328) (w : World) (h : Sees w a n c (l.map nv32)) (hc : w.cell? ⟨B, 0, .none⟩ = some (.int .u32 m)) :
    Calls Tryz.prog 98 #[.slice a n c, clAbove B] w (IdxPost (above m) l w) := by
  have hl := h.lenMap
  have HS := Lib.hid h
  have HL := Lib.hid hl
  have HC := Lib.hid hc
  clear h hl hc
  unfold clAbove
  go_enter Tryz.func98, Tryz.ntmps98
  go_wp2
  go_loop [5, 8] (fun v i => ∃ k : Nat, k ≤ n ∧ i = .int .i64 k ∧ Hid (∀ j, j < k → above m (l.getD j 0) = false)) (fun _ i => n - (intOf i).toNat)
  case atStart => exact ⟨0, Nat.zero_le _, rfl, fun j hj => absurd hj (by omega)⟩
  case round =>
    obtain ⟨k, hk, rfl, hno⟩ := hrel
    by_cases hlt : k < n
    · obtain ⟨b, off, rfl, hbw⟩ := HS.out.addr (by omega)
      have hcx := HS.out.num k hlt
      obtain ⟨x, hx⟩ : ∃ x, x = l.getD k 0 := ⟨_, rfl⟩
      rw [← hx] at hcx
      have HX := Lib.hid hx
      clear hx
      have W1 : IntKind.i64.wrap ((k : Int) + 1) = (k : Int) + 1 := IntWalk.i64_in _ (by omega)
      obtain ⟨q, hq⟩ : ∃ q, q = above m x := ⟨_, rfl⟩
      have HQ := Lib.hid hq
      clear hq
      go_wp2_with fail
      refine (above_any m x B hm w HC.out).mono ?_
      rw [← HQ.out]
      rintro e w' ⟨rfl, rfl⟩
      cases q with
      | true =>
        go_wp2
        go_ret
        refine ⟨k, rfl, by omega, ⟨fun _ => ?_, fun _ => by omega⟩, Below.refl _ _⟩
        exact List.any_eq_true.2 ⟨l.getD k 0, getD_mem (by rw [HL.out]; exact hlt), by rw [← HX.out]; exact HQ.out.symm⟩
      | false =>
        go_wp2
        go_round
        case rel =>
          refine ⟨k + 1, by omega, by go_num, fun j hj => ?_⟩
          rcases Nat.lt_or_ge j k with h | h
          · exact hno.out j h
          · have : j = k := by omega
            subst this
            rw [← HX.out]; exact HQ.out.symm
        case measure => simp [intOf]; omega
    · have hkn : k = n := by omega
      subst hkn
      go_wp2
      go_ret
      refine ⟨-1, rfl, by omega, ⟨fun h => absurd h (by decide), fun h => ?_⟩, Below.refl _ _⟩
      rw [any_none (all_of_getD (d := 0) (fun j hj => hno.out j (by rw [← HL.out]; exact hj)))] at h
      cases h
theorem has_u32 (m B : Nat) (l : List Nat) (a : Option Addr) (n c : Nat) (hm : m ≤ 16384) (hn : n ≤ 140737488355328) (w : World) (h : Sees w a n c (l.map nv32)) (hc : w.cell? ⟨B, 0, .none⟩ = some (.int .u32 m)) :
    Calls Tryz.prog 68 #[.slice a n c, clAbove B] w (fun e w' => e = .returned (.bool (l.any (above m))) ∧ Below w.heap.size w w') := by
  have HI := Lib.hid (idx_u32 m B l a n c hm hn w h hc)
  clear h hc
  obtain ⟨f, hf⟩ : ∃ f, f = clAbove B := ⟨_, rfl⟩
  rw [← hf] at HI ⊢
  have HF := Lib.hid hf
  clear hf
  go_enter Tryz.func68, Tryz.ntmps68
  go_wp2_with fail
  refine HI.out.mono ?_
  rintro e w' ⟨z, rfl, hz, hiff, hb⟩
  have e : decide (0 ≤ z) = l.any (above m) := by
    cases hq : l.any (above m) with
    | true => simpa using hiff.2 hq
    | false => simp; have := fun h => hiff.1 h; rw [hq] at this; exact Int.not_le.1 (fun h => by cases this h)
  have E := Lib.hid e
  clear e hiff
  go_wp2
  go_ret
  exact ⟨congrArg (fun b => Ending.returned (.bool b)) E.out, hb⟩
end Go.Proofs.YtglhnmbfkbjemaaGreatDoor
