/- bin.delta, by its contract. -/
import Derived.Test.YtglhnmbfkbjemaaDoorBDelta
import Derived.Test.YtglhnmbfkbjemaaDoorNBase
import Derived.Laws.BitsAllLaws
import Derived.Laws.BitsLemmas
import Derived.Laws.Bits64b
namespace Go.Proofs.YtglhnmbfkbjemaaDoor
open Go Go.RowKit Go.Joins

theorem andNot128 (x : Nat) (h : x < 256) : bits .andNot .u8 (x : Int) 128 = ((x % 128 : Nat) : Int) := by
  have h1 := u8_andNot_nat x 128 h (by omega)
  rw [show ((128 : Nat) : Int) = 128 by rfl] at h1
  rw [h1]
  have h2 : x &&& (255 - 128) = x % 128 := Nat.and_two_pow_sub_one_eq_mod x 7
  rw [h2]

/-- What delta answers. -/
def DeltaPost (b : List UInt8) (w : World) (e : Ending) (w' : World) : Prop :=
  w' = w ∧ match deltaL 4 5 b with
    | .ok (m, k) => e = .returned (.tuple #[.int .u32 (m : Int), .int .i64 (k : Int), .int .i64 0])
    | .error er => e = .returned (.tuple #[.int .u32 0, .int .i64 0, .int .i64 er])

set_option maxRecDepth 100000 in
set_option maxHeartbeats 1600000 in
theorem delta_any (bs : List UInt8) (a : Option Addr) (n c : Nat) (w : World) (h : Sees w a n c (bs.map bv)) (hn : n ≤ 140737488355328) :
    Calls Tryd.prog 25 #[.slice a n c] w (DeltaPost bs w) := by
  have HL := Lib.hid h.lenMap
  have HS := Lib.hid h
  clear h
  go_enter Tryd.func25, Tryd.ntmps25
  go_wp2
  go_loop [5, 6, 7, 8, 11, 26, 40] (fun s _ _ _ i _ _ => ∃ k sm : Nat, k ≤ n ∧ k ≤ 4 ∧ i = .int .i64 k ∧ s = .int .u64 sm ∧ Hid (sm < 128 ^ k) ∧ Hid (deltaL 4 5 bs = dGo 4 5 (bs.drop k) k sm)) (fun _ _ _ _ i _ _ => n - (intOf i).toNat)
  case atStart => exact ⟨0, 0, Nat.zero_le _, by omega, rfl, rfl, by simp [Hid], by simp [Hid, deltaL]⟩
  case round =>
    obtain ⟨k, sm, hk, hk4, rfl, rfl, hsm, hd⟩ := hrel
    by_cases hlt : k < n
    · obtain ⟨b, off, rfl, hbw⟩ := HS.out.addr (by omega)
      have hcx := HS.out.byte k hlt
      obtain ⟨x, hx⟩ : ∃ x, x = (bs.getD k 0).toNat := ⟨_, rfl⟩
      have hx256 : x < 256 := by rw [hx]; exact (bs.getD k 0).toNat_lt
      have hcx2 : w.cell? ⟨b, off + k, none⟩ = some (.int .u8 (x : Int)) := by rw [hx]; exact hcx
      have hdr : bs.drop k = UInt8.ofNat x :: bs.drop (k + 1) := by
        rw [List.drop_eq_getElem_cons (by rw [HL.out]; exact hlt)]
        congr 1
        rw [hx]
        simp [List.getD, List.getElem?_eq_getElem (show k < bs.length by rw [HL.out]; exact hlt)]
      obtain ⟨y, hy⟩ : ∃ y, y = x % 128 := ⟨_, rfl⟩
      obtain ⟨p, hp⟩ : ∃ p, p = y * 128 ^ k := ⟨_, rfl⟩
      obtain ⟨t, ht⟩ : ∃ t, t = sm + p := ⟨_, rfl⟩
      have hy128 : y < 128 := by omega
      have hpw : 128 ^ k ≤ 128 ^ 4 := Nat.pow_le_pow_right (by omega) hk4
      have hp9 : p ≤ 127 * 128 ^ 4 := by
        rw [hp]
        exact Nat.mul_le_mul (by omega) hpw
      have hsm9 := hsm.out
      have hpk : ((128 ^ k : Nat) : Int) = 2 ^ (7 * k) := by
        rw [Int.pow_mul]
        norm_cast
      have hdd : deltaL 4 5 bs = if 4294967295 < t ∨ (128 ≤ x ∧ k = 4) ∨ (x = 0 ∧ 0 < k) then .error 5 else if x < 128 then .ok (t, k + 1) else dGo 4 5 (bs.drop (k + 1)) (k + 1) t := by
        rw [hd.out, hdr, dGo, u8_of x hx256, ht, hp, hy]
      have ht2 : t < 128 ^ (k + 1) := by
        have h1 : p + 128 ^ k ≤ 128 * 128 ^ k := by
          have h2 : (y + 1) * 128 ^ k ≤ 128 * 128 ^ k := Nat.mul_le_mul (by omega) (Nat.le_refl _)
          rw [Nat.add_mul, Nat.one_mul] at h2
          rw [hp]; exact h2
        rw [Nat.pow_succ, Nat.mul_comm (128 ^ k) 128]
        omega
      have A1 : bits .andNot .u8 (x : Int) 128 = (y : Int) := by rw [andNot128 x hx256, hy]
      have A2 : IntKind.u64.wrap (y : Int) = (y : Int) := by rw [IntKind.wrap_u64]; omega
      have A3 : IntKind.u64.wrap ((y : Int) * 2 ^ (7 * k)) = (p : Int) := by
        rw [← hpk, ← Int.natCast_mul, ← hp, IntKind.wrap_u64]
        omega
      have A4 : bits .or .u64 (sm : Int) (p : Int) = (t : Int) := by
        rw [bits_or_u64_nat sm p (by omega) (by omega), ht]
        congr 1
        rw [hp, Nat.mul_comm y, show 128 ^ k = 2 ^ (7 * k) by rw [Nat.pow_mul], Nat.or_comm, ← Nat.two_pow_add_eq_or_of_lt (by rw [Nat.pow_mul]; exact hsm9), Nat.add_comm]
      have ht9 : t < 18446744073709551616 := by omega
      have HT2 := Lib.hid ht2
      have HDD := Lib.hid hdd
      have W1 : IntKind.i64.wrap ((k : Int) + 1) = (k : Int) + 1 := IntWalk.i64_in _ (by omega)
      clear hcx hx hdr hy hp ht hpw hp9 hsm9 hpk hdd ht2 hsm hd
      by_cases c1 : 4294967295 < t
      · have e1 : decide ((4294967295 : Int) < (t : Int)) = true := by simp; omega
        have HE : Hid (deltaL 4 5 bs = .error 5) := by show _ = _; rw [HDD.out, if_pos (Or.inl c1)]
        clear c1
        go_wp2
        all_goals go_ret3
        all_goals exact ⟨rfl, by rw [HE.out]; rfl⟩
      have e1 : decide ((4294967295 : Int) < (t : Int)) = false := by simp; omega
      have T1 : IntKind.u32.wrap (t : Int) = (t : Int) := IntWalk.u32_in _ (by omega)
      by_cases c2 : 128 ≤ x
      · have e2 : decide ((128 : Int) ≤ (x : Int)) = true := by simp; omega
        by_cases c3 : k = 4
        · have e3 : ((k : Int) == 4) = true := by simp; omega
          have HE : Hid (deltaL 4 5 bs = .error 5) := by show _ = _; rw [HDD.out, if_pos (Or.inr (Or.inl ⟨c2, c3⟩))]
          clear c1 c2 c3
          go_wp2
          go_ret3
          exact ⟨rfl, by rw [HE.out]; rfl⟩
        · have e3 : ((k : Int) == 4) = false := by simp; omega
          have e4 : ((x : Int) == 0) = false := by simp; omega
          have HE : Hid (deltaL 4 5 bs = dGo 4 5 (bs.drop (k + 1)) (k + 1) t) := by show _ = _; rw [HDD.out, if_neg (by omega), if_neg (by omega)]
          have hk5 : k + 1 ≤ 4 := by omega
          clear c1 c2 c3
          go_wp2
          go_round
          case rel => exact ⟨k + 1, t, by omega, hk5, by go_num, rfl, HT2.out, HE.out⟩
          case measure => simp [intOf]; omega
      · have e2 : decide ((128 : Int) ≤ (x : Int)) = false := by simp; omega
        by_cases c4 : x = 0 ∧ 0 < k
        · have e4 : ((x : Int) == 0) = true := by simp; omega
          have e5 : decide ((0 : Int) < (k : Int)) = true := by simp; omega
          have e6 : decide (0 < k) = true := decide_eq_true c4.2
          have e7 : (0 < k) = True := eq_true c4.2
          have e8 : (x = 0) = True := eq_true c4.1
          have HE : Hid (deltaL 4 5 bs = .error 5) := by show _ = _; rw [HDD.out, if_pos (Or.inr (Or.inr c4))]
          clear c1 c2 c4
          go_wp2
          go_ret3
          exact ⟨rfl, by rw [HE.out]; rfl⟩
        · have HE : Hid (deltaL 4 5 bs = .ok (t, k + 1)) := by show _ = _; rw [HDD.out, if_neg (by omega), if_pos (by omega)]
          by_cases c5 : x = 0
          · have e4 : ((x : Int) == 0) = true := by simp; omega
            have e6 : decide (0 < k) = false := decide_eq_false (by omega)
            have e7 : (0 < k) = False := eq_false (by omega)
            have e8 : (x = 0) = True := eq_true c5
            clear c1 c2 c4 c5
            go_wp2
            go_ret3
            exact ⟨rfl, by rw [HE.out]; rfl⟩
          · have e4 : ((x : Int) == 0) = false := by simp; omega
            clear c1 c2 c4 c5
            go_wp2
            go_ret3
            exact ⟨rfl, by rw [HE.out]; rfl⟩
    · obtain rfl : n = k := by omega
      have HE : Hid (deltaL 4 5 bs = .error 4) := by
        show _ = _
        rw [hd.out, List.drop_of_length_le (by rw [HL.out]; exact Nat.le_refl _)]
        rfl
      clear hd hsm
      go_wp2
      go_ret3
      exact ⟨rfl, by rw [HE.out]; rfl⟩
end Go.Proofs.YtglhnmbfkbjemaaDoor
