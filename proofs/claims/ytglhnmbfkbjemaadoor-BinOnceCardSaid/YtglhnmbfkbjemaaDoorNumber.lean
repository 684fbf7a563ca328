/- lex.Number, by its contract. -/
import Derived.Test.YtglhnmbfkbjemaaDoorClone
namespace Go.Proofs.YtglhnmbfkbjemaaDoor
open Go Go.RowKit

/-- A decimal digit. -/
def isDig (u : UInt8) : Bool := decide (48 ≤ u.toNat) && decide (u.toNat ≤ 57)
/-- The number that digits say. -/
def numVal (l : List UInt8) : Nat := l.foldl (fun n u => 10 * n + (u.toNat - 48)) 0
/-- The error of a word as a number of at most 'most'. -/
def numErr (l : List UInt8) (most : Nat) : Int :=
  if l = [] ∨ (l.head? = some 48 ∧ 1 < l.length) ∨ l.all isDig = false then 5 else if most < numVal l then 3 else 0
def numOf (l : List UInt8) (most : Nat) : Nat := if numErr l most = 0 then numVal l else 0

def NumPost (l : List UInt8) (most : Nat) (w : World) (e : Ending) (w' : World) : Prop :=
  e = .returned (.tuple #[.int .u32 (numOf l most : Nat), .int .i64 (numErr l most)]) ∧ Below w.heap.size w w'

theorem numVal_snoc (l : List UInt8) (u : UInt8) : numVal (l ++ [u]) = 10 * numVal l + (u.toNat - 48) := by simp [numVal]

theorem take_snoc (l : List UInt8) (k : Nat) (h : k < l.length) : l.take (k + 1) = l.take k ++ [l.getD k 0] := by
  rw [List.take_succ_eq_append_getElem h]
  simp [List.getD, List.getElem?_eq_getElem h]

theorem numVal_mono (l : List UInt8) (k : Nat) : ∀ m, k ≤ m → m ≤ l.length → numVal (l.take k) ≤ numVal (l.take m) := by
  intro m
  induction m with
  | zero => intro h _; have : k = 0 := by omega
            subst this; exact Nat.le_refl _
  | succ m ih =>
    intro h hl
    rcases Nat.lt_or_ge k (m + 1) with h' | h'
    · have := ih (by omega) (by omega)
      rw [take_snoc l m (by omega), numVal_snoc]
      omega
    · have : k = m + 1 := by omega
      subst this; exact Nat.le_refl _

theorem below_bytes (w : World) (e : TypeId) (s : ByteArray) : Below w.heap.size w (Lib.bytesWorld w e s) :=
  ⟨rfl, rfl, rfl, by rw [Lib.bytesWorld_size]; omega, fun k hk => Lib.bytesWorld_at_old w e s k hk⟩

theorem num_bad (l : List UInt8) (most k : Nat) (hk : k < l.length) (hb : isDig (l.getD k 0) = false) : numErr l most = 5 := by
  unfold numErr
  rw [if_pos]
  right; right
  rw [List.all_eq_false]
  exact ⟨l.getD k 0, by simp [List.getD, List.getElem?_eq_getElem hk], by rw [hb]; decide⟩

theorem num_end (l : List UInt8) (most : Nat) (h0 : l ≠ []) (hz : ¬ (l.head? = some 48 ∧ 1 < l.length)) (hd : ∀ m, m < l.length → isDig (l.getD m 0) = true) :
    numErr l most = if most < numVal l then 3 else 0 := by
  unfold numErr
  rw [if_neg]
  intro h
  rcases h with h | h | h
  · exact h0 h
  · exact hz h
  · rw [List.all_eq_false] at h
    obtain ⟨x, hx, hn⟩ := h
    obtain ⟨m, hm, rfl⟩ := List.getElem_of_mem hx
    have := hd m hm
    simp [List.getD, List.getElem?_eq_getElem hm] at this
    exact hn this

theorem head_of (s : ByteArray) (h0 : 0 < s.size) : s.data.toList.head? = some (s[0]'h0) := by
  have hl : s.data.toList.length = s.size := by simp
  have : 0 < s.data.toList.length := by omega
  rw [List.head?_eq_getElem?, List.getElem?_eq_getElem this]
  simp [ByteArray.getElem_eq_getElem_data]

/-- What holds at a round's head: the digits so far; the number, unless it has passed the limit. -/
structure NumInv (l : List UInt8) (most k : Nat) (z : Int) (o : Bool) : Prop where
  dig : ∀ m, m < k → isDig (l.getD m 0) = true
  val : o = false → z = numVal (l.take k)
  low : o = false → numVal (l.take k) ≤ most
  high : o = true → most < numVal (l.take k)

theorem NumInv.skip {l : List UInt8} {most k : Nat} {z : Int} (h : NumInv l most k z true) (hk : k < l.length) (hd : isDig (l.getD k 0) = true) : NumInv l most (k + 1) z true := by
  refine ⟨fun m hm => ?_, (fun e => by cases e), (fun e => by cases e), fun _ => Nat.lt_of_lt_of_le (h.high rfl) (numVal_mono l k (k + 1) (by omega) (by omega))⟩
  rcases Nat.lt_or_ge m k with h' | h'
  · exact h.dig m h'
  · have : m = k := by omega
    subst this; exact hd

theorem NumInv.step {l : List UInt8} {most k : Nat} {z : Int} (h : NumInv l most k z false) (hk : k < l.length) (hd : isDig (l.getD k 0) = true) (y : Int) (hy : y = 10 * z + (((l.getD k 0).toNat : Int) - 48)) (o : Bool) (ho : o = decide ((most : Int) < y)) : NumInv l most (k + 1) y o := by
  have e : y = (numVal (l.take (k + 1)) : Nat) := by
    have hv := h.val rfl
    rw [take_snoc l k hk, numVal_snoc]
    have : 48 ≤ (l.getD k 0).toNat := by simp [isDig] at hd; exact hd.1
    omega
  refine ⟨fun m hm => ?_, fun _ => e, fun e' => ?_, fun e' => ?_⟩
  · rcases Nat.lt_or_ge m k with h' | h'
    · exact h.dig m h'
    · have : m = k := by omega
      subst this; exact hd
  · subst e'; simp at ho; omega
  · subst e'; simp at ho; omega

theorem num_bad_post {l : List UInt8} {most k x : Nat} {w : World} {s : ByteArray} (hk : k < l.length) (hx : x = (l.getD k 0).toNat) (hb : x < 48 ∨ 57 < x) :
    NumPost l most w (.returned (.tuple #[.int .u32 0, .int .i64 5])) (Lib.bytesWorld w 5 s) := by
  have hd : isDig (l.getD k 0) = false := by
    rw [hx] at hb
    unfold isDig
    rcases hb with h | h
    · rw [decide_eq_false (by omega)]; rfl
    · rw [decide_eq_false (show ¬ (l.getD k 0).toNat ≤ 57 by omega), Bool.and_false]
  have e := num_bad l most k hk hd
  exact ⟨by rw [numOf, e]; rfl, below_bytes w _ s⟩

theorem dig_of {l : List UInt8} {k x : Nat} (hx : x = (l.getD k 0).toNat) (h1 : 48 ≤ x) (h2 : x ≤ 57) : isDig (l.getD k 0) = true := by
  rw [hx] at h1 h2
  unfold isDig
  rw [decide_eq_true h1, decide_eq_true h2]; rfl

set_option maxRecDepth 100000 in
set_option maxHeartbeats 1600000 in
theorem number_any (s : ByteArray) (most : Nat) (w : World) (hn : s.size ≤ 1000000000) (hm : most < 4294967296) (h0 : 0 < s.size) :
    Calls Tryd.prog 46 #[.string s, .int .u32 most] w (NumPost s.data.toList most w) := by
  have q := fun (W : World) => Lib.run_convert_string_bytes (P := Tryd.prog) W 9 22 5 s Tryd.underlying9 Tryd.underlying22 Tryd.underlying5
  have hl : s.data.toList.length = s.size := by simp
  have hh := head_of s h0
  have E : s.toList.isEmpty = false := by
    rw [ByteArray.toList_eq]
    cases h : s.data.toList with
    | nil => rw [h] at hl; simp at hl; omega
    | cons => rfl
  have HH := Lib.hid hh
  have HL := Lib.hid hl
  clear hl hh
  go_enter Tryd.func46, Tryd.ntmps46
  go_wp2
  · go_ret2
    have h48 : ((s[0]'h0).toNat : Int) = 48 := by assumption
    have h1 : (1 : Int) < (s.size : Int) := by assumption
    have e48 : s[0]'h0 = 48 := UInt8.toNat_inj.1 (by show (s[0]'h0).toNat = 48; omega)
    have ee : numErr s.data.toList most = 5 := by
      unfold numErr
      rw [if_pos]
      right; left
      exact ⟨by rw [HH.out, e48], by rw [HL.out]; omega⟩
    exact ⟨by rw [numOf, ee]; rfl, Below.refl _ _⟩
  all_goals
    have hz : ¬ (s.data.toList.head? = some 48 ∧ 1 < s.data.toList.length) := by
      rw [HH.out, HL.out]
      rintro ⟨e, h⟩
      have e' : s[0]'h0 = 48 := by simpa using e
      first
        | (exfalso; omega)
        | (have hne : ¬ ((s[0]'h0).toNat : Int) = 48 := by assumption
           exact hne (by rw [e']; rfl))
    have HZ := Lib.hid hz
    clear hz
    go_loop [6, 7, 9, 25] (fun n o x i => ∃ (k : Nat) (z : Int) (ov : Bool), k ≤ s.size ∧ 0 ≤ z ∧ z ≤ 42949672969 ∧ i = .int .i64 k ∧ o = .bool ov ∧ n = .int .u64 z ∧ (ov = false → z ≤ 4294967295) ∧ Hid (NumInv s.data.toList most k z ov)) (fun _ _ _ i => s.size - (intOf i).toNat)
    case atStart => exact ⟨0, 0, false, by omega, by omega, by omega, rfl, rfl, rfl, fun _ => by omega, ⟨fun m hm => absurd hm (by omega), fun _ => rfl, fun _ => Nat.zero_le _, (fun e => by cases e)⟩⟩
    case round =>
      obtain ⟨k, z, ov, hk, hz0, hz1, rfl, rfl, rfl, hzo, hinv⟩ := hrel
      by_cases hlt : k < s.size
      · obtain ⟨x, hx⟩ : ∃ x : Nat, x = (s.data.toList.getD k 0).toNat := ⟨_, rfl⟩
        have hx256 : x < 256 := by rw [hx]; exact UInt8.toNat_lt _
        have hcx : (Lib.bytesWorld w 5 s).cell? ⟨w.heap.size, k, none⟩ = some (.int .u8 (x : Int)) := by rw [hx]; exact Lib.bytesWorld_cell w _ s k hlt
        have HX := Lib.hid hx
        clear hx
        cases ov with
        | true =>
          clear hzo
          go_wp2
          all_goals first
            | (go_ret2; exact num_bad_post (by rw [HL.out]; exact hlt) HX.out (by omega))
            | (go_round
               case rel => exact ⟨k + 1, z, true, by omega, hz0, hz1, by go_num, rfl, rfl, (fun e => by cases e), hinv.skip (by rw [HL.out]; exact hlt) (dig_of HX.out (by omega) (by omega))⟩
               case measure => simp [intOf]; omega)
        | false =>
          have hz2 := hzo rfl
          clear hzo
          go_wp2
          all_goals first
            | (go_ret2; exact num_bad_post (by rw [HL.out]; exact hlt) HX.out (by omega))
            | (go_round
               case rel => exact ⟨k + 1, 10 * z + ((x : Int) - 48), decide ((most : Int) < 10 * z + ((x : Int) - 48)), by omega, by omega, by omega, by go_num, rfl, rfl, (fun e => by simp at e; omega), hinv.step (by rw [HL.out]; exact hlt) (dig_of HX.out (by omega) (by omega)) _ (by rw [HX.out]) _ rfl⟩
               case measure => simp [intOf]; omega)
      · have hks : k = s.size := by omega
        have hfull : s.data.toList.take k = s.data.toList := List.take_of_length_le (by rw [HL.out]; omega)
        have hall : ∀ m, m < s.data.toList.length → isDig (s.data.toList.getD m 0) = true := fun m hm => hinv.dig m (by rw [HL.out] at hm; omega)
        have hne : s.data.toList ≠ [] := by intro e; have := HL.out; rw [e] at this; simp at this; omega
        have he := num_end s.data.toList most hne HZ.out hall
        have HE := Lib.hid he
        have HF := Lib.hid hfull
        clear he hfull hks hall
        cases ov with
        | true =>
          go_wp2
          go_ret2
          have h := hinv.high rfl
          rw [HF.out] at h
          have e3 := HE.out
          rw [if_pos h] at e3
          exact ⟨by rw [numOf, e3]; rfl, below_bytes w _ s⟩
        | false =>
          have hv := hinv.val rfl
          have hlo := hinv.low rfl
          rw [HF.out] at hv hlo
          have e0 := HE.out
          rw [if_neg (by omega)] at e0
          have HV := Lib.hid hv
          have H0 := Lib.hid e0
          have hz2 := hzo rfl
          clear hv e0 hzo
          go_wp2
          go_ret2
          exact ⟨by rw [numOf, H0.out, if_pos rfl, ← HV.out]; rfl, below_bytes w _ s⟩

set_option maxRecDepth 100000 in
set_option maxHeartbeats 400000 in
theorem number_empty (most : Nat) (w : World) : Calls Tryd.prog 46 #[.string (str []), .int .u32 most] w (NumPost [] most w) := by
  have E : (str []).toList.isEmpty = true := by rw [ByteArray.toList_eq]; rfl
  go_enter Tryd.func46, Tryd.ntmps46
  go_wp2
  go_ret2
  exact ⟨by simp [numOf, numErr], Below.refl _ _⟩

/-- Number, at every word. -/
theorem number_all (l : List UInt8) (most : Nat) (w : World) (hn : l.length ≤ 1000000000) (hm : most < 4294967296) :
    Calls Tryd.prog 46 #[.string (str l), .int .u32 most] w (NumPost l most w) := by
  cases l with
  | nil => exact number_empty most w
  | cons x r =>
    have hs := size_str (x :: r)
    exact number_any (str (x :: r)) most w (by rw [hs]; exact hn) hm (by rw [hs]; simp)

/-- The same, its answers under names. -/
theorem number_named (l : List UInt8) (most : Nat) (w : World) (nv : Nat) (er : Int) (h1 : nv = numOf l most) (h2 : er = numErr l most) (hn : l.length ≤ 1000000000) (hm : most < 4294967296) :
    Calls Tryd.prog 46 #[.string (str l), .int .u32 most] w (fun e w' => e = .returned (.tuple #[.int .u32 nv, .int .i64 er]) ∧ Below w.heap.size w w') := by
  subst h1; subst h2
  exact number_all l most w hn hm
end Go.Proofs.YtglhnmbfkbjemaaDoor
