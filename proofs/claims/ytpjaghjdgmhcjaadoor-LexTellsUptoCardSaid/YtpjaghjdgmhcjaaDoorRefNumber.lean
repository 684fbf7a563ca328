/- inquestref01.Number, by its contract. -/
import Derived.Test.YtpjaghjdgmhcjaaDoorRefWords
namespace Go.Proofs.YtpjaghjdgmhcjaaDoor
open Go Go.RowKit Go.Joins

/-- What holds at a round's head. -/
structure RefInv (l : List UInt8) (most k : Nat) (z : Int) (g : Bool) : Prop where
  dig : ∀ m, m < k → isDig (l.getD m 0) = true
  val : z = (min (numVal (l.take k)) 1099511627776 : Nat)
  great : g = decide (most < numVal (l.take k))

theorem ref_step (v v' d most : Nat) (z y : Int) (g o : Bool) (hv : z = (min v 1099511627776 : Nat)) (hg : g = decide (most < v)) (hs : v' = 10 * v + (d - 48)) (h48 : 48 ≤ d) (hm : most < 4294967296)
    (hy : y = 10 * z + ((d : Int) - 48)) (ho : o = (g || decide ((most : Int) < y))) : min y 1099511627776 = (min v' 1099511627776 : Nat) ∧ o = decide (most < v') := by
  refine ⟨by omega, ?_⟩
  rw [ho, hg]
  by_cases h1 : most < v
  · rw [decide_eq_true h1, decide_eq_true (show most < v' by omega), Bool.true_or]
  · rw [decide_eq_false h1, Bool.false_or]
    by_cases h2 : (most : Int) < y
    · rw [decide_eq_true h2, decide_eq_true (show most < v' by omega)]
    · rw [decide_eq_false h2, decide_eq_false (show ¬ most < v' by omega)]

theorem RefInv.step {l : List UInt8} {most k : Nat} {z : Int} {g : Bool} (h : RefInv l most k z g) (hk : k < l.length) (hm : most < 4294967296) (hd : isDig (l.getD k 0) = true) (y : Int) (hy : y = 10 * z + (((l.getD k 0).toNat : Int) - 48)) (o : Bool) (ho : o = (g || decide ((most : Int) < y))) :
    RefInv l most (k + 1) (min y 1099511627776) o := by
  have h48 : 48 ≤ (l.getD k 0).toNat := by simp [isDig] at hd; exact hd.1
  have hs : numVal (l.take (k + 1)) = 10 * numVal (l.take k) + ((l.getD k 0).toNat - 48) := by rw [take_snoc l k hk, numVal_snoc]
  obtain ⟨e1, e2⟩ := ref_step _ _ _ most z y g o h.val h.great hs h48 hm hy ho
  refine ⟨fun m hm => ?_, e1, e2⟩
  rcases Nat.lt_or_ge m k with h' | h'
  · exact h.dig m h'
  · have : m = k := by omega
    subst this; exact hd

theorem at_index (s : ByteArray) (k : Nat) (h : k < s.size) : s.data.toList.getD k 0 = s[k]'h := by
  have hl : s.data.toList.length = s.size := by simp
  rw [List.getD, List.getElem?_eq_getElem (by omega)]
  simp [ByteArray.getElem_eq_getElem_data]

theorem num_bad_post' {l : List UInt8} {most k x : Nat} {w : World} (hk : k < l.length) (hx : x = (l.getD k 0).toNat) (hb : x < 48 ∨ 57 < x) :
    NumPost l most w (.returned (.tuple #[.int .u32 0, .int .i64 5])) w := by
  have hd : isDig (l.getD k 0) = false := by
    rw [hx] at hb
    unfold isDig
    rcases hb with h | h
    · rw [decide_eq_false (by omega)]; rfl
    · rw [decide_eq_false (show ¬ (l.getD k 0).toNat ≤ 57 by omega), Bool.and_false]
  have e := num_bad l most k hk hd
  exact ⟨by rw [numOf, e]; rfl, Below.refl _ _⟩

set_option maxHeartbeats 1600000 in
theorem refnumber_any (s : ByteArray) (most : Nat) (w : World) (hn : s.size ≤ 1000000000) (hm : most < 4294967296) (h0 : 0 < s.size) :
    Calls Tryd.prog 14 #[.string s, .int .u32 most] w (NumPost s.data.toList most w) := by
  have hl : s.data.toList.length = s.size := by simp
  have hh := head_of s h0
  have E : s.toList.isEmpty = false := by
    rw [ByteArray.toList_eq]
    cases h : s.data.toList with
    | nil => rw [h] at hl; simp at hl; omega
    | cons => rfl
  have HH := Lib.hid hh
  have HL := Lib.hid hl
  clear hl hh
  have walk : (hz : ¬ (s.data.toList.head? = some 48 ∧ 1 < s.data.toList.length)) → (hc : (((s[0]'h0).toNat : Int) == 48) = false ∨ ((((s[0]'h0).toNat : Int) == 48) = true ∧ (s.toList == [48]) = true)) →
      Calls Tryd.prog 14 #[.string s, .int .u32 most] w (NumPost s.data.toList most w) := by
    intro hz hc
    have HZ := Lib.hid hz
    clear hz
    rcases hc with hc | ⟨hc, hc2⟩
    all_goals
      go_enter Tryd.func14, Tryd.ntmps14
      go_wp2
      go_loop [6, 7, 8] (fun n o i => ∃ (k : Nat) (z : Int) (g : Bool), k ≤ s.size ∧ 0 ≤ z ∧ z ≤ 1099511627776 ∧ i = .int .i64 k ∧ o = .bool g ∧ n = .int .u64 z ∧ Hid (RefInv s.data.toList most k z g)) (fun _ _ i => s.size - (intOf i).toNat)
      case atStart => exact ⟨0, 0, false, by omega, by omega, by omega, rfl, rfl, rfl, ⟨fun m hm => absurd hm (by omega), rfl, by simp [numVal]⟩⟩
      case round =>
        obtain ⟨k, z, g, hk, hz0, hz1, rfl, rfl, rfl, hinv⟩ := hrel
        by_cases hlt : k < s.size
        · have hat := Lib.hid (at_index s k hlt)
          cases g with
          | true =>
            go_wp2
            all_goals first
              | (go_ret2; exact num_bad_post' (w := w) (by rw [HL.out]; exact hlt) (by rw [hat.out]) (by omega))
              | (go_round
                 case rel => exact ⟨k + 1, _, _, by omega, by omega, by omega, by go_num, rfl, rfl, hinv.out.step (by rw [HL.out]; exact hlt) hm (dig_of (x := (s[k]'hlt).toNat) (by rw [hat.out]) (by omega) (by omega)) _ (by rw [hat.out]) _ rfl⟩
                 case measure => simp [intOf]; omega)
          | false =>
            go_wp2
            all_goals first
              | (go_ret2; exact num_bad_post' (w := w) (by rw [HL.out]; exact hlt) (by rw [hat.out]) (by omega))
              | (go_round
                 case rel => exact ⟨k + 1, _, _, by omega, by omega, by omega, by go_num, rfl, rfl, hinv.out.step (by rw [HL.out]; exact hlt) hm (dig_of (x := (s[k]'hlt).toNat) (by rw [hat.out]) (by omega) (by omega)) _ (by rw [hat.out]) _ rfl⟩
                 case measure => simp [intOf]; omega)
        · have hks : k = s.size := by omega
          have hfull : s.data.toList.take k = s.data.toList := List.take_of_length_le (by rw [HL.out]; omega)
          have hall : ∀ m, m < s.data.toList.length → isDig (s.data.toList.getD m 0) = true := fun m hm => hinv.out.dig m (by rw [HL.out] at hm; omega)
          have hne : s.data.toList ≠ [] := by intro e; have := HL.out; rw [e] at this; simp at this; omega
          have he := num_end s.data.toList most hne HZ.out hall
          have hv := hinv.out.val
          have hg := hinv.out.great
          rw [hfull] at hv hg
          have HE := Lib.hid he
          have HV := Lib.hid hv
          have HG := Lib.hid hg
          clear he hfull hks hall hv hg
          cases g with
          | true =>
            go_wp2
            go_ret2
            have h : most < numVal s.data.toList := of_decide_eq_true HG.out.symm
            have e3 := HE.out
            rw [if_pos h] at e3
            exact ⟨by rw [numOf, e3]; rfl, Below.refl _ _⟩
          | false =>
            have h : ¬ most < numVal s.data.toList := of_decide_eq_false HG.out.symm
            have e0 := HE.out
            rw [if_neg h] at e0
            have hz2 : z ≤ 4294967295 := by have := HV.out; omega
            have hzv : z = (numVal s.data.toList : Nat) := by have := HV.out; omega
            have H0 := Lib.hid e0
            have HZV := Lib.hid hzv
            clear e0 h hzv
            go_wp2
            go_ret2
            exact ⟨by rw [numOf, H0.out, if_pos rfl, ← HZV.out]; rfl, Below.refl _ _⟩
  have hsz : s.toList = s.data.toList := ByteArray.toList_eq s
  by_cases h48 : (((s[0]'h0).toNat : Int) == 48) = true
  · have e48 : s[0]'h0 = 48 := UInt8.toNat_inj.1 (by show (s[0]'h0).toNat = 48; have : ((s[0]'h0).toNat : Int) = 48 := by simpa using h48
                                                     omega)
    by_cases h1 : s.size = 1
    · refine walk (by rintro ⟨_, h⟩; rw [HL.out] at h; omega) (Or.inr ⟨h48, ?_⟩)
      rw [hsz]
      have hl := HL.out
      have hd := HH.out
      cases hx : s.data.toList with
      | nil => rw [hx] at hl; simp at hl; omega
      | cons x r =>
        rw [hx] at hl hd
        have hr : r = [] := List.eq_nil_of_length_eq_zero (by simp at hl; omega)
        subst hr
        have : x = 48 := by simp at hd; rw [hd, e48]
        subst this; rfl
    · have hn2 : (s.toList == [48]) = false := by
        rw [hsz, beq_eq_false_iff_ne]
        intro e
        have := HL.out
        rw [e] at this; simp at this; omega
      have ee : numErr s.data.toList most = 5 := by
        unfold numErr
        rw [if_pos]
        right; left
        exact ⟨by rw [HH.out, e48], by rw [HL.out]; omega⟩
      have EE := Lib.hid ee
      clear ee walk hsz e48
      go_enter Tryd.func14, Tryd.ntmps14
      go_wp2
      go_ret2
      exact ⟨by rw [numOf, EE.out]; rfl, Below.refl _ _⟩
  · have h48' : (((s[0]'h0).toNat : Int) == 48) = false := by simpa using h48
    refine walk ?_ (Or.inl h48')
    rintro ⟨e, _⟩
    rw [HH.out] at e
    apply h48
    have e' : s[0]'h0 = 48 := by simpa using e
    rw [e']; rfl

set_option maxHeartbeats 400000 in
theorem refnumber_empty (most : Nat) (w : World) : Calls Tryd.prog 14 #[.string (str []), .int .u32 most] w (NumPost [] most w) := by
  have E : (str []).toList.isEmpty = true := by rw [ByteArray.toList_eq]; rfl
  go_enter Tryd.func14, Tryd.ntmps14
  go_wp2
  go_ret2
  exact ⟨by simp [numOf, numErr], Below.refl _ _⟩

/-- The document's Number, at every word. -/
theorem refnumber_all (l : List UInt8) (most : Nat) (w : World) (hn : l.length ≤ 1000000000) (hm : most < 4294967296) :
    Calls Tryd.prog 14 #[.string (str l), .int .u32 most] w (NumPost l most w) := by
  cases l with
  | nil => exact refnumber_empty most w
  | cons x r =>
    have hs := size_str (x :: r)
    exact refnumber_any (str (x :: r)) most w (by rw [hs]; exact hn) hm (by rw [hs]; simp)

theorem refnumber_named (l : List UInt8) (most : Nat) (w : World) (nv : Nat) (er : Int) (h1 : nv = numOf l most) (h2 : er = numErr l most) (hn : l.length ≤ 1000000000) (hm : most < 4294967296) :
    Calls Tryd.prog 14 #[.string (str l), .int .u32 most] w (fun e w' => e = .returned (.tuple #[.int .u32 nv, .int .i64 er]) ∧ Below w.heap.size w w') := by
  subst h1; subst h2
  exact refnumber_all l most w hn hm
end Go.Proofs.YtpjaghjdgmhcjaaDoor
