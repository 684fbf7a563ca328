/- inquestref01.digits and Write, by their contracts. -/
import Derived.Test.YtpjaghjdgmhcjaaDoorRefNumbers
import Derived.Test.YtpjaghjdgmhcjaaDoorDec
namespace Go.Proofs.YtpjaghjdgmhcjaaDoor
open Go Go.RowKit Go.Joins

/-- One digit. -/
def dig1 (d : Nat) : List UInt8 := [UInt8.ofNat (48 + d)]

theorem digit_slice (d : Nat) (hd : d < 10) (W : World) : (Instr.slice 9 (.string { data := #[48, 49, 50, 51, 52, 53, 54, 55, 56, 57] }) (some (.int .u32 (d : Int))) (some (.int .u32 ((d : Int) + 1))) none).run Tryd.prog W = .ok (.string (str (dig1 d))) W := by
  have : d = 0 ∨ d = 1 ∨ d = 2 ∨ d = 3 ∨ d = 4 ∨ d = 5 ∨ d = 6 ∨ d = 7 ∨ d = 8 ∨ d = 9 := by omega
  rcases this with rfl | rfl | rfl | rfl | rfl | rfl | rfl | rfl | rfl | rfl <;> (refine Eq.trans ?_ rfl; kernel_rfl)

set_option maxHeartbeats 800000 in
theorem digits_fuel : ∀ (k n : Nat), n ≤ k → n < 4294967296 → ∀ w : World,
    Calls Tryd.prog 25 #[.int .u32 n] w fun e w' => e = .returned (.string (str (Lib.decDigits n))) ∧ w = w' := by
  intro k
  induction k with
  | zero =>
    intro n hk hn w
    have h0 : n = 0 := by omega
    subst h0
    have q := digit_slice 0 (by omega)
    have hd : Lib.decDigits 0 = dig1 0 := dec_lt (by omega)
    have HD := Lib.hid hd
    clear hd
    go_enter Tryd.func25, Tryd.ntmps25
    go_wp2_with fail
    go_ret
    exact ⟨by rw [HD.out]; rfl, rfl⟩
  | succ k ih =>
    intro n hk hn w
    by_cases h10 : n < 10
    · have q := digit_slice n h10
      have hd : Lib.decDigits n = dig1 n := dec_lt h10
      have hm : (n : Int) % 10 = (n : Int) := by omega
      have HD := Lib.hid hd
      clear hd
      go_enter Tryd.func25, Tryd.ntmps25
      go_wp2_with fail
      go_ret
      exact ⟨by rw [HD.out]; rfl, rfl⟩
    · have hd := dec_ge h10
      obtain ⟨d, hdd⟩ : ∃ d, d = n % 10 := ⟨_, rfl⟩
      obtain ⟨m, hmm⟩ : ∃ m, m = n / 10 := ⟨_, rfl⟩
      have hm : (n : Int) % 10 = (d : Int) := by omega
      have hq : (n : Int) / 10 = (m : Int) := by omega
      have hd10 : d < 10 := by omega
      have hmk : m ≤ k := by omega
      have hm32 : m < 4294967296 := by omega
      have q := digit_slice d hd10
      rw [← hdd, ← hmm] at hd
      have hd : Lib.decDigits n = Lib.decDigits m ++ dig1 d := hd
      have hlen := dec_len m (by omega)
      have q3 : ∀ W, (Op.stringOp .add (str (Lib.decDigits m)) (str (dig1 d))).run Tryd.prog W = .ok (.string (str (Lib.decDigits m ++ dig1 d))) W := fun W => by
        rw [run_string_add_sum (P := Tryd.prog) W _ _ (by rw [size_str, size_str]; simp [dig1]; omega), str_append]
      have HD := Lib.hid hd
      have IH := Lib.hid (ih m hmk hm32 w)
      clear hd hdd hmm ih hlen
      go_enter Tryd.func25, Tryd.ntmps25
      go_wp2_with fail
      refine IH.out.mono ?_
      rintro e w' ⟨rfl, rfl⟩
      go_wp2_with fail
      go_ret
      exact ⟨by rw [HD.out]; rfl, rfl⟩

theorem digits_any (n : Nat) (w : World) (hn : n < 4294967296) : Calls Tryd.prog 25 #[.int .u32 n] w fun e w' => e = .returned (.string (str (Lib.decDigits n))) ∧ w = w' :=
  digits_fuel n n (Nat.le_refl _) hn w

/-- What the document's Write answers. -/
def RefWritePost (bs : List UInt8) (l : List Nat) (w : World) (e : Ending) (w' : World) : Prop :=
  ∃ a2 n2 c2, e = .returned (.slice a2 n2 c2) ∧ Sees w' a2 n2 c2 ((bs ++ (bodyOf l ++ [10])).map bv) ∧ Below w.heap.size w w'

set_option maxHeartbeats 1600000 in
theorem refwrite_any (bs : List UInt8) (l : List Nat) (a a' : Option Addr) (n c n' c' : Nat) (w : World) (h : Sees w a n c (bs.map bv)) (h' : Sees w a' n' c' (l.map nv32)) (hn : n ≤ 1200000) (hn' : n' ≤ 1200000)
    (h32 : ∀ x ∈ l, x < 4294967296) :
    Calls Tryd.prog 20 #[.slice a n c, .slice a' n' c'] w (RefWritePost bs l w) := by
  have hl : bs.length = n := by have := h.len; simpa using this
  have hl' : l.length = n' := by have := h'.len; simpa using this
  have hlens : ∀ k, (bs ++ bodyOf (l.take k)).length ≤ 30000000 := fun k => by
    have h1 := bodyOf_len (l.take k) (fun x hx => h32 x (List.mem_of_mem_take hx))
    have h2 : (l.take k).length ≤ n' := by simp; omega
    rw [List.length_append]
    omega
  have q0 := h.str (P := Tryd.prog) 22 5 9 Tryd.underlying22 Tryd.underlying5 Tryd.underlying9
  have HS' := Lib.hid h'
  have HL' := Lib.hid hl'
  have H32 := Lib.hid h32
  have HLEN := Lib.hid hlens
  clear h h' hl hl' h32 hlens
  go_enter Tryd.func20, Tryd.ntmps20
  go_wp2
  go_loop [5, 6] (fun v j => ∃ (k : Nat) (cur : List UInt8), k ≤ n' ∧ j = .int .i64 k ∧ v = .string (str cur) ∧ Hid (cur = bs ++ bodyOf (l.take k))) (fun _ j => n' - (intOf j).toNat)
  case atStart => exact ⟨0, bs, Nat.zero_le _, rfl, rfl, (by show bs = _; simp [bodyOf])⟩
  case round =>
    obtain ⟨k, cur, hk, rfl, rfl, hcur⟩ := hrel
    have hlen : cur.length ≤ 30000000 := by rw [hcur.out]; exact HLEN.out k
    by_cases hlt : k < n'
    · obtain ⟨b, off, ea, hbw⟩ := HS'.out.addr (by omega)
      have hsee := HS'.out
      rw [ea] at hsee ⊢
      obtain ⟨x, hx⟩ : ∃ x : Nat, x = l.getD k 0 := ⟨_, rfl⟩
      have hcx := hsee.num k hlt
      rw [← hx] at hcx
      have hx32 : x < 4294967296 := by
        rw [hx]
        have : l.getD k 0 ∈ l := by simp [List.getD, List.getElem?_eq_getElem (show k < l.length by rw [HL'.out]; exact hlt)]
        exact H32.out _ this
      have hstep := bodyOf_step l k (by rw [HL'.out]; exact hlt)
      rw [← hx] at hstep
      have HST := Lib.hid hstep
      have hdl := dec_len x (by omega)
      clear hsee hx ea hstep
      by_cases hk0 : k = 0
      · subst hk0
        rw [Nat.add_zero] at hcx
        have q3 : ∀ W, (Op.stringOp .add (str cur) (str (Lib.decDigits x))).run Tryd.prog W = .ok (.string (str (cur ++ Lib.decDigits x))) W := fun W => by
          rw [run_string_add_sum (P := Tryd.prog) W _ _ (by rw [size_str, size_str]; omega), str_append]
        go_wp2_with fail
        refine (digits_any x w hx32).mono ?_
        rintro e w2 ⟨rfl, rfl⟩
        go_wp2
        go_round
        case rel =>
          refine ⟨1, cur ++ Lib.decDigits x, by omega, by go_num, rfl, ?_⟩
          have e1 : bodyOf (l.take (0 + 1)) = Lib.decDigits x := HST.out
          have e2 := hcur.out
          show _ = bs ++ bodyOf (l.take (0 + 1))
          rw [e1, e2]; simp [bodyOf]
        case measure => simp [intOf]; omega
      · have hkp : (0 : Int) < (k : Int) := by omega
        have q4 : ∀ W, (Op.stringOp .add (str cur) { data := #[32] }).run Tryd.prog W = .ok (.string (str (cur ++ [32]))) W := fun W => by
          have := run_string_add_sum (P := Tryd.prog) W (str cur) (str [32]) (by rw [size_str, size_str]; simp; omega)
          rw [str_append] at this
          exact this
        have q3 : ∀ W, (Op.stringOp .add (str (cur ++ [32])) (str (Lib.decDigits x))).run Tryd.prog W = .ok (.string (str ((cur ++ [32]) ++ Lib.decDigits x))) W := fun W => by
          rw [run_string_add_sum (P := Tryd.prog) W _ _ (by rw [size_str, size_str]; simp; omega), str_append]
        go_wp2_with fail
        refine (digits_any x w hx32).mono ?_
        rintro e w2 ⟨rfl, rfl⟩
        go_wp2
        go_round
        case rel =>
          refine ⟨k + 1, (cur ++ [32]) ++ Lib.decDigits x, by omega, by go_num, by first | rfl | simp, ?_⟩
          have e1 := HST.out
          rw [if_neg hk0] at e1
          show _ = _
          rw [e1, hcur.out]; simp
        case measure => simp [intOf]; omega
    · have hkn : k = n' := by omega
      subst hkn
      have hfull : l.take k = l := List.take_of_length_le (by rw [HL'.out]; exact Nat.le_refl _)
      have HF := Lib.hid hfull
      have q5 := (sees_lit w 5 (0, 0) #[Value.int .u8 10] ([10].map bv) 1 rfl rfl).str (P := Tryd.prog) 22 5 9 Tryd.underlying22 Tryd.underlying5 Tryd.underlying9
      have q6 : ∀ W, (Op.stringOp .add (str cur) (str [10])).run Tryd.prog W = .ok (.string (str (cur ++ [10]))) W := fun W => by
        rw [run_string_add_sum (P := Tryd.prog) W _ _ (by rw [size_str, size_str]; simp; omega), str_append]
      have q7 := fun (W : World) => Lib.run_convert_string_bytes (P := Tryd.prog) W 9 22 5 (str (cur ++ [10])) Tryd.underlying9 Tryd.underlying22 Tryd.underlying5
      have z : (str (cur ++ [10])).size = (cur ++ [10]).length := size_str _
      simp only [z] at q7
      clear hfull z
      go_wp2
      go_ret
      refine ⟨_, _, _, rfl, ?_, ext_trans (ext_alloc _ _) (below_bytes _ _ _)⟩
      have e1 := hcur.out
      rw [HF.out] at e1
      have e2 : (bs ++ (bodyOf l ++ [10])) = cur ++ [10] := by rw [e1]; simp
      rw [e2]
      have f := sees_bytes (w.alloc (.cells #[Value.int .u8 10] 5)) (cur ++ [10])
      first
        | exact f
        | simpa using f
end Go.Proofs.YtpjaghjdgmhcjaaDoor
