/- inquestref02.all, by its contract. -/
import Derived.Test.YtglhnmbfkbjemaaGreatDoorBkB
import Derived.Test.YtglhnmbfkbjemaaGreatDoorBkC
import Derived.Test.YtglhnmbfkbjemaaGreatDoorBkA
import Derived.Test.YtglhnmbfkbjemaaGreatDoorBkE
import Derived.Test.YtglhnmbfkbjemaaGreatDoorBkK
import Derived.Test.YtglhnmbfkbjemaaGreatDoorBkN
import Derived.Test.YtglhnmbfkbjemaaGreatDoorBkQ
import Derived.Test.YtglhnmbfkbjemaaGreatDoorBkF
/- Strings put together. -/
namespace Go.Proofs.YtglhnmbfkbjemaaGreatDoor
open Go Go.RowKit Go.Joins
theorem str_append (a b : List UInt8) : str a ++ str b = str (a ++ b) := by
  unfold str
  apply ByteArray.ext
  simp [ByteArray.data_append]
end Go.Proofs.YtglhnmbfkbjemaaGreatDoor
/- inquestref01.digits and Write, by their contracts. -/
namespace Go.Proofs.YtglhnmbfkbjemaaGreatDoor
open Go Go.RowKit Go.Joins
def dig1 (d : Nat) : List UInt8 := [UInt8.ofNat (48 + d)]
theorem digit_slice (d : Nat) (hd : d < 10) (W : World) : (Instr.slice 9 (.string { data := #[48, 49, 50, 51, 52, 53, 54, 55, 56, 57] }) (some (.int .u32 (d : Int))) (some (.int .u32 ((d : Int) + 1))) none).run Tryz.prog W = .ok (.string (str (dig1 d))) W := by
  have : d = 0 ∨ d = 1 ∨ d = 2 ∨ d = 3 ∨ d = 4 ∨ d = 5 ∨ d = 6 ∨ d = 7 ∨ d = 8 ∨ d = 9 := by omega
  rcases this with rfl | rfl | rfl | rfl | rfl | rfl | rfl | rfl | rfl | rfl <;> (refine Eq.trans ?_ rfl; kernel_rfl)
set_option maxRecDepth 100000 in
set_option maxHeartbeats 800000 in
theorem digits_fuel : ∀ (k n : Nat), n ≤ k → n < 4294967296 → ∀ w : World,
    Calls Tryz.prog 73 #[.int .u32 n] w fun e w' => e = .returned (.string (str (Lib.decDigits n))) ∧ w = w' := by
  intro k
  induction k with
  | zero =>
    intro n hk hn w
    have h0 : n = 0 := by omega
    subst h0
    have q := digit_slice 0 (by omega)
    have hd : Lib.decDigits 0 = dig1 0 := dec_lt (by omega)
    have HD := Lib.hid hd
    clear hd
    go_enter Tryz.func73, Tryz.ntmps73
    go_wp2_with fail
    go_ret
    exact ⟨by rw [HD.out]; rfl, rfl⟩
  | succ k ih =>
    intro n hk hn w
    by_cases h10 : n < 10
    · have q := digit_slice n h10
      have hd : Lib.decDigits n = dig1 n := dec_lt h10
      have hm : (n : Int) % 10 = (n : Int) := by omega
      have HD := Lib.hid hd
      clear hd
      go_enter Tryz.func73, Tryz.ntmps73
      go_wp2_with fail
      go_ret
      exact ⟨by rw [HD.out]; rfl, rfl⟩
    · have hd := dec_ge h10
      obtain ⟨d, hdd⟩ : ∃ d, d = n % 10 := ⟨_, rfl⟩
      obtain ⟨m, hmm⟩ : ∃ m, m = n / 10 := ⟨_, rfl⟩
      have hm : (n : Int) % 10 = (d : Int) := by omega
      have hq : (n : Int) / 10 = (m : Int) := by omega
      have hd10 : d < 10 := by omega
      have hmk : m ≤ k := by omega
      have hm32 : m < 4294967296 := by omega
      have q := digit_slice d hd10
      rw [← hdd, ← hmm] at hd
      have hd : Lib.decDigits n = Lib.decDigits m ++ dig1 d := hd
      have hlen := dec_len m (by omega)
      have q3 : ∀ W, (Op.stringOp .add (str (Lib.decDigits m)) (str (dig1 d))).run Tryz.prog W = .ok (.string (str (Lib.decDigits m ++ dig1 d))) W := fun W => by
        rw [run_string_add_sum (P := Tryz.prog) W _ _ (by rw [size_str, size_str]; simp [dig1]; omega), str_append]
      have HD := Lib.hid hd
      have IH := Lib.hid (ih m hmk hm32 w)
      clear hd hdd hmm ih hlen
      go_enter Tryz.func73, Tryz.ntmps73
      go_wp2_with fail
      refine IH.out.mono ?_
      rintro e w' ⟨rfl, rfl⟩
      go_wp2_with fail
      go_ret
      exact ⟨by rw [HD.out]; rfl, rfl⟩
theorem digits_any (n : Nat) (w : World) (hn : n < 4294967296) : Calls Tryz.prog 73 #[.int .u32 n] w fun e w' => e = .returned (.string (str (Lib.decDigits n))) ∧ w = w' :=
  digits_fuel n n (Nat.le_refl _) hn w
def RefWritePost (bs : List UInt8) (l : List Nat) (w : World) (e : Ending) (w' : World) : Prop :=
  ∃ a2 n2 c2, e = .returned (.slice a2 n2 c2) ∧ Sees w' a2 n2 c2 ((bs ++ (bodyOf l ++ [10])).map bv) ∧ Below w.heap.size w w' ∧ ∃ g, FRow w' w.heap.size (.slice a2 n2 c2) n2 ((bs ++ (bodyOf l ++ [10])).map bv) g c2
set_option maxRecDepth 100000 in
set_option maxHeartbeats 1600000 in
theorem refwrite_any (bs : List UInt8) (l : List Nat) (a a' : Option Addr) (n c n' c' : Nat) (w : World) (h : Sees w a n c (bs.map bv)) (h' : Sees w a' n' c' (l.map nv32)) (hn : n ≤ 1200000) (hn' : n' ≤ 1200000)
    (h32 : ∀ x ∈ l, x < 4294967296) :
    Calls Tryz.prog 35 #[.slice a n c, .slice a' n' c'] w (RefWritePost bs l w) := by
  have hl : bs.length = n := by have := h.len; simpa using this
  have hl' : l.length = n' := by have := h'.len; simpa using this
  have hlens : ∀ k, (bs ++ bodyOf (l.take k)).length ≤ 30000000 := fun k => by
    have h1 := bodyOf_len (l.take k) (fun x hx => h32 x (List.mem_of_mem_take hx))
    have h2 : (l.take k).length ≤ n' := by simp; omega
    rw [List.length_append]
    omega
  have q0 := h.str (P := Tryz.prog) 27 5 9 Tryz.underlying27 Tryz.underlying5 Tryz.underlying9
  have HS' := Lib.hid h'
  have HL' := Lib.hid hl'
  have H32 := Lib.hid h32
  have HLEN := Lib.hid hlens
  clear h h' hl hl' h32 hlens
  go_enter Tryz.func35, Tryz.ntmps35
  go_wp2
  go_loop [5, 6] (fun v j => ∃ (k : Nat) (cur : List UInt8), k ≤ n' ∧ j = .int .i64 k ∧ v = .string (str cur) ∧ Hid (cur = bs ++ bodyOf (l.take k))) (fun _ j => n' - (intOf j).toNat)
  case atStart => exact ⟨0, bs, Nat.zero_le _, rfl, rfl, (by show bs = _; simp [bodyOf])⟩
  case round =>
    obtain ⟨k, cur, hk, rfl, rfl, hcur⟩ := hrel
    have hlen : cur.length ≤ 30000000 := by rw [hcur.out]; exact HLEN.out k
    by_cases hlt : k < n'
    · obtain ⟨b, off, ea, hbw⟩ := HS'.out.addr (by omega)
      have hsee := HS'.out
      rw [ea] at hsee ⊢
      obtain ⟨x, hx⟩ : ∃ x : Nat, x = l.getD k 0 := ⟨_, rfl⟩
      have hcx := hsee.num k hlt
      rw [← hx] at hcx
      have hx32 : x < 4294967296 := by
        rw [hx]
        have : l.getD k 0 ∈ l := by simp [List.getD, List.getElem?_eq_getElem (show k < l.length by rw [HL'.out]; exact hlt)]
        exact H32.out _ this
      have hstep := bodyOf_step l k (by rw [HL'.out]; exact hlt)
      rw [← hx] at hstep
      have HST := Lib.hid hstep
      have hdl := dec_len x (by omega)
      clear hsee hx ea hstep
      by_cases hk0 : k = 0
      · subst hk0
        rw [Nat.add_zero] at hcx
        have q3 : ∀ W, (Op.stringOp .add (str cur) (str (Lib.decDigits x))).run Tryz.prog W = .ok (.string (str (cur ++ Lib.decDigits x))) W := fun W => by
          rw [run_string_add_sum (P := Tryz.prog) W _ _ (by rw [size_str, size_str]; omega), str_append]
        go_wp2_with fail
        refine (digits_any x w hx32).mono ?_
        rintro e w2 ⟨rfl, rfl⟩
        go_wp2
        go_round
        case rel =>
          refine ⟨1, cur ++ Lib.decDigits x, by omega, by go_num, rfl, ?_⟩
          have e1 : bodyOf (l.take (0 + 1)) = Lib.decDigits x := HST.out
          have e2 := hcur.out
          show _ = bs ++ bodyOf (l.take (0 + 1))
          rw [e1, e2]; simp [bodyOf]
        case measure => simp [intOf]; omega
      · have hkp : (0 : Int) < (k : Int) := by omega
        have q4 : ∀ W, (Op.stringOp .add (str cur) { data := #[32] }).run Tryz.prog W = .ok (.string (str (cur ++ [32]))) W := fun W => by
          have := run_string_add_sum (P := Tryz.prog) W (str cur) (str [32]) (by rw [size_str, size_str]; simp; omega)
          rw [str_append] at this
          exact this
        have q3 : ∀ W, (Op.stringOp .add (str (cur ++ [32])) (str (Lib.decDigits x))).run Tryz.prog W = .ok (.string (str ((cur ++ [32]) ++ Lib.decDigits x))) W := fun W => by
          rw [run_string_add_sum (P := Tryz.prog) W _ _ (by rw [size_str, size_str]; simp; omega), str_append]
        go_wp2_with fail
        refine (digits_any x w hx32).mono ?_
        rintro e w2 ⟨rfl, rfl⟩
        go_wp2
        go_round
        case rel =>
          refine ⟨k + 1, (cur ++ [32]) ++ Lib.decDigits x, by omega, by go_num, by first | rfl | simp, ?_⟩
          have e1 := HST.out
          rw [if_neg hk0] at e1
          show _ = _
          rw [e1, hcur.out]; simp
        case measure => simp [intOf]; omega
    · have hkn : k = n' := by omega
      subst hkn
      have hfull : l.take k = l := List.take_of_length_le (by rw [HL'.out]; exact Nat.le_refl _)
      have HF := Lib.hid hfull
      have q5 := (sees_lit w 5 (0, 0) #[Value.int .u8 10] ([10].map bv) 1 rfl rfl).str (P := Tryz.prog) 27 5 9 Tryz.underlying27 Tryz.underlying5 Tryz.underlying9
      have q6 : ∀ W, (Op.stringOp .add (str cur) (str [10])).run Tryz.prog W = .ok (.string (str (cur ++ [10]))) W := fun W => by
        rw [run_string_add_sum (P := Tryz.prog) W _ _ (by rw [size_str, size_str]; simp; omega), str_append]
      have q7 := fun (W : World) => Lib.run_convert_string_bytes (P := Tryz.prog) W 9 27 5 (str (cur ++ [10])) Tryz.underlying9 Tryz.underlying27 Tryz.underlying5
      have z : (str (cur ++ [10])).size = (cur ++ [10]).length := size_str _
      simp only [z] at q7
      clear hfull z
      go_wp2
      go_ret
      have e1 := hcur.out
      rw [HF.out] at e1
      have e2 : (bs ++ (bodyOf l ++ [10])) = cur ++ [10] := by rw [e1]; simp
      have hfr := frow_bytes w.heap.size (w.alloc (.cells #[Value.int .u8 10] 5)) (cur ++ [10]) (by simp) (by simp; omega)
      have es : (w.alloc (.cells #[Value.int .u8 10] 5)).heap.size = w.heap.size + 1 := by simp
      have el : (cur ++ [10]).length = cur.length + 1 := by simp
      rw [es, el] at hfr
      unfold RefWritePost
      rw [e2]
      exact ⟨_, _, _, rfl, hfr.sees, ext_trans (ext_alloc _ _) (below_bytes _ _ _), _, hfr⟩
end Go.Proofs.YtglhnmbfkbjemaaGreatDoor
/- inquestref02.each, by its contract. -/
namespace Go.Proofs.YtglhnmbfkbjemaaGreatDoor
open Go Go.RowKit Go.Joins
theorem lines_ones (l : List Nat) (k : Nat) (hk : k < l.length) : linesOf ((l.take (k + 1)).map fun x => [x]) = linesOf ((l.take k).map fun x => [x]) ++ (bodyOf [l.getD k 0] ++ [10]) := by
  rw [List.take_succ_eq_append_getElem hk, List.map_append]
  show linesOf (_ ++ [[l[k]]]) = _
  rw [linesOf_snoc]
  simp [lineOf, List.getD, List.getElem?_eq_getElem hk]
theorem one_len (x : Nat) (hx : x < 4294967296) : (bodyOf [x] ++ [10]).length ≤ 22 := by
  have h1 := bodyOf_len [x] (by simpa using hx)
  rw [List.length_append]
  simp at h1 ⊢
  omega
set_option maxRecDepth 100000 in
set_option maxHeartbeats 1600000 in
theorem refeach_any (bs : List UInt8) (l : List Nat) (a a' : Option Addr) (n c n' c' : Nat) (w : World) (h : Sees w a n c (bs.map bv)) (h' : Sees w a' n' c' (l.map nv32)) (hn : n + 22 * n' ≤ 1200000) (h32 : ∀ x ∈ l, x < 4294967296) :
    Calls Tryz.prog 34 #[.slice a n c, .slice a' n' c'] w fun e w' => ∃ a2 n2 c2, e = .returned (.slice a2 n2 c2) ∧ n2 ≤ n + 22 * n' ∧ Sees w' a2 n2 c2 ((bs ++ linesOf (l.map fun x => [x])).map bv) ∧ Below w.heap.size w w' := by
  have hl' : l.length = n' := by have := h'.len; simpa using this
  have HS := Lib.hid h
  have HS' := Lib.hid h'
  have HL' := Lib.hid hl'
  have H32 := Lib.hid h32
  clear h h' hl' h32
  go_enter Tryz.func34, Tryz.ntmps34
  go_wp2
  go_loopw [0, 5] (fun b j wr => ∃ (k : Nat) (ab : Option Addr) (nb cb : Nat), k ≤ n' ∧ j = .int .i64 k ∧ b = .slice ab nb cb ∧ nb ≤ n + 22 * k ∧ Hid (Sees wr ab nb cb ((bs ++ linesOf ((l.take k).map fun x => [x])).map bv)) ∧ Hid (Below w.heap.size w wr)) (fun _ j _ => n' - (intOf j).toNat)
  case atStart => exact ⟨0, a, n, c, Nat.zero_le _, rfl, rfl, by omega, by show Sees _ _ _ _ _; simpa [linesOf] using HS.out, Below.refl _ _⟩
  case round =>
    obtain ⟨k, ab, nb, cb, hk, rfl, rfl, hnb, HC, HB⟩ := hrel
    by_cases hlt : k < n'
    · obtain ⟨x, hx⟩ : ∃ x : Nat, x = l.getD k 0 := ⟨_, rfl⟩
      have hx32 : x < 4294967296 := by
        rw [hx]
        have : l.getD k 0 ∈ l := by simp [List.getD, List.getElem?_eq_getElem (show k < l.length by rw [HL'.out]; exact hlt)]
        exact H32.out _ this
      have HX := Lib.hid hx
      have hsw := HS'.out.below HB.out
      have hcap := hsw.cap
      obtain ⟨a2, ec, hs2⟩ := hsw.cut k (k + 1) (by omega) (by omega)
      rw [show k + 1 - k = 1 by omega] at ec hs2
      have e1 : ((l.map nv32).take (k + 1)).drop k = [x].map nv32 := by
        rw [List.drop_take, show k + 1 - k = 1 by omega, ← List.map_drop, hx, List.drop_eq_getElem_cons (show k < l.length by rw [HL'.out]; exact hlt), List.map_cons, List.take_succ_cons, List.take_zero]
        simp [List.getD, List.getElem?_eq_getElem (show k < l.length by rw [HL'.out]; exact hlt)]
      rw [e1] at hs2
      have q := fun W => (run_part (P := Tryz.prog) Tryz.underlying24 size_u32 W a' n' c' k (k + 1) (k : Int) ((k : Int) + 1) rfl (by omega) (by omega) (by omega)).trans (congrArg (fun v => Result.ok v W) ec)
      have HCALL := Lib.hid (refwrite_any (bs ++ linesOf ((l.take k).map fun x => [x])) [x] ab a2 nb cb 1 (c' - k) wr HC.out hs2 (by omega) (by omega) (by simpa using hx32))
      have HL := Lib.hid (one_len x hx32)
      clear hsw hs2 e1 ec hx hx32
      go_wp2_with fail
      refine HCALL.out.mono ?_
      rintro e w2 ⟨a3, n3, c3, rfl, hs3, hb3, _⟩
      have HB3 := Lib.hid (ext_trans HB.out hb3)
      have HS3 := Lib.hid hs3
      clear hs3 hb3 HCALL
      go_wp2
      go_round
      case rel =>
        have hst := lines_ones l k (by rw [HL'.out]; exact hlt)
        rw [← HX.out] at hst
        have e3 : (bs ++ linesOf ((l.take (k + 1)).map fun x => [x])) = (bs ++ linesOf ((l.take k).map fun x => [x])) ++ (bodyOf [x] ++ [10]) := by rw [hst, List.append_assoc]
        have hl3 := HS3.out.lenMap
        have hl0 := HC.out.lenMap
        have h11 := HL.out
        rw [List.length_append] at hl3
        refine ⟨k + 1, a3, n3, c3, by omega, by go_num, rfl, by omega, ?_, HB3⟩
        show Sees _ _ _ _ _
        rw [e3]
        exact HS3.out
      case measure => simp [intOf]; omega
    · have hkn : k = n' := by omega
      subst hkn
      have hfull : l.take k = l := List.take_of_length_le (by rw [HL'.out]; exact Nat.le_refl _)
      have HF := Lib.hid hfull
      clear hfull
      go_wp2
      go_ret
      have h1 := HC.out
      rw [HF.out] at h1
      exact ⟨_, _, _, rfl, hnb, h1, HB.out⟩
end Go.Proofs.YtglhnmbfkbjemaaGreatDoor
/- inquestref02.Told, by its contract. -/
namespace Go.Proofs.YtglhnmbfkbjemaaGreatDoor
open Go Go.RowKit Go.Joins
def toldL (x y z : Nat) : List Nat := if z = 0 then [x, y] else [x, y, z]
set_option maxRecDepth 100000 in
set_option maxHeartbeats 1600000 in
theorem told_any (B x y z : Nat) (hy : y < 4294967296) (hz : z < 4294967296) (sv : Value) (w : World) (hown : Row isU32 w B 35 sv 1 ([x].map nv32)) (hBw : B ≤ w.heap.size) :
    Calls Tryz.prog 36 #[sv, .int .u32 y, .int .u32 z] w fun e w' => ∃ v', e = .returned v' ∧ Row isU32 w' B 35 v' (toldL x y z).length ((toldL x y z).map nv32) ∧ Below B w w' := by
  obtain ⟨i0, hi, hz0, hz1, hz2⟩ := info_parts info_u32
  have HOWN := Lib.hid hown
  have Y1 := Lib.hid (nv32_ok (l := [y]) (by simpa using hy))
  have Z1 := Lib.hid (nv32_ok (l := [z]) (by simpa using hz))
  clear hown hy hz
  go_enter Tryz.func36, Tryz.ntmps36
  by_cases h0 : z = 0
  · subst h0
    go_wp2_with (at_builtin; refine wpList_append_row isU32 _ rfl _ _ 24 rfl B 35 i0 (.int .u32 0) 4 Tryz.underlying24 hi hz0 hz1 hz2 rfl zero_isU32 _ _ _ rfl (HOWN.out.below ((Below.refl _ _).alloc (Nat.le_refl _) _)) (some ⟨w.heap.size, 0, none⟩) 1 1 ([y].map nv32) rfl (sees_lit w _ _ _ ([y].map nv32) 1 rfl rfl) (nv32_one _) Y1.out ?r4 ?r5 ?r6 ?_)
    case r4 => unfold maxLen; omega
    case r5 => omega
    case r6 => simp; omega
    intro v2 w2 hrow2 hgrow2 _
    have hlt2 := HOWN.out.own.lt
    have hb2 : Below B w w2 := ((Below.refl B w).alloc hBw _).grown hgrow2 (by simp; omega) (fun k hk => (hlt2 k hk).1)
    have HR2 := Lib.hid hrow2
    have HB2 := Lib.hid hb2
    clear hrow2 hgrow2 hlt2 hb2
    go_wp2_with fail
    go_ret
    exact ⟨_, rfl, HR2.out, HB2.out⟩
  · have h0' : (z : Int) ≠ 0 := by omega
    go_wp2_with (at_builtin; refine wpList_append_row isU32 _ rfl _ _ 24 rfl B 35 i0 (.int .u32 0) 4 Tryz.underlying24 hi hz0 hz1 hz2 rfl zero_isU32 _ _ _ rfl (HOWN.out.below ((Below.refl _ _).alloc (Nat.le_refl _) _)) (some ⟨w.heap.size, 0, none⟩) 1 1 ([y].map nv32) rfl (sees_lit w _ _ _ ([y].map nv32) 1 rfl rfl) (nv32_one _) Y1.out ?r4 ?r5 ?r6 ?_)
    case r4 => unfold maxLen; omega
    case r5 => omega
    case r6 => simp; omega
    intro v2 w2 hrow2 hgrow2 _
    have hlt2 := HOWN.out.own.lt
    have hb2 : Below B w w2 := ((Below.refl B w).alloc hBw _).grown hgrow2 (by simp; omega) (fun k hk => (hlt2 k hk).1)
    have HR2 := Lib.hid hrow2
    have HB2 := Lib.hid hb2
    have e1 : ((z : Int) != 0) = true := by simp; omega
    have HS2 : Hid (B ≤ w2.heap.size) := Lib.hid (Nat.le_trans hBw hb2.size)
    clear hrow2 hgrow2 hlt2 hb2
    go_wp2_with (at_builtin; refine wpList_append_row isU32 _ rfl _ _ 24 rfl B 35 i0 (.int .u32 0) 4 Tryz.underlying24 hi hz0 hz1 hz2 rfl zero_isU32 _ _ _ rfl (HR2.out.below ((Below.refl _ _).alloc (Nat.le_refl _) _)) (some ⟨w2.heap.size, 0, none⟩) 1 1 ([z].map nv32) rfl (sees_lit w2 _ _ _ ([z].map nv32) 1 rfl rfl) (nv32_one _) Z1.out ?s4 ?s5 ?s6 ?_)
    case s4 => unfold maxLen; omega
    case s5 => omega
    case s6 => have := HS2.out; simp; omega
    intro v3 w3 hrow3 hgrow3 _
    have hlt3 := HR2.out.own.lt
    have hb3 : Below B w2 w3 := ((Below.refl B w2).alloc HS2.out _).grown hgrow3 (by have := HS2.out; simp; omega) (fun k hk => (hlt3 k hk).1)
    have HR3 := Lib.hid hrow3
    have HB3 := Lib.hid (HB2.out.trans hb3)
    clear hrow3 hgrow3 hlt3 hb3
    go_wp2_with fail
    go_ret
    refine ⟨_, rfl, ?_, HB3.out⟩
    have h5 := HR3.out
    unfold toldL
    rw [if_neg h0]
    exact h5
end Go.Proofs.YtglhnmbfkbjemaaGreatDoor
/- inquestref02.First, by its contract: the first line of a raw text. -/
namespace Go.Proofs.YtglhnmbfkbjemaaGreatDoor
open Go Go.RowKit Go.Joins
theorem sees_lit_g (w : World) (e : TypeId) (fr : Nat × Nat) (C : Array Value) (xs : List Value) (n g : Nat) (hC : C = xs.toArray) (hn : xs.length = n) (hg : g = w.heap.size) : Sees (w.alloc (.cells C e fr)) (some ⟨g, 0, none⟩) n n xs := by
  subst hg; exact sees_lit w e fr C xs n hC hn
theorem row_sees0 {ok : Value → Prop} {w : World} {base n m c : Nat} {e : TypeId} {a : Option Addr} {xs : List Value} (h : Row ok w base e (.slice a m c) n xs) : Sees w a m c xs := (row_sees_slice h).2
def firstL (m i l o g b c : Nat) : List Nat := if c = 0 then (if b = 0 then [m, i, l, o, g] else [m, i, l, o, g, b]) else [m, i, l, o, g, b, c]
theorem firstL_counts (r : RawC) : firstL r.max r.ins.length r.lats.length r.outs.length r.gates.length r.bads.length r.cons.length = countsOf r := rfl
set_option maxRecDepth 100000 in
set_option maxHeartbeats 3200000 in
theorem first_any (m i l o g b c : Nat) (hm : m < 4294967296) (h1 : i < 4294967296) (h2 : l < 4294967296) (h3 : o < 4294967296) (h4 : g < 4294967296) (h5 : b < 4294967296) (h6 : c < 4294967296) (w : World) :
    Calls Tryz.prog 33 #[.string { data := #[97, 97, 103] }, .int .i64 m, .int .i64 i, .int .i64 l, .int .i64 o, .int .i64 g, .int .i64 b, .int .i64 c] w fun e w' => ∃ a2 n2 c2, e = .returned (.slice a2 n2 c2) ∧ Sees w' a2 n2 c2 ((headText ++ lineOf (firstL m i l o g b c)).map bv) ∧ Below w.heap.size w w' := by
  obtain ⟨i0, hi, hz0, hz1, hz2⟩ := info_parts info_u32
  have q1 : ∀ W, (Op.stringOp .add { data := #[97, 97, 103] } { data := #[32] }).run Tryz.prog W = .ok (.string (str headText)) W := fun W => by
    have := run_string_add_sum (P := Tryz.prog) W (str [97, 97, 103]) (str [32]) (by rw [size_str, size_str]; simp)
    rw [str_append] at this
    exact this
  have q7 := fun (W : World) => Lib.run_convert_string_bytes (P := Tryz.prog) W 9 27 5 (str headText) Tryz.underlying9 Tryz.underlying27 Tryz.underlying5
  have zz : (str headText).size = 4 := size_str _
  simp only [zz] at q7
  have wm : IntKind.u32.wrap (m : Int) = (m : Int) := by rw [IntKind.wrap_u32]; omega
  have wi : IntKind.u32.wrap (i : Int) = (i : Int) := by rw [IntKind.wrap_u32]; omega
  have wl : IntKind.u32.wrap (l : Int) = (l : Int) := by rw [IntKind.wrap_u32]; omega
  have wo : IntKind.u32.wrap (o : Int) = (o : Int) := by rw [IntKind.wrap_u32]; omega
  have wg : IntKind.u32.wrap (g : Int) = (g : Int) := by rw [IntKind.wrap_u32]; omega
  have wb : IntKind.u32.wrap (b : Int) = (b : Int) := by rw [IntKind.wrap_u32]; omega
  have wc : IntKind.u32.wrap (c : Int) = (c : Int) := by rw [IntKind.wrap_u32]; omega
  have B1 := Lib.hid (nv32_ok (l := [b]) (by simpa using h5))
  have C1 := Lib.hid (nv32_ok (l := [c]) (by simpa using h6))
  have HW := Lib.hid (fun (xs : List Nat) (hx : xs.length ≤ 7) (h32 : ∀ x ∈ xs, x < 4294967296) (g0 : Nat) (a' : Option Addr) (n' c' : Nat) (W : World) (hg0 : g0 = W.heap.size) (hs : Sees W a' n' c' (xs.map nv32)) =>
    refwrite_any headText xs (some ⟨g0, 0, none⟩) a' 4 (grownCap W 4 0 5) n' c' (Lib.bytesWorld W 5 (str headText)) (by subst hg0; exact (frow_bytes W.heap.size W headText (Nat.le_refl _) (by simp [headText])).sees) (hs.below (below_bytes _ _ _)) (by omega) (by have := hs.lenMap; omega) h32)
  have H5 : Hid (∀ x ∈ [m, i, l, o, g], x < 4294967296) := by intro x hx; simp at hx; omega
  have H7 : Hid (∀ x ∈ [m, i, l, o, g, b, c], x < 4294967296) := by intro x hx; simp at hx; omega
  have HR5 := Lib.hid (row_ncells (w := w.alloc (.cells #[.int .u32 m, .int .u32 i, .int .u32 l, .int .u32 o, .int .u32 g] 35)) (D := w.heap.size) (n := 5) (ls := [m, i, l, o, g]) w.heap.size (Nat.le_refl _) (heap_new _ _ _ rfl) rfl (by omega) H5.out)
  have HL5 := Lib.hid (sees_lit w 35 (0, 0) #[.int .u32 m, .int .u32 i, .int .u32 l, .int .u32 o, .int .u32 g] ([m, i, l, o, g].map nv32) 5 rfl rfl)
  clear hm h1 h2 h3 h4 h5 h6 zz
  by_cases c0 : c = 0
  · subst c0
    by_cases b0 : b = 0
    · subst b0
      go_enter Tryz.func33, Tryz.ntmps33
      go_wp2_with fail
      refine (HW.out [m, i, l, o, g] (by simp) (fun x hx => H7.out x (by simp at hx ⊢; omega)) _ _ _ _ _ (by simp) HL5.out).mono ?_
      rintro e w9 ⟨a3, n3, c3, rfl, hs3, hb3, _⟩
      have HS3 := Lib.hid hs3
      have HB9 := Lib.hid (ext_trans (ext_trans (ext_alloc _ _) (below_bytes _ _ _)) hb3)
      clear hs3 hb3
      go_wp2_with fail
      go_ret
      refine ⟨_, _, _, rfl, ?_, HB9.out⟩
      have h9 := HS3.out
      unfold firstL lineOf
      rw [if_pos rfl, if_pos rfl]; exact h9
    · have eb : decide ((0 : Int) < (b : Int)) = true := by simp; omega
      go_enter Tryz.func33, Tryz.ntmps33
      go_wp2_with (at_builtin; refine wpList_append_row isU32 _ rfl _ _ 24 rfl w.heap.size 35 i0 (.int .u32 0) 4 Tryz.underlying24 hi hz0 hz1 hz2 rfl zero_isU32 _ _ _ rfl (HR5.out.below ((Below.refl _ _).alloc (Nat.le_refl _) _)) (some ⟨w.heap.size + 1, 0, none⟩) 1 1 ([b].map nv32) rfl (sees_lit_g (w.alloc (.cells #[.int .u32 m, .int .u32 i, .int .u32 l, .int .u32 o, .int .u32 g] 35)) _ _ _ ([b].map nv32) 1 _ rfl rfl (by first | rfl | simp)) (nv32_one _) B1.out ?r14 ?r15 ?r16 ?_)
      case r14 => unfold maxLen; omega
      case r15 => omega
      case r16 => simp; omega
      intro v1 w1 hrow1 hgrow1 _
      have hlt := HR5.out.own.lt
      have hb1 : Below w.heap.size (w.alloc (.cells #[.int .u32 m, .int .u32 i, .int .u32 l, .int .u32 o, .int .u32 g] 35)) w1 := ((Below.refl w.heap.size (w.alloc (.cells #[.int .u32 m, .int .u32 i, .int .u32 l, .int .u32 o, .int .u32 g] 35))).alloc (by simp) _).grown hgrow1 (by simp; omega) (fun k hk => (hlt k hk).1)
      have HR1 := Lib.hid hrow1
      have HB1 : Hid (Below w.heap.size w w1) := Lib.hid (((Below.refl w.heap.size w).alloc (Nat.le_refl _) _).trans hb1)
      have HZ1 : Hid (w.heap.size ≤ w1.heap.size) := Lib.hid HB1.out.size
      clear hrow1 hgrow1 hlt hb1
      obtain ⟨f1, d1, rfl⟩ := HR1.out.form
      go_wp2_with fail
      refine (HW.out [m, i, l, o, g, b] (by simp) (fun x hx => H7.out x (by simp at hx ⊢; omega)) _ _ _ _ w1 rfl (row_sees0 HR1.out)).mono ?_
      rintro e w9 ⟨a3, n3, c3, rfl, hs3, hb3, _⟩
      have HS3 := Lib.hid hs3
      have HB9 := Lib.hid (ext_trans (ext_trans HB1.out (below_bytes _ _ _)) hb3)
      clear hs3 hb3
      go_wp2_with fail
      go_ret
      refine ⟨_, _, _, rfl, ?_, HB9.out⟩
      have h9 := HS3.out
      unfold firstL lineOf
      rw [if_pos rfl, if_neg b0]; exact h9
  · have ec : decide ((0 : Int) < (c : Int)) = true := by simp; omega
    by_cases b0 : b = 0
    · subst b0
      go_enter Tryz.func33, Tryz.ntmps33
      go_wp2_with (at_builtin; refine wpList_append_row isU32 _ rfl _ _ 24 rfl w.heap.size 35 i0 (.int .u32 0) 4 Tryz.underlying24 hi hz0 hz1 hz2 rfl zero_isU32 _ _ _ rfl (HR5.out.below ((Below.refl _ _).alloc (Nat.le_refl _) _)) (some ⟨w.heap.size + 1, 0, none⟩) 1 1 ([0].map nv32) rfl (sees_lit_g (w.alloc (.cells #[.int .u32 m, .int .u32 i, .int .u32 l, .int .u32 o, .int .u32 g] 35)) _ _ _ ([0].map nv32) 1 _ rfl rfl (by first | rfl | simp)) (nv32_one _) B1.out ?r14 ?r15 ?r16 ?_)
      case r14 => unfold maxLen; omega
      case r15 => omega
      case r16 => simp; omega
      intro v1 w1 hrow1 hgrow1 _
      have hlt := HR5.out.own.lt
      have hb1 : Below w.heap.size (w.alloc (.cells #[.int .u32 m, .int .u32 i, .int .u32 l, .int .u32 o, .int .u32 g] 35)) w1 := ((Below.refl w.heap.size (w.alloc (.cells #[.int .u32 m, .int .u32 i, .int .u32 l, .int .u32 o, .int .u32 g] 35))).alloc (by simp) _).grown hgrow1 (by simp; omega) (fun k hk => (hlt k hk).1)
      have HR1 := Lib.hid hrow1
      have HB1 : Hid (Below w.heap.size w w1) := Lib.hid (((Below.refl w.heap.size w).alloc (Nat.le_refl _) _).trans hb1)
      have HZ1 : Hid (w.heap.size ≤ w1.heap.size) := Lib.hid HB1.out.size
      clear hrow1 hgrow1 hlt hb1
      go_wp2_with (at_builtin; refine wpList_append_row isU32 _ rfl _ _ 24 rfl w.heap.size 35 i0 (.int .u32 0) 4 Tryz.underlying24 hi hz0 hz1 hz2 rfl zero_isU32 _ _ _ rfl (HR1.out.below ((Below.refl _ _).alloc (Nat.le_refl _) _)) (some ⟨w1.heap.size, 0, none⟩) 1 1 ([c].map nv32) rfl (sees_lit_g w1 _ _ _ ([c].map nv32) 1 _ rfl rfl (by first | rfl | simp)) (nv32_one _) C1.out ?r24 ?r25 ?r26 ?_)
      case r24 => unfold maxLen; omega
      case r25 => omega
      case r26 => have := HZ1.out; simp; omega
      intro v2 w2 hrow2 hgrow2 _
      have hlt := HR1.out.own.lt
      have hb2 : Below w.heap.size w1 w2 := ((Below.refl w.heap.size w1).alloc (HZ1.out) _).grown hgrow2 (by have := HZ1.out; simp; omega) (fun k hk => (hlt k hk).1)
      have HR2 := Lib.hid hrow2
      have HB2 : Hid (Below w.heap.size w w2) := Lib.hid (HB1.out.trans hb2)
      have HZ2 : Hid (w.heap.size ≤ w2.heap.size) := Lib.hid HB2.out.size
      clear hrow2 hgrow2 hlt hb2
      obtain ⟨f2, d2, rfl⟩ := HR2.out.form
      go_wp2_with fail
      refine (HW.out [m, i, l, o, g, 0, c] (by simp) (fun x hx => H7.out x (by simp at hx ⊢; omega)) _ _ _ _ w2 rfl (row_sees0 HR2.out)).mono ?_
      rintro e w9 ⟨a3, n3, c3, rfl, hs3, hb3, _⟩
      have HS3 := Lib.hid hs3
      have HB9 := Lib.hid (ext_trans (ext_trans HB2.out (below_bytes _ _ _)) hb3)
      clear hs3 hb3
      go_wp2_with fail
      go_ret
      refine ⟨_, _, _, rfl, ?_, HB9.out⟩
      have h9 := HS3.out
      unfold firstL lineOf
      rw [if_neg c0]; exact h9
    · have eb : decide ((0 : Int) < (b : Int)) = true := by simp; omega
      go_enter Tryz.func33, Tryz.ntmps33
      go_wp2_with (at_builtin; refine wpList_append_row isU32 _ rfl _ _ 24 rfl w.heap.size 35 i0 (.int .u32 0) 4 Tryz.underlying24 hi hz0 hz1 hz2 rfl zero_isU32 _ _ _ rfl (HR5.out.below ((Below.refl _ _).alloc (Nat.le_refl _) _)) (some ⟨w.heap.size + 1, 0, none⟩) 1 1 ([b].map nv32) rfl (sees_lit_g (w.alloc (.cells #[.int .u32 m, .int .u32 i, .int .u32 l, .int .u32 o, .int .u32 g] 35)) _ _ _ ([b].map nv32) 1 _ rfl rfl (by first | rfl | simp)) (nv32_one _) B1.out ?r14 ?r15 ?r16 ?_)
      case r14 => unfold maxLen; omega
      case r15 => omega
      case r16 => simp; omega
      intro v1 w1 hrow1 hgrow1 _
      have hlt := HR5.out.own.lt
      have hb1 : Below w.heap.size (w.alloc (.cells #[.int .u32 m, .int .u32 i, .int .u32 l, .int .u32 o, .int .u32 g] 35)) w1 := ((Below.refl w.heap.size (w.alloc (.cells #[.int .u32 m, .int .u32 i, .int .u32 l, .int .u32 o, .int .u32 g] 35))).alloc (by simp) _).grown hgrow1 (by simp; omega) (fun k hk => (hlt k hk).1)
      have HR1 := Lib.hid hrow1
      have HB1 : Hid (Below w.heap.size w w1) := Lib.hid (((Below.refl w.heap.size w).alloc (Nat.le_refl _) _).trans hb1)
      have HZ1 : Hid (w.heap.size ≤ w1.heap.size) := Lib.hid HB1.out.size
      clear hrow1 hgrow1 hlt hb1
      go_wp2_with (at_builtin; refine wpList_append_row isU32 _ rfl _ _ 24 rfl w.heap.size 35 i0 (.int .u32 0) 4 Tryz.underlying24 hi hz0 hz1 hz2 rfl zero_isU32 _ _ _ rfl (HR1.out.below ((Below.refl _ _).alloc (Nat.le_refl _) _)) (some ⟨w1.heap.size, 0, none⟩) 1 1 ([c].map nv32) rfl (sees_lit_g w1 _ _ _ ([c].map nv32) 1 _ rfl rfl (by first | rfl | simp)) (nv32_one _) C1.out ?r24 ?r25 ?r26 ?_)
      case r24 => unfold maxLen; omega
      case r25 => omega
      case r26 => have := HZ1.out; simp; omega
      intro v2 w2 hrow2 hgrow2 _
      have hlt := HR1.out.own.lt
      have hb2 : Below w.heap.size w1 w2 := ((Below.refl w.heap.size w1).alloc (HZ1.out) _).grown hgrow2 (by have := HZ1.out; simp; omega) (fun k hk => (hlt k hk).1)
      have HR2 := Lib.hid hrow2
      have HB2 : Hid (Below w.heap.size w w2) := Lib.hid (HB1.out.trans hb2)
      have HZ2 : Hid (w.heap.size ≤ w2.heap.size) := Lib.hid HB2.out.size
      clear hrow2 hgrow2 hlt hb2
      obtain ⟨f2, d2, rfl⟩ := HR2.out.form
      go_wp2_with fail
      refine (HW.out [m, i, l, o, g, b, c] (by simp) (fun x hx => H7.out x (by simp at hx ⊢; omega)) _ _ _ _ w2 rfl (row_sees0 HR2.out)).mono ?_
      rintro e w9 ⟨a3, n3, c3, rfl, hs3, hb3, _⟩
      have HS3 := Lib.hid hs3
      have HB9 := Lib.hid (ext_trans (ext_trans HB2.out (below_bytes _ _ _)) hb3)
      clear hs3 hb3
      go_wp2_with fail
      go_ret
      refine ⟨_, _, _, rfl, ?_, HB9.out⟩
      have h9 := HS3.out
      unfold firstL lineOf
      rw [if_neg c0]; exact h9
end Go.Proofs.YtglhnmbfkbjemaaGreatDoor
namespace Go.Proofs.YtglhnmbfkbjemaaGreatDoor
open Go Go.RowKit Go.Joins
theorem refall_any (m : Nat) (l : List Nat) (a : Option Addr) (n c : Nat) (hn : n ≤ 1048576) (w : World) (h : Sees w a n c (l.map nv32)) :
    Calls Tryz.prog 72 #[.slice a n c, .int .u32 ((2 * m + 1 : Nat) : Int)] w fun e w' => e = .returned (.bool (!l.any (above m))) ∧ w = w' := by
  have hl := h.lenMap
  obtain ⟨M, hM⟩ : ∃ M : Nat, M = 2 * m + 1 := ⟨_, rfl⟩
  have e : ∀ x, decide (M < x) = above m x := by intro x; unfold above; rw [hM]
  rw [← hM]
  have E := Lib.hid e
  have HS := Lib.hid h
  have HL := Lib.hid hl
  clear e hM h hl
  go_enter Tryz.func72, Tryz.ntmps72
  go_wp2
  go_loop [5] (fun i => ∃ k : Nat, k ≤ n ∧ i = .int .i64 k ∧ Hid (∀ j, j < k → above m (l.getD j 0) = false)) (fun i => n - (intOf i).toNat)
  case atStart => exact ⟨0, Nat.zero_le _, rfl, fun j hj => absurd hj (by omega)⟩
  case round =>
    obtain ⟨k, hk, rfl, hno⟩ := hrel
    by_cases hlt : k < n
    · obtain ⟨b, off, rfl, hbw⟩ := HS.out.addr (by omega)
      have hcx := HS.out.num k hlt
      obtain ⟨x, hx⟩ : ∃ x, x = l.getD k 0 := ⟨_, rfl⟩
      rw [← hx] at hcx
      have HX := Lib.hid hx
      clear hx
      have W1 : IntKind.i64.wrap ((k : Int) + 1) = (k : Int) + 1 := IntWalk.i64_in _ (by omega)
      by_cases hq : M < x
      · have HQ : Hid (above m x = true) := by rw [← E.out x]; exact decide_eq_true hq
        go_wp2
        go_ret
        have ha : l.any (above m) = true := List.any_eq_true.2 ⟨l.getD k 0, getD_mem (by rw [HL.out]; exact hlt), by rw [← HX.out]; exact HQ.out⟩
        exact ⟨by rw [ha]; rfl, rfl⟩
      · have HQ : Hid (above m x = false) := by rw [← E.out x]; exact decide_eq_false hq
        go_wp2
        go_round
        case rel =>
          refine ⟨k + 1, by omega, by go_num, fun j hj => ?_⟩
          rcases Nat.lt_or_ge j k with h | h
          · exact hno.out j h
          · have : j = k := by omega
            subst this
            rw [← HX.out]; exact HQ.out
        case measure => simp [intOf]; omega
    · have hkn : k = n := by omega
      subst hkn
      go_wp2
      go_ret
      have ha : l.any (above m) = false := any_none (all_of_getD (d := 0) (fun j hj => hno.out j (by rw [← HL.out]; exact hj)))
      exact ⟨by rw [ha]; rfl, rfl⟩
end Go.Proofs.YtglhnmbfkbjemaaGreatDoor
