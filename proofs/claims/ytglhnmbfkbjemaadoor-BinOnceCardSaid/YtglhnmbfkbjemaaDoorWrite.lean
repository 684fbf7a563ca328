/- lex.Write, by its contract. -/
import Derived.Test.YtglhnmbfkbjemaaDoorEqNums
import Derived.Test.YtglhnmbfkbjemaaDoorAppendUint
namespace Go.Proofs.YtglhnmbfkbjemaaDoor
open Go Go.RowKit Go.Joins

/-- Numbers behind others. -/
def tailOf : List Nat → List UInt8
  | [] => []
  | x :: r => 32 :: (Lib.decDigits x ++ tailOf r)
/-- Numbers, blanks between. -/
def bodyOf : List Nat → List UInt8
  | [] => []
  | x :: r => Lib.decDigits x ++ tailOf r

theorem tailOf_snoc : ∀ (l : List Nat) (x : Nat), tailOf (l ++ [x]) = tailOf l ++ 32 :: Lib.decDigits x
  | [], x => by simp [tailOf]
  | y :: r, x => by simp [tailOf, tailOf_snoc r x]
theorem bodyOf_snoc (l : List Nat) (x : Nat) : bodyOf (l ++ [x]) = if l = [] then Lib.decDigits x else bodyOf l ++ 32 :: Lib.decDigits x := by
  cases l with
  | nil => simp [bodyOf, tailOf]
  | cons y r => simp [bodyOf, tailOf_snoc]

theorem tailOf_len : ∀ (l : List Nat), (∀ x ∈ l, x < 4294967296) → (tailOf l).length ≤ 21 * l.length
  | [], _ => by simp [tailOf]
  | x :: r, h => by
    have := tailOf_len r (fun y hy => h y (by simp [hy]))
    have := dec_len x (by have := h x (by simp); omega)
    simp [tailOf]; omega
theorem bodyOf_len (l : List Nat) (h : ∀ x ∈ l, x < 4294967296) : (bodyOf l).length ≤ 21 * l.length := by
  cases l with
  | nil => simp [bodyOf]
  | cons x r =>
    have := tailOf_len r (fun y hy => h y (by simp [hy]))
    have := dec_len x (by have := h x (by simp); omega)
    simp [bodyOf]; omega

theorem bodyOf_step (l : List Nat) (k : Nat) (hk : k < l.length) : bodyOf (l.take (k + 1)) = if k = 0 then Lib.decDigits (l.getD k 0) else bodyOf (l.take k) ++ 32 :: Lib.decDigits (l.getD k 0) := by
  rw [List.take_succ_eq_append_getElem hk, bodyOf_snoc]
  have : l.take k = [] ↔ k = 0 := by
    rw [List.take_eq_nil_iff]
    constructor
    · rintro (h | h)
      · exact h
      · subst h; simp at hk
    · exact Or.inl
  simp only [this, List.getD, List.getElem?_eq_getElem hk, Option.getD_some]

/-- What holds at a round's head: cur is written. -/
structure WrInv (w wr : World) (cur : List UInt8) (v : Value) : Prop where
  row : Row isByte wr w.heap.size 5 v cur.length (cur.map bv)
  below : Below w.heap.size w wr

set_option maxRecDepth 100000 in
set_option maxHeartbeats 1600000 in
theorem write_any (bs : List UInt8) (l : List Nat) (a a' : Option Addr) (n c n' c' : Nat) (w : World) (h : Sees w a n c (bs.map bv)) (h' : Sees w a' n' c' (l.map nv32)) (hn : n ≤ 1200000) (hn' : n' ≤ 1200000)
    (h32 : ∀ x ∈ l, x < 4294967296) (htab : Tab w) :
    Calls Tryd.prog 22 #[.slice a n c, .slice a' n' c'] w fun e w' => ∃ v, e = .returned v ∧ Row isByte w' w.heap.size 5 v (bs ++ (bodyOf l ++ [10])).length ((bs ++ (bodyOf l ++ [10])).map bv) ∧ Below w.heap.size w w' := by
  obtain ⟨i0, hi, hz0, hz1, hz2⟩ := info_parts info_u8
  have hl : bs.length = n := by have := h.len; simpa using this
  have hl' : l.length = n' := by have := h'.len; simpa using this
  have hmk := run_make_cap (P := Tryd.prog) Tryd.underlying22 hi hz0 hz1 hz2 rfl (n + 2 * n' + 1) ((n : Int) + 2 * (n' : Int) + 1) (by omega) (by omega) (by omega)
  have hlens : ∀ k, (bs ++ bodyOf (l.take k)).length ≤ 30000000 := fun k => by
    have h1 := bodyOf_len (l.take k) (fun x hx => h32 x (List.mem_of_mem_take hx))
    have h2 : (l.take k).length ≤ n' := by simp; omega
    rw [List.length_append]
    omega
  have HS := Lib.hid h
  have HS' := Lib.hid h'
  have HL := Lib.hid hl
  have HL' := Lib.hid hl'
  have H32 := Lib.hid h32
  have HT := Lib.hid htab
  have HLEN := Lib.hid hlens
  have hrow0 : Row isByte (w.alloc (.cells (zeros (.int .u8 0) (n + 2 * n' + 1)) 5)) w.heap.size 5 (.slice (some ⟨w.heap.size, 0, none⟩) 0 (n + 2 * n' + 1)) 0 [] := by
    have := Row.made (ok := isByte) (w := w) (base := w.heap.size) (e := 5) (zeros (.int .u8 0) (n + 2 * n' + 1)) 0 (Nat.le_refl _) (by rw [size_zeros]; unfold maxLen; omega) (Nat.zero_le _) (by
      intro u hu
      simp only [zeros, List.mem_replicate] at hu
      rw [hu.2]; exact isByte_zero)
    rw [size_zeros] at this
    exact this
  have HR0 := Lib.hid hrow0
  clear h h' hl hl' h32 htab hlens hrow0
  go_enter Tryd.func22, Tryd.ntmps22
  go_wp2_with (at_builtin; refine wpList_append_row isByte _ rfl _ _ 22 rfl w.heap.size 5 i0 (.int .u8 0) 1 Tryd.underlying22 hi hz0 hz1 hz2 rfl isByte_zero _ _ _ rfl HR0.out a n c (bs.map bv) rfl (HS.out.below ((Below.refl _ _).alloc (Nat.le_refl _) _)) (bv_one bs) (isByte_all bs) ?qc4 ?qc5 ?qc6 ?_)
  case qc4 => unfold maxLen; omega
  case qc5 => omega
  case qc6 => simp
  intro v1 w1 hrow1 hgrow1 _
  have hb1 : Below w.heap.size w w1 := ((Below.refl _ w).alloc (Nat.le_refl _) _).grown hgrow1 (by simp) (by intro k hk; simp [Value.ownBlock] at hk; omega)
  have HI1 : Hid (WrInv w w1 bs v1) := ⟨by simpa [HL.out] using hrow1, hb1⟩
  clear hrow1 hgrow1 hb1
  go_wp2
  go_loopw [5, 6, 7, 21] (fun v _ _ j wr => ∃ (k : Nat) (cur : List UInt8), k ≤ n' ∧ j = .int .i64 k ∧ Hid (cur = bs ++ bodyOf (l.take k)) ∧ Hid (WrInv w wr cur v)) (fun _ _ _ j _ => n' - (intOf j).toNat)
  case atStart => exact ⟨0, bs, Nat.zero_le _, rfl, (by show bs = _; simp [bodyOf]), HI1⟩
  case round =>
    obtain ⟨k, cur, hk, rfl, hcur, hinv⟩ := hrel
    have hlen : cur.length ≤ 30000000 := by rw [hcur.out]; exact HLEN.out k
    have HLK := Lib.hid hlen
    clear hlen
    by_cases hlt : k < n'
    · obtain ⟨b, off, ea, hbw⟩ := HS'.out.addr (by omega)
      have hsee := HS'.out.below (w' := wr) hinv.out.below
      rw [ea] at hsee ⊢
      obtain ⟨x, hx⟩ : ∃ x : Nat, x = l.getD k 0 := ⟨_, rfl⟩
      have hcx := hsee.num k hlt
      rw [← hx] at hcx
      have hx32 : x < 4294967296 := by
        rw [hx]
        have : l.getD k 0 ∈ l := by simp [List.getD, List.getElem?_eq_getElem (show k < l.length by rw [HL'.out]; exact hlt)]
        exact H32.out _ this
      have HX := Lib.hid hx
      have hstep := bodyOf_step l k (by rw [HL'.out]; exact hlt)
      rw [← hx] at hstep
      have HST := Lib.hid hstep
      have hsz := hinv.out.below.size
      have HSZ := Lib.hid hsz
      have HD := Lib.hid (dec_len x (by omega))
      clear hsee hx ea hstep hsz
      by_cases hk0 : k = 0
      · subst hk0
        rw [Nat.add_zero] at hcx
        go_wp2_with fail
        refine (appu w.heap.size cur.length x (by omega) _ _ wr hinv.out.row HSZ.out (by have := HLK.out; omega) (HT.out.below hinv.out.below (Nat.le_refl _))).mono ?_
        rintro e w2 ⟨v2, rfl, hrow2, hb2⟩
        have HI2 : Hid (WrInv w w2 (cur ++ Lib.decDigits x) v2) := by
          refine ⟨?_, hinv.out.below.trans hb2⟩
          rw [List.length_append, List.map_append]
          exact hrow2
        have HC2 : Hid (cur ++ Lib.decDigits x = bs ++ bodyOf (l.take 1)) := by
          have e1 : bodyOf (l.take (0 + 1)) = Lib.decDigits x := HST.out
          have e2 := hcur.out
          show _ = bs ++ bodyOf (l.take (0 + 1))
          rw [e1, e2]; simp [bodyOf]
        clear hrow2 hb2 hinv
        go_wp2
        go_roundw
        case rel => exact ⟨1, _, by omega, by go_num, HC2, HI2⟩
        case measure => simp [intOf]; omega
      · have hkp : (0 : Int) < (k : Int) := by omega
        go_wp2_with (at_builtin; refine wpList_append_row isByte _ rfl _ _ 22 rfl w.heap.size 5 i0 (.int .u8 0) 1 Tryd.underlying22 hi hz0 hz1 hz2 rfl isByte_zero _ _ _ rfl (hinv.out.row.below ((Below.refl _ _).alloc (Nat.le_refl _) _)) (some ⟨wr.heap.size, 0, none⟩) 1 1 [bv 32] rfl (sees_one _ _ _) (bv_one [32]) (isByte_all [32]) ?r4 ?r5 ?r6 ?_)
        case r4 => have := HLK.out; unfold maxLen; omega
        case r5 => have := HLK.out; omega
        case r6 => have := HSZ.out; simp; omega
        intro v2 w2 hrow2 hgrow2 _
        have hlt2 := hinv.out.row.own.lt
        have hb2 : Below w.heap.size w w2 := (hinv.out.below.alloc HSZ.out _).grown hgrow2 (by have := HSZ.out; simp; omega) (fun k hk => (hlt2 k hk).1)
        have HR2 := Lib.hid hrow2
        have HB2 := Lib.hid hb2
        clear hrow2 hgrow2 hlt2 hb2
        go_wp2_with fail
        refine (appu w.heap.size (cur.length + 1) x (by omega) v2 _ w2 HR2.out HB2.out.size (by have := HLK.out; omega) (HT.out.below HB2.out (Nat.le_refl _))).mono ?_
        rintro e w3 ⟨v3, rfl, hrow3, hb3⟩
        have HI3 : Hid (WrInv w w3 ((cur ++ [32]) ++ Lib.decDigits x) v3) := by
          refine ⟨?_, HB2.out.trans hb3⟩
          have e2 : ((cur ++ [32]) ++ Lib.decDigits x).length = cur.length + 1 + (Lib.decDigits x).length := by simp only [List.length_append, List.length_cons, List.length_nil]
          have e3 : ((cur ++ [32]) ++ Lib.decDigits x).map bv = (cur.map bv ++ [bv 32]) ++ (Lib.decDigits x).map bv := by simp only [List.map_append, List.map_cons, List.map_nil]
          rw [e2, e3]
          exact hrow3
        have HC3 : Hid ((cur ++ [32]) ++ Lib.decDigits x = bs ++ bodyOf (l.take (k + 1))) := by
          have e1 := HST.out
          rw [if_neg hk0] at e1
          show _ = _
          rw [e1, hcur.out]; simp
        clear hrow3 hb3 hinv HR2 HB2
        go_wp2
        go_roundw
        case rel => exact ⟨k + 1, _, by omega, by go_num, HC3, HI3⟩
        case measure => simp [intOf]; omega
    · have hkn : k = n' := by omega
      subst hkn
      have hfull : l.take k = l := List.take_of_length_le (by rw [HL'.out]; exact Nat.le_refl _)
      have HF := Lib.hid hfull
      have HSZ := Lib.hid hinv.out.below.size
      clear hfull
      go_wp2_with (at_builtin; refine wpList_append_row isByte _ rfl _ _ 22 rfl w.heap.size 5 i0 (.int .u8 0) 1 Tryd.underlying22 hi hz0 hz1 hz2 rfl isByte_zero _ _ _ rfl (hinv.out.row.below ((Below.refl _ _).alloc (Nat.le_refl _) _)) (some ⟨wr.heap.size, 0, none⟩) 1 1 [bv 10] rfl (sees_one _ _ _) (bv_one [10]) (isByte_all [10]) ?s4 ?s5 ?s6 ?_)
      case s4 => have := HLK.out; unfold maxLen; omega
      case s5 => have := HLK.out; omega
      case s6 => have := HSZ.out; simp; omega
      intro v2 w2 hrow2 hgrow2 _
      have hlt2 := hinv.out.row.own.lt
      have hb2 : Below w.heap.size w w2 := (hinv.out.below.alloc HSZ.out _).grown hgrow2 (by have := HSZ.out; simp; omega) (fun k hk => (hlt2 k hk).1)
      have HR2 := Lib.hid hrow2
      have HB2 := Lib.hid hb2
      clear hrow2 hgrow2 hlt2 hb2
      go_wp2
      go_ret
      refine ⟨v2, rfl, ?_, HB2.out⟩
      have h := HR2.out
      have e1 := hcur.out
      rw [HF.out] at e1
      have : (bs ++ (bodyOf l ++ [10])) = cur ++ [10] := by rw [e1]; simp
      rw [this, List.length_append, List.map_append]
      exact h
end Go.Proofs.YtglhnmbfkbjemaaDoor
