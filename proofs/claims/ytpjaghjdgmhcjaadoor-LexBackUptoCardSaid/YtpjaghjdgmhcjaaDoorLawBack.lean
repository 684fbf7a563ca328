/- The law LexBack, by its walk. -/
import Derived.Test.YtpjaghjdgmhcjaaDoorLexSure
import Derived.Test.YtpjaghjdgmhcjaaDoorDec
namespace Go.Proofs.YtpjaghjdgmhcjaaDoor
open Go Go.RowKit Go.Joins

set_option maxHeartbeats 1600000 in
theorem back_any (l : List Nat) (bs : List UInt8) (a a' : Option Addr) (n c n' c' : Nat) (w : World) (h : Sees w a n c (l.map nv32)) (h' : Sees w a' n' c' (bs.map bv)) (hn : n ≤ 1050000) (hn' : n' ≤ 1050000) (h32 : ∀ x ∈ l, x < 4294967296) (htab : Tab w) :
    Calls Tryd.prog 4 #[.slice a n c, .slice a' n' c'] w fun e w' => e = .returned (.bool true) ∧ Below w.heap.size w w' := by
  obtain ⟨i0, hi, hz0, hz1, hz2⟩ := info_parts info_u8
  have hl : l.length = n := by have := h.len; simpa using this
  have hl' : bs.length = n' := by have := h'.len; simpa using this
  have hbl := bodyOf_len l h32
  obtain ⟨B, hB⟩ : ∃ B, B = bodyOf l := ⟨_, rfl⟩
  rw [← hB] at hbl
  have HL := Lib.hid hl
  have HL' := Lib.hid hl'
  have HS := Lib.hid h
  have HS' := Lib.hid h'
  have HT := Lib.hid htab
  have HB := Lib.hid hB
  have H32 := Lib.hid h32
  have hbn : B.length ≤ 23000000 := by omega
  clear hl hl' h h' htab hB h32 hbl
  go_enter Tryd.func4, Tryd.ntmps4
  go_wp2_with fail
  refine (write_any [] l none a 0 0 n c w (Sees.nil _ _ _ (fun _ => rfl)) HS.out (by omega) (by omega) H32.out HT.out).mono ?_
  rintro e w1 ⟨v1, rfl, hrow1, hb1⟩
  have e1 : ([] ++ (bodyOf l ++ [10])) = B ++ [10] := by rw [HB.out]; rfl
  rw [e1] at hrow1
  have HR1 := Lib.hid hrow1
  have HB1 := Lib.hid hb1
  clear hrow1 hb1 e1
  have hlb : (B ++ [10]).length = B.length + 1 := by simp
  have HLB := Lib.hid hlb
  clear hlb
  go_wp2_with (at_builtin; refine wpList_append_row isByte _ rfl _ _ 22 rfl w.heap.size 5 i0 (.int .u8 0) 1 Tryd.underlying22 hi hz0 hz1 hz2 rfl isByte_zero _ _ _ rfl HR1.out a' n' c' (bs.map bv) rfl (HS'.out.below HB1.out) (bv_one bs) (isByte_all bs) ?qc4 ?qc5 ?qc6 ?_)
  case qc4 => rw [HLB.out]; unfold maxLen; omega
  case qc5 => rw [HLB.out]; omega
  case qc6 => exact HB1.out.size
  intro v2 w2 hrow2 hgrow2 _
  have hlt1 := HR1.out.own.lt
  have hb2 : Below w.heap.size w w2 := HB1.out.grown hgrow2 HB1.out.size (fun k hk => (hlt1 k hk).1)
  obtain ⟨a2, c2, rfl, _, s2⟩ := hrow2.sees
  have S2 : Hid (Sees w2 a2 (B.length + 1 + n') c2 ((B ++ 10 :: bs).map bv)) := by
    have e : (B ++ 10 :: bs).map bv = (B ++ [10]).map bv ++ bs.map bv := by simp
    show Sees _ _ _ _ _
    rw [e]
    first
      | exact s2
      | simpa using s2
  have HB2 := Lib.hid hb2
  clear hrow2 hgrow2 hlt1 hb2 s2
  go_wp2_with fail
  have hah : ahead (B ++ 10 :: bs) = B.length := ahead_line B bs (by rw [HB.out]; exact body_free l)
  refine (line_yes (B ++ 10 :: bs) a2 (B.length + 1 + n') c2 B.length w2 S2.out (by omega) hah (by omega)).mono ?_
  rintro e w3 ⟨v3, v4, rfl, r3, r4, hb3⟩
  obtain ⟨a3, c3, rfl, _, s3⟩ := r3.sees
  obtain ⟨a4, c4, rfl, _, s4⟩ := r4.sees
  have en : B.length + 1 + n' - (B.length + 1) = n' := by omega
  rw [en] at s4 ⊢
  have e3 : (B ++ 10 :: bs).take B.length = B := List.take_left' rfl
  have e4 : (B ++ 10 :: bs).drop (B.length + 1) = bs := by
    rw [← List.drop_drop, List.drop_left' rfl]; rfl
  rw [e3] at s3
  rw [e4] at s4
  have S3 := Lib.hid s3
  have S4 := Lib.hid s4
  have HB3 := Lib.hid (HB2.out.trans (hb3.mono HB2.out.size))
  clear r3 r4 s3 s4 hb3 en e3 e4 hah
  go_wp2_with fail
  refine (bytes_same bs a4 a' n' c4 n' c' w3 S4.out (HS'.out.below HB3.out)).mono ?_
  rintro e w4 ⟨rfl, hb4⟩
  have HB4 := Lib.hid hb4
  have hrd := written_read l 4294967295 (fun x hx => by have := H32.out x hx; omega) (n : Int) (n : Int) (by rw [HL.out]; omega) (by rw [HL.out]; omega)
  rw [← HB.out] at hrd
  have hfew := written_few l 4294967295 ((n : Int) + 1) ((n : Int) + 9) (by rw [HL.out]; omega)
  rw [← HB.out] at hfew
  have HRD := Lib.hid hrd
  have HF := Lib.hid hfew
  clear hb4 hrd hfew
  go_wp2_with fail
  refine (numbers_yes B l a3 B.length c3 (n : Int) (n : Int) 4294967295 w4 (S3.out.below HB4.out) (by omega) (by omega) HRD.out.1 HRD.out.2).mono ?_
  rintro e w5 ⟨v5, rfl, r5, hb5⟩
  rw [HL.out] at r5
  obtain ⟨a5, c5, rfl, _, s5⟩ := r5.sees
  have S5 := Lib.hid s5
  have HB5 := Lib.hid (ext_trans HB4.out hb5)
  clear r5 s5 hb5
  go_wp2_with fail
  refine (numbers_no B 5 a3 B.length c3 ((n : Int) + 1) ((n : Int) + 9) 4294967295 w5 (S3.out.below HB5.out) (by omega) (by omega) HF.out (by decide)).mono ?_
  rintro e w6 ⟨rfl, hb6⟩
  have HB6 := Lib.hid hb6
  clear hb6
  go_wp2_with fail
  have H36 := Lib.hid (ext_trans HB3.out (ext_trans HB5.out HB6.out))
  refine (eqnums_same l a5 a n c5 n c w6 (S5.out.below HB6.out) (HS.out.below H36.out) (by omega)).mono ?_
  rintro e w7 ⟨rfl, hb7⟩
  have HB7 := Lib.hid (ext_trans H36.out hb7)
  clear hb7
  go_wp2_with fail
  refine (lives_any w7 (HT.out.below HB7.out (Nat.le_refl _))).mono ?_
  rintro e w8 ⟨rfl, hb8⟩
  go_wp2
  go_ret
  exact ⟨rfl, ext_trans HB7.out hb8⟩
end Go.Proofs.YtpjaghjdgmhcjaaDoor
