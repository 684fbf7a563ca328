/- The law LexTells, by its walk. -/
import Derived.Test.YtpjaghjdgmhcjaaDoorWordsEq
import Derived.Test.YtpjaghjdgmhcjaaDoorLawOnce
namespace Go.Proofs.YtpjaghjdgmhcjaaDoor
open Go Go.RowKit Go.Joins

/-- The answers of Line, whichever end it has. -/
def lineE (bs : List UInt8) : Int := if ahead bs < bs.length then 0 else 4
def lineA (bs : List UInt8) : List UInt8 := if ahead bs < bs.length then bs.take (ahead bs) else []
def lineB (bs : List UInt8) : List UInt8 := if ahead bs < bs.length then bs.drop (ahead bs + 1) else []

theorem line_u (bs : List UInt8) (a : Option Addr) (n c : Nat) (w : World) (h : Sees w a n c (bs.map bv)) (hn : n ≤ 1000000000) (er : Int) (he : er = lineE bs) (A B : List UInt8) (hA : A = lineA bs) (hB : B = lineB bs) :
    Calls Tryd.prog 7 #[.slice a n c] w fun e w' => ∃ v1 v2, e = .returned (.tuple #[v1, v2, .int .i64 er]) ∧ Row isByte w' w.heap.size 5 v1 A.length (A.map bv) ∧ Row isByte w' w.heap.size 5 v2 B.length (B.map bv) ∧ Below w.heap.size w w' := by
  have hl : bs.length = n := by have := h.len; simpa using this
  refine (line_any bs a n c w h hn).mono fun e w' hp => ?_
  subst he; subst hA; subst hB
  rcases hp with ⟨hlt, v1, v2, rfl, r1, r2, hb⟩ | ⟨heq, rfl, hb⟩
  · have hlt' : ahead bs < bs.length := by omega
    refine ⟨v1, v2, ?_, ?_, ?_, hb⟩
    · rw [lineE, if_pos hlt']
    · rw [lineA, if_pos hlt', show (bs.take (ahead bs)).length = ahead bs by simp; omega]; exact r1
    · rw [lineB, if_pos hlt', show (bs.drop (ahead bs + 1)).length = n - (ahead bs + 1) by simp; omega]; exact r2
  · have hlt' : ¬ ahead bs < bs.length := by omega
    refine ⟨.slice none 0 0, .slice none 0 0, ?_, ?_, ?_, hb⟩
    · rw [lineE, if_neg hlt']
    · rw [lineA, if_neg hlt']; exact Row.nil _ _ _ _
    · rw [lineB, if_neg hlt']; exact Row.nil _ _ _ _

theorem refline_u (bs : List UInt8) (a : Option Addr) (n c : Nat) (w : World) (h : Sees w a n c (bs.map bv)) (hn : n ≤ 1000000000) (er : Int) (he : er = lineE bs) (A B : List UInt8) (hA : A = lineA bs) (hB : B = lineB bs) :
    Calls Tryd.prog 8 #[.slice a n c] w fun e w' => ∃ a1 n1 c1 a2 n2 c2, e = .returned (.tuple #[.slice a1 n1 c1, .slice a2 n2 c2, .int .i64 er]) ∧ Sees w' a1 n1 c1 (A.map bv) ∧ Sees w' a2 n2 c2 (B.map bv) ∧ Below w.heap.size w w' := by
  have hl : bs.length = n := by have := h.len; simpa using this
  refine (refline_any bs a n c w h hn).mono fun e w' hp => ?_
  subst he; subst hA; subst hB
  rcases hp with ⟨hlt, a1, c1, a2, c2, rfl, r1, r2, hb⟩ | ⟨heq, rfl, hb⟩
  · have hlt' : ahead bs < bs.length := by omega
    exact ⟨a1, _, c1, a2, _, c2, by rw [lineE, if_pos hlt'], by rw [lineA, if_pos hlt']; exact r1, by rw [lineB, if_pos hlt']; exact r2, hb⟩
  · have hlt' : ¬ ahead bs < bs.length := by omega
    exact ⟨none, 0, 0, none, 0, 0, by rw [lineE, if_neg hlt'], by rw [lineA, if_neg hlt']; exact Sees.nil _ _ _ (fun _ => rfl), by rw [lineB, if_neg hlt']; exact Sees.nil _ _ _ (fun _ => rfl), hb⟩

/-- The answers of Words, whichever end it has. -/
def wordsE (bs : List UInt8) : Int := match wordsOf bs with | none => 5 | some _ => 0
def wordsL (bs : List UInt8) : List (List UInt8) := (wordsOf bs).getD []

theorem words_of_post {bs : List UInt8} {w w' : World} {e : Ending} (hp : WordsPost bs w e w') : ∃ v, e = .returned (.tuple #[v, .int .i64 (wordsE bs)]) ∧ Row anyCell w' w.heap.size 9 v (wordsL bs).length ((wordsL bs).map sv) ∧ Below w.heap.size w w' := by
  rcases hp with ⟨h, rfl, hb⟩ | ⟨W, v, h, rfl, r, hb⟩
  · exact ⟨.slice none 0 0, by rw [wordsE, h], by rw [wordsL, h]; exact Row.nil _ _ _ _, hb⟩
  · exact ⟨v, by rw [wordsE, h], by rw [wordsL, h]; exact r, hb⟩

theorem words_u (bs : List UInt8) (a : Option Addr) (n c : Nat) (w : World) (h : Sees w a n c (bs.map bv)) (hn : n ≤ 1000000000) (er : Int) (he : er = wordsE bs) (W : List (List UInt8)) (hW : W = wordsL bs) :
    Calls Tryd.prog 11 #[.slice a n c] w fun e w' => ∃ v, e = .returned (.tuple #[v, .int .i64 er]) ∧ Row anyCell w' w.heap.size 9 v W.length (W.map sv) ∧ Below w.heap.size w w' := by
  subst he; subst hW
  exact (words_all bs a n c w h hn).mono fun e w' hp => words_of_post hp
theorem refwords_u (bs : List UInt8) (a : Option Addr) (n c : Nat) (w : World) (h : Sees w a n c (bs.map bv)) (hn : n ≤ 1000000000) (er : Int) (he : er = wordsE bs) (W : List (List UInt8)) (hW : W = wordsL bs) :
    Calls Tryd.prog 12 #[.slice a n c] w fun e w' => ∃ v, e = .returned (.tuple #[v, .int .i64 er]) ∧ Row anyCell w' w.heap.size 9 v W.length (W.map sv) ∧ Below w.heap.size w w' := by
  subst he; subst hW
  exact (refwords_all bs a n c w h hn).mono fun e w' hp => words_of_post hp

/-- The numbers that Numbers answers, whichever end it has. -/
def numsL (bs : List UInt8) (least many : Int) (most : Nat) : List Nat := if numsErr bs least many most = 0 then numsOf bs most else []

theorem nums_of_post {bs : List UInt8} {least many : Int} {most : Nat} {w w' : World} {e : Ending} (hp : NumsPost bs least many most w e w') :
    ∃ v, e = .returned (.tuple #[v, .int .i64 (numsErr bs least many most)]) ∧ Row isU32 w' w.heap.size 23 v (numsL bs least many most).length ((numsL bs least many most).map nv32) ∧ Below w.heap.size w w' := by
  obtain ⟨hb, ⟨h, rfl⟩ | ⟨h, v, rfl, r⟩⟩ := hp
  · exact ⟨.slice none 0 0, rfl, by rw [numsL, if_neg h]; exact Row.nil _ _ _ _, hb⟩
  · exact ⟨v, by rw [h], by rw [numsL, if_pos h]; exact r, hb⟩

theorem numbers_u (bs : List UInt8) (a : Option Addr) (n c : Nat) (least many : Int) (most : Nat) (w : World) (h : Sees w a n c (bs.map bv)) (hn : n ≤ 100000000) (hm : most < 4294967296) (er : Int) (he : er = numsErr bs least many most) (L : List Nat) (hL : L = numsL bs least many most) :
    Calls Tryd.prog 16 #[.slice a n c, .int .i64 least, .int .i64 many, .int .u32 most] w fun e w' => ∃ v, e = .returned (.tuple #[v, .int .i64 er]) ∧ Row isU32 w' w.heap.size 23 v L.length (L.map nv32) ∧ Below w.heap.size w w' := by
  subst he; subst hL
  exact (numbers_any bs a n c least many most w h hn hm).mono fun e w' hp => nums_of_post hp
theorem refnumbers_u (bs : List UInt8) (a : Option Addr) (n c : Nat) (least many : Int) (most : Nat) (w : World) (h : Sees w a n c (bs.map bv)) (hn : n ≤ 100000000) (hm : most < 4294967296) (er : Int) (he : er = numsErr bs least many most) (L : List Nat) (hL : L = numsL bs least many most) :
    Calls Tryd.prog 17 #[.slice a n c, .int .i64 least, .int .i64 many, .int .u32 most] w fun e w' => ∃ v, e = .returned (.tuple #[v, .int .i64 er]) ∧ Row isU32 w' w.heap.size 23 v L.length (L.map nv32) ∧ Below w.heap.size w w' := by
  subst he; subst hL
  exact (refnumbers_any bs a n c least many most w h hn hm).mono fun e w' hp => nums_of_post hp

theorem numsL_len {bs : List UInt8} {least many : Int} {most : Nat} : (numsL bs least many most).length ≤ bs.length + 1 := by
  unfold numsL
  split
  · exact numsOf_len
  · simp

set_option maxHeartbeats 6400000 in
theorem tells_any (bs ls : List UInt8) (s : List UInt8) (least many : Int) (most : Nat) (l : List Nat) (a a1 a6 : Option Addr) (n c n1 c1 n6 c6 : Nat) (w : World)
    (h : Sees w a n c (bs.map bv)) (h1 : Sees w a1 n1 c1 (ls.map bv)) (h6 : Sees w a6 n6 c6 (l.map nv32)) (hn : n ≤ 1050000) (hn1 : n1 ≤ 1050000) (hn6 : n6 ≤ 1050000) (hs : s.length ≤ 1050000) (hm : most < 4294967296) (h32 : ∀ x ∈ l, x < 4294967296) (htab : Tab w) :
    Calls Tryd.prog 3 #[.slice a n c, .slice a1 n1 c1, .string (str s), .int .i64 least, .int .i64 many, .int .u32 most, .slice a6 n6 c6] w fun e w' => e = .returned (.bool true) ∧ Below w.heap.size w w' := by
  have hl : bs.length = n := by have := h.len; simpa using this
  have hl1 : ls.length = n1 := by have := h1.len; simpa using this
  have HL := Lib.hid hl
  have HL1 := Lib.hid hl1
  have HS := Lib.hid h
  have HS1 := Lib.hid h1
  have HS6 := Lib.hid h6
  have HT := Lib.hid htab
  have H32 := Lib.hid h32
  clear h h1 h6 htab h32 hl hl1
  go_enter Tryd.func3, Tryd.ntmps3
  go_wp2_with fail
  refine (lent_any bs a n c w HS.out (by omega)).mono ?_
  rintro e w1 ⟨vo, rfl, own1, b1⟩
  have OWN1 := Lib.hid own1
  have B1 := Lib.hid b1
  clear own1 b1
  go_wp2_with fail
  refine (lent_any ls a1 n1 c1 w1 (HS1.out.below B1.out) (by omega)).mono ?_
  rintro e w2 ⟨vr, rfl, row2, b2⟩
  have ROW2 := Lib.hid row2
  have OWN2 := Lib.hid (OWN1.out.below b2)
  have B2 := Lib.hid (ext_trans B1.out b2)
  clear row2 b2
  obtain ⟨ao, co, eo, _, _, so, _⟩ := OWN2.out.sees
  have SO := Lib.hid so
  rw [HL.out] at SO eo
  have EO := Lib.hid eo
  clear so
  obtain ⟨e1, he1⟩ : ∃ e, e = lineE bs := ⟨_, rfl⟩
  obtain ⟨A, hA⟩ : ∃ A, A = lineA bs := ⟨_, rfl⟩
  obtain ⟨B, hB⟩ : ∃ B, B = lineB bs := ⟨_, rfl⟩
  obtain ⟨e2, he2⟩ : ∃ e, e = wordsE ls := ⟨_, rfl⟩
  obtain ⟨W, hW⟩ : ∃ W, W = wordsL ls := ⟨_, rfl⟩
  obtain ⟨e3, he3⟩ : ∃ e, e = numErr s most := ⟨_, rfl⟩
  obtain ⟨nv, hnv⟩ : ∃ n, n = numOf s most := ⟨_, rfl⟩
  obtain ⟨e4, he4⟩ : ∃ e, e = numsErr ls least many most := ⟨_, rfl⟩
  obtain ⟨L, hL⟩ : ∃ L, L = numsL ls least many most := ⟨_, rfl⟩
  have hWn : W.length ≤ 1050001 := by
    rw [hW, wordsL]
    cases hw : wordsOf ls with
    | none => simp
    | some V => have := (wordsOf_size hw).1; simp; have := HL1.out; omega
  have hLn : L.length ≤ 1050001 := by rw [hL]; have := numsL_len (bs := ls) (least := least) (many := many) (most := most); have := HL1.out; omega
  have E1 := Lib.hid he1
  have EA := Lib.hid hA
  have EB := Lib.hid hB
  have E2 := Lib.hid he2
  have EW := Lib.hid hW
  have E3 := Lib.hid he3
  have EN := Lib.hid hnv
  have E4 := Lib.hid he4
  have EL := Lib.hid hL
  clear he1 hA hB he2 hW he3 hnv he4 hL
  obtain ⟨ar, cr, er, _, _, sr, _⟩ := ROW2.out.sees
  have SR := Lib.hid sr
  rw [HL1.out] at SR er
  have ER := Lib.hid er
  clear sr er eo
  rw [EO.out, ER.out]
  go_wp2_with fail
  refine (line_u bs ao n co w2 SO.out (by omega) e1 E1.out A B EA.out EB.out).mono ?_
  rintro e w3 ⟨vx, vy, rfl, rx, ry, b3⟩
  obtain ⟨ax, cx, ex, _, sx⟩ := rx.sees
  obtain ⟨ay, cy, ey, _, sy⟩ := ry.sees
  have SX := Lib.hid sx
  have SY := Lib.hid sy
  have RX := Lib.hid rx
  have RY := Lib.hid ry
  have C3 := Lib.hid b3
  rw [ex, ey]
  have EX := Lib.hid ex
  have EY := Lib.hid ey
  clear b3 rx ry sx sy ex ey
  go_wp2_with fail
  refine (refline_u bs a n c w3 (HS.out.below (ext_trans B2.out C3.out)) (by omega) e1 E1.out A B EA.out EB.out).mono ?_
  rintro e w4 ⟨az, nz, cz, aw, nw, cw, rfl, sz, sw, b4⟩
  have SZ := Lib.hid sz
  have SW := Lib.hid sw
  have B4 := Lib.hid b4
  have C4 := Lib.hid (ext_trans C3.out b4)
  clear b4 sz sw
  have hee : (e1 != e1) = false := by simp
  have hee' : (e1 == e1) = true := by simp
  go_wp2_with fail
  refine (bytes_same A ax az A.length cx nz cz w4 (SX.out.below B4.out) SZ.out).mono ?_
  rintro e w5 ⟨rfl, b5⟩
  have B5 := Lib.hid b5
  have C5 := Lib.hid (ext_trans C4.out b5)
  clear b5
  go_wp2_with fail
  refine (bytes_same B ay aw B.length cy nw cw w5 ((SY.out.below B4.out).below B5.out) (SW.out.below B5.out)).mono ?_
  rintro e w6 ⟨rfl, b6⟩
  have C6 := Lib.hid (ext_trans C5.out b6)
  have B36 := Lib.hid (ext_trans B4.out (ext_trans B5.out b6))
  have RX6 := Lib.hid (RX.out.below B36.out)
  have RY6 := Lib.hid (RY.out.below B36.out)
  clear b6
  clear hee hee'
  go_wp2_with fail
  rw [← EX.out]
  refine (burn_any _ vx _ w2.heap.size w6 RX6.out).mono ?_
  rintro e w7 ⟨rfl, b7⟩
  have C7 := Lib.hid (C6.out.trans b7.below)
  obtain ⟨ys, ry7⟩ := b7.rows _ _ _ _ RY6.out
  have RY7 := Lib.hid ry7
  clear b7 ry7
  go_wp2_with fail
  rw [← EY.out]
  refine (burn_any _ vy _ w2.heap.size w7 RY7.out).mono ?_
  rintro e w8 ⟨rfl, b8⟩
  have C8 := Lib.hid (C7.out.trans b8.below)
  clear b8
  go_wp2_with fail
  refine (words_u ls ar n1 cr w8 (SR.out.below C8.out) (by omega) e2 E2.out W EW.out).mono ?_
  rintro e w9 ⟨vp, rfl, rp, b9⟩
  obtain ⟨ap, cp, ep, _, sp⟩ := rp.sees
  have SP := Lib.hid sp
  have C9 := Lib.hid (ext_trans C8.out b9)
  rw [ep]
  clear rp sp ep b9
  go_wp2_with fail
  refine (refwords_u ls a1 n1 c1 w9 (HS1.out.below (ext_trans B2.out C9.out)) (by omega) e2 E2.out W EW.out).mono ?_
  rintro e w10 ⟨vq, rfl, rq, b10⟩
  obtain ⟨aq, cq, eq, _, sq⟩ := rq.sees
  have SQ := Lib.hid sq
  have SP10 := Lib.hid (SP.out.below b10)
  have C10 := Lib.hid (ext_trans C9.out b10)
  rw [eq]
  clear rq sq eq b10
  go_wp2_with fail
  refine (number_named s most w10 nv e3 EN.out E3.out (by omega) hm).mono ?_
  rintro e w11 ⟨rfl, b11⟩
  have B11 := Lib.hid b11
  have C11 := Lib.hid (ext_trans C10.out b11)
  clear b11
  go_wp2_with fail
  refine (refnumber_named s most w11 nv e3 EN.out E3.out (by omega) hm).mono ?_
  rintro e w12 ⟨rfl, b12⟩
  have B12 := Lib.hid (ext_trans B11.out b12)
  have C12 := Lib.hid (ext_trans C11.out b12)
  clear b12
  go_wp2_with fail
  refine (words_same W ap aq W.length cp cq w12 (SP10.out.below B12.out) (SQ.out.below B12.out) (by omega)).mono ?_
  rintro e w13 ⟨rfl, b13⟩
  have C13 := Lib.hid (ext_trans C12.out b13)
  clear b13
  have h21 : (e2 != e2) = false := by simp
  have h22 : (((nv : Nat) : Int) != ((nv : Nat) : Int)) = false := by simp
  have h23 : (e3 != e3) = false := by simp
  go_wp2_with fail
  clear h21 h22 h23
  refine (numbers_u ls ar n1 cr least many most w13 (SR.out.below C13.out) (by omega) hm e4 E4.out L EL.out).mono ?_
  rintro e w14 ⟨vt, rfl, rt, b14⟩
  obtain ⟨at', ct, et, _, st⟩ := rt.sees
  have ST := Lib.hid st
  have C14 := Lib.hid (ext_trans C13.out b14)
  rw [et]
  clear rt st et b14
  go_wp2_with fail
  refine (refnumbers_u ls a1 n1 c1 least many most w14 (HS1.out.below (ext_trans B2.out C14.out)) (by omega) hm e4 E4.out L EL.out).mono ?_
  rintro e w15 ⟨vu, rfl, ru, b15⟩
  obtain ⟨au, cu, eu, _, su⟩ := ru.sees
  have SU := Lib.hid su
  have ST15 := Lib.hid (ST.out.below b15)
  have C15 := Lib.hid (ext_trans C14.out b15)
  rw [eu]
  clear ru su eu b15
  go_wp2_with fail
  refine (write_any bs l ao a6 n co n6 c6 w15 (SO.out.below C15.out) (HS6.out.below (ext_trans B2.out C15.out)) (by omega) (by omega) H32.out (HT.out.below (ext_trans B2.out C15.out) (Nat.le_refl _))).mono ?_
  rintro e w16 ⟨va, rfl, ra, b16⟩
  obtain ⟨aa, ca, ea, _, sa⟩ := ra.sees
  obtain ⟨wn, hwn⟩ : ∃ k, k = (bs ++ (bodyOf l ++ [10])).length := ⟨_, rfl⟩
  rw [← hwn] at ea sa ra
  have SA := Lib.hid sa
  have RA := Lib.hid ra
  have B16 := Lib.hid b16
  have C16 := Lib.hid (ext_trans C15.out b16)
  rw [ea]
  have EAA := Lib.hid ea
  clear sa ra b16 ea hwn
  have h31 : (e4 == e4) = true := by simp
  go_wp2_with fail
  refine (eqnums_same L at' au L.length ct L.length cu w16 (ST15.out.below B16.out) (SU.out.below B16.out) (by omega)).mono ?_
  rintro e w17 ⟨rfl, b17⟩
  have B17 := Lib.hid b17
  have C17 := Lib.hid (ext_trans C16.out b17)
  clear b17
  go_wp2_with fail
  refine (refwrite_any bs l a a6 n c n6 c6 w17 (HS.out.below (ext_trans B2.out C17.out)) (HS6.out.below (ext_trans B2.out C17.out)) (by omega) (by omega) H32.out).mono ?_
  rintro e w18 ⟨ab, nb, cb, rfl, sb, b18⟩
  have SB := Lib.hid sb
  have B18 := Lib.hid (ext_trans B17.out b18)
  have C18 := Lib.hid (ext_trans C17.out b18)
  clear sb b18
  go_wp2_with fail
  refine (bytes_same (bs ++ (bodyOf l ++ [10])) aa ab wn ca nb cb w18 (SA.out.below B18.out) SB.out).mono ?_
  rintro e w19 ⟨rfl, b19⟩
  have C19 := Lib.hid (ext_trans C18.out b19)
  have RA19 := Lib.hid (RA.out.below (ext_trans B18.out b19))
  clear b19 h31
  go_wp2_with fail
  rw [← EAA.out]
  refine (burn_any _ va _ w15.heap.size w19 RA19.out).mono ?_
  rintro e w20 ⟨rfl, b20⟩
  have C20 := Lib.hid (C19.out.trans (b20.below.mono C15.out.size))
  clear b20
  go_wp2_with fail
  rw [← EO.out]
  refine (back_ok bs vo w.heap.size a n c w20 (OWN2.out.below C20.out) (HS.out.below (ext_trans B2.out C20.out)) (by omega)).mono ?_
  rintro e w21 ⟨rfl, b21⟩
  have C21 := Lib.hid (ext_trans C20.out b21)
  clear b21
  go_wp2_with fail
  rw [← ER.out]
  refine (back_ok ls vr w1.heap.size a1 n1 c1 w21 (ROW2.out.below C21.out) (HS1.out.below (ext_trans B2.out C21.out)) (by omega)).mono ?_
  rintro e w22 ⟨rfl, b22⟩
  have C22 := Lib.hid (ext_trans C21.out b22)
  clear b22
  go_wp2_with fail
  refine (lives_any w22 (HT.out.below (ext_trans B2.out C22.out) (Nat.le_refl _))).mono ?_
  rintro e w23 ⟨rfl, b23⟩
  go_wp2
  go_ret
  exact ⟨rfl, ext_trans B2.out (ext_trans C22.out b23)⟩
end Go.Proofs.YtpjaghjdgmhcjaaDoor
