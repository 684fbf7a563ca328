/- The contracts of package lex at inputs whose answer is known; the law's own examples ('lives'). -/
import Derived.Test.YtpjaghjdgmhcjaaDoorWrite
import Derived.Test.YtpjaghjdgmhcjaaDoorBytes
import Derived.Lib.SlBytesConst
namespace Go.Proofs.YtpjaghjdgmhcjaaDoor
open Go Go.RowKit Go.Joins

theorem ext_trans {a b c : World} (h : Below a.heap.size a b) (k : Below b.heap.size b c) : Below a.heap.size a c := h.trans (k.mono h.size)
theorem ext_alloc (w : World) (o : Obj) : Below w.heap.size w (w.alloc o) := (Below.refl _ _).alloc (Nat.le_refl _) _
theorem ext_drewN (w : World) (q : Nat) : Below w.heap.size w (w.drewN q) := ⟨rfl, rfl, rfl, Nat.le_refl _, fun _ _ => rfl⟩
theorem ext_behind {w w' : World} {o : Obj} (k : Below (w.alloc o).heap.size (w.alloc o) w') : Below w.heap.size w w' := ext_trans (ext_alloc w o) k

/-- A literal's row. -/
theorem sees_lit (w : World) (e : TypeId) (fr : Nat × Nat) (C : Array Value) (xs : List Value) (n : Nat) (hC : C = xs.toArray) (hn : xs.length = n) : Sees (w.alloc (.cells C e fr)) (some ⟨w.heap.size, 0, none⟩) n n xs := by
  subst hC
  refine ⟨hn, Nat.le_refl _, (fun e => by cases e), fun _ => ⟨w.heap.size, 0, rfl, by simp, fun j hj => ?_⟩⟩
  rw [World.cell?_alloc_mark]
  simp

theorem sees_lit_at (w : World) (e : TypeId) (fr : Nat × Nat) (C : Array Value) (xs : List Value) (n g : Nat) (hC : C = xs.toArray) (hn : xs.length = n) (hg : g = w.heap.size) : Sees (w.alloc (.cells C e fr)) (some ⟨g, 0, none⟩) n n xs := by
  subst hg; exact sees_lit w e fr C xs n hC hn

theorem line_yes (bs : List UInt8) (a : Option Addr) (n c k : Nat) (w : World) (h : Sees w a n c (bs.map bv)) (hn : n ≤ 1000000000) (hk : ahead bs = k) (hlt : k < n) :
    Calls Tryd.prog 7 #[.slice a n c] w fun e w' => ∃ v1 v2, e = .returned (.tuple #[v1, v2, .int .i64 0]) ∧ Row isByte w' w.heap.size 5 v1 k ((bs.take k).map bv) ∧
      Row isByte w' w.heap.size 5 v2 (n - (k + 1)) ((bs.drop (k + 1)).map bv) ∧ Below w.heap.size w w' := by
  refine (line_any bs a n c w h hn).mono fun e w' hp => ?_
  rcases hp with ⟨_, h⟩ | ⟨h, _⟩
  · rw [hk] at h; exact h
  · omega

theorem line_no (bs : List UInt8) (a : Option Addr) (n c : Nat) (w : World) (h : Sees w a n c (bs.map bv)) (hn : n ≤ 1000000000) (hk : ahead bs = n) :
    Calls Tryd.prog 7 #[.slice a n c] w fun e w' => e = .returned (.tuple #[.slice none 0 0, .slice none 0 0, .int .i64 4]) ∧ Below w.heap.size w w' := by
  refine (line_any bs a n c w h hn).mono fun e w' hp => ?_
  rcases hp with ⟨h, _⟩ | ⟨_, h⟩
  · omega
  · exact h

theorem words_yes (bs : List UInt8) (W : List (List UInt8)) (a : Option Addr) (n c : Nat) (w : World) (h : Sees w a n c (bs.map bv)) (hn : n ≤ 1000000000) (hw : wordsOf bs = some W) :
    Calls Tryd.prog 11 #[.slice a n c] w fun e w' => ∃ v, e = .returned (.tuple #[v, .int .i64 0]) ∧ Row anyCell w' w.heap.size 9 v W.length (W.map sv) ∧ Below w.heap.size w w' := by
  refine (words_all bs a n c w h hn).mono fun e w' hp => ?_
  rcases hp with ⟨h, _⟩ | ⟨W', v, h, hr⟩
  · rw [hw] at h; cases h
  · rw [hw] at h; cases h; exact ⟨v, hr⟩

theorem words_no (bs : List UInt8) (a : Option Addr) (n c : Nat) (w : World) (h : Sees w a n c (bs.map bv)) (hn : n ≤ 1000000000) (hw : wordsOf bs = none) :
    Calls Tryd.prog 11 #[.slice a n c] w fun e w' => e = .returned (.tuple #[.slice none 0 0, .int .i64 5]) ∧ Below w.heap.size w w' := by
  refine (words_all bs a n c w h hn).mono fun e w' hp => ?_
  rcases hp with ⟨_, h⟩ | ⟨W', v, h, hr⟩
  · exact h
  · rw [hw] at h; cases h

theorem numbers_yes (bs : List UInt8) (l : List Nat) (a : Option Addr) (n c : Nat) (least many : Int) (most : Nat) (w : World) (h : Sees w a n c (bs.map bv)) (hn : n ≤ 100000000) (hm : most < 4294967296) (he : numsErr bs least many most = 0) (hl : numsOf bs most = l) :
    Calls Tryd.prog 16 #[.slice a n c, .int .i64 least, .int .i64 many, .int .u32 most] w fun e w' => ∃ v, e = .returned (.tuple #[v, .int .i64 0]) ∧ Row isU32 w' w.heap.size 23 v l.length (l.map nv32) ∧ Below w.heap.size w w' := by
  refine (numbers_any bs a n c least many most w h hn hm).mono fun e w' hp => ?_
  obtain ⟨hb, ⟨h, _⟩ | ⟨_, v, h1, h2⟩⟩ := hp
  · exact absurd he h
  · rw [hl] at h2; exact ⟨v, h1, h2, hb⟩

theorem numbers_no (bs : List UInt8) (er : Int) (a : Option Addr) (n c : Nat) (least many : Int) (most : Nat) (w : World) (h : Sees w a n c (bs.map bv)) (hn : n ≤ 100000000) (hm : most < 4294967296) (he : numsErr bs least many most = er) (h0 : er ≠ 0) :
    Calls Tryd.prog 16 #[.slice a n c, .int .i64 least, .int .i64 many, .int .u32 most] w fun e w' => e = .returned (.tuple #[.slice none 0 0, .int .i64 er]) ∧ Below w.heap.size w w' := by
  refine (numbers_any bs a n c least many most w h hn hm).mono fun e w' hp => ?_
  obtain ⟨hb, ⟨_, h⟩ | ⟨h, _⟩⟩ := hp
  · rw [he] at h; exact ⟨h, hb⟩
  · exact absurd (he.symm.trans h) h0

theorem bytes_same (bs : List UInt8) (a a' : Option Addr) (n c n' c' : Nat) (w : World) (h : Sees w a n c (bs.map bv)) (h' : Sees w a' n' c' (bs.map bv)) :
    Calls Tryd.prog 9 #[.slice a n c, .slice a' n' c'] w fun e w' => e = .returned (.bool true) ∧ Below w.heap.size w w' := by
  refine (bytes_any bs bs a a' n c n' c' w h h').mono fun e w' hp => ?_
  obtain ⟨h1, rfl⟩ := hp
  exact ⟨by simpa using h1, Below.refl _ _⟩

theorem eqnums_same (xs : List Nat) (a a' : Option Addr) (n c n' c' : Nat) (w : World) (h : Sees w a n c (xs.map nv32)) (h' : Sees w a' n' c' (xs.map nv32)) (hn : n ≤ 1000000000) :
    Calls Tryd.prog 19 #[.slice a n c, .slice a' n' c'] w fun e w' => e = .returned (.bool true) ∧ Below w.heap.size w w' := by
  refine (eqnums_any xs xs a a' n c n' c' w h h' hn).mono fun e w' hp => ?_
  obtain ⟨h1, q, rfl⟩ := hp
  exact ⟨by simpa using h1, ext_drewN w q⟩

set_option maxHeartbeats 3200000 in
theorem lives_any (w : World) (htab : Tab w) :
    Calls Tryd.prog 22 #[] w fun e w' => e = .returned (.bool true) ∧ Below w.heap.size w w' := by
  have kc := fun (w : World) (C : Array Value) (n c : Nat) => Lib.run_convert_bytes_const (P := Tryd.prog) w 22 5 C n c Tryd.underlying22 Tryd.underlying5
  have HT := Lib.hid htab
  clear htab
  go_enter Tryd.func22, Tryd.ntmps22
  go_wp2_with fail
  refine (line_yes [97, 98, 10, 99] _ 4 4 2 _ (sees_lit _ _ _ _ _ _ rfl rfl) (by omega) rfl (by omega)).mono ?_
  rintro e w1 ⟨v1, v2, rfl, r1, r2, b1⟩
  obtain ⟨a1, c1, rfl, _, s1⟩ := r1.sees
  obtain ⟨a2, c2, rfl, _, s2⟩ := r2.sees
  have B1 := Lib.hid (ext_behind b1)
  have S1 := Lib.hid s1
  have S2 := Lib.hid s2
  clear r1 r2 b1 s1 s2
  go_wp2_with fail
  refine (line_no [97, 98] _ 2 2 _ (sees_lit _ _ _ _ _ _ rfl rfl) (by omega) rfl).mono ?_
  rintro e w2 ⟨rfl, b2⟩
  have B2 := Lib.hid (ext_behind b2)
  clear b2
  go_wp2_with fail
  refine (words_yes [97, 32, 98] [[97], [98]] _ 3 3 _ (sees_lit _ _ _ _ _ _ rfl rfl) (by omega) (by decide +kernel)).mono ?_
  rintro e w3 ⟨v3, rfl, r3, b3⟩
  obtain ⟨a3, c3, rfl, _, s3⟩ := r3.sees
  have B3 := Lib.hid (ext_behind b3)
  clear r3 b3 s3
  go_wp2_with fail
  refine (words_no [97, 32, 32, 98] _ 4 4 _ (sees_lit _ _ _ _ _ _ rfl rfl) (by omega) (by decide +kernel)).mono ?_
  rintro e w4 ⟨rfl, b4⟩
  have B4 := Lib.hid (ext_behind b4)
  clear b4
  go_wp2_with fail
  refine (words_yes [] [] _ 0 0 _ (Sees.nil _ _ _ (fun _ => rfl)) (by omega) (by decide +kernel)).mono ?_
  rintro e w5 ⟨v5, rfl, r5, b5⟩
  obtain ⟨a5, c5, rfl, _, s5⟩ := r5.sees
  have B5 := Lib.hid b5
  clear r5 b5 s5
  have B15 := Lib.hid (ext_trans B2.out (ext_trans B3.out (ext_trans B4.out B5.out)))
  go_wp2_with fail
  trace "here"
  refine (bytes_same [97, 98] _ _ 2 _ 2 2 _ ((S1.out.below B15.out).below (ext_alloc _ _)) (sees_lit _ _ _ _ _ _ rfl rfl)).mono ?_
  rintro e w6 ⟨rfl, b6⟩
  have B6 := Lib.hid (ext_behind b6)
  clear b6
  go_wp2_with fail
  refine (bytes_same [99] _ _ 1 _ 1 1 _ (((S2.out.below B15.out).below B6.out).below (ext_alloc _ _)) (sees_lit _ _ _ _ _ _ rfl rfl)).mono ?_
  rintro e w7 ⟨rfl, b7⟩
  have B7 := Lib.hid (ext_trans B15.out (ext_trans B6.out (ext_behind b7)))
  clear b7
  go_wp2_with fail
  refine (number_named [48, 48, 55] 9 w7 0 5 (by decide +kernel) (by decide +kernel) (by decide) (by decide)).mono ?_
  rintro e w8 ⟨rfl, b8⟩
  go_wp2_with fail
  refine (number_named [49, 48] 9 w8 0 3 (by decide +kernel) (by decide +kernel) (by decide) (by decide)).mono ?_
  rintro e w9 ⟨rfl, b9⟩
  have B9 := Lib.hid (ext_trans B7.out (ext_trans b8 b9))
  clear b8 b9
  go_wp2_with fail
  refine (numbers_yes [49, 32, 50, 32, 51] [1, 2, 3] _ 5 5 2 3 9 _ (sees_lit _ _ _ _ _ _ rfl rfl) (by omega) (by omega) (by decide +kernel) (by decide +kernel)).mono ?_
  rintro e w10 ⟨v10, rfl, r10, b10⟩
  obtain ⟨a10, c10, rfl, _, s10⟩ := r10.sees
  have S10 := Lib.hid s10
  have B10 := Lib.hid (ext_trans B9.out (ext_behind b10))
  clear r10 s10 b10
  go_wp2_with fail
  refine (numbers_no [49] 5 _ 1 1 2 3 9 _ (sees_lit _ _ _ _ _ _ rfl rfl) (by omega) (by omega) (by decide +kernel) (by decide)).mono ?_
  rintro e w11 ⟨rfl, b11⟩
  have B11 := Lib.hid (ext_behind b11)
  clear b11
  go_wp2_with fail
  refine (eqnums_same [1, 2, 3] _ _ 3 _ 3 3 _ ((S10.out.below B11.out).below (ext_alloc _ _)) (sees_lit _ _ _ _ _ _ rfl rfl) (by omega)).mono ?_
  rintro e w12 ⟨rfl, b12⟩
  have B12 := Lib.hid (ext_trans B1.out (ext_trans B10.out (ext_trans B11.out (ext_behind b12))))
  clear b12
  go_wp2_with fail
  refine (write_any [120] [1, 20] _ _ 1 1 2 2 _ ((sees_lit _ _ _ _ _ _ rfl rfl).below (ext_alloc _ _)) (sees_lit_at _ _ _ _ _ _ _ rfl rfl (by simp)) (by omega) (by omega) (by decide) (HT.out.below (ext_trans B12.out (ext_trans (ext_alloc _ _) (ext_alloc _ _))) (Nat.le_refl _))).mono ?_
  rintro e w13 ⟨v13, rfl, r13, b13⟩
  have B13 := Lib.hid (ext_behind (ext_behind b13))
  obtain ⟨a13, c13, rfl, _, s13⟩ := r13.sees
  have S13 : Hid (Sees w13 a13 6 c13 ([120, 49, 32, 50, 48, 10].map bv)) := by
    have e1 : ([120] ++ (bodyOf [1, 20] ++ [10]) : List UInt8) = [120, 49, 32, 50, 48, 10] := by decide +kernel
    rw [e1] at s13
    exact s13
  have e6 : ([120] ++ (bodyOf [1, 20] ++ [10]) : List UInt8).length = 6 := by decide +kernel
  rw [e6]
  clear r13 b13 s13 e6
  go_wp2_with fail
  refine (bytes_same [120, 49, 32, 50, 48, 10] _ _ 6 _ 6 6 _ (S13.out.below (ext_alloc _ _)) (sees_lit _ _ _ _ _ _ rfl rfl)).mono ?_
  rintro e w14 ⟨rfl, b14⟩
  go_wp2
  go_ret
  exact ⟨rfl, ext_trans B12.out (ext_trans B13.out (ext_behind b14))⟩
end Go.Proofs.YtpjaghjdgmhcjaaDoor
