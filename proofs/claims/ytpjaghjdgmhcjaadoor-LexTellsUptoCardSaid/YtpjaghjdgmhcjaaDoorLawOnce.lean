/- The law LexOnce, by its walk. -/
import Derived.Test.YtpjaghjdgmhcjaaDoorLexSure
import Derived.Test.YtpjaghjdgmhcjaaDoorDec
namespace Go.Proofs.YtpjaghjdgmhcjaaDoor
open Go Go.RowKit Go.Joins

theorem numbers_named (bs : List UInt8) (a : Option Addr) (n c : Nat) (least many : Int) (most : Nat) (w : World) (er : Int) (hr : er = numsErr bs least many most) (h : Sees w a n c (bs.map bv)) (hn : n ≤ 100000000) (hm : most < 4294967296) :
    Calls Tryd.prog 16 #[.slice a n c, .int .i64 least, .int .i64 many, .int .u32 most] w fun e w' =>
      (er ≠ 0 ∧ e = .returned (.tuple #[.slice none 0 0, .int .i64 er]) ∧ Below w.heap.size w w') ∨
      (er = 0 ∧ ∃ v, e = .returned (.tuple #[v, .int .i64 0]) ∧ Row isU32 w' w.heap.size 23 v (numsOf bs most).length ((numsOf bs most).map nv32) ∧ Below w.heap.size w w') := by
  subst hr
  refine (numbers_any bs a n c least many most w h hn hm).mono fun e w' hp => ?_
  obtain ⟨hb, ⟨h1, h2⟩ | ⟨h1, v, h2, h3⟩⟩ := hp
  · exact Or.inl ⟨h1, h2, hb⟩
  · exact Or.inr ⟨h1, v, h2, h3, hb⟩

theorem numsOf_len {bs : List UInt8} {most : Nat} : (numsOf bs most).length ≤ bs.length + 1 := by
  unfold numsOf
  cases h : wordsOf bs with
  | none => simp
  | some W => simp; exact (wordsOf_size h).1
theorem numsOf_le {bs : List UInt8} {most : Nat} : ∀ x ∈ numsOf bs most, x ≤ most := by
  intro x hx
  unfold numsOf at hx
  obtain ⟨y, _, rfl⟩ := List.mem_map.1 hx
  exact numOf_le y most

set_option maxHeartbeats 1600000 in
theorem once_any (bs : List UInt8) (a : Option Addr) (n c : Nat) (most : Nat) (w : World) (h : Sees w a n c (bs.map bv)) (hn : n ≤ 1050000) (hm : most < 4294967296) (htab : Tab w) :
    Calls Tryd.prog 5 #[.slice a n c, .int .u32 most] w fun e w' => e = .returned (.bool true) ∧ Below w.heap.size w w' := by
  have hl : bs.length = n := by have := h.len; simpa using this
  have HL := Lib.hid hl
  have HS := Lib.hid h
  have HT := Lib.hid htab
  obtain ⟨er, her⟩ : ∃ er, er = numsErr bs 0 ((n : Int) + 1) most := ⟨_, rfl⟩
  have HER := Lib.hid her
  obtain ⟨L, hL⟩ : ∃ L, L = numsOf bs most := ⟨_, rfl⟩
  have hLn : L.length ≤ n + 1 := by rw [hL, ← hl]; exact numsOf_len
  have HLL := Lib.hid hL
  clear h hl her hL htab
  go_enter Tryd.func5, Tryd.ntmps5
  go_wp2_with fail
  refine (numbers_named bs a n c 0 ((n : Int) + 1) most w er HER.out HS.out (by omega) hm).mono ?_
  rintro e w1 (⟨h0, rfl, hb1⟩ | ⟨h0, v, rfl, hrow, hb1⟩)
  · have e1 : (er != 0) = true := by simp [h0]
    have e2 : (er == 0) = false := by simp [h0]
    clear h0
    go_wp2_with fail
    refine (lives_any w1 (HT.out.below hb1 (Nat.le_refl _))).mono ?_
    rintro e w2 ⟨rfl, hb2⟩
    go_wp2
    go_ret
    exact ⟨rfl, ext_trans hb1 hb2⟩
  · rw [← HLL.out] at hrow
    obtain ⟨a1, c1, rfl, _, s1⟩ := hrow.sees
    have hbody : bodyOf L = bs := by rw [HLL.out]; exact read_written (HER.out.symm.trans h0)
    have HB := Lib.hid hbody
    have HLE : Hid (∀ x ∈ L, x ≤ most) := by rw [HLL.out]; exact numsOf_le
    have S1 := Lib.hid s1
    clear hbody hrow h0 s1
    go_wp2
    go_loop [8, 29] (fun _ j => ∃ k : Nat, k ≤ L.length ∧ j = .int .i64 k) (fun _ j => L.length - (intOf j).toNat)
    case atStart => exact ⟨0, Nat.zero_le _, rfl⟩
    case round =>
      obtain ⟨k, hk, rfl⟩ := hrel
      by_cases hlt : k < L.length
      · obtain ⟨b, off, ea, hbw⟩ := S1.out.addr (by omega)
        have hs := S1.out
        rw [ea] at hs ⊢
        obtain ⟨x, hx⟩ : ∃ x : Nat, x = L.getD k 0 := ⟨_, rfl⟩
        have hcx := hs.num k hlt
        rw [← hx] at hcx
        have hxm : x ≤ most := by rw [hx]; exact HLE.out _ (by simp [List.getD, List.getElem?_eq_getElem hlt])
        clear hs ea hx
        go_wp2
        go_round
        case rel => exact ⟨k + 1, by omega, by go_num⟩
        case measure => simp [intOf]; omega
      · have hkl : k = L.length := by omega
        subst hkl
        go_wp2_with fail
        refine (write_any [] L none a1 0 0 L.length c1 w1 (Sees.nil _ _ _ (fun _ => rfl)) S1.out (by omega) (by omega) (fun x hx => Nat.lt_of_le_of_lt (HLE.out x hx) hm) (HT.out.below hb1 (Nat.le_refl _))).mono ?_
        rintro e w2 ⟨v2, rfl, hrow2, hb2⟩
        have e1 : ([] ++ (bodyOf L ++ [10])).length = n + 1 := by rw [HB.out]; simp [HL.out]
        have e2 : ([] ++ (bodyOf L ++ [10])) = bs ++ [10] := by rw [HB.out]; rfl
        rw [e1, e2] at hrow2
        obtain ⟨a2, c2, rfl, _, s2⟩ := hrow2.sees
        obtain ⟨b, off, rfl, hbw⟩ := s2.addr (by omega)
        have hlast : w2.cell? ⟨b, off + n, none⟩ = some (.int .u8 10) := by
          have := s2.byte n (by omega)
          rw [this]
          have : (bs ++ [10]).getD n 0 = 10 := by rw [← HL.out]; simp [List.getD]
          rw [this]; rfl
        have hcap := s2.cap
        obtain ⟨a3, ec3, see3⟩ := s2.cut 0 n (Nat.zero_le _) (by omega)
        have q1 := fun W => (run_upto (P := Tryd.prog) Tryd.underlying22 size_u8 W (some ⟨b, off, none⟩) (n + 1) c2 n (n : Int) rfl (by omega)).trans (congrArg (fun v => Result.ok v W) ec3)
        have S3 : Hid (Sees w2 a3 n c2 (bs.map bv)) := by
          have e : (List.map bv (bs ++ [10])).take n = List.map bv bs := by rw [← HL.out, List.map_append, List.take_left' (by simp)]
          rw [e] at see3
          exact see3
        clear ec3 see3 s2 hrow2 e1 e2
        go_wp2_with fail
        refine (bytes_same bs a3 a n c2 n c w2 S3.out ((HS.out.below hb1).below hb2)).mono ?_
        rintro e w3 ⟨rfl, hb3⟩
        go_wp2_with fail
        refine (lives_any w3 (HT.out.below (ext_trans hb1 (ext_trans hb2 hb3)) (Nat.le_refl _))).mono ?_
        rintro e w4 ⟨rfl, hb4⟩
        go_wp2
        go_ret
        exact ⟨rfl, ext_trans hb1 (ext_trans hb2 (ext_trans hb3 hb4))⟩
end Go.Proofs.YtpjaghjdgmhcjaaDoor
