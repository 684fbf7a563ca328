/- lex.Words, by its contract. -/
import Derived.Test.YtkimhlomadmnkaaDoorSplit
import Derived.Test.YtkimhlomadmnkaaDoorClone
import Derived.Test.YtkimhlomadmnkaaDoorLine
namespace Go.Proofs.YtkimhlomadmnkaaDoor
open Go Go.RowKit

theorem info_str : (Tryd.prog.info? 9).map (fun i => (i.zero, i.size, i.bytes)) = some (some (.string ByteArray.empty), 1, 16) := by kernel_rfl

def WordsPost (l : List UInt8) (w : World) (e : Ending) (w' : World) : Prop :=
  (wordsOf l = none ∧ e = .returned (.tuple #[.slice none 0 0, .int .i64 5]) ∧ Below w.heap.size w w') ∨
  (∃ W v, wordsOf l = some W ∧ e = .returned (.tuple #[v, .int .i64 0]) ∧ Row anyCell w' w.heap.size 9 v W.length (W.map sv) ∧ Below w.heap.size w w')

set_option maxRecDepth 100000 in
set_option maxHeartbeats 1600000 in
theorem words_any (bs : List UInt8) (a : Option Addr) (n c : Nat) (w : World) (h : Sees w a n c (bs.map bv)) (hn : n ≤ 1000000000) (h0 : 0 < n) :
    Calls Tryd.prog 79 #[.slice a n c] w (WordsPost bs w) := by
  obtain ⟨i0, hi, hz0, hz1, hz2⟩ := info_parts info_str
  have hcn := h.cap
  have hbl : bs.length = n := by have := h.len; simpa using this
  obtain ⟨b, off, rfl, hbw⟩ := h.addr h0
  have HS : Hid (Sees w (some ⟨b, off, none⟩) n c (bs.map bv)) := h
  have HL : Hid (bs.length = n) := hbl
  clear h hbl
  go_enter Tryd.func79, Tryd.ntmps79
  have hn0 : ((n : Int) == 0) = false := by simp; omega
  go_wp2
  go_step3
  go_wp2
  go_step3
  go_wp2
  go_loopw [4, 5, 6, 7, 13] (fun ws st _ _ j wr => ∃ (k s : Nat) (W : List (List UInt8)), k ≤ n ∧ s ≤ k ∧ j = .int .i64 k ∧ st = .int .i64 s ∧ Row anyCell wr w.heap.size 9 ws W.length (W.map sv) ∧ Below w.heap.size w wr ∧ Hid (WInv bs k s W))
    (fun _ _ _ _ j _ => n - (intOf j).toNat)
  case atStart => exact ⟨0, 0, [], Nat.zero_le _, Nat.le_refl _, rfl, rfl, Row.nil _ _ _ _, Below.refl _ _, WInv.init bs⟩
  case round =>
    obtain ⟨k, s, W, hk, hsk, rfl, rfl, hrow, hb, hinv⟩ := hrel
    have hfew := hinv.few
    have hlen := HL.out
    clear hlen
    by_cases hlt : k < n
    · have hsee := HS.out
      obtain ⟨x, hx⟩ : ∃ x : Nat, x = (bs.getD k 0).toNat := ⟨_, rfl⟩
      have hx256 : x < 256 := by rw [hx]; exact UInt8.toNat_lt _
      have hcx : wr.cell? ⟨b, off + k, none⟩ = some (.int .u8 (x : Int)) := by rw [hx]; exact (hb.cell (p := ⟨b, off + k, none⟩) hbw).trans (hsee.byte k hlt)
      have HX := Lib.hid hx
      clear hx
      by_cases h32 : x = 32
      · have e32 : bs.getD k 0 = 32 := UInt8.toNat_inj.1 (by rw [← HX.out, h32]; rfl)
        have E32 := Lib.hid e32
        clear e32
        subst h32
        by_cases hks : k = s
        · -- a word would be empty
          subst hks
          have he := hinv.blank (by rw [HL.out]; exact hlt) E32.out
          have HE := Lib.hid he
          clear he hsee
          go_wp2
          rw [Exit.noGoto_ret]
          go_ret2
          exact Or.inl ⟨HE.out, rfl, hb⟩
        · have hne : ((k : Int) == (s : Int)) = false := by simp; omega
          obtain ⟨a2, ec2, see2⟩ := hsee.cut s k hsk hk
          have q1 := fun W => (run_part (P := Tryd.prog) Tryd.underlying22 size_u8 W (some ⟨b, off, none⟩) n c s k (s : Int) (k : Int) rfl rfl hsk (by omega)).trans (congrArg (fun v => Result.ok v W) ec2)
          rw [← List.map_take, ← List.map_drop] at see2
          have q2 := (see2.below hb).str (P := Tryd.prog) 22 5 9 Tryd.underlying22 Tryd.underlying5 Tryd.underlying9
          clear ec2 see2 hsee
          have HR := Lib.hid hrow
          have HB := Lib.hid hb
          clear hrow hb
          go_wp2_with (at_builtin; refine wpList_append_row anyCell _ rfl _ _ 126 rfl w.heap.size 9 i0 (.string ByteArray.empty) 16 Tryd.underlying126 hi hz0 hz1 hz2 rfl trivial _ _ _ rfl (HR.out.below ((Below.refl _ _).alloc (Nat.le_refl _) _)) (some ⟨wr.heap.size, 0, none⟩) 1 1 [sv ((bs.take k).drop s)] rfl (sees_one _ _ _) (sv_one [_]) (fun _ _ => trivial) ?c4 ?c5 ?c6 ?_)
          case c4 => unfold maxLen; omega
          case c5 => omega
          case c6 => have := HB.out.size; simp; omega
          intro v' w1 hrow1 hgrow1 _
          have hlt1 := HR.out.own.lt
          have hb1 : Below w.heap.size w w1 := (HB.out.alloc (by have := HB.out.size; omega) _).grown hgrow1 (by have := HB.out.size; simp; omega) (fun k hk => (hlt1 k hk).1)
          clear hgrow1 hlt1
          go_wp2
          go_roundw
          case rel => exact ⟨k + 1, k + 1, W ++ [(bs.take k).drop s], by omega, by omega, by go_num, by go_num, by simpa using hrow1, hb1, hinv.word (by rw [HL.out]; exact hlt) (by omega) E32.out⟩
          case measure => simp [intOf]; omega
      · have hne : ((x : Int) == 32) = false := by simp; omega
        have hne' : ((x : Int) != 32) = true := by simp; omega
        clear hsee
        go_wp2
        go_roundw
        case rel => exact ⟨k + 1, s, W, by omega, by omega, by go_num, rfl, hrow, hb, hinv.next (by intro e; apply h32; rw [HX.out, e]; rfl)⟩
        case measure => simp [intOf]; omega
    · have hkn : k = n := by omega
      subst hkn
      have hne : bs ≠ [] := by intro e; have := HL.out; rw [e] at this; simp at this; omega
      have HN := Lib.hid hne
      clear hne
      by_cases hks : s = k
      · subst hks
        have he : wordsOf bs = none := WInv.short (W := W) (by have h := hinv; have hl := HL.out; rw [← hl] at h; exact h) HN.out
        have HE := Lib.hid he
        clear he
        go_wp2
        rw [Exit.noGoto_ret]
        go_ret2
        exact Or.inl ⟨HE.out, rfl, hb⟩
      · have hsl : s < k := by omega
        have hne : ((s : Int) == (k : Int)) = false := by simp; omega
        have hi2 : WInv bs bs.length s W := by rw [HL.out]; exact hinv
        have hb32 := hi2.begin (by rw [HL.out]; exact hsl)
        have hfin := hi2.last (by rw [HL.out]; exact hsl)
        have hsee := HS.out
        obtain ⟨x, hx⟩ : ∃ x : Nat, x = (bs.getD s 0).toNat := ⟨_, rfl⟩
        have hcx : wr.cell? ⟨b, off + s, none⟩ = some (.int .u8 (x : Int)) := by rw [hx]; exact (hb.cell (p := ⟨b, off + s, none⟩) hbw).trans (hsee.byte s hsl)
        have hxne : ((x : Int) == 32) = false := by
          have : x ≠ 32 := by intro e; apply hb32; exact UInt8.toNat_inj.1 (by rw [← hx, e]; rfl)
          simp; omega
        obtain ⟨a2, ec2, see2⟩ := hsee.cut s k (by omega) (Nat.le_refl _)
        have q1 := fun W => (run_from (P := Tryd.prog) Tryd.underlying22 size_u8 W (some ⟨b, off, none⟩) k c s (s : Int) rfl (by omega)).trans (congrArg (fun v => Result.ok v W) ec2)
        have e2 : (List.map bv bs).take k = List.map bv bs := List.take_of_length_le (by rw [HS.out.len]; exact Nat.le_refl _)
        rw [e2, ← List.map_drop] at see2
        have q2 := (see2.below hb).str (P := Tryd.prog) 22 5 9 Tryd.underlying22 Tryd.underlying5 Tryd.underlying9
        have HR := Lib.hid hrow
        have HB := Lib.hid hb
        have HF := Lib.hid hfin
        clear ec2 see2 hsee e2 hrow hb hfin hb32 hx hi2
        go_wp2_with (at_builtin; refine wpList_append_row anyCell _ rfl _ _ 126 rfl w.heap.size 9 i0 (.string ByteArray.empty) 16 Tryd.underlying126 hi hz0 hz1 hz2 rfl trivial _ _ _ rfl (HR.out.below ((Below.refl _ _).alloc (Nat.le_refl _) _)) (some ⟨wr.heap.size, 0, none⟩) 1 1 [sv (bs.drop s)] rfl (sees_one _ _ _) (sv_one [_]) (fun _ _ => trivial) ?c4 ?c5 ?c6 ?_)
        case c4 => unfold maxLen; omega
        case c5 => omega
        case c6 => have := HB.out.size; simp; omega
        intro v' w1 hrow1 hgrow1 _
        have hlt1 := HR.out.own.lt
        have hb1 : Below w.heap.size w w1 := (HB.out.alloc (by have := HB.out.size; omega) _).grown hgrow1 (by have := HB.out.size; simp; omega) (fun k hk => (hlt1 k hk).1)
        clear hgrow1 hlt1
        go_wp2
        rw [Exit.noGoto_ret]
        go_ret2
        exact Or.inr ⟨_, v', HF.out, rfl, by simpa using hrow1, hb1⟩

set_option maxRecDepth 100000 in
set_option maxHeartbeats 400000 in
theorem words_empty (a : Option Addr) (c : Nat) (w : World) : Calls Tryd.prog 79 #[.slice a 0 c] w (WordsPost [] w) := by
  go_enter Tryd.func79, Tryd.ntmps79
  go_wp2
  go_step3
  go_wp2
  try rw [Exit.noGoto_ret]
  go_ret2
  exact Or.inr ⟨[], _, rfl, rfl, Row.nil _ _ _ _, Below.refl _ _⟩

/-- Words, at every line. -/
theorem words_all (bs : List UInt8) (a : Option Addr) (n c : Nat) (w : World) (h : Sees w a n c (bs.map bv)) (hn : n ≤ 1000000000) :
    Calls Tryd.prog 79 #[.slice a n c] w (WordsPost bs w) := by
  rcases Nat.eq_zero_or_pos n with h0 | h0
  · subst h0
    have : bs = [] := List.eq_nil_of_length_eq_zero (by have := h.len; simpa using this)
    subst this
    exact words_empty a c w
  · exact words_any bs a n c w h hn h0
end Go.Proofs.YtkimhlomadmnkaaDoor
