/- The contracts of package lex at inputs whose answer is known. -/
import Derived.Test.YtkimhlomadmnkaaDoorWrite
import Derived.Test.YtkimhlomadmnkaaDoorLine
import Derived.Test.YtkimhlomadmnkaaDoorNumbers
namespace Go.Proofs.YtkimhlomadmnkaaDoor
open Go Go.RowKit Go.Joins

theorem line_yes (bs : List UInt8) (a : Option Addr) (n c k : Nat) (w : World) (h : Sees w a n c (bs.map bv)) (hn : n ≤ 1000000000) (hk : ahead bs = k) (hlt : k < n) :
    Calls Tryd.prog 54 #[.slice a n c] w fun e w' => ∃ v1 v2, e = .returned (.tuple #[v1, v2, .int .i64 0]) ∧ Row isByte w' w.heap.size 5 v1 k ((bs.take k).map bv) ∧
      Row isByte w' w.heap.size 5 v2 (n - (k + 1)) ((bs.drop (k + 1)).map bv) ∧ Below w.heap.size w w' := by
  refine (line_any bs a n c w h hn).mono fun e w' hp => ?_
  rcases hp with ⟨_, h⟩ | ⟨h, _⟩
  · rw [hk] at h; exact h
  · omega

theorem line_no (bs : List UInt8) (a : Option Addr) (n c : Nat) (w : World) (h : Sees w a n c (bs.map bv)) (hn : n ≤ 1000000000) (hk : ahead bs = n) :
    Calls Tryd.prog 54 #[.slice a n c] w fun e w' => e = .returned (.tuple #[.slice none 0 0, .slice none 0 0, .int .i64 4]) ∧ Below w.heap.size w w' := by
  refine (line_any bs a n c w h hn).mono fun e w' hp => ?_
  rcases hp with ⟨h, _⟩ | ⟨_, h⟩
  · omega
  · exact h

theorem words_yes (bs : List UInt8) (W : List (List UInt8)) (a : Option Addr) (n c : Nat) (w : World) (h : Sees w a n c (bs.map bv)) (hn : n ≤ 1000000000) (hw : wordsOf bs = some W) :
    Calls Tryd.prog 79 #[.slice a n c] w fun e w' => ∃ v, e = .returned (.tuple #[v, .int .i64 0]) ∧ Row anyCell w' w.heap.size 9 v W.length (W.map sv) ∧ Below w.heap.size w w' := by
  refine (words_all bs a n c w h hn).mono fun e w' hp => ?_
  rcases hp with ⟨h, _⟩ | ⟨W', v, h, hr⟩
  · rw [hw] at h; cases h
  · rw [hw] at h; cases h; exact ⟨v, hr⟩

theorem words_no (bs : List UInt8) (a : Option Addr) (n c : Nat) (w : World) (h : Sees w a n c (bs.map bv)) (hn : n ≤ 1000000000) (hw : wordsOf bs = none) :
    Calls Tryd.prog 79 #[.slice a n c] w fun e w' => e = .returned (.tuple #[.slice none 0 0, .int .i64 5]) ∧ Below w.heap.size w w' := by
  refine (words_all bs a n c w h hn).mono fun e w' hp => ?_
  rcases hp with ⟨_, h⟩ | ⟨W', v, h, hr⟩
  · exact h
  · rw [hw] at h; cases h

theorem numbers_yes (bs : List UInt8) (l : List Nat) (a : Option Addr) (n c : Nat) (least many : Int) (most : Nat) (w : World) (h : Sees w a n c (bs.map bv)) (hn : n ≤ 100000000) (hm : most < 4294967296) (he : numsErr bs least many most = 0) (hl : numsOf bs most = l) :
    Calls Tryd.prog 81 #[.slice a n c, .int .i64 least, .int .i64 many, .int .u32 most] w fun e w' => ∃ v, e = .returned (.tuple #[v, .int .i64 0]) ∧ Row isU32 w' w.heap.size 51 v l.length (l.map nv32) ∧ Below w.heap.size w w' := by
  refine (numbers_any bs a n c least many most w h hn hm).mono fun e w' hp => ?_
  obtain ⟨hb, ⟨h, _⟩ | ⟨_, v, h1, h2⟩⟩ := hp
  · exact absurd he h
  · rw [hl] at h2; exact ⟨v, h1, h2, hb⟩

theorem numbers_no (bs : List UInt8) (er : Int) (a : Option Addr) (n c : Nat) (least many : Int) (most : Nat) (w : World) (h : Sees w a n c (bs.map bv)) (hn : n ≤ 100000000) (hm : most < 4294967296) (he : numsErr bs least many most = er) (h0 : er ≠ 0) :
    Calls Tryd.prog 81 #[.slice a n c, .int .i64 least, .int .i64 many, .int .u32 most] w fun e w' => e = .returned (.tuple #[.slice none 0 0, .int .i64 er]) ∧ Below w.heap.size w w' := by
  refine (numbers_any bs a n c least many most w h hn hm).mono fun e w' hp => ?_
  obtain ⟨hb, ⟨_, h⟩ | ⟨h, _⟩⟩ := hp
  · rw [he] at h; exact ⟨h, hb⟩
  · exact absurd (he.symm.trans h) h0
end Go.Proofs.YtkimhlomadmnkaaDoor
