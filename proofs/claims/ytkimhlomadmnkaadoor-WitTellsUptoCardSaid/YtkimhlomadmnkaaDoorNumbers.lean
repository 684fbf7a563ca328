/- lex.Numbers, by its contract. -/
import Derived.Test.YtkimhlomadmnkaaDoorWords
import Derived.Test.YtkimhlomadmnkaaDoorNumber
import Derived.Test.YtkimhlomadmnkaaDoorNBase
namespace Go.Proofs.YtkimhlomadmnkaaDoor
open Go Go.RowKit Go.Joins

/-- The first error of words as numbers. -/
def firstErr : List (List UInt8) → Nat → Int
  | [], _ => 0
  | x :: r, most => if numErr x most = 0 then firstErr r most else numErr x most

/-- The error of a line as numbers. -/
def numsErr (l : List UInt8) (least many : Int) (most : Nat) : Int :=
  match wordsOf l with
  | none => 5
  | some W => if (W.length : Int) < least ∨ many < (W.length : Int) then 5 else firstErr W most
/-- The numbers of a line. -/
def numsOf (l : List UInt8) (most : Nat) : List Nat := ((wordsOf l).getD []).map fun x => numOf x most

def NumsPost (l : List UInt8) (least many : Int) (most : Nat) (w : World) (e : Ending) (w' : World) : Prop :=
  Below w.heap.size w w' ∧
  ((numsErr l least many most ≠ 0 ∧ e = .returned (.tuple #[.slice none 0 0, .int .i64 (numsErr l least many most)])) ∨
   (numsErr l least many most = 0 ∧ ∃ v, e = .returned (.tuple #[v, .int .i64 0]) ∧ Row isU32 w' w.heap.size 51 v (numsOf l most).length ((numsOf l most).map nv32)))

theorem numErr_cases (l : List UInt8) (most : Nat) : numErr l most = 0 ∨ numErr l most = 3 ∨ numErr l most = 5 := by
  unfold numErr
  split
  · simp
  · split <;> simp

theorem numOf_le (l : List UInt8) (most : Nat) : numOf l most ≤ most := by
  unfold numOf
  split
  · rename_i h
    unfold numErr at h
    split at h
    · cases h
    · split at h
      · cases h
      · omega
  · omega

theorem firstErr_at : ∀ (W : List (List UInt8)) (most k : Nat), k < W.length → (∀ m, m < k → numErr (W.getD m []) most = 0) → numErr (W.getD k []) most ≠ 0 → firstErr W most = numErr (W.getD k []) most
  | [], _, k, hk, _, _ => by simp at hk
  | x :: r, most, 0, _, _, h => by simp [List.getD] at h ⊢; simp [firstErr, h]
  | x :: r, most, k + 1, hk, hall, h => by
    have h0 : numErr x most = 0 := by have := hall 0 (by omega); simpa [List.getD] using this
    have := firstErr_at r most k (by simpa using hk) (fun m hm => by have := hall (m + 1) (by omega); simpa [List.getD] using this) (by simpa [List.getD] using h)
    rw [firstErr, if_pos h0, this]
    simp [List.getD]

theorem firstErr_none : ∀ (W : List (List UInt8)) (most : Nat), (∀ m, m < W.length → numErr (W.getD m []) most = 0) → firstErr W most = 0
  | [], _, _ => rfl
  | x :: r, most, hall => by
    have h0 : numErr x most = 0 := by have := hall 0 (by simp); simpa [List.getD] using this
    rw [firstErr, if_pos h0]
    exact firstErr_none r most fun m hm => by have := hall (m + 1) (by simpa using hm); simpa [List.getD] using this

/-- The row of numbers when k of them are read. -/
def numCells (W : List (List UInt8)) (most k : Nat) : Array Value := ((W.take k).map (fun x => nv32 (numOf x most)) ++ List.replicate (W.length - k) (nv32 0)).toArray
theorem numCells_zero (W : List (List UInt8)) (most : Nat) : numCells W most 0 = zeros (.int .u32 0) W.length := by simp [numCells, zeros, nv32]
theorem numCells_size (W : List (List UInt8)) (most k : Nat) (hk : k ≤ W.length) : (numCells W most k).size = W.length := by simp [numCells]; omega
theorem numCells_step (W : List (List UInt8)) (most k : Nat) (hk : k < W.length) : (numCells W most k).setIfInBounds k (nv32 (numOf (W.getD k []) most)) = numCells W most (k + 1) := by
  apply Array.ext'
  have hl : (W.take k).length = k := by simp; omega
  have e1 : W.length - k = (W.length - (k + 1)) + 1 := by omega
  simp only [numCells, Array.toList_setIfInBounds, e1, List.replicate_succ]
  rw [List.set_append_right _ _ (by simp; omega)]
  have e2 : k - (List.map (fun x => nv32 (numOf x most)) (W.take k)).length = 0 := by simp; omega
  rw [e2, List.set_cons_zero, List.take_succ_eq_append_getElem hk, List.map_append, List.append_assoc]
  simp [List.getD, List.getElem?_eq_getElem hk]
theorem numCells_ok (W : List (List UInt8)) (most k : Nat) (hm : most < 4294967296) : ∀ u ∈ (numCells W most k).toList, isU32 u := by
  intro u hu
  simp only [numCells, List.mem_append, List.mem_map, List.mem_replicate] at hu
  rcases hu with ⟨x, _, rfl⟩ | ⟨_, rfl⟩
  · exact ⟨_, Nat.lt_of_le_of_lt (numOf_le x most) hm, rfl⟩
  · exact ⟨0, by omega, rfl⟩
theorem numCells_full (W : List (List UInt8)) (most : Nat) : (numCells W most W.length).toList = (W.map fun x => numOf x most).map nv32 := by simp [numCells]

theorem sees_str {w : World} {b off n c : Nat} {W : List (List UInt8)} (h : Sees w (some ⟨b, off, none⟩) n c (W.map sv)) (j : Nat) (hj : j < n) : w.cell? ⟨b, off + j, none⟩ = some (.string (str (W.getD j []))) := by
  have hl : W.length = n := by have := h.len; simpa using this
  rw [(h.cell j hj).2]
  simp [sv, List.getD, List.getElem?_eq_getElem (show j < W.length by omega)]

set_option maxRecDepth 100000 in
set_option maxHeartbeats 1600000 in
theorem numbers_any (bs : List UInt8) (a : Option Addr) (n c : Nat) (least many : Int) (most : Nat) (w : World) (h : Sees w a n c (bs.map bv)) (hn : n ≤ 100000000) (hm : most < 4294967296) :
    Calls Tryd.prog 81 #[.slice a n c, .int .i64 least, .int .i64 many, .int .u32 most] w (NumsPost bs least many most w) := by
  obtain ⟨i0, hi, hz0, hz1, hz2⟩ := info_parts info_u32
  have hbl : bs.length = n := by have := h.len; simpa using this
  have HL : Hid (bs.length = n) := hbl
  have HW := Lib.hid (words_all bs a n c w h (by omega))
  clear h hbl
  go_enter Tryd.func81, Tryd.ntmps81
  go_wp2_with fail
  refine HW.out.mono ?_
  rintro e w1 (⟨hno, rfl, hb1⟩ | ⟨W, vw, hso, rfl, hrow, hb1⟩)
  · have HN := Lib.hid hno
    clear hno
    go_wp2
    go_ret2
    have e5 : numsErr bs least many most = 5 := by unfold numsErr; rw [HN.out]
    exact ⟨hb1, Or.inl ⟨by rw [e5]; decide, by rw [e5]; rfl⟩⟩
  · have HS := Lib.hid hso
    obtain ⟨aw, cw, rfl, hcm, hsee⟩ := hrow.sees
    have hsz := wordsOf_size hso
    have hWn : W.length ≤ 100000001 := by have := hsz.1; have := HL.out; omega
    have HSZ := Lib.hid hsz.2
    have HSEE := Lib.hid hsee
    clear hso hrow hsz hsee
    by_cases hfew : (W.length : Int) < least ∨ many < (W.length : Int)
    · have e5 : numsErr bs least many most = 5 := by unfold numsErr; rw [HS.out]; exact if_pos hfew
      have E5 := Lib.hid e5
      clear e5
      rcases hfew with hf | hf
      · go_wp2
        go_ret2
        exact ⟨hb1, Or.inl ⟨by rw [E5.out]; decide, by rw [E5.out]; rfl⟩⟩
      · by_cases hf2 : (W.length : Int) < least
        all_goals
          go_wp2
          go_ret2
          exact ⟨hb1, Or.inl ⟨by rw [E5.out]; decide, by rw [E5.out]; rfl⟩⟩
    · have hf1 : least ≤ (W.length : Int) := by omega
      have hf2 : (W.length : Int) ≤ many := by omega
      have enum : numsErr bs least many most = firstErr W most := by unfold numsErr; rw [HS.out]; exact if_neg hfew
      have EN := Lib.hid enum
      clear enum hfew
      have hmk := run_make_n (P := Tryd.prog) Tryd.underlying26 hi hz0 hz1 hz2 rfl W.length (by omega) (by omega)
      go_wp2
      go_loopw [11, 13, 14, 38] (fun er _ _ j wr => ∃ k : Nat, k ≤ W.length ∧ j = .int .i64 k ∧ Hid (wr.heap[w1.heap.size]? = some (.cells (numCells W most k) 51 (0, 0))) ∧ Hid (Below w1.heap.size w1 wr) ∧ Hid (∀ m, m < k → numErr (W.getD m []) most = 0))
        (fun _ _ _ j _ => W.length - (intOf j).toNat)
      case atStart => exact ⟨0, Nat.zero_le _, rfl, by show _ = _; rw [numCells_zero]; exact heap_alloc_new _ _, (Below.refl _ _).alloc (Nat.le_refl _) _, fun m hm => absurd hm (by omega)⟩
      case round =>
        obtain ⟨k, hk, rfl, hcells, hb2, hall⟩ := hrel
        by_cases hlt : k < W.length
        · obtain ⟨b, off, ea, hbw⟩ := HSEE.out.addr (by omega)
          have hsee := HSEE.out.below hb2.out
          rw [ea] at hsee ⊢
          have hcx := sees_str hsee k hlt
          obtain ⟨nv, hnv⟩ : ∃ nv : Nat, nv = numOf (W.getD k []) most := ⟨_, rfl⟩
          obtain ⟨er, her⟩ : ∃ er : Int, er = numErr (W.getD k []) most := ⟨_, rfl⟩
          have HC := number_named (W.getD k []) most wr nv er hnv her (by
            have : W.getD k [] ∈ W := by simp [List.getD, List.getElem?_eq_getElem hlt]
            have := HSZ.out _ this
            have := HL.out
            omega) hm
          have HC' := Lib.hid HC
          have HNV := Lib.hid hnv
          have HER := Lib.hid her
          obtain ⟨wd, hwd⟩ : ∃ wd : ByteArray, wd = str (W.getD k []) := ⟨_, rfl⟩
          rw [← hwd] at hcx
          have HWD := Lib.hid hwd
          clear HC hnv her hsee hwd ea
          go_wp2_with fail
          rw [HWD.out]
          refine HC'.out.mono ?_
          rintro e w2 ⟨rfl, hb3⟩
          have hgsz : w1.heap.size < wr.heap.size := (Array.getElem?_eq_some_iff.1 hcells.out).1
          have hg2 : w2.heap[w1.heap.size]? = some (.cells (numCells W most k) 51 (0, 0)) := (hb3.block _ hgsz).trans hcells.out
          obtain ⟨old, hold⟩ : ∃ old, w2.cell? ⟨w1.heap.size, k, none⟩ = some old := by
            have hs := numCells_size W most k hk
            exact ⟨(numCells W most k)[k]'(by rw [hs]; exact hlt), by rw [cell_of_block hg2 k, Array.getElem?_eq_getElem]⟩
          have hfz := unfrozen_of_block hg2 k
          have hb4 : Below w1.heap.size w1 (w2.setCell ⟨w1.heap.size, k, none⟩ (nv32 nv)) := (hb2.out.trans (hb3.mono (by omega))).setCell (p := ⟨w1.heap.size, k, none⟩) (Nat.le_refl _) _
          have hg4 := block_setCell hg2 (i := k) (nv32 nv)
          rw [HNV.out, numCells_step W most k hlt, ← HNV.out] at hg4
          have HB4 := Lib.hid hb4
          have HG4 := Lib.hid hg4
          clear hb4 hg4 hg2 hb3 hgsz hcells hb2
          by_cases e0 : er = 0
          · subst e0
            go_wp2
            go_roundw
            case rel =>
              refine ⟨k + 1, by omega, by go_num, HG4.out, HB4.out, fun m hm => ?_⟩
              rcases Nat.lt_or_ge m k with h | h
              · exact hall.out m h
              · have : m = k := by omega
                subst this
                exact HER.out.symm
            case measure => simp [intOf]; omega
          · have en1 : (er != 0) = true := by simp [e0]
            have en2 : (er == 0) = false := by simp [e0]
            have ef : numsErr bs least many most = er := by
              rw [EN.out, HER.out]
              exact firstErr_at W most k hlt hall.out (by rw [← HER.out]; exact e0)
            have EF := Lib.hid ef
            have E0 := Lib.hid e0
            clear ef e0
            go_wp2
            go_ret2
            exact ⟨hb1.trans (HB4.out.mono hb1.size), Or.inl ⟨by rw [EF.out]; exact E0.out, by rw [EF.out]; rfl⟩⟩
        · have hkk : k = W.length := by omega
          subst hkk
          have ef : numsErr bs least many most = 0 := by rw [EN.out]; exact firstErr_none W most hall.out
          have EF := Lib.hid ef
          clear ef
          go_wp2
          go_ret2
          refine ⟨hb1.trans (hb2.out.mono hb1.size), Or.inr ⟨EF.out, _, rfl, ?_⟩⟩
          have hl : (numsOf bs most).length = W.length := by unfold numsOf; rw [HS.out]; simp
          have he : (numsOf bs most).map nv32 = (numCells W most W.length).toList := by unfold numsOf; rw [HS.out, numCells_full]; rfl
          have hs := numCells_size W most W.length (Nat.le_refl _)
          rw [hl, he]
          exact ⟨by rw [Array.length_toList, hs], .inr ⟨w1.heap.size, W.length, _, rfl, hb1.size, hcells.out, Nat.le_refl _, by unfold maxLen; omega, hs, by rw [List.take_of_length_le]; rw [Array.length_toList, hs]; exact Nat.le_refl _, numCells_ok W most _ hm⟩⟩
end Go.Proofs.YtkimhlomadmnkaaDoor
