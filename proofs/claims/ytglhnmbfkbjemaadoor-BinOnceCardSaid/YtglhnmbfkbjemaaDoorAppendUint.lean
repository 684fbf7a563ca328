/- strconv.AppendUint at base 10, by its contract: what comes back owns the cells and, behind them, the numeral; all its cells, the spare ones too, are bytes. -/
import Derived.Test.YtglhnmbfkbjemaaDoorShelf
import Derived.Test.YtglhnmbfkbjemaaDoorClone
namespace Go.Proofs.YtglhnmbfkbjemaaDoor
open Go Go.RowKit Go.Sort

/-- The table of the library's that its numerals read. -/
def Tab (w : World) : Prop := Lib.TabIs Tryd.prog w "internal/strconv.uint64pow10" .u64 Lib.pow10Tab

theorem Tab.below {w w' : World} {B : Nat} (h : Tab w) (hb : Below B w w') (hB : w.heap.size ≤ B) : Tab w' := by
  unfold Tab Lib.TabIs at h ⊢
  unfold World.var? at h ⊢
  cases hg : Tryd.prog.globalNamed "internal/strconv.uint64pow10" with
  | none => simp [hg] at h
  | some g =>
    simp only [hg, Option.bind_some] at h ⊢
    have hlt : g < w.heap.size := by
      rcases Nat.lt_or_ge g w.heap.size with h' | h'
      · exact h'
      · simp [Array.getElem?_eq_none h'] at h
    rw [hb.block g (by omega)]
    exact h

theorem dec_len (u : Nat) (hu64 : u < 18446744073709551616) : (Lib.decDigits u).length ≤ 20 := by
  rw [Lib.decDigits_length]
  rcases Nat.eq_zero_or_pos u with h0 | h1
  · subst h0; rw [Lib.nDigits_small (by omega)]; omega
  · have := Lib.numDigits_eq u h1 hu64; split at this <;> omega

set_option maxHeartbeats 6400000 in
set_option maxRecDepth 100000 in
theorem appu_small (B n u : Nat) (hu : u < 100) (sv : Value) (xs : List Value) (w : World) (hown : Row isByte w B 5 sv n xs) (hBw : B ≤ w.heap.size) (hlim : n + 20 ≤ 140737488355328) :
    Calls Tryd.prog 66 #[sv, .int .u64 u, .int .i64 10] w fun e w' => ∃ v', e = .returned v' ∧ Row isByte w' B 5 v' (n + (Lib.decDigits u).length) (xs ++ (Lib.decDigits u).map bv) ∧ Below B w w' := by
  obtain ⟨i0, hi, hz0, hz1, hz2⟩ := info_parts info_u8
  have hlen := dec_len u (by omega)
  have hsz : (str (Lib.decDigits u)).size = (Lib.decDigits u).length := size_str _
  go_enter Tryd.func66, Tryd.ntmps66
  go_wp2_with (first
    | (go_at_call 74; refine (Tryd.internal_strconv_small u hu _).mono ?_; rintro e w' ⟨rfl, rfl⟩)
    | (at_builtin; refine wpList_append_row_string isByte _ rfl _ _ 22 9 rfl B 5 i0 Tryd.underlying22 Tryd.underlying9 hi hz0 hz1 hz2 isByte_zero _ _ _ rfl hown (str (Lib.decDigits u)) rfl (isByte_str _) (by rw [hsz]; unfold maxLen; omega) (by rw [hsz]; omega) hBw ?_))
  intro v' w1 hown' hgrow _
  go_wp2
  go_ret
  refine ⟨v', rfl, ?_, (Below.refl B _).grown hgrow hBw (fun k hk => (hown.own.lt k hk).1)⟩
  first
    | exact hown'
    | (have h5 := hown'; rw [strCells_str] at h5; simpa [hsz] using h5)

set_option maxHeartbeats 12800000 in
set_option maxRecDepth 100000 in
theorem appu_big (B n u : Nat) (hu : 100 ≤ u) (hu64 : u < 18446744073709551616) (sv : Value) (xs : List Value) (w : World) (hown : Row isByte w B 5 sv n xs) (hBw : B ≤ w.heap.size) (hlim : n + 20 ≤ 140737488355328)
    (htab : Tab w) :
    Calls Tryd.prog 66 #[sv, .int .u64 u, .int .i64 10] w fun e w' => ∃ v', e = .returned v' ∧ Row isByte w' B 5 v' (n + (Lib.decDigits u).length) (xs ++ (Lib.decDigits u).map bv) ∧ Below B w w' := by
  obtain ⟨i0, hi, hz0, hz1, hz2⟩ := info_parts info_u8
  have hu1 : 1 ≤ u := by omega
  have hnd20 : Lib.nDigits u ≤ 20 := by have := Lib.numDigits_eq u hu1 hu64; split at this <;> omega
  have hal : Tryd.prog.arrayLen 127 = 24 := by simp [Program.arrayLen, Tryd.underlying127]
  have hsl : ∀ W, (Instr.sliceAt 127 (.pointer (some ⟨w.heap.size, 0, none⟩)) none (some (.int .i64 (Lib.nDigits u : Int))) none).run Tryd.prog W = .ok (.slice (some ⟨w.heap.size, 0, none⟩) (Lib.nDigits u) 24) W := fun W => by
    rw [run_sliceAt_array_h W 127 ⟨w.heap.size, 0, none⟩ (by simp [Program.arrayLen, Program.elem, Tryd.underlying127]) .i64 (Lib.nDigits u : Int) (by omega) (by rw [hal]; omega)]
    go_simp
  have hH0 := Lib.holds_zero0 w 127 (Lib.nDigits u) (by omega)
  have hfmt := Tryd.internal_strconv_formatBase10 w.heap.size 0 24 u (Array.replicate (Lib.nDigits u) 0) (w.alloc (.cells Lib.zeros24 127)) hH0 (by rw [Array.size_replicate]; exact Lib.lt_pow_nDigits u) hu64 (by rw [Array.size_replicate]; omega)
  rw [Array.size_replicate] at hfmt
  have HH0 := Lib.hid hH0
  have iu : (100 : Int) ≤ (u : Int) := by omega
  have HOWN := Lib.hid hown
  clear hH0 hal hown
  go_enter Tryd.func66, Tryd.ntmps66
  go_wp2_with (first
    | (go_at_call 75; refine (Tryd.internal_strconv_numDigits u hu1 hu64 _ (Lib.tabIs_alloc htab _)).mono ?_; rintro e w' ⟨rfl, rfl⟩))
  refine hfmt.mono ?_
  rintro e w' ⟨rfl, k, v', dk, rfl, hF⟩
  have hcells : ∀ j u', (Lib.byteCells (Lib.decDigits u))[j]? = some u' → ((putRow (fun (b : UInt8) => Value.int .u8 (b.toNat : Int)) (w.alloc (.cells Lib.zeros24 127)) w.heap.size 0 dk).drewN k).cell? ((⟨w.heap.size, 0, none⟩ : Addr).add j) = some u' := by
    intro j u' hj
    have hjl : j < (Lib.decDigits u).length := by
      have h5 := (List.getElem?_eq_some_iff.1 hj).1
      rwa [Lib.byteCells_length] at h5
    have e5 : (Lib.byteCells (Lib.decDigits u))[j]? = some (Value.int .u8 ((Lib.decDigits u)[j].toNat : Int)) := by simp [Lib.byteCells, hjl]
    rw [e5] at hj
    cases hj
    rw [Lib.row_is_numeral hF j hjl, Lib.add_plain, World.cell?_drewN]
    exact cell?_putRow (fun (b : UInt8) => Value.int .u8 (b.toNat : Int)) _ w.heap.size 0 _ dk HH0.out (by rw [hF.size, Array.size_replicate]) j (by rw [hF.size]; rw [Lib.decDigits_length] at hjl; exact hjl)
  obtain ⟨os, eo⟩ := Lib.fin_at w (.cells Lib.zeros24 127) dk k 0
  have hnx2 : Below w.heap.size w ((putRow (fun (b : UInt8) => Value.int .u8 (b.toNat : Int)) (w.alloc (.cells Lib.zeros24 127)) w.heap.size 0 dk).drewN k) := by rw [eo]; exact Lib.below_grow w.heap.size w (Nat.le_refl _) k os
  have hsz1 : w.heap.size < ((putRow (fun (b : UInt8) => Value.int .u8 (b.toNat : Int)) (w.alloc (.cells Lib.zeros24 127)) w.heap.size 0 dk).drewN k).heap.size := by
    have hjl : 0 < (Lib.decDigits u).length := by rw [Lib.decDigits_length]; exact Lib.nDigits_pos u
    have h0 : (Lib.byteCells (Lib.decDigits u))[0]? = some (Value.int .u8 ((Lib.decDigits u)[0].toNat : Int)) := by simp [Lib.byteCells, hjl]
    exact World.block_lt_of_cell? _ _ (hcells 0 _ h0)
  generalize (putRow (fun (b : UInt8) => Value.int .u8 (b.toNat : Int)) (w.alloc (.cells Lib.zeros24 127)) w.heap.size 0 dk).drewN k = W2 at hcells hnx2 hsz1 ⊢
  have hown2 := HOWN.out.below hnx2
  have hsee : Sees W2 (some ⟨w.heap.size, 0, none⟩) (Lib.nDigits u) 24 ((Lib.decDigits u).map bv) := by
    refine ⟨by simp [Lib.decDigits_length], by omega, (fun e => by cases e), fun _ => ⟨w.heap.size, 0, rfl, hsz1, fun j hj => ?_⟩⟩
    have hjl : j < (Lib.decDigits u).length := by rw [Lib.decDigits_length]; exact hj
    have e5 : (Lib.byteCells (Lib.decDigits u))[j]? = some (Value.int .u8 ((Lib.decDigits u)[j].toNat : Int)) := by simp [Lib.byteCells, hjl]
    have := hcells j _ e5
    rw [Lib.add_plain] at this
    rw [Nat.zero_add] at this
    rw [Nat.zero_add, this]
    simp [bv, hjl]
  have HSEE := Lib.hid hsee
  clear eo HH0 hfmt hcells hsee
  go_wp2_with (at_builtin; refine wpList_append_row isByte _ rfl _ _ 22 rfl B 5 i0 (.int .u8 0) 1 Tryd.underlying22 hi hz0 hz1 hz2 rfl isByte_zero _ _ _ rfl hown2 (some ⟨w.heap.size, 0, none⟩) (Lib.nDigits u) 24 ((Lib.decDigits u).map bv) rfl HSEE.out (bv_one _) (isByte_all _) ?c3 ?c4 ?c5 ?_)
  case c3 => unfold maxLen; omega
  case c4 => omega
  case c5 => omega
  intro v2 w3 hown' hgrow _
  go_wp2
  go_ret
  refine ⟨v2, rfl, ?_, (hnx2.mono hBw).grown hgrow (by omega) (fun k hk => (hown2.own.lt k hk).1)⟩
  rw [Lib.decDigits_length]
  exact hown'

/-- strconv.AppendUint(dst, u, 10). -/
theorem appu (B n u : Nat) (hu64 : u < 18446744073709551616) (sv : Value) (xs : List Value) (w : World) (hown : Row isByte w B 5 sv n xs) (hBw : B ≤ w.heap.size) (hlim : n + 20 ≤ 140737488355328) (htab : Tab w) :
    Calls Tryd.prog 44 #[sv, .int .u64 u, .int .i64 10] w fun e w' => ∃ v', e = .returned v' ∧ Row isByte w' B 5 v' (n + (Lib.decDigits u).length) (xs ++ (Lib.decDigits u).map bv) ∧ Below B w w' := by
  have HC := Lib.hid (show Calls Tryd.prog 66 #[sv, .int .u64 u, .int .i64 10] w fun e w' => ∃ v', e = .returned v' ∧ Row isByte w' B 5 v' (n + (Lib.decDigits u).length) (xs ++ (Lib.decDigits u).map bv) ∧ Below B w w' from by
    rcases Nat.lt_or_ge u 100 with h | h
    · exact appu_small B n u h sv xs w hown hBw hlim
    · exact appu_big B n u h hu64 sv xs w hown hBw hlim htab)
  clear hown htab hu64
  go_enter Tryd.func44, Tryd.ntmps44
  go_wp2_with fail
  refine HC.out.mono ?_
  rintro e w1 ⟨v', rfl, hrow, hb⟩
  go_wp2
  go_ret
  exact ⟨v', rfl, hrow, hb⟩
end Go.Proofs.YtglhnmbfkbjemaaDoor
