/- The law's text, with more bytes behind it, by its contract. -/
import Derived.Test.YtglhnmbfkbjemaaDoorRawFRow
import Derived.Test.YtglhnmbfkbjemaaDoorNBase
import Derived.Test.YtglhnmbfkbjemaaDoorNumber
namespace Go.Proofs.YtglhnmbfkbjemaaDoor
open Go Go.RowKit Go.Joins

/-- Each / is a line's end. -/
def slash (u : UInt8) : UInt8 := if u = 47 then 10 else u
/-- Bytes of which the first k are turned. -/
def slashed (l : List UInt8) (k : Nat) : Array Value := (((l.take k).map slash ++ l.drop k).map bv).toArray

theorem slashed_step (l : List UInt8) (k : Nat) (hk : k < l.length) : (slashed l k).setIfInBounds k (bv (slash (l.getD k 0))) = slashed l (k + 1) := by
  apply Array.ext'
  have hl : (l.take k).length = k := by simp; omega
  have hd : l.drop k = l.getD k 0 :: l.drop (k + 1) := by
    rw [List.drop_eq_getElem_cons hk]; simp [List.getD, List.getElem?_eq_getElem hk]
  simp only [slashed, Array.toList_setIfInBounds, hd, List.map_append, List.map_cons]
  rw [List.set_append_right _ _ (by simp; omega)]
  have e2 : k - (((l.take k).map slash).map bv).length = 0 := by simp; omega
  rw [e2, List.set_cons_zero, take_snoc l k hk, List.map_append, List.map_append, List.append_assoc]
  rfl
theorem slashed_keep (l : List UInt8) (k : Nat) (hk : k < l.length) (h : l.getD k 0 ≠ 47) : slashed l k = slashed l (k + 1) := by
  have hd : l.drop k = l.getD k 0 :: l.drop (k + 1) := by
    rw [List.drop_eq_getElem_cons hk]; simp [List.getD, List.getElem?_eq_getElem hk]
  have hs : slash (l.getD k 0) = l.getD k 0 := by unfold slash; rw [if_neg h]
  unfold slashed
  rw [hd, take_snoc l k hk]
  simp only [List.map_append, List.map_cons, List.map_nil, hs, List.append_assoc, List.cons_append, List.nil_append]
theorem slashed_cell (l : List UInt8) (k : Nat) (hk : k < l.length) : (slashed l k)[k]? = some (.int .u8 ((l.getD k 0).toNat : Int)) := by
  have hl : (l.take k).length = k := by simp; omega
  have hd : l.drop k = l.getD k 0 :: l.drop (k + 1) := by
    rw [List.drop_eq_getElem_cons hk]; simp [List.getD, List.getElem?_eq_getElem hk]
  unfold slashed
  rw [List.getElem?_toArray, hd, List.map_append, List.getElem?_append_right (by simp; omega)]
  have e : k - (((l.take k).map slash).map bv).length = 0 := by simp; omega
  rw [e]; rfl

theorem unfrozen_bytes (w : World) (e : TypeId) (s : ByteArray) (k : Nat) (hk : k < s.size) : (Lib.bytesWorld w e s).frozen? ⟨w.heap.size, k, none⟩ = false := by
  have hs : s.size ≤ (Lib.bytesCells w e s).size := by simp [Lib.bytesCells]
  unfold World.frozen?
  rw [Lib.bytesWorld_at_new]
  simp
  omega
theorem slashed_size (l : List UInt8) (k : Nat) (hk : k ≤ l.length) : (slashed l k).size = l.length := by simp [slashed]; omega

theorem FRow.set {w : World} {base : Nat} {v : Value} {n : Nat} {xs : List Value} {g cap : Nat} (h : FRow w base v n xs g cap) (k : Nat) (hk : k < n) (u : Value) : FRow (w.setCell ⟨g, k, none⟩ u) base v n (xs.set k u) g cap := by
  have hc := h.sees.cap
  have hl := h.sees.len
  refine ⟨h.form, h.le, ⟨by rw [List.length_set]; exact hl, hc, (fun e => by cases e), fun _ => ⟨g, 0, rfl, by simpa using h.lt, fun j hj => ?_⟩⟩, h.max, by simpa using h.lt, fun j hj => ⟨?_, by rw [World.frozen?_setCell]; exact (h.cells j hj).2⟩⟩
  · rw [Nat.zero_add]
    by_cases e : k = j
    · subst e
      rw [World.cell?_setCell_same' w _ _ (h.cells k (by omega)).1, List.getElem?_set_self (by omega)]
    · rw [World.cell?_setCell_other _ _ _ _ (by intro e2; cases e2; exact e rfl), List.getElem?_set_ne e]
      have := (h.sees.cell j hj).2
      rw [Nat.zero_add] at this
      exact this
  · by_cases e : k = j
    · subst e
      rw [World.cell?_setCell_same' w _ _ (h.cells k (by omega)).1]; rfl
    · rw [World.cell?_setCell_other _ _ _ _ (by intro e2; cases e2; exact e rfl)]
      exact (h.cells j hj).1

set_option maxRecDepth 100000 in
set_option maxHeartbeats 1600000 in
theorem text4_any (l more : List UInt8) (a : Option Addr) (m c : Nat) (w : World) (hs : Sees w a m c (more.map bv)) (h0 : 0 < l.length) (hn : l.length ≤ 1000000) (hm : m ≤ 1000000) :
    Calls Tryd.prog 10 #[.string (str l), .slice a m c] w fun e w' => ∃ a2 c2, e = .returned (.slice a2 (l.length + m) c2) ∧ Sees w' a2 (l.length + m) c2 ((l.map slash ++ more).map bv) ∧ Below w.heap.size w w' := by
  obtain ⟨i0, hi, hz0, hz1, hz2⟩ := info_parts info_u8
  have q := fun (W : World) => Lib.run_convert_string_bytes (P := Tryd.prog) W 9 22 5 (str l) Tryd.underlying9 Tryd.underlying22 Tryd.underlying5
  have hsz := size_str l
  have hfr := frow_bytes w.heap.size w l (Nat.le_refl _) (by omega)
  rw [hsz] at q
  obtain ⟨W0, hW0⟩ : ∃ W0, W0 = Lib.bytesWorld w 5 (str l) := ⟨_, rfl⟩
  have q1 := q w
  rw [← hW0] at q1 hfr
  obtain ⟨cp, hcp⟩ : ∃ cp, cp = grownCap w l.length 0 5 := ⟨_, rfl⟩
  rw [← hcp] at q1 hfr
  have hb0 : Below w.heap.size w W0 := by rw [hW0]; exact below_bytes w _ _
  have e0 : l.map bv = (slashed l 0).toList := by simp [slashed]
  rw [e0] at hfr
  have HFR := Lib.hid hfr
  have HB := Lib.hid hb0
  have HS := Lib.hid hs
  clear q hsz hW0 hcp hfr hb0 e0 hs
  go_enter Tryd.func10, Tryd.ntmps10
  go_wp2
  go_loopw [6, 11] (fun _ i wr => ∃ k : Nat, k ≤ l.length ∧ i = .int .i64 k ∧ Hid (FRow wr w.heap.size (.slice (some ⟨w.heap.size, 0, none⟩) l.length cp) l.length (slashed l k).toList w.heap.size cp) ∧ Hid (Below w.heap.size w wr))
    (fun _ i _ => l.length - (intOf i).toNat)
  case atStart => exact ⟨0, Nat.zero_le _, rfl, HFR.out, HB.out⟩
  case round =>
    obtain ⟨k, hk, rfl, hf, hb⟩ := hrel
    clear HFR HB
    by_cases hlt : k < l.length
    · have hcx0 := (hf.out.sees.cell k hlt).2
      have hcx : wr.cell? ⟨w.heap.size, k, none⟩ = some (.int .u8 ((l.getD k 0).toNat : Int)) := by
        rw [Nat.zero_add] at hcx0
        rw [hcx0, Array.getElem?_toList]
        exact slashed_cell l k hlt
      have hfx := (hf.out.cells k (by have := hf.out.sees.cap; omega)).2
      have W1 : IntKind.i64.wrap ((k : Int) + 1) = (k : Int) + 1 := IntWalk.i64_in _ (by omega)
      obtain ⟨x, hx⟩ : ∃ x, x = l.getD k 0 := ⟨_, rfl⟩
      rw [← hx] at hcx
      have HX := Lib.hid hx
      clear hx hcx0
      by_cases h47 : x = 47
      · subst h47
        have hst := slashed_step l k hlt
        rw [← HX.out] at hst
        have hst2 : (slashed l k).setIfInBounds k (.int .u8 10) = slashed l (k + 1) := hst
        have hf2 := hf.out.set k hlt (.int .u8 10)
        rw [← Array.toList_setIfInBounds, hst2] at hf2
        have HF2 := Lib.hid hf2
        have HB2 := Lib.hid (hb.out.setCell (p := ⟨w.heap.size, k, none⟩) (Nat.le_refl _) (.int .u8 10))
        clear hst hst2 hf2 hf hb
        go_wp2
        go_roundw
        case rel => exact ⟨k + 1, by omega, by go_num, HF2.out, HB2.out⟩
        case measure => simp [intOf]; omega
      · have e1 : ((x.toNat : Int) == 47) = false := by
          simp
          intro e
          exact h47 (UInt8.toNat_inj.1 (by have : x.toNat = 47 := by omega
                                           rw [this]; rfl))
        have hke := slashed_keep l k hlt (by rw [← HX.out]; exact h47)
        have HF2 := Lib.hid hf.out
        rw [hke] at HF2
        have HB2 := Lib.hid hb.out
        clear hke h47 hf hb
        go_wp2
        go_roundw
        case rel => exact ⟨k + 1, by omega, by go_num, HF2.out, HB2.out⟩
        case measure => simp [intOf]; omega
    · obtain rfl : l.length = k := by omega
      have hxs : (slashed l l.length).toList = (l.map slash).map bv := by simp [slashed]
      rw [hxs] at hf
      have HF := Lib.hid hf.out
      have HB2 := Lib.hid hb.out
      have HS2 := Lib.hid (HS.out.below hb.out)
      have hmax := hf.out.max
      clear hxs hf hb HS hlt hk
      go_wp2_with (at_builtin; refine wpList_append_frow isByte _ rfl _ _ 22 rfl w.heap.size 5 i0 (.int .u8 0) 1 Tryd.underlying22 hi hz0 hz1 hz2 rfl isByte_zero _ _ _ w.heap.size cp rfl HF.out h0 (isByte_all _) a m c (more.map bv) rfl HS2.out (bv_one _) (isByte_all _) ?r4 ?r5 ?r6 ?_)
      case r4 => unfold maxLen; omega
      case r5 => omega
      case r6 => exact HB2.out.size
      intro v' w' g' cap' hf' hb'
      obtain ⟨rfl, _, hsee', _, _, _⟩ := hf'
      have HSE := Lib.hid hsee'
      have HB3 := Lib.hid (HB2.out.trans hb')
      clear hsee' hb' HF HB2 HS2
      go_wp2
      go_ret
      exact ⟨_, _, rfl, by rw [List.map_append, List.map_map]; exact HSE.out, HB3.out⟩
end Go.Proofs.YtglhnmbfkbjemaaDoor
