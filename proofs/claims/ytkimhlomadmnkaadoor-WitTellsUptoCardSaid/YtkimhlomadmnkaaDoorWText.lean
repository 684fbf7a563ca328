/- The law's text, by its contract. -/
import Derived.Test.YtkimhlomadmnkaaDoorWSpec
namespace Go.Proofs.YtkimhlomadmnkaaDoor
open Go Go.RowKit Go.Joins

/-- Each / is a line's end. -/
def slash (u : UInt8) : UInt8 := if u = 47 then 10 else u
/-- Bytes of which the first k are turned. -/
def slashed (l : List UInt8) (k : Nat) : Array Value := (((l.take k).map slash ++ l.drop k).map bv).toArray

theorem slashed_step (l : List UInt8) (k : Nat) (hk : k < l.length) : (slashed l k).setIfInBounds k (bv (slash (l.getD k 0))) = slashed l (k + 1) := by
  apply Array.ext'
  have hl : (l.take k).length = k := by simp; omega
  have hd : l.drop k = l.getD k 0 :: l.drop (k + 1) := by
    rw [List.drop_eq_getElem_cons hk]; simp [List.getD, List.getElem?_eq_getElem hk]
  simp only [slashed, Array.toList_setIfInBounds, hd, List.map_append, List.map_cons]
  rw [List.set_append_right _ _ (by simp; omega)]
  have e2 : k - (((l.take k).map slash).map bv).length = 0 := by simp; omega
  rw [e2, List.set_cons_zero, take_snoc l k hk, List.map_append, List.map_append, List.append_assoc]
  rfl
theorem slashed_keep (l : List UInt8) (k : Nat) (hk : k < l.length) (h : l.getD k 0 ≠ 47) : slashed l k = slashed l (k + 1) := by
  have hd : l.drop k = l.getD k 0 :: l.drop (k + 1) := by
    rw [List.drop_eq_getElem_cons hk]; simp [List.getD, List.getElem?_eq_getElem hk]
  have hs : slash (l.getD k 0) = l.getD k 0 := by unfold slash; rw [if_neg h]
  unfold slashed
  rw [hd, take_snoc l k hk]
  simp only [List.map_append, List.map_cons, List.map_nil, hs, List.append_assoc, List.cons_append, List.nil_append]
theorem slashed_cell (l : List UInt8) (k : Nat) (hk : k < l.length) : (slashed l k)[k]? = some (.int .u8 ((l.getD k 0).toNat : Int)) := by
  have hl : (l.take k).length = k := by simp; omega
  have hd : l.drop k = l.getD k 0 :: l.drop (k + 1) := by
    rw [List.drop_eq_getElem_cons hk]; simp [List.getD, List.getElem?_eq_getElem hk]
  unfold slashed
  rw [List.getElem?_toArray, hd, List.map_append, List.getElem?_append_right (by simp; omega)]
  have e : k - (((l.take k).map slash).map bv).length = 0 := by simp; omega
  rw [e]; rfl

theorem unfrozen_bytes (w : World) (e : TypeId) (s : ByteArray) (k : Nat) (hk : k < s.size) : (Lib.bytesWorld w e s).frozen? ⟨w.heap.size, k, none⟩ = false := by
  have hs : s.size ≤ (Lib.bytesCells w e s).size := by simp [Lib.bytesCells]
  unfold World.frozen?
  rw [Lib.bytesWorld_at_new]
  simp
  omega
theorem slashed_size (l : List UInt8) (k : Nat) (hk : k ≤ l.length) : (slashed l k).size = l.length := by simp [slashed]; omega

set_option maxRecDepth 100000 in
set_option maxHeartbeats 800000 in
theorem text_any (l : List UInt8) (w : World) (h0 : 0 < l.length) (hn : l.length ≤ 1000000) :
    Calls Tryd.prog 39 #[.string (str l)] w fun e w' => ∃ a c, e = .returned (.slice a l.length c) ∧ Sees w' a l.length c ((l.map slash).map bv) ∧ Below w.heap.size w w' := by
  have q := fun (W : World) => Lib.run_convert_string_bytes (P := Tryd.prog) W 9 22 5 (str l) Tryd.underlying9 Tryd.underlying22 Tryd.underlying5
  have hsz := size_str l
  have hge := grownCap_ge w l.length 0 5
  rw [hsz] at q
  obtain ⟨W0, hW0⟩ : ∃ W0, W0 = Lib.bytesWorld w 5 (str l) := ⟨_, rfl⟩
  have q1 := q w
  rw [← hW0] at q1
  obtain ⟨cp, hcp⟩ : ∃ cp, cp = grownCap w l.length 0 5 := ⟨_, rfl⟩
  rw [← hcp] at q1 hge
  have hc0 : ∀ j, j < l.length → W0.cell? ⟨w.heap.size, j, none⟩ = (slashed l 0)[j]? := by
    intro j hj
    rw [hW0, Lib.bytesWorld_cell w _ _ j (by rw [hsz]; exact hj)]
    simp [slashed, str, bv, List.getD, List.getElem?_eq_getElem hj]
  have hf0 : ∀ j, j < l.length → W0.frozen? ⟨w.heap.size, j, none⟩ = false := by
    intro j hj; rw [hW0]; exact unfrozen_bytes w _ _ j (by rw [hsz]; exact hj)
  have hb0 : Below w.heap.size w W0 := by rw [hW0]; exact below_bytes w _ _
  have hlt0 : w.heap.size < W0.heap.size := by rw [hW0, Lib.bytesWorld_size]; omega
  have HC := Lib.hid hc0
  have HF := Lib.hid hf0
  have HB := Lib.hid hb0
  clear q hsz hW0 hcp hc0 hf0 hb0
  go_enter Tryd.func39, Tryd.ntmps39
  go_wp2
  go_loopw [9] (fun i wr => ∃ k : Nat, k ≤ l.length ∧ i = .int .i64 k ∧ Hid (∀ j, j < l.length → wr.cell? ⟨w.heap.size, j, none⟩ = (slashed l k)[j]?) ∧ Hid (∀ j, j < l.length → wr.frozen? ⟨w.heap.size, j, none⟩ = false) ∧ Hid (Below w.heap.size w wr) ∧ Hid (w.heap.size < wr.heap.size))
    (fun i _ => l.length - (intOf i).toNat)
  case atStart => exact ⟨0, Nat.zero_le _, rfl, HC.out, HF.out, HB.out, hlt0⟩
  case round =>
    obtain ⟨k, hk, rfl, hc, hf, hb, hlt'⟩ := hrel
    by_cases hlt : k < l.length
    · have hcx := (hc.out k hlt).trans (slashed_cell l k hlt)
      have hfx := hf.out k hlt
      have W1 : IntKind.i64.wrap ((k : Int) + 1) = (k : Int) + 1 := IntWalk.i64_in _ (by omega)
      obtain ⟨x, hx⟩ : ∃ x, x = l.getD k 0 := ⟨_, rfl⟩
      rw [← hx] at hcx
      have HX := Lib.hid hx
      clear hx
      by_cases h47 : x = 47
      · subst h47
        have hst := slashed_step l k hlt
        rw [← HX.out] at hst
        have hst2 : (slashed l k).setIfInBounds k (.int .u8 10) = slashed l (k + 1) := hst
        have hc2 : ∀ j, j < l.length → (wr.setCell ⟨w.heap.size, k, none⟩ (.int .u8 10)).cell? ⟨w.heap.size, j, none⟩ = (slashed l (k + 1))[j]? := by
          intro j hj
          rw [← hst2, Array.getElem?_setIfInBounds]
          by_cases hjk : k = j
          · subst hjk
            rw [if_pos rfl, if_pos (by rw [slashed_size l k hk]; exact hj)]
            exact World.cell?_setCell_same' wr _ _ (by rw [hcx]; rfl)
          · rw [if_neg hjk]
            refine Eq.trans ?_ (hc.out j hj)
            apply World.cell?_setCell_other
            intro e
            exact hjk (by cases e; rfl)
        have HC2 := Lib.hid hc2
        have HF2 : Hid (∀ j, j < l.length → (wr.setCell ⟨w.heap.size, k, none⟩ (.int .u8 10)).frozen? ⟨w.heap.size, j, none⟩ = false) := by
          intro j hj; rw [World.frozen?_setCell]; exact hf.out j hj
        have HB2 := Lib.hid (hb.out.setCell (p := ⟨w.heap.size, k, none⟩) (Nat.le_refl _) (.int .u8 10))
        have HL2 : Hid (w.heap.size < (wr.setCell ⟨w.heap.size, k, none⟩ (.int .u8 10)).heap.size) := by
          have h := hlt'.out
          show w.heap.size < _
          simpa using h
        clear hst hst2 hc2
        go_wp2
        go_roundw
        case rel => exact ⟨k + 1, by omega, by go_num, HC2.out, HF2.out, HB2.out, HL2.out⟩
        case measure => simp [intOf]; omega
      · have e1 : ((x.toNat : Int) == 47) = false := by
          simp
          intro e
          exact h47 (UInt8.toNat_inj.1 (by have : x.toNat = 47 := by omega
                                           rw [this]; rfl))
        have hke := slashed_keep l k hlt (by rw [← HX.out]; exact h47)
        have HC2 : Hid (∀ j, j < l.length → wr.cell? ⟨w.heap.size, j, none⟩ = (slashed l (k + 1))[j]?) := by
          intro j hj; rw [← hke]; exact hc.out j hj
        have H47 := Lib.hid h47
        clear hke h47
        go_wp2
        go_roundw
        case rel => exact ⟨k + 1, by omega, by go_num, HC2.out, hf.out, hb.out, hlt'.out⟩
        case measure => simp [intOf]; omega
    · obtain rfl : l.length = k := by omega
      go_wp2
      go_ret
      refine ⟨_, cp, rfl, ⟨by simp, hge, (fun e => by cases e), fun _ => ⟨w.heap.size, 0, rfl, hlt'.out, fun j hj => ?_⟩⟩, hb.out⟩
      rw [Nat.zero_add, hc.out j hj]
      simp [slashed]
end Go.Proofs.YtkimhlomadmnkaaDoor
