/- WitOnce's walk: what is got is put as the same bytes. -/
import Derived.Test.YtkimhlomadmnkaaDoorWLives
import Derived.Test.YtkimhlomadmnkaaDoorWPure
import Derived.Test.YtkimhlomadmnkaaDoorBytes
namespace Go.Proofs.YtkimhlomadmnkaaDoor
open Go Go.RowKit Go.Joins

set_option maxRecDepth 100000 in
set_option maxHeartbeats 3200000 in
theorem witonce_any (bs : List UInt8) (a : Option Addr) (n c : Nat) (la inp : Int) (w : World) (h : Sees w a n c (bs.map bv)) (hla : -9223372036854775808 ≤ la ∧ la < 9223372036854775808) (hin : -9223372036854775808 ≤ inp ∧ inp < 9223372036854775808) (htab : Tab w) (hdig : Dig w) :
    Calls Tryd.prog 6 #[.slice a n c, .int .i64 la, .int .i64 inp] w fun e w' => e = .returned (.bool true) ∧ Below w.heap.size w w' := by
  have hl := h.lenMap
  by_cases hn : 100000 < n
  · have hn' : (100000 : Int) < (n : Int) := by omega
    clear h hl hla hin hn
    go_enter Tryd.func6, Tryd.ntmps6
    go_wp2_with fail
    refine (wlives_any w).mono ?_
    rintro e w1 ⟨rfl, hb⟩
    have HB := Lib.hid hb
    clear hb
    go_wp2
    go_ret
    exact ⟨rfl, HB.out⟩
  have hn' : (n : Int) ≤ 100000 := by omega
  have HGET := Lib.hid (get_any bs a n c la inp w h hla hin)
  have HS := Lib.hid h
  have HTAB := Lib.hid htab
  have HDIG := Lib.hid hdig
  clear h hl htab hdig hn hla hin
  go_enter Tryd.func6, Tryd.ntmps6
  go_wp2_with fail
  refine HGET.out.mono ?_
  rintro e w1 ⟨hb, ⟨er, hg, h2, h6, rfl⟩ | ⟨t, s, hg, rfl, ht, hs⟩⟩
  · have e1 : (er != 0) = true := by simp; omega
    have HB := Lib.hid hb
    unfold traceV slotsT0
    clear hb hg h2 h6 HGET
    go_wp2_with fail
    generalize hW : World.alloc w1 _ = W2
    have hb2 : Below w1.heap.size w1 W2 := by subst hW; exact ext_alloc _ _
    clear hW
    have HSAME : Hid (Calls Tryd.prog 22 #[.agg #[.int .i64 0, .slice none 0 0, .slice none 0 0], .agg #[.int .i64 0, .slice none 0 0, .slice none 0 0]] W2 fun e w' => e = .returned (.bool true) ∧ Below W2.heap.size W2 w') :=
      (sametr_any ⟨0, [], []⟩ ⟨0, [], []⟩ slotsT0 slotsT0 W2 ⟨Sees.nil _ _ _ (fun _ => rfl), ⟨Sees.nil _ _ _ (fun _ => rfl), rfl, fun k hk => by simp at hk⟩⟩ ⟨Sees.nil _ _ _ (fun _ => rfl), ⟨Sees.nil _ _ _ (fun _ => rfl), rfl, fun k hk => by simp at hk⟩⟩ ⟨by decide, by decide, by simp [slotsT0]⟩ (by decide) (by decide)).mono fun e w' hp => ⟨by rw [hp.1, decide_eq_true rfl], hp.2⟩
    have HB2 := Lib.hid (ext_trans HB.out hb2)
    clear hb2 HB e1
    refine HSAME.out.mono ?_
    rintro e W3 ⟨rfl, hb⟩
    have HB3 := Lib.hid (ext_trans HB2.out hb)
    clear hb HSAME HB2
    go_wp2_with fail
    refine (wlives_any W3).mono ?_
    rintro e W4 ⟨rfl, hb⟩
    have HB4 := Lib.hid (ext_trans HB3.out hb)
    clear hb HB3
    go_wp2
    go_ret
    exact ⟨rfl, HB4.out⟩
  obtain ⟨hmay, htext, hi, hf0, hfi⟩ := get_back hg
  have hbl := (may_of hmay)
  have hTB : 0 ≤ t.bad ∧ t.bad < 1024 := ⟨hbl.lo, hbl.hi⟩
  obtain ⟨a1, n1, c1, a2, n2, c2, ss⟩ := s
  have e1 := ht.s1.lenMap
  have e2 := ht.s2.n_eq
  simp only at e1 e2
  rw [e1] at hi
  subst hi
  obtain ⟨fb, fo, rfl, hfb⟩ := ht.s2.row.addr (by simp only; omega)
  have hhead : (t.frames.headD []) = t.frames.getD 0 [] := by cases t.frames <;> rfl
  have hc0 := ht.s2.cellAt 0 (by simp only; omega)
  have hfx := (ht.s2.each 0 (by omega)).lenMap
  obtain ⟨x, hx⟩ : ∃ x : Slc, x = ss.getD 0 slc0 := ⟨_, rfl⟩
  simp only at hc0 hfx
  rw [← hx] at hc0 hfx
  obtain ⟨xa, xn, xc⟩ := x
  simp only at hc0 hfx
  rw [hhead, hfx] at hfi
  subst hfi
  obtain ⟨bad, hbad⟩ : ∃ b, b = t.bad := ⟨_, rfl⟩
  have hB1 := hb
  obtain ⟨U, hU⟩ : ∃ U, U = w1.alloc (.cells #[.int .i64 bad, .slice a1 n1 c1, .slice (some ⟨fb, fo, none⟩) n2 c2] 39) := ⟨_, rfl⟩
  have hbU : Below w1.heap.size w1 U := by rw [hU]; exact ext_alloc _ _
  have hRU : U.heap[w1.heap.size]? = some (.cells #[.int .i64 bad, .slice a1 n1 c1, .slice (some ⟨fb, fo, none⟩) n2 c2] 39 (0, 0)) := by rw [hU]; exact heap_new _ _ _ rfl
  have hBU := ext_trans hb hbU
  have HPUT : Hid (Calls Tryd.prog 15 #[.agg #[.int .i64 bad, .slice a1 n1 c1, .slice (some ⟨fb, fo, none⟩) n2 c2]] U (PutPost t U)) := by
    have hp := wput_any t ⟨a1, n1, c1, some ⟨fb, fo, none⟩, n2, c2, ss⟩ U (ht.below hbU) hs (HTAB.out.below hBU (Nat.le_refl _)) (HDIG.out.below hBU (Nat.le_refl _))
    rw [hbad]; exact hp
  have HU := Lib.hid hU
  have HRU := Lib.hid hRU
  have HBU := Lib.hid hBU
  have HMAY := Lib.hid hmay
  have HTX := Lib.hid htext
  have HF0 : Hid (∀ W, Below U.heap.size U W → W.cell? ⟨fb, fo, none⟩ = some (.slice xa xn xc)) := fun W hW => wcell_below (wcell_below hc0 hbU) hW
  have hn2 : 0 < n2 := by omega
  unfold traceV
  simp only
  rw [← hbad]
  clear hb hg ht hs hmay htext hbl hTB e1 e2 hhead hc0 hfx hx hbad hB1 hU hbU hRU hBU HGET hf0 hfb
  go_wp2_with fail
  rw [← HU.out]
  clear HU
  refine HPUT.out.mono ?_
  rintro e w2 ⟨hb, ⟨hm, _⟩ | ⟨v, _, rfl, hrow⟩⟩
  · rw [HMAY.out] at hm; cases hm
  obtain ⟨va, vc, rfl, _, hvs⟩ := hrow.sees
  have hb2 := ext_trans HBU.out hb
  have hBY := bytes_at (textW t) bs va a _ vc n c w2 hvs (HS.out.below hb2)
  rw [decide_eq_true HTX.out] at hBY
  obtain ⟨N, hN⟩ : ∃ N, N = (textW t).length := ⟨_, rfl⟩
  rw [← hN] at hBY ⊢
  have HBY := Lib.hid hBY
  have HB2 := Lib.hid hb2
  have hR2 := heap_below HRU.out hb
  have k1 := cell_of_block hR2 1
  have k2 := cell_of_block hR2 2
  have f0 := HF0.out w2 hb
  have g1 : decide ((0 : Int) < (n2 : Int)) = true := by simp; exact hn2
  clear hrow hvs hb hb2 hBY hN hR2 HF0 HRU HBU HPUT
  go_wp2_with fail
  refine HBY.out.mono ?_
  rintro e w3 ⟨rfl, rfl⟩
  clear HBY
  go_wp2_with fail
  refine (wlives_any _).mono ?_
  rintro e w4 ⟨rfl, hb⟩
  have HB4 := Lib.hid (ext_trans HB2.out hb)
  clear hb k1 k2 f0 HB2
  go_wp2
  go_ret
  exact ⟨rfl, HB4.out⟩
end Go.Proofs.YtkimhlomadmnkaaDoor
