/- wit.may, by its contract. -/
import Derived.Test.YtkimhlomadmnkaaDoorWMay0
namespace Go.Proofs.YtkimhlomadmnkaaDoor
open Go Go.RowKit Go.Joins

theorem mayW_no {t : TraceC} (h : t.bad < 0 ∨ 1024 ≤ t.bad ∨ t.frames.length < 1 ∨ 256 < t.frames.length) : mayW t = false := by
  unfold mayW
  rw [Bool.and_eq_false_iff]
  left
  rcases h with h | h | h | h
  · rw [decide_eq_true h]; rfl
  · rw [decide_eq_true h]; simp
  · rw [decide_eq_true h]; simp
  · rw [decide_eq_true h]; simp
theorem mayW_mid {t : TraceC} (h1 : 0 ≤ t.bad) (h2 : t.bad < 1024) (h3 : 1 ≤ t.frames.length) (h4 : t.frames.length ≤ 256) : mayW t = (mayLineW t.init && !t.frames.any (wrongF (t.frames.headD []).length)) := by
  unfold mayW
  rw [decide_eq_false (show ¬ t.bad < 0 by omega), decide_eq_false (show ¬ 1024 ≤ t.bad by omega), decide_eq_false (show ¬ t.frames.length < 1 by omega), decide_eq_false (show ¬ 256 < t.frames.length by omega)]
  rfl

set_option maxRecDepth 100000 in
set_option maxHeartbeats 1600000 in
theorem wmay_any (t : TraceC) (s : TSlots) (w : World) (h : SeesTr w s t) :
    Calls Tryd.prog 40 #[traceV t.bad s] w fun e w' => e = .returned (.bool (mayW t)) ∧ Below w.heap.size w w' := by
  obtain ⟨a1, n1, c1, a2, n2, c2, ss⟩ := s
  obtain ⟨h1, h2⟩ := h
  simp only at h1 h2
  have hm := h2.n_eq
  have NO := Lib.hid (mayW_no (t := t))
  have MID := Lib.hid (mayW_mid (t := t))
  obtain ⟨bad, hbad⟩ : ∃ b, b = t.bad := ⟨_, rfl⟩
  rw [← hbad] at NO MID ⊢
  rw [hm] at NO MID
  have HM := Lib.hid hm
  have HS1 := Lib.hid h1
  have HS2 := Lib.hid h2
  clear h1 h2 hm hbad
  unfold traceV
  by_cases b1 : bad < 0
  · have HQ := Lib.hid (NO.out (Or.inl b1))
    clear NO MID
    go_enter Tryd.func40, Tryd.ntmps40
    go_wp2
    go_ret
    exact ⟨by rw [HQ.out]; rfl, ext_alloc _ _⟩
  have b1' : 0 ≤ bad := by omega
  by_cases b2 : 1024 ≤ bad
  · have HQ := Lib.hid (NO.out (Or.inr (Or.inl b2)))
    clear NO MID b1
    go_enter Tryd.func40, Tryd.ntmps40
    go_wp2
    go_ret
    exact ⟨by rw [HQ.out]; rfl, ext_alloc _ _⟩
  have b2' : bad < 1024 := by omega
  by_cases b3 : n2 < 1
  · obtain rfl : n2 = 0 := by omega
    have HQ := Lib.hid (NO.out (Or.inr (Or.inr (Or.inl b3))))
    clear NO MID b1 b2 b3
    go_enter Tryd.func40, Tryd.ntmps40
    go_wp2
    go_ret
    exact ⟨by rw [HQ.out]; rfl, ext_alloc _ _⟩
  have b3' : 1 ≤ (n2 : Int) := by omega
  by_cases b4 : 256 < n2
  · have b4' : (256 : Int) < (n2 : Int) := by omega
    have HQ := Lib.hid (NO.out (Or.inr (Or.inr (Or.inr b4))))
    clear NO MID b1 b2 b3 b4
    go_enter Tryd.func40, Tryd.ntmps40
    go_wp2
    go_ret
    exact ⟨by rw [HQ.out]; rfl, ext_alloc _ _⟩
  have b4' : (n2 : Int) ≤ 256 := by omega
  have HQ := Lib.hid (MID.out b1' b2' (by omega) (by omega))
  obtain ⟨fb, fo, rfl, hfb⟩ := HS2.out.row.addr (by omega)
  have hc0 := HS2.out.cellAt 0 (by omega)
  have hf0 := (HS2.out.each 0 (by rw [HM.out]; omega)).lenMap
  have hhead : (t.frames.headD []) = t.frames.getD 0 [] := by cases t.frames <;> rfl
  obtain ⟨x, hx⟩ : ∃ x : Slc, x = ss.getD 0 slc0 := ⟨_, rfl⟩
  rw [← hx] at hc0 hf0
  obtain ⟨xa, xn, xc⟩ := x
  simp only at hc0 hf0
  have hc0' : w.cell? ⟨fb, fo, none⟩ = some (.slice xa xn xc) := hc0
  have hc1 : (w.alloc (.cells #[.int .i64 bad, .slice a1 n1 c1, .slice (some ⟨fb, fo, none⟩) n2 c2] 39)).cell? ⟨fb, fo, none⟩ = some (.slice xa xn xc) := wcell_below hc0' (ext_alloc _ _)
  have HHD : Hid ((t.frames.headD []).length = xn) := by show _ = _; rw [hhead]; exact hf0
  have HLINE := Lib.hid (fun W (hb : Below w.heap.size w W) => mayLine_any t.init a1 n1 c1 W (HS1.out.below hb))
  have HFR := Lib.hid (fun W (hb : Below w.heap.size w W) (C : Nat) (hc : W.cell? ⟨C, 0, .none⟩ = some (.int .i64 (xn : Nat))) => whas_frames xn C t.frames ss (some ⟨fb, fo, none⟩) n2 c2 (by omega) W (HS2.out.below hb) hc)
  obtain ⟨p, hp⟩ : ∃ p, p = mayLineW t.init := ⟨_, rfl⟩
  obtain ⟨q, hq⟩ : ∃ q, q = t.frames.any (wrongF xn) := ⟨_, rfl⟩
  have HQ2 : Hid (mayW t = (p && !q)) := by show _ = _; rw [HQ.out, HHD.out, ← hp, ← hq]
  rw [← hp] at HLINE
  rw [← hq] at HFR
  clear hp hq hx hc0 hf0 hhead NO MID b1 b2 b3 b4 HQ HHD hfb
  go_enter Tryd.func40, Tryd.ntmps40
  go_wp2_with fail
  generalize hW : World.alloc (World.alloc w _) _ = W1
  have B1 : Below w.heap.size w W1 := by subst hW; exact ext_trans (ext_alloc _ _) (ext_alloc _ _)
  have y0 : W1.cell? ⟨w.heap.size, 0, none⟩ = some (.int .i64 bad) := by subst hW; exact cell_of_block (heap_below (heap_new _ _ _ rfl) (ext_alloc _ _)) 0
  have y1 : W1.cell? ⟨w.heap.size, 1, none⟩ = some (.slice a1 n1 c1) := by subst hW; exact cell_of_block (heap_below (heap_new _ _ _ rfl) (ext_alloc _ _)) 1
  have y2 : W1.cell? ⟨w.heap.size, 2, none⟩ = some (.slice (some ⟨fb, fo, none⟩) n2 c2) := by subst hW; exact cell_of_block (heap_below (heap_new _ _ _ rfl) (ext_alloc _ _)) 2
  have z0 : W1.cell? ⟨w.heap.size + 1, 0, none⟩ = some (.int .i64 (xn : Nat)) := by subst hW; exact cell_of_block (heap_new _ _ _ (by simp)) 0
  clear hW hc1 hc0'
  refine (HLINE.out _ B1).mono ?_
  rintro e w1 ⟨rfl, hb⟩
  have B2 := ext_trans B1 hb
  have y2' := wcell_below y2 hb
  have z0' := wcell_below z0 hb
  have HB2 := Lib.hid B2
  clear B1 y0 y1 y2 z0 hb B2 HLINE
  cases p with
  | false =>
    go_wp2
    go_ret
    exact ⟨by rw [HQ2.out]; rfl, HB2.out⟩
  | true =>
    have HF := Lib.hid (HFR.out w1 HB2.out (w.heap.size + 1) z0')
    clear HFR z0'
    go_wp2_with fail
    refine HF.out.mono ?_
    rintro e w2 ⟨rfl, hb⟩
    have HB3 := Lib.hid (ext_trans HB2.out hb)
    clear hb y2' HF
    go_wp2
    go_ret
    exact ⟨by rw [HQ2.out]; rfl, HB3.out⟩
end Go.Proofs.YtkimhlomadmnkaaDoor
