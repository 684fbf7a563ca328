/- raw.Head, by its contract. -/
import Derived.Test.YtglhnmbfkbjemaaGreatDoorRawHead
import Derived.Test.YtglhnmbfkbjemaaGreatDoorBkD
/- raw.headLine, by its contract. -/
namespace Go.Proofs.YtglhnmbfkbjemaaGreatDoor
open Go Go.RowKit Go.Joins
def nineCells (W : List (List UInt8)) (k : Nat) : Array Value := ((W.take k).map (fun x => nv32 (numOf x 2147483647)) ++ List.replicate (9 - k) (nv32 0)).toArray
theorem nineCells_size (W : List (List UInt8)) (k : Nat) (hk : k ≤ W.length) (h9 : W.length ≤ 9) : (nineCells W k).size = 9 := by simp [nineCells]; omega
theorem nineCells_step (W : List (List UInt8)) (k : Nat) (hk : k < W.length) (h9 : W.length ≤ 9) : (nineCells W k).setIfInBounds k (nv32 (numOf (W.getD k []) 2147483647)) = nineCells W (k + 1) := by
  apply Array.ext'
  have hl : (W.take k).length = k := by simp; omega
  have e1 : 9 - k = (9 - (k + 1)) + 1 := by omega
  simp only [nineCells, Array.toList_setIfInBounds, e1, List.replicate_succ]
  rw [List.set_append_right _ _ (by simp; omega)]
  have e2 : k - ((W.take k).map fun x => nv32 (numOf x 2147483647)).length = 0 := by simp; omega
  rw [e2, List.set_cons_zero, List.take_succ_eq_append_getElem hk, List.map_append, List.append_assoc]
  simp [List.getD, List.getElem?_eq_getElem hk]
theorem nineOf_len (W : List (List UInt8)) (h9 : W.length ≤ 9) : (nineOf W).length = 9 := by simp [nineOf]; omega
theorem nine_list (l : List Nat) (h : l.length = 9) : l = [l.getD 0 0, l.getD 1 0, l.getD 2 0, l.getD 3 0, l.getD 4 0, l.getD 5 0, l.getD 6 0, l.getD 7 0, l.getD 8 0] := by
  match l, h with
  | [_, _, _, _, _, _, _, _, _], _ => rfl
theorem nineCells_full (W : List (List UInt8)) : nineCells W W.length = ((nineOf W).map nv32).toArray := by
  simp [nineCells, nineOf]
theorem nineOf_le (W : List (List UInt8)) : ∀ x ∈ nineOf W, x ≤ 2147483647 := by
  intro x hx
  unfold nineOf at hx
  rcases List.mem_append.1 hx with h | h
  · obtain ⟨y, _, rfl⟩ := List.mem_map.1 h
    exact numOf_le _ _
  · have := List.eq_of_mem_replicate h; omega
theorem info_str1 : (Tryz.prog.info? 9).map (fun i => (i.zero, i.size, i.bytes)) = some (some (.string ByteArray.empty), 1, 16) := by kernel_rfl
theorem size_strT : ∀ w, (sizeOf 9).run Tryz.prog w = .ok 1 w := fun w => by
  obtain ⟨i0, hi, hz0, hz1, hz2⟩ := info_parts info_str1
  simp [sizeOf, typeInfo, hi, hz1]
theorem sees_strs {w : World} {b off n c : Nat} {W : List (List UInt8)} (h : Sees w (some ⟨b, off, .none⟩) n c (W.map sv)) (k : Nat) (hk : k < n) : w.cell? ⟨b, off + k, .none⟩ = some (.string (str (W.getD k []))) := by
  have hl := h.lenMap
  rw [(h.cell k hk).2]
  simp [sv, List.getD, List.getElem?_eq_getElem (show k < W.length by omega)]
set_option maxRecDepth 100000 in
set_option maxHeartbeats 1600000 in
theorem headLine_any (word bs : List UInt8) (a : Option Addr) (n c : Nat) (w : World) (h : Sees w a n c (bs.map bv)) (hn : n ≤ 100000000) :
    Calls Tryz.prog 52 #[.string (str word), .slice a n c] w (SevenPost (headErr word bs) (headNums bs) w) := by
  have hbl := h.lenMap
  obtain ⟨er, her⟩ : ∃ er, er = headErr word bs := ⟨_, rfl⟩
  rw [← her]
  cases hw : wordsOf bs with
  | none =>
    have e : er = 5 := by rw [her, headErr, hw]
    have HW := Lib.hid (fun o : Obj => words_no bs a n c (w.alloc o) (h.below (ext_alloc _ _)) (by omega) hw)
    have E := Lib.hid e
    clear e h her hbl hw
    go_enter Tryz.func52, Tryz.ntmps52
    go_wp2_with fail
    refine (HW.out _).mono ?_
    rintro e w1 ⟨rfl, hb⟩
    have hres : w1.heap[w.heap.size]? = some (.cells #[.int .u32 0, .int .u32 0, .int .u32 0, .int .u32 0, .int .u32 0, .int .u32 0, .int .u32 0] 63 (0, 0)) := heap_below (heap_new _ _ _ rfl) hb
    have r0 := cell_of_block hres 0
    have r1 := cell_of_block hres 1
    have r2 := cell_of_block hres 2
    have r3 := cell_of_block hres 3
    have r4 := cell_of_block hres 4
    have r5 := cell_of_block hres 5
    have r6 := cell_of_block hres 6
    have f0 := unfrozen_of_block hres 0
    have f1 := unfrozen_of_block hres 1
    have f2 := unfrozen_of_block hres 2
    have f3 := unfrozen_of_block hres 3
    have f4 := unfrozen_of_block hres 4
    have f5 := unfrozen_of_block hres 5
    have f6 := unfrozen_of_block hres 6
    have HB := Lib.hid (ext_behind hb)
    have HR := Lib.hid hres
    clear hres hb
    go_wp2
    refine bodyPost_ret (v := .tuple #[zeroSeven, .int .i64 5]) ?_ rfl ?_
    · have h0 := block_setCell HR.out (i := 0) (.int .u32 0)
      have h1 := block_setCell h0 (i := 1) (.int .u32 0)
      have h2 := block_setCell h1 (i := 2) (.int .u32 0)
      have h3 := block_setCell h2 (i := 3) (.int .u32 0)
      have h4 := block_setCell h3 (i := 4) (.int .u32 0)
      have h5 := block_setCell h4 (i := 5) (.int .u32 0)
      have h6 := block_setCell h5 (i := 6) (.int .u32 0)
      have g0 := cell_of_block h6 0
      have g1 := cell_of_block h6 1
      have g2 := cell_of_block h6 2
      have g3 := cell_of_block h6 3
      have g4 := cell_of_block h6 4
      have g5 := cell_of_block h6 5
      have g6 := cell_of_block h6 6
      simp [results, Tryz.results52, go_sem, g0, g1, g2, g3, g4, g5, g6]
      rfl
    · refine ⟨set7 w.heap.size (Nat.le_refl _) HB.out, Or.inr ⟨by rw [E.out]; decide, by rw [E.out]⟩⟩
  | some W =>
    have hso := wordsOf_size hw
    have hwl : W.length ≤ 100000001 := by omega
    have hwz : ∀ x ∈ W, x.length ≤ 1000000000 := fun x hx => by have := hso.2 x hx; omega
    have hee : er = if W.length < 6 ∨ 10 < W.length ∨ W.getD 0 [] ≠ word then 5 else if firstErr (W.drop 1) 2147483647 ≠ 0 then firstErr (W.drop 1) 2147483647 else checkErr (nineOf (W.drop 1)) := by rw [her, headErr, hw]
    have hnn : headNums bs = (nineOf (W.drop 1)).take 7 := by unfold headNums; rw [hw]; rfl
    have HW := Lib.hid (fun o : Obj => words_yes bs W a n c (w.alloc o) (h.below (ext_alloc _ _)) (by omega) hw)
    have HEE := Lib.hid hee
    have HNN := Lib.hid hnn
    have HWZ := Lib.hid hwz
    clear h her hbl hw hso hee hnn hwz
    go_enter Tryz.func52, Tryz.ntmps52
    go_wp2_with fail
    refine (HW.out _).mono ?_
    rintro e w1 ⟨v, rfl, hr, hb⟩
    obtain ⟨aw, cw, rfl, _, sw⟩ := hr.sees
    have HSW := Lib.hid sw
    have HB := Lib.hid (ext_behind hb)
    have HR1 := Lib.hid (heap_below (heap_new w (.cells #[.int .u32 0, .int .u32 0, .int .u32 0, .int .u32 0, .int .u32 0, .int .u32 0, .int .u32 0] 63) w.heap.size rfl) hb)
    have hRlt := heap_lt HR1.out
    clear hr sw hb
    by_cases c1 : W.length < 6
    · have e1 : decide ((W.length : Int) < 6) = true := by simp; omega
      have e : er = 5 := by rw [HEE.out, if_pos (Or.inl c1)]
      have E := Lib.hid e
      clear e
      have hres : w1.heap[w.heap.size]? = some (.cells #[.int .u32 0, .int .u32 0, .int .u32 0, .int .u32 0, .int .u32 0, .int .u32 0, .int .u32 0] 63 (0, 0)) := HR1.out
      have r0 := cell_of_block hres 0
      have r1 := cell_of_block hres 1
      have r2 := cell_of_block hres 2
      have r3 := cell_of_block hres 3
      have r4 := cell_of_block hres 4
      have r5 := cell_of_block hres 5
      have r6 := cell_of_block hres 6
      have f0 := unfrozen_of_block hres 0
      have f1 := unfrozen_of_block hres 1
      have f2 := unfrozen_of_block hres 2
      have f3 := unfrozen_of_block hres 3
      have f4 := unfrozen_of_block hres 4
      have f5 := unfrozen_of_block hres 5
      have f6 := unfrozen_of_block hres 6
      have HR := Lib.hid hres
      clear hres
      go_wp2
      refine bodyPost_ret (v := .tuple #[zeroSeven, .int .i64 5]) ?_ rfl ?_
      · have h0 := block_setCell HR.out (i := 0) (.int .u32 0)
        have h1 := block_setCell h0 (i := 1) (.int .u32 0)
        have h2 := block_setCell h1 (i := 2) (.int .u32 0)
        have h3 := block_setCell h2 (i := 3) (.int .u32 0)
        have h4 := block_setCell h3 (i := 4) (.int .u32 0)
        have h5 := block_setCell h4 (i := 5) (.int .u32 0)
        have h6 := block_setCell h5 (i := 6) (.int .u32 0)
        have g0 := cell_of_block h6 0
        have g1 := cell_of_block h6 1
        have g2 := cell_of_block h6 2
        have g3 := cell_of_block h6 3
        have g4 := cell_of_block h6 4
        have g5 := cell_of_block h6 5
        have g6 := cell_of_block h6 6
        simp [results, Tryz.results52, go_sem, g0, g1, g2, g3, g4, g5, g6]
        rfl
      · exact ⟨set7 w.heap.size (Nat.le_refl _) HB.out, Or.inr ⟨by rw [E.out]; decide, by rw [E.out]⟩⟩
    have e1 : decide ((W.length : Int) < 6) = false := by simp; omega
    by_cases c2 : 10 < W.length
    · have e2 : decide ((10 : Int) < (W.length : Int)) = true := by simp; omega
      have e : er = 5 := by rw [HEE.out, if_pos (Or.inr (Or.inl c2))]
      have E := Lib.hid e
      clear e
      have hres : w1.heap[w.heap.size]? = some (.cells #[.int .u32 0, .int .u32 0, .int .u32 0, .int .u32 0, .int .u32 0, .int .u32 0, .int .u32 0] 63 (0, 0)) := HR1.out
      have r0 := cell_of_block hres 0
      have r1 := cell_of_block hres 1
      have r2 := cell_of_block hres 2
      have r3 := cell_of_block hres 3
      have r4 := cell_of_block hres 4
      have r5 := cell_of_block hres 5
      have r6 := cell_of_block hres 6
      have f0 := unfrozen_of_block hres 0
      have f1 := unfrozen_of_block hres 1
      have f2 := unfrozen_of_block hres 2
      have f3 := unfrozen_of_block hres 3
      have f4 := unfrozen_of_block hres 4
      have f5 := unfrozen_of_block hres 5
      have f6 := unfrozen_of_block hres 6
      have HR := Lib.hid hres
      clear hres
      go_wp2
      refine bodyPost_ret (v := .tuple #[zeroSeven, .int .i64 5]) ?_ rfl ?_
      · have h0 := block_setCell HR.out (i := 0) (.int .u32 0)
        have h1 := block_setCell h0 (i := 1) (.int .u32 0)
        have h2 := block_setCell h1 (i := 2) (.int .u32 0)
        have h3 := block_setCell h2 (i := 3) (.int .u32 0)
        have h4 := block_setCell h3 (i := 4) (.int .u32 0)
        have h5 := block_setCell h4 (i := 5) (.int .u32 0)
        have h6 := block_setCell h5 (i := 6) (.int .u32 0)
        have g0 := cell_of_block h6 0
        have g1 := cell_of_block h6 1
        have g2 := cell_of_block h6 2
        have g3 := cell_of_block h6 3
        have g4 := cell_of_block h6 4
        have g5 := cell_of_block h6 5
        have g6 := cell_of_block h6 6
        simp [results, Tryz.results52, go_sem, g0, g1, g2, g3, g4, g5, g6]
        rfl
      · exact ⟨set7 w.heap.size (Nat.le_refl _) HB.out, Or.inr ⟨by rw [E.out]; decide, by rw [E.out]⟩⟩
    have e2 : decide ((10 : Int) < (W.length : Int)) = false := by simp; omega
    obtain ⟨b, off, rfl, hbw⟩ := HSW.out.addr (by omega)
    have hc0 : w1.cell? ⟨b, off, none⟩ = some (.string (str (W.getD 0 []))) := sees_strs HSW.out 0 (by omega)
    obtain ⟨w0, hw0⟩ : ∃ w0, w0 = W.getD 0 [] := ⟨_, rfl⟩
    rw [← hw0] at hc0 HEE
    clear hw0
    by_cases c3 : w0 = word
    · subst c3
      have hee : er = if firstErr (W.drop 1) 2147483647 ≠ 0 then firstErr (W.drop 1) 2147483647 else checkErr (nineOf (W.drop 1)) := by rw [HEE.out, if_neg]; simp; omega
      obtain ⟨V, hV⟩ : ∃ V, V = W.drop 1 := ⟨_, rfl⟩
      obtain ⟨m, hm⟩ : ∃ m, W.length = m + 1 := ⟨W.length - 1, by omega⟩
      have hVl : V.length = m := by rw [hV, List.length_drop]; omega
      rw [← hV] at hee HNN
      have hsw := HSW.out
      rw [hm] at hsw
      obtain ⟨a2, ec, see⟩ := hsw.cut 1 (m + 1) (by omega) (Nat.le_refl _)
      have ec' : sliced (some ⟨b, off, none⟩) 1 (m + 1) cw 1 = .slice a2 m (cw - 1) := ec
      have see' : Sees w1 a2 m (cw - 1) (V.map sv) := by
        have e : List.drop 1 (List.take (m + 1) (List.map sv W)) = V.map sv := by
          rw [List.take_of_length_le (by simp; omega), hV, List.map_drop]
        rw [e] at see; exact see
      have q1 := fun X => (run_from (P := Tryz.prog) Tryz.underlying128 size_strT X (some ⟨b, off, none⟩) (m + 1) cw 1 1 rfl (by omega)).trans (congrArg (fun v => Result.ok v X) ec')
      have hm5 : 5 ≤ m := by omega
      have hm9 : m ≤ 9 := by omega
      have HVZ := Lib.hid (fun (x : List UInt8) (hx : x ∈ V) => HWZ.out x (by rw [hV] at hx; exact List.mem_of_mem_drop hx))
      have HS2 := Lib.hid see'
      have HVL := Lib.hid hVl
      have HEV := Lib.hid hee
      clear c1 c2 e1 e2 hwl
      rw [hm]
      have e1 : decide (((m + 1 : Nat) : Int) < 6) = false := by simp; omega
      have e2 : decide ((10 : Int) < ((m + 1 : Nat) : Int)) = false := by simp; omega
      have e3 : decide ((m : Int) + 1 < 6) = false := by simp; omega
      have e4 : decide ((10 : Int) < (m : Int) + 1) = false := by simp; omega
      clear HWZ HSW HEE hV hm hVl hee hsw ec ec' see see' HW
      go_wp2
      clear q1 hc0 e1 e2 e3 e4
      go_loopw [39] (fun i wr => ∃ k : Nat, k ≤ m ∧ i = .int .i64 k ∧ Hid (wr.heap[w1.heap.size]? = some (.cells (nineCells V k) 131 (0, 0))) ∧ Hid (Below w1.heap.size w1 wr) ∧ Hid (∀ j, j < k → numErr (V.getD j []) 2147483647 = 0))
        (fun i _ => m - (intOf i).toNat)
      case atStart => exact ⟨0, Nat.zero_le _, rfl, heap_new _ _ _ rfl, ext_alloc _ _, fun j hj => absurd hj (by omega)⟩
      case round =>
        obtain ⟨k, hk, rfl, hA, hb2, hall⟩ := hrel
        by_cases hlt : k < m
        · obtain ⟨b2, off2, rfl, hbw2⟩ := HS2.out.addr (by omega)
          have hcx := sees_strs (HS2.out.below hb2.out) k hlt
          obtain ⟨nv, hnv⟩ : ∃ nv : Nat, nv = numOf (V.getD k []) 2147483647 := ⟨_, rfl⟩
          obtain ⟨ek, hek⟩ : ∃ ek : Int, ek = numErr (V.getD k []) 2147483647 := ⟨_, rfl⟩
          have hkV : k < V.length := by rw [HVL.out]; exact hlt
          have HNU := Lib.hid (number_named (V.getD k []) 2147483647 wr nv ek hnv hek (HVZ.out _ (getD_mem hkV)) (by decide))
          obtain ⟨sd, hsd⟩ : ∃ sd : ByteArray, sd = str (V.getD k []) := ⟨_, rfl⟩
          rw [← hsd] at hcx HNU
          have HNV := Lib.hid hnv
          have HEK := Lib.hid hek
          clear hnv hek hsd
          go_wp2_with fail
          refine HNU.out.mono ?_
          rintro e w2 ⟨rfl, hb3⟩
          have hA2 := heap_below hA.out hb3
          have hAlt := heap_lt hA.out
          have hsz := nineCells_size V k (by omega) (by rw [HVL.out]; exact hm9)
          obtain ⟨old, hold⟩ : ∃ old, w2.cell? ⟨w1.heap.size, k, none⟩ = some old := ⟨(nineCells V k)[k]'(by omega), by rw [cell_of_block hA2 k, Array.getElem?_eq_getElem]⟩
          have hfz := unfrozen_of_block hA2 k
          have hg4 := block_setCell hA2 (i := k) (nv32 nv)
          rw [HNV.out, nineCells_step V k hkV (by rw [HVL.out]; exact hm9), ← HNV.out] at hg4
          have hb4 : Below w1.heap.size w1 (w2.setCell ⟨w1.heap.size, k, none⟩ (nv32 nv)) := (hb2.out.trans (hb3.mono (by omega))).setCell (p := ⟨w1.heap.size, k, none⟩) (Nat.le_refl _) _
          have hr4 := heap_below HR1.out hb4
          have hr2 : w2.heap[w.heap.size]? = some (.cells #[.int .u32 0, .int .u32 0, .int .u32 0, .int .u32 0, .int .u32 0, .int .u32 0, .int .u32 0] 63 (0, 0)) := (hb3.block _ (Nat.lt_of_lt_of_le hRlt hb2.out.size)).trans ((hb2.out.block _ hRlt).trans HR1.out)
          have HG4 := Lib.hid hg4
          have HB4 := Lib.hid hb4
          have HA2 := Lib.hid hA2
          clear hA2 hg4 hb4 hb3 hcx hsz
          unfold nv32 at HG4 HB4 hr4
          by_cases hz : ek = 0
          · subst hz
            clear hr4
            go_wp2
            go_roundw
            case rel =>
              refine ⟨k + 1, by omega, by go_num, HG4.out, HB4.out, fun j hj => ?_⟩
              rcases Nat.lt_or_ge j k with h | h
              · exact hall.out j h
              · have : j = k := by omega
                subst this
                exact HEK.out.symm
            case measure => simp [intOf]; omega
          · have en1 : (ek != 0) = true := by simp [hz]
            have en2 : (ek == 0) = false := by simp [hz]
            have ef : firstErr V 2147483647 = ek := by
              rw [HEK.out]
              exact firstErr_at V 2147483647 k hkV hall.out (by rw [← HEK.out]; exact hz)
            have ee : er = ek := by rw [HEV.out, ef, if_pos hz]
            have E := Lib.hid ee
            have HZ := Lib.hid hz
            clear ee ef hz
            have HR4 := Lib.hid hr4
            have HR2 := Lib.hid hr2
            have hne1 : w.heap.size ≠ w1.heap.size := by omega
            have hne2 : w1.heap.size ≠ w.heap.size := by omega
            clear hr4 hr2
            have hres : w2.heap[w.heap.size]? = some (.cells #[.int .u32 0, .int .u32 0, .int .u32 0, .int .u32 0, .int .u32 0, .int .u32 0, .int .u32 0] 63 (0, 0)) := HR2.out
            have r0 := cell_of_block hres 0
            have r1 := cell_of_block hres 1
            have r2 := cell_of_block hres 2
            have r3 := cell_of_block hres 3
            have r4 := cell_of_block hres 4
            have r5 := cell_of_block hres 5
            have r6 := cell_of_block hres 6
            have f0 := unfrozen_of_block hres 0
            have f1 := unfrozen_of_block hres 1
            have f2 := unfrozen_of_block hres 2
            have f3 := unfrozen_of_block hres 3
            have f4 := unfrozen_of_block hres 4
            have f5 := unfrozen_of_block hres 5
            have f6 := unfrozen_of_block hres 6
            clear hres
            go_wp2
            refine bodyPost_ret (v := .tuple #[zeroSeven, .int .i64 ek]) ?_ rfl ?_
            · have h0 := block_setCell HR4.out (i := 0) (.int .u32 0)
              have h1 := block_setCell h0 (i := 1) (.int .u32 0)
              have h2 := block_setCell h1 (i := 2) (.int .u32 0)
              have h3 := block_setCell h2 (i := 3) (.int .u32 0)
              have h4 := block_setCell h3 (i := 4) (.int .u32 0)
              have h5 := block_setCell h4 (i := 5) (.int .u32 0)
              have h6 := block_setCell h5 (i := 6) (.int .u32 0)
              have g0 := cell_of_block h6 0
              have g1 := cell_of_block h6 1
              have g2 := cell_of_block h6 2
              have g3 := cell_of_block h6 3
              have g4 := cell_of_block h6 4
              have g5 := cell_of_block h6 5
              have g6 := cell_of_block h6 6
              simp [results, Tryz.results52, go_sem, g0, g1, g2, g3, g4, g5, g6]
              rfl
            · exact ⟨set7 w.heap.size (Nat.le_refl _) (HB.out.trans (HB4.out.mono (by omega))), Or.inr ⟨by rw [E.out]; exact HZ.out, by rw [E.out]⟩⟩
        · obtain rfl : m = k := by omega
          obtain ⟨v0, v1, v2, v3, v4, v5, v6, v7, v8, h9⟩ : ∃ v0 v1 v2 v3 v4 v5 v6 v7 v8, nineOf V = [v0, v1, v2, v3, v4, v5, v6, v7, v8] := ⟨_, _, _, _, _, _, _, _, _, nine_list _ (nineOf_len V (by rw [HVL.out]; exact hm9))⟩
          have hA9 := hA.out
          rw [← HVL.out, nineCells_full, h9] at hA9
          have hA10 : wr.heap[w1.heap.size]? = some (.cells #[.int .u32 v0, .int .u32 v1, .int .u32 v2, .int .u32 v3, .int .u32 v4, .int .u32 v5, .int .u32 v6, .int .u32 v7, .int .u32 v8] 131 (0, 0)) := hA9
          have hle := nineOf_le V
          rw [h9] at hle
          have b0 := hle v0 (by simp)
          have b1 := hle v1 (by simp)
          have b2 := hle v2 (by simp)
          have b4 := hle v4 (by simp)
          have hck := checked_any v0 v1 v2 v3 v4 v5 v6 v7 v8 b0 b1 b2 b4 wr
          have hf0 := firstErr_none V 2147483647 (fun j hj => hall.out j (by rw [← HVL.out]; exact hj))
          have he : er = checkErr [v0, v1, v2, v3, v4, v5, v6, v7, v8] := by rw [HEV.out, hf0, if_neg (by simp), h9]
          rw [← he] at hck
          have hnn2 : headNums bs = [v0, v1, v2, v3, v4, v5, v6] := by rw [HNN.out, h9]; rfl
          have HCK := Lib.hid hck
          have HN2 := Lib.hid hnn2
          have k0 := cell_of_block hA10 0
          have k1 := cell_of_block hA10 1
          have k2 := cell_of_block hA10 2
          have k3 := cell_of_block hA10 3
          have k4 := cell_of_block hA10 4
          have k5 := cell_of_block hA10 5
          have k6 := cell_of_block hA10 6
          have k7 := cell_of_block hA10 7
          have k8 := cell_of_block hA10 8
          have HRR := Lib.hid ((hb2.out.block _ hRlt).trans HR1.out)
          clear h9 hA9 hA10 hle hck hf0 he hnn2 hA hall
          go_wp2_with fail
          refine HCK.out.mono ?_
          rintro e w5 ⟨hb5, hp⟩
          have HR5 := Lib.hid (heap_below HRR.out hb5)
          have HB5 := Lib.hid (HB.out.trans (hb2.out.mono (by omega)) |>.trans (hb5.mono (by have := hb2.out.size; omega)))
          clear k0 k1 k2 k3 k4 k5 k6 k7 k8 hb5
          rcases hp with ⟨h0, rfl⟩ | ⟨h0, rfl⟩
          · have H0 := Lib.hid h0
            clear h0
            have es : sevenV [v0, v1, v2, v3, v4, v5, v6] = .agg #[.int .u32 v0, .int .u32 v1, .int .u32 v2, .int .u32 v3, .int .u32 v4, .int .u32 v5, .int .u32 v6] := rfl
            rw [es]
            clear es
            have hres : w5.heap[w.heap.size]? = some (.cells #[.int .u32 0, .int .u32 0, .int .u32 0, .int .u32 0, .int .u32 0, .int .u32 0, .int .u32 0] 63 (0, 0)) := HR5.out
            have r0 := cell_of_block hres 0
            have r1 := cell_of_block hres 1
            have r2 := cell_of_block hres 2
            have r3 := cell_of_block hres 3
            have r4 := cell_of_block hres 4
            have r5 := cell_of_block hres 5
            have r6 := cell_of_block hres 6
            have f0 := unfrozen_of_block hres 0
            have f1 := unfrozen_of_block hres 1
            have f2 := unfrozen_of_block hres 2
            have f3 := unfrozen_of_block hres 3
            have f4 := unfrozen_of_block hres 4
            have f5 := unfrozen_of_block hres 5
            have f6 := unfrozen_of_block hres 6
            have HR := Lib.hid hres
            clear hres
            go_wp2
            refine bodyPost_ret (v := .tuple #[sevenV (headNums bs), .int .i64 0]) ?_ rfl ?_
            · have h0 := block_setCell HR.out (i := 0) (.int .u32 v0)
              have h1 := block_setCell h0 (i := 1) (.int .u32 v1)
              have h2 := block_setCell h1 (i := 2) (.int .u32 v2)
              have h3 := block_setCell h2 (i := 3) (.int .u32 v3)
              have h4 := block_setCell h3 (i := 4) (.int .u32 v4)
              have h5 := block_setCell h4 (i := 5) (.int .u32 v5)
              have h6 := block_setCell h5 (i := 6) (.int .u32 v6)
              have g0 := cell_of_block h6 0
              have g1 := cell_of_block h6 1
              have g2 := cell_of_block h6 2
              have g3 := cell_of_block h6 3
              have g4 := cell_of_block h6 4
              have g5 := cell_of_block h6 5
              have g6 := cell_of_block h6 6
              simp [results, Tryz.results52, go_sem, g0, g1, g2, g3, g4, g5, g6]
              rw [HN2.out]; rfl
            · exact ⟨set7 w.heap.size (Nat.le_refl _) HB5.out, Or.inl ⟨H0.out, rfl⟩⟩
          · have H0 := Lib.hid h0
            clear h0
            have es : zeroSeven = .agg #[.int .u32 0, .int .u32 0, .int .u32 0, .int .u32 0, .int .u32 0, .int .u32 0, .int .u32 0] := rfl
            rw [es]
            clear es
            have hres : w5.heap[w.heap.size]? = some (.cells #[.int .u32 0, .int .u32 0, .int .u32 0, .int .u32 0, .int .u32 0, .int .u32 0, .int .u32 0] 63 (0, 0)) := HR5.out
            have r0 := cell_of_block hres 0
            have r1 := cell_of_block hres 1
            have r2 := cell_of_block hres 2
            have r3 := cell_of_block hres 3
            have r4 := cell_of_block hres 4
            have r5 := cell_of_block hres 5
            have r6 := cell_of_block hres 6
            have f0 := unfrozen_of_block hres 0
            have f1 := unfrozen_of_block hres 1
            have f2 := unfrozen_of_block hres 2
            have f3 := unfrozen_of_block hres 3
            have f4 := unfrozen_of_block hres 4
            have f5 := unfrozen_of_block hres 5
            have f6 := unfrozen_of_block hres 6
            have HR := Lib.hid hres
            clear hres
            go_wp2
            refine bodyPost_ret (v := .tuple #[zeroSeven, .int .i64 er]) ?_ rfl ?_
            · have h0 := block_setCell HR.out (i := 0) (.int .u32 0)
              have h1 := block_setCell h0 (i := 1) (.int .u32 0)
              have h2 := block_setCell h1 (i := 2) (.int .u32 0)
              have h3 := block_setCell h2 (i := 3) (.int .u32 0)
              have h4 := block_setCell h3 (i := 4) (.int .u32 0)
              have h5 := block_setCell h4 (i := 5) (.int .u32 0)
              have h6 := block_setCell h5 (i := 6) (.int .u32 0)
              have g0 := cell_of_block h6 0
              have g1 := cell_of_block h6 1
              have g2 := cell_of_block h6 2
              have g3 := cell_of_block h6 3
              have g4 := cell_of_block h6 4
              have g5 := cell_of_block h6 5
              have g6 := cell_of_block h6 6
              simp [results, Tryz.results52, go_sem, g0, g1, g2, g3, g4, g5, g6]
              rfl
            · exact ⟨set7 w.heap.size (Nat.le_refl _) HB5.out, Or.inr ⟨H0.out, rfl⟩⟩
    · have t2 : ((str w0).toList == (str word).toList) = false := by
        rw [ByteArray.toList_eq, ByteArray.toList_eq]
        show (w0 == word) = false
        simpa using c3
      have t1 : (!(str w0).toList == (str word).toList) = true := by rw [t2]; rfl
      have e : er = 5 := by rw [HEE.out, if_pos (Or.inr (Or.inr c3))]
      have E := Lib.hid e
      clear e c3
      have hres : w1.heap[w.heap.size]? = some (.cells #[.int .u32 0, .int .u32 0, .int .u32 0, .int .u32 0, .int .u32 0, .int .u32 0, .int .u32 0] 63 (0, 0)) := HR1.out
      have r0 := cell_of_block hres 0
      have r1 := cell_of_block hres 1
      have r2 := cell_of_block hres 2
      have r3 := cell_of_block hres 3
      have r4 := cell_of_block hres 4
      have r5 := cell_of_block hres 5
      have r6 := cell_of_block hres 6
      have f0 := unfrozen_of_block hres 0
      have f1 := unfrozen_of_block hres 1
      have f2 := unfrozen_of_block hres 2
      have f3 := unfrozen_of_block hres 3
      have f4 := unfrozen_of_block hres 4
      have f5 := unfrozen_of_block hres 5
      have f6 := unfrozen_of_block hres 6
      have HR := Lib.hid hres
      clear hres
      go_wp2
      refine bodyPost_ret (v := .tuple #[zeroSeven, .int .i64 5]) ?_ rfl ?_
      · have h0 := block_setCell HR.out (i := 0) (.int .u32 0)
        have h1 := block_setCell h0 (i := 1) (.int .u32 0)
        have h2 := block_setCell h1 (i := 2) (.int .u32 0)
        have h3 := block_setCell h2 (i := 3) (.int .u32 0)
        have h4 := block_setCell h3 (i := 4) (.int .u32 0)
        have h5 := block_setCell h4 (i := 5) (.int .u32 0)
        have h6 := block_setCell h5 (i := 6) (.int .u32 0)
        have g0 := cell_of_block h6 0
        have g1 := cell_of_block h6 1
        have g2 := cell_of_block h6 2
        have g3 := cell_of_block h6 3
        have g4 := cell_of_block h6 4
        have g5 := cell_of_block h6 5
        have g6 := cell_of_block h6 6
        simp [results, Tryz.results52, go_sem, g0, g1, g2, g3, g4, g5, g6]
        rfl
      · exact ⟨set7 w.heap.size (Nat.le_refl _) HB.out, Or.inr ⟨by rw [E.out]; decide, by rw [E.out]⟩⟩
end Go.Proofs.YtglhnmbfkbjemaaGreatDoor
namespace Go.Proofs.YtglhnmbfkbjemaaGreatDoor
open Go Go.RowKit Go.Joins
def HeadPost (word bs : List UInt8) (w : World) (e : Ending) (w' : World) : Prop :=
  Below w.heap.size w w' ∧ ((∃ l rest a2 c2, headS word bs = .ok (l, rest) ∧ e = .returned (.tuple #[sevenV l, .slice a2 rest.length c2, .int .i64 0]) ∧ Sees w' a2 rest.length c2 (rest.map bv) ∧ (∀ b, a2.map Addr.block = some b → b < w'.heap.size)) ∨
    (∃ er, headS word bs = .error er ∧ er ≠ 0 ∧ e = .returned (.tuple #[zeroSeven, .slice none 0 0, .int .i64 er])))
theorem seven_set {X : World} {g : Nat} {C : Array Value} (h : X.heap[g]? = some (.cells C 63 (0, 0))) (hC : C.size = 7) (u0 u1 u2 u3 u4 u5 u6 : Value) :
    (((((((X.setCell ⟨g, 0, .none⟩ u0).setCell ⟨g, 1, .none⟩ u1).setCell ⟨g, 2, .none⟩ u2).setCell ⟨g, 3, .none⟩ u3).setCell ⟨g, 4, .none⟩ u4).setCell ⟨g, 5, .none⟩ u5).setCell ⟨g, 6, .none⟩ u6).heap[g]? = some (.cells #[u0, u1, u2, u3, u4, u5, u6] 63 (0, 0)) := by
  obtain ⟨l⟩ := C
  match l, hC with
  | [_, _, _, _, _, _, _], _ =>
    have h0 := block_setCell h (i := 0) u0
    have h1 := block_setCell h0 (i := 1) u1
    have h2 := block_setCell h1 (i := 2) u2
    have h3 := block_setCell h2 (i := 3) u3
    have h4 := block_setCell h3 (i := 4) u4
    have h5 := block_setCell h4 (i := 5) u5
    have h6 := block_setCell h5 (i := 6) u6
    simpa using h6
theorem set7_but {w X : World} {g : Nat} (h : w.grownBy X (some g)) {u0 u1 u2 u3 u4 u5 u6 : Value} :
    w.grownBy (((((((X.setCell ⟨g, 0, .none⟩ u0).setCell ⟨g, 1, .none⟩ u1).setCell ⟨g, 2, .none⟩ u2).setCell ⟨g, 3, .none⟩ u3).setCell ⟨g, 4, .none⟩ u4).setCell ⟨g, 5, .none⟩ u5).setCell ⟨g, 6, .none⟩ u6) (some g) :=
  but_set (but_set (but_set (but_set (but_set (but_set (but_set h))))))
theorem row_base {ok : Value → Prop} {w : World} {base : Nat} {e : TypeId} {a : Option Addr} {n m c : Nat} {xs : List Value} (h : Row ok w base e (.slice a m c) n xs) : ∀ b, a.map Addr.block = some b → base ≤ b := by
  intro b hb
  rcases h.2 with ⟨e, _⟩ | ⟨g, cap, cur, e, hg, _⟩
  · cases e; cases hb
  · cases e; cases hb; exact hg
theorem line_cut {bs : List UInt8} {n : Nat} (hn : bs.length = n) : (ahead bs < n → cutS bs = some (bs.take (ahead bs), bs.drop (ahead bs + 1))) ∧ (ahead bs = n → cutS bs = none) := by
  unfold cutS
  refine ⟨fun h => by rw [if_pos (by omega)], fun h => by rw [if_neg (by omega)]⟩
theorem row_lt {ok : Value → Prop} {w : World} {base : Nat} {e : TypeId} {a : Option Addr} {n m c : Nat} {xs : List Value} (h : Row ok w base e (.slice a m c) n xs) : ∀ b, a.map Addr.block = some b → b < w.heap.size := by
  intro b hb
  rcases h.2 with ⟨e, _⟩ | ⟨g, cap, cur, e, _, hg, _⟩
  · cases e; cases hb
  · cases e; cases hb; exact heap_lt hg
set_option maxRecDepth 100000 in
set_option maxHeartbeats 1600000 in
theorem head_any (word bs : List UInt8) (a : Option Addr) (n c : Nat) (w : World) (h : Sees w a n c (bs.map bv)) (hn : n ≤ 100000000) :
    Calls Tryz.prog 23 #[.string (str word), .slice a n c] w (HeadPost word bs w) := by
  have hbl := h.lenMap
  have hlc := line_cut hbl
  have HLI := Lib.hid (fun o : Obj => line_any bs a n c (w.alloc o) (h.below (ext_alloc _ _)) (by omega))
  have HLC := Lib.hid hlc
  have HBL := Lib.hid hbl
  clear h hbl hlc
  go_enter Tryz.func23, Tryz.ntmps23
  go_wp2_with fail
  refine (HLI.out _).mono ?_
  intro e w1 hp
  rcases hp with ⟨hlt, v1, v2, rfl, hr1, hr2, hb⟩ | ⟨heq, rfl, hb⟩
  · have hcs := HLC.out.1 hlt
    obtain ⟨line, hline⟩ : ∃ l, l = bs.take (ahead bs) := ⟨_, rfl⟩
    obtain ⟨rest, hrest⟩ : ∃ l, l = bs.drop (ahead bs + 1) := ⟨_, rfl⟩
    have hl1 : line.length = ahead bs := by rw [hline, List.length_take, HBL.out]; omega
    have hl2 : rest.length = n - (ahead bs + 1) := by rw [hrest, List.length_drop, HBL.out]
    rw [← hline, ← hl1] at hr1
    rw [← hrest, ← hl2] at hr2
    rw [← hline, ← hrest] at hcs
    have hln : line.length ≤ 100000000 := by omega
    obtain ⟨a1, c1, rfl, _, s1⟩ := hr1.sees
    obtain ⟨a2, c2, rfl, _, s2⟩ := hr2.sees
    have HLT := Lib.hid (row_lt hr2)
    have HRB := Lib.hid (row_base hr2)
    have HS2 := Lib.hid s2
    have HHL := Lib.hid (headLine_any word line a1 line.length c1 w1 s1 hln)
    have HB := Lib.hid (ext_behind hb)
    have HR1 := Lib.hid (heap_below (heap_new w (.cells #[.int .u32 0, .int .u32 0, .int .u32 0, .int .u32 0, .int .u32 0, .int .u32 0, .int .u32 0] 63) w.heap.size rfl) hb)
    have hhs : headS word bs = if headErr word line = 0 then .ok (headNums line, rest) else .error (headErr word line) := by unfold headS; rw [hcs]
    obtain ⟨er, her⟩ : ∃ er, er = headErr word line := ⟨_, rfl⟩
    obtain ⟨L, hL⟩ : ∃ L, L = headNums line := ⟨_, rfl⟩
    rw [← her, ← hL] at hhs HHL
    have HHS := Lib.hid hhs
    clear hlt hline hrest hl1 hl2 hr1 hr2 hcs s1 s2 hb hhs her hL
    go_wp2_with fail
    refine HHL.out.mono ?_
    rintro e w2 ⟨hb2, hp⟩
    have HR2 := Lib.hid (heap_below HR1.out hb2)
    have HB2 := Lib.hid (ext_trans HB.out hb2)
    have HS3 := Lib.hid (HS2.out.below hb2)
    have hsz := hb2.size
    clear hb2
    rcases hp with ⟨h0, rfl⟩ | ⟨h0, rfl⟩
    · have hh : headS word bs = .ok (L, rest) := by rw [HHS.out, if_pos h0]
      have HH := Lib.hid hh
      clear h0 hh
      obtain ⟨u0, u1, u2, u3, u4, u5, u6, hu⟩ : ∃ u0 u1 u2 u3 u4 u5 u6 : Nat, sevenV L = .agg #[.int .u32 u0, .int .u32 u1, .int .u32 u2, .int .u32 u3, .int .u32 u4, .int .u32 u5, .int .u32 u6] := ⟨_, _, _, _, _, _, _, rfl⟩
      rw [hu]
      have HU := Lib.hid hu
      clear hu
      have hres : w2.heap[w.heap.size]? = some (.cells #[.int .u32 0, .int .u32 0, .int .u32 0, .int .u32 0, .int .u32 0, .int .u32 0, .int .u32 0] 63 (0, 0)) := HR2.out
      have r0 := cell_of_block hres 0
      have r1 := cell_of_block hres 1
      have r2 := cell_of_block hres 2
      have r3 := cell_of_block hres 3
      have r4 := cell_of_block hres 4
      have r5 := cell_of_block hres 5
      have r6 := cell_of_block hres 6
      have f0 := unfrozen_of_block hres 0
      have f1 := unfrozen_of_block hres 1
      have f2 := unfrozen_of_block hres 2
      have f3 := unfrozen_of_block hres 3
      have f4 := unfrozen_of_block hres 4
      have f5 := unfrozen_of_block hres 5
      have f6 := unfrozen_of_block hres 6
      have HR := Lib.hid hres
      clear hres
      go_wp2
      refine bodyPost_ret (v := .tuple #[sevenV L, .slice a2 rest.length c2, .int .i64 0]) ?_ rfl ?_
      · have h6 := seven_set HR.out rfl (.int .u32 u0) (.int .u32 u1) (.int .u32 u2) (.int .u32 u3) (.int .u32 u4) (.int .u32 u5) (.int .u32 u6)
        have h13 := seven_set h6 rfl (.int .u32 u0) (.int .u32 u1) (.int .u32 u2) (.int .u32 u3) (.int .u32 u4) (.int .u32 u5) (.int .u32 u6)
        have g0 := cell_of_block h13 0
        have g1 := cell_of_block h13 1
        have g2 := cell_of_block h13 2
        have g3 := cell_of_block h13 3
        have g4 := cell_of_block h13 4
        have g5 := cell_of_block h13 5
        have g6 := cell_of_block h13 6
        simp [results, Tryz.results23, go_sem, g0, g1, g2, g3, g4, g5, g6]
        exact HU.out.symm
      · have hbut := set7_but (set7_but (World.grownBy.refl w2 (some w.heap.size)) (u0 := .int .u32 u0) (u1 := .int .u32 u1) (u2 := .int .u32 u2) (u3 := .int .u32 u3) (u4 := .int .u32 u4) (u5 := .int .u32 u5) (u6 := .int .u32 u6)) (u0 := .int .u32 u0) (u1 := .int .u32 u1) (u2 := .int .u32 u2) (u3 := .int .u32 u3) (u4 := .int .u32 u4) (u5 := .int .u32 u5) (u6 := .int .u32 u6)
        have hlow : ∀ b, a2.map Addr.block = some b → b < w2.heap.size ∧ b ≠ w.heap.size := fun b hb => ⟨Nat.lt_of_lt_of_le (HLT.out b hb) hsz, by have := HRB.out b hb; simp at this; omega⟩
        refine ⟨set7 w.heap.size (Nat.le_refl _) (set7 w.heap.size (Nat.le_refl _) HB2.out), Or.inl ⟨L, rest, a2, c2, HH.out, rfl, sees_old HS3.out (World.grownBy.refl _ _) hbut hlow, fun b hb => Nat.lt_of_lt_of_le (hlow b hb).1 hbut.size⟩⟩
    · have hh : headS word bs = .error er := by rw [HHS.out, if_neg h0]
      have HH := Lib.hid hh
      have H0 := Lib.hid h0
      have e1 : (er != 0) = true := by simp [h0]
      have e2 : (er == 0) = false := by simp [h0]
      clear h0 hh
      have es : zeroSeven = .agg #[.int .u32 0, .int .u32 0, .int .u32 0, .int .u32 0, .int .u32 0, .int .u32 0, .int .u32 0] := rfl
      rw [es]
      clear es
      have hres : w2.heap[w.heap.size]? = some (.cells #[.int .u32 0, .int .u32 0, .int .u32 0, .int .u32 0, .int .u32 0, .int .u32 0, .int .u32 0] 63 (0, 0)) := HR2.out
      have r0 := cell_of_block hres 0
      have r1 := cell_of_block hres 1
      have r2 := cell_of_block hres 2
      have r3 := cell_of_block hres 3
      have r4 := cell_of_block hres 4
      have r5 := cell_of_block hres 5
      have r6 := cell_of_block hres 6
      have f0 := unfrozen_of_block hres 0
      have f1 := unfrozen_of_block hres 1
      have f2 := unfrozen_of_block hres 2
      have f3 := unfrozen_of_block hres 3
      have f4 := unfrozen_of_block hres 4
      have f5 := unfrozen_of_block hres 5
      have f6 := unfrozen_of_block hres 6
      have HR := Lib.hid hres
      clear hres
      go_wp2
      refine bodyPost_ret (v := .tuple #[zeroSeven, .slice none 0 0, .int .i64 er]) ?_ rfl ?_
      · have h6 := seven_set HR.out rfl (.int .u32 0) (.int .u32 0) (.int .u32 0) (.int .u32 0) (.int .u32 0) (.int .u32 0) (.int .u32 0)
        have h13 := seven_set h6 rfl (.int .u32 0) (.int .u32 0) (.int .u32 0) (.int .u32 0) (.int .u32 0) (.int .u32 0) (.int .u32 0)
        have g0 := cell_of_block h13 0
        have g1 := cell_of_block h13 1
        have g2 := cell_of_block h13 2
        have g3 := cell_of_block h13 3
        have g4 := cell_of_block h13 4
        have g5 := cell_of_block h13 5
        have g6 := cell_of_block h13 6
        simp [results, Tryz.results23, go_sem, g0, g1, g2, g3, g4, g5, g6]
        rfl
      · exact ⟨set7 w.heap.size (Nat.le_refl _) (set7 w.heap.size (Nat.le_refl _) HB2.out), Or.inr ⟨er, HH.out, H0.out, rfl⟩⟩
  · have hcs := HLC.out.2 heq
    have hh : headS word bs = .error 4 := by unfold headS; rw [hcs]
    have HH := Lib.hid hh
    have HB := Lib.hid (ext_behind hb)
    have HR1 := Lib.hid (heap_below (heap_new w (.cells #[.int .u32 0, .int .u32 0, .int .u32 0, .int .u32 0, .int .u32 0, .int .u32 0, .int .u32 0] 63) w.heap.size rfl) hb)
    clear hcs hh heq hb
    have hres : w1.heap[w.heap.size]? = some (.cells #[.int .u32 0, .int .u32 0, .int .u32 0, .int .u32 0, .int .u32 0, .int .u32 0, .int .u32 0] 63 (0, 0)) := HR1.out
    have r0 := cell_of_block hres 0
    have r1 := cell_of_block hres 1
    have r2 := cell_of_block hres 2
    have r3 := cell_of_block hres 3
    have r4 := cell_of_block hres 4
    have r5 := cell_of_block hres 5
    have r6 := cell_of_block hres 6
    have f0 := unfrozen_of_block hres 0
    have f1 := unfrozen_of_block hres 1
    have f2 := unfrozen_of_block hres 2
    have f3 := unfrozen_of_block hres 3
    have f4 := unfrozen_of_block hres 4
    have f5 := unfrozen_of_block hres 5
    have f6 := unfrozen_of_block hres 6
    have HR := Lib.hid hres
    clear hres
    go_wp2
    refine bodyPost_ret (v := .tuple #[zeroSeven, .slice none 0 0, .int .i64 4]) ?_ rfl ?_
    · have h6 := seven_set HR.out rfl (.int .u32 0) (.int .u32 0) (.int .u32 0) (.int .u32 0) (.int .u32 0) (.int .u32 0) (.int .u32 0)
      have g0 := cell_of_block h6 0
      have g1 := cell_of_block h6 1
      have g2 := cell_of_block h6 2
      have g3 := cell_of_block h6 3
      have g4 := cell_of_block h6 4
      have g5 := cell_of_block h6 5
      have g6 := cell_of_block h6 6
      simp [results, Tryz.results23, go_sem, g0, g1, g2, g3, g4, g5, g6]
      rfl
    · exact ⟨set7 w.heap.size (Nat.le_refl _) HB.out, Or.inr ⟨4, HH.out, by decide, rfl⟩⟩
end Go.Proofs.YtglhnmbfkbjemaaGreatDoor
