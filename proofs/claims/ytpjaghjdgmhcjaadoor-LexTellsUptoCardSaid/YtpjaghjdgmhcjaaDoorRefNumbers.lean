/- inquestref01.Numbers, by its contract. -/
import Derived.Test.YtpjaghjdgmhcjaaDoorRefNumber
namespace Go.Proofs.YtpjaghjdgmhcjaaDoor
open Go Go.RowKit Go.Joins

theorem isU32_zero : isU32 (.int .u32 0) := ⟨0, by omega, rfl⟩

theorem nv32_one (l : List Nat) : ∀ u ∈ l.map nv32, u.oneCell' = true := by
  intro u hu
  obtain ⟨x, _, rfl⟩ := List.mem_map.1 hu
  rfl
theorem isU32_all (l : List Nat) (h : ∀ x ∈ l, x < 4294967296) : ∀ u ∈ l.map nv32, isU32 u := by
  intro u hu
  obtain ⟨x, hx, rfl⟩ := List.mem_map.1 hu
  exact ⟨x, h x hx, rfl⟩

set_option maxHeartbeats 1600000 in
theorem refnumbers_any (bs : List UInt8) (a : Option Addr) (n c : Nat) (least many : Int) (most : Nat) (w : World) (h : Sees w a n c (bs.map bv)) (hn : n ≤ 100000000) (hm : most < 4294967296) :
    Calls Tryd.prog 17 #[.slice a n c, .int .i64 least, .int .i64 many, .int .u32 most] w (NumsPost bs least many most w) := by
  obtain ⟨i0, hi, hz0, hz1, hz2⟩ := info_parts info_u32
  have hbl : bs.length = n := by have := h.len; simpa using this
  have HL : Hid (bs.length = n) := hbl
  have HW := Lib.hid (refwords_all bs a n c w h (by omega))
  clear h hbl
  go_enter Tryd.func17, Tryd.ntmps17
  go_wp2_with fail
  refine HW.out.mono ?_
  rintro e w1 (⟨hno, rfl, hb1⟩ | ⟨W, vw, hso, rfl, hrow, hb1⟩)
  · have HN := Lib.hid hno
    clear hno
    go_wp2
    go_ret2
    have e5 : numsErr bs least many most = 5 := by unfold numsErr; rw [HN.out]
    exact ⟨hb1, Or.inl ⟨by rw [e5]; decide, by rw [e5]; rfl⟩⟩
  · have HS := Lib.hid hso
    obtain ⟨aw, cw, rfl, hcm, hsee⟩ := hrow.sees
    have hsz := wordsOf_size hso
    have hWn : W.length ≤ 100000001 := by have := hsz.1; have := HL.out; omega
    have HSZ := Lib.hid hsz.2
    have HSEE := Lib.hid hsee
    clear hso hrow hsz hsee
    by_cases hfew : (W.length : Int) < least ∨ many < (W.length : Int)
    · have e5 : numsErr bs least many most = 5 := by unfold numsErr; rw [HS.out]; exact if_pos hfew
      have E5 := Lib.hid e5
      clear e5
      rcases hfew with hf | hf
      · go_wp2
        go_ret2
        exact ⟨hb1, Or.inl ⟨by rw [E5.out]; decide, by rw [E5.out]; rfl⟩⟩
      · by_cases hf2 : (W.length : Int) < least
        all_goals
          go_wp2
          go_ret2
          exact ⟨hb1, Or.inl ⟨by rw [E5.out]; decide, by rw [E5.out]; rfl⟩⟩
    · have hf1 : least ≤ (W.length : Int) := by omega
      have hf2 : (W.length : Int) ≤ many := by omega
      have enum : numsErr bs least many most = firstErr W most := by unfold numsErr; rw [HS.out]; exact if_neg hfew
      have EN := Lib.hid enum
      clear enum hfew
      go_wp2
      go_loopw [12, 13, 14, 15] (fun v j _ _ wr => ∃ (k : Nat) (L : List Nat), k ≤ W.length ∧ j = .int .i64 k ∧ L.length = k ∧ Hid (L = (W.take k).map fun x => numOf x most) ∧ Hid (Row isU32 wr w1.heap.size 23 v L.length (L.map nv32)) ∧ Hid (Below w1.heap.size w1 wr) ∧ Hid (∀ m, m < k → numErr (W.getD m []) most = 0))
        (fun _ j _ _ _ => W.length - (intOf j).toNat)
      case atStart => exact ⟨0, [], Nat.zero_le _, rfl, rfl, rfl, Row.nil _ _ _ _, Below.refl _ _, fun m hm => absurd hm (by omega)⟩
      case round =>
        obtain ⟨k, L, hk, rfl, hLk, hL, hrow, hb2, hall⟩ := hrel
        have HLK := Lib.hid hLk
        have hLk' : L.length ≤ 100000001 := by omega
        clear hLk
        by_cases hlt : k < W.length
        · obtain ⟨b, off, ea, hbw⟩ := HSEE.out.addr (by omega)
          have hsee := HSEE.out.below hb2.out
          rw [ea] at hsee ⊢
          have hcx := sees_str hsee k hlt
          obtain ⟨nv, hnv⟩ : ∃ nv : Nat, nv = numOf (W.getD k []) most := ⟨_, rfl⟩
          obtain ⟨er, her⟩ : ∃ er : Int, er = numErr (W.getD k []) most := ⟨_, rfl⟩
          have HC' := Lib.hid (refnumber_named (W.getD k []) most wr nv er hnv her (by
            have : W.getD k [] ∈ W := by simp [List.getD, List.getElem?_eq_getElem hlt]
            have := HSZ.out _ this
            have := HL.out
            omega) hm)
          have hnv32 : nv < 4294967296 := by rw [hnv]; exact Nat.lt_of_le_of_lt (numOf_le _ most) hm
          have HNV := Lib.hid hnv
          have HER := Lib.hid her
          obtain ⟨wd, hwd⟩ : ∃ wd : ByteArray, wd = str (W.getD k []) := ⟨_, rfl⟩
          rw [← hwd] at hcx
          have HWD := Lib.hid hwd
          clear hnv her hsee hwd ea
          go_wp2_with fail
          rw [HWD.out]
          refine HC'.out.mono ?_
          rintro e w2 ⟨rfl, hb3⟩
          have HB3 := Lib.hid (hb2.out.trans (hb3.mono hb2.out.size))
          have HR2 := Lib.hid (hrow.out.below hb3)
          clear hb3
          by_cases e0 : er = 0
          · subst e0
            go_wp2_with (at_builtin; refine wpList_append_row isU32 _ rfl _ _ 24 rfl w1.heap.size 23 i0 (.int .u32 0) 4 Tryd.underlying24 hi hz0 hz1 hz2 rfl isU32_zero _ _ _ rfl (HR2.out.below ((Below.refl _ _).alloc (Nat.le_refl _) _)) (some ⟨w2.heap.size, 0, none⟩) 1 1 [nv32 nv] rfl (sees_one _ _ _) (nv32_one [nv]) (isU32_all [nv] (by simpa using hnv32)) ?c4 ?c5 ?c6 ?_)
            case c4 => unfold maxLen; omega
            case c5 => omega
            case c6 => have := HB3.out.size; simp; omega
            intro v' w3 hrow3 hgrow3 _
            have hlt3 := HR2.out.own.lt
            have hb4 : Below w1.heap.size w1 w3 := (HB3.out.alloc HB3.out.size _).grown hgrow3 (by have := HB3.out.size; simp; omega) (fun k hk => (hlt3 k hk).1)
            have HB4 := Lib.hid hb4
            have HR4 : Hid (Row isU32 w3 w1.heap.size 23 v' (L ++ [nv]).length ((L ++ [nv]).map nv32)) := by
              show Row _ _ _ _ _ _ _
              rw [List.length_append, List.map_append]; exact hrow3
            clear hrow3 hgrow3 hlt3 hb4
            go_wp2
            go_roundw
            case rel =>
              refine ⟨k + 1, L ++ [nv], by omega, by go_num, by rw [List.length_append, HLK.out]; rfl, ?_, HR4.out, HB4.out, fun m hm => ?_⟩
              · show _ = _
                rw [List.take_succ_eq_append_getElem hlt, List.map_append, ← hL.out, HNV.out]
                simp [List.getD, List.getElem?_eq_getElem hlt]
              · rcases Nat.lt_or_ge m k with h | h
                · exact hall.out m h
                · have : m = k := by omega
                  subst this
                  exact HER.out.symm
            case measure => simp [intOf]; omega
          · have en1 : (er != 0) = true := by simp [e0]
            have en2 : (er == 0) = false := by simp [e0]
            have ef : numsErr bs least many most = er := by
              rw [EN.out, HER.out]
              exact firstErr_at W most k hlt hall.out (by rw [← HER.out]; exact e0)
            have EF := Lib.hid ef
            have E0 := Lib.hid e0
            clear ef e0
            go_wp2
            go_ret2
            exact ⟨ext_trans hb1 HB3.out, Or.inl ⟨by rw [EF.out]; exact E0.out, by rw [EF.out]; rfl⟩⟩
        · have hkk : k = W.length := by omega
          subst hkk
          have ef : numsErr bs least many most = 0 := by rw [EN.out]; exact firstErr_none W most hall.out
          have EF := Lib.hid ef
          clear ef
          go_wp2
          go_ret2
          refine ⟨ext_trans hb1 hb2.out, Or.inr ⟨EF.out, _, rfl, ?_⟩⟩
          have he : numsOf bs most = L := by unfold numsOf; rw [HS.out, hL.out, List.take_length]; rfl
          rw [he]
          exact hrow.out.base_le hb1.size
end Go.Proofs.YtpjaghjdgmhcjaaDoor
