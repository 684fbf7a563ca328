/- The law RawBack, by its walk. -/
import Derived.Test.YtbpdjfjjkioeaaaDoorRawLives
import Derived.Test.YtbpdjfjjkioeaaaDoorRawPut
import Derived.Test.YtbpdjfjjkioeaaaDoorRawTrip
import Derived.Test.YtbpdjfjjkioeaaaDoorRawFRow
namespace Go.Proofs.YtbpdjfjjkioeaaaDoor
open Go Go.RowKit Go.Joins

theorem few_len {r : RawC} (hv : ValidR r) (hg : greatB r = false) : (textOf r).length ≤ 200000 := by
  have h1 : r.ins.length + r.lats.length + r.gates.length + r.outs.length + r.bads.length + r.cons.length ≤ 3000 := by
    unfold greatB at hg; simp at hg; omega
  have h2 := accT_len hv (bodyLines r).length
  rw [accT_full r _ (Nat.le_refl _)] at h2
  have h3 : (bodyLines r).length = r.ins.length + r.lats.length + r.outs.length + r.bads.length + r.cons.length + r.gates.length := lines_count rfl rfl rfl rfl rfl rfl
  omega
theorem fit_of {w w' : World} {s s' : Slots} {r : RawC} (h : SeesRaw w s r) (h' : SeesRaw w' s' r) (hf : s.fit) : s'.fit := by
  obtain ⟨f1, f2, f3, f4, f5, f6⟩ := hf
  refine ⟨?_, ?_, ?_, ?_, ?_, ?_⟩
  · rw [← h'.s1.lenMap, h.s1.lenMap]; exact f1
  · rw [← h'.s2.1, h.s2.1]; exact f2
  · rw [← h'.s3.lenMap, h.s3.lenMap]; exact f3
  · rw [← h'.s4.lenMap, h.s4.lenMap]; exact f4
  · rw [← h'.s5.lenMap, h.s5.lenMap]; exact f5
  · rw [← h'.s6.1, h.s6.1]; exact f6
theorem text_pos (r : RawC) : 0 < (textOf r).length := by simp [textOf, headText]

set_option maxRecDepth 100000 in
set_option maxHeartbeats 3200000 in
theorem rawback_any (r : RawC) (s : Slots) (rem : List UInt8) (a : Option Addr) (n c : Nat) (cut : Int) (w : World) (h : SeesRaw w s r) (hf : s.fit) (hrem : Sees w a n c (rem.map bv)) (hn : n ≤ 140737488000000) (hc1 : -9223372036854775808 ≤ cut) (hc2 : cut ≤ 9223372036854775807) (htab : Tab w) :
    Calls Tryd.prog 3 #[rawV r.max s, .slice a n c, .int .i64 cut] w fun e w' => e = .returned (.bool true) ∧ Below w.heap.size w w' := by
  have HPUT := Lib.hid (fun (w' : World) (hb : Below w.heap.size w w') => put_any r s w' (h.below hb) hf (htab.below hb (Nat.le_refl _)))
  have HGR := Lib.hid (fun (w' : World) (hb : Below w.heap.size w w') => great_any r s w' (h.below hb) hf)
  have HMAY := Lib.hid (fun (w' : World) (hb : Below w.heap.size w w') => may_any r s w' (h.below hb) hf)
  have HS := Lib.hid h
  have HF := Lib.hid hf
  have HRM := Lib.hid hrem
  clear h hf hrem htab
  obtain ⟨m, hm⟩ : ∃ m, m = r.max := ⟨_, rfl⟩
  rw [← hm] at HPUT HGR HMAY ⊢
  have HM := Lib.hid hm
  clear hm
  obtain ⟨RV, hRV⟩ : ∃ RV, RV = s := ⟨_, rfl⟩
  obtain ⟨a1, n1, c1, a2, n2, c2, a3, n3, c3, a4, n4, c4, a5, n5, c5, a6, n6, c6⟩ := s
  have HRV := Lib.hid hRV
  clear hRV
  unfold rawV at HPUT HGR HMAY ⊢
  simp only at HPUT HGR HMAY
  go_enter Tryd.func3, Tryd.ntmps3
  go_wp2_with fail
  refine (HPUT.out _ (ext_alloc _ _)).mono ?_
  rintro e w1 ⟨hb1, hp⟩
  have BD1 := Lib.hid (ext_behind hb1)
  have HX1 := Lib.hid (heap_below (heap_new w (.cells #[.int .u32 m, .slice a1 n1 c1, .slice a2 n2 c2, .slice a3 n3 c3, .slice a4 n4 c4, .slice a5 n5 c5, .slice a6 n6 c6] 27) w.heap.size rfl) hb1)
  have HW := Lib.hid hb1
  clear hb1
  rcases hp with ⟨hmay, rfl⟩ | ⟨hmay, v, rfl, hrow⟩
  · have x0 := cell_of_block HX1.out 0
    have x1 := cell_of_block HX1.out 1
    have x2 := cell_of_block HX1.out 2
    have x3 := cell_of_block HX1.out 3
    have x4 := cell_of_block HX1.out 4
    have x5 := cell_of_block HX1.out 5
    have x6 := cell_of_block HX1.out 6
    have HMM := Lib.hid hmay
    clear hmay
    go_wp2_with fail
    refine (HGR.out w1 BD1.out).mono ?_
    obtain ⟨q, hq⟩ : ∃ q, q = greatB r := ⟨_, rfl⟩
    rw [← hq]
    rintro e w2 ⟨rfl, hb2⟩
    have BD2 := Lib.hid (ext_trans BD1.out hb2)
    have hx2 := heap_below HX1.out hb2
    have HX2 := Lib.hid hx2
    clear x0 x1 x2 x3 x4 x5 x6 hb2
    have x0 := cell_of_block hx2 0
    have x1 := cell_of_block hx2 1
    have x2 := cell_of_block hx2 2
    have x3 := cell_of_block hx2 3
    have x4 := cell_of_block hx2 4
    have x5 := cell_of_block hx2 5
    have x6 := cell_of_block hx2 6
    have HQ := Lib.hid hq
    clear hx2 hq
    cases q with
    | true =>
      go_wp2_with fail
      refine (HGR.out w2 BD2.out).mono ?_
      rw [← HQ.out]
      rintro e w3 ⟨rfl, hb3⟩
      have BD3 := Lib.hid (ext_trans BD2.out hb3)
      clear x0 x1 x2 x3 x4 x5 x6 hb3
      go_wp2_with fail
      refine (lives_any w3).mono ?_
      rintro e w4 ⟨rfl, hb4⟩
      have BD4 := Lib.hid (ext_trans BD3.out hb4)
      clear hb4
      go_wp2
      go_ret
      exact ⟨rfl, BD4.out⟩
    | false =>
      go_wp2_with fail
      refine (HMAY.out w2 BD2.out).mono ?_
      rw [HMM.out]
      rintro e w3 ⟨rfl, hb3⟩
      have BD3 := Lib.hid (ext_trans BD2.out hb3)
      clear x0 x1 x2 x3 x4 x5 x6 hb3
      go_wp2_with fail
      refine (lives_any w3).mono ?_
      rintro e w4 ⟨rfl, hb4⟩
      have BD4 := Lib.hid (ext_trans BD3.out hb4)
      clear hb4
      go_wp2
      go_ret
      exact ⟨rfl, BD4.out⟩
  · have hv := valid_of hmay
    have HVV := Lib.hid hv
    have HMM := Lib.hid hmay
    have hpos := text_pos r
    obtain ⟨T, hT⟩ : ∃ T, T = textOf r := ⟨_, rfl⟩
    rw [← hT] at hrow hpos
    have HT := Lib.hid hT
    clear hmay hv hT
    obtain ⟨ab, cb, rfl, _, sb⟩ := hrow.sees
    have HSB := Lib.hid sb
    clear hrow sb
    have x0 := cell_of_block HX1.out 0
    have x1 := cell_of_block HX1.out 1
    have x2 := cell_of_block HX1.out 2
    have x3 := cell_of_block HX1.out 3
    have x4 := cell_of_block HX1.out 4
    have x5 := cell_of_block HX1.out 5
    have x6 := cell_of_block HX1.out 6
    go_wp2_with fail
    refine (HGR.out w1 BD1.out).mono ?_
    obtain ⟨q, hq⟩ : ∃ q, q = greatB r := ⟨_, rfl⟩
    rw [← hq]
    rintro e w2 ⟨rfl, hb2⟩
    have BD2 := Lib.hid (ext_trans BD1.out hb2)
    have hx2 := heap_below HX1.out hb2
    have HX2 := Lib.hid hx2
    have HSB2 := Lib.hid (HSB.out.below hb2)
    clear x0 x1 x2 x3 x4 x5 x6 hb2 HSB
    have x0 := cell_of_block hx2 0
    have x1 := cell_of_block hx2 1
    have x2 := cell_of_block hx2 2
    have x3 := cell_of_block hx2 3
    have x4 := cell_of_block hx2 4
    have x5 := cell_of_block hx2 5
    have x6 := cell_of_block hx2 6
    have HQ := Lib.hid hq
    clear hx2 hq
    cases q with
    | true =>
      go_wp2_with fail
      refine (HGR.out w2 BD2.out).mono ?_
      rw [← HQ.out]
      rintro e w3 ⟨rfl, hb3⟩
      have BD3 := Lib.hid (ext_trans BD2.out hb3)
      clear x0 x1 x2 x3 x4 x5 x6 hb3
      go_wp2_with fail
      refine (lives_any w3).mono ?_
      rintro e w4 ⟨rfl, hb4⟩
      have BD4 := Lib.hid (ext_trans BD3.out hb4)
      clear hb4
      go_wp2
      go_ret
      exact ⟨rfl, BD4.out⟩
    | false =>
      have hTl := few_len HVV.out HQ.out.symm
      rw [← HT.out] at hTl
      have HG1 := Lib.hid (show getS T = .ok r by
        have := get_put HVV.out [] (by rw [List.append_nil, ← HT.out]; omega) rfl
        rw [List.append_nil, ← HT.out] at this
        exact this)
      go_wp2_with fail
      refine (HMAY.out w2 BD2.out).mono ?_
      rw [HMM.out]
      rintro e w3 ⟨rfl, hb3⟩
      have BD3 := Lib.hid (ext_trans BD2.out hb3)
      have HX3 := Lib.hid (heap_below HX2.out hb3)
      have HSB3 := Lib.hid (HSB2.out.below hb3)
      clear x0 x1 x2 x3 x4 x5 x6 hb3 HX2 HSB2 HX1
      go_wp2_with fail
      refine (get_ok T r HG1.out ab T.length cb w3 HSB3.out (by omega)).mono ?_
      rintro e w4 ⟨⟨p1, k1, d1, p2, k2, d2, p3, k3, d3, p4, k4, d4, p5, k5, d5, p6, k6, d6⟩, rfl, hsx, hb4⟩
      have BD4 := Lib.hid (ext_trans BD3.out hb4)
      have HX4 := Lib.hid (heap_below HX3.out hb4)
      have HSB4 := Lib.hid (HSB3.out.below hb4)
      have HSX4 := Lib.hid hsx
      rw [← HM.out]
      clear hb4 hsx HX3 HSB3
      unfold rawV
      obtain ⟨i0, hi, hz0, hz1, hz2⟩ := info_parts info_u8
      have hstr := (HSB4.out.below (ext_alloc w4 (.cells #[.int .u32 m, .slice p1 k1 d1, .slice p2 k2 d2, .slice p3 k3 d3, .slice p4 k4 d4, .slice p5 k5 d5, .slice p6 k6 d6] 27))).str (P := Tryd.prog) 28 5 9 Tryd.underlying28 Tryd.underlying5 Tryd.underlying9
      have q1 := Lib.run_convert_string_bytes (P := Tryd.prog) (w4.alloc (.cells #[.int .u32 m, .slice p1 k1 d1, .slice p2 k2 d2, .slice p3 k3 d3, .slice p4 k4 d4, .slice p5 k5 d5, .slice p6 k6 d6] 27)) 9 28 5 (str T) Tryd.underlying9 Tryd.underlying28 Tryd.underlying5
      have hbw := below_bytes (w4.alloc (.cells #[.int .u32 m, .slice p1 k1 d1, .slice p2 k2 d2, .slice p3 k3 d3, .slice p4 k4 d4, .slice p5 k5 d5, .slice p6 k6 d6] 27)) 5 (str T)
      have hge := grownCap_ge (w4.alloc (.cells #[.int .u32 m, .slice p1 k1 d1, .slice p2 k2 d2, .slice p3 k3 d3, .slice p4 k4 d4, .slice p5 k5 d5, .slice p6 k6 d6] 27)) T.length 0 5
      have hgm := grownCap_le_maxLen (w4.alloc (.cells #[.int .u32 m, .slice p1 k1 d1, .slice p2 k2 d2, .slice p3 k3 d3, .slice p4 k4 d4, .slice p5 k5 d5, .slice p6 k6 d6] 27)) T.length 0 5 (by unfold maxLen; omega)
      have hbc : ∀ j, j < T.length → (Lib.bytesWorld (w4.alloc (.cells #[.int .u32 m, .slice p1 k1 d1, .slice p2 k2 d2, .slice p3 k3 d3, .slice p4 k4 d4, .slice p5 k5 d5, .slice p6 k6 d6] 27)) 5 (str T)).cell? ⟨w4.heap.size + 1, j, none⟩ = (T.map bv)[j]? := by
        intro j hj
        have := Lib.bytesWorld_cell (w4.alloc (.cells #[.int .u32 m, .slice p1 k1 d1, .slice p2 k2 d2, .slice p3 k3 d3, .slice p4 k4 d4, .slice p5 k5 d5, .slice p6 k6 d6] 27)) 5 (str T) j (by rw [size_str]; exact hj)
        rw [show (w4.alloc (.cells #[.int .u32 m, .slice p1 k1 d1, .slice p2 k2 d2, .slice p3 k3 d3, .slice p4 k4 d4, .slice p5 k5 d5, .slice p6 k6 d6] 27)).heap.size = w4.heap.size + 1 by simp] at this
        rw [this]
        simp [str, bv, List.getD, List.getElem?_eq_getElem hj]
      have hnew := Lib.bytesWorld_at_new (w4.alloc (.cells #[.int .u32 m, .slice p1 k1 d1, .slice p2 k2 d2, .slice p3 k3 d3, .slice p4 k4 d4, .slice p5 k5 d5, .slice p6 k6 d6] 27)) 5 (str T)
      have hcsz : (Lib.bytesCells (w4.alloc (.cells #[.int .u32 m, .slice p1 k1 d1, .slice p2 k2 d2, .slice p3 k3 d3, .slice p4 k4 d4, .slice p5 k5 d5, .slice p6 k6 d6] 27)) 5 (str T)).size = grownCap (w4.alloc (.cells #[.int .u32 m, .slice p1 k1 d1, .slice p2 k2 d2, .slice p3 k3 d3, .slice p4 k4 d4, .slice p5 k5 d5, .slice p6 k6 d6] 27)) T.length 0 5 := by
        unfold Lib.bytesCells
        rw [size_str]
        have : (str T).data.size = T.length := by simp [str]
        simp [this]; omega
      have hwsz : (w4.alloc (.cells #[.int .u32 m, .slice p1 k1 d1, .slice p2 k2 d2, .slice p3 k3 d3, .slice p4 k4 d4, .slice p5 k5 d5, .slice p6 k6 d6] 27)).heap.size = w4.heap.size + 1 := by simp
      rw [size_str] at q1
      rw [hwsz] at q1 hnew hbw
      obtain ⟨Wb, hWb⟩ : ∃ Wb, Wb = Lib.bytesWorld (w4.alloc (.cells #[.int .u32 m, .slice p1 k1 d1, .slice p2 k2 d2, .slice p3 k3 d3, .slice p4 k4 d4, .slice p5 k5 d5, .slice p6 k6 d6] 27)) 5 (str T) := ⟨_, rfl⟩
      obtain ⟨cp, hcp⟩ : ∃ cp, cp = grownCap (w4.alloc (.cells #[.int .u32 m, .slice p1 k1 d1, .slice p2 k2 d2, .slice p3 k3 d3, .slice p4 k4 d4, .slice p5 k5 d5, .slice p6 k6 d6] 27)) T.length 0 5 := ⟨_, rfl⟩
      rw [← hWb] at q1 hbw hbc hnew
      rw [← hcp] at q1 hge hgm hcsz
      have hfr : FRow Wb (w4.heap.size + 1) (.slice (some ⟨w4.heap.size + 1, 0, none⟩) T.length cp) T.length (T.map bv) (w4.heap.size + 1) cp := by
        refine ⟨rfl, Nat.le_refl _, ⟨by simp, hge, (fun e => by cases e), fun _ => ⟨_, 0, rfl, heap_lt hnew, fun j hj => by rw [Nat.zero_add]; exact hbc j hj⟩⟩, hgm, heap_lt hnew, fun j hj => ⟨?_, ?_⟩⟩
        · rw [cell_of_block hnew j, Array.getElem?_eq_getElem (by omega)]; rfl
        · unfold World.frozen?
          rw [hnew]
          simp
          omega
      have HFR := Lib.hid hfr
      have h5 : Below w4.heap.size w4 Wb := (ext_alloc w4 (.cells #[.int .u32 m, .slice p1 k1 d1, .slice p2 k2 d2, .slice p3 k3 d3, .slice p4 k4 d4, .slice p5 k5 d5, .slice p6 k6 d6] 27)).trans (hbw.mono (Nat.le_succ _))
      have HX5 := Lib.hid (heap_below HX4.out h5)
      have hxx : Wb.heap[w4.heap.size]? = some (.cells #[.int .u32 m, .slice p1 k1 d1, .slice p2 k2 d2, .slice p3 k3 d3, .slice p4 k4 d4, .slice p5 k5 d5, .slice p6 k6 d6] 27 (0, 0)) := (hbw.block _ (Nat.lt_succ_self _)).trans (heap_new w4 (.cells #[.int .u32 m, .slice p1 k1 d1, .slice p2 k2 d2, .slice p3 k3 d3, .slice p4 k4 d4, .slice p5 k5 d5, .slice p6 k6 d6] 27) _ rfl)
      have HXX5 := Lib.hid hxx
      have HSB5 := Lib.hid (HSB4.out.below h5)
      have HSX5 := Lib.hid (HSX4.out.below h5)
      have BD5 := Lib.hid (BD4.out.trans (h5.mono BD4.out.size))
      have hsz5 := heap_lt hnew
      have hB4 := BD4.out.size
      have H45 := Lib.hid h5
      clear hbw hbc hnew hcsz hwsz hWb hcp hfr h5 hxx
      obtain ⟨N2, hN2⟩ : ∃ N2, N2 = ([99, 10] : List UInt8).map bv := ⟨_, rfl⟩
      have hsl2 : Sees (Wb.alloc (.cells #[.int .u8 99, .int .u8 10] 5)) (some ⟨Wb.heap.size, 0, none⟩) 2 2 N2 := by rw [hN2]; exact sees_lit Wb _ _ _ ([99, 10].map bv) 2 rfl rfl
      have hn2a : ∀ u ∈ N2, u.oneCell' = true := by rw [hN2]; exact bv_one [99, 10]
      have hn2b : ∀ u ∈ N2, isByte u := by rw [hN2]; exact isByte_all [99, 10]
      obtain ⟨T2, hT2⟩ : ∃ T2, T2 = T.map bv := ⟨_, rfl⟩
      rw [← hT2] at HFR
      have ht2 : ∀ u ∈ T2, isByte u := by rw [hT2]; exact isByte_all T
      have HN2 := Lib.hid hN2
      have HT2 := Lib.hid hT2
      have HSL2 := Lib.hid hsl2
      have HN2A := Lib.hid hn2a
      have HN2B := Lib.hid hn2b
      have HT2B := Lib.hid ht2
      clear hN2 hT2 hsl2 hn2a hn2b ht2
      go_wp2_with (at_builtin; refine wpList_append_frow isByte _ rfl _ _ 28 rfl (w4.heap.size + 1) 5 i0 (.int .u8 0) 1 Tryd.underlying28 hi hz0 hz1 hz2 rfl isByte_zero _ _ _ _ _ rfl (HFR.out.below (ext_alloc Wb (.cells #[.int .u8 99, .int .u8 10] 5))) hpos HT2B.out (some ⟨Wb.heap.size, 0, none⟩) 2 2 N2 rfl HSL2.out HN2A.out HN2B.out ?c4 ?c5 ?c6 ?_)
      case c4 => unfold maxLen; omega
      case c5 => omega
      case c6 => simp; omega
      intro v6 w6 g6 cp6 hf6 hb6
      have hb56 : Below (w4.heap.size + 1) Wb w6 := ((ext_alloc Wb (.cells #[.int .u8 99, .int .u8 10] 5)).mono (by omega)).trans hb6
      have HF6 := Lib.hid hf6
      have HB6 := Lib.hid hb56
      have HRM6 := Lib.hid (HRM.out.below (BD5.out.trans (hb56.mono (by omega))))
      have hsz6 : w4.heap.size + 1 ≤ w6.heap.size := Nat.le_trans (Nat.le_of_lt hsz5) hb56.size
      have hi6 : ∀ u ∈ T2 ++ N2, isByte u := fun u hu => by
        rcases List.mem_append.1 hu with h | h
        · exact HT2B.out u h
        · exact HN2B.out u h
      have HI6 := Lib.hid hi6
      obtain ⟨L6, hL6⟩ : ∃ L6, L6 = T2 ++ N2 := ⟨_, rfl⟩
      rw [← hL6] at HF6 HI6
      have HL6 := Lib.hid hL6
      clear hf6 hb6 hb56 hi6 hL6 q1 hstr
      go_wp2_with (at_builtin; refine wpList_append_frow isByte _ rfl _ _ 28 rfl (w4.heap.size + 1) 5 i0 (.int .u8 0) 1 Tryd.underlying28 hi hz0 hz1 hz2 rfl isByte_zero _ _ _ _ _ rfl HF6.out (by omega) HI6.out a n c (rem.map bv) rfl HRM6.out (bv_one rem) (isByte_all rem) ?d4 ?d5 ?d6 ?_)
      case d4 => unfold maxLen; omega
      case d5 => omega
      case d6 => exact hsz6
      intro v7 w7 g7 cp7 hf7 hb7
      obtain ⟨M, hM⟩ : ∃ M, M = T ++ ([99, 10] ++ rem) := ⟨_, rfl⟩
      have hMl : M.length = T.length + 2 + n := by rw [hM]; have := HRM.out.lenMap; simp; omega
      have hsM : Sees w7 (some ⟨g7, 0, none⟩) (T.length + 2 + n) cp7 (M.map bv) := by
        have e : M.map bv = L6 ++ rem.map bv := by rw [hM, HL6.out, HT2.out, HN2.out]; simp
        rw [e]; exact hf7.sees
      have hfm := hf7.form
      subst hfm
      have hb57 : Below (w4.heap.size + 1) Wb w7 := HB6.out.trans hb7
      have hb57' : Below w.heap.size Wb w7 := hb57.mono (by omega)
      have HSM := Lib.hid hsM
      have HMM2 := Lib.hid hM
      have HML := Lib.hid hMl
      have hB47 : Below w4.heap.size w4 w7 := H45.out.trans (hb57.mono (Nat.le_succ _))
      have HXX7 := Lib.hid ((hb57.block _ (by omega)).trans HXX5.out)
      have HX7 := Lib.hid (heap_below HX4.out hB47)
      have HSB7 := Lib.hid (HSB4.out.below hB47)
      have HSX7 := Lib.hid (HSX4.out.below hB47)
      have BD7 := Lib.hid (BD4.out.trans (hB47.mono BD4.out.size))
      have hml : ((T.length + 2 + n : Nat) : Int) = (T.length : Int) + 2 + (n : Int) := by omega
      have HFX := Lib.hid (fit_of HS.out HSX4.out HF.out)
      clear hf7 hb7 hM hMl hsM hb57 hb57' hB47 HF6 HB6 HRM6 HI6 HL6 HX4 HSB4 HSX4 HX5 HXX5 HSB5 HSX5 BD5 H45 HFR hml hge hgm hsz5 hsz6
      by_cases hbig : T.length + 2 + n ≤ 1048576
      · skip
        have hgm : getS M = .ok r := by
          have := get_put HVV.out ([99, 10] ++ rem) (by rw [← HT.out, ← HMM2.out, HML.out]; exact hbig) (names_remark _ rem)
          rw [← HT.out, ← HMM2.out] at this; exact this
        have HGM := Lib.hid (get_ok M r hgm _ _ _ w7 HSM.out (by omega))
        have e9 : decide ((T.length : Int) + 2 + (n : Int) ≤ 1048576) = true := by simp; omega
        clear hgm
        go_wp2_with fail
        refine HGM.out.mono ?_
        rintro e w8 ⟨⟨y1, j1, e1, y2, j2, e2, y3, j3, e3, y4, j4, e4, y5, j5, e5, y6, j6, e6⟩, rfl, hsy, hb8⟩
        rw [← HM.out]
        unfold rawV
        obtain ⟨W9, hW9⟩ : ∃ W9, W9 = w8.alloc (.cells #[.int .u32 m, .slice y1 j1 e1, .slice y2 j2 e2, .slice y3 j3 e3, .slice y4 j4 e4, .slice y5 j5 e5, .slice y6 j6 e6] 27) := ⟨_, rfl⟩
        have hb9 : Below w7.heap.size w7 W9 := by rw [hW9]; exact ext_trans hb8 (ext_alloc _ _)
        have hr9 := heap_below HX7.out hb9
        have hxx9 := heap_below HXX7.out hb9
        have HSX9 := Lib.hid (HSX7.out.below hb9)
        have HSB9 := Lib.hid (HSB7.out.below hb9)
        have BD9 := Lib.hid (BD7.out.trans (hb9.mono BD7.out.size))
        have hyy9 : W9.heap[w8.heap.size]? = some (.cells #[.int .u32 m, .slice y1 j1 e1, .slice y2 j2 e2, .slice y3 j3 e3, .slice y4 j4 e4, .slice y5 j5 e5, .slice y6 j6 e6] 27 (0, 0)) := by rw [hW9]; exact heap_new _ _ _ rfl
        have HSY9 : Hid (SeesRaw W9 ⟨y1, j1, e1, y2, j2, e2, y3, j3, e3, y4, j4, e4, y5, j5, e5, y6, j6, e6⟩ r) := by rw [hW9]; exact hsy.below (ext_alloc _ _)
        rw [hW9] at hr9 hxx9 hyy9
        have x0 := cell_of_block hr9 0
        have x1 := cell_of_block hr9 1
        have x2 := cell_of_block hr9 2
        have x3 := cell_of_block hr9 3
        have x4 := cell_of_block hr9 4
        have x5 := cell_of_block hr9 5
        have x6 := cell_of_block hr9 6
        have z0 := cell_of_block hxx9 0
        have z1 := cell_of_block hxx9 1
        have z2 := cell_of_block hxx9 2
        have z3 := cell_of_block hxx9 3
        have z4 := cell_of_block hxx9 4
        have z5 := cell_of_block hxx9 5
        have z6 := cell_of_block hxx9 6
        have HYY9 := Lib.hid hyy9
        have HR9 := Lib.hid hr9
        have HXX9 := Lib.hid hxx9
        have HW9 := Lib.hid hW9
        clear hr9 hxx9 hb8 hb9 hW9 hyy9 hsy
        go_wp2_with fail
        rw [← HW9.out]
        have hsm := same_yes r ⟨p1, k1, d1, p2, k2, d2, p3, k3, d3, p4, k4, d4, p5, k5, d5, p6, k6, d6⟩ ⟨a1, n1, c1, a2, n2, c2, a3, n3, c3, a4, n4, c4, a5, n5, c5, a6, n6, c6⟩ W9 HSX9.out (HS.out.below BD9.out) HFX.out
        rw [← HM.out] at hsm
        refine hsm.mono ?_
        clear hsm
        rintro e wa ⟨rfl, hb⟩
        have hra := heap_below HR9.out (by rw [← HW9.out]; exact hb)
        have hxa := heap_below HXX9.out (by rw [← HW9.out]; exact hb)
        have HSXa := Lib.hid (HSX9.out.below hb)
        have HSBa := Lib.hid (HSB9.out.below hb)
        have BDa := Lib.hid (ext_trans BD9.out hb)
        have HYa := Lib.hid (heap_below HYY9.out (by rw [← HW9.out]; exact hb))
        have HSYa := Lib.hid (HSY9.out.below hb)
        clear hb x0 x1 x2 x3 x4 x5 x6 z0 z1 z2 z3 z4 z5 z6
        have x0 := cell_of_block hra 0
        have x1 := cell_of_block hra 1
        have x2 := cell_of_block hra 2
        have x3 := cell_of_block hra 3
        have x4 := cell_of_block hra 4
        have x5 := cell_of_block hra 5
        have x6 := cell_of_block hra 6
        have z0 := cell_of_block hxa 0
        have z1 := cell_of_block hxa 1
        have z2 := cell_of_block hxa 2
        have z3 := cell_of_block hxa 3
        have z4 := cell_of_block hxa 4
        have z5 := cell_of_block hxa 5
        have z6 := cell_of_block hxa 6
        have HRa := Lib.hid hra
        clear hra hxa
        go_wp2_with fail
        have hsm := same_yes r ⟨a1, n1, c1, a2, n2, c2, a3, n3, c3, a4, n4, c4, a5, n5, c5, a6, n6, c6⟩ ⟨p1, k1, d1, p2, k2, d2, p3, k3, d3, p4, k4, d4, p5, k5, d5, p6, k6, d6⟩ wa (HS.out.below BDa.out) HSXa.out HF.out
        rw [← HM.out] at hsm
        refine hsm.mono ?_
        clear hsm
        rintro e wb ⟨rfl, hb⟩
        have hrb := heap_below HRa.out hb
        have HSBb := Lib.hid (HSBa.out.below hb)
        have BDb := Lib.hid (ext_trans BDa.out hb)
        have hyb := heap_below HYa.out hb
        have HSYb := Lib.hid (HSYa.out.below hb)
        clear hb x0 x1 x2 x3 x4 x5 x6 z0 z1 z2 z3 z4 z5 z6
        have x0 := cell_of_block hrb 0
        have x1 := cell_of_block hrb 1
        have x2 := cell_of_block hrb 2
        have x3 := cell_of_block hrb 3
        have x4 := cell_of_block hrb 4
        have x5 := cell_of_block hrb 5
        have x6 := cell_of_block hrb 6
        have z0 := cell_of_block hyb 0
        have z1 := cell_of_block hyb 1
        have z2 := cell_of_block hyb 2
        have z3 := cell_of_block hyb 3
        have z4 := cell_of_block hyb 4
        have z5 := cell_of_block hyb 5
        have z6 := cell_of_block hyb 6
        clear hrb hyb
        go_wp2_with fail
        have hsm := same_yes r ⟨y1, j1, e1, y2, j2, e2, y3, j3, e3, y4, j4, e4, y5, j5, e5, y6, j6, e6⟩ ⟨a1, n1, c1, a2, n2, c2, a3, n3, c3, a4, n4, c4, a5, n5, c5, a6, n6, c6⟩ wb HSYb.out (HS.out.below BDb.out) (fit_of HS.out HSYb.out HF.out)
        rw [← HM.out] at hsm
        refine hsm.mono ?_
        clear hsm
        rintro e wd ⟨rfl, hb⟩
        have HSBd := Lib.hid (HSBb.out.below hb)
        have BDd := Lib.hid (ext_trans BDb.out hb)
        clear hb x0 x1 x2 x3 x4 x5 x6 z0 z1 z2 z3 z4 z5 z6
        by_cases hc0 : cut < 0
        · have e1 : decide (cut < 0) = true := by simpa using hc0
          go_wp2_with fail
          refine (lives_any wd).mono ?_
          rintro e wl ⟨rfl, hbl⟩
          have BL := Lib.hid (ext_trans BDd.out hbl)
          clear hbl
          go_wp2
          go_ret
          exact ⟨rfl, BL.out⟩
        by_cases hcT : (T.length : Int) ≤ cut
        · have e1 : decide (cut < 0) = false := by simpa using hc0
          have e2 : decide ((T.length : Int) ≤ cut) = true := by simpa using hcT
          go_wp2_with fail
          refine (lives_any wd).mono ?_
          rintro e wl ⟨rfl, hbl⟩
          have BL := Lib.hid (ext_trans BDd.out hbl)
          clear hbl
          go_wp2
          go_ret
          exact ⟨rfl, BL.out⟩
        have e1 : decide (cut < 0) = false := by simpa using hc0
        have e2 : decide ((T.length : Int) ≤ cut) = false := by simpa using hcT
        obtain ⟨k, hk⟩ : ∃ k : Nat, cut = (k : Int) := ⟨cut.toNat, by omega⟩
        subst hk
        have hkT : k < T.length := by omega
        obtain ⟨at1, ec, see⟩ := HSBd.out.cut 0 k (Nat.zero_le _) (by omega)
        have ec' : sliced ab 0 k cb 1 = .slice at1 k cb := ec
        have see' : Sees wd at1 k cb ((T.take k).map bv) := by rw [List.map_take]; exact see
        have hcb := HSBd.out.cap
        have q1 := fun X => (run_upto (P := Tryd.prog) Tryd.underlying28 size_u8 X ab T.length cb k (k : Int) rfl (by omega)).trans (congrArg (fun v => Result.ok v X) ec')
        have hgc : getS (T.take k) = .error 4 := by
          have := get_cut HVV.out k (by rw [← HT.out]; exact hkT) (by rw [← HT.out]; omega)
          rw [← HT.out] at this; exact this
        have HGC := Lib.hid (get_err (T.take k) 4 hgc at1 k cb wd see' (by omega))
        clear ec ec' see see' hgc hc0 hcT
        go_wp2_with fail
        refine HGC.out.mono ?_
        rintro e wc ⟨rfl, hbc⟩
        have BC := Lib.hid (ext_trans BDd.out hbc)
        clear hbc q1
        unfold zeroRaw
        have BC2 := Lib.hid (ext_trans BC.out (ext_alloc wc (.cells #[.int .u32 0, .slice none 0 0, .slice none 0 0, .slice none 0 0, .slice none 0 0, .slice none 0 0, .slice none 0 0] 27)))
        go_wp2_with fail
        refine (lives_any _).mono ?_
        rintro e wl ⟨rfl, hbl⟩
        have BL := Lib.hid (ext_trans BC2.out hbl)
        clear hbl
        go_wp2
        go_ret
        exact ⟨rfl, BL.out⟩
      · skip
        have hgm : getS M = .error 3 := by unfold getS; rw [if_pos (by rw [HML.out]; omega)]
        have HGM := Lib.hid (get_err M 3 hgm _ _ _ w7 HSM.out (by omega))
        have e9 : decide ((T.length : Int) + 2 + (n : Int) ≤ 1048576) = false := by simp; omega
        clear hgm
        go_wp2_with fail
        refine HGM.out.mono ?_
        rintro e w8 ⟨rfl, hb8⟩
        unfold zeroRaw
        obtain ⟨W9, hW9⟩ : ∃ W9, W9 = w8.alloc (.cells #[.int .u32 0, .slice none 0 0, .slice none 0 0, .slice none 0 0, .slice none 0 0, .slice none 0 0, .slice none 0 0] 27) := ⟨_, rfl⟩
        have hb9 : Below w7.heap.size w7 W9 := by rw [hW9]; exact ext_trans hb8 (ext_alloc _ _)
        have hr9 := heap_below HX7.out hb9
        have hxx9 := heap_below HXX7.out hb9
        have HSX9 := Lib.hid (HSX7.out.below hb9)
        have HSB9 := Lib.hid (HSB7.out.below hb9)
        have BD9 := Lib.hid (BD7.out.trans (hb9.mono BD7.out.size))
        rw [hW9] at hr9 hxx9
        have x0 := cell_of_block hr9 0
        have x1 := cell_of_block hr9 1
        have x2 := cell_of_block hr9 2
        have x3 := cell_of_block hr9 3
        have x4 := cell_of_block hr9 4
        have x5 := cell_of_block hr9 5
        have x6 := cell_of_block hr9 6
        have z0 := cell_of_block hxx9 0
        have z1 := cell_of_block hxx9 1
        have z2 := cell_of_block hxx9 2
        have z3 := cell_of_block hxx9 3
        have z4 := cell_of_block hxx9 4
        have z5 := cell_of_block hxx9 5
        have z6 := cell_of_block hxx9 6
        have HR9 := Lib.hid hr9
        have HXX9 := Lib.hid hxx9
        have HW9 := Lib.hid hW9
        clear hr9 hxx9 hb8 hb9 hW9
        go_wp2_with fail
        rw [← HW9.out]
        have hsm := same_yes r ⟨p1, k1, d1, p2, k2, d2, p3, k3, d3, p4, k4, d4, p5, k5, d5, p6, k6, d6⟩ ⟨a1, n1, c1, a2, n2, c2, a3, n3, c3, a4, n4, c4, a5, n5, c5, a6, n6, c6⟩ W9 HSX9.out (HS.out.below BD9.out) HFX.out
        rw [← HM.out] at hsm
        refine hsm.mono ?_
        clear hsm
        rintro e wa ⟨rfl, hb⟩
        have hra := heap_below HR9.out (by rw [← HW9.out]; exact hb)
        have hxa := heap_below HXX9.out (by rw [← HW9.out]; exact hb)
        have HSXa := Lib.hid (HSX9.out.below hb)
        have HSBa := Lib.hid (HSB9.out.below hb)
        have BDa := Lib.hid (ext_trans BD9.out hb)
        clear hb x0 x1 x2 x3 x4 x5 x6 z0 z1 z2 z3 z4 z5 z6
        have x0 := cell_of_block hra 0
        have x1 := cell_of_block hra 1
        have x2 := cell_of_block hra 2
        have x3 := cell_of_block hra 3
        have x4 := cell_of_block hra 4
        have x5 := cell_of_block hra 5
        have x6 := cell_of_block hra 6
        have z0 := cell_of_block hxa 0
        have z1 := cell_of_block hxa 1
        have z2 := cell_of_block hxa 2
        have z3 := cell_of_block hxa 3
        have z4 := cell_of_block hxa 4
        have z5 := cell_of_block hxa 5
        have z6 := cell_of_block hxa 6
        have HRa := Lib.hid hra
        clear hra hxa
        go_wp2_with fail
        have hsm := same_yes r ⟨a1, n1, c1, a2, n2, c2, a3, n3, c3, a4, n4, c4, a5, n5, c5, a6, n6, c6⟩ ⟨p1, k1, d1, p2, k2, d2, p3, k3, d3, p4, k4, d4, p5, k5, d5, p6, k6, d6⟩ wa (HS.out.below BDa.out) HSXa.out HF.out
        rw [← HM.out] at hsm
        refine hsm.mono ?_
        clear hsm
        rintro e wb ⟨rfl, hb⟩
        have hrb := heap_below HRa.out hb
        have HSBb := Lib.hid (HSBa.out.below hb)
        have BDb := Lib.hid (ext_trans BDa.out hb)
        clear hb hrb x0 x1 x2 x3 x4 x5 x6 z0 z1 z2 z3 z4 z5 z6
        by_cases hc0 : cut < 0
        · have e1 : decide (cut < 0) = true := by simpa using hc0
          go_wp2_with fail
          refine (lives_any wb).mono ?_
          rintro e wl ⟨rfl, hbl⟩
          have BL := Lib.hid (ext_trans BDb.out hbl)
          clear hbl
          go_wp2
          go_ret
          exact ⟨rfl, BL.out⟩
        by_cases hcT : (T.length : Int) ≤ cut
        · have e1 : decide (cut < 0) = false := by simpa using hc0
          have e2 : decide ((T.length : Int) ≤ cut) = true := by simpa using hcT
          go_wp2_with fail
          refine (lives_any wb).mono ?_
          rintro e wl ⟨rfl, hbl⟩
          have BL := Lib.hid (ext_trans BDb.out hbl)
          clear hbl
          go_wp2
          go_ret
          exact ⟨rfl, BL.out⟩
        have e1 : decide (cut < 0) = false := by simpa using hc0
        have e2 : decide ((T.length : Int) ≤ cut) = false := by simpa using hcT
        obtain ⟨k, hk⟩ : ∃ k : Nat, cut = (k : Int) := ⟨cut.toNat, by omega⟩
        subst hk
        have hkT : k < T.length := by omega
        obtain ⟨at1, ec, see⟩ := HSBb.out.cut 0 k (Nat.zero_le _) (by omega)
        have ec' : sliced ab 0 k cb 1 = .slice at1 k cb := ec
        have see' : Sees wb at1 k cb ((T.take k).map bv) := by rw [List.map_take]; exact see
        have hcb := HSBb.out.cap
        have q1 := fun X => (run_upto (P := Tryd.prog) Tryd.underlying28 size_u8 X ab T.length cb k (k : Int) rfl (by omega)).trans (congrArg (fun v => Result.ok v X) ec')
        have hgc : getS (T.take k) = .error 4 := by
          have := get_cut HVV.out k (by rw [← HT.out]; exact hkT) (by rw [← HT.out]; omega)
          rw [← HT.out] at this; exact this
        have HGC := Lib.hid (get_err (T.take k) 4 hgc at1 k cb wb see' (by omega))
        clear ec ec' see see' hgc hc0 hcT
        go_wp2_with fail
        refine HGC.out.mono ?_
        rintro e wc ⟨rfl, hbc⟩
        have BC := Lib.hid (ext_trans BDb.out hbc)
        clear hbc q1
        unfold zeroRaw
        have BC2 := Lib.hid (ext_trans BC.out (ext_alloc wc (.cells #[.int .u32 0, .slice none 0 0, .slice none 0 0, .slice none 0 0, .slice none 0 0, .slice none 0 0, .slice none 0 0] 27)))
        go_wp2_with fail
        refine (lives_any _).mono ?_
        rintro e wl ⟨rfl, hbl⟩
        have BL := Lib.hid (ext_trans BC2.out hbl)
        clear hbl
        go_wp2
        go_ret
        exact ⟨rfl, BL.out⟩
end Go.Proofs.YtbpdjfjjkioeaaaDoor
