/- The law BinBack, by its walk: what is put is got, by Get and by Any; so is its text; with a remark behind it, too; cut, it is refused. -/
import Derived.Test.YtglhnmbfkbjemaaGreatDoorBkL
import Derived.Test.YtglhnmbfkbjemaaGreatDoorBkP
import Derived.Test.YtglhnmbfkbjemaaGreatDoorNRefMay3
import Derived.Test.YtglhnmbfkbjemaaGreatDoorNRefRaw
import Derived.Test.YtglhnmbfkbjemaaGreatDoorNSameC
import Derived.Test.YtglhnmbfkbjemaaGreatDoorRPPut
namespace Go.Proofs.YtglhnmbfkbjemaaGreatDoor
open Go Go.RowKit Go.Joins
set_option maxRecDepth 100000 in
set_option maxHeartbeats 6400000 in
theorem binback_any (c0 : NormC) (s : CSlots) (rem : List UInt8) (a : Option Addr) (n c : Nat) (cut : Int) (w : World) (h : SeesCir w s c0) (hs : s.small) (hlo : -9223372036854775808 ≤ c0.ins) (hhi : c0.ins < 9223372036854775808) (hw : Wide c0)
    (hrem : Sees w a n c (rem.map bv)) (hn : n ≤ 1048576) (htab : Tab w) :
    Calls Tryz.prog 3 #[cirV c0.ins s, .slice a n c, .int .i64 cut] w fun e w' => e = .returned (.bool true) ∧ Below w.heap.size w w' := by
  have HLV := Lib.hid (fun W (hb : Below w.heap.size w W) => lives4_any W (htab.below hb (Nat.le_refl _)))
  have HGR := Lib.hid (fun W (hb : Below w.heap.size w W) => great4_any c0 s W (h.below hb) hs)
  have HPUT := Lib.hid (fun W (hb : Below w.heap.size w W) => bput_any c0 s W (h.below hb) hs hlo hhi hw (htab.below hb (Nat.le_refl _)))
  have HMY := Lib.hid (fun W (hb : Below w.heap.size w W) => refmay3_any c0 s W (h.below hb) hs hlo hhi hw)
  have HRR := Lib.hid (fun W (hb : Below w.heap.size w W) => refraw_any c0 s W (h.below hb) hs hlo hhi hw)
  have HSM := Lib.hid (fun (s1 : CSlots) W (hb : Below w.heap.size w W) (h1 : SeesCir W s1 c0) (hs1 : s1.small) => samec_any c0 c0 s1 s W h1 (h.below hb) hs1 hs)
  rw [decide_eq_true (rfl : c0 = c0)] at HSM
  have HRM := Lib.hid hrem
  have HL := Lib.hid (⟨h.s1.1, h.s2.1, h.s3.lenMap, h.s4.lenMap, h.s5.lenMap⟩ : c0.lats.length = s.n1 ∧ c0.gates.length = s.n2 ∧ c0.outs.length = s.n3 ∧ c0.bads.length = s.n4 ∧ c0.cons.length = s.n5)
  obtain ⟨q, hq⟩ : ∃ q, q = greatC4 c0 := ⟨_, rfl⟩
  rw [← hq] at HGR
  have HQ := Lib.hid hq
  obtain ⟨my, hmy⟩ : ∃ q, q = mayC c0 := ⟨_, rfl⟩
  rw [← hmy] at HMY
  have HMM := Lib.hid hmy
  obtain ⟨z, hz⟩ : ∃ z, z = c0.ins := ⟨_, rfl⟩
  rw [← hz] at HGR HPUT HMY HRR HSM ⊢
  have HZ := Lib.hid hz
  obtain ⟨b1, k1, d1, b2, k2, d2, b3, k3, d3, b4, k4, d4, b5, k5, d5⟩ := s
  unfold cirV at HGR HPUT HMY HRR HSM ⊢
  simp only at HGR HPUT HMY HRR HSM HL ⊢
  clear h hs hlo hhi hw hrem htab hq hmy hz
  go_enter Tryz.func3, Tryz.ntmps3
  go_wp2_with fail
  refine (HGR.out _ (ext_alloc _ _)).mono ?_
  rintro e w1 ⟨rfl, hb1⟩
  have HX1 := Lib.hid (heap_below (heap_new w (.cells #[.int .i64 z, .slice b1 k1 d1, .slice b2 k2 d2, .slice b3 k3 d3, .slice b4 k4 d4, .slice b5 k5 d5] 26) w.heap.size rfl) hb1)
  have HB1 := Lib.hid (ext_trans (ext_alloc w (.cells #[.int .i64 z, .slice b1 k1 d1, .slice b2 k2 d2, .slice b3 k3 d3, .slice b4 k4 d4, .slice b5 k5 d5] 26)) hb1)
  clear hb1 HGR
  cases q with
  | true =>
    clear HX1
    go_wp2_with fail
    refine (HLV.out w1 HB1.out).mono ?_
    rintro e wl ⟨rfl, hbl⟩
    have HBL := Lib.hid (ext_trans HB1.out hbl)
    clear hbl
    go_wp2
    go_ret
    exact ⟨rfl, HBL.out⟩
  | false =>
  by_cases hbig : 1000 < n
  · have e1 : decide ((1000 : Int) < (n : Int)) = true := by simp; omega
    clear HX1
    go_wp2_with fail
    refine (HLV.out w1 HB1.out).mono ?_
    rintro e wl ⟨rfl, hbl⟩
    have HBL := Lib.hid (ext_trans HB1.out hbl)
    clear hbl
    go_wp2
    go_ret
    exact ⟨rfl, HBL.out⟩
  have hbig' : (n : Int) ≤ 1000 := by omega
  have x0 := cell_of_block HX1.out 0
  have x1 := cell_of_block HX1.out 1
  have x2 := cell_of_block HX1.out 2
  have x3 := cell_of_block HX1.out 3
  have x4 := cell_of_block HX1.out 4
  have x5 := cell_of_block HX1.out 5
  go_wp2_with fail
  refine (HPUT.out w1 HB1.out).mono ?_
  rintro e w2 ⟨hb2, ⟨hm, rfl⟩ | ⟨hm, v, rfl, hrow⟩⟩
  · have HX2 := Lib.hid (heap_below HX1.out hb2)
    have HB2 := Lib.hid (ext_trans HB1.out hb2)
    obtain rfl : my = false := by rw [HMM.out]; exact hm
    clear hb2 hm x0 x1 x2 x3 x4 x5 HX1 HB1 HPUT
    have x0 := cell_of_block HX2.out 0
    have x1 := cell_of_block HX2.out 1
    have x2 := cell_of_block HX2.out 2
    have x3 := cell_of_block HX2.out 3
    have x4 := cell_of_block HX2.out 4
    have x5 := cell_of_block HX2.out 5
    go_wp2_with fail
    refine (HMY.out w2 HB2.out).mono ?_
    rintro e w3 ⟨rfl, hb3⟩
    have HB3 := Lib.hid (ext_trans HB2.out hb3)
    clear hb3 HX2 HB2 HMY x0 x1 x2 x3 x4 x5
    go_wp2_with fail
    refine (HLV.out w3 HB3.out).mono ?_
    rintro e wl ⟨rfl, hbl⟩
    have HBL := Lib.hid (ext_trans HB3.out hbl)
    clear hbl
    go_wp2
    go_ret
    exact ⟨rfl, HBL.out⟩
  obtain ⟨vp, vc, rfl, _, hsp⟩ := hrow.sees
  have HX2 := Lib.hid (heap_below HX1.out hb2)
  have HB2 := Lib.hid (ext_trans HB1.out hb2)
  obtain rfl : my = true := by rw [HMM.out]; exact hm
  have hmay := mayC_iff.1 hm
  have HMAY := Lib.hid hmay
  obtain ⟨P, hP⟩ : ∃ P, P = putB c0 := ⟨_, rfl⟩
  rw [← hP] at hsp
  have HP := Lib.hid hP
  have hPl : P.length ≤ 150000 := by
    have h1 := putB_len hmay
    have h2 := HQ.out
    unfold greatC4 at h2
    have h3 := of_decide_eq_false h2.symm
    rw [hP]
    omega
  have hPp : 0 < P.length := by rw [hP]; simp [putB, binText]
  have HGB := Lib.hid (show ∀ tail, (P ++ tail).length ≤ 1048576 → namesErr [c0.ins.toNat, c0.lats.length, c0.outs.length, c0.bads.length, c0.cons.length] tail = 0 → getB (P ++ tail) = .ok c0 by rw [hP]; exact fun tail h1 h2 => get_putB hmay tail h1 h2)
  have HG0 : Hid (getB P = .ok c0) := Lib.hid (by have := HGB.out [] (by rw [List.append_nil]; omega) rfl; rw [List.append_nil] at this; exact this)
  have HSP := Lib.hid hsp
  have HPL := Lib.hid hPl
  have HPP := Lib.hid hPp
  clear hb2 hm x0 x1 x2 x3 x4 x5 HX1 HB1 HPUT hrow hsp hmay hP hPl hPp
  have x0 := cell_of_block HX2.out 0
  have x1 := cell_of_block HX2.out 1
  have x2 := cell_of_block HX2.out 2
  have x3 := cell_of_block HX2.out 3
  have x4 := cell_of_block HX2.out 4
  have x5 := cell_of_block HX2.out 5
  rw [← HP.out]
  obtain ⟨N, hN⟩ : ∃ N, N = P.length := ⟨_, rfl⟩
  rw [← hN] at HSP HPL HPP ⊢
  have HN := Lib.hid hN
  clear hN
  go_wp2_with fail
  refine (HMY.out w2 HB2.out).mono ?_
  rintro e w3 ⟨rfl, hb3⟩
  have HX3 := Lib.hid (heap_below HX2.out hb3)
  have HB3 := Lib.hid (ext_trans HB2.out hb3)
  have HSP3 := Lib.hid (HSP.out.below hb3)
  clear hb3 HX2 HB2 HSP HMY x0 x1 x2 x3 x4 x5
  go_wp2_with fail
  refine (bget_any P vp N vc w3 HSP3.out (by have := HPL.out; omega)).mono ?_
  rintro e w4 ⟨hb4, ⟨c4, s4, hg, rfl, hs4⟩ | ⟨er, hg, _, rfl⟩⟩
  rotate_left
  · rw [HG0.out] at hg; cases hg
  rw [HG0.out] at hg
  obtain rfl : c0 = c4 := by injection hg
  rw [← HZ.out]
  have HX4 := Lib.hid (heap_below HX3.out hb4)
  have HB4 := Lib.hid (ext_trans HB3.out hb4)
  have HSP4 := Lib.hid (HSP3.out.below hb4)
  have HSM4 := Lib.hid (HMAY.out.smallB hs4)
  have HS4 := Lib.hid hs4
  obtain ⟨o1, u1, v1, o2, u2, v2, o3, u3, v3, o4, u4, v4, o5, u5, v5⟩ := s4
  clear hb4 hg hs4 HX3 HB3 HSP3
  unfold cirV
  simp only
  go_upto_region 9 with fail
  generalize hW : World.alloc w4 _ = W5
  have hb5 : Below w4.heap.size w4 W5 := by subst hW; exact ext_alloc _ _
  have HY5 := Lib.hid (show W5.heap[w4.heap.size]? = some (.cells #[.int .i64 z, .slice o1 u1 v1, .slice o2 u2 v2, .slice o3 u3 v3, .slice o4 u4 v4, .slice o5 u5 v5] 26 (0, 0)) by subst hW; exact heap_new _ _ _ rfl)
  have HX5 := Lib.hid (heap_below HX4.out hb5)
  have HB5 := Lib.hid (ext_trans HB4.out hb5)
  have HSP5 := Lib.hid (HSP4.out.below hb5)
  have HS5 := Lib.hid (HS4.out.below hb5)
  obtain ⟨G9, hG9⟩ : ∃ G, G = w4.heap.size := ⟨_, rfl⟩
  rw [← hG9] at HY5 ⊢
  clear hW hb5 hG9 HX4 HB4 HSP4 HS4
  obtain ⟨i0, hi, hz0, hz1, hz2⟩ := info_parts info_u8
  have hstr := HSP5.out.str (P := Tryz.prog) 27 5 9 Tryz.underlying27 Tryz.underlying5 Tryz.underlying9
  have q1 := Lib.run_convert_string_bytes (P := Tryz.prog) W5 9 27 5 (str P) Tryz.underlying9 Tryz.underlying27 Tryz.underlying5
  have hfr := frow_bytes W5.heap.size W5 P (Nat.le_refl _) (by have := HPL.out; have := HN.out; omega)
  have hbw := below_bytes W5 5 (str P)
  rw [size_str] at q1
  rw [← HN.out] at q1 hfr
  obtain ⟨Wb, hWb⟩ : ∃ Wb, Wb = Lib.bytesWorld W5 5 (str P) := ⟨_, rfl⟩
  obtain ⟨cp, hcp⟩ : ∃ cp, cp = grownCap W5 N 0 5 := ⟨_, rfl⟩
  rw [← hWb] at q1 hfr hbw
  rw [← hcp] at q1 hfr
  have HFR := Lib.hid hfr
  have HBW := Lib.hid hbw
  have hge : W5.heap.size ≤ Wb.heap.size := hbw.size
  obtain ⟨N2, hN2⟩ : ∃ N2, N2 = ([99, 10] : List UInt8).map bv := ⟨_, rfl⟩
  have hsl2 : Sees (Wb.alloc (.cells #[.int .u8 99, .int .u8 10] 5)) (some ⟨Wb.heap.size, 0, none⟩) 2 2 N2 := by rw [hN2]; exact sees_lit Wb _ _ _ ([99, 10].map bv) 2 rfl rfl
  have HN2A : Hid (∀ u ∈ N2, u.oneCell' = true) := by rw [hN2]; exact bv_one [99, 10]
  have HN2B : Hid (∀ u ∈ N2, isByte u) := by rw [hN2]; exact isByte_all [99, 10]
  obtain ⟨T2, hT2⟩ : ∃ T2, T2 = P.map bv := ⟨_, rfl⟩
  rw [← hT2] at HFR
  have HT2B : Hid (∀ u ∈ T2, isByte u) := by rw [hT2]; exact isByte_all P
  have HN2 := Lib.hid hN2
  have HT2 := Lib.hid hT2
  have HSL2 := Lib.hid hsl2
  have hpos := HPP.out
  have hPL := HPL.out
  clear hN2 hT2 hsl2 hWb hcp hfr hbw
  go_wp2_with (at_builtin; refine wpList_append_frow isByte _ rfl _ _ 27 rfl W5.heap.size 5 i0 (.int .u8 0) 1 Tryz.underlying27 hi hz0 hz1 hz2 rfl isByte_zero _ _ _ _ _ rfl (HFR.out.below (ext_alloc Wb (.cells #[.int .u8 99, .int .u8 10] 5))) hpos HT2B.out (some ⟨Wb.heap.size, 0, none⟩) 2 2 N2 rfl HSL2.out HN2A.out HN2B.out ?c4 ?c5 ?c6 ?_)
  case c4 => unfold maxLen; omega
  case c5 => omega
  case c6 => simp; omega
  intro v6 w6 g6 cp6 hf6 hb6
  have hb56 : Below W5.heap.size Wb w6 := ((ext_alloc Wb (.cells #[.int .u8 99, .int .u8 10] 5)).mono hge).trans hb6
  have HF6 := Lib.hid hf6
  have HB6 : Hid (Below W5.heap.size W5 w6) := Lib.hid (HBW.out.trans hb56)
  have HRM6 := Lib.hid (HRM.out.below (ext_trans HB5.out HB6.out))
  have hsz6 : W5.heap.size ≤ w6.heap.size := HB6.out.size
  obtain ⟨L6, hL6⟩ : ∃ L6, L6 = T2 ++ N2 := ⟨_, rfl⟩
  have HI6 : Hid (∀ u ∈ L6, isByte u) := fun u hu => by
    rw [hL6] at hu
    rcases List.mem_append.1 hu with h | h
    · exact HT2B.out u h
    · exact HN2B.out u h
  rw [← hL6] at HF6
  have HL6 := Lib.hid hL6
  clear hf6 hb6 hb56 hL6 q1 hstr HFR HBW hge HSL2
  go_wp2_with (at_builtin; refine wpList_append_frow isByte _ rfl _ _ 27 rfl W5.heap.size 5 i0 (.int .u8 0) 1 Tryz.underlying27 hi hz0 hz1 hz2 rfl isByte_zero _ _ _ _ _ rfl HF6.out (by omega) HI6.out a n c (rem.map bv) rfl HRM6.out (bv_one rem) (isByte_all rem) ?d4 ?d5 ?d6 ?_)
  case d4 => unfold maxLen; omega
  case d5 => omega
  case d6 => exact hsz6
  intro v7 w7 g7 cp7 hf7 hb7
  obtain ⟨M, hM⟩ : ∃ M, M = P ++ ([99, 10] ++ rem) := ⟨_, rfl⟩
  have hMl : M.length = N + 2 + n := by rw [hM]; have := HRM.out.lenMap; have := HN.out; simp; omega
  have hsM : Sees w7 (some ⟨g7, 0, none⟩) (N + 2 + n) cp7 (M.map bv) := by
    have e : M.map bv = L6 ++ rem.map bv := by rw [hM, HL6.out, HT2.out, HN2.out]; simp
    rw [e]; exact hf7.sees
  have hfm := hf7.form
  subst hfm
  have HB7 : Hid (Below W5.heap.size W5 w7) := Lib.hid (HB6.out.trans hb7)
  have HANY := Lib.hid (any_bin M c0 (by rw [hM, HP.out]; exact take_putB c0 _) (by rw [hM]; exact HGB.out ([99, 10] ++ rem) (by rw [← hM, hMl]; omega) (names_remark _ rem)) _ _ _ w7 hsM (by omega))
  rw [← HZ.out] at HANY
  unfold cirV at HANY
  have hml : ((N + 2 + n : Nat) : Int) = (N : Int) + 2 + (n : Int) := by omega
  clear hf7 hb7 hM hMl hsM HF6 HB6 HRM6 HI6 HL6 HT2 HN2 HT2B HN2A HN2B hml hsz6
  go_wp2_with fail
  refine HANY.out.mono ?_
  rintro e w8 ⟨⟨e1, f1, g1, e2, f2, g2, e3, f3, g3, e4, f4, g4, e5, f5, g5⟩, rfl, hs8, hb8⟩
  simp only
  have hb58 := HB7.out.trans (hb8.mono HB7.out.size)
  have HX8 := Lib.hid (heap_below HX5.out hb58)
  have HY8 := Lib.hid (heap_below HY5.out hb58)
  have HB8 := Lib.hid (ext_trans HB5.out hb58)
  have HSP8 := Lib.hid (HSP5.out.below hb58)
  have HS8 := Lib.hid (HS5.out.below hb58)
  have HA8 := Lib.hid hs8
  clear hb58 hb8 hs8 HX5 HY5 HB5 HSP5 HS5 HB7 HANY
  go_upto_region 10 with fail
  generalize hW : World.alloc w8 _ = W9
  have hb9 : Below w8.heap.size w8 W9 := by subst hW; exact ext_alloc _ _
  have HV9 := Lib.hid (show W9.heap[w8.heap.size]? = some (.cells #[.int .i64 z, .slice e1 f1 g1, .slice e2 f2 g2, .slice e3 f3 g3, .slice e4 f4 g4, .slice e5 f5 g5] 26 (0, 0)) by subst hW; exact heap_new _ _ _ rfl)
  have HX9 := Lib.hid (heap_below HX8.out hb9)
  have HY9 := Lib.hid (heap_below HY8.out hb9)
  have HB9 := Lib.hid (ext_trans HB8.out hb9)
  have HSP9 := Lib.hid (HSP8.out.below hb9)
  have HS9 := Lib.hid (HS8.out.below hb9)
  have HA9 := Lib.hid (HA8.out.below hb9)
  obtain ⟨G11, hG11⟩ : ∃ G, G = w8.heap.size := ⟨_, rfl⟩
  rw [← hG11] at HV9 ⊢
  clear hW hb9 hG11 HX8 HY8 HB8 HSP8 HS8 HA8
  have x0 := cell_of_block HX9.out 0
  have x1 := cell_of_block HX9.out 1
  have x2 := cell_of_block HX9.out 2
  have x3 := cell_of_block HX9.out 3
  have x4 := cell_of_block HX9.out 4
  have x5 := cell_of_block HX9.out 5
  go_wp2_with fail
  refine (HRR.out W9 HB9.out).mono ?_
  rintro e w10 ⟨hb10, ⟨_, s13, rfl, hs13⟩ | ⟨hm, _⟩⟩
  rotate_left
  · rw [mayC_iff.2 HMAY.out] at hm; cases hm
  have hsm13 := raw_smallB HMAY.out hs13
  have HPT := Lib.hid (fun W (hb : Below w10.heap.size w10 W) => rpput_any (rawS c0) s13 W (hs13.below hb) hsm13 (mayRaw_raw HMAY.out))
  obtain ⟨mx, hmx⟩ : ∃ m, m = varsN c0 := ⟨_, rfl⟩
  rw [show (rawS c0).max = varsN c0 from rfl, ← hmx] at HPT
  rw [← hmx]
  obtain ⟨T, hT⟩ : ∃ T, T = textOf (rawS c0) := ⟨_, rfl⟩
  rw [← hT] at HPT
  have HT := Lib.hid hT
  have hTl : T.length ≤ 1048576 := by
    have h1 := textC_len HMAY.out
    have h2 := HQ.out
    unfold greatC4 at h2
    have h3 := of_decide_eq_false h2.symm
    have h4 := HMAY.out.few
    unfold varsN at h4
    rw [hT]
    omega
  have HTL := Lib.hid hTl
  have HX10 := Lib.hid (heap_below HX9.out hb10)
  have HY10 := Lib.hid (heap_below HY9.out hb10)
  have HV10 := Lib.hid (heap_below HV9.out hb10)
  have HB10 := Lib.hid (ext_trans HB9.out hb10)
  have HSP10 := Lib.hid (HSP9.out.below hb10)
  have HS10 := Lib.hid (HS9.out.below hb10)
  have HA10 := Lib.hid (HA9.out.below hb10)
  obtain ⟨m1, h1, j1, m2, h2, j2, m3, h3, j3, m4, h4, j4, m5, h5, j5, m6, h6, j6⟩ := s13
  clear hb10 hs13 hsm13 hmx hT hTl x0 x1 x2 x3 x4 x5 HX9 HY9 HV9 HB9 HSP9 HS9 HA9 HRR
  unfold rawV at HPT ⊢
  simp only at HPT ⊢
  go_wp2_with fail
  refine (HPT.out _ (ext_alloc _ _)).mono ?_
  rintro e w11 ⟨ta, tn, tc, rfl, hst, hb11⟩
  have hb10 : Below w10.heap.size w10 w11 := ext_trans (ext_alloc _ _) hb11
  have HX11 := Lib.hid (heap_below HX10.out hb10)
  have HY11 := Lib.hid (heap_below HY10.out hb10)
  have HV11 := Lib.hid (heap_below HV10.out hb10)
  have HB11 := Lib.hid (ext_trans HB10.out hb10)
  have HSP11 := Lib.hid (HSP10.out.below hb10)
  have HS11 := Lib.hid (HS10.out.below hb10)
  have HA11 := Lib.hid (HA10.out.below hb10)
  obtain rfl : T.length = tn := hst.lenMap
  have HANY := Lib.hid (any_raw T c0 HMAY.out HT.out HTL.out ta T.length tc w11 hst)
  rw [← HZ.out] at HANY
  unfold cirV at HANY
  obtain ⟨NT, hNT⟩ : ∃ n, n = T.length := ⟨_, rfl⟩
  rw [← hNT] at HANY ⊢
  clear hb10 hb11 hst hNT HX10 HY10 HV10 HB10 HSP10 HS10 HA10 HPT
  go_wp2_with fail
  refine HANY.out.mono ?_
  rintro e w12 ⟨⟨ea1, fa1, ga1, ea2, fa2, ga2, ea3, fa3, ga3, ea4, fa4, ga4, ea5, fa5, ga5⟩, rfl, hs12, hb12⟩
  simp only
  have HX12 := Lib.hid (heap_below HX11.out hb12)
  have HY12 := Lib.hid (heap_below HY11.out hb12)
  have HV12 := Lib.hid (heap_below HV11.out hb12)
  have HB12 := Lib.hid (ext_trans HB11.out hb12)
  have HSP12 := Lib.hid (HSP11.out.below hb12)
  have HS12 := Lib.hid (HS11.out.below hb12)
  have HA12 := Lib.hid (HA11.out.below hb12)
  have HD12 := Lib.hid hs12
  clear hb12 hs12 HX11 HY11 HV11 HB11 HSP11 HS11 HA11 HANY
  go_upto_region 13 with fail
  generalize hW : World.alloc w12 _ = W13
  have hb13 : Below w12.heap.size w12 W13 := by subst hW; exact ext_alloc _ _
  have HU13 := Lib.hid (show W13.heap[w12.heap.size]? = some (.cells #[.int .i64 z, .slice ea1 fa1 ga1, .slice ea2 fa2 ga2, .slice ea3 fa3 ga3, .slice ea4 fa4 ga4, .slice ea5 fa5 ga5] 26 (0, 0)) by subst hW; exact heap_new _ _ _ rfl)
  have HX13 := Lib.hid (heap_below HX12.out hb13)
  have HY13 := Lib.hid (heap_below HY12.out hb13)
  have HV13 := Lib.hid (heap_below HV12.out hb13)
  have HB13 := Lib.hid (ext_trans HB12.out hb13)
  have HSP13 := Lib.hid (HSP12.out.below hb13)
  have HS13 := Lib.hid (HS12.out.below hb13)
  have HA13 := Lib.hid (HA12.out.below hb13)
  have HD13 := Lib.hid (HD12.out.below hb13)
  obtain ⟨G17, hG17⟩ : ∃ G, G = w12.heap.size := ⟨_, rfl⟩
  rw [← hG17] at HU13 ⊢
  clear hW hb13 hG17 HX12 HY12 HV12 HB12 HSP12 HS12 HA12 HD12
  have x0 := cell_of_block HX13.out 0
  have x1 := cell_of_block HX13.out 1
  have x2 := cell_of_block HX13.out 2
  have x3 := cell_of_block HX13.out 3
  have x4 := cell_of_block HX13.out 4
  have x5 := cell_of_block HX13.out 5
  have y0 := cell_of_block HY13.out 0
  have y1 := cell_of_block HY13.out 1
  have y2 := cell_of_block HY13.out 2
  have y3 := cell_of_block HY13.out 3
  have y4 := cell_of_block HY13.out 4
  have y5 := cell_of_block HY13.out 5
  go_wp2_with fail
  refine (HSM.out _ W13 HB13.out HS13.out HSM4.out).mono ?_
  rintro e w14 ⟨rfl, hb14⟩
  have HX14 := Lib.hid (heap_below HX13.out hb14)
  have HV14 := Lib.hid (heap_below HV13.out hb14)
  have HU14 := Lib.hid (heap_below HU13.out hb14)
  have HB14 := Lib.hid (ext_trans HB13.out hb14)
  have HSP14 := Lib.hid (HSP13.out.below hb14)
  have HA14 := Lib.hid (HA13.out.below hb14)
  have HD14 := Lib.hid (HD13.out.below hb14)
  clear hb14 x0 x1 x2 x3 x4 x5 y0 y1 y2 y3 y4 y5 HX13 HY13 HV13 HB13 HSP13 HS13 HA13 HD13 HU13
  have x0 := cell_of_block HX14.out 0
  have x1 := cell_of_block HX14.out 1
  have x2 := cell_of_block HX14.out 2
  have x3 := cell_of_block HX14.out 3
  have x4 := cell_of_block HX14.out 4
  have x5 := cell_of_block HX14.out 5
  have y0 := cell_of_block HV14.out 0
  have y1 := cell_of_block HV14.out 1
  have y2 := cell_of_block HV14.out 2
  have y3 := cell_of_block HV14.out 3
  have y4 := cell_of_block HV14.out 4
  have y5 := cell_of_block HV14.out 5
  have HSA := Lib.hid (HMAY.out.smallB HA14.out)
  go_wp2_with fail
  refine (HSM.out _ w14 HB14.out HA14.out HSA.out).mono ?_
  rintro e w15 ⟨rfl, hb15⟩
  have HX15 := Lib.hid (heap_below HX14.out hb15)
  have HU15 := Lib.hid (heap_below HU14.out hb15)
  have HB15 := Lib.hid (ext_trans HB14.out hb15)
  have HSP15 := Lib.hid (HSP14.out.below hb15)
  have HD15 := Lib.hid (HD14.out.below hb15)
  clear hb15 x0 x1 x2 x3 x4 x5 y0 y1 y2 y3 y4 y5 HX14 HV14 HU14 HB14 HSP14 HA14 HD14 HSA
  have x0 := cell_of_block HX15.out 0
  have x1 := cell_of_block HX15.out 1
  have x2 := cell_of_block HX15.out 2
  have x3 := cell_of_block HX15.out 3
  have x4 := cell_of_block HX15.out 4
  have x5 := cell_of_block HX15.out 5
  have y0 := cell_of_block HU15.out 0
  have y1 := cell_of_block HU15.out 1
  have y2 := cell_of_block HU15.out 2
  have y3 := cell_of_block HU15.out 3
  have y4 := cell_of_block HU15.out 4
  have y5 := cell_of_block HU15.out 5
  have HSD := Lib.hid (HMAY.out.smallB HD15.out)
  go_wp2_with fail
  refine (HSM.out _ w15 HB15.out HD15.out HSD.out).mono ?_
  rintro e w16 ⟨rfl, hb16⟩
  have HB16 := Lib.hid (ext_trans HB15.out hb16)
  have HSP16 := Lib.hid (HSP15.out.below hb16)
  clear hb16 x0 x1 x2 x3 x4 x5 y0 y1 y2 y3 y4 y5 HX15 HU15 HB15 HSP15 HD15 HSD HSM
  by_cases hc0 : cut < 0
  · have e5 : decide (cut < 0) = true := by simpa using hc0
    go_wp2_with fail
    refine (HLV.out w16 HB16.out).mono ?_
    rintro e wl ⟨rfl, hbl⟩
    have HBL := Lib.hid (ext_trans HB16.out hbl)
    clear hbl
    go_wp2
    go_ret
    exact ⟨rfl, HBL.out⟩
  by_cases hc1 : (N : Int) ≤ cut
  · have e5 : decide (cut < 0) = false := by simpa using hc0
    have e6 : decide ((N : Int) ≤ cut) = true := by simpa using hc1
    go_wp2_with fail
    refine (HLV.out w16 HB16.out).mono ?_
    rintro e wl ⟨rfl, hbl⟩
    have HBL := Lib.hid (ext_trans HB16.out hbl)
    clear hbl
    go_wp2
    go_ret
    exact ⟨rfl, HBL.out⟩
  obtain ⟨k, rfl⟩ : ∃ k : Nat, cut = (k : Int) := ⟨cut.toNat, by omega⟩
  have hkN : k < N := by omega
  have e5 : decide ((k : Int) < 0) = false := by simp
  have e6 : decide ((N : Int) ≤ (k : Int)) = false := by simp; omega
  obtain ⟨a9, ec, hs9⟩ := HSP16.out.cut 0 k (by omega) (by omega)
  rw [List.drop_zero, ← List.map_take] at hs9
  have hcap := HSP16.out.cap
  have qk := fun W => (run_upto (P := Tryz.prog) Tryz.underlying27 size_u8 W vp N vc k (k : Int) rfl (by omega)).trans (congrArg (fun v => Result.ok v W) (show sliced vp 0 k vc 1 = _ from ec))
  have HGC := Lib.hid (bget_any (P.take k) a9 (k - 0) (vc - 0) w16 hs9 (by have := HPL.out; omega))
  have HCUT : Hid (getB (P.take k) = .error 4) := by
    have h1 := HN.out
    have h2 := HPL.out
    show _ = _
    rw [HP.out]
    exact get_cutB HMAY.out k (by rw [← HP.out, ← h1]; exact hkN) (by rw [← HP.out]; omega)
  clear hs9 ec hcap hc0 hc1
  go_wp2_with fail
  refine HGC.out.mono ?_
  rintro e w17 ⟨hb17, ⟨cq, sq, hg, rfl, hsq⟩ | ⟨er, hg, _, rfl⟩⟩
  · rw [HCUT.out] at hg; cases hg
  rw [HCUT.out] at hg
  obtain rfl : (4 : Int) = er := by injection hg
  have HB17 := Lib.hid (ext_trans HB16.out hb17)
  unfold zeroCir
  clear hb17 hg HGC HCUT HB16 HSP16 qk
  go_wp2_with fail
  generalize hW : World.alloc w17 _ = W18
  have HB18 := Lib.hid (show Below w.heap.size w W18 by subst hW; exact ext_trans HB17.out (ext_alloc _ _))
  clear hW HB17
  refine (HLV.out W18 HB18.out).mono ?_
  rintro e wl ⟨rfl, hbl⟩
  have HBL := Lib.hid (ext_trans HB18.out hbl)
  clear hbl
  go_wp2
  go_ret
  exact ⟨rfl, HBL.out⟩
end Go.Proofs.YtglhnmbfkbjemaaGreatDoor
