/- wit.Put, by its contract. -/
import Derived.Test.YtkimhlomadmnkaaDoorWMay
import Derived.Test.YtkimhlomadmnkaaDoorWAppend
import Derived.Test.YtkimhlomadmnkaaDoorOwnStr
namespace Go.Proofs.YtkimhlomadmnkaaDoor
open Go Go.RowKit Go.Joins

theorem framesW_snoc : ∀ (a : List (List UInt8)) (f : List UInt8), framesW (a ++ [f]) = framesW a ++ lineW f
  | [], f => by simp [framesW]
  | x :: a, f => by rw [List.cons_append, framesW, framesW_snoc a f, framesW, List.append_assoc]
/-- What a trace that may be written is. -/
structure MayT (t : TraceC) : Prop where
  lo : 0 ≤ t.bad
  hi : t.bad < 1024
  one : 1 ≤ t.frames.length
  most : t.frames.length ≤ 256
  init : t.init.length ≤ 16384
  vals : ∀ u ∈ t.init, u.toNat ≤ 2
  each : ∀ f ∈ t.frames, f.length = (t.frames.headD []).length ∧ f.length ≤ 16384 ∧ ∀ u ∈ f, u.toNat ≤ 2
theorem line_of {l : List UInt8} (h : mayLineW l = true) : l.length ≤ 16384 ∧ ∀ u ∈ l, u.toNat ≤ 2 := by
  unfold mayLineW at h
  rw [Bool.and_eq_true] at h
  refine ⟨of_decide_eq_true h.1, fun u hu => ?_⟩
  have h2 : l.any tooBig = false := by simpa using h.2
  rw [List.any_eq_false] at h2
  have := h2 u hu
  unfold tooBig at this
  simpa using this
theorem may_of {t : TraceC} (h : mayW t = true) : MayT t := by
  have hn : ¬ (t.bad < 0 ∨ 1024 ≤ t.bad ∨ t.frames.length < 1 ∨ 256 < t.frames.length) := fun hc => by rw [mayW_no hc] at h; cases h
  rw [mayW_mid (by omega) (by omega) (by omega) (by omega), Bool.and_eq_true] at h
  have h1 := line_of h.1
  have h2 : t.frames.any (wrongF (t.frames.headD []).length) = false := by simpa using h.2
  rw [List.any_eq_false] at h2
  refine ⟨by omega, by omega, by omega, by omega, h1.1, h1.2, fun f hf => ?_⟩
  have h3 := h2 f hf
  unfold wrongF at h3
  have h4 : f.length = (t.frames.headD []).length ∧ mayLineW f = true := by simpa using h3
  have h5 := line_of h4.2
  exact ⟨h4.1, h5⟩

/-- What Put answers. -/
def PutPost (t : TraceC) (w : World) (e : Ending) (w' : World) : Prop :=
  Below w.heap.size w w' ∧ ((mayW t = false ∧ e = .returned (.tuple #[.slice none 0 0, .int .i64 2])) ∨
    (∃ v, mayW t = true ∧ e = .returned (.tuple #[v, .int .i64 0]) ∧ Row isByte w' w.heap.size 5 v (textW t).length ((textW t).map bv)))

set_option maxRecDepth 100000 in
set_option maxHeartbeats 3200000 in
theorem wput_any (t : TraceC) (s : TSlots) (w : World) (h : SeesTr w s t) (htab : Tab w) (hdig : Dig w) :
    Calls Tryd.prog 15 #[traceV t.bad s] w (PutPost t w) := by
  have hmay := fun W (hb : Below w.heap.size w W) => wmay_any t s W (h.below hb)
  obtain ⟨q, hq⟩ : ∃ q, q = mayW t := ⟨_, rfl⟩
  rw [← hq] at hmay
  have HMAY := Lib.hid hmay
  have HQ := Lib.hid hq
  have hmo := fun h : q = true => may_of (t := t) (hq.symm.trans h)
  have HMO := Lib.hid hmo
  obtain ⟨a1, n1, c1, a2, n2, c2, ss⟩ := s
  obtain ⟨h1, h2⟩ := h
  simp only at h1 h2
  have HS1 := Lib.hid h1
  have HS2 := Lib.hid h2
  have HN1 := Lib.hid h1.lenMap
  have HN2 := Lib.hid h2.n_eq
  have HTAB := Lib.hid htab
  have HDIG := Lib.hid hdig
  unfold traceV at HMAY ⊢
  obtain ⟨bad, hbad⟩ : ∃ b, b = t.bad := ⟨_, rfl⟩
  have HBAD := Lib.hid hbad
  simp only at HMAY ⊢
  rw [← hbad] at HMAY ⊢
  clear h1 h2 hmay hq hmo htab hdig hbad
  go_enter Tryd.func15, Tryd.ntmps15
  go_wp2_with fail
  generalize hW : World.alloc w _ = W1
  have B1 : Below w.heap.size w W1 := by subst hW; exact ext_alloc _ _
  have hX : W1.heap[w.heap.size]? = some (.cells #[.int .i64 bad, .slice a1 n1 c1, .slice a2 n2 c2] 39 (0, 0)) := by subst hW; exact heap_new _ _ _ rfl
  clear hW
  refine (HMAY.out W1 B1).mono ?_
  rintro e W2 ⟨rfl, hb⟩
  have hX2 := heap_below hX hb
  have HB2 := Lib.hid (ext_trans B1 hb)
  clear hX B1 hb HMAY
  cases q with
  | false =>
    clear hX2
    go_wp2
    go_ret2
    exact ⟨HB2.out, Or.inl ⟨HQ.out.symm, rfl⟩⟩
  | true =>
    have hm := HMO.out rfl
    have HQM : Hid (mayW t = true) := HQ.out.symm
    have HM := Lib.hid hm
    obtain ⟨bn, hbn⟩ : ∃ bn : Nat, bad = (bn : Int) := ⟨bad.toNat, by have := hm.lo; rw [← HBAD.out] at this; omega⟩
    have hbn2 : bn < 1024 := by have := hm.hi; rw [← HBAD.out, hbn] at this; omega
    subst hbn
    have W32 : IntKind.u32.wrap (bn : Int) = (bn : Int) := by rw [IntKind.wrap_u32]; omega
    have kc := fun (w : World) (C : Array Value) (n c : Nat) => Lib.run_convert_bytes_const (P := Tryd.prog) w 22 5 C n c Tryd.underlying22 Tryd.underlying5
    have hX3 := heap_below hX2 (ext_alloc W2 (.cells #[.int .u8 49, .int .u8 10, .int .u8 98] 5 (3, 4)))
    have x0 := cell_of_block hX3 0
    have HX2 := Lib.hid hX2
    clear hX2 hX3 hm HMO HQ
    go_wp2_with fail
    generalize hW : World.alloc (World.alloc W2 _) _ = W4
    have B4 : Below w.heap.size w W4 := by subst hW; exact ext_trans HB2.out (ext_trans (ext_alloc _ _) (ext_alloc _ _))
    have hX4 : W4.heap[w.heap.size]? = some (.cells #[.int .i64 (bn : Nat), .slice a1 n1 c1, .slice a2 n2 c2] 39 (0, 0)) := by subst hW; exact heap_below HX2.out (ext_trans (ext_alloc _ _) (ext_alloc _ _))
    have sA : Sees W4 (some ⟨W2.heap.size, 0, none⟩) 3 3 (([49, 10, 98] : List UInt8).map bv) := by subst hW; exact (sees_lit W2 5 (3, 4) #[.int .u8 49, .int .u8 10, .int .u8 98] _ 3 rfl rfl).below (ext_alloc _ _)
    have sB : Sees W4 (some ⟨W2.heap.size + 1, 0, none⟩) 1 1 ([bn].map nv32) := by subst hW; have := sees_one (W2.alloc (.cells #[.int .u8 49, .int .u8 10, .int .u8 98] 5 (3, 4))) (nv32 bn) 51; simp only [World.size_alloc] at this; exact this
    clear hW x0
    refine (write_any [49, 10, 98] [bn] _ _ 3 3 1 1 W4 sA sB (by omega) (by omega) (by intro x hx; simp at hx; omega) (HTAB.out.below B4 (Nat.le_refl _))).mono ?_
    rintro e W5 ⟨v5, rfl, hr5, hb5⟩
    have hcur5 : ([49, 10, 98] : List UInt8) ++ (bodyOf [bn] ++ [10]) = headW bn := by simp [headW, bodyOf, tailOf]
    rw [hcur5] at hr5
    have hlen5 : (headW bn).length ≤ 30 := by
      have := dec_len bn (by omega)
      simp [headW]; omega
    have hX5 := heap_below hX4 hb5
    have x1 := cell_of_block hX5 1
    have x2 := cell_of_block hX5 2
    obtain ⟨B, hB⟩ : ∃ B, B = W4.heap.size := ⟨_, rfl⟩
    have hwB : w.heap.size ≤ B := by rw [hB]; exact B4.size
    have hB5 : B ≤ W5.heap.size := by rw [hB]; exact hb5.size
    rw [← hB] at hr5
    have HWB := Lib.hid hwB
    have HB5 := Lib.hid hB5
    have BW5 := ext_trans B4 hb5
    have HBW5 := Lib.hid BW5
    -- what is below B is as it was
    have HOLD : Hid (∀ W, Below B W5 W → Below w.heap.size w W) := fun W h => BW5.trans (h.mono hwB)
    have HXB : Hid (∀ W, Below B W5 W → W.heap[w.heap.size]? = some (.cells #[.int .i64 (bn : Nat), .slice a1 n1 c1, .slice a2 n2 c2] 39 (0, 0))) := fun W h => (h.block _ (by rw [hB]; exact heap_lt hX4)).trans hX5
    have HR5 := Lib.hid hr5
    have HLEN5 := Lib.hid hlen5
    have happ : Calls Tryd.prog 41 #[v5, .slice a1 n1 c1] W5 fun e w' => ∃ v', e = .returned v' ∧ Row isByte w' B 5 v' (headW bn ++ lineW t.init).length ((headW bn ++ lineW t.init).map bv) ∧ Below B W5 w' :=
      appvals_any B (headW bn) t.init v5 a1 n1 c1 W5 hr5 hB5 (fun W h => HS1.out.below (HOLD.out W h)) (by omega) (by have := HN1.out; have := HM.out.init; omega) HM.out.vals (fun W h => HDIG.out.below (HOLD.out W h) (Nat.le_refl _))
    have HAPP := Lib.hid happ
    clear happ sA sB hX4 hX5 hr5 hlen5 hb5 hcur5 BW5 B4 hB hwB hB5 HR5
    go_wp2_with fail
    refine HAPP.out.mono ?_
    rintro e W6 ⟨v6, rfl, hr6, hb6⟩
    have hX6 := HXB.out W6 hb6
    have x2' := cell_of_block hX6 2
    have hlen6 : (headW bn ++ lineW t.init).length ≤ 16500 := by
      have := HLEN5.out
      have := HM.out.init
      simp [lineW]; omega
    have HLEN6 := Lib.hid hlen6
    have HR6 := Lib.hid hr6
    have HB6 := Lib.hid hb6
    have HN2' : Hid (n2 ≤ 256) := by show n2 ≤ 256; have := HM.out.most; have := HN2.out; omega
    clear hX6 hr6 hb6 hlen6 HAPP x1 x2
    go_wp2
    clear x2'
    go_loopw [4, 6, 25] (fun b f j wr => ∃ (k : Nat) (cur : List UInt8), k ≤ n2 ∧ j = .int .i64 k ∧ Hid (cur = headW bn ++ lineW t.init ++ framesW (t.frames.take k)) ∧ Hid (cur.length ≤ 16500 + 16385 * k) ∧ Hid (Row isByte wr B 5 b cur.length (cur.map bv)) ∧ Hid (Below B W5 wr)) (fun _ _ j _ => n2 - (intOf j).toNat)
    case atStart => exact ⟨0, headW bn ++ lineW t.init, Nat.zero_le _, rfl, (by show _ = _; simp [framesW]), (by show _ ≤ _; have := HLEN6.out; omega), HR6.out, HB6.out⟩
    case round =>
      obtain ⟨k, cur, hk, rfl, hcur, hlen, hR, hB⟩ := hrel
      by_cases hlt : k < n2
      · have hF := HS2.out.below (HOLD.out wr hB.out)
        obtain ⟨fb, fo, rfl, _⟩ := hF.row.addr (by omega)
        have hcx := hF.cellAt k hlt
        have hkF : k < t.frames.length := by rw [HN2.out]; exact hlt
        obtain ⟨f, hf⟩ : ∃ f, f = t.frames.getD k [] := ⟨_, rfl⟩
        obtain ⟨x, hx⟩ : ∃ x : Slc, x = ss.getD k slc0 := ⟨_, rfl⟩
        have hfm := HM.out.each f (by rw [hf]; exact getD_mem hkF)
        have hfs := fun W (hW : Below B wr W) => (HS2.out.below (HOLD.out W (hB.out.trans hW))).each k hkF
        rw [← hx] at hcx hfs
        rw [← hf] at hfs
        obtain ⟨xa, xn, xc⟩ := x
        simp only at hcx hfs
        have hBw : B ≤ wr.heap.size := Nat.le_trans HB5.out hB.out.size
        have hc30 : cur.length ≤ 30000000 := by have := hlen.out; have := HN2'.out; omega
        have hxs : xn ≤ 16384 := by have := (hfs wr (Below.refl _ _)).lenMap; have := hfm.2.1; omega
        have hcall := appvals_any B cur f _ xa xn xc wr hR.out hBw hfs (by omega) (by omega) hfm.2.2 (fun W hW => HDIG.out.below (HOLD.out W (hB.out.trans hW)) (Nat.le_refl _))
        have HCALL := Lib.hid hcall
        have W1 : IntKind.i64.wrap ((k : Int) + 1) = (k : Int) + 1 := IntWalk.i64_in _ (by have := HN2'.out; omega)
        have hc2 : cur ++ lineW f = headW bn ++ lineW t.init ++ framesW (t.frames.take (k + 1)) := by
          rw [List.take_succ_eq_append_getElem hkF, framesW_snoc, hcur.out]
          have : t.frames[k] = f := by rw [hf]; simp [List.getD, List.getElem?_eq_getElem hkF]
          rw [this]; simp
        have HC2 := Lib.hid hc2
        have hl2 : (cur ++ lineW f).length ≤ 16500 + 16385 * (k + 1) := by
          have := hfm.2.1; have := hlen.out
          simp [lineW]; omega
        have HL2 := Lib.hid hl2
        have HBB := Lib.hid hB.out
        clear hF hf hx hfm hfs hxs hBw hc30 hcall hc2 hl2 hcur hlen hR hB hkF
        go_wp2_with fail
        refine HCALL.out.mono ?_
        rintro e W7 ⟨v7, rfl, hr7, hb7⟩
        have HR7 := Lib.hid hr7
        have HB7 := Lib.hid (HBB.out.trans hb7)
        clear hr7 hb7 hcx HCALL
        go_wp2
        go_roundw
        case rel => exact ⟨k + 1, _, by omega, by go_num, HC2, HL2, HR7, HB7⟩
        case measure => simp [intOf]; omega
      · have hkn : k = n2 := by omega
        subst hkn
        have hfull : t.frames.take k = t.frames := List.take_of_length_le (by rw [HN2.out]; exact Nat.le_refl _)
        have hcf := hcur.out
        rw [hfull] at hcf
        have HCF := Lib.hid hcf
        have HRR := Lib.hid hR.out
        have HBB := Lib.hid hB.out
        have hl3 : cur.length ≤ 30000000 := by have := hlen.out; have := HN2'.out; omega
        have HL3 := Lib.hid hl3
        have HSZ := Lib.hid (Nat.le_trans HB5.out hB.out.size)
        clear hfull hcf hcur hlen hR hB hl3
        obtain ⟨i0, hi, hz0, hz1, hz2⟩ := info_parts info_u8
        go_wp2_with (at_builtin; refine wpList_append_row_string isByte _ rfl _ _ 22 9 rfl B 5 i0 Tryd.underlying22 Tryd.underlying9 hi hz0 hz1 hz2 isByte_zero _ _ _ rfl HRR.out (str [46, 10]) rfl (isByte_str _) ?s4 ?s5 HSZ.out ?_)
        case s4 => have := HL3.out; rw [size_str]; unfold maxLen; simp; omega
        case s5 => have := HL3.out; rw [size_str]; simp; omega
        intro v8 W8 hr8 hg8 _
        have hlt8 := HRR.out.own.lt
        have hb8 : Below B wr W8 := (Below.refl _ wr).grown hg8 HSZ.out (fun k hk => (hlt8 k hk).1)
        have HB8 := Lib.hid (HOLD.out _ (HBB.out.trans hb8))
        have HR8 : Hid (Row isByte W8 B 5 v8 (textW t).length ((textW t).map bv)) := by
          show Row _ _ _ _ _ _ _
          have e2 : textW t = cur ++ [46, 10] := by
            have : t.bad.toNat = bn := by rw [← HBAD.out]; rfl
            rw [HCF.out]; unfold textW; rw [this]; simp
          rw [strCells_str, size_str] at hr8
          rw [e2, List.length_append, List.map_append]
          exact hr8
        clear hr8 hg8 hlt8 hb8
        go_wp2
        go_ret2
        exact ⟨HB8.out, Or.inr ⟨v8, HQM.out, rfl, HR8.out.base_le HWB.out⟩⟩
end Go.Proofs.YtkimhlomadmnkaaDoor
