/- wit.readFrames, by its contract. -/
import Derived.Test.YtkimhlomadmnkaaDoorWVals
import Derived.Test.YtkimhlomadmnkaaDoorWHead
import Derived.Test.YtkimhlomadmnkaaDoorNTab
namespace Go.Proofs.YtkimhlomadmnkaaDoor
open Go Go.RowKit Go.Joins

/-- Frames that are owned: the outer row, and each frame's. -/
structure OwnF (w : World) (base : Nat) (v : Value) (ss : List Slc) (fs : List (List UInt8)) : Prop where
  row : Row anyCell w base 22 v fs.length (ss.map slV)
  len : ss.length = fs.length
  each : ∀ k, k < fs.length → Row isByte w base 5 (slV (ss.getD k slc0)) (fs.getD k []).length ((fs.getD k []).map bv)
theorem OwnF.below {w w' : World} {base : Nat} {v : Value} {ss : List Slc} {fs : List (List UInt8)} (h : OwnF w base v ss fs) (hb : Below w.heap.size w w') : OwnF w' base v ss fs :=
  ⟨h.row.below hb, h.len, fun k hk => (h.each k hk).below hb⟩
theorem OwnF.nil (w : World) (base : Nat) : OwnF w base (.slice none 0 0) [] [] := ⟨Row.nil _ _ _ _, rfl, fun k hk => absurd hk (by simp)⟩
theorem OwnF.sees {w : World} {base : Nat} {a : Option Addr} {n c : Nat} {ss : List Slc} {fs : List (List UInt8)} (h : OwnF w base (.slice a n c) ss fs) : n = fs.length ∧ SeesF w a n c ss fs := by
  obtain ⟨a', c', e, _, hs⟩ := h.row.sees
  cases e
  refine ⟨rfl, hs, h.len, fun k hk => ?_⟩
  obtain ⟨a2, c2, e2, _, hs2⟩ := (h.each k hk).sees
  obtain ⟨x, hx⟩ : ∃ x, x = ss.getD k slc0 := ⟨_, rfl⟩
  rw [← hx] at e2 ⊢
  obtain ⟨xa, xn, xc⟩ := x
  unfold slV at e2
  cases e2
  exact hs2
theorem OwnF.snoc {w w' : World} {base : Nat} {v v' : Value} {ss : List Slc} {fs : List (List UInt8)} (h : OwnF w base v ss fs) {s : Slc} {f : List UInt8} (hf : Row isByte w base 5 (slV s) f.length (f.map bv))
    (hr : Row anyCell w' base 22 v' (fs.length + 1) (ss.map slV ++ [slV s])) (hg : w.grownBy w' v.ownBlock) : OwnF w' base v' (ss ++ [s]) (fs ++ [f]) := by
  have keep : ∀ (u : Value) (m : Nat) (xs : List Value), Row isByte w base 5 u m xs → Row isByte w' base 5 u m xs := by
    intro u m xs hu
    refine hu.other (fun k hk => ?_)
    rcases hu.2 with ⟨rfl, _⟩ | ⟨g, cap, cur, rfl, _, hgg, _⟩
    · cases hk
    · have : g = k := by simpa [Value.ownBlock] using hk
      subst this
      exact hg.block g (heap_lt hgg) (fun e => h.row.not_own hgg (by decide) e.symm)
  have hl := h.len
  refine ⟨by simpa using hr, by simp [hl], fun k hk => ?_⟩
  rcases Nat.lt_or_ge k fs.length with hlt | hge
  · have e1 : (ss ++ [s]).getD k slc0 = ss.getD k slc0 := by simp [List.getD, List.getElem?_append_left (show k < ss.length by omega)]
    have e2 : (fs ++ [f]).getD k [] = fs.getD k [] := by simp [List.getD, List.getElem?_append_left hlt]
    rw [e1, e2]
    exact keep _ _ _ (h.each k hlt)
  · have : k = fs.length := by simp at hk; omega
    subst this
    have e1 : (ss ++ [s]).getD fs.length slc0 = s := by rw [← hl]; simp [List.getD]
    have e2 : (fs ++ [f]).getD fs.length [] = f := by simp [List.getD]
    rw [e1, e2]
    exact keep _ _ _ hf

theorem valuesW_err {l : List UInt8} {many er : Int} (h : valuesW l many = .error er) : er = 5 := by
  unfold valuesW at h
  split at h
  · cases hv : valsW l with
    | none => rw [hv] at h; cases h; rfl
    | some v => rw [hv] at h; cases h
  · cases h; rfl
theorem valuesW_len {l v : List UInt8} {many : Int} (h : valuesW l many = .ok v) : (v.length : Int) = many ∧ v.length = l.length := by
  unfold valuesW at h
  split at h
  · rename_i hm
    cases hv : valsW l with
    | none => rw [hv] at h; cases h
    | some u =>
      rw [hv] at h
      cases h
      have := valsW_len hv
      exact ⟨by rw [this]; exact hm, this⟩
  · cases h

theorem Sees.back {w w' : World} {a : Option Addr} {n c : Nat} {xs : List Value} (h : Sees w' a n c xs) (hb : Below w.heap.size w w') (ho : ∀ B, a.map Addr.block = some B → B < w.heap.size) : Sees w a n c xs := by
  refine ⟨h.len, h.cap, h.nilc, fun h0 => ?_⟩
  obtain ⟨b, off, rfl, _, hc⟩ := h.real h0
  have hlt : b < w.heap.size := ho b rfl
  exact ⟨b, off, rfl, hlt, fun j hj => (hb.cell (p := ⟨b, off + j, .none⟩) hlt).symm.trans (hc j hj)⟩

/-- What readFrames answers. -/
def FramesPost (inputs : Int) (bs : List UInt8) (w : World) (e : Ending) (w' : World) : Prop :=
  Below w.heap.size w w' ∧ ((∃ er, framesS5 inputs (bs.length + 1) [] bs = .error er ∧ 3 ≤ er ∧ er ≤ 6 ∧ e = .returned (.tuple #[.slice none 0 0, .slice none 0 0, .int .i64 er])) ∨
    (∃ fs r ss v a c, framesS5 inputs (bs.length + 1) [] bs = .ok (fs, r) ∧ e = .returned (.tuple #[v, .slice a r.length c, .int .i64 0]) ∧ OwnF w' w.heap.size v ss fs ∧ Sees w' a r.length c (r.map bv)))

theorem info_tabW : (Tryd.prog.info? 22).map (fun i => (i.zero, i.size, i.bytes)) = some (some (.slice none 0 0), 1, 24) := by kernel_rfl

set_option maxRecDepth 100000 in
set_option maxHeartbeats 3200000 in
theorem readFrames_any (bs : List UInt8) (a : Option Addr) (n c : Nat) (inputs : Int) (w : World) (h : Sees w a n c (bs.map bv)) (hn : n ≤ 1048577) (hin : -9223372036854775808 ≤ inputs ∧ inputs < 9223372036854775808) :
    Calls Tryd.prog 46 #[.slice a n c, .int .i64 inputs] w (FramesPost inputs bs w) := by
  obtain ⟨i0, hi, hz0, hz1, hz2⟩ := info_parts info_tabW
  have hl := h.lenMap
  have HL := Lib.hid hl
  have HS := Lib.hid h
  have HIN := Lib.hid hin
  clear h hl hin
  go_enter Tryd.func46, Tryd.ntmps46
  go_wp2
  go_loopw [0, 7, 8, 9, 10, 11] (fun b v l r e f wr => ∃ (k : Nat) (a2 : Option Addr) (n2 c2 : Nat) (rest : List UInt8) (ss : List Slc) (fs : List (List UInt8)), b = .slice a2 n2 c2 ∧ n2 ≤ n ∧ fs.length ≤ 256 ∧
      Hid (Sees w a2 n2 c2 (rest.map bv)) ∧ Hid (OwnF wr w.heap.size v ss fs) ∧ Hid (Below w.heap.size w wr) ∧ Hid (framesS5 inputs (bs.length + 1) [] bs = framesS5 inputs (k + 1) fs rest ∧ n2 ≤ k))
    (fun b _ _ _ _ _ _ => slenT b)
  case atStart => exact ⟨n, a, n, c, bs, [], [], rfl, Nat.le_refl _, by simp, HS.out, OwnF.nil _ _, Below.refl _ _, by rw [HL.out], Nat.le_refl _⟩
  case round =>
    obtain ⟨k, a2, n2, c2, rest, ss, fs, rfl, hn2, hfl, hS, hF, hB, hK⟩ := hrel
    obtain ⟨fa, fc, rfl⟩ := hF.out.row.form
    obtain ⟨m, hm⟩ : ∃ m, m = fs.length := ⟨_, rfl⟩
    have hF' := hF.out
    rw [← hm] at hfl hF' ⊢
    have HM := Lib.hid hm
    have HF0 := Lib.hid hF'
    have hcut := wcut_any rest a2 n2 c2 wr (hS.out.below hB.out) (by omega)
    have HC := Lib.hid hcut
    have hrl := hS.out.lenMap
    clear hm hcut hF hF'
    go_wp2_with fail
    refine HC.out.mono ?_
    rintro e w1 ⟨hb, ⟨hcs, b1, c1, b2, n2', c2', rfl⟩ | ⟨l, r, b1, c1, b2, c2', hcs, rfl, s1, s2, hblk⟩⟩
    · have HE : Hid (framesS5 inputs (bs.length + 1) [] bs = .error 4) := by show _ = _; rw [hK.out.1, frames_none hcs]
      have HB := Lib.hid (ext_trans hB.out hb)
      clear hb hcs hB hK hS hrl
      go_wp2
      go_ret3
      exact ⟨HB.out, Or.inl ⟨4, HE.out, by decide, by decide, rfl⟩⟩
    have hlen := (cutS_len hcs).1
    have q1 := s1.str (P := Tryd.prog) 22 5 9 Tryd.underlying22 Tryd.underlying5 Tryd.underlying9
    obtain ⟨sd, hsd⟩ : ∃ sd, sd = str l := ⟨_, rfl⟩
    have t1 : (sd.toList == [46]) = decide (l = [46]) := by rw [hsd, str_eq]
    have hvals := values_any l b1 l.length c1 inputs w1 s1 (by omega) HIN.out
    obtain ⟨N1, hN1⟩ : ∃ N, N = l.length := ⟨_, rfl⟩
    obtain ⟨N2, hN2⟩ : ∃ N, N = r.length := ⟨_, rfl⟩
    rw [← hN1, ← hsd] at q1
    rw [← hN1] at hvals
    rw [← hN1, ← hN2]
    have hlt2 : N2 < n2 := by omega
    have HST := Lib.hid hK.out.1
    have HCS := Lib.hid hcs
    have HV := Lib.hid hvals
    have HB := Lib.hid (ext_trans hB.out hb)
    have HF := Lib.hid (HF0.out.below hb)
    have hold : Sees w b2 r.length c2' (r.map bv) := by
      refine s2.back (ext_trans hB.out hb) (fun B hB2 => ?_)
      rw [hblk] at hB2
      obtain ⟨b, off, ea, hbl⟩ := hS.out.addr (by omega)
      subst ea
      cases hB2
      exact hbl
    have HOLD := Lib.hid hold
    have HS2 := Lib.hid s2
    have HN2 := Lib.hid hN2
    have HK := Lib.hid hK.out.2
    have HLT := Lib.hid hlt2
    clear hb hcs hB hK hlen hsd hvals hN1 hN2 s1 s2 HC HF0 hS hrl hlt2 hold hblk
    by_cases hdot : l = [46] ∧ 0 < fs.length
    · rw [decide_eq_true hdot.1] at t1
      have e1 : 0 < m := by have := hdot.2; have := HM.out; omega
      have HE : Hid (framesS5 inputs (bs.length + 1) [] bs = .ok (fs, r)) := by show _ = _; rw [HST.out, frames_dot HCS.out hdot]
      clear hdot HV
      go_wp2
      go_ret3
      refine ⟨HB.out, Or.inr ⟨fs, r, ss, _, b2, c2', HE.out, ?_, HF.out, HS2.out⟩⟩
      rw [← HN2.out]; rfl
    have HD := Lib.hid hdot
    -- the line is no dot, or the first one
    have htest : (decide (l = [46]) = false) ∨ (decide (l = [46]) = true ∧ ¬ 0 < m) := by
      by_cases h1 : l = [46]
      · right
        have : ¬ 0 < fs.length := fun h => hdot ⟨h1, h⟩
        have := HM.out
        exact ⟨decide_eq_true h1, by omega⟩
      · left; exact decide_eq_false h1
    obtain ⟨q, hq⟩ : ∃ q, q = decide (l = [46]) := ⟨_, rfl⟩
    rw [← hq] at t1 htest
    clear hdot hq
    rcases htest with hq | ⟨hq, hp⟩
    all_goals
      subst hq
      go_wp2_with fail
      refine HV.out.mono ?_
      rintro e w2 ⟨hb2, ⟨er, hv, rfl⟩ | ⟨f, s, hv, rfl, hrow⟩⟩
      · have h5 := valuesW_err hv
        subst h5
        have HE : Hid (framesS5 inputs (bs.length + 1) [] bs = .error 5) := by show _ = _; rw [HST.out, frames_err HCS.out HD.out hv]
        have HB2 := Lib.hid (ext_trans HB.out hb2)
        clear hv hb2 t1 q1
        go_wp2
        go_ret3
        exact ⟨HB2.out, Or.inl ⟨5, HE.out, by decide, by decide, rfl⟩⟩
      · obtain ⟨sa, sc, rfl⟩ := hrow.form
        obtain ⟨N3, hN3⟩ : ∃ N, N = f.length := ⟨_, rfl⟩
        have HB2 := Lib.hid (ext_trans HB.out hb2)
        have HF2 := Lib.hid (HF.out.below hb2)
        have HS3 := Lib.hid (HS2.out.below hb2)
        have hrow' := hrow.base_le HB.out.size
        have HROW : Hid (Row isByte w2 w.heap.size 5 (slV (sa, N3, sc)) f.length (f.map bv)) := by rw [hN3]; exact hrow'
        rw [← hN3]
        by_cases h256 : m = 256
        · subst h256
          have HE : Hid (framesS5 inputs (bs.length + 1) [] bs = .error 3) := by show _ = _; rw [HST.out, frames_many HCS.out HD.out hv HM.out.symm]
          clear hv hb2 t1 q1 hrow hrow' hN3
          go_wp2
          go_ret3
          exact ⟨HB2.out, Or.inl ⟨3, HE.out, by decide, by decide, rfl⟩⟩
        · have e2 : ((m : Int) == 256) = false := by simp; omega
          have HE : Hid (framesS5 inputs (bs.length + 1) [] bs = framesS5 inputs k (fs ++ [f]) r) := by show _ = _; rw [HST.out, frames_step HCS.out HD.out hv (by rw [← HM.out]; exact h256)]
          have H256 := Lib.hid h256
          clear hv hb2 t1 q1 hrow hrow' hN3 h256
          go_wp2_with (at_builtin; refine wpList_append_row anyCell _ rfl _ _ 37 rfl w.heap.size 22 i0 (.slice none 0 0) 24 Tryd.underlying37 hi hz0 hz1 hz2 rfl trivial (.slice fa m fc) m (ss.map slV) rfl (by have := (HF2.out.row).below (ext_alloc w2 (.cells #[.slice sa N3 sc] 22)); rw [← HM.out] at this; exact this) (some ⟨w2.heap.size, 0, none⟩) 1 1 [slV (sa, N3, sc)] rfl (sees_one _ _ _) (by intro u hu; simp at hu; subst hu; rfl) (fun _ _ => trivial) ?c4 ?c5 ?c6 ?_)
          case c4 => unfold maxLen; omega
          case c5 => omega
          case c6 => have := HB2.out.size; simp; omega
          intro v3 w3 hrow3 hgrow3 _
          have hg3 : w2.grownBy w3 (Value.slice fa m fc).ownBlock := ⟨hgrow3.os, hgrow3.tape, hgrow3.output, Nat.le_trans (by simp) hgrow3.size, fun b hb hr => (hgrow3.block b (by simp; omega) hr).trans (heap_alloc_old w2 _ hb)⟩
          have HF3 : Hid (OwnF w3 w.heap.size v3 (ss ++ [(sa, N3, sc)]) (fs ++ [f])) := by
            have hf2 := HF2.out
            rw [HM.out] at hrow3
            exact OwnF.snoc hf2 HROW.out hrow3 hg3
          have hlt3 := HF2.out.row.own.lt
          have HB3 : Hid (Below w.heap.size w w3) := HB2.out.grown hg3 HB2.out.size (fun k hk => (hlt3 k hk).1)
          have HO3 : Hid (Sees w b2 N2 c2' (r.map bv)) := by show Sees _ _ _ _ _; rw [HN2.out]; exact HOLD.out
          have HL3 : Hid ((fs ++ [f]).length = m + 1) := by show _ = _; rw [List.length_append, HM.out]; rfl
          have hm1 : m + 1 ≤ 256 := by have := H256.out; omega
          have hk1 : ∃ j, k = j + 1 := ⟨k - 1, by have := HK.out; have := HLT.out; omega⟩
          obtain ⟨j, hj⟩ := hk1
          have HJ := Lib.hid hj
          have HM1 := Lib.hid hm1
          have hn3 : N2 ≤ n := by have := HLT.out; omega
          have HN3 := Lib.hid hn3
          clear hrow3 hgrow3 hlt3 hg3 hm1 hj hn3
          go_wp2
          go_roundw
          case rel => exact ⟨j, b2, N2, c2', r, ss ++ [(sa, N3, sc)], fs ++ [f], rfl, HN3.out, by rw [HL3.out]; exact HM1.out, HO3.out, HF3.out, HB3.out, by rw [HE.out, HJ.out], by have := HK.out; have := HLT.out; have := HJ.out; omega⟩
          case measure => have := HLT.out; simp [slenT]; omega
end Go.Proofs.YtkimhlomadmnkaaDoor
