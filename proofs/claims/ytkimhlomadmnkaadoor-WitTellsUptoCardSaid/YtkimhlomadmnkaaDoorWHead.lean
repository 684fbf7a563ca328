/- wit.readHead, by its contract. -/
import Derived.Test.YtkimhlomadmnkaaDoorWPref
import Derived.Test.YtkimhlomadmnkaaDoorWCut
import Derived.Test.YtkimhlomadmnkaaDoorNumber
namespace Go.Proofs.YtkimhlomadmnkaaDoor
open Go Go.RowKit Go.Joins

theorem str_eq (l m : List UInt8) : ((str l).toList == m) = decide (l = m) := by
  rw [ByteArray.toList_eq]
  show (l == m) = _
  by_cases h : l = m <;> simp [h]
/-- What readHead answers. -/
def HeadPost (bs : List UInt8) (w : World) (e : Ending) (w' : World) : Prop :=
  Below w.heap.size w w' ∧ ((∃ er, headS5 bs = .error er ∧ 3 ≤ er ∧ er ≤ 6 ∧ e = .returned (.tuple #[.int .i64 0, .slice none 0 0, .int .i64 er])) ∨
    (∃ bad r a c, headS5 bs = .ok (bad, r) ∧ bad ≤ 1023 ∧ r.length ≤ bs.length ∧ e = .returned (.tuple #[.int .i64 (bad : Nat), .slice a r.length c, .int .i64 0]) ∧ Sees w' a r.length c (r.map bv)))

set_option maxRecDepth 100000 in
set_option maxHeartbeats 1600000 in
theorem readHead_any (bs : List UInt8) (a : Option Addr) (n c : Nat) (w : World) (h : Sees w a n c (bs.map bv)) (hn : n ≤ 1048577) :
    Calls Tryd.prog 44 #[.slice a n c] w (HeadPost bs w) := by
  have hl := h.lenMap
  have hcut := wcut_any bs a n c w h (by omega)
  have HL := Lib.hid hl
  have HC := Lib.hid hcut
  clear h hl hcut
  go_enter Tryd.func44, Tryd.ntmps44
  go_wp2_with fail
  refine HC.out.mono ?_
  rintro e w1 ⟨hb, ⟨hcs, b1, c1, b2, n2, c2, rfl⟩ | ⟨l, r, b1, c1, b2, c2, hcs, rfl, s1, s2, _⟩⟩
  · have HE : Hid (headS5 bs = .error 4) := by show _ = _; unfold headS5; rw [hcs]
    have HB := Lib.hid hb
    clear hb hcs
    go_wp2
    go_ret3
    exact ⟨HB.out, Or.inl ⟨4, HE.out, by decide, by decide, rfl⟩⟩
  have hlen := cutS_len hcs
  have q := fun (W : World) (hW : Below w1.heap.size w1 W) => (s1.below hW).str (P := Tryd.prog) 22 5 9 Tryd.underlying22 Tryd.underlying5 Tryd.underlying9
  have q1 := q w1 (Below.refl _ _)
  have HCS := Lib.hid hcs
  have HB := Lib.hid hb
  have HS2 := Lib.hid s2
  have HLE := Lib.hid hlen
  obtain ⟨N1, hN1⟩ : ∃ N, N = l.length := ⟨_, rfl⟩
  obtain ⟨N2, hN2⟩ : ∃ N, N = r.length := ⟨_, rfl⟩
  obtain ⟨sd, hsd⟩ : ∃ sd, sd = str l := ⟨_, rfl⟩
  rw [← hN1, ← hsd] at q1
  rw [← hN1, ← hN2]
  have t1 : (sd.toList == [49]) = decide (l = [49]) := by rw [hsd, str_eq]
  have t2 : (sd.toList == [48]) = decide (l = [48]) := by rw [hsd, str_eq]
  have t3 : (sd.toList == [50]) = decide (l = [50]) := by rw [hsd, str_eq]
  clear hcs hb s1 s2 hlen q hN1 hsd
  by_cases c1 : l = [49]
  case neg =>
    rw [decide_eq_false c1] at t1
    by_cases c2 : l = [48]
    · rw [decide_eq_true c2] at t2
      have HE : Hid (headS5 bs = .error 6) := by show _ = _; unfold headS5; rw [HCS.out]; simp only; rw [if_neg c1, if_pos (Or.inl c2)]
      clear t3 c1 c2 hN2
      go_wp2
      go_ret3
      exact ⟨HB.out, Or.inl ⟨6, HE.out, by decide, by decide, rfl⟩⟩
    rw [decide_eq_false c2] at t2
    by_cases c3 : l = [50]
    · rw [decide_eq_true c3] at t3
      have HE : Hid (headS5 bs = .error 6) := by show _ = _; unfold headS5; rw [HCS.out]; simp only; rw [if_neg c1, if_pos (Or.inr c3)]
      clear c1 c2 c3 hN2
      go_wp2
      go_ret3
      exact ⟨HB.out, Or.inl ⟨6, HE.out, by decide, by decide, rfl⟩⟩
    · rw [decide_eq_false c3] at t3
      have HE : Hid (headS5 bs = .error 5) := by show _ = _; unfold headS5; rw [HCS.out]; simp only; rw [if_neg c1, if_neg (by rintro (h | h); exact c2 h; exact c3 h)]
      clear c1 c2 c3 hN2
      go_wp2
      go_ret3
      exact ⟨HB.out, Or.inl ⟨5, HE.out, by decide, by decide, rfl⟩⟩
  rw [decide_eq_true c1] at t1
  have HX : headS5 bs = headA r := by unfold headS5; rw [HCS.out]; simp only; rw [if_pos c1]
  have HXX := Lib.hid HX
  have hs2 := HS2.out
  rw [← hN2] at hs2
  have hrl : N2 ≤ n := by have := HLE.out.1; have := HL.out; omega
  have HC2 := Lib.hid (fun (W : World) (hW : Below w1.heap.size w1 W) => wcut_any r b2 N2 c2 W (hs2.below hW) (by omega))
  clear t2 t3 c1 HX hs2 hN2
  go_wp2_with fail
  refine (HC2.out _ (Below.refl _ _)).mono ?_
  rintro e w2 ⟨hb2, ⟨hcs2, b3, c3, b4, n4, c4, rfl⟩ | ⟨l2, r2, b3, c3, b4, c4, hcs2, rfl, s3, s4, _⟩⟩
  · have HE : Hid (headS5 bs = .error 4) := by show _ = _; rw [HXX.out]; unfold headA; rw [hcs2]
    have HB2 := Lib.hid (ext_trans HB.out hb2)
    clear hb2 hcs2 q1 t1
    go_wp2
    go_ret3
    exact ⟨HB2.out, Or.inl ⟨4, HE.out, by decide, by decide, rfl⟩⟩
  have hlen2 := cutS_len hcs2
  have HX2 : headS5 bs = headB l2 r2 := by rw [HXX.out]; unfold headA; rw [hcs2]
  have HXX2 := Lib.hid HX2
  have HB2 := Lib.hid (ext_trans HB.out hb2)
  have HS4 := Lib.hid s4
  have hr2 : r2.length ≤ bs.length := by have := HLE.out.1; omega
  have hl2 : l2.length ≤ 1048577 := by have := HLE.out.1; have := HL.out; omega
  have HR2 := Lib.hid hr2
  have HL2 := Lib.hid hl2
  have HPR : Hid (Calls Tryd.prog 76 #[.slice b3 l2.length c3, .slice (some ⟨w2.heap.size, 0, none⟩) 1 1] (w2.alloc (.cells #[.int .u8 98] 5 (1, 2))) (PrefPost l2 (w2.alloc (.cells #[.int .u8 98] 5 (1, 2))))) :=
    cutPref_any l2 b3 _ l2.length c3 1 _ (s3.below (ext_alloc _ _)) (sees_lit _ _ (1, 2) #[.int .u8 98] [bv 98] 1 rfl rfl)
  obtain ⟨N3, hN3⟩ : ∃ N, N = l2.length := ⟨_, rfl⟩
  obtain ⟨N4, hN4⟩ : ∃ N, N = r2.length := ⟨_, rfl⟩
  rw [← hN3, ← hN4]
  rw [← hN3] at HPR
  have kc := fun (w : World) (C : Array Value) (n c : Nat) => Lib.run_convert_bytes_const (P := Tryd.prog) w 22 5 C n c Tryd.underlying22 Tryd.underlying5
  have HN4 := Lib.hid hN4
  clear hb2 hcs2 s3 s4 hlen2 HX2 hr2 hl2 q1 t1 hN3 hN4
  go_wp2_with fail
  refine HPR.out.mono ?_
  rintro e w3 ⟨rfl, ⟨hp, b5, n5, c5, rfl⟩ | ⟨d, b5, c5, hp, rfl, s5⟩⟩
  · have HE : Hid (headS5 bs = .error 5) := by show _ = _; rw [HXX2.out]; unfold headB; rw [hp]
    clear hp
    go_wp2
    go_ret3
    exact ⟨ext_trans HB2.out (ext_alloc _ _), Or.inl ⟨5, HE.out, by decide, by decide, rfl⟩⟩
  have HX3 : headS5 bs = (if numErr d 1023 = 0 then .ok (numOf d 1023, r2) else .error (numErr d 1023)) := by rw [HXX2.out]; unfold headB; rw [hp]; rfl
  have hdl : d.length ≤ 1048577 := by
    cases l2 with
    | nil => cases hp
    | cons x y =>
      have h1 : prefW (x :: y) = if x = 98 then some y else none := rfl
      rw [h1] at hp
      split at hp
      · cases hp; have := HL2.out; simp at this; omega
      · cases hp
  have q5 := s5.str (P := Tryd.prog) 22 5 9 Tryd.underlying22 Tryd.underlying5 Tryd.underlying9
  obtain ⟨nv, hnv⟩ : ∃ nv : Nat, nv = numOf d 1023 := ⟨_, rfl⟩
  obtain ⟨er, her⟩ : ∃ er : Int, er = numErr d 1023 := ⟨_, rfl⟩
  have HNU := Lib.hid (number_named d 1023 (w2.alloc (.cells #[.int .u8 98] 5 (1, 2))) nv er hnv her (by omega) (by decide))
  rw [← hnv, ← her] at HX3
  have hnv2 : nv ≤ 1023 := by
    rw [hnv]; unfold numOf
    split
    · rename_i h0
      unfold numErr at h0
      split at h0
      · cases h0
      · split at h0
        · cases h0
        · omega
    · omega
  have here : er = 0 ∨ (3 ≤ er ∧ er ≤ 6) := by
    rw [her]; unfold numErr
    split
    · right; decide
    · split
      · right; decide
      · left; rfl
  obtain ⟨sd2, hsd2⟩ : ∃ sd, sd = str d := ⟨_, rfl⟩
  obtain ⟨N5, hN5⟩ : ∃ N, N = d.length := ⟨_, rfl⟩
  rw [← hsd2] at HNU q5
  rw [← hN5] at q5 ⊢
  have HX3' := Lib.hid HX3
  have HE := Lib.hid here
  have HNV := Lib.hid hnv2
  clear HX3 hdl hp s5 hnv her hsd2 hN5 here
  go_wp2_with fail
  refine HNU.out.mono ?_
  rintro e w4 ⟨rfl, hb4⟩
  have HB4 := Lib.hid (ext_trans (ext_trans HB2.out (ext_alloc _ _)) hb4)
  have HS6 := Lib.hid ((HS4.out.below (ext_alloc w2 (.cells #[.int .u8 98] 5 (1, 2)))).below hb4)
  clear hb4 q5 kc
  by_cases h0 : er = 0
  · subst h0
    have W1 : IntKind.i64.wrap (nv : Int) = (nv : Int) := IntWalk.i64_in _ (by omega)
    go_wp2
    go_ret3
    refine ⟨HB4.out, Or.inr ⟨nv, r2, b4, c4, by rw [HX3'.out]; simp, HNV.out, HR2.out, ?_, HS6.out⟩⟩
    rw [← HN4.out]; rfl
  · have e1 : (er != 0) = true := by simpa using h0
    have HEE := Lib.hid h0
    clear h0
    go_wp2
    go_ret3
    refine ⟨HB4.out, Or.inl ⟨er, by rw [HX3'.out, if_neg HEE.out], ?_, ?_, rfl⟩⟩
    · rcases HE.out with h | h
      · exact absurd h HEE.out
      · exact h.1
    · rcases HE.out with h | h
      · exact absurd h HEE.out
      · exact h.2
end Go.Proofs.YtkimhlomadmnkaaDoor
