/- BinOnce returns true for every bytes: what is got is put as no more bytes, and got again the same. Condition: the three tables start as the program's text lays them (the card ties them). -/
import Derived.Test.YtglhnmbfkbjemaaDoorBInB
import Derived.Test.YtglhnmbfkbjemaaDoorClone
import Derived.Test.YtglhnmbfkbjemaaDoorLib
import Derived.Test.YtglhnmbfkbjemaaDoorRows
import Derived.Test.YtglhnmbfkbjemaaDoorBText
import Derived.Test.YtglhnmbfkbjemaaDoorBGet
import Derived.Test.YtglhnmbfkbjemaaDoorBPut
import Derived.Deep.CutRange
import Derived.Test.YtglhnmbfkbjemaaDoorNSmall
import Derived.Test.YtglhnmbfkbjemaaDoorNWide
import Derived.Test.YtglhnmbfkbjemaaDoorBInC
import Derived.Test.YtglhnmbfkbjemaaDoorEqNums
import Derived.Test.YtglhnmbfkbjemaaDoorNMayC
import Derived.Test.YtglhnmbfkbjemaaDoorBLaid
/- bin.Step, by its contract. -/
namespace Go.Proofs.YtglhnmbfkbjemaaDoor
open Go Go.RowKit Go.Joins

/-- What Step answers. -/
def StepPost (bs : List UInt8) (w : World) (e : Ending) (w' : World) : Prop :=
  Below w.heap.size w w' ∧ match deltaL 4 5 bs with
    | .ok (m, k) => ∃ v, e = .returned (.tuple #[.int .u32 (m : Int), v, .int .i64 0]) ∧ Row isByte w' w.heap.size 5 v (bs.drop k).length ((bs.drop k).map bv)
    | .error er => e = .returned (.tuple #[.int .u32 0, .slice none 0 0, .int .i64 er])

set_option maxRecDepth 100000 in
set_option maxHeartbeats 1600000 in
theorem step_any (bs : List UInt8) (a : Option Addr) (n c : Nat) (w : World) (h : Sees w a n c (bs.map bv)) (hn : n ≤ 140737488355328) :
    Calls Tryd.prog 9 #[.slice a n c] w (StepPost bs w) := by
  have hd := delta_any bs a n c w h hn
  have hbl : bs.length = n := h.lenMap
  have HS := Lib.hid h
  have HD := Lib.hid hd
  clear h hd
  go_enter Tryd.func9, Tryd.ntmps9
  go_wp2_with fail
  refine HD.out.mono ?_
  rintro e w' ⟨rfl, hm⟩
  rcases hdl : deltaL 4 5 bs with er | ⟨m, k⟩
  · rw [hdl] at hm
    have hm : e = _ := hm
    subst hm
    have her : er = 4 ∨ er = 5 := dGo_er 4 5 bs 0 0 er hdl
    have HE := Lib.hid hdl
    clear hdl hbl
    rcases her with rfl | rfl
    · go_wp2
      go_ret3
      exact ⟨Below.refl _ _, by rw [HE.out]; exact rfl⟩
    · go_wp2
      go_ret3
      exact ⟨Below.refl _ _, by rw [HE.out]; exact rfl⟩
  · rw [hdl] at hm
    have hm : e = _ := hm
    subst hm
    obtain ⟨hk1, hk2, hk3, hk4⟩ := enc_delta 4 5 hdl
    have HE := Lib.hid hdl
    rw [hbl] at hk2
    obtain ⟨a2, ec, see⟩ := HS.out.cut k n (by omega) (by omega)
    have see2 : Sees w' a2 (n - k) (c - k) ((bs.drop k).map bv) := by
      have e : (bs.drop k).map bv = List.drop k (List.take n (bs.map bv)) := by rw [List.take_of_length_le (by rw [List.length_map]; omega), List.map_drop]
      rw [e]; exact see
    have q := fun W => (run_from (P := Tryd.prog) Tryd.underlying22 size_u8 W a n c k (k : Int) rfl (by omega)).trans (congrArg (fun v => Result.ok v W) (show sliced a k n c 1 = _ from ec))
    have HL : Hid ((bs.drop k).length = n - k) := by show _ = _; rw [List.length_drop]; omega
    have HC := Lib.hid (clone_any (bs.drop k) a2 (n - k) (c - k) w' see2 (by omega))
    clear see see2 ec hdl hk1 hbl
    go_wp2_with fail
    refine HC.out.mono ?_
    rintro e w2 ⟨v, rfl, hrow, hb⟩
    have HR := Lib.hid hrow
    have HB := Lib.hid hb
    clear hrow hb
    go_wp2
    go_ret3
    exact ⟨HB.out, by rw [HE.out]; exact ⟨v, rfl, by rw [HL.out]; exact HR.out⟩⟩
end Go.Proofs.YtglhnmbfkbjemaaDoor
/- inquestref00.Bytes, by its contract. -/
namespace Go.Proofs.YtglhnmbfkbjemaaDoor
open Go Go.RowKit

set_option maxRecDepth 100000 in
set_option maxHeartbeats 400000 in
theorem bytes_any (bs cs : List UInt8) (a a' : Option Addr) (n c n' c' : Nat) (w : World) (h : Sees w a n c (bs.map bv)) (h' : Sees w a' n' c' (cs.map bv)) :
    Calls Tryd.prog 11 #[.slice a n c, .slice a' n' c'] w fun e w' => e = .returned (.bool (bs == cs)) ∧ w = w' := by
  have q1 := h.str (P := Tryd.prog) 22 5 9 Tryd.underlying22 Tryd.underlying5 Tryd.underlying9
  have q2 := h'.str (P := Tryd.prog) 22 5 9 Tryd.underlying22 Tryd.underlying5 Tryd.underlying9
  clear h h'
  go_enter Tryd.func11, Tryd.ntmps11
  go_wp2
  go_ret
  exact ⟨by simp [str], rfl⟩
end Go.Proofs.YtglhnmbfkbjemaaDoor
/- The law's lives of bin, by its contract. -/
namespace Go.Proofs.YtglhnmbfkbjemaaDoor
open Go Go.RowKit Go.Joins

def cLive : NormC := ⟨1, [], [(2, 2)], [], [4], []⟩
theorem cLive_may : mayC cLive = true := by decide +kernel
theorem cLive_put : putB cLive = [97, 105, 103, 32, 50, 32, 49, 32, 48, 32, 48, 32, 49, 32, 49, 10, 52, 10, 2, 0] := by decide +kernel

theorem cLive_wide : Wide cLive := by
  refine ⟨?_, ?_, ?_, ?_, ?_⟩
  · intro p hp; cases hp
  · intro p hp
    simp [cLive] at hp
    subst hp
    decide
  · intro p hp; cases hp
  · intro p hp
    simp [cLive] at hp
    omega
  · intro p hp; cases hp
/-- A step, where the answer is known. -/
theorem step_ok (bs : List UInt8) (m k : Nat) (hd : deltaL 4 5 bs = .ok (m, k)) (a : Option Addr) (n c : Nat) (w : World) (h : Sees w a n c (bs.map bv)) (hn : n ≤ 140737488355328) :
    Calls Tryd.prog 9 #[.slice a n c] w fun e w' => ∃ a2 c2, e = .returned (.tuple #[.int .u32 (m : Int), .slice a2 (bs.drop k).length c2, .int .i64 0]) ∧ Sees w' a2 (bs.drop k).length c2 ((bs.drop k).map bv) ∧ Below w.heap.size w w' := by
  refine (step_any bs a n c w h hn).mono ?_
  rintro e w' ⟨hb, hp⟩
  rw [hd] at hp
  obtain ⟨v, rfl, hr⟩ := hp
  obtain ⟨a2, c2, rfl⟩ := hr.form
  exact ⟨a2, c2, rfl, (row_sees_slice hr).2, hb⟩
theorem step_no (bs : List UInt8) (er : Int) (hd : deltaL 4 5 bs = .error er) (a : Option Addr) (n c : Nat) (w : World) (h : Sees w a n c (bs.map bv)) (hn : n ≤ 140737488355328) :
    Calls Tryd.prog 9 #[.slice a n c] w fun e w' => e = .returned (.tuple #[.int .u32 0, .slice none 0 0, .int .i64 er]) ∧ Below w.heap.size w w' := by
  refine (step_any bs a n c w h hn).mono ?_
  rintro e w' ⟨hb, hp⟩
  rw [hd] at hp
  exact ⟨hp, hb⟩
theorem get_no (bs : List UInt8) (er : Int) (hg : getB bs = .error er) (a : Option Addr) (n c : Nat) (w : World) (h : Sees w a n c (bs.map bv)) (hn : n ≤ 100000000) :
    Calls Tryd.prog 5 #[.slice a n c] w fun e w' => e = .returned (.tuple #[zeroCir, .int .i64 er]) ∧ Below w.heap.size w w' := by
  refine (bget_any bs a n c w h hn).mono ?_
  rintro e w' ⟨hb, hp⟩
  rcases hp with ⟨c2, s, h1, _⟩ | ⟨er2, h1, _, rfl⟩
  · rw [hg] at h1; cases h1
  · rw [hg] at h1; cases h1; exact ⟨rfl, hb⟩
theorem put_live (s : CSlots) (w : World) (h : SeesCir w s cLive) (hs : s.small) (htab : Tab w) :
    Calls Tryd.prog 7 #[cirV 1 s] w fun e w' => ∃ a c, e = .returned (.tuple #[.slice a 20 c, .int .i64 0]) ∧ Sees w' a 20 c (([97, 105, 103, 32, 50, 32, 49, 32, 48, 32, 48, 32, 49, 32, 49, 10, 52, 10, 2, 0] : List UInt8).map bv) ∧ Below w.heap.size w w' := by
  refine (bput_any cLive s w h hs (by decide) (by decide) cLive_wide htab).mono ?_
  rintro e w' ⟨hb, hp⟩
  rcases hp with ⟨h1, _⟩ | ⟨_, v, rfl, hr⟩
  · rw [cLive_may] at h1; cases h1
  · rw [cLive_put] at hr
    obtain ⟨a, c, rfl⟩ := hr.form
    exact ⟨a, c, rfl, (row_sees_slice hr).2, hb⟩

set_option maxRecDepth 100000 in
set_option maxHeartbeats 6400000 in
theorem lives4_any (w : World) (htab : Tab w) : Calls Tryd.prog 4 #[] w fun e w' => e = .returned (.bool true) ∧ Below w.heap.size w w' := by
  have d1 : deltaL 4 5 [130, 1] = .ok (130, 2) := by kernel_rfl
  have d2 : deltaL 4 5 [128, 0] = .error 5 := by kernel_rfl
  have d3 : deltaL 4 5 [128] = .error 4 := by kernel_rfl
  have d4 : deltaL 4 5 [5, 7] = .ok (5, 1) := by kernel_rfl
  have S1 := Lib.hid (step_ok [130, 1] 130 2 d1)
  have S2 := Lib.hid (step_no [128, 0] 5 d2)
  have S3 := Lib.hid (step_no [128] 4 d3)
  have S4 := Lib.hid (step_ok [5, 7] 5 1 d4)
  clear d1 d2 d3 d4
  have HT := Lib.hid htab
  clear htab
  have T1 := Lib.hid (fun a W (h : Sees W a 2 2 (([0, 0] : List UInt8).map bv)) => text4_any [97, 105, 103, 32, 50, 32, 49, 32, 48, 32, 48, 32, 49, 47] [0, 0] a 2 2 W h (by decide) (by decide) (by decide))
  have T2 := Lib.hid (fun W => text4_any [97, 105, 103, 32, 50, 32, 49, 32, 48, 32, 48, 32, 48, 47] [] none 0 0 W (Sees.nil _ _ _ (fun _ => rfl)) (by decide) (by decide) (by decide))
  have T3 := Lib.hid (fun a W (h : Sees W a 2 2 (([2, 0] : List UInt8).map bv)) => text4_any [97, 105, 103, 32, 50, 32, 49, 32, 48, 32, 48, 32, 49, 32, 49, 47, 52, 47] [2, 0] a 2 2 W h (by decide) (by decide) (by decide))
  have g1 : getB ([97, 105, 103, 32, 50, 32, 49, 32, 48, 32, 48, 32, 49, 47].map slash ++ [0, 0]) = .error 5 := by kernel_rfl
  have g2 : getB ([97, 105, 103, 32, 50, 32, 49, 32, 48, 32, 48, 32, 48, 47].map slash ++ []) = .error 5 := by kernel_rfl
  have G1 := Lib.hid (get_no _ 5 g1)
  have G2 := Lib.hid (get_no _ 5 g2)
  clear g1 g2
  go_enter Tryd.func4, Tryd.ntmps4
  unfold zeroCir at G1 G2
  have BY : Hid (∀ (bs cs : List UInt8) (a a' : Option Addr) (n c n' c' : Nat) (W : World), bs = cs → Sees W a n c (bs.map bv) → Sees W a' n' c' (cs.map bv) → Calls Tryd.prog 11 #[.slice a n c, .slice a' n' c'] W fun e w' => e = .returned (.bool true) ∧ W = w') := by
    intro bs cs a a' n c n' c' W he h h'
    refine (bytes_any bs cs a a' n c n' c' W h h').mono ?_
    rintro e w' ⟨h1, h2⟩
    rw [he, beq_self_eq_true] at h1
    exact ⟨h1, h2⟩
  go_wp2_with fail
  generalize hW : World.alloc (World.alloc _ _) _ = W1
  have hc1 : SeesCir W1 ⟨none, 0, 0, some ⟨w.heap.size, 0, none⟩, 1, 1, none, 0, 0, some ⟨w.heap.size + 1, 0, none⟩, 1, 1, none, 0, 0⟩ cLive := by
    subst hW
    have h2 := (sees_lit w 39 (0, 0) #[.int .u32 2, .int .u32 2] (prCs nv32 [(2, 2)]) 2 rfl rfl).below (ext_alloc _ (.cells #[.int .u32 4] 37))
    have h4 := sees_at (w.alloc (.cells #[.int .u32 2, .int .u32 2] 39)) 37 (0, 0) #[.int .u32 4] ([4].map nv32) 1 (w.heap.size + 1) rfl rfl (by simp)
    exact ⟨Sees2.nil _ _, ⟨rfl, Nat.le_refl _, h2⟩, Sees.nil _ _ _ (fun _ => rfl), h4, Sees.nil _ _ _ (fun _ => rfl)⟩
  have hb0 : Below w.heap.size w W1 := by subst hW; exact ext_trans (ext_alloc _ _) (ext_alloc _ _)
  have HB0 := Lib.hid hb0
  have HP := Lib.hid (put_live _ W1 hc1 ⟨Nat.zero_le _, by show 1 ≤ 1048576; omega, Nat.zero_le _, by show 1 ≤ 1048576; omega, Nat.zero_le _⟩ (HT.out.below hb0 (Nat.le_refl _)))
  clear hW hc1 hb0 HT
  refine (HP.out).mono ?_
  rintro e w1 ⟨a1, c1, rfl, hs1, hb1⟩
  have HS1 := Lib.hid hs1
  have HB1 := Lib.hid (ext_trans HB0.out hb1)
  clear hs1 hb1 HB0 HP
  go_wp2_with fail
  refine (S1.out _ 2 2 _ (sees_lit w1 _ _ _ (([130, 1] : List UInt8).map bv) 2 rfl rfl) (by decide)).mono ?_
  rintro e w2 ⟨a2, c2, rfl, hs2, hb2⟩
  have hbb := ext_trans (ext_alloc _ _) hb2
  have HS1k := Lib.hid (HS1.out.below hbb)
  clear HS1
  have HB2 := Lib.hid (ext_trans HB1.out hbb)
  clear hbb hb2 HB1
  go_wp2_with fail
  refine (S2.out _ 2 2 _ (sees_lit w2 _ _ _ (([128, 0] : List UInt8).map bv) 2 rfl rfl) (by decide)).mono ?_
  rintro e w3 ⟨rfl, hb3⟩
  have hbb := ext_trans (ext_alloc _ _) hb3
  have HS1kk := Lib.hid (HS1k.out.below hbb)
  clear HS1k
  have HB3 := Lib.hid (ext_trans HB2.out hbb)
  clear hbb hb3 HB2
  go_wp2_with fail
  refine (S3.out _ 1 1 _ (sees_lit w3 _ _ _ (([128] : List UInt8).map bv) 1 rfl rfl) (by decide)).mono ?_
  rintro e w4 ⟨rfl, hb4⟩
  have hbb := ext_trans (ext_alloc _ _) hb4
  have HS1kkk := Lib.hid (HS1kk.out.below hbb)
  clear HS1kk
  have HB4 := Lib.hid (ext_trans HB3.out hbb)
  clear hbb hb4 HB3
  go_wp2_with fail
  refine (S4.out _ 2 2 _ (sees_lit w4 _ _ _ (([5, 7] : List UInt8).map bv) 2 rfl rfl) (by decide)).mono ?_
  rintro e w5 ⟨a5, c5, rfl, hs5, hb5⟩
  have hbb := ext_trans (ext_alloc _ _) hb5
  have HS1kkkk := Lib.hid (HS1kkk.out.below hbb)
  clear HS1kkk
  have HL5 := Lib.hid hs5
  clear hs5
  have HB5 := Lib.hid (ext_trans HB4.out hbb)
  clear hbb hb5 HB4
  go_wp2_with fail
  refine (T1.out _ _ (sees_lit w5 _ _ _ (([0, 0] : List UInt8).map bv) 2 rfl rfl)).mono ?_
  rintro e w6 ⟨a6, c6, rfl, hs6, hb6⟩
  have hbb := ext_trans (ext_alloc _ _) hb6
  have HS1kkkkk := Lib.hid (HS1kkkk.out.below hbb)
  clear HS1kkkk
  have HL5k := Lib.hid (HL5.out.below hbb)
  clear HL5
  have HT6 := Lib.hid hs6
  clear hs6
  have HB6 := Lib.hid (ext_trans HB5.out hbb)
  clear hbb hb6 HB5
  go_wp2_with fail
  refine (G1.out _ _ _ _ HT6.out (by decide)).mono ?_
  rintro e w7 ⟨rfl, hb7⟩
  have hbb := hb7
  have HS1kkkkkk := Lib.hid (HS1kkkkk.out.below hbb)
  clear HS1kkkkk
  have HL5kk := Lib.hid (HL5k.out.below hbb)
  clear HL5k
  have HT6k := Lib.hid (HT6.out.below hbb)
  clear HT6
  have HB7 := Lib.hid (ext_trans HB6.out hbb)
  clear hbb hb7 HB6
  go_upto_region 7 with fail
  generalize hW : World.alloc _ _ = Z7
  have HS1kkkkkkr := Lib.hid (show Sees Z7 _ _ _ _ by subst hW; exact HS1kkkkkk.out.below (ext_alloc _ _))
  clear HS1kkkkkk
  have HL5kkr := Lib.hid (show Sees Z7 _ _ _ _ by subst hW; exact HL5kk.out.below (ext_alloc _ _))
  clear HL5kk
  have HT6kr := Lib.hid (show Sees Z7 _ _ _ _ by subst hW; exact HT6k.out.below (ext_alloc _ _))
  clear HT6k
  have HB7r := Lib.hid (show Below w.heap.size w Z7 by subst hW; exact ext_trans HB7.out (ext_alloc _ _))
  clear hW HB7
  have HB7 := HB7r
  clear HB7r
  go_wp2_with fail
  refine (T2.out _).mono ?_
  rintro e w8 ⟨a8, c8, rfl, hs8, hb8⟩
  have hbb := hb8
  have HS1kkkkkkrk := Lib.hid (HS1kkkkkkr.out.below hbb)
  clear HS1kkkkkkr
  have HL5kkrk := Lib.hid (HL5kkr.out.below hbb)
  clear HL5kkr
  have HT6krk := Lib.hid (HT6kr.out.below hbb)
  clear HT6kr
  have HT8 := Lib.hid hs8
  clear hs8
  have HB8 := Lib.hid (ext_trans HB7.out hbb)
  clear hbb hb8 HB7
  go_wp2_with fail
  refine (G2.out _ _ _ _ HT8.out (by decide)).mono ?_
  rintro e w9 ⟨rfl, hb9⟩
  have hbb := hb9
  have HS1kkkkkkrkk := Lib.hid (HS1kkkkkkrk.out.below hbb)
  clear HS1kkkkkkrk
  have HL5kkrkk := Lib.hid (HL5kkrk.out.below hbb)
  clear HL5kkrk
  have HT6krkk := Lib.hid (HT6krk.out.below hbb)
  clear HT6krk
  have HT8k := Lib.hid (HT8.out.below hbb)
  clear HT8
  have HB9 := Lib.hid (ext_trans HB8.out hbb)
  clear hbb hb9 HB8
  go_upto_region 8 with fail
  generalize hW : World.alloc _ _ = Z9
  have HS1kkkkkkrkkr := Lib.hid (show Sees Z9 _ _ _ _ by subst hW; exact HS1kkkkkkrkk.out.below (ext_alloc _ _))
  clear HS1kkkkkkrkk
  have HL5kkrkkr := Lib.hid (show Sees Z9 _ _ _ _ by subst hW; exact HL5kkrkk.out.below (ext_alloc _ _))
  clear HL5kkrkk
  have HT6krkkr := Lib.hid (show Sees Z9 _ _ _ _ by subst hW; exact HT6krkk.out.below (ext_alloc _ _))
  clear HT6krkk
  have HT8kr := Lib.hid (show Sees Z9 _ _ _ _ by subst hW; exact HT8k.out.below (ext_alloc _ _))
  clear HT8k
  have HB9r := Lib.hid (show Below w.heap.size w Z9 by subst hW; exact ext_trans HB9.out (ext_alloc _ _))
  clear hW HB9
  have HB9 := HB9r
  clear HB9r
  go_wp2_with fail
  refine (T3.out _ _ (sees_lit Z9 _ _ _ (([2, 0] : List UInt8).map bv) 2 rfl rfl)).mono ?_
  rintro e w10 ⟨a10, c10, rfl, hs10, hb10⟩
  have hbb := ext_trans (ext_alloc _ _) hb10
  have J1 := Lib.hid (HS1kkkkkkrkkr.out.below hbb)
  clear HS1kkkkkkrkkr
  have J5 := Lib.hid (HL5kkrkkr.out.below hbb)
  clear HL5kkrkkr
  have J10 := Lib.hid hs10
  have HB10 := Lib.hid (ext_trans HB9.out hbb)
  clear hbb hs10 hb10 HB9
  go_wp2_with fail
  refine (BY.out _ _ _ _ _ _ _ _ _ (by rfl) J1.out J10.out).mono ?_
  rintro e wz ⟨rfl, rfl⟩
  go_wp2_with fail
  refine (BY.out [7] [7] _ _ _ _ _ _ _ rfl (J5.out.below (ext_alloc _ _)) (sees_lit w10 _ _ _ (([7] : List UInt8).map bv) 1 rfl rfl)).mono ?_
  rintro e wz ⟨rfl, rfl⟩
  go_wp2_with fail
  go_ret
  exact ⟨rfl, ext_trans HB10.out (ext_alloc _ _)⟩
end Go.Proofs.YtglhnmbfkbjemaaDoor
/- inquestref03.lits, by its contract. -/
namespace Go.Proofs.YtglhnmbfkbjemaaDoor
open Go Go.RowKit Go.Joins
set_option maxRecDepth 100000 in
theorem reflits_any (m : Nat) (l : List Nat) (a : Option Addr) (n c : Nat) (hn : n ≤ 1048576) (hx : ∀ x ∈ l, x < 4294967296) (w : World) (h : Sees w a n c (l.map nv32)) :
    Calls Tryd.prog 24 #[.slice a n c, .int .i64 (m : Int)] w fun e w' => e = .returned (.bool (!badList m l)) ∧ w = w' := by
  have hl := h.lenMap
  obtain ⟨q, hq⟩ : ∃ q, q = badList m l := ⟨_, rfl⟩
  have NO : Hid (∀ k, k < n → m < l.getD k 0 / 2 → q = true) := fun k hk hb => by
    rw [hq]; unfold badList
    rw [show l.any (above m) = true from List.any_eq_true.2 ⟨l.getD k 0, getD_mem (by rw [hl]; exact hk), by unfold above; exact decide_eq_true (by omega)⟩]; simp
  have YES : Hid ((∀ k, k < n → ¬ m < l.getD k 0 / 2) → q = decide (1024 < n)) := fun hh => by
    rw [hq]; unfold badList
    rw [hl, show l.any (above m) = false from any_none (all_of_getD (d := 0) (fun j hj => by have := hh j (by rw [← hl]; exact hj); unfold above; exact decide_eq_false (by omega)))]; simp
  have HX := Lib.hid hx
  have HS := Lib.hid h
  have HL := Lib.hid hl
  rw [← hq]
  clear hq h hl hx
  go_enter Tryd.func24, Tryd.ntmps24
  go_wp2
  go_loop [5] (fun i => ∃ k : Nat, k ≤ n ∧ i = .int .i64 k ∧ Hid (∀ j, j < k → ¬ m < l.getD j 0 / 2)) (fun i => n - (intOf i).toNat)
  case atStart => exact ⟨0, Nat.zero_le _, rfl, fun j hj => absurd hj (by omega)⟩
  case round =>
    obtain ⟨k, hk, rfl, hno⟩ := hrel
    by_cases hlt : k < n
    · obtain ⟨b, off, rfl, hbw⟩ := HS.out.addr (by omega)
      have hcx := HS.out.num k hlt
      have h32 := HX.out (l.getD k 0) (getD_mem (by rw [HL.out]; exact hlt))
      obtain ⟨x, hx⟩ : ∃ x, x = l.getD k 0 := ⟨_, rfl⟩
      rw [← hx] at hcx h32
      have D1 : Int.tdiv (x : Int) 2 = ((x / 2 : Nat) : Int) := by rw [Int.tdiv_eq_ediv_of_nonneg (by omega)]; omega
      obtain ⟨u, hu⟩ : ∃ u, u = x / 2 := ⟨_, rfl⟩
      have hu3 : u < 4294967296 := by omega
      rw [← hu] at D1
      have U1 : IntKind.u32.wrap ((u : Nat) : Int) = (u : Int) := IntWalk.u32_in _ (by omega)
      have U2 : IntKind.i64.wrap ((u : Nat) : Int) = (u : Int) := IntWalk.i64_in _ (by omega)
      have HU : Hid (u = l.getD k 0 / 2) := by show _ = _; rw [hu, hx]
      have W1 : IntKind.i64.wrap ((k : Int) + 1) = (k : Int) + 1 := IntWalk.i64_in _ (by omega)
      clear hx hu
      by_cases hq : m < u
      · have e1 : decide ((m : Int) < (u : Int)) = true := by simp; omega
        have HQ : Hid (q = true) := NO.out k hlt (by rw [← HU.out]; exact hq)
        go_wp2
        go_ret
        exact ⟨by rw [HQ.out]; rfl, rfl⟩
      · have e1 : decide ((m : Int) < (u : Int)) = false := by simp; omega
        have HQ := Lib.hid hq
        clear hq
        go_wp2
        go_round
        case rel =>
          refine ⟨k + 1, by omega, by go_num, fun j hj => ?_⟩
          rcases Nat.lt_or_ge j k with h | h
          · exact hno.out j h
          · have : j = k := by omega
            subst this
            rw [← HU.out]; exact HQ.out
        case measure => simp [intOf]; omega
    · have hkn : k = n := by omega
      subst hkn
      have Y := Lib.hid (YES.out hno.out)
      by_cases hq : k ≤ 1024
      · have e1 : decide ((k : Int) ≤ 1024) = true := by simp; omega
        have HQ := Lib.hid hq
        clear hq
        go_wp2
        go_ret
        exact ⟨by rw [Y.out]; simp; exact HQ.out, rfl⟩
      · have e1 : decide ((k : Int) ≤ 1024) = false := by simp; omega
        have HQ := Lib.hid hq
        clear hq
        go_wp2
        go_ret
        exact ⟨by rw [Y.out]; have := HQ.out; simp; omega, rfl⟩
end Go.Proofs.YtglhnmbfkbjemaaDoor
/- inquestref03.May, by its contract. -/
namespace Go.Proofs.YtglhnmbfkbjemaaDoor
open Go Go.RowKit Go.Joins

theorem any_getD {α : Type} {l : List α} {p : α → Bool} {d : α} {k : Nat} (hk : k < l.length) (h : p (l.getD k d) = true) : l.any p = true := List.any_eq_true.2 ⟨l.getD k d, getD_mem hk, h⟩
theorem any_noD {α : Type} {l : List α} {p : α → Bool} {d : α} {n : Nat} (hn : l.length = n) (h : ∀ k, k < n → p (l.getD k d) = false) : l.any p = false := any_none (all_of_getD (d := d) (fun j hj => h j (by rw [← hn]; exact hj)))

set_option maxRecDepth 100000 in
set_option maxHeartbeats 3200000 in
theorem refmay3_any (c : NormC) (s : CSlots) (w : World) (h : SeesCir w s c) (hs : s.small) (hlo : -9223372036854775808 ≤ c.ins) (hhi : c.ins < 9223372036854775808) (hw : Wide c) :
    Calls Tryd.prog 8 #[cirV c.ins s] w fun e w' => e = .returned (.bool (mayC c)) ∧ Below w.heap.size w w' := by
  obtain ⟨a1, n1, c1, a2, n2, c2, a3, n3, c3, a4, n4, c4, a5, n5, c5⟩ := s
  obtain ⟨hs1, hs2, hs3, hs4, hs5⟩ := hs
  simp only at hs1 hs2 hs3 hs4 hs5
  have L1 : Hid (c.lats.length = n1) := h.s1.1
  have L2 : Hid (c.gates.length = n2) := h.s2.1
  obtain ⟨z, hz⟩ : ∃ z, z = c.ins := ⟨_, rfl⟩
  obtain ⟨q, hq⟩ : ∃ q, q = mayC c := ⟨_, rfl⟩
  rw [← hz] at hlo hhi
  have HW := Lib.hid hw
  have HS := Lib.hid h
  rw [← hz, ← hq]
  have N0 : Hid (z < 0 → q = false) := fun t => by rw [hq]; unfold mayC tooMany; rw [← hz, decide_eq_true t]; rfl
  have N1 : Hid (16384 - z < ((n1 + n2 : Nat) : Int) → q = false) := fun t => by rw [hq]; unfold mayC tooMany; rw [← hz, L1.out, L2.out, decide_eq_true t]; simp
  unfold cirV
  by_cases t : z < 0
  · have e : decide (z < 0) = true := by simpa using t
    have HF : Hid (q = false) := N0.out t
    clear hz hq
    go_enter Tryd.func8, Tryd.ntmps8
    go_wp2
    go_ret
    exact ⟨by rw [HF.out]; rfl, ext_alloc _ _⟩
  obtain ⟨i, rfl⟩ := Int.eq_ofNat_of_zero_le (show 0 ≤ z by omega)
  have e0 : decide ((i : Int) < 0) = false := by simp
  clear t
  by_cases t : 16384 < i
  · have e : decide ((16384 : Int) < (i : Int)) = true := by simp; omega
    have HF : Hid (q = false) := N1.out (by omega)
    clear hz hq
    go_enter Tryd.func8, Tryd.ntmps8
    go_wp2
    go_ret
    exact ⟨by rw [HF.out]; rfl, ext_alloc _ _⟩
  have e1 : decide ((16384 : Int) < (i : Int)) = false := by simp; omega
  have t1 := t
  clear t
  by_cases t : 16384 < n1
  · have e : decide ((16384 : Int) < (n1 : Int)) = true := by simp; omega
    have HF : Hid (q = false) := N1.out (by omega)
    clear hz hq
    go_enter Tryd.func8, Tryd.ntmps8
    go_wp2
    go_ret
    exact ⟨by rw [HF.out]; rfl, ext_alloc _ _⟩
  have e2 : decide ((16384 : Int) < (n1 : Int)) = false := by simp; omega
  have t2 := t
  clear t
  by_cases t : 16384 < n2
  · have e : decide ((16384 : Int) < (n2 : Int)) = true := by simp; omega
    have HF : Hid (q = false) := N1.out (by omega)
    clear hz hq
    go_enter Tryd.func8, Tryd.ntmps8
    go_wp2
    go_ret
    exact ⟨by rw [HF.out]; rfl, ext_alloc _ _⟩
  have e3 : decide ((16384 : Int) < (n2 : Int)) = false := by simp; omega
  have t3 := t
  clear t
  have U1 : IntKind.i64.wrap ((i : Int) + (n1 : Int)) = (i : Int) + (n1 : Int) := IntWalk.i64_in _ (by omega)
  have U2 : IntKind.i64.wrap ((i : Int) + (n1 : Int) + (n2 : Int)) = (i : Int) + (n1 : Int) + (n2 : Int) := IntWalk.i64_in _ (by omega)
  by_cases t : 16384 < i + n1 + n2
  · have e : decide ((16384 : Int) < (i : Int) + (n1 : Int) + (n2 : Int)) = true := by simp; omega
    have HF : Hid (q = false) := N1.out (by omega)
    clear hz hq
    go_enter Tryd.func8, Tryd.ntmps8
    go_wp2
    go_ret
    exact ⟨by rw [HF.out]; rfl, ext_alloc _ _⟩
  have e4 : decide ((16384 : Int) < (i : Int) + (n1 : Int) + (n2 : Int)) = false := by simp; omega
  obtain ⟨m, hm⟩ : ∃ m, m = i + n1 + n2 := ⟨_, rfl⟩
  have hv : mayC c = (!badList m c.outs && (!badList m c.bads && (!badList m c.cons && (!c.lats.any (badLat2 m) && !badGates (1 + i + c.lats.length) c.gates)))) := by
    have e3 : varsN c = m := by unfold varsN; rw [← hz, L1.out, L2.out, hm]; simp
    unfold mayC tooMany
    rw [e3, ← hz, L1.out, L2.out, show decide ((i : Int) < 0) = false by simp, show decide (16384 - (i : Int) < ((n1 + n2 : Nat) : Int)) = false from decide_eq_false (by omega)]
    simp
  rw [← hq] at hv
  have NL : Hid (∀ k, k < n1 → badLat2 m (c.lats.getD k (0, 0)) = true → q = false) := fun k hk hb => by
    rw [hv, any_getD (by rw [L1.out]; exact hk) hb]; simp
  have NG : Hid (∀ k, k < n2 → badGate2 (1 + i + n1 + k) (c.gates.getD k (0, 0)) = true → q = false) := fun k hk hb => by
    rw [hv, (badGates_at c.gates (1 + i + c.lats.length)).2 ⟨k, by rw [L2.out]; exact hk, by rw [L1.out]; exact hb⟩]; simp
  have YES : Hid ((∀ k, k < n1 → badLat2 m (c.lats.getD k (0, 0)) = false) → (∀ k, k < n2 → badGate2 (1 + i + n1 + k) (c.gates.getD k (0, 0)) = false) → q = (!badList m c.outs && (!badList m c.bads && !badList m c.cons))) := fun h1 h2 => by
    rw [hv, any_noD L1.out h1, badGates_no.2 (fun k hk => by rw [L1.out]; exact h2 k (by rw [← L2.out]; exact hk))]; simp
  have hm16 : m ≤ 16384 := by omega
  have HM := Lib.hid hm
  clear hv hz hq hm t N0 N1
  go_enter Tryd.func8, Tryd.ntmps8
  go_upto_region 6 with fail
  clear e0 e1 e2 e3 e4 t1 t2 t3
  generalize hW : World.alloc _ _ = W1
  rw [show (i : Int) + (n1 : Int) + (n2 : Int) = (m : Int) by have := HM.out; omega]
  have B1 : Below w.heap.size w W1 := by subst hW; exact ext_alloc _ _
  have hX : W1.heap[w.heap.size]? = some (.cells #[.int .i64 i, .slice a1 n1 c1, .slice a2 n2 c2, .slice a3 n3 c3, .slice a4 n4 c4, .slice a5 n5 c5] 28 (0, 0)) := by subst hW; exact heap_new _ _ _ rfl
  clear hW U1 U2
  have HB1 := Lib.hid B1
  have HX := Lib.hid hX
  have HS := Lib.hid (HS.out.below B1)
  clear B1 hX
  go_wp2
  go_loopw [4] (fun ii wr => ∃ k : Nat, k ≤ n1 ∧ ii = .int .i64 k ∧ Hid (∀ j, j < k → badLat2 m (c.lats.getD j (0, 0)) = false) ∧ Hid (Below W1.heap.size W1 wr)) (fun ii _ => n1 - (intOf ii).toNat)
  case atStart => exact ⟨0, Nat.zero_le _, rfl, fun j hj => absurd hj (by omega), Below.refl _ _⟩
  case round =>
    obtain ⟨k, hk, rfl, hno, hB⟩ := hrel
    have p := cell_of_block (heap_below HX.out hB.out) 1
    by_cases hlt : k < n1
    · obtain ⟨b, off, rfl, hbw⟩ := HS.out.s1.addr (show 0 < n1 by omega)
      obtain ⟨qx, qy⟩ := (HS.out.s1.below hB.out).cells k hlt (0, 0)
      have hbad := NL.out k hlt
      have hwd := HW.out.lats (c.lats.getD k (0, 0)) (getD_mem (by rw [L1.out]; exact hlt))
      obtain ⟨t, ht⟩ : ∃ t, t = c.lats.getD k (0, 0) := ⟨_, rfl⟩
      rw [← ht] at qx qy hbad hwd
      have STEP : Hid (badLat2 m t = false → ∀ j, j < k + 1 → badLat2 m (c.lats.getD j (0, 0)) = false) := fun hq j hj => by
        rcases Nat.lt_or_ge j k with h | h
        · exact hno.out j h
        · have : j = k := by omega
          subst this
          rw [← ht]; exact hq
      clear ht
      obtain ⟨x, y⟩ := t
      simp only [nv32, nv8] at qx qy
      simp only at hwd
      obtain ⟨hw1, hw2⟩ := hwd
      have W1' : IntKind.i64.wrap ((k : Int) + 1) = (k : Int) + 1 := IntWalk.i64_in _ (by omega)
      have D1 : Int.tdiv (x : Int) 2 = ((x / 2 : Nat) : Int) := by rw [Int.tdiv_eq_ediv_of_nonneg (by omega)]; omega
      obtain ⟨u, hu⟩ : ∃ u, u = x / 2 := ⟨_, rfl⟩
      have hu3 : u < 4294967296 := by omega
      rw [← hu] at D1
      have U1 : IntKind.u32.wrap ((u : Nat) : Int) = (u : Int) := IntWalk.u32_in _ (by omega)
      have U2 : IntKind.i64.wrap ((u : Nat) : Int) = (u : Int) := IntWalk.i64_in _ (by omega)
      have HU : Hid (above m x = decide (m < u)) := by show _ = _; unfold above; exact decide_eq_decide.2 (by omega)
      have HBAD := Lib.hid hbad
      have HBB := Lib.hid hB.out
      clear hbad hB hno hu
      by_cases b1 : m < u
      · have hb : Hid (q = false) := HBAD.out (by unfold badLat2; rw [HU.out, decide_eq_true b1]; rfl)
        have g1 : decide ((m : Int) < (u : Int)) = true := by simp; omega
        go_wp2
        go_ret
        exact ⟨by rw [hb.out]; rfl, ext_trans HB1.out HBB.out⟩
      have g1 : decide ((m : Int) < (u : Int)) = false := by simp; omega
      by_cases b2 : 2 < y
      · have hb : Hid (q = false) := HBAD.out (by unfold badLat2; simp only; rw [decide_eq_true b2]; simp)
        have g2 : decide ((2 : Int) < (y : Int)) = true := by simp; omega
        go_wp2
        go_ret
        exact ⟨by rw [hb.out]; rfl, ext_trans HB1.out HBB.out⟩
      have g2 : decide ((2 : Int) < (y : Int)) = false := by simp; omega
      have HN := Lib.hid (STEP.out (by unfold badLat2; rw [HU.out]; simp only; rw [decide_eq_false b1, decide_eq_false b2]; rfl))
      clear STEP HBAD
      go_wp2
      go_roundw
      case rel => exact ⟨k + 1, by omega, by go_num, HN.out, HBB.out⟩
      case measure => simp [intOf]; omega
    · obtain rfl : n1 = k := by omega
      have YES := Lib.hid (YES.out hno.out)
      have HBL := Lib.hid hB.out
      clear hno hB hlt hk NL
      go_wp2
      clear p
      go_loopw [5] (fun ii wr => ∃ k : Nat, k ≤ n2 ∧ ii = .int .i64 k ∧ Hid (∀ j, j < k → badGate2 (1 + i + n1 + j) (c.gates.getD j (0, 0)) = false) ∧ Hid (Below W1.heap.size W1 wr)) (fun ii _ => n2 - (intOf ii).toNat)
      case atStart => exact ⟨0, Nat.zero_le _, rfl, fun j hj => absurd hj (by omega), HBL.out⟩
      case round =>
        clear HBL
        obtain ⟨k, hk, rfl, hno, hB⟩ := hrel
        have p2 := cell_of_block (heap_below HX.out hB.out) 2
        by_cases hlt : k < n2
        · obtain ⟨b, off, rfl, hbw⟩ := HS.out.s2.addr (show 0 < n2 by omega)
          obtain ⟨qx, qy⟩ := (HS.out.s2.below hB.out).cells k hlt (0, 0)
          have hbad := NG.out k hlt
          have hwd := HW.out.gates (c.gates.getD k (0, 0)) (getD_mem (by rw [L2.out]; exact hlt))
          obtain ⟨t, ht⟩ : ∃ t, t = c.gates.getD k (0, 0) := ⟨_, rfl⟩
          rw [← ht] at qx qy hbad hwd
          have STEP : Hid (badGate2 (1 + i + n1 + k) t = false → ∀ j, j < k + 1 → badGate2 (1 + i + n1 + j) (c.gates.getD j (0, 0)) = false) := fun hq j hj => by
            rcases Nat.lt_or_ge j k with h | h
            · exact hno.out j h
            · have : j = k := by omega
              subst this
              rw [← ht]; exact hq
          clear ht
          obtain ⟨x, y⟩ := t
          simp only [nv32] at qx qy
          simp only at hwd
          obtain ⟨hw1, hw2⟩ := hwd
          go_upto_region 15 with fail
          generalize hW : World.alloc wr _ = Wg
          have Bg : Below wr.heap.size wr Wg := by subst hW; exact ext_alloc _ _
          have hG : Wg.heap[wr.heap.size]? = some (.cells #[.int .u32 x, .int .u32 y] 39 (0, 0)) := by subst hW; exact heap_new _ _ _ rfl
          have HBB := Lib.hid (ext_trans hB.out Bg)
          have r0 : Wg.cell? ⟨wr.heap.size, 0, none⟩ = some (.int .u32 x) := cell_of_block hG 0
          have r1 : Wg.cell? ⟨wr.heap.size, 1, none⟩ = some (.int .u32 y) := cell_of_block hG 1
          have p0 := cell_of_block (heap_below HX.out HBB.out) 0
          have p1 := cell_of_block (heap_below HX.out HBB.out) 1
          clear hW hG Bg qx qy p2 hbw
          have W1' : IntKind.i64.wrap ((k : Int) + 1) = (k : Int) + 1 := IntWalk.i64_in _ (by omega)
          have D1 : Int.tdiv (x : Int) 2 = ((x / 2 : Nat) : Int) := by rw [Int.tdiv_eq_ediv_of_nonneg (by omega)]; omega
          obtain ⟨u, hu⟩ : ∃ u, u = x / 2 := ⟨_, rfl⟩
          have hu3 : u < 4294967296 := by omega
          rw [← hu] at D1
          have U1 : IntKind.u32.wrap ((u : Nat) : Int) = (u : Int) := IntWalk.u32_in _ (by omega)
          have U2 : IntKind.i64.wrap ((u : Nat) : Int) = (u : Int) := IntWalk.i64_in _ (by omega)
          have V1 : IntKind.i64.wrap ((i : Int) + (n1 : Int)) = (i : Int) + (n1 : Int) := IntWalk.i64_in _ (by have := HM.out; omega)
          have V2 : IntKind.i64.wrap ((i : Int) + (n1 : Int) + 1) = (i : Int) + (n1 : Int) + 1 := IntWalk.i64_in _ (by have := HM.out; omega)
          have V3 : IntKind.i64.wrap ((i : Int) + (n1 : Int) + 1 + (k : Int)) = (i : Int) + (n1 : Int) + 1 + (k : Int) := IntWalk.i64_in _ (by have := HM.out; omega)
          have HU : Hid (decide (2 * (1 + i + n1 + k) ≤ x) = decide (i + n1 + 1 + k ≤ u)) := by show _ = _; exact decide_eq_decide.2 (by omega)
          have HBAD := Lib.hid hbad
          clear hbad hB hno hu
          by_cases b1 : i + n1 + 1 + k ≤ u
          · have hb : Hid (q = false) := HBAD.out (by unfold badGate2; simp only; rw [HU.out, decide_eq_true b1]; simp)
            have g1 : decide ((i : Int) + (n1 : Int) + 1 + (k : Int) ≤ (u : Int)) = true := by simp; omega
            go_wp2
            go_ret
            exact ⟨by rw [hb.out]; rfl, ext_trans HB1.out HBB.out⟩
          have g1 : decide ((i : Int) + (n1 : Int) + 1 + (k : Int) ≤ (u : Int)) = false := by simp; omega
          by_cases b2 : x < y
          · have hb : Hid (q = false) := HBAD.out (by unfold badGate2; simp only; rw [decide_eq_true b2]; rfl)
            have g2 : decide ((x : Int) < (y : Int)) = true := by simp; omega
            go_wp2
            go_ret
            exact ⟨by rw [hb.out]; rfl, ext_trans HB1.out HBB.out⟩
          have g2 : decide ((x : Int) < (y : Int)) = false := by simp; omega
          have HN := Lib.hid (STEP.out (by unfold badGate2; simp only; rw [HU.out, decide_eq_false b1, decide_eq_false b2]; rfl))
          clear STEP HBAD
          go_wp2
          go_roundw
          case rel => exact ⟨k + 1, by omega, by go_num, HN.out, HBB.out⟩
          case measure => simp [intOf]; omega
        · obtain rfl : n2 = k := by omega
          have YES := Lib.hid (YES.out hno.out)
          have HBL := Lib.hid hB.out
          have hxw := heap_below HX.out hB.out
          have p3 := cell_of_block hxw 3
          have p4 := cell_of_block hxw 4
          have p5 := cell_of_block hxw 5
          have HSR := Lib.hid (HS.out.below hB.out)
          clear hno hB hlt hk NG hxw
          obtain ⟨q3, h3⟩ : ∃ q, q = badList m c.outs := ⟨_, rfl⟩
          obtain ⟨q4, h4⟩ : ∃ q, q = badList m c.bads := ⟨_, rfl⟩
          obtain ⟨q5, h5⟩ : ∃ q, q = badList m c.cons := ⟨_, rfl⟩
          rw [← h3, ← h4, ← h5] at YES
          have C3 := Lib.hid (reflits_any m c.outs a3 n3 c3 hs3 HW.out.outs wr HSR.out.s3)
          have C4 := Lib.hid (reflits_any m c.bads a4 n4 c4 hs4 HW.out.bads wr HSR.out.s4)
          have C5 := Lib.hid (reflits_any m c.cons a5 n5 c5 hs5 HW.out.cons wr HSR.out.s5)
          rw [← h3] at C3
          rw [← h4] at C4
          rw [← h5] at C5
          clear h3 h4 h5 HSR
          go_wp2_with fail
          refine C3.out.mono ?_
          rintro e w' ⟨rfl, rfl⟩
          cases q3 with
          | true =>
            go_wp2
            go_ret
            exact ⟨by rw [YES.out]; simp, ext_trans HB1.out HBL.out⟩
          | false =>
          go_wp2_with fail
          refine C4.out.mono ?_
          rintro e w' ⟨rfl, rfl⟩
          cases q4 with
          | true =>
            go_wp2
            go_ret
            exact ⟨by rw [YES.out]; simp, ext_trans HB1.out HBL.out⟩
          | false =>
          go_wp2_with fail
          refine C5.out.mono ?_
          rintro e w' ⟨rfl, rfl⟩
          cases q5 with
          | true =>
            go_wp2
            go_ret
            exact ⟨by rw [YES.out]; simp, ext_trans HB1.out HBL.out⟩
          | false =>
          go_wp2
          go_ret
          exact ⟨by rw [YES.out]; rfl, ext_trans HB1.out HBL.out⟩
end Go.Proofs.YtglhnmbfkbjemaaDoor
/- inquestref03.Same: are two circuits the same? -/
namespace Go.Proofs.YtglhnmbfkbjemaaDoor
open Go Go.RowKit Go.Joins

theorem eqn_at (xs ys : List Nat) (a a' : Option Addr) (n c n' c' : Nat) (w : World) (h : Sees w a n c (xs.map nv32)) (h' : Sees w a' n' c' (ys.map nv32)) (hn : n ≤ 1048576) :
    Calls Tryd.prog 17 #[.slice a n c, .slice a' n' c'] w fun e w' => e = .returned (.bool (decide (xs = ys))) ∧ Below w.heap.size w w' := by
  refine (eqnums_any xs ys a a' n c n' c' w h h' (by omega)).mono fun e w' hp => ?_
  obtain ⟨h1, q, rfl⟩ := hp
  exact ⟨by rw [show decide (xs = ys) = (xs == ys) by by_cases e : xs = ys <;> simp [e]]; exact h1, ext_drewN w q⟩

theorem list_eq_of {α : Type} {l m : List α} {d : α} {n : Nat} (hl : l.length = n) (hm : m.length = n) (h : ∀ j, j < n → l.getD j d = m.getD j d) : l = m := by
  apply List.ext_getElem (by omega)
  intro i h1 h2
  have := h i (by omega)
  simpa [List.getD, List.getElem?_eq_getElem h1, List.getElem?_eq_getElem h2] using this

set_option maxRecDepth 100000 in
set_option maxHeartbeats 3200000 in
theorem samec_any (c d : NormC) (s s' : CSlots) (w : World) (h : SeesCir w s c) (h' : SeesCir w s' d) (hs : s.small) (hs' : s'.small) :
    Calls Tryd.prog 6 #[cirV c.ins s, cirV d.ins s'] w fun e w' => e = .returned (.bool (decide (c = d))) ∧ Below w.heap.size w w' := by
  obtain ⟨a1, n1, c1, a2, n2, c2, a3, n3, c3, a4, n4, c4, a5, n5, c5⟩ := s
  obtain ⟨a1', n1', c1', a2', n2', c2', a3', n3', c3', a4', n4', c4', a5', n5', c5'⟩ := s'
  obtain ⟨hs1, hs2, hs3, hs4, hs5⟩ := hs
  obtain ⟨hs1', hs2', hs3', hs4', hs5'⟩ := hs'
  simp only at hs1 hs2 hs3 hs4 hs5 hs1' hs2' hs3' hs4' hs5'
  have l1 : c.lats.length = n1 := h.s1.1
  have l1' : d.lats.length = n1' := h'.s1.1
  have l2 : c.gates.length = n2 := h.s2.1
  have l2' : d.gates.length = n2' := h'.s2.1
  obtain ⟨z, hz⟩ : ∃ z, z = c.ins := ⟨_, rfl⟩
  obtain ⟨z', hz'⟩ : ∃ z, z = d.ins := ⟨_, rfl⟩
  have HD : Hid (c = d → z = z' ∧ n1 = n1' ∧ n2 = n2') := fun e => by subst e; exact ⟨hz.trans hz'.symm, l1.symm.trans l1', l2.symm.trans l2'⟩
  rw [← hz, ← hz']
  have HZ := Lib.hid hz
  have HZ' := Lib.hid hz'
  have L1 := Lib.hid l1
  have L1' := Lib.hid l1'
  have L2 := Lib.hid l2
  have L2' := Lib.hid l2'
  have HS := Lib.hid h
  have HS' := Lib.hid h'
  clear hz hz' l1 l1' l2 l2' h h'
  unfold cirV
  have NO : c ≠ d → decide (c = d) = false := fun h => by simpa using h
  obtain ⟨q, hq⟩ : ∃ q, q = decide (c = d) := ⟨_, rfl⟩
  rw [← hq] at NO ⊢
  have HNO := Lib.hid NO
  have HQ := Lib.hid hq
  clear NO hq
  by_cases h0 : z = z'
  case neg =>
    have e0 : (z == z') = false := by simpa using h0
    have e0' : (z != z') = true := by simp [h0]
    have HF : Hid (q = false) := HNO.out fun e => h0 (HD.out e).1
    have H0 := Lib.hid h0
    clear h0
    go_enter Tryd.func6, Tryd.ntmps6
    go_wp2
    go_ret
    exact ⟨by rw [HF.out]; rfl, ext_trans (ext_alloc _ _) (ext_alloc _ _)⟩
  subst h0
  by_cases h1 : n1 = n1'
  case neg =>
    have e0 : ((n1 : Int) == (n1' : Int)) = false := by simp; omega
    have e0' : ((n1 : Int) != (n1' : Int)) = true := by simp; omega
    have HF : Hid (q = false) := HNO.out fun e => h1 (HD.out e).2.1
    have H0 := Lib.hid h1
    clear h1
    go_enter Tryd.func6, Tryd.ntmps6
    go_wp2
    go_ret
    exact ⟨by rw [HF.out]; rfl, ext_trans (ext_alloc _ _) (ext_alloc _ _)⟩
  subst h1
  by_cases h2 : n2 = n2'
  case neg =>
    have e0 : ((n2 : Int) == (n2' : Int)) = false := by simp; omega
    have e0' : ((n2 : Int) != (n2' : Int)) = true := by simp; omega
    have HF : Hid (q = false) := HNO.out fun e => h2 (HD.out e).2.2
    have H0 := Lib.hid h2
    clear h2
    go_enter Tryd.func6, Tryd.ntmps6
    go_wp2
    go_ret
    exact ⟨by rw [HF.out]; rfl, ext_trans (ext_alloc _ _) (ext_alloc _ _)⟩
  subst h2
  clear HD
  go_enter Tryd.func6, Tryd.ntmps6
  go_wp2_with fail
  generalize hW : World.alloc (World.alloc w _) _ = W0
  have B0 : Hid (Below w.heap.size w W0) := by show Below _ _ _; subst hW; exact ext_trans (ext_alloc _ _) (ext_alloc _ _)
  have hx : Hid (W0.heap[w.heap.size]? = some (.cells #[.int .i64 z, .slice a1 n1 c1, .slice a2 n2 c2, .slice a3 n3 c3, .slice a4 n4 c4, .slice a5 n5 c5] 28 (0, 0))) := by
    show _ = _; subst hW; exact heap_below (heap_new _ _ _ rfl) (ext_alloc _ _)
  have hy : Hid (W0.heap[w.heap.size + 1]? = some (.cells #[.int .i64 z, .slice a1' n1 c1', .slice a2' n2 c2', .slice a3' n3' c3', .slice a4' n4' c4', .slice a5' n5' c5'] 28 (0, 0))) := by
    show _ = _; subst hW; exact heap_new _ _ _ (by simp)
  clear hW
  go_loopw [5] (fun i wr => ∃ k : Nat, k ≤ n1 ∧ i = .int .i64 k ∧ Hid (∀ j, j < k → c.lats.getD j (0, 0) = d.lats.getD j (0, 0)) ∧ Hid (Below w.heap.size w wr) ∧ Hid (wr.heap[w.heap.size]? = some (.cells #[.int .i64 z, .slice a1 n1 c1, .slice a2 n2 c2, .slice a3 n3 c3, .slice a4 n4 c4, .slice a5 n5 c5] 28 (0, 0))) ∧ Hid (wr.heap[w.heap.size + 1]? = some (.cells #[.int .i64 z, .slice a1' n1 c1', .slice a2' n2 c2', .slice a3' n3' c3', .slice a4' n4' c4', .slice a5' n5' c5'] 28 (0, 0))))
    (fun i _ => n1 - (intOf i).toNat)
  case atStart => exact ⟨0, Nat.zero_le _, rfl, fun j hj => absurd hj (by omega), B0.out, hx.out, hy.out⟩
  case round =>
    clear B0 hx hy
    obtain ⟨k, hk, rfl, hno, hb, hx, hy⟩ := hrel
    have p := cell_of_block hx.out 1
    have p' := cell_of_block hy.out 1
    by_cases hlt : k < n1
    · obtain ⟨b, off, rfl, hbw⟩ := HS.out.s1.addr (show 0 < n1 by omega)
      obtain ⟨b', off', rfl, hbw'⟩ := HS'.out.s1.addr (show 0 < n1 by omega)
      obtain ⟨qx, qy⟩ := (HS.out.s1.below hb.out).cells k hlt (0, 0)
      obtain ⟨qx', qy'⟩ := (HS'.out.s1.below hb.out).cells k hlt (0, 0)
      obtain ⟨t, ht⟩ : ∃ t, t = c.lats.getD k (0, 0) := ⟨_, rfl⟩
      obtain ⟨t', ht'⟩ : ∃ t, t = d.lats.getD k (0, 0) := ⟨_, rfl⟩
      rw [← ht] at qx qy
      rw [← ht'] at qx' qy'
      have HT := Lib.hid ht
      have HT' := Lib.hid ht'
      clear ht ht'
      obtain ⟨x, y⟩ := t
      obtain ⟨x', y'⟩ := t'
      simp only [nv32, nv8] at qx qy qx' qy'
      have W1 : IntKind.i64.wrap ((k : Int) + 1) = (k : Int) + 1 := IntWalk.i64_in _ (by omega)
      by_cases hxy : x = x' ∧ y = y'
      · obtain ⟨rfl, rfl⟩ := hxy
        go_wp2
        go_quiet (fail)
        go_wp2
        go_roundw
        case rel =>
          rename_i nq
          refine ⟨k + 1, by omega, by go_num, fun j hj => ?_, ext_trans hb.out (ext_drewN _ nq), hx.out, hy.out⟩
          rcases Nat.lt_or_ge j k with h | h
          · exact hno.out j h
          · have : j = k := by omega
            subst this
            rw [← HT.out, ← HT'.out]
        case measure => simp [intOf]; omega
      · have HF : Hid (q = false) := HNO.out fun e => hxy (by
          have h1 := HT.out
          have h2 := HT'.out
          rw [← e, ← h1] at h2
          cases h2
          exact ⟨rfl, rfl⟩)
        by_cases hx1 : x = x'
        · subst hx1
          have e1 : ((y : Int) == (y' : Int)) = false := by simp; omega
          have e2 : ((y : Int) != (y' : Int)) = true := by simp; omega
          have e3 : ((y : Int) = (y' : Int)) = False := by simp; omega
          have HXY := Lib.hid hxy
          clear hxy
          go_wp2
          go_quiet (fail)
          go_wp2
          go_ret
          rename_i nq
          exact ⟨by rw [HF.out]; rfl, ext_trans hb.out (ext_drewN _ nq)⟩
        · have e1 : ((x : Int) == (x' : Int)) = false := by simp; omega
          have e2 : ((x : Int) != (x' : Int)) = true := by simp; omega
          have e3 : ((x : Int) = (x' : Int)) = False := by simp; omega
          have HXY := Lib.hid hxy
          have HX1 := Lib.hid hx1
          clear hxy hx1
          go_wp2
          go_quiet (fail)
          go_wp2
          go_ret
          rename_i nq
          exact ⟨by rw [HF.out]; rfl, ext_trans hb.out (ext_drewN _ nq)⟩
    · obtain rfl : n1 = k := by omega
      obtain ⟨V, hV⟩ : ∃ V, V = wr := ⟨_, rfl⟩
      subst hV
      have HEQ1 : Hid (c.lats = d.lats) := list_eq_of (d := ((0, 0) : Nat × Nat)) L1.out L1'.out hno.out
      have B0 := Lib.hid hb.out
      clear hlt hk hb hno
      go_wp2
      clear p p'
      go_loopw [6] (fun i wr => ∃ k : Nat, k ≤ n2 ∧ i = .int .i64 k ∧ Hid (∀ j, j < k → c.gates.getD j (0, 0) = d.gates.getD j (0, 0)) ∧ Hid (Below w.heap.size w wr) ∧ Hid (wr.heap[w.heap.size]? = some (.cells #[.int .i64 z, .slice a1 n1 c1, .slice a2 n2 c2, .slice a3 n3 c3, .slice a4 n4 c4, .slice a5 n5 c5] 28 (0, 0))) ∧ Hid (wr.heap[w.heap.size + 1]? = some (.cells #[.int .i64 z, .slice a1' n1 c1', .slice a2' n2 c2', .slice a3' n3' c3', .slice a4' n4' c4', .slice a5' n5' c5'] 28 (0, 0))))
        (fun i _ => n2 - (intOf i).toNat)
      case atStart => exact ⟨0, Nat.zero_le _, rfl, fun j hj => absurd hj (by omega), B0.out, hx.out, hy.out⟩
      case round =>
        clear B0 hx hy
        obtain ⟨k, hk, rfl, hno, hb, hx, hy⟩ := hrel
        have p := cell_of_block hx.out 2
        have p' := cell_of_block hy.out 2
        by_cases hlt : k < n2
        · obtain ⟨b, off, rfl, hbw⟩ := HS.out.s2.addr (show 0 < n2 by omega)
          obtain ⟨b', off', rfl, hbw'⟩ := HS'.out.s2.addr (show 0 < n2 by omega)
          obtain ⟨qx, qy⟩ := (HS.out.s2.below hb.out).cells k hlt (0, 0)
          obtain ⟨qx', qy'⟩ := (HS'.out.s2.below hb.out).cells k hlt (0, 0)
          obtain ⟨t, ht⟩ : ∃ t, t = c.gates.getD k (0, 0) := ⟨_, rfl⟩
          obtain ⟨t', ht'⟩ : ∃ t, t = d.gates.getD k (0, 0) := ⟨_, rfl⟩
          rw [← ht] at qx qy
          rw [← ht'] at qx' qy'
          have HT := Lib.hid ht
          have HT' := Lib.hid ht'
          clear ht ht'
          obtain ⟨x, y⟩ := t
          obtain ⟨x', y'⟩ := t'
          simp only [nv32] at qx qy qx' qy'
          have W1 : IntKind.i64.wrap ((k : Int) + 1) = (k : Int) + 1 := IntWalk.i64_in _ (by omega)
          by_cases hxy : x = x' ∧ y = y'
          · obtain ⟨rfl, rfl⟩ := hxy
            go_wp2
            go_quiet (fail)
            go_wp2
            go_roundw
            case rel =>
              rename_i nq
              refine ⟨k + 1, by omega, by go_num, fun j hj => ?_, ext_trans hb.out (ext_drewN _ nq), hx.out, hy.out⟩
              rcases Nat.lt_or_ge j k with h | h
              · exact hno.out j h
              · have : j = k := by omega
                subst this
                rw [← HT.out, ← HT'.out]
            case measure => simp [intOf]; omega
          · have HF : Hid (q = false) := HNO.out fun e => hxy (by
              have h1 := HT.out
              have h2 := HT'.out
              rw [← e, ← h1] at h2
              cases h2
              exact ⟨rfl, rfl⟩)
            by_cases hx1 : x = x'
            · subst hx1
              have e1 : ((y : Int) == (y' : Int)) = false := by simp; omega
              have e2 : ((y : Int) != (y' : Int)) = true := by simp; omega
              have e3 : ((y : Int) = (y' : Int)) = False := by simp; omega
              have HXY := Lib.hid hxy
              clear hxy
              go_wp2
              go_quiet (fail)
              go_wp2
              go_ret
              rename_i nq
              exact ⟨by rw [HF.out]; rfl, ext_trans hb.out (ext_drewN _ nq)⟩
            · have e1 : ((x : Int) == (x' : Int)) = false := by simp; omega
              have e2 : ((x : Int) != (x' : Int)) = true := by simp; omega
              have e3 : ((x : Int) = (x' : Int)) = False := by simp; omega
              have HXY := Lib.hid hxy
              have HX1 := Lib.hid hx1
              clear hxy hx1
              go_wp2
              go_quiet (fail)
              go_wp2
              go_ret
              rename_i nq
              exact ⟨by rw [HF.out]; rfl, ext_trans hb.out (ext_drewN _ nq)⟩
        · obtain rfl : n2 = k := by omega
          obtain ⟨V, hV⟩ : ∃ V, V = wr := ⟨_, rfl⟩
          subst hV
          have HEQ2 : Hid (c.gates = d.gates) := list_eq_of (d := ((0, 0) : Nat × Nat)) L2.out L2'.out hno.out
          have B0 := Lib.hid hb.out
          clear hlt hk hb hno
          have p2 := p
          have p2' := p'
          clear p p'
          obtain ⟨U, hU⟩ : ∃ U, U = V := ⟨_, rfl⟩
          subst hU
          have hx6 := hx.out
          have hy6 := hy.out
          clear hx hy
          have p := cell_of_block hx6 3
          have p' := cell_of_block hy6 3
          have HX := Lib.hid hx6
          have HY := Lib.hid hy6
          clear hx6 hy6
          go_wp2_with fail
          refine (eqn_at c.outs d.outs a3 a3' n3 c3 n3' c3' _ (HS.out.s3.below B0.out) (HS'.out.s3.below B0.out) hs3).mono ?_
          obtain ⟨q3, hq3⟩ : ∃ q, q = decide (c.outs = d.outs) := ⟨_, rfl⟩
          rw [← hq3]
          have HQ3 := Lib.hid hq3
          clear hq3
          rintro e U3 ⟨rfl, hb⟩
          have hx6 := heap_below HX.out hb
          have hy6 := heap_below HY.out hb
          have B1 := ext_trans B0.out hb
          clear hb HX HY B0 p p' p2 p2'
          have B0 := Lib.hid B1
          clear B1
          cases q3 with
          | false =>
            have HF : Hid (q = false) := HNO.out fun e => by
              have := HQ3.out
              rw [e] at this
              simp at this
            clear hx6 hy6
            go_wp2
            go_ret
            exact ⟨by rw [HF.out]; rfl, B0.out⟩
          | true =>
          have p := cell_of_block hx6 4
          have p' := cell_of_block hy6 4
          have HX := Lib.hid hx6
          have HY := Lib.hid hy6
          clear hx6 hy6
          go_wp2_with fail
          refine (eqn_at c.bads d.bads a4 a4' n4 c4 n4' c4' _ (HS.out.s4.below B0.out) (HS'.out.s4.below B0.out) hs4).mono ?_
          obtain ⟨q4, hq4⟩ : ∃ q, q = decide (c.bads = d.bads) := ⟨_, rfl⟩
          rw [← hq4]
          have HQ4 := Lib.hid hq4
          clear hq4
          rintro e U4 ⟨rfl, hb⟩
          have hx6 := heap_below HX.out hb
          have hy6 := heap_below HY.out hb
          have B1 := ext_trans B0.out hb
          clear hb HX HY B0 p p'
          have B0 := Lib.hid B1
          clear B1
          cases q4 with
          | false =>
            have HF : Hid (q = false) := HNO.out fun e => by
              have := HQ4.out
              rw [e] at this
              simp at this
            clear hx6 hy6
            go_wp2
            go_ret
            exact ⟨by rw [HF.out]; rfl, B0.out⟩
          | true =>
          have p := cell_of_block hx6 5
          have p' := cell_of_block hy6 5
          have HX := Lib.hid hx6
          have HY := Lib.hid hy6
          clear hx6 hy6
          go_wp2_with fail
          refine (eqn_at c.cons d.cons a5 a5' n5 c5 n5' c5' _ (HS.out.s5.below B0.out) (HS'.out.s5.below B0.out) hs5).mono ?_
          obtain ⟨q5, hq5⟩ : ∃ q, q = decide (c.cons = d.cons) := ⟨_, rfl⟩
          rw [← hq5]
          have HQ5 := Lib.hid hq5
          clear hq5
          rintro e U5 ⟨rfl, hb⟩
          have hx6 := heap_below HX.out hb
          have hy6 := heap_below HY.out hb
          have B1 := ext_trans B0.out hb
          clear hb HX HY B0 p p'
          have B0 := Lib.hid B1
          clear B1
          cases q5 with
          | false =>
            have HF : Hid (q = false) := HNO.out fun e => by
              have := HQ5.out
              rw [e] at this
              simp at this
            clear hx6 hy6
            go_wp2
            go_ret
            exact ⟨by rw [HF.out]; rfl, B0.out⟩
          | true =>
          have HT : Hid (q = true) := by
            have h3 := of_decide_eq_true HQ3.out.symm
            have h4 := of_decide_eq_true HQ4.out.symm
            have h5 := of_decide_eq_true HQ5.out.symm
            have h1 := HEQ1.out
            have h2 := HEQ2.out
            have h0 := HZ.out.symm.trans HZ'.out
            show q = true
            rw [HQ.out, decide_eq_true_eq]
            cases c; cases d
            simp only at h0 h1 h2 h3 h4 h5
            subst h0; subst h1; subst h2; subst h3; subst h4; subst h5
            rfl
          clear hx6 hy6
          go_wp2
          go_ret
          exact ⟨by rw [HT.out]; rfl, B0.out⟩
end Go.Proofs.YtglhnmbfkbjemaaDoor
/- The law BinOnce, by its walk: what is got is put as no more bytes, and got again the same. -/
namespace Go.Proofs.YtglhnmbfkbjemaaDoor
open Go Go.RowKit Go.Joins

theorem MayC.wideB {c : NormC} (h : MayC c) : Wide c := by
  have hf := h.few
  refine ⟨fun p hp => ?_, fun p hp => ?_, fun x hx => ?_, fun x hx => ?_, fun x hx => ?_⟩
  · have := h.lats p hp; omega
  · obtain ⟨k, hk, rfl⟩ := List.getElem_of_mem hp
    have := h.gates k hk
    simp only [List.getD, List.getElem?_eq_getElem hk, Option.getD_some] at this
    unfold varsN at hf
    omega
  · have := h.outs x hx; omega
  · have := h.bads x hx; omega
  · have := h.cons x hx; omega
theorem MayC.smallB {c : NormC} (h : MayC c) {w : World} {s : CSlots} (hs : SeesCir w s c) : s.small := by
  have hf := h.few
  have hl := h.lens
  unfold varsN at hf
  have e1 := hs.s1.1
  have e2 := hs.s2.1
  have e3 := hs.s3.lenMap
  have e4 := hs.s4.lenMap
  have e5 := hs.s5.lenMap
  exact ⟨by omega, by omega, by omega, by omega, by omega⟩
def cZ : NormC := ⟨0, [], [], [], [], []⟩
def sZ : CSlots := ⟨none, 0, 0, none, 0, 0, none, 0, 0, none, 0, 0, none, 0, 0⟩
theorem sees_zero (W : World) : SeesCir W sZ cZ := ⟨Sees2.nil _ _, Sees2.nil _ _, Sees.nil _ _ _ (fun _ => rfl), Sees.nil _ _ _ (fun _ => rfl), Sees.nil _ _ _ (fun _ => rfl)⟩
theorem same_zero (W : World) : Calls Tryd.prog 6 #[.agg #[.int .i64 0, .slice none 0 0, .slice none 0 0, .slice none 0 0, .slice none 0 0, .slice none 0 0], .agg #[.int .i64 0, .slice none 0 0, .slice none 0 0, .slice none 0 0, .slice none 0 0, .slice none 0 0]] W fun e w' => e = .returned (.bool true) ∧ Below W.heap.size W w' := by
  have h0 : sZ.small := ⟨Nat.zero_le _, Nat.zero_le _, Nat.zero_le _, Nat.zero_le _, Nat.zero_le _⟩
  have h1 := samec_any cZ cZ sZ sZ W (sees_zero W) (sees_zero W) h0 h0
  rw [decide_eq_true rfl] at h1
  exact h1

set_option maxRecDepth 100000 in
set_option maxHeartbeats 6400000 in
theorem binonce_any (bs : List UInt8) (a : Option Addr) (n c : Nat) (w : World) (h : Sees w a n c (bs.map bv)) (htab : Tab w) :
    Calls Tryd.prog 3 #[.slice a n c] w fun e w' => e = .returned (.bool true) ∧ Below w.heap.size w w' := by
  have hl := h.lenMap
  have HLV := Lib.hid (fun W (hb : Below w.heap.size w W) => lives4_any W (htab.below hb (Nat.le_refl _)))
  by_cases hn : 20000 < n
  · have hn' : (20000 : Int) < (n : Int) := by omega
    clear h hl htab hn
    go_enter Tryd.func3, Tryd.ntmps3
    go_wp2_with fail
    refine (HLV.out w (Below.refl _ _)).mono ?_
    rintro e w1 ⟨rfl, hb⟩
    have HB := Lib.hid hb
    clear hb
    go_wp2
    go_ret
    exact ⟨rfl, HB.out⟩
  have hn' : (n : Int) ≤ 20000 := by omega
  have HGET := Lib.hid (bget_any bs a n c w h (by omega))
  have HTAB := Lib.hid htab
  have HL := Lib.hid hl
  clear h hl htab hn
  go_enter Tryd.func3, Tryd.ntmps3
  go_wp2_with fail
  refine HGET.out.mono ?_
  rintro e w1 ⟨hb, ⟨cc, s, hg, rfl, hs⟩ | ⟨er, hg, hne, rfl⟩⟩
  · obtain ⟨hmay, hle⟩ := put_getB hg
    have hsm := hmay.smallB hs
    have hwide := hmay.wideB
    have hpos := hmay.pos
    have hfew := hmay.few
    have hlo : -9223372036854775808 ≤ cc.ins := by omega
    have hhi : cc.ins < 9223372036854775808 := by unfold varsN at hfew; omega
    rw [HL.out] at hle
    have hg2 : getB (putB cc) = .ok cc := by
      have h1 := get_putB hmay [] (by rw [List.append_nil]; omega) rfl
      rw [List.append_nil] at h1
      exact h1
    have HPUT := Lib.hid (fun W (hb' : Below w1.heap.size w1 W) => bput_any cc s W (hs.below hb') hsm hlo hhi hwide (HTAB.out.below (ext_trans hb hb') (Nat.le_refl _)))
    have HMY := Lib.hid (fun W (hb' : Below w1.heap.size w1 W) => refmay3_any cc s W (hs.below hb') hsm hlo hhi hwide)
    have HSM := Lib.hid (fun (s2 : CSlots) W (hb' : Below w1.heap.size w1 W) (h2 : SeesCir W s2 cc) => samec_any cc cc s s2 W (hs.below hb') h2 hsm (hmay.smallB h2))
    rw [mayC_iff.2 hmay] at HMY
    rw [decide_eq_true (rfl : cc = cc)] at HSM
    obtain ⟨P, hP⟩ : ∃ P, P = putB cc := ⟨_, rfl⟩
    have HP := Lib.hid hP
    have HM := Lib.hid (mayC_iff.2 hmay)
    have HG2 := Lib.hid hg2
    have HLE := Lib.hid hle
    have HB := Lib.hid hb
    obtain ⟨b1, k1, d1, b2, k2, d2, b3, k3, d3, b4, k4, d4, b5, k5, d5⟩ := s
    obtain ⟨z, hz⟩ : ∃ z, z = cc.ins := ⟨_, rfl⟩
    rw [← hz] at HPUT HMY HSM ⊢
    have HZ := Lib.hid hz
    clear hmay hle hsm hwide hpos hfew hlo hhi hg hg2 hs hb hP hz HGET HTAB
    unfold cirV at HPUT HMY HSM ⊢
    simp only at HPUT HMY HSM ⊢
    go_wp2_with fail
    generalize hW : World.alloc w1 _ = W2
    have hb2 : Below w1.heap.size w1 W2 := by subst hW; exact ext_alloc _ _
    have HX := Lib.hid (show W2.heap[w1.heap.size]? = some (.cells #[.int .i64 z, .slice b1 k1 d1, .slice b2 k2 d2, .slice b3 k3 d3, .slice b4 k4 d4, .slice b5 k5 d5] 28 (0, 0)) by subst hW; exact heap_new _ _ _ rfl)
    have HB2 := Lib.hid hb2
    clear hW hb2
    refine (HPUT.out W2 HB2.out).mono ?_
    rintro e w3 ⟨hb, ⟨hm, _⟩ | ⟨_, v, rfl, hrow⟩⟩
    · rw [HM.out] at hm; cases hm
    rw [← HP.out] at hrow
    obtain ⟨va, vc, rfl, _, hvs⟩ := hrow.sees
    have HX3 := Lib.hid (heap_below HX.out hb)
    have HB3 := Lib.hid (ext_trans HB2.out hb)
    have hle3 := HLE.out
    rw [← HP.out] at hle3
    have HGET2 := Lib.hid (bget_any P va P.length vc w3 hvs (by omega))
    obtain ⟨N, hN⟩ : ∃ N, N = P.length := ⟨_, rfl⟩
    rw [← hN] at hle3 HGET2 ⊢
    have g1 : decide ((N : Int) ≤ (n : Int)) = true := by simp; exact hle3
    have G1 := Lib.hid g1
    clear hrow hvs hb hN HX HB2 HPUT hle3 HLE g1
    go_wp2_with fail
    refine HGET2.out.mono ?_
    rintro e w4 ⟨hb, ⟨cc2, s2, hg, rfl, hs2⟩ | ⟨er, hg, hne, rfl⟩⟩
    rotate_left
    · rw [HP.out, HG2.out] at hg; cases hg
    rw [HP.out, HG2.out] at hg
    obtain rfl : cc = cc2 := by injection hg
    rw [← HZ.out]
    have HX4 := Lib.hid (heap_below HX3.out hb)
    have HB4 := Lib.hid (ext_trans HB3.out hb)
    have HS2 := Lib.hid hs2
    obtain ⟨p1, q1, r1, p2, q2, r2, p3, q3, r3, p4, q4, r4, p5, q5, r5⟩ := s2
    clear hb hg hs2 HX3 HB3 HGET2
    unfold cirV
    simp only
    go_upto_region 8 with fail
    generalize hW : World.alloc w4 _ = W5
    have hb5 : Below w4.heap.size w4 W5 := by subst hW; exact ext_alloc _ _
    have HY := Lib.hid (show W5.heap[w4.heap.size]? = some (.cells #[.int .i64 z, .slice p1 q1 r1, .slice p2 q2 r2, .slice p3 q3 r3, .slice p4 q4 r4, .slice p5 q5 r5] 28 (0, 0)) by subst hW; exact heap_new _ _ _ rfl)
    have HX5 := Lib.hid (heap_below HX4.out hb5)
    have HB5 := Lib.hid (ext_trans HB4.out hb5)
    have HS5 := Lib.hid (HS2.out.below hb5)
    clear hW hb5 HX4 HB4 HS2
    have x0 := cell_of_block HX5.out 0
    have x1 := cell_of_block HX5.out 1
    have x2 := cell_of_block HX5.out 2
    have x3 := cell_of_block HX5.out 3
    have x4 := cell_of_block HX5.out 4
    have x5 := cell_of_block HX5.out 5
    go_wp2_with fail
    refine (HMY.out W5 HB5.out).mono ?_
    rintro e w6 ⟨rfl, hb⟩
    have HX6 := Lib.hid (heap_below HX5.out hb)
    have HY6 := Lib.hid (heap_below HY.out hb)
    have HB6 := Lib.hid (ext_trans HB5.out hb)
    have HS6 := Lib.hid (HS5.out.below hb)
    clear hb HX5 HY HB5 HS5 HMY x0 x1 x2 x3 x4 x5
    have x0 := cell_of_block HX6.out 0
    have x1 := cell_of_block HX6.out 1
    have x2 := cell_of_block HX6.out 2
    have x3 := cell_of_block HX6.out 3
    have x4 := cell_of_block HX6.out 4
    have x5 := cell_of_block HX6.out 5
    have y0 := cell_of_block HY6.out 0
    have y1 := cell_of_block HY6.out 1
    have y2 := cell_of_block HY6.out 2
    have y3 := cell_of_block HY6.out 3
    have y4 := cell_of_block HY6.out 4
    have y5 := cell_of_block HY6.out 5
    go_wp2_with fail
    refine (HSM.out _ w6 HB6.out HS6.out).mono ?_
    rintro e w7 ⟨rfl, hb⟩
    have HB7 := Lib.hid (ext_trans (ext_trans HB.out HB6.out) hb)
    have g1 := G1.out
    clear hb HX6 HY6 HB6 HS6 HSM x0 x1 x2 x3 x4 x5 y0 y1 y2 y3 y4 y5
    go_wp2_with fail
    refine (HLV.out w7 HB7.out).mono ?_
    rintro e w8 ⟨rfl, hb⟩
    have HB8 := Lib.hid (ext_trans HB7.out hb)
    clear hb HB7
    go_wp2
    go_ret
    exact ⟨rfl, HB8.out⟩
    have hx := of_decide_eq_true g1
    omega
  · have e1 : (er != 0) = true := by simp; omega
    have HB := Lib.hid hb
    unfold zeroCir
    clear hb hg hne HGET HL HTAB
    go_wp2_with fail
    generalize hW : World.alloc w1 _ = W2
    have hb2 : Below w1.heap.size w1 W2 := by subst hW; exact ext_alloc _ _
    have HB2 := Lib.hid (ext_trans HB.out hb2)
    clear hW hb2 HB e1
    refine (same_zero W2).mono ?_
    rintro e W3 ⟨rfl, hb⟩
    have HB3 := Lib.hid (ext_trans HB2.out hb)
    clear hb HB2
    go_wp2_with fail
    refine (HLV.out W3 HB3.out).mono ?_
    rintro e W4 ⟨rfl, hb⟩
    have HB4 := Lib.hid (ext_trans HB3.out hb)
    clear hb HB3
    go_wp2
    go_ret
    exact ⟨rfl, HB4.out⟩
end Go.Proofs.YtglhnmbfkbjemaaDoor
namespace Go.Proofs.YtglhnmbfkbjemaaDoor.binOnce
open Go Go.ChangeShapes Go.WideShapes Go.ChangeAt Go.RowKit

set_option maxRecDepth 100000 in
theorem contract (H : Type) (enc : TypeId × Value → H) (W : World) (base : Nat) (args : Array Value) (ds gs : List (DataW H)) (before : List MemPlace)
    (hval : ∀ (j : Nat) t v, Tryd.f3.params[j]? = some t → args[j]? = some v → Value.okWide Tryd.prog W .any base t v)
    (hW : DataW.Whole enc Tryd.prog Tryd.f3.params.toList Rows.binOnceSpec.vars false W args.toList ds gs before) (hL : laidMetH Tryd.prog Rows.binOnceRow.laid W) :
    Calls Tryd.prog 3 args W fun e W' => ∃ v, e = .returned v ∧ Rows.binOnceSpec.post enc Tryd.prog Tryd.f3 false true false false W args v W' := by
  have hW' := hW
  obtain ⟨p, q, hA0, hV, rfl, hfz, hnd⟩ := hW
  have hA : DataW.TrodAll enc Tryd.prog W 0 (fun _ => true) true Tryd.f3.params.toList args.toList ds p := hA0
  rw [Tryd.params3] at hA hval
  obtain ⟨v0, vs0, d0, ds0, p0, q0, hargs, rfl, rfl, h0, r0⟩ := trodAll_cons hA
  obtain ⟨rfl, rfl, rfl⟩ := trodAll_nil r0
  obtain rfl : args = #[v0] := by cases args; simp_all
  obtain ⟨rfl, rfl⟩ := trodVars_none hV
  obtain ⟨a0, n0, c0, bs0, rfl, hs0, hn0⟩ := open_u8s (hval 0 22 _ rfl rfl) h0
  clear hA0 hA
  refine (binonce_any bs0 a0 n0 c0 W hs0 (tab_of hL)).mono fun e W' ⟨he, hbel⟩ => ?_
  subst he
  exact ⟨_, rfl, law_end laidOut (by decide +kernel) rfl rfl Tryd.underlying4 hW' rfl rfl rfl hbel⟩

theorem laid_met (os : Os) : laidMet Tryd.prog Rows.binOnceRow.laid ((laidWorld os).forCall (fun _ _ => 0) ⟨#[], #[.slice none 0 0], []⟩).memory :=
  laidMet_of_run' 8 (by kernel_rfl) (by kernel_rfl)
theorem reads (os : Os) {H : Type} (enc : TypeId × Value → H) : ∃ places, DataW.whole enc Tryd.prog ((laidWorld os).forCall (fun _ _ => 0) ⟨#[], #[.slice none 0 0], []⟩).memory Tryd.f3.params.toList Rows.binOnceSpec.vars false #[Value.slice none 0 0].toList 8 = some ([.nil], [], places) :=
  ⟨[], by kernel_rfl⟩

set_option maxRecDepth 100000 in
theorem lifted (os : Os) (started : os.Started) (H : Type) (enc : TypeId × Value → H) (F : Stop.Interp) :
    ReturnsInHanded {} Tryd.checked os 3 .any ((OpenSpec.ofChange Rows.binOnceSpec).preRow enc Tryd.prog Tryd.f3 Rows.binOnceRow.domain false Rows.binOnceRow.laid) (((OpenSpec.ofChange Rows.binOnceSpec).at F).post enc Tryd.prog Tryd.f3 false true false false) := by
  obtain ⟨places, hx⟩ := reads os enc
  refine returnsInHanded_of_row (C := Tryd.checked) (s := OpenSpec.ofChange Rows.binOnceSpec) own started (by kernel_rfl) Tryd.func3
    (witness_row_at (enc := enc) (C := Tryd.checked) false (laidWorld os) #[.slice none 0 0] rfl (by kernel_rfl) (by kernel_rfl) (by kernel_rfl)
      (OpenSpec.preRow_of_cond 8 hx (by kernel_rfl) (fun k hk => by cases hk) (by kernel_rfl) (laid_met os))) ?_
  intro W base args ds gs before hval hW _ _ _ hL _ _
  exact contract H enc W base args ds gs before hval hW hL

theorem said : Rows.BinOnceSaid :=
  OpenClaim.holds_of_cond 3 Tryd.f3 rfl rfl rfl rfl rfl rfl rfl ⟨rfl, rfl, rfl, rfl, rfl⟩ rfl rfl rfl rfl rfl (by kernel_rfl) Tryd.func3 (by kernel_rfl)
    (of_decide_eq_true (by kernel_rfl)) (by unfold Func.isWrapper; first | (rw [if_pos (by decide +kernel)]; kernel_rfl) | (rw [if_neg (by decide +kernel)]; exact ⟨rfl, rfl⟩))
    (fun os started H enc _ F => by rw [OpenClaim.pre_eq_preRow]; exact lifted os started H enc F)

theorem plain (f : FuncId) (fn : Func) (hf : Tryd.pinned.checked.prog.funcNamed "inquest/inquestlaw04.BinOnce" = some f) (hfn : Tryd.pinned.checked.prog.funcs[f]? = some fn) :
    false = Tryd.pinned.checked.prog.looks [] ∧ ∀ (j : Nat) t, fn.params[j]? = some t → Tryd.pinned.checked.prog.wantsStandIn t = false := by
  obtain rfl : f = 3 := Option.some.inj ((show Tryd.prog.funcNamed "inquest/inquestlaw04.BinOnce" = some 3 by kernel_rfl).symm.trans hf) |>.symm
  obtain rfl : fn = Tryd.f3 := (Option.some.inj (Tryd.func3.symm.trans hfn)).symm
  refine ⟨by kernel_rfl, fun j t ht => ?_⟩
  rw [Tryd.params3] at ht
  have hm := Array.mem_of_getElem? ht
  have hall : ∀ t ∈ #[22], Tryd.prog.wantsStandIn t = false := by decide +kernel
  exact hall t hm

/-- ████ THE FIRST FORM's CARD ████ -/
theorem card : Rows.BinOnceCardSaid :=
  Claim7.holds_tied_plain_at .later [] _ _ _ _ said (fun _ h => by cases h) (by kernel_rfl) (fun _ h => by cases h) binOnce_row_tie rfl ⟨rfl, rfl⟩ (by kernel_rfl) rfl plain (by kernel_rfl)
end Go.Proofs.YtglhnmbfkbjemaaDoor.binOnce
