/- bin.Any, by its contract: a binary text. -/
import Derived.Test.YtglhnmbfkbjemaaGreatDoorBkE
import Derived.Test.YtglhnmbfkbjemaaGreatDoorBkB
import Derived.Test.YtglhnmbfkbjemaaGreatDoorLib
import Derived.Test.YtglhnmbfkbjemaaGreatDoorRows
import Derived.Test.YtglhnmbfkbjemaaGreatDoorBGet
import Derived.Test.YtglhnmbfkbjemaaGreatDoorBPut
import Derived.Deep.CutRange
import Derived.Test.YtglhnmbfkbjemaaGreatDoorRawPut
import Derived.Lib.SlBytesConst
/- bin.Step, by its contract. -/
namespace Go.Proofs.YtglhnmbfkbjemaaGreatDoor
open Go Go.RowKit Go.Joins
def StepPost (bs : List UInt8) (w : World) (e : Ending) (w' : World) : Prop :=
  Below w.heap.size w w' ∧ match deltaL 4 5 bs with
    | .ok (m, k) => ∃ v, e = .returned (.tuple #[.int .u32 (m : Int), v, .int .i64 0]) ∧ Row isByte w' w.heap.size 5 v (bs.drop k).length ((bs.drop k).map bv)
    | .error er => e = .returned (.tuple #[.int .u32 0, .slice none 0 0, .int .i64 er])
set_option maxRecDepth 100000 in
set_option maxHeartbeats 1600000 in
theorem step_any (bs : List UInt8) (a : Option Addr) (n c : Nat) (w : World) (h : Sees w a n c (bs.map bv)) (hn : n ≤ 140737488355328) :
    Calls Tryz.prog 13 #[.slice a n c] w (StepPost bs w) := by
  have hd := delta_any bs a n c w h hn
  have hbl : bs.length = n := h.lenMap
  have HS := Lib.hid h
  have HD := Lib.hid hd
  clear h hd
  go_enter Tryz.func13, Tryz.ntmps13
  go_wp2_with fail
  refine HD.out.mono ?_
  rintro e w' ⟨rfl, hm⟩
  rcases hdl : deltaL 4 5 bs with er | ⟨m, k⟩
  · rw [hdl] at hm
    have hm : e = _ := hm
    subst hm
    have her : er = 4 ∨ er = 5 := dGo_er 4 5 bs 0 0 er hdl
    have HE := Lib.hid hdl
    clear hdl hbl
    rcases her with rfl | rfl
    · go_wp2
      go_ret3
      exact ⟨Below.refl _ _, by rw [HE.out]; exact rfl⟩
    · go_wp2
      go_ret3
      exact ⟨Below.refl _ _, by rw [HE.out]; exact rfl⟩
  · rw [hdl] at hm
    have hm : e = _ := hm
    subst hm
    obtain ⟨hk1, hk2, hk3, hk4⟩ := enc_delta 4 5 hdl
    have HE := Lib.hid hdl
    rw [hbl] at hk2
    obtain ⟨a2, ec, see⟩ := HS.out.cut k n (by omega) (by omega)
    have see2 : Sees w' a2 (n - k) (c - k) ((bs.drop k).map bv) := by
      have e : (bs.drop k).map bv = List.drop k (List.take n (bs.map bv)) := by rw [List.take_of_length_le (by rw [List.length_map]; omega), List.map_drop]
      rw [e]; exact see
    have q := fun W => (run_from (P := Tryz.prog) Tryz.underlying27 size_u8 W a n c k (k : Int) rfl (by omega)).trans (congrArg (fun v => Result.ok v W) (show sliced a k n c 1 = _ from ec))
    have HL : Hid ((bs.drop k).length = n - k) := by show _ = _; rw [List.length_drop]; omega
    have HC := Lib.hid (clone_any (bs.drop k) a2 (n - k) (c - k) w' see2 (by omega))
    clear see see2 ec hdl hk1 hbl
    go_wp2_with fail
    refine HC.out.mono ?_
    rintro e w2 ⟨v, rfl, hrow, hb⟩
    have HR := Lib.hid hrow
    have HB := Lib.hid hb
    clear hrow hb
    go_wp2
    go_ret3
    exact ⟨HB.out, by rw [HE.out]; exact ⟨v, rfl, by rw [HL.out]; exact HR.out⟩⟩
end Go.Proofs.YtglhnmbfkbjemaaGreatDoor
/- inquestref00.Bytes, by its contract. -/
namespace Go.Proofs.YtglhnmbfkbjemaaGreatDoor
open Go Go.RowKit
set_option maxRecDepth 100000 in
set_option maxHeartbeats 400000 in
theorem bytes_any (bs cs : List UInt8) (a a' : Option Addr) (n c n' c' : Nat) (w : World) (h : Sees w a n c (bs.map bv)) (h' : Sees w a' n' c' (cs.map bv)) :
    Calls Tryz.prog 15 #[.slice a n c, .slice a' n' c'] w fun e w' => e = .returned (.bool (bs == cs)) ∧ w = w' := by
  have q1 := h.str (P := Tryz.prog) 27 5 9 Tryz.underlying27 Tryz.underlying5 Tryz.underlying9
  have q2 := h'.str (P := Tryz.prog) 27 5 9 Tryz.underlying27 Tryz.underlying5 Tryz.underlying9
  clear h h'
  go_enter Tryz.func15, Tryz.ntmps15
  go_wp2
  go_ret
  exact ⟨by simp [str], rfl⟩
end Go.Proofs.YtglhnmbfkbjemaaGreatDoor
/- The law's lives of bin, by its contract. -/
namespace Go.Proofs.YtglhnmbfkbjemaaGreatDoor
open Go Go.RowKit Go.Joins
def cLive : NormC := ⟨1, [], [(2, 2)], [], [4], []⟩
theorem cLive_may : mayC cLive = true := by decide +kernel
theorem cLive_put : putB cLive = [97, 105, 103, 32, 50, 32, 49, 32, 48, 32, 48, 32, 49, 32, 49, 10, 52, 10, 2, 0] := by decide +kernel
theorem cLive_wide : Wide cLive := by
  refine ⟨?_, ?_, ?_, ?_, ?_⟩
  · intro p hp; cases hp
  · intro p hp
    simp [cLive] at hp
    subst hp
    decide
  · intro p hp; cases hp
  · intro p hp
    simp [cLive] at hp
    omega
  · intro p hp; cases hp
theorem step_ok (bs : List UInt8) (m k : Nat) (hd : deltaL 4 5 bs = .ok (m, k)) (a : Option Addr) (n c : Nat) (w : World) (h : Sees w a n c (bs.map bv)) (hn : n ≤ 140737488355328) :
    Calls Tryz.prog 13 #[.slice a n c] w fun e w' => ∃ a2 c2, e = .returned (.tuple #[.int .u32 (m : Int), .slice a2 (bs.drop k).length c2, .int .i64 0]) ∧ Sees w' a2 (bs.drop k).length c2 ((bs.drop k).map bv) ∧ Below w.heap.size w w' := by
  refine (step_any bs a n c w h hn).mono ?_
  rintro e w' ⟨hb, hp⟩
  rw [hd] at hp
  obtain ⟨v, rfl, hr⟩ := hp
  obtain ⟨a2, c2, rfl⟩ := hr.form
  exact ⟨a2, c2, rfl, (row_sees_slice hr).2, hb⟩
theorem step_no (bs : List UInt8) (er : Int) (hd : deltaL 4 5 bs = .error er) (a : Option Addr) (n c : Nat) (w : World) (h : Sees w a n c (bs.map bv)) (hn : n ≤ 140737488355328) :
    Calls Tryz.prog 13 #[.slice a n c] w fun e w' => e = .returned (.tuple #[.int .u32 0, .slice none 0 0, .int .i64 er]) ∧ Below w.heap.size w w' := by
  refine (step_any bs a n c w h hn).mono ?_
  rintro e w' ⟨hb, hp⟩
  rw [hd] at hp
  exact ⟨hp, hb⟩
theorem get_no (bs : List UInt8) (er : Int) (hg : getB bs = .error er) (a : Option Addr) (n c : Nat) (w : World) (h : Sees w a n c (bs.map bv)) (hn : n ≤ 100000000) :
    Calls Tryz.prog 8 #[.slice a n c] w fun e w' => e = .returned (.tuple #[zeroCir, .int .i64 er]) ∧ Below w.heap.size w w' := by
  refine (bget_any bs a n c w h hn).mono ?_
  rintro e w' ⟨hb, hp⟩
  rcases hp with ⟨c2, s, h1, _⟩ | ⟨er2, h1, _, rfl⟩
  · rw [hg] at h1; cases h1
  · rw [hg] at h1; cases h1; exact ⟨rfl, hb⟩
theorem put_live (s : CSlots) (w : World) (h : SeesCir w s cLive) (hs : s.small) (htab : Tab w) :
    Calls Tryz.prog 6 #[cirV 1 s] w fun e w' => ∃ a c, e = .returned (.tuple #[.slice a 20 c, .int .i64 0]) ∧ Sees w' a 20 c (([97, 105, 103, 32, 50, 32, 49, 32, 48, 32, 48, 32, 49, 32, 49, 10, 52, 10, 2, 0] : List UInt8).map bv) ∧ Below w.heap.size w w' := by
  refine (bput_any cLive s w h hs (by decide) (by decide) cLive_wide htab).mono ?_
  rintro e w' ⟨hb, hp⟩
  rcases hp with ⟨h1, _⟩ | ⟨_, v, rfl, hr⟩
  · rw [cLive_may] at h1; cases h1
  · rw [cLive_put] at hr
    obtain ⟨a, c, rfl⟩ := hr.form
    exact ⟨a, c, rfl, (row_sees_slice hr).2, hb⟩
set_option maxRecDepth 100000 in
set_option maxHeartbeats 6400000 in
theorem lives4_any (w : World) (htab : Tab w) : Calls Tryz.prog 5 #[] w fun e w' => e = .returned (.bool true) ∧ Below w.heap.size w w' := by
  have d1 : deltaL 4 5 [130, 1] = .ok (130, 2) := by kernel_rfl
  have d2 : deltaL 4 5 [128, 0] = .error 5 := by kernel_rfl
  have d3 : deltaL 4 5 [128] = .error 4 := by kernel_rfl
  have d4 : deltaL 4 5 [5, 7] = .ok (5, 1) := by kernel_rfl
  have S1 := Lib.hid (step_ok [130, 1] 130 2 d1)
  have S2 := Lib.hid (step_no [128, 0] 5 d2)
  have S3 := Lib.hid (step_no [128] 4 d3)
  have S4 := Lib.hid (step_ok [5, 7] 5 1 d4)
  clear d1 d2 d3 d4
  have HT := Lib.hid htab
  clear htab
  have T1 := Lib.hid (fun a W (h : Sees W a 2 2 (([0, 0] : List UInt8).map bv)) => text4_any [97, 105, 103, 32, 50, 32, 49, 32, 48, 32, 48, 32, 49, 47] [0, 0] a 2 2 W h (by decide) (by decide) (by decide))
  have T2 := Lib.hid (fun W => text4_any [97, 105, 103, 32, 50, 32, 49, 32, 48, 32, 48, 32, 48, 47] [] none 0 0 W (Sees.nil _ _ _ (fun _ => rfl)) (by decide) (by decide) (by decide))
  have T3 := Lib.hid (fun a W (h : Sees W a 2 2 (([2, 0] : List UInt8).map bv)) => text4_any [97, 105, 103, 32, 50, 32, 49, 32, 48, 32, 48, 32, 49, 32, 49, 47, 52, 47] [2, 0] a 2 2 W h (by decide) (by decide) (by decide))
  have g1 : getB ([97, 105, 103, 32, 50, 32, 49, 32, 48, 32, 48, 32, 49, 47].map slash ++ [0, 0]) = .error 5 := by kernel_rfl
  have g2 : getB ([97, 105, 103, 32, 50, 32, 49, 32, 48, 32, 48, 32, 48, 47].map slash ++ []) = .error 5 := by kernel_rfl
  have G1 := Lib.hid (get_no _ 5 g1)
  have G2 := Lib.hid (get_no _ 5 g2)
  clear g1 g2
  go_enter Tryz.func5, Tryz.ntmps5
  unfold zeroCir at G1 G2
  have BY : Hid (∀ (bs cs : List UInt8) (a a' : Option Addr) (n c n' c' : Nat) (W : World), bs = cs → Sees W a n c (bs.map bv) → Sees W a' n' c' (cs.map bv) → Calls Tryz.prog 15 #[.slice a n c, .slice a' n' c'] W fun e w' => e = .returned (.bool true) ∧ W = w') := by
    intro bs cs a a' n c n' c' W he h h'
    refine (bytes_any bs cs a a' n c n' c' W h h').mono ?_
    rintro e w' ⟨h1, h2⟩
    rw [he, beq_self_eq_true] at h1
    exact ⟨h1, h2⟩
  go_wp2_with fail
  generalize hW : World.alloc (World.alloc _ _) _ = W1
  have hc1 : SeesCir W1 ⟨none, 0, 0, some ⟨w.heap.size, 0, none⟩, 1, 1, none, 0, 0, some ⟨w.heap.size + 1, 0, none⟩, 1, 1, none, 0, 0⟩ cLive := by
    subst hW
    have h2 := (sees_lit w 46 (0, 0) #[.int .u32 2, .int .u32 2] (prCs nv32 [(2, 2)]) 2 rfl rfl).below (ext_alloc _ (.cells #[.int .u32 4] 35))
    have h4 := sees_at (w.alloc (.cells #[.int .u32 2, .int .u32 2] 46)) 35 (0, 0) #[.int .u32 4] ([4].map nv32) 1 (w.heap.size + 1) rfl rfl (by simp)
    exact ⟨Sees2.nil _ _, ⟨rfl, Nat.le_refl _, h2⟩, Sees.nil _ _ _ (fun _ => rfl), h4, Sees.nil _ _ _ (fun _ => rfl)⟩
  have hb0 : Below w.heap.size w W1 := by subst hW; exact ext_trans (ext_alloc _ _) (ext_alloc _ _)
  have HB0 := Lib.hid hb0
  have HP := Lib.hid (put_live _ W1 hc1 ⟨Nat.zero_le _, by show 1 ≤ 1048576; omega, Nat.zero_le _, by show 1 ≤ 1048576; omega, Nat.zero_le _⟩ (HT.out.below hb0 (Nat.le_refl _)))
  clear hW hc1 hb0 HT
  refine (HP.out).mono ?_
  rintro e w1 ⟨a1, c1, rfl, hs1, hb1⟩
  have HS1 := Lib.hid hs1
  have HB1 := Lib.hid (ext_trans HB0.out hb1)
  clear hs1 hb1 HB0 HP
  go_wp2_with fail
  refine (S1.out _ 2 2 _ (sees_lit w1 _ _ _ (([130, 1] : List UInt8).map bv) 2 rfl rfl) (by decide)).mono ?_
  rintro e w2 ⟨a2, c2, rfl, hs2, hb2⟩
  have hbb := ext_trans (ext_alloc _ _) hb2
  have HS1k := Lib.hid (HS1.out.below hbb)
  clear HS1
  have HB2 := Lib.hid (ext_trans HB1.out hbb)
  clear hbb hb2 HB1
  go_wp2_with fail
  refine (S2.out _ 2 2 _ (sees_lit w2 _ _ _ (([128, 0] : List UInt8).map bv) 2 rfl rfl) (by decide)).mono ?_
  rintro e w3 ⟨rfl, hb3⟩
  have hbb := ext_trans (ext_alloc _ _) hb3
  have HS1kk := Lib.hid (HS1k.out.below hbb)
  clear HS1k
  have HB3 := Lib.hid (ext_trans HB2.out hbb)
  clear hbb hb3 HB2
  go_wp2_with fail
  refine (S3.out _ 1 1 _ (sees_lit w3 _ _ _ (([128] : List UInt8).map bv) 1 rfl rfl) (by decide)).mono ?_
  rintro e w4 ⟨rfl, hb4⟩
  have hbb := ext_trans (ext_alloc _ _) hb4
  have HS1kkk := Lib.hid (HS1kk.out.below hbb)
  clear HS1kk
  have HB4 := Lib.hid (ext_trans HB3.out hbb)
  clear hbb hb4 HB3
  go_wp2_with fail
  refine (S4.out _ 2 2 _ (sees_lit w4 _ _ _ (([5, 7] : List UInt8).map bv) 2 rfl rfl) (by decide)).mono ?_
  rintro e w5 ⟨a5, c5, rfl, hs5, hb5⟩
  have hbb := ext_trans (ext_alloc _ _) hb5
  have HS1kkkk := Lib.hid (HS1kkk.out.below hbb)
  clear HS1kkk
  have HL5 := Lib.hid hs5
  clear hs5
  have HB5 := Lib.hid (ext_trans HB4.out hbb)
  clear hbb hb5 HB4
  go_wp2_with fail
  refine (T1.out _ _ (sees_lit w5 _ _ _ (([0, 0] : List UInt8).map bv) 2 rfl rfl)).mono ?_
  rintro e w6 ⟨a6, c6, rfl, hs6, hb6⟩
  have hbb := ext_trans (ext_alloc _ _) hb6
  have HS1kkkkk := Lib.hid (HS1kkkk.out.below hbb)
  clear HS1kkkk
  have HL5k := Lib.hid (HL5.out.below hbb)
  clear HL5
  have HT6 := Lib.hid hs6
  clear hs6
  have HB6 := Lib.hid (ext_trans HB5.out hbb)
  clear hbb hb6 HB5
  go_wp2_with fail
  refine (G1.out _ _ _ _ HT6.out (by decide)).mono ?_
  rintro e w7 ⟨rfl, hb7⟩
  have hbb := hb7
  have HS1kkkkkk := Lib.hid (HS1kkkkk.out.below hbb)
  clear HS1kkkkk
  have HL5kk := Lib.hid (HL5k.out.below hbb)
  clear HL5k
  have HT6k := Lib.hid (HT6.out.below hbb)
  clear HT6
  have HB7 := Lib.hid (ext_trans HB6.out hbb)
  clear hbb hb7 HB6
  go_upto_region 7 with fail
  generalize hW : World.alloc _ _ = Z7
  have HS1kkkkkkr := Lib.hid (show Sees Z7 _ _ _ _ by subst hW; exact HS1kkkkkk.out.below (ext_alloc _ _))
  clear HS1kkkkkk
  have HL5kkr := Lib.hid (show Sees Z7 _ _ _ _ by subst hW; exact HL5kk.out.below (ext_alloc _ _))
  clear HL5kk
  have HT6kr := Lib.hid (show Sees Z7 _ _ _ _ by subst hW; exact HT6k.out.below (ext_alloc _ _))
  clear HT6k
  have HB7r := Lib.hid (show Below w.heap.size w Z7 by subst hW; exact ext_trans HB7.out (ext_alloc _ _))
  clear hW HB7
  have HB7 := HB7r
  clear HB7r
  go_wp2_with fail
  refine (T2.out _).mono ?_
  rintro e w8 ⟨a8, c8, rfl, hs8, hb8⟩
  have hbb := hb8
  have HS1kkkkkkrk := Lib.hid (HS1kkkkkkr.out.below hbb)
  clear HS1kkkkkkr
  have HL5kkrk := Lib.hid (HL5kkr.out.below hbb)
  clear HL5kkr
  have HT6krk := Lib.hid (HT6kr.out.below hbb)
  clear HT6kr
  have HT8 := Lib.hid hs8
  clear hs8
  have HB8 := Lib.hid (ext_trans HB7.out hbb)
  clear hbb hb8 HB7
  go_wp2_with fail
  refine (G2.out _ _ _ _ HT8.out (by decide)).mono ?_
  rintro e w9 ⟨rfl, hb9⟩
  have hbb := hb9
  have HS1kkkkkkrkk := Lib.hid (HS1kkkkkkrk.out.below hbb)
  clear HS1kkkkkkrk
  have HL5kkrkk := Lib.hid (HL5kkrk.out.below hbb)
  clear HL5kkrk
  have HT6krkk := Lib.hid (HT6krk.out.below hbb)
  clear HT6krk
  have HT8k := Lib.hid (HT8.out.below hbb)
  clear HT8
  have HB9 := Lib.hid (ext_trans HB8.out hbb)
  clear hbb hb9 HB8
  go_upto_region 8 with fail
  generalize hW : World.alloc _ _ = Z9
  have HS1kkkkkkrkkr := Lib.hid (show Sees Z9 _ _ _ _ by subst hW; exact HS1kkkkkkrkk.out.below (ext_alloc _ _))
  clear HS1kkkkkkrkk
  have HL5kkrkkr := Lib.hid (show Sees Z9 _ _ _ _ by subst hW; exact HL5kkrkk.out.below (ext_alloc _ _))
  clear HL5kkrkk
  have HT6krkkr := Lib.hid (show Sees Z9 _ _ _ _ by subst hW; exact HT6krkk.out.below (ext_alloc _ _))
  clear HT6krkk
  have HT8kr := Lib.hid (show Sees Z9 _ _ _ _ by subst hW; exact HT8k.out.below (ext_alloc _ _))
  clear HT8k
  have HB9r := Lib.hid (show Below w.heap.size w Z9 by subst hW; exact ext_trans HB9.out (ext_alloc _ _))
  clear hW HB9
  have HB9 := HB9r
  clear HB9r
  go_wp2_with fail
  refine (T3.out _ _ (sees_lit Z9 _ _ _ (([2, 0] : List UInt8).map bv) 2 rfl rfl)).mono ?_
  rintro e w10 ⟨a10, c10, rfl, hs10, hb10⟩
  have hbb := ext_trans (ext_alloc _ _) hb10
  have J1 := Lib.hid (HS1kkkkkkrkkr.out.below hbb)
  clear HS1kkkkkkrkkr
  have J5 := Lib.hid (HL5kkrkkr.out.below hbb)
  clear HL5kkrkkr
  have J10 := Lib.hid hs10
  have HB10 := Lib.hid (ext_trans HB9.out hbb)
  clear hbb hs10 hb10 HB9
  go_wp2_with fail
  refine (BY.out _ _ _ _ _ _ _ _ _ (by rfl) J1.out J10.out).mono ?_
  rintro e wz ⟨rfl, rfl⟩
  go_wp2_with fail
  refine (BY.out [7] [7] _ _ _ _ _ _ _ rfl (J5.out.below (ext_alloc _ _)) (sees_lit w10 _ _ _ (([7] : List UInt8).map bv) 1 rfl rfl)).mono ?_
  rintro e wz ⟨rfl, rfl⟩
  go_wp2_with fail
  go_ret
  exact ⟨rfl, ext_trans HB10.out (ext_alloc _ _)⟩
end Go.Proofs.YtglhnmbfkbjemaaGreatDoor
/- bytes.Equal, by its contract. -/
namespace Go.Proofs.YtglhnmbfkbjemaaGreatDoor
open Go Go.RowKit
set_option maxRecDepth 100000 in
set_option maxHeartbeats 400000 in
theorem beq_any (bs cs : List UInt8) (a a' : Option Addr) (n c n' c' : Nat) (w : World) (h : Sees w a n c (bs.map bv)) (h' : Sees w a' n' c' (cs.map bv)) :
    Calls Tryz.prog 58 #[.slice a n c, .slice a' n' c'] w fun e w' => e = .returned (.bool (decide (bs = cs))) ∧ w' = w := by
  have q1 := h.str (P := Tryz.prog) 27 5 9 Tryz.underlying27 Tryz.underlying5 Tryz.underlying9
  have q2 := h'.str (P := Tryz.prog) 27 5 9 Tryz.underlying27 Tryz.underlying5 Tryz.underlying9
  clear h h'
  go_enter Tryz.func58, Tryz.ntmps58
  go_wp2
  go_ret
  exact ⟨by rw [show decide (bs = cs) = (bs == cs) by by_cases e : bs = cs <;> simp [e]]; simp [str], rfl⟩
end Go.Proofs.YtglhnmbfkbjemaaGreatDoor
namespace Go.Proofs.YtglhnmbfkbjemaaGreatDoor
open Go Go.RowKit Go.Joins
def aagL : List UInt8 := [97, 97, 103, 32]
set_option maxRecDepth 100000 in
theorem hasprefix_any (bs : List UInt8) (a a' : Option Addr) (n c c' : Nat) (w : World) (h : Sees w a n c (bs.map bv)) (h' : Sees w a' 4 c' (aagL.map bv)) :
    Calls Tryz.prog 28 #[.slice a n c, .slice a' 4 c'] w fun e w' => e = .returned (.bool (decide (bs.take 4 = aagL))) ∧ w' = w := by
  have hl := h.lenMap
  have hcap := h.cap
  by_cases h4 : 4 ≤ n
  · obtain ⟨a2, ec, hs2⟩ := h.cut 0 4 (by omega) h4
    rw [List.drop_zero, ← List.map_take] at hs2
    have q := fun W => (run_upto (P := Tryz.prog) Tryz.underlying27 size_u8 W a n c 4 4 rfl (by omega)).trans (congrArg (fun v => Result.ok v W) (show sliced a 0 4 c 1 = _ from ec))
    have HEQ := Lib.hid (beq_any (bs.take 4) aagL a2 a' (4 - 0) (c - 0) 4 c' w hs2 h')
    have e1 : decide ((4 : Int) ≤ (n : Int)) = true := by simp; omega
    clear h h' hl hs2 ec hcap
    go_enter Tryz.func28, Tryz.ntmps28
    go_wp2_with fail
    refine HEQ.out.mono ?_
    rintro e w' ⟨rfl, rfl⟩
    go_wp2_with fail
    go_ret
    exact ⟨rfl, rfl⟩
  · have e1 : decide ((4 : Int) ≤ (n : Int)) = false := by simp; omega
    have hd : decide (bs.take 4 = aagL) = false := by
      apply decide_eq_false
      intro e
      have := congrArg List.length e
      simp [aagL] at this
      omega
    have HD := Lib.hid hd
    clear h h' hl hd hcap
    go_enter Tryz.func28, Tryz.ntmps28
    go_wp2_with fail
    go_ret
    rw [HD.out]
    exact ⟨rfl, rfl⟩
def notI (u : Value) : Prop := ∃ k z, u = .int k z ∧ k ≠ .i64
theorem prCs_notI {K : Nat → Value} (hK : ∀ n, notI (K n)) : ∀ (l : List (Nat × Nat)), ∀ u ∈ prCs K l, notI u
  | [], u, h => by cases h
  | p :: r, u, h => by
    rw [prCs] at h
    rcases List.mem_cons.1 h with rfl | h
    · exact ⟨_, _, rfl, by decide⟩
    · rcases List.mem_cons.1 h with rfl | h
      · exact hK _
      · exact prCs_notI hK r u h
theorem sees_six {X : World} {g : Nat} {a : Option Addr} {n c : Nat} {xs : List Value} {z0 : Int} {b1 b2 b3 b4 b5 : Option Addr} {m1 m2 m3 m4 m5 d1 d2 d3 d4 d5 : Nat} {t : TypeId} (h : Sees X a n c xs) (hx : ∀ u ∈ xs, notI u)
    (hg : X.heap[g]? = some (.cells #[.int .i64 z0, .slice b1 m1 d1, .slice b2 m2 d2, .slice b3 m3 d3, .slice b4 m4 d4, .slice b5 m5 d5] t (0, 0))) (u0 u1 u2 u3 u4 u5 : Value) :
    Sees ((((((X.setCell ⟨g, 0, .none⟩ u0).setCell ⟨g, 1, .none⟩ u1).setCell ⟨g, 2, .none⟩ u2).setCell ⟨g, 3, .none⟩ u3).setCell ⟨g, 4, .none⟩ u4).setCell ⟨g, 5, .none⟩ u5) a n c xs := by
  have hlen := h.len
  by_cases h0 : n = 0
  · subst h0
    exact Sees.zero _ _ _ _ h.nilc (List.eq_nil_of_length_eq_zero hlen)
  · obtain ⟨b, off, rfl, hlt, hc⟩ := h.real (by omega)
    have hne : b ≠ g := by
      rintro rfl
      have h1 := hc 0 (by omega)
      rw [Nat.add_zero, cell_of_block hg off] at h1
      obtain ⟨u, r, rfl⟩ : ∃ u r, xs = u :: r := by
        cases xs with
        | nil => simp at hlen; omega
        | cons u r => exact ⟨u, r, rfl⟩
      obtain ⟨k, z, rfl, hk⟩ := hx u (by simp)
      rw [List.getElem?_cons_zero] at h1
      match off, h1 with
      | 0, h1 => simp at h1; exact hk h1.1.symm
      | 1, h1 => simp at h1
      | 2, h1 => simp at h1
      | 3, h1 => simp at h1
      | 4, h1 => simp at h1
      | 5, h1 => simp at h1
      | o + 6, h1 => simp at h1
    exact sees_keep h (fun b' hb' => by cases hb'; exact set6_other g b hne u0 u1 u2 u3 u4 u5) (set6 (B := 0) (w := X) g (Nat.zero_le _) (Below.refl 0 X)).size
theorem seescir_six {X : World} {g : Nat} {s : CSlots} {c : NormC} {z0 : Int} {b1 b2 b3 b4 b5 : Option Addr} {m1 m2 m3 m4 m5 d1 d2 d3 d4 d5 : Nat} {t : TypeId} (h : SeesCir X s c)
    (hg : X.heap[g]? = some (.cells #[.int .i64 z0, .slice b1 m1 d1, .slice b2 m2 d2, .slice b3 m3 d3, .slice b4 m4 d4, .slice b5 m5 d5] t (0, 0))) (u0 u1 u2 u3 u4 u5 : Value) :
    SeesCir ((((((X.setCell ⟨g, 0, .none⟩ u0).setCell ⟨g, 1, .none⟩ u1).setCell ⟨g, 2, .none⟩ u2).setCell ⟨g, 3, .none⟩ u3).setCell ⟨g, 4, .none⟩ u4).setCell ⟨g, 5, .none⟩ u5) s c := by
  have n32 : ∀ l : List Nat, ∀ u ∈ l.map nv32, notI u := fun l u hu => by
    obtain ⟨x, _, rfl⟩ := List.mem_map.1 hu
    exact ⟨_, _, rfl, by decide⟩
  exact ⟨⟨h.s1.1, h.s1.2.1, sees_six h.s1.2.2 (prCs_notI (fun n => ⟨_, _, rfl, by decide⟩) _) hg _ _ _ _ _ _⟩, ⟨h.s2.1, h.s2.2.1, sees_six h.s2.2.2 (prCs_notI (fun n => ⟨_, _, rfl, by decide⟩) _) hg _ _ _ _ _ _⟩,
    sees_six h.s3 (n32 _) hg _ _ _ _ _ _, sees_six h.s4 (n32 _) hg _ _ _ _ _ _, sees_six h.s5 (n32 _) hg _ _ _ _ _ _⟩
set_option maxRecDepth 100000 in
set_option maxHeartbeats 1600000 in
theorem any_bin (bs : List UInt8) (c0 : NormC) (hno : decide (bs.take 4 = aagL) = false) (hg : getB bs = .ok c0) (a : Option Addr) (n c : Nat) (w : World) (h : Sees w a n c (bs.map bv)) (hn : n ≤ 100000000) :
    Calls Tryz.prog 9 #[.slice a n c] w fun e w' => ∃ s : CSlots, e = .returned (.tuple #[cirV c0.ins s, .int .i64 0]) ∧ SeesCir w' s c0 ∧ Below w.heap.size w w' := by
  have HP := Lib.hid (fun W (hb : Below w.heap.size w W) a' c' (h' : Sees W a' 4 c' (aagL.map bv)) => hasprefix_any bs a a' n c c' W (h.below hb) h')
  have HG := Lib.hid (fun W (hb : Below w.heap.size w W) => bget_any bs a n c W (h.below hb) hn)
  rw [hno] at HP
  have HGB := Lib.hid hg
  have kc := Lib.run_convert_bytes_const (P := Tryz.prog) (w.alloc (.cells #[.int .i64 0, .slice none 0 0, .slice none 0 0, .slice none 0 0, .slice none 0 0, .slice none 0 0] 26)) 27 5 #[.int .u8 97, .int .u8 97, .int .u8 103, .int .u8 32] 4 4 Tryz.underlying27 Tryz.underlying5
  rw [show (w.alloc (.cells #[.int .i64 0, .slice none 0 0, .slice none 0 0, .slice none 0 0, .slice none 0 0, .slice none 0 0] 26)).heap.size = w.heap.size + 1 by simp] at kc
  have hs1 : Sees ((w.alloc (.cells #[.int .i64 0, .slice none 0 0, .slice none 0 0, .slice none 0 0, .slice none 0 0, .slice none 0 0] 26)).alloc (.cells #[.int .u8 97, .int .u8 97, .int .u8 103, .int .u8 32] 5 (4, 5))) (some ⟨w.heap.size + 1, 0, none⟩) 4 4 (aagL.map bv) := sees_at _ 5 (4, 5) #[.int .u8 97, .int .u8 97, .int .u8 103, .int .u8 32] (aagL.map bv) 4 (w.heap.size + 1) rfl rfl (by simp)
  have hb1 : Below w.heap.size w ((w.alloc (.cells #[.int .i64 0, .slice none 0 0, .slice none 0 0, .slice none 0 0, .slice none 0 0, .slice none 0 0] 26)).alloc (.cells #[.int .u8 97, .int .u8 97, .int .u8 103, .int .u8 32] 5 (4, 5))) := ext_trans (ext_alloc _ _) (ext_alloc _ _)
  have HP1 := Lib.hid (HP.out _ hb1 _ _ hs1)
  have HB1 := Lib.hid hb1
  clear hs1 hb1 HP
  clear h hno hg hn
  obtain ⟨z, hz⟩ : ∃ z, z = c0.ins := ⟨_, rfl⟩
  rw [← hz]
  have HZ := Lib.hid hz
  clear hz
  go_enter Tryz.func9, Tryz.ntmps9
  go_wp2_with fail
  refine HP1.out.mono ?_
  rintro e w' ⟨rfl, rfl⟩
  clear HP1 kc
  go_wp2_with fail
  refine (HG.out _ HB1.out).mono ?_
  rintro e w2 ⟨hb2, ⟨c2, s2, hg, rfl, hs2⟩ | ⟨er, hg, _, rfl⟩⟩
  rotate_left
  · rw [HGB.out] at hg; cases hg
  rw [HGB.out] at hg
  obtain rfl : c0 = c2 := by injection hg
  rw [← HZ.out]
  have HS2 := Lib.hid hs2
  have HB2 := Lib.hid (ext_trans HB1.out hb2)
  obtain ⟨p1, q1, r1, p2, q2, r2, p3, q3, r3, p4, q4, r4, p5, q5, r5⟩ := s2
  have HX := Lib.hid (heap_below ((heap_below (heap_new w (.cells #[.int .i64 0, .slice none 0 0, .slice none 0 0, .slice none 0 0, .slice none 0 0, .slice none 0 0] 26) w.heap.size rfl) (ext_alloc _ (.cells #[.int .u8 97, .int .u8 97, .int .u8 103, .int .u8 32] 5 (4, 5))))) hb2)
  clear hb2 hg hs2 HG HGB HB1
  unfold cirV
  simp only
  have x0 := cell_of_block HX.out 0
  have x1 := cell_of_block HX.out 1
  have x2 := cell_of_block HX.out 2
  have x3 := cell_of_block HX.out 3
  have x4 := cell_of_block HX.out 4
  have x5 := cell_of_block HX.out 5
  have y0 := unfrozen_of_block HX.out 0
  have y1 := unfrozen_of_block HX.out 1
  have y2 := unfrozen_of_block HX.out 2
  have y3 := unfrozen_of_block HX.out 3
  have y4 := unfrozen_of_block HX.out 4
  have y5 := unfrozen_of_block HX.out 5
  go_wp2_with fail
  refine bodyPost_ret (v := .tuple #[cirV z ⟨p1, q1, r1, p2, q2, r2, p3, q3, r3, p4, q4, r4, p5, q5, r5⟩, .int .i64 0]) ?_ rfl ?_
  · have h6 := cir_set HX.out rfl (.int .i64 z) (.slice p1 q1 r1) (.slice p2 q2 r2) (.slice p3 q3 r3) (.slice p4 q4 r4) (.slice p5 q5 r5)
    simp [results, Tryz.results9, go_sem, cell_of_block h6 0, cell_of_block h6 1, cell_of_block h6 2, cell_of_block h6 3, cell_of_block h6 4, cell_of_block h6 5]
    rfl
  · exact ⟨_, rfl, seescir_six HS2.out HX.out _ _ _ _ _ _, set6 w.heap.size (Nat.le_refl _) HB2.out⟩
end Go.Proofs.YtglhnmbfkbjemaaGreatDoor
