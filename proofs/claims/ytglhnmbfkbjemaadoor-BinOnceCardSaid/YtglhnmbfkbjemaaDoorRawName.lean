/- raw.isName, by its contract: bytes.Cut, slices.ContainsFunc and strings.IndexByte below it. -/
import Derived.Test.YtglhnmbfkbjemaaDoorBInA
namespace Go.Proofs.YtglhnmbfkbjemaaDoor
open Go Go.RowKit Go.Joins

/-- The bytes ahead of the first blank. -/
def markOf (l : List UInt8) : List UInt8 := l.takeWhile (fun u => u != 32)
theorem indexByte_blank (bs : List UInt8) : Lib.indexByte bs 32 = if (markOf bs).length < bs.length then ((markOf bs).length : Int) else -1 := by
  induction bs with
  | nil => simp [Lib.indexByte, markOf]
  | cons x r ih =>
    rw [Lib.indexByte]
    by_cases h : x = 32
    · subst h
      simp [markOf]
    · have hb : (x == 32) = false := by simpa using h
      have ha : (markOf (x :: r)).length = (markOf r).length + 1 := by unfold markOf; rw [List.takeWhile_cons]; simp [h]
      have hf : ∀ (a b : Int), (if false = true then a else b) = b := fun a b => by simp
      by_cases hlt : (markOf r).length < r.length
      · rw [if_pos hlt] at ih
        have h1 : (((markOf r).length : Int) == -1) = false := by simp
        rw [hb, hf, ih, ha, if_pos (show (markOf r).length + 1 < (x :: r).length by rw [List.length_cons]; omega), h1, hf]
        simp
      · rw [if_neg hlt] at ih
        rw [hb, hf, ih, ha, if_neg (show ¬ (markOf r).length + 1 < (x :: r).length by rw [List.length_cons]; omega)]
        simp
theorem mark_take (bs : List UInt8) : bs.take (markOf bs).length = markOf bs := by
  unfold markOf
  induction bs with
  | nil => rfl
  | cons x r ih =>
    rw [List.takeWhile_cons]
    split
    · rw [List.length_cons, List.take_succ_cons, ih]
    · rfl
theorem mark_le (bs : List UInt8) : (markOf bs).length ≤ bs.length := by
  unfold markOf
  exact (List.takeWhile_sublist _).length_le

/-- What bytes.Cut at a blank answers: both parts in the argument's memory. -/
theorem cutBlank_any (bs : List UInt8) (a a' : Option Addr) (n c c' : Nat) (w : World) (h : Sees w a n c (bs.map bv)) (h' : Sees w a' 1 c' [bv 32]) (hn : n ≤ 1000000000) :
    Calls Tryd.prog 49 #[.slice a n c, .slice a' 1 c'] w fun e w' => ∃ a1 c1 a2 c2 q, e = .returned (.tuple #[.slice a1 (markOf bs).length c1, .slice a2 (bs.drop ((markOf bs).length + 1)).length c2, .bool q]) ∧
      Sees w' a1 (markOf bs).length c1 ((markOf bs).map bv) ∧ Sees w' a2 (bs.drop ((markOf bs).length + 1)).length c2 ((bs.drop ((markOf bs).length + 1)).map bv) ∧ Below w.heap.size w w' := by
  have hbl := h.lenMap
  have hcap := h.cap
  have hi := index_one w a a' n c c' bs 32 h h'
  rw [indexByte_blank] at hi
  obtain ⟨k, hk⟩ : ∃ k, k = (markOf bs).length := ⟨_, rfl⟩
  rw [← hk] at hi
  have hmt := mark_take bs
  have hml := mark_le bs
  rw [← hk] at hmt hml
  by_cases hlt : k < bs.length
  · rw [if_pos hlt] at hi
    have hkn : k < n := by omega
    obtain ⟨a1, ec1, see1⟩ := h.cut 0 k (Nat.zero_le _) (by omega)
    obtain ⟨a2, ec2, see2⟩ := h.cut (k + 1) n (by omega) (Nat.le_refl _)
    have ec1' : sliced a 0 k c 1 = .slice a1 k c := ec1
    have see1' : Sees w a1 k c ((markOf bs).map bv) := by rw [← hmt, List.map_take]; exact see1
    have q1 := fun W => (run_upto (P := Tryd.prog) Tryd.underlying22 size_u8 W a n c k (k : Int) (by omega) (by omega)).trans (congrArg (fun v => Result.ok v W) ec1')
    have q2 := fun W => (run_from (P := Tryd.prog) Tryd.underlying22 size_u8 W a n c (k + 1) ((k : Int) + 1) (by omega) (by omega)).trans (congrArg (fun v => Result.ok v W) ec2)
    have S2 : Sees w a2 (n - (k + 1)) (c - (k + 1)) ((bs.drop (k + 1)).map bv) := by
      have e : (List.map bv bs).take n = List.map bv bs := List.take_of_length_le (by rw [h.len]; exact Nat.le_refl _)
      rw [e, ← List.map_drop] at see2
      exact see2
    have hld : (bs.drop (k + 1)).length = n - (k + 1) := by rw [List.length_drop, hbl]
    have HI := Lib.hid hi
    have HS1 := Lib.hid see1'
    have HS2 := Lib.hid S2
    have HK := Lib.hid hk
    have HLD := Lib.hid hld
    have h1 : decide ((0 : Int) ≤ (k : Int)) = true := by simp
    clear hi see1 see1' see2 S2 hk hmt hbl h h' ec1 ec2 ec1' hld
    have W1 : IntKind.i64.wrap ((k : Int) + 1) = (k : Int) + 1 := IntWalk.i64_in _ (by omega)
    go_enter Tryd.func49, Tryd.ntmps49
    go_wp2_with fail
    refine HI.out.mono ?_
    rintro e w' ⟨rfl, rfl⟩
    go_wp2
    go_quiet (fail)
    go_wp2
    go_ret3
    rename_i nq
    rw [← HK.out, HLD.out]
    exact ⟨a1, c, a2, c - (k + 1), true, rfl, HS1.out.below (ext_drewN w nq), HS2.out.below (ext_drewN w nq), ext_drewN w nq⟩
  · rw [if_neg hlt] at hi
    have hkn : k = n := by omega
    have hmm : markOf bs = bs := by rw [← hmt]; exact List.take_of_length_le (by omega)
    have hd : bs.drop (k + 1) = [] := List.drop_eq_nil_of_le (by omega)
    have HI := Lib.hid hi
    have HS := Lib.hid h
    have HK := Lib.hid hk
    have HKN := Lib.hid hkn
    have HMM := Lib.hid hmm
    have HD := Lib.hid hd
    clear hi hk hmt hbl h h' hkn hmm hd
    go_enter Tryd.func49, Tryd.ntmps49
    go_wp2_with fail
    refine HI.out.mono ?_
    rintro e w' ⟨rfl, rfl⟩
    go_wp2
    go_ret3
    rw [← HK.out, HD.out, HKN.out, HMM.out]
    exact ⟨a, c, none, 0, false, rfl, HS.out, Sees.nil _ _ _ (fun _ => rfl), Below.refl _ _⟩

theorem isCtl_any (u : UInt8) (w : World) : Calls Tryd.prog 51 #[.int .u8 (u.toNat : Int)] w fun e w' => e = .returned (.bool (isCtl u)) ∧ w = w' := by
  by_cases h1 : u.toNat < 32
  · have hb : isCtl u = true := by simp [isCtl, h1]
    have e1 : decide ((u.toNat : Int) < 32) = true := by simp; omega
    have HB := Lib.hid hb
    clear hb
    go_enter Tryd.func51, Tryd.ntmps51
    go_wp2
    go_ret
    exact ⟨by rw [HB.out]; rfl, rfl⟩
  · have e1 : decide ((u.toNat : Int) < 32) = false := by simp; omega
    by_cases h2 : u.toNat = 127
    · have hb : isCtl u = true := by simp [isCtl, h2]
      have e2 : ((u.toNat : Int) == 127) = true := by simp; omega
      have HB := Lib.hid hb
      have H2 := Lib.hid h2
      clear hb h2
      go_enter Tryd.func51, Tryd.ntmps51
      go_wp2
      go_ret
      exact ⟨by rw [HB.out]; rfl, rfl⟩
    · have hb : isCtl u = false := by simp [isCtl, h2]; omega
      have e2 : ((u.toNat : Int) == 127) = false := by simp; omega
      have HB := Lib.hid hb
      have H2 := Lib.hid h2
      clear hb h2
      go_enter Tryd.func51, Tryd.ntmps51
      go_wp2
      go_ret
      exact ⟨by rw [HB.out]; rfl, rfl⟩

theorem idx_u8 (l : List UInt8) (a : Option Addr) (n c : Nat) (hn : n ≤ 140737488355328) (w : World) (h : Sees w a n c (l.map bv)) :
    Calls Tryd.prog 68 #[.slice a n c, .func (.func 51) #[] #[]] w (IdxPost isCtl l w) := by
  have hl := h.lenMap
  have HS := Lib.hid h
  have HL := Lib.hid hl
  clear h hl
  go_enter Tryd.func68, Tryd.ntmps68
  go_wp2
  go_loop [5, 8] (fun v i => ∃ k : Nat, k ≤ n ∧ i = .int .i64 k ∧ Hid (∀ j, j < k → isCtl (l.getD j 0) = false)) (fun _ i => n - (intOf i).toNat)
  case atStart => exact ⟨0, Nat.zero_le _, rfl, fun j hj => absurd hj (by omega)⟩
  case round =>
    obtain ⟨k, hk, rfl, hno⟩ := hrel
    by_cases hlt : k < n
    · obtain ⟨b, off, rfl, hbw⟩ := HS.out.addr (by omega)
      have hcx := HS.out.byte k hlt
      obtain ⟨x, hx⟩ : ∃ x, x = l.getD k 0 := ⟨_, rfl⟩
      rw [← hx] at hcx
      have HX := Lib.hid hx
      clear hx
      have W1 : IntKind.i64.wrap ((k : Int) + 1) = (k : Int) + 1 := IntWalk.i64_in _ (by omega)
      obtain ⟨q, hq⟩ : ∃ q, q = isCtl x := ⟨_, rfl⟩
      have HQ := Lib.hid hq
      clear hq
      go_wp2_with fail
      refine (isCtl_any x w).mono ?_
      rw [← HQ.out]
      rintro e w' ⟨rfl, rfl⟩
      cases q with
      | true =>
        go_wp2
        go_ret
        refine ⟨k, rfl, by omega, ⟨fun _ => ?_, fun _ => by omega⟩, Below.refl _ _⟩
        exact List.any_eq_true.2 ⟨l.getD k 0, getD_mem (by rw [HL.out]; exact hlt), by rw [← HX.out]; exact HQ.out.symm⟩
      | false =>
        go_wp2
        go_round
        case rel =>
          refine ⟨k + 1, by omega, by go_num, fun j hj => ?_⟩
          rcases Nat.lt_or_ge j k with h | h
          · exact hno.out j h
          · have : j = k := by omega
            subst this
            rw [← HX.out]; exact HQ.out.symm
        case measure => simp [intOf]; omega
    · have hkn : k = n := by omega
      subst hkn
      go_wp2
      go_ret
      refine ⟨-1, rfl, by omega, ⟨fun h => absurd h (by decide), fun h => ?_⟩, Below.refl _ _⟩
      rw [any_none (all_of_getD (d := 0) (fun j hj => hno.out j (by rw [← HL.out]; exact hj)))] at h
      cases h

theorem has_u8 (l : List UInt8) (a : Option Addr) (n c : Nat) (hn : n ≤ 140737488355328) (w : World) (h : Sees w a n c (l.map bv)) :
    Calls Tryd.prog 50 #[.slice a n c, .func (.func 51) #[] #[]] w (fun e w' => e = .returned (.bool (l.any isCtl)) ∧ Below w.heap.size w w') := by
  have HI := Lib.hid (idx_u8 l a n c hn w h)
  clear h
  obtain ⟨f, hf⟩ : ∃ f, f = Value.func (.func 51) #[] #[] := ⟨_, rfl⟩
  rw [← hf] at HI ⊢
  have HF := Lib.hid hf
  clear hf
  go_enter Tryd.func50, Tryd.ntmps50
  go_wp2_with fail
  refine HI.out.mono ?_
  rintro e w' ⟨z, rfl, hz, hiff, hb⟩
  have e : decide (0 ≤ z) = l.any isCtl := by
    cases hq : l.any isCtl with
    | true => simpa using hiff.2 hq
    | false => simp; have := fun h => hiff.1 h; rw [hq] at this; exact Int.not_le.1 (fun h => by cases this h)
  have E := Lib.hid e
  clear e hiff
  go_wp2
  go_ret
  exact ⟨congrArg (fun b => Ending.returned (.bool b)) E.out, hb⟩
end Go.Proofs.YtglhnmbfkbjemaaDoor
