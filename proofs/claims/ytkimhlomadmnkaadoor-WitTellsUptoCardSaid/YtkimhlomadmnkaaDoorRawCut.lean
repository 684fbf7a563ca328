/- raw.cut, by its contract. -/
import Derived.Test.YtkimhlomadmnkaaDoorIdxByte
import Derived.Test.YtkimhlomadmnkaaDoorLexYes
namespace Go.Proofs.YtkimhlomadmnkaaDoor
open Go Go.RowKit Go.Joins

/-- What cut answers. -/
def CutPost (a0 : Option Addr) (bs : List UInt8) (w : World) (e : Ending) (w' : World) : Prop :=
  Below w.heap.size w w' ∧ ((cutS bs = none ∧ ∃ a c a2 n2 c2, e = .returned (.tuple #[.slice a 0 c, .slice a2 n2 c2, .int .i64 4])) ∨
    (∃ line rest a c a2 c2, cutS bs = some (line, rest) ∧ e = .returned (.tuple #[.slice a line.length c, .slice a2 rest.length c2, .int .i64 0]) ∧ Sees w' a line.length c (line.map bv) ∧ Sees w' a2 rest.length c2 (rest.map bv) ∧ a2.map Addr.block = a0.map Addr.block))

theorem sliced_block {a a2 : Option Addr} {l m c n2 c2 : Nat} (h : sliced a l m c 1 = .slice a2 n2 c2) : a2.map Addr.block = a.map Addr.block := by
  unfold sliced at h
  cases h
  split
  · rfl
  · cases a with
    | none => rfl
    | some x => simp [Addr.add]; split <;> rfl
theorem ahead_take (bs : List UInt8) (h : ahead bs < bs.length) : ahead (bs.take (ahead bs + 1)) = ahead bs := by
  induction bs with
  | nil => simp at h
  | cons x r ih =>
    by_cases hx : x = 10
    · subst hx; simp [ahead]
    · have ha : ahead (x :: r) = ahead r + 1 := by unfold ahead; rw [List.takeWhile_cons]; simp [hx]
      have h' : ahead r < r.length := by rw [ha, List.length_cons] at h; omega
      rw [ha, List.take_succ_cons]
      have hb : ahead (x :: r.take (ahead r + 1)) = ahead (r.take (ahead r + 1)) + 1 := by
        unfold ahead; rw [List.takeWhile_cons]; simp [hx]
      rw [hb, ih h']

theorem ahead_le (bs : List UInt8) : ahead bs ≤ bs.length := by
  induction bs with
  | nil => simp [ahead]
  | cons x r ih =>
    by_cases hx : x = 10
    · subst hx; simp [ahead]
    · have ha : ahead (x :: r) = ahead r + 1 := by unfold ahead; rw [List.takeWhile_cons]; simp [hx]
      rw [ha, List.length_cons]; omega

set_option maxRecDepth 100000 in
set_option maxHeartbeats 800000 in
theorem cut_any (bs : List UInt8) (a : Option Addr) (n c : Nat) (w : World) (h : Sees w a n c (bs.map bv)) (hn : n ≤ 1000000000) :
    Calls Tryd.prog 59 #[.slice a n c] w (CutPost a bs w) := by
  have hbl := h.lenMap
  have hcap := h.cap
  have hi := idxByte_any w a n c bs h 10
  rw [show ((10 : Int)).toNat.toUInt8 = (10 : UInt8) from rfl, indexByte_ahead] at hi
  by_cases hk : ahead bs < bs.length
  · rw [if_pos hk] at hi
    have hcs : cutS bs = some (bs.take (ahead bs), bs.drop (ahead bs + 1)) := by unfold cutS; rw [if_pos hk]
    have hat := ahead_take bs hk
    obtain ⟨k, hkk⟩ : ∃ k, k = ahead bs := ⟨_, rfl⟩
    rw [← hkk] at hi hk hcs hat
    obtain ⟨a1, ec1, see1⟩ := h.cut 0 (k + 1) (Nat.zero_le _) (by omega)
    obtain ⟨a2, ec2, see2⟩ := h.cut (k + 1) n (by omega) (Nat.le_refl _)
    have ec1' : sliced a 0 (k + 1) c 1 = .slice a1 (k + 1) c := ec1
    have see1' : Sees w a1 (k + 1) c ((bs.take (k + 1)).map bv) := by rw [List.map_take]; exact see1
    have q1 := fun W => (run_upto (P := Tryd.prog) Tryd.underlying22 size_u8 W a n c (k + 1) ((k : Int) + 1) (by omega) (by omega)).trans (congrArg (fun v => Result.ok v W) ec1')
    have q2 := fun W => (run_from (P := Tryd.prog) Tryd.underlying22 size_u8 W a n c (k + 1) ((k : Int) + 1) (by omega) (by omega)).trans (congrArg (fun v => Result.ok v W) ec2)
    have S2 : Hid (Sees w a2 (n - (k + 1)) (c - (k + 1)) ((bs.drop (k + 1)).map bv)) := by
      have e : (List.map bv bs).take n = List.map bv bs := List.take_of_length_le (by rw [h.len]; exact Nat.le_refl _)
      rw [e, ← List.map_drop] at see2
      exact see2
    have hkn : k < n := by omega
    have hlen1 : (bs.take (k + 1)).length = k + 1 := by simp; omega
    have HLI := Lib.hid (line_yes (bs.take (k + 1)) a1 (k + 1) c k w see1' (by omega) hat (by omega))
    have HI := Lib.hid hi
    have HCS := Lib.hid hcs
    have HBL := Lib.hid hbl
    have e1 : (bs.take (k + 1)).take k = bs.take k := by rw [List.take_take]; congr 1; omega
    have E1 := Lib.hid e1
    have hblk := sliced_block ec2
    have HBK := Lib.hid hblk
    clear hblk
    clear hi hcs hat hkk ec1 ec2 ec1' see1 see1' see2 hbl hlen1 e1 h
    have W1 : IntKind.i64.wrap ((k : Int) + 1) = (k : Int) + 1 := IntWalk.i64_in _ (by omega)
    go_enter Tryd.func59, Tryd.ntmps59
    go_wp2_with fail
    refine HI.out.mono ?_
    rintro e w' ⟨rfl, rfl⟩
    go_wp2_with fail
    refine HLI.out.mono ?_
    rintro e w1 ⟨v1, v2, rfl, r1, _, hb⟩
    obtain ⟨b1, c1, rfl, _, s1⟩ := r1.sees
    have HS1 := Lib.hid s1
    have HB := Lib.hid hb
    clear r1 s1 hb
    go_wp2
    go_quiet (fail)
    go_wp2
    go_ret3
    rename_i nq
    have HD := Lib.hid (ext_trans HB.out (ext_drewN w1 nq))
    refine ⟨HD.out, Or.inr ⟨bs.take k, bs.drop (k + 1), b1, c1, a2, c - (k + 1), HCS.out, ?_, ?_, ?_, HBK.out⟩⟩
    · have l1 : (bs.take k).length = k := by simp; omega
      have l2 : (bs.drop (k + 1)).length = n - (k + 1) := by rw [List.length_drop, HBL.out]
      rw [l1, l2]; rfl
    · have l1 : (bs.take k).length = k := by simp; omega
      have := HS1.out
      rw [E1.out] at this
      rw [l1]; exact this.below (ext_drewN _ _)
    · have l2 : (bs.drop (k + 1)).length = n - (k + 1) := by rw [List.length_drop, HBL.out]
      rw [l2]; exact S2.out.below HD.out
  · rw [if_neg hk] at hi
    have hcs : cutS bs = none := by unfold cutS; rw [if_neg hk]
    obtain ⟨a1, ec1, see1⟩ := h.cut 0 0 (Nat.le_refl _) (Nat.zero_le _)
    obtain ⟨a2, ec2, _⟩ := h.cut 0 n (Nat.zero_le _) (Nat.le_refl _)
    have ec1' : sliced a 0 0 c 1 = .slice a1 0 c := ec1
    have ec2' : sliced a 0 n c 1 = .slice a2 n c := ec2
    have see1' : Sees w a1 0 c (([] : List UInt8).map bv) := see1
    have q1 := fun W => (run_upto (P := Tryd.prog) Tryd.underlying22 size_u8 W a n c 0 0 rfl (by omega)).trans (congrArg (fun v => Result.ok v W) ec1')
    have q2 := fun W => (run_from (P := Tryd.prog) Tryd.underlying22 size_u8 W a n c 0 0 rfl (by omega)).trans (congrArg (fun v => Result.ok v W) ec2')
    have HLI := Lib.hid (line_no [] a1 0 c w see1' (by omega) rfl)
    have HI := Lib.hid hi
    have HCS := Lib.hid hcs
    clear hi hcs ec1 ec2 ec1' ec2' see1 see1' hbl h
    go_enter Tryd.func59, Tryd.ntmps59
    go_wp2_with fail
    refine HI.out.mono ?_
    rintro e w' ⟨rfl, rfl⟩
    go_wp2_with fail
    refine HLI.out.mono ?_
    rintro e w1 ⟨rfl, hb⟩
    have HB := Lib.hid hb
    clear hb
    go_wp2
    go_quiet (fail)
    go_wp2
    go_ret3
    exact ⟨ext_trans HB.out (ext_drewN _ _), Or.inl ⟨HCS.out, none, 0, a2, n, c, rfl⟩⟩
end Go.Proofs.YtkimhlomadmnkaaDoor
