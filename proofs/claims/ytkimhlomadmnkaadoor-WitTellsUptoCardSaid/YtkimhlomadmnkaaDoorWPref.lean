/- bytes.HasPrefix and bytes.CutPrefix at a prefix of one byte, by their contracts. -/
import Derived.Test.YtkimhlomadmnkaaDoorBytesEq
import Derived.Test.YtkimhlomadmnkaaDoorWSpec
namespace Go.Proofs.YtkimhlomadmnkaaDoor
open Go Go.RowKit Go.Joins

def prefB (bs : List UInt8) (u : UInt8) : Bool := match bs with
  | [] => false
  | x :: _ => decide (x = u)

set_option maxRecDepth 100000 in
theorem hasPref_any (bs : List UInt8) (u : UInt8) (a a' : Option Addr) (n c c' : Nat) (w : World) (h : Sees w a n c (bs.map bv)) (h' : Sees w a' 1 c' [bv u]) :
    Calls Tryd.prog 102 #[.slice a n c, .slice a' 1 c'] w fun e w' => e = .returned (.bool (prefB bs u)) ∧ w' = w := by
  have hl := h.lenMap
  cases bs with
  | nil =>
    obtain rfl : n = 0 := hl.symm
    clear h h' hl
    go_enter Tryd.func102, Tryd.ntmps102
    go_wp2
    go_ret
    exact ⟨rfl, rfl⟩
  | cons x r =>
    obtain ⟨m, rfl⟩ : ∃ m, n = m + 1 := ⟨r.length, by rw [← hl]; simp⟩
    have hcap := h.cap
    obtain ⟨a1, ec1, see1⟩ := h.cut 0 1 (Nat.zero_le _) (by omega)
    have ec1' : sliced a 0 1 c 1 = .slice a1 1 c := ec1
    have see1' : Sees w a1 1 c ([x].map bv) := see1
    have q1 := fun W => (run_upto (P := Tryd.prog) Tryd.underlying22 size_u8 W a (m + 1) c 1 1 rfl (by omega)).trans (congrArg (fun v => Result.ok v W) ec1')
    have he := beq_any [x] [u] a1 a' 1 c 1 c' w see1' h'
    have e1 : decide ((1 : Int) ≤ ((m + 1 : Nat) : Int)) = true := by simp; omega
    have e2 : decide ((1 : Int) ≤ (m : Int) + 1) = true := by simp; omega
    obtain ⟨q, hq⟩ : ∃ q, q = decide (([x] : List UInt8) = [u]) := ⟨_, rfl⟩
    rw [← hq] at he
    have HE := Lib.hid he
    have HQ : Hid (prefB (x :: r) u = q) := by rw [hq]; show decide (x = u) = _; simp
    clear h h' hl ec1 ec1' see1 see1' he hq hcap
    go_enter Tryd.func102, Tryd.ntmps102
    go_wp2_with fail
    refine HE.out.mono ?_
    rintro e w' ⟨rfl, rfl⟩
    cases q with
    | true =>
      go_wp2
      go_ret
      exact ⟨by rw [HQ.out]; rfl, rfl⟩
    | false =>
      go_wp2
      go_ret
      exact ⟨by rw [HQ.out]; rfl, rfl⟩

/-- What CutPrefix answers. -/
def PrefPost (bs : List UInt8) (w : World) (e : Ending) (w' : World) : Prop :=
  w' = w ∧ ((prefW bs = none ∧ ∃ a n c, e = .returned (.tuple #[.slice a n c, .bool false])) ∨
    (∃ d a c, prefW bs = some d ∧ e = .returned (.tuple #[.slice a d.length c, .bool true]) ∧ Sees w a d.length c (d.map bv)))

set_option maxRecDepth 100000 in
theorem cutPref_any (bs : List UInt8) (a a' : Option Addr) (n c c' : Nat) (w : World) (h : Sees w a n c (bs.map bv)) (h' : Sees w a' 1 c' [bv 98]) :
    Calls Tryd.prog 76 #[.slice a n c, .slice a' 1 c'] w (PrefPost bs w) := by
  have hl := h.lenMap
  have hcall := hasPref_any bs 98 a a' n c c' w h h'
  obtain ⟨q, hq⟩ : ∃ q, q = prefB bs 98 := ⟨_, rfl⟩
  rw [← hq] at hcall
  have HC := Lib.hid hcall
  cases q with
  | false =>
    have hn : prefW bs = none := by
      cases bs with
      | nil => rfl
      | cons x r =>
        have : ¬ x = 98 := of_decide_eq_false hq.symm
        show (if x = 98 then some r else none) = none; rw [if_neg this]
    have HN := Lib.hid hn
    clear h h' hl hcall hq hn
    go_enter Tryd.func76, Tryd.ntmps76
    go_wp2_with fail
    refine HC.out.mono ?_
    rintro e w' ⟨rfl, rfl⟩
    go_wp2
    go_ret2
    exact ⟨rfl, Or.inl ⟨HN.out, _, _, _, rfl⟩⟩
  | true =>
    cases bs with
    | nil => cases hq
    | cons x r =>
      have hx : x = 98 := of_decide_eq_true hq.symm
      subst hx
      have hn : prefW (98 :: r) = some r := rfl
      obtain rfl : n = r.length + 1 := by rw [← hl]; simp
      obtain ⟨a2, ec2, see2⟩ := h.cut 1 (r.length + 1) (by omega) (Nat.le_refl _)
      have ec2' : sliced a 1 (r.length + 1) c 1 = .slice a2 r.length (c - 1) := ec2
      have see2' : Sees w a2 r.length (c - 1) (r.map bv) := by
        have e : List.drop 1 (List.take (r.length + 1) (List.map bv (98 :: r))) = r.map bv := by
          rw [List.take_of_length_le (by simp)]; rfl
        rw [e] at see2; exact see2
      obtain ⟨m, hm⟩ : ∃ m, m = r.length := ⟨_, rfl⟩
      rw [← hm] at ec2' HC ⊢
      have q1 := fun W => (run_from (P := Tryd.prog) Tryd.underlying22 size_u8 W a (m + 1) c 1 1 rfl (by omega)).trans (congrArg (fun v => Result.ok v W) ec2')
      have HN := Lib.hid hn
      have HS := Lib.hid see2'
      have HMM := Lib.hid hm
      clear h h' hl hcall hq hn ec2 ec2' see2 see2' hm
      go_enter Tryd.func76, Tryd.ntmps76
      go_wp2_with fail
      refine HC.out.mono ?_
      rintro e w' ⟨rfl, rfl⟩
      go_wp2
      go_ret2
      refine ⟨rfl, Or.inr ⟨r, a2, c - 1, HN.out, ?_, HS.out⟩⟩
      rw [← HMM.out]; rfl
end Go.Proofs.YtkimhlomadmnkaaDoor
