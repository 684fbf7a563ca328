/- The small functions of package raw. -/
import Derived.Test.YtkimhlomadmnkaaDoorNBase
namespace Go.Proofs.YtkimhlomadmnkaaDoor
open Go Go.RowKit Go.Joins

theorem mostLit_any (m : Nat) (hm : m ≤ 16384) (w : World) : Calls Tryd.prog 92 #[.int .u32 m] w fun e w' => e = .returned (.int .u32 ((2 * m + 1 : Nat) : Int)) ∧ w = w' := by
  have h0 : (0 : Int) ≤ m := by omega
  have h1 : (m : Int) ≤ 16384 := by omega
  go_enter Tryd.func92, Tryd.ntmps92
  go_wp2
  go_ret
  simp

theorem mayReset_any (x y z : Nat) (w : World) : Calls Tryd.prog 94 #[.agg #[.int .u32 x, .int .u32 y, .int .u32 z]] w fun e w' => e = .returned (.bool (mayReset (x, y, z))) ∧ Below w.heap.size w w' := by
  by_cases h1 : z ≤ 1
  · have hb : mayReset (x, y, z) = true := by simp [mayReset, h1]
    have e1 : decide ((z : Int) ≤ 1) = true := by simp; omega
    have HB := Lib.hid hb
    clear hb
    go_enter Tryd.func94, Tryd.ntmps94
    go_wp2
    go_ret
    exact ⟨by rw [HB.out]; rfl, ext_alloc _ _⟩
  · have e1 : decide ((z : Int) ≤ 1) = false := by simp; omega
    by_cases h2 : z = x
    · subst h2
      have hb : mayReset (z, y, z) = true := by simp [mayReset]
      have HB := Lib.hid hb
      clear hb
      go_enter Tryd.func94, Tryd.ntmps94
      go_wp2
      go_ret
      exact ⟨by rw [HB.out]; rfl, ext_alloc _ _⟩
    · have hb : mayReset (x, y, z) = false := by simp [mayReset, h2]; omega
      have e2 : ((z : Int) == (x : Int)) = false := by simp; omega
      have HB := Lib.hid hb
      have H2 := Lib.hid h2
      clear hb h2
      go_enter Tryd.func94, Tryd.ntmps94
      go_wp2
      go_ret
      exact ⟨by rw [HB.out]; rfl, ext_alloc _ _⟩

/-- May's first closure: its captured circuit lies at block B. -/
theorem above_any (m x B : Nat) (hm : m ≤ 16384) (w : World) (hc : w.cell? ⟨B, 0, .none⟩ = some (.int .u32 m)) :
    Calls Tryd.prog 91 #[.int .u32 x, .pointer (some ⟨B, 0, .none⟩)] w fun e w' => e = .returned (.bool (above m x)) ∧ w = w' := by
  have e : decide (2 * (m : Int) + 1 < (x : Int)) = above m x := by unfold above; apply decide_eq_decide.2; omega
  have E := Lib.hid e
  clear e
  go_enter Tryd.func91, Tryd.ntmps91
  go_wp2_with fail
  refine (mostLit_any m hm w).mono ?_
  rintro e w' ⟨rfl, rfl⟩
  go_wp2
  go_ret
  exact ⟨congrArg (fun b => Ending.returned (.bool b)) E.out, rfl⟩
end Go.Proofs.YtkimhlomadmnkaaDoor
