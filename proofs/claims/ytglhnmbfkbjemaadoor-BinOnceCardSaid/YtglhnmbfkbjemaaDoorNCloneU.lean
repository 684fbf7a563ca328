/- slices.Clone of a list of uint32, by its contract. -/
import Derived.Test.YtglhnmbfkbjemaaDoorNBase
import Derived.Test.YtglhnmbfkbjemaaDoorNRawMay
import Derived.Maps.AppendAt
namespace Go.Proofs.YtglhnmbfkbjemaaDoor
open Go Go.RowKit Go.Joins
theorem nv32_one (l : List Nat) : ∀ u ∈ l.map nv32, u.oneCell' = true := by
  intro u hu
  obtain ⟨x, _, rfl⟩ := List.mem_map.1 hu
  rfl
set_option maxRecDepth 100000 in
theorem clone_u32 (xs : List Nat) (a : Option Addr) (n c : Nat) (w : World) (h : Sees w a n c (xs.map nv32)) (hn : n ≤ 1000000000) (h32 : ∀ x ∈ xs, x < 4294967296) :
    Calls Tryd.prog 36 #[.slice a n c] w fun e w' => ∃ v, e = .returned v ∧ Row isU32 w' w.heap.size 37 v n (xs.map nv32) ∧ Below w.heap.size w w' := by
  obtain ⟨i0, hi, hz0, hz1, hz2⟩ := info_parts info_u32
  have q := fun (w : World) (a : Option Addr) (n c n' c' : Nat) => Lib.run_eql_slice_nil (P := Tryd.prog) w 26 37 a n c n' c' Tryd.underlying26
  have H := Lib.hid h
  have HOK : Hid (∀ u ∈ xs.map nv32, isU32 u) := by
    intro u hu
    obtain ⟨x, hx, rfl⟩ := List.mem_map.1 hu
    exact ⟨x, h32 x hx, rfl⟩
  clear h h32
  cases a with
  | none =>
    go_enter Tryd.func36, Tryd.ntmps36
    go_wp2
    go_ret
    have h := H.out
    have h0 : n = 0 := by have := h.cap; have := h.nilc rfl; omega
    subst h0
    have hx : xs.map nv32 = [] := List.eq_nil_of_length_eq_zero h.len
    exact ⟨_, rfl, by rw [hx]; exact Row.nil _ _ _ _, Below.refl _ _⟩
  | some ad =>
    go_enter Tryd.func36, Tryd.ntmps36
    go_wp2_with (at_builtin; refine wpList_append_row isU32 _ rfl _ _ 26 rfl w.heap.size 37 i0 (.int .u32 0) 4 Tryd.underlying26 hi hz0 hz1 hz2 rfl ⟨0, by omega, rfl⟩ _ _ _ rfl (Row.made #[] 0 (Nat.le_refl _) (Nat.zero_le _) (Nat.zero_le _) (by simp)) (some ad) n c (xs.map nv32) rfl ?qc1 (nv32_one xs) HOK.out ?qc4 ?qc5 ?qc6 ?_)
    case qc1 => exact H.out.below ((Below.refl _ _).alloc (Nat.le_refl _) _)
    case qc4 => unfold maxLen; omega
    case qc5 => omega
    case qc6 => simp
    intro v' w1 hown hgrow hnil
    go_wp2
    go_ret
    exact ⟨v', rfl, by simpa using hown, ((Below.refl _ w).alloc (Nat.le_refl _) _).grown hgrow (by simp) (by intro k hk; simp [Value.ownBlock] at hk; omega)⟩
end Go.Proofs.YtglhnmbfkbjemaaDoor
