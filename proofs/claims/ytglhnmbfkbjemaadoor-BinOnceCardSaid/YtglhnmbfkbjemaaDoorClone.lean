/- bytes.Clone, by its contract: a copy in new memory. -/
import Derived.Test.YtglhnmbfkbjemaaDoorOwnStr
import Derived.Test.YtglhnmbfkbjemaaDoorRows
namespace Go.Proofs.YtglhnmbfkbjemaaDoor
open Go Go.RowKit

theorem info_u8 : (Tryd.prog.info? 5).map (fun i => (i.zero, i.size, i.bytes)) = some (some (.int .u8 0), 1, 1) := by kernel_rfl

set_option maxRecDepth 100000 in
set_option maxHeartbeats 400000 in
theorem clone_any (bs : List UInt8) (a : Option Addr) (n c : Nat) (w : World) (h : Sees w a n c (bs.map bv)) (hn : n ≤ 140737488355328) :
    Calls Tryd.prog 26 #[.slice a n c] w fun e w' => ∃ v, e = .returned v ∧ Row isByte w' w.heap.size 5 v n (bs.map bv) ∧ Below w.heap.size w w' := by
  obtain ⟨i0, hi, hz0, hz1, hz2⟩ := info_parts info_u8
  have q := fun (w : World) (a : Option Addr) (n c n' c' : Nat) => Lib.run_eql_slice_nil (P := Tryd.prog) w 22 5 a n c n' c' Tryd.underlying22
  have H : Hid (Sees w a n c (bs.map bv)) := h
  clear h
  cases a with
  | none =>
    go_enter Tryd.func26, Tryd.ntmps26
    go_wp2
    go_ret
    have h := H.out
    have h0 : n = 0 := by have := h.cap; have := h.nilc rfl; omega
    subst h0
    have hx : bs.map bv = [] := List.eq_nil_of_length_eq_zero h.len
    exact ⟨_, rfl, by rw [hx]; exact Row.nil _ _ _ _, Below.refl _ _⟩
  | some ad =>
    go_enter Tryd.func26, Tryd.ntmps26
    go_wp2_with (at_builtin; refine wpList_append_row isByte _ rfl _ _ 22 rfl w.heap.size 5 i0 (.int .u8 0) 1 Tryd.underlying22 hi hz0 hz1 hz2 rfl isByte_zero _ _ _ rfl (Row.made #[] 0 (Nat.le_refl _) (Nat.zero_le _) (Nat.zero_le _) (by simp)) (some ad) n c (bs.map bv) rfl ?qc1 (bv_one bs) (isByte_all bs) ?qc4 ?qc5 ?qc6 ?_)
    case qc1 => exact H.out.below ((Below.refl _ _).alloc (Nat.le_refl _) _)
    case qc4 => unfold maxLen; omega
    case qc5 => omega
    case qc6 => simp
    intro v' w1 hown hgrow hnil
    go_wp2
    go_ret
    exact ⟨v', rfl, by simpa using hown, ((Below.refl _ w).alloc (Nat.le_refl _) _).grown hgrow (by simp) (by intro k hk; simp [Value.ownBlock] at hk; omega)⟩

/-- The same, where the slice was read in an earlier world. -/
theorem clone_from (w0 : World) (bs : List UInt8) (a : Option Addr) (n c : Nat) (w : World) (h : Sees w0 a n c (bs.map bv)) (hb : Below w0.heap.size w0 w) (hn : n ≤ 140737488355328) :
    Calls Tryd.prog 26 #[.slice a n c] w fun e w' => ∃ v, e = .returned v ∧ Row isByte w' w.heap.size 5 v n (bs.map bv) ∧ Below w.heap.size w w' :=
  clone_any bs a n c w (h.below hb) hn
end Go.Proofs.YtglhnmbfkbjemaaDoor
