/- bytes.IndexByte, bytes.Index and bytes.Cut at one byte, strings.IndexByte, by their contracts. -/
import Derived.Test.YtkimhlomadmnkaaDoorRawVal
import Derived.Shelf.Bytes.SlIndexAt
namespace Go.Proofs.YtkimhlomadmnkaaDoor
open Go Go.RowKit Go.Joins

theorem bytesOf_nat (bs : List UInt8) : Lib.bytesOf (bs.map fun u => (u.toNat : Int)) = bs := by
  unfold Lib.bytesOf
  rw [List.map_map]
  conv => rhs; rw [← List.map_id bs]
  apply List.map_congr_left
  intro u _
  simp

theorem run_idx (w : World) (a : Option Addr) (n c : Nat) (bs : List UInt8) (h : Sees w a n c (bs.map bv)) (cv : Int) :
    (Extern.BytealgIndexByte.indexByte #[.slice a n c, .int .u8 cv]).run Tryd.prog w = .ok (.int .i64 (Lib.indexByte bs cv.toNat.toUInt8)) w := by
  have hl := h.lenMap
  cases a with
  | none =>
    have h0 : n = 0 := by have := h.cap; have := h.nilc rfl; omega
    subst h0
    have : bs = [] := List.eq_nil_of_length_eq_zero hl
    subst this
    exact Lib.run_indexByteNil w 0 c cv
  | some ad =>
    have := Lib.run_indexByteAt (P := Tryd.prog) w ad n c (bs.map fun u => (u.toNat : Int)) (by simpa using hl) (by
      intro i hi
      obtain ⟨b, off, e, hlt, hc⟩ := h.real (by omega)
      cases e
      have hadd : (⟨b, off, none⟩ : Addr).add i = ⟨b, off + i, none⟩ := by unfold Addr.add; split <;> simp_all
      rw [hadd, hc i hi]
      simp [bv, List.getD, List.getElem?_eq_getElem (show i < bs.length by omega)]) cv
    rw [bytesOf_nat] at this
    exact this

set_option maxRecDepth 100000 in
theorem idxByte_any (w : World) (a : Option Addr) (n c : Nat) (bs : List UInt8) (h : Sees w a n c (bs.map bv)) (cv : Int) :
    Calls Tryd.prog 70 #[.slice a n c, .int .u8 cv] w fun e w' => e = .returned (.int .i64 (Lib.indexByte bs cv.toNat.toUInt8)) ∧ w = w' := by
  have hr := run_idx w a n c bs h cv
  have H := Lib.hid hr
  clear hr h
  go_enter Tryd.func70, Tryd.ntmps70
  go_wp2
  rw [run_callFunc_extern Tryd.func98 (by kernel_rfl) (by kernel_rfl) (by kernel_rfl) (e := Extern.BytealgIndexByte.indexByte) (by kernel_rfl), H.out]
  simp only [Result.andThen]
  rw [Oper.upon_value]
  go_wp2
  go_ret
  exact ⟨rfl, rfl⟩

set_option maxRecDepth 100000 in
theorem index_one (w : World) (a a' : Option Addr) (n c c' : Nat) (bs : List UInt8) (u : UInt8) (h : Sees w a n c (bs.map bv)) (h' : Sees w a' 1 c' [bv u]) :
    Calls Tryd.prog 103 #[.slice a n c, .slice a' 1 c'] w fun e w' => e = .returned (.int .i64 (Lib.indexByte bs u)) ∧ w = w' := by
  have hc := idxByte_any w a n c bs h (u.toNat : Int)
  obtain ⟨b, off, rfl, hlt⟩ := h'.addr (by omega)
  have hcell : w.cell? ⟨b, off, none⟩ = some (.int .u8 (u.toNat : Int)) := (h'.cell 0 (by omega)).2
  have e : ((u.toNat : Int)).toNat.toUInt8 = u := by simp
  rw [e] at hc
  have HC := Lib.hid hc
  clear hc h h' e
  go_enter Tryd.func103, Tryd.ntmps103
  go_wp2_with fail
  refine HC.out.mono ?_
  rintro e w' ⟨rfl, rfl⟩
  go_wp2
  go_ret
  exact ⟨rfl, rfl⟩

theorem indexByte_ahead (bs : List UInt8) : Lib.indexByte bs 10 = if ahead bs < bs.length then (ahead bs : Int) else -1 := by
  induction bs with
  | nil => simp [Lib.indexByte, ahead]
  | cons x r ih =>
    rw [Lib.indexByte]
    by_cases h : x = 10
    · subst h
      simp [ahead]
    · have hb : (x == 10) = false := by simpa using h
      have ha : ahead (x :: r) = ahead r + 1 := by unfold ahead; rw [List.takeWhile_cons]; simp [h]
      have hf : ∀ (a b : Int), (if false = true then a else b) = b := fun a b => by simp
      by_cases hlt : ahead r < r.length
      · rw [if_pos hlt] at ih
        have h1 : ((ahead r : Int) == -1) = false := by simp
        rw [hb, hf, ih, ha, if_pos (show ahead r + 1 < (x :: r).length by rw [List.length_cons]; omega), h1, hf]
        simp
      · rw [if_neg hlt] at ih
        rw [hb, hf, ih, ha, if_neg (show ¬ ahead r + 1 < (x :: r).length by rw [List.length_cons]; omega)]
        simp
end Go.Proofs.YtkimhlomadmnkaaDoor
