/- bin.appendDelta, by its contract, once more: blocks of other types stay. -/
import Derived.Test.YtglhnmbfkbjemaaDoorBInB
namespace Go.Proofs.YtglhnmbfkbjemaaDoor
open Go Go.RowKit Go.Joins

/-- Blocks of another type than bytes are as they were. -/
def KeptT (w w' : World) : Prop := ∀ (D : Nat) (C : Array Value) (t : TypeId) (fr : Nat × Nat), w.heap[D]? = some (.cells C t fr) → t ≠ 5 → w'.heap[D]? = some (.cells C t fr)
theorem KeptT.refl (w : World) : KeptT w w := fun _ _ _ _ h _ => h
theorem KeptT.trans {a b c : World} (h : KeptT a b) (k : KeptT b c) : KeptT a c := fun D C t fr hD ht => k D C t fr (h D C t fr hD ht) ht
theorem KeptT.below {a b c : World} (h : KeptT a b) (k : Below b.heap.size b c) : KeptT a c := fun D C t fr hD ht => heap_below (h D C t fr hD ht) k
theorem KeptT.grow {w wr w2 : World} (h : KeptT w wr) {o : Obj} {B : Nat} {v : Value} {n : Nat} {xs : List Value} (hr : Row isByte (wr.alloc o) B 5 v n xs) (hg : (wr.alloc o).grownBy w2 v.ownBlock) : KeptT w w2 := fun D C t fr hD ht => by
  have h1 := heap_below (h D C t fr hD ht) (ext_alloc wr o)
  exact heap_grown h1 hg (hr.not_own h1 ht)

set_option maxRecDepth 100000 in
set_option maxHeartbeats 3200000 in
theorem bappdelta_any (B k u : Nat) (hu32 : u < 4294967296) (sv : Value) (xs : List Value) (w : World) (hown : Row isByte w B 5 sv k xs) (hBw : B ≤ w.heap.size) (hlim : k + 20 ≤ 140737488355328) :
    Calls Tryd.prog 23 #[sv, .int .u32 u] w fun e w' => ∃ v', e = .returned v' ∧ Row isByte w' B 5 v' (k + (encL u).length) (xs ++ (encL u).map bv) ∧ Below B w w' ∧ KeptT w w' := by
  obtain ⟨i0, hi, hz0, hz1, hz2⟩ := info_parts info_u8
  have HOWN := Lib.hid hown
  clear hown
  go_enter Tryd.func23, Tryd.ntmps23
  go_wp2
  go_loopw [0, 1] (fun v nn wr => ∃ (j f m : Nat) (ys : List UInt8), j + f = 4 ∧ nn = .int .u32 (m : Int) ∧ Hid (m < 128 ^ (f + 1)) ∧ m < 4294967296 ∧ Hid (ys.length = j) ∧ Hid (ys ++ dEnc f m = encL u) ∧ Hid (Row isByte wr B 5 v (k + j) (xs ++ ys.map bv)) ∧ Hid (Below B w wr) ∧ Hid (KeptT w wr))
    (fun _ nn _ => (intOf nn).toNat)
  case atStart => exact ⟨0, 4, u, [], rfl, rfl, (by show u < 128 ^ 5; omega), hu32, rfl, rfl, (by simpa [Hid] using HOWN.out), Below.refl _ _, KeptT.refl _⟩
  case round =>
    obtain ⟨j, f, m, ys, hjf, rfl, hm, hm32, hys, hyd, hrow, hB, hkt⟩ := hrel
    have hws := hB.out.size
    by_cases hge : 128 ≤ m
    · have e1 : decide ((128 : Int) ≤ (m : Int)) = true := by simp; omega
      obtain ⟨q, hq⟩ : ∃ q, q = m % 256 := ⟨_, rfl⟩
      obtain ⟨y, hy⟩ : ∃ y, y = m % 128 + 128 := ⟨_, rfl⟩
      have A1 : IntKind.u8.wrap (m : Int) = (q : Int) := by rw [IntKind.wrap_u8]; omega
      have A2 : bits .or .u8 (q : Int) 128 = (y : Int) := by
        have h1 := u8_or_nat q 128 (by omega) (by omega)
        rw [show ((128 : Nat) : Int) = 128 by rfl] at h1
        rw [h1, or128 q (by omega)]
        omega
      have hy256 : y < 256 := by omega
      have HYB : Hid (bv (UInt8.ofNat y) = Value.int .u8 (y : Int)) := bv_of y hy256
      have HYQ : Hid (y = m % 128 + 128) := hy
      have HSZ : Hid (w.heap.size ≤ wr.heap.size) := hws
      clear hq hy hws
      go_wp2_with (at_builtin; refine wpList_append_row isByte _ rfl _ _ 22 rfl B 5 i0 (.int .u8 0) 1 Tryd.underlying22 hi hz0 hz1 hz2 rfl isByte_zero _ _ _ rfl (hrow.out.below ((Below.refl _ _).alloc (Nat.le_refl _) _)) (some ⟨wr.heap.size, 0, none⟩) 1 1 [bv (UInt8.ofNat y)] rfl (by rw [HYB.out]; exact sees_one _ _ _) (bv_one [UInt8.ofNat y]) (isByte_all [UInt8.ofNat y]) ?r4 ?r5 ?r6 ?_)
      case r4 => unfold maxLen; omega
      case r5 => omega
      case r6 => have := HSZ.out; simp; omega
      intro v2 w2 hrow2 hgrow2 _
      have hlt2 := hrow.out.own.lt
      have hb2 : Below B w w2 := (hB.out.alloc (by have := HSZ.out; omega) _).grown hgrow2 (by have := HSZ.out; simp; omega) (fun k hk => (hlt2 k hk).1)
      have HK2 := Lib.hid (hkt.out.grow (hrow.out.below (ext_alloc _ _)) hgrow2)
      have HR2 := Lib.hid hrow2
      have HB2 := Lib.hid hb2
      clear hrow2 hgrow2 hlt2 hb2
      go_wp2
      go_roundw
      case rel =>
        obtain ⟨f', rfl⟩ : ∃ f', f = f' + 1 := by
          cases f with
          | zero => have := hm.out; simp at this; omega
          | succ f' => exact ⟨f', rfl⟩
        refine ⟨j + 1, f', m / 128, ys ++ [UInt8.ofNat y], by omega, by go_num, ?_, by omega, ?_, ?_, ?_, HB2, HK2⟩
        · have h5 := hm.out
          show m / 128 < 128 ^ (f' + 1)
          rw [Nat.pow_succ] at h5
          exact Nat.div_lt_of_lt_mul (by rw [Nat.mul_comm]; exact h5)
        · show (ys ++ [_]).length = j + 1
          rw [List.length_append, hys.out]; rfl
        · show (ys ++ [_]) ++ dEnc f' (m / 128) = encL u
          have h5 := hyd.out
          rw [dEnc_big hge] at h5
          rw [List.append_assoc, HYQ.out]
          exact h5
        · show Row isByte w2 B 5 v2 (k + (j + 1)) (xs ++ (ys ++ [_]).map bv)
          have h5 := HR2.out
          rw [List.map_append]
          exact h5
      case measure => simp [intOf]; omega
    · have e1 : decide ((128 : Int) ≤ (m : Int)) = false := by simp; omega
      obtain ⟨q, hq⟩ : ∃ q, q = m % 256 := ⟨_, rfl⟩
      have A1 : IntKind.u8.wrap (m : Int) = (m : Int) := by rw [IntKind.wrap_u8]; omega
      have HMB : Hid (bv (UInt8.ofNat m) = Value.int .u8 (m : Int)) := bv_of m (by omega)
      go_wp2_with ((at_builtin; refine wpList_append_row isByte _ rfl _ _ 22 rfl B 5 i0 (.int .u8 0) 1 Tryd.underlying22 hi hz0 hz1 hz2 rfl isByte_zero _ _ _ rfl (hrow.out.below ((Below.refl _ _).alloc (Nat.le_refl _) _)) (some ⟨wr.heap.size, 0, none⟩) 1 1 [bv (UInt8.ofNat m)] rfl (by rw [HMB.out]; exact sees_one _ _ _) (bv_one [UInt8.ofNat m]) (isByte_all [UInt8.ofNat m]) ?r4 ?r5 ?r6 ?_))
      case r4 => unfold maxLen; omega
      case r5 => omega
      case r6 => simp; omega
      intro v2 w2 hrow2 hgrow2 _
      have hlt2 := hrow.out.own.lt
      have hb2 : Below B w w2 := (hB.out.alloc (by omega) _).grown hgrow2 (by simp; omega) (fun k hk => (hlt2 k hk).1)
      have he : encL u = ys ++ [UInt8.ofNat m] := by rw [← hyd.out, dEnc_small (by omega)]
      have hrow3 : Row isByte w2 B 5 v2 (k + (encL u).length) (xs ++ (encL u).map bv) := by
        rw [he, List.length_append, List.map_append, hys.out]
        exact hrow2
      have HK2 := Lib.hid (hkt.out.grow (hrow.out.below (ext_alloc _ _)) hgrow2)
      have HR2 := Lib.hid hrow3
      have HB2 := Lib.hid hb2
      clear hrow2 hrow3 hgrow2 hlt2 hb2 he
      go_wp2
      go_ret
      exact ⟨v2, rfl, HR2.out, HB2.out, HK2.out⟩
end Go.Proofs.YtglhnmbfkbjemaaDoor
