/- clause.ordered, by its contract. -/
import Derived.Test.YtdngaohjocokiaaNBase
import Derived.Test.YtdngaohjocokiaaCuPure
import Derived.Test.YtdngaohjocokiaaCuInts
import Derived.Test.YtdngaohjocokiaaCuComp
import Derived.Test.YtdngaohjocokiaaCuSort
import Derived.Test.YtdngaohjocokiaaRows
import Derived.Test.YtdngaohjocokiaaShelf
import Derived.BigQuiet
import Derived.Deep.AppendLies
import Derived.Deep.QuietTactic
import Derived.Deep.RegionLaw
import Derived.Deep.RegionWith
import Derived.KernelRfl
import Derived.Laws.EntriesVeiled
import Derived.Lib.ConvBytes
import Derived.Lib.Hide
import Derived.Lib.SlBytesRow
import Derived.Lib.SlicesCompact
import Derived.Lib.SmallJoins
import Derived.Shelf.Bytes.SlSmallAll
import Derived.Sort.Statements
import Derived.WalkKit
import Derived.WalkLawsBesides
import Derived.WalkSpells
namespace Go.Proofs.Ytdngaohjocokiaa
open Go Go.RowKit Go.Joins Go.Lib Go.Sort

/-- What ordered answers, and leaves in the block. -/
def OrdPost (w : World) (g off n cap : Nat) (c : List Int) (Cur : Array Value) (e : Ending) (w' : World) : Prop :=
  ∃ Cur', w'.heap[g]? = some (.cells Cur' 3 (0, 0)) ∧ Kept off n Cur Cur' ∧ w.grownBy w' (some g) ∧
    ((orderS c = none ∧ e = .returned (.tuple #[.slice none 0 0, .bool true])) ∨
     (∃ C, orderS c = some C ∧ e = .returned (.tuple #[.slice (some ⟨g, off, none⟩) C.length cap, .bool false]) ∧ C.length ≤ n ∧ ∀ j, j < C.length → Cur'[off + j]? = some (.int .i64 (C.getD j 0))))
theorem grownBy_trans {w w1 w2 : World} {g : Nat} (h : w.grownBy w1 (some g)) (h' : w1.grownBy w2 (some g)) : w.grownBy w2 (some g) :=
  ⟨h'.os.trans h.os, h'.tape.trans h.tape, h'.output.trans h.output, Nat.le_trans h.size h'.size, fun b hb hr => (h'.block b (Nat.lt_of_lt_of_le hb h.size) hr).trans (h.block b hb hr)⟩
theorem grownBy_below {w w1 w2 : World} {g : Nat} (h : w.grownBy w1 (some g)) (h' : Below w1.heap.size w1 w2) : w.grownBy w2 (some g) :=
  ⟨h'.os.trans h.os, h'.tape.trans h.tape, h'.output.trans h.output, Nat.le_trans h.size h'.size, fun b hb hr => (h'.block b (Nat.lt_of_lt_of_le hb h.size)).trans (h.block b hb hr)⟩
theorem grownBy_refl (w : World) (g : Option Nat) : w.grownBy w g := ⟨rfl, rfl, rfl, Nat.le_refl _, fun _ _ _ => rfl⟩
theorem orderS_nil : orderS [] = some [] := rfl
set_option maxRecDepth 100000 in
theorem ordered_zero (a : Option Addr) (cap : Nat) (w : World) :
    Calls Try.prog 35 #[.slice a 0 cap] w fun e w' => e = .returned (.tuple #[.slice a 0 cap, .bool false]) ∧ w' = w := by
  have H1 := Lib.hid (fun fv => Try.slices_SortFunc_none (α := Int) a cap fv w)
  have H2 := Lib.hid (Try.slices_Compact_int_empty a cap w)
  go_enter Try.func35, Try.ntmps35
  go_wp2_with (first
    | (go_at_call 44; refine (H1.out _).mono ?_; rintro e w' ⟨rfl, rfl⟩)
    | (go_at_call 47; refine H2.out.mono ?_; rintro e w' ⟨rfl, rfl⟩))
  refine wp_loop_rounds 1 ?_
  rw [rounds_succ]
  go_wp2
  go_ret2
  exact ⟨rfl, rfl⟩

set_option maxRecDepth 100000 in
set_option maxHeartbeats 3200000 in
theorem ordered_any (g off n cap : Nat) (c : List Int) (Cur : Array Value) (w : World) (h : Seg w g off n c Cur) (hcap : n ≤ cap) (hn : n ≤ 4096) (hn0 : 0 < n) (hr : ∀ x ∈ c, -9223372036854775807 ≤ x ∧ x ≤ 9223372036854775807) (h0 : (0 : Int) ∉ c) :
    Calls Try.prog 35 #[.slice (some ⟨g, off, none⟩) n cap] w (OrdPost w g off n cap c Cur) := by
  have hlt := heap_lt h.blk
  have hcs : c.toArray.size = n := by simpa using h.len
  have H1 := Try.slices_SortFunc (Value.int .i64) (fun _ => rfl) cmpV swoV 45 #[] g off cap c.toArray w (enters_of Try.func45 (by kernel_rfl) rfl) (CmpReads.lays (show CmpReads Try.prog 45 #[] (Value.int .i64) cmpV g off c.toArray.size w from fun _ _ _ _ x y => cmp_any x y _)) h.holds hlt (by rw [hcs]; omega)
  rw [hcs] at H1
  have HS1 := Lib.hid H1
  have HSEG := Lib.hid h
  have HR := Lib.hid hr
  have H0 := Lib.hid h0
  clear H1 hcs hr h0 h
  go_enter Try.func35, Try.ntmps35
  go_wp2_with fail
  refine HS1.out.mono ?_
  rintro e w1 ⟨rfl, d, q1, os1, hp, hs, rfl⟩
  obtain ⟨hdn, hsc, hmn⟩ := sortedC HSEG.out.len hp hs HR.out
  obtain ⟨s1, k1, g1⟩ := HSEG.out.put d hdn q1 os1
  generalize sortWorld (Value.int .i64) w g off q1 d os1 = w1 at s1 g1 ⊢
  have H2 := Try.slices_Compact_int g off cap d.toList w1 s1.holds (by rw [Array.length_toList]; omega) (by rw [Array.length_toList]; omega)
  rw [Array.length_toList, hdn] at H2
  obtain ⟨C, hC⟩ : ∃ C, C = Lib.compact d.toList := ⟨_, rfl⟩
  rw [← hC] at H2 hsc hmn
  have H2B : Calls Try.prog 47 #[.slice (some ⟨g, off, none⟩) n cap] w1 fun e w' => e = .returned (.slice (some ⟨g, off, none⟩) C.length cap) ∧ ∃ Cur', w'.heap[g]? = some (.cells Cur' 3 (0, 0)) ∧ Kept off n Cur Cur' ∧ w.grownBy w' (some g) ∧ ∀ j, j < C.length → Cur'[off + j]? = some (.int .i64 (C.getD j 0)) := by
    refine H2.mono ?_
    rintro e w2 ⟨he, q, rfl⟩
    have hsz : (C ++ List.replicate (n - C.length) 0).toArray.size = n := by simp; omega
    obtain ⟨s2, k2, g2⟩ := s1.put (C ++ List.replicate (n - C.length) 0).toArray hsz q #[]
    have e2 : sortWorld (Value.int .i64) w1 g off q (C ++ List.replicate (n - C.length) 0).toArray #[] = putRow (Value.int .i64) (Sort.ahead w1 q) g off (C ++ List.replicate (n - C.length) 0).toArray := by unfold sortWorld; rw [grow_empty]
    rw [e2] at s2 g2
    refine ⟨he, _, s2.blk, k1.trans k2, grownBy_trans g1 g2, fun j hj => ?_⟩
    rw [s2.at_ j (by omega), List.toList_toArray, getD_app_lt hj]
  have HS2 := Lib.hid H2B
  have HSC := Lib.hid hsc
  have HLE := Lib.hid hmn
  obtain ⟨m, hm⟩ : ∃ m, m = C.length := ⟨_, rfl⟩
  rw [← hm] at HS2 HLE
  have HM := Lib.hid hm
  clear H2 H2B hsc hmn hC hm s1 k1 g1 hp hs hdn HS1
  go_wp2_with fail
  refine HS2.out.mono ?_
  rintro e w2 ⟨rfl, Cur2, b2, k2, g2, c2⟩
  have hm4 : m ≤ 4096 := Nat.le_trans HLE.out hn
  have HB2 := Lib.hid b2
  have HK2 := Lib.hid k2
  have HG2 := Lib.hid g2
  have HC2 := Lib.hid c2
  have HCELL : Hid (∀ W j, Below w2.heap.size w2 W → j < m → W.cell? ⟨g, off + j, none⟩ = some (.int .i64 (C.getD j 0))) := fun W j hb hj => (cell_of_block (heap_below HB2.out hb) _).trans (HC2.out j hj)
  have HRNG : Hid (∀ j, j < m → IntKind.i64.wrap (-(C.getD j 0)) = -(C.getD j 0)) := fun j hj => by
    have := HR.out _ ((HSC.out.mem _).1 (getD_memZ (L := C) (k := j) (by rw [← HM.out]; exact hj)))
    exact IntWalk.i64_in _ (by omega)
  clear b2 k2 g2 c2 HS2
  go_wp2
  go_loopw [12, 4, 5] (fun i _ _ wr => ∃ k : Nat, k ≤ m ∧ i = .int .i64 k ∧ Hid (∀ j, j + 1 < k → C.getD (j + 1) 0 ≠ - C.getD j 0) ∧ Hid (Below w2.heap.size w2 wr)) (fun i _ _ _ => m - (intOf i).toNat)
  case atStart => exact ⟨0, Nat.zero_le _, rfl, fun j hj => absurd hj (by omega), Below.refl _ _⟩
  case round =>
    obtain ⟨k, hk, rfl, hno, hB⟩ := hrel
    by_cases hlt2 : k < m
    · have hcx := HCELL.out wr k hB.out hlt2
      have W1 : IntKind.i64.wrap ((k : Int) + 1) = (k : Int) + 1 := IntWalk.i64_in _ (by omega)
      have I1 : (k : Int) < (m : Int) := by omega
      obtain ⟨x, hx⟩ : ∃ x, x = C.getD k 0 := ⟨_, rfl⟩
      rw [← hx] at hcx
      have HX := Lib.hid hx
      have HNO := Lib.hid hno.out
      have HB := Lib.hid hB.out
      clear hx hno hB
      by_cases hk0 : 0 < k
      · obtain ⟨p, hp⟩ : ∃ p, p + 1 = k := ⟨k - 1, by omega⟩
        have hcp := HCELL.out wr p HB.out (by omega)
        have W3 := HRNG.out p (by omega)
        obtain ⟨y, hy⟩ : ∃ y, y = C.getD p 0 := ⟨_, rfl⟩
        rw [← hy] at hcp W3
        have W2 : IntKind.i64.wrap ((k : Int) - 1) = (p : Int) := by rw [IntWalk.i64_in _ (by omega)]; omega
        have I2 : (p : Int) < (m : Int) := by omega
        have I3 : decide ((0 : Int) < (k : Int)) = true := by simpa using hk0
        have HY := Lib.hid hy
        have HP := Lib.hid hp
        clear hy hp
        by_cases he : x = -y
        · have E1 : (x == -y) = true := by simpa using he
          have HE := Lib.hid he
          clear he
          go_wp2
          go_ret2
          refine ⟨Cur2, heap_below HB2.out HB.out, HK2.out, grownBy_below HG2.out HB.out, .inl ⟨?_, rfl⟩⟩
          refine HSC.out.talk (i := p) (by have := HM.out; have := HP.out; omega) ?_
          rw [HP.out, ← HX.out, ← HY.out]; exact HE.out
        · have E1 : (x == -y) = false := by simpa using he
          have HE := Lib.hid he
          have HN : Hid (∀ j, j + 1 < k + 1 → C.getD (j + 1) 0 ≠ - C.getD j 0) := fun j hj => by
            rcases Nat.lt_or_ge (j + 1) k with h | h
            · exact HNO.out j h
            · have : j = p := by have := HP.out; omega
              subst this
              rw [HP.out, ← HX.out, ← HY.out]; exact HE.out
          clear he
          go_wp2
          go_roundw
          case rel => exact ⟨k + 1, by omega, by go_num, HN.out, HB.out⟩
          case measure => simp [intOf]; omega
      · have I3 : decide ((0 : Int) < (k : Int)) = false := by simp; omega
        have I4 : decide (0 < k) = false := by simpa using hk0
        have HN : Hid (∀ j, j + 1 < k + 1 → C.getD (j + 1) 0 ≠ - C.getD j 0) := fun j hj => absurd hj (by omega)
        go_wp2
        go_roundw
        case rel => exact ⟨k + 1, by omega, by go_num, HN.out, HB.out⟩
        case measure => simp [intOf]; omega
    · have hkm : k = m := by omega
      have HB := Lib.hid hB.out
      have HNO : Hid (∀ j, j + 1 < C.length → C.getD (j + 1) 0 ≠ - C.getD j 0) := fun j hj => hno.out j (by rw [hkm, HM.out]; exact hj)
      have I1 : decide ((k : Int) < (m : Int)) = false := by simp; omega
      have I2 : decide (k < m) = false := by simpa using hlt2
      clear hno hB hkm
      go_wp2
      go_ret2
      refine ⟨Cur2, heap_below HB2.out HB.out, HK2.out, grownBy_below HG2.out HB.out, .inr ⟨C, HSC.out.order H0.out HNO.out, ?_, by rw [← HM.out]; exact HLE.out, fun j hj => HC2.out j (by rw [HM.out]; exact hj)⟩⟩
      rw [← HM.out]
      rfl
end Go.Proofs.Ytdngaohjocokiaa
