/- inquestref11: into, Order, by their contracts. -/
import Derived.Test.YtdngaohjocokiaaLib
import Derived.Test.YtdngaohjocokiaaOwn
import Derived.Test.YtdngaohjocokiaaNBase
import Derived.Test.YtdngaohjocokiaaCuPure
import Derived.Test.YtdngaohjocokiaaCuInts
import Derived.Test.YtdngaohjocokiaaCuInv
import Derived.Test.YtdngaohjocokiaaCuMay
import Derived.Test.YtdngaohjocokiaaCuOrder
import Derived.Test.YtdngaohjocokiaaCuTell
import Derived.Test.YtdngaohjocokiaaCuMust
import Derived.Test.YtdngaohjocokiaaCuRefA
import Derived.Test.YtdngaohjocokiaaRows
import Derived.Test.YtdngaohjocokiaaShelf
import Derived.BigQuiet
import Derived.Conc.LoneSelect
import Derived.Deep.AppendLies
import Derived.Deep.CutRange
import Derived.Deep.QuietTactic
import Derived.Deep.RegionHeld3
import Derived.Deep.RegionLaw
import Derived.Deep.RegionWith
import Derived.KernelRfl
import Derived.Laws.CopyOwn
import Derived.Laws.EntriesVeiled
import Derived.Laws.Tables
import Derived.Lib.ConvBytes
import Derived.Lib.Hide
import Derived.Lib.SlBytesRow
import Derived.Lib.SlicesCompact
import Derived.Lib.SmallJoins
import Derived.Maps.AppendAt
import Derived.OrdersHeld
import Derived.Shelf.Bytes.SlSmallAll
import Derived.Sort.Statements
import Derived.WalkKit
import Derived.WalkLawsBesides
import Derived.WalkSpells
namespace Go.Proofs.Ytdngaohjocokiaa
open Go Go.RowKit Go.Joins

theorem into_app_big {x : Int} : ∀ (p q : List Int), (∃ y ∈ p, x.natAbs < y.natAbs) → intoS (p ++ q) x = intoS p x ++ q
  | [], _, h => by obtain ⟨y, hy, _⟩ := h; cases hy
  | z :: p, q, h => by
    by_cases e : x.natAbs < z.natAbs
    · simp [intoS, e]
    · have h' : ∃ y ∈ p, x.natAbs < y.natAbs := by
        obtain ⟨y, hy, hl⟩ := h
        rcases List.mem_cons.1 hy with rfl | hy
        · exact absurd hl e
        · exact ⟨y, hy, hl⟩
      have := into_app_big p q h'
      simp [intoS, e, this]
theorem into_app_small {x : Int} : ∀ (p q : List Int), (∀ y ∈ p, ¬ x.natAbs < y.natAbs) → intoS (p ++ q) x = p ++ intoS q x
  | [], _, _ => rfl
  | z :: p, q, h => by
    have e := h z (by simp)
    have := into_app_small p q (fun y hy => h y (by simp [hy]))
    simp [intoS, e, this]
/-- Between two literals of into's list. -/
structure IntoAt (l : List Int) (x : Int) (k : Nat) (q : Bool) (O : List Int) : Prop where
  yes : q = true → O = intoS (l.take k) x ∧ ∃ y ∈ l.take k, x.natAbs < y.natAbs
  no : q = false → O = l.take k ∧ ∀ y ∈ l.take k, ¬ x.natAbs < y.natAbs
section
variable {l O : List Int} {x y : Int} {k : Nat}
theorem IntoAt.zero : IntoAt l x 0 false [] := ⟨fun h => (by cases h), fun _ => ⟨by simp, by simp⟩⟩
theorem IntoAt.here (h : IntoAt l x k true O) (hk : k < l.length) (hy : y = l.getD k 0) : IntoAt l x (k + 1) true (O ++ [y]) := by
  obtain ⟨e, hx⟩ := h.yes rfl
  refine ⟨fun _ => ?_, fun h => (by cases h)⟩
  rw [take_snocZ l k hk, ← hy, e, into_app_big _ _ hx]
  exact ⟨rfl, by obtain ⟨z, hz, hl⟩ := hx; exact ⟨z, by simp [hz], hl⟩⟩
theorem IntoAt.now (h : IntoAt l x k false O) (hk : k < l.length) (hy : y = l.getD k 0) (hl : x.natAbs < y.natAbs) : IntoAt l x (k + 1) true (O ++ [x] ++ [y]) := by
  obtain ⟨e, hx⟩ := h.no rfl
  refine ⟨fun _ => ?_, fun h => (by cases h)⟩
  rw [take_snocZ l k hk, ← hy, e, into_app_small _ _ hx]
  exact ⟨by simp [intoS, hl], y, by simp, hl⟩
theorem IntoAt.past (h : IntoAt l x k false O) (hk : k < l.length) (hy : y = l.getD k 0) (hl : ¬ x.natAbs < y.natAbs) : IntoAt l x (k + 1) false (O ++ [y]) := by
  obtain ⟨e, hx⟩ := h.no rfl
  refine ⟨fun h => by (cases h), fun _ => ?_⟩
  rw [take_snocZ l k hk, ← hy, e]
  refine ⟨rfl, fun z hz => ?_⟩
  rcases List.mem_append.1 hz with hz | hz
  · exact hx z hz
  · have : z = y := by simpa using hz
    subst this; exact hl
theorem IntoAt.len {q : Bool} (h : IntoAt l x k q O) : O.length ≤ k + 1 := by
  cases q with
  | true => rw [(h.yes rfl).1, into_len, List.length_take]; omega
  | false => rw [(h.no rfl).1, List.length_take]; omega
theorem IntoAt.endIn (h : IntoAt l x k true O) (hk : k = l.length) : O = intoS l x := by rw [(h.yes rfl).1, hk, List.take_length]
theorem IntoAt.endNo (h : IntoAt l x k false O) (hk : k = l.length) : O ++ [x] = intoS l x := by
  obtain ⟨e, hx⟩ := h.no rfl
  rw [hk, List.take_length] at e hx
  have := into_app_small l [] hx
  rw [List.append_nil] at this
  rw [this, e]; rfl
end
/-- A value that owns a row of ints. -/
def RowZ (w : World) (base : Nat) (v : Value) (O : List Int) : Prop := Row isZ w base 3 v O.length (zvs O)
theorem RowZ.snoc {w : World} {base : Nat} {v : Value} {O : List Int} {y : Int} (h : Row isZ w base 3 v (O.length + 1) (zvs O ++ zvs [y])) : RowZ w base v (O ++ [y]) := by
  unfold RowZ
  have e : zvs (O ++ [y]) = zvs O ++ zvs [y] := by simp [zvs]
  rw [e, List.length_append]
  exact h
theorem RowZ.sees {w : World} {base : Nat} {v : Value} {O : List Int} (h : RowZ w base v O) : ∃ a c, v = .slice a O.length c ∧ NewZ w base a O.length c O := by
  obtain ⟨a, c, e, _, hs⟩ := Row.sees h
  subst e
  refine ⟨a, c, rfl, hs, fun h0 => ?_⟩
  rcases h.own.2 with ⟨e, hn⟩ | ⟨g, cap, cur, e, hg, hh, hnc, hm, hcs, ht⟩
  · omega
  · cases e
    refine ⟨g, 0, cur, rfl, hg, hh, fun j hj => ?_⟩
    have := hs.z_at j hj
    rw [cell_of_block hh] at this
    exact this
set_option maxRecDepth 100000 in
set_option maxHeartbeats 6400000 in
theorem into_any (l : List Int) (x : Int) (a : Option Addr) (n c : Nat) (w : World) (h : Sees w a n c (zvs l)) (hn : n ≤ 100000000) (hl : ∀ y ∈ l, y.natAbs ≤ 4194304) (hx : x.natAbs ≤ 4194304) :
    Calls Try.prog 26 #[.slice a n c, .int .i64 x] w fun e w' => ∃ v, e = .returned v ∧ RowZ w' w.heap.size v (intoS l x) ∧ Below w.heap.size w w' := by
  obtain ⟨i0, hi, hz0, hz1, hz2⟩ := info_parts info_int
  have HS := Lib.hid h
  have HL := Lib.hid h.zlen
  have HLL := Lib.hid hl
  have hv : ∀ (y : Int) (W : World), y.natAbs ≤ 4194304 → Calls Try.prog 41 #[.int .i64 y] W fun e w' => e = .returned (.tuple #[.int .i64 (y.natAbs : Int), .bool (decide (y < 0))]) ∧ w' = W := fun y W hy => by
    have := side_any y ⟨by omega, by omega⟩ W
    rw [varW_in (by omega) (by omega)] at this
    exact this
  have HV := Lib.hid hv
  have HX := Lib.hid (hv x w hx)
  obtain ⟨p, hp⟩ : ∃ p, p = decide (x < 0) := ⟨_, rfl⟩
  obtain ⟨m, hm⟩ : ∃ m, m = x.natAbs := ⟨_, rfl⟩
  rw [← hp, ← hm] at HX
  have HM := Lib.hid hm
  clear h hl hv hp hm
  go_enter Try.func26, Try.ntmps26
  go_wp2_with fail
  refine HX.out.mono ?_
  rintro e w1 ⟨rfl, rfl⟩
  go_wp2
  go_loopw [9, 5, 8] (fun i o b wr => ∃ (k : Nat) (v : Value) (q : Bool) (O : List Int), k ≤ n ∧ i = .int .i64 k ∧ o = v ∧ b = .bool q ∧ Hid (IntoAt l x k q O) ∧ Hid (RowZ wr w1.heap.size v O) ∧ Hid (Below w1.heap.size w1 wr)) (fun i _ _ _ => n - (intOf i).toNat)
  case atStart => exact ⟨0, _, false, [], Nat.zero_le _, rfl, rfl, rfl, IntoAt.zero, Row.nil _ _ _ _, Below.refl _ _⟩
  case round =>
    obtain ⟨k, v, q, O, hk, rfl, hvv, rfl, hA, hR, hB⟩ := hrel
    obtain rfl := hvv.symm
    have HA := Lib.hid hA.out
    have HR := Lib.hid hR.out
    have HB := Lib.hid hB.out
    have HOL := Lib.hid hA.out.len
    have HSZ := Lib.hid hB.out.size
    clear hA hR hB hvv
    by_cases hlt : k < n
    · obtain ⟨b, off, rfl, _⟩ := HS.out.addr (show 0 < n by omega)
      have hkl : k < l.length := by rw [HL.out]; exact hlt
      have hc := (HS.out.below HB.out).z_at k hlt
      obtain ⟨y, hy⟩ : ∃ y, y = l.getD k 0 := ⟨_, rfl⟩
      rw [← hy] at hc
      have hI1 : ((k : Nat) : Int) < (n : Int) := by omega
      have hI2 : (0 : Int) ≤ (k : Int) := by omega
      have W1 : IntKind.i64.wrap ((k : Int) + 1) = (k : Int) + 1 := IntWalk.i64_in _ (by omega)
      have HY := Lib.hid (HV.out y wr (HLL.out y (by rw [hy]; exact getD_memZ hkl)))
      obtain ⟨my, hmy⟩ : ∃ my, my = y.natAbs := ⟨_, rfl⟩
      obtain ⟨py, hpy⟩ : ∃ p, p = decide (y < 0) := ⟨_, rfl⟩
      rw [← hmy, ← hpy] at HY
      cases q with
      | true =>
        have HA2 := Lib.hid (HA.out.here hkl hy)
        clear hy hmy hpy hkl
        go_wp2_with fail
        refine HY.out.mono ?_
        rintro e w2 ⟨rfl, rfl⟩
        go_wp2_with (at_builtin; refine wpList_append_row isZ _ rfl _ _ 23 rfl w1.heap.size 3 i0 (.int .i64 0) 8 Try.underlying23 hi hz0 hz1 hz2 rfl isZ_zero v O.length (zvs O) rfl (HR.out.below (ext_alloc _ _)) (some ⟨w2.heap.size, 0, none⟩) 1 1 (zvs [y]) rfl (sees_one_z w2 y) (zvs_one _) (isZ_zvs _) ?c1 ?c2 ?c3 ?_)
        case c1 => have := HOL.out; unfold maxLen; omega
        case c2 => have := HOL.out; omega
        case c3 => have := HSZ.out; simp; omega
        intro v2 w3 hr3 hg3 _
        have HR3 := Lib.hid (RowZ.snoc hr3)
        have HB3 : Hid (Below w1.heap.size w1 w3) := (ext_trans HB.out (ext_alloc _ _)).grown hg3 (by have := HSZ.out; simp; omega) (fun j hj => (Row.own HR.out).lt j hj |>.1)
        clear hr3 hg3
        go_wp2
        go_roundw
        case rel => exact ⟨k + 1, v2, true, _, by omega, by go_num, rfl, rfl, HA2.out, HR3.out, HB3.out⟩
        case measure => simp [intOf]; omega
      | false =>
        by_cases hxy : x.natAbs < y.natAbs
        · have HA2 := Lib.hid (HA.out.now hkl hy hxy)
          have E1 : decide ((m : Int) < (my : Int)) = true := by have := HM.out; simp; omega
          have E2 : decide (m < my) = true := by have := HM.out; simp; omega
          clear hy hmy hpy hkl hxy
          go_wp2_with fail
          refine HY.out.mono ?_
          rintro e w2 ⟨rfl, rfl⟩
          go_wp2_with (at_builtin; refine wpList_append_row isZ _ rfl _ _ 23 rfl w1.heap.size 3 i0 (.int .i64 0) 8 Try.underlying23 hi hz0 hz1 hz2 rfl isZ_zero v O.length (zvs O) rfl (HR.out.below (ext_alloc _ _)) (some ⟨w2.heap.size, 0, none⟩) 1 1 (zvs [x]) rfl (sees_one_z w2 x) (zvs_one _) (isZ_zvs _) ?c1 ?c2 ?c3 ?_)
          case c1 => have := HOL.out; unfold maxLen; omega
          case c2 => have := HOL.out; omega
          case c3 => have := HSZ.out; simp; omega
          intro v2 w3 hr3 hg3 _
          have HR3 := Lib.hid (RowZ.snoc hr3)
          have HB3 : Hid (Below w1.heap.size w1 w3) := (ext_trans HB.out (ext_alloc _ _)).grown hg3 (by have := HSZ.out; simp; omega) (fun j hj => (Row.own HR.out).lt j hj |>.1)
          have HSZ3 := Lib.hid HB3.out.size
          have hc3 : w3.cell? ⟨b, off + k, none⟩ = some (.int .i64 y) := by
            have h1 := (HS.out.below HB3.out).z_at k hlt
            have h2 := (HS.out.below HB.out).z_at k hlt
            rw [hc] at h2
            cases h2
            exact h1
          have HO3 : Hid ((O ++ [x]).length ≤ k + 2) := by show _ ≤ _; have := HOL.out; simp; omega
          obtain ⟨O3, hO3⟩ : ∃ O3, O3 = O ++ [x] := ⟨_, rfl⟩
          rw [← hO3] at HR3 HA2 HO3
          clear hr3 hg3 hO3
          go_wp2_with (at_builtin; refine wpList_append_row isZ _ rfl _ _ 23 rfl w1.heap.size 3 i0 (.int .i64 0) 8 Try.underlying23 hi hz0 hz1 hz2 rfl isZ_zero v2 O3.length (zvs O3) rfl (HR3.out.below (ext_alloc _ _)) (some ⟨w3.heap.size, 0, none⟩) 1 1 (zvs [y]) rfl (sees_one_z w3 y) (zvs_one _) (isZ_zvs _) ?d1 ?d2 ?d3 ?_)
          case d1 => have := HO3.out; unfold maxLen; omega
          case d2 => have := HO3.out; omega
          case d3 => have := HSZ3.out; simp; omega
          intro v4 w4 hr4 hg4 _
          have HR4 := Lib.hid (RowZ.snoc hr4)
          have HB4 : Hid (Below w1.heap.size w1 w4) := (ext_trans HB3.out (ext_alloc _ _)).grown hg4 (by have := HSZ3.out; simp; omega) (fun j hj => (Row.own HR3.out).lt j hj |>.1)
          clear hr4 hg4
          go_wp2
          go_roundw
          case rel => exact ⟨k + 1, v4, true, _, by omega, by go_num, rfl, rfl, HA2.out, HR4.out, HB4.out⟩
          case measure => simp [intOf]; omega
        · have HA2 := Lib.hid (HA.out.past hkl hy hxy)
          have E1 : decide ((m : Int) < (my : Int)) = false := by have := HM.out; simp; omega
          have E2 : decide (m < my) = false := by have := HM.out; simp; omega
          clear hy hmy hpy hkl hxy
          go_wp2_with fail
          refine HY.out.mono ?_
          rintro e w2 ⟨rfl, rfl⟩
          go_wp2_with (at_builtin; refine wpList_append_row isZ _ rfl _ _ 23 rfl w1.heap.size 3 i0 (.int .i64 0) 8 Try.underlying23 hi hz0 hz1 hz2 rfl isZ_zero v O.length (zvs O) rfl (HR.out.below (ext_alloc _ _)) (some ⟨w2.heap.size, 0, none⟩) 1 1 (zvs [y]) rfl (sees_one_z w2 y) (zvs_one _) (isZ_zvs _) ?c1 ?c2 ?c3 ?_)
          case c1 => have := HOL.out; unfold maxLen; omega
          case c2 => have := HOL.out; omega
          case c3 => have := HSZ.out; simp; omega
          intro v2 w3 hr3 hg3 _
          have HR3 := Lib.hid (RowZ.snoc hr3)
          have HB3 : Hid (Below w1.heap.size w1 w3) := (ext_trans HB.out (ext_alloc _ _)).grown hg3 (by have := HSZ.out; simp; omega) (fun j hj => (Row.own HR.out).lt j hj |>.1)
          clear hr3 hg3
          go_wp2
          go_roundw
          case rel => exact ⟨k + 1, v2, false, _, by omega, by go_num, rfl, rfl, HA2.out, HR3.out, HB3.out⟩
          case measure => simp [intOf]; omega
    · obtain rfl : k = n := by omega
      cases q with
      | true =>
        have HE := Lib.hid (HA.out.endIn HL.out.symm)
        go_wp2
        go_ret
        exact ⟨v, rfl, by rw [← HE.out]; exact HR.out, HB.out⟩
      | false =>
        have HE := Lib.hid (HA.out.endNo HL.out.symm)
        go_wp2_with (at_builtin; refine wpList_append_row isZ _ rfl _ _ 23 rfl w1.heap.size 3 i0 (.int .i64 0) 8 Try.underlying23 hi hz0 hz1 hz2 rfl isZ_zero v O.length (zvs O) rfl (HR.out.below (ext_alloc _ _)) (some ⟨wr.heap.size, 0, none⟩) 1 1 (zvs [x]) rfl (sees_one_z wr x) (zvs_one _) (isZ_zvs _) ?c1 ?c2 ?c3 ?_)
        case c1 => have := HOL.out; unfold maxLen; omega
        case c2 => have := HOL.out; omega
        case c3 => have := HSZ.out; simp; omega
        intro v2 w3 hr3 hg3 _
        have HR3 := Lib.hid (RowZ.snoc hr3)
        have HB3 : Hid (Below w1.heap.size w1 w3) := (ext_trans HB.out (ext_alloc _ _)).grown hg3 (by have := HSZ.out; simp; omega) (fun j hj => (Row.own HR.out).lt j hj |>.1)
        clear hr3 hg3
        go_wp2
        go_ret
        exact ⟨v2, rfl, by rw [← HE.out]; exact HR3.out, HB3.out⟩
end Go.Proofs.Ytdngaohjocokiaa
