/- inquestref11.Must, by its contract (as in stage 11), for a seat without clause.Must. -/
import Derived.Test.YtionibckeicncaaLib
import Derived.Test.YtionibckeicncaaOwn
import Derived.Test.YtionibckeicncaaNBase
import Derived.Test.YtionibckeicncaaCuPure
import Derived.Test.YtionibckeicncaaCuInts
import Derived.Test.YtionibckeicncaaCuInv
import Derived.Test.YtionibckeicncaaCuMay
import Derived.Test.YtionibckeicncaaCuRefA
import Derived.Test.YtionibckeicncaaRows
import Derived.Test.YtionibckeicncaaShelf
import Derived.BigQuiet
import Derived.Deep.AppendLies
import Derived.Deep.QuietTactic
import Derived.Deep.RegionLaw
import Derived.Deep.RegionWith
import Derived.KernelRfl
import Derived.Laws.EntriesVeiled
import Derived.Lib.ConvBytes
import Derived.Lib.Hide
import Derived.Lib.SlBytesRow
import Derived.Lib.SlicesCompact
import Derived.Lib.SmallJoins
import Derived.Shelf.Bytes.SlSmallAll
import Derived.Sort.Statements
import Derived.WalkKit
import Derived.WalkLawsBesides
import Derived.WalkSpells
namespace Go.Proofs.Ytionibckeicncaa
open Go Go.RowKit Go.Joins
theorem addS_len (o : List Int) (x : Int) : (addS o x).length ≤ o.length + 1 := by
  unfold addS
  split
  · omega
  · rw [into_len]; omega
theorem fold_len : ∀ (c o : List Int), (c.foldl addS o).length ≤ o.length + c.length
  | [], o => by simp
  | x :: r, o => by
    rw [List.foldl_cons]
    have h1 := fold_len r (addS o x)
    have h2 := addS_len o x
    simp only [List.length_cons]
    omega
theorem ordL_len (c : List Int) : (ordL c).length ≤ c.length := by
  have := fold_len c []
  simpa [ordL] using this
structure NewT (w : World) (base : Nat) (a : Option Addr) (n c : Nat) (C : List Int) : Prop where
  sees : Sees w a n c (zvs C)
  blk : 0 < n → ∃ g off Cur, a = some ⟨g, off, none⟩ ∧ base ≤ g ∧ w.heap[g]? = some (.cells Cur 3 (0, 0)) ∧ ∀ j, j < n → Cur[off + j]? = some (.int .i64 (C.getD j 0))
theorem NewT.nil (w : World) (base : Nat) (a : Option Addr) (c : Nat) (h : a = none → c = 0) : NewT w base a 0 c [] := ⟨Sees.nil _ _ _ h, fun h => absurd h (by omega)⟩
theorem seesT_one (w : World) (a : Option Addr) (n c : Nat) (l : List Int) (h : Sees w a n c (zvs l)) :
    SeesZ (w.alloc (.cells #[.slice a n c] 22)) (some ⟨w.heap.size, 0, none⟩) 1 1 [(a, n, c)] [l] := by
  refine ⟨sees_lit w _ _ _ _ 1 (by rfl) (by rfl), rfl, fun k hk => ?_⟩
  have : k = 0 := by simpa using hk
  subst this
  exact h.below (ext_alloc _ _)
def OrderPostT (l : List Int) (vars : Int) (w : World) (e : Ending) (w' : World) : Prop :=
  Below w.heap.size w w' ∧
  ((mayS [l] vars = false ∧ e = .returned (.tuple #[.slice none 0 0, .bool false, .int .i64 2])) ∨
   (mayS [l] vars = true ∧ orderS l = none ∧ e = .returned (.tuple #[.slice none 0 0, .bool true, .int .i64 0])) ∨
   (mayS [l] vars = true ∧ ∃ C a n c, orderS l = some C ∧ e = .returned (.tuple #[.slice a n c, .bool false, .int .i64 0]) ∧ n ≤ 4096 ∧ NewT w' w.heap.size a n c C))
theorem may_oneT {l : List Int} {vars : Int} (h : mayS [l] vars = true) : 0 ≤ vars ∧ vars ≤ 4194304 ∧ l.length ≤ 4096 ∧ ∀ x ∈ l, x ≠ 0 ∧ x ≤ vars ∧ -vars ≤ x := by
  obtain ⟨h1, h2, _, h3⟩ := mayS_iff.1 h
  exact ⟨h1, h2, h3 l (by simp)⟩
theorem OrderPostT.yes {l C : List Int} {vars : Int} {w w' : World} {e : Ending} (h : OrderPostT l vars w e w') (hm : mayS [l] vars = true) (ho : orderS l = some C) :
    Below w.heap.size w w' ∧ ∃ a c, e = .returned (.tuple #[.slice a C.length c, .bool false, .int .i64 0]) ∧ NewT w' w.heap.size a C.length c C := by
  obtain ⟨hb, h⟩ := h
  rcases h with ⟨h, _⟩ | ⟨_, h, _⟩ | ⟨_, D, a, n, c, h, he, _, hn⟩
  · rw [hm] at h; cases h
  · rw [ho] at h; cases h
  · rw [ho] at h
    cases h
    have := hn.sees.zlen
    subst this
    exact ⟨hb, a, c, he, hn⟩
theorem OrderPostT.talk {l : List Int} {vars : Int} {w w' : World} {e : Ending} (h : OrderPostT l vars w e w') (hm : mayS [l] vars = true) (ho : orderS l = none) :
    Below w.heap.size w w' ∧ e = .returned (.tuple #[.slice none 0 0, .bool true, .int .i64 0]) := by
  obtain ⟨hb, h⟩ := h
  rcases h with ⟨h, _⟩ | ⟨_, _, h⟩ | ⟨_, D, a, n, c, h, _⟩
  · rw [hm] at h; cases h
  · exact ⟨hb, h⟩
  · rw [ho] at h; cases h
def MustPost (L : List (List Int)) (given : List Int) (vars : Int) (w : World) (e : Ending) (w' : World) : Prop :=
  Below w.heap.size w w' ∧
  ((MustIs L given vars none ∧ e = .returned (.tuple #[.slice none 0 0, .bool false])) ∨
   (∃ M a n c, MustIs L given vars (some M) ∧ e = .returned (.tuple #[.slice a n c, .bool true]) ∧ n ≤ 100000000 ∧ Sees w' a n c (zvs M)))
theorem isZ_zero : isZ (.int .i64 0) := ⟨0, rfl⟩
theorem sees_one_z (w : World) (x : Int) : Sees (w.alloc (.cells #[.int .i64 x] 3)) (some ⟨w.heap.size, 0, none⟩) 1 1 (zvs [x]) := sees_lit w _ _ _ _ 1 rfl rfl

theorem into_app_big {x : Int} : ∀ (p q : List Int), (∃ y ∈ p, x.natAbs < y.natAbs) → intoS (p ++ q) x = intoS p x ++ q
  | [], _, h => by obtain ⟨y, hy, _⟩ := h; cases hy
  | z :: p, q, h => by
    by_cases e : x.natAbs < z.natAbs
    · simp [intoS, e]
    · have h' : ∃ y ∈ p, x.natAbs < y.natAbs := by
        obtain ⟨y, hy, hl⟩ := h
        rcases List.mem_cons.1 hy with rfl | hy
        · exact absurd hl e
        · exact ⟨y, hy, hl⟩
      have := into_app_big p q h'
      simp [intoS, e, this]
theorem into_app_small {x : Int} : ∀ (p q : List Int), (∀ y ∈ p, ¬ x.natAbs < y.natAbs) → intoS (p ++ q) x = p ++ intoS q x
  | [], _, _ => rfl
  | z :: p, q, h => by
    have e := h z (by simp)
    have := into_app_small p q (fun y hy => h y (by simp [hy]))
    simp [intoS, e, this]
/-- Between two literals of into's list. -/
structure IntoAt (l : List Int) (x : Int) (k : Nat) (q : Bool) (O : List Int) : Prop where
  yes : q = true → O = intoS (l.take k) x ∧ ∃ y ∈ l.take k, x.natAbs < y.natAbs
  no : q = false → O = l.take k ∧ ∀ y ∈ l.take k, ¬ x.natAbs < y.natAbs
section
variable {l O : List Int} {x y : Int} {k : Nat}
theorem IntoAt.zero : IntoAt l x 0 false [] := ⟨fun h => (by cases h), fun _ => ⟨by simp, by simp⟩⟩
theorem IntoAt.here (h : IntoAt l x k true O) (hk : k < l.length) (hy : y = l.getD k 0) : IntoAt l x (k + 1) true (O ++ [y]) := by
  obtain ⟨e, hx⟩ := h.yes rfl
  refine ⟨fun _ => ?_, fun h => (by cases h)⟩
  rw [take_snocZ l k hk, ← hy, e, into_app_big _ _ hx]
  exact ⟨rfl, by obtain ⟨z, hz, hl⟩ := hx; exact ⟨z, by simp [hz], hl⟩⟩
theorem IntoAt.now (h : IntoAt l x k false O) (hk : k < l.length) (hy : y = l.getD k 0) (hl : x.natAbs < y.natAbs) : IntoAt l x (k + 1) true (O ++ [x] ++ [y]) := by
  obtain ⟨e, hx⟩ := h.no rfl
  refine ⟨fun _ => ?_, fun h => (by cases h)⟩
  rw [take_snocZ l k hk, ← hy, e, into_app_small _ _ hx]
  exact ⟨by simp [intoS, hl], y, by simp, hl⟩
theorem IntoAt.past (h : IntoAt l x k false O) (hk : k < l.length) (hy : y = l.getD k 0) (hl : ¬ x.natAbs < y.natAbs) : IntoAt l x (k + 1) false (O ++ [y]) := by
  obtain ⟨e, hx⟩ := h.no rfl
  refine ⟨fun h => by (cases h), fun _ => ?_⟩
  rw [take_snocZ l k hk, ← hy, e]
  refine ⟨rfl, fun z hz => ?_⟩
  rcases List.mem_append.1 hz with hz | hz
  · exact hx z hz
  · have : z = y := by simpa using hz
    subst this; exact hl
theorem IntoAt.len {q : Bool} (h : IntoAt l x k q O) : O.length ≤ k + 1 := by
  cases q with
  | true => rw [(h.yes rfl).1, into_len, List.length_take]; omega
  | false => rw [(h.no rfl).1, List.length_take]; omega
theorem IntoAt.endIn (h : IntoAt l x k true O) (hk : k = l.length) : O = intoS l x := by rw [(h.yes rfl).1, hk, List.take_length]
theorem IntoAt.endNo (h : IntoAt l x k false O) (hk : k = l.length) : O ++ [x] = intoS l x := by
  obtain ⟨e, hx⟩ := h.no rfl
  rw [hk, List.take_length] at e hx
  have := into_app_small l [] hx
  rw [List.append_nil] at this
  rw [this, e]; rfl
end
/-- A value that owns a row of ints. -/
def RowZ (w : World) (base : Nat) (v : Value) (O : List Int) : Prop := Row isZ w base 3 v O.length (zvs O)
theorem RowZ.snoc {w : World} {base : Nat} {v : Value} {O : List Int} {y : Int} (h : Row isZ w base 3 v (O.length + 1) (zvs O ++ zvs [y])) : RowZ w base v (O ++ [y]) := by
  unfold RowZ
  have e : zvs (O ++ [y]) = zvs O ++ zvs [y] := by simp [zvs]
  rw [e, List.length_append]
  exact h
theorem RowZ.sees {w : World} {base : Nat} {v : Value} {O : List Int} (h : RowZ w base v O) : ∃ a c, v = .slice a O.length c ∧ NewT w base a O.length c O := by
  obtain ⟨a, c, e, _, hs⟩ := Row.sees h
  subst e
  refine ⟨a, c, rfl, hs, fun h0 => ?_⟩
  rcases h.own.2 with ⟨e, hn⟩ | ⟨g, cap, cur, e, hg, hh, hnc, hm, hcs, ht⟩
  · omega
  · cases e
    refine ⟨g, 0, cur, rfl, hg, hh, fun j hj => ?_⟩
    have := hs.z_at j hj
    rw [cell_of_block hh] at this
    exact this
set_option maxRecDepth 100000 in
set_option maxHeartbeats 6400000 in
theorem into_any (l : List Int) (x : Int) (a : Option Addr) (n c : Nat) (w : World) (h : Sees w a n c (zvs l)) (hn : n ≤ 100000000) (hl : ∀ y ∈ l, y.natAbs ≤ 4194304) (hx : x.natAbs ≤ 4194304) :
    Calls Try.prog 32 #[.slice a n c, .int .i64 x] w fun e w' => ∃ v, e = .returned v ∧ RowZ w' w.heap.size v (intoS l x) ∧ Below w.heap.size w w' := by
  obtain ⟨i0, hi, hz0, hz1, hz2⟩ := info_parts info_int
  have HS := Lib.hid h
  have HL := Lib.hid h.zlen
  have HLL := Lib.hid hl
  have hv : ∀ (y : Int) (W : World), y.natAbs ≤ 4194304 → Calls Try.prog 34 #[.int .i64 y] W fun e w' => e = .returned (.tuple #[.int .i64 (y.natAbs : Int), .bool (decide (y < 0))]) ∧ w' = W := fun y W hy => by
    have := side_any y ⟨by omega, by omega⟩ W
    rw [varW_in (by omega) (by omega)] at this
    exact this
  have HV := Lib.hid hv
  have HX := Lib.hid (hv x w hx)
  obtain ⟨p, hp⟩ : ∃ p, p = decide (x < 0) := ⟨_, rfl⟩
  obtain ⟨m, hm⟩ : ∃ m, m = x.natAbs := ⟨_, rfl⟩
  rw [← hp, ← hm] at HX
  have HM := Lib.hid hm
  clear h hl hv hp hm
  go_enter Try.func32, Try.ntmps32
  go_wp2_with fail
  refine HX.out.mono ?_
  rintro e w1 ⟨rfl, rfl⟩
  go_wp2
  go_loopw [9, 5, 8] (fun i o b wr => ∃ (k : Nat) (v : Value) (q : Bool) (O : List Int), k ≤ n ∧ i = .int .i64 k ∧ o = v ∧ b = .bool q ∧ Hid (IntoAt l x k q O) ∧ Hid (RowZ wr w1.heap.size v O) ∧ Hid (Below w1.heap.size w1 wr)) (fun i _ _ _ => n - (intOf i).toNat)
  case atStart => exact ⟨0, _, false, [], Nat.zero_le _, rfl, rfl, rfl, IntoAt.zero, Row.nil _ _ _ _, Below.refl _ _⟩
  case round =>
    obtain ⟨k, v, q, O, hk, rfl, hvv, rfl, hA, hR, hB⟩ := hrel
    obtain rfl := hvv.symm
    have HA := Lib.hid hA.out
    have HR := Lib.hid hR.out
    have HB := Lib.hid hB.out
    have HOL := Lib.hid hA.out.len
    have HSZ := Lib.hid hB.out.size
    clear hA hR hB hvv
    by_cases hlt : k < n
    · obtain ⟨b, off, rfl, _⟩ := HS.out.addr (show 0 < n by omega)
      have hkl : k < l.length := by rw [HL.out]; exact hlt
      have hc := (HS.out.below HB.out).z_at k hlt
      obtain ⟨y, hy⟩ : ∃ y, y = l.getD k 0 := ⟨_, rfl⟩
      rw [← hy] at hc
      have hI1 : ((k : Nat) : Int) < (n : Int) := by omega
      have hI2 : (0 : Int) ≤ (k : Int) := by omega
      have W1 : IntKind.i64.wrap ((k : Int) + 1) = (k : Int) + 1 := IntWalk.i64_in _ (by omega)
      have HY := Lib.hid (HV.out y wr (HLL.out y (by rw [hy]; exact getD_memZ hkl)))
      obtain ⟨my, hmy⟩ : ∃ my, my = y.natAbs := ⟨_, rfl⟩
      obtain ⟨py, hpy⟩ : ∃ p, p = decide (y < 0) := ⟨_, rfl⟩
      rw [← hmy, ← hpy] at HY
      cases q with
      | true =>
        have HA2 := Lib.hid (HA.out.here hkl hy)
        clear hy hmy hpy hkl
        go_wp2_with fail
        refine HY.out.mono ?_
        rintro e w2 ⟨rfl, rfl⟩
        go_wp2_with (at_builtin; refine wpList_append_row isZ _ rfl _ _ 22 rfl w1.heap.size 3 i0 (.int .i64 0) 8 Try.underlying22 hi hz0 hz1 hz2 rfl isZ_zero v O.length (zvs O) rfl (HR.out.below (ext_alloc _ _)) (some ⟨w2.heap.size, 0, none⟩) 1 1 (zvs [y]) rfl (sees_one_z w2 y) (zvs_one _) (isZ_zvs _) ?c1 ?c2 ?c3 ?_)
        case c1 => have := HOL.out; unfold maxLen; omega
        case c2 => have := HOL.out; omega
        case c3 => have := HSZ.out; simp; omega
        intro v2 w3 hr3 hg3 _
        have HR3 := Lib.hid (RowZ.snoc hr3)
        have HB3 : Hid (Below w1.heap.size w1 w3) := (ext_trans HB.out (ext_alloc _ _)).grown hg3 (by have := HSZ.out; simp; omega) (fun j hj => (Row.own HR.out).lt j hj |>.1)
        clear hr3 hg3
        go_wp2
        go_roundw
        case rel => exact ⟨k + 1, v2, true, _, by omega, by go_num, rfl, rfl, HA2.out, HR3.out, HB3.out⟩
        case measure => simp [intOf]; omega
      | false =>
        by_cases hxy : x.natAbs < y.natAbs
        · have HA2 := Lib.hid (HA.out.now hkl hy hxy)
          have E1 : decide ((m : Int) < (my : Int)) = true := by have := HM.out; simp; omega
          have E2 : decide (m < my) = true := by have := HM.out; simp; omega
          clear hy hmy hpy hkl hxy
          go_wp2_with fail
          refine HY.out.mono ?_
          rintro e w2 ⟨rfl, rfl⟩
          go_wp2_with (at_builtin; refine wpList_append_row isZ _ rfl _ _ 22 rfl w1.heap.size 3 i0 (.int .i64 0) 8 Try.underlying22 hi hz0 hz1 hz2 rfl isZ_zero v O.length (zvs O) rfl (HR.out.below (ext_alloc _ _)) (some ⟨w2.heap.size, 0, none⟩) 1 1 (zvs [x]) rfl (sees_one_z w2 x) (zvs_one _) (isZ_zvs _) ?c1 ?c2 ?c3 ?_)
          case c1 => have := HOL.out; unfold maxLen; omega
          case c2 => have := HOL.out; omega
          case c3 => have := HSZ.out; simp; omega
          intro v2 w3 hr3 hg3 _
          have HR3 := Lib.hid (RowZ.snoc hr3)
          have HB3 : Hid (Below w1.heap.size w1 w3) := (ext_trans HB.out (ext_alloc _ _)).grown hg3 (by have := HSZ.out; simp; omega) (fun j hj => (Row.own HR.out).lt j hj |>.1)
          have HSZ3 := Lib.hid HB3.out.size
          have hc3 : w3.cell? ⟨b, off + k, none⟩ = some (.int .i64 y) := by
            have h1 := (HS.out.below HB3.out).z_at k hlt
            have h2 := (HS.out.below HB.out).z_at k hlt
            rw [hc] at h2
            cases h2
            exact h1
          have HO3 : Hid ((O ++ [x]).length ≤ k + 2) := by show _ ≤ _; have := HOL.out; simp; omega
          obtain ⟨O3, hO3⟩ : ∃ O3, O3 = O ++ [x] := ⟨_, rfl⟩
          rw [← hO3] at HR3 HA2 HO3
          clear hr3 hg3 hO3
          go_wp2_with (at_builtin; refine wpList_append_row isZ _ rfl _ _ 22 rfl w1.heap.size 3 i0 (.int .i64 0) 8 Try.underlying22 hi hz0 hz1 hz2 rfl isZ_zero v2 O3.length (zvs O3) rfl (HR3.out.below (ext_alloc _ _)) (some ⟨w3.heap.size, 0, none⟩) 1 1 (zvs [y]) rfl (sees_one_z w3 y) (zvs_one _) (isZ_zvs _) ?d1 ?d2 ?d3 ?_)
          case d1 => have := HO3.out; unfold maxLen; omega
          case d2 => have := HO3.out; omega
          case d3 => have := HSZ3.out; simp; omega
          intro v4 w4 hr4 hg4 _
          have HR4 := Lib.hid (RowZ.snoc hr4)
          have HB4 : Hid (Below w1.heap.size w1 w4) := (ext_trans HB3.out (ext_alloc _ _)).grown hg4 (by have := HSZ3.out; simp; omega) (fun j hj => (Row.own HR3.out).lt j hj |>.1)
          clear hr4 hg4
          go_wp2
          go_roundw
          case rel => exact ⟨k + 1, v4, true, _, by omega, by go_num, rfl, rfl, HA2.out, HR4.out, HB4.out⟩
          case measure => simp [intOf]; omega
        · have HA2 := Lib.hid (HA.out.past hkl hy hxy)
          have E1 : decide ((m : Int) < (my : Int)) = false := by have := HM.out; simp; omega
          have E2 : decide (m < my) = false := by have := HM.out; simp; omega
          clear hy hmy hpy hkl hxy
          go_wp2_with fail
          refine HY.out.mono ?_
          rintro e w2 ⟨rfl, rfl⟩
          go_wp2_with (at_builtin; refine wpList_append_row isZ _ rfl _ _ 22 rfl w1.heap.size 3 i0 (.int .i64 0) 8 Try.underlying22 hi hz0 hz1 hz2 rfl isZ_zero v O.length (zvs O) rfl (HR.out.below (ext_alloc _ _)) (some ⟨w2.heap.size, 0, none⟩) 1 1 (zvs [y]) rfl (sees_one_z w2 y) (zvs_one _) (isZ_zvs _) ?c1 ?c2 ?c3 ?_)
          case c1 => have := HOL.out; unfold maxLen; omega
          case c2 => have := HOL.out; omega
          case c3 => have := HSZ.out; simp; omega
          intro v2 w3 hr3 hg3 _
          have HR3 := Lib.hid (RowZ.snoc hr3)
          have HB3 : Hid (Below w1.heap.size w1 w3) := (ext_trans HB.out (ext_alloc _ _)).grown hg3 (by have := HSZ.out; simp; omega) (fun j hj => (Row.own HR.out).lt j hj |>.1)
          clear hr3 hg3
          go_wp2
          go_roundw
          case rel => exact ⟨k + 1, v2, false, _, by omega, by go_num, rfl, rfl, HA2.out, HR3.out, HB3.out⟩
          case measure => simp [intOf]; omega
    · obtain rfl : k = n := by omega
      cases q with
      | true =>
        have HE := Lib.hid (HA.out.endIn HL.out.symm)
        go_wp2
        go_ret
        exact ⟨v, rfl, by rw [← HE.out]; exact HR.out, HB.out⟩
      | false =>
        have HE := Lib.hid (HA.out.endNo HL.out.symm)
        go_wp2_with (at_builtin; refine wpList_append_row isZ _ rfl _ _ 22 rfl w1.heap.size 3 i0 (.int .i64 0) 8 Try.underlying22 hi hz0 hz1 hz2 rfl isZ_zero v O.length (zvs O) rfl (HR.out.below (ext_alloc _ _)) (some ⟨wr.heap.size, 0, none⟩) 1 1 (zvs [x]) rfl (sees_one_z wr x) (zvs_one _) (isZ_zvs _) ?c1 ?c2 ?c3 ?_)
        case c1 => have := HOL.out; unfold maxLen; omega
        case c2 => have := HOL.out; omega
        case c3 => have := HSZ.out; simp; omega
        intro v2 w3 hr3 hg3 _
        have HR3 := Lib.hid (RowZ.snoc hr3)
        have HB3 : Hid (Below w1.heap.size w1 w3) := (ext_trans HB.out (ext_alloc _ _)).grown hg3 (by have := HSZ.out; simp; omega) (fun j hj => (Row.own HR.out).lt j hj |>.1)
        clear hr3 hg3
        go_wp2
        go_ret
        exact ⟨v2, rfl, by rw [← HE.out]; exact HR3.out, HB3.out⟩

theorem ordL_take (l : List Int) (k : Nat) (h : k < l.length) : ordL (l.take (k + 1)) = addS (ordL (l.take k)) (l.getD k 0) := by
  unfold ordL
  rw [take_snocZ l k h, List.foldl_append]
  rfl
set_option maxRecDepth 100000 in
set_option maxHeartbeats 6400000 in
theorem refOrder_any (l : List Int) (vars : Int) (a : Option Addr) (n c : Nat) (w : World) (h : Sees w a n c (zvs l)) (hn : n ≤ 9223372036854775807) :
    Calls Try.prog 33 #[.slice a n c, .int .i64 vars] w (OrderPostT l vars w) := by
  have HS := Lib.hid h
  have HL := Lib.hid h.zlen
  have HM := Lib.hid (refMay_any [l] vars (some ⟨w.heap.size, 0, none⟩) 1 1 [(a, n, c)] _ (seesT_one w a n c l h) (by omega) (fun x hx => by
    have : x = l := by simpa using hx
    subst this; have := h.zlen; omega))
  obtain ⟨q, hq⟩ : ∃ q, q = mayS [l] vars := ⟨_, rfl⟩
  rw [← hq] at HM
  cases q with
  | false =>
    have HQ := Lib.hid hq.symm
    clear h hq
    go_enter Try.func33, Try.ntmps33
    go_wp2_with fail
    refine HM.out.mono ?_
    rintro e w1 ⟨rfl, rfl⟩
    go_wp2
    go_ret3
    exact ⟨ext_alloc _ _, .inl ⟨HQ.out, rfl⟩⟩
  | true =>
    have HQ := Lib.hid hq.symm
    obtain ⟨hv0, hv1, hl4, hlv⟩ := may_oneT hq.symm
    have HLV : Hid (∀ y ∈ l, y.natAbs ≤ 4194304) := fun y hy => by have := hlv y hy; omega
    have hn4 : n ≤ 4096 := by have := h.zlen; omega
    clear h hq hv0 hv1 hl4 hlv
    go_enter Try.func33, Try.ntmps33
    go_wp2_with fail
    refine HM.out.mono ?_
    rintro e w1 ⟨rfl, rfl⟩
    go_wp2
    go_loopw [8, 7] (fun i o wr => ∃ (k : Nat) (v : Value) (O : List Int), k ≤ n ∧ i = .int .i64 k ∧ o = v ∧ Hid (O = ordL (l.take k)) ∧ Hid (∀ j, j < k → l.contains (-(l.getD j 0)) = false) ∧ Hid (RowZ wr w.heap.size v O) ∧ Hid (Below w.heap.size w wr)) (fun i _ _ => n - (intOf i).toNat)
    case atStart => exact ⟨0, _, [], Nat.zero_le _, rfl, rfl, rfl, (fun j hj => absurd hj (by omega)), Row.nil _ _ _ _, ext_alloc _ _⟩
    case round =>
      obtain ⟨k, v, O, hk, rfl, hvv, hO, hN, hR, hB⟩ := hrel
      obtain rfl := hvv.symm
      have HO := Lib.hid hO.out
      have HN := Lib.hid hN.out
      have HB := Lib.hid hB.out
      have HR := Lib.hid hR.out
      have HSZ := Lib.hid hB.out.size
      clear hO hN hR hB hvv
      by_cases hlt : k < n
      · obtain ⟨b, off, rfl, _⟩ := HS.out.addr (show 0 < n by omega)
        have hkl : k < l.length := by rw [HL.out]; exact hlt
        have hc := (HS.out.below HB.out).z_at k hlt
        obtain ⟨y, hy⟩ : ∃ y, y = l.getD k 0 := ⟨_, rfl⟩
        rw [← hy] at hc
        have hyl : y ∈ l := by rw [hy]; exact getD_memZ hkl
        have hyb := HLV.out y hyl
        have W2 : IntKind.i64.wrap (-y) = -y := IntWalk.i64_in _ (by omega)
        have hI1 : ((k : Nat) : Int) < (n : Int) := by omega
        have hI2 : (0 : Int) ≤ (k : Int) := by omega
        have W1 : IntKind.i64.wrap ((k : Int) + 1) = (k : Int) + 1 := IntWalk.i64_in _ (by omega)
        have HH1 := Lib.hid (has_any l (-y) (some ⟨b, off, none⟩) n c wr (HS.out.below HB.out) (by omega))
        obtain ⟨q1, hq1⟩ : ∃ q, q = l.contains (-y) := ⟨_, rfl⟩
        rw [← hq1] at HH1
        cases q1 with
        | true =>
          have HT : Hid (orderS l = none) := by
            show _ = _
            have : opp l = true := opp_iff.2 ⟨y, hyl, by rw [← List.contains_iff_mem]; exact hq1.symm⟩
            simp [orderS, this]
          clear hq1 hy hyl hyb hkl
          go_wp2_with fail
          refine HH1.out.mono ?_
          rintro e w2 ⟨rfl, rfl⟩
          go_wp2
          go_ret3
          exact ⟨HB.out, .inr (.inl ⟨HQ.out, HT.out, rfl⟩)⟩
        | false =>
          have HN2 : Hid (∀ j, j < k + 1 → l.contains (-(l.getD j 0)) = false) := fun j hj => by
            by_cases e : j = k
            · rw [e, ← hy, ← hq1]
            · exact HN.out j (by omega)
          obtain ⟨va, vc, rfl, hnew⟩ := HR.out.sees
          have hol : O.length ≤ 4096 := by
            have h1 := ordL_len (l.take k)
            rw [← HO.out, List.length_take] at h1
            have := HL.out
            omega
          have HH2 := Lib.hid (has_any O y va O.length vc wr hnew.sees (by omega))
          have HIN := Lib.hid (into_any O y va O.length vc wr hnew.sees (by omega) (fun z hz => HLV.out z (by
            rw [HO.out] at hz
            exact List.mem_of_mem_take (mem_ordL.1 hz))) hyb)
          have ho := ordL_take l k hkl
          rw [← HO.out, ← hy] at ho
          obtain ⟨q2, hq2⟩ : ∃ q, q = O.contains y := ⟨_, rfl⟩
          rw [← hq2] at HH2
          cases q2 with
          | true =>
            have HO2 : Hid (O = ordL (l.take (k + 1))) := by show _ = _; rw [ho]; unfold addS; rw [← hq2]; rfl
            clear hq1 hq2 hy hyl hyb hkl hnew ho
            go_wp2_with fail
            refine HH1.out.mono ?_
            rintro e w2 ⟨rfl, rfl⟩
            go_wp2_with fail
            refine HH2.out.mono ?_
            rintro e w2 ⟨rfl, rfl⟩
            go_wp2
            go_roundw
            case rel => exact ⟨k + 1, _, O, by omega, by go_num, rfl, HO2.out, HN2.out, HR.out, HB.out⟩
            case measure => simp [intOf]; omega
          | false =>
            have HO2 : Hid (intoS O y = ordL (l.take (k + 1))) := by show _ = _; rw [ho]; unfold addS; rw [← hq2]; rfl
            clear hq1 hq2 hy hyl hyb hkl hnew ho
            go_wp2_with fail
            refine HH1.out.mono ?_
            rintro e w2 ⟨rfl, rfl⟩
            go_wp2_with fail
            refine HH2.out.mono ?_
            rintro e w2 ⟨rfl, rfl⟩
            go_wp2_with fail
            refine HIN.out.mono ?_
            rintro e w3 ⟨v3, rfl, hr3, hb3⟩
            have HR3 : Hid (RowZ w3 w.heap.size v3 (intoS O y)) := Row.base_le hr3 HSZ.out
            have HB3 := Lib.hid (ext_trans HB.out hb3)
            clear hr3 hb3
            go_wp2
            go_roundw
            case rel => exact ⟨k + 1, v3, _, by omega, by go_num, rfl, HO2.out, HN2.out, HR3.out, HB3.out⟩
            case measure => simp [intOf]; omega
      · obtain rfl : k = n := by omega
        have hop : opp l = false := by
          cases hq : opp l with
          | false => rfl
          | true =>
            obtain ⟨x, hx, hx2⟩ := opp_iff.1 hq
            obtain ⟨i, hi, e⟩ := List.getElem_of_mem hx
            have h1 := HN.out i (by rw [← HL.out]; exact hi)
            have e2 : l.getD i 0 = x := by simp [List.getD, List.getElem?_eq_getElem hi, e]
            rw [e2, ← Bool.not_eq_true, List.contains_iff_mem] at h1
            exact absurd hx2 h1
        have hoe : O = ordL l := by rw [HO.out, ← HL.out, List.take_length]
        have HT : Hid (orderS l = some O) := by show _ = _; unfold orderS; rw [hop, hoe]; rfl
        have HOL : Hid (O.length ≤ 4096) := by show _ ≤ _; rw [hoe]; have := ordL_len l; have := HL.out; omega
        obtain ⟨va, vc, rfl, hnew⟩ := HR.out.sees
        have HNW := Lib.hid hnew
        clear hop hoe hnew
        go_wp2
        go_ret3
        exact ⟨HB.out, .inr (.inr ⟨HQ.out, O, va, O.length, vc, HT.out, rfl, HOL.out, HNW.out⟩)⟩

def openS (G C : List Int) : List Int := C.filter fun x => !G.contains (-x)
def holdsIn (G C : List Int) : Bool := C.any fun x => G.contains x
structure MInv (L : List (List Int)) (given : List Int) (V : Nat) (G : List Int) : Prop where
  asc : Asc G
  der : ∀ x ∈ G, Der (ordAll L) given x
  giv : ∀ x ∈ given, x ∈ G
  ins : ∀ x ∈ G, x ≠ 0 ∧ x.natAbs ≤ V
theorem mem_open {G C : List Int} {x : Int} : x ∈ openS G C ↔ x ∈ C ∧ -x ∉ G := by simp [openS]
theorem holdsIn_iff {G C : List Int} : holdsIn G C = true ↔ ∃ x, x ∈ C ∧ x ∈ G := by simp [holdsIn]
section
variable {L : List (List Int)} {given G : List Int} {V : Nat}
theorem MInv.start (hg : opp given = false) (hi : ∀ x ∈ given, x ≠ 0 ∧ x.natAbs ≤ V) : MInv L given V (ordL given) :=
  ⟨asc_ordL hg, fun _ hx => .given (mem_ordL.1 hx), fun _ hx => mem_ordL.2 hx, fun x hx => hi x (mem_ordL.1 hx)⟩
theorem MInv.len (h : MInv L given V G) : G.length ≤ V := by
  have := pigeon V (G.map Int.natAbs) (by
    have := h.asc
    unfold Asc at this
    rw [List.nodup_iff_pairwise_ne, List.pairwise_map]
    exact this.imp fun hlt => by omega) (fun x hx => by
    obtain ⟨y, hy, rfl⟩ := List.mem_map.1 hx
    have := h.ins y hy
    omega)
  simpa using this
theorem MInv.cons (h : MInv L given V G) {x : Int} (hx : x ∈ G) : -x ∉ G := fun hn => by
  have := asc_cons' h.asc x hx (-x) hn (by omega)
  have := (h.ins x hx).1
  omega
theorem MInv.clash (h : MInv L given V G) {C : List Int} (hC : C ∈ ordAll L) (ho : openS G C = []) : Clash (ordAll L) given := by
  refine .inr ⟨C, hC, fun x hx => ?_⟩
  by_cases hn : -x ∈ G
  · exact h.der _ hn
  · have : x ∈ openS G C := mem_open.2 ⟨hx, hn⟩
    rw [ho] at this; cases this
theorem MInv.unit (h : MInv L given V G) {C : List Int} (hC : C ∈ ordAll L) (hl : ∀ y ∈ C, y ≠ 0 ∧ y.natAbs ≤ V) {x : Int} (ho : openS G C = [x]) (hh : holdsIn G C = false) : MInv L given V (intoS G x) := by
  have hxo : x ∈ openS G C := by rw [ho]; simp
  obtain ⟨hxC, hxn⟩ := mem_open.1 hxo
  have hxG : x ∉ G := fun hx => by
    have : holdsIn G C = true := holdsIn_iff.2 ⟨x, hxC, hx⟩
    rw [hh] at this; cases this
  have hd : Der (ordAll L) given x := .unit hC hxC fun y hy hne => by
    by_cases hn : -y ∈ G
    · exact h.der _ hn
    · have : y ∈ openS G C := mem_open.2 ⟨hy, hn⟩
      rw [ho] at this
      exact absurd (by simpa using this) hne
  refine ⟨asc_into h.asc fun y hy e => ?_, fun y hy => ?_, fun y hy => mem_into.2 (.inr (h.giv y hy)), fun y hy => ?_⟩
  · by_cases e2 : y = x
    · subst e2; exact hxG hy
    · have : y = -x := by omega
      subst this; exact hxn hy
  · rcases mem_into.1 hy with rfl | hy
    · exact hd
    · exact h.der y hy
  · rcases mem_into.1 hy with rfl | hy
    · exact hl _ hxC
    · exact h.ins y hy
/-- One clause wants nothing more. -/
def Calm (G : List Int) (c : List Int) : Prop := ∀ C, orderS c = some C → openS G C ≠ [] ∧ ¬ ((openS G C).length = 1 ∧ holdsIn G C = false)
theorem MInv.done (h : MInv L given V G) (hc : ∀ c ∈ L, Calm G c) : IsMust (ordAll L) given G := by
  have key : ∀ C, C ∈ ordAll L → openS G C ≠ [] ∧ ¬ ((openS G C).length = 1 ∧ holdsIn G C = false) := fun C hC => by
    obtain ⟨c, h1, h2⟩ := List.mem_filterMap.1 hC
    exact hc c h1 C h2
  have := closed_is (cls := ordAll L) (given := given) (D := fun x => x ∈ G) (fun l hl => h.giv l hl) (fun l hl => h.der l hl) (fun l hl => h.cons hl)
    (fun C hC => by
      have := (key C hC).1
      cases ho : openS G C with
      | nil => exact absurd ho this
      | cons x r =>
        have hx : x ∈ openS G C := by rw [ho]; simp
        obtain ⟨h1, h2⟩ := mem_open.1 hx
        exact ⟨x, h1, h2⟩)
    (fun C hC l hl hx => by
      obtain ⟨k1, k2⟩ := key C hC
      have hsub : ∀ y, y ∈ openS G C → y = l := fun y hy => by
        obtain ⟨h1, h2⟩ := mem_open.1 hy
        by_cases e : y = l
        · exact e
        · exact absurd (hx y h1 e) h2
      have hnd : (openS G C).Nodup := (asc_nodup (ordAll_mem hC).1).filter _
      have hlen : (openS G C).length = 1 := by
        cases ho : openS G C with
        | nil => exact absurd ho k1
        | cons x r =>
          cases r with
          | nil => rfl
          | cons y r =>
            rw [ho] at hsub hnd
            have e1 := hsub x (by simp)
            have e2 := hsub y (by simp)
            subst e1; subst e2
            simp at hnd
      have hh : holdsIn G C = true := by
        cases hq : holdsIn G C with
        | true => rfl
        | false => exact absurd ⟨hlen, hq⟩ k2
      obtain ⟨y, hy, hyG⟩ := holdsIn_iff.1 hh
      by_cases e : y = l
      · subst e; exact hyG
      · exact absurd (hx y hy e) (h.cons hyG))
  exact ⟨h.asc, this.1, this.2⟩
end
/-- Between two clauses of a round. -/
structure RoundAt (L : List (List Int)) (given : List Int) (V : Nat) (Mu : List Int) (k : Nat) (G : List Int) : Prop where
  inv : MInv L given V G
  le : Mu.length ≤ G.length
  same : G.length = Mu.length → G = Mu ∧ ∀ j, j < k → Calm Mu (L.getD j [])
section
variable {L : List (List Int)} {given G Mu C : List Int} {V k : Nat}
theorem RoundAt.start (h : MInv L given V Mu) : RoundAt L given V Mu 0 Mu := ⟨h, Nat.le_refl _, fun _ => ⟨rfl, fun j hj => absurd hj (by omega)⟩⟩
theorem RoundAt.talk (h : RoundAt L given V Mu k G) (ho : orderS (L.getD k []) = none) : RoundAt L given V Mu (k + 1) G :=
  ⟨h.inv, h.le, fun e => ⟨(h.same e).1, fun j hj => by
    by_cases e2 : j = k
    · subst e2; intro C hC; rw [ho] at hC; cases hC
    · exact (h.same e).2 j (by omega)⟩⟩
theorem RoundAt.keep (h : RoundAt L given V Mu k G) (ho : orderS (L.getD k []) = some C) (h1 : openS G C ≠ []) (h2 : ¬ ((openS G C).length = 1 ∧ holdsIn G C = false)) : RoundAt L given V Mu (k + 1) G :=
  ⟨h.inv, h.le, fun e => ⟨(h.same e).1, fun j hj => by
    by_cases e2 : j = k
    · subst e2; intro D hD; rw [ho] at hD; cases hD; rw [← (h.same e).1]; exact ⟨h1, h2⟩
    · exact (h.same e).2 j (by omega)⟩⟩
theorem RoundAt.grow (h : RoundAt L given V Mu k G) {x : Int} (hm : MInv L given V (intoS G x)) : RoundAt L given V Mu (k + 1) (intoS G x) :=
  ⟨hm, by rw [into_len]; have := h.le; omega, fun e => by rw [into_len] at e; have := h.le; omega⟩
theorem RoundAt.done (h : RoundAt L given V Mu L.length G) (e : G.length = Mu.length) : IsMust (ordAll L) given Mu := by
  obtain ⟨e1, hc⟩ := h.same e
  subst e1
  refine h.inv.done fun c hc2 => ?_
  obtain ⟨i, hi, e3⟩ := List.getElem_of_mem hc2
  have := hc i hi
  simpa [List.getD, List.getElem?_eq_getElem hi, e3] using this
/-- Of a clause's literals, so many. -/
theorem open_snoc (G C : List Int) (j : Nat) (h : j < C.length) : openS G (C.take (j + 1)) = openS G (C.take j) ++ (if G.contains (-(C.getD j 0)) then [] else [C.getD j 0]) := by
  unfold openS
  rw [take_snocZ C j h, List.filter_append]
  congr 1
  generalize C.getD j 0 = y
  by_cases hq : -y ∈ G <;> simp [hq]
theorem holdsIn_snoc (G C : List Int) (j : Nat) (h : j < C.length) : holdsIn G (C.take (j + 1)) = (holdsIn G (C.take j) || G.contains (C.getD j 0)) := by
  unfold holdsIn
  rw [take_snocZ C j h, List.any_append]
  simp
end

/-- A value that reads as these ints. -/
def ValZ (w : World) (v : Value) (O : List Int) : Prop := ∃ a c, v = .slice a O.length c ∧ Sees w a O.length c (zvs O)
theorem ValZ.below {w w' : World} {v : Value} {O : List Int} (h : ValZ w v O) (hb : Below w.heap.size w w') : ValZ w' v O := by
  obtain ⟨a, c, e, hs⟩ := h
  exact ⟨a, c, e, hs.below hb⟩
theorem RowZ.val {w : World} {base : Nat} {v : Value} {O : List Int} (h : RowZ w base v O) : ValZ w v O := by
  obtain ⟨a, c, e, hn⟩ := h.sees
  exact ⟨a, c, e, hn.sees⟩
def slLen : Value → Nat
  | .slice _ n _ => n
  | _ => 0
set_option maxRecDepth 100000 in
set_option maxHeartbeats 12800000 in
theorem refMust_any (L : List (List Int)) (given : List Int) (vars : Int) (a ag : Option Addr) (n c ng cg : Nat) (ss : List ZSlc) (w : World) (h : SeesZ w a n c ss L) (hg : Sees w ag ng cg (zvs given)) (hn : n ≤ 9223372036854775807) (hm : SmallZ L) (hng : ng ≤ 9223372036854775807) :
    Calls Try.prog 20 #[.slice a n c, .slice ag ng cg, .int .i64 vars] w (MustPost L given vars w) := by
  obtain ⟨i0, hi, hz0, hz1, hz2⟩ := info_parts info_int
  have HS := Lib.hid h
  have HG := Lib.hid hg
  have HL := Lib.hid h.zlen
  have HGL := Lib.hid hg.zlen
  have HSM := Lib.hid hm
  have HM1 := Lib.hid (refMay_any L vars a n c ss w h hn hm)
  have HM2 := Lib.hid (one_any given vars ag ng cg w hg hng)
  obtain ⟨q1, hq1⟩ : ∃ q, q = mayS L vars := ⟨_, rfl⟩
  obtain ⟨q2, hq2⟩ : ∃ q, q = oneR vars given := ⟨_, rfl⟩
  rw [← hq1] at HM1
  rw [← hq2] at HM2
  have HQ1 := Lib.hid hq1.symm
  have HQ2 := Lib.hid hq2.symm
  clear h hg hm hq1 hq2
  go_enter Try.func20, Try.ntmps20
  go_wp2_with fail
  refine HM1.out.mono ?_
  rintro e w1 ⟨rfl, hw⟩
  obtain rfl := hw.symm
  clear hw
  cases q1 with
  | false =>
    go_wp2
    go_ret2
    exact ⟨Below.refl _ _, .inl ⟨.inl HQ1.out, rfl⟩⟩
  | true =>
    obtain ⟨hv0, hv1, hL1, hL2⟩ := mayS_iff.1 HQ1.out
    have HQ3 : Hid (mayS [given] vars = q2) := by show _ = _; rw [← oneR_may hv0 hv1]; exact HQ2.out
    go_wp2_with fail
    refine HM2.out.mono ?_
    rintro e w2 ⟨rfl, hw⟩
    obtain rfl := hw.symm
    clear hw
    cases q2 with
    | false =>
      clear hv0 hv1 hL1 hL2
      go_wp2
      go_ret2
      exact ⟨Below.refl _ _, .inl ⟨.inr (.inl HQ3.out), rfl⟩⟩
    | true =>
      obtain ⟨_, _, hg4, hgl⟩ := may_oneT HQ3.out
      obtain ⟨V, rfl⟩ := Int.eq_ofNat_of_zero_le hv0
      have hV4 : V ≤ 4194304 := by omega
      have HGV : Hid (∀ x ∈ given, x ≠ 0 ∧ x.natAbs ≤ V) := fun x hx => by have := hgl x hx; exact ⟨this.1, by omega⟩
      have HLV : Hid (∀ C ∈ L, C.length ≤ 4096 ∧ ∀ x ∈ C, x ≠ 0 ∧ x.natAbs ≤ V) := fun C hC => ⟨(hL2 C hC).1, fun x hx => by have := (hL2 C hC).2 x hx; exact ⟨this.1, by omega⟩⟩
      have HONE : Hid (∀ C ∈ L, mayS [C] (V : Int) = true) := fun C hC => mayS_iff.2 ⟨hv0, hv1, by simp, fun d hd => by
        have : d = C := by simpa using hd
        subst this; exact hL2 d hC⟩
      have hng4 : ng ≤ 4096 := by have := HGL.out; omega
      have hn4 : n ≤ 1048576 := by have := HL.out; omega
      clear hv0 hv1 hL1 hL2 hg4 hgl
      go_wp2
      go_loopw [9, 8] (fun i o wr => ∃ (k : Nat) (v : Value) (O : List Int), k ≤ ng ∧ i = .int .i64 k ∧ o = v ∧ Hid (O = ordL (given.take k)) ∧ Hid (∀ j, j < k → given.contains (-(given.getD j 0)) = false) ∧ Hid (ValZ wr v O) ∧ Hid (Below w.heap.size w wr)) (fun i _ _ => ng - (intOf i).toNat)
      case atStart => exact ⟨0, _, [], Nat.zero_le _, rfl, rfl, rfl, (fun j hj => absurd hj (by omega)), ⟨none, 0, rfl, Sees.nil _ _ _ (fun _ => rfl)⟩, Below.refl _ _⟩
      case round =>
        obtain ⟨k, v, O, hk, rfl, hvv, hO, hN, hR, hB⟩ := hrel
        obtain rfl := hvv.symm
        have HO := Lib.hid hO.out
        have HN := Lib.hid hN.out
        have HB := Lib.hid hB.out
        have HR := Lib.hid hR.out
        clear hO hN hR hB hvv
        by_cases hlt : k < ng
        · obtain ⟨b, off, rfl, _⟩ := HG.out.addr (show 0 < ng by omega)
          have hkl : k < given.length := by rw [HGL.out]; exact hlt
          have hc := (HG.out.below HB.out).z_at k hlt
          obtain ⟨y, hy⟩ : ∃ y, y = given.getD k 0 := ⟨_, rfl⟩
          rw [← hy] at hc
          have hyl : y ∈ given := by rw [hy]; exact getD_memZ hkl
          have hyb := (HGV.out y hyl).2
          have W2 : IntKind.i64.wrap (-y) = -y := IntWalk.i64_in _ (by omega)
          have hI1 : ((k : Nat) : Int) < (ng : Int) := by omega
          have hI2 : (0 : Int) ≤ (k : Int) := by omega
          have W1 : IntKind.i64.wrap ((k : Int) + 1) = (k : Int) + 1 := IntWalk.i64_in _ (by omega)
          have HH1 := Lib.hid (has_any given (-y) (some ⟨b, off, none⟩) ng cg wr (HG.out.below HB.out) (by omega))
          obtain ⟨q1, hq1⟩ : ∃ q, q = given.contains (-y) := ⟨_, rfl⟩
          rw [← hq1] at HH1
          cases q1 with
          | true =>
            have HT : Hid (Clash (ordAll L) given) := .inl ⟨y, .given hyl, .given (by rw [← List.contains_iff_mem]; exact hq1.symm)⟩
            clear hq1 hy hyl hyb hkl
            go_wp2_with fail
            refine HH1.out.mono ?_
            rintro e w2 ⟨rfl, rfl⟩
            go_wp2
            go_ret2
            exact ⟨HB.out, .inl ⟨.inr (.inr HT.out), rfl⟩⟩
          | false =>
            have HN2 : Hid (∀ j, j < k + 1 → given.contains (-(given.getD j 0)) = false) := fun j hj => by
              by_cases e : j = k
              · rw [e, ← hy, ← hq1]
              · exact HN.out j (by omega)
            obtain ⟨va, vc, rfl, hsee⟩ := HR.out
            have hol : O.length ≤ 4096 := by
              have h1 := ordL_len (given.take k)
              rw [← HO.out, List.length_take] at h1
              omega
            have HH2 := Lib.hid (has_any O y va O.length vc wr hsee (by omega))
            have HIN := Lib.hid (into_any O y va O.length vc wr hsee (by omega) (fun z hz => by
              rw [HO.out] at hz
              have := (HGV.out z (List.mem_of_mem_take (mem_ordL.1 hz))).2
              omega) (by omega))
            have ho := ordL_take given k hkl
            rw [← HO.out, ← hy] at ho
            obtain ⟨q2, hq2⟩ : ∃ q, q = O.contains y := ⟨_, rfl⟩
            rw [← hq2] at HH2
            cases q2 with
            | true =>
              have HO2 : Hid (O = ordL (given.take (k + 1))) := by show _ = _; rw [ho]; unfold addS; rw [← hq2]; rfl
              clear hq1 hq2 hy hyl hyb hkl hsee ho
              go_wp2_with fail
              refine HH1.out.mono ?_
              rintro e w2 ⟨rfl, rfl⟩
              go_wp2_with fail
              refine HH2.out.mono ?_
              rintro e w2 ⟨rfl, rfl⟩
              go_wp2
              go_roundw
              case rel => exact ⟨k + 1, _, O, by omega, by go_num, rfl, HO2.out, HN2.out, HR.out, HB.out⟩
              case measure => simp [intOf]; omega
            | false =>
              have HO2 : Hid (intoS O y = ordL (given.take (k + 1))) := by show _ = _; rw [ho]; unfold addS; rw [← hq2]; rfl
              clear hq1 hq2 hy hyl hyb hkl hsee ho
              go_wp2_with fail
              refine HH1.out.mono ?_
              rintro e w2 ⟨rfl, rfl⟩
              go_wp2_with fail
              refine HH2.out.mono ?_
              rintro e w2 ⟨rfl, rfl⟩
              go_wp2_with fail
              refine HIN.out.mono ?_
              rintro e w3 ⟨v3, rfl, hr3, hb3⟩
              have HR3 := Lib.hid (RowZ.val hr3)
              have HB3 := Lib.hid (ext_trans HB.out hb3)
              clear hr3 hb3
              go_wp2
              go_roundw
              case rel => exact ⟨k + 1, v3, _, by omega, by go_num, rfl, HO2.out, HN2.out, HR3.out, HB3.out⟩
              case measure => simp [intOf]; omega
        · obtain rfl : k = ng := by omega
          have hop : opp given = false := by
            cases hq : opp given with
            | false => rfl
            | true =>
              obtain ⟨x, hx, hx2⟩ := opp_iff.1 hq
              obtain ⟨i, hi, e⟩ := List.getElem_of_mem hx
              have h1 := HN.out i (by rw [← HGL.out]; exact hi)
              have e2 : given.getD i 0 = x := by simp [List.getD, List.getElem?_eq_getElem hi, e]
              rw [e2, ← Bool.not_eq_true, List.contains_iff_mem] at h1
              exact absurd hx2 h1
          have hoe : O = ordL given := by rw [HO.out, ← HGL.out, List.take_length]
          have HI : Hid (MInv L given V O) := by show MInv _ _ _ _; rw [hoe]; exact MInv.start hop HGV.out
          clear hop hoe HN HO
          go_wp2
          go_loopw [8] (fun mu wr => ∃ (v : Value) (Mu : List Int), mu = v ∧ Hid (MInv L given V Mu) ∧ Hid (ValZ wr v Mu) ∧ Hid (Below w.heap.size w wr)) (fun mu _ => V + 1 - slLen mu)
          case atStart => exact ⟨v, O, rfl, HI.out, HR.out, HB.out⟩
          case round =>
            clear HI HR HB
            obtain ⟨vm, Mu, hvm, hI, hR, hB⟩ := hrel
            obtain rfl := hvm.symm
            have HI := Lib.hid hI.out
            have HR := Lib.hid hR.out
            have HB := Lib.hid hB.out
            have HMU := Lib.hid hI.out.len
            clear hI hR hB hvm
            go_wp2
            go_loopw [11, 10] (fun i g wx => ∃ (k2 : Nat) (vg : Value) (G : List Int), k2 ≤ n ∧ i = .int .i64 k2 ∧ g = vg ∧ Hid (RoundAt L given V Mu k2 G) ∧ Hid (ValZ wx vg G) ∧ Hid (Below wr.heap.size wr wx)) (fun i _ _ => n - (intOf i).toNat)
            case atStart => exact ⟨0, vm, Mu, Nat.zero_le _, rfl, rfl, RoundAt.start HI.out, HR.out, Below.refl _ _⟩
            case round =>
              obtain ⟨k2, vg, G, hk2, rfl, hvg, hA, hVG, hBx⟩ := hrel
              obtain rfl := hvg.symm
              have HA := Lib.hid hA.out
              have HVG := Lib.hid hVG.out
              have HBX := Lib.hid (ext_trans HB.out hBx.out)
              have HBR := Lib.hid hBx.out
              have HGLEN := Lib.hid hA.out.inv.len
              clear hA hVG hBx hvg
              by_cases hlt2 : k2 < n
              · obtain ⟨b, off, rfl, _⟩ := HS.out.addr (show 0 < n by omega)
                have hkl : k2 < L.length := by rw [HL.out]; exact hlt2
                have hs0 := HS.out.below HBX.out
                have hc := hs0.cellAt k2 hlt2
                have he := hs0.each k2 hkl
                obtain ⟨⟨sa, sn, sc⟩, hs⟩ : ∃ s, s = ss.getD k2 zs0 := ⟨_, rfl⟩
                rw [← hs] at hc he
                simp only at hc he
                have HYL := Lib.hid (getD_memL hkl)
                obtain ⟨y, hy⟩ : ∃ y, y = L.getD k2 [] := ⟨_, rfl⟩
                have HY := Lib.hid hy
                rw [← hy] at he HYL
                have hsn : sn ≤ 9223372036854775807 := by rw [← he.zlen]; exact HSM.out _ HYL.out
                have HOR := Lib.hid (refOrder_any y (V : Int) sa sn sc wr he hsn)
                have hI1 : ((k2 : Nat) : Int) < (n : Int) := by omega
                have hI2 : (0 : Int) ≤ (k2 : Int) := by omega
                have W3 : IntKind.i64.wrap ((k2 : Int) + 1) = (k2 : Int) + 1 := IntWalk.i64_in _ (by omega)
                clear hs he hy hkl hs0
                go_wp2_with fail
                refine HOR.out.mono ?_
                intro e w4 hpost
                cases hoy : orderS y with
                | none =>
                  obtain ⟨hb4, rfl⟩ := OrderPostT.talk (l := y) (vars := (V : Int)) (w := wr) (w' := w4) hpost (HONE.out y HYL.out) hoy
                  have HN2 : Hid (RoundAt L given V Mu (k2 + 1) G) := HA.out.talk (by rw [← HY.out]; exact hoy)
                  have HV4 := Lib.hid (HVG.out.below hb4)
                  have HB4 := Lib.hid (ext_trans HBR.out hb4)
                  clear hb4 hpost hoy
                  go_wp2
                  go_roundw
                  case rel => exact ⟨k2 + 1, vg, G, by omega, by go_num, rfl, HN2.out, HV4.out, HB4.out⟩
                  case measure => simp [intOf]; omega
                | some C =>
                  obtain ⟨hb4, ca, cc, rfl, hnew⟩ := OrderPostT.yes (l := y) (vars := (V : Int)) (w := wr) (w' := w4) hpost (HONE.out y HYL.out) hoy
                  have HC : Hid (orderS (L.getD k2 []) = some C) := by show _ = _; rw [← HY.out]; exact hoy
                  have HCM : Hid (C ∈ ordAll L) := List.mem_filterMap.2 ⟨y, HYL.out, hoy⟩
                  have hcv : ∀ z ∈ C, z ≠ 0 ∧ z.natAbs ≤ V := fun z hz => by
                    obtain ⟨_, e⟩ := orderS_some hoy
                    rw [e] at hz
                    exact (HLV.out y HYL.out).2 z (mem_ordL.1 hz)
                  have HCV := Lib.hid hcv
                  have hcl : C.length ≤ 4096 := by
                    obtain ⟨_, e⟩ := orderS_some hoy
                    have h1 := ordL_len y
                    rw [← e] at h1
                    have := (HLV.out y HYL.out).1
                    omega
                  have HCS := Lib.hid hnew.sees
                  have HB4 := Lib.hid (ext_trans HBR.out hb4)
                  obtain ⟨ga, gc, hge, hgs⟩ := HVG.out
                  have HGS := Lib.hid (hgs.below hb4)
                  have hgl2 : G.length ≤ 4194304 := by have := HGLEN.out; omega
                  have HVG4 := Lib.hid (HVG.out.below hb4)
                  obtain ⟨m, hmC⟩ : ∃ m, m = C.length := ⟨_, rfl⟩
                  obtain ⟨gl, hgl⟩ : ∃ m, m = G.length := ⟨_, rfl⟩
                  rw [← hmC] at HCS hcl ⊢
                  rw [← hgl] at HGS hgl2 hge
                  subst hge
                  have HMC := Lib.hid hmC
                  have HGE := Lib.hid hgl
                  clear hb4 hpost hoy hnew hcv hgs hmC hgl
                  go_wp2
                  go_loopw [17, 16, 15] (fun i q o wy => ∃ (j : Nat) (qq : Bool) (vo : Value) (O2 : List Int), j ≤ m ∧ i = .int .i64 j ∧ q = .bool qq ∧ o = vo ∧ Hid (qq = holdsIn G (C.take j)) ∧ Hid (O2 = openS G (C.take j)) ∧ Hid (RowZ wy w4.heap.size vo O2) ∧ Hid (Below w4.heap.size w4 wy)) (fun i _ _ _ => m - (intOf i).toNat)
                  case atStart => exact ⟨0, false, _, [], Nat.zero_le _, rfl, rfl, rfl, rfl, rfl, Row.nil _ _ _ _, Below.refl _ _⟩
                  case round =>
                    obtain ⟨j, qq, vo, O2, hj, rfl, rfl, hvo, hQ, hO2, hRO, hBy⟩ := hrel
                    obtain rfl := hvo.symm
                    have HQ := Lib.hid hQ.out
                    have HO2 := Lib.hid hO2.out
                    have HRO := Lib.hid hRO.out
                    have HBY := Lib.hid hBy.out
                    have HSZ := Lib.hid hBy.out.size
                    clear hQ hO2 hRO hBy hvo
                    by_cases hlj : j < m
                    · obtain ⟨b2, off2, rfl, _⟩ := HCS.out.addr (show 0 < m by omega)
                      have hjl : j < C.length := by rw [← HMC.out]; exact hlj
                      have hc2 := (HCS.out.below HBY.out).z_at j hlj
                      obtain ⟨z, hz⟩ : ∃ z, z = C.getD j 0 := ⟨_, rfl⟩
                      rw [← hz] at hc2
                      have hzb := (HCV.out z (by rw [hz]; exact getD_memZ hjl)).2
                      have W4 : IntKind.i64.wrap (-z) = -z := IntWalk.i64_in _ (by omega)
                      have hI3 : ((j : Nat) : Int) < (m : Int) := by omega
                      have hI4 : (0 : Int) ≤ (j : Int) := by omega
                      have W5 : IntKind.i64.wrap ((j : Int) + 1) = (j : Int) + 1 := IntWalk.i64_in _ (by omega)
                      have HH3 := Lib.hid (has_any G z ga gl gc wr (HGS.out.below HBY.out) (by omega))
                      have HH4 := Lib.hid (has_any G (-z) ga gl gc wr (HGS.out.below HBY.out) (by omega))
                      have h5 := holdsIn_snoc G C j hjl
                      have h6 := open_snoc G C j hjl
                      rw [← hz, ← HQ.out] at h5
                      rw [← hz, ← HO2.out] at h6
                      have HO2L : Hid (O2.length ≤ 4096) := by
                        show _ ≤ _
                        rw [HO2.out]
                        refine Nat.le_trans (List.length_filter_le _ _) ?_
                        rw [List.length_take]; omega
                      obtain ⟨t3, ht3⟩ : ∃ q, q = G.contains z := ⟨_, rfl⟩
                      obtain ⟨t4, ht4⟩ : ∃ q, q = G.contains (-z) := ⟨_, rfl⟩
                      rw [← ht3] at HH3 h5
                      rw [← ht4] at HH4 h6
                      have HQ2 : Hid ((qq || t3) = holdsIn G (C.take (j + 1))) := h5.symm
                      have HO3 : Hid (O2 ++ (if t4 then [] else [z]) = openS G (C.take (j + 1))) := h6.symm
                      clear hz ht3 ht4 h5 h6 hzb hjl
                      cases qq with
                      | true =>
                        go_wp2_with fail
                        refine HH4.out.mono ?_
                        rintro e w5 ⟨rfl, hw⟩
                        obtain rfl := hw.symm
                        clear hw
                        cases t4 with
                        | true =>
                          have HO4 : Hid (O2 = openS G (C.take (j + 1))) := by show _ = _; rw [← HO3.out]; simp
                          go_wp2
                          go_roundw
                          case rel => exact ⟨j + 1, true, vo, O2, by omega, by go_num, rfl, rfl, HQ2.out, HO4.out, HRO.out, HBY.out⟩
                          case measure => simp [intOf]; omega
                        | false =>
                          go_wp2_with (at_builtin; refine wpList_append_row isZ _ rfl _ _ 22 rfl w4.heap.size 3 i0 (.int .i64 0) 8 Try.underlying22 hi hz0 hz1 hz2 rfl isZ_zero vo O2.length (zvs O2) rfl (HRO.out.below (ext_alloc _ _)) (some ⟨wr.heap.size, 0, none⟩) 1 1 (zvs [z]) rfl (sees_one_z wr z) (zvs_one _) (isZ_zvs _) ?c1 ?c2 ?c3 ?_)
                          case c1 => have := HO2L.out; unfold maxLen; omega
                          case c2 => have := HO2L.out; omega
                          case c3 => have := HSZ.out; simp; omega
                          intro v6 w6 hr6 hg6 _
                          have HR6 := Lib.hid (RowZ.snoc hr6)
                          have HB6 : Hid (Below w4.heap.size w4 w6) := (ext_trans HBY.out (ext_alloc _ _)).grown hg6 (by have := HSZ.out; simp; omega) (fun j hj => (Row.own HRO.out).lt j hj |>.1)
                          have HO4 : Hid (O2 ++ [z] = openS G (C.take (j + 1))) := by show _ = _; rw [← HO3.out]; simp
                          clear hr6 hg6
                          go_wp2
                          go_roundw
                          case rel => exact ⟨j + 1, true, v6, _, by omega, by go_num, rfl, rfl, HQ2.out, HO4.out, HR6.out, HB6.out⟩
                          case measure => simp [intOf]; omega
                      | false =>
                        go_wp2_with fail
                        refine HH3.out.mono ?_
                        rintro e w5 ⟨rfl, hw⟩
                        obtain rfl := hw.symm
                        clear hw
                        go_wp2_with fail
                        refine HH4.out.mono ?_
                        rintro e w5 ⟨rfl, hw⟩
                        obtain rfl := hw.symm
                        clear hw
                        cases t4 with
                        | true =>
                          have HO4 : Hid (O2 = openS G (C.take (j + 1))) := by show _ = _; rw [← HO3.out]; simp
                          go_wp2
                          go_roundw
                          case rel => exact ⟨j + 1, t3, vo, O2, by omega, by go_num, rfl, rfl, HQ2.out, HO4.out, HRO.out, HBY.out⟩
                          case measure => simp [intOf]; omega
                        | false =>
                          go_wp2_with (at_builtin; refine wpList_append_row isZ _ rfl _ _ 22 rfl w4.heap.size 3 i0 (.int .i64 0) 8 Try.underlying22 hi hz0 hz1 hz2 rfl isZ_zero vo O2.length (zvs O2) rfl (HRO.out.below (ext_alloc _ _)) (some ⟨wr.heap.size, 0, none⟩) 1 1 (zvs [z]) rfl (sees_one_z wr z) (zvs_one _) (isZ_zvs _) ?c1 ?c2 ?c3 ?_)
                          case c1 => have := HO2L.out; unfold maxLen; omega
                          case c2 => have := HO2L.out; omega
                          case c3 => have := HSZ.out; simp; omega
                          intro v6 w6 hr6 hg6 _
                          have HR6 := Lib.hid (RowZ.snoc hr6)
                          have HB6 : Hid (Below w4.heap.size w4 w6) := (ext_trans HBY.out (ext_alloc _ _)).grown hg6 (by have := HSZ.out; simp; omega) (fun j hj => (Row.own HRO.out).lt j hj |>.1)
                          have HO4 : Hid (O2 ++ [z] = openS G (C.take (j + 1))) := by show _ = _; rw [← HO3.out]; simp
                          clear hr6 hg6
                          go_wp2
                          go_roundw
                          case rel => exact ⟨j + 1, t3, v6, _, by omega, by go_num, rfl, rfl, HQ2.out, HO4.out, HR6.out, HB6.out⟩
                          case measure => simp [intOf]; omega
                    · obtain rfl : j = m := by omega
                      have hq2 : qq = holdsIn G C := by rw [HQ.out, HMC.out, List.take_length]
                      have ho2 : O2 = openS G C := by rw [HO2.out, HMC.out, List.take_length]
                      obtain ⟨oa, oc, rfl, hnw⟩ := HRO.out.sees
                      have HBF := Lib.hid (ext_trans HB4.out HBY.out)
                      have HBW := Lib.hid (ext_trans HB.out (ext_trans HB4.out HBY.out))
                      have HVF := Lib.hid (HVG4.out.below HBY.out)
                      have HGF := Lib.hid (HGS.out.below HBY.out)
                      match O2, ho2, hnw with
                      | [], ho2, _ =>
                        have HT := Lib.hid (HA.out.inv.clash HCM.out ho2.symm)
                        clear hq2 ho2 hnw HRO HO2 HQ
                        go_wp2
                        go_ret2
                        exact ⟨HBW.out, .inl ⟨.inr (.inr HT.out), rfl⟩⟩
                      | [x], ho2, hnw =>
                        cases qq with
                        | true =>
                          have HN2 : Hid (RoundAt L given V Mu (k2 + 1) G) := HA.out.keep HC.out (by rw [← ho2]; simp) (by rw [← hq2]; simp)
                          clear hq2 ho2 hnw HRO HO2 HQ
                          go_wp2
                          go_roundw
                          case rel => exact ⟨k2 + 1, _, G, by omega, by go_num, rfl, HN2.out, HVF.out, HBF.out⟩
                          case measure => simp [intOf]; omega
                        | false =>
                          have HN2 : Hid (RoundAt L given V Mu (k2 + 1) (intoS G x)) := HA.out.grow (HA.out.inv.unit HCM.out HCV.out ho2.symm hq2.symm)
                          have hxb : x.natAbs ≤ V := (HCV.out x (by
                            have : x ∈ openS G C := by rw [← ho2]; simp
                            exact (mem_open.1 this).1)).2
                          obtain ⟨ob, oo, rfl, _⟩ := hnw.sees.addr (show 0 < [x].length by simp)
                          have hc3 := hnw.sees.z_at 0 (show 0 < [x].length by simp)
                          have hc4 : wr.cell? ⟨ob, oo, none⟩ = some (.int .i64 x) := hc3
                          have HIN := Lib.hid (into_any G x ga gl gc wr HGF.out (by omega) (fun z hz => by have := (HA.out.inv.ins z hz).2; omega) (by omega))
                          clear hq2 ho2 hnw HRO HO2 HQ hxb hc3
                          go_wp2_with fail
                          refine HIN.out.mono ?_
                          rintro e w7 ⟨v7, rfl, hr7, hb7⟩
                          have HV7 := Lib.hid (RowZ.val hr7)
                          have HB7 := Lib.hid (ext_trans HBF.out hb7)
                          clear hr7 hb7
                          go_wp2
                          go_roundw
                          case rel => exact ⟨k2 + 1, v7, _, by omega, by go_num, rfl, HN2.out, HV7.out, HB7.out⟩
                          case measure => simp [intOf]; omega
                      | x :: y2 :: r, ho2, _ =>
                        have HN2 : Hid (RoundAt L given V Mu (k2 + 1) G) := HA.out.keep HC.out (by rw [← ho2]; simp) (by rw [← ho2]; simp)
                        obtain ⟨ln, hln⟩ : ∃ m, m = (x :: y2 :: r).length := ⟨_, rfl⟩
                        rw [← hln]
                        have hl2 : 2 ≤ ln := by rw [hln]; simp
                        have E1 : ((ln : Int) == 0) = false := by simp; omega
                        have E2 : ((ln : Int) == 1) = false := by simp; omega
                        have E3 : (ln == 0) = false := by simp; omega
                        have E4 : (ln == 1) = false := by simp; omega
                        clear hq2 ho2 hnw HRO HO2 HQ hln
                        go_wp2
                        go_roundw
                        case rel => exact ⟨k2 + 1, _, G, by omega, by go_num, rfl, HN2.out, HVF.out, HBF.out⟩
                        case measure => simp [intOf]; omega
              · obtain rfl : k2 = n := by omega
                have hA2 := HA.out
                rw [← HL.out] at hA2
                obtain ⟨ma, mc, rfl, hms⟩ := HR.out
                obtain ⟨ga, gc, rfl, hgs⟩ := HVG.out
                by_cases heq : G.length = Mu.length
                · have HD := Lib.hid (hA2.done heq)
                  have HMS := Lib.hid (hms.below HBR.out)
                  obtain ⟨m, hm⟩ : ∃ m, m = Mu.length := ⟨_, rfl⟩
                  rw [heq]
                  rw [← hm] at HMS HMU ⊢
                  have hmu : m ≤ 100000000 := by have := HMU.out; omega
                  clear hms hgs hA2 heq hm
                  go_wp2
                  go_ret2
                  exact ⟨HBX.out, .inr ⟨Mu, ma, m, mc, ⟨HQ1.out, HQ3.out, HD.out⟩, rfl, hmu, HMS.out⟩⟩
                · have hle := hA2.le
                  have HIG := Lib.hid hA2.inv
                  obtain ⟨m, hm⟩ : ∃ m, m = Mu.length := ⟨_, rfl⟩
                  obtain ⟨g, hg⟩ : ∃ m, m = G.length := ⟨_, rfl⟩
                  have HVG2 : Hid (ValZ wr (.slice ga g gc) G) := by rw [hg]; exact HVG.out
                  have HGL2 : Hid (g ≤ V) := by show _ ≤ _; rw [hg]; exact HGLEN.out
                  have HME := Lib.hid hm
                  have HLT : Hid (m < g) := by show _ < _; omega
                  rw [← hm, ← hg]
                  have E1 : ((g : Int) == (m : Int)) = false := by have := HLT.out; simp; omega
                  have E2 : (g == m) = false := by have := HLT.out; simp; omega
                  clear hms hgs hA2 heq hm hle hg HVG HR
                  go_wp2
                  go_roundw
                  case rel => exact ⟨_, G, rfl, HIG.out, HVG2.out, HBX.out⟩
                  case measure => have := HLT.out; have := HGL2.out; have := HME.out; simp [slLen]; omega
end Go.Proofs.Ytionibckeicncaa
