/- (*builder).atLeast, atMost, by their contracts. -/
import Derived.Test.YtionibckeicncaaOwn
import Derived.Test.YtionibckeicncaaNBase
import Derived.Test.YtionibckeicncaaCuInts
import Derived.Test.YtionibckeicncaaTaRM
import Derived.Test.YtionibckeicncaaTaP
import Derived.Test.YtionibckeicncaaTaG
import Derived.Test.YtionibckeicncaaTaR
import Derived.Test.YtionibckeicncaaTaF
import Derived.Test.YtionibckeicncaaRows
import Derived.Test.YtionibckeicncaaShelf
import Derived.BigQuiet
import Derived.Deep.AppendLies
import Derived.Deep.CutRange
import Derived.Deep.QuietTactic
import Derived.Deep.RegionHeld3
import Derived.Deep.RegionLaw
import Derived.Deep.RegionWith
import Derived.KernelRfl
import Derived.Laws.EntriesVeiled
import Derived.Lib.ConvBytes
import Derived.Lib.Hide
import Derived.Lib.SlBytesRow
import Derived.Lib.SlicesCompact
import Derived.Lib.SmallJoins
import Derived.OrdersHeld
import Derived.Shelf.Bytes.SlSmallAll
import Derived.Sort.Statements
import Derived.WalkKit
import Derived.WalkLawsBesides
import Derived.WalkSpells
namespace Go.Proofs.Ytionibckeicncaa
open Go Go.RowKit Go.Joins

set_option maxRecDepth 100000 in
set_option maxHeartbeats 6400000 in
theorem atLeast_any (w0 w : World) (B most next i j : Nat) (L : List (List Int)) (H : TaSt w0 B most next L w) (left right both : List Int) (a1 a2 a3 : Option Addr) (n1 c1 n2 c2 n3 c3 : Nat) (h1 : NewT w 0 a1 n1 c1 left) (h2 : NewT w 0 a2 n2 c2 right) (h3 : NewT w 0 a3 n3 c3 both)
    (hi : i ≤ n1) (hj : j ≤ n2) (h0 : 0 < i + j) (hij : i + j ≤ n3) (hn : n1 ≤ 50000 ∧ n2 ≤ 50000 ∧ n3 ≤ 100000) (hL : L.length ≤ 100000000) (r1 : ∀ x ∈ left, x.natAbs ≤ 100000000) (r2 : ∀ x ∈ right, x.natAbs ≤ 100000000) (r3 : ∀ x ∈ both, x.natAbs ≤ 100000000) :
    Calls Try.prog 38 #[.pointer (some ⟨B, 0, none⟩), .int .i64 i, .int .i64 j, .slice a1 n1 c1, .slice a2 n2 c2, .slice a3 n3 c3] w fun e w' => e = .returned (.tuple #[]) ∧ TaSt w0 B most next (L ++ [alC left right both i j]) w' ∧ TaGo B w w' := by
  obtain ⟨i0, hi0, hz0, hz1, hz2⟩ := info_parts info_int
  obtain ⟨j0, hj0, hy0, hy1, hy2⟩ := info_parts info_zsT
  have l1 := h1.sees.zlen
  have l2 := h2.sees.zlen
  have l3 := h3.sees.zlen
  have hbase := H.bel.size
  obtain ⟨g, o, rfl, _⟩ := h3.sees.addr (show 0 < n3 by omega)
  obtain ⟨ix, hix⟩ : ∃ x, x = i + j - 1 := ⟨_, rfl⟩
  have hc3 := h3.sees.z_at ix (by omega)
  obtain ⟨x, hx⟩ : ∃ x, x = both.getD ix 0 := ⟨_, rfl⟩
  have hxr : x.natAbs ≤ 100000000 := by rw [hx]; exact r3 _ (getD_memZ (by omega))
  rw [← hx] at hc3
  have HCL : Hid (alC left right both i j = [x] ++ (if 0 < i then [-(left.getD (i - 1) 0)] else []) ++ (if 0 < j then [-(right.getD (j - 1) 0)] else [])) := by
    show _ = _
    unfold alC
    rw [hx, hix]
  have HL1 := Lib.hid h1
  have HL2 := Lib.hid h2
  have HNN := Lib.hid hn
  have HSZ := Lib.hid hbase
  have HLL := Lib.hid hL
  have HRA := Lib.hid (And.intro r1 r2)
  have HST := Lib.hid H
  have HLN := Lib.hid (And.intro l1 l2)
  go_enter Try.func38, Try.ntmps38
  go_upto_region 0 with fail
  refine reg_al0 w w.heap.size i j (i + j) ix g o n3 c3 x hc3 rfl (by omega) (by omega) (by omega) (by omega) (by omega) (Nat.le_refl _) _ ?_
  intro rv W1 u13 u14 u15 u16 u17 u18 u19 u20 u21 u22 hrow hb
  have HR1 := Lib.hid hrow
  have HB1 := Lib.hid hb
  obtain ⟨x0, hx0⟩ : ∃ y : Int, y = x := ⟨_, rfl⟩
  rw [← hx0] at HR1 HCL
  have HIJ := Lib.hid (And.intro hi hj)
  clear h1 h2 h3 H hL hn r1 r2 r3 l1 l2 l3 hbase hc3 hx hxr hrow hb hix hi hj hij hx0 h0
  by_cases q1 : 0 < i
  · obtain ⟨b1, o1, rfl, _⟩ := HL1.out.sees.addr (show 0 < n1 by have := HIJ.out.1; omega)
    have hs := (HL1.out.below HB1.out).sees
    have hc := hs.z_at (i - 1) (by have := HIJ.out.1; omega)
    obtain ⟨y, hy⟩ : ∃ y, y = left.getD (i - 1) 0 := ⟨_, rfl⟩
    have hyr : y.natAbs ≤ 100000000 := by rw [hy]; exact HRA.out.1 _ (getD_memZ (by have := HIJ.out.1; have := HLN.out.1; omega))
    rw [← hy] at hc
    have WN := neg_small hyr
    obtain ⟨y1, hy1'⟩ : ∃ z, z = -y := ⟨_, rfl⟩
    rw [← hy1'] at WN
    have WN2 : wrap64 (-y) = y1 := by rw [hy1']; unfold wrap64; omega
    rw [if_pos q1, ← hy, ← hy1'] at HCL
    obtain ⟨ix1, hix1⟩ : ∃ z, z = i - 1 := ⟨_, rfl⟩
    rw [← hix1] at hc
    have wi : IntKind.i64.wrap ((i : Int) - 1) = (ix1 : Int) := by rw [show (i : Int) - 1 = (ix1 : Int) by omega]; exact IntWalk.i64_in _ (by have := HIJ.out.1; have := HNN.out; omega)
    have g2 : (ix1 : Int) < (n1 : Int) := by have := HIJ.out.1; omega
    have g0 : (0 : Int) ≤ (ix1 : Int) := by omega
    have d1 : decide (0 < i) = true := by simpa using q1
    have d1' : decide ((0 : Int) < (i : Int)) = true := by simpa using q1
    clear hy hyr hy1' q1 hs hix1
    go_wp2_with (at_builtin; refine wpList_append_row isZ _ rfl _ _ 22 rfl w.heap.size 3 i0 (.int .i64 0) 8 Try.underlying22 hi0 hz0 hz1 hz2 rfl isZ_zero rv 1 (zvs [x0]) rfl (HR1.out.below (ext_alloc _ _)) (some ⟨W1.heap.size, 0, none⟩) 1 1 (zvs [y1]) rfl (sees_one_z W1 y1) (zvs_one _) (isZ_zvs _) ?cA11 ?cA12 ?cA13 ?_)
    case cA11 => unfold maxLen; omega
    case cA12 => omega
    case cA13 => have := HB1.out.size; simp; omega
    intro rv2 W2 hr hg _
    have hb6 := ext_trans HB1.out (ext_alloc W1 (.cells #[.int .i64 y1] 3))
    have HB2 : Hid (Below w.heap.size w W2) := hb6.grown hg hb6.size (fun j hj => (HR1.out.own.lt j hj).1)
    have HR2 : Hid (Row isZ W2 w.heap.size 3 rv2 2 (zvs [x0, y1])) := hr
    clear hr hg hb6 HR1 HB1
    clear hc g0 g2 WN WN2 wi d1 d1'
    by_cases q2 : 0 < j
    · obtain ⟨b2, o2, rfl, _⟩ := HL2.out.sees.addr (show 0 < n2 by have := HIJ.out.2; omega)
      have hs := (HL2.out.below HB2.out).sees
      have hc := hs.z_at (j - 1) (by have := HIJ.out.2; omega)
      obtain ⟨y, hy⟩ : ∃ y, y = right.getD (j - 1) 0 := ⟨_, rfl⟩
      have hyr : y.natAbs ≤ 100000000 := by rw [hy]; exact HRA.out.2 _ (getD_memZ (by have := HIJ.out.2; have := HLN.out.2; omega))
      rw [← hy] at hc
      have WN := neg_small hyr
      obtain ⟨y2, hy2⟩ : ∃ z, z = -y := ⟨_, rfl⟩
      rw [← hy2] at WN
      have WN2 : wrap64 (-y) = y2 := by rw [hy2]; unfold wrap64; omega
      rw [if_pos q2, ← hy, ← hy2] at HCL
      obtain ⟨jx, hjx⟩ : ∃ z, z = j - 1 := ⟨_, rfl⟩
      rw [← hjx] at hc
      have wj : IntKind.i64.wrap ((j : Int) - 1) = (jx : Int) := by rw [show (j : Int) - 1 = (jx : Int) by omega]; exact IntWalk.i64_in _ (by have := HIJ.out.2; have := HNN.out; omega)
      have g2 : (jx : Int) < (n2 : Int) := by have := HIJ.out.2; omega
      have g0 : (0 : Int) ≤ (jx : Int) := by omega
      have d1 : decide (0 < j) = true := by simpa using q2
      have d1' : decide ((0 : Int) < (j : Int)) = true := by simpa using q2
      clear hy hyr hy2 q2 hs hjx
      go_wp2_with (at_builtin; refine wpList_append_row isZ _ rfl _ _ 22 rfl w.heap.size 3 i0 (.int .i64 0) 8 Try.underlying22 hi0 hz0 hz1 hz2 rfl isZ_zero rv2 2 (zvs [x0, y1]) rfl (HR2.out.below (ext_alloc _ _)) (some ⟨W2.heap.size, 0, none⟩) 1 1 (zvs [y2]) rfl (sees_one_z W2 y2) (zvs_one _) (isZ_zvs _) ?cB31 ?cB32 ?cB33 ?_)
      case cB31 => unfold maxLen; omega
      case cB32 => omega
      case cB33 => have := HB2.out.size; simp; omega
      intro rv3 W3 hr hg _
      have hb6 := ext_trans HB2.out (ext_alloc W2 (.cells #[.int .i64 y2] 3))
      have HB3 : Hid (Below w.heap.size w W3) := hb6.grown hg hb6.size (fun j hj => (HR2.out.own.lt j hj).1)
      have HR3 : Hid (Row isZ W3 w.heap.size 3 rv3 3 (zvs [x0, y1, y2])) := hr
      clear hr hg hb6 HR2 HB2
      clear hc g0 g2 WN WN2 wj d1 d1'
      obtain ⟨ra, rc, hrv⟩ := HR3.out.form
      subst hrv
      obtain ⟨la, ln, lc, lss, hln, hbox, HLs⟩ := (HST.out.below HB3.out).has
      have HROW := Lib.hid (HLs.row.below (ext_alloc W3 (.cells #[.slice ra 3 rc] 22)))
      have d5 : W3.cell? ⟨B, 2, none⟩ = some (.slice la ln lc) := cell_of_block hbox 2
      have HBX := Lib.hid hbox
      have HLX := Lib.hid HLs
      have hn1' : ln = lss.length := by rw [hln, ← HLs.len]
      have hl8 : lss.length ≤ 100000000 := by rw [HLs.len]; exact HLL.out
      subst hn1'
      clear hln hbox HLs
      go_wp2_with (at_builtin; refine wpList_append_row (fun _ => True) _ rfl _ _ 23 rfl w0.heap.size 22 j0 (.slice none 0 0) 24 Try.underlying23 hj0 hy0 hy1 hy2 rfl trivial (.slice la lss.length lc) lss.length (lss.map zsV) rfl HROW.out (some ⟨W3.heap.size, 0, none⟩) 1 1 [.slice ra 3 rc] rfl (sees_lit W3 _ _ _ _ 1 rfl rfl) (fun u hu => by simp at hu; subst hu; rfl) (fun _ _ => trivial) ?eF31 ?eF32 ?eF33 ?_)
      case eF31 => unfold maxLen; omega
      case eF32 => omega
      case eF33 => have := HB3.out.size; have := HSZ.out; simp; omega
      intro v' w9 hrow hg _
      obtain ⟨a9, c9, rfl⟩ := hrow.form
      have hm := TaSt.more (s := (ra, 3, rc)) (C := [x0, y1, y2]) HST.out.base HBX.out HLX.out (ext_alloc W3 (.cells #[.slice ra 3 rc] 22)) (.inr ((Row.base_le HR3.out HSZ.out).below (ext_alloc _ _))) hrow hg
      have hbox2 : w9.heap[B]? = some (.cells #[.int .i64 (most : Int), .int .i64 (next : Int), .slice la lss.length lc] 43 (0, 0)) := heap_grown (heap_below HBX.out (ext_alloc _ _)) hg (HROW.out.not_own (heap_below HBX.out (ext_alloc _ _)) (by decide))
      have d6 : w9.cell? ⟨B, 2, none⟩ = some (.slice la lss.length lc) := cell_of_block hbox2 2
      have f6 := unfrozen_of_block hbox2 2
      have HM := Lib.hid (And.intro hm.1 ((TaGo.below HB3.out).trans hm.2))
      clear hm hbox2 hrow hg d5 hl8
      go_wp2
      go_end0
      exact ⟨rfl, by rw [HCL.out]; exact HM.out.1, HM.out.2⟩
    · rw [if_neg q2, List.append_nil] at HCL
      have d1 : decide (0 < j) = false := by simpa using q2
      have d1' : decide ((0 : Int) < (j : Int)) = false := by simp; omega
      clear q2
      obtain ⟨ra, rc, hrv⟩ := HR2.out.form
      subst hrv
      obtain ⟨la, ln, lc, lss, hln, hbox, HLs⟩ := (HST.out.below HB2.out).has
      have HROW := Lib.hid (HLs.row.below (ext_alloc W2 (.cells #[.slice ra 2 rc] 22)))
      have d5 : W2.cell? ⟨B, 2, none⟩ = some (.slice la ln lc) := cell_of_block hbox 2
      have HBX := Lib.hid hbox
      have HLX := Lib.hid HLs
      have hn1' : ln = lss.length := by rw [hln, ← HLs.len]
      have hl8 : lss.length ≤ 100000000 := by rw [HLs.len]; exact HLL.out
      subst hn1'
      clear hln hbox HLs
      go_wp2_with (at_builtin; refine wpList_append_row (fun _ => True) _ rfl _ _ 23 rfl w0.heap.size 22 j0 (.slice none 0 0) 24 Try.underlying23 hj0 hy0 hy1 hy2 rfl trivial (.slice la lss.length lc) lss.length (lss.map zsV) rfl HROW.out (some ⟨W2.heap.size, 0, none⟩) 1 1 [.slice ra 2 rc] rfl (sees_lit W2 _ _ _ _ 1 rfl rfl) (fun u hu => by simp at hu; subst hu; rfl) (fun _ _ => trivial) ?eF41 ?eF42 ?eF43 ?_)
      case eF41 => unfold maxLen; omega
      case eF42 => omega
      case eF43 => have := HB2.out.size; have := HSZ.out; simp; omega
      intro v' w9 hrow hg _
      obtain ⟨a9, c9, rfl⟩ := hrow.form
      have hm := TaSt.more (s := (ra, 2, rc)) (C := [x0, y1]) HST.out.base HBX.out HLX.out (ext_alloc W2 (.cells #[.slice ra 2 rc] 22)) (.inr ((Row.base_le HR2.out HSZ.out).below (ext_alloc _ _))) hrow hg
      have hbox2 : w9.heap[B]? = some (.cells #[.int .i64 (most : Int), .int .i64 (next : Int), .slice la lss.length lc] 43 (0, 0)) := heap_grown (heap_below HBX.out (ext_alloc _ _)) hg (HROW.out.not_own (heap_below HBX.out (ext_alloc _ _)) (by decide))
      have d6 : w9.cell? ⟨B, 2, none⟩ = some (.slice la lss.length lc) := cell_of_block hbox2 2
      have f6 := unfrozen_of_block hbox2 2
      have HM := Lib.hid (And.intro hm.1 ((TaGo.below HB2.out).trans hm.2))
      clear hm hbox2 hrow hg d5 hl8
      go_wp2
      go_end0
      exact ⟨rfl, by rw [HCL.out]; exact HM.out.1, HM.out.2⟩
  · rw [if_neg q1, List.append_nil] at HCL
    have d1 : decide (0 < i) = false := by simpa using q1
    have d1' : decide ((0 : Int) < (i : Int)) = false := by simp; omega
    clear q1
    by_cases q2 : 0 < j
    · obtain ⟨b2, o2, rfl, _⟩ := HL2.out.sees.addr (show 0 < n2 by have := HIJ.out.2; omega)
      have hs := (HL2.out.below HB1.out).sees
      have hc := hs.z_at (j - 1) (by have := HIJ.out.2; omega)
      obtain ⟨y, hy⟩ : ∃ y, y = right.getD (j - 1) 0 := ⟨_, rfl⟩
      have hyr : y.natAbs ≤ 100000000 := by rw [hy]; exact HRA.out.2 _ (getD_memZ (by have := HIJ.out.2; have := HLN.out.2; omega))
      rw [← hy] at hc
      have WN := neg_small hyr
      obtain ⟨y2, hy2⟩ : ∃ z, z = -y := ⟨_, rfl⟩
      rw [← hy2] at WN
      have WN2 : wrap64 (-y) = y2 := by rw [hy2]; unfold wrap64; omega
      rw [if_pos q2, ← hy, ← hy2] at HCL
      obtain ⟨jx, hjx⟩ : ∃ z, z = j - 1 := ⟨_, rfl⟩
      rw [← hjx] at hc
      have wj : IntKind.i64.wrap ((j : Int) - 1) = (jx : Int) := by rw [show (j : Int) - 1 = (jx : Int) by omega]; exact IntWalk.i64_in _ (by have := HIJ.out.2; have := HNN.out; omega)
      have g2 : (jx : Int) < (n2 : Int) := by have := HIJ.out.2; omega
      have g0 : (0 : Int) ≤ (jx : Int) := by omega
      have d1 : decide (0 < j) = true := by simpa using q2
      have d1' : decide ((0 : Int) < (j : Int)) = true := by simpa using q2
      clear hy hyr hy2 q2 hs hjx
      go_wp2_with (at_builtin; refine wpList_append_row isZ _ rfl _ _ 22 rfl w.heap.size 3 i0 (.int .i64 0) 8 Try.underlying22 hi0 hz0 hz1 hz2 rfl isZ_zero rv 1 (zvs [x0]) rfl (HR1.out.below (ext_alloc _ _)) (some ⟨W1.heap.size, 0, none⟩) 1 1 (zvs [y2]) rfl (sees_one_z W1 y2) (zvs_one _) (isZ_zvs _) ?cB51 ?cB52 ?cB53 ?_)
      case cB51 => unfold maxLen; omega
      case cB52 => omega
      case cB53 => have := HB1.out.size; simp; omega
      intro rv5 W5 hr hg _
      have hb6 := ext_trans HB1.out (ext_alloc W1 (.cells #[.int .i64 y2] 3))
      have HB5 : Hid (Below w.heap.size w W5) := hb6.grown hg hb6.size (fun j hj => (HR1.out.own.lt j hj).1)
      have HR5 : Hid (Row isZ W5 w.heap.size 3 rv5 2 (zvs [x0, y2])) := hr
      clear hr hg hb6 HR1 HB1
      clear hc g0 g2 WN WN2 wj d1 d1'
      obtain ⟨ra, rc, hrv⟩ := HR5.out.form
      subst hrv
      obtain ⟨la, ln, lc, lss, hln, hbox, HLs⟩ := (HST.out.below HB5.out).has
      have HROW := Lib.hid (HLs.row.below (ext_alloc W5 (.cells #[.slice ra 2 rc] 22)))
      have d5 : W5.cell? ⟨B, 2, none⟩ = some (.slice la ln lc) := cell_of_block hbox 2
      have HBX := Lib.hid hbox
      have HLX := Lib.hid HLs
      have hn1' : ln = lss.length := by rw [hln, ← HLs.len]
      have hl8 : lss.length ≤ 100000000 := by rw [HLs.len]; exact HLL.out
      subst hn1'
      clear hln hbox HLs
      go_wp2_with (at_builtin; refine wpList_append_row (fun _ => True) _ rfl _ _ 23 rfl w0.heap.size 22 j0 (.slice none 0 0) 24 Try.underlying23 hj0 hy0 hy1 hy2 rfl trivial (.slice la lss.length lc) lss.length (lss.map zsV) rfl HROW.out (some ⟨W5.heap.size, 0, none⟩) 1 1 [.slice ra 2 rc] rfl (sees_lit W5 _ _ _ _ 1 rfl rfl) (fun u hu => by simp at hu; subst hu; rfl) (fun _ _ => trivial) ?eF51 ?eF52 ?eF53 ?_)
      case eF51 => unfold maxLen; omega
      case eF52 => omega
      case eF53 => have := HB5.out.size; have := HSZ.out; simp; omega
      intro v' w9 hrow hg _
      obtain ⟨a9, c9, rfl⟩ := hrow.form
      have hm := TaSt.more (s := (ra, 2, rc)) (C := [x0, y2]) HST.out.base HBX.out HLX.out (ext_alloc W5 (.cells #[.slice ra 2 rc] 22)) (.inr ((Row.base_le HR5.out HSZ.out).below (ext_alloc _ _))) hrow hg
      have hbox2 : w9.heap[B]? = some (.cells #[.int .i64 (most : Int), .int .i64 (next : Int), .slice la lss.length lc] 43 (0, 0)) := heap_grown (heap_below HBX.out (ext_alloc _ _)) hg (HROW.out.not_own (heap_below HBX.out (ext_alloc _ _)) (by decide))
      have d6 : w9.cell? ⟨B, 2, none⟩ = some (.slice la lss.length lc) := cell_of_block hbox2 2
      have f6 := unfrozen_of_block hbox2 2
      have HM := Lib.hid (And.intro hm.1 ((TaGo.below HB5.out).trans hm.2))
      clear hm hbox2 hrow hg d5 hl8
      go_wp2
      go_end0
      exact ⟨rfl, by rw [HCL.out]; exact HM.out.1, HM.out.2⟩
    · rw [if_neg q2, List.append_nil] at HCL
      have d1 : decide (0 < j) = false := by simpa using q2
      have d1' : decide ((0 : Int) < (j : Int)) = false := by simp; omega
      clear q2
      obtain ⟨ra, rc, hrv⟩ := HR1.out.form
      subst hrv
      obtain ⟨la, ln, lc, lss, hln, hbox, HLs⟩ := (HST.out.below HB1.out).has
      have HROW := Lib.hid (HLs.row.below (ext_alloc W1 (.cells #[.slice ra 1 rc] 22)))
      have d5 : W1.cell? ⟨B, 2, none⟩ = some (.slice la ln lc) := cell_of_block hbox 2
      have HBX := Lib.hid hbox
      have HLX := Lib.hid HLs
      have hn1' : ln = lss.length := by rw [hln, ← HLs.len]
      have hl8 : lss.length ≤ 100000000 := by rw [HLs.len]; exact HLL.out
      subst hn1'
      clear hln hbox HLs
      go_wp2_with (at_builtin; refine wpList_append_row (fun _ => True) _ rfl _ _ 23 rfl w0.heap.size 22 j0 (.slice none 0 0) 24 Try.underlying23 hj0 hy0 hy1 hy2 rfl trivial (.slice la lss.length lc) lss.length (lss.map zsV) rfl HROW.out (some ⟨W1.heap.size, 0, none⟩) 1 1 [.slice ra 1 rc] rfl (sees_lit W1 _ _ _ _ 1 rfl rfl) (fun u hu => by simp at hu; subst hu; rfl) (fun _ _ => trivial) ?eF61 ?eF62 ?eF63 ?_)
      case eF61 => unfold maxLen; omega
      case eF62 => omega
      case eF63 => have := HB1.out.size; have := HSZ.out; simp; omega
      intro v' w9 hrow hg _
      obtain ⟨a9, c9, rfl⟩ := hrow.form
      have hm := TaSt.more (s := (ra, 1, rc)) (C := [x0]) HST.out.base HBX.out HLX.out (ext_alloc W1 (.cells #[.slice ra 1 rc] 22)) (.inr ((Row.base_le HR1.out HSZ.out).below (ext_alloc _ _))) hrow hg
      have hbox2 : w9.heap[B]? = some (.cells #[.int .i64 (most : Int), .int .i64 (next : Int), .slice la lss.length lc] 43 (0, 0)) := heap_grown (heap_below HBX.out (ext_alloc _ _)) hg (HROW.out.not_own (heap_below HBX.out (ext_alloc _ _)) (by decide))
      have d6 : w9.cell? ⟨B, 2, none⟩ = some (.slice la lss.length lc) := cell_of_block hbox2 2
      have f6 := unfrozen_of_block hbox2 2
      have HM := Lib.hid (And.intro hm.1 ((TaGo.below HB1.out).trans hm.2))
      clear hm hbox2 hrow hg d5 hl8
      go_wp2
      go_end0
      exact ⟨rfl, by rw [HCL.out]; exact HM.out.1, HM.out.2⟩
end Go.Proofs.Ytionibckeicncaa
