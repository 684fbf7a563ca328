/- enc.Relaxed's closure, by its contract. -/
import Derived.Test.YtcoehbkjccfhlaaLib
import Derived.Test.YtcoehbkjccfhlaaOwn
import Derived.Test.YtcoehbkjccfhlaaNBase
import Derived.Test.YtcoehbkjccfhlaaCuInts
import Derived.Test.YtcoehbkjccfhlaaCuLists
import Derived.Test.YtcoehbkjccfhlaaEnPure
import Derived.Test.YtcoehbkjccfhlaaEnSt
import Derived.Test.YtcoehbkjccfhlaaRows
import Derived.BigQuiet
import Derived.Deep.AppendLies
import Derived.Deep.CutRange
import Derived.Deep.QuietTactic
import Derived.Deep.RegionHeld3
import Derived.Deep.RegionLaw
import Derived.Deep.RegionWith
import Derived.KernelRfl
import Derived.Laws.EntriesVeiled
import Derived.Laws.Tables
import Derived.Lib.ConvBytes
import Derived.Lib.Hide
import Derived.Lib.SlBytesRow
import Derived.Lib.SmallJoins
import Derived.Maps.AppendAt
import Derived.Shelf.Bytes.SlSmallAll
import Derived.WalkKit
import Derived.WalkLawsBesides
import Derived.WalkSpells
namespace Go.Proofs.Ytcoehbkjccfhlaa
open Go Go.RowKit Go.Joins

set_option maxRecDepth 100000 in
set_option maxHeartbeats 3200000 in
theorem rel_any14 (g : Int) (C : List Int) (b off n : Nat) (w0 w : World) (B F first : Nat) (L : List (List Int)) (H : EnSt w0 B L w) (hL : L.length ≤ 100000000) (hC : OneZ w0 w (some ⟨b, off, none⟩, n, n) C)
    (hF : w.heap[F]? = some (.cells #[.int .i64 (first : Int)] 3 (0, 0))) (hf : first ≤ 100000000) (hg : -1 ≤ g ∧ g ≤ 100000000) (hn : n ≤ 1000) :
    Calls Try.prog 42 #[.int .i64 g, .slice (some ⟨b, off, none⟩) n n, .pointer (some ⟨F, 0, none⟩), .pointer (some ⟨B, 0, none⟩)] w fun e w' => e = .returned (.tuple #[]) ∧ EnSt w0 B (L ++ [withE first (g, C)]) w' ∧ EnGo B w w' := by
  obtain ⟨i0, hi, hz0, hz1, hz2⟩ := info_parts info_zs
  obtain ⟨j0, hj, hy0, hy1, hy2⟩ := info_parts info_int
  have hBel := H.bel
  have hsz := hBel.size
  have hsee := hC.sees hBel
  have hcl := hsee.zlen
  obtain ⟨hB, a', n', c', ss, hn', hbox, HL⟩ := H
  have hlen := HL.len
  have cF : w.cell? ⟨F, 0, none⟩ = some (.int .i64 (first : Int)) := cell_of_block hF 0
  by_cases e : g = -1
  · subst e
    have HROW := Lib.hid (HL.row.below (ext_alloc w (.cells #[.slice (some ⟨b, off, none⟩) n n] 45)))
    have cz : w.cell? ⟨B, 0, none⟩ = some (.slice a' n' c') := cell_of_block hbox 0
    have HBX := Lib.hid hbox
    have HNN := Lib.hid hn'
    have HLEN := Lib.hid hlen
    have HLL := Lib.hid HL
    have HCC := Lib.hid hC
    have hs8 : ss.length ≤ 100000000 := by omega
    have HE : Hid (withE first (-1, C) = C) := by show _ = _; simp [withE]
    clear hbox hn' hlen HL hC hL hsee hcl hg hBel hF
    go_enter Try.func42, Try.ntmps42
    go_wp2_with (at_builtin; refine wpList_append_row (fun _ => True) _ rfl _ _ 39 rfl w0.heap.size 45 i0 (.slice none 0 0) 24 Try.underlying39 hi hz0 hz1 hz2 rfl trivial (.slice a' n' c') ss.length (ss.map zsV) rfl HROW.out (some ⟨w.heap.size, 0, none⟩) 1 1 [.slice (some ⟨b, off, none⟩) n n] rfl (sees_lit w _ _ _ _ 1 rfl rfl) (by intro u hu; simp at hu; subst hu; rfl) (fun _ _ => trivial) ?c1 ?c2 ?c3 ?_)
    case c1 => unfold maxLen; omega
    case c2 => omega
    case c3 => simp; omega
    intro v' w2 hrow hg _
    obtain ⟨a2, c2, rfl⟩ := hrow.form
    have hm := EnSt.more (s := (some ⟨b, off, none⟩, n, n)) (C := C) hB HBX.out HLL.out (ext_alloc w (.cells #[.slice (some ⟨b, off, none⟩) n n] 45)) (HCC.out.imp id (fun hr => hr.below (ext_alloc _ _))) hrow hg
    have hbox2 : w2.heap[B]? = some (.cells #[.slice a' n' c'] 39 (0, 0)) := heap_grown (heap_below HBX.out (ext_alloc _ _)) hg (HROW.out.not_own (heap_below HBX.out (ext_alloc _ _)) (by decide))
    have d5 : w2.cell? ⟨B, 0, none⟩ = some (.slice a' n' c') := cell_of_block hbox2 0
    have f5 := unfrozen_of_block hbox2 0
    have HM := Lib.hid hm
    clear hm hbox2 hrow hg cz
    go_wp2
    go_end0
    exact ⟨rfl, by rw [HE.out]; exact HM.out⟩
  · have e1 : (g == (-1 : Int)) = false := by simpa using e
    have e2 : (g != (-1 : Int)) = true := by simp [bne, e1]
    have HE : Hid (withE first (g, C) = C ++ [(first : Int) + g]) := by show _ = _; simp [withE, e]
    obtain ⟨y, hy⟩ : ∃ y, y = (first : Int) + g := ⟨_, rfl⟩
    rw [← hy] at HE
    have W1 : IntKind.i64.wrap ((first : Int) + g) = y := by rw [hy]; exact IntWalk.i64_in _ (by omega)
    have HS : Hid (Sees (w.alloc (.cells #[.int .i64 y] 3)) (some ⟨b, off, none⟩) n n (zvs C)) := hsee.below (ext_alloc w (.cells #[.int .i64 y] 3))
    have HBX := Lib.hid hbox
    have HNN := Lib.hid hn'
    have HLEN := Lib.hid hlen
    have HLL := Lib.hid HL
    have HCN : Hid (n = C.length) := hcl.symm
    have hs8 : ss.length ≤ 100000000 := by omega
    have hbw : w0.heap.size ≤ (w.alloc (.cells #[.int .i64 y] 3)).heap.size := by simp; omega
    have HBW := Lib.hid hbw
    have HNEW : Hid ((w.alloc (.cells #[.int .i64 y] 3)).cell? ⟨w.heap.size, 0, none⟩ = some (.int .i64 y)) := cell_of_block (heap_new _ _ _ rfl) 0
    clear hbox hn' hlen HL hC hL hsee hcl hg hBel e hy hbw hF
    go_enter Try.func42, Try.ntmps42
    go_wp2_with (at_builtin; refine wpList_append_full14 rfl _ _ 45 rfl 3 j0 (.int .i64 0) Try.underlying45 hj hy0 hy1 hy2 rfl ⟨0, rfl⟩ b off n C HCN.out (by rfl) HS.out hn w.heap.size y (by rfl) HNEW.out w0.heap.size HBW.out ?_)
    intro a3 m3 c3 w3 hm3 hr3 hb3
    have HB3 := Lib.hid (ext_trans (ext_alloc w (.cells #[.int .i64 y] 3)) (by simpa using hb3))
    have HR3 := Lib.hid hr3
    have HM3 := Lib.hid hm3
    clear hm3 hr3 hb3 HS cF
    have HROW := Lib.hid ((HLL.out.row.below HB3.out).below (ext_alloc w3 (.cells #[.slice a3 m3 c3] 45)))
    have cz : w3.cell? ⟨B, 0, none⟩ = some (.slice a' n' c') := cell_of_block (heap_below HBX.out HB3.out) 0
    have hsz3 := HB3.out.size
    go_wp2_with (at_builtin; refine wpList_append_row (fun _ => True) _ rfl _ _ 39 rfl w0.heap.size 45 i0 (.slice none 0 0) 24 Try.underlying39 hi hz0 hz1 hz2 rfl trivial (.slice a' n' c') ss.length (ss.map zsV) rfl HROW.out (some ⟨w3.heap.size, 0, none⟩) 1 1 [.slice a3 m3 c3] rfl (sees_lit w3 _ _ _ _ 1 rfl rfl) (by intro u hu; simp at hu; subst hu; rfl) (fun _ _ => trivial) ?d1 ?d2 ?d3 ?_)
    case d1 => unfold maxLen; omega
    case d2 => omega
    case d3 => simp; omega
    intro v' w2 hrow hg _
    obtain ⟨a2, c2, rfl⟩ := hrow.form
    have hrr : Row isZ w3 w0.heap.size 3 (.slice a3 m3 c3) (C ++ [y]).length (zvs (C ++ [y])) := by rw [show (C ++ [y]).length = m3 by rw [HM3.out]; simp]; exact HR3.out
    have hm := EnSt.more (s := (a3, m3, c3)) (C := C ++ [y]) hB HBX.out HLL.out (ext_trans HB3.out (ext_alloc w3 (.cells #[.slice a3 m3 c3] 45))) (Or.inr (hrr.below (ext_alloc _ _))) hrow hg
    have hbox2 : w2.heap[B]? = some (.cells #[.slice a' n' c'] 39 (0, 0)) := heap_grown (heap_below (heap_below HBX.out HB3.out) (ext_alloc _ _)) hg (HROW.out.not_own (heap_below (heap_below HBX.out HB3.out) (ext_alloc _ _)) (by decide))
    have d5 : w2.cell? ⟨B, 0, none⟩ = some (.slice a' n' c') := cell_of_block hbox2 0
    have f5 := unfrozen_of_block hbox2 0
    have HM := Lib.hid hm
    clear hm hbox2 hrow hg cz hrr
    go_wp2
    go_end0
    exact ⟨rfl, by rw [HE.out]; exact HM.out⟩
end Go.Proofs.Ytcoehbkjccfhlaa
