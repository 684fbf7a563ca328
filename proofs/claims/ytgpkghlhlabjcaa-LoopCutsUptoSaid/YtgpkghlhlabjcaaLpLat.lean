/- loop.latches, by its contract. -/
import Derived.Test.YtgpkghlhlabjcaaLib
import Derived.Test.YtgpkghlhlabjcaaOwn
import Derived.Test.YtgpkghlhlabjcaaNBase
import Derived.Test.YtgpkghlhlabjcaaNStep
import Derived.Test.YtgpkghlhlabjcaaNVal
import Derived.Test.YtgpkghlhlabjcaaNTrace
import Derived.Test.YtgpkghlhlabjcaaNHeap
import Derived.Test.YtgpkghlhlabjcaaNHeap2
import Derived.Test.YtgpkghlhlabjcaaFCells
import Derived.Test.YtgpkghlhlabjcaaNClone2
import Derived.Test.YtgpkghlhlabjcaaNCopyTr
import Derived.Test.YtgpkghlhlabjcaaNOwnLL
import Derived.Test.YtgpkghlhlabjcaaRows
import Derived.Test.YtgpkghlhlabjcaaShelf
import Derived.BigQuiet
import Derived.Deep.AppendLies
import Derived.Deep.CutRange
import Derived.Deep.QuietTactic
import Derived.Deep.RegionHeld3
import Derived.Deep.RegionLaw
import Derived.Deep.RegionWith
import Derived.KernelRfl
import Derived.Laws.Bits64b
import Derived.Laws.BitsAllLaws
import Derived.Laws.BitsLemmas
import Derived.Laws.EntriesVeiled
import Derived.Laws.Tables
import Derived.Lib.AppendStr
import Derived.Lib.AppendZeros
import Derived.Lib.ConvBytes
import Derived.Lib.Hide
import Derived.Lib.SlBytesRow
import Derived.Lib.SmallJoins
import Derived.LoopIn
import Derived.LoopNIn
import Derived.Maps.AppendAt
import Derived.Maps.Own
import Derived.Maps.OwnOps
import Derived.Maps.OwnSet
import Derived.OrdersHeld
import Derived.OrdersIn
import Derived.OwnWalkIn
import Derived.RangeFuncBox
import Derived.RangeFuncCalls
import Derived.RangeFuncLeaves
import Derived.RangeFuncNested
import Derived.RangeFuncWrites
import Derived.Shelf.Abstract
import Derived.Shelf.Bytes.SlSmallAll
import Derived.Shelf.RegionOpen
import Derived.Sort.CutIn
import Derived.Stop.RegionWithIn
import Derived.TacticsInMore
import Derived.WalkKit
import Derived.WalkLawsBesides
import Derived.WalkSpells
namespace Go.Proofs.Ytgpkghlhlabjcaa
open Go Go.RowKit Go.Joins

theorem size_b8 : ∀ w, (sizeOf 5).run Try.prog w = .ok 1 w := fun w => by
  obtain ⟨i0, hi, hz0, hz1, hz2⟩ := info_parts info_byte
  simp [sizeOf, typeInfo, hi, hz1]
theorem CtInv.own {w1 w : World} {F n : Nat} {fs : List (List UInt8)} {ss : List Slc} (h : CtInv w1 F n fs n ss w) (hl : fs.length = n) (hn : n ≤ 1048576) (B : Nat) (hB : B ≤ F) (hB1 : B ≤ w1.heap.size) : OwnLL w B (some ⟨F, 0, none⟩) n n ss fs := by
  refine ⟨hl, h.len, ⟨by simp [h.len], .inr ⟨F, n, _, rfl, hB, h.blk, Nat.le_refl _, by unfold maxLen; omega, by rw [fcells_size, Nat.mul_one], ?_⟩⟩, fun j hj => (h.rows j hj).base_le hB1⟩
  apply List.ext_getElem?
  intro i
  by_cases hi : i < n
  · have : i < ss.length := by rw [h.len]; exact hi
    simp [fcells, hi, List.getD, List.getElem?_eq_getElem this]
  · have : ss.length ≤ i := by rw [h.len]; omega
    simp [fcells, hi, List.getElem?_eq_none this]

/-- The latches' part of each frame's values. -/
def latL (ins n : Nat) (FL : List (List UInt8)) : List (List UInt8) := FL.map fun vs => (vs.drop (1 + ins)).take n
theorem latL_at (ins n : Nat) (FL : List (List UInt8)) {k : Nat} (h : k < FL.length) : (latL ins n FL).getD k [] = ((FL.getD k []).drop (1 + ins)).take n := by simp [latL, List.getD, h]

set_option maxRecDepth 100000 in
set_option maxHeartbeats 3200000 in
theorem latches_any (ins : Nat) (s : CSlots) (FL : List (List UInt8)) (ss : List Slc) (a : Option Addr) (n c : Nat) (w : World) (h : SeesF w a n c ss FL) (hn : n ≤ 1048576) (hlen : ∀ k, k < n → 1 + ins + s.n1 ≤ (FL.getD k []).length) (hsl : ∀ k, k < n → (FL.getD k []).length ≤ 1048576) (hin : 1 + ins + s.n1 ≤ 1048576) :
    Calls Try.prog 32 #[cirV (ins : Int) s, .slice a n c] w fun e w' => ∃ (a2 : Option Addr) (c2 : Nat) (ss2 : List Slc), e = .returned (.slice a2 n c2) ∧ OwnLL w' w.heap.size a2 n c2 ss2 (latL ins s.n1 FL) ∧ Below w.heap.size w w' := by
  obtain ⟨i0, hi, hz0, hz1, hz2⟩ := info_parts info_u8s
  have H := Lib.hid h
  have HL := Lib.hid h.n_eq
  have HLN := Lib.hid hlen
  have HSL := Lib.hid hsl
  have mk := fun W => run_make_n (P := Try.prog) Try.underlying28 hi hz0 hz1 hz2 rfl n (by omega) (by omega) W
  rw [fcells_zero] at mk
  obtain ⟨T, hT⟩ : ∃ T, T = latL ins s.n1 FL := ⟨_, rfl⟩
  have HT : Hid (∀ k, k < n → T.getD k [] = ((FL.getD k []).drop (1 + ins)).take s.n1) := fun k hk => by rw [hT]; exact latL_at _ _ _ (by rw [HL.out]; exact hk)
  have HTL : Hid (T.length = n) := by unfold Hid; rw [hT]; simpa [latL] using HL.out
  rw [← hT]
  obtain ⟨f1, hf1⟩ : ∃ f1, f1 = 1 + ins := ⟨_, rfl⟩
  obtain ⟨m1, hm1⟩ : ∃ m1, m1 = 1 + ins + s.n1 := ⟨_, rfl⟩
  have Wf : IntKind.i64.wrap (1 + (ins : Int)) = (f1 : Int) := by rw [hf1]; rw [IntWalk.i64_in _ (by omega)]; omega
  have Wm : IntKind.i64.wrap ((f1 : Int) + (s.n1 : Int)) = (m1 : Int) := by rw [hf1, hm1]; rw [IntWalk.i64_in _ (by omega)]; omega
  have HF1 := Lib.hid hf1
  have HM1 := Lib.hid hm1
  clear h hlen hsl hT hf1 hm1
  unfold cirV
  go_enter Try.func32, Try.ntmps32
  go_wp2_with fail
  generalize hW : World.alloc (World.alloc w _) _ = W1
  have B1 : Below w.heap.size w W1 := by subst hW; exact ext_trans (ext_alloc _ _) (ext_alloc _ _)
  have hX : W1.heap[w.heap.size]? = some (.cells #[.int .i64 (ins : Int), .slice s.a1 s.n1 s.c1, .slice s.a2 s.n2 s.c2, .slice s.a3 s.n3 s.c3, .slice s.a4 s.n4 s.c4, .slice s.a5 s.n5 s.c5] 26 (0, 0)) := by
    subst hW; exact heap_below (heap_new _ _ _ rfl) (ext_alloc _ _)
  have hF : W1.heap[w.heap.size + 1]? = some (.cells (fcells n (fun _ => .slice none 0 0)) 27 (0, 0)) := by
    subst hW; exact heap_new _ _ _ (by simp)
  clear hW mk
  have hFlt := heap_lt hF
  obtain ⟨F, hFF⟩ : ∃ F, F = w.heap.size + 1 := ⟨_, rfl⟩
  rw [← hFF] at hF hFlt ⊢
  have hF1 : w.heap.size < F := by omega
  have HI : Hid (CtInv W1 F n T 0 [] W1) := by
    refine ⟨rfl, ?_, fun j hj => absurd hj (by omega), But2.refl _ _ _ _⟩
    rw [hF]
    congr 2
  have HX := Lib.hid hX
  have HB := Lib.hid B1
  clear hX hF B1 hFF
  go_loopw [17, 7, 8] (fun i _ _ wr => ∃ (k : Nat) (ss' : List Slc), k ≤ n ∧ i = .int .i64 k ∧ Hid (CtInv W1 F n T k ss' wr))
    (fun i _ _ _ => n - (intOf i).toNat)
  case atStart => exact ⟨0, [], Nat.zero_le _, rfl, HI.out⟩
  case round =>
    clear HI
    obtain ⟨k, ss', hk, rfl, hI⟩ := hrel
    have hbw : Below w.heap.size w wr := HB.out.trans (hI.out.but.low (by omega) (by omega) (by omega))
    by_cases hlt : k < n
    · obtain ⟨b, off, rfl, _⟩ := H.out.row.addr (show 0 < n by omega)
      have hcx := (H.out.below hbw).cellAt k hlt
      have hsee := (H.out.below hbw).each k (by rw [HL.out]; exact hlt)
      have hle := HLN.out k hlt
      have hsl := HSL.out k hlt
      have hTk := HT.out k hlt
      obtain ⟨fr, hfr⟩ : ∃ fr, fr = FL.getD k [] := ⟨_, rfl⟩
      obtain ⟨sk, hsk⟩ : ∃ sk, sk = ss.getD k slc0 := ⟨_, rfl⟩
      rw [← hsk] at hcx hsee
      rw [← hfr] at hsee hle hsl hTk
      obtain ⟨ak, nk, ck⟩ := sk
      simp only at hcx hsee
      have hnk : fr.length = nk := hsee.lenMap
      have hnc : nk ≤ ck := hsee.cap
      obtain ⟨ac, ec, sc⟩ := hsee.cut f1 m1 (by rw [HF1.out, HM1.out]; omega) (by rw [HM1.out, ← hnk]; exact hle)
      have q1 := fun W => (run_part (P := Try.prog) Try.underlying27 size_b8 W ak nk ck f1 m1 (f1 : Int) (m1 : Int) rfl rfl (by rw [HF1.out, HM1.out]; omega) (by rw [HM1.out]; omega)).trans (congrArg (fun v => Result.ok v W) ec)
      have em : m1 - f1 = s.n1 := by rw [HF1.out, HM1.out]; omega
      have et : ((fr.map bv).take m1).drop f1 = (T.getD k []).map bv := by
        rw [hTk, List.drop_take, em, HF1.out, ← List.map_drop, ← List.map_take]
      rw [em] at q1 sc
      rw [et] at sc
      have hcl := clone_u8 (T.getD k []) ac s.n1 (ck - f1) wr sc (by omega)
      have htl : (T.getD k []).length = s.n1 := sc.lenMap
      have HCL := Lib.hid hcl
      have HTLK := Lib.hid htl
      have W1' : IntKind.i64.wrap ((k : Int) + 1) = (k : Int) + 1 := IntWalk.i64_in _ (by omega)
      have hXr := hI.out.but.at HX.out (by omega) (by omega) (by omega)
      have p0 := cell_of_block hXr 1
      clear hsk hsee hbw hnk hfr hle hsl hTk ec sc em et hcl htl hnc hXr
      go_wp2_with fail
      refine HCL.out.mono ?_
      rintro e s1 ⟨v, rfl, hrow, b1⟩
      obtain ⟨ev, fv, rfl⟩ := hrow.form
      have hcF := (cell_of_block (heap_below hI.out.blk b1) k).trans (fcells_get _ _ _ hlt)
      have hfF := unfrozen_of_block (heap_below hI.out.blk b1) k
      have hnil : ss'.getD k slc0 = slc0 := by simp [List.getD, List.getElem?_eq_none (show ss'.length ≤ k by rw [hI.out.len]; exact Nat.le_refl _)]
      rw [hnil] at hcF
      have hcF2 : s1.cell? ⟨F, k, none⟩ = some (.slice none 0 0) := hcF
      have HI2 := Lib.hid (hI.out.step (s := (ev, s.n1, fv)) hFlt b1 (by rw [HTLK.out]; exact hrow))
      clear hI hrow b1 hcF hnil p0
      simp only [slV] at HI2
      go_wp2
      go_roundw
      case rel => exact ⟨k + 1, _, by omega, by go_num, HI2.out⟩
      case measure => simp [intOf]; omega
    · obtain rfl : k = n := by omega
      have HO := Lib.hid (hI.out.own HTL.out hn w.heap.size (by omega) (by omega))
      have HBW := Lib.hid hbw
      clear hI hbw
      go_wp2
      go_ret
      exact ⟨_, _, ss', rfl, HO.out, HBW.out⟩
end Go.Proofs.Ytgpkghlhlabjcaa
