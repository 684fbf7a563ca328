/- A trace whose X are bits, on plain lists. -/
import Derived.Test.YtjmdgbdlhaaefaaLib
import Derived.Test.YtjmdgbdlhaaefaaOwn
import Derived.Test.YtjmdgbdlhaaefaaOwnStr
import Derived.Test.YtjmdgbdlhaaefaaNBase
import Derived.Test.YtjmdgbdlhaaefaaRawPred
import Derived.Test.YtjmdgbdlhaaefaaRawMay
import Derived.Test.YtjmdgbdlhaaefaaNStep
import Derived.Test.YtjmdgbdlhaaefaaNTrace
import Derived.Test.YtjmdgbdlhaaefaaFCells
import Derived.Test.YtjmdgbdlhaaefaaNClone2
import Derived.Test.YtjmdgbdlhaaefaaNCopyTr
import Derived.Test.YtjmdgbdlhaaefaaRows
import Derived.BigQuiet
import Derived.Deep.AppendLies
import Derived.Deep.QuietTactic
import Derived.Deep.RegionHeld3
import Derived.Deep.RegionLaw
import Derived.Deep.RegionWith
import Derived.KernelRfl
import Derived.Laws.EntriesVeiled
import Derived.Laws.Tables
import Derived.Lib.AppendStr
import Derived.Lib.ConvBytes
import Derived.Lib.Hide
import Derived.Lib.SlBytesRow
import Derived.Lib.SmallJoins
import Derived.Maps.AppendAt
import Derived.Shelf.Bytes.SlSmallAll
import Derived.WalkKit
import Derived.WalkLawsBesides
import Derived.WalkSpells
import Derived.Test.YtjmdgbdlhaaefaaNHeap
import Derived.Test.YtjmdgbdlhaaefaaNHeap2
import Derived.Lib.AppendZeros
import Derived.Test.YtjmdgbdlhaaefaaNVal
import Derived.Deep.CutRange
import Derived.Test.YtjmdgbdlhaaefaaNSpec
import Derived.Test.YtjmdgbdlhaaefaaNCirc
import Derived.Test.YtjmdgbdlhaaefaaNOwns
import Derived.Test.YtjmdgbdlhaaefaaNFits
import Derived.Test.YtjmdgbdlhaaefaaTBits
import Derived.Test.YtjmdgbdlhaaefaaSSpec
import Derived.Test.YtjmdgbdlhaaefaaSVal
import Derived.Test.YtjmdgbdlhaaefaaSRun
import Derived.Test.YtjmdgbdlhaaefaaSVerd
import Derived.Test.YtjmdgbdlhaaefaaSSurely
import Derived.Test.YtjmdgbdlhaaefaaShelf
import Derived.Laws.Bits64b
import Derived.Laws.BitsAllLaws
import Derived.Laws.BitsLemmas
import Derived.LoopIn
import Derived.LoopNIn
import Derived.OrdersHeld
import Derived.OrdersIn
import Derived.OwnWalkIn
import Derived.RangeFuncBox
import Derived.RangeFuncCalls
import Derived.RangeFuncLeaves
import Derived.RangeFuncNested
import Derived.RangeFuncWrites
import Derived.Shelf.Abstract
import Derived.Shelf.RegionOpen
import Derived.Sort.CutIn
import Derived.Stop.RegionWithIn
import Derived.TacticsInMore
import Derived.Test.YtjmdgbdlhaaefaaNOwnsN
import Derived.Test.YtjmdgbdlhaaefaaSRange
import Derived.Test.YtjmdgbdlhaaefaaRowStep
import Derived.Test.YtjmdgbdlhaaefaaNPeel
/- norm.CopyTrace once more: the lists of the copy lie apart from each other. -/
namespace Go.Proofs.Ytjmdgbdlhaaefaa
open Go Go.RowKit Go.Joins

/-- No two of these slices lie in one row. -/
def ApartL (L : List Slc) : Prop := ∀ i j, i < j → j < L.length → ∀ g, (slV (L.getD i slc0)).ownBlock = some g → (slV (L.getD j slc0)).ownBlock ≠ some g
theorem apart_cons {x : Slc} {L : List Slc} (h1 : ∀ j, j < L.length → ∀ g, (slV x).ownBlock = some g → (slV (L.getD j slc0)).ownBlock ≠ some g) (h2 : ApartL L) : ApartL (x :: L) := by
  intro i j hij hj g hg
  obtain ⟨j, rfl⟩ : ∃ j', j = j' + 1 := ⟨j - 1, by omega⟩
  rw [List.getD_cons_succ]
  cases i with
  | zero => exact h1 j (by simpa using hj) g (by simpa using hg)
  | succ i =>
    rw [List.getD_cons_succ] at hg
    exact h2 i j (by omega) (by simpa using hj) g hg

/-- What lies in memory while CopyTrace goes on: F is the new frames' block. -/
structure CtInv2 (w1 : World) (F n : Nat) (fs : List (List UInt8)) (k : Nat) (ss : List Slc) (w : World) : Prop where
  len : ss.length = k
  blk : w.heap[F]? = some (.cells (fcells n (fun j => slV (ss.getD j slc0))) 27 (0, 0))
  rows : ∀ j, j < k → Row isByte w w1.heap.size 5 (slV (ss.getD j slc0)) (fs.getD j []).length ((fs.getD j []).map bv)
  but : But2 w1.heap.size F F w1 w
  sep : ∀ i j, i < j → j < k → ∀ g, (slV (ss.getD i slc0)).ownBlock = some g → (slV (ss.getD j slc0)).ownBlock ≠ some g
theorem CtInv2.step {w1 : World} {F n : Nat} {fs : List (List UInt8)} {k : Nat} {ss : List Slc} {w w2 : World} {s : Slc} (h : CtInv2 w1 F n fs k ss w) (hF : F < w1.heap.size) (hb : Below w.heap.size w w2) (hr : Row isByte w2 w.heap.size 5 (slV s) (fs.getD k []).length ((fs.getD k []).map bv)) :
    CtInv2 w1 F n fs (k + 1) (ss ++ [s]) (w2.setCell ⟨F, k, none⟩ (slV s)) := by
  have hlen := h.len
  have hs := h.but.size
  have row : ∀ {v : Value} {m : Nat} {xs : List Value}, Row isByte w2 w1.heap.size 5 v m xs → Row isByte (w2.setCell ⟨F, k, none⟩ (slV s)) w1.heap.size 5 v m xs := fun hr =>
    hr.other fun q hq => Below.heap_setCell w2 ⟨F, k, none⟩ _ q (show q ≠ F from fun e => by have := (hr.own.lt q hq).1; omega)
  refine ⟨by simp [hlen], ?_, fun j hj => ?_, ?_, fun i j hij hj g hg hg2 => ?_⟩
  · have h1 := block_setCell (heap_below h.blk hb) (i := k) (slV s)
    rw [fcells_set] at h1
    rw [h1]
    congr 2
    refine fcells_congr fun j _ => ?_
    by_cases e : j = k
    · rw [if_pos e, e, ← hlen]; simp
    · rw [if_neg e]
      by_cases e2 : j < ss.length
      · simp [List.getD, List.getElem?_append_left e2]
      · have e3 : ss.length < j := by omega
        simp [List.getD, List.getElem?_append_right (Nat.le_of_lt e3), List.getElem?_eq_none (Nat.le_of_lt e3), show ¬ j - ss.length = 0 by omega]
  · by_cases e : j = k
    · subst e
      have e1 : (ss ++ [s]).getD j slc0 = s := by rw [← hlen]; simp
      rw [e1]
      exact row (hr.base_le hs)
    · have e1 : (ss ++ [s]).getD j slc0 = ss.getD j slc0 := by simp [List.getD, List.getElem?_append_left (show j < ss.length by omega)]
      rw [e1]
      exact row ((h.rows j (by omega)).below hb)
  · have h1 : But2 w1.heap.size F F w1 w2 := h.but.trans (But2.of_below (hb.mono hs))
    refine ⟨h1.os, h1.tape, h1.output, by have := h1.size; simpa using this, fun D d1 d2 d3 => ?_⟩
    rw [Below.heap_setCell w2 ⟨F, k, none⟩ _ D d2]
    exact h1.block D d1 d2 d3
  · have ei : (ss ++ [s]).getD i slc0 = ss.getD i slc0 := by simp [List.getD, List.getElem?_append_left (show i < ss.length by omega)]
    rw [ei] at hg
    by_cases e : j = k
    · subst e
      have e1 : (ss ++ [s]).getD j slc0 = s := by rw [← hlen]; simp
      rw [e1] at hg2
      have h1 := ((h.rows i (by omega)).own.lt g hg).2
      have h2 := (hr.own.lt g hg2).1
      omega
    · have e1 : (ss ++ [s]).getD j slc0 = ss.getD j slc0 := by simp [List.getD, List.getElem?_append_left (show j < ss.length by omega)]
      rw [e1] at hg2
      exact h.sep i j hij (by omega) g hg hg2

set_option maxRecDepth 100000 in
set_option maxHeartbeats 3200000 in
theorem copytr2_any (t : TraceC) (s : TSlots) (w : World) (h : SeesTr w s t) (hs : s.small) :
    Calls Try.prog 46 #[traceV t.bad s] w fun e w' => ∃ s', e = .returned (traceV t.bad s') ∧ OwnTr w' w.heap.size s' t ∧ ApartL ((s'.a1, s'.n1, s'.c1) :: s'.ss) ∧ Below w.heap.size w w' := by
  obtain ⟨i0, hi, hz0, hz1, hz2⟩ := info_parts info_u8s
  obtain ⟨a1, n1, c1, a2, n2, c2, ss⟩ := s
  obtain ⟨hs1, hs2, hs3⟩ := hs
  simp only at hs1 hs2 hs3
  obtain ⟨bad, init, fs⟩ := t
  obtain ⟨q1, q2⟩ := h
  simp only at q1 q2
  have hn2 := q2.n_eq
  have hn1 : init.length = n1 := by have := q1.len; simpa using this
  have HSL : Hid (∀ k, k < n2 → (ss.getD k slc0).2.1 ≤ 1048576) := fun k hk => hs3 _ (getD_mem (by rw [q2.len, hn2]; exact hk))
  have H1 := Lib.hid q1
  have H2 := Lib.hid q2
  have HN1 := Lib.hid hn1
  have HN2 := Lib.hid hn2
  clear q1 q2 hn1 hn2 hs3
  have mk := fun W => run_make_n (P := Try.prog) Try.underlying28 hi hz0 hz1 hz2 rfl n2 (by omega) (by omega) W
  rw [fcells_zero] at mk
  unfold traceV
  go_enter Try.func46, Try.ntmps46
  go_wp2_with fail
  generalize hW : World.alloc (World.alloc (World.alloc w _) _) _ = W1
  have B1 : Below w.heap.size w W1 := by subst hW; exact ext_trans (ext_alloc _ _) (ext_trans (ext_alloc _ _) (ext_alloc _ _))
  have hX : W1.heap[w.heap.size]? = some (.cells #[.int .i64 bad, .slice a1 n1 c1, .slice a2 n2 c2] 30 (0, 0)) := by
    subst hW; exact heap_below (heap_below (heap_new _ _ _ rfl) (ext_alloc _ _)) (ext_alloc _ _)
  have hR : W1.heap[w.heap.size + 1]? = some (.cells #[.int .i64 0, .slice none 0 0, .slice none 0 0] 30 (0, 0)) := by
    subst hW; exact heap_below (heap_new _ _ _ (by simp)) (ext_alloc _ _)
  have hF : W1.heap[w.heap.size + 1 + 1]? = some (.cells (fcells n2 (fun _ => .slice none 0 0)) 27 (0, 0)) := by
    subst hW; exact heap_new _ _ _ (by simp)
  clear hW mk
  have hFlt := heap_lt hF
  obtain ⟨F, hFF⟩ : ∃ F, F = w.heap.size + 1 + 1 := ⟨_, rfl⟩
  rw [← hFF] at hF hFlt ⊢
  have hF1 : w.heap.size + 1 < F := by omega
  have HI : Hid (CtInv2 W1 F n2 fs 0 [] W1) := by
    refine ⟨rfl, ?_, fun j hj => absurd hj (by omega), But2.refl _ _ _ _, fun i j _ hj => absurd hj (by omega)⟩
    rw [hF]
    congr 2
  have HX := Lib.hid hX
  have HR := Lib.hid hR
  have HB := Lib.hid B1
  clear hX hR hF B1 hFF
  go_loopw [13] (fun i wr => ∃ (k : Nat) (ss' : List Slc), k ≤ n2 ∧ i = .int .i64 k ∧ Hid (CtInv2 W1 F n2 fs k ss' wr))
    (fun i _ => n2 - (intOf i).toNat)
  case atStart => exact ⟨0, [], Nat.zero_le _, rfl, HI.out⟩
  case round =>
    clear HI
    obtain ⟨k, ss', hk, rfl, hI⟩ := hrel
    by_cases hlt : k < n2
    · have hbw : Below w.heap.size w wr := HB.out.trans (hI.out.but.low (by omega) (by omega) (by omega))
      obtain ⟨b, off, rfl, _⟩ := H2.out.row.addr (show 0 < n2 by omega)
      have hcx := (H2.out.below hbw).cellAt k hlt
      have hsee := (H2.out.below hbw).each k (by rw [HN2.out]; exact hlt)
      have hsl := HSL.out k hlt
      obtain ⟨sk, hsk⟩ : ∃ sk, sk = ss.getD k slc0 := ⟨_, rfl⟩
      rw [← hsk] at hcx hsee hsl
      obtain ⟨ak, nk, ck⟩ := sk
      simp only at hcx hsee hsl
      have W1' : IntKind.i64.wrap ((k : Int) + 1) = (k : Int) + 1 := IntWalk.i64_in _ (by omega)
      have HCL := Lib.hid (clone_u8 (fs.getD k []) ak nk ck wr hsee (by omega))
      have hnk : (fs.getD k []).length = nk := hsee.lenMap
      have HNK := Lib.hid hnk
      clear hsk hsee hbw hnk
      go_wp2_with fail
      refine HCL.out.mono ?_
      rintro e s1 ⟨v, rfl, hrow, b1⟩
      obtain ⟨ev, fv, rfl⟩ := hrow.form
      have hcF := (cell_of_block (heap_below hI.out.blk b1) k).trans (fcells_get _ _ _ hlt)
      have hfF := unfrozen_of_block (heap_below hI.out.blk b1) k
      have hnil : ss'.getD k slc0 = slc0 := by simp [List.getD, List.getElem?_eq_none (show ss'.length ≤ k by rw [hI.out.len]; exact Nat.le_refl _)]
      rw [hnil] at hcF
      have hcF2 : s1.cell? ⟨F, k, none⟩ = some (.slice none 0 0) := hcF
      have HI2 := Lib.hid (hI.out.step (s := (ev, nk, fv)) hFlt b1 (by rw [HNK.out]; exact hrow))
      clear hI hrow b1 hcF hnil
      simp only [slV] at HI2
      go_wp2
      go_roundw
      case rel => exact ⟨k + 1, _, by omega, by go_num, HI2.out⟩
      case measure => simp [intOf]; omega
    · obtain rfl : n2 = k := by omega
      obtain ⟨wo, hwo⟩ : ∃ wo : World, wo = wr := ⟨_, rfl⟩
      subst hwo
      have hXo := hI.out.but.at HX.out (by omega) (by omega) (by omega)
      have hRo := hI.out.but.at HR.out (by omega) (by omega) (by omega)
      have hbo : Below w.heap.size w wo := HB.out.trans (hI.out.but.low (by omega) (by omega) (by omega))
      have p0 : wo.cell? ⟨w.heap.size, 0, none⟩ = some (.int .i64 bad) := cell_of_block hXo 0
      have p1 : wo.cell? ⟨w.heap.size, 1, none⟩ = some (.slice a1 n1 c1) := cell_of_block hXo 1
      have E1 : Hid (∀ W, Below wo.heap.size wo W → Calls Try.prog 71 #[.slice a1 n1 c1] W fun e w' => ∃ v, e = .returned v ∧ Row isByte w' W.heap.size 5 v n1 (init.map bv) ∧ Below W.heap.size W w') := fun W hb => clone_u8 init a1 n1 c1 W (H1.out.below (ext_trans hbo hb)) (by omega)
      have HRO := Lib.hid hRo
      have HBO := Lib.hid hbo
      have hlt2 : w.heap.size + 1 < wo.heap.size := heap_lt hRo
      have hlt3 : F < wo.heap.size := Nat.lt_of_lt_of_le hFlt hI.out.but.size
      clear hXo hRo hbo hlt hk
      go_wp2_with fail
      go_region_held3 (fun w' => w'.cell? ⟨w.heap.size, 0, none⟩ = some (.int .i64 bad) ∧ w'.cell? ⟨w.heap.size, 1, none⟩ = some (.slice a1 n1 c1))
        (first | with_reducible exact ⟨p0, p1⟩ | with_reducible exact ⟨cell_drew p0, cell_drew p1⟩ | with_reducible exact ⟨d1_0, d1_1⟩ | with_reducible exact ⟨cell_drew d1_0, cell_drew d1_1⟩ | with_reducible exact ⟨cell_set3t d1_0 (by omega), cell_set3t d1_1 (by omega)⟩ | with_reducible exact ⟨cell_row d1_0 (by omega), cell_row d1_1 (by omega)⟩ | go_keep)
        (first
          | (go_at_call 71; (with_reducible refine (E1.out _ (by first | with_reducible exact Below.refl _ wo | with_reducible exact (Below.refl _ wo).drew)).mono ?_); rintro e s1 ⟨v1, rfl, r1, b1⟩; have HB1 : Below wo.heap.size wo s1 := (by first | exact ext_trans (Below.refl _ wo) b1 | exact ext_trans ((Below.refl _ wo).drew) b1); have d1_0 := cell_below p0 HB1; have d1_1 := cell_below p1 HB1; have R1 := Lib.hid r1; obtain ⟨e1, f1, rfl⟩ := r1.form; have hz := heap_below HRO.out HB1; have z0 := cell_of_block hz 0; have y0 := unfrozen_of_block hz 0; have z1 := cell_of_block hz 1; have y1 := unfrozen_of_block hz 1; have z2 := cell_of_block hz 2; have y2 := unfrozen_of_block hz 2; have HZ := Lib.hid hz; clear hz r1 b1))
      have HQ := Lib.hid HB1
      have HNN : Hid (init.length = n1) := HN1.out
      go_wp2
      refine bodyPost_ret (v := traceV bad ⟨e1, n1, f1, some ⟨F, 0, none⟩, n2, n2, ss'⟩) ?_ rfl ?_
      · have h6 := tri_set_t HZ.out rfl (.int .i64 bad) (.slice e1 n1 f1) (.slice (some ⟨F, 0, none⟩) n2 n2)
        have g0 := cell_of_block h6 0
        have g1 := cell_of_block h6 1
        have g2 := cell_of_block h6 2
        simp [results, Try.results46, go_sem, g0, g1, g2]
        rfl
      · have hap : ApartL ((e1, n1, f1) :: ss') := by
          refine apart_cons (fun j hj g hg hg2 => ?_) (fun i j hij hj g hg => hI.out.sep i j hij (by rw [← hI.out.len]; exact hj) g hg)
          have h1 := (R1.out.own.lt g hg).1
          have h2 := ((hI.out.rows j (by rw [← hI.out.len]; exact hj)).own.lt g hg2).2
          exact absurd h1 (Nat.not_le_of_lt h2)
        refine ⟨_, rfl, ?_, hap, set3_t (w.heap.size + 1) (Nat.le_succ _) (ext_trans HBO.out HQ.out)⟩
        have hI' := hI.out
        have hb2 := hI'.but.size
        have hbase : w.heap.size + 1 < W1.heap.size := by omega
        refine OwnTr.set3 (base := w.heap.size + 2) (t := ⟨bad, init, fs⟩) ⟨?_, ⟨F, by omega, rfl, ?_⟩, HN2.out.symm, HN2.out.symm, by rw [hI'.len]; exact HN2.out.symm, fun j hj => ?_⟩ (by omega) (by omega)
        · rw [HNN.out]
          exact R1.out.base_le (show w.heap.size + 2 ≤ wo.heap.size by omega)
        · rw [heap_below hI'.blk HQ.out]
          congr 2
          apply Array.ext'
          apply List.ext_getElem
          · simp [fcells, hI'.len]
          · intro i h1 h2
            have hi1 : i < n2 := by simpa [fcells] using h1
            simp [fcells, List.getD, List.getElem?_eq_getElem (show i < ss'.length by rw [hI'.len]; exact hi1)]
        · exact ((hI'.rows j (by rw [← HN2.out]; exact hj)).below HQ.out).base_le (by omega)
end Go.Proofs.Ytjmdgbdlhaaefaa
/- slices.Grow of nothing, slices.Concat of two lists of slices, by their contracts. -/
namespace Go.Proofs.Ytjmdgbdlhaaefaa
open Go Go.RowKit Go.Joins

/-- A slice. -/
def isSl (u : Value) : Prop := ∃ s : Slc, u = slV s
theorem zero_isSl : isSl (.slice none 0 0) := ⟨slc0, rfl⟩
theorem isSl_all (l : List Slc) : ∀ u ∈ l.map slV, isSl u := by
  intro u hu
  obtain ⟨x, _, rfl⟩ := List.mem_map.1 hu
  exact ⟨x, rfl⟩
theorem slV_one (l : List Slc) : ∀ u ∈ l.map slV, u.oneCell' = true := by
  intro u hu
  obtain ⟨x, _, rfl⟩ := List.mem_map.1 hu
  rfl
theorem size_u8s : ∀ w, (sizeOf 27).run Try.prog w = .ok 1 w := fun w => by
  obtain ⟨i0, hi, hz0, hz1, hz2⟩ := info_parts info_u8s
  simp [sizeOf, typeInfo, hi, hz1]
set_option maxRecDepth 100000 in
theorem grow_sl (n : Nat) (w : World) (hn : n ≤ 1000000000) :
    Calls Try.prog 72 #[.slice none 0 0, .int .i64 n] w fun e w' => ∃ v, e = .returned v ∧ Row isSl w' w.heap.size 27 v 0 [] ∧ Below w.heap.size w w' := by
  obtain ⟨i0, hi, hz0, hz1, hz2⟩ := info_parts info_u8s
  have e1 : decide ((n : Int) < 0) = false := by simp
  have W1 : IntKind.i64.wrap ((n : Int) - 0) = (n : Int) := by rw [Int.sub_zero]; exact IntWalk.i64_in _ (by omega)
  by_cases h0 : n = 0
  · subst h0
    go_enter Try.func72, Try.ntmps72
    go_wp2
    go_ret
    exact ⟨_, rfl, Row.nil _ _ _ _, Below.refl _ _⟩
  · have e2 : decide ((0 : Int) < (n : Int)) = true := by simp; omega
    have hr := fun ty => Lib.run_append_nil_zeros (P := Try.prog) w 28 3 ty 27 i0 (.slice none 0 0) .i64 .i64 Try.underlying28 Try.underlying3 hi hz0 n (by omega) (by omega) (by omega) (by rw [hz2]; omega)
    have hge := grownCap_ge w n 0 27
    have hle := grownCap_le_maxLen w n 0 27 (by unfold maxLen; omega)
    obtain ⟨cp, hcp⟩ : ∃ cp, cp = grownCap w n 0 27 := ⟨_, rfl⟩
    obtain ⟨cells, hcells⟩ : ∃ cells, cells = Builtin.zeroCells (Value.slice none 0 0).cells n ++ Builtin.zeroCells (Value.slice none 0 0).cells (grownCap w n 0 27 - n) := ⟨_, rfl⟩
    have hsz : cells.size = cp := by
      rw [hcells, Array.size_append, size_zeroCells, size_zeroCells, hcp]
      simp [Value.cells]
      omega
    have hok : ∀ u ∈ cells.toList, isSl u := by
      intro u hu
      rw [hcells, Array.toList_append, List.mem_append] at hu
      rcases hu with hu | hu
      · rw [mem_zeroCells rfl hu]; exact zero_isSl
      · rw [mem_zeroCells rfl hu]; exact zero_isSl
    rw [← hcells, ← hcp] at hr
    rw [← hcp] at hge hle
    have HR : Hid (∀ ty, (Builtin.append_ #[28, 3] ty #[.slice none 0 0, .int .i64 n]).run Try.prog w = .ok (.slice (some ⟨w.heap.size, 0, none⟩) n cp) (w.drew.alloc (.cells cells 27))) := hr
    have HSZ := Lib.hid hsz
    have HOK := Lib.hid hok
    have sl := fun W => (run_upto (P := Try.prog) Try.underlying28 size_u8s W (some ⟨w.heap.size, 0, none⟩) n cp 0 0 rfl (by omega)).trans (congrArg (fun v => Result.ok v W) (sliced_upto w.heap.size 0 cp))
    clear hcp hcells hsz hok hr
    go_enter Try.func72, Try.ntmps72
    go_wp2_with (at_builtin; refine Lib.wpList_append_run _ rfl _ _ _ _ rfl _ _ rfl rfl _ _ (HR.out _) ?_)
    go_wp2
    go_ret
    refine ⟨_, rfl, ⟨rfl, .inr ⟨w.heap.size, cp, cells, rfl, Nat.le_refl _, heap_alloc_new w.drew _, Nat.zero_le _, hle, HSZ.out, rfl, HOK.out⟩⟩, ((Below.refl _ w).drew).alloc (Nat.le_refl _) _⟩

set_option maxRecDepth 100000 in
set_option maxHeartbeats 1600000 in
theorem concat2_any (xs ys : List Slc) (a1 a2 : Option Addr) (n1 c1 n2 c2 D : Nat) (w : World) (h1 : Sees w a1 n1 c1 (xs.map slV)) (h2 : Sees w a2 n2 c2 (ys.map slV))
    (hD : w.heap[D]? = some (.cells #[.slice a1 n1 c1, .slice a2 n2 c2] 28 (0, 0))) (b1 : n1 ≤ 1048576) (b2 : n2 ≤ 1048576) :
    Calls Try.prog 47 #[.slice (some ⟨D, 0, .none⟩) 2 2] w fun e w' => ∃ v, e = .returned v ∧ Row isSl w' w.heap.size 27 v (n1 + n2) ((xs ++ ys).map slV) ∧ Below w.heap.size w w' := by
  obtain ⟨i0, hi, hz0, hz1, hz2⟩ := info_parts info_u8s
  have q0 := cell_of_block hD 0
  have q1 := cell_of_block hD 1
  have X1 := Lib.hid (isSl_all xs)
  have X2 := Lib.hid (isSl_all ys)
  have H1 := Lib.hid h1
  have H2 := Lib.hid h2
  have HD := Lib.hid hD
  clear h1 h2 hD
  have W0 : IntKind.i64.wrap (0 + (n1 : Int)) = (n1 : Int) := by rw [Int.zero_add]; exact IntWalk.i64_in _ (by omega)
  have W1 : IntKind.i64.wrap ((n1 : Int) + (n2 : Int)) = (n1 : Int) + (n2 : Int) := IntWalk.i64_in _ (by omega)
  have e0 : decide ((n1 : Int) < 0) = false := by simp
  have e1 : decide ((n1 : Int) + (n2 : Int) < 0) = false := by simp; omega
  go_enter Try.func47, Try.ntmps47
  go_wp2
  refine wp_loop_rounds 3 ?_
  rw [rounds_succ]
  go_wp2
  rw [rounds_succ]
  go_wp2
  rw [rounds_succ]
  go_wp2_with fail
  rw [show (n1 : Int) + (n2 : Int) = ((n1 + n2 : Nat) : Int) by omega]
  refine (grow_sl (n1 + n2) w (by omega)).mono ?_
  rintro e V0 ⟨v0, rfl, hr0, hb0⟩
  clear W0 W1 e0 e1 q0 q1
  have R0 : Hid (Row isSl V0 w.heap.size 27 v0 0 ([] : List Value)) := hr0
  have B0 := Lib.hid hb0
  obtain ⟨va0, vc0, rfl⟩ := hr0.form
  have q0 := cell_of_block (heap_below HD.out hb0) 0
  clear hr0 hb0
  go_wp2
  refine wp_loop_rounds 3 ?_
  rw [rounds_succ]
  go_wp2_with (at_builtin; refine wpList_append_row isSl _ rfl _ _ 28 rfl w.heap.size 27 i0 (.slice none 0 0) 24 Try.underlying28 hi hz0 hz1 hz2 rfl zero_isSl _ _ _ rfl R0.out a1 n1 c1 (xs.map slV) rfl (H1.out.below B0.out) (slV_one _) X1.out ?c1 ?c2 ?c3 ?_)
  case c1 => unfold maxLen; omega
  case c2 => omega
  case c3 => exact B0.out.size
  intro v1 V1 hr1 hg1 _
  have hb1 : Below w.heap.size w V1 := B0.out.grown hg1 B0.out.size (fun k hk => (R0.out.own.lt k hk).1)
  have B1 := Lib.hid hb1
  obtain ⟨va1, vc1, rfl⟩ := hr1.form
  have R1 := Lib.hid hr1
  clear hg1 q0
  have q1 := cell_of_block (heap_below HD.out hb1) 1
  clear hr1 hb1
  go_wp2
  rw [rounds_succ]
  go_wp2_with (at_builtin; refine wpList_append_row isSl _ rfl _ _ 28 rfl w.heap.size 27 i0 (.slice none 0 0) 24 Try.underlying28 hi hz0 hz1 hz2 rfl zero_isSl _ _ _ rfl R1.out a2 n2 c2 (ys.map slV) rfl (H2.out.below B1.out) (slV_one _) X2.out ?c1 ?c2 ?c3 ?_)
  case c1 => unfold maxLen; omega
  case c2 => omega
  case c3 => exact B1.out.size
  intro v2 V2 hr2 hg2 _
  have hb2 : Below w.heap.size w V2 := B1.out.grown hg2 B1.out.size (fun k hk => (R1.out.own.lt k hk).1)
  have B2 := Lib.hid hb2
  obtain ⟨va2, vc2, rfl⟩ := hr2.form
  have R2 := Lib.hid hr2
  clear hg2 q1
  clear hr2 hb2
  go_wp2
  rw [rounds_succ]
  go_wp2
  go_ret
  refine ⟨_, rfl, ?_, B2.out⟩
  have h := R2.out
  rw [List.map_append]
  exact h
end Go.Proofs.Ytjmdgbdlhaaefaa
/- sim.Read, by its contract. -/
namespace Go.Proofs.Ytjmdgbdlhaaefaa
open Go Go.RowKit Go.Joins

def zeroU (u : UInt8) : UInt8 := if u.toNat = 2 then 0 else u
def zeroL (l : List UInt8) : List UInt8 := l.map zeroU
def readT (t : TraceC) : TraceC := ⟨t.bad, zeroL t.init, t.frames.map zeroL⟩

theorem isByte_bv (u : UInt8) : isByte (bv u) := ⟨u, rfl⟩
/-- One cell of an own row written. -/
theorem Row.setAt {w : World} {base g n cap : Nat} {e : TypeId} {l : List UInt8} (h : Row isByte w base e (.slice (some ⟨g, 0, none⟩) n cap) n (l.map bv)) (i : Nat) (u : UInt8) :
    Row isByte (w.setCell ⟨g, i, none⟩ (bv u)) base e (.slice (some ⟨g, 0, none⟩) n cap) n ((l.set i u).map bv) := by
  obtain ⟨hl, h2⟩ := h
  rcases h2 with ⟨h2, _⟩ | ⟨g', cap', cur, h2, hg, hh, hn, hc, hs, ht, ho⟩
  · cases h2
  · cases h2
    refine ⟨by simpa using hl, .inr ⟨g, cap, cur.setIfInBounds i (bv u), rfl, hg, block_setCell hh (bv u), hn, hc, by simpa using hs, ?_, ?_⟩⟩
    · rw [Array.toList_setIfInBounds, List.take_set, ht, List.map_set]
    · intro x hx
      rw [Array.toList_setIfInBounds] at hx
      rcases List.mem_or_eq_of_mem_set hx with h | h
      · exact ho x h
      · rw [h]; exact isByte_bv u
theorem row_here {w : World} {base g n cap off : Nat} {e : TypeId} {xs : List Value} (h : Row isByte w base e (.slice (some ⟨g, off, none⟩) n cap) n xs) : off = 0 ∧ ∃ cur, w.heap[g]? = some (.cells cur e (0, 0)) := by
  rcases h.2 with ⟨h2, _⟩ | ⟨g', cap', cur, h2, hg, hh, _⟩
  · cases h2
  · cases h2; exact ⟨rfl, cur, hh⟩
theorem row_len {ok : Value → Prop} {w : World} {base : Nat} {e : TypeId} {a : Option Addr} {n c m : Nat} {xs : List Value} (h : Row ok w base e (.slice a n c) m xs) : m = n := by
  obtain ⟨_, _, e⟩ := h.form
  cases e
  rfl
/-- Rows that read as lists. -/
def RowsL (w : World) (base : Nat) (L : List Slc) (G : Nat → List UInt8) : Prop := ∀ j, j < L.length → Row isByte w base 5 (slV (L.getD j slc0)) (G j).length ((G j).map bv)
theorem RowsL.below {w w' : World} {base : Nat} {L : List Slc} {G : Nat → List UInt8} (h : RowsL w base L G) (hb : Below w.heap.size w w') : RowsL w' base L G := fun j hj => (h j hj).below hb
theorem RowsL.setAt {w : World} {base k g n cap : Nat} {L : List Slc} {G G' : Nat → List UInt8} (h : RowsL w base L G) (hap : ApartL L) (hk : k < L.length) (hx : L.getD k slc0 = (some ⟨g, 0, none⟩, n, cap)) (i : Nat) (u : UInt8)
    (hG : G' k = (G k).set i u) (hG2 : ∀ j, j ≠ k → G' j = G j) : RowsL (w.setCell ⟨g, i, none⟩ (bv u)) base L G' := by
  have hr := h k hk
  rw [hx] at hr
  have hn : n = (G k).length := by
    rcases hr.2 with ⟨h2, _⟩ | ⟨g', cap', cur, h2, _⟩
    · cases h2
    · simp only [slV] at h2; cases h2; rfl
  intro j hj
  by_cases e : j = k
  · subst e
    rw [hx, hG, List.length_set]
    subst hn
    exact Row.setAt hr i u
  · rw [hG2 j e]
    refine (h j hj).other fun q hq => Below.heap_setCell w ⟨g, i, none⟩ _ q (fun e2 => ?_)
    have hq2 : (slV (L.getD j slc0)).ownBlock = some g := by rw [hq, e2]
    have hg2 : (slV (L.getD k slc0)).ownBlock = some g := by rw [hx]; rfl
    rcases Nat.lt_or_gt_of_ne e with h | h
    · exact hap j k h hk g hq2 hg2
    · exact hap k j h hj g hg2 hq2
theorem RowsL.congr {w : World} {base : Nat} {L : List Slc} {G G' : Nat → List UInt8} (h : RowsL w base L G) (hG : ∀ j, j < L.length → G' j = G j) : RowsL w base L G' := fun j hj => by rw [hG j hj]; exact h j hj
/-- Blocks of cells that are no bytes are as they were. -/
def KeptNB (w w' : World) : Prop := ∀ (D : Nat) (C : Array Value) (T : TypeId) (fr : Nat × Nat), w.heap[D]? = some (.cells C T fr) → T ≠ 5 → w'.heap[D]? = some (.cells C T fr)
theorem KeptNB.refl (w : World) : KeptNB w w := fun _ _ _ _ h _ => h
theorem KeptNB.set {w w' : World} (h : KeptNB w w') {g i : Nat} {u : Value} {cur : Array Value} (hg : w'.heap[g]? = some (.cells cur 5 (0, 0))) : KeptNB w (w'.setCell ⟨g, i, none⟩ u) := fun D C T fr hD hT => by
  have h1 := h D C T fr hD hT
  exact (Below.heap_setCell w' ⟨g, i, none⟩ u D (fun e => by subst e; rw [hg] at h1; cases h1; exact hT rfl)).trans h1
theorem KeptNB.row {w w' : World} (h : KeptNB w w') {ok : Value → Prop} {base : Nat} {e : TypeId} {v : Value} {n : Nat} {xs : List Value} (hr : Row ok w base e v n xs) (he : e ≠ 5) : Row ok w' base e v n xs :=
  hr.other fun q hq => by
    rcases hr.2 with ⟨h2, _⟩ | ⟨g', cap', cur, h2, _, hh, _⟩
    · rw [h2] at hq; cases hq
    · rw [h2] at hq
      have : g' = q := by simpa [Value.ownBlock] using hq
      subst this
      exact (h g' cur e _ hh he).trans hh.symm
theorem zeroL_len (l : List UInt8) : (zeroL l).length = l.length := by simp [zeroL]
/-- What a list holds when i of its values have been read. -/
def zeroI (l : List UInt8) (i : Nat) : List UInt8 := zeroL (l.take i) ++ l.drop i
theorem zeroI_len (l : List UInt8) (i : Nat) : (zeroI l i).length = l.length := by simp [zeroI, zeroL]; omega
theorem zeroI_zero (l : List UInt8) : zeroI l 0 = l := by simp [zeroI, zeroL]
theorem zeroI_all (l : List UInt8) : zeroI l l.length = zeroL l := by simp [zeroI, zeroL]
theorem zeroI_at (l : List UInt8) (i : Nat) (h : i < l.length) : (zeroI l i).getD i 0 = l.getD i 0 := by
  have e : (zeroL (l.take i)).length = i := by simp [zeroL]; omega
  simp [zeroI, List.getD, List.getElem?_append_right (Nat.le_of_eq e), e, List.getElem?_drop]
theorem zeroI_step (l : List UInt8) (i : Nat) (h : i < l.length) : zeroI l (i + 1) = (zeroI l i).set i (zeroU (l.getD i 0)) := by
  have e : (zeroL (l.take i)).length = i := by simp [zeroL]; omega
  have hg : l.getD i 0 = l[i] := by simp [List.getD, List.getElem?_eq_getElem h]
  unfold zeroI
  rw [List.set_append_right _ _ (Nat.le_of_eq e), e, Nat.sub_self, List.drop_eq_getElem_cons h, List.set_cons_zero, List.take_add_one, List.getElem?_eq_getElem h, hg]
  simp only [zeroL, List.map_append, Option.toList_some, List.map_cons, List.map_nil, List.append_assoc, List.cons_append, List.nil_append]
theorem zeroI_keep (l : List UInt8) (i : Nat) (h : i < l.length) (h2 : zeroU (l.getD i 0) = l.getD i 0) : zeroI l (i + 1) = zeroI l i := by
  rw [zeroI_step l i h, h2, ← zeroI_at l i h]
  have hl : i < (zeroI l i).length := by rw [zeroI_len]; exact h
  simp [List.getD, List.getElem?_eq_getElem hl]

set_option maxRecDepth 100000 in
set_option maxHeartbeats 3200000 in
theorem read_any (t : TraceC) (s : TSlots) (w : World) (h : SeesTr w s t) (hs : s.small) :
    Calls Try.prog 18 #[traceV t.bad s] w fun e w' => ∃ s' : TSlots, e = .returned (traceV t.bad s') ∧ OwnTr w' w.heap.size s' (readT t) ∧ s'.small ∧ Below w.heap.size w w' := by
  have HCT := Lib.hid (fun W (hb : Below w.heap.size w W) => copytr2_any t s W (h.below hb) hs)
  have hn1 : t.init.length = s.n1 := h.s1.lenMap
  have hn2 := h.s2.n_eq
  have HSM := Lib.hid hs
  have HN := Lib.hid (And.intro hn1 (And.intro hn2 h.s2))
  clear h hn1 hn2
  obtain ⟨bad, hbad⟩ : ∃ bad, bad = t.bad := ⟨_, rfl⟩
  have HBAD := Lib.hid hbad
  unfold traceV at *
  rw [← hbad] at HCT ⊢
  clear hbad hs
  go_enter Try.func18, Try.ntmps18
  go_upto_region 1 with fail
  generalize hW : World.alloc (World.alloc w _) _ = W1
  have B1 : Below w.heap.size w W1 := by subst hW; exact ext_trans (ext_alloc _ _) (ext_alloc _ _)
  have hX : W1.heap[w.heap.size]? = some (.cells #[.int .i64 bad, .slice s.a1 s.n1 s.c1, .slice s.a2 s.n2 s.c2] 30 (0, 0)) := by subst hW; exact heap_below (heap_new _ _ _ rfl) (ext_alloc _ _)
  have hR : W1.heap[w.heap.size + 1]? = some (.cells #[.int .i64 0, .slice none 0 0, .slice none 0 0] 30 (0, 0)) := by subst hW; exact heap_new _ _ _ (by simp)
  have HB := Lib.hid B1
  have HX := Lib.hid hX
  have HR := Lib.hid hR
  clear hW B1 hX hR
  have p0 := cell_of_block HX.out 0
  have p1 := cell_of_block HX.out 1
  have p2 := cell_of_block HX.out 2
  go_wp2_with fail
  refine (HCT.out W1 HB.out).mono ?_
  rintro e W2 ⟨⟨a1, n1, c1, a2, n2, c2, ss⟩, rfl, ho, hap, hb⟩
  have HX2 := Lib.hid (heap_below HX.out hb)
  have HR2 := Lib.hid (heap_below HR.out hb)
  have HB2 := Lib.hid (ext_trans HB.out hb)
  have HLE := Lib.hid hb.size
  have HW1 := Lib.hid (And.intro HB.out.size (heap_lt HR.out))
  have HO := Lib.hid ho
  have HAP := Lib.hid hap
  have hq1 : n1 = t.init.length := (row_len ho.o1).symm
  have hq2 := ho.n2
  have hq3 := ho.len
  simp only at hq2 hq3
  have HQ := Lib.hid (And.intro hq1 (And.intro hq2 hq3))
  have hn2 : n2 ≤ 1048576 := by have := HN.out.2.1; have := HSM.out.n2; omega
  clear ho hap hb p0 p1 p2 HX HR HB HCT hq1 hq2 hq3
  go_upto_region 2 with fail
  generalize hW : World.alloc W2 _ = W3
  have B3 : Below W2.heap.size W2 W3 := by subst hW; exact ext_alloc _ _
  have hx3 : W3.heap[W2.heap.size]? = some (.cells #[.int .i64 bad, .slice a1 n1 c1, .slice a2 n2 c2] 30 (0, 0)) := by subst hW; exact heap_new _ _ _ rfl
  have HX3 := Lib.hid hx3
  have HB3 := Lib.hid B3
  clear hW B3 hx3
  have p1 := cell_of_block HX3.out 1
  have p2 := cell_of_block HX3.out 2
  have ne2 : ∀ o, (W3.alloc o).cell? ⟨W2.heap.size, 2, none⟩ = some (.slice a2 n2 c2) := fun o => cell_below p2 (ext_alloc _ o)
  go_wp2_with fail
  clear ne2
  generalize hW : World.alloc (World.alloc W3 _) _ = W4
  have B4 : Below W3.heap.size W3 W4 := by subst hW; exact ext_trans (ext_alloc _ _) (ext_alloc _ _)
  have hs4 : Sees W4 (some ⟨W3.heap.size, 0, none⟩) 1 1 ([(a1, n1, c1)].map slV) := by subst hW; exact (sees_one W3 (.slice a1 n1 c1) 27).below (ext_alloc _ _)
  have hD4 : W4.heap[W3.heap.size + 1]? = some (.cells #[.slice (some ⟨W3.heap.size, 0, none⟩) 1 1, .slice a2 n2 c2] 28 (0, 0)) := by subst hW; exact heap_new _ _ _ (by simp)
  have h2 : Sees W4 a2 n2 c2 (ss.map slV) := (HO.out.sees.s2.row.below HB3.out).below B4
  clear hW p1 p2
  refine (concat2_any [(a1, n1, c1)] ss (some ⟨W3.heap.size, 0, none⟩) a2 1 1 n2 c2 (W3.heap.size + 1) W4 hs4 h2 hD4 (by omega) hn2).mono ?_
  rintro e W5 ⟨v, rfl, hrow, hb5⟩
  obtain ⟨vr, cr, rfl⟩ := hrow.form
  have hb25 : Below W2.heap.size W2 W5 := ext_trans HB3.out (ext_trans B4 hb5)
  have HX5 := Lib.hid (heap_below HX3.out (ext_trans B4 hb5))
  have HR5 := Lib.hid (heap_below HR2.out hb25)
  have HB5 := Lib.hid (ext_trans HB2.out hb25)
  have HO5 := Lib.hid (HO.out.below hb25)
  have hls : ([(a1, n1, c1)] ++ ss) = (a1, n1, c1) :: ss := rfl
  rw [hls] at hrow
  obtain ⟨L, hL⟩ : ∃ L, L = (a1, n1, c1) :: ss := ⟨_, rfl⟩
  rw [← hL] at hrow HAP
  have hLl : L.length = 1 + n2 := by rw [hL, List.length_cons]; have := HQ.out.2.1; have := HQ.out.2.2; omega
  obtain ⟨G0, hG0⟩ : ∃ G0 : Nat → List UInt8, G0 = fun j => (t.init :: t.frames).getD j [] := ⟨_, rfl⟩
  have hrows : RowsL W5 W1.heap.size L G0 := by
    intro j hj
    rw [hL, hG0]
    cases j with
    | zero =>
      have h1 := HO5.out.o1
      exact h1
    | succ j =>
      have h1 := HO5.out.rows j (by rw [hL, List.length_cons] at hj; have := HQ.out.2.2; omega)
      exact h1
  have HROW := Lib.hid hrow
  have HROWS := Lib.hid hrows
  have HL := Lib.hid hL
  have HLL := Lib.hid hLl
  have HG0 := Lib.hid hG0
  have HLEN : Hid (∀ j, j < L.length → (L.getD j slc0).2.1 = (G0 j).length) := fun j hj =>
    (row_len (show Row isByte W5 W1.heap.size 5 (.slice (L.getD j slc0).1 (L.getD j slc0).2.1 (L.getD j slc0).2.2) _ _ from HROWS.out j hj)).symm
  clear hrow hrows hL hLl hG0 hb5 B4 hs4 hD4 h2 hb25 hls
  go_wp2_with fail
  go_loopw [18, 5, 6, 7] (fun i _ _ _ wr => ∃ k : Nat, k ≤ 1 + n2 ∧ i = .int .i64 k ∧ Hid (RowsL wr W1.heap.size L (fun j => if j < k then zeroL (G0 j) else G0 j)) ∧ Hid (KeptNB W5 wr) ∧ Hid (Below W1.heap.size W5 wr)) (fun i _ _ _ _ => (1 + n2) - (intOf i).toNat)
  case atStart => exact ⟨0, Nat.zero_le _, rfl, HROWS.out.congr (fun j _ => by simp), KeptNB.refl _, Below.refl _ _⟩
  case round =>
    obtain ⟨k, hk, rfl, hR, hK, hB⟩ := hrel
    by_cases hlt : k < 1 + n2
    · have hrw := hK.out.row HROW.out (by decide)
      obtain ⟨b, off, rfl, _⟩ := (row_sees_slice hrw).2.addr (by omega)
      have hcx := ((row_sees_slice hrw).2.cell k hlt).2
      rw [List.getElem?_map, List.getElem?_eq_getElem (show k < L.length by rw [HLL.out]; exact hlt)] at hcx
      have hgd : L[k]'(by rw [HLL.out]; exact hlt) = L.getD k slc0 := by simp [List.getD, List.getElem?_eq_getElem (show k < L.length by rw [HLL.out]; exact hlt)]
      rw [hgd] at hcx
      have hxl := HLEN.out k (by rw [HLL.out]; exact hlt)
      have hsmall : (G0 k).length ≤ 1048576 := by
        rw [HG0.out]
        cases k with
        | zero => have := HN.out.1; have := HSM.out.n1; simp only [List.getD_cons_zero]; omega
        | succ k =>
          simp only [List.getD_cons_succ]
          have h1 : k < t.frames.length := by have := HN.out.2.1; have := HQ.out.2.1; omega
          have h2 := (HN.out.2.2.each k h1).lenMap
          have h3 := HSM.out.each (s.ss.getD k slc0) (getD_mem (by rw [HN.out.2.2.len]; exact h1))
          omega
      obtain ⟨x, hx⟩ : ∃ x : Slc, x = L.getD k slc0 := ⟨_, rfl⟩
      rw [← hx] at hcx hxl
      obtain ⟨xa, xn, xc⟩ := x
      simp only [Option.map_some, slV] at hcx
      simp only at hxl
      have HXL := Lib.hid hxl
      have HXX := Lib.hid hx
      have W1' : IntKind.i64.wrap ((k : Int) + 1) = (k : Int) + 1 := IntWalk.i64_in _ (by omega)
      have hxs : xn ≤ 1048576 := by omega
      have hR0 : Hid (RowsL wr W1.heap.size L (fun j => if j < k then zeroL (G0 j) else if j = k then zeroI (G0 j) 0 else G0 j)) := hR.out.congr (fun j _ => by
        by_cases e : j < k
        · simp only [if_pos e]
        · by_cases e2 : j = k
          · simp only [if_neg e, if_pos e2, zeroI_zero]
          · simp only [if_neg e, if_neg e2])
      have HLT := Lib.hid hlt
      have e9 : decide ((k : Int) < 1 + (n2 : Int)) = true := by simp; omega
      have hI : (k : Int) < 1 + (n2 : Int) := by omega
      have hI2 : k < 1 + n2 := hlt
      clear hrw hgd hxl hx hsmall hR hlt
      go_wp2_with fail
      clear hcx e9 hI hI2
      go_loopw [24, 6, 7] (fun i _ _ wr2 => ∃ m : Nat, m ≤ xn ∧ i = .int .i64 m ∧ Hid (RowsL wr2 W1.heap.size L (fun j => if j < k then zeroL (G0 j) else if j = k then zeroI (G0 j) m else G0 j)) ∧ Hid (KeptNB W5 wr2) ∧ Hid (Below W1.heap.size W5 wr2)) (fun i _ _ _ => xn - (intOf i).toNat)
      case atStart => exact ⟨0, Nat.zero_le _, rfl, hR0.out, hK.out, hB.out⟩
      case round =>
        clear hR0 hK hB
        obtain ⟨m, hm, rfl, hR, hK, hB⟩ := hrel
        by_cases hlt : m < xn
        · have hkl : k < L.length := by rw [HLL.out]; exact HLT.out
          have hrk := hR.out k hkl
          simp only [if_neg (Nat.lt_irrefl k), if_true] at hrk
          rw [← HXX.out] at hrk
          rw [zeroI_len, ← HXL.out] at hrk
          unfold slV at hrk
          simp only at hrk
          obtain ⟨g, rfl⟩ : ∃ g, xa = some ⟨g, 0, none⟩ := by
            rcases hrk.2 with ⟨_, h2⟩ | ⟨g, cap, cur, h2, _⟩
            · omega
            · cases h2; exact ⟨g, rfl⟩
          obtain ⟨_, cur, hcur⟩ := row_here hrk
          have hby := (row_sees_slice hrk).2.byte m hlt
          rw [zeroI_at _ _ (by rw [← HXL.out]; exact hlt), Nat.zero_add] at hby
          have f1 := unfrozen_of_block hcur m
          have hset := fun (u : UInt8) (G' : Nat → List UInt8) => RowsL.setAt (G' := G') hR.out HAP.out hkl HXX.out.symm m u
          have hge : W1.heap.size ≤ g := by
            rcases hrk.2 with ⟨_, h2⟩ | ⟨g', cap, cur, h2, h3, _⟩
            · omega
            · cases h2; exact h3
          obtain ⟨u, hu⟩ : ∃ u, u = (G0 k).getD m 0 := ⟨_, rfl⟩
          obtain ⟨un, hun⟩ : ∃ un, un = u.toNat := ⟨_, rfl⟩
          rw [← hu, ← hun] at hby
          have HU := Lib.hid hu
          have HUN := Lib.hid hun
          have HSET := Lib.hid hset
          have HCUR := Lib.hid hcur
          have HGE := Lib.hid hge
          have hlg : m < (G0 k).length := by rw [← HXL.out]; exact hlt
          have HLG := Lib.hid hlg
          have W2' : IntKind.i64.wrap ((m : Int) + 1) = (m : Int) + 1 := IntWalk.i64_in _ (by omega)
          clear hrk hcur hset hu hun hge hlg hkl
          by_cases h2 : un = 2
          · have e2 : ((un : Int) == 2) = true := by simp; omega
            have HZ : Hid (zeroU ((G0 k).getD m 0) = 0) := by show _ = _; unfold zeroU; rw [← HU.out, ← HUN.out, if_pos h2]
            clear h2
            go_wp2
            go_roundw
            case rel =>
              refine ⟨m + 1, by omega, by go_num, ?_, hK.out.set HCUR.out, hB.out.setCell (p := ⟨g, m, none⟩) HGE.out _⟩
              refine HSET.out 0 _ ?_ (fun j hj => ?_)
              · simp only [if_neg (Nat.lt_irrefl k), if_true]
                rw [zeroI_step _ _ HLG.out, HZ.out]
              · by_cases e : j < k
                · simp only [if_pos e]
                · simp only [if_neg e, if_neg hj]
            case measure => simp [intOf]; omega
          · have e2 : ((un : Int) == 2) = false := by simp; omega
            have HZ : Hid (zeroU ((G0 k).getD m 0) = (G0 k).getD m 0) := by show _ = _; unfold zeroU; rw [← HU.out, ← HUN.out, if_neg h2]
            clear h2
            go_wp2
            go_roundw
            case rel =>
              refine ⟨m + 1, by omega, by go_num, hR.out.congr (fun j _ => ?_), hK.out, hB.out⟩
              by_cases e : j < k
              · simp only [if_pos e]
              · by_cases e2 : j = k
                · subst e2; simp only [if_neg e, if_true]; rw [zeroI_keep _ _ HLG.out HZ.out]
                · simp only [if_neg e, if_neg e2]
            case measure => simp [intOf]; omega
        · obtain rfl : xn = m := by omega
          go_wp2
          go_roundw
          case rel =>
            refine ⟨k + 1, by have := HLT.out; omega, by go_num, hR.out.congr (fun j _ => ?_), hK.out, hB.out⟩
            by_cases e : j < k
            · simp only [if_pos e, if_pos (show j < k + 1 by omega)]
            · by_cases e2 : j = k
              · subst e2; simp only [if_neg e, if_true, if_pos (Nat.lt_succ_self j)]; rw [HXL.out, zeroI_all]
              · simp only [if_neg e, if_neg e2, if_neg (show ¬ j < k + 1 by omega)]
          case measure => have := HLT.out; simp [intOf]; omega
    · obtain rfl : k = 1 + n2 := by omega
      have e9 : decide (((1 + n2 : Nat) : Int) < 1 + (n2 : Int)) = false := by simp
      have hx5 := hK.out _ _ _ _ HX5.out (by decide)
      have hr5 := hK.out _ _ _ _ HR5.out (by decide)
      have p0 : wr.cell? ⟨W2.heap.size, 0, none⟩ = some (.int .i64 bad) := cell_of_block hx5 0
      have p1 : wr.cell? ⟨W2.heap.size, 1, none⟩ = some (.slice a1 n1 c1) := cell_of_block hx5 1
      have p2 : wr.cell? ⟨W2.heap.size, 2, none⟩ = some (.slice a2 n2 c2) := cell_of_block hx5 2
      have z0 := cell_of_block hr5 0
      have z1 := cell_of_block hr5 1
      have z2 := cell_of_block hr5 2
      have y0 := unfrozen_of_block hr5 0
      have y1 := unfrozen_of_block hr5 1
      have y2 := unfrozen_of_block hr5 2
      have HR6 := Lib.hid hr5
      clear hx5 hr5 hlt hk
      go_wp2
      refine bodyPost_ret (v := traceV bad ⟨a1, n1, c1, a2, n2, c2, ss⟩) ?_ rfl ?_
      · have h6 := tri_set_t HR6.out rfl (.int .i64 bad) (.slice a1 n1 c1) (.slice a2 n2 c2)
        have g0 := cell_of_block h6 0
        have g1 := cell_of_block h6 1
        have g2 := cell_of_block h6 2
        simp [results, Try.results18, go_sem, g0, g1, g2]
        rfl
      · have hrr := HR6.out
        have hroot : ∀ D, D < W1.heap.size → wr.heap[D]? = W5.heap[D]? := hB.out.block
        have hG : RowsL wr W1.heap.size L (fun j => zeroL (G0 j)) := hR.out.congr (fun j hj => by rw [if_pos (by rw [← HLL.out]; exact hj)])
        have hle1 := HW1.out
        have hbw : Below w.heap.size w wr := HB5.out.trans (hB.out.mono (by omega))
        refine ⟨⟨a1, n1, c1, a2, n2, c2, ss⟩, rfl, ?_, ?_, set3_t (w.heap.size + 1) (Nat.le_succ _) hbw⟩
        · refine OwnTr.set3 (base := W1.heap.size) (G := w.heap.size + 1) (B := w.heap.size) (s := ⟨a1, n1, c1, a2, n2, c2, ss⟩) (t := readT t) ?_ (by omega) (by omega)
          obtain ⟨F, h1, h2, h3⟩ := HO5.out.blk
          refine ⟨?_, ⟨F, h1, h2, hK.out _ _ _ _ h3 (by decide)⟩, ?_, ?_, ?_, fun j hj => ?_⟩
          · have h4 := hG 0 (by rw [HLL.out]; omega)
            rw [HL.out, HG0.out] at h4
            exact h4
          · simp only [readT, List.length_map]; exact HO5.out.n2
          · simp only [readT, List.length_map]; exact HO5.out.c2
          · simp only [readT, List.length_map]; exact HO5.out.len
          · simp only [readT, List.length_map] at hj
            have h4 := hG (j + 1) (by rw [HLL.out]; have := HQ.out.2.1; omega)
            rw [HL.out, HG0.out] at h4
            simp only [List.getD_cons_succ] at h4
            have h5 : (readT t).frames.getD j [] = zeroL (t.frames.getD j []) := by simp [readT, List.getD, List.getElem?_eq_getElem hj]
            rw [h5]
            exact h4
        · refine ⟨?_, hn2, fun x hx => ?_⟩
          · have := HQ.out.1; have := HN.out.1; have := HSM.out.n1; simp only; omega
          · obtain ⟨j, hj, he⟩ := List.getElem_of_mem hx
            have h1 := HLEN.out (j + 1) (by rw [HLL.out]; have := HQ.out.2.1; have := HQ.out.2.2; simp only at hj; omega)
            rw [HL.out, HG0.out] at h1
            simp only [List.getD_cons_succ] at h1
            have h2 : ss.getD j slc0 = x := by simp only at hj he; simp [List.getD, List.getElem?_eq_getElem hj, he]
            rw [h2] at h1
            have hj2 : j < t.frames.length := by have := HQ.out.2.2; simp only at hj; omega
            have h3 := (HN.out.2.2.each j hj2).lenMap
            have h4 := HSM.out.each (s.ss.getD j slc0) (getD_mem (by rw [HN.out.2.2.len]; exact hj2))
            omega
end Go.Proofs.Ytjmdgbdlhaaefaa
/- sim.Fails, by its contract. -/
namespace Go.Proofs.Ytjmdgbdlhaaefaa
open Go Go.RowKit Go.Joins

theorem zeroU_le (u : UInt8) (h : u.toNat ≤ 2) : (zeroU u).toNat ≤ 1 := by
  unfold zeroU
  split
  · exact Nat.zero_le _
  · omega
theorem zeroL_getD (l : List UInt8) (i : Nat) : (zeroL l).getD i 0 = zeroU (l.getD i 0) := by
  by_cases h : i < l.length
  · simp [zeroL, List.getD, List.getElem?_eq_getElem h]
  · simp [zeroL, List.getD, List.getElem?_eq_none (Nat.le_of_not_lt h)]; rfl
theorem readT_frame (t : TraceC) (k : Nat) : (readT t).frames.getD k [] = zeroL (t.frames.getD k []) := by
  by_cases h : k < t.frames.length
  · simp [readT, List.getD, List.getElem?_eq_getElem h]
  · simp [readT, List.getD, List.getElem?_eq_none (Nat.le_of_not_lt h), zeroL]
theorem FitsC.read {c : NormC} {t : TraceC} (h : FitsC c t) : FitsC c (readT t) := by
  refine ⟨h.may, h.pos, h.bad, by show (zeroL t.init).length = _; rw [zeroL_len]; exact h.init, fun u hu => ?_, fun i hi => ?_, by show 1 ≤ (t.frames.map zeroL).length; rw [List.length_map]; exact h.one, by show (t.frames.map zeroL).length ≤ 256; rw [List.length_map]; exact h.few, fun k hk => ?_, fun f hf u hu => ?_⟩
  · obtain ⟨x, hx, rfl⟩ := List.mem_map.1 hu
    have := zeroU_le x (h.inits x hx); omega
  · rcases h.resets i hi with h1 | h1
    · exact .inl h1
    · by_cases e : (c.lats.getD i (0, 0)).2 = 2
      · exact .inl e
      · refine .inr ?_
        show ((zeroL t.init).getD i 0).toNat = _
        rw [zeroL_getD]
        unfold zeroU
        rw [if_neg (by omega)]
        exact h1
  · rw [readT_frame, zeroL_len]
    exact h.frames k (by simpa [readT] using hk)
  · obtain ⟨g, hg, rfl⟩ := List.mem_map.1 hf
    obtain ⟨x, hx, rfl⟩ := List.mem_map.1 hu
    have := zeroU_le x (h.values g hg x hx); omega

/-- What Fails answers. -/
def failsE (c : NormC) (t : TraceC) : Ending := if fitsS c t = true then .returned (.tuple #[.bool (decide ((k1.verdict c t.bad.toNat (readT t).init (readT t).frames).toNat = 1)), .int .i64 0]) else .returned (.tuple #[.bool false, .int .i64 2])

set_option maxRecDepth 100000 in
set_option maxHeartbeats 3200000 in
theorem fails_any (c : NormC) (t : TraceC) (s : CSlots) (st : TSlots) (w : World) (h : SeesCir w s c) (ht : SeesTr w st t) (hs : s.small) (hst : st.small) (hlo : -9223372036854775808 ≤ c.ins) (hhi : c.ins < 9223372036854775808) (hb1 : -9223372036854775808 ≤ t.bad ∧ t.bad < 9223372036854775808) :
    Calls Try.prog 21 #[cirV c.ins s, traceV t.bad st] w fun e w' => e = failsE c t ∧ Below w.heap.size w w' := by
  have HFIT := Lib.hid (fun W (hb : Below w.heap.size w W) => fits_any c t s st W (h.below hb) (ht.below hb) hs hst hlo hhi hb1)
  have HFC : Hid (fitsS c t = true → FitsC c t) := fits_iff.1
  have HE : Hid (failsE c t = if fitsS c t = true then .returned (.tuple #[.bool (decide ((k1.verdict c t.bad.toNat (readT t).init (readT t).frames).toNat = 1)), .int .i64 0]) else .returned (.tuple #[.bool false, .int .i64 2])) := rfl
  obtain ⟨q, hq⟩ : ∃ q, q = fitsS c t := ⟨_, rfl⟩
  rw [← hq] at HFIT HFC HE
  clear hq
  obtain ⟨E, hE⟩ : ∃ E, E = failsE c t := ⟨_, rfl⟩
  rw [← hE] at HE ⊢
  clear hE
  have HC := Lib.hid h
  have HT := Lib.hid ht
  clear h ht hlo hhi hb1
  unfold cirV traceV at *
  go_enter Try.func21, Try.ntmps21
  go_upto_region 1 with fail
  generalize hW : World.alloc (World.alloc w _) _ = W1
  have hb : Below w.heap.size w W1 := by subst hW; exact ext_trans (ext_alloc _ _) (ext_alloc _ _)
  have hx : W1.heap[w.heap.size]? = some (.cells #[.int .i64 c.ins, .slice s.a1 s.n1 s.c1, .slice s.a2 s.n2 s.c2, .slice s.a3 s.n3 s.c3, .slice s.a4 s.n4 s.c4, .slice s.a5 s.n5 s.c5] 26 (0, 0)) := by subst hW; exact heap_below (heap_new _ _ _ rfl) (ext_alloc _ _)
  have hy : W1.heap[w.heap.size + 1]? = some (.cells #[.int .i64 t.bad, .slice st.a1 st.n1 st.c1, .slice st.a2 st.n2 st.c2] 30 (0, 0)) := by subst hW; exact heap_new _ _ _ (by simp)
  have HB := Lib.hid hb
  have HX := Lib.hid hx
  have HY := Lib.hid hy
  clear hW hb hx hy
  have p0 := cell_of_block HX.out 0
  have p1 := cell_of_block HX.out 1
  have p2 := cell_of_block HX.out 2
  have p3 := cell_of_block HX.out 3
  have p4 := cell_of_block HX.out 4
  have p5 := cell_of_block HX.out 5
  have r0 := cell_of_block HY.out 0
  have r1 := cell_of_block HY.out 1
  have r2 := cell_of_block HY.out 2
  go_wp2_with fail
  refine (HFIT.out W1 HB.out).mono ?_
  rintro e W2 ⟨rfl, hb⟩
  have HX2 := Lib.hid (heap_below HX.out hb)
  have HY2 := Lib.hid (heap_below HY.out hb)
  have HB2 := Lib.hid (ext_trans HB.out hb)
  clear hb p0 p1 p2 p3 p4 p5 r0 r1 r2 HFIT HX HY HB
  cases q with
  | false =>
    go_wp2
    go_ret2
    exact ⟨by rw [HE.out]; rfl, HB2.out⟩
  | true =>
    have HF := Lib.hid (HFC.out rfl)
    obtain ⟨nb, hnb⟩ := Int.eq_ofNat_of_zero_le HF.out.pos
    have hbad : nb < c.bads.length := by have := HF.out.bad; rw [hnb] at this; simpa using this
    have hfr := HF.out.read
    have HVERD := fun (W : World) (tb : Nat) (st' : TSlots) (hb : Below w.heap.size w W) (ht' : SeesTr W st' (readT t)) (htb : W.heap[tb]? = some (.cells #[.int .i64 t.bad, .slice st'.a1 st'.n1 st'.c1, .slice st'.a2 st'.n2 st'.c2] 30 (0, 0))) => verdict_any c s (readT t) st' nb W (HC.out.below hb) ht' HF.out.may hs hfr.init hfr.frames hfr.few hbad tb htb
    have HREAD := fun W (hb : Below w.heap.size w W) => read_any t st W (HT.out.below hb) hst
    have hbn : t.bad.toNat = nb := by rw [hnb]; simp
    rw [hbn] at HE
    obtain ⟨bd, hbd⟩ : ∃ bd, bd = t.bad := ⟨_, rfl⟩
    unfold traceV at HREAD
    rw [← hbd] at HVERD HREAD HY2 hnb ⊢
    obtain ⟨RV, hRV⟩ : ∃ RV, RV = k1.verdict c nb (readT t).init (readT t).frames := ⟨_, rfl⟩
    rw [← hRV] at HVERD HE
    subst hnb
    have HSG : Hid (∀ W, Calls Try.prog 34 #[] W fun e w' => e = .returned (.agg #[.int .u8 0, .func (.func 62) #[] #[], .func (.func 63) #[] #[]]) ∧ Below W.heap.size W w') := single_any
    have HAL := Lib.hid (fun W st' => alone_any (nb : Int) st' W)
    have hrv : bv RV = .int .u8 (RV.toNat : Int) := rfl
    obtain ⟨nr, hnr⟩ : ∃ nr : Nat, nr = RV.toNat := ⟨_, rfl⟩
    rw [← hnr] at HE
    rw [hrv, ← hnr] at HVERD
    have hdec : ((nr : Int) == 1) = decide (nr = 1) := by rw [Bool.eq_iff_iff]; simp; omega
    unfold kv1 cirV at HVERD
    unfold traceV at HAL
    have HV := Lib.hid HVERD
    have HRD := Lib.hid HREAD
    have HS0 := Lib.hid (keep63 HX2.out HY2.out)
    clear HVERD HREAD hfr hRV hrv hnr hbn hbd hbad HFC
    go_wp2_with fail
    go_region_held3 (fun w' => w'.cell? ⟨w.heap.size, 0, none⟩ = some (.int .i64 c.ins) ∧ w'.cell? ⟨w.heap.size, 1, none⟩ = some (.slice s.a1 s.n1 s.c1) ∧ w'.cell? ⟨w.heap.size, 2, none⟩ = some (.slice s.a2 s.n2 s.c2) ∧ w'.cell? ⟨w.heap.size, 3, none⟩ = some (.slice s.a3 s.n3 s.c3) ∧ w'.cell? ⟨w.heap.size, 4, none⟩ = some (.slice s.a4 s.n4 s.c4) ∧ w'.cell? ⟨w.heap.size, 5, none⟩ = some (.slice s.a5 s.n5 s.c5) ∧ w'.cell? ⟨w.heap.size + 1, 0, none⟩ = some (.int .i64 (nb : Int)) ∧ w'.cell? ⟨w.heap.size + 1, 1, none⟩ = some (.slice st.a1 st.n1 st.c1) ∧ w'.cell? ⟨w.heap.size + 1, 2, none⟩ = some (.slice st.a2 st.n2 st.c2))
      (first | with_reducible exact HS0.out | with_reducible exact keep63 (heap_below HX2.out ((Below.refl _ W2).drew)) (heap_below HY2.out ((Below.refl _ W2).drew)) | with_reducible exact HS1.out | with_reducible exact HS2.out | with_reducible exact HS3.out | with_reducible exact HS4.out | go_keep)
      (first
        | (go_at_call 34; (with_reducible refine (HSG.out _).mono ?_); rintro e s1 ⟨rfl, b1⟩; have HB3 := Lib.hid (below_undrew b1); have HS1 := Lib.hid (keep63 (heap_below HX2.out HB3.out) (heap_below HY2.out HB3.out)); clear b1)
        | (go_at_call 18; (with_reducible refine (HRD.out _ (ext_trans HB2.out HB3.out)).mono ?_); rintro e s2 ⟨st', rfl, ho, hsm, b2⟩; have HO := Lib.hid ho; have HB4 := Lib.hid (ext_trans HB3.out b2); have HS2 := Lib.hid (keep63 (heap_below HX2.out HB4.out) (heap_below HY2.out HB4.out)); clear b2 ho hsm)
        | (go_at_call 45; (with_reducible refine (HAL.out _ _).mono ?_); rintro e s3 ⟨rfl, htb, b3⟩; have HTB := Lib.hid htb; have HO2 := Lib.hid (HO.out.below b3); have HB5 := Lib.hid (ext_trans HB4.out b3); have HS3 := Lib.hid (keep63 (heap_below HX2.out HB5.out) (heap_below HY2.out HB5.out)); clear b3 htb)
        | (go_at_call 49; (with_reducible refine (HV.out _ _ _ (ext_trans HB2.out HB5.out) HO2.out.sees HTB.out).mono ?_); rintro e s4 ⟨rfl, b4⟩; have HB6 := Lib.hid (ext_trans HB5.out b4); have HS4 := Lib.hid (keep63 (heap_below HX2.out HB6.out) (heap_below HY2.out HB6.out)); clear b4))
    all_goals go_wp2
    all_goals go_ret2
    all_goals exact ⟨by rw [HE.out]; rfl, ext_trans HB2.out HB6.out⟩
end Go.Proofs.Ytjmdgbdlhaaefaa
/- slices.AppendSeq, slices.Collect over the run's iterator, by their contracts. -/
namespace Go.Proofs.Ytjmdgbdlhaaefaa
open Go Go.RowKit Go.Joins
attribute [local go_sem] Oper.semAt_some

/-- What has been gathered: k slices, each a row of its own. -/
structure GInv (c : NormC) (t : TraceC) (w : World) (H B k : Nat) (W : World) (v : Value) (ss : List Slc) : Prop where
  len : ss.length = k
  box : W.heap[H]? = some (.cells #[v] 28 (0, 0))
  row : W.ownsRow w.heap.size 27 1 v k (ss.map slV)
  rows : ∀ j, j < k → Row isByte W w.heap.size 5 (slV (ss.getD j slc0)) (varsAt c t j).length ((varsAt c t j).map bv)
  low : Below w.heap.size w W
theorem GInv.below {c : NormC} {t : TraceC} {w : World} {H B k : Nat} {W W' : World} {v : Value} {ss : List Slc} (h : GInv c t w H B k W v ss) (hb : Below W.heap.size W W') : GInv c t w H B k W' v ss :=
  ⟨h.len, heap_below h.box hb, ownsN_below h.row hb, fun j hj => (h.rows j hj).below hb, ext_trans h.low hb⟩
theorem row_put {ok : Value → Prop} {w : World} {base : Nat} {e : TypeId} {v : Value} {n : Nat} {xs : List Value} (h : Row ok w base e v n xs) {l : Nat} {o o' : Obj} (hl : w.heap[l]? = some o) (ho : o.isCells = false) : Row ok (w.putObj l o') base e v n xs :=
  h.other fun q hq => World.putObj_heap_other (fun e2 => by
    subst e2
    rcases h.2 with ⟨h1, _⟩ | ⟨g, cap, cur, h1, _, h2, _⟩
    · rw [h1] at hq; cases hq
    · rw [h1] at hq
      have : g = q := by simpa [Value.ownBlock] using hq
      subst this
      rw [hl] at h2; cases h2; cases ho)
theorem owns_put {w : World} {base sz : Nat} {e : TypeId} {v : Value} {n : Nat} {xs : List Value} (h : w.ownsRow base e sz v n xs) {l : Nat} {o o' : Obj} (hl : w.heap[l]? = some o) (ho : o.isCells = false) : (w.putObj l o').ownsRow base e sz v n xs :=
  ownsN_other h fun q hq => World.putObj_heap_other (fun e2 => by
    subst e2
    rcases h.2 with ⟨h1, _⟩ | ⟨g, cap, cur, h1, _, h2, _⟩
    · rw [h1] at hq; cases hq
    · rw [h1] at hq
      have : g = q := by simpa [Value.ownBlock] using hq
      subst this
      rw [hl] at h2; cases h2; cases ho)
theorem GInv.put {c : NormC} {t : TraceC} {w : World} {H B k : Nat} {W : World} {v : Value} {ss : List Slc} (h : GInv c t w H B k W v ss) {l : Nat} {o o' : Obj} (hB : w.heap.size ≤ l) (hl : W.heap[l]? = some o) (ho : o.isCells = false) : GInv c t w H B k (W.putObj l o') v ss :=
  ⟨h.len, (World.putObj_heap_other (fun e => by subst e; have := h.box; rw [hl] at this; cases this; cases ho)).trans h.box, owns_put h.row hl ho, fun j hj => row_put (h.rows j hj) hl ho, h.low.grown (grownBy_putObj' W l o') h.low.size (fun k e => by cases e; exact hB)⟩

set_option maxRecDepth 100000 in
set_option maxHeartbeats 3200000 in
theorem appendseq_any (c : NormC) (s : CSlots) (t : TraceC) (st : TSlots) (w0 : World) (sb kb cb tb : Nat) (w : World)
    (hw0 : w0.heap.size ≤ w.heap.size) (hR : ∀ W : World, Below w.heap.size w W → w.heap.size < W.heap.size → RunAt c s t st w0 sb kb cb tb w.heap.size w.heap.size W) :
    Calls Try.prog 68 #[.slice none 0 0, .func (.func 69) #[] #[.pointer (some ⟨sb, 0, none⟩), .pointer (some ⟨kb, 0, none⟩), .pointer (some ⟨cb, 0, none⟩)]] w
      fun e W' => ∃ (v : Value) (ss : List Slc), e = .returned v ∧ ss.length = t.frames.length ∧ W'.ownsRow w.heap.size 27 1 v t.frames.length (ss.map slV) ∧ (∀ j, j < t.frames.length → Row isByte W' w.heap.size 5 (slV (ss.getD j slc0)) (varsAt c t j).length ((varsAt c t j).map bv)) ∧ Below w.heap.size w W' := by
  refine (callsIn_wide (n := 0)).1 ?_
  refine callsIn_of_wp_marks Try.func68 rfl trivial ?_ rfl
  simp only [Try.ntmps68, List.size_toArray, List.length_cons, List.length_nil, Nat.reduceAdd, Nat.reduceSub, Array.replicate_succ, Array.replicate_zero, List.push_toArray, List.append_toArray, List.nil_append, List.cons_append]
  have HW0 : Hid (w0.heap.size ≤ w.heap.size) := hw0
  have HR := Lib.hid hR
  clear hR hw0
  gi_wp2
  obtain ⟨W1, hW1⟩ : ∃ W1, W1 = w.alloc (.cells #[.slice none 0 0] 28) := ⟨_, rfl⟩
  rw [← hW1]
  have hb1 : Below w.heap.size w W1 := by rw [hW1]; exact ext_alloc _ _
  have hx1 : W1.heap[w.heap.size]? = some (.cells #[.slice none 0 0] 28 (0, 0)) := by rw [hW1]; exact heap_new _ _ _ rfl
  have hlt1 : w.heap.size < W1.heap.size := heap_lt hx1
  have HRA := Lib.hid (HR.out W1 hb1 hlt1)
  have HLT := Lib.hid hlt1
  clear hW1 HR hlt1
  obtain ⟨i0, hi, hz0, hz1, hz2⟩ := info_parts info_u8s
  refine wp_rangeFunc (gf := 69) (lb := #[.pointer (some ⟨sb, 0, none⟩), .pointer (some ⟨kb, 0, none⟩), .pointer (some ⟨cb, 0, none⟩)]) rfl (enters_of Try.func69 (by kernel_rfl) rfl)
    (run1_iter c s t st w0 sb kb cb tb w.heap.size w.heap.size W1 HRA.out) Kpt.trans (fun W l o o' hl h ho => Kpt.put W l o o' (Nat.le_trans HRA.out.low.size hl) h ho)
    (fun k xs W h => by obtain ⟨a, cp, e, _⟩ := h; rw [e]; rfl) (elem_puts _ _ _)
    (fun k W => ∃ v ss, GInv c t w w.heap.size 0 k W v ss) (fun k A B h hb => by obtain ⟨v, ss, h⟩ := h; exact ⟨v, ss, h.below hb⟩) (fun k A l o o' h hl ho hc => by obtain ⟨v, ss, h⟩ := h; exact ⟨v, ss, h.put (Nat.le_trans hb1.size hl) ho hc⟩)
    ⟨.slice none 0 0, [], rfl, hx1, ⟨rfl, .inl ⟨rfl, rfl⟩⟩, fun j hj => absurd hj (by omega), hb1⟩
    (fun xs => { tmps := #[.slice none 0 0, .func (.func 69) #[] #[.pointer (some ⟨sb, 0, none⟩), .pointer (some ⟨kb, 0, none⟩), .pointer (some ⟨cb, 0, none⟩)], .pointer (some ⟨w.heap.size, 0, none⟩), undef, .slice none 0 0, xs.getD 0 undef, .func (.func 69) #[] #[.pointer (some ⟨sb, 0, none⟩), .pointer (some ⟨kb, 0, none⟩), .pointer (some ⟨cb, 0, none⟩)], xs.getD 0 undef, undef, undef, undef, undef, undef], defers := [] }) ?assign ?body ?done
  case assign =>
    rintro l k xs W K ⟨va, vc, rfl, _⟩ hKK
    gi_wp2
    exact hKK
  case body =>
    rintro l k xs W hkN ⟨v, ss, hV⟩ ⟨va, vc, rfl, hrow⟩
    have hc := cell_of_block hV.box 0
    have hc2 : W.cell? ⟨w.heap.size, 0, none⟩ = some v := hc
    have hfew := HRA.out.few
    have hsz : w.heap.size < W.heap.size := heap_lt hV.box
    obtain ⟨N, hN⟩ : ∃ N, N = (varsAt c t k).length := ⟨_, rfl⟩
    rw [← hN] at hrow ⊢
    have HNN := Lib.hid hN
    clear hc hN
    have hfz := unfrozen_of_block hV.box 0
    obtain ⟨ga, gc, rfl⟩ := ownsN_form hV.row
    have HV := Lib.hid hV
    have HROW := Lib.hid hrow
    have HF := Lib.hid (And.intro hkN hfew)
    clear hV hrow hfew hkN
    gi_wp2_with (gi_at_builtin; refine wpListIn_append_own _ rfl _ _ 28 rfl w.heap.size 27 i0 (.slice none 0 0) 1 24 Try.underlying28 hi hz0 hz1 hz2 rfl (by decide) _ _ _ rfl (ownsN_below HV.out.row (ext_alloc _ _)) ⟨W.heap.size, 0, none⟩ 1 1 [.slice va N vc] rfl rfl (cell_one_new _ _ _) (by simp [Value.oneCell']) (by have := HF.out; unfold maxLen; omega) (by have := HF.out; omega) (by simp; omega) ?_; intro v' w1 hown' hgrow _; obtain ⟨a', c', rfl⟩ := ownsN_form hown'; have hbx := heap_grown (heap_below HV.out.box (ext_alloc W (.cells #[.slice va N vc] 27))) hgrow (ownsN_notown (ownsN_below HV.out.row (ext_alloc W (.cells #[.slice va N vc] 27))) (heap_below HV.out.box (ext_alloc W (.cells #[.slice va N vc] 27))) (by decide)); have hc3 : w1.cell? ⟨w.heap.size, 0, none⟩ = some (.slice ga k gc) := cell_of_block hbx 0; have hf3 := unfrozen_of_block hbx 0)
    have hal := ext_alloc W (.cells #[.slice va N vc] 27)
    have hro := ownsN_below HV.out.row hal
    obtain ⟨WA, hWA⟩ : ∃ WA, WA = W.alloc (.cells #[.slice va N vc] 27) := ⟨_, rfl⟩
    rw [← hWA] at hgrow hal hro
    have hne : ∀ (D : Nat) (C : Array Value) (T : TypeId) (fr : Nat × Nat), WA.heap[D]? = some (.cells C T fr) → T ≠ 27 → w1.heap[D]? = some (.cells C T fr) := fun D C T fr hD hT => heap_grown hD hgrow (ownsN_notown hro hD hT)
    have hcl : ∀ q, (Value.slice ga k gc).ownBlock = some q → ∀ o : Obj, WA.heap[q]? = some o → o.isCells = true := fun q hq o ho => by
      rcases hro.2 with ⟨h1, _⟩ | ⟨g, cap, cur, h1, _, h2, _⟩
      · rw [h1] at hq; cases hq
      · rw [h1] at hq
        have : g = q := by simpa [Value.ownBlock] using hq
        subst this
        rw [h2] at ho; cases ho; rfl
    have hbA : Below w.heap.size w WA := ext_trans HV.out.low hal
    have hb1' : Below w.heap.size w w1 := hbA.grown hgrow hbA.size (fun q hq => (hro.lt q hq).1)
    have hset : KeepsFrom W1.heap.size W (w1.setCell ⟨w.heap.size, 0, none⟩ (.slice a' (k + 1) c')) := (keepsFrom_below hal).trans (((KeepsOthers.of_grownBy hgrow (fun j o e ho => hcl j e o ho)).from _).trans ((KeepsOthers.setCell _ _ _).from _))
    have hkp : Kpt w0.heap.size 27 w.heap.size w.heap.size W (w1.setCell ⟨w.heap.size, 0, none⟩ (.slice a' (k + 1) c')) := by
      have h0 : w0.heap.size ≤ w.heap.size := HW0.out
      refine (Kpt.below hal (Nat.le_trans h0 HV.out.low.size)).trans (Kpt.trans (B := w1) ⟨?_, fun D C T fr hD hT _ _ => hne D C T fr hD hT⟩ (Kpt.set w1 ⟨w.heap.size, 0, none⟩ _ h0 (.inl rfl)))
      exact (Below.refl _ WA).grown hgrow (Nat.le_trans h0 hbA.size) (fun q hq => Nat.le_trans h0 (hro.lt q hq).1)
    refine ⟨hset, hkp, .slice a' (k + 1) c', ss ++ [(va, N, vc)], by simp [HV.out.len], box_set hbx _, ?_, fun j hj => ?_, hb1'.setCell (p := ⟨w.heap.size, 0, none⟩) (Nat.le_refl _) _⟩
    · have h1 : w1.ownsRow w.heap.size 27 1 (.slice a' (k + 1) c') (k + 1) ((ss ++ [(va, N, vc)]).map slV) := by simpa [slV] using hown'
      exact ownsN_other h1 fun q hq => Below.heap_setCell w1 ⟨w.heap.size, 0, none⟩ _ q (fun e => (ownsN_notown h1 hbx (by decide)) (by rw [hq, e]))
    · have one : ∀ {x : Slc} {V : List UInt8}, Row isByte WA w.heap.size 5 (slV x) V.length (V.map bv) → Row isByte (w1.setCell ⟨w.heap.size, 0, none⟩ (.slice a' (k + 1) c')) w.heap.size 5 (slV x) V.length (V.map bv) := fun {x V} hx => by
        have h1 := row_grown hx hro hgrow (by decide)
        exact h1.other fun q hq => Below.heap_setCell w1 ⟨w.heap.size, 0, none⟩ _ q (fun e => (h1.not_own hbx (by decide)) (by rw [hq, e]))
      by_cases e : j = k
      · subst e
        have e1 : (ss ++ [(va, N, vc)]).getD j slc0 = (va, N, vc) := by rw [← HV.out.len]; simp
        rw [e1]
        refine one ?_
        rw [← HNN.out]
        exact (HROW.out.below hal).base_le hb1.size
      · have e1 : (ss ++ [(va, N, vc)]).getD j slc0 = ss.getD j slc0 := by simp [List.getD, List.getElem?_append_left (show j < ss.length by rw [HV.out.len]; omega)]
        rw [e1]
        exact one ((HV.out.rows j (by omega)).below hal)
  case done =>
    rintro D W hDle ⟨v, ss, hV⟩ hD
    have hc := cell_of_block hV.box 0
    have hc2 : W.cell? ⟨w.heap.size, 0, none⟩ = some v := hc
    have HV := Lib.hid hV
    have HD := Lib.hid hD
    clear hc hV hD
    gi_wp2
    refine ⟨by simp, .inl ⟨_, _, rfl, run_takeDeferred HD.out, ?_⟩⟩
    exact ⟨_, results_tmp rfl _ _ _, ⟨v, ss, rfl, HV.out.len, owns_put HV.out.row HD.out rfl, fun j hj => row_put (HV.out.rows j hj) HD.out rfl, HV.out.low.grown (grownBy_putObj' _ _ _) HV.out.low.size (fun k e => by cases e; exact Nat.le_trans hb1.size hDle)⟩⟩

set_option maxRecDepth 100000 in
theorem collect_any (c : NormC) (s : CSlots) (t : TraceC) (st : TSlots) (w0 : World) (sb kb cb tb : Nat) (w : World)
    (hw0 : w0.heap.size ≤ w.heap.size) (hR : ∀ W : World, Below w.heap.size w W → w.heap.size < W.heap.size → RunAt c s t st w0 sb kb cb tb w.heap.size w.heap.size W) :
    Calls Try.prog 43 #[.func (.func 69) #[] #[.pointer (some ⟨sb, 0, none⟩), .pointer (some ⟨kb, 0, none⟩), .pointer (some ⟨cb, 0, none⟩)]] w
      fun e W' => ∃ (v : Value) (ss : List Slc), e = .returned v ∧ ss.length = t.frames.length ∧ W'.ownsRow w.heap.size 27 1 v t.frames.length (ss.map slV) ∧ (∀ j, j < t.frames.length → Row isByte W' w.heap.size 5 (slV (ss.getD j slc0)) (varsAt c t j).length ((varsAt c t j).map bv)) ∧ Below w.heap.size w W' := by
  have HA := Lib.hid (appendseq_any c s t st w0 sb kb cb tb w hw0 hR)
  clear hR hw0
  go_enter Try.func43, Try.ntmps43
  go_wp2_with fail
  refine HA.out.mono ?_
  rintro e W' ⟨v, ss, rfl, h1, h2, h3, h4⟩
  have H := Lib.hid (And.intro h1 (And.intro h2 (And.intro h3 h4)))
  clear h1 h2 h3 h4
  go_wp2
  go_ret
  exact ⟨v, ss, rfl, H.out⟩
end Go.Proofs.Ytjmdgbdlhaaefaa
/- sim.Run, by its contract. -/
namespace Go.Proofs.Ytjmdgbdlhaaefaa
open Go Go.RowKit Go.Joins

theorem owns_base {w : World} {base base' sz : Nat} {e : TypeId} {v : Value} {n : Nat} {xs : List Value} (h : w.ownsRow base e sz v n xs) (hb : base' ≤ base) : w.ownsRow base' e sz v n xs := by
  refine ⟨h.1, ?_⟩
  rcases h.2 with h2 | ⟨g, cap, cur, hv, hg, r⟩
  · exact .inl h2
  · exact .inr ⟨g, cap, cur, hv, Nat.le_trans hb hg, r⟩
theorem runat_of {c : NormC} {s : CSlots} {t : TraceC} {st : TSlots} {w w2 w3 W : World} {tb : Nat} (hC : SeesCir w s c) (hT : SeesTr w st t) (hF : FitsC c t) (hs : s.small) (hb : Below w.heap.size w W)
    (hr : w3.heap[w2.heap.size]? = some (.cells #[.int .u8 0, .func (.func 62) #[] #[], .func (.func 63) #[] #[]] 69 (0, 0)) ∧ w3.heap[w2.heap.size + 1]? = some (.cells #[.int .i64 c.ins, .slice s.a1 s.n1 s.c1, .slice s.a2 s.n2 s.c2, .slice s.a3 s.n3 s.c3, .slice s.a4 s.n4 s.c4, .slice s.a5 s.n5 s.c5] 26 (0, 0)) ∧
      w3.heap[w2.heap.size + 2]? = some (.cells #[.slice st.a1 st.n1 st.c1, .int .i64 (st.n2 : Int), .func (.func 70) #[] #[.pointer (some ⟨tb, 0, none⟩)]] 83 (0, 0)) ∧ w3.heap[tb]? = some (.cells #[.int .i64 t.bad, .slice st.a1 st.n1 st.c1, .slice st.a2 st.n2 st.c2] 30 (0, 0)))
    (hz : w2.heap.size ≤ w3.heap.size ∧ tb < w2.heap.size ∧ w2.heap.size + 2 < w3.heap.size) (hb3 : Below w3.heap.size w3 W) (hlt : w3.heap.size < W.heap.size) :
    RunAt c s t st w (w2.heap.size + 2) w2.heap.size (w2.heap.size + 1) tb w3.heap.size w3.heap.size W :=
  { cir := hC, tr := hT, low := hb, may := hF.may, small := hs, init := hF.init, frames := hF.frames, few := hF.few
    feed := heap_below hr.2.2.1 hb3, kind := heap_below hr.1 hb3, box := heap_below hr.2.1 hb3, tbox := heap_below hr.2.2.2 hb3, lt1 := hlt, lt2 := hlt
    ne1 := ⟨by omega, by omega, by omega, by omega⟩, ne2 := ⟨by omega, by omega, by omega, by omega⟩ }

/-- The run, list by list. -/
def runL (c : NormC) (t : TraceC) : List (List UInt8) := (List.range t.frames.length).map (varsAt c t)
/-- What Run answers. -/
def RunPost (c : NormC) (t : TraceC) (w : World) (e : Ending) (w' : World) : Prop :=
  (fitsS c t = true → ∃ (v : Value) (ss : List Slc), e = .returned (.tuple #[v, .int .i64 0]) ∧ ss.length = t.frames.length ∧ w'.ownsRow w.heap.size 27 1 v t.frames.length (ss.map slV) ∧ (∀ j, j < t.frames.length → Row isByte w' w.heap.size 5 (slV (ss.getD j slc0)) (varsAt c t j).length ((varsAt c t j).map bv))) ∧
  (fitsS c t = false → e = .returned (.tuple #[.slice none 0 0, .int .i64 2])) ∧ Below w.heap.size w w'
set_option maxRecDepth 100000 in
set_option maxHeartbeats 3200000 in
theorem run_any2 (c : NormC) (t : TraceC) (s : CSlots) (st : TSlots) (w : World) (h : SeesCir w s c) (ht : SeesTr w st t) (hs : s.small) (hst : st.small) (hlo : -9223372036854775808 ≤ c.ins) (hhi : c.ins < 9223372036854775808) (hb1 : -9223372036854775808 ≤ t.bad ∧ t.bad < 9223372036854775808) :
    Calls Try.prog 14 #[cirV c.ins s, traceV t.bad st] w (RunPost c t w) := by
  have HFIT := Lib.hid (fun W (hb : Below w.heap.size w W) => fits_any c t s st W (h.below hb) (ht.below hb) hs hst hlo hhi hb1)
  have HFC : Hid (fitsS c t = true → FitsC c t) := fits_iff.1
  have HE : Hid (∀ e w', RunPost c t w e w' ↔ (fitsS c t = true → ∃ (v : Value) (ss : List Slc), e = .returned (.tuple #[v, .int .i64 0]) ∧ ss.length = t.frames.length ∧ w'.ownsRow w.heap.size 27 1 v t.frames.length (ss.map slV) ∧ (∀ j, j < t.frames.length → Row isByte w' w.heap.size 5 (slV (ss.getD j slc0)) (varsAt c t j).length ((varsAt c t j).map bv))) ∧ (fitsS c t = false → e = .returned (.tuple #[.slice none 0 0, .int .i64 2])) ∧ Below w.heap.size w w') := fun _ _ => Iff.rfl
  obtain ⟨q, hq⟩ : ∃ q, q = fitsS c t := ⟨_, rfl⟩
  rw [← hq] at HFIT HFC HE
  clear hq
  have HC := Lib.hid h
  have HT := Lib.hid ht
  clear h ht hlo hhi hb1
  unfold cirV traceV at *
  go_enter Try.func14, Try.ntmps14
  go_upto_region 1 with fail
  generalize hW : World.alloc (World.alloc w _) _ = W1
  have hb : Below w.heap.size w W1 := by subst hW; exact ext_trans (ext_alloc _ _) (ext_alloc _ _)
  have hx : W1.heap[w.heap.size]? = some (.cells #[.int .i64 c.ins, .slice s.a1 s.n1 s.c1, .slice s.a2 s.n2 s.c2, .slice s.a3 s.n3 s.c3, .slice s.a4 s.n4 s.c4, .slice s.a5 s.n5 s.c5] 26 (0, 0)) := by subst hW; exact heap_below (heap_new _ _ _ rfl) (ext_alloc _ _)
  have hy : W1.heap[w.heap.size + 1]? = some (.cells #[.int .i64 t.bad, .slice st.a1 st.n1 st.c1, .slice st.a2 st.n2 st.c2] 30 (0, 0)) := by subst hW; exact heap_new _ _ _ (by simp)
  have HB := Lib.hid hb
  have HX := Lib.hid hx
  have HY := Lib.hid hy
  clear hW hb hx hy
  have p0 := cell_of_block HX.out 0
  have p1 := cell_of_block HX.out 1
  have p2 := cell_of_block HX.out 2
  have p3 := cell_of_block HX.out 3
  have p4 := cell_of_block HX.out 4
  have p5 := cell_of_block HX.out 5
  have r0 := cell_of_block HY.out 0
  have r1 := cell_of_block HY.out 1
  have r2 := cell_of_block HY.out 2
  go_wp2_with fail
  refine (HFIT.out W1 HB.out).mono ?_
  rintro e W2 ⟨rfl, hb⟩
  have HX2 := Lib.hid (heap_below HX.out hb)
  have HY2 := Lib.hid (heap_below HY.out hb)
  have HB2 := Lib.hid (ext_trans HB.out hb)
  clear hb p0 p1 p2 p3 p4 p5 r0 r1 r2 HFIT HX HY HB
  cases q with
  | false =>
    go_wp2
    go_ret2
    exact (HE.out _ _).2 ⟨(fun h => by cases h), fun _ => rfl, HB2.out⟩
  | true =>
    have HF := Lib.hid (HFC.out rfl)
    have HSG : Hid (∀ W, Calls Try.prog 34 #[] W fun e w' => e = .returned (.agg #[.int .u8 0, .func (.func 62) #[] #[], .func (.func 63) #[] #[]]) ∧ Below W.heap.size W w') := single_any
    have HAL := Lib.hid (fun W => alone_any t.bad st W)
    unfold traceV at HAL
    have HRN := Lib.hid (run_any #[.int .u8 0, .func (.func 62) #[] #[], .func (.func 63) #[] #[]] #[.int .i64 c.ins, .slice s.a1 s.n1 s.c1, .slice s.a2 s.n2 s.c2, .slice s.a3 s.n3 s.c3, .slice s.a4 s.n4 s.c4, .slice s.a5 s.n5 s.c5])
    have HS0 := Lib.hid (keep63 HX2.out HY2.out)
    clear HFC
    go_wp2_with fail
    go_region_held3 (fun w' => w'.cell? ⟨w.heap.size, 0, none⟩ = some (.int .i64 c.ins) ∧ w'.cell? ⟨w.heap.size, 1, none⟩ = some (.slice s.a1 s.n1 s.c1) ∧ w'.cell? ⟨w.heap.size, 2, none⟩ = some (.slice s.a2 s.n2 s.c2) ∧ w'.cell? ⟨w.heap.size, 3, none⟩ = some (.slice s.a3 s.n3 s.c3) ∧ w'.cell? ⟨w.heap.size, 4, none⟩ = some (.slice s.a4 s.n4 s.c4) ∧ w'.cell? ⟨w.heap.size, 5, none⟩ = some (.slice s.a5 s.n5 s.c5) ∧ w'.cell? ⟨w.heap.size + 1, 0, none⟩ = some (.int .i64 t.bad) ∧ w'.cell? ⟨w.heap.size + 1, 1, none⟩ = some (.slice st.a1 st.n1 st.c1) ∧ w'.cell? ⟨w.heap.size + 1, 2, none⟩ = some (.slice st.a2 st.n2 st.c2))
      (first | with_reducible exact HS0.out | with_reducible exact keep63 (heap_below HX2.out ((Below.refl _ W2).drew)) (heap_below HY2.out ((Below.refl _ W2).drew)) | with_reducible exact HS1.out | with_reducible exact HS2.out | with_reducible exact HS3.out | with_reducible exact HS4.out | go_keep)
      (first
        | (go_at_call 34; (with_reducible refine (HSG.out _).mono ?_); rintro e s1 ⟨rfl, b1⟩; have HB3 := Lib.hid (below_undrew b1); have HS1 := Lib.hid (keep63 (heap_below HX2.out HB3.out) (heap_below HY2.out HB3.out)); clear b1)
        | (go_at_call 45; (with_reducible refine (HAL.out _).mono ?_); rintro e s2 ⟨rfl, htb, b2⟩; have HTB := Lib.hid htb; have HB4 := Lib.hid (ext_trans HB3.out b2); have HS2 := Lib.hid (keep63 (heap_below HX2.out HB4.out) (heap_below HY2.out HB4.out)); clear b2 htb)
        | (go_at_call 44; (with_reducible refine (HRN.out _ _).mono ?_); rintro e s3 ⟨rfl, hkb, hcb, hsb, b3⟩; have HRB := Lib.hid (And.intro hkb (And.intro hcb (And.intro hsb (heap_below HTB.out b3)))); have HSZ := Lib.hid (And.intro b3.size (And.intro (heap_lt HTB.out) (heap_lt hsb))); have HB5 := Lib.hid (ext_trans HB4.out b3); have HS3 := Lib.hid (keep63 (heap_below HX2.out HB5.out) (heap_below HY2.out HB5.out)); clear b3 hkb hcb hsb)
        | (go_at_call 43; (with_reducible refine (collect_any c s t st w _ _ _ _ _ (ext_trans HB2.out HB5.out).size (fun W hb hlt => runat_of HC.out HT.out HF.out hs (ext_trans (ext_trans HB2.out HB5.out) hb) HRB.out HSZ.out hb hlt)).mono ?_); rintro e s4 ⟨v4, ss4, rfl, hl4, ho4, hr4, b4⟩; have HO4 := Lib.hid (And.intro hl4 (And.intro ho4 hr4)); have HB6 := Lib.hid (ext_trans HB5.out b4); have HS4 := Lib.hid (keep63 (heap_below HX2.out HB6.out) (heap_below HY2.out HB6.out)); clear b4 hl4 ho4 hr4))
    all_goals go_wp2
    all_goals go_ret2
    all_goals exact (HE.out _ _).2 ⟨fun _ => ⟨v4, ss4, rfl, HO4.out.1, owns_base HO4.out.2.1 (ext_trans HB2.out HB5.out).size, fun j hj => (HO4.out.2.2 j hj).base_le (ext_trans HB2.out HB5.out).size⟩, (fun h => by cases h), ext_trans HB2.out HB6.out⟩
end Go.Proofs.Ytjmdgbdlhaaefaa
/- What a run answers: rows of one length that a slice of slices reads as. -/
namespace Go.Proofs.Ytjmdgbdlhaaefaa
open Go Go.RowKit Go.Joins
theorem keep9 {w w' : World} {a0 a1 a2 a3 a4 a5 a6 a7 a8 : Addr} {v0 v1 v2 v3 v4 v5 v6 v7 v8 : Value} (h : w.cell? a0 = some v0 ∧ w.cell? a1 = some v1 ∧ w.cell? a2 = some v2 ∧ w.cell? a3 = some v3 ∧ w.cell? a4 = some v4 ∧ w.cell? a5 = some v5 ∧ w.cell? a6 = some v6 ∧ w.cell? a7 = some v7 ∧ w.cell? a8 = some v8) (hb : Below w.heap.size w w') : w'.cell? a0 = some v0 ∧ w'.cell? a1 = some v1 ∧ w'.cell? a2 = some v2 ∧ w'.cell? a3 = some v3 ∧ w'.cell? a4 = some v4 ∧ w'.cell? a5 = some v5 ∧ w'.cell? a6 = some v6 ∧ w'.cell? a7 = some v7 ∧ w'.cell? a8 = some v8 := by
  obtain ⟨h0, h1, h2, h3, h4, h5, h6, h7, h8⟩ := h
  have one : ∀ {a : Addr} {v : Value}, w.cell? a = some v → w'.cell? a = some v := fun {a v} h => (hb.cell (World.block_lt_of_cell? _ _ h)).trans h
  exact ⟨one h0, one h1, one h2, one h3, one h4, one h5, one h6, one h7, one h8⟩
/-- Rows of one length that a slice of slices reads as. -/
structure RowsB (w : World) (b o n c : Nat) (ss : List Slc) (N : Nat) (F : Nat → List UInt8) : Prop where
  list : Sees w (some ⟨b, o, none⟩) n c (ss.map slV)
  len : ss.length = n
  rows : ∀ j, j < n → ∃ rb ro rc, ss.getD j slc0 = (some ⟨rb, ro, none⟩, N, rc) ∧ Sees w (some ⟨rb, ro, none⟩) N rc ((F j).map bv)
theorem RowsB.below {w w' : World} {b o n c : Nat} {ss : List Slc} {N : Nat} {F : Nat → List UInt8} (h : RowsB w b o n c ss N F) (hb : Below w.heap.size w w') : RowsB w' b o n c ss N F :=
  ⟨h.list.below hb, h.len, fun j hj => by
    obtain ⟨rb, ro, rc, e, hs⟩ := h.rows j hj
    exact ⟨rb, ro, rc, e, hs.below hb⟩⟩
theorem RowsB.at {w : World} {b o n c : Nat} {ss : List Slc} {N : Nat} {F : Nat → List UInt8} (h : RowsB w b o n c ss N F) (k : Nat) (hk : k < n) :
    ∃ rb ro rc, w.cell? ⟨b, o + k, none⟩ = some (.slice (some ⟨rb, ro, none⟩) N rc) ∧ (∀ m, m < N → w.cell? ⟨rb, ro + m, none⟩ = some (.int .u8 (((F k).getD m 0).toNat : Int))) := by
  obtain ⟨rb, ro, rc, e, hs⟩ := h.rows k hk
  refine ⟨rb, ro, rc, ?_, fun m hm => hs.byte m hm⟩
  rw [(h.list.cell k hk).2, List.getElem?_map, List.getElem?_eq_getElem (show k < ss.length by rw [h.len]; exact hk)]
  have : ss[k]'(by rw [h.len]; exact hk) = ss.getD k slc0 := by simp [List.getD, List.getElem?_eq_getElem (show k < ss.length by rw [h.len]; exact hk)]
  rw [this, e]; rfl
theorem runpost_yes {c : NormC} {t : TraceC} {w w' : World} {e : Ending} (hF : FitsC c t) (h : RunPost c t w e w') :
    ∃ b o cc ss, e = .returned (.tuple #[.slice (some ⟨b, o, none⟩) t.frames.length cc, .int .i64 0]) ∧ RowsB w' b o t.frames.length cc ss (1 + varsN c) (varsAt c t) ∧ Below w.heap.size w w' := by
  obtain ⟨h1, _, hb⟩ := h
  obtain ⟨v, ss, e1, hl, ho, hr⟩ := h1 (fits_iff.2 hF)
  obtain ⟨a, cc, rfl, _, hs⟩ := Sees.owned ho
  obtain ⟨b, o, rfl, _⟩ := hs.addr (by have := hF.one; omega)
  refine ⟨b, o, cc, ss, e1, ⟨hs, hl, fun j hj => ?_⟩, hb⟩
  have h2 := hr j hj
  have hlen := varsAt_len c t hF.init hF.frames j hj
  rw [hlen] at h2
  obtain ⟨x, hx⟩ : ∃ x : Slc, x = ss.getD j slc0 := ⟨_, rfl⟩
  rw [← hx] at h2 ⊢
  obtain ⟨xa, xn, xc⟩ := x
  unfold slV at h2
  simp only at h2
  obtain ⟨e2, h3⟩ := row_sees_slice h2
  subst e2
  obtain ⟨rb, ro, e3, _⟩ := h3.addr (by omega)
  subst e3
  exact ⟨rb, ro, xc, rfl, h3⟩
end Go.Proofs.Ytjmdgbdlhaaefaa
/- The reference's CopyTrace, by its contract. -/
namespace Go.Proofs.Ytjmdgbdlhaaefaa
open Go Go.RowKit Go.Joins

/-- A trace's slots own what they read; the list of frames is a row that may have room. -/
structure OwnT3 (w : World) (base : Nat) (s : TSlots) (t : TraceC) : Prop where
  o1 : Row isByte w base 5 (.slice s.a1 s.n1 s.c1) t.init.length (t.init.map bv)
  o2 : w.ownsRow base 27 1 (.slice s.a2 s.n2 s.c2) t.frames.length (s.ss.map slV)
  len : s.ss.length = t.frames.length
  rows : ∀ j, j < t.frames.length → Row isByte w base 5 (slV (s.ss.getD j slc0)) (t.frames.getD j []).length ((t.frames.getD j []).map bv)
  ap : ApartL ((s.a1, s.n1, s.c1) :: s.ss)
theorem OwnT3.below {w w' : World} {base : Nat} {s : TSlots} {t : TraceC} (h : OwnT3 w base s t) (hb : Below w.heap.size w w') : OwnT3 w' base s t :=
  ⟨h.o1.below hb, ownsN_below h.o2 hb, h.len, fun j hj => (h.rows j hj).below hb, h.ap⟩
theorem owns_sees_slice {w : World} {base : Nat} {e : TypeId} {a : Option Addr} {n c m : Nat} {xs : List Value} (h : w.ownsRow base e 1 (.slice a n c) m xs) : n = m ∧ Sees w a n c xs := by
  obtain ⟨a', c', e1, _, hs⟩ := Sees.owned h
  cases e1
  exact ⟨rfl, hs⟩
theorem OwnT3.sees {w : World} {base : Nat} {s : TSlots} {t : TraceC} (h : OwnT3 w base s t) : SeesTr w s t :=
  ⟨(row_sees_slice h.o1).2, ⟨(owns_sees_slice h.o2).2, h.len, fun k hk => (row_sees_slice (h.rows k hk)).2⟩⟩

/-- While the copy is made: k frames have been copied. -/
structure RcInv (w : World) (bad : Int) (F : List (List UInt8)) (I : List UInt8) (a1 : Option Addr) (n1 c1 : Nat) (a2 : Option Addr) (n2 c2 k : Nat) (W : World) (v : Value) (si : Slc) (ss : List Slc) : Prop where
  box : W.heap[w.heap.size + 1 + 1]? = some (.cells #[.int .i64 bad, slV si, v] 30 (0, 0))
  tb : W.heap[w.heap.size]? = some (.cells #[.int .i64 bad, .slice a1 n1 c1, .slice a2 n2 c2] 30 (0, 0))
  rb : W.heap[w.heap.size + 1]? = some (.cells #[.int .i64 0, .slice none 0 0, .slice none 0 0] 30 (0, 0))
  init : Row isByte W w.heap.size 5 (slV si) I.length (I.map bv)
  row : W.ownsRow w.heap.size 27 1 v k (ss.map slV)
  len : ss.length = k
  rows : ∀ j, j < k → Row isByte W w.heap.size 5 (slV (ss.getD j slc0)) (F.getD j []).length ((F.getD j []).map bv)
  ap : ApartL (si :: ss)
  low : Below w.heap.size w W

theorem OwnT3.set3 {w : World} {base G : Nat} {s : TSlots} {t : TraceC} {C : Array Value} {fr : Nat × Nat} {u0 u1 u2 : Value} (h : OwnT3 w base s t) (hG : w.heap[G]? = some (.cells C 30 fr)) : OwnT3 (((w.setCell ⟨G, 0, .none⟩ u0).setCell ⟨G, 1, .none⟩ u1).setCell ⟨G, 2, .none⟩ u2) base s t := by
  have row : ∀ {v : Value} {n : Nat} {xs : List Value}, Row isByte w base 5 v n xs → Row isByte (((w.setCell ⟨G, 0, .none⟩ u0).setCell ⟨G, 1, .none⟩ u1).setCell ⟨G, 2, .none⟩ u2) base 5 v n xs := fun hr =>
    hr.other fun q hq => set3_other G q (fun e => (hr.not_own hG (by decide)) (by rw [hq, e])) _ _ _
  exact ⟨row h.o1, ownsN_other h.o2 fun q hq => set3_other G q (fun e => (ownsN_notown h.o2 hG (by decide)) (by rw [hq, e])) _ _ _, h.len, fun j hj => row (h.rows j hj), h.ap⟩
theorem keep3c {w w' : World} {a0 a1 a2 : Addr} {v0 v1 v2 : Value} (h : w.cell? a0 = some v0 ∧ w.cell? a1 = some v1 ∧ w.cell? a2 = some v2) (hb : Below w.heap.size w w') : w'.cell? a0 = some v0 ∧ w'.cell? a1 = some v1 ∧ w'.cell? a2 = some v2 := by
  obtain ⟨h0, h1, h2⟩ := h
  have one : ∀ {a : Addr} {v : Value}, w.cell? a = some v → w'.cell? a = some v := fun {a v} h => (hb.cell (World.block_lt_of_cell? _ _ h)).trans h
  exact ⟨one h0, one h1, one h2⟩
theorem apart_snoc {L : List Slc} {x : Slc} (h : ApartL L) (h2 : ∀ j, j < L.length → ∀ g, (slV (L.getD j slc0)).ownBlock = some g → (slV x).ownBlock ≠ some g) : ApartL (L ++ [x]) := by
  intro i j hij hj g hg
  have hi : i < L.length := by simp at hj; omega
  have e1 : (L ++ [x]).getD i slc0 = L.getD i slc0 := by simp [List.getD, List.getElem?_append_left hi]
  rw [e1] at hg
  by_cases e : j < L.length
  · have e2 : (L ++ [x]).getD j slc0 = L.getD j slc0 := by simp [List.getD, List.getElem?_append_left e]
    rw [e2]; exact h i j hij e g hg
  · have e3 : j = L.length := by simp at hj; omega
    have e2 : (L ++ [x]).getD j slc0 = x := by rw [e3]; simp
    rw [e2]; exact h2 i hi g hg

set_option maxRecDepth 100000 in
set_option maxHeartbeats 6400000 in
theorem refcopy_any (t : TraceC) (s : TSlots) (w : World) (h : SeesTr w s t) (hs : s.small) :
    Calls Try.prog 8 #[traceV t.bad s] w fun e w' => ∃ s' : TSlots, e = .returned (traceV t.bad s') ∧ OwnT3 w' w.heap.size s' t ∧ s'.small ∧ Below w.heap.size w w' := by
  obtain ⟨i0, hi, hz0, hz1, hz2⟩ := info_parts info_byte
  obtain ⟨iS, hiS, hzS0, hzS1, hzS2⟩ := info_parts info_u8s
  obtain ⟨a1, n1, c1, a2, n2, c2, ss0⟩ := s
  obtain ⟨hs1, hs2, hs3⟩ := hs
  simp only at hs1 hs2 hs3
  obtain ⟨bad, init, fs⟩ := t
  obtain ⟨q1, q2⟩ := h
  simp only at q1 q2
  have hn2 := q2.n_eq
  have hn1 : init.length = n1 := q1.lenMap
  have H1 := Lib.hid q1
  have H2 := Lib.hid q2
  have HN1 := Lib.hid hn1
  have HN2 := Lib.hid hn2
  have HSL := Lib.hid hs3
  clear q1 q2 hn1 hn2 hs3
  unfold traceV
  go_enter Try.func8, Try.ntmps8
  go_upto_region 2 with fail
  generalize hW : World.alloc (World.alloc (World.alloc w _) _) _ = W1
  have B1 : Below w.heap.size w W1 := by subst hW; exact ext_trans (ext_alloc _ _) (ext_trans (ext_alloc _ _) (ext_alloc _ _))
  have hT : W1.heap[w.heap.size]? = some (.cells #[.int .i64 bad, .slice a1 n1 c1, .slice a2 n2 c2] 30 (0, 0)) := by subst hW; exact heap_below (heap_below (heap_new _ _ _ rfl) (ext_alloc _ _)) (ext_alloc _ _)
  have hR : W1.heap[w.heap.size + 1]? = some (.cells #[.int .i64 0, .slice none 0 0, .slice none 0 0] 30 (0, 0)) := by subst hW; exact heap_below (heap_new _ _ _ (by simp)) (ext_alloc _ _)
  have hX : W1.heap[w.heap.size + 1 + 1]? = some (.cells #[.int .i64 bad, .slice none 0 0, .slice none 0 0] 30 (0, 0)) := by subst hW; exact heap_new _ _ _ (by simp)
  clear hW
  have p1 := cell_of_block hT 1
  have p2 := cell_of_block hX 1
  have p3 := unfrozen_of_block hX 1
  have HB := Lib.hid B1
  have HT := Lib.hid hT
  have HR := Lib.hid hR
  have HX := Lib.hid hX
  clear B1 hT hR hX
  go_wp2_with (at_builtin; refine wpList_append_row isByte _ rfl _ _ 27 rfl w.heap.size 5 i0 (.int .u8 0) 1 Try.underlying27 hi hz0 hz1 hz2 rfl isByte_zero _ _ _ rfl (Row.nil _ _ _ _) a1 n1 c1 (init.map bv) rfl (H1.out.below HB.out) (bv_one _) (isByte_all _) (by unfold maxLen; omega) (by omega) HB.out.size ?_; intro v1 w1 r1 g1 _; obtain ⟨ia, ic, rfl⟩ := r1.form; have hb1 : Below W1.heap.size W1 w1 := (Below.refl _ W1).grown g1 (Nat.le_refl _) (fun k hk => by cases hk); have p4 := cell_of_block (heap_below HX.out hb1) 1; have p5 := unfrozen_of_block (heap_below HX.out hb1) 1)
  obtain ⟨si, hsi⟩ : ∃ si : Slc, si = (ia, 0 + n1, ic) := ⟨_, rfl⟩
  have hro : Row isByte w1 w.heap.size 5 (slV si) init.length (init.map bv) := by rw [hsi, HN1.out]; simpa [slV] using r1
  have hXX := block_setCell (heap_below HX.out hb1) (i := 1) (.slice ia (0 + n1) ic)
  generalize hW : World.setCell w1 _ _ = W2
  have hx2 : W2.heap[w.heap.size + 1 + 1]? = some (.cells #[.int .i64 bad, slV si, .slice none 0 0] 30 (0, 0)) := by
    subst hW; rw [hsi]; simpa [slV] using hXX
  have hne : ∀ D : Nat, D ≠ w.heap.size + 1 + 1 → W2.heap[D]? = w1.heap[D]? := fun D hD => by subst hW; exact Below.heap_setCell w1 ⟨w.heap.size + 1 + 1, 1, none⟩ _ D hD
  have hro2 : Row isByte W2 w.heap.size 5 (slV si) init.length (init.map bv) := hro.other fun q hq => hne q (fun e => (hro.not_own (heap_below HX.out hb1) (by decide)) (by rw [hq, e]))
  have hb2 : Below w.heap.size w W2 := by
    subst hW
    exact (ext_trans HB.out hb1).setCell (p := ⟨w.heap.size + 1 + 1, 1, none⟩) (by show w.heap.size ≤ w.heap.size + 1 + 1; omega) _
  have ht2 : W2.heap[w.heap.size]? = some (.cells #[.int .i64 bad, .slice a1 n1 c1, .slice a2 n2 c2] 30 (0, 0)) := (hne _ (by omega)).trans (heap_below HT.out hb1)
  have hr2 : W2.heap[w.heap.size + 1]? = some (.cells #[.int .i64 0, .slice none 0 0, .slice none 0 0] 30 (0, 0)) := (hne _ (by omega)).trans (heap_below HR.out hb1)
  have hlen2 : (si.2.1 : Nat) = init.length := (row_len (show Row isByte W2 w.heap.size 5 (.slice si.1 si.2.1 si.2.2) _ _ from hro2)).symm
  have HLEN2 := Lib.hid hlen2
  have HRO := Lib.hid hro2
  have HT2 := Lib.hid ht2
  have HR2 := Lib.hid hr2
  have HX2 := Lib.hid hx2
  have HB2 := Lib.hid hb2
  have HSI := Lib.hid hsi
  clear hW r1 g1 hb1 hro hXX hx2 hne hro2 hb2 ht2 hr2 hsi p1 p2 p3 p4 p5 HB HT HR HX hlen2
  go_wp2
  go_loopw [4, 5] (fun i _ wr => ∃ (k : Nat) (va : Option Addr) (vc : Nat) (ss : List Slc), k ≤ n2 ∧ i = .int .i64 k ∧ Hid (RcInv w bad fs init a1 n1 c1 a2 n2 c2 k wr (.slice va k vc) si ss)) (fun i _ _ => n2 - (intOf i).toNat)
  case atStart => exact ⟨0, none, 0, [], Nat.zero_le _, rfl, HX2.out, HT2.out, HR2.out, HRO.out, ⟨rfl, .inl ⟨rfl, rfl⟩⟩, rfl, fun j hj => absurd hj (by omega), (fun i j hij hj => by simp at hj; omega), HB2.out⟩
  case round =>
    clear HX2 HT2 HR2 HRO HB2
    obtain ⟨k, va, vc, ss, hk, rfl, hI⟩ := hrel
    have p1 := cell_of_block hI.out.tb 2
    by_cases hlt : k < n2
    · obtain ⟨bb, off, rfl, hbw⟩ := H2.out.row.addr (show 0 < n2 by omega)
      have hcx := (H2.out.below hI.out.low).cellAt k hlt
      have hsee := (H2.out.below hI.out.low).each k (by rw [HN2.out]; exact hlt)
      have hsl := HSL.out (ss0.getD k slc0) (getD_mem (by rw [H2.out.len, HN2.out]; exact hlt))
      obtain ⟨x, hx⟩ : ∃ x : Slc, x = ss0.getD k slc0 := ⟨_, rfl⟩
      rw [← hx] at hcx hsee hsl
      obtain ⟨xa, xn, xc⟩ := x
      simp only at hcx hsee hsl
      have HXN := Lib.hid hsl
      have HKN : Hid (k < n2 ∧ n2 ≤ 1048576) := ⟨hlt, hs2⟩
      have HSK := Lib.hid hsee
      have HBW := Lib.hid hbw
      have hI1 : ((k : Nat) : Int) < (n2 : Int) := by omega
      have hI2 : (0 : Int) ≤ (k : Int) := by omega
      have W1' : IntKind.i64.wrap ((k : Int) + 1) = (k : Int) + 1 := IntWalk.i64_in _ (by omega)
      have p0 : wr.cell? ⟨w.heap.size + 1 + 1, 2, none⟩ = some (.slice va k vc) := cell_of_block hI.out.box 2
      have p2 := hcx
      have hxl : xn = (fs.getD k []).length := hsee.lenMap.symm
      have HXL := Lib.hid hxl
      clear hx hcx hsee hsl hbw hxl
      go_upto_region 7 with fail
      have HS0 := Lib.hid (And.intro p0 (And.intro p1 p2))
      have HSD := Lib.hid (keep3c HS0.out ((Below.refl _ wr).drew))
      have HSK2 := Lib.hid (HSK.out.below ((Below.refl _ wr).drew))
      refine wp_region_noPanic ?_
      refine wp_region_peelN 12 (by kernel_rfl) rfl (by simp only [List.getElem?_toArray, List.getElem?_cons_zero, List.getElem?_cons_succ]; rfl) (by kernel_rfl) ?_
      simp only [List.pop_toArray, List.dropLast_cons_cons, List.dropLast_singleton]
      refine wpAny_of_held (S := fun w' => w'.cell? ⟨w.heap.size + 1 + 1, 2, none⟩ = some (.slice va k vc) ∧ w'.cell? ⟨w.heap.size, 2, none⟩ = some (.slice (some ⟨bb, off, none⟩) n2 c2) ∧ w'.cell? ⟨bb, off + k, none⟩ = some (.slice xa xn xc)) _ _ _ _ ?_
      refine wpAnyH_take (i := 0) (v := ?_) (by simp only [List.getElem?_toArray, List.getElem?_cons_zero]; rfl) (by kernel_rfl) (by kernel_rfl) (by kernel_rfl) (fun _ _ _ h => h) (Or.inl ⟨by rfl, ?_⟩) HSD.out ?_
      rotate_left
      · intro w hSw
        (try dsimp only at hSw)
        obtain ⟨q0_, q1_, q2_⟩ := hSw
        go_simp
        try with_reducible rfl
      try simp only [Act.put, List.setIfInBounds_toArray, List.set_cons_zero, List.set_cons_succ]
      refine wpAnyH_take (i := 1) (v := ?_) (by simp only [List.getElem?_toArray, List.getElem?_cons_zero, List.getElem?_cons_succ]; rfl) (by kernel_rfl) (by kernel_rfl) (by kernel_rfl) (fun _ _ _ h => h) (Or.inl ⟨by rfl, ?_⟩) HSD.out ?_
      rotate_left
      · intro w hSw
        (try dsimp only at hSw)
        obtain ⟨q0_, q1_, q2_⟩ := hSw
        go_simp
        try with_reducible rfl
      try simp only [Act.put, List.setIfInBounds_toArray, List.set_cons_zero, List.set_cons_succ]
      refine wpAnyH_take (i := 2) (v := ?_) (by simp only [List.getElem?_toArray, List.getElem?_cons_zero, List.getElem?_cons_succ]; rfl) (by kernel_rfl) (by kernel_rfl) (by kernel_rfl) (fun _ _ _ h => h) (Or.inl ⟨by rfl, ?_⟩) HSD.out ?_
      rotate_left
      · intro w hSw
        (try dsimp only at hSw)
        obtain ⟨q0_, q1_, q2_⟩ := hSw
        go_simp
        try with_reducible rfl
      try simp only [Act.put, List.setIfInBounds_toArray, List.set_cons_zero, List.set_cons_succ]
      refine wpAnyH_take (i := 3) (v := ?_) (by simp only [List.getElem?_toArray, List.getElem?_cons_zero, List.getElem?_cons_succ]; rfl) (by kernel_rfl) (by kernel_rfl) (by kernel_rfl) (fun _ _ _ h => h) (Or.inl ⟨by rfl, ?_⟩) HSD.out ?_
      rotate_left
      · intro w hSw
        (try dsimp only at hSw)
        obtain ⟨q0_, q1_, q2_⟩ := hSw
        go_simp
        try with_reducible rfl
      try simp only [Act.put, List.setIfInBounds_toArray, List.set_cons_zero, List.set_cons_succ]
      refine wpAnyH_take (i := 4) (v := ?_) (by simp only [List.getElem?_toArray, List.getElem?_cons_zero, List.getElem?_cons_succ]; rfl) (by kernel_rfl) (by kernel_rfl) (by kernel_rfl) (fun _ _ _ h => h) (Or.inl ⟨by rfl, ?_⟩) HSD.out ?_
      rotate_left
      · intro w hSw
        (try dsimp only at hSw)
        obtain ⟨q0_, q1_, q2_⟩ := hSw
        go_simp
        try with_reducible rfl
      try simp only [Act.put, List.setIfInBounds_toArray, List.set_cons_zero, List.set_cons_succ]
      refine wpAnyH_take (i := 5) (v := ?_) (by simp only [List.getElem?_toArray, List.getElem?_cons_zero, List.getElem?_cons_succ]; rfl) (by kernel_rfl) (by kernel_rfl) (by kernel_rfl) (fun _ _ _ h => h) (Or.inl ⟨by rfl, ?_⟩) HSD.out ?_
      rotate_left
      · intro w hSw
        (try dsimp only at hSw)
        obtain ⟨q0_, q1_, q2_⟩ := hSw
        go_simp
        try with_reducible rfl
      try simp only [Act.put, List.setIfInBounds_toArray, List.set_cons_zero, List.set_cons_succ]
      refine wpAnyH_take (i := 6) (v := ?_) (by simp only [List.getElem?_toArray, List.getElem?_cons_zero, List.getElem?_cons_succ]; rfl) (by kernel_rfl) (by kernel_rfl) (by kernel_rfl) (fun _ _ _ h => h) (Or.inl ⟨by rfl, ?_⟩) HSD.out ?_
      rotate_left
      · intro w hSw
        (try dsimp only at hSw)
        obtain ⟨q0_, q1_, q2_⟩ := hSw
        go_simp
        try with_reducible rfl
      try simp only [Act.put, List.setIfInBounds_toArray, List.set_cons_zero, List.set_cons_succ]
      refine wpAnyH_take (i := 7) (v := ?_) (by simp only [List.getElem?_toArray, List.getElem?_cons_zero, List.getElem?_cons_succ]; rfl) (by kernel_rfl) (by kernel_rfl) (by kernel_rfl) (fun _ _ _ h => h) (Or.inl ⟨by rfl, ?_⟩) HSD.out ?_
      rotate_left
      · intro w hSw
        (try dsimp only at hSw)
        obtain ⟨q0_, q1_, q2_⟩ := hSw
        go_simp
        try with_reducible rfl
      try simp only [Act.put, List.setIfInBounds_toArray, List.set_cons_zero, List.set_cons_succ]
      refine wpAnyH_ready (rs := [8]) (by kernel_rfl) (by simp) ?_
      refine AllReadyH.cons (by simp only [List.getElem?_toArray, List.getElem?_cons_zero, List.getElem?_cons_succ]; rfl) (fun K hK => ?_) AllReadyH.nil
      refine step_append_row isByte _ rfl _ _ 27 rfl wr.heap.size 5 i0 (.int .u8 0) 1 Try.underlying27 hi hz0 hz1 hz2 rfl isByte_zero _ _ _ (by simp [Act.eval]) (Row.nil _ _ _ _) xa xn xc ((fs.getD k []).map bv) (by simp [Act.eval]) HSK2.out (bv_one _) (isByte_all _) (by unfold maxLen; have := HXN.out; omega) (by have := HXN.out; omega) (Nat.le_refl _) ?_
      intro v3 w3 r3 g3
      rw [Nat.zero_add, List.nil_append] at r3
      obtain ⟨ea, ec, rfl⟩ := r3.form
      have hb3 : Below wr.heap.size wr w3 := ((Below.refl _ wr).drew).grown g3 (Nat.le_refl _) (fun k hk => by cases hk)
      have HB3 := Lib.hid hb3
      have R3 := Lib.hid r3
      have HS3 := Lib.hid (keep3c HS0.out hb3)
      clear r3 g3 hb3
      refine hK.out _ _ HS3.out (fun _ => ?_)
      clear hK K
      try simp only [Act.put, List.setIfInBounds_toArray, List.set_cons_zero, List.set_cons_succ]
      refine wpAnyH_ready (rs := [9]) (by kernel_rfl) (by simp) ?_
      refine AllReadyH.cons (by simp only [List.getElem?_toArray, List.getElem?_cons_zero, List.getElem?_cons_succ]; rfl) (fun K hK => ?_) AllReadyH.nil
      go_simp
      refine hK.out _ _ (keep3c HS3.out (ext_alloc _ _)) (fun _ => ?_)
      clear hK K
      try simp only [Act.put, List.setIfInBounds_toArray, List.set_cons_zero, List.set_cons_succ]
      have HB4 := Lib.hid (ext_trans HB3.out (ext_alloc w3 (.cells #[.slice ea xn ec] 27)))
      have HOW := Lib.hid (ownsN_below hI.out.row HB4.out)
      refine wpAnyH_ready (rs := [10]) (by kernel_rfl) (by simp) ?_
      refine AllReadyH.cons (by simp only [List.getElem?_toArray, List.getElem?_cons_zero, List.getElem?_cons_succ]; rfl) (fun K hK => ?_) AllReadyH.nil
      refine step_append_own_at rfl _ _ 28 rfl w.heap.size 27 iS (.slice none 0 0) 1 24 Try.underlying28 hiS hzS0 hzS1 hzS2 rfl (by decide) (.slice va k vc) k (ss.map slV) (by simp [Act.eval]) HOW.out ⟨w3.heap.size, 0, none⟩ 1 1 [.slice ea xn ec] (by simp [Act.eval]) rfl (cell_one_new _ _ _) (by simp [Value.oneCell']) (by unfold maxLen; have := HKN.out; omega) (by have := HKN.out; omega) (ext_trans hI.out.low HB4.out).size ?_
      intro v5 w5 r5 g5
      obtain ⟨fa, fc, rfl⟩ := ownsN_form r5
      have hx5 := heap_grown (heap_below hI.out.box HB4.out) g5 (ownsN_notown HOW.out (heap_below hI.out.box HB4.out) (by decide))
      have ht5 := heap_grown (heap_below hI.out.tb HB4.out) g5 (ownsN_notown HOW.out (heap_below hI.out.tb HB4.out) (by decide))
      have HS5 : Hid (w5.cell? ⟨w.heap.size + 1 + 1, 2, none⟩ = some (.slice va k vc) ∧ w5.cell? ⟨w.heap.size, 2, none⟩ = some (.slice (some ⟨bb, off, none⟩) n2 c2) ∧ w5.cell? ⟨bb, off + k, none⟩ = some (.slice xa xn xc)) := ⟨cell_of_block hx5 2, cell_of_block ht5 2, by rw [World.cell?_of_block (w := w3.alloc (.cells #[.slice ea xn ec] 27)) (g5.block bb (Nat.lt_of_lt_of_le HBW.out (Nat.le_trans hI.out.low.size HB4.out.size)) (fun e => by have := (HOW.out.lt bb e.symm).1; have := HBW.out; omega))]; exact (keep3c HS3.out (ext_alloc _ _)).2.2⟩
      have HX5 := Lib.hid hx5
      have HT5 := Lib.hid ht5
      have d1 := cell_of_block hx5 2
      have d2 := unfrozen_of_block hx5 2
      have HG5 := Lib.hid g5
      have R5 := Lib.hid r5
      clear r5 g5 hx5 ht5
      refine hK.out _ _ HS5.out (fun _ => ?_)
      clear hK K
      try simp only [Act.put, List.setIfInBounds_toArray, List.set_cons_zero, List.set_cons_succ]
      refine wpAnyH_take (i := 11) (v := ?_) (by simp only [List.getElem?_toArray, List.getElem?_cons_zero, List.getElem?_cons_succ]; rfl) (by kernel_rfl) (by kernel_rfl) (by kernel_rfl) (fun _ _ _ h => h) (Or.inl ⟨by rfl, ?_⟩) HS5.out ?_
      rotate_left
      · intro w hSw
        (try dsimp only at hSw)
        obtain ⟨q0_, q1_, q2_⟩ := hSw
        go_simp
        try with_reducible rfl
      try simp only [Act.put, List.setIfInBounds_toArray, List.set_cons_zero, List.set_cons_succ]
      refine wpAnyH_done (by kernel_rfl) ?_ _
      unfold LastQ wpOp
      simp only [List.getElem?_toArray, List.getElem?_cons_zero, List.getElem?_cons_succ]
      rw [if_pos (by rfl)]
      refine Or.inl ?_
      go_simp
      refine NoPanic.normal ?_
      clear p0 p1 p2 HS0 HSD HS3 HS5 d1 d2
      go_wp2
      go_roundw
      case rel =>
        refine ⟨k + 1, fa, fc, ss ++ [(ea, xn, ec)], by omega, by go_num, ?_⟩
        have hXX := block_setCell HX5.out (i := 2) (.slice fa (k + 1) fc)
        obtain ⟨W6, hW6⟩ : ∃ W6, W6 = w5.setCell ⟨w.heap.size + 1 + 1, 2, none⟩ (.slice fa (k + 1) fc) := ⟨_, rfl⟩
        rw [← hW6] at hXX ⊢
        have hne : ∀ D : Nat, D ≠ w.heap.size + 1 + 1 → W6.heap[D]? = w5.heap[D]? := fun D hD => by rw [hW6]; exact Below.heap_setCell w5 ⟨w.heap.size + 1 + 1, 2, none⟩ _ D hD
        obtain ⟨WA, hWA⟩ : ∃ WA, WA = w3.alloc (.cells #[.slice ea xn ec] 27) := ⟨_, rfl⟩
        have hg := HG5.out
        have hb4 := HB4.out
        have how := HOW.out
        rw [← hWA] at hg hb4 how
        have hb3A : Below w3.heap.size w3 WA := by rw [hWA]; exact ext_alloc _ _
        have hwle : w.heap.size ≤ wr.heap.size := hI.out.low.size
        have one : ∀ {y : Slc} {V : List UInt8}, Row isByte WA w.heap.size 5 (slV y) V.length (V.map bv) → Row isByte W6 w.heap.size 5 (slV y) V.length (V.map bv) := fun {y V} hy => by
          have h1 := row_grown hy how hg (by decide)
          exact h1.other fun q hq => hne q (fun e => (h1.not_own HX5.out (by decide)) (by rw [hq, e]))
        have hnew : Row isByte WA w.heap.size 5 (slV (ea, xn, ec)) (fs.getD k []).length ((fs.getD k []).map bv) := by
          have h1 := (R3.out.below hb3A).base_le hwle
          rw [HXL.out] at h1 ⊢
          exact h1
        have hbz : Below w.heap.size w WA := ext_trans hI.out.low hb4
        refine ⟨?_, (hne _ (by omega)).trans HT5.out, (hne _ (by omega)).trans (heap_grown (heap_below hI.out.rb hb4) hg (ownsN_notown how (heap_below hI.out.rb hb4) (by decide))), one (hI.out.init.below hb4), ?_, by simp [hI.out.len], fun j hj => ?_, ?_, ?_⟩
        · simpa using hXX
        · have h1 : w5.ownsRow w.heap.size 27 1 (.slice fa (k + 1) fc) (k + 1) ((ss ++ [(ea, xn, ec)]).map slV) := by simpa [slV] using R5.out
          exact ownsN_other h1 fun q hq => hne q (fun e => (ownsN_notown h1 HX5.out (by decide)) (by rw [hq, e]))
        · by_cases e : j = k
          · subst e
            have e1 : (ss ++ [(ea, xn, ec)]).getD j slc0 = (ea, xn, ec) := by rw [← hI.out.len]; simp
            rw [e1]
            exact one hnew
          · have e1 : (ss ++ [(ea, xn, ec)]).getD j slc0 = ss.getD j slc0 := by simp [List.getD, List.getElem?_append_left (show j < ss.length by rw [hI.out.len]; omega)]
            rw [e1]
            exact one ((hI.out.rows j (by omega)).below hb4)
        · have h1 := apart_snoc (x := (ea, xn, ec)) hI.out.ap (fun j hj g hg1 hg2 => ?_)
          · simpa using h1
          · have h3 := (R3.out.own.lt g hg2).1
            have h4 : g < wr.heap.size := by
              cases j with
              | zero => exact (hI.out.init.own.lt g hg1).2
              | succ j => exact ((hI.out.rows j (by rw [← hI.out.len]; simpa using hj)).own.lt g hg1).2
            omega
        · rw [hW6]
          exact (hbz.grown hg hbz.size (fun q hq => (how.lt q hq).1)).setCell (p := ⟨w.heap.size + 1 + 1, 2, none⟩) (by show w.heap.size ≤ w.heap.size + 1 + 1; omega) _
      case measure => simp [intOf]; omega
    · obtain rfl : k = n2 := by omega
      have z0 := cell_of_block hI.out.box 0
      have z1 := cell_of_block hI.out.box 1
      have z2 := cell_of_block hI.out.box 2
      obtain ⟨sa, sn, sc⟩ := si
      simp only [slV] at z1
      have z1' : wr.cell? ⟨w.heap.size + 1 + 1, 1, none⟩ = some (.slice sa sn sc) := z1
      have y0 := cell_of_block hI.out.rb 0
      have y1 := cell_of_block hI.out.rb 1
      have y2 := cell_of_block hI.out.rb 2
      have x0 := unfrozen_of_block hI.out.rb 0
      have x1 := unfrozen_of_block hI.out.rb 1
      have x2 := unfrozen_of_block hI.out.rb 2
      clear hlt hk z1
      go_wp2
      refine bodyPost_ret (v := traceV bad ⟨sa, sn, sc, va, k, vc, ss⟩) ?_ rfl ?_
      · have h6 := tri_set_t hI.out.rb rfl (.int .i64 bad) (.slice sa sn sc) (.slice va k vc)
        have g0 := cell_of_block h6 0
        have g1 := cell_of_block h6 1
        have g2 := cell_of_block h6 2
        simp [results, Try.results8, go_sem, g0, g1, g2]
        rfl
      · have hsn : sn = init.length := HLEN2.out
        have h1 := HN1.out
        have h2 := HN2.out
        refine ⟨⟨sa, sn, sc, va, k, vc, ss⟩, rfl, OwnT3.set3 ⟨hI.out.init, by rw [h2]; exact hI.out.row, by rw [h2]; exact hI.out.len, fun j hj => hI.out.rows j (by rw [← h2]; exact hj), hI.out.ap⟩ hI.out.rb, ⟨by show sn ≤ 1048576; omega, hs2, fun x hx => ?_⟩, set3_t (w.heap.size + 1) (Nat.le_succ _) hI.out.low⟩
        obtain ⟨j, hj, he⟩ := List.getElem_of_mem hx
        have h3 : ss.getD j slc0 = x := by simp [List.getD, List.getElem?_eq_getElem hj, he]
        have hjk : j < k := by rw [← hI.out.len]; exact hj
        have h4 := hI.out.rows j hjk
        rw [h3] at h4
        have h5 := row_len (show Row isByte wr w.heap.size 5 (.slice x.1 x.2.1 x.2.2) _ _ from h4)
        have h6 := (H2.out.each j (by rw [h2]; exact hjk)).lenMap
        have h7 := HSL.out (ss0.getD j slc0) (getD_mem (by rw [H2.out.len, h2]; exact hjk))
        omega
end Go.Proofs.Ytjmdgbdlhaaefaa
namespace Go.Proofs.Ytjmdgbdlhaaefaa
open Go Go.RowKit Go.Joins

def bitU (bits : List Bool) (p : Nat) : UInt8 := if bits.getD p false = true then 1 else 0
def fillU (bits : List Bool) (p : Nat) (u : UInt8) : UInt8 := if u.toNat = 2 then bitU bits p else u
def nextU (p : Nat) (u : UInt8) : Nat := if u.toNat = 2 then p + 1 else p
def fillL (bits : List Bool) : Nat → List UInt8 → List UInt8
  | _, [] => []
  | p, u :: r => fillU bits p u :: fillL bits (nextU p u) r
def nextX : Nat → List UInt8 → Nat
  | p, [] => p
  | p, u :: r => nextX (nextU p u) r
theorem fillL_len (bits : List Bool) : ∀ (l : List UInt8) (p : Nat), (fillL bits p l).length = l.length
  | [], _ => rfl
  | u :: r, p => by rw [fillL, List.length_cons, fillL_len bits r, List.length_cons]
theorem fillL_append (bits : List Bool) : ∀ (a b : List UInt8) (p : Nat), fillL bits p (a ++ b) = fillL bits p a ++ fillL bits (nextX p a) b
  | [], _, _ => rfl
  | u :: r, b, p => by rw [List.cons_append, fillL, fillL_append bits r b, fillL, nextX]; rfl
theorem nextX_append : ∀ (a b : List UInt8) (p : Nat), nextX p (a ++ b) = nextX (nextX p a) b
  | [], _, _ => rfl
  | u :: r, b, p => by rw [List.cons_append, nextX, nextX_append r b]; rfl
theorem nextU_le (p : Nat) (u : UInt8) : nextU p u ≤ p + 1 := by unfold nextU; split <;> omega
theorem nextX_le : ∀ (l : List UInt8) (p : Nat), nextX p l ≤ p + l.length
  | [], p => Nat.le_refl _
  | u :: r, p => by rw [nextX, List.length_cons]; have := nextX_le r (nextU p u); have := nextU_le p u; omega
/-- What a list holds when m of its values have been filled. -/
def fillI (bits : List Bool) (p : Nat) (l : List UInt8) (m : Nat) : List UInt8 := fillL bits p (l.take m) ++ l.drop m
theorem fillI_len (bits : List Bool) (p : Nat) (l : List UInt8) (m : Nat) : (fillI bits p l m).length = l.length := by unfold fillI; rw [List.length_append, fillL_len, List.length_take, List.length_drop]; omega
theorem fillI_zero (bits : List Bool) (p : Nat) (l : List UInt8) : fillI bits p l 0 = l := by simp [fillI, fillL]
theorem fillI_all (bits : List Bool) (p : Nat) (l : List UInt8) : fillI bits p l l.length = fillL bits p l := by simp [fillI]
theorem fillI_at (bits : List Bool) (p : Nat) (l : List UInt8) (m : Nat) (h : m < l.length) : (fillI bits p l m).getD m 0 = l.getD m 0 := by
  have e : (fillL bits p (l.take m)).length = m := by rw [fillL_len, List.length_take]; omega
  simp [fillI, List.getD, List.getElem?_append_right (Nat.le_of_eq e), e, List.getElem?_drop]
theorem take_snoc (l : List UInt8) (m : Nat) (h : m < l.length) : l.take (m + 1) = l.take m ++ [l.getD m 0] := by
  rw [List.take_add_one, List.getElem?_eq_getElem h]; simp [List.getD, List.getElem?_eq_getElem h]
theorem nextX_step (p : Nat) (l : List UInt8) (m : Nat) (h : m < l.length) : nextX p (l.take (m + 1)) = nextU (nextX p (l.take m)) (l.getD m 0) := by
  rw [take_snoc l m h, nextX_append]; rfl
theorem fillI_step (bits : List Bool) (p : Nat) (l : List UInt8) (m : Nat) (h : m < l.length) : fillI bits p l (m + 1) = (fillI bits p l m).set m (fillU bits (nextX p (l.take m)) (l.getD m 0)) := by
  have e : (fillL bits p (l.take m)).length = m := by rw [fillL_len, List.length_take]; omega
  have hg : l.getD m 0 = l[m] := by simp [List.getD, List.getElem?_eq_getElem h]
  unfold fillI
  rw [List.set_append_right _ _ (Nat.le_of_eq e), e, Nat.sub_self, List.drop_eq_getElem_cons h, List.set_cons_zero, take_snoc l m h, fillL_append, hg]
  simp only [fillL, List.append_assoc, List.cons_append, List.nil_append]
theorem fillI_keep (bits : List Bool) (p : Nat) (l : List UInt8) (m : Nat) (h : m < l.length) (h2 : (l.getD m 0).toNat ≠ 2) : fillI bits p l (m + 1) = fillI bits p l m := by
  rw [fillI_step bits p l m h]
  unfold fillU
  rw [if_neg h2, ← fillI_at bits p l m h]
  have hl : m < (fillI bits p l m).length := by rw [fillI_len]; exact h
  simp [List.getD, List.getElem?_eq_getElem hl]
/-- The lists of a trace, the first one ahead. -/
def listsOf (t : TraceC) (j : Nat) : List UInt8 := (t.init :: t.frames).getD j []
/-- How many X lie ahead of a list. -/
def startP (G : Nat → List UInt8) : Nat → Nat
  | 0 => 0
  | k + 1 => nextX (startP G k) (G k)
theorem startP_le (G : Nat → List UInt8) (M : Nat) : ∀ k, (∀ j, j < k → (G j).length ≤ M) → startP G k ≤ k * M
  | 0, _ => by simp [startP]
  | k + 1, h => by
    have h1 := startP_le G M k (fun j hj => h j (by omega))
    have h2 := nextX_le (G k) (startP G k)
    have h3 := h k (by omega)
    rw [startP, Nat.succ_mul]; omega
def fillT (bits : List Bool) (t : TraceC) : TraceC := ⟨t.bad, fillL bits 0 t.init, (List.range t.frames.length).map fun k => fillL bits (startP (listsOf t) (k + 1)) (t.frames.getD k [])⟩
theorem KeptNB.owns {w w' : World} (h : KeptNB w w') {base sz : Nat} {e : TypeId} {v : Value} {n : Nat} {xs : List Value} (hr : w.ownsRow base e sz v n xs) (he : e ≠ 5) : w'.ownsRow base e sz v n xs :=
  ownsN_other hr fun q hq => by
    rcases hr.2 with ⟨h2, _⟩ | ⟨g', cap', cur, h2, _, hh, _⟩
    · rw [h2] at hq; cases hq
    · rw [h2] at hq
      have : g' = q := by simpa [Value.ownBlock] using hq
      subst this
      exact (h g' cur e _ hh he).trans hh.symm
end Go.Proofs.Ytjmdgbdlhaaefaa
