/- cone.Free, by its contract. -/
import Derived.Test.YtdheldhecimfnaaLib
import Derived.Test.YtdheldhecimfnaaOwn
import Derived.Test.YtdheldhecimfnaaOwnStr
import Derived.Test.YtdheldhecimfnaaNBase
import Derived.Test.YtdheldhecimfnaaRawPred
import Derived.Test.YtdheldhecimfnaaRawMay
import Derived.Test.YtdheldhecimfnaaNStep
import Derived.Test.YtdheldhecimfnaaNTrace
import Derived.Test.YtdheldhecimfnaaFCells
import Derived.Test.YtdheldhecimfnaaNClone2
import Derived.Test.YtdheldhecimfnaaNCopyTr
import Derived.Test.YtdheldhecimfnaaRows
import Derived.BigQuiet
import Derived.Deep.AppendLies
import Derived.Deep.QuietTactic
import Derived.Deep.RegionHeld3
import Derived.Deep.RegionLaw
import Derived.Deep.RegionWith
import Derived.KernelRfl
import Derived.Laws.EntriesVeiled
import Derived.Laws.Tables
import Derived.Lib.AppendStr
import Derived.Lib.ConvBytes
import Derived.Lib.Hide
import Derived.Lib.SlBytesRow
import Derived.Lib.SmallJoins
import Derived.Maps.AppendAt
import Derived.Shelf.Bytes.SlSmallAll
import Derived.WalkKit
import Derived.WalkLawsBesides
import Derived.WalkSpells
import Derived.Test.YtdheldhecimfnaaNHeap
import Derived.Test.YtdheldhecimfnaaNHeap2
import Derived.Deep.CutRange
import Derived.Lib.AppendZeros
import Derived.Test.YtdheldhecimfnaaNSpec
import Derived.Test.YtdheldhecimfnaaNCirc
import Derived.Test.YtdheldhecimfnaaSSpec
import Derived.Test.YtdheldhecimfnaaShelf
import Derived.Laws.Bits64b
import Derived.Laws.BitsAllLaws
import Derived.Laws.BitsLemmas
import Derived.LoopIn
import Derived.LoopNIn
import Derived.OrdersHeld
import Derived.OrdersIn
import Derived.OwnWalkIn
import Derived.RangeFuncBox
import Derived.RangeFuncCalls
import Derived.RangeFuncLeaves
import Derived.RangeFuncNested
import Derived.RangeFuncWrites
import Derived.Shelf.Abstract
import Derived.Shelf.RegionOpen
import Derived.Sort.CutIn
import Derived.Stop.RegionWithIn
import Derived.TacticsInMore
import Derived.Test.YtdheldhecimfnaaCnA
import Derived.Test.YtdheldhecimfnaaNVal
import Derived.Test.YtdheldhecimfnaaNOwns
import Derived.Test.YtdheldhecimfnaaNMayC
import Derived.Test.YtdheldhecimfnaaCnSmall
/- norm.CopyTrace once more: the lists of the copy lie apart from each other. -/
namespace Go.Proofs.Ytdheldhecimfnaa
open Go Go.RowKit Go.Joins

/-- No two of these slices lie in one row. -/
def ApartL (L : List Slc) : Prop := ∀ i j, i < j → j < L.length → ∀ g, (slV (L.getD i slc0)).ownBlock = some g → (slV (L.getD j slc0)).ownBlock ≠ some g
theorem apart_cons {x : Slc} {L : List Slc} (h1 : ∀ j, j < L.length → ∀ g, (slV x).ownBlock = some g → (slV (L.getD j slc0)).ownBlock ≠ some g) (h2 : ApartL L) : ApartL (x :: L) := by
  intro i j hij hj g hg
  obtain ⟨j, rfl⟩ : ∃ j', j = j' + 1 := ⟨j - 1, by omega⟩
  rw [List.getD_cons_succ]
  cases i with
  | zero => exact h1 j (by simpa using hj) g (by simpa using hg)
  | succ i =>
    rw [List.getD_cons_succ] at hg
    exact h2 i j (by omega) (by simpa using hj) g hg

/-- What lies in memory while CopyTrace goes on: F is the new frames' block. -/
structure CtInv2 (w1 : World) (F n : Nat) (fs : List (List UInt8)) (k : Nat) (ss : List Slc) (w : World) : Prop where
  len : ss.length = k
  blk : w.heap[F]? = some (.cells (fcells n (fun j => slV (ss.getD j slc0))) 27 (0, 0))
  rows : ∀ j, j < k → Row isByte w w1.heap.size 5 (slV (ss.getD j slc0)) (fs.getD j []).length ((fs.getD j []).map bv)
  but : But2 w1.heap.size F F w1 w
  sep : ∀ i j, i < j → j < k → ∀ g, (slV (ss.getD i slc0)).ownBlock = some g → (slV (ss.getD j slc0)).ownBlock ≠ some g
theorem CtInv2.step {w1 : World} {F n : Nat} {fs : List (List UInt8)} {k : Nat} {ss : List Slc} {w w2 : World} {s : Slc} (h : CtInv2 w1 F n fs k ss w) (hF : F < w1.heap.size) (hb : Below w.heap.size w w2) (hr : Row isByte w2 w.heap.size 5 (slV s) (fs.getD k []).length ((fs.getD k []).map bv)) :
    CtInv2 w1 F n fs (k + 1) (ss ++ [s]) (w2.setCell ⟨F, k, none⟩ (slV s)) := by
  have hlen := h.len
  have hs := h.but.size
  have row : ∀ {v : Value} {m : Nat} {xs : List Value}, Row isByte w2 w1.heap.size 5 v m xs → Row isByte (w2.setCell ⟨F, k, none⟩ (slV s)) w1.heap.size 5 v m xs := fun hr =>
    hr.other fun q hq => Below.heap_setCell w2 ⟨F, k, none⟩ _ q (show q ≠ F from fun e => by have := (hr.own.lt q hq).1; omega)
  refine ⟨by simp [hlen], ?_, fun j hj => ?_, ?_, fun i j hij hj g hg hg2 => ?_⟩
  · have h1 := block_setCell (heap_below h.blk hb) (i := k) (slV s)
    rw [fcells_set] at h1
    rw [h1]
    congr 2
    refine fcells_congr fun j _ => ?_
    by_cases e : j = k
    · rw [if_pos e, e, ← hlen]; simp
    · rw [if_neg e]
      by_cases e2 : j < ss.length
      · simp [List.getD, List.getElem?_append_left e2]
      · have e3 : ss.length < j := by omega
        simp [List.getD, List.getElem?_append_right (Nat.le_of_lt e3), List.getElem?_eq_none (Nat.le_of_lt e3), show ¬ j - ss.length = 0 by omega]
  · by_cases e : j = k
    · subst e
      have e1 : (ss ++ [s]).getD j slc0 = s := by rw [← hlen]; simp
      rw [e1]
      exact row (hr.base_le hs)
    · have e1 : (ss ++ [s]).getD j slc0 = ss.getD j slc0 := by simp [List.getD, List.getElem?_append_left (show j < ss.length by omega)]
      rw [e1]
      exact row ((h.rows j (by omega)).below hb)
  · have h1 : But2 w1.heap.size F F w1 w2 := h.but.trans (But2.of_below (hb.mono hs))
    refine ⟨h1.os, h1.tape, h1.output, by have := h1.size; simpa using this, fun D d1 d2 d3 => ?_⟩
    rw [Below.heap_setCell w2 ⟨F, k, none⟩ _ D d2]
    exact h1.block D d1 d2 d3
  · have ei : (ss ++ [s]).getD i slc0 = ss.getD i slc0 := by simp [List.getD, List.getElem?_append_left (show i < ss.length by omega)]
    rw [ei] at hg
    by_cases e : j = k
    · subst e
      have e1 : (ss ++ [s]).getD j slc0 = s := by rw [← hlen]; simp
      rw [e1] at hg2
      have h1 := ((h.rows i (by omega)).own.lt g hg).2
      have h2 := (hr.own.lt g hg2).1
      omega
    · have e1 : (ss ++ [s]).getD j slc0 = ss.getD j slc0 := by simp [List.getD, List.getElem?_append_left (show j < ss.length by omega)]
      rw [e1] at hg2
      exact h.sep i j hij (by omega) g hg hg2

set_option maxRecDepth 100000 in
set_option maxHeartbeats 3200000 in
theorem copytr2_any (t : TraceC) (s : TSlots) (w : World) (h : SeesTr w s t) (hs : s.small) :
    Calls Try.prog 38 #[traceV t.bad s] w fun e w' => ∃ s', e = .returned (traceV t.bad s') ∧ OwnTr w' w.heap.size s' t ∧ ApartL ((s'.a1, s'.n1, s'.c1) :: s'.ss) ∧ Below w.heap.size w w' := by
  obtain ⟨i0, hi, hz0, hz1, hz2⟩ := info_parts info_u8s
  obtain ⟨a1, n1, c1, a2, n2, c2, ss⟩ := s
  obtain ⟨hs1, hs2, hs3⟩ := hs
  simp only at hs1 hs2 hs3
  obtain ⟨bad, init, fs⟩ := t
  obtain ⟨q1, q2⟩ := h
  simp only at q1 q2
  have hn2 := q2.n_eq
  have hn1 : init.length = n1 := by have := q1.len; simpa using this
  have HSL : Hid (∀ k, k < n2 → (ss.getD k slc0).2.1 ≤ 1048576) := fun k hk => hs3 _ (getD_mem (by rw [q2.len, hn2]; exact hk))
  have H1 := Lib.hid q1
  have H2 := Lib.hid q2
  have HN1 := Lib.hid hn1
  have HN2 := Lib.hid hn2
  clear q1 q2 hn1 hn2 hs3
  have mk := fun W => run_make_n (P := Try.prog) Try.underlying28 hi hz0 hz1 hz2 rfl n2 (by omega) (by omega) W
  rw [fcells_zero] at mk
  unfold traceV
  go_enter Try.func38, Try.ntmps38
  go_wp2_with fail
  generalize hW : World.alloc (World.alloc (World.alloc w _) _) _ = W1
  have B1 : Below w.heap.size w W1 := by subst hW; exact ext_trans (ext_alloc _ _) (ext_trans (ext_alloc _ _) (ext_alloc _ _))
  have hX : W1.heap[w.heap.size]? = some (.cells #[.int .i64 bad, .slice a1 n1 c1, .slice a2 n2 c2] 30 (0, 0)) := by
    subst hW; exact heap_below (heap_below (heap_new _ _ _ rfl) (ext_alloc _ _)) (ext_alloc _ _)
  have hR : W1.heap[w.heap.size + 1]? = some (.cells #[.int .i64 0, .slice none 0 0, .slice none 0 0] 30 (0, 0)) := by
    subst hW; exact heap_below (heap_new _ _ _ (by simp)) (ext_alloc _ _)
  have hF : W1.heap[w.heap.size + 1 + 1]? = some (.cells (fcells n2 (fun _ => .slice none 0 0)) 27 (0, 0)) := by
    subst hW; exact heap_new _ _ _ (by simp)
  clear hW mk
  have hFlt := heap_lt hF
  obtain ⟨F, hFF⟩ : ∃ F, F = w.heap.size + 1 + 1 := ⟨_, rfl⟩
  rw [← hFF] at hF hFlt ⊢
  have hF1 : w.heap.size + 1 < F := by omega
  have HI : Hid (CtInv2 W1 F n2 fs 0 [] W1) := by
    refine ⟨rfl, ?_, fun j hj => absurd hj (by omega), But2.refl _ _ _ _, fun i j _ hj => absurd hj (by omega)⟩
    rw [hF]
    congr 2
  have HX := Lib.hid hX
  have HR := Lib.hid hR
  have HB := Lib.hid B1
  clear hX hR hF B1 hFF
  go_loopw [13] (fun i wr => ∃ (k : Nat) (ss' : List Slc), k ≤ n2 ∧ i = .int .i64 k ∧ Hid (CtInv2 W1 F n2 fs k ss' wr))
    (fun i _ => n2 - (intOf i).toNat)
  case atStart => exact ⟨0, [], Nat.zero_le _, rfl, HI.out⟩
  case round =>
    clear HI
    obtain ⟨k, ss', hk, rfl, hI⟩ := hrel
    by_cases hlt : k < n2
    · have hbw : Below w.heap.size w wr := HB.out.trans (hI.out.but.low (by omega) (by omega) (by omega))
      obtain ⟨b, off, rfl, _⟩ := H2.out.row.addr (show 0 < n2 by omega)
      have hcx := (H2.out.below hbw).cellAt k hlt
      have hsee := (H2.out.below hbw).each k (by rw [HN2.out]; exact hlt)
      have hsl := HSL.out k hlt
      obtain ⟨sk, hsk⟩ : ∃ sk, sk = ss.getD k slc0 := ⟨_, rfl⟩
      rw [← hsk] at hcx hsee hsl
      obtain ⟨ak, nk, ck⟩ := sk
      simp only at hcx hsee hsl
      have W1' : IntKind.i64.wrap ((k : Int) + 1) = (k : Int) + 1 := IntWalk.i64_in _ (by omega)
      have HCL := Lib.hid (clone_u8 (fs.getD k []) ak nk ck wr hsee (by omega))
      have hnk : (fs.getD k []).length = nk := hsee.lenMap
      have HNK := Lib.hid hnk
      clear hsk hsee hbw hnk
      go_wp2_with fail
      refine HCL.out.mono ?_
      rintro e s1 ⟨v, rfl, hrow, b1⟩
      obtain ⟨ev, fv, rfl⟩ := hrow.form
      have hcF := (cell_of_block (heap_below hI.out.blk b1) k).trans (fcells_get _ _ _ hlt)
      have hfF := unfrozen_of_block (heap_below hI.out.blk b1) k
      have hnil : ss'.getD k slc0 = slc0 := by simp [List.getD, List.getElem?_eq_none (show ss'.length ≤ k by rw [hI.out.len]; exact Nat.le_refl _)]
      rw [hnil] at hcF
      have hcF2 : s1.cell? ⟨F, k, none⟩ = some (.slice none 0 0) := hcF
      have HI2 := Lib.hid (hI.out.step (s := (ev, nk, fv)) hFlt b1 (by rw [HNK.out]; exact hrow))
      clear hI hrow b1 hcF hnil
      simp only [slV] at HI2
      go_wp2
      go_roundw
      case rel => exact ⟨k + 1, _, by omega, by go_num, HI2.out⟩
      case measure => simp [intOf]; omega
    · obtain rfl : n2 = k := by omega
      obtain ⟨wo, hwo⟩ : ∃ wo : World, wo = wr := ⟨_, rfl⟩
      subst hwo
      have hXo := hI.out.but.at HX.out (by omega) (by omega) (by omega)
      have hRo := hI.out.but.at HR.out (by omega) (by omega) (by omega)
      have hbo : Below w.heap.size w wo := HB.out.trans (hI.out.but.low (by omega) (by omega) (by omega))
      have p0 : wo.cell? ⟨w.heap.size, 0, none⟩ = some (.int .i64 bad) := cell_of_block hXo 0
      have p1 : wo.cell? ⟨w.heap.size, 1, none⟩ = some (.slice a1 n1 c1) := cell_of_block hXo 1
      have E1 : Hid (∀ W, Below wo.heap.size wo W → Calls Try.prog 64 #[.slice a1 n1 c1] W fun e w' => ∃ v, e = .returned v ∧ Row isByte w' W.heap.size 5 v n1 (init.map bv) ∧ Below W.heap.size W w') := fun W hb => clone_u8 init a1 n1 c1 W (H1.out.below (ext_trans hbo hb)) (by omega)
      have HRO := Lib.hid hRo
      have HBO := Lib.hid hbo
      have hlt2 : w.heap.size + 1 < wo.heap.size := heap_lt hRo
      have hlt3 : F < wo.heap.size := Nat.lt_of_lt_of_le hFlt hI.out.but.size
      clear hXo hRo hbo hlt hk
      go_wp2_with fail
      go_region_held3 (fun w' => w'.cell? ⟨w.heap.size, 0, none⟩ = some (.int .i64 bad) ∧ w'.cell? ⟨w.heap.size, 1, none⟩ = some (.slice a1 n1 c1))
        (first | with_reducible exact ⟨p0, p1⟩ | with_reducible exact ⟨cell_drew p0, cell_drew p1⟩ | with_reducible exact ⟨d1_0, d1_1⟩ | with_reducible exact ⟨cell_drew d1_0, cell_drew d1_1⟩ | with_reducible exact ⟨cell_set3t d1_0 (by omega), cell_set3t d1_1 (by omega)⟩ | with_reducible exact ⟨cell_row d1_0 (by omega), cell_row d1_1 (by omega)⟩ | go_keep)
        (first
          | (go_at_call 64; (with_reducible refine (E1.out _ (by first | with_reducible exact Below.refl _ wo | with_reducible exact (Below.refl _ wo).drew)).mono ?_); rintro e s1 ⟨v1, rfl, r1, b1⟩; have HB1 : Below wo.heap.size wo s1 := (by first | exact ext_trans (Below.refl _ wo) b1 | exact ext_trans ((Below.refl _ wo).drew) b1); have d1_0 := cell_below p0 HB1; have d1_1 := cell_below p1 HB1; have R1 := Lib.hid r1; obtain ⟨e1, f1, rfl⟩ := r1.form; have hz := heap_below HRO.out HB1; have z0 := cell_of_block hz 0; have y0 := unfrozen_of_block hz 0; have z1 := cell_of_block hz 1; have y1 := unfrozen_of_block hz 1; have z2 := cell_of_block hz 2; have y2 := unfrozen_of_block hz 2; have HZ := Lib.hid hz; clear hz r1 b1))
      have HQ := Lib.hid HB1
      have HNN : Hid (init.length = n1) := HN1.out
      go_wp2
      refine bodyPost_ret (v := traceV bad ⟨e1, n1, f1, some ⟨F, 0, none⟩, n2, n2, ss'⟩) ?_ rfl ?_
      · have h6 := tri_set_t HZ.out rfl (.int .i64 bad) (.slice e1 n1 f1) (.slice (some ⟨F, 0, none⟩) n2 n2)
        have g0 := cell_of_block h6 0
        have g1 := cell_of_block h6 1
        have g2 := cell_of_block h6 2
        simp [results, Try.results38, go_sem, g0, g1, g2]
        rfl
      · have hap : ApartL ((e1, n1, f1) :: ss') := by
          refine apart_cons (fun j hj g hg hg2 => ?_) (fun i j hij hj g hg => hI.out.sep i j hij (by rw [← hI.out.len]; exact hj) g hg)
          have h1 := (R1.out.own.lt g hg).1
          have h2 := ((hI.out.rows j (by rw [← hI.out.len]; exact hj)).own.lt g hg2).2
          exact absurd h1 (Nat.not_le_of_lt h2)
        refine ⟨_, rfl, ?_, hap, set3_t (w.heap.size + 1) (Nat.le_succ _) (ext_trans HBO.out HQ.out)⟩
        have hI' := hI.out
        have hb2 := hI'.but.size
        have hbase : w.heap.size + 1 < W1.heap.size := by omega
        refine OwnTr.set3 (base := w.heap.size + 2) (t := ⟨bad, init, fs⟩) ⟨?_, ⟨F, by omega, rfl, ?_⟩, HN2.out.symm, HN2.out.symm, by rw [hI'.len]; exact HN2.out.symm, fun j hj => ?_⟩ (by omega) (by omega)
        · rw [HNN.out]
          exact R1.out.base_le (show w.heap.size + 2 ≤ wo.heap.size by omega)
        · rw [heap_below hI'.blk HQ.out]
          congr 2
          apply Array.ext'
          apply List.ext_getElem
          · simp [fcells, hI'.len]
          · intro i h1 h2
            have hi1 : i < n2 := by simpa [fcells] using h1
            simp [fcells, List.getD, List.getElem?_eq_getElem (show i < ss'.length by rw [hI'.len]; exact hi1)]
        · exact ((hI'.rows j (by rw [← HN2.out]; exact hj)).below HQ.out).base_le (by omega)
end Go.Proofs.Ytdheldhecimfnaa
/- sim.Read, by its contract. -/
namespace Go.Proofs.Ytdheldhecimfnaa
open Go Go.RowKit Go.Joins

def zeroU (u : UInt8) : UInt8 := if u.toNat = 2 then 0 else u
def zeroL (l : List UInt8) : List UInt8 := l.map zeroU
def readT (t : TraceC) : TraceC := ⟨t.bad, zeroL t.init, t.frames.map zeroL⟩

theorem isByte_bv (u : UInt8) : isByte (bv u) := ⟨u, rfl⟩
/-- One cell of an own row written. -/
theorem Row.setAt {w : World} {base g n cap : Nat} {e : TypeId} {l : List UInt8} (h : Row isByte w base e (.slice (some ⟨g, 0, none⟩) n cap) n (l.map bv)) (i : Nat) (u : UInt8) :
    Row isByte (w.setCell ⟨g, i, none⟩ (bv u)) base e (.slice (some ⟨g, 0, none⟩) n cap) n ((l.set i u).map bv) := by
  obtain ⟨hl, h2⟩ := h
  rcases h2 with ⟨h2, _⟩ | ⟨g', cap', cur, h2, hg, hh, hn, hc, hs, ht, ho⟩
  · cases h2
  · cases h2
    refine ⟨by simpa using hl, .inr ⟨g, cap, cur.setIfInBounds i (bv u), rfl, hg, block_setCell hh (bv u), hn, hc, by simpa using hs, ?_, ?_⟩⟩
    · rw [Array.toList_setIfInBounds, List.take_set, ht, List.map_set]
    · intro x hx
      rw [Array.toList_setIfInBounds] at hx
      rcases List.mem_or_eq_of_mem_set hx with h | h
      · exact ho x h
      · rw [h]; exact isByte_bv u
theorem row_here {w : World} {base g n cap off : Nat} {e : TypeId} {xs : List Value} (h : Row isByte w base e (.slice (some ⟨g, off, none⟩) n cap) n xs) : off = 0 ∧ ∃ cur, w.heap[g]? = some (.cells cur e (0, 0)) := by
  rcases h.2 with ⟨h2, _⟩ | ⟨g', cap', cur, h2, hg, hh, _⟩
  · cases h2
  · cases h2; exact ⟨rfl, cur, hh⟩
theorem row_len {ok : Value → Prop} {w : World} {base : Nat} {e : TypeId} {a : Option Addr} {n c m : Nat} {xs : List Value} (h : Row ok w base e (.slice a n c) m xs) : m = n := by
  obtain ⟨_, _, e⟩ := h.form
  cases e
  rfl
/-- Rows that read as lists. -/
def RowsL (w : World) (base : Nat) (L : List Slc) (G : Nat → List UInt8) : Prop := ∀ j, j < L.length → Row isByte w base 5 (slV (L.getD j slc0)) (G j).length ((G j).map bv)
theorem RowsL.below {w w' : World} {base : Nat} {L : List Slc} {G : Nat → List UInt8} (h : RowsL w base L G) (hb : Below w.heap.size w w') : RowsL w' base L G := fun j hj => (h j hj).below hb
theorem RowsL.setAt {w : World} {base k g n cap : Nat} {L : List Slc} {G G' : Nat → List UInt8} (h : RowsL w base L G) (hap : ApartL L) (hk : k < L.length) (hx : L.getD k slc0 = (some ⟨g, 0, none⟩, n, cap)) (i : Nat) (u : UInt8)
    (hG : G' k = (G k).set i u) (hG2 : ∀ j, j ≠ k → G' j = G j) : RowsL (w.setCell ⟨g, i, none⟩ (bv u)) base L G' := by
  have hr := h k hk
  rw [hx] at hr
  have hn : n = (G k).length := by
    rcases hr.2 with ⟨h2, _⟩ | ⟨g', cap', cur, h2, _⟩
    · cases h2
    · simp only [slV] at h2; cases h2; rfl
  intro j hj
  by_cases e : j = k
  · subst e
    rw [hx, hG, List.length_set]
    subst hn
    exact Row.setAt hr i u
  · rw [hG2 j e]
    refine (h j hj).other fun q hq => Below.heap_setCell w ⟨g, i, none⟩ _ q (fun e2 => ?_)
    have hq2 : (slV (L.getD j slc0)).ownBlock = some g := by rw [hq, e2]
    have hg2 : (slV (L.getD k slc0)).ownBlock = some g := by rw [hx]; rfl
    rcases Nat.lt_or_gt_of_ne e with h | h
    · exact hap j k h hk g hq2 hg2
    · exact hap k j h hj g hg2 hq2
theorem RowsL.congr {w : World} {base : Nat} {L : List Slc} {G G' : Nat → List UInt8} (h : RowsL w base L G) (hG : ∀ j, j < L.length → G' j = G j) : RowsL w base L G' := fun j hj => by rw [hG j hj]; exact h j hj
/-- Blocks of cells that are no bytes are as they were. -/
def KeptNB (w w' : World) : Prop := ∀ (D : Nat) (C : Array Value) (T : TypeId) (fr : Nat × Nat), w.heap[D]? = some (.cells C T fr) → T ≠ 5 → w'.heap[D]? = some (.cells C T fr)
theorem KeptNB.refl (w : World) : KeptNB w w := fun _ _ _ _ h _ => h
theorem KeptNB.set {w w' : World} (h : KeptNB w w') {g i : Nat} {u : Value} {cur : Array Value} (hg : w'.heap[g]? = some (.cells cur 5 (0, 0))) : KeptNB w (w'.setCell ⟨g, i, none⟩ u) := fun D C T fr hD hT => by
  have h1 := h D C T fr hD hT
  exact (Below.heap_setCell w' ⟨g, i, none⟩ u D (fun e => by subst e; rw [hg] at h1; cases h1; exact hT rfl)).trans h1
theorem KeptNB.row {w w' : World} (h : KeptNB w w') {ok : Value → Prop} {base : Nat} {e : TypeId} {v : Value} {n : Nat} {xs : List Value} (hr : Row ok w base e v n xs) (he : e ≠ 5) : Row ok w' base e v n xs :=
  hr.other fun q hq => by
    rcases hr.2 with ⟨h2, _⟩ | ⟨g', cap', cur, h2, _, hh, _⟩
    · rw [h2] at hq; cases hq
    · rw [h2] at hq
      have : g' = q := by simpa [Value.ownBlock] using hq
      subst this
      exact (h g' cur e _ hh he).trans hh.symm
theorem zeroL_len (l : List UInt8) : (zeroL l).length = l.length := by simp [zeroL]
/-- What a list holds when i of its values have been read. -/
def zeroI (l : List UInt8) (i : Nat) : List UInt8 := zeroL (l.take i) ++ l.drop i
theorem zeroI_len (l : List UInt8) (i : Nat) : (zeroI l i).length = l.length := by simp [zeroI, zeroL]; omega
theorem zeroI_zero (l : List UInt8) : zeroI l 0 = l := by simp [zeroI, zeroL]
theorem zeroI_all (l : List UInt8) : zeroI l l.length = zeroL l := by simp [zeroI, zeroL]
theorem zeroI_at (l : List UInt8) (i : Nat) (h : i < l.length) : (zeroI l i).getD i 0 = l.getD i 0 := by
  have e : (zeroL (l.take i)).length = i := by simp [zeroL]; omega
  simp [zeroI, List.getD, List.getElem?_append_right (Nat.le_of_eq e), e, List.getElem?_drop]
theorem zeroI_step (l : List UInt8) (i : Nat) (h : i < l.length) : zeroI l (i + 1) = (zeroI l i).set i (zeroU (l.getD i 0)) := by
  have e : (zeroL (l.take i)).length = i := by simp [zeroL]; omega
  have hg : l.getD i 0 = l[i] := by simp [List.getD, List.getElem?_eq_getElem h]
  unfold zeroI
  rw [List.set_append_right _ _ (Nat.le_of_eq e), e, Nat.sub_self, List.drop_eq_getElem_cons h, List.set_cons_zero, List.take_add_one, List.getElem?_eq_getElem h, hg]
  simp only [zeroL, List.map_append, Option.toList_some, List.map_cons, List.map_nil, List.append_assoc, List.cons_append, List.nil_append]
theorem zeroI_keep (l : List UInt8) (i : Nat) (h : i < l.length) (h2 : zeroU (l.getD i 0) = l.getD i 0) : zeroI l (i + 1) = zeroI l i := by
  rw [zeroI_step l i h, h2, ← zeroI_at l i h]
  have hl : i < (zeroI l i).length := by rw [zeroI_len]; exact h
  simp [List.getD, List.getElem?_eq_getElem hl]

end Go.Proofs.Ytdheldhecimfnaa
/- sim.Surely, by its contract. -/
namespace Go.Proofs.Ytdheldhecimfnaa
open Go Go.RowKit Go.Joins

/-- What a trace that fits is. -/
structure FitsC (c : NormC) (t : TraceC) : Prop where
  may : MayC c
  pos : 0 ≤ t.bad
  bad : t.bad.toNat < c.bads.length
  init : t.init.length = c.lats.length
  inits : ∀ u ∈ t.init, u.toNat ≤ 2
  resets : ∀ i, i < c.lats.length → (c.lats.getD i (0, 0)).2 = 2 ∨ (t.init.getD i 0).toNat = (c.lats.getD i (0, 0)).2
  one : 1 ≤ t.frames.length
  few : t.frames.length ≤ 256
  frames : ∀ k, k < t.frames.length → ((t.frames.getD k []).length : Int) = c.ins
  values : ∀ f ∈ t.frames, ∀ u ∈ f, u.toNat ≤ 2
theorem fits_iff {c : NormC} {t : TraceC} : fitsS c t = true ↔ FitsC c t := by
  unfold fitsS valsOk initOk
  simp only [Bool.and_eq_true, Bool.not_eq_true', Bool.or_eq_false_iff, decide_eq_true_eq, decide_eq_false_iff_not, List.any_eq_false, List.all_eq_true, List.mem_range, Bool.or_eq_true, mayC_iff]
  constructor
  · rintro ⟨h1, ⟨h2, h3⟩, ⟨h4, h5⟩, h6, h7, h8, h9⟩
    refine ⟨h1, by omega, by omega, by omega, fun u hu => by have := h5 u hu; omega, fun i hi => h6 i hi, h7, h8, fun k hk => (h9 _ (getD_mem hk)).1, fun f hf u hu => by have := (h9 f hf).2 u hu; omega⟩
  · intro h
    refine ⟨h.may, ⟨by have := h.pos; omega, by have := h.bad; have := h.pos; omega⟩, ⟨by have := h.init; omega, fun u hu => by have := h.inits u hu; omega⟩, h.resets, h.one, h.few, fun f hf => ⟨?_, fun u hu => by have := h.values f hf u hu; omega⟩⟩
    obtain ⟨k, hk, he⟩ := List.getElem_of_mem hf
    have := h.frames k hk
    simpa [List.getD, List.getElem?_eq_getElem hk, he] using this

theorem keep63 {w : World} {x y : Nat} {a0 a1 a2 a3 a4 a5 b0 b1 b2 : Value} {T1 T2 : TypeId} (hx : w.heap[x]? = some (.cells #[a0, a1, a2, a3, a4, a5] T1 (0, 0))) (hy : w.heap[y]? = some (.cells #[b0, b1, b2] T2 (0, 0))) :
    w.cell? ⟨x, 0, none⟩ = some a0 ∧ w.cell? ⟨x, 1, none⟩ = some a1 ∧ w.cell? ⟨x, 2, none⟩ = some a2 ∧ w.cell? ⟨x, 3, none⟩ = some a3 ∧ w.cell? ⟨x, 4, none⟩ = some a4 ∧ w.cell? ⟨x, 5, none⟩ = some a5 ∧ w.cell? ⟨y, 0, none⟩ = some b0 ∧ w.cell? ⟨y, 1, none⟩ = some b1 ∧ w.cell? ⟨y, 2, none⟩ = some b2 :=
  ⟨cell_of_block hx 0, cell_of_block hx 1, cell_of_block hx 2, cell_of_block hx 3, cell_of_block hx 4, cell_of_block hx 5, cell_of_block hy 0, cell_of_block hy 1, cell_of_block hy 2⟩

/-- What Surely answers. -/
def surelyE (c : NormC) (t : TraceC) : Ending := if fitsS c t = true then .returned (.tuple #[bv (k1.verdict c t.bad.toNat t.init t.frames), .int .i64 0]) else .returned (.tuple #[.int .u8 0, .int .i64 2])

end Go.Proofs.Ytdheldhecimfnaa
/- Values that are freed, on plain lists; what Free answers. -/
namespace Go.Proofs.Ytdheldhecimfnaa
open Go Go.RowKit Go.Joins

theorem if_iff {α : Type} {P Q : Prop} [Decidable P] [Decidable Q] {a b : α} (h : P ↔ Q) : (if P then a else b) = if Q then a else b := by
  by_cases hp : P
  · rw [if_pos hp, if_pos (h.1 hp)]
  · rw [if_neg hp, if_neg (fun hq => hp (h.2 hq))]
/-- The first m values, where p holds, are X. -/
def fillP (p : Nat → Bool) (l : List UInt8) (m : Nat) : List UInt8 := (List.range l.length).map fun i => if i < m ∧ p i = true then 2 else l.getD i 0
section
variable {p : Nat → Bool} {l : List UInt8} {m : Nat}
theorem fillP_len : (fillP p l m).length = l.length := by simp [fillP]
theorem fillP_at {i : Nat} (h : i < l.length) : (fillP p l m).getD i 0 = if i < m ∧ p i = true then 2 else l.getD i 0 := by simp [fillP, List.getD, h]
theorem ext_u8 {a b : List UInt8} (hl : a.length = b.length) (h : ∀ i, i < a.length → a.getD i 0 = b.getD i 0) : a = b := by
  apply List.ext_getElem hl
  intro i h1 h2
  have := h i h1
  simpa [List.getD, List.getElem?_eq_getElem h1, List.getElem?_eq_getElem h2] using this
theorem fillP_zero : fillP p l 0 = l := ext_u8 fillP_len fun i hi => by
  rw [fillP_at (by rw [fillP_len] at hi; exact hi), if_neg (by omega)]
theorem fillP_no (h : p m = false) : fillP p l (m + 1) = fillP p l m := ext_u8 (by rw [fillP_len, fillP_len]) fun i hi => by
  rw [fillP_len] at hi
  rw [fillP_at hi, fillP_at hi]
  by_cases e : i = m
  · subst e; simp [h]
  · exact if_iff ⟨fun h => ⟨by omega, h.2⟩, fun h => ⟨by omega, h.2⟩⟩
theorem fillP_yes (h : p m = true) (hm : m < l.length) : fillP p l (m + 1) = (fillP p l m).set m 2 := ext_u8 (by rw [List.length_set, fillP_len, fillP_len]) fun i hi => by
  rw [fillP_len] at hi
  rw [fillP_at hi]
  by_cases e : i = m
  · subst e
    have : i < (fillP p l i).length := by rw [fillP_len]; exact hi
    simp [h, List.getD, this]
  · have e2 : ((fillP p l m).set m 2).getD i 0 = (fillP p l m).getD i 0 := by simp [List.getD, List.getElem?_set_ne (fun h => e h.symm)]
    rw [e2, fillP_at hi]
    exact if_iff ⟨fun h => ⟨by omega, h.2⟩, fun h => ⟨by omega, h.2⟩⟩
end
/-- Which values of a trace's rows are freed: of Init, and of each frame. -/
def rowP (c : NormC) (ms : List (List Bool)) (j : Nat) : Nat → Bool :=
  if j = 0 then fun i => decide ((c.lats.getD i (0, 0)).2 = 2) && !((ms.getD 0 []).getD (fstL c + i) false) else fun i => !((ms.getD (j - 1) []).getD (1 + i) false)
def rowG (t : TraceC) (j : Nat) : List UInt8 := (t.init :: t.frames).getD j []
theorem rowP_frame (c : NormC) (ms : List (List Bool)) (k m : Nat) : rowP c ms (k + 1) m = !((ms.getD k []).getD (1 + m) false) := by simp [rowP]
theorem rowP_init (c : NormC) (ms : List (List Bool)) (m : Nat) : rowP c ms 0 m = (decide ((c.lats.getD m (0, 0)).2 = 2) && !((ms.getD 0 []).getD (fstL c + m) false)) := by simp [rowP]
theorem freeT_init (c : NormC) (t : TraceC) (ms : List (List Bool)) : (freeT c t ms).init = fillP (rowP c ms 0) t.init t.init.length := by
  refine ext_u8 (by simp [freeT, freeI, fillP]) fun i hi => ?_
  have hi : i < t.init.length := by simpa [freeT, freeI] using hi
  have e2 : (freeT c t ms).init.getD i 0 = if (c.lats.getD i (0, 0)).2 = 2 ∧ (ms.getD 0 []).getD (fstL c + i) false = false then 2 else t.init.getD i 0 := by
    unfold freeT freeI
    generalize t.init = l at *
    simp only [List.getD, List.getElem?_map, List.getElem?_range hi, Option.map_some, Option.getD_some]
  rw [fillP_at hi, rowP_init, e2]
  refine if_iff ?_
  rw [Bool.and_eq_true, decide_eq_true_eq, Bool.not_eq_true']
  exact ⟨fun h => ⟨hi, h⟩, fun h => h.2⟩
theorem freeT_frame (c : NormC) (t : TraceC) (ms : List (List Bool)) {j : Nat} (hj : j < t.frames.length) : (freeT c t ms).frames.getD j [] = fillP (rowP c ms (j + 1)) (t.frames.getD j []) (t.frames.getD j []).length := by
  have e : (freeT c t ms).frames.getD j [] = freeF (ms.getD j []) (t.frames.getD j []) := by simp [freeT, List.getD, hj]
  rw [e]
  refine ext_u8 (by simp [freeF, fillP]) fun i hi => ?_
  have hi : i < (t.frames.getD j []).length := by simpa [freeF] using hi
  have e2 : (freeF (ms.getD j []) (t.frames.getD j [])).getD i 0 = if (ms.getD j []).getD (1 + i) false = false then 2 else (t.frames.getD j []).getD i 0 := by
    generalize t.frames.getD j [] = l at *
    simp only [freeF, List.getD, List.getElem?_map, List.getElem?_range hi, Option.map_some, Option.getD_some]
  rw [fillP_at hi, rowP_frame, e2]
  refine if_iff ?_
  rw [Bool.not_eq_true']
  exact ⟨fun h => ⟨hi, h⟩, fun h => h.2⟩
theorem freeT_frames (c : NormC) (t : TraceC) (ms : List (List Bool)) : (freeT c t ms).frames.length = t.frames.length := by simp [freeT]

/-- What Free answers. -/
def FreePost (c : NormC) (t : TraceC) (w : World) (e : Ending) (w' : World) : Prop :=
  (fitsS c t = false ∧ e = .returned (.tuple #[traceV 0 ⟨none, 0, 0, none, 0, 0, []⟩, .int .i64 2]) ∧ Below w.heap.size w w') ∨
  (fitsS c t = true ∧ ∃ (ms : List (List Bool)) (s' : TSlots), IsFr c t.bad.toNat t.frames.length ms ∧ e = .returned (.tuple #[traceV t.bad s', .int .i64 0]) ∧ SeesTr w' s' (freeT c t ms) ∧ s'.small ∧ Below w.heap.size w w')
/-- How much of each row has been gone through: while frames are, and while Init is. -/
def cntA (t : TraceC) (k m j : Nat) : Nat := if j = 0 then 0 else if j ≤ k then (rowG t j).length else if j = k + 1 then m else 0
def cntB (t : TraceC) (m j : Nat) : Nat := if j = 0 then m else (rowG t j).length
def rowsA (c : NormC) (t : TraceC) (ms : List (List Bool)) (k m : Nat) (j : Nat) : List UInt8 := fillP (rowP c ms j) (rowG t j) (cntA t k m j)
def rowsC (c : NormC) (t : TraceC) (ms : List (List Bool)) (m : Nat) (j : Nat) : List UInt8 := fillP (rowP c ms j) (rowG t j) (cntB t m j)
section
variable {c : NormC} {t : TraceC} {ms : List (List Bool)}
theorem rowsA_start (j : Nat) : rowsA c t ms 0 0 j = rowG t j := by
  unfold rowsA
  have : cntA t 0 0 j = 0 := by
    unfold cntA
    by_cases h0 : j = 0
    · rw [if_pos h0]
    · rw [if_neg h0, if_neg (by omega)]
      split <;> rfl
  rw [this, fillP_zero]
theorem rowsA_len (k m j : Nat) : (rowsA c t ms k m j).length = (rowG t j).length := fillP_len
theorem rowsA_here (k m : Nat) : rowsA c t ms k m (k + 1) = fillP (rowP c ms (k + 1)) (rowG t (k + 1)) m := by
  unfold rowsA cntA
  rw [if_neg (by omega), if_neg (by omega), if_pos rfl]
theorem rowsA_else (k m m' j : Nat) (h : j ≠ k + 1) : rowsA c t ms k m j = rowsA c t ms k m' j := by
  unfold rowsA cntA
  by_cases h0 : j = 0
  · simp [h0]
  · by_cases h1 : j ≤ k
    · simp [h0, h1]
    · simp [h0, h1, h]
theorem rowsA_full (k m j : Nat) (h : (rowG t (k + 1)).length = m) : rowsA c t ms (k + 1) 0 j = rowsA c t ms k m j := by
  unfold rowsA
  have : cntA t (k + 1) 0 j = cntA t k m j := by
    unfold cntA
    by_cases h0 : j = 0
    · simp [h0]
    · by_cases h1 : j ≤ k
      · rw [if_neg h0, if_neg h0, if_pos (by omega), if_pos h1]
      · by_cases h2 : j = k + 1
        · subst h2; rw [if_neg h0, if_neg h0, if_pos (by omega), if_neg h1, if_pos rfl, h]
        · rw [if_neg h0, if_neg h0, if_neg (by omega), if_neg h1, if_neg h2]; split <;> rfl
  rw [this]
theorem rowsA_yes (k m : Nat) (hp : rowP c ms (k + 1) m = true) (hm : m < (rowG t (k + 1)).length) : rowsA c t ms k (m + 1) (k + 1) = (rowsA c t ms k m (k + 1)).set m 2 := by
  rw [rowsA_here, rowsA_here, fillP_yes hp hm]
theorem rowsA_no (k m j : Nat) (hp : rowP c ms (k + 1) m = false) : rowsA c t ms k (m + 1) j = rowsA c t ms k m j := by
  by_cases h : j = k + 1
  · subst h; rw [rowsA_here, rowsA_here, fillP_no hp]
  · exact rowsA_else k _ _ j h
theorem rowsC_start (n j : Nat) (hj : j < n + 1) : rowsC c t ms 0 j = rowsA c t ms n 0 j := by
  unfold rowsC rowsA cntB cntA
  by_cases h0 : j = 0
  · simp [h0]
  · simp [h0, show j ≤ n by omega]
theorem rowsC_zero (m : Nat) : rowsC c t ms m 0 = fillP (rowP c ms 0) t.init m := by simp [rowsC, cntB, rowG]
theorem rowsC_else (m m' j : Nat) (h : j ≠ 0) : rowsC c t ms m j = rowsC c t ms m' j := by unfold rowsC cntB; simp [h]
theorem rowsC_yes (m : Nat) (hp : rowP c ms 0 m = true) (hm : m < t.init.length) : rowsC c t ms (m + 1) 0 = (rowsC c t ms m 0).set m 2 := by rw [rowsC_zero, rowsC_zero, fillP_yes hp hm]
theorem rowsC_no (m j : Nat) (hp : rowP c ms 0 m = false) : rowsC c t ms (m + 1) j = rowsC c t ms m j := by
  by_cases h : j = 0
  · subst h; rw [rowsC_zero, rowsC_zero, fillP_no hp]
  · exact rowsC_else _ _ j h
theorem rowsC_len (m j : Nat) : (rowsC c t ms m j).length = (rowG t j).length := fillP_len
theorem rowsC_init : rowsC c t ms t.init.length 0 = (freeT c t ms).init := by rw [rowsC_zero, freeT_init]
theorem rowsC_frame (m : Nat) {j : Nat} (hj : j < t.frames.length) : rowsC c t ms m (j + 1) = (freeT c t ms).frames.getD j [] := by
  rw [freeT_frame c t ms hj]
  unfold rowsC cntB
  rw [if_neg (by omega)]
  rfl
end
end Go.Proofs.Ytdheldhecimfnaa
/- norm.areValues, norm.Fits's closure, slices.ContainsFunc on values and on frames, by their contracts. -/
namespace Go.Proofs.Ytdheldhecimfnaa
open Go Go.RowKit Go.Joins

def big2 (u : UInt8) : Bool := decide (2 < u.toNat)
theorem wrongv_any (u : UInt8) (w : World) :
    Calls Try.prog 71 #[bv u] w fun e w' => e = .returned (.bool (big2 u)) ∧ w = w' := by
  obtain ⟨x, hx⟩ : ∃ x, x = u.toNat := ⟨_, rfl⟩
  have e : decide ((2 : Int) < (x : Int)) = big2 u := by unfold big2; rw [hx]; exact decide_eq_decide.2 (by omega)
  have E := Lib.hid e
  unfold bv
  rw [← hx]
  clear e hx
  go_enter Try.func71, Try.ntmps71
  go_wp2
  go_ret
  exact ⟨congrArg (fun b => Ending.returned (.bool b)) E.out, rfl⟩
set_option maxRecDepth 100000 in
theorem idx_vals (l : List UInt8) (a : Option Addr) (n c : Nat) (hn : n ≤ 1048576) (w : World) (h : Sees w a n c (l.map bv)) :
    Calls Try.prog 76 #[.slice a n c, .func (.func 71) #[] #[]] w (IdxPost big2 l w) := by
  have hl := h.lenMap
  have HS := Lib.hid h
  have HL := Lib.hid hl
  have HA := Lib.hid (fun h0 : 0 < n => h.addr h0)
  have HC : Hid (∀ k, k < n → ∀ W, Below w.heap.size w W → Calls Try.prog 71 #[bv (l.getD k 0)] W fun e w' => e = .returned (.bool (big2 (l.getD k 0))) ∧ Below W.heap.size W w') := fun k hk W hb => (wrongv_any (l.getD k 0) W).mono fun e w' ⟨h1, h2⟩ => ⟨h1, by subst h2; exact Below.refl _ _⟩
  clear h hl
  go_enter Try.func76, Try.ntmps76
  go_wp2
  go_loopw [5, 8] (fun v i wr => ∃ k : Nat, k ≤ n ∧ i = .int .i64 k ∧ Hid (∀ j, j < k → big2 (l.getD j 0) = false) ∧ Hid (Below w.heap.size w wr)) (fun _ i _ => n - (intOf i).toNat)
  case atStart => exact ⟨0, Nat.zero_le _, rfl, fun j hj => absurd hj (by omega), Below.refl _ _⟩
  case round =>
    obtain ⟨k, hk, rfl, hno, hB⟩ := hrel
    by_cases hlt : k < n
    · obtain ⟨b, off, rfl, hbw⟩ := HA.out (by omega)
      have hcx := (HS.out.below hB.out).byte k hlt
      obtain ⟨u, hu⟩ : ∃ u, u = l.getD k 0 := ⟨_, rfl⟩
      have W1 : IntKind.i64.wrap ((k : Int) + 1) = (k : Int) + 1 := IntWalk.i64_in _ (by omega)
      obtain ⟨q, hq⟩ : ∃ q, q = big2 (l.getD k 0) := ⟨_, rfl⟩
      have HQ := Lib.hid hq
      have HB := Lib.hid hB.out
      have HNO := Lib.hid hno.out
      have HC1 := HC.out k hlt wr hB.out
      rw [← hq] at HC1
      have HC2 := Lib.hid HC1
      clear hq hB hno HC1
      go_wp2_with fail
      refine HC2.out.mono ?_
      rintro e w' ⟨rfl, hb⟩
      have HB2 := Lib.hid (ext_trans HB.out hb)
      clear hb hbw HC2
      cases q with
      | true =>
        go_wp2
        go_ret
        refine ⟨k, rfl, by omega, ⟨fun _ => ?_, fun _ => by omega⟩, HB2.out⟩
        exact List.any_eq_true.2 ⟨l.getD k 0, getD_mem (by rw [HL.out]; exact hlt), HQ.out.symm⟩
      | false =>
        have HN : Hid (∀ j, j < k + 1 → big2 (l.getD j 0) = false) := fun j hj => by
          rcases Nat.lt_or_ge j k with h | h
          · exact HNO.out j h
          · have : j = k := by omega
            subst this
            exact HQ.out.symm
        go_wp2
        go_roundw
        case rel => exact ⟨k + 1, by omega, by go_num, HN.out, HB2.out⟩
        case measure => simp [intOf]; omega
    · have hkn : k = n := by omega
      subst hkn
      have HB := Lib.hid hB.out
      have HNO := Lib.hid hno.out
      clear hB hno
      go_wp2
      go_ret
      refine ⟨-1, rfl, by omega, ⟨fun h => absurd h (by decide), fun h => ?_⟩, HB.out⟩
      rw [any_none (all_of_getD (d := 0) (fun j hj => HNO.out j (by rw [← HL.out]; exact hj)))] at h
      cases h
theorem has_vals (l : List UInt8) (a : Option Addr) (n c : Nat) (hn : n ≤ 1048576) (w : World) (h : Sees w a n c (l.map bv)) :
    Calls Try.prog 72 #[.slice a n c, .func (.func 71) #[] #[]] w (fun e w' => e = .returned (.bool (l.any big2)) ∧ Below w.heap.size w w') := by
  have HI := Lib.hid (idx_vals l a n c hn w h)
  clear h
  obtain ⟨f, hf⟩ : ∃ f, f = (.func (.func 71) #[] #[] : Value) := ⟨_, rfl⟩
  rw [← hf] at HI ⊢
  have HF := Lib.hid hf
  clear hf
  go_enter Try.func72, Try.ntmps72
  go_wp2_with fail
  refine HI.out.mono ?_
  rintro e w' ⟨z, rfl, hz, hiff, hb⟩
  have e : decide (0 ≤ z) = l.any big2 := by
    cases hq : l.any big2 with
    | true => simpa using hiff.2 hq
    | false => simp; have := fun h => hiff.1 h; rw [hq] at this; exact Int.not_le.1 (fun h => by cases this h)
  have E := Lib.hid e
  clear e hiff
  go_wp2
  go_ret
  exact ⟨congrArg (fun b => Ending.returned (.bool b)) E.out, hb⟩
theorem valsOk_any (l : List UInt8) (many : Int) : valsOk l many = (decide ((l.length : Int) = many) && !l.any big2) := rfl
set_option maxRecDepth 100000 in
theorem arevals_any (many : Int) (l : List UInt8) (a : Option Addr) (n c : Nat) (hn : n ≤ 1048576) (w : World) (h : Sees w a n c (l.map bv)) :
    Calls Try.prog 61 #[.slice a n c, .int .i64 many] w fun e w' => e = .returned (.bool (valsOk l many)) ∧ Below w.heap.size w w' := by
  have hl := h.lenMap
  obtain ⟨q, hq⟩ : ∃ q, q = l.any big2 := ⟨_, rfl⟩
  have HV : Hid (valsOk l many = (decide ((n : Int) = many) && !q)) := by show _ = _; rw [valsOk_any, hl, hq]
  have HI := has_vals l a n c hn w h
  rw [← hq] at HI
  have HH := Lib.hid HI
  clear hq HI h hl
  go_enter Try.func61, Try.ntmps61
  by_cases hm : (n : Int) = many
  · have e1 : ((n : Int) == many) = true := by simpa using hm
    have HM := Lib.hid hm
    clear hm
    go_wp2_with fail
    refine HH.out.mono ?_
    rintro e w' ⟨rfl, hb⟩
    have HB := Lib.hid hb
    clear hb
    cases q with
    | true =>
      go_wp2
      go_ret
      exact ⟨by rw [HV.out]; simp, HB.out⟩
    | false =>
      go_wp2
      go_ret
      exact ⟨by rw [HV.out, decide_eq_true HM.out]; simp, HB.out⟩
  · have e1 : ((n : Int) == many) = false := by simpa using hm
    have e2 : ((n : Int) = many) = False := by simpa using hm
    have HM := Lib.hid hm
    clear hm
    go_wp2
    go_ret
    exact ⟨by rw [HV.out, decide_eq_false HM.out]; simp, Below.refl _ _⟩
end Go.Proofs.Ytdheldhecimfnaa
/- norm.Fits, by its contract. -/
namespace Go.Proofs.Ytdheldhecimfnaa
open Go Go.RowKit Go.Joins

def wrongF (z : Int) (f : List UInt8) : Bool := !valsOk f z
set_option maxRecDepth 100000 in
theorem wrongf_any (z : Int) (C : Nat) (f : List UInt8) (a : Option Addr) (n c : Nat) (hn : n ≤ 1048576) (w : World) (h : Sees w a n c (f.map bv)) (hc : w.cell? ⟨C, 0, .none⟩ = some (.int .i64 z)) :
    Calls Try.prog 62 #[.slice a n c, .pointer (some ⟨C, 0, .none⟩)] w fun e w' => e = .returned (.bool (wrongF z f)) ∧ Below w.heap.size w w' := by
  obtain ⟨q, hq⟩ : ∃ q, q = valsOk f z := ⟨_, rfl⟩
  have H1 := arevals_any z f a n c hn w h
  unfold wrongF
  rw [← hq] at H1 ⊢
  have HA := Lib.hid H1
  clear H1 hq h
  go_enter Try.func62, Try.ntmps62
  go_wp2_with fail
  refine HA.out.mono ?_
  rintro e w' ⟨rfl, hb⟩
  have HB := Lib.hid hb
  clear hb
  go_wp2
  go_ret
  exact ⟨rfl, HB.out⟩

set_option maxRecDepth 100000 in
theorem idx_frames (z : Int) (C : Nat) (l : List (List UInt8)) (ss : List Slc) (a : Option Addr) (n c : Nat) (hn : n ≤ 1048576) (hss : ∀ x ∈ ss, x.2.1 ≤ 1048576) (w : World) (h : SeesF w a n c ss l) (hc : w.cell? ⟨C, 0, .none⟩ = some (.int .i64 z)) :
    Calls Try.prog 73 #[.slice a n c, .func (.func 62) #[] #[.pointer (some ⟨C, 0, .none⟩)]] w (IdxPost (wrongF z) l w) := by
  have hl := h.n_eq
  have HS := Lib.hid h
  have HL := Lib.hid hl
  have HSS := Lib.hid hss
  have HCC := Lib.hid hc
  clear h hl hss hc
  go_enter Try.func73, Try.ntmps73
  go_wp2
  go_loopw [5, 8] (fun v i wr => ∃ k : Nat, k ≤ n ∧ i = .int .i64 k ∧ Hid (∀ j, j < k → wrongF z (l.getD j []) = false) ∧ Hid (Below w.heap.size w wr)) (fun _ i _ => n - (intOf i).toNat)
  case atStart => exact ⟨0, Nat.zero_le _, rfl, fun j hj => absurd hj (by omega), Below.refl _ _⟩
  case round =>
    obtain ⟨k, hk, rfl, hno, hB⟩ := hrel
    by_cases hlt : k < n
    · obtain ⟨b, off, rfl, hbw⟩ := HS.out.row.addr (by omega)
      have hcx := (HS.out.below hB.out).cellAt k hlt
      have hsx := (HS.out.below hB.out).each k (by rw [HL.out]; exact hlt)
      have hsm := HSS.out (ss.getD k slc0) (getD_mem (by rw [HS.out.len, HL.out]; exact hlt))
      obtain ⟨x, hx⟩ : ∃ x : Slc, x = ss.getD k slc0 := ⟨_, rfl⟩
      rw [← hx] at hcx hsx hsm
      clear hx
      obtain ⟨xa, xn, xc⟩ := x
      simp only at hcx hsx hsm
      have W1 : IntKind.i64.wrap ((k : Int) + 1) = (k : Int) + 1 := IntWalk.i64_in _ (by omega)
      obtain ⟨q, hq⟩ : ∃ q, q = wrongF z (l.getD k []) := ⟨_, rfl⟩
      have HC1 := wrongf_any z C (l.getD k []) xa xn xc hsm wr hsx (cell_below HCC.out hB.out)
      rw [← hq] at HC1
      have HC2 := Lib.hid HC1
      have HQ := Lib.hid hq
      have HB := Lib.hid hB.out
      have HNO := Lib.hid hno.out
      clear hq hB hno HC1 hsx
      go_wp2_with fail
      refine HC2.out.mono ?_
      rintro e w' ⟨rfl, hb⟩
      have HB2 := Lib.hid (ext_trans HB.out hb)
      clear hb hbw HC2 hcx
      cases q with
      | true =>
        go_wp2
        go_ret
        refine ⟨k, rfl, by omega, ⟨fun _ => ?_, fun _ => by omega⟩, HB2.out⟩
        exact List.any_eq_true.2 ⟨l.getD k [], getD_mem (by rw [HL.out]; exact hlt), HQ.out.symm⟩
      | false =>
        have HN : Hid (∀ j, j < k + 1 → wrongF z (l.getD j []) = false) := fun j hj => by
          rcases Nat.lt_or_ge j k with h | h
          · exact HNO.out j h
          · have : j = k := by omega
            subst this
            exact HQ.out.symm
        go_wp2
        go_roundw
        case rel => exact ⟨k + 1, by omega, by go_num, HN.out, HB2.out⟩
        case measure => simp [intOf]; omega
    · have hkn : k = n := by omega
      subst hkn
      have HB := Lib.hid hB.out
      have HNO := Lib.hid hno.out
      clear hB hno
      go_wp2
      go_ret
      refine ⟨-1, rfl, by omega, ⟨fun h => absurd h (by decide), fun h => ?_⟩, HB.out⟩
      rw [any_none (all_of_getD (d := []) (fun j hj => HNO.out j (by rw [← HL.out]; exact hj)))] at h
      cases h

theorem has_frames (z : Int) (C : Nat) (l : List (List UInt8)) (ss : List Slc) (a : Option Addr) (n c : Nat) (hn : n ≤ 1048576) (hss : ∀ x ∈ ss, x.2.1 ≤ 1048576) (w : World) (h : SeesF w a n c ss l) (hc : w.cell? ⟨C, 0, .none⟩ = some (.int .i64 z)) :
    Calls Try.prog 63 #[.slice a n c, .func (.func 62) #[] #[.pointer (some ⟨C, 0, .none⟩)]] w (fun e w' => e = .returned (.bool (l.any (wrongF z))) ∧ Below w.heap.size w w') := by
  have HI := Lib.hid (idx_frames z C l ss a n c hn hss w h hc)
  clear h hc hss
  obtain ⟨f, hf⟩ : ∃ f, f = (.func (.func 62) #[] #[.pointer (some ⟨C, 0, .none⟩)] : Value) := ⟨_, rfl⟩
  rw [← hf] at HI ⊢
  have HF := Lib.hid hf
  clear hf
  go_enter Try.func63, Try.ntmps63
  go_wp2_with fail
  refine HI.out.mono ?_
  rintro e w' ⟨z1, rfl, hz, hiff, hb⟩
  have e : decide (0 ≤ z1) = l.any (wrongF z) := by
    cases hq : l.any (wrongF z) with
    | true => simpa using hiff.2 hq
    | false => simp; have := fun h => hiff.1 h; rw [hq] at this; exact Int.not_le.1 (fun h => by cases this h)
  have E := Lib.hid e
  clear e hiff
  go_wp2
  go_ret
  exact ⟨congrArg (fun b => Ending.returned (.bool b)) E.out, hb⟩

/-- What is known ahead of Fits's walk. -/
structure FitI (c : NormC) (t : TraceC) (z bad : Int) (n1 n4 m1 m2 : Nat) (q qm qv : Bool) : Prop where
  no1 : qm = false → q = false
  no2 : bad < 0 → q = false
  no3 : (n4 : Int) ≤ bad → q = false
  nov : qv = false → q = false
  len : qv = true → m1 = n1
  noi : ∀ k, k < n1 → (c.lats.getD k (0, 0)).2 ≠ 2 → (t.init.getD k 0).toNat ≠ (c.lats.getD k (0, 0)).2 → q = false
  yes : qm = true → ¬ bad < 0 → ¬ (n4 : Int) ≤ bad → qv = true → (∀ k, k < n1 → (c.lats.getD k (0, 0)).2 = 2 ∨ (t.init.getD k 0).toNat = (c.lats.getD k (0, 0)).2) → q = (decide (1 ≤ m2) && (decide (m2 ≤ 256) && !t.frames.any (wrongF z)))
theorem fitI_of (c : NormC) (t : TraceC) {n1 n4 m1 m2 : Nat} (l1 : c.lats.length = n1) (l4 : c.bads.length = n4) (lm : t.init.length = m1) (lf : t.frames.length = m2) : FitI c t c.ins t.bad n1 n4 m1 m2 (fitsS c t) (mayC c) (valsOk t.init (n1 : Int)) := by
  refine ⟨fun h => ?_, fun h => ?_, fun h => ?_, fun h => ?_, fun h => ?_, fun k hk h1 h2 => ?_, fun h1 h2 h3 h4 h5 => ?_⟩
  · unfold fitsS; rw [h]; rfl
  · unfold fitsS; rw [decide_eq_true h]; simp
  · unfold fitsS; rw [l4, decide_eq_true h]; simp
  · unfold fitsS; rw [l1, h]; simp
  · unfold valsOk at h
    rw [Bool.and_eq_true, decide_eq_true_eq] at h
    omega
  · have : initOk c t = false := by
      unfold initOk
      rw [List.all_eq_false]
      exact ⟨k, List.mem_range.2 (by rw [l1]; exact hk), by simp only [h1, h2, decide_false, Bool.or_self]; simp⟩
    unfold fitsS; rw [this]; simp
  · have hi : initOk c t = true := by
      unfold initOk
      rw [List.all_eq_true]
      intro k hk
      have := h5 k (by rw [← l1]; exact List.mem_range.1 hk)
      rcases this with h | h <;> simp only [h, decide_true, Bool.true_or, Bool.or_true]
    have hf : t.frames.all (fun f => valsOk f c.ins) = !t.frames.any (wrongF c.ins) := by
      unfold wrongF
      rw [List.all_eq_not_any_not]
    unfold fitsS
    rw [h1, decide_eq_false h2, l4, decide_eq_false h3, l1, h4, hi, lf, hf]
    simp
set_option maxRecDepth 100000 in
set_option maxHeartbeats 3200000 in
theorem fits_any (c : NormC) (t : TraceC) (s : CSlots) (st : TSlots) (w : World) (h : SeesCir w s c) (ht : SeesTr w st t) (hs : s.small) (hst : st.small) (hlo : -9223372036854775808 ≤ c.ins) (hhi : c.ins < 9223372036854775808) (hb1 : -9223372036854775808 ≤ t.bad ∧ t.bad < 9223372036854775808) :
    Calls Try.prog 37 #[cirV c.ins s, traceV t.bad st] w fun e w' => e = .returned (.bool (fitsS c t)) ∧ Below w.heap.size w w' := by
  have HMAY := Lib.hid (fun W (hb : Below w.heap.size w W) => may3_any c s W (h.below hb) hs hlo hhi)
  obtain ⟨a1, n1, c1, a2, n2, c2, a3, n3, c3, a4, n4, c4, a5, n5, c5⟩ := s
  obtain ⟨b1, m1, d1, b2, m2, d2, ss⟩ := st
  have FI := fitI_of c t h.s1.1 h.s4.lenMap ht.s1.lenMap ht.s2.n_eq
  simp only at FI
  have hs1 : n1 ≤ 1048576 := hs.n1
  have hs4 : n4 ≤ 1048576 := hs.n4
  have hm1 : m1 ≤ 1048576 := hst.n1
  have hm2 : m2 ≤ 1048576 := hst.n2
  obtain ⟨z, hz⟩ : ∃ z, z = c.ins := ⟨_, rfl⟩
  obtain ⟨bad, hbad⟩ : ∃ z, z = t.bad := ⟨_, rfl⟩
  obtain ⟨q, hq⟩ : ∃ q, q = fitsS c t := ⟨_, rfl⟩
  obtain ⟨qm, hqm⟩ : ∃ q, q = mayC c := ⟨_, rfl⟩
  obtain ⟨qv, hqv⟩ : ∃ q, q = valsOk t.init (n1 : Int) := ⟨_, rfl⟩
  rw [← hz, ← hbad, ← hq, ← hqm, ← hqv] at FI
  rw [← hz, ← hqm] at HMAY
  have HVAL : Hid (∀ W, Below w.heap.size w W → Calls Try.prog 61 #[.slice b1 m1 d1, .int .i64 (n1 : Int)] W fun e w' => e = .returned (.bool qv) ∧ Below W.heap.size W w') := fun W hb => by
    have h1 := arevals_any (n1 : Int) t.init b1 m1 d1 hm1 W (ht.s1.below hb)
    rw [← hqv] at h1
    exact h1
  have HFR : Hid (∀ (C : Nat) W, Below w.heap.size w W → W.cell? ⟨C, 0, .none⟩ = some (.int .i64 z) → Calls Try.prog 63 #[.slice b2 m2 d2, .func (.func 62) #[] #[.pointer (some ⟨C, 0, .none⟩)]] W (fun e w' => e = .returned (.bool (t.frames.any (wrongF z))) ∧ Below W.heap.size W w')) := fun C W hb hc => has_frames z C t.frames ss b2 m2 d2 hm2 hst.each W (ht.s2.below hb) hc
  have HS := Lib.hid h
  have HT := Lib.hid ht
  have HFI := Lib.hid FI
  have hb2 := hb1.2
  have hb3 := hb1.1
  rw [← hbad] at hb2 hb3
  rw [← hz, ← hbad, ← hq]
  clear hz hbad hq hqm hqv FI h ht hs hst hlo hhi hb1
  unfold cirV traceV at *
  go_enter Try.func37, Try.ntmps37
  go_upto_region 1 with fail
  generalize hW : World.alloc (World.alloc w _) _ = W1
  have hb : Below w.heap.size w W1 := by subst hW; exact ext_trans (ext_alloc _ _) (ext_alloc _ _)
  have hx : W1.heap[w.heap.size]? = some (.cells #[.int .i64 z, .slice a1 n1 c1, .slice a2 n2 c2, .slice a3 n3 c3, .slice a4 n4 c4, .slice a5 n5 c5] 26 (0, 0)) := by subst hW; exact heap_below (heap_new _ _ _ rfl) (ext_alloc _ _)
  have hy : W1.heap[w.heap.size + 1]? = some (.cells #[.int .i64 bad, .slice b1 m1 d1, .slice b2 m2 d2] 30 (0, 0)) := by subst hW; exact heap_new _ _ _ (by simp)
  have HB := Lib.hid hb
  have HX := Lib.hid hx
  have HY := Lib.hid hy
  clear hW hb hx hy
  have p0 := cell_of_block HX.out 0
  have p1 := cell_of_block HX.out 1
  have p2 := cell_of_block HX.out 2
  have p3 := cell_of_block HX.out 3
  have p4 := cell_of_block HX.out 4
  have p5 := cell_of_block HX.out 5
  go_wp2_with fail
  refine (HMAY.out W1 HB.out).mono ?_
  rintro e W2 ⟨rfl, hb⟩
  have HX2 := Lib.hid (heap_below HX.out hb)
  have HY2 := Lib.hid (heap_below HY.out hb)
  have HB2 := Lib.hid (ext_trans HB.out hb)
  clear hb p0 p1 p2 p3 p4 p5 HMAY HX HY HB
  cases qm with
  | false =>
    have HF : Hid (q = false) := HFI.out.no1 rfl
    go_wp2
    go_ret
    exact ⟨by rw [HF.out]; rfl, HB2.out⟩
  | true =>
  have p4 := cell_of_block HX2.out 4
  have p1 := cell_of_block HX2.out 1
  have r0 := cell_of_block HY2.out 0
  have r1 := cell_of_block HY2.out 1
  by_cases t1 : bad < 0
  · have e1 : decide (bad < 0) = true := by simpa using t1
    have HF : Hid (q = false) := HFI.out.no2 t1
    go_wp2
    go_ret
    exact ⟨by rw [HF.out]; rfl, HB2.out⟩
  have e1 : decide (bad < 0) = false := by simpa using t1
  by_cases t2 : (n4 : Int) ≤ bad
  · have e2 : decide ((n4 : Int) ≤ bad) = true := by simpa using t2
    have HF : Hid (q = false) := HFI.out.no3 t2
    go_wp2
    go_ret
    exact ⟨by rw [HF.out]; rfl, HB2.out⟩
  have e2 : decide ((n4 : Int) ≤ bad) = false := by simpa using t2
  have T1 := Lib.hid t1
  have T2 := Lib.hid t2
  clear t1 t2
  go_wp2_with fail
  refine (HVAL.out W2 HB2.out).mono ?_
  rintro e W3 ⟨rfl, hb⟩
  have HX3 := Lib.hid (heap_below HX2.out hb)
  have HY3 := Lib.hid (heap_below HY2.out hb)
  have HB3 := Lib.hid (ext_trans HB2.out hb)
  clear hb p1 p4 r0 r1 HVAL HX2 HY2 HB2 e1 e2
  cases qv with
  | false =>
    have HF : Hid (q = false) := HFI.out.nov rfl
    go_wp2
    go_ret
    exact ⟨by rw [HF.out]; rfl, HB3.out⟩
  | true =>
  obtain rfl : m1 = n1 := HFI.out.len rfl
  have p1 := cell_of_block HX3.out 1
  go_wp2
  clear p1
  go_loopw [36, 5, 6] (fun i v5 v6 wr => ∃ k : Nat, k ≤ m1 ∧ i = .int .i64 k ∧ Hid (∀ j, j < k → (c.lats.getD j (0, 0)).2 = 2 ∨ (t.init.getD j 0).toNat = (c.lats.getD j (0, 0)).2) ∧ Hid (Below W3.heap.size W3 wr)) (fun i _ _ _ => m1 - (intOf i).toNat)
  case atStart => exact ⟨0, Nat.zero_le _, rfl, fun j hj => absurd hj (by omega), Below.refl _ _⟩
  case round =>
    obtain ⟨k, hk, rfl, hno, hB⟩ := hrel
    by_cases hlt : k < m1
    · obtain ⟨b, off, rfl, hbw⟩ := HS.out.s1.addr (show 0 < m1 by omega)
      obtain ⟨b', off', rfl, hbw'⟩ := HT.out.s1.addr (show 0 < m1 by omega)
      obtain ⟨qx, qy⟩ := ((HS.out.below HB3.out).s1.below hB.out).cells k hlt (0, 0)
      have hby := ((HT.out.below HB3.out).s1.below hB.out).byte k hlt
      have hnoi := HFI.out.noi k hlt
      obtain ⟨v, hv⟩ : ∃ v, v = (t.init.getD k 0).toNat := ⟨_, rfl⟩
      have hby2 : wr.cell? ⟨b', off' + k, none⟩ = some (.int .u8 (v : Int)) := by rw [hv]; exact hby
      obtain ⟨p, hp⟩ : ∃ t, t = c.lats.getD k (0, 0) := ⟨_, rfl⟩
      rw [← hp] at qx qy hnoi
      rw [← hv] at hnoi
      have STEP : Hid ((p.2 = 2 ∨ v = p.2) → ∀ j, j < k + 1 → (c.lats.getD j (0, 0)).2 = 2 ∨ (t.init.getD j 0).toNat = (c.lats.getD j (0, 0)).2) := fun hh j hj => by
        rcases Nat.lt_or_ge j k with h | h
        · exact hno.out j h
        · have : j = k := by omega
          subst this
          rw [← hp, ← hv]; exact hh
      clear hv hp hby hno
      obtain ⟨x, y⟩ := p
      simp only [nv32, nv8] at qx qy
      simp only at hnoi STEP
      have HNOI := Lib.hid hnoi
      have W1' : IntKind.i64.wrap ((k : Int) + 1) = (k : Int) + 1 := IntWalk.i64_in _ (by omega)
      clear hnoi
      go_upto_region 6 with fail
      generalize hW : World.alloc wr _ = Wg
      have Bg : Below wr.heap.size wr Wg := by subst hW; exact ext_alloc _ _
      have hG : Wg.heap[wr.heap.size]? = some (.cells #[.int .u32 x, .int .u8 y] 55 (0, 0)) := by subst hW; exact heap_new _ _ _ rfl
      have HBB := Lib.hid (ext_trans hB.out Bg)
      have hby3 := cell_below hby2 Bg
      have g1 : Wg.cell? ⟨wr.heap.size, 1, none⟩ = some (.int .u8 y) := cell_of_block hG 1
      have r1 := cell_of_block (heap_below HY3.out HBB.out) 1
      clear hW hG Bg qx qy hby2 hB hbw hbw'
      by_cases hy2 : y = 2
      · have f1 : ((y : Int) != 2) = false := by simp; omega
        have f2 : ((y : Int) == 2) = true := by simp; omega
        have HN := Lib.hid (STEP.out (Or.inl hy2))
        clear STEP hy2
        go_quiet (fail)
        go_wp2
        go_roundw
        case rel =>
          rename_i nq
          exact ⟨k + 1, by omega, by go_num, HN.out, ext_trans HBB.out (ext_drewN _ nq)⟩
        case measure => simp [intOf]; omega
      · have f1 : ((y : Int) != 2) = true := by simp; omega
        have f2 : ((y : Int) == 2) = false := by simp; omega
        by_cases hvy : v = y
        · have f3 : ((v : Int) != (y : Int)) = false := by simp; omega
          have f4 : ((v : Int) == (y : Int)) = true := by simp; omega
          have HN := Lib.hid (STEP.out (Or.inr hvy))
          clear STEP hy2 hvy
          go_quiet (fail)
          go_wp2
          go_roundw
          case rel =>
            rename_i nq
            exact ⟨k + 1, by omega, by go_num, HN.out, ext_trans HBB.out (ext_drewN _ nq)⟩
          case measure => simp [intOf]; omega
        · have f3 : ((v : Int) != (y : Int)) = true := by simp; omega
          have f4 : ((v : Int) == (y : Int)) = false := by simp; omega
          have HF : Hid (q = false) := HNOI.out hy2 hvy
          clear STEP hy2 hvy
          go_quiet (fail)
          go_wp2
          go_ret
          rename_i nq
          exact ⟨by rw [HF.out]; rfl, ext_trans HB3.out (ext_trans HBB.out (ext_drewN _ nq))⟩
    · obtain rfl : m1 = k := by omega
      have hQ := HFI.out.yes rfl (by have := T1.out; omega) (by have := T2.out; omega) rfl hno.out
      have HXR := Lib.hid (heap_below HX3.out hB.out)
      have HYR := Lib.hid (heap_below HY3.out hB.out)
      have HBR := Lib.hid (ext_trans HB3.out hB.out)
      obtain ⟨qf, hqf⟩ : ∃ q, q = t.frames.any (wrongF z) := ⟨_, rfl⟩
      have HF1 := HFR.out w.heap.size wr HBR.out (cell_of_block HXR.out 0)
      rw [← hqf] at hQ HF1
      have HQ := Lib.hid hQ
      have HF2 := Lib.hid HF1
      clear hQ hqf HF1 hno hB hlt hk
      have r2 := cell_of_block HYR.out 2
      by_cases t1 : 1 ≤ m2
      case neg =>
        have e1 : decide ((1 : Int) ≤ (m2 : Int)) = false := by simp; omega
        have HF : Hid (q = false) := by show _ = _; rw [HQ.out, decide_eq_false t1]; rfl
        clear t1
        go_wp2
        go_ret
        exact ⟨by rw [HF.out]; rfl, HBR.out⟩
      have e1 : decide ((1 : Int) ≤ (m2 : Int)) = true := by simp; omega
      by_cases t2 : m2 ≤ 256
      case neg =>
        have e2 : decide ((m2 : Int) ≤ 256) = false := by simp; omega
        have HF : Hid (q = false) := by show _ = _; rw [HQ.out, decide_eq_false t2]; simp
        clear t1 t2
        go_wp2
        go_ret
        exact ⟨by rw [HF.out]; rfl, HBR.out⟩
      have e2 : decide ((m2 : Int) ≤ 256) = true := by simp; omega
      have HF : Hid (q = !qf) := by show _ = _; rw [HQ.out, decide_eq_true t1, decide_eq_true t2]; rfl
      clear t1 t2
      go_wp2_with fail
      refine HF2.out.mono ?_
      rintro e W4 ⟨rfl, hb⟩
      have HB4 := Lib.hid (ext_trans HBR.out hb)
      clear hb
      go_wp2
      go_ret
      exact ⟨by rw [HF.out]; rfl, HB4.out⟩
end Go.Proofs.Ytdheldhecimfnaa
namespace Go.Proofs.Ytdheldhecimfnaa
open Go Go.RowKit Go.Joins

theorem keep9c {w w' : World} {a0 a1 a2 a3 a4 a5 a6 a7 a8 : Addr} {v0 v1 v2 v3 v4 v5 v6 v7 v8 : Value} (h : w.cell? a0 = some v0 ∧ w.cell? a1 = some v1 ∧ w.cell? a2 = some v2 ∧ w.cell? a3 = some v3 ∧ w.cell? a4 = some v4 ∧ w.cell? a5 = some v5 ∧ w.cell? a6 = some v6 ∧ w.cell? a7 = some v7 ∧ w.cell? a8 = some v8) (hb : Below w.heap.size w w') :
    w'.cell? a0 = some v0 ∧ w'.cell? a1 = some v1 ∧ w'.cell? a2 = some v2 ∧ w'.cell? a3 = some v3 ∧ w'.cell? a4 = some v4 ∧ w'.cell? a5 = some v5 ∧ w'.cell? a6 = some v6 ∧ w'.cell? a7 = some v7 ∧ w'.cell? a8 = some v8 := by
  obtain ⟨h0, h1, h2, h3, h4, h5, h6, h7, h8⟩ := h
  have one : ∀ {a : Addr} {v : Value}, w.cell? a = some v → w'.cell? a = some v := fun {a v} h => (hb.cell (World.block_lt_of_cell? _ _ h)).trans h
  exact ⟨one h0, one h1, one h2, one h3, one h4, one h5, one h6, one h7, one h8⟩
theorem KeptNB.below {w w' w2 : World} (h : KeptNB w w') (hb : Below w'.heap.size w' w2) : KeptNB w w2 := fun D C T fr hD hT => heap_below (h D C T fr hD hT) hb

set_option maxRecDepth 100000 in
set_option maxHeartbeats 12800000 in
theorem free9_any (c : NormC) (t : TraceC) (s : CSlots) (st : TSlots) (w : World) (h : SeesCir w s c) (ht : SeesTr w st t) (hs : s.small) (hst : st.small) (hlo : -9223372036854775808 ≤ c.ins) (hhi : c.ins < 9223372036854775808) (hb1 : -9223372036854775808 ≤ t.bad ∧ t.bad < 9223372036854775808) :
    Calls Try.prog 16 #[cirV c.ins s, traceV t.bad st] w (FreePost c t w) := by
  have HFIT := Lib.hid (fun W (hb : Below w.heap.size w W) => fits_any c t s st W (h.below hb) (ht.below hb) hs hst hlo hhi hb1)
  have HFR := Lib.hid (fun W (hb : Below w.heap.size w W) => frames9_any c t.bad (st.n2 : Int) s W (h.below hb) hs hlo hhi)
  have HCT := Lib.hid (fun W (hb : Below w.heap.size w W) => copytr2_any t st W (ht.below hb) hst)
  have PNO : Hid (fitsS c t = false → ∀ w', Below w.heap.size w w' → FreePost c t w (.returned (.tuple #[traceV 0 ⟨none, 0, 0, none, 0, 0, []⟩, .int .i64 2])) w') := fun hq w' hb => .inl ⟨hq, rfl, hb⟩
  have PYES : Hid (fitsS c t = true → ∀ w' ms s', IsFr c t.bad.toNat st.n2 ms → SeesTr w' s' (freeT c t ms) → s'.small → Below w.heap.size w w' → FreePost c t w (.returned (.tuple #[traceV t.bad s', .int .i64 0])) w') := fun hq w' ms s' h1 h2 h3 h4 => .inr ⟨hq, ms, s', by rw [ht.s2.n_eq]; exact h1, rfl, h2, h3, h4⟩
  have HQ : Hid (fitsS c t = true → FitsC c t) := fits_iff.1
  have HN2 : Hid (t.frames.length = st.n2) := ht.s2.n_eq
  have HFO : Hid (FitsC c t → frOk c t.bad (st.n2 : Int) = true) := fun hf => by
    have := hf.bad
    have := hf.pos
    have := hf.one
    have := hf.few
    have := HN2.out
    exact (frOk_cases c t.bad (st.n2 : Int)).2.2.2.2.2 (mayC_iff.2 hf.may) (by omega) (by omega) (by omega) (by omega)
  have HC := Lib.hid h
  have HSM := Lib.hid hs
  have HSTM := Lib.hid hst
  obtain ⟨z, hz⟩ : ∃ z, z = c.ins := ⟨_, rfl⟩
  have HZI := Lib.hid hz
  obtain ⟨bad, hbad⟩ : ∃ bad, bad = t.bad := ⟨_, rfl⟩
  have HBAD := Lib.hid hbad
  obtain ⟨q, hq⟩ : ∃ q, q = fitsS c t := ⟨_, rfl⟩
  rw [← hz, ← hbad, ← hq] at HFIT
  rw [← hz, ← hbad] at HFR
  rw [← hbad] at HCT HFO PYES
  rw [← hq] at PNO PYES HQ
  rw [← hz, ← hbad]
  clear hz hbad hq h ht hs hst hlo hhi hb1
  unfold cirV traceV at *
  go_enter Try.func16, Try.ntmps16
  go_upto_region 1 with fail
  generalize hW : World.alloc (World.alloc (World.alloc w _) _) _ = W1
  have B1 : Below w.heap.size w W1 := by subst hW; exact ext_trans (ext_alloc _ _) (ext_trans (ext_alloc _ _) (ext_alloc _ _))
  have hX : W1.heap[w.heap.size]? = some (.cells #[.int .i64 z, .slice s.a1 s.n1 s.c1, .slice s.a2 s.n2 s.c2, .slice s.a3 s.n3 s.c3, .slice s.a4 s.n4 s.c4, .slice s.a5 s.n5 s.c5] 26 (0, 0)) := by subst hW; exact heap_below (heap_new _ _ _ rfl) (ext_trans (ext_alloc _ _) (ext_alloc _ _))
  have hY : W1.heap[w.heap.size + 1]? = some (.cells #[.int .i64 bad, .slice st.a1 st.n1 st.c1, .slice st.a2 st.n2 st.c2] 30 (0, 0)) := by subst hW; exact heap_below (heap_new _ _ _ (by simp)) (ext_alloc _ _)
  have hZ : W1.heap[w.heap.size + 1 + 1]? = some (.cells #[.int .i64 0, .slice none 0 0, .slice none 0 0] 30 (0, 0)) := by subst hW; exact heap_new _ _ _ (by simp)
  have HX := Lib.hid hX
  have HY := Lib.hid hY
  have HZ := Lib.hid hZ
  have HB := Lib.hid B1
  clear hW B1 hX hY hZ
  have p0 : W1.cell? ⟨w.heap.size, 0, none⟩ = some (.int .i64 z) := cell_of_block HX.out 0
  have p1 : W1.cell? ⟨w.heap.size, 1, none⟩ = some (.slice s.a1 s.n1 s.c1) := cell_of_block HX.out 1
  have p2 : W1.cell? ⟨w.heap.size, 2, none⟩ = some (.slice s.a2 s.n2 s.c2) := cell_of_block HX.out 2
  have p3 : W1.cell? ⟨w.heap.size, 3, none⟩ = some (.slice s.a3 s.n3 s.c3) := cell_of_block HX.out 3
  have p4 : W1.cell? ⟨w.heap.size, 4, none⟩ = some (.slice s.a4 s.n4 s.c4) := cell_of_block HX.out 4
  have p5 : W1.cell? ⟨w.heap.size, 5, none⟩ = some (.slice s.a5 s.n5 s.c5) := cell_of_block HX.out 5
  have t0 : W1.cell? ⟨w.heap.size + 1, 0, none⟩ = some (.int .i64 bad) := cell_of_block HY.out 0
  have t1 : W1.cell? ⟨w.heap.size + 1, 1, none⟩ = some (.slice st.a1 st.n1 st.c1) := cell_of_block HY.out 1
  have t2 : W1.cell? ⟨w.heap.size + 1, 2, none⟩ = some (.slice st.a2 st.n2 st.c2) := cell_of_block HY.out 2
  go_wp2_with fail
  refine (HFIT.out W1 HB.out).mono ?_
  rintro e W2 ⟨rfl, hb⟩
  have HX2 := Lib.hid (heap_below HX.out hb)
  have HY2 := Lib.hid (heap_below HY.out hb)
  have HZ2 := Lib.hid (heap_below HZ.out hb)
  have HB2 := Lib.hid (ext_trans HB.out hb)
  clear hb p0 p1 p2 p3 p4 p5 t0 t1 t2 HX HY HZ HB HFIT
  cases q with
  | false =>
    have HP := Lib.hid (PNO.out rfl)
    have z0 := cell_of_block HZ2.out 0
    have y0 := unfrozen_of_block HZ2.out 0
    have z1 := cell_of_block HZ2.out 1
    have y1 := unfrozen_of_block HZ2.out 1
    have z2 := cell_of_block HZ2.out 2
    have y2 := unfrozen_of_block HZ2.out 2
    go_wp2
    refine bodyPost_ret (v := .tuple #[traceV 0 ⟨none, 0, 0, none, 0, 0, []⟩, .int .i64 2]) ?_ rfl ?_
    · have h6 := tri_set_t HZ2.out rfl (.int .i64 0) (.slice none 0 0) (.slice none 0 0)
      have g0 := cell_of_block h6 0
      have g1 := cell_of_block h6 1
      have g2 := cell_of_block h6 2
      simp [results, Try.results16, go_sem, g0, g1, g2]
      rfl
    · exact HP.out _ (set3_t (w.heap.size + 1 + 1) (by omega) HB2.out)
  | true =>
  have HF := Lib.hid (HQ.out rfl)
  have HPY0 := Lib.hid (PYES.out rfl)
  obtain ⟨i, hii, hi2, hL, hG⟩ := insN HF.out.may
  have HFL := Lib.hid (fun W => cfirstLatch_any i s (by omega) W)
  rw [← hii, ← HZI.out] at HFL
  obtain ⟨FL, hFL⟩ : ∃ FL, FL = 1 + i := ⟨_, rfl⟩
  rw [← hFL] at HFL
  have HLL : Hid (fstL c = FL) := by unfold Hid; rw [hL, hFL]
  have HII : Hid (c.ins = (i : Int)) := hii
  have hFLI : Hid (FL = 1 + i) := hFL
  have hFS : FL ≤ 20000 := by have := HF.out.may.few; unfold varsN at this; unfold fstL at hL; omega
  obtain ⟨N, hN⟩ : ∃ N, N = 1 + varsN c := ⟨_, rfl⟩
  have HN := Lib.hid hN
  have HLA : Hid (c.lats.length = s.n1) := HC.out.s1.1
  have hNI : i < N ∧ FL + s.n1 ≤ N := by
    have h1 := HLA.out
    have h2 : fstL c + c.lats.length ≤ 1 + varsN c := by unfold fstL varsN; omega
    rw [HLL.out, h1] at h2
    omega
  have hns : s.n1 ≤ 1048576 := HSM.out.n1
  have hNS : N ≤ 16385 := by have := HF.out.may.few; omega
  have hn2s : st.n2 ≤ 256 := by rw [← HN2.out]; exact HF.out.few
  have hn21 : 0 < st.n2 := by rw [← HN2.out]; exact HF.out.one
  clear hii hi2 hL hG hFL hN PNO PYES HQ
  have p0 : W2.cell? ⟨w.heap.size, 0, none⟩ = some (.int .i64 z) := cell_of_block HX2.out 0
  have p1 : W2.cell? ⟨w.heap.size, 1, none⟩ = some (.slice s.a1 s.n1 s.c1) := cell_of_block HX2.out 1
  have p2 : W2.cell? ⟨w.heap.size, 2, none⟩ = some (.slice s.a2 s.n2 s.c2) := cell_of_block HX2.out 2
  have p3 : W2.cell? ⟨w.heap.size, 3, none⟩ = some (.slice s.a3 s.n3 s.c3) := cell_of_block HX2.out 3
  have p4 : W2.cell? ⟨w.heap.size, 4, none⟩ = some (.slice s.a4 s.n4 s.c4) := cell_of_block HX2.out 4
  have p5 : W2.cell? ⟨w.heap.size, 5, none⟩ = some (.slice s.a5 s.n5 s.c5) := cell_of_block HX2.out 5
  have t0 : W2.cell? ⟨w.heap.size + 1, 0, none⟩ = some (.int .i64 bad) := cell_of_block HY2.out 0
  have t1 : W2.cell? ⟨w.heap.size + 1, 1, none⟩ = some (.slice st.a1 st.n1 st.c1) := cell_of_block HY2.out 1
  have t2 : W2.cell? ⟨w.heap.size + 1, 2, none⟩ = some (.slice st.a2 st.n2 st.c2) := cell_of_block HY2.out 2
  go_wp2_with fail
  refine (HFR.out W2 HB2.out).mono ?_
  rintro e W3 he
  rcases he with ⟨h1, _⟩ | ⟨_, ms, Gm, F, n', hn', rfl, hfr, hrow, hrows, hF3, hb⟩
  · rw [HBAD.out] at h1
    have := HFO.out HF.out
    rw [HBAD.out, h1] at this
    cases this
  obtain rfl : n' = st.n2 := by omega
  rw [← HN.out] at hrow
  have HFRM := Lib.hid hfr
  have HR3 := Lib.hid hrow
  have HRS := Lib.hid hrows
  have HX3 := Lib.hid (heap_below HX2.out hb)
  have HY3 := Lib.hid (heap_below HY2.out hb)
  have HZ3 := Lib.hid (heap_below HZ2.out hb)
  have HB3 := Lib.hid (ext_trans HB2.out hb)
  clear hb hrow hrows hF3 hfr hn' p0 p1 p2 p3 p4 p5 t0 t1 t2 HX2 HY2 HZ2 HB2 HFR HFO
  have t0 : W3.cell? ⟨w.heap.size + 1, 0, none⟩ = some (.int .i64 bad) := cell_of_block HY3.out 0
  have t1 : W3.cell? ⟨w.heap.size + 1, 1, none⟩ = some (.slice st.a1 st.n1 st.c1) := cell_of_block HY3.out 1
  have t2 : W3.cell? ⟨w.heap.size + 1, 2, none⟩ = some (.slice st.a2 st.n2 st.c2) := cell_of_block HY3.out 2
  go_wp2_with fail
  refine (HCT.out W3 HB3.out).mono ?_
  rintro e W4 ⟨⟨a1, n1, c1, a2, n2, c2, ss⟩, rfl, ho, hap, hb⟩
  obtain ⟨F2, hF2, hF2a, hF2b⟩ := ho.blk
  simp only at hF2a hF2b
  subst hF2a
  have hq1 : n1 = t.init.length := (row_len ho.o1).symm
  have hq2 := ho.n2
  have hq3 := ho.len
  have hq4 := ho.c2
  simp only at hq2 hq3 hq4
  obtain rfl : n2 = st.n2 := by rw [hq2]; exact HN2.out
  obtain rfl : n1 = s.n1 := by rw [hq1, HF.out.init]; exact HLA.out
  have HQ1 := Lib.hid hq1
  have HQ3 : Hid (ss.length = st.n2) := by unfold Hid; rw [hq3]; exact HN2.out
  obtain ⟨base, hbase⟩ : ∃ base, base = W3.heap.size := ⟨_, rfl⟩
  rw [← hbase] at ho
  have HO := Lib.hid ho
  have HBS : Hid (w.heap.size + 1 + 1 < base) := by have := heap_lt HZ3.out; unfold Hid; omega
  have HX4 := Lib.hid (heap_below HX3.out hb)
  have HZ4 := Lib.hid (heap_below HZ3.out hb)
  have HB4 := Lib.hid (ext_trans HB3.out hb)
  have HR4 := Lib.hid (heap_below HR3.out hb)
  have HRS4 := Lib.hid (fun f (hf : f < st.n2) => heap_below (HRS.out f hf).1 hb)
  have HF2 := Lib.hid hF2b
  have HB34 : Hid (base ≤ W4.heap.size) := by unfold Hid; rw [hbase]; exact hb.size
  obtain ⟨L, hL⟩ : ∃ L, L = ((a1, s.n1, c1) :: ss : List Slc) := ⟨_, rfl⟩
  have hap : ApartL L := by rw [hL]; exact hap
  have HAP := Lib.hid hap
  have HLE := Lib.hid hL
  have HLL2 : Hid (L.length = st.n2 + 1) := by unfold Hid; rw [hL, List.length_cons, HQ3.out]
  clear hb ho hap hF2 hF2b hq1 hq2 hq3 hq4 hbase hL t0 t1 t2 HX3 HY3 HZ3 HB3 HR3 HRS HCT
  go_upto_region 7 with fail
  generalize hW : World.alloc W4 _ = W5
  have B5 : Below W4.heap.size W4 W5 := by subst hW; exact ext_alloc _ _
  have hfb : W5.heap[W4.heap.size]? = some (.cells #[.int .i64 bad, .slice a1 s.n1 c1, .slice (some ⟨F2, 0, none⟩) st.n2 c2] 30 (0, 0)) := by subst hW; exact heap_new _ _ _ rfl
  obtain ⟨FB, hFB⟩ : ∃ FB, FB = W4.heap.size := ⟨_, rfl⟩
  rw [← hFB] at hfb ⊢
  have HFB := Lib.hid hfb
  have HX5 := Lib.hid (heap_below HX4.out B5)
  have HB35 : Hid (base ≤ W5.heap.size) := Nat.le_trans HB34.out B5.size
  have HZ5 := Lib.hid (heap_below HZ4.out B5)
  have HB5 := Lib.hid (ext_trans HB4.out B5)
  have HR5 := Lib.hid (heap_below HR4.out B5)
  have HRS5 := Lib.hid (fun f (hf : f < st.n2) => heap_below (HRS4.out f hf) B5)
  have HF25 := Lib.hid (heap_below HF2.out B5)
  have HO5 := Lib.hid (HO.out.below B5)
  have HROWS : Hid (RowsL W5 base L (rowsA c t ms 0 0)) := by
    intro j hj
    rw [HLE.out, rowsA_start]
    cases j with
    | zero => exact HO5.out.o1
    | succ j => exact HO5.out.rows j (by have := HLL2.out; have := HN2.out; omega)
  have HLEN : Hid (∀ j, j < st.n2 + 1 → (L.getD j slc0).2.1 = (rowG t j).length) := fun j hj => by
    have h1 := HROWS.out j (by rw [HLL2.out]; exact hj)
    rw [rowsA_start] at h1
    exact (row_len (show Row isByte W5 base 5 (.slice (L.getD j slc0).1 (L.getD j slc0).2.1 (L.getD j slc0).2.2) _ _ from h1)).symm
  have HFRL : Hid (∀ k, k < st.n2 → (rowG t (k + 1)).length = i) := fun k hk => by
    have h1 := HF.out.frames k (by rw [HN2.out]; exact hk)
    rw [HII.out] at h1
    have h2 : rowG t (k + 1) = t.frames.getD k [] := by simp [rowG]
    rw [h2]
    omega
  clear hW B5 hfb hFB HX4 HZ4 HB4 HR4 HRS4 HF2 HO
  have f2 := cell_of_block HFB.out 2
  go_wp2
  clear f2
  go_loopw [38, 9, 10, 11] (fun iv _ _ _ wr => ∃ k : Nat, k ≤ st.n2 ∧ iv = .int .i64 k ∧ Hid (RowsL wr base L (rowsA c t ms k 0)) ∧ Hid (KeptNB W5 wr) ∧ Hid (Below base W5 wr)) (fun iv _ _ _ _ => st.n2 - (intOf iv).toNat)
  case atStart => exact ⟨0, Nat.zero_le _, rfl, HROWS.out, KeptNB.refl _, Below.refl _ _⟩
  case round =>
    clear HROWS
    obtain ⟨k, hk, rfl, hR, hK, hB⟩ := hrel
    have HRK := Lib.hid hR.out
    have HKK := Lib.hid hK.out
    have HBK := Lib.hid hB.out
    clear hR hK hB
    by_cases hlt : k < st.n2
    · have hxl := HLEN.out (k + 1) (by omega)
      rw [HFRL.out k hlt] at hxl
      have hgd : L.getD (k + 1) slc0 = ss.getD k slc0 := by rw [HLE.out]; simp
      obtain ⟨x, hx⟩ : ∃ x : Slc, x = L.getD (k + 1) slc0 := ⟨_, rfl⟩
      rw [← hx] at hxl hgd
      obtain ⟨xa, xn, xc⟩ := x
      simp only at hxl
      have hxi := hxl.symm
      clear hxl
      subst hxi
      have hc2 := (cell_of_block (HKK.out _ _ _ _ HF25.out (by decide)) k)
      have hks : k < ss.length := by rw [HQ3.out]; exact hlt
      have hc3 : (ss.map slV).toArray[k]? = some (.slice xa i xc) := by
        have : ss[k] = ss.getD k slc0 := by simp [List.getD, List.getElem?_eq_getElem hks]
        simp only [List.getElem?_toArray, List.getElem?_map, List.getElem?_eq_getElem hks, Option.map_some]
        rw [this, ← hgd]
        rfl
      have c2 := hc2.trans hc3
      have HXX := Lib.hid hx
      have W1' : IntKind.i64.wrap ((k : Int) + 1) = (k : Int) + 1 := IntWalk.i64_in _ (by omega)
      have HLT := Lib.hid hlt
      clear hx hgd hks hc2 hc3
      go_wp2_with fail
      clear c2
      go_loopw [45, 11] (fun iv _ wr2 => ∃ m : Nat, m ≤ i ∧ iv = .int .i64 m ∧ Hid (RowsL wr2 base L (rowsA c t ms k m)) ∧ Hid (KeptNB W5 wr2) ∧ Hid (Below base W5 wr2)) (fun iv _ _ => i - (intOf iv).toNat)
      case atStart => exact ⟨0, Nat.zero_le _, rfl, HRK.out, HKK.out, HBK.out⟩
      case round =>
        clear HRK HKK HBK
        obtain ⟨m, hm, rfl, hR, hK, hB⟩ := hrel
        have HR := Lib.hid hR.out
        have HK := Lib.hid hK.out
        have HBB := Lib.hid hB.out
        clear hR hK hB
        by_cases hml : m < i
        · have hkl : k + 1 < L.length := by rw [HLL2.out]; omega
          have hrk := HR.out (k + 1) hkl
          rw [← HXX.out, rowsA_len, HFRL.out k hlt] at hrk
          unfold slV at hrk
          simp only at hrk
          obtain ⟨g, rfl⟩ : ∃ g, xa = some ⟨g, 0, none⟩ := by
            rcases hrk.2 with ⟨_, h2⟩ | ⟨g, cap, cur, h2, _⟩
            · omega
            · cases h2; exact ⟨g, rfl⟩
          obtain ⟨_, cur, hcur⟩ := row_here hrk
          have hby := (row_sees_slice hrk).2.byte m hml
          rw [Nat.zero_add] at hby
          have f1 := unfrozen_of_block hcur m
          have hge : base ≤ g := by
            rcases hrk.2 with ⟨_, h2⟩ | ⟨g', cap, cur, h2, h3, _⟩
            · omega
            · cases h2; exact h3
          have HGE := Lib.hid hge
          have HCUR := Lib.hid hcur
          have HSET := Lib.hid (fun (u : UInt8) (G' : Nat → List UInt8) => RowsL.setAt (G' := G') HR.out HAP.out hkl HXX.out.symm m u)
          obtain ⟨ix, hix⟩ : ∃ ix, ix = 1 + m := ⟨_, rfl⟩
          have hixN : ix < N := by omega
          have r1 := (cell_of_block (HK.out _ _ _ _ HR5.out (by decide)) k).trans (fcells_get st.n2 _ k hlt)
          rw [if_pos (Nat.zero_le _)] at r1
          have r2 := (cell_of_block (HK.out _ _ _ _ (HRS5.out k hlt) (by decide)) ix).trans (bcells_get _ ix (by rw [(HFRM.out.cone k hlt).len, ← HN.out]; exact hixN))
          obtain ⟨qq, hqq⟩ : ∃ qq, qq = (ms.getD k []).getD ix false := ⟨_, rfl⟩
          rw [← hqq] at r2
          have HP : Hid (rowP c ms (k + 1) m = !qq) := by unfold Hid; rw [rowP_frame, hqq, hix]
          have W2' : IntKind.i64.wrap ((m : Int) + 1) = (m : Int) + 1 := IntWalk.i64_in _ (by omega)
          have W3' : IntKind.i64.wrap ((1 : Int) + (m : Int)) = (ix : Int) := by rw [hix, IntWalk.i64_in _ (by omega)]; omega
          have HML : Hid (m < (rowG t (k + 1)).length) := by unfold Hid; rw [HFRL.out k hlt]; exact hml
          obtain ⟨bv0, hbv0⟩ : ∃ b : Int, b = (((rowsA c t ms k m (k + 1)).getD m 0).toNat : Int) := ⟨_, rfl⟩
          rw [← hbv0] at hby
          clear hrk hcur hge hix hqq hkl hbv0
          cases qq with
          | true =>
            go_wp2
            go_roundw
            case rel => exact ⟨m + 1, by omega, by go_num, HR.out.congr (fun j _ => rowsA_no k m j (by rw [HP.out]; rfl)), HK.out, HBB.out⟩
            case measure => simp [intOf]; omega
          | false =>
            go_wp2
            go_roundw
            case rel =>
              refine ⟨m + 1, by omega, by go_num, ?_, HK.out.set HCUR.out, HBB.out.setCell (p := ⟨g, m, none⟩) HGE.out _⟩
              exact HSET.out 2 _ (rowsA_yes k m (by rw [HP.out]; rfl) HML.out) (fun j hj => rowsA_else k _ _ j hj)
            case measure => simp [intOf]; omega
        · obtain rfl : m = i := by omega
          go_wp2
          go_roundw
          case rel => exact ⟨k + 1, by have := HLT.out; omega, by go_num, HR.out.congr (fun j _ => rowsA_full k m j (HFRL.out k HLT.out)), HK.out, HBB.out⟩
          case measure => have := HLT.out; simp [intOf]; omega
    · obtain rfl : k = st.n2 := by omega
      have HRZ : Hid (RowsL wr base L (rowsC c t ms 0)) := HRK.out.congr (fun j hj => rowsC_start st.n2 j (by rw [HLL2.out] at hj; exact hj))
      have p1 : wr.cell? ⟨w.heap.size, 1, none⟩ = some (.slice s.a1 s.n1 s.c1) := cell_of_block (HKK.out _ _ _ _ HX5.out (by decide)) 1
      obtain ⟨A1, hA1⟩ : ∃ A, A = s.a1 := ⟨_, rfl⟩
      rw [← hA1] at p1
      have HA1 := Lib.hid hA1
      clear HRK hA1
      go_wp2
      clear p1
      go_loopw [65, 12, 13] (fun iv _ _ wr3 => ∃ k : Nat, k ≤ s.n1 ∧ iv = .int .i64 k ∧ Hid (RowsL wr3 base L (rowsC c t ms k)) ∧ Hid (KeptNB W5 wr3) ∧ Hid (Below base W5 wr3)) (fun iv _ _ _ => s.n1 - (intOf iv).toNat)
      case atStart => exact ⟨0, Nat.zero_le _, rfl, HRZ.out, HKK.out, HBK.out⟩
      case round =>
        clear HRZ HKK HBK
        obtain ⟨k, hk, rfl, hR, hK, hB⟩ := hrel
        have HR := Lib.hid hR.out
        have HK := Lib.hid hK.out
        have HBB := Lib.hid hB.out
        have HLOW := Lib.hid (show Below w.heap.size w wr from HB5.out.trans (hB.out.mono (by have := HBS.out; omega)))
        clear hR hK hB
        by_cases hlt : k < s.n1
        · obtain ⟨lb, lo, hla, hlbw⟩ := HC.out.s1.addr (show 0 < s.n1 by omega)
          have hsc := HC.out.s1.below HLOW.out
          have hA1 := HA1.out
          rw [hla] at hsc hA1
          subst hA1
          obtain ⟨q0, q1⟩ := hsc.cells k hlt (0, 0)
          obtain ⟨x, hx⟩ : ∃ x, x = (c.lats.getD k (0, 0)).1 := ⟨_, rfl⟩
          obtain ⟨y, hy⟩ : ∃ y, y = (c.lats.getD k (0, 0)).2 := ⟨_, rfl⟩
          rw [← hx] at q0
          rw [← hy] at q1
          unfold nv32 at q0
          unfold nv8 at q1
          obtain ⟨ix, hix⟩ : ∃ ix, ix = FL + k := ⟨_, rfl⟩
          have hixN : ix < N := by omega
          have r1 := (cell_of_block (HK.out _ _ _ _ HR5.out (by decide)) 0).trans (fcells_get st.n2 _ 0 hn21)
          rw [if_pos (Nat.zero_le _)] at r1
          have r2 := (cell_of_block (HK.out _ _ _ _ (HRS5.out 0 hn21) (by decide)) ix).trans (bcells_get _ ix (by rw [(HFRM.out.cone 0 hn21).len, ← HN.out]; exact hixN))
          obtain ⟨q, hq⟩ : ∃ q, q = (ms.getD 0 []).getD ix false := ⟨_, rfl⟩
          rw [← hq] at r2
          have HP : Hid (rowP c ms 0 k = (decide (y = 2) && !q)) := by unfold Hid; rw [rowP_init, hy, hq, hix, HLL.out]
          have W2' : IntKind.i64.wrap ((k : Int) + 1) = (k : Int) + 1 := IntWalk.i64_in _ (by omega)
          have W3' : IntKind.i64.wrap ((FL : Int) + (k : Int)) = (ix : Int) := by rw [hix, IntWalk.i64_in _ (by omega)]; omega
          obtain ⟨wl, hwl⟩ : ∃ wl, wl = wr.alloc (.cells #[.int .u32 (x : Int), .int .u8 (y : Int)] 55) := ⟨_, rfl⟩
          have hal : Below wr.heap.size wr wl := by rw [hwl]; exact ext_alloc _ _
          have hlb : wl.heap[wr.heap.size]? = some (.cells #[.int .u32 (x : Int), .int .u8 (y : Int)] 55 (0, 0)) := by rw [hwl]; exact heap_new _ _ _ rfl
          obtain ⟨LB, hLB⟩ : ∃ LB, LB = wr.heap.size := ⟨_, rfl⟩
          have HWL : Hid (wr.alloc (.cells #[.int .u32 (x : Int), .int .u8 (y : Int)] 55) = wl) := hwl.symm
          have HLB : Hid (wr.heap.size = LB) := hLB.symm
          rw [← hLB] at hlb
          have HLX := Lib.hid hlb
          have HK2 := Lib.hid (HK.out.below hal)
          have HR2 := Lib.hid (HR.out.below hal)
          have HBB2 := Lib.hid (HBB.out.trans (hal.mono (Nat.le_trans HB35.out HBB.out.size)))
          have r1' := cell_below r1 hal
          have r2' := cell_below r2 hal
          have p0 : wl.cell? ⟨w.heap.size, 0, none⟩ = some (.int .i64 z) := cell_of_block (HK2.out _ _ _ _ HX5.out (by decide)) 0
          have p1 : wl.cell? ⟨w.heap.size, 1, none⟩ = some (.slice s.a1 s.n1 s.c1) := cell_of_block (HK2.out _ _ _ _ HX5.out (by decide)) 1
          have p2 : wl.cell? ⟨w.heap.size, 2, none⟩ = some (.slice s.a2 s.n2 s.c2) := cell_of_block (HK2.out _ _ _ _ HX5.out (by decide)) 2
          have p3 : wl.cell? ⟨w.heap.size, 3, none⟩ = some (.slice s.a3 s.n3 s.c3) := cell_of_block (HK2.out _ _ _ _ HX5.out (by decide)) 3
          have p4 : wl.cell? ⟨w.heap.size, 4, none⟩ = some (.slice s.a4 s.n4 s.c4) := cell_of_block (HK2.out _ _ _ _ HX5.out (by decide)) 4
          have p5 : wl.cell? ⟨w.heap.size, 5, none⟩ = some (.slice s.a5 s.n5 s.c5) := cell_of_block (HK2.out _ _ _ _ HX5.out (by decide)) 5
          have l1 : wl.cell? ⟨LB, 1, none⟩ = some (.int .u8 (y : Int)) := cell_of_block HLX.out 1
          have HS0 := Lib.hid (And.intro p0 (And.intro p1 (And.intro p2 (And.intro p3 (And.intro p4 (And.intro p5 (And.intro l1 (And.intro r1' r2'))))))))
          clear p0 p2 p3 p4 p5 l1 r1 r2 r1' r2' hx hy hix hq hwl hal hlb hLB hlbw hsc
          clear hla
          go_upto_region 20 with fail
          rw [HWL.out, HLB.out]
          clear q0 q1 HWL HLB
          refine wp_region_noPanic ?_
          refine wp_region_held (S := fun w' => w'.cell? ⟨w.heap.size, 0, none⟩ = some (.int .i64 z) ∧ w'.cell? ⟨w.heap.size, 1, none⟩ = some (.slice s.a1 s.n1 s.c1) ∧ w'.cell? ⟨w.heap.size, 2, none⟩ = some (.slice s.a2 s.n2 s.c2) ∧ w'.cell? ⟨w.heap.size, 3, none⟩ = some (.slice s.a3 s.n3 s.c3) ∧ w'.cell? ⟨w.heap.size, 4, none⟩ = some (.slice s.a4 s.n4 s.c4) ∧ w'.cell? ⟨w.heap.size, 5, none⟩ = some (.slice s.a5 s.n5 s.c5) ∧ w'.cell? ⟨LB, 1, none⟩ = some (.int .u8 (y : Int)) ∧ w'.cell? ⟨F, 0, none⟩ = some (.slice (some ⟨Gm 0, 0, none⟩) N N) ∧ w'.cell? ⟨Gm 0, ix, none⟩ = some (.bool q)) (by kernel_rfl) ?_
          generalize hYY : ({ wl with drawn := wl.drawn + 1 } : World) = Y0
          have hY0 : Below wl.heap.size wl Y0 := by subst hYY; exact (Below.refl _ _).drew
          have HPY := Lib.hid (keep9c HS0.out hY0)
          have HK3 := Lib.hid (HK2.out.below hY0)
          have HR3 := Lib.hid (HR2.out.below hY0)
          have hbse : base ≤ wl.heap.size := Nat.le_trans HB35.out HBB2.out.size
          have HBB3 := Lib.hid (HBB2.out.trans (hY0.mono hbse))
          have HLE3 : Hid (base ≤ Y0.heap.size) := Nat.le_trans hbse hY0.size
          clear hYY hY0 HS0 hbse HR HK HBB HR2 HK2 HBB2
          refine wpAnyH_take (i := 0) (v := ?_) (by simp only [List.getElem?_toArray, List.getElem?_cons_zero]; rfl) (by kernel_rfl) (by kernel_rfl) (by kernel_rfl) (fun _ _ _ h => h) (Or.inl ⟨by rfl, ?_⟩) HPY.out ?_
          rotate_left
          · intro w hSw
            (try dsimp only at hSw)
            obtain ⟨q0_, q1_, q2_, q3_, q4_, q5_, q6_, q7_, q8_⟩ := hSw
            go_simp
            try with_reducible rfl
          try simp only [Act.put, List.setIfInBounds_toArray, List.set_cons_zero, List.set_cons_succ]
          refine wpAnyH_take (i := 1) (v := ?_) (by simp only [List.getElem?_toArray, List.getElem?_cons_zero, List.getElem?_cons_succ]; rfl) (by kernel_rfl) (by kernel_rfl) (by kernel_rfl) (fun _ _ _ h => h) (Or.inl ⟨by rfl, ?_⟩) HPY.out ?_
          rotate_left
          · intro w hSw
            (try dsimp only at hSw)
            obtain ⟨q0_, q1_, q2_, q3_, q4_, q5_, q6_, q7_, q8_⟩ := hSw
            go_simp
            try with_reducible rfl
          try simp only [Act.put, List.setIfInBounds_toArray, List.set_cons_zero, List.set_cons_succ]
          by_cases hy2 : y = 2
          · have e2 : ((y : Int) == 2) = true := by simp; omega
            refine wpAnyH_take (i := 2) (v := ?_) (by simp only [List.getElem?_toArray, List.getElem?_cons_zero, List.getElem?_cons_succ]; rfl) (by kernel_rfl) (by kernel_rfl) (by kernel_rfl) (fun _ _ _ h => h) (Or.inl ⟨by rfl, ?_⟩) HPY.out ?_
            rotate_left
            · intro w hSw
              (try dsimp only at hSw)
              obtain ⟨q0_, q1_, q2_, q3_, q4_, q5_, q6_, q7_, q8_⟩ := hSw
              go_simp
              try with_reducible rfl
            try simp only [Act.put, List.setIfInBounds_toArray, List.set_cons_zero, List.set_cons_succ]
            refine wpAnyH_take (i := 3) (v := ?_) (by simp only [List.getElem?_toArray, List.getElem?_cons_zero, List.getElem?_cons_succ]; rfl) (by kernel_rfl) (by kernel_rfl) (by kernel_rfl) (fun _ _ _ h => h) (Or.inl ⟨by rfl, ?_⟩) HPY.out ?_
            rotate_left
            · intro w hSw
              (try dsimp only at hSw)
              obtain ⟨q0_, q1_, q2_, q3_, q4_, q5_, q6_, q7_, q8_⟩ := hSw
              go_simp
              try with_reducible rfl
            try simp only [Act.put, List.setIfInBounds_toArray, List.set_cons_zero, List.set_cons_succ]
            refine wpAnyH_take (i := 4) (v := ?_) (by simp only [List.getElem?_toArray, List.getElem?_cons_zero, List.getElem?_cons_succ]; rfl) (by kernel_rfl) (by kernel_rfl) (by kernel_rfl) (fun _ _ _ h => h) (Or.inl ⟨by rfl, ?_⟩) HPY.out ?_
            rotate_left
            · intro w hSw
              (try dsimp only at hSw)
              obtain ⟨q0_, q1_, q2_, q3_, q4_, q5_, q6_, q7_, q8_⟩ := hSw
              go_simp
              try with_reducible rfl
            try simp only [Act.put, List.setIfInBounds_toArray, List.set_cons_zero, List.set_cons_succ]
            refine wpAnyH_take (i := 5) (v := ?_) (by simp only [List.getElem?_toArray, List.getElem?_cons_zero, List.getElem?_cons_succ]; rfl) (by kernel_rfl) (by kernel_rfl) (by kernel_rfl) (fun _ _ _ h => h) (Or.inl ⟨by rfl, ?_⟩) HPY.out ?_
            rotate_left
            · intro w hSw
              (try dsimp only at hSw)
              obtain ⟨q0_, q1_, q2_, q3_, q4_, q5_, q6_, q7_, q8_⟩ := hSw
              go_simp
              try with_reducible rfl
            try simp only [Act.put, List.setIfInBounds_toArray, List.set_cons_zero, List.set_cons_succ]
            refine wpAnyH_take (i := 6) (v := ?_) (by simp only [List.getElem?_toArray, List.getElem?_cons_zero, List.getElem?_cons_succ]; rfl) (by kernel_rfl) (by kernel_rfl) (by kernel_rfl) (fun _ _ _ h => h) (Or.inl ⟨by rfl, ?_⟩) HPY.out ?_
            rotate_left
            · intro w hSw
              (try dsimp only at hSw)
              obtain ⟨q0_, q1_, q2_, q3_, q4_, q5_, q6_, q7_, q8_⟩ := hSw
              go_simp
              try with_reducible rfl
            try simp only [Act.put, List.setIfInBounds_toArray, List.set_cons_zero, List.set_cons_succ]
            refine wpAnyH_take (i := 7) (v := ?_) (by simp only [List.getElem?_toArray, List.getElem?_cons_zero, List.getElem?_cons_succ]; rfl) (by kernel_rfl) (by kernel_rfl) (by kernel_rfl) (fun _ _ _ h => h) (Or.inl ⟨by rfl, ?_⟩) HPY.out ?_
            rotate_left
            · intro w hSw
              (try dsimp only at hSw)
              obtain ⟨q0_, q1_, q2_, q3_, q4_, q5_, q6_, q7_, q8_⟩ := hSw
              go_simp
              try with_reducible rfl
            try simp only [Act.put, List.setIfInBounds_toArray, List.set_cons_zero, List.set_cons_succ]
            refine wpAnyH_take (i := 9) (v := ?_) (by simp only [List.getElem?_toArray, List.getElem?_cons_zero, List.getElem?_cons_succ]; rfl) (by kernel_rfl) (by kernel_rfl) (by kernel_rfl) (fun _ _ _ h => h) (Or.inl ⟨by rfl, ?_⟩) HPY.out ?_
            rotate_left
            · intro w hSw
              (try dsimp only at hSw)
              obtain ⟨q0_, q1_, q2_, q3_, q4_, q5_, q6_, q7_, q8_⟩ := hSw
              go_simp
              try with_reducible rfl
            try simp only [Act.put, List.setIfInBounds_toArray, List.set_cons_zero, List.set_cons_succ]
            refine wpAnyH_ready (rs := [8]) (by kernel_rfl) (by simp) ?_
            refine AllReadyH.cons (by simp only [List.getElem?_toArray, List.getElem?_cons_zero, List.getElem?_cons_succ]; rfl) (fun K hK => ?_) AllReadyH.nil
            go_simp
            refine (HFL.out Y0).mono ?_
            rintro e V4 ⟨rfl, hb4⟩
            have HP4 := Lib.hid (keep9c HPY.out hb4)
            have HK4 := Lib.hid (HK3.out.below hb4)
            have HR4 := Lib.hid (HR3.out.below hb4)
            have HBB4 := Lib.hid (HBB3.out.trans (hb4.mono HLE3.out))
            clear hb4
            refine hK.out _ _ HP4.out (fun _ => ?_)
            clear hK K
            try simp only [Act.put, List.setIfInBounds_toArray, List.set_cons_zero, List.set_cons_succ]
            refine wpAnyH_take (i := 10) (v := ?_) (by simp only [List.getElem?_toArray, List.getElem?_cons_zero, List.getElem?_cons_succ]; rfl) (by kernel_rfl) (by kernel_rfl) (by kernel_rfl) (fun _ _ _ h => h) (Or.inl ⟨by rfl, ?_⟩) HP4.out ?_
            rotate_left
            · intro w hSw
              (try dsimp only at hSw)
              obtain ⟨q0_, q1_, q2_, q3_, q4_, q5_, q6_, q7_, q8_⟩ := hSw
              go_simp
              try with_reducible rfl
            try simp only [Act.put, List.setIfInBounds_toArray, List.set_cons_zero, List.set_cons_succ]
            refine wpAnyH_take (i := 11) (v := ?_) (by simp only [List.getElem?_toArray, List.getElem?_cons_zero, List.getElem?_cons_succ]; rfl) (by kernel_rfl) (by kernel_rfl) (by kernel_rfl) (fun _ _ _ h => h) (Or.inl ⟨by rfl, ?_⟩) HP4.out ?_
            rotate_left
            · intro w hSw
              (try dsimp only at hSw)
              obtain ⟨q0_, q1_, q2_, q3_, q4_, q5_, q6_, q7_, q8_⟩ := hSw
              go_simp
              try with_reducible rfl
            try simp only [Act.put, List.setIfInBounds_toArray, List.set_cons_zero, List.set_cons_succ]
            refine wpAnyH_take (i := 12) (v := ?_) (by simp only [List.getElem?_toArray, List.getElem?_cons_zero, List.getElem?_cons_succ]; rfl) (by kernel_rfl) (by kernel_rfl) (by kernel_rfl) (fun _ _ _ h => h) (Or.inl ⟨by rfl, ?_⟩) HP4.out ?_
            rotate_left
            · intro w hSw
              (try dsimp only at hSw)
              obtain ⟨q0_, q1_, q2_, q3_, q4_, q5_, q6_, q7_, q8_⟩ := hSw
              go_simp
              try with_reducible rfl
            try simp only [Act.put, List.setIfInBounds_toArray, List.set_cons_zero, List.set_cons_succ]
            refine wpAnyH_take (i := 13) (v := ?_) (by simp only [List.getElem?_toArray, List.getElem?_cons_zero, List.getElem?_cons_succ]; rfl) (by kernel_rfl) (by kernel_rfl) (by kernel_rfl) (fun _ _ _ h => h) (Or.inl ⟨by rfl, ?_⟩) HP4.out ?_
            rotate_left
            · intro w hSw
              (try dsimp only at hSw)
              obtain ⟨q0_, q1_, q2_, q3_, q4_, q5_, q6_, q7_, q8_⟩ := hSw
              go_simp
              try with_reducible rfl
            try simp only [Act.put, List.setIfInBounds_toArray, List.set_cons_zero, List.set_cons_succ]
            refine wpAnyH_take (i := 14) (v := ?_) (by simp only [List.getElem?_toArray, List.getElem?_cons_zero, List.getElem?_cons_succ]; rfl) (by kernel_rfl) (by kernel_rfl) (by kernel_rfl) (fun _ _ _ h => h) (Or.inl ⟨by rfl, ?_⟩) HP4.out ?_
            rotate_left
            · intro w hSw
              (try dsimp only at hSw)
              obtain ⟨q0_, q1_, q2_, q3_, q4_, q5_, q6_, q7_, q8_⟩ := hSw
              go_simp
              try with_reducible rfl
            try simp only [Act.put, List.setIfInBounds_toArray, List.set_cons_zero, List.set_cons_succ]
            refine wpAnyH_done (by kernel_rfl) ?_ _
            refine NoPanic.normal ?_
            clear e2
            cases q with
            | true =>
              go_wp2
              go_roundw
              case rel => exact ⟨k + 1, by omega, by go_num, HR4.out.congr (fun j _ => rowsC_no k j (by rw [HP.out]; simp)), HK4.out, HBB4.out⟩
              case measure => simp [intOf]; omega
            | false =>
              have hkl : 0 < L.length := by rw [HLL2.out]; omega
              have hL0 : L.getD 0 slc0 = (a1, s.n1, c1) := by rw [HLE.out]; rfl
              have hrk := HR4.out 0 hkl
              rw [hL0, rowsC_len, show (rowG t 0).length = s.n1 from HQ1.out.symm] at hrk
              unfold slV at hrk
              simp only at hrk
              obtain ⟨g, rfl⟩ : ∃ g, a1 = some ⟨g, 0, none⟩ := by
                rcases hrk.2 with ⟨_, h2⟩ | ⟨g, cap, cur, h2, _⟩
                · omega
                · cases h2; exact ⟨g, rfl⟩
              obtain ⟨_, cur, hcur⟩ := row_here hrk
              have hby := (row_sees_slice hrk).2.byte k hlt
              rw [Nat.zero_add] at hby
              have f1 := unfrozen_of_block hcur k
              have hge : base ≤ g := by
                rcases hrk.2 with ⟨_, h2⟩ | ⟨g', cap, cur, h2, h3, _⟩
                · omega
                · cases h2; exact h3
              have HGE := Lib.hid hge
              have HCUR := Lib.hid hcur
              have HSET := Lib.hid (fun (u : UInt8) (G' : Nat → List UInt8) => RowsL.setAt (G' := G') HR4.out HAP.out hkl hL0 k u)
              have HKI : Hid (k < t.init.length) := by unfold Hid; rw [← HQ1.out]; exact hlt
              obtain ⟨bv0, hbv0⟩ : ∃ b : Int, b = (((rowsC c t ms k 0).getD k 0).toNat : Int) := ⟨_, rfl⟩
              rw [← hbv0] at hby
              have fb1 := cell_of_block (HK4.out _ _ _ _ HFB.out (by decide)) 1
              clear hrk hcur hge hkl hbv0 hL0
              go_wp2
              go_roundw
              case rel =>
                refine ⟨k + 1, by omega, by go_num, ?_, HK4.out.set HCUR.out, HBB4.out.setCell (p := ⟨g, k, none⟩) HGE.out _⟩
                exact HSET.out 2 _ (rowsC_yes k (by rw [HP.out, hy2]; rfl) HKI.out) (fun j hj => rowsC_else _ _ j hj)
              case measure => simp [intOf]; omega
          · have e2 : ((y : Int) == 2) = false := by simp; omega
            refine wpAnyH_take (i := 2) (v := ?_) (by simp only [List.getElem?_toArray, List.getElem?_cons_zero, List.getElem?_cons_succ]; rfl) (by kernel_rfl) (by kernel_rfl) (by kernel_rfl) (fun _ _ _ h => h) (Or.inl ⟨by rfl, ?_⟩) HPY.out ?_
            rotate_left
            · intro w hSw
              (try dsimp only at hSw)
              obtain ⟨q0_, q1_, q2_, q3_, q4_, q5_, q6_, q7_, q8_⟩ := hSw
              go_simp
              try with_reducible rfl
            try simp only [Act.put, List.setIfInBounds_toArray, List.set_cons_zero, List.set_cons_succ]
            refine wpAnyH_take (i := 3) (v := ?_) (by simp only [List.getElem?_toArray, List.getElem?_cons_zero, List.getElem?_cons_succ]; rfl) (by kernel_rfl) (by kernel_rfl) (by kernel_rfl) (fun _ _ _ h => h) (Or.inl ⟨by rfl, ?_⟩) HPY.out ?_
            rotate_left
            · intro w hSw
              (try dsimp only at hSw)
              obtain ⟨q0_, q1_, q2_, q3_, q4_, q5_, q6_, q7_, q8_⟩ := hSw
              go_simp
              try with_reducible rfl
            try simp only [Act.put, List.setIfInBounds_toArray, List.set_cons_zero, List.set_cons_succ]
            refine wpAnyH_take (i := 4) (v := undef) (by simp only [List.getElem?_toArray, List.getElem?_cons_zero, List.getElem?_cons_succ]; rfl) (by kernel_rfl) (by kernel_rfl) (by kernel_rfl) (fun _ _ _ h => h) (Or.inr ⟨by rfl, rfl⟩) HPY.out ?_
            try simp only [Act.put, List.setIfInBounds_toArray, List.set_cons_zero, List.set_cons_succ]
            refine wpAnyH_take (i := 5) (v := undef) (by simp only [List.getElem?_toArray, List.getElem?_cons_zero, List.getElem?_cons_succ]; rfl) (by kernel_rfl) (by kernel_rfl) (by kernel_rfl) (fun _ _ _ h => h) (Or.inr ⟨by rfl, rfl⟩) HPY.out ?_
            try simp only [Act.put, List.setIfInBounds_toArray, List.set_cons_zero, List.set_cons_succ]
            refine wpAnyH_take (i := 6) (v := undef) (by simp only [List.getElem?_toArray, List.getElem?_cons_zero, List.getElem?_cons_succ]; rfl) (by kernel_rfl) (by kernel_rfl) (by kernel_rfl) (fun _ _ _ h => h) (Or.inr ⟨by rfl, rfl⟩) HPY.out ?_
            try simp only [Act.put, List.setIfInBounds_toArray, List.set_cons_zero, List.set_cons_succ]
            refine wpAnyH_take (i := 7) (v := undef) (by simp only [List.getElem?_toArray, List.getElem?_cons_zero, List.getElem?_cons_succ]; rfl) (by kernel_rfl) (by kernel_rfl) (by kernel_rfl) (fun _ _ _ h => h) (Or.inr ⟨by rfl, rfl⟩) HPY.out ?_
            try simp only [Act.put, List.setIfInBounds_toArray, List.set_cons_zero, List.set_cons_succ]
            refine wpAnyH_take (i := 9) (v := undef) (by simp only [List.getElem?_toArray, List.getElem?_cons_zero, List.getElem?_cons_succ]; rfl) (by kernel_rfl) (by kernel_rfl) (by kernel_rfl) (fun _ _ _ h => h) (Or.inr ⟨by rfl, rfl⟩) HPY.out ?_
            try simp only [Act.put, List.setIfInBounds_toArray, List.set_cons_zero, List.set_cons_succ]
            refine wpAnyH_ready (rs := [8]) (by kernel_rfl) (by simp) ?_
            refine AllReadyH.cons (by simp only [List.getElem?_toArray, List.getElem?_cons_zero, List.getElem?_cons_succ]; rfl) (fun K hK => ?_) AllReadyH.nil
            rw [if_neg (by exact fun h => Bool.noConfusion (show false = true from h))]
            refine hK.out _ _ HPY.out (fun _ => ?_)
            clear hK K
            try simp only [Act.put, List.setIfInBounds_toArray, List.set_cons_zero, List.set_cons_succ]
            refine wpAnyH_take (i := 10) (v := undef) (by simp only [List.getElem?_toArray, List.getElem?_cons_zero, List.getElem?_cons_succ]; rfl) (by kernel_rfl) (by kernel_rfl) (by kernel_rfl) (fun _ _ _ h => h) (Or.inr ⟨by rfl, rfl⟩) HPY.out ?_
            try simp only [Act.put, List.setIfInBounds_toArray, List.set_cons_zero, List.set_cons_succ]
            refine wpAnyH_take (i := 11) (v := undef) (by simp only [List.getElem?_toArray, List.getElem?_cons_zero, List.getElem?_cons_succ]; rfl) (by kernel_rfl) (by kernel_rfl) (by kernel_rfl) (fun _ _ _ h => h) (Or.inr ⟨by rfl, rfl⟩) HPY.out ?_
            try simp only [Act.put, List.setIfInBounds_toArray, List.set_cons_zero, List.set_cons_succ]
            refine wpAnyH_take (i := 12) (v := undef) (by simp only [List.getElem?_toArray, List.getElem?_cons_zero, List.getElem?_cons_succ]; rfl) (by kernel_rfl) (by kernel_rfl) (by kernel_rfl) (fun _ _ _ h => h) (Or.inr ⟨by rfl, rfl⟩) HPY.out ?_
            try simp only [Act.put, List.setIfInBounds_toArray, List.set_cons_zero, List.set_cons_succ]
            refine wpAnyH_take (i := 13) (v := undef) (by simp only [List.getElem?_toArray, List.getElem?_cons_zero, List.getElem?_cons_succ]; rfl) (by kernel_rfl) (by kernel_rfl) (by kernel_rfl) (fun _ _ _ h => h) (Or.inr ⟨by rfl, rfl⟩) HPY.out ?_
            try simp only [Act.put, List.setIfInBounds_toArray, List.set_cons_zero, List.set_cons_succ]
            refine wpAnyH_take (i := 14) (v := ?_) (by simp only [List.getElem?_toArray, List.getElem?_cons_zero, List.getElem?_cons_succ]; rfl) (by kernel_rfl) (by kernel_rfl) (by kernel_rfl) (fun _ _ _ h => h) (Or.inl ⟨by rfl, ?_⟩) HPY.out ?_
            rotate_left
            · intro w hSw
              (try dsimp only at hSw)
              obtain ⟨q0_, q1_, q2_, q3_, q4_, q5_, q6_, q7_, q8_⟩ := hSw
              go_simp
              try with_reducible rfl
            try simp only [Act.put, List.setIfInBounds_toArray, List.set_cons_zero, List.set_cons_succ]
            refine wpAnyH_done (by kernel_rfl) ?_ _
            refine NoPanic.normal ?_
            clear e2
            go_wp2
            go_roundw
            case rel => exact ⟨k + 1, by omega, by go_num, HR3.out.congr (fun j _ => rowsC_no k j (by rw [HP.out, decide_eq_false hy2]; rfl)), HK3.out, HBB3.out⟩
            case measure => simp [intOf]; omega
        · obtain rfl : k = s.n1 := by omega
          have hx5 := HK.out _ _ _ _ HFB.out (by decide)
          have hr5 := HK.out _ _ _ _ HZ5.out (by decide)
          have u0 := cell_of_block hx5 0
          have u1 := cell_of_block hx5 1
          have u2 := cell_of_block hx5 2
          have z0 := cell_of_block hr5 0
          have z1 := cell_of_block hr5 1
          have z2 := cell_of_block hr5 2
          have y0 := unfrozen_of_block hr5 0
          have y1 := unfrozen_of_block hr5 1
          have y2 := unfrozen_of_block hr5 2
          have HR6 := Lib.hid hr5
          have HSEE : Hid (OwnTr (((wr.setCell ⟨w.heap.size + 1 + 1, 0, .none⟩ (.int .i64 bad)).setCell ⟨w.heap.size + 1 + 1, 1, .none⟩ (.slice a1 s.n1 c1)).setCell ⟨w.heap.size + 1 + 1, 2, .none⟩ (.slice (some ⟨F2, 0, none⟩) st.n2 c2)) w.heap.size ⟨a1, s.n1, c1, some ⟨F2, 0, none⟩, st.n2, c2, ss⟩ (freeT c t ms)) := by
            obtain ⟨F', h1, h2, h3⟩ := HO5.out.blk
            refine OwnTr.set3 (base := base) ⟨?_, ⟨F', h1, h2, HK.out _ _ _ _ h3 (by decide)⟩, ?_, ?_, ?_, fun j hj => ?_⟩ HBS.out (by have := HBS.out; omega)
            · have h4 := HR.out 0 (by rw [HLL2.out]; omega)
              rw [show L.getD 0 slc0 = (a1, s.n1, c1) by rw [HLE.out]; rfl, HQ1.out, rowsC_init] at h4
              rw [HQ1.out]
              exact h4
            · rw [freeT_frames]; exact HO5.out.n2
            · rw [freeT_frames]; exact HO5.out.c2
            · rw [freeT_frames]; exact HO5.out.len
            · rw [freeT_frames] at hj
              have h4 := HR.out (j + 1) (by rw [HLL2.out]; have := HN2.out; omega)
              rw [show L.getD (j + 1) slc0 = ss.getD j slc0 by rw [HLE.out]; simp, rowsC_frame _ hj] at h4
              exact h4
          have HSML : Hid (TSlots.small ⟨a1, s.n1, c1, some ⟨F2, 0, none⟩, st.n2, c2, ss⟩) := by
            refine ⟨hns, HSTM.out.n2, fun x hx => ?_⟩
            obtain ⟨j, hj, he⟩ := List.getElem_of_mem hx
            simp only at hj he
            have h1 := HLEN.out (j + 1) (by have := HQ3.out; omega)
            rw [HFRL.out j (by have := HQ3.out; omega), HLE.out] at h1
            have h2 : ss.getD j slc0 = x := by simp [List.getD, List.getElem?_eq_getElem hj, he]
            simp only [List.getD_cons_succ] at h1
            rw [h2] at h1
            have := hNI.1
            have := HN.out
            have := HF.out.may.few
            omega
          clear hx5 hr5 hlt hk
          go_wp2
          refine bodyPost_ret (v := .tuple #[traceV bad ⟨a1, s.n1, c1, some ⟨F2, 0, none⟩, st.n2, c2, ss⟩, .int .i64 0]) ?_ rfl ?_
          · have h6 := tri_set_t HR6.out rfl (.int .i64 bad) (.slice a1 s.n1 c1) (.slice (some ⟨F2, 0, none⟩) st.n2 c2)
            have g0 := cell_of_block h6 0
            have g1 := cell_of_block h6 1
            have g2 := cell_of_block h6 2
            simp [results, Try.results16, go_sem, g0, g1, g2]
            rfl
          · exact HPY0.out _ ms _ HFRM.out HSEE.out.sees HSML.out (set3_t (w.heap.size + 1 + 1) (by omega) HLOW.out)
end Go.Proofs.Ytdheldhecimfnaa
