/- norm.CopyTrace, by its contract. -/
import Derived.Test.YtdheldhecimfnaaLib
import Derived.Test.YtdheldhecimfnaaOwn
import Derived.Test.YtdheldhecimfnaaOwnStr
import Derived.Test.YtdheldhecimfnaaNBase
import Derived.Test.YtdheldhecimfnaaRawPred
import Derived.Test.YtdheldhecimfnaaNStep
import Derived.Test.YtdheldhecimfnaaNVal
import Derived.Test.YtdheldhecimfnaaNTrace
import Derived.Test.YtdheldhecimfnaaFCells
import Derived.Test.YtdheldhecimfnaaNClone2
import Derived.Test.YtdheldhecimfnaaRawMay
import Derived.Test.YtdheldhecimfnaaRows
import Derived.BigQuiet
import Derived.Deep.AppendLies
import Derived.Deep.QuietTactic
import Derived.Deep.RegionHeld3
import Derived.Deep.RegionLaw
import Derived.Deep.RegionWith
import Derived.KernelRfl
import Derived.Laws.EntriesVeiled
import Derived.Laws.Tables
import Derived.Lib.AppendStr
import Derived.Lib.ConvBytes
import Derived.Lib.Hide
import Derived.Lib.SlBytesRow
import Derived.Lib.SmallJoins
import Derived.Maps.AppendAt
import Derived.Shelf.Bytes.SlSmallAll
import Derived.WalkKit
import Derived.WalkLawsBesides
import Derived.WalkSpells
namespace Go.Proofs.Ytdheldhecimfnaa
open Go Go.RowKit Go.Joins

/-- A trace's slots own what they read. -/
structure OwnTr (w : World) (base : Nat) (s : TSlots) (t : TraceC) : Prop where
  o1 : Row isByte w base 5 (.slice s.a1 s.n1 s.c1) t.init.length (t.init.map bv)
  blk : ∃ F, base ≤ F ∧ s.a2 = some ⟨F, 0, none⟩ ∧ w.heap[F]? = some (.cells (s.ss.map slV).toArray 27 (0, 0))
  n2 : s.n2 = t.frames.length
  c2 : s.c2 = t.frames.length
  len : s.ss.length = t.frames.length
  rows : ∀ j, j < t.frames.length → Row isByte w base 5 (slV (s.ss.getD j slc0)) (t.frames.getD j []).length ((t.frames.getD j []).map bv)
theorem OwnTr.below {w w' : World} {base : Nat} {s : TSlots} {t : TraceC} (h : OwnTr w base s t) (hb : Below w.heap.size w w') : OwnTr w' base s t := by
  obtain ⟨F, h1, h2, h3⟩ := h.blk
  exact ⟨h.o1.below hb, ⟨F, h1, h2, heap_below h3 hb⟩, h.n2, h.c2, h.len, fun j hj => (h.rows j hj).below hb⟩
theorem OwnTr.sees {w : World} {base : Nat} {s : TSlots} {t : TraceC} (h : OwnTr w base s t) : SeesTr w s t := by
  obtain ⟨F, h1, h2, h3⟩ := h.blk
  refine ⟨(row_sees_slice h.o1).2, ⟨?_, h.len, fun k hk => (row_sees_slice (h.rows k hk)).2⟩⟩
  have hn := h.n2
  have hc := h.c2
  have hl := h.len
  rw [h2]
  refine ⟨by simp; omega, by omega, (fun e => by cases e), fun _ => ⟨F, 0, rfl, heap_lt h3, fun j hj => ?_⟩⟩
  rw [cell_of_block h3]
  simp

theorem set3_other {X : World} (g D : Nat) (hD : D ≠ g) (u0 u1 u2 : Value) : (((X.setCell ⟨g, 0, .none⟩ u0).setCell ⟨g, 1, .none⟩ u1).setCell ⟨g, 2, .none⟩ u2).heap[D]? = X.heap[D]? := by
  rw [Below.heap_setCell _ ⟨g, 2, .none⟩ _ D hD, Below.heap_setCell _ ⟨g, 1, .none⟩ _ D hD, Below.heap_setCell _ ⟨g, 0, .none⟩ _ D hD]
theorem cell_set3t {w : World} {G b k : Nat} {v u0 u1 u2 : Value} (h : w.cell? ⟨b, k, none⟩ = some v) (hne : b ≠ G) :
    (((w.setCell ⟨G, 0, .none⟩ u0).setCell ⟨G, 1, .none⟩ u1).setCell ⟨G, 2, .none⟩ u2).cell? ⟨b, k, none⟩ = some v := by
  have ne : ∀ j, (⟨G, j, none⟩ : Addr) ≠ ⟨b, k, none⟩ := fun j e => hne (by cases e; rfl)
  rw [World.cell?_setCell_other _ _ _ _ (ne 2), World.cell?_setCell_other _ _ _ _ (ne 1), World.cell?_setCell_other _ _ _ _ (ne 0)]
  exact h
theorem tri_set_t {X : World} {g : Nat} {C : Array Value} {t : TypeId} (h : X.heap[g]? = some (.cells C t (0, 0))) (hC : C.size = 3) (u0 u1 u2 : Value) :
    (((X.setCell ⟨g, 0, .none⟩ u0).setCell ⟨g, 1, .none⟩ u1).setCell ⟨g, 2, .none⟩ u2).heap[g]? = some (.cells #[u0, u1, u2] t (0, 0)) := by
  obtain ⟨l⟩ := C
  match l, hC with
  | [_, _, _], _ =>
    have h0 := block_setCell h (i := 0) u0
    have h1 := block_setCell h0 (i := 1) u1
    have h2 := block_setCell h1 (i := 2) u2
    simpa using h2
theorem set3_t {B : Nat} {w X : World} (g : Nat) (hg : B ≤ g) (h : Below B w X) {u0 u1 u2 : Value} : Below B w (((X.setCell ⟨g, 0, .none⟩ u0).setCell ⟨g, 1, .none⟩ u1).setCell ⟨g, 2, .none⟩ u2) := ((h.setCell hg _).setCell hg _).setCell hg _

theorem OwnTr.set3 {w : World} {base G B : Nat} {s : TSlots} {t : TraceC} (h : OwnTr w base s t) (hG : G < base) (hB : B ≤ base) {u0 u1 u2 : Value} :
    OwnTr (((w.setCell ⟨G, 0, .none⟩ u0).setCell ⟨G, 1, .none⟩ u1).setCell ⟨G, 2, .none⟩ u2) B s t := by
  obtain ⟨F, h1, h2, h3⟩ := h.blk
  have row : ∀ {v : Value} {n : Nat} {xs : List Value}, Row isByte w base 5 v n xs → Row isByte (((w.setCell ⟨G, 0, .none⟩ u0).setCell ⟨G, 1, .none⟩ u1).setCell ⟨G, 2, .none⟩ u2) B 5 v n xs := fun hr =>
    Row.base_le (hr.other fun q hq => set3_other G q (by have := (hr.own.lt q hq).1; omega) _ _ _) hB
  exact ⟨row h.o1, ⟨F, Nat.le_trans hB h1, h2, (set3_other G F (by omega) _ _ _).trans h3⟩, h.n2, h.c2, h.len, fun j hj => row (h.rows j hj)⟩

theorem info_u8s : (Try.prog.info? 27).map (fun i => (i.zero, i.size, i.bytes)) = some (some (.slice none 0 0), 1, 24) := by kernel_rfl

/-- What lies in memory while CopyTrace goes on: F is the new frames' block. -/
structure CtInv (w1 : World) (F n : Nat) (fs : List (List UInt8)) (k : Nat) (ss : List Slc) (w : World) : Prop where
  len : ss.length = k
  blk : w.heap[F]? = some (.cells (fcells n (fun j => slV (ss.getD j slc0))) 27 (0, 0))
  rows : ∀ j, j < k → Row isByte w w1.heap.size 5 (slV (ss.getD j slc0)) (fs.getD j []).length ((fs.getD j []).map bv)
  but : But2 w1.heap.size F F w1 w
theorem CtInv.step {w1 : World} {F n : Nat} {fs : List (List UInt8)} {k : Nat} {ss : List Slc} {w w2 : World} {s : Slc} (h : CtInv w1 F n fs k ss w) (hF : F < w1.heap.size) (hb : Below w.heap.size w w2) (hr : Row isByte w2 w.heap.size 5 (slV s) (fs.getD k []).length ((fs.getD k []).map bv)) :
    CtInv w1 F n fs (k + 1) (ss ++ [s]) (w2.setCell ⟨F, k, none⟩ (slV s)) := by
  have hlen := h.len
  have hs := h.but.size
  have row : ∀ {v : Value} {m : Nat} {xs : List Value}, Row isByte w2 w1.heap.size 5 v m xs → Row isByte (w2.setCell ⟨F, k, none⟩ (slV s)) w1.heap.size 5 v m xs := fun hr =>
    hr.other fun q hq => Below.heap_setCell w2 ⟨F, k, none⟩ _ q (show q ≠ F from fun e => by have := (hr.own.lt q hq).1; omega)
  refine ⟨by simp [hlen], ?_, fun j hj => ?_, ?_⟩
  · have h1 := block_setCell (heap_below h.blk hb) (i := k) (slV s)
    rw [fcells_set] at h1
    rw [h1]
    congr 2
    refine fcells_congr fun j _ => ?_
    by_cases e : j = k
    · rw [if_pos e, e, ← hlen]; simp
    · rw [if_neg e]
      by_cases e2 : j < ss.length
      · simp [List.getD, List.getElem?_append_left e2]
      · have e3 : ss.length < j := by omega
        simp [List.getD, List.getElem?_append_right (Nat.le_of_lt e3), List.getElem?_eq_none (Nat.le_of_lt e3), show ¬ j - ss.length = 0 by omega]
  · by_cases e : j = k
    · subst e
      have e1 : (ss ++ [s]).getD j slc0 = s := by rw [← hlen]; simp
      rw [e1]
      exact row (hr.base_le hs)
    · have e1 : (ss ++ [s]).getD j slc0 = ss.getD j slc0 := by simp [List.getD, List.getElem?_append_left (show j < ss.length by omega)]
      rw [e1]
      exact row ((h.rows j (by omega)).below hb)
  · have h1 : But2 w1.heap.size F F w1 w2 := h.but.trans (But2.of_below (hb.mono hs))
    refine ⟨h1.os, h1.tape, h1.output, by have := h1.size; simpa using this, fun D d1 d2 d3 => ?_⟩
    rw [Below.heap_setCell w2 ⟨F, k, none⟩ _ D d2]
    exact h1.block D d1 d2 d3

set_option maxRecDepth 100000 in
set_option maxHeartbeats 3200000 in
theorem copytr_any (t : TraceC) (s : TSlots) (w : World) (h : SeesTr w s t) (hs : s.small) :
    Calls Try.prog 38 #[traceV t.bad s] w fun e w' => ∃ s', e = .returned (traceV t.bad s') ∧ OwnTr w' w.heap.size s' t ∧ Below w.heap.size w w' := by
  obtain ⟨i0, hi, hz0, hz1, hz2⟩ := info_parts info_u8s
  obtain ⟨a1, n1, c1, a2, n2, c2, ss⟩ := s
  obtain ⟨hs1, hs2, hs3⟩ := hs
  simp only at hs1 hs2 hs3
  obtain ⟨bad, init, fs⟩ := t
  obtain ⟨q1, q2⟩ := h
  simp only at q1 q2
  have hn2 := q2.n_eq
  have hn1 : init.length = n1 := by have := q1.len; simpa using this
  have HSL : Hid (∀ k, k < n2 → (ss.getD k slc0).2.1 ≤ 1048576) := fun k hk => hs3 _ (getD_mem (by rw [q2.len, hn2]; exact hk))
  have H1 := Lib.hid q1
  have H2 := Lib.hid q2
  have HN1 := Lib.hid hn1
  have HN2 := Lib.hid hn2
  clear q1 q2 hn1 hn2 hs3
  have mk := fun W => run_make_n (P := Try.prog) Try.underlying28 hi hz0 hz1 hz2 rfl n2 (by omega) (by omega) W
  rw [fcells_zero] at mk
  unfold traceV
  go_enter Try.func38, Try.ntmps38
  go_wp2_with fail
  generalize hW : World.alloc (World.alloc (World.alloc w _) _) _ = W1
  have B1 : Below w.heap.size w W1 := by subst hW; exact ext_trans (ext_alloc _ _) (ext_trans (ext_alloc _ _) (ext_alloc _ _))
  have hX : W1.heap[w.heap.size]? = some (.cells #[.int .i64 bad, .slice a1 n1 c1, .slice a2 n2 c2] 30 (0, 0)) := by
    subst hW; exact heap_below (heap_below (heap_new _ _ _ rfl) (ext_alloc _ _)) (ext_alloc _ _)
  have hR : W1.heap[w.heap.size + 1]? = some (.cells #[.int .i64 0, .slice none 0 0, .slice none 0 0] 30 (0, 0)) := by
    subst hW; exact heap_below (heap_new _ _ _ (by simp)) (ext_alloc _ _)
  have hF : W1.heap[w.heap.size + 1 + 1]? = some (.cells (fcells n2 (fun _ => .slice none 0 0)) 27 (0, 0)) := by
    subst hW; exact heap_new _ _ _ (by simp)
  clear hW mk
  have hFlt := heap_lt hF
  obtain ⟨F, hFF⟩ : ∃ F, F = w.heap.size + 1 + 1 := ⟨_, rfl⟩
  rw [← hFF] at hF hFlt ⊢
  have hF1 : w.heap.size + 1 < F := by omega
  have HI : Hid (CtInv W1 F n2 fs 0 [] W1) := by
    refine ⟨rfl, ?_, fun j hj => absurd hj (by omega), But2.refl _ _ _ _⟩
    rw [hF]
    congr 2
  have HX := Lib.hid hX
  have HR := Lib.hid hR
  have HB := Lib.hid B1
  clear hX hR hF B1 hFF
  go_loopw [13] (fun i wr => ∃ (k : Nat) (ss' : List Slc), k ≤ n2 ∧ i = .int .i64 k ∧ Hid (CtInv W1 F n2 fs k ss' wr))
    (fun i _ => n2 - (intOf i).toNat)
  case atStart => exact ⟨0, [], Nat.zero_le _, rfl, HI.out⟩
  case round =>
    clear HI
    obtain ⟨k, ss', hk, rfl, hI⟩ := hrel
    by_cases hlt : k < n2
    · have hbw : Below w.heap.size w wr := HB.out.trans (hI.out.but.low (by omega) (by omega) (by omega))
      obtain ⟨b, off, rfl, _⟩ := H2.out.row.addr (show 0 < n2 by omega)
      have hcx := (H2.out.below hbw).cellAt k hlt
      have hsee := (H2.out.below hbw).each k (by rw [HN2.out]; exact hlt)
      have hsl := HSL.out k hlt
      obtain ⟨sk, hsk⟩ : ∃ sk, sk = ss.getD k slc0 := ⟨_, rfl⟩
      rw [← hsk] at hcx hsee hsl
      obtain ⟨ak, nk, ck⟩ := sk
      simp only at hcx hsee hsl
      have W1' : IntKind.i64.wrap ((k : Int) + 1) = (k : Int) + 1 := IntWalk.i64_in _ (by omega)
      have HCL := Lib.hid (clone_u8 (fs.getD k []) ak nk ck wr hsee (by omega))
      have hnk : (fs.getD k []).length = nk := hsee.lenMap
      have HNK := Lib.hid hnk
      clear hsk hsee hbw hnk
      go_wp2_with fail
      refine HCL.out.mono ?_
      rintro e s1 ⟨v, rfl, hrow, b1⟩
      obtain ⟨ev, fv, rfl⟩ := hrow.form
      have hcF := (cell_of_block (heap_below hI.out.blk b1) k).trans (fcells_get _ _ _ hlt)
      have hfF := unfrozen_of_block (heap_below hI.out.blk b1) k
      have hnil : ss'.getD k slc0 = slc0 := by simp [List.getD, List.getElem?_eq_none (show ss'.length ≤ k by rw [hI.out.len]; exact Nat.le_refl _)]
      rw [hnil] at hcF
      have hcF2 : s1.cell? ⟨F, k, none⟩ = some (.slice none 0 0) := hcF
      have HI2 := Lib.hid (hI.out.step (s := (ev, nk, fv)) hFlt b1 (by rw [HNK.out]; exact hrow))
      clear hI hrow b1 hcF hnil
      simp only [slV] at HI2
      go_wp2
      go_roundw
      case rel => exact ⟨k + 1, _, by omega, by go_num, HI2.out⟩
      case measure => simp [intOf]; omega
    · obtain rfl : n2 = k := by omega
      obtain ⟨wo, hwo⟩ : ∃ wo : World, wo = wr := ⟨_, rfl⟩
      subst hwo
      have hXo := hI.out.but.at HX.out (by omega) (by omega) (by omega)
      have hRo := hI.out.but.at HR.out (by omega) (by omega) (by omega)
      have hbo : Below w.heap.size w wo := HB.out.trans (hI.out.but.low (by omega) (by omega) (by omega))
      have p0 : wo.cell? ⟨w.heap.size, 0, none⟩ = some (.int .i64 bad) := cell_of_block hXo 0
      have p1 : wo.cell? ⟨w.heap.size, 1, none⟩ = some (.slice a1 n1 c1) := cell_of_block hXo 1
      have E1 : Hid (∀ W, Below wo.heap.size wo W → Calls Try.prog 64 #[.slice a1 n1 c1] W fun e w' => ∃ v, e = .returned v ∧ Row isByte w' W.heap.size 5 v n1 (init.map bv) ∧ Below W.heap.size W w') := fun W hb => clone_u8 init a1 n1 c1 W (H1.out.below (ext_trans hbo hb)) (by omega)
      have HRO := Lib.hid hRo
      have HBO := Lib.hid hbo
      have hlt2 : w.heap.size + 1 < wo.heap.size := heap_lt hRo
      have hlt3 : F < wo.heap.size := Nat.lt_of_lt_of_le hFlt hI.out.but.size
      clear hXo hRo hbo hlt hk
      go_wp2_with fail
      go_region_held3 (fun w' => w'.cell? ⟨w.heap.size, 0, none⟩ = some (.int .i64 bad) ∧ w'.cell? ⟨w.heap.size, 1, none⟩ = some (.slice a1 n1 c1))
        (first | with_reducible exact ⟨p0, p1⟩ | with_reducible exact ⟨cell_drew p0, cell_drew p1⟩ | with_reducible exact ⟨d1_0, d1_1⟩ | with_reducible exact ⟨cell_drew d1_0, cell_drew d1_1⟩ | with_reducible exact ⟨cell_set3t d1_0 (by omega), cell_set3t d1_1 (by omega)⟩ | with_reducible exact ⟨cell_row d1_0 (by omega), cell_row d1_1 (by omega)⟩ | go_keep)
        (first
          | (go_at_call 64; (with_reducible refine (E1.out _ (by first | with_reducible exact Below.refl _ wo | with_reducible exact (Below.refl _ wo).drew)).mono ?_); rintro e s1 ⟨v1, rfl, r1, b1⟩; have HB1 : Below wo.heap.size wo s1 := (by first | exact ext_trans (Below.refl _ wo) b1 | exact ext_trans ((Below.refl _ wo).drew) b1); have d1_0 := cell_below p0 HB1; have d1_1 := cell_below p1 HB1; have R1 := Lib.hid r1; obtain ⟨e1, f1, rfl⟩ := r1.form; have hz := heap_below HRO.out HB1; have z0 := cell_of_block hz 0; have y0 := unfrozen_of_block hz 0; have z1 := cell_of_block hz 1; have y1 := unfrozen_of_block hz 1; have z2 := cell_of_block hz 2; have y2 := unfrozen_of_block hz 2; have HZ := Lib.hid hz; clear hz r1 b1))
      have HQ := Lib.hid HB1
      have HNN : Hid (init.length = n1) := HN1.out
      go_wp2
      refine bodyPost_ret (v := traceV bad ⟨e1, n1, f1, some ⟨F, 0, none⟩, n2, n2, ss'⟩) ?_ rfl ?_
      · have h6 := tri_set_t HZ.out rfl (.int .i64 bad) (.slice e1 n1 f1) (.slice (some ⟨F, 0, none⟩) n2 n2)
        have g0 := cell_of_block h6 0
        have g1 := cell_of_block h6 1
        have g2 := cell_of_block h6 2
        simp [results, Try.results38, go_sem, g0, g1, g2]
        rfl
      · refine ⟨_, rfl, ?_, set3_t (w.heap.size + 1) (Nat.le_succ _) (ext_trans HBO.out HQ.out)⟩
        have hI' := hI.out
        have hb2 := hI'.but.size
        have hbase : w.heap.size + 1 < W1.heap.size := by omega
        refine OwnTr.set3 (base := w.heap.size + 2) (t := ⟨bad, init, fs⟩) ⟨?_, ⟨F, by omega, rfl, ?_⟩, HN2.out.symm, HN2.out.symm, by rw [hI'.len]; exact HN2.out.symm, fun j hj => ?_⟩ (by omega) (by omega)
        · rw [HNN.out]
          exact R1.out.base_le (show w.heap.size + 2 ≤ wo.heap.size by omega)
        · rw [heap_below hI'.blk HQ.out]
          congr 2
          apply Array.ext'
          apply List.ext_getElem
          · simp [fcells, hI'.len]
          · intro i h1 h2
            have hi1 : i < n2 := by simpa [fcells] using h1
            simp [fcells, List.getD, List.getElem?_eq_getElem (show i < ss'.length by rw [hI'.len]; exact hi1)]
        · exact ((hI'.rows j (by rw [← HN2.out]; exact hj)).below HQ.out).base_le (by omega)
end Go.Proofs.Ytdheldhecimfnaa
