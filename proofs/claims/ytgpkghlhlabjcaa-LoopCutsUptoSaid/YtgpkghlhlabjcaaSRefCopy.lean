/- The reference's CopyTrace, by its contract. -/
import Derived.Test.YtgpkghlhlabjcaaLib
import Derived.Test.YtgpkghlhlabjcaaOwn
import Derived.Test.YtgpkghlhlabjcaaOwnStr
import Derived.Test.YtgpkghlhlabjcaaRowStep
import Derived.Test.YtgpkghlhlabjcaaNBase
import Derived.Test.YtgpkghlhlabjcaaRawPred
import Derived.Test.YtgpkghlhlabjcaaNOwnsN
import Derived.Test.YtgpkghlhlabjcaaNStep
import Derived.Test.YtgpkghlhlabjcaaNVal
import Derived.Test.YtgpkghlhlabjcaaNTrace
import Derived.Test.YtgpkghlhlabjcaaNOwns
import Derived.Test.YtgpkghlhlabjcaaNHeap
import Derived.Test.YtgpkghlhlabjcaaNPeel
import Derived.Test.YtgpkghlhlabjcaaTBits
import Derived.Test.YtgpkghlhlabjcaaNClone2
import Derived.Test.YtgpkghlhlabjcaaNCopyTr
import Derived.Test.YtgpkghlhlabjcaaSCopyTr
import Derived.Test.YtgpkghlhlabjcaaSRead
import Derived.Test.YtgpkghlhlabjcaaRows
import Derived.BigQuiet
import Derived.Deep.AppendLies
import Derived.Deep.CutRange
import Derived.Deep.QuietTactic
import Derived.Deep.RegionHeld3
import Derived.Deep.RegionLaw
import Derived.Deep.RegionWith
import Derived.KernelRfl
import Derived.Laws.Bits64b
import Derived.Laws.BitsAllLaws
import Derived.Laws.BitsLemmas
import Derived.Laws.EntriesVeiled
import Derived.Laws.Tables
import Derived.Lib.AppendStr
import Derived.Lib.AppendZeros
import Derived.Lib.ConvBytes
import Derived.Lib.Hide
import Derived.Lib.SlBytesRow
import Derived.Lib.SmallJoins
import Derived.LoopIn
import Derived.LoopNIn
import Derived.Maps.AppendAt
import Derived.OrdersHeld
import Derived.OrdersIn
import Derived.OwnWalkIn
import Derived.RangeFuncBox
import Derived.RangeFuncCalls
import Derived.RangeFuncLeaves
import Derived.RangeFuncNested
import Derived.RangeFuncWrites
import Derived.Shelf.Abstract
import Derived.Shelf.Bytes.SlSmallAll
import Derived.Shelf.RegionOpen
import Derived.Sort.CutIn
import Derived.Stop.RegionWithIn
import Derived.TacticsInMore
import Derived.WalkKit
import Derived.WalkLawsBesides
import Derived.WalkSpells
namespace Go.Proofs.Ytgpkghlhlabjcaa
open Go Go.RowKit Go.Joins

/-- A trace's slots own what they read; the list of frames is a row that may have room. -/
structure OwnT3 (w : World) (base : Nat) (s : TSlots) (t : TraceC) : Prop where
  o1 : Row isByte w base 5 (.slice s.a1 s.n1 s.c1) t.init.length (t.init.map bv)
  o2 : w.ownsRow base 27 1 (.slice s.a2 s.n2 s.c2) t.frames.length (s.ss.map slV)
  len : s.ss.length = t.frames.length
  rows : ∀ j, j < t.frames.length → Row isByte w base 5 (slV (s.ss.getD j slc0)) (t.frames.getD j []).length ((t.frames.getD j []).map bv)
  ap : ApartL ((s.a1, s.n1, s.c1) :: s.ss)
theorem OwnT3.below {w w' : World} {base : Nat} {s : TSlots} {t : TraceC} (h : OwnT3 w base s t) (hb : Below w.heap.size w w') : OwnT3 w' base s t :=
  ⟨h.o1.below hb, ownsN_below h.o2 hb, h.len, fun j hj => (h.rows j hj).below hb, h.ap⟩
theorem owns_sees_slice {w : World} {base : Nat} {e : TypeId} {a : Option Addr} {n c m : Nat} {xs : List Value} (h : w.ownsRow base e 1 (.slice a n c) m xs) : n = m ∧ Sees w a n c xs := by
  obtain ⟨a', c', e1, _, hs⟩ := Sees.owned h
  cases e1
  exact ⟨rfl, hs⟩
theorem OwnT3.sees {w : World} {base : Nat} {s : TSlots} {t : TraceC} (h : OwnT3 w base s t) : SeesTr w s t :=
  ⟨(row_sees_slice h.o1).2, ⟨(owns_sees_slice h.o2).2, h.len, fun k hk => (row_sees_slice (h.rows k hk)).2⟩⟩

/-- While the copy is made: k frames have been copied. -/
structure RcInv (w : World) (bad : Int) (F : List (List UInt8)) (I : List UInt8) (a1 : Option Addr) (n1 c1 : Nat) (a2 : Option Addr) (n2 c2 k : Nat) (W : World) (v : Value) (si : Slc) (ss : List Slc) : Prop where
  box : W.heap[w.heap.size + 1 + 1]? = some (.cells #[.int .i64 bad, slV si, v] 30 (0, 0))
  tb : W.heap[w.heap.size]? = some (.cells #[.int .i64 bad, .slice a1 n1 c1, .slice a2 n2 c2] 30 (0, 0))
  rb : W.heap[w.heap.size + 1]? = some (.cells #[.int .i64 0, .slice none 0 0, .slice none 0 0] 30 (0, 0))
  init : Row isByte W w.heap.size 5 (slV si) I.length (I.map bv)
  row : W.ownsRow w.heap.size 27 1 v k (ss.map slV)
  len : ss.length = k
  rows : ∀ j, j < k → Row isByte W w.heap.size 5 (slV (ss.getD j slc0)) (F.getD j []).length ((F.getD j []).map bv)
  ap : ApartL (si :: ss)
  low : Below w.heap.size w W

theorem OwnT3.set3 {w : World} {base G : Nat} {s : TSlots} {t : TraceC} {C : Array Value} {fr : Nat × Nat} {u0 u1 u2 : Value} (h : OwnT3 w base s t) (hG : w.heap[G]? = some (.cells C 30 fr)) : OwnT3 (((w.setCell ⟨G, 0, .none⟩ u0).setCell ⟨G, 1, .none⟩ u1).setCell ⟨G, 2, .none⟩ u2) base s t := by
  have row : ∀ {v : Value} {n : Nat} {xs : List Value}, Row isByte w base 5 v n xs → Row isByte (((w.setCell ⟨G, 0, .none⟩ u0).setCell ⟨G, 1, .none⟩ u1).setCell ⟨G, 2, .none⟩ u2) base 5 v n xs := fun hr =>
    hr.other fun q hq => set3_other G q (fun e => (hr.not_own hG (by decide)) (by rw [hq, e])) _ _ _
  exact ⟨row h.o1, ownsN_other h.o2 fun q hq => set3_other G q (fun e => (ownsN_notown h.o2 hG (by decide)) (by rw [hq, e])) _ _ _, h.len, fun j hj => row (h.rows j hj), h.ap⟩
theorem keep3c {w w' : World} {a0 a1 a2 : Addr} {v0 v1 v2 : Value} (h : w.cell? a0 = some v0 ∧ w.cell? a1 = some v1 ∧ w.cell? a2 = some v2) (hb : Below w.heap.size w w') : w'.cell? a0 = some v0 ∧ w'.cell? a1 = some v1 ∧ w'.cell? a2 = some v2 := by
  obtain ⟨h0, h1, h2⟩ := h
  have one : ∀ {a : Addr} {v : Value}, w.cell? a = some v → w'.cell? a = some v := fun {a v} h => (hb.cell (World.block_lt_of_cell? _ _ h)).trans h
  exact ⟨one h0, one h1, one h2⟩
theorem apart_snoc {L : List Slc} {x : Slc} (h : ApartL L) (h2 : ∀ j, j < L.length → ∀ g, (slV (L.getD j slc0)).ownBlock = some g → (slV x).ownBlock ≠ some g) : ApartL (L ++ [x]) := by
  intro i j hij hj g hg
  have hi : i < L.length := by simp at hj; omega
  have e1 : (L ++ [x]).getD i slc0 = L.getD i slc0 := by simp [List.getD, List.getElem?_append_left hi]
  rw [e1] at hg
  by_cases e : j < L.length
  · have e2 : (L ++ [x]).getD j slc0 = L.getD j slc0 := by simp [List.getD, List.getElem?_append_left e]
    rw [e2]; exact h i j hij e g hg
  · have e3 : j = L.length := by simp at hj; omega
    have e2 : (L ++ [x]).getD j slc0 = x := by rw [e3]; simp
    rw [e2]; exact h2 i hi g hg

set_option maxRecDepth 100000 in
set_option maxHeartbeats 6400000 in
theorem refcopy_any (t : TraceC) (s : TSlots) (w : World) (h : SeesTr w s t) (hs : s.small) :
    Calls Try.prog 7 #[traceV t.bad s] w fun e w' => ∃ s' : TSlots, e = .returned (traceV t.bad s') ∧ OwnT3 w' w.heap.size s' t ∧ s'.small ∧ Below w.heap.size w w' := by
  obtain ⟨i0, hi, hz0, hz1, hz2⟩ := info_parts info_byte
  obtain ⟨iS, hiS, hzS0, hzS1, hzS2⟩ := info_parts info_u8s
  obtain ⟨a1, n1, c1, a2, n2, c2, ss0⟩ := s
  obtain ⟨hs1, hs2, hs3⟩ := hs
  simp only at hs1 hs2 hs3
  obtain ⟨bad, init, fs⟩ := t
  obtain ⟨q1, q2⟩ := h
  simp only at q1 q2
  have hn2 := q2.n_eq
  have hn1 : init.length = n1 := q1.lenMap
  have H1 := Lib.hid q1
  have H2 := Lib.hid q2
  have HN1 := Lib.hid hn1
  have HN2 := Lib.hid hn2
  have HSL := Lib.hid hs3
  clear q1 q2 hn1 hn2 hs3
  unfold traceV
  go_enter Try.func7, Try.ntmps7
  go_upto_region 2 with fail
  generalize hW : World.alloc (World.alloc (World.alloc w _) _) _ = W1
  have B1 : Below w.heap.size w W1 := by subst hW; exact ext_trans (ext_alloc _ _) (ext_trans (ext_alloc _ _) (ext_alloc _ _))
  have hT : W1.heap[w.heap.size]? = some (.cells #[.int .i64 bad, .slice a1 n1 c1, .slice a2 n2 c2] 30 (0, 0)) := by subst hW; exact heap_below (heap_below (heap_new _ _ _ rfl) (ext_alloc _ _)) (ext_alloc _ _)
  have hR : W1.heap[w.heap.size + 1]? = some (.cells #[.int .i64 0, .slice none 0 0, .slice none 0 0] 30 (0, 0)) := by subst hW; exact heap_below (heap_new _ _ _ (by simp)) (ext_alloc _ _)
  have hX : W1.heap[w.heap.size + 1 + 1]? = some (.cells #[.int .i64 bad, .slice none 0 0, .slice none 0 0] 30 (0, 0)) := by subst hW; exact heap_new _ _ _ (by simp)
  clear hW
  have p1 := cell_of_block hT 1
  have p2 := cell_of_block hX 1
  have p3 := unfrozen_of_block hX 1
  have HB := Lib.hid B1
  have HT := Lib.hid hT
  have HR := Lib.hid hR
  have HX := Lib.hid hX
  clear B1 hT hR hX
  go_wp2_with (at_builtin; refine wpList_append_row isByte _ rfl _ _ 27 rfl w.heap.size 5 i0 (.int .u8 0) 1 Try.underlying27 hi hz0 hz1 hz2 rfl isByte_zero _ _ _ rfl (Row.nil _ _ _ _) a1 n1 c1 (init.map bv) rfl (H1.out.below HB.out) (bv_one _) (isByte_all _) (by unfold maxLen; omega) (by omega) HB.out.size ?_; intro v1 w1 r1 g1 _; obtain ⟨ia, ic, rfl⟩ := r1.form; have hb1 : Below W1.heap.size W1 w1 := (Below.refl _ W1).grown g1 (Nat.le_refl _) (fun k hk => by cases hk); have p4 := cell_of_block (heap_below HX.out hb1) 1; have p5 := unfrozen_of_block (heap_below HX.out hb1) 1)
  obtain ⟨si, hsi⟩ : ∃ si : Slc, si = (ia, 0 + n1, ic) := ⟨_, rfl⟩
  have hro : Row isByte w1 w.heap.size 5 (slV si) init.length (init.map bv) := by rw [hsi, HN1.out]; simpa [slV] using r1
  have hXX := block_setCell (heap_below HX.out hb1) (i := 1) (.slice ia (0 + n1) ic)
  generalize hW : World.setCell w1 _ _ = W2
  have hx2 : W2.heap[w.heap.size + 1 + 1]? = some (.cells #[.int .i64 bad, slV si, .slice none 0 0] 30 (0, 0)) := by
    subst hW; rw [hsi]; simpa [slV] using hXX
  have hne : ∀ D : Nat, D ≠ w.heap.size + 1 + 1 → W2.heap[D]? = w1.heap[D]? := fun D hD => by subst hW; exact Below.heap_setCell w1 ⟨w.heap.size + 1 + 1, 1, none⟩ _ D hD
  have hro2 : Row isByte W2 w.heap.size 5 (slV si) init.length (init.map bv) := hro.other fun q hq => hne q (fun e => (hro.not_own (heap_below HX.out hb1) (by decide)) (by rw [hq, e]))
  have hb2 : Below w.heap.size w W2 := by
    subst hW
    exact (ext_trans HB.out hb1).setCell (p := ⟨w.heap.size + 1 + 1, 1, none⟩) (by show w.heap.size ≤ w.heap.size + 1 + 1; omega) _
  have ht2 : W2.heap[w.heap.size]? = some (.cells #[.int .i64 bad, .slice a1 n1 c1, .slice a2 n2 c2] 30 (0, 0)) := (hne _ (by omega)).trans (heap_below HT.out hb1)
  have hr2 : W2.heap[w.heap.size + 1]? = some (.cells #[.int .i64 0, .slice none 0 0, .slice none 0 0] 30 (0, 0)) := (hne _ (by omega)).trans (heap_below HR.out hb1)
  have hlen2 : (si.2.1 : Nat) = init.length := (row_len (show Row isByte W2 w.heap.size 5 (.slice si.1 si.2.1 si.2.2) _ _ from hro2)).symm
  have HLEN2 := Lib.hid hlen2
  have HRO := Lib.hid hro2
  have HT2 := Lib.hid ht2
  have HR2 := Lib.hid hr2
  have HX2 := Lib.hid hx2
  have HB2 := Lib.hid hb2
  have HSI := Lib.hid hsi
  clear hW r1 g1 hb1 hro hXX hx2 hne hro2 hb2 ht2 hr2 hsi p1 p2 p3 p4 p5 HB HT HR HX hlen2
  go_wp2
  go_loopw [4, 5] (fun i _ wr => ∃ (k : Nat) (va : Option Addr) (vc : Nat) (ss : List Slc), k ≤ n2 ∧ i = .int .i64 k ∧ Hid (RcInv w bad fs init a1 n1 c1 a2 n2 c2 k wr (.slice va k vc) si ss)) (fun i _ _ => n2 - (intOf i).toNat)
  case atStart => exact ⟨0, none, 0, [], Nat.zero_le _, rfl, HX2.out, HT2.out, HR2.out, HRO.out, ⟨rfl, .inl ⟨rfl, rfl⟩⟩, rfl, fun j hj => absurd hj (by omega), (fun i j hij hj => by simp at hj; omega), HB2.out⟩
  case round =>
    clear HX2 HT2 HR2 HRO HB2
    obtain ⟨k, va, vc, ss, hk, rfl, hI⟩ := hrel
    have p1 := cell_of_block hI.out.tb 2
    by_cases hlt : k < n2
    · obtain ⟨bb, off, rfl, hbw⟩ := H2.out.row.addr (show 0 < n2 by omega)
      have hcx := (H2.out.below hI.out.low).cellAt k hlt
      have hsee := (H2.out.below hI.out.low).each k (by rw [HN2.out]; exact hlt)
      have hsl := HSL.out (ss0.getD k slc0) (getD_mem (by rw [H2.out.len, HN2.out]; exact hlt))
      obtain ⟨x, hx⟩ : ∃ x : Slc, x = ss0.getD k slc0 := ⟨_, rfl⟩
      rw [← hx] at hcx hsee hsl
      obtain ⟨xa, xn, xc⟩ := x
      simp only at hcx hsee hsl
      have HXN := Lib.hid hsl
      have HKN : Hid (k < n2 ∧ n2 ≤ 1048576) := ⟨hlt, hs2⟩
      have HSK := Lib.hid hsee
      have HBW := Lib.hid hbw
      have hI1 : ((k : Nat) : Int) < (n2 : Int) := by omega
      have hI2 : (0 : Int) ≤ (k : Int) := by omega
      have W1' : IntKind.i64.wrap ((k : Int) + 1) = (k : Int) + 1 := IntWalk.i64_in _ (by omega)
      have p0 : wr.cell? ⟨w.heap.size + 1 + 1, 2, none⟩ = some (.slice va k vc) := cell_of_block hI.out.box 2
      have p2 := hcx
      have hxl : xn = (fs.getD k []).length := hsee.lenMap.symm
      have HXL := Lib.hid hxl
      clear hx hcx hsee hsl hbw hxl
      go_upto_region 7 with fail
      have HS0 := Lib.hid (And.intro p0 (And.intro p1 p2))
      have HSD := Lib.hid (keep3c HS0.out ((Below.refl _ wr).drew))
      have HSK2 := Lib.hid (HSK.out.below ((Below.refl _ wr).drew))
      refine wp_region_noPanic ?_
      refine wp_region_peelN 12 (by kernel_rfl) rfl (by simp only [List.getElem?_toArray, List.getElem?_cons_zero, List.getElem?_cons_succ]; rfl) (by kernel_rfl) ?_
      simp only [List.pop_toArray, List.dropLast_cons_cons, List.dropLast_singleton]
      refine wpAny_of_held (S := fun w' => w'.cell? ⟨w.heap.size + 1 + 1, 2, none⟩ = some (.slice va k vc) ∧ w'.cell? ⟨w.heap.size, 2, none⟩ = some (.slice (some ⟨bb, off, none⟩) n2 c2) ∧ w'.cell? ⟨bb, off + k, none⟩ = some (.slice xa xn xc)) _ _ _ _ ?_
      refine wpAnyH_take (i := 0) (v := ?_) (by simp only [List.getElem?_toArray, List.getElem?_cons_zero]; rfl) (by kernel_rfl) (by kernel_rfl) (by kernel_rfl) (fun _ _ _ h => h) (Or.inl ⟨by rfl, ?_⟩) HSD.out ?_
      rotate_left
      · intro w hSw
        (try dsimp only at hSw)
        obtain ⟨q0_, q1_, q2_⟩ := hSw
        go_simp
        try with_reducible rfl
      try simp only [Act.put, List.setIfInBounds_toArray, List.set_cons_zero, List.set_cons_succ]
      refine wpAnyH_take (i := 1) (v := ?_) (by simp only [List.getElem?_toArray, List.getElem?_cons_zero, List.getElem?_cons_succ]; rfl) (by kernel_rfl) (by kernel_rfl) (by kernel_rfl) (fun _ _ _ h => h) (Or.inl ⟨by rfl, ?_⟩) HSD.out ?_
      rotate_left
      · intro w hSw
        (try dsimp only at hSw)
        obtain ⟨q0_, q1_, q2_⟩ := hSw
        go_simp
        try with_reducible rfl
      try simp only [Act.put, List.setIfInBounds_toArray, List.set_cons_zero, List.set_cons_succ]
      refine wpAnyH_take (i := 2) (v := ?_) (by simp only [List.getElem?_toArray, List.getElem?_cons_zero, List.getElem?_cons_succ]; rfl) (by kernel_rfl) (by kernel_rfl) (by kernel_rfl) (fun _ _ _ h => h) (Or.inl ⟨by rfl, ?_⟩) HSD.out ?_
      rotate_left
      · intro w hSw
        (try dsimp only at hSw)
        obtain ⟨q0_, q1_, q2_⟩ := hSw
        go_simp
        try with_reducible rfl
      try simp only [Act.put, List.setIfInBounds_toArray, List.set_cons_zero, List.set_cons_succ]
      refine wpAnyH_take (i := 3) (v := ?_) (by simp only [List.getElem?_toArray, List.getElem?_cons_zero, List.getElem?_cons_succ]; rfl) (by kernel_rfl) (by kernel_rfl) (by kernel_rfl) (fun _ _ _ h => h) (Or.inl ⟨by rfl, ?_⟩) HSD.out ?_
      rotate_left
      · intro w hSw
        (try dsimp only at hSw)
        obtain ⟨q0_, q1_, q2_⟩ := hSw
        go_simp
        try with_reducible rfl
      try simp only [Act.put, List.setIfInBounds_toArray, List.set_cons_zero, List.set_cons_succ]
      refine wpAnyH_take (i := 4) (v := ?_) (by simp only [List.getElem?_toArray, List.getElem?_cons_zero, List.getElem?_cons_succ]; rfl) (by kernel_rfl) (by kernel_rfl) (by kernel_rfl) (fun _ _ _ h => h) (Or.inl ⟨by rfl, ?_⟩) HSD.out ?_
      rotate_left
      · intro w hSw
        (try dsimp only at hSw)
        obtain ⟨q0_, q1_, q2_⟩ := hSw
        go_simp
        try with_reducible rfl
      try simp only [Act.put, List.setIfInBounds_toArray, List.set_cons_zero, List.set_cons_succ]
      refine wpAnyH_take (i := 5) (v := ?_) (by simp only [List.getElem?_toArray, List.getElem?_cons_zero, List.getElem?_cons_succ]; rfl) (by kernel_rfl) (by kernel_rfl) (by kernel_rfl) (fun _ _ _ h => h) (Or.inl ⟨by rfl, ?_⟩) HSD.out ?_
      rotate_left
      · intro w hSw
        (try dsimp only at hSw)
        obtain ⟨q0_, q1_, q2_⟩ := hSw
        go_simp
        try with_reducible rfl
      try simp only [Act.put, List.setIfInBounds_toArray, List.set_cons_zero, List.set_cons_succ]
      refine wpAnyH_take (i := 6) (v := ?_) (by simp only [List.getElem?_toArray, List.getElem?_cons_zero, List.getElem?_cons_succ]; rfl) (by kernel_rfl) (by kernel_rfl) (by kernel_rfl) (fun _ _ _ h => h) (Or.inl ⟨by rfl, ?_⟩) HSD.out ?_
      rotate_left
      · intro w hSw
        (try dsimp only at hSw)
        obtain ⟨q0_, q1_, q2_⟩ := hSw
        go_simp
        try with_reducible rfl
      try simp only [Act.put, List.setIfInBounds_toArray, List.set_cons_zero, List.set_cons_succ]
      refine wpAnyH_take (i := 7) (v := ?_) (by simp only [List.getElem?_toArray, List.getElem?_cons_zero, List.getElem?_cons_succ]; rfl) (by kernel_rfl) (by kernel_rfl) (by kernel_rfl) (fun _ _ _ h => h) (Or.inl ⟨by rfl, ?_⟩) HSD.out ?_
      rotate_left
      · intro w hSw
        (try dsimp only at hSw)
        obtain ⟨q0_, q1_, q2_⟩ := hSw
        go_simp
        try with_reducible rfl
      try simp only [Act.put, List.setIfInBounds_toArray, List.set_cons_zero, List.set_cons_succ]
      refine wpAnyH_ready (rs := [8]) (by kernel_rfl) (by simp) ?_
      refine AllReadyH.cons (by simp only [List.getElem?_toArray, List.getElem?_cons_zero, List.getElem?_cons_succ]; rfl) (fun K hK => ?_) AllReadyH.nil
      refine step_append_row isByte _ rfl _ _ 27 rfl wr.heap.size 5 i0 (.int .u8 0) 1 Try.underlying27 hi hz0 hz1 hz2 rfl isByte_zero _ _ _ (by simp [Act.eval]) (Row.nil _ _ _ _) xa xn xc ((fs.getD k []).map bv) (by simp [Act.eval]) HSK2.out (bv_one _) (isByte_all _) (by unfold maxLen; have := HXN.out; omega) (by have := HXN.out; omega) (Nat.le_refl _) ?_
      intro v3 w3 r3 g3
      rw [Nat.zero_add, List.nil_append] at r3
      obtain ⟨ea, ec, rfl⟩ := r3.form
      have hb3 : Below wr.heap.size wr w3 := ((Below.refl _ wr).drew).grown g3 (Nat.le_refl _) (fun k hk => by cases hk)
      have HB3 := Lib.hid hb3
      have R3 := Lib.hid r3
      have HS3 := Lib.hid (keep3c HS0.out hb3)
      clear r3 g3 hb3
      refine hK.out _ _ HS3.out (fun _ => ?_)
      clear hK K
      try simp only [Act.put, List.setIfInBounds_toArray, List.set_cons_zero, List.set_cons_succ]
      refine wpAnyH_ready (rs := [9]) (by kernel_rfl) (by simp) ?_
      refine AllReadyH.cons (by simp only [List.getElem?_toArray, List.getElem?_cons_zero, List.getElem?_cons_succ]; rfl) (fun K hK => ?_) AllReadyH.nil
      go_simp
      refine hK.out _ _ (keep3c HS3.out (ext_alloc _ _)) (fun _ => ?_)
      clear hK K
      try simp only [Act.put, List.setIfInBounds_toArray, List.set_cons_zero, List.set_cons_succ]
      have HB4 := Lib.hid (ext_trans HB3.out (ext_alloc w3 (.cells #[.slice ea xn ec] 27)))
      have HOW := Lib.hid (ownsN_below hI.out.row HB4.out)
      refine wpAnyH_ready (rs := [10]) (by kernel_rfl) (by simp) ?_
      refine AllReadyH.cons (by simp only [List.getElem?_toArray, List.getElem?_cons_zero, List.getElem?_cons_succ]; rfl) (fun K hK => ?_) AllReadyH.nil
      refine step_append_own_at rfl _ _ 28 rfl w.heap.size 27 iS (.slice none 0 0) 1 24 Try.underlying28 hiS hzS0 hzS1 hzS2 rfl (by decide) (.slice va k vc) k (ss.map slV) (by simp [Act.eval]) HOW.out ⟨w3.heap.size, 0, none⟩ 1 1 [.slice ea xn ec] (by simp [Act.eval]) rfl (cell_one_new _ _ _) (by simp [Value.oneCell']) (by unfold maxLen; have := HKN.out; omega) (by have := HKN.out; omega) (ext_trans hI.out.low HB4.out).size ?_
      intro v5 w5 r5 g5
      obtain ⟨fa, fc, rfl⟩ := ownsN_form r5
      have hx5 := heap_grown (heap_below hI.out.box HB4.out) g5 (ownsN_notown HOW.out (heap_below hI.out.box HB4.out) (by decide))
      have ht5 := heap_grown (heap_below hI.out.tb HB4.out) g5 (ownsN_notown HOW.out (heap_below hI.out.tb HB4.out) (by decide))
      have HS5 : Hid (w5.cell? ⟨w.heap.size + 1 + 1, 2, none⟩ = some (.slice va k vc) ∧ w5.cell? ⟨w.heap.size, 2, none⟩ = some (.slice (some ⟨bb, off, none⟩) n2 c2) ∧ w5.cell? ⟨bb, off + k, none⟩ = some (.slice xa xn xc)) := ⟨cell_of_block hx5 2, cell_of_block ht5 2, by rw [World.cell?_of_block (w := w3.alloc (.cells #[.slice ea xn ec] 27)) (g5.block bb (Nat.lt_of_lt_of_le HBW.out (Nat.le_trans hI.out.low.size HB4.out.size)) (fun e => by have := (HOW.out.lt bb e.symm).1; have := HBW.out; omega))]; exact (keep3c HS3.out (ext_alloc _ _)).2.2⟩
      have HX5 := Lib.hid hx5
      have HT5 := Lib.hid ht5
      have d1 := cell_of_block hx5 2
      have d2 := unfrozen_of_block hx5 2
      have HG5 := Lib.hid g5
      have R5 := Lib.hid r5
      clear r5 g5 hx5 ht5
      refine hK.out _ _ HS5.out (fun _ => ?_)
      clear hK K
      try simp only [Act.put, List.setIfInBounds_toArray, List.set_cons_zero, List.set_cons_succ]
      refine wpAnyH_take (i := 11) (v := ?_) (by simp only [List.getElem?_toArray, List.getElem?_cons_zero, List.getElem?_cons_succ]; rfl) (by kernel_rfl) (by kernel_rfl) (by kernel_rfl) (fun _ _ _ h => h) (Or.inl ⟨by rfl, ?_⟩) HS5.out ?_
      rotate_left
      · intro w hSw
        (try dsimp only at hSw)
        obtain ⟨q0_, q1_, q2_⟩ := hSw
        go_simp
        try with_reducible rfl
      try simp only [Act.put, List.setIfInBounds_toArray, List.set_cons_zero, List.set_cons_succ]
      refine wpAnyH_done (by kernel_rfl) ?_ _
      unfold LastQ wpOp
      simp only [List.getElem?_toArray, List.getElem?_cons_zero, List.getElem?_cons_succ]
      rw [if_pos (by rfl)]
      refine Or.inl ?_
      go_simp
      refine NoPanic.normal ?_
      clear p0 p1 p2 HS0 HSD HS3 HS5 d1 d2
      go_wp2
      go_roundw
      case rel =>
        refine ⟨k + 1, fa, fc, ss ++ [(ea, xn, ec)], by omega, by go_num, ?_⟩
        have hXX := block_setCell HX5.out (i := 2) (.slice fa (k + 1) fc)
        obtain ⟨W6, hW6⟩ : ∃ W6, W6 = w5.setCell ⟨w.heap.size + 1 + 1, 2, none⟩ (.slice fa (k + 1) fc) := ⟨_, rfl⟩
        rw [← hW6] at hXX ⊢
        have hne : ∀ D : Nat, D ≠ w.heap.size + 1 + 1 → W6.heap[D]? = w5.heap[D]? := fun D hD => by rw [hW6]; exact Below.heap_setCell w5 ⟨w.heap.size + 1 + 1, 2, none⟩ _ D hD
        obtain ⟨WA, hWA⟩ : ∃ WA, WA = w3.alloc (.cells #[.slice ea xn ec] 27) := ⟨_, rfl⟩
        have hg := HG5.out
        have hb4 := HB4.out
        have how := HOW.out
        rw [← hWA] at hg hb4 how
        have hb3A : Below w3.heap.size w3 WA := by rw [hWA]; exact ext_alloc _ _
        have hwle : w.heap.size ≤ wr.heap.size := hI.out.low.size
        have one : ∀ {y : Slc} {V : List UInt8}, Row isByte WA w.heap.size 5 (slV y) V.length (V.map bv) → Row isByte W6 w.heap.size 5 (slV y) V.length (V.map bv) := fun {y V} hy => by
          have h1 := row_grown hy how hg (by decide)
          exact h1.other fun q hq => hne q (fun e => (h1.not_own HX5.out (by decide)) (by rw [hq, e]))
        have hnew : Row isByte WA w.heap.size 5 (slV (ea, xn, ec)) (fs.getD k []).length ((fs.getD k []).map bv) := by
          have h1 := (R3.out.below hb3A).base_le hwle
          rw [HXL.out] at h1 ⊢
          exact h1
        have hbz : Below w.heap.size w WA := ext_trans hI.out.low hb4
        refine ⟨?_, (hne _ (by omega)).trans HT5.out, (hne _ (by omega)).trans (heap_grown (heap_below hI.out.rb hb4) hg (ownsN_notown how (heap_below hI.out.rb hb4) (by decide))), one (hI.out.init.below hb4), ?_, by simp [hI.out.len], fun j hj => ?_, ?_, ?_⟩
        · simpa using hXX
        · have h1 : w5.ownsRow w.heap.size 27 1 (.slice fa (k + 1) fc) (k + 1) ((ss ++ [(ea, xn, ec)]).map slV) := by simpa [slV] using R5.out
          exact ownsN_other h1 fun q hq => hne q (fun e => (ownsN_notown h1 HX5.out (by decide)) (by rw [hq, e]))
        · by_cases e : j = k
          · subst e
            have e1 : (ss ++ [(ea, xn, ec)]).getD j slc0 = (ea, xn, ec) := by rw [← hI.out.len]; simp
            rw [e1]
            exact one hnew
          · have e1 : (ss ++ [(ea, xn, ec)]).getD j slc0 = ss.getD j slc0 := by simp [List.getD, List.getElem?_append_left (show j < ss.length by rw [hI.out.len]; omega)]
            rw [e1]
            exact one ((hI.out.rows j (by omega)).below hb4)
        · have h1 := apart_snoc (x := (ea, xn, ec)) hI.out.ap (fun j hj g hg1 hg2 => ?_)
          · simpa using h1
          · have h3 := (R3.out.own.lt g hg2).1
            have h4 : g < wr.heap.size := by
              cases j with
              | zero => exact (hI.out.init.own.lt g hg1).2
              | succ j => exact ((hI.out.rows j (by rw [← hI.out.len]; simpa using hj)).own.lt g hg1).2
            omega
        · rw [hW6]
          exact (hbz.grown hg hbz.size (fun q hq => (how.lt q hq).1)).setCell (p := ⟨w.heap.size + 1 + 1, 2, none⟩) (by show w.heap.size ≤ w.heap.size + 1 + 1; omega) _
      case measure => simp [intOf]; omega
    · obtain rfl : k = n2 := by omega
      have z0 := cell_of_block hI.out.box 0
      have z1 := cell_of_block hI.out.box 1
      have z2 := cell_of_block hI.out.box 2
      obtain ⟨sa, sn, sc⟩ := si
      simp only [slV] at z1
      have z1' : wr.cell? ⟨w.heap.size + 1 + 1, 1, none⟩ = some (.slice sa sn sc) := z1
      have y0 := cell_of_block hI.out.rb 0
      have y1 := cell_of_block hI.out.rb 1
      have y2 := cell_of_block hI.out.rb 2
      have x0 := unfrozen_of_block hI.out.rb 0
      have x1 := unfrozen_of_block hI.out.rb 1
      have x2 := unfrozen_of_block hI.out.rb 2
      clear hlt hk z1
      go_wp2
      refine bodyPost_ret (v := traceV bad ⟨sa, sn, sc, va, k, vc, ss⟩) ?_ rfl ?_
      · have h6 := tri_set_t hI.out.rb rfl (.int .i64 bad) (.slice sa sn sc) (.slice va k vc)
        have g0 := cell_of_block h6 0
        have g1 := cell_of_block h6 1
        have g2 := cell_of_block h6 2
        simp [results, Try.results7, go_sem, g0, g1, g2]
        rfl
      · have hsn : sn = init.length := HLEN2.out
        have h1 := HN1.out
        have h2 := HN2.out
        refine ⟨⟨sa, sn, sc, va, k, vc, ss⟩, rfl, OwnT3.set3 ⟨hI.out.init, by rw [h2]; exact hI.out.row, by rw [h2]; exact hI.out.len, fun j hj => hI.out.rows j (by rw [← h2]; exact hj), hI.out.ap⟩ hI.out.rb, ⟨by show sn ≤ 1048576; omega, hs2, fun x hx => ?_⟩, set3_t (w.heap.size + 1) (Nat.le_succ _) hI.out.low⟩
        obtain ⟨j, hj, he⟩ := List.getElem_of_mem hx
        have h3 : ss.getD j slc0 = x := by simp [List.getD, List.getElem?_eq_getElem hj, he]
        have hjk : j < k := by rw [← hI.out.len]; exact hj
        have h4 := hI.out.rows j hjk
        rw [h3] at h4
        have h5 := row_len (show Row isByte wr w.heap.size 5 (.slice x.1 x.2.1 x.2.2) _ _ from h4)
        have h6 := (H2.out.each j (by rw [h2]; exact hjk)).lenMap
        have h7 := HSL.out (ss0.getD j slc0) (getD_mem (by rw [H2.out.len, h2]; exact hjk))
        omega
end Go.Proofs.Ytgpkghlhlabjcaa
