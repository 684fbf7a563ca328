/- sim.Read, by its contract. -/
import Derived.Test.YtgpkghlhlabjcaaLib
import Derived.Test.YtgpkghlhlabjcaaOwn
import Derived.Test.YtgpkghlhlabjcaaOwnStr
import Derived.Test.YtgpkghlhlabjcaaNBase
import Derived.Test.YtgpkghlhlabjcaaRawPred
import Derived.Test.YtgpkghlhlabjcaaRawMay
import Derived.Test.YtgpkghlhlabjcaaNVal
import Derived.Test.YtgpkghlhlabjcaaNTrace
import Derived.Test.YtgpkghlhlabjcaaNHeap
import Derived.Test.YtgpkghlhlabjcaaNHeap2
import Derived.Test.YtgpkghlhlabjcaaNCopyTr
import Derived.Test.YtgpkghlhlabjcaaSCopyTr
import Derived.Test.YtgpkghlhlabjcaaSConcat
import Derived.Test.YtgpkghlhlabjcaaRows
import Derived.BigQuiet
import Derived.Deep.AppendLies
import Derived.Deep.CutRange
import Derived.Deep.QuietTactic
import Derived.Deep.RegionHeld3
import Derived.Deep.RegionLaw
import Derived.Deep.RegionWith
import Derived.KernelRfl
import Derived.Laws.EntriesVeiled
import Derived.Laws.Tables
import Derived.Lib.AppendStr
import Derived.Lib.AppendZeros
import Derived.Lib.ConvBytes
import Derived.Lib.Hide
import Derived.Lib.SlBytesRow
import Derived.Lib.SmallJoins
import Derived.Maps.AppendAt
import Derived.Shelf.Bytes.SlSmallAll
import Derived.WalkKit
import Derived.WalkLawsBesides
import Derived.WalkSpells
namespace Go.Proofs.Ytgpkghlhlabjcaa
open Go Go.RowKit Go.Joins

def zeroU (u : UInt8) : UInt8 := if u.toNat = 2 then 0 else u
def zeroL (l : List UInt8) : List UInt8 := l.map zeroU
def readT (t : TraceC) : TraceC := ⟨t.bad, zeroL t.init, t.frames.map zeroL⟩

theorem isByte_bv (u : UInt8) : isByte (bv u) := ⟨u, rfl⟩
/-- One cell of an own row written. -/
theorem Row.setAt {w : World} {base g n cap : Nat} {e : TypeId} {l : List UInt8} (h : Row isByte w base e (.slice (some ⟨g, 0, none⟩) n cap) n (l.map bv)) (i : Nat) (u : UInt8) :
    Row isByte (w.setCell ⟨g, i, none⟩ (bv u)) base e (.slice (some ⟨g, 0, none⟩) n cap) n ((l.set i u).map bv) := by
  obtain ⟨hl, h2⟩ := h
  rcases h2 with ⟨h2, _⟩ | ⟨g', cap', cur, h2, hg, hh, hn, hc, hs, ht, ho⟩
  · cases h2
  · cases h2
    refine ⟨by simpa using hl, .inr ⟨g, cap, cur.setIfInBounds i (bv u), rfl, hg, block_setCell hh (bv u), hn, hc, by simpa using hs, ?_, ?_⟩⟩
    · rw [Array.toList_setIfInBounds, List.take_set, ht, List.map_set]
    · intro x hx
      rw [Array.toList_setIfInBounds] at hx
      rcases List.mem_or_eq_of_mem_set hx with h | h
      · exact ho x h
      · rw [h]; exact isByte_bv u
theorem row_here {w : World} {base g n cap off : Nat} {e : TypeId} {xs : List Value} (h : Row isByte w base e (.slice (some ⟨g, off, none⟩) n cap) n xs) : off = 0 ∧ ∃ cur, w.heap[g]? = some (.cells cur e (0, 0)) := by
  rcases h.2 with ⟨h2, _⟩ | ⟨g', cap', cur, h2, hg, hh, _⟩
  · cases h2
  · cases h2; exact ⟨rfl, cur, hh⟩
theorem row_len {ok : Value → Prop} {w : World} {base : Nat} {e : TypeId} {a : Option Addr} {n c m : Nat} {xs : List Value} (h : Row ok w base e (.slice a n c) m xs) : m = n := by
  obtain ⟨_, _, e⟩ := h.form
  cases e
  rfl
/-- Rows that read as lists. -/
def RowsL (w : World) (base : Nat) (L : List Slc) (G : Nat → List UInt8) : Prop := ∀ j, j < L.length → Row isByte w base 5 (slV (L.getD j slc0)) (G j).length ((G j).map bv)
theorem RowsL.below {w w' : World} {base : Nat} {L : List Slc} {G : Nat → List UInt8} (h : RowsL w base L G) (hb : Below w.heap.size w w') : RowsL w' base L G := fun j hj => (h j hj).below hb
theorem RowsL.setAt {w : World} {base k g n cap : Nat} {L : List Slc} {G G' : Nat → List UInt8} (h : RowsL w base L G) (hap : ApartL L) (hk : k < L.length) (hx : L.getD k slc0 = (some ⟨g, 0, none⟩, n, cap)) (i : Nat) (u : UInt8)
    (hG : G' k = (G k).set i u) (hG2 : ∀ j, j ≠ k → G' j = G j) : RowsL (w.setCell ⟨g, i, none⟩ (bv u)) base L G' := by
  have hr := h k hk
  rw [hx] at hr
  have hn : n = (G k).length := by
    rcases hr.2 with ⟨h2, _⟩ | ⟨g', cap', cur, h2, _⟩
    · cases h2
    · simp only [slV] at h2; cases h2; rfl
  intro j hj
  by_cases e : j = k
  · subst e
    rw [hx, hG, List.length_set]
    subst hn
    exact Row.setAt hr i u
  · rw [hG2 j e]
    refine (h j hj).other fun q hq => Below.heap_setCell w ⟨g, i, none⟩ _ q (fun e2 => ?_)
    have hq2 : (slV (L.getD j slc0)).ownBlock = some g := by rw [hq, e2]
    have hg2 : (slV (L.getD k slc0)).ownBlock = some g := by rw [hx]; rfl
    rcases Nat.lt_or_gt_of_ne e with h | h
    · exact hap j k h hk g hq2 hg2
    · exact hap k j h hj g hg2 hq2
theorem RowsL.congr {w : World} {base : Nat} {L : List Slc} {G G' : Nat → List UInt8} (h : RowsL w base L G) (hG : ∀ j, j < L.length → G' j = G j) : RowsL w base L G' := fun j hj => by rw [hG j hj]; exact h j hj
/-- Blocks of cells that are no bytes are as they were. -/
def KeptNB (w w' : World) : Prop := ∀ (D : Nat) (C : Array Value) (T : TypeId) (fr : Nat × Nat), w.heap[D]? = some (.cells C T fr) → T ≠ 5 → w'.heap[D]? = some (.cells C T fr)
theorem KeptNB.refl (w : World) : KeptNB w w := fun _ _ _ _ h _ => h
theorem KeptNB.set {w w' : World} (h : KeptNB w w') {g i : Nat} {u : Value} {cur : Array Value} (hg : w'.heap[g]? = some (.cells cur 5 (0, 0))) : KeptNB w (w'.setCell ⟨g, i, none⟩ u) := fun D C T fr hD hT => by
  have h1 := h D C T fr hD hT
  exact (Below.heap_setCell w' ⟨g, i, none⟩ u D (fun e => by subst e; rw [hg] at h1; cases h1; exact hT rfl)).trans h1
theorem KeptNB.row {w w' : World} (h : KeptNB w w') {ok : Value → Prop} {base : Nat} {e : TypeId} {v : Value} {n : Nat} {xs : List Value} (hr : Row ok w base e v n xs) (he : e ≠ 5) : Row ok w' base e v n xs :=
  hr.other fun q hq => by
    rcases hr.2 with ⟨h2, _⟩ | ⟨g', cap', cur, h2, _, hh, _⟩
    · rw [h2] at hq; cases hq
    · rw [h2] at hq
      have : g' = q := by simpa [Value.ownBlock] using hq
      subst this
      exact (h g' cur e _ hh he).trans hh.symm
theorem zeroL_len (l : List UInt8) : (zeroL l).length = l.length := by simp [zeroL]
/-- What a list holds when i of its values have been read. -/
def zeroI (l : List UInt8) (i : Nat) : List UInt8 := zeroL (l.take i) ++ l.drop i
theorem zeroI_len (l : List UInt8) (i : Nat) : (zeroI l i).length = l.length := by simp [zeroI, zeroL]; omega
theorem zeroI_zero (l : List UInt8) : zeroI l 0 = l := by simp [zeroI, zeroL]
theorem zeroI_all (l : List UInt8) : zeroI l l.length = zeroL l := by simp [zeroI, zeroL]
theorem zeroI_at (l : List UInt8) (i : Nat) (h : i < l.length) : (zeroI l i).getD i 0 = l.getD i 0 := by
  have e : (zeroL (l.take i)).length = i := by simp [zeroL]; omega
  simp [zeroI, List.getD, List.getElem?_append_right (Nat.le_of_eq e), e, List.getElem?_drop]
theorem zeroI_step (l : List UInt8) (i : Nat) (h : i < l.length) : zeroI l (i + 1) = (zeroI l i).set i (zeroU (l.getD i 0)) := by
  have e : (zeroL (l.take i)).length = i := by simp [zeroL]; omega
  have hg : l.getD i 0 = l[i] := by simp [List.getD, List.getElem?_eq_getElem h]
  unfold zeroI
  rw [List.set_append_right _ _ (Nat.le_of_eq e), e, Nat.sub_self, List.drop_eq_getElem_cons h, List.set_cons_zero, List.take_add_one, List.getElem?_eq_getElem h, hg]
  simp only [zeroL, List.map_append, Option.toList_some, List.map_cons, List.map_nil, List.append_assoc, List.cons_append, List.nil_append]
theorem zeroI_keep (l : List UInt8) (i : Nat) (h : i < l.length) (h2 : zeroU (l.getD i 0) = l.getD i 0) : zeroI l (i + 1) = zeroI l i := by
  rw [zeroI_step l i h, h2, ← zeroI_at l i h]
  have hl : i < (zeroI l i).length := by rw [zeroI_len]; exact h
  simp [List.getD, List.getElem?_eq_getElem hl]

set_option maxRecDepth 100000 in
set_option maxHeartbeats 3200000 in
theorem read_any (t : TraceC) (s : TSlots) (w : World) (h : SeesTr w s t) (hs : s.small) :
    Calls Try.prog 30 #[traceV t.bad s] w fun e w' => ∃ s' : TSlots, e = .returned (traceV t.bad s') ∧ OwnTr w' w.heap.size s' (readT t) ∧ s'.small ∧ Below w.heap.size w w' := by
  have HCT := Lib.hid (fun W (hb : Below w.heap.size w W) => copytr2_any t s W (h.below hb) hs)
  have hn1 : t.init.length = s.n1 := h.s1.lenMap
  have hn2 := h.s2.n_eq
  have HSM := Lib.hid hs
  have HN := Lib.hid (And.intro hn1 (And.intro hn2 h.s2))
  clear h hn1 hn2
  obtain ⟨bad, hbad⟩ : ∃ bad, bad = t.bad := ⟨_, rfl⟩
  have HBAD := Lib.hid hbad
  unfold traceV at *
  rw [← hbad] at HCT ⊢
  clear hbad hs
  go_enter Try.func30, Try.ntmps30
  go_upto_region 1 with fail
  generalize hW : World.alloc (World.alloc w _) _ = W1
  have B1 : Below w.heap.size w W1 := by subst hW; exact ext_trans (ext_alloc _ _) (ext_alloc _ _)
  have hX : W1.heap[w.heap.size]? = some (.cells #[.int .i64 bad, .slice s.a1 s.n1 s.c1, .slice s.a2 s.n2 s.c2] 30 (0, 0)) := by subst hW; exact heap_below (heap_new _ _ _ rfl) (ext_alloc _ _)
  have hR : W1.heap[w.heap.size + 1]? = some (.cells #[.int .i64 0, .slice none 0 0, .slice none 0 0] 30 (0, 0)) := by subst hW; exact heap_new _ _ _ (by simp)
  have HB := Lib.hid B1
  have HX := Lib.hid hX
  have HR := Lib.hid hR
  clear hW B1 hX hR
  have p0 := cell_of_block HX.out 0
  have p1 := cell_of_block HX.out 1
  have p2 := cell_of_block HX.out 2
  go_wp2_with fail
  refine (HCT.out W1 HB.out).mono ?_
  rintro e W2 ⟨⟨a1, n1, c1, a2, n2, c2, ss⟩, rfl, ho, hap, hb⟩
  have HX2 := Lib.hid (heap_below HX.out hb)
  have HR2 := Lib.hid (heap_below HR.out hb)
  have HB2 := Lib.hid (ext_trans HB.out hb)
  have HLE := Lib.hid hb.size
  have HW1 := Lib.hid (And.intro HB.out.size (heap_lt HR.out))
  have HO := Lib.hid ho
  have HAP := Lib.hid hap
  have hq1 : n1 = t.init.length := (row_len ho.o1).symm
  have hq2 := ho.n2
  have hq3 := ho.len
  simp only at hq2 hq3
  have HQ := Lib.hid (And.intro hq1 (And.intro hq2 hq3))
  have hn2 : n2 ≤ 1048576 := by have := HN.out.2.1; have := HSM.out.n2; omega
  clear ho hap hb p0 p1 p2 HX HR HB HCT hq1 hq2 hq3
  go_upto_region 2 with fail
  generalize hW : World.alloc W2 _ = W3
  have B3 : Below W2.heap.size W2 W3 := by subst hW; exact ext_alloc _ _
  have hx3 : W3.heap[W2.heap.size]? = some (.cells #[.int .i64 bad, .slice a1 n1 c1, .slice a2 n2 c2] 30 (0, 0)) := by subst hW; exact heap_new _ _ _ rfl
  have HX3 := Lib.hid hx3
  have HB3 := Lib.hid B3
  clear hW B3 hx3
  have p1 := cell_of_block HX3.out 1
  have p2 := cell_of_block HX3.out 2
  have ne2 : ∀ o, (W3.alloc o).cell? ⟨W2.heap.size, 2, none⟩ = some (.slice a2 n2 c2) := fun o => cell_below p2 (ext_alloc _ o)
  go_wp2_with fail
  clear ne2
  generalize hW : World.alloc (World.alloc W3 _) _ = W4
  have B4 : Below W3.heap.size W3 W4 := by subst hW; exact ext_trans (ext_alloc _ _) (ext_alloc _ _)
  have hs4 : Sees W4 (some ⟨W3.heap.size, 0, none⟩) 1 1 ([(a1, n1, c1)].map slV) := by subst hW; exact (sees_one W3 (.slice a1 n1 c1) 27).below (ext_alloc _ _)
  have hD4 : W4.heap[W3.heap.size + 1]? = some (.cells #[.slice (some ⟨W3.heap.size, 0, none⟩) 1 1, .slice a2 n2 c2] 28 (0, 0)) := by subst hW; exact heap_new _ _ _ (by simp)
  have h2 : Sees W4 a2 n2 c2 (ss.map slV) := (HO.out.sees.s2.row.below HB3.out).below B4
  clear hW p1 p2
  refine (concat2_any [(a1, n1, c1)] ss (some ⟨W3.heap.size, 0, none⟩) a2 1 1 n2 c2 (W3.heap.size + 1) W4 hs4 h2 hD4 (by omega) hn2).mono ?_
  rintro e W5 ⟨v, rfl, hrow, hb5⟩
  obtain ⟨vr, cr, rfl⟩ := hrow.form
  have hb25 : Below W2.heap.size W2 W5 := ext_trans HB3.out (ext_trans B4 hb5)
  have HX5 := Lib.hid (heap_below HX3.out (ext_trans B4 hb5))
  have HR5 := Lib.hid (heap_below HR2.out hb25)
  have HB5 := Lib.hid (ext_trans HB2.out hb25)
  have HO5 := Lib.hid (HO.out.below hb25)
  have hls : ([(a1, n1, c1)] ++ ss) = (a1, n1, c1) :: ss := rfl
  rw [hls] at hrow
  obtain ⟨L, hL⟩ : ∃ L, L = (a1, n1, c1) :: ss := ⟨_, rfl⟩
  rw [← hL] at hrow HAP
  have hLl : L.length = 1 + n2 := by rw [hL, List.length_cons]; have := HQ.out.2.1; have := HQ.out.2.2; omega
  obtain ⟨G0, hG0⟩ : ∃ G0 : Nat → List UInt8, G0 = fun j => (t.init :: t.frames).getD j [] := ⟨_, rfl⟩
  have hrows : RowsL W5 W1.heap.size L G0 := by
    intro j hj
    rw [hL, hG0]
    cases j with
    | zero =>
      have h1 := HO5.out.o1
      exact h1
    | succ j =>
      have h1 := HO5.out.rows j (by rw [hL, List.length_cons] at hj; have := HQ.out.2.2; omega)
      exact h1
  have HROW := Lib.hid hrow
  have HROWS := Lib.hid hrows
  have HL := Lib.hid hL
  have HLL := Lib.hid hLl
  have HG0 := Lib.hid hG0
  have HLEN : Hid (∀ j, j < L.length → (L.getD j slc0).2.1 = (G0 j).length) := fun j hj =>
    (row_len (show Row isByte W5 W1.heap.size 5 (.slice (L.getD j slc0).1 (L.getD j slc0).2.1 (L.getD j slc0).2.2) _ _ from HROWS.out j hj)).symm
  clear hrow hrows hL hLl hG0 hb5 B4 hs4 hD4 h2 hb25 hls
  go_wp2_with fail
  go_loopw [18, 5, 6, 7] (fun i _ _ _ wr => ∃ k : Nat, k ≤ 1 + n2 ∧ i = .int .i64 k ∧ Hid (RowsL wr W1.heap.size L (fun j => if j < k then zeroL (G0 j) else G0 j)) ∧ Hid (KeptNB W5 wr) ∧ Hid (Below W1.heap.size W5 wr)) (fun i _ _ _ _ => (1 + n2) - (intOf i).toNat)
  case atStart => exact ⟨0, Nat.zero_le _, rfl, HROWS.out.congr (fun j _ => by simp), KeptNB.refl _, Below.refl _ _⟩
  case round =>
    obtain ⟨k, hk, rfl, hR, hK, hB⟩ := hrel
    by_cases hlt : k < 1 + n2
    · have hrw := hK.out.row HROW.out (by decide)
      obtain ⟨b, off, rfl, _⟩ := (row_sees_slice hrw).2.addr (by omega)
      have hcx := ((row_sees_slice hrw).2.cell k hlt).2
      rw [List.getElem?_map, List.getElem?_eq_getElem (show k < L.length by rw [HLL.out]; exact hlt)] at hcx
      have hgd : L[k]'(by rw [HLL.out]; exact hlt) = L.getD k slc0 := by simp [List.getD, List.getElem?_eq_getElem (show k < L.length by rw [HLL.out]; exact hlt)]
      rw [hgd] at hcx
      have hxl := HLEN.out k (by rw [HLL.out]; exact hlt)
      have hsmall : (G0 k).length ≤ 1048576 := by
        rw [HG0.out]
        cases k with
        | zero => have := HN.out.1; have := HSM.out.n1; simp only [List.getD_cons_zero]; omega
        | succ k =>
          simp only [List.getD_cons_succ]
          have h1 : k < t.frames.length := by have := HN.out.2.1; have := HQ.out.2.1; omega
          have h2 := (HN.out.2.2.each k h1).lenMap
          have h3 := HSM.out.each (s.ss.getD k slc0) (getD_mem (by rw [HN.out.2.2.len]; exact h1))
          omega
      obtain ⟨x, hx⟩ : ∃ x : Slc, x = L.getD k slc0 := ⟨_, rfl⟩
      rw [← hx] at hcx hxl
      obtain ⟨xa, xn, xc⟩ := x
      simp only [Option.map_some, slV] at hcx
      simp only at hxl
      have HXL := Lib.hid hxl
      have HXX := Lib.hid hx
      have W1' : IntKind.i64.wrap ((k : Int) + 1) = (k : Int) + 1 := IntWalk.i64_in _ (by omega)
      have hxs : xn ≤ 1048576 := by omega
      have hR0 : Hid (RowsL wr W1.heap.size L (fun j => if j < k then zeroL (G0 j) else if j = k then zeroI (G0 j) 0 else G0 j)) := hR.out.congr (fun j _ => by
        by_cases e : j < k
        · simp only [if_pos e]
        · by_cases e2 : j = k
          · simp only [if_neg e, if_pos e2, zeroI_zero]
          · simp only [if_neg e, if_neg e2])
      have HLT := Lib.hid hlt
      have e9 : decide ((k : Int) < 1 + (n2 : Int)) = true := by simp; omega
      have hI : (k : Int) < 1 + (n2 : Int) := by omega
      have hI2 : k < 1 + n2 := hlt
      clear hrw hgd hxl hx hsmall hR hlt
      go_wp2_with fail
      clear hcx e9 hI hI2
      go_loopw [24, 6, 7] (fun i _ _ wr2 => ∃ m : Nat, m ≤ xn ∧ i = .int .i64 m ∧ Hid (RowsL wr2 W1.heap.size L (fun j => if j < k then zeroL (G0 j) else if j = k then zeroI (G0 j) m else G0 j)) ∧ Hid (KeptNB W5 wr2) ∧ Hid (Below W1.heap.size W5 wr2)) (fun i _ _ _ => xn - (intOf i).toNat)
      case atStart => exact ⟨0, Nat.zero_le _, rfl, hR0.out, hK.out, hB.out⟩
      case round =>
        clear hR0 hK hB
        obtain ⟨m, hm, rfl, hR, hK, hB⟩ := hrel
        by_cases hlt : m < xn
        · have hkl : k < L.length := by rw [HLL.out]; exact HLT.out
          have hrk := hR.out k hkl
          simp only [if_neg (Nat.lt_irrefl k), if_true] at hrk
          rw [← HXX.out] at hrk
          rw [zeroI_len, ← HXL.out] at hrk
          unfold slV at hrk
          simp only at hrk
          obtain ⟨g, rfl⟩ : ∃ g, xa = some ⟨g, 0, none⟩ := by
            rcases hrk.2 with ⟨_, h2⟩ | ⟨g, cap, cur, h2, _⟩
            · omega
            · cases h2; exact ⟨g, rfl⟩
          obtain ⟨_, cur, hcur⟩ := row_here hrk
          have hby := (row_sees_slice hrk).2.byte m hlt
          rw [zeroI_at _ _ (by rw [← HXL.out]; exact hlt), Nat.zero_add] at hby
          have f1 := unfrozen_of_block hcur m
          have hset := fun (u : UInt8) (G' : Nat → List UInt8) => RowsL.setAt (G' := G') hR.out HAP.out hkl HXX.out.symm m u
          have hge : W1.heap.size ≤ g := by
            rcases hrk.2 with ⟨_, h2⟩ | ⟨g', cap, cur, h2, h3, _⟩
            · omega
            · cases h2; exact h3
          obtain ⟨u, hu⟩ : ∃ u, u = (G0 k).getD m 0 := ⟨_, rfl⟩
          obtain ⟨un, hun⟩ : ∃ un, un = u.toNat := ⟨_, rfl⟩
          rw [← hu, ← hun] at hby
          have HU := Lib.hid hu
          have HUN := Lib.hid hun
          have HSET := Lib.hid hset
          have HCUR := Lib.hid hcur
          have HGE := Lib.hid hge
          have hlg : m < (G0 k).length := by rw [← HXL.out]; exact hlt
          have HLG := Lib.hid hlg
          have W2' : IntKind.i64.wrap ((m : Int) + 1) = (m : Int) + 1 := IntWalk.i64_in _ (by omega)
          clear hrk hcur hset hu hun hge hlg hkl
          by_cases h2 : un = 2
          · have e2 : ((un : Int) == 2) = true := by simp; omega
            have HZ : Hid (zeroU ((G0 k).getD m 0) = 0) := by show _ = _; unfold zeroU; rw [← HU.out, ← HUN.out, if_pos h2]
            clear h2
            go_wp2
            go_roundw
            case rel =>
              refine ⟨m + 1, by omega, by go_num, ?_, hK.out.set HCUR.out, hB.out.setCell (p := ⟨g, m, none⟩) HGE.out _⟩
              refine HSET.out 0 _ ?_ (fun j hj => ?_)
              · simp only [if_neg (Nat.lt_irrefl k), if_true]
                rw [zeroI_step _ _ HLG.out, HZ.out]
              · by_cases e : j < k
                · simp only [if_pos e]
                · simp only [if_neg e, if_neg hj]
            case measure => simp [intOf]; omega
          · have e2 : ((un : Int) == 2) = false := by simp; omega
            have HZ : Hid (zeroU ((G0 k).getD m 0) = (G0 k).getD m 0) := by show _ = _; unfold zeroU; rw [← HU.out, ← HUN.out, if_neg h2]
            clear h2
            go_wp2
            go_roundw
            case rel =>
              refine ⟨m + 1, by omega, by go_num, hR.out.congr (fun j _ => ?_), hK.out, hB.out⟩
              by_cases e : j < k
              · simp only [if_pos e]
              · by_cases e2 : j = k
                · subst e2; simp only [if_neg e, if_true]; rw [zeroI_keep _ _ HLG.out HZ.out]
                · simp only [if_neg e, if_neg e2]
            case measure => simp [intOf]; omega
        · obtain rfl : xn = m := by omega
          go_wp2
          go_roundw
          case rel =>
            refine ⟨k + 1, by have := HLT.out; omega, by go_num, hR.out.congr (fun j _ => ?_), hK.out, hB.out⟩
            by_cases e : j < k
            · simp only [if_pos e, if_pos (show j < k + 1 by omega)]
            · by_cases e2 : j = k
              · subst e2; simp only [if_neg e, if_true, if_pos (Nat.lt_succ_self j)]; rw [HXL.out, zeroI_all]
              · simp only [if_neg e, if_neg e2, if_neg (show ¬ j < k + 1 by omega)]
          case measure => have := HLT.out; simp [intOf]; omega
    · obtain rfl : k = 1 + n2 := by omega
      have e9 : decide (((1 + n2 : Nat) : Int) < 1 + (n2 : Int)) = false := by simp
      have hx5 := hK.out _ _ _ _ HX5.out (by decide)
      have hr5 := hK.out _ _ _ _ HR5.out (by decide)
      have p0 : wr.cell? ⟨W2.heap.size, 0, none⟩ = some (.int .i64 bad) := cell_of_block hx5 0
      have p1 : wr.cell? ⟨W2.heap.size, 1, none⟩ = some (.slice a1 n1 c1) := cell_of_block hx5 1
      have p2 : wr.cell? ⟨W2.heap.size, 2, none⟩ = some (.slice a2 n2 c2) := cell_of_block hx5 2
      have z0 := cell_of_block hr5 0
      have z1 := cell_of_block hr5 1
      have z2 := cell_of_block hr5 2
      have y0 := unfrozen_of_block hr5 0
      have y1 := unfrozen_of_block hr5 1
      have y2 := unfrozen_of_block hr5 2
      have HR6 := Lib.hid hr5
      clear hx5 hr5 hlt hk
      go_wp2
      refine bodyPost_ret (v := traceV bad ⟨a1, n1, c1, a2, n2, c2, ss⟩) ?_ rfl ?_
      · have h6 := tri_set_t HR6.out rfl (.int .i64 bad) (.slice a1 n1 c1) (.slice a2 n2 c2)
        have g0 := cell_of_block h6 0
        have g1 := cell_of_block h6 1
        have g2 := cell_of_block h6 2
        simp [results, Try.results30, go_sem, g0, g1, g2]
        rfl
      · have hrr := HR6.out
        have hroot : ∀ D, D < W1.heap.size → wr.heap[D]? = W5.heap[D]? := hB.out.block
        have hG : RowsL wr W1.heap.size L (fun j => zeroL (G0 j)) := hR.out.congr (fun j hj => by rw [if_pos (by rw [← HLL.out]; exact hj)])
        have hle1 := HW1.out
        have hbw : Below w.heap.size w wr := HB5.out.trans (hB.out.mono (by omega))
        refine ⟨⟨a1, n1, c1, a2, n2, c2, ss⟩, rfl, ?_, ?_, set3_t (w.heap.size + 1) (Nat.le_succ _) hbw⟩
        · refine OwnTr.set3 (base := W1.heap.size) (G := w.heap.size + 1) (B := w.heap.size) (s := ⟨a1, n1, c1, a2, n2, c2, ss⟩) (t := readT t) ?_ (by omega) (by omega)
          obtain ⟨F, h1, h2, h3⟩ := HO5.out.blk
          refine ⟨?_, ⟨F, h1, h2, hK.out _ _ _ _ h3 (by decide)⟩, ?_, ?_, ?_, fun j hj => ?_⟩
          · have h4 := hG 0 (by rw [HLL.out]; omega)
            rw [HL.out, HG0.out] at h4
            exact h4
          · simp only [readT, List.length_map]; exact HO5.out.n2
          · simp only [readT, List.length_map]; exact HO5.out.c2
          · simp only [readT, List.length_map]; exact HO5.out.len
          · simp only [readT, List.length_map] at hj
            have h4 := hG (j + 1) (by rw [HLL.out]; have := HQ.out.2.1; omega)
            rw [HL.out, HG0.out] at h4
            simp only [List.getD_cons_succ] at h4
            have h5 : (readT t).frames.getD j [] = zeroL (t.frames.getD j []) := by simp [readT, List.getD, List.getElem?_eq_getElem hj]
            rw [h5]
            exact h4
        · refine ⟨?_, hn2, fun x hx => ?_⟩
          · have := HQ.out.1; have := HN.out.1; have := HSM.out.n1; simp only; omega
          · obtain ⟨j, hj, he⟩ := List.getElem_of_mem hx
            have h1 := HLEN.out (j + 1) (by rw [HLL.out]; have := HQ.out.2.1; have := HQ.out.2.2; simp only at hj; omega)
            rw [HL.out, HG0.out] at h1
            simp only [List.getD_cons_succ] at h1
            have h2 : ss.getD j slc0 = x := by simp only at hj he; simp [List.getD, List.getElem?_eq_getElem hj, he]
            rw [h2] at h1
            have hj2 : j < t.frames.length := by have := HQ.out.2.2; simp only at hj; omega
            have h3 := (HN.out.2.2.each j hj2).lenMap
            have h4 := HSM.out.each (s.ss.getD j slc0) (getD_mem (by rw [HN.out.2.2.len]; exact hj2))
            omega
end Go.Proofs.Ytgpkghlhlabjcaa
