/- A region of the law SimMany: x.Frames = append(x.Frames, make([]uint8, max(c.Inputs, 0))). -/
import Derived.Test.YtjmdgbdlhaaefaaLib
import Derived.Test.YtjmdgbdlhaaefaaOwn
import Derived.Test.YtjmdgbdlhaaefaaOwnStr
import Derived.Test.YtjmdgbdlhaaefaaNBase
import Derived.Test.YtjmdgbdlhaaefaaRawPred
import Derived.Test.YtjmdgbdlhaaefaaNOwnsN
import Derived.Test.YtjmdgbdlhaaefaaNStep
import Derived.Test.YtjmdgbdlhaaefaaNVal
import Derived.Test.YtjmdgbdlhaaefaaNTrace
import Derived.Test.YtjmdgbdlhaaefaaNOwns
import Derived.Test.YtjmdgbdlhaaefaaNHeap
import Derived.Test.YtjmdgbdlhaaefaaNHeap2
import Derived.Test.YtjmdgbdlhaaefaaNPeel
import Derived.Test.YtjmdgbdlhaaefaaNCopyTr
import Derived.Test.YtjmdgbdlhaaefaaTBits
import Derived.Test.YtjmdgbdlhaaefaaSMaA
import Derived.Test.YtjmdgbdlhaaefaaRows
import Derived.Test.YtjmdgbdlhaaefaaShelf
import Derived.BigQuiet
import Derived.Deep.AppendLies
import Derived.Deep.CutRange
import Derived.Deep.QuietTactic
import Derived.Deep.RegionHeld3
import Derived.Deep.RegionLaw
import Derived.Deep.RegionWith
import Derived.KernelRfl
import Derived.Laws.Bits64b
import Derived.Laws.BitsAllLaws
import Derived.Laws.BitsLemmas
import Derived.Laws.EntriesVeiled
import Derived.Laws.Tables
import Derived.Lib.AppendStr
import Derived.Lib.AppendZeros
import Derived.Lib.ConvBytes
import Derived.Lib.Hide
import Derived.Lib.SlBytesRow
import Derived.Lib.SmallJoins
import Derived.LoopIn
import Derived.LoopNIn
import Derived.Maps.AppendAt
import Derived.OrdersHeld
import Derived.OrdersIn
import Derived.OwnWalkIn
import Derived.RangeFuncBox
import Derived.RangeFuncCalls
import Derived.RangeFuncLeaves
import Derived.RangeFuncNested
import Derived.RangeFuncWrites
import Derived.Shelf.Abstract
import Derived.Shelf.Bytes.SlSmallAll
import Derived.Shelf.RegionOpen
import Derived.Sort.CutIn
import Derived.Stop.RegionWithIn
import Derived.TacticsInMore
import Derived.WalkKit
import Derived.WalkLawsBesides
import Derived.WalkSpells
import Derived.Test.YtjmdgbdlhaaefaaNSpec
import Derived.Test.YtjmdgbdlhaaefaaNCirc
import Derived.Test.YtjmdgbdlhaaefaaSRun
import Derived.Test.YtjmdgbdlhaaefaaSSurely
import Derived.Test.YtjmdgbdlhaaefaaNClone2
/- The law's like, by its contract: some trace of the same shape, in memory of its own. -/
namespace Go.Proofs.Ytjmdgbdlhaaefaa
open Go Go.RowKit Go.Joins

/-- Rows of bytes, whatever they hold. -/
def AR (W : World) (base : Nat) (L : List Slc) : Prop := ∀ j, j < L.length → ∃ ys, Row isByte W base 5 (slV (L.getD j slc0)) (L.getD j slc0).2.1 ys
theorem AR.below {W W' : World} {base : Nat} {L : List Slc} (h : AR W base L) (hb : Below W.heap.size W W') : AR W' base L := fun j hj => by
  obtain ⟨ys, hr⟩ := h j hj
  exact ⟨ys, hr.below hb⟩
theorem row_written {ok : Value → Prop} {w : World} {base : Nat} {e : TypeId} {v : Value} {n : Nat} {xs : List Value} (h : Row ok w base e v n xs) (g k : Nat) {u : Value} (hu : ok u) : ∃ ys, Row ok (w.setCell ⟨g, k, none⟩ u) base e v n ys := by
  by_cases hg : v.ownBlock = some g
  · rcases h.2 with ⟨rfl, _⟩ | ⟨g', cap, cur, rfl, hb, hh, hn, hc, hs, ht, ho⟩
    · cases hg
    · have : g' = g := by simpa [Value.ownBlock] using hg
      subst this
      refine ⟨(cur.setIfInBounds k u).toList.take n, by simp; omega, .inr ⟨g', cap, cur.setIfInBounds k u, rfl, hb, block_setCell hh (i := k) u, hn, hc, by simp [hs], rfl, fun x hx => ?_⟩⟩
      rw [Array.toList_setIfInBounds] at hx
      rcases List.mem_or_eq_of_mem_set hx with h | rfl
      · exact ho x h
      · exact hu
  · exact ⟨xs, h.other fun q hq => Below.heap_setCell w ⟨g, k, none⟩ u q (fun e => hg (by rw [hq, e]))⟩
theorem AR.write {W : World} {base : Nat} {L : List Slc} (h : AR W base L) (g k : Nat) {u : Value} (hu : isByte u) : AR (W.setCell ⟨g, k, none⟩ u) base L := fun j hj => by
  obtain ⟨ys, hr⟩ := h j hj
  exact row_written hr g k hu
theorem AR.at {W : World} {base : Nat} {L : List Slc} (h : AR W base L) {j m : Nat} {a : Option Addr} {n c : Nat} (hj : j < L.length) (hx : L.getD j slc0 = (a, n, c)) (hm : m < n) :
    ∃ g cur x, a = some ⟨g, 0, none⟩ ∧ base ≤ g ∧ W.heap[g]? = some (.cells cur 5 (0, 0)) ∧ x < 256 ∧ W.cell? ⟨g, m, none⟩ = some (.int .u8 ((x : Nat) : Int)) := by
  obtain ⟨ys, hr⟩ := h j hj
  rw [hx] at hr
  simp only [slV] at hr
  rcases hr.2 with ⟨_, h2⟩ | ⟨g, cap, cur, h2, h3, h4, h5, _, h6, _, h7⟩
  · omega
  · cases h2
    have hlt : m < cur.size := by omega
    obtain ⟨u, he⟩ := h7 cur[m] (by simp)
    exact ⟨g, cur, u.toNat, rfl, h3, h4, u.toNat_lt, by rw [cell_of_block h4, Array.getElem?_eq_getElem hlt, he]; rfl⟩
theorem isByte_nat7 {y : Nat} (h : y < 256) : isByte (.int .u8 (y : Int)) := ⟨UInt8.ofNat y, by unfold bv; congr 1; rw [UInt8.toNat_ofNat']; omega⟩
theorem bytes_of : ∀ (ys : List Value), (∀ u ∈ ys, isByte u) → ∃ bs : List UInt8, ys = bs.map bv
  | [], _ => ⟨[], rfl⟩
  | y :: r, h => by
    obtain ⟨u, hu⟩ := h y (by simp)
    obtain ⟨bs, hb⟩ := bytes_of r (fun x hx => h x (by simp [hx]))
    exact ⟨u :: bs, by rw [hu, hb]; rfl⟩
theorem row_bytes {w : World} {base : Nat} {v : Value} {n : Nat} {ys : List Value} (h : Row isByte w base 5 v n ys) : ∃ bs : List UInt8, bs.length = n ∧ ys = bs.map bv := by
  have hy : ∀ u ∈ ys, isByte u := by
    rcases h.2 with ⟨_, h2⟩ | ⟨g, cap, cur, _, _, _, _, _, _, h6, h7⟩
    · intro u hu
      have h1 := h.1
      have : ys = [] := List.eq_nil_of_length_eq_zero (by omega)
      rw [this] at hu; cases hu
    · intro u hu
      rw [← h6] at hu
      exact h7 u (List.mem_of_mem_take hu)
  obtain ⟨bs, hb⟩ := bytes_of ys hy
  exact ⟨bs, by have := h.1; rw [hb] at this; simpa using this, hb⟩
/-- A trace's slots own what they read. -/
structure OwnT4 (w : World) (base : Nat) (s : TSlots) (t : TraceC) : Prop where
  o1 : Row isByte w base 5 (.slice s.a1 s.n1 s.c1) t.init.length (t.init.map bv)
  o2 : w.ownsRow base 27 1 (.slice s.a2 s.n2 s.c2) t.frames.length (s.ss.map slV)
  len : s.ss.length = t.frames.length
  rows : ∀ j, j < t.frames.length → Row isByte w base 5 (slV (s.ss.getD j slc0)) (t.frames.getD j []).length ((t.frames.getD j []).map bv)
theorem OwnT4.below {w w' : World} {base : Nat} {s : TSlots} {t : TraceC} (h : OwnT4 w base s t) (hb : Below w.heap.size w w') : OwnT4 w' base s t :=
  ⟨h.o1.below hb, ownsN_below h.o2 hb, h.len, fun j hj => (h.rows j hj).below hb⟩
theorem OwnT4.sees {w : World} {base : Nat} {s : TSlots} {t : TraceC} (h : OwnT4 w base s t) : SeesTr w s t :=
  ⟨(row_sees_slice h.o1).2, ⟨(owns_sees_slice h.o2).2, h.len, fun k hk => (row_sees_slice (h.rows k hk)).2⟩⟩
/-- What AR and the list of frames make. -/
theorem own_of_AR {W : World} {base : Nat} {a1 : Option Addr} {n1 c1 : Nat} {a2 : Option Addr} {n2 c2 : Nat} {ss : List Slc} (bad : Int) (h : AR W base ((a1, n1, c1) :: ss)) (ho : W.ownsRow base 27 1 (.slice a2 n2 c2) n2 (ss.map slV)) (hl : ss.length = n2) :
    ∃ u : TraceC, OwnT4 W base ⟨a1, n1, c1, a2, n2, c2, ss⟩ u ∧ u.bad = bad ∧ u.frames.length = n2 := by
  obtain ⟨y0, hr0⟩ := h 0 (by simp)
  simp only [List.getD_cons_zero, slV] at hr0
  obtain ⟨b0, hb0, e0⟩ := row_bytes hr0
  have hex : ∀ j, ∃ bs : List UInt8, j < n2 → bs.length = (ss.getD j slc0).2.1 ∧ Row isByte W base 5 (slV (ss.getD j slc0)) bs.length (bs.map bv) := fun j => by
    by_cases hj : j < n2
    · obtain ⟨ys, hr⟩ := h (j + 1) (by simp; omega)
      simp only [List.getD_cons_succ] at hr
      obtain ⟨bs, hb, e⟩ := row_bytes hr
      exact ⟨bs, fun _ => ⟨hb, by rw [hb, ← e]; exact hr⟩⟩
    · exact ⟨[], fun h => absurd h hj⟩
  obtain ⟨G, hG⟩ := Classical.axiomOfChoice hex
  refine ⟨⟨bad, b0, (List.range n2).map G⟩, ⟨by rw [hb0, ← e0]; exact hr0, by simpa using ho, by simpa using hl, fun j hj => ?_⟩, rfl, by simp⟩
  have hj2 : j < n2 := by simpa using hj
  have e : ((List.range n2).map G).getD j [] = G j := by simp [List.getD, hj2]
  simp only [e]
  exact (hG j hj2).2
theorem OwnT4.set3 {w : World} {base G : Nat} {s : TSlots} {t : TraceC} {C : Array Value} {fr : Nat × Nat} {u0 u1 u2 : Value} (h : OwnT4 w base s t) (hG : w.heap[G]? = some (.cells C 30 fr)) : OwnT4 (((w.setCell ⟨G, 0, .none⟩ u0).setCell ⟨G, 1, .none⟩ u1).setCell ⟨G, 2, .none⟩ u2) base s t := by
  have row : ∀ {v : Value} {n : Nat} {xs : List Value}, Row isByte w base 5 v n xs → Row isByte (((w.setCell ⟨G, 0, .none⟩ u0).setCell ⟨G, 1, .none⟩ u1).setCell ⟨G, 2, .none⟩ u2) base 5 v n xs := fun hr =>
    hr.other fun q hq => set3_other G q (fun e => (hr.not_own hG (by decide)) (by rw [hq, e])) _ _ _
  exact ⟨row h.o1, ownsN_other h.o2 fun q hq => set3_other G q (fun e => (ownsN_notown h.o2 hG (by decide)) (by rw [hq, e])) _ _ _, h.len, fun j hj => row (h.rows j hj)⟩
theorem OwnT4.base {w : World} {base base' : Nat} {s : TSlots} {t : TraceC} (h : OwnT4 w base s t) (hb : base' ≤ base) : OwnT4 w base' s t :=
  ⟨h.o1.base_le hb, ownsN_base h.o2 hb, h.len, fun j hj => (h.rows j hj).base_le hb⟩
theorem Sees.slice_at7 {w : World} {b off n c : Nat} {ss : List Slc} (h : Sees w (some ⟨b, off, .none⟩) n c (ss.map slV)) (j : Nat) (hj : j < n) :
    w.cell? ⟨b, off + j, .none⟩ = some (slV (ss.getD j slc0)) := by
  have hl : ss.length = n := h.lenMap
  rw [(h.cell j hj).2]
  simp [List.getD, List.getElem?_eq_getElem (show j < ss.length by omega)]
theorem keep2l {w w' : World} {a0 a1 : Addr} {v0 v1 : Value} (h : w.cell? a0 = some v0 ∧ w.cell? a1 = some v1) (hb : Below w.heap.size w w') : w'.cell? a0 = some v0 ∧ w'.cell? a1 = some v1 :=
  ⟨(hb.cell (World.block_lt_of_cell? _ _ h.1)).trans h.1, (hb.cell (World.block_lt_of_cell? _ _ h.2)).trans h.2⟩

set_option maxRecDepth 100000 in
set_option maxHeartbeats 6400000 in
theorem like_any (bits : List UInt8) (t : TraceC) (s : TSlots) (ba : Option Addr) (bn bc : Nat) (w : World) (h : SeesTr w s t) (hs : s.small) (hbits : Sees w ba bn bc (bits.map bv)) (hbn : bn ≤ 1048576) :
    Calls Try.prog 25 #[traceV t.bad s, .slice ba bn bc] w fun e w' => ∃ (u : TraceC) (s' : TSlots), e = .returned (traceV u.bad s') ∧ OwnT4 w' w.heap.size s' u ∧ u.bad = t.bad ∧ u.frames.length = t.frames.length ∧ s'.small ∧ Below w.heap.size w w' := by
  have HRC := Lib.hid (fun W (hb : Below w.heap.size w W) => refcopy_any t s W (h.below hb) hs)
  have HBITS := Lib.hid hbits
  have hbn' := hbn
  clear h hbits hbn
  obtain ⟨bad, hbad⟩ : ∃ bad, bad = t.bad := ⟨_, rfl⟩
  have HBAD := Lib.hid hbad
  unfold traceV at *
  rw [← hbad] at HRC ⊢
  clear hbad
  go_enter Try.func25, Try.ntmps25
  go_upto_region 1 with fail
  generalize hW : World.alloc (World.alloc w _) _ = W1
  have B1 : Below w.heap.size w W1 := by subst hW; exact ext_trans (ext_alloc _ _) (ext_alloc _ _)
  have hX : W1.heap[w.heap.size]? = some (.cells #[.int .i64 bad, .slice s.a1 s.n1 s.c1, .slice s.a2 s.n2 s.c2] 30 (0, 0)) := by subst hW; exact heap_below (heap_new _ _ _ rfl) (ext_alloc _ _)
  have hR : W1.heap[w.heap.size + 1]? = some (.cells #[.int .i64 0, .slice none 0 0, .slice none 0 0] 30 (0, 0)) := by subst hW; exact heap_new _ _ _ (by simp)
  have HB := Lib.hid B1
  have HX := Lib.hid hX
  have HR := Lib.hid hR
  clear hW B1 hX hR
  have p0 := cell_of_block HX.out 0
  have p1 := cell_of_block HX.out 1
  have p2 := cell_of_block HX.out 2
  go_wp2_with fail
  refine (HRC.out W1 HB.out).mono ?_
  rintro e W2 ⟨⟨a1, n1, c1, a2, n2, c2, ss⟩, rfl, ho, hsm, hb⟩
  have hX2 := heap_below HX.out hb
  have hR2 := heap_below HR.out hb
  have q0 := cell_of_block hX2 0
  have q1 := cell_of_block hX2 1
  have q2 := cell_of_block hX2 2
  have f0 := unfrozen_of_block hX2 0
  have f1 := unfrozen_of_block hX2 1
  have f2 := unfrozen_of_block hX2 2
  have HX2 := Lib.hid hX2
  have HR2 := Lib.hid hR2
  have HB2 := Lib.hid (ext_trans HB.out hb)
  have HO := Lib.hid ho
  have HSM := Lib.hid hsm
  have HW1 := Lib.hid (And.intro HB.out.size (heap_lt HR.out))
  have hw12 := hb.size
  clear ho hsm hb p0 p1 p2 HX HR HB HRC hX2 hR2
  go_upto_region 2 with fail
  have h6 := tri_set_t HX2.out rfl (.int .i64 bad) (.slice a1 n1 c1) (.slice a2 n2 c2)
  have hO3 := OwnT3.set3 (u0 := .int .i64 bad) (u1 := .slice a1 n1 c1) (u2 := .slice a2 n2 c2) HO.out HX2.out
  have hR3 := (set3_other (X := W2) w.heap.size (w.heap.size + 1) (by omega) (.int .i64 bad) (.slice a1 n1 c1) (.slice a2 n2 c2)).trans HR2.out
  have hB3 := set3_t (B := w.heap.size) (u0 := .int .i64 bad) (u1 := .slice a1 n1 c1) (u2 := .slice a2 n2 c2) w.heap.size (Nat.le_refl _) HB2.out
  have hs3 := (set3_t (B := 0) (u0 := .int .i64 bad) (u1 := .slice a1 n1 c1) (u2 := .slice a2 n2 c2) w.heap.size (Nat.zero_le _) (Below.refl 0 W2)).size
  generalize hW : World.setCell (World.setCell (World.setCell W2 _ _) _ _) _ _ = W3
  rw [hW] at h6 hO3 hR3 hB3 hs3
  have HW13 : Hid (W1.heap.size ≤ W3.heap.size) := Nat.le_trans hw12 hs3
  clear hw12 hs3
  have hq1 : n1 = t.init.length := (row_len hO3.o1).symm
  have hq2 : n2 = t.frames.length := (owns_sees_slice hO3.o2).1
  have hq3 : ss.length = n2 := by rw [hq2]; exact hO3.len
  have hn1 : n1 ≤ 1048576 := HSM.out.n1
  have hn2 : n2 ≤ 1048576 := HSM.out.n2
  have hrow : W3.ownsRow W1.heap.size 27 1 (.slice a2 n2 c2) n2 (ss.map slV) := by have h1 := hO3.o2; rw [← hq2] at h1; exact h1
  have har : AR W3 W1.heap.size ((a1, n1, c1) :: ss) := fun j hj => by
    cases j with
    | zero =>
      simp only [List.getD_cons_zero]
      exact ⟨_, by rw [hq1]; have h1 := hO3.o1; simp only at h1; rw [← hq1] at h1 ⊢; exact h1⟩
    | succ j =>
      simp only [List.getD_cons_succ]
      have hj2 : j < t.frames.length := by simp at hj; omega
      have h1 := hO3.rows j hj2
      have h2 : (ss.getD j slc0).2.1 = (t.frames.getD j []).length := (row_len (show Row isByte W3 W1.heap.size 5 (.slice (ss.getD j slc0).1 (ss.getD j slc0).2.1 (ss.getD j slc0).2.2) _ _ from h1)).symm
      exact ⟨_, by rw [h2]; exact h1⟩
  have HROW := Lib.hid hrow
  have HQ := Lib.hid (And.intro hq2 hq3)
  have HAR := Lib.hid har
  have HX3 := Lib.hid h6
  have HR3 := Lib.hid hR3
  have HB3 := Lib.hid hB3
  obtain ⟨L, hL⟩ : ∃ L, L = (a1, n1, c1) :: ss := ⟨_, rfl⟩
  have HL := Lib.hid hL
  rw [← hL] at HAR
  clear hW h6 hO3 hR3 hB3 hq1 hq2 hq3 hrow har hL HX2 HR2 HB2 HO q0 q1 q2 f0 f1 f2
  have p1 := cell_of_block HX3.out 1
  go_wp2_with fail
  clear p1
  go_loopw [14, 6, 5] (fun i _ v wr => ∃ m : Nat, m ≤ n1 ∧ i = .int .i64 m ∧ v = .int .i64 m ∧ Hid (AR wr W1.heap.size L) ∧ Hid (KeptNB W3 wr) ∧ Hid (Below W1.heap.size W3 wr)) (fun i _ _ _ => n1 - (intOf i).toNat)
  case atStart => exact ⟨0, Nat.zero_le _, rfl, rfl, HAR.out, KeptNB.refl _, Below.refl _ _⟩
  case round =>
    obtain ⟨m, hm, rfl, rfl, hR, hK, hB⟩ := hrel
    have hx4 := hK.out _ _ _ _ HX3.out (by decide)
    have p1 : wr.cell? ⟨w.heap.size, 1, none⟩ = some (.slice a1 n1 c1) := cell_of_block hx4 1
    by_cases hlt : m < n1
    · obtain ⟨g, cur, x, ha1, hge, hcur, hx256, hby⟩ := hR.out.at (j := 0) (m := m) (by rw [HL.out]; simp) (by rw [HL.out]; rfl) hlt
      rw [ha1] at p1
      have HA1 := Lib.hid ha1
      have HGE := Lib.hid hge
      have HCUR := Lib.hid hcur
      have hI1 : ((m : Nat) : Int) < (n1 : Int) := by omega
      have hI0 : (0 : Int) ≤ (m : Int) := by omega
      have W1' : IntKind.i64.wrap ((m : Int) + 1) = (m : Int) + 1 := IntWalk.i64_in _ (by omega)
      clear ha1 hge hcur hx256 hx4
      by_cases hb : m < bn
      · have hb34 : Below w.heap.size w wr := HB3.out.trans (hB.out.mono HW1.out.1)
        have hsb := HBITS.out.below hb34
        obtain ⟨qb, qo, hqa, _⟩ := hsb.addr (show 0 < bn by omega)
        rw [hqa] at hsb
        have hcy := hsb.byte m hb
        obtain ⟨y, hy⟩ : ∃ y : Nat, y = (bits.getD m 0).toNat := ⟨_, rfl⟩
        have hy256 : y < 256 := by rw [hy]; exact (bits.getD m 0).toNat_lt
        rw [← hy] at hcy
        have R1 : Int.tmod (y : Int) 4 = ((y % 4 : Nat) : Int) := by rw [Int.tmod_eq_emod_of_nonneg (by omega)]; omega
        have hr4 : y % 4 < 4 := by omega
        obtain ⟨r, hr⟩ : ∃ r, r = y % 4 := ⟨_, rfl⟩
        rw [← hr] at R1 hr4
        have U1 : IntKind.u8.wrap (r : Int) = (r : Int) := by rw [IntKind.wrap_u8]; omega
        have eb : decide ((m : Int) < (bn : Int)) = true := by simp; omega
        have hIb : (m : Int) < (bn : Int) := by omega
        have HQA := Lib.hid hqa
        rw [hqa]
        clear hb hb34 hsb hqa hy hr hy256
        by_cases hxr : x = r
        · have e2 : ((x : Int) == (r : Int)) = true := by simp; omega
          have e2' : ((x : Int) != (r : Int)) = false := by simp; omega
          clear hxr
          go_wp2
          go_quiet (fail)
          rename_i nq
          clear p1 hby hcy
          go_wp2
          go_roundw
          case rel => exact ⟨m + 1, by omega, by go_num, by go_num, hR.out.below (ext_drewN _ _), fun D C T fr hD hT => hK.out D C T fr hD hT, hB.out.trans ((ext_drewN wr nq).mono (Nat.le_trans HW13.out hB.out.size))⟩
          case measure => simp [intOf]; omega
        · have e2 : ((x : Int) == (r : Int)) = false := by simp; omega
          have e2' : ((x : Int) != (r : Int)) = true := by simp; omega
          clear hxr
          by_cases hr2 : r ≤ 2
          · have e3 : decide ((r : Int) ≤ 2) = true := by simp; omega
            clear hr2
            go_wp2
            go_quiet (fail)
            rename_i nq
            obtain ⟨W4, hW4⟩ : ∃ W4, W4 = wr.drewN nq := ⟨_, rfl⟩
            rw [← hW4]
            have hb4 : Below wr.heap.size wr W4 := by rw [hW4]; exact ext_drewN _ _
            have HS0 := Lib.hid (keep2l (And.intro p1 hcy) hb4)
            have HR4 := Lib.hid (hR.out.below hb4)
            have HK4 : Hid (KeptNB W3 W4) := by show KeptNB W3 W4; rw [hW4]; exact fun D C T fr hD hT => hK.out D C T fr hD hT
            have HB4 := Lib.hid (hB.out.trans (hb4.mono (Nat.le_trans HW13.out hB.out.size)))
            have HC4 := Lib.hid (heap_below HCUR.out hb4)
            have hd4 := (hb4.cell (p := ⟨g, m, none⟩) (heap_lt HCUR.out)).trans hby
            clear hW4 hb4 p1 hby hcy hR hK hB HCUR
            go_upto_region 7 with fail
            have HSD := Lib.hid (keep2l HS0.out ((Below.refl _ W4).drew))
            have HB5 := Lib.hid (HB4.out.trans (((Below.refl W4.heap.size W4).drew).mono (Nat.le_trans HW13.out HB4.out.size)))
            have HR5 := Lib.hid (HR4.out.below ((Below.refl W4.heap.size W4).drew))
            have HC5 : Hid (W4.drew.heap[g]? = some (.cells cur 5 (0, 0))) := HC4.out
            have HK5 : Hid (KeptNB W3 W4.drew) := fun D C T fr hD hT => HK4.out D C T fr hD hT
            have d1 : W4.drew.cell? ⟨g, m, none⟩ = some (.int .u8 (x : Int)) := hd4
            have d2 := unfrozen_of_block HC5.out m
            clear hd4
            refine wp_region_noPanic ?_
            refine wp_region_peelN 9 (by kernel_rfl) rfl (by simp only [List.getElem?_toArray, List.getElem?_cons_zero, List.getElem?_cons_succ]; rfl) (by kernel_rfl) ?_
            simp only [List.pop_toArray, List.dropLast_cons_cons, List.dropLast_singleton]
            refine wpAny_of_held (S := fun w' => w'.cell? ⟨w.heap.size, 1, none⟩ = some (.slice (some ⟨g, 0, none⟩) n1 c1) ∧ w'.cell? ⟨qb, qo + m, none⟩ = some (.int .u8 (y : Int))) _ _ _ _ ?_
            refine wpAnyH_take (i := 0) (v := ?_) (by simp only [List.getElem?_toArray, List.getElem?_cons_zero]; rfl) (by kernel_rfl) (by kernel_rfl) (by kernel_rfl) (fun _ _ _ h => h) (Or.inl ⟨by rfl, ?_⟩) HSD.out ?_
            rotate_left
            · intro w hSw
              (try dsimp only at hSw)
              obtain ⟨q0_, q1_⟩ := hSw
              go_simp
              try with_reducible rfl
            try simp only [Act.put, List.setIfInBounds_toArray, List.set_cons_zero, List.set_cons_succ]
            refine wpAnyH_take (i := 1) (v := ?_) (by simp only [List.getElem?_toArray, List.getElem?_cons_zero, List.getElem?_cons_succ]; rfl) (by kernel_rfl) (by kernel_rfl) (by kernel_rfl) (fun _ _ _ h => h) (Or.inl ⟨by rfl, ?_⟩) HSD.out ?_
            rotate_left
            · intro w hSw
              (try dsimp only at hSw)
              obtain ⟨q0_, q1_⟩ := hSw
              go_simp
              try with_reducible rfl
            try simp only [Act.put, List.setIfInBounds_toArray, List.set_cons_zero, List.set_cons_succ]
            refine wpAnyH_take (i := 2) (v := ?_) (by simp only [List.getElem?_toArray, List.getElem?_cons_zero, List.getElem?_cons_succ]; rfl) (by kernel_rfl) (by kernel_rfl) (by kernel_rfl) (fun _ _ _ h => h) (Or.inl ⟨by rfl, ?_⟩) HSD.out ?_
            rotate_left
            · intro w hSw
              (try dsimp only at hSw)
              obtain ⟨q0_, q1_⟩ := hSw
              go_simp
              try with_reducible rfl
            try simp only [Act.put, List.setIfInBounds_toArray, List.set_cons_zero, List.set_cons_succ]
            refine wpAnyH_take (i := 3) (v := ?_) (by simp only [List.getElem?_toArray, List.getElem?_cons_zero, List.getElem?_cons_succ]; rfl) (by kernel_rfl) (by kernel_rfl) (by kernel_rfl) (fun _ _ _ h => h) (Or.inl ⟨by rfl, ?_⟩) HSD.out ?_
            rotate_left
            · intro w hSw
              (try dsimp only at hSw)
              obtain ⟨q0_, q1_⟩ := hSw
              go_simp
              try with_reducible rfl
            try simp only [Act.put, List.setIfInBounds_toArray, List.set_cons_zero, List.set_cons_succ]
            refine wpAnyH_take (i := 4) (v := ?_) (by simp only [List.getElem?_toArray, List.getElem?_cons_zero, List.getElem?_cons_succ]; rfl) (by kernel_rfl) (by kernel_rfl) (by kernel_rfl) (fun _ _ _ h => h) (Or.inl ⟨by rfl, ?_⟩) HSD.out ?_
            rotate_left
            · intro w hSw
              (try dsimp only at hSw)
              obtain ⟨q0_, q1_⟩ := hSw
              go_simp
              try with_reducible rfl
            try simp only [Act.put, List.setIfInBounds_toArray, List.set_cons_zero, List.set_cons_succ]
            refine wpAnyH_take (i := 5) (v := ?_) (by simp only [List.getElem?_toArray, List.getElem?_cons_zero, List.getElem?_cons_succ]; rfl) (by kernel_rfl) (by kernel_rfl) (by kernel_rfl) (fun _ _ _ h => h) (Or.inl ⟨by rfl, ?_⟩) HSD.out ?_
            rotate_left
            · intro w hSw
              (try dsimp only at hSw)
              obtain ⟨q0_, q1_⟩ := hSw
              go_simp
              try with_reducible rfl
            try simp only [Act.put, List.setIfInBounds_toArray, List.set_cons_zero, List.set_cons_succ]
            refine wpAnyH_take (i := 6) (v := ?_) (by simp only [List.getElem?_toArray, List.getElem?_cons_zero, List.getElem?_cons_succ]; rfl) (by kernel_rfl) (by kernel_rfl) (by kernel_rfl) (fun _ _ _ h => h) (Or.inl ⟨by rfl, ?_⟩) HSD.out ?_
            rotate_left
            · intro w hSw
              (try dsimp only at hSw)
              obtain ⟨q0_, q1_⟩ := hSw
              go_simp
              try with_reducible rfl
            try simp only [Act.put, List.setIfInBounds_toArray, List.set_cons_zero, List.set_cons_succ]
            refine wpAnyH_take (i := 7) (v := ?_) (by simp only [List.getElem?_toArray, List.getElem?_cons_zero, List.getElem?_cons_succ]; rfl) (by kernel_rfl) (by kernel_rfl) (by kernel_rfl) (fun _ _ _ h => h) (Or.inl ⟨by rfl, ?_⟩) HSD.out ?_
            rotate_left
            · intro w hSw
              (try dsimp only at hSw)
              obtain ⟨q0_, q1_⟩ := hSw
              go_simp
              try with_reducible rfl
            try simp only [Act.put, List.setIfInBounds_toArray, List.set_cons_zero, List.set_cons_succ]
            refine wpAnyH_take (i := 8) (v := ?_) (by simp only [List.getElem?_toArray, List.getElem?_cons_zero, List.getElem?_cons_succ]; rfl) (by kernel_rfl) (by kernel_rfl) (by kernel_rfl) (fun _ _ _ h => h) (Or.inl ⟨by rfl, ?_⟩) HSD.out ?_
            rotate_left
            · intro w hSw
              (try dsimp only at hSw)
              obtain ⟨q0_, q1_⟩ := hSw
              go_simp
              try with_reducible rfl
            try simp only [Act.put, List.setIfInBounds_toArray, List.set_cons_zero, List.set_cons_succ]
            refine wpAnyH_done (by kernel_rfl) ?_ _
            unfold LastQ wpOp
            simp only [List.getElem?_toArray, List.getElem?_cons_zero, List.getElem?_cons_succ]
            rw [if_pos (by rfl)]
            refine Or.inl ?_
            go_simp
            refine NoPanic.normal ?_
            clear d1 d2 HS0 HSD HR4 HK4 HB4 HC4
            go_wp2
            go_roundw
            case rel => exact ⟨m + 1, by omega, by go_num, by go_num, HR5.out.write g m (isByte_nat7 (by omega)), HK5.out.set HC5.out, HB5.out.setCell (p := ⟨g, m, none⟩) HGE.out _⟩
            case measure => simp [intOf]; omega
          · have e3 : decide ((r : Int) ≤ 2) = false := by simp; omega
            clear hr2
            go_wp2
            go_quiet (fail)
            rename_i nq
            clear p1 hby hcy
            go_wp2
            go_roundw
            case rel => exact ⟨m + 1, by omega, by go_num, by go_num, hR.out.below (ext_drewN _ _), fun D C T fr hD hT => hK.out D C T fr hD hT, hB.out.trans ((ext_drewN wr nq).mono (Nat.le_trans HW13.out hB.out.size))⟩
            case measure => simp [intOf]; omega
      · have eb : decide ((m : Int) < (bn : Int)) = false := by simp; omega
        have eb2 : decide (m < bn) = false := decide_eq_false (by omega)
        clear hb
        go_wp2
        go_quiet (fail)
        rename_i nq
        clear p1 hby
        go_wp2
        go_roundw
        case rel => exact ⟨m + 1, by omega, by go_num, by go_num, hR.out.below (ext_drewN _ _), fun D C T fr hD hT => hK.out D C T fr hD hT, hB.out.trans ((ext_drewN wr nq).mono (Nat.le_trans HW13.out hB.out.size))⟩
        case measure => simp [intOf]; omega
    · obtain rfl : n1 = m := by omega
      have HR1 := Lib.hid hR.out
      have HKW := Lib.hid hK.out
      have HBW := Lib.hid hB.out
      have p2 : wr.cell? ⟨w.heap.size, 2, none⟩ = some (.slice a2 n2 c2) := cell_of_block hx4 2
      clear hR hK hB hlt hm hx4 p1
      go_wp2_with fail
      clear p2
      go_loopw [57, 7, 8, 5] (fun i _ _ v wr2 => ∃ (k A : Nat), k ≤ n2 ∧ i = .int .i64 k ∧ v = .int .i64 A ∧ Hid (A ≤ (k + 1) * 1048576) ∧ Hid (AR wr2 W1.heap.size L) ∧ Hid (KeptNB W3 wr2) ∧ Hid (Below W1.heap.size W3 wr2)) (fun i _ _ _ _ => n2 - (intOf i).toNat)
      case atStart => exact ⟨0, n1, Nat.zero_le _, rfl, rfl, (by show _ ≤ _; omega), HR1.out, HKW.out, HBW.out⟩
      case round =>
        clear HR1 HKW HBW
        obtain ⟨k, A, hk, rfl, rfl, hA, hR, hK, hB⟩ := hrel
        have hx4 := hK.out _ _ _ _ HX3.out (by decide)
        have p0 : wr.cell? ⟨w.heap.size, 0, none⟩ = some (.int .i64 bad) := cell_of_block hx4 0
        have p1 : wr.cell? ⟨w.heap.size, 1, none⟩ = some (.slice a1 n1 c1) := cell_of_block hx4 1
        have p2 : wr.cell? ⟨w.heap.size, 2, none⟩ = some (.slice a2 n2 c2) := cell_of_block hx4 2
        by_cases hlt : k < n2
        · clear p0 p1
          obtain ⟨fb, fo, rfl, _⟩ := (owns_sees_slice HROW.out).2.addr (by omega)
          have hkl : k + 1 < L.length := by rw [HL.out, List.length_cons, HQ.out.2]; omega
          obtain ⟨x, hx⟩ : ∃ x : Slc, x = ss.getD k slc0 := ⟨_, rfl⟩
          have hxk : L.getD (k + 1) slc0 = x := by rw [HL.out, List.getD_cons_succ, hx]
          have hfc : ∀ W : World, KeptNB W3 W → W.cell? ⟨fb, fo + k, none⟩ = some (slV x) := fun W hW => by
            rw [hx]
            exact (owns_sees_slice (hW.owns HROW.out (by decide))).2.slice_at7 k hlt
          have hxs : x.2.1 ≤ 1048576 := by rw [hx]; exact HSM.out.each _ (getD_mem (by simpa [HQ.out.2] using hlt))
          obtain ⟨xa, xn, xc⟩ := x
          unfold slV at hfc
          simp only at hfc hxs
          have HFC := Lib.hid hfc
          have HXK := Lib.hid hxk
          have HKL := Lib.hid hkl
          have q2 := hfc wr hK.out
          have HR0 := Lib.hid hR.out
          have HK0 := Lib.hid hK.out
          have HB0 := Lib.hid hB.out
          have W3' : IntKind.i64.wrap ((k : Int) + 1) = (k : Int) + 1 := IntWalk.i64_in _ (by omega)
          have hI9 : ((k : Nat) : Int) < (n2 : Int) := by omega
          have hI8 : (0 : Int) ≤ (k : Int) := by omega
          have HAK : Hid (A ≤ (k + 1) * 1048576 ∧ k < n2) := ⟨hA.out, hlt⟩
          clear hx hxk hfc hx4 hR hK hB hA hkl
          go_wp2_with fail
          clear p2 q2
          go_loopw [66, 8, 5] (fun i _ v wr2 => ∃ (m B : Nat), m ≤ xn ∧ i = .int .i64 m ∧ v = .int .i64 B ∧ Hid (B = A + m) ∧ Hid (AR wr2 W1.heap.size L) ∧ Hid (KeptNB W3 wr2) ∧ Hid (Below W1.heap.size W3 wr2)) (fun i _ _ _ => xn - (intOf i).toNat)
          case atStart => exact ⟨0, A, Nat.zero_le _, rfl, rfl, rfl, HR0.out, HK0.out, HB0.out⟩
          case round =>
            clear HR0 HK0 HB0
            obtain ⟨m, B, hm, rfl, rfl, hBA, hR, hK, hB⟩ := hrel
            have hx4 := hK.out _ _ _ _ HX3.out (by decide)
            have p1 : wr.cell? ⟨w.heap.size, 2, none⟩ = some (.slice (some ⟨fb, fo, none⟩) n2 c2) := cell_of_block hx4 2
            have p2 := HFC.out wr hK.out
            by_cases hlt2 : m < xn
            · obtain ⟨g, cur, x, ha1, hge, hcur, hx256, hby⟩ := hR.out.at (j := k + 1) (m := m) HKL.out HXK.out hlt2
              rw [ha1] at p2
              have HA1 := Lib.hid ha1
              have HGE := Lib.hid hge
              have HCUR := Lib.hid hcur
              have hI1 : ((m : Nat) : Int) < (xn : Int) := by omega
              have hI0 : (0 : Int) ≤ (m : Int) := by omega
              have W1' : IntKind.i64.wrap ((m : Int) + 1) = (m : Int) + 1 := IntWalk.i64_in _ (by omega)
              have W2' : IntKind.i64.wrap ((B : Int) + 1) = (B : Int) + 1 := IntWalk.i64_in _ (by have h1 := hBA.out; have h2 := HAK.out; omega)
              have hI7 : (0 : Int) ≤ (B : Int) := by omega
              have HNB : Hid (B + 1 = A + (m + 1)) := by show _ = _; rw [hBA.out]; omega
              clear ha1 hge hcur hx256 hx4 hBA
              by_cases hb : B < bn
              · have hb34 : Below w.heap.size w wr := HB3.out.trans (hB.out.mono HW1.out.1)
                have hsb := HBITS.out.below hb34
                obtain ⟨qb, qo, hqa, _⟩ := hsb.addr (show 0 < bn by omega)
                rw [hqa] at hsb
                have hcy := hsb.byte B hb
                obtain ⟨y, hy⟩ : ∃ y : Nat, y = (bits.getD B 0).toNat := ⟨_, rfl⟩
                have hy256 : y < 256 := by rw [hy]; exact (bits.getD B 0).toNat_lt
                rw [← hy] at hcy
                have R1 : Int.tmod (y : Int) 4 = ((y % 4 : Nat) : Int) := by rw [Int.tmod_eq_emod_of_nonneg (by omega)]; omega
                have hr4 : y % 4 < 4 := by omega
                obtain ⟨r, hr⟩ : ∃ r, r = y % 4 := ⟨_, rfl⟩
                rw [← hr] at R1 hr4
                have U1 : IntKind.u8.wrap (r : Int) = (r : Int) := by rw [IntKind.wrap_u8]; omega
                have eb : decide ((B : Int) < (bn : Int)) = true := by simp; omega
                have hIb : (B : Int) < (bn : Int) := by omega
                have HQA := Lib.hid hqa
                rw [hqa]
                clear hb hb34 hsb hqa hy hr hy256
                by_cases hr2 : r ≤ 2
                · have e3 : decide ((r : Int) ≤ 2) = true := by simp; omega
                  clear hr2
                  go_upto_region 17 with fail
                  have HS0 := Lib.hid (And.intro p1 (And.intro p2 hcy))
                  have HSD := Lib.hid (keep3c HS0.out ((Below.refl _ wr).drew))
                  have HB5 := Lib.hid (hB.out.trans (((Below.refl wr.heap.size wr).drew).mono (Nat.le_trans HW13.out hB.out.size)))
                  have HR5 := Lib.hid (hR.out.below ((Below.refl wr.heap.size wr).drew))
                  have HC5 : Hid (wr.drew.heap[g]? = some (.cells cur 5 (0, 0))) := HCUR.out
                  have HK5 : Hid (KeptNB W3 wr.drew) := fun D C T fr hD hT => hK.out D C T fr hD hT
                  have d1 : wr.drew.cell? ⟨g, m, none⟩ = some (.int .u8 (x : Int)) := hby
                  have d2 := unfrozen_of_block HC5.out m
                  clear hby p1 p2 hcy hR hK hB HCUR
                  refine wp_region_noPanic ?_
                  refine wp_region_peelN 12 (by kernel_rfl) rfl (by simp only [List.getElem?_toArray, List.getElem?_cons_zero, List.getElem?_cons_succ]; rfl) (by kernel_rfl) ?_
                  simp only [List.pop_toArray, List.dropLast_cons_cons, List.dropLast_singleton]
                  refine wpAny_of_held (S := fun w' => w'.cell? ⟨w.heap.size, 2, none⟩ = some (.slice (some ⟨fb, fo, none⟩) n2 c2) ∧ w'.cell? ⟨fb, fo + k, none⟩ = some (.slice (some ⟨g, 0, none⟩) xn xc) ∧ w'.cell? ⟨qb, qo + B, none⟩ = some (.int .u8 (y : Int))) _ _ _ _ ?_
                  refine wpAnyH_take (i := 0) (v := ?_) (by simp only [List.getElem?_toArray, List.getElem?_cons_zero]; rfl) (by kernel_rfl) (by kernel_rfl) (by kernel_rfl) (fun _ _ _ h => h) (Or.inl ⟨by rfl, ?_⟩) HSD.out ?_
                  rotate_left
                  · intro w hSw
                    (try dsimp only at hSw)
                    obtain ⟨q0_, q1_, q2_⟩ := hSw
                    go_simp
                    try with_reducible rfl
                  try simp only [Act.put, List.setIfInBounds_toArray, List.set_cons_zero, List.set_cons_succ]
                  refine wpAnyH_take (i := 1) (v := ?_) (by simp only [List.getElem?_toArray, List.getElem?_cons_zero, List.getElem?_cons_succ]; rfl) (by kernel_rfl) (by kernel_rfl) (by kernel_rfl) (fun _ _ _ h => h) (Or.inl ⟨by rfl, ?_⟩) HSD.out ?_
                  rotate_left
                  · intro w hSw
                    (try dsimp only at hSw)
                    obtain ⟨q0_, q1_, q2_⟩ := hSw
                    go_simp
                    try with_reducible rfl
                  try simp only [Act.put, List.setIfInBounds_toArray, List.set_cons_zero, List.set_cons_succ]
                  refine wpAnyH_take (i := 2) (v := ?_) (by simp only [List.getElem?_toArray, List.getElem?_cons_zero, List.getElem?_cons_succ]; rfl) (by kernel_rfl) (by kernel_rfl) (by kernel_rfl) (fun _ _ _ h => h) (Or.inl ⟨by rfl, ?_⟩) HSD.out ?_
                  rotate_left
                  · intro w hSw
                    (try dsimp only at hSw)
                    obtain ⟨q0_, q1_, q2_⟩ := hSw
                    go_simp
                    try with_reducible rfl
                  try simp only [Act.put, List.setIfInBounds_toArray, List.set_cons_zero, List.set_cons_succ]
                  refine wpAnyH_take (i := 3) (v := ?_) (by simp only [List.getElem?_toArray, List.getElem?_cons_zero, List.getElem?_cons_succ]; rfl) (by kernel_rfl) (by kernel_rfl) (by kernel_rfl) (fun _ _ _ h => h) (Or.inl ⟨by rfl, ?_⟩) HSD.out ?_
                  rotate_left
                  · intro w hSw
                    (try dsimp only at hSw)
                    obtain ⟨q0_, q1_, q2_⟩ := hSw
                    go_simp
                    try with_reducible rfl
                  try simp only [Act.put, List.setIfInBounds_toArray, List.set_cons_zero, List.set_cons_succ]
                  refine wpAnyH_take (i := 4) (v := ?_) (by simp only [List.getElem?_toArray, List.getElem?_cons_zero, List.getElem?_cons_succ]; rfl) (by kernel_rfl) (by kernel_rfl) (by kernel_rfl) (fun _ _ _ h => h) (Or.inl ⟨by rfl, ?_⟩) HSD.out ?_
                  rotate_left
                  · intro w hSw
                    (try dsimp only at hSw)
                    obtain ⟨q0_, q1_, q2_⟩ := hSw
                    go_simp
                    try with_reducible rfl
                  try simp only [Act.put, List.setIfInBounds_toArray, List.set_cons_zero, List.set_cons_succ]
                  refine wpAnyH_take (i := 5) (v := ?_) (by simp only [List.getElem?_toArray, List.getElem?_cons_zero, List.getElem?_cons_succ]; rfl) (by kernel_rfl) (by kernel_rfl) (by kernel_rfl) (fun _ _ _ h => h) (Or.inl ⟨by rfl, ?_⟩) HSD.out ?_
                  rotate_left
                  · intro w hSw
                    (try dsimp only at hSw)
                    obtain ⟨q0_, q1_, q2_⟩ := hSw
                    go_simp
                    try with_reducible rfl
                  try simp only [Act.put, List.setIfInBounds_toArray, List.set_cons_zero, List.set_cons_succ]
                  refine wpAnyH_take (i := 6) (v := ?_) (by simp only [List.getElem?_toArray, List.getElem?_cons_zero, List.getElem?_cons_succ]; rfl) (by kernel_rfl) (by kernel_rfl) (by kernel_rfl) (fun _ _ _ h => h) (Or.inl ⟨by rfl, ?_⟩) HSD.out ?_
                  rotate_left
                  · intro w hSw
                    (try dsimp only at hSw)
                    obtain ⟨q0_, q1_, q2_⟩ := hSw
                    go_simp
                    try with_reducible rfl
                  try simp only [Act.put, List.setIfInBounds_toArray, List.set_cons_zero, List.set_cons_succ]
                  refine wpAnyH_take (i := 7) (v := ?_) (by simp only [List.getElem?_toArray, List.getElem?_cons_zero, List.getElem?_cons_succ]; rfl) (by kernel_rfl) (by kernel_rfl) (by kernel_rfl) (fun _ _ _ h => h) (Or.inl ⟨by rfl, ?_⟩) HSD.out ?_
                  rotate_left
                  · intro w hSw
                    (try dsimp only at hSw)
                    obtain ⟨q0_, q1_, q2_⟩ := hSw
                    go_simp
                    try with_reducible rfl
                  try simp only [Act.put, List.setIfInBounds_toArray, List.set_cons_zero, List.set_cons_succ]
                  refine wpAnyH_take (i := 8) (v := ?_) (by simp only [List.getElem?_toArray, List.getElem?_cons_zero, List.getElem?_cons_succ]; rfl) (by kernel_rfl) (by kernel_rfl) (by kernel_rfl) (fun _ _ _ h => h) (Or.inl ⟨by rfl, ?_⟩) HSD.out ?_
                  rotate_left
                  · intro w hSw
                    (try dsimp only at hSw)
                    obtain ⟨q0_, q1_, q2_⟩ := hSw
                    go_simp
                    try with_reducible rfl
                  try simp only [Act.put, List.setIfInBounds_toArray, List.set_cons_zero, List.set_cons_succ]
                  refine wpAnyH_take (i := 9) (v := ?_) (by simp only [List.getElem?_toArray, List.getElem?_cons_zero, List.getElem?_cons_succ]; rfl) (by kernel_rfl) (by kernel_rfl) (by kernel_rfl) (fun _ _ _ h => h) (Or.inl ⟨by rfl, ?_⟩) HSD.out ?_
                  rotate_left
                  · intro w hSw
                    (try dsimp only at hSw)
                    obtain ⟨q0_, q1_, q2_⟩ := hSw
                    go_simp
                    try with_reducible rfl
                  try simp only [Act.put, List.setIfInBounds_toArray, List.set_cons_zero, List.set_cons_succ]
                  refine wpAnyH_take (i := 10) (v := ?_) (by simp only [List.getElem?_toArray, List.getElem?_cons_zero, List.getElem?_cons_succ]; rfl) (by kernel_rfl) (by kernel_rfl) (by kernel_rfl) (fun _ _ _ h => h) (Or.inl ⟨by rfl, ?_⟩) HSD.out ?_
                  rotate_left
                  · intro w hSw
                    (try dsimp only at hSw)
                    obtain ⟨q0_, q1_, q2_⟩ := hSw
                    go_simp
                    try with_reducible rfl
                  try simp only [Act.put, List.setIfInBounds_toArray, List.set_cons_zero, List.set_cons_succ]
                  refine wpAnyH_take (i := 11) (v := ?_) (by simp only [List.getElem?_toArray, List.getElem?_cons_zero, List.getElem?_cons_succ]; rfl) (by kernel_rfl) (by kernel_rfl) (by kernel_rfl) (fun _ _ _ h => h) (Or.inl ⟨by rfl, ?_⟩) HSD.out ?_
                  rotate_left
                  · intro w hSw
                    (try dsimp only at hSw)
                    obtain ⟨q0_, q1_, q2_⟩ := hSw
                    go_simp
                    try with_reducible rfl
                  try simp only [Act.put, List.setIfInBounds_toArray, List.set_cons_zero, List.set_cons_succ]
                  refine wpAnyH_done (by kernel_rfl) ?_ _
                  unfold LastQ wpOp
                  simp only [List.getElem?_toArray, List.getElem?_cons_zero, List.getElem?_cons_succ]
                  rw [if_pos (by rfl)]
                  refine Or.inl ?_
                  go_simp
                  refine NoPanic.normal ?_
                  clear d1 d2 HS0 HSD
                  go_wp2
                  go_roundw
                  case rel => exact ⟨m + 1, B + 1, by omega, by go_num, by go_num, HNB.out, HR5.out.write g m (isByte_nat7 (by omega)), HK5.out.set HC5.out, HB5.out.setCell (p := ⟨g, m, none⟩) HGE.out _⟩
                  case measure => simp [intOf]; omega
                · have e3 : decide ((r : Int) ≤ 2) = false := by simp; omega
                  clear hr2
                  go_wp2
                  go_roundw
                  case rel => exact ⟨m + 1, B + 1, by omega, by go_num, by go_num, HNB.out, hR.out, hK.out, hB.out⟩
                  case measure => simp [intOf]; omega
              · have eb : decide ((B : Int) < (bn : Int)) = false := by simp; omega
                have hIb : ¬ (B : Int) < (bn : Int) := by omega
                have hIb2 : (bn : Int) ≤ (B : Int) := by omega
                clear hb
                go_wp2
                go_roundw
                case rel => exact ⟨m + 1, B + 1, by omega, by go_num, by go_num, HNB.out, hR.out, hK.out, hB.out⟩
                case measure => simp [intOf]; omega
            · obtain rfl : xn = m := by omega
              have HBB : Hid (B ≤ (k + 1 + 1) * 1048576) := by show _ ≤ _; have h1 := hBA.out; have h2 := HAK.out; omega
              clear hBA p1 p2 hx4
              go_wp2
              go_roundw
              case rel => exact ⟨k + 1, B, by have := HAK.out; omega, by go_num, rfl, HBB.out, hR.out, hK.out, hB.out⟩
              case measure => simp [intOf]; have := HAK.out; omega
        · obtain rfl : n2 = k := by omega
          have hr4 := hK.out _ _ _ _ HR3.out (by decide)
          have y0 := cell_of_block hr4 0
          have y1 := cell_of_block hr4 1
          have y2 := cell_of_block hr4 2
          have z0 := unfrozen_of_block hr4 0
          have z1 := unfrozen_of_block hr4 1
          have z2 := unfrozen_of_block hr4 2
          have HR4 := Lib.hid hr4
          have hrr := hR.out
          rw [HL.out] at hrr
          obtain ⟨u, hu, hub, huf⟩ := own_of_AR bad hrr (hK.out.owns HROW.out (by decide)) HQ.out.2
          have HU := Lib.hid (And.intro hu (And.intro hub huf))
          clear hx4 hr4 hlt hk hA hrr hu hub huf
          go_wp2
          refine bodyPost_ret (v := traceV bad ⟨a1, n1, c1, a2, n2, c2, ss⟩) ?_ rfl ?_
          · have h6 := tri_set_t HR4.out rfl (.int .i64 bad) (.slice a1 n1 c1) (.slice a2 n2 c2)
            have g0 := cell_of_block h6 0
            have g1 := cell_of_block h6 1
            have g2 := cell_of_block h6 2
            simp [results, Try.results25, go_sem, g0, g1, g2]
            rfl
          · have hle := HW1.out
            have hbw : Below w.heap.size w wr := HB3.out.trans (hB.out.mono hle.1)
            exact ⟨u, ⟨a1, n1, c1, a2, n2, c2, ss⟩, by rw [HU.out.2.1]; rfl, OwnT4.set3 (HU.out.1.base hle.1) HR4.out, by rw [HU.out.2.1], by rw [HU.out.2.2]; exact HQ.out.1, HSM.out, set3_t (w.heap.size + 1) (Nat.le_succ _) hbw⟩
end Go.Proofs.Ytjmdgbdlhaaefaa
/- The law's great, and its own examples. -/
namespace Go.Proofs.Ytjmdgbdlhaaefaa
open Go Go.RowKit Go.Joins

theorem sees_cells {w : World} {g : Nat} {C : Array Value} {t : TypeId} {fr : Nat × Nat} (h : w.heap[g]? = some (.cells C t fr)) (xs : List Value) (n : Nat) (hC : C = xs.toArray) (hn : xs.length = n) : Sees w (some ⟨g, 0, none⟩) n n xs := by
  subst hC
  refine ⟨hn, Nat.le_refl _, (fun e => by cases e), fun _ => ⟨g, 0, rfl, heap_lt h, fun j hj => ?_⟩⟩
  rw [cell_of_block h]
  simp
def great7 (c : NormC) (t : TraceC) : Bool := decide (2000 < c.ins) || (decide (300 < c.lats.length) || (decide (300 < c.gates.length) || (decide (300 < c.cons.length) || decide (300 < t.frames.length))))
set_option maxRecDepth 100000 in
set_option maxHeartbeats 3200000 in
theorem great7_any (c : NormC) (t : TraceC) (s : CSlots) (st : TSlots) (w : World) (h : SeesCir w s c) (ht : SeesTr w st t) :
    Calls Try.prog 6 #[cirV c.ins s, traceV t.bad st] w fun e w' => e = .returned (.bool (great7 c t)) ∧ Below w.heap.size w w' := by
  obtain ⟨a1, n1, c1, a2, n2, c2, a3, n3, c3, a4, n4, c4, a5, n5, c5⟩ := s
  obtain ⟨b1, m1, d1, b2, m2, d2, ss⟩ := st
  have l1 : c.lats.length = n1 := h.s1.1
  have l2 : c.gates.length = n2 := h.s2.1
  have l5 : c.cons.length = n5 := h.s5.lenMap
  have l6 : t.frames.length = m2 := ht.s2.n_eq
  obtain ⟨z, hz⟩ : ∃ z, z = c.ins := ⟨_, rfl⟩
  obtain ⟨y, hy⟩ : ∃ y, y = t.bad := ⟨_, rfl⟩
  have HE : Hid (great7 c t = (decide (2000 < z) || (decide (300 < n1) || (decide (300 < n2) || (decide (300 < n5) || decide (300 < m2)))))) := by
    show _ = _; unfold great7; rw [l1, l2, l5, l6, ← hz]
  rw [← hz, ← hy]
  clear l1 l2 l5 l6 hz hy h ht
  unfold cirV traceV
  go_enter Try.func6, Try.ntmps6
  go_upto_region 1 with fail
  generalize hW : World.alloc (World.alloc w _) _ = W1
  have hb : Below w.heap.size w W1 := by subst hW; exact ext_trans (ext_alloc _ _) (ext_alloc _ _)
  have hx : W1.heap[w.heap.size]? = some (.cells #[.int .i64 z, .slice a1 n1 c1, .slice a2 n2 c2, .slice a3 n3 c3, .slice a4 n4 c4, .slice a5 n5 c5] 26 (0, 0)) := by subst hW; exact heap_below (heap_new _ _ _ rfl) (ext_alloc _ _)
  have ht : W1.heap[w.heap.size + 1]? = some (.cells #[.int .i64 y, .slice b1 m1 d1, .slice b2 m2 d2] 30 (0, 0)) := by subst hW; exact heap_new _ _ _ (by simp)
  have HB := Lib.hid hb
  have p0 := cell_of_block hx 0
  have p1 := cell_of_block hx 1
  have p2 := cell_of_block hx 2
  have p5 := cell_of_block hx 5
  have r2 := cell_of_block ht 2
  clear hW hb hx ht
  by_cases t1 : 2000 < z
  · have e1 : decide ((2000 : Int) < z) = true := by simpa using t1
    have HF : Hid (great7 c t = true) := by show _ = _; rw [HE.out, e1]; rfl
    go_wp2
    go_ret
    exact ⟨by rw [HF.out]; rfl, HB.out⟩
  have e1 : decide ((2000 : Int) < z) = false := by simpa using t1
  by_cases t2 : 300 < n1
  · have e2 : decide ((300 : Int) < (n1 : Int)) = true := by simp; omega
    have HF : Hid (great7 c t = true) := by show _ = _; rw [HE.out, decide_eq_true t2]; simp
    go_wp2
    go_ret
    exact ⟨by rw [HF.out]; rfl, HB.out⟩
  have e2 : decide ((300 : Int) < (n1 : Int)) = false := by simp; omega
  by_cases t3 : 300 < n2
  · have e3 : decide ((300 : Int) < (n2 : Int)) = true := by simp; omega
    have HF : Hid (great7 c t = true) := by show _ = _; rw [HE.out, decide_eq_true t3]; simp
    go_wp2
    go_ret
    exact ⟨by rw [HF.out]; rfl, HB.out⟩
  have e3 : decide ((300 : Int) < (n2 : Int)) = false := by simp; omega
  by_cases t4 : 300 < n5
  · have e4 : decide ((300 : Int) < (n5 : Int)) = true := by simp; omega
    have HF : Hid (great7 c t = true) := by show _ = _; rw [HE.out, decide_eq_true t4]; simp
    go_wp2
    go_ret
    exact ⟨by rw [HF.out]; rfl, HB.out⟩
  have e4 : decide ((300 : Int) < (n5 : Int)) = false := by simp; omega
  have e5 : decide ((300 : Int) < (m2 : Int)) = decide (300 < m2) := decide_eq_decide.2 (by omega)
  have HF : Hid (great7 c t = decide (300 < m2)) := by show _ = _; rw [HE.out, e1, decide_eq_false t2, decide_eq_false t3, decide_eq_false t4]; rfl
  obtain ⟨q, hq⟩ : ∃ q, q = decide (300 < m2) := ⟨_, rfl⟩
  rw [← hq] at e5 HF
  clear hq
  go_wp2
  go_ret
  exact ⟨by rw [HF.out]; rfl, HB.out⟩

/-- The circuit of the examples. -/
def oneC : NormC := ⟨1, [(2, 2)], [], [], [4], []⟩
def trC (a b c : UInt8) : TraceC := ⟨0, [a], [[b], [c]]⟩

set_option maxRecDepth 100000 in
theorem one_any (w : World) : Calls Try.prog 30 #[] w fun e w' => ∃ s : CSlots, e = .returned (cirV oneC.ins s) ∧ SeesCir w' s oneC ∧ s.small ∧ Below w.heap.size w w' := by
  go_enter Try.func30, Try.ntmps30
  go_wp2
  generalize hW : World.alloc (World.alloc (World.alloc w _) _) _ = W1
  have hb : Below w.heap.size w W1 := by subst hW; exact ext_trans (ext_alloc _ _) (ext_trans (ext_alloc _ _) (ext_alloc _ _))
  have h0 : W1.heap[w.heap.size]? = some (.cells #[.int .i64 1, .slice (some ⟨w.heap.size + 1, 0, none⟩) 1 1, .slice none 0 0, .slice none 0 0, .slice (some ⟨w.heap.size + 1 + 1, 0, none⟩) 1 1, .slice none 0 0] 26 (0, 0)) := by subst hW; exact heap_below (heap_below (heap_new _ _ _ rfl) (ext_alloc _ _)) (ext_alloc _ _)
  have h1 : W1.heap[w.heap.size + 1]? = some (.cells #[.int .u32 2, .int .u8 2] 75 (0, 0)) := by subst hW; exact heap_below (heap_new _ _ _ (by simp)) (ext_alloc _ _)
  have h2 : W1.heap[w.heap.size + 1 + 1]? = some (.cells #[.int .u32 4] 31 (0, 0)) := by subst hW; exact heap_new _ _ _ (by simp)
  clear hW
  obtain ⟨s, hs⟩ : ∃ s : CSlots, s = ⟨some ⟨w.heap.size + 1, 0, none⟩, 1, 1, none, 0, 0, none, 0, 0, some ⟨w.heap.size + 1 + 1, 0, none⟩, 1, 1, none, 0, 0⟩ := ⟨_, rfl⟩
  refine bodyPost_ret (v := cirV 1 s) ?_ rfl ?_
  · have g0 := cell_of_block h0 0
    have g1 := cell_of_block h0 1
    have g2 := cell_of_block h0 2
    have g3 := cell_of_block h0 3
    have g4 := cell_of_block h0 4
    have g5 := cell_of_block h0 5
    subst hs
    simp [results, Try.results30, go_sem, g0, g1, g2, g3, g4, g5]
    rfl
  · subst hs
    refine ⟨_, rfl, ⟨⟨rfl, Nat.le_refl _, ?_⟩, Sees2.nil _ _, Sees.nil _ _ _ (fun _ => rfl), ?_, Sees.nil _ _ _ (fun _ => rfl)⟩, ⟨by show (1 : Nat) ≤ 1048576; omega, Nat.zero_le _, Nat.zero_le _, by show (1 : Nat) ≤ 1048576; omega, Nat.zero_le _⟩, hb⟩
    · exact sees_cells h1 [.int .u32 2, .int .u8 2] 2 rfl rfl
    · exact sees_cells h2 [.int .u32 4] 1 rfl rfl

set_option maxRecDepth 100000 in
theorem trace_any (a b c : UInt8) (w : World) : Calls Try.prog 31 #[bv a, bv b, bv c] w fun e w' => ∃ s : TSlots, e = .returned (traceV 0 s) ∧ SeesTr w' s (trC a b c) ∧ s.small ∧ Below w.heap.size w w' := by
  unfold bv
  obtain ⟨x, hx⟩ : ∃ x, x = a.toNat := ⟨_, rfl⟩
  obtain ⟨y, hy⟩ : ∃ x, x = b.toNat := ⟨_, rfl⟩
  obtain ⟨z, hz⟩ : ∃ x, x = c.toNat := ⟨_, rfl⟩
  rw [← hx, ← hy, ← hz]
  have HX := Lib.hid (And.intro hx (And.intro hy hz))
  clear hx hy hz
  go_enter Try.func31, Try.ntmps31
  go_wp2
  generalize hW : World.alloc (World.alloc (World.alloc (World.alloc (World.alloc w _) _) _) _) _ = W1
  have hb : Below w.heap.size w W1 := by subst hW; exact ext_trans (ext_alloc _ _) (ext_trans (ext_alloc _ _) (ext_trans (ext_alloc _ _) (ext_trans (ext_alloc _ _) (ext_alloc _ _))))
  have h0 : W1.heap[w.heap.size]? = some (.cells #[.int .i64 0, .slice (some ⟨w.heap.size + 1, 0, none⟩) 1 1, .slice (some ⟨w.heap.size + 1 + 1 + 1 + 1, 0, none⟩) 2 2] 30 (0, 0)) := by subst hW; exact heap_below (heap_below (heap_below (heap_below (heap_new _ _ _ rfl) (ext_alloc _ _)) (ext_alloc _ _)) (ext_alloc _ _)) (ext_alloc _ _)
  have h1 : W1.heap[w.heap.size + 1]? = some (.cells #[.int .u8 (x : Int)] 5 (0, 0)) := by subst hW; exact heap_below (heap_below (heap_below (heap_new _ _ _ (by simp)) (ext_alloc _ _)) (ext_alloc _ _)) (ext_alloc _ _)
  have h2 : W1.heap[w.heap.size + 1 + 1]? = some (.cells #[.int .u8 (y : Int)] 5 (0, 0)) := by subst hW; exact heap_below (heap_below (heap_new _ _ _ (by simp)) (ext_alloc _ _)) (ext_alloc _ _)
  have h3 : W1.heap[w.heap.size + 1 + 1 + 1]? = some (.cells #[.int .u8 (z : Int)] 5 (0, 0)) := by subst hW; exact heap_below (heap_new _ _ _ (by simp)) (ext_alloc _ _)
  have h4 : W1.heap[w.heap.size + 1 + 1 + 1 + 1]? = some (.cells #[.slice (some ⟨w.heap.size + 1 + 1, 0, none⟩) 1 1, .slice (some ⟨w.heap.size + 1 + 1 + 1, 0, none⟩) 1 1] 27 (0, 0)) := by subst hW; exact heap_new _ _ _ (by simp)
  clear hW
  obtain ⟨s, hs⟩ : ∃ s : TSlots, s = ⟨some ⟨w.heap.size + 1, 0, none⟩, 1, 1, some ⟨w.heap.size + 1 + 1 + 1 + 1, 0, none⟩, 2, 2, [(some ⟨w.heap.size + 1 + 1, 0, none⟩, 1, 1), (some ⟨w.heap.size + 1 + 1 + 1, 0, none⟩, 1, 1)]⟩ := ⟨_, rfl⟩
  refine bodyPost_ret (v := traceV 0 s) ?_ rfl ?_
  · have g0 := cell_of_block h0 0
    have g1 := cell_of_block h0 1
    have g2 := cell_of_block h0 2
    subst hs
    simp [results, Try.results31, go_sem, g0, g1, g2]
    rfl
  · subst hs
    obtain ⟨hx, hy, hz⟩ := HX.out
    refine ⟨_, rfl, ⟨sees_cells h1 [bv a] 1 (by rw [hx]; rfl) rfl, ⟨sees_cells h4 _ 2 rfl rfl, rfl, fun k hk => ?_⟩⟩, ⟨by show (1 : Nat) ≤ 1048576; omega, by show (2 : Nat) ≤ 1048576; omega, fun v hv => ?_⟩, hb⟩
    · match k, hk with
      | 0, _ => exact sees_cells h2 [bv b] 1 (by rw [hy]; rfl) rfl
      | 1, _ => exact sees_cells h3 [bv c] 1 (by rw [hz]; rfl) rfl
      | k + 2, h => exact absurd h (by simp [trC])
    · simp only [List.mem_cons, List.not_mem_nil, or_false] at hv
      rcases hv with rfl | rfl <;> (show (1 : Nat) ≤ 1048576; omega)

theorem ex_fits : fitsS oneC (trC 0 1 2) = true := by kernel_rfl
theorem ex_v0 : varsAt oneC (trC 0 1 2) 0 = [0, 1, 0] := by kernel_rfl
theorem ex_v1 : varsAt oneC (trC 0 1 2) 1 = [0, 2, 1] := by kernel_rfl
theorem ex_f : failsE oneC (trC 0 1 2) = .returned (.tuple #[.bool true, .int .i64 0]) := by
  unfold failsE; rw [if_pos (by kernel_rfl)]; rfl
theorem ex_s1 : surelyE oneC (trC 0 1 2) = .returned (.tuple #[.int .u8 1, .int .i64 0]) := by
  unfold surelyE; rw [if_pos (by kernel_rfl)]; rfl
theorem ex_s2 : surelyE oneC (trC 2 0 0) = .returned (.tuple #[.int .u8 0, .int .i64 0]) := by
  unfold surelyE; rw [if_pos (by kernel_rfl)]; rfl
theorem ex_s3 : surelyE oneC (trC 2 2 2) = .returned (.tuple #[.int .u8 2, .int .i64 0]) := by
  unfold surelyE; rw [if_pos (by kernel_rfl)]; rfl
end Go.Proofs.Ytjmdgbdlhaaefaa
/- inquestref00.Bytes, by its contract. -/
namespace Go.Proofs.Ytjmdgbdlhaaefaa
open Go Go.RowKit

set_option maxRecDepth 100000 in
set_option maxHeartbeats 400000 in
theorem bytes_any (bs cs : List UInt8) (a a' : Option Addr) (n c n' c' : Nat) (w : World) (h : Sees w a n c (bs.map bv)) (h' : Sees w a' n' c' (cs.map bv)) :
    Calls Try.prog 11 #[.slice a n c, .slice a' n' c'] w fun e w' => e = .returned (.bool (bs == cs)) ∧ w = w' := by
  have q1 := h.str (P := Try.prog) 27 5 9 Try.underlying27 Try.underlying5 Try.underlying9
  have q2 := h'.str (P := Try.prog) 27 5 9 Try.underlying27 Try.underlying5 Try.underlying9
  clear h h'
  go_enter Try.func11, Try.ntmps11
  go_wp2
  go_ret
  exact ⟨by simp [str], rfl⟩
end Go.Proofs.Ytjmdgbdlhaaefaa
/- inquestref00.Tables, inquestref03.SameTrace: are two traces the same? -/
namespace Go.Proofs.Ytjmdgbdlhaaefaa
open Go Go.RowKit Go.Joins

theorem info_tab : (Try.prog.info? 27).map (fun i => (i.zero, i.size, i.bytes)) = some (some (.slice none 0 0), 1, 24) := by kernel_rfl
theorem size_tab : ∀ w, (sizeOf 27).run Try.prog w = .ok 1 w := fun w => by
  obtain ⟨i0, hi, hz0, hz1, hz2⟩ := info_parts info_tab
  simp [sizeOf, typeInfo, hi, hz1]
theorem Sees.slice_at {w : World} {b off n c : Nat} {ss : List Slc} (h : Sees w (some ⟨b, off, .none⟩) n c (ss.map slV)) (j : Nat) (hj : j < n) :
    w.cell? ⟨b, off + j, .none⟩ = some (.slice (ss.getD j slc0).1 (ss.getD j slc0).2.1 (ss.getD j slc0).2.2) := by
  have hl : ss.length = n := h.lenMap
  rw [(h.cell j hj).2]
  simp [slV, List.getD, List.getElem?_eq_getElem (show j < ss.length by omega)]
theorem bytes_at (bs cs : List UInt8) (a a' : Option Addr) (n c n' c' : Nat) (w : World) (h : Sees w a n c (bs.map bv)) (h' : Sees w a' n' c' (cs.map bv)) :
    Calls Try.prog 11 #[.slice a n c, .slice a' n' c'] w fun e w' => e = .returned (.bool (decide (bs = cs))) ∧ w' = w := by
  refine (bytes_any bs cs a a' n c n' c' w h h').mono fun e w' hp => ?_
  obtain ⟨h1, rfl⟩ := hp
  exact ⟨by rw [show decide (bs = cs) = (bs == cs) by by_cases e : bs = cs <;> simp [e]]; exact h1, rfl⟩

/-- Where k lines have been held against each other. -/
structure TabI (w : World) (ss ss' : List Slc) (fs gs : List (List UInt8)) (n k : Nat) (a1 : Option Addr) (c1 : Nat) (a2 : Option Addr) (c2 : Nat) (wr : World) : Prop where
  s1 : Sees wr a1 (n - k) c1 ((ss.drop k).map slV)
  s2 : Sees wr a2 (n - k) c2 ((ss'.drop k).map slV)
  eq : ∀ j, j < k → fs.getD j [] = gs.getD j []
  bel : Below w.heap.size w wr
def slenT : Value → Nat | .slice _ m _ => m | _ => 0

set_option maxRecDepth 100000 in
set_option maxHeartbeats 1600000 in
theorem tables_any (fs gs : List (List UInt8)) (ss ss' : List Slc) (a a' : Option Addr) (n c n' c' : Nat) (w : World) (h : SeesF w a n c ss fs) (h' : SeesF w a' n' c' ss' gs) (hn : n ≤ 1048576) :
    Calls Try.prog 16 #[.slice a n c, .slice a' n' c'] w fun e w' => e = .returned (.bool (decide (fs = gs))) ∧ Below w.heap.size w w' := by
  have hl := h.n_eq
  have hl' := h'.n_eq
  obtain ⟨q, hq⟩ : ∃ q, q = decide (fs = gs) := ⟨_, rfl⟩
  have NO : fs ≠ gs → q = false := fun h => by rw [hq]; simpa using h
  rw [← hq]
  by_cases hne : n = n'
  · subst hne
    have YES : (∀ j, j < n → fs.getD j [] = gs.getD j []) → q = true := fun h => by
      rw [hq, decide_eq_true_eq]
      apply List.ext_getElem (by omega)
      intro i h1 h2
      have := h i (by omega)
      simpa [List.getD, List.getElem?_eq_getElem h1, List.getElem?_eq_getElem h2] using this
    have H := Lib.hid h
    have H' := Lib.hid h'
    have HL := Lib.hid hl
    have HL' := Lib.hid hl'
    have HNO := Lib.hid NO
    have HYES := Lib.hid YES
    clear h h' hl hl' NO YES hq
    go_enter Try.func16, Try.ntmps16
    go_wp2
    go_loopw [0, 1] (fun a b wr => ∃ (k : Nat) (a1 : Option Addr) (c1 : Nat) (a2 : Option Addr) (c2 : Nat), k ≤ n ∧ a = .slice a1 (n - k) c1 ∧ b = .slice a2 (n - k) c2 ∧ Hid (TabI w ss ss' fs gs n k a1 c1 a2 c2 wr))
      (fun a _ _ => slenT a)
    case atStart => exact ⟨0, _, _, _, _, Nat.zero_le _, rfl, rfl, ⟨H.out.row, H'.out.row, fun j hj => absurd hj (by omega), Below.refl _ _⟩⟩
    case round =>
      obtain ⟨k, a1, c1, a2, c2, hk, rfl, rfl, hI⟩ := hrel
      obtain ⟨s1, s2, heq, hbel⟩ := hI.out
      clear hI
      by_cases hlt : k < n
      · obtain ⟨b1, o1, rfl, _⟩ := s1.addr (by omega)
        obtain ⟨b2, o2, rfl, _⟩ := s2.addr (by omega)
        obtain ⟨x, hx⟩ : ∃ x : Slc, x = ss.getD k slc0 := ⟨_, rfl⟩
        obtain ⟨y, hy⟩ : ∃ y : Slc, y = ss'.getD k slc0 := ⟨_, rfl⟩
        have hsx := (H.out.below hbel).each k (by rw [HL.out]; exact hlt)
        have hsy := (H'.out.below hbel).each k (by rw [HL'.out]; exact hlt)
        rw [← hx] at hsx
        rw [← hy] at hsy
        have hc1 : wr.cell? ⟨b1, o1, none⟩ = some (.slice x.1 x.2.1 x.2.2) := by
          have := s1.slice_at 0 (by omega)
          rw [hx, ← show (ss.drop k).getD 0 slc0 = ss.getD k slc0 by simp [List.getD]]
          exact this
        have hc2 : wr.cell? ⟨b2, o2, none⟩ = some (.slice y.1 y.2.1 y.2.2) := by
          have := s2.slice_at 0 (by omega)
          rw [hy, ← show (ss'.drop k).getD 0 slc0 = ss'.getD k slc0 by simp [List.getD]]
          exact this
        obtain ⟨xa, xn, xc⟩ := x
        obtain ⟨ya, yn, yc⟩ := y
        simp only at hsx hsy hc1 hc2
        obtain ⟨p, hp⟩ : ∃ p, p = decide (fs.getD k [] = gs.getD k []) := ⟨_, rfl⟩
        have HCALL : Hid (∀ m, Calls Try.prog 11 #[.slice xa xn xc, .slice ya yn yc] (wr.drewN m) fun e w' => e = .returned (.bool p) ∧ w' = wr.drewN m) := fun m => by
          rw [hp]
          exact bytes_at _ _ xa ya xn xc yn yc (wr.drewN m) (hsx.below (ext_drewN wr m)) (hsy.below (ext_drewN wr m))
        obtain ⟨a3, ec3, see3⟩ := s1.cut 1 (n - k) (by omega) (Nat.le_refl _)
        obtain ⟨a4, ec4, see4⟩ := s2.cut 1 (n - k) (by omega) (Nat.le_refl _)
        have q1 := fun W => (run_from (P := Try.prog) Try.underlying28 size_tab W (some ⟨b1, o1, none⟩) (n - k) c1 1 1 rfl (by omega)).trans (congrArg (fun v => Result.ok v W) ec3)
        have q2 := fun W => (run_from (P := Try.prog) Try.underlying28 size_tab W (some ⟨b2, o2, none⟩) (n - k) c2 1 1 rfl (by omega)).trans (congrArg (fun v => Result.ok v W) ec4)
        have S3 : Hid (Sees wr a3 (n - (k + 1)) (c1 - 1) ((ss.drop (k + 1)).map slV)) := by
          have e : (List.map slV (ss.drop k)).take (n - k) = List.map slV (ss.drop k) := List.take_of_length_le (by rw [s1.len]; exact Nat.le_refl _)
          rw [e, ← List.map_drop, List.drop_drop] at see3
          exact see3
        have S4 : Hid (Sees wr a4 (n - (k + 1)) (c2 - 1) ((ss'.drop (k + 1)).map slV)) := by
          have e : (List.map slV (ss'.drop k)).take (n - k) = List.map slV (ss'.drop k) := List.take_of_length_le (by rw [s2.len]; exact Nat.le_refl _)
          rw [e, ← List.map_drop, List.drop_drop] at see4
          exact see4
        have HP := Lib.hid hp
        have HBL := Lib.hid hbel
        have HEQ := Lib.hid heq
        have hpos : (0 : Int) < ((n - k : Nat) : Int) := by omega
        clear ec3 ec4 see3 see4 hx hy hp heq s1 s2 hsx hsy hbel
        cases p with
        | true =>
          go_wp2
          go_quiet ((go_at_call 11; exact Calls.quiet_of_same (HCALL.out _)))
          go_wp2
          go_quiet (fail)
          go_wp2
          go_roundw
          case rel =>
            refine ⟨k + 1, _, _, _, _, by omega, rfl, rfl, ⟨S3.out.below (ext_trans (ext_drewN _ _) (ext_drewN _ _)), S4.out.below (ext_trans (ext_drewN _ _) (ext_drewN _ _)), fun j hj => ?_, ext_trans HBL.out (ext_trans (ext_drewN _ _) (ext_drewN _ _))⟩⟩
            rcases Nat.lt_or_ge j k with h | h
            · exact HEQ.out j h
            · have : j = k := by omega
              subst this
              exact of_decide_eq_true HP.out.symm
          case measure => simp [slenT]; omega
        | false =>
          have HF : Hid (q = false) := HNO.out fun e => by
            have := HP.out
            rw [e] at this
            simp at this
          go_wp2
          go_quiet ((go_at_call 11; exact Calls.quiet_of_same (HCALL.out _)))
          go_wp2
          go_ret
          exact ⟨by rw [HF.out]; rfl, ext_trans HBL.out (ext_drewN _ _)⟩
      · have hkn : k = n := by omega
        subst hkn
        have HT : Hid (q = true) := HYES.out heq
        have HBL := Lib.hid hbel
        clear heq s1 s2 hbel
        go_wp2
        go_ret
        exact ⟨by rw [HT.out]; rfl, HBL.out⟩
  · have hb : ((n : Int) != (n' : Int)) = true := by simp; omega
    have hb' : ((n : Int) == (n' : Int)) = false := by simp; omega
    have HF : Hid (q = false) := NO fun e => hne (by rw [← hl, ← hl', e])
    clear h h' hl hl' NO hq hne
    go_enter Try.func16, Try.ntmps16
    go_wp2
    go_ret
    exact ⟨by rw [HF.out]; rfl, Below.refl _ _⟩

set_option maxRecDepth 100000 in
set_option maxHeartbeats 1600000 in
theorem sametr_any (t u : TraceC) (s s' : TSlots) (w : World) (h : SeesTr w s t) (h' : SeesTr w s' u) (hs : s.small) (hb1 : -9223372036854775808 ≤ t.bad ∧ t.bad < 9223372036854775808) (hb2 : -9223372036854775808 ≤ u.bad ∧ u.bad < 9223372036854775808) :
    Calls Try.prog 17 #[traceV t.bad s, traceV u.bad s'] w fun e w' => e = .returned (.bool (decide (t = u))) ∧ Below w.heap.size w w' := by
  obtain ⟨a1, n1, c1, a2, n2, c2, ss⟩ := s
  obtain ⟨a1', n1', c1', a2', n2', c2', ss'⟩ := s'
  obtain ⟨z, init, fs⟩ := t
  obtain ⟨z', init', fs'⟩ := u
  have hn2 := hs.n2
  simp only at hn2 hb1 hb2
  obtain ⟨q, hq⟩ : ∃ q, q = decide ((⟨z, init, fs⟩ : TraceC) = ⟨z', init', fs'⟩) := ⟨_, rfl⟩
  have hiff : q = (decide (z = z') && (decide (init = init') && decide (fs = fs'))) := by
    rw [hq]
    by_cases e1 : z = z' <;> by_cases e2 : init = init' <;> by_cases e3 : fs = fs' <;> simp [e1, e2, e3]
  rw [← hq]
  have EB : Hid (∀ W, Below w.heap.size w W → Calls Try.prog 11 #[.slice a1 n1 c1, .slice a1' n1' c1'] W fun e w' => e = .returned (.bool (decide (init = init'))) ∧ w' = W) := fun W hb => bytes_at _ _ a1 a1' n1 c1 n1' c1' W (h.s1.below hb) (h'.s1.below hb)
  have ET : Hid (∀ W, Below w.heap.size w W → Calls Try.prog 16 #[.slice a2 n2 c2, .slice a2' n2' c2'] W fun e w' => e = .returned (.bool (decide (fs = fs'))) ∧ Below W.heap.size W w') := fun W hb => tables_any fs fs' ss ss' a2 a2' n2 c2 n2' c2' W (h.s2.below hb) (h'.s2.below hb) hn2
  obtain ⟨q2, hq2⟩ : ∃ q, q = decide (init = init') := ⟨_, rfl⟩
  obtain ⟨q3, hq3⟩ : ∃ q, q = decide (fs = fs') := ⟨_, rfl⟩
  rw [← hq2] at EB hiff
  rw [← hq3] at ET hiff
  have HI := Lib.hid hiff
  clear hq hq2 hq3 hiff h h' hs
  unfold traceV
  by_cases h0 : z = z'
  case neg =>
    have e0 : (z == z') = false := by simpa using h0
    have HF : Hid (q = false) := by show _ = _; rw [HI.out]; simp [h0]
    clear h0
    go_enter Try.func17, Try.ntmps17
    go_wp2
    go_ret
    exact ⟨by rw [HF.out]; rfl, ext_trans (ext_alloc _ _) (ext_alloc _ _)⟩
  subst h0
  have HQ : Hid (q = (q2 && q3)) := by show _ = _; rw [HI.out]; simp
  clear HI
  go_enter Try.func17, Try.ntmps17
  go_wp2_with fail
  refine (EB.out _ (ext_trans (ext_alloc _ _) (ext_alloc _ _))).mono ?_
  rintro e W1 ⟨rfl, rfl⟩
  cases q2 with
  | false =>
    go_wp2
    go_ret
    exact ⟨by rw [HQ.out]; rfl, ext_trans (ext_alloc _ _) (ext_alloc _ _)⟩
  | true =>
    go_wp2_with fail
    refine (ET.out _ (ext_trans (ext_alloc _ _) (ext_alloc _ _))).mono ?_
    rintro e W2 ⟨rfl, hb⟩
    have HB := Lib.hid (ext_trans (ext_trans (ext_alloc _ _) (ext_alloc _ _)) hb)
    clear hb
    go_wp2
    go_ret
    exact ⟨by rw [HQ.out]; simp, HB.out⟩
end Go.Proofs.Ytjmdgbdlhaaefaa
/- The law's own examples hold. -/
namespace Go.Proofs.Ytjmdgbdlhaaefaa
open Go Go.RowKit Go.Joins

set_option maxRecDepth 100000 in
set_option maxHeartbeats 6400000 in
theorem lives7_any (w : World) : Calls Try.prog 7 #[] w fun e w' => e = .returned (.bool true) ∧ Below w.heap.size w w' := by
  have HONE : Hid (∀ W, Calls Try.prog 30 #[] W fun e w' => ∃ s : CSlots, e = .returned (.agg #[.int .i64 1, .slice s.a1 s.n1 s.c1, .slice s.a2 s.n2 s.c2, .slice s.a3 s.n3 s.c3, .slice s.a4 s.n4 s.c4, .slice s.a5 s.n5 s.c5]) ∧ SeesCir w' s oneC ∧ s.small ∧ Below W.heap.size W w') := one_any
  have T1 : Hid (∀ W, Calls Try.prog 31 #[.int .u8 0, .int .u8 1, .int .u8 2] W fun e w' => ∃ s : TSlots, e = .returned (.agg #[.int .i64 0, .slice s.a1 s.n1 s.c1, .slice s.a2 s.n2 s.c2]) ∧ SeesTr w' s (trC 0 1 2) ∧ s.small ∧ Below W.heap.size W w') := trace_any 0 1 2
  have T2 : Hid (∀ W, Calls Try.prog 31 #[.int .u8 2, .int .u8 0, .int .u8 0] W fun e w' => ∃ s : TSlots, e = .returned (.agg #[.int .i64 0, .slice s.a1 s.n1 s.c1, .slice s.a2 s.n2 s.c2]) ∧ SeesTr w' s (trC 2 0 0) ∧ s.small ∧ Below W.heap.size W w') := trace_any 2 0 0
  have T3 : Hid (∀ W, Calls Try.prog 31 #[.int .u8 2, .int .u8 2, .int .u8 2] W fun e w' => ∃ s : TSlots, e = .returned (.agg #[.int .i64 0, .slice s.a1 s.n1 s.c1, .slice s.a2 s.n2 s.c2]) ∧ SeesTr w' s (trC 2 2 2) ∧ s.small ∧ Below W.heap.size W w') := trace_any 2 2 2
  go_enter Try.func7, Try.ntmps7
  go_wp2_with fail
  refine (HONE.out _).mono ?_
  rintro e X0 ⟨s0, rfl, hs0, hm0, bx0⟩
  go_wp2_with fail
  refine (T1.out _).mono ?_
  rintro e Y0 ⟨t0, rfl, ht0, hn0, by0⟩
  have HC0 := Lib.hid (hs0.below by0)
  have HT0 := Lib.hid ht0
  have HM0 := Lib.hid (And.intro hm0 hn0)
  skip
  have BY0 : Hid (Below w.heap.size w Y0) := ext_trans bx0 by0
  clear hs0 hm0 bx0 ht0 hn0 by0
  go_wp2_with fail
  refine (run_any2 oneC (trC 0 1 2) s0 t0 _ HC0.out HT0.out HM0.out.1 HM0.out.2 (by decide) (by decide) (by decide)).mono ?_
  rintro e Z0 ⟨h1, _, bz0⟩
  obtain ⟨v, ss, rfl, hl, ho, hr⟩ := h1 ex_fits
  obtain ⟨va, vc, rfl⟩ := ownsN_form ho
  have HR := Lib.hid (And.intro hl (And.intro ho hr))
  have BZ0 := Lib.hid (ext_trans BY0.out bz0)
  have CZ0 : Hid (Below Z0.heap.size Z0 Z0) := Below.refl _ _
  have HL2 : Hid ((trC 0 1 2).frames.length = 2) := rfl
  clear h1 hl ho hr bz0
  rw [HL2.out]
  go_wp2_with fail
  refine (HONE.out _).mono ?_
  rintro e X1 ⟨s1, rfl, hs1, hm1, bx1⟩
  go_wp2_with fail
  refine (T1.out _).mono ?_
  rintro e Y1 ⟨t1, rfl, ht1, hn1, by1⟩
  have HC1 := Lib.hid (hs1.below by1)
  have HT1 := Lib.hid ht1
  have HM1 := Lib.hid (And.intro hm1 hn1)
  have CY1 := Lib.hid (ext_trans CZ0.out (ext_trans bx1 by1))
  have BY1 : Hid (Below w.heap.size w Y1) := ext_trans BZ0.out (ext_trans bx1 by1)
  clear hs1 hm1 bx1 ht1 hn1 by1
  go_wp2_with fail
  refine (fails_any oneC (trC 0 1 2) s1 t1 _ HC1.out HT1.out HM1.out.1 HM1.out.2 (by decide) (by decide) (by decide)).mono ?_
  rintro e Z1 ⟨rfl, bz1⟩
  rw [ex_f]
  have BZ1 := Lib.hid (ext_trans BY1.out bz1)
  have CZ1 := Lib.hid (ext_trans CY1.out bz1)
  clear bz1
  go_wp2_with fail
  refine (HONE.out _).mono ?_
  rintro e X2 ⟨s2, rfl, hs2, hm2, bx2⟩
  go_wp2_with fail
  refine (T1.out _).mono ?_
  rintro e Y2 ⟨t2, rfl, ht2, hn2, by2⟩
  have HC2 := Lib.hid (hs2.below by2)
  have HT2 := Lib.hid ht2
  have HM2 := Lib.hid (And.intro hm2 hn2)
  have CY2 := Lib.hid (ext_trans CZ1.out (ext_trans bx2 by2))
  have BY2 : Hid (Below w.heap.size w Y2) := ext_trans BZ1.out (ext_trans bx2 by2)
  clear hs2 hm2 bx2 ht2 hn2 by2
  go_wp2_with fail
  refine (surely_any oneC (trC 0 1 2) s2 t2 _ HC2.out HT2.out HM2.out.1 HM2.out.2 (by decide) (by decide) (by decide)).mono ?_
  rintro e Z2 ⟨rfl, bz2⟩
  rw [ex_s1]
  have BZ2 := Lib.hid (ext_trans BY2.out bz2)
  have CZ2 := Lib.hid (ext_trans CY2.out bz2)
  clear bz2
  go_wp2_with fail
  refine (HONE.out _).mono ?_
  rintro e X3 ⟨s3, rfl, hs3, hm3, bx3⟩
  go_wp2_with fail
  refine (T2.out _).mono ?_
  rintro e Y3 ⟨t3, rfl, ht3, hn3, by3⟩
  have HC3 := Lib.hid (hs3.below by3)
  have HT3 := Lib.hid ht3
  have HM3 := Lib.hid (And.intro hm3 hn3)
  have CY3 := Lib.hid (ext_trans CZ2.out (ext_trans bx3 by3))
  have BY3 : Hid (Below w.heap.size w Y3) := ext_trans BZ2.out (ext_trans bx3 by3)
  clear hs3 hm3 bx3 ht3 hn3 by3
  go_wp2_with fail
  refine (surely_any oneC (trC 2 0 0) s3 t3 _ HC3.out HT3.out HM3.out.1 HM3.out.2 (by decide) (by decide) (by decide)).mono ?_
  rintro e Z3 ⟨rfl, bz3⟩
  rw [ex_s2]
  have BZ3 := Lib.hid (ext_trans BY3.out bz3)
  have CZ3 := Lib.hid (ext_trans CY3.out bz3)
  clear bz3
  go_wp2_with fail
  refine (HONE.out _).mono ?_
  rintro e X4 ⟨s4, rfl, hs4, hm4, bx4⟩
  go_wp2_with fail
  refine (T3.out _).mono ?_
  rintro e Y4 ⟨t4, rfl, ht4, hn4, by4⟩
  have HC4 := Lib.hid (hs4.below by4)
  have HT4 := Lib.hid ht4
  have HM4 := Lib.hid (And.intro hm4 hn4)
  have CY4 := Lib.hid (ext_trans CZ3.out (ext_trans bx4 by4))
  have BY4 : Hid (Below w.heap.size w Y4) := ext_trans BZ3.out (ext_trans bx4 by4)
  clear hs4 hm4 bx4 ht4 hn4 by4
  go_wp2_with fail
  refine (surely_any oneC (trC 2 2 2) s4 t4 _ HC4.out HT4.out HM4.out.1 HM4.out.2 (by decide) (by decide) (by decide)).mono ?_
  rintro e Z4 ⟨rfl, bz4⟩
  rw [ex_s3]
  have BZ4 := Lib.hid (ext_trans BY4.out bz4)
  have CZ4 := Lib.hid (ext_trans CY4.out bz4)
  clear bz4
  clear HONE T1 T2 T3
  go_wp2_with fail
  generalize hW : World.alloc (World.alloc (World.alloc Z4 _) _) _ = W1
  have hb : Below Z4.heap.size Z4 W1 := by subst hW; exact ext_trans (ext_alloc _ _) (ext_trans (ext_alloc _ _) (ext_alloc _ _))
  have h1 : W1.heap[Z4.heap.size]? = some (.cells #[.int .u8 0, .int .u8 1, .int .u8 0] 5 (0, 0)) := by subst hW; exact heap_below (heap_below (heap_new _ _ _ rfl) (ext_alloc _ _)) (ext_alloc _ _)
  have h2 : W1.heap[Z4.heap.size + 1]? = some (.cells #[.int .u8 0, .int .u8 2, .int .u8 1] 5 (0, 0)) := by subst hW; exact heap_below (heap_new _ _ _ (by simp)) (ext_alloc _ _)
  have h3 : W1.heap[Z4.heap.size + 1 + 1]? = some (.cells #[.slice (some ⟨Z4.heap.size, 0, none⟩) 3 3, .slice (some ⟨Z4.heap.size + 1, 0, none⟩) 3 3] 27 (0, 0)) := by subst hW; exact heap_new _ _ _ (by simp)
  clear hW
  have hf : SeesF W1 va 2 vc ss [[0, 1, 0], [0, 2, 1]] := by
    have hz := ext_trans CZ4.out hb
    obtain ⟨hl, ho, hr⟩ := HR.out
    refine ⟨(owns_sees_slice ho).2.below hz, hl, fun k hk => ?_⟩
    match k, hk with
    | 0, _ =>
      have h := hr 0 (by rw [HL2.out]; omega)
      rw [ex_v0] at h
      exact (row_sees_slice h).2.below hz
    | 1, _ =>
      have h := hr 1 (by rw [HL2.out]; omega)
      rw [ex_v1] at h
      exact (row_sees_slice h).2.below hz
    | k + 2, h => exact absurd h (by simp)
  have hg : SeesF W1 (some ⟨Z4.heap.size + 1 + 1, 0, none⟩) 2 2 [(some ⟨Z4.heap.size, 0, none⟩, 3, 3), (some ⟨Z4.heap.size + 1, 0, none⟩, 3, 3)] [[0, 1, 0], [0, 2, 1]] := by
    refine ⟨sees_cells h3 _ 2 rfl rfl, rfl, fun k hk => ?_⟩
    match k, hk with
    | 0, _ => exact sees_cells h1 [bv 0, bv 1, bv 0] 3 rfl rfl
    | 1, _ => exact sees_cells h2 [bv 0, bv 2, bv 1] 3 rfl rfl
    | k + 2, h => exact absurd h (by simp)
  have HB := Lib.hid (ext_trans BZ4.out hb)
  refine (tables_any _ _ ss _ va _ 2 vc 2 2 W1 hf hg (by omega)).mono ?_
  rintro e W2 ⟨rfl, hb2⟩
  have HB2 := Lib.hid (ext_trans HB.out hb2)
  clear h1 h2 h3 hf hg hb hb2
  go_wp2
  go_ret
  exact ⟨rfl, HB2.out⟩
end Go.Proofs.Ytjmdgbdlhaaefaa
/- A region of a function's body, taken out by its number. -/
namespace Go.Proofs.Ytjmdgbdlhaaefaa
open Go
def findRegion (n : Nat) : Code → Option Code
  | .region k o d => if k = n then some (.region k o d) else none
  | .seq a b => match findRegion n a with
    | some c => some c
    | none => findRegion n b
  | .block _ c => findRegion n c
  | .scope c => findRegion n c
  | .loop c => findRegion n c
  | .cond _ a b => match findRegion n a with
    | some c => some c
    | none => findRegion n b
  | _ => none
end Go.Proofs.Ytjmdgbdlhaaefaa
/- A region of the law SimMany (x := like(t, l[i])), in whatever order. -/
namespace Go.Proofs.Ytjmdgbdlhaaefaa
open Go Go.RowKit Go.Joins

noncomputable def codeSMR8 : Code := ((Try.f4.body.bind (findRegion 8)).getD .skip)
set_option maxRecDepth 100000 in
set_option maxHeartbeats 25600000 in
theorem reg_SMR8 (P lb lo ln lc k NF : Nat) (bad : Int) (a1 : Option Addr) (n1 c1 : Nat) (a2 : Option Addr) (n2 c2 : Nat) (xa : Option Addr) (xn xc : Nat) (X0 : World)
    (HELDB : Hid (∀ W, Below X0.heap.size X0 W → (W.cell? ⟨P, 0, none⟩ = some (.int .i64 bad) ∧ W.cell? ⟨P, 1, none⟩ = some (.slice a1 n1 c1) ∧ W.cell? ⟨P, 2, none⟩ = some (.slice a2 n2 c2) ∧ W.cell? ⟨lb, lo + k, none⟩ = some (.slice xa xn xc))))
    (hk : k < ln) (E1 : Hid (∀ W, Below X0.heap.size X0 W → Calls Try.prog 25 #[.agg #[.int .i64 bad, .slice a1 n1 c1, .slice a2 n2 c2], .slice xa xn xc] W fun e w' => ∃ (u : TraceC) (s' : TSlots), e = .returned (.agg #[.int .i64 u.bad, .slice s'.a1 s'.n1 s'.c1, .slice s'.a2 s'.n2 s'.c2]) ∧ OwnT4 w' W.heap.size s' u ∧ u.bad = bad ∧ u.frames.length = NF ∧ s'.small ∧ Below W.heap.size W w'))
    (QQ : Exit → Act → World → Prop)
    {v0 v1 v3 v4 v6 v7 v8 v9 v10 v12 v13 v14 v15 v16 v17 v18 v19 v20 v21 v22 v23 v24 v25 v26 v27 v28 v29 v30 v31 v32 v33 v34 v35 v36 v37 v38 v39 v40 v41 v42 v43 v44 v45 v46 v47 v48 v49 v50 v51 v52 v53 v54 v55 v56 v57 v58 v59 v60 v61 v62 v63 v64 v65 v66 v67 v68 v69 v70 v71 v72 v73 v74 v75 v76 v77 v78 v79 v80 v81 v82 v83 v84 v85 v86 v87 v88 v89 v90 v91 v92 v93 v94 v95 v96 v97 v98 v99 v100 v101 v102 v103 v104 v105 v106 v107 v108 v109 v110 v111 v112 v113 v114 v115 v116 v117 v118 v119 v120 v121 v122 v123 v124 v125 v126 v127 v128 v129 v130 v131 v132 v133 v134 v135 v136 v137 v138 v139 v140 v141 v142 v143 v144 v145 v146 v147 v148 v149 v150 v151 v152 v153 v154 v155 v156 v157 v158 v159 v160 v161 v162 v163 v164 v165 v166 v167 v168 v169 v170 v171 v172 v173 v174 v175 v176 v177 v178 v179 v180 v181 v182 v183 : Value}
    (hK : ∀ (G : Nat) (u : TraceC) (s' : TSlots) (wx : World) (u52 u53 u54 u55 u56 u57 : Value), X0.heap.size ≤ G → wx.heap[G]? = some (.cells #[.int .i64 u.bad, .slice s'.a1 s'.n1 s'.c1, .slice s'.a2 s'.n2 s'.c2] 30 (0, 0)) → OwnT4 wx X0.heap.size s' u → u.bad = bad ∧ u.frames.length = NF ∧ s'.small → Below X0.heap.size X0 wx → QQ .normal ⟨#[v0, v1, .slice (some ⟨lb, lo, none⟩) ln lc, v3, v4, .pointer (some ⟨P, 0, .none⟩), v6, v7, v8, v9, v10, .int .i64 (k : Int), .pointer (some ⟨G, 0, .none⟩), 
      v13, v14, v15, v16, v17, v18, v19, v20, v21, v22, v23, v24, v25, v26, v27, v28, v29, v30, v31, v32, v33, v34, v35, v36, v37, v38, v39, v40, v41, v42, v43, 
      v44, v45, v46, v47, v48, v49, v50, v51, u52, u53, u54, u55, u56, u57, v58, v59, v60, v61, v62, v63, v64, v65, v66, v67, v68, v69, v70, v71, v72, v73, v74, 
      v75, v76, v77, v78, v79, v80, v81, v82, v83, v84, v85, v86, v87, v88, v89, v90, v91, v92, v93, v94, v95, v96, v97, v98, v99, v100, v101, v102, v103, v104, 
      v105, v106, v107, v108, v109, v110, v111, v112, v113, v114, v115, v116, v117, v118, v119, v120, v121, v122, v123, v124, v125, v126, v127, v128, v129, v130, 
      v131, v132, v133, v134, v135, v136, v137, v138, v139, v140, v141, v142, v143, v144, v145, v146, v147, v148, v149, v150, v151, v152, v153, v154, v155, v156, 
      v157, v158, v159, v160, v161, v162, v163, v164, v165, v166, v167, v168, v169, v170, v171, v172, v173, v174, v175, v176, v177, v178, v179, v180, v181, v182, 
      v183], []⟩ wx) :
    Code.wp Try.prog codeSMR8 QQ ⟨#[v0, v1, .slice (some ⟨lb, lo, none⟩) ln lc, v3, v4, .pointer (some ⟨P, 0, .none⟩), v6, v7, v8, v9, v10, .int .i64 (k : Int), v12, v13, v14, v15, v16, v17, 
      v18, v19, v20, v21, v22, v23, v24, v25, v26, v27, v28, v29, v30, v31, v32, v33, v34, v35, v36, v37, v38, v39, v40, v41, v42, v43, v44, v45, v46, v47, v48, 
      v49, v50, v51, v52, v53, v54, v55, v56, v57, v58, v59, v60, v61, v62, v63, v64, v65, v66, v67, v68, v69, v70, v71, v72, v73, v74, v75, v76, v77, v78, v79, 
      v80, v81, v82, v83, v84, v85, v86, v87, v88, v89, v90, v91, v92, v93, v94, v95, v96, v97, v98, v99, v100, v101, v102, v103, v104, v105, v106, v107, v108, 
      v109, v110, v111, v112, v113, v114, v115, v116, v117, v118, v119, v120, v121, v122, v123, v124, v125, v126, v127, v128, v129, v130, v131, v132, v133, v134, 
      v135, v136, v137, v138, v139, v140, v141, v142, v143, v144, v145, v146, v147, v148, v149, v150, v151, v152, v153, v154, v155, v156, v157, v158, v159, v160, 
      v161, v162, v163, v164, v165, v166, v167, v168, v169, v170, v171, v172, v173, v174, v175, v176, v177, v178, v179, v180, v181, v182, v183], []⟩ X0 := by
  have hk1 : (k : Int) < (ln : Int) := by omega
  have hk0 : (0 : Int) ≤ (k : Int) := by omega
  conv => arg 2; whnf
  refine wp_region_noPanic ?_
  refine wp_region_held (S := fun w' => w'.cell? ⟨P, 0, none⟩ = some (.int .i64 bad) ∧ w'.cell? ⟨P, 1, none⟩ = some (.slice a1 n1 c1) ∧ w'.cell? ⟨P, 2, none⟩ = some (.slice a2 n2 c2) ∧ w'.cell? ⟨lb, lo + k, none⟩ = some (.slice xa xn xc)) (by kernel_rfl) ?_
  generalize hY : ({ X0 with drawn := X0.drawn + 1 } : World) = Y0
  have hY0 : Below X0.heap.size X0 Y0 := by subst hY; exact (Below.refl _ _).drew
  have HELD := Lib.hid (HELDB.out Y0 hY0)
  have HBc := Lib.hid hY0
  clear hY hY0
  refine wpAnyH_take (i := 0) (v := ?_) (by simp only [List.getElem?_toArray, List.getElem?_cons_zero]; rfl) (by kernel_rfl) (by kernel_rfl) (by kernel_rfl) (fun _ _ _ h => h) (Or.inl ⟨by rfl, ?_⟩) HELD.out ?_
  rotate_left
  · intro w hSw
    (try dsimp only at hSw)
    obtain ⟨q0, q1, q2, q3⟩ := hSw
    go_simp
    try with_reducible rfl
  try simp only [Act.put, List.setIfInBounds_toArray, List.set_cons_zero, List.set_cons_succ]
  refine wpAnyH_take (i := 1) (v := ?_) (by simp only [List.getElem?_toArray, List.getElem?_cons_zero, List.getElem?_cons_succ]; rfl) (by kernel_rfl) (by kernel_rfl) (by kernel_rfl) (fun _ _ _ h => h) (Or.inl ⟨by rfl, ?_⟩) HELD.out ?_
  rotate_left
  · intro w hSw
    (try dsimp only at hSw)
    obtain ⟨q0, q1, q2, q3⟩ := hSw
    go_simp
    try with_reducible rfl
  try simp only [Act.put, List.setIfInBounds_toArray, List.set_cons_zero, List.set_cons_succ]
  refine wpAnyH_take (i := 2) (v := ?_) (by simp only [List.getElem?_toArray, List.getElem?_cons_zero, List.getElem?_cons_succ]; rfl) (by kernel_rfl) (by kernel_rfl) (by kernel_rfl) (fun _ _ _ h => h) (Or.inl ⟨by rfl, ?_⟩) HELD.out ?_
  rotate_left
  · intro w hSw
    (try dsimp only at hSw)
    obtain ⟨q0, q1, q2, q3⟩ := hSw
    go_simp
    try with_reducible rfl
  try simp only [Act.put, List.setIfInBounds_toArray, List.set_cons_zero, List.set_cons_succ]
  refine wpAnyH_take (i := 3) (v := ?_) (by simp only [List.getElem?_toArray, List.getElem?_cons_zero, List.getElem?_cons_succ]; rfl) (by kernel_rfl) (by kernel_rfl) (by kernel_rfl) (fun _ _ _ h => h) (Or.inl ⟨by rfl, ?_⟩) HELD.out ?_
  rotate_left
  · intro w hSw
    (try dsimp only at hSw)
    obtain ⟨q0, q1, q2, q3⟩ := hSw
    go_simp
    try with_reducible rfl
  try simp only [Act.put, List.setIfInBounds_toArray, List.set_cons_zero, List.set_cons_succ]
  refine wpAnyH_take (i := 4) (v := ?_) (by simp only [List.getElem?_toArray, List.getElem?_cons_zero, List.getElem?_cons_succ]; rfl) (by kernel_rfl) (by kernel_rfl) (by kernel_rfl) (fun _ _ _ h => h) (Or.inl ⟨by rfl, ?_⟩) HELD.out ?_
  rotate_left
  · intro w hSw
    (try dsimp only at hSw)
    obtain ⟨q0, q1, q2, q3⟩ := hSw
    go_simp
    try with_reducible rfl
  try simp only [Act.put, List.setIfInBounds_toArray, List.set_cons_zero, List.set_cons_succ]
  refine wpAnyH_ready (rs := [5, 6]) (by kernel_rfl) (by simp) ?_
  refine AllReadyH.cons (by simp only [List.getElem?_toArray, List.getElem?_cons_zero, List.getElem?_cons_succ]; rfl) (fun K hK => ?_) (AllReadyH.cons (by simp only [List.getElem?_toArray, List.getElem?_cons_zero, List.getElem?_cons_succ]; rfl) (fun K hK => ?_) AllReadyH.nil)
  · go_simp
    refine (E1.out _ HBc.out).mono ?_
    rintro e V1 ⟨u, s', rfl, ho, hub, huf, hsm, hb⟩
    have HO := Lib.hid (ho.base HBc.out.size)
    have HUB := Lib.hid (And.intro hub (And.intro huf hsm))
    have HBc := Lib.hid (ext_trans HBc.out hb)
    have HELD := Lib.hid (HELDB.out V1 HBc.out)
    clear ho hub huf hsm hb
    refine hK.out _ _ HELD.out (fun _ => ?_)
    clear hK K
    try simp only [Act.put, List.setIfInBounds_toArray, List.set_cons_zero, List.set_cons_succ]
    refine wpAnyH_ready (rs := [6]) (by kernel_rfl) (by simp) ?_
    refine AllReadyH.cons (by simp only [List.getElem?_toArray, List.getElem?_cons_zero, List.getElem?_cons_succ]; rfl) (fun K hK => ?_) AllReadyH.nil
    go_simp
    generalize hV : World.alloc V1 _ = V2
    have hb : Below V1.heap.size V1 V2 := by subst hV; exact ext_alloc _ _
    have HO := Lib.hid (HO.out.below hb)
    have HZ : Hid (V2.heap[V1.heap.size]? = some (.cells #[.int .i64 0, .slice none 0 0, .slice none 0 0] 30 (0, 0))) := by show _ = _; subst hV; exact heap_new _ _ _ rfl
    have HG := Lib.hid HBc.out.size
    have HBc := Lib.hid (ext_trans HBc.out hb)
    have HELD := Lib.hid (HELDB.out V2 HBc.out)
    clear hV hb
    refine hK.out _ _ HELD.out (fun _ => ?_)
    clear hK K
    try simp only [Act.put, List.setIfInBounds_toArray, List.set_cons_zero, List.set_cons_succ]
    refine wpAnyH_ready (rs := [7]) (by kernel_rfl) (by simp) ?_
    refine AllReadyH.cons (by simp only [List.getElem?_toArray, List.getElem?_cons_zero, List.getElem?_cons_succ]; rfl) (fun K hK => ?_) AllReadyH.nil
    have hh := HZ.out
    have z0 := cell_of_block hh 0
    have z1 := cell_of_block hh 1
    have z2 := cell_of_block hh 2
    have y0 := unfrozen_of_block hh 0
    have y1 := unfrozen_of_block hh 1
    have y2 := unfrozen_of_block hh 2
    clear hh
    go_simp
    clear z0 z1 z2 y0 y1 y2
    have hZ2 := tri_set_t HZ.out rfl (.int .i64 u.bad) (.slice s'.a1 s'.n1 s'.c1) (.slice s'.a2 s'.n2 s'.c2)
    have hb6 := set3_t (u0 := .int .i64 u.bad) (u1 := .slice s'.a1 s'.n1 s'.c1) (u2 := .slice s'.a2 s'.n2 s'.c2) (V1.heap.size) HG.out HBc.out
    have hO2 := OwnT4.set3 (u0 := .int .i64 u.bad) (u1 := .slice s'.a1 s'.n1 s'.c1) (u2 := .slice s'.a2 s'.n2 s'.c2) HO.out HZ.out
    have HELD := Lib.hid (HELDB.out _ hb6)
    generalize hV6 : World.setCell (World.setCell (World.setCell V2 _ _) _ _) _ _ = V3 at HELD hb6 hZ2 hO2 ⊢
    clear hV6
    have HBc := Lib.hid hb6
    have HZ := Lib.hid hZ2
    have HO := Lib.hid hO2
    clear hb6 hZ2 hO2
    refine hK.out _ _ HELD.out (fun _ => ?_)
    clear hK K
    try simp only [Act.put, List.setIfInBounds_toArray, List.set_cons_zero, List.set_cons_succ]
    refine wpAnyH_done (by kernel_rfl) ?_ _
    refine NoPanic.normal ?_
    exact hK _ _ _ _ _ _ _ _ _ _ HG.out HZ.out HO.out HUB.out HBc.out
  · go_simp
    generalize hV : World.alloc Y0 _ = V4
    have hb : Below Y0.heap.size Y0 V4 := by subst hV; exact ext_alloc _ _
    have HZ : Hid (V4.heap[Y0.heap.size]? = some (.cells #[.int .i64 0, .slice none 0 0, .slice none 0 0] 30 (0, 0))) := by show _ = _; subst hV; exact heap_new _ _ _ rfl
    have HG := Lib.hid HBc.out.size
    have HBc := Lib.hid (ext_trans HBc.out hb)
    have HELD := Lib.hid (HELDB.out V4 HBc.out)
    clear hV hb
    refine hK.out _ _ HELD.out (fun _ => ?_)
    clear hK K
    try simp only [Act.put, List.setIfInBounds_toArray, List.set_cons_zero, List.set_cons_succ]
    refine wpAnyH_ready (rs := [5]) (by kernel_rfl) (by simp) ?_
    refine AllReadyH.cons (by simp only [List.getElem?_toArray, List.getElem?_cons_zero, List.getElem?_cons_succ]; rfl) (fun K hK => ?_) AllReadyH.nil
    go_simp
    refine (E1.out _ HBc.out).mono ?_
    rintro e V5 ⟨u, s', rfl, ho, hub, huf, hsm, hb⟩
    have HZ := Lib.hid (heap_below HZ.out hb)
    have HO := Lib.hid (ho.base HBc.out.size)
    have HUB := Lib.hid (And.intro hub (And.intro huf hsm))
    have HBc := Lib.hid (ext_trans HBc.out hb)
    have HELD := Lib.hid (HELDB.out V5 HBc.out)
    clear ho hub huf hsm hb
    refine hK.out _ _ HELD.out (fun _ => ?_)
    clear hK K
    try simp only [Act.put, List.setIfInBounds_toArray, List.set_cons_zero, List.set_cons_succ]
    refine wpAnyH_ready (rs := [7]) (by kernel_rfl) (by simp) ?_
    refine AllReadyH.cons (by simp only [List.getElem?_toArray, List.getElem?_cons_zero, List.getElem?_cons_succ]; rfl) (fun K hK => ?_) AllReadyH.nil
    have hh := HZ.out
    have z0 := cell_of_block hh 0
    have z1 := cell_of_block hh 1
    have z2 := cell_of_block hh 2
    have y0 := unfrozen_of_block hh 0
    have y1 := unfrozen_of_block hh 1
    have y2 := unfrozen_of_block hh 2
    clear hh
    go_simp
    clear z0 z1 z2 y0 y1 y2
    have hZ2 := tri_set_t HZ.out rfl (.int .i64 u.bad) (.slice s'.a1 s'.n1 s'.c1) (.slice s'.a2 s'.n2 s'.c2)
    have hb6 := set3_t (u0 := .int .i64 u.bad) (u1 := .slice s'.a1 s'.n1 s'.c1) (u2 := .slice s'.a2 s'.n2 s'.c2) (Y0.heap.size) HG.out HBc.out
    have hO2 := OwnT4.set3 (u0 := .int .i64 u.bad) (u1 := .slice s'.a1 s'.n1 s'.c1) (u2 := .slice s'.a2 s'.n2 s'.c2) HO.out HZ.out
    have HELD := Lib.hid (HELDB.out _ hb6)
    generalize hV6 : World.setCell (World.setCell (World.setCell V5 _ _) _ _) _ _ = V6 at HELD hb6 hZ2 hO2 ⊢
    clear hV6
    have HBc := Lib.hid hb6
    have HZ := Lib.hid hZ2
    have HO := Lib.hid hO2
    clear hb6 hZ2 hO2
    refine hK.out _ _ HELD.out (fun _ => ?_)
    clear hK K
    try simp only [Act.put, List.setIfInBounds_toArray, List.set_cons_zero, List.set_cons_succ]
    refine wpAnyH_done (by kernel_rfl) ?_ _
    refine NoPanic.normal ?_
    exact hK _ _ _ _ _ _ _ _ _ _ HG.out HZ.out HO.out HUB.out HBc.out
end Go.Proofs.Ytjmdgbdlhaaefaa
namespace Go.Proofs.Ytjmdgbdlhaaefaa
open Go Go.RowKit Go.Joins

theorem ownsN_grown {w w' : World} {base k : Nat} {e : TypeId} {v : Value} {n : Nat} {xs : List Value} (h : w.ownsRow base e k v n xs) {base2 k2 m : Nat} {T : TypeId} {u : Value} {ys : List Value} (hr : w.ownsRow base2 T k2 u m ys) (hg : w.grownBy w' u.ownBlock) (ht : e ≠ T) : w'.ownsRow base e k v n xs :=
  ownsN_other h fun q hq => by
    obtain ⟨_, h2⟩ := h
    rcases h2 with ⟨h3, _⟩ | ⟨g, cap, cur, h3, _, hh, _⟩
    · rw [h3] at hq; cases hq
    · rw [h3] at hq
      have e1 : g = q := by simpa [Value.ownBlock] using hq
      subst e1
      exact hg.block g (heap_lt hh) (fun e2 => (ownsN_notown hr hh ht) e2.symm)
theorem OwnT4.grown {w w' : World} {base : Nat} {s : TSlots} {t : TraceC} (h : OwnT4 w base s t) {base2 k2 m : Nat} {T : TypeId} {u : Value} {ys : List Value} (hr : w.ownsRow base2 T k2 u m ys) (hg : w.grownBy w' u.ownBlock) (h1 : 5 ≠ T) (h2 : 27 ≠ T) : OwnT4 w' base s t :=
  ⟨row_grown h.o1 hr hg h1, ownsN_grown h.o2 hr hg h2, h.len, fun j hj => row_grown (h.rows j hj) hr hg h1⟩
theorem zeros_row {w : World} {base D m : Nat} (hb : base ≤ D) (h : w.heap[D]? = some (.cells (zeros (.int .u8 0) m) 5 (0, 0))) (hm : m ≤ 1000000) : Row isByte w base 5 (.slice (some ⟨D, 0, none⟩) m m) m ((List.replicate m (0 : UInt8)).map bv) := by
  refine ⟨by simp, .inr ⟨D, m, _, rfl, hb, h, Nat.le_refl _, by unfold maxLen; omega, size_zeros _ _, ?_, fun u hu => ?_⟩⟩
  · simp only [zeros]
    rw [List.take_of_length_le (by simp), List.map_replicate]
    rfl
  · simp only [zeros, List.mem_replicate] at hu
    rw [hu.2]; exact isByte_zero

noncomputable def codeSMR10 : Code := ((Try.f4.body.bind (findRegion 10)).getD .skip)
set_option maxRecDepth 100000 in
set_option maxHeartbeats 25600000 in
theorem reg_SMR10 (P G M base : Nat) (ci bad : Int) (x1 : Option Addr) (y1 z1 : Nat) (s' : TSlots) (u : TraceC) (X0 : World) (hbase : base ≤ X0.heap.size) (hPG : P ≠ G) (hGb : base ≤ G)
    (hP : X0.cell? ⟨P, 0, none⟩ = some (.int .i64 ci)) (PNE : Hid ((Value.slice s'.a2 s'.n2 s'.c2).ownBlock ≠ some P)) (hci : max ci 0 = (M : Int)) (hM : M ≤ 1000)
    (hG : X0.heap[G]? = some (.cells #[.int .i64 bad, .slice x1 y1 z1, .slice s'.a2 s'.n2 s'.c2] 30 (0, 0))) (hO : OwnT4 X0 base s' u) (hs : s'.small) (hnf : u.frames.length ≤ 1000) (hx1 : x1 = s'.a1 ∧ y1 = s'.n1 ∧ z1 = s'.c1)
    (QQ : Exit → Act → World → Prop)
    {v0 v1 v2 v3 v5 v6 v7 v8 v9 v10 v11 v13 v14 v15 v16 v17 v18 v19 v20 v21 v22 v23 v24 v25 v26 v27 v28 v29 v30 v31 v32 v33 v34 v35 v36 v37 v38 v39 v40 v41 v42 v43 v44 v45 v46 v47 v48 v49 v50 v51 v52 v53 v54 v55 v56 v57 v58 v59 v60 v61 v62 v63 v64 v65 v66 v67 v68 v69 v70 v71 v72 v73 v74 v75 v76 v77 v78 v79 v80 v81 v82 v83 v84 v85 v86 v87 v88 v89 v90 v91 v92 v93 v94 v95 v96 v97 v98 v99 v100 v101 v102 v103 v104 v105 v106 v107 v108 v109 v110 v111 v112 v113 v114 v115 v116 v117 v118 v119 v120 v121 v122 v123 v124 v125 v126 v127 v128 v129 v130 v131 v132 v133 v134 v135 v136 v137 v138 v139 v140 v141 v142 v143 v144 v145 v146 v147 v148 v149 v150 v151 v152 v153 v154 v155 v156 v157 v158 v159 v160 v161 v162 v163 v164 v165 v166 v167 v168 v169 v170 v171 v172 v173 v174 v175 v176 v177 v178 v179 v180 v181 v182 v183 : Value}
    (hK : ∀ (s2 : TSlots) (u2 : TraceC) (wx : World) (u63 u64 u65 u66 u67 u68 u69 u70 u71 : Value), OwnT4 wx base s2 u2 → s2.small → u2.bad = u.bad → u2.frames.length = u.frames.length + 1 → wx.heap[G]? = some (.cells #[.int .i64 bad, .slice s2.a1 s2.n1 s2.c1, .slice s2.a2 s2.n2 s2.c2] 30 (0, 0)) → (∀ B W, Below B W X0 → B ≤ base → Below B W wx) → QQ .normal ⟨#[v0, v1, v2, v3, .pointer (some ⟨P, 0, .none⟩), v5, v6, v7, v8, v9, v10, v11, .pointer (some ⟨G, 0, .none⟩), v13, v14, v15, v16, v17, v18, v19, v20, v21, 
      v22, v23, v24, v25, v26, v27, v28, v29, v30, v31, v32, v33, v34, v35, v36, v37, v38, v39, v40, v41, v42, v43, v44, v45, v46, v47, v48, v49, v50, v51, v52, 
      v53, v54, v55, v56, v57, v58, v59, v60, v61, v62, u63, u64, u65, u66, u67, u68, u69, u70, u71, v72, v73, v74, v75, v76, v77, v78, v79, v80, v81, v82, v83, 
      v84, v85, v86, v87, v88, v89, v90, v91, v92, v93, v94, v95, v96, v97, v98, v99, v100, v101, v102, v103, v104, v105, v106, v107, v108, v109, v110, v111, 
      v112, v113, v114, v115, v116, v117, v118, v119, v120, v121, v122, v123, v124, v125, v126, v127, v128, v129, v130, v131, v132, v133, v134, v135, v136, v137, 
      v138, v139, v140, v141, v142, v143, v144, v145, v146, v147, v148, v149, v150, v151, v152, v153, v154, v155, v156, v157, v158, v159, v160, v161, v162, v163, 
      v164, v165, v166, v167, v168, v169, v170, v171, v172, v173, v174, v175, v176, v177, v178, v179, v180, v181, v182, v183], []⟩ wx) :
    Code.wp Try.prog codeSMR10 QQ ⟨#[v0, v1, v2, v3, .pointer (some ⟨P, 0, .none⟩), v5, v6, v7, v8, v9, v10, v11, .pointer (some ⟨G, 0, .none⟩), v13, v14, v15, v16, v17, v18, v19, v20, v21, 
      v22, v23, v24, v25, v26, v27, v28, v29, v30, v31, v32, v33, v34, v35, v36, v37, v38, v39, v40, v41, v42, v43, v44, v45, v46, v47, v48, v49, v50, v51, v52, 
      v53, v54, v55, v56, v57, v58, v59, v60, v61, v62, v63, v64, v65, v66, v67, v68, v69, v70, v71, v72, v73, v74, v75, v76, v77, v78, v79, v80, v81, v82, v83, 
      v84, v85, v86, v87, v88, v89, v90, v91, v92, v93, v94, v95, v96, v97, v98, v99, v100, v101, v102, v103, v104, v105, v106, v107, v108, v109, v110, v111, 
      v112, v113, v114, v115, v116, v117, v118, v119, v120, v121, v122, v123, v124, v125, v126, v127, v128, v129, v130, v131, v132, v133, v134, v135, v136, v137, 
      v138, v139, v140, v141, v142, v143, v144, v145, v146, v147, v148, v149, v150, v151, v152, v153, v154, v155, v156, v157, v158, v159, v160, v161, v162, v163, 
      v164, v165, v166, v167, v168, v169, v170, v171, v172, v173, v174, v175, v176, v177, v178, v179, v180, v181, v182, v183], []⟩ X0 := by
  obtain ⟨iS, hiS, hzS0, hzS1, hzS2⟩ := info_parts info_u8s
  obtain ⟨iB, hiB, hzB0, hzB1, hzB2⟩ := info_parts info_byte
  have mk := fun W => run_make_n (P := Try.prog) Try.underlying27 hiB hzB0 hzB1 hzB2 rfl M (by omega) (by omega) W
  obtain ⟨rfl, rfl, rfl⟩ := hx1
  obtain ⟨a1, n1, c1, a2, n2, c2, ss⟩ := s'
  have hn2 : n2 = u.frames.length := (owns_sees_slice hO.o2).1
  simp only at hG hn2
  have HO := Lib.hid hO
  have HG := Lib.hid hG
  have HN2 := Lib.hid hn2
  have HS := Lib.hid hs
  have HPG := Lib.hid hPG
  have HGB := Lib.hid hGb
  have HBASE := Lib.hid hbase
  have HNF := Lib.hid hnf
  have HMM := Lib.hid hM
  have HGL := Lib.hid (heap_lt hG)
  have g2 : X0.cell? ⟨G, 2, none⟩ = some (.slice a2 n2 c2) := cell_of_block hG 2
  have HS0 := Lib.hid (And.intro g2 hP)
  have HK := Lib.hid hK
  clear hO hG hn2 hs hPG hGb hbase hnf hM g2 hP hK
  conv => arg 2; whnf
  refine wp_region_noPanic ?_
  refine wp_region_peelN 9 (by kernel_rfl) rfl (by simp only [List.getElem?_toArray, List.getElem?_cons_zero, List.getElem?_cons_succ]; rfl) (by kernel_rfl) ?_
  simp only [List.pop_toArray, List.dropLast_cons_cons, List.dropLast_singleton]
  have hY0 : Below X0.heap.size X0 X0.drew := (Below.refl _ X0).drew
  generalize hYY : X0.drew = Y0 at hY0 ⊢
  have HSD := Lib.hid (keep2l HS0.out hY0)
  have HYB := Lib.hid hY0
  clear hYY hY0
  refine wpAny_of_held (S := fun w' => w'.cell? ⟨G, 2, none⟩ = some (.slice a2 n2 c2) ∧ w'.cell? ⟨P, 0, none⟩ = some (.int .i64 ci)) _ _ _ _ ?_
  refine wpAnyH_take (i := 0) (v := ?_) (by simp only [List.getElem?_toArray, List.getElem?_cons_zero]; rfl) (by kernel_rfl) (by kernel_rfl) (by kernel_rfl) (fun _ _ _ h => h) (Or.inl ⟨by rfl, ?_⟩) HSD.out ?_
  rotate_left
  · intro w hSw
    (try dsimp only at hSw)
    obtain ⟨q0_, q1_⟩ := hSw
    go_simp
    try with_reducible rfl
  try simp only [Act.put, List.setIfInBounds_toArray, List.set_cons_zero, List.set_cons_succ]
  refine wpAnyH_take (i := 1) (v := ?_) (by simp only [List.getElem?_toArray, List.getElem?_cons_zero, List.getElem?_cons_succ]; rfl) (by kernel_rfl) (by kernel_rfl) (by kernel_rfl) (fun _ _ _ h => h) (Or.inl ⟨by rfl, ?_⟩) HSD.out ?_
  rotate_left
  · intro w hSw
    (try dsimp only at hSw)
    obtain ⟨q0_, q1_⟩ := hSw
    go_simp
    try with_reducible rfl
  try simp only [Act.put, List.setIfInBounds_toArray, List.set_cons_zero, List.set_cons_succ]
  refine wpAnyH_take (i := 2) (v := ?_) (by simp only [List.getElem?_toArray, List.getElem?_cons_zero, List.getElem?_cons_succ]; rfl) (by kernel_rfl) (by kernel_rfl) (by kernel_rfl) (fun _ _ _ h => h) (Or.inl ⟨by rfl, ?_⟩) HSD.out ?_
  rotate_left
  · intro w hSw
    (try dsimp only at hSw)
    obtain ⟨q0_, q1_⟩ := hSw
    go_simp
    try with_reducible rfl
  try simp only [Act.put, List.setIfInBounds_toArray, List.set_cons_zero, List.set_cons_succ]
  refine wpAnyH_take (i := 3) (v := ?_) (by simp only [List.getElem?_toArray, List.getElem?_cons_zero, List.getElem?_cons_succ]; rfl) (by kernel_rfl) (by kernel_rfl) (by kernel_rfl) (fun _ _ _ h => h) (Or.inl ⟨by rfl, ?_⟩) HSD.out ?_
  rotate_left
  · intro w hSw
    (try dsimp only at hSw)
    obtain ⟨q0_, q1_⟩ := hSw
    go_simp
    try with_reducible rfl
  try simp only [Act.put, List.setIfInBounds_toArray, List.set_cons_zero, List.set_cons_succ]
  refine wpAnyH_take (i := 4) (v := ?_) (by simp only [List.getElem?_toArray, List.getElem?_cons_zero, List.getElem?_cons_succ]; rfl) (by kernel_rfl) (by kernel_rfl) (by kernel_rfl) (fun _ _ _ h => h) (Or.inl ⟨by rfl, ?_⟩) HSD.out ?_
  rotate_left
  · intro w hSw
    (try dsimp only at hSw)
    obtain ⟨q0_, q1_⟩ := hSw
    go_simp
    try with_reducible rfl
  try simp only [Act.put, List.setIfInBounds_toArray, List.set_cons_zero, List.set_cons_succ]
  refine wpAnyH_ready (rs := [5]) (by kernel_rfl) (by simp) ?_
  refine AllReadyH.cons (by simp only [List.getElem?_toArray, List.getElem?_cons_zero, List.getElem?_cons_succ]; rfl) (fun K hK => ?_) AllReadyH.nil
  go_simp
  generalize hV1 : World.alloc Y0 _ = V1
  have hb1 : Below Y0.heap.size Y0 V1 := by subst hV1; exact ext_alloc _ _
  have hz1 : V1.heap[Y0.heap.size]? = some (.cells (zeros (.int .u8 0) M) 5 (0, 0)) := by subst hV1; exact heap_new _ _ _ rfl
  have HS1 := Lib.hid (keep2l HSD.out hb1)
  have HB1 := Lib.hid (ext_trans HYB.out hb1)
  have hr1 := zeros_row (base := base) (Nat.le_trans HBASE.out HYB.out.size) hz1 (by have := HMM.out; omega)
  have HR1 := Lib.hid hr1
  clear hV1 hz1 hr1 hb1
  refine hK.out _ _ HS1.out (fun _ => ?_)
  clear hK K
  try simp only [Act.put, List.setIfInBounds_toArray, List.set_cons_zero, List.set_cons_succ]
  refine wpAnyH_ready (rs := [6]) (by kernel_rfl) (by simp) ?_
  refine AllReadyH.cons (by simp only [List.getElem?_toArray, List.getElem?_cons_zero, List.getElem?_cons_succ]; rfl) (fun K hK => ?_) AllReadyH.nil
  go_simp
  have HS2 := Lib.hid (keep2l HS1.out (ext_alloc V1 (.cells #[.slice (some ⟨Y0.heap.size, 0, none⟩) M M] 27)))
  have HB2 := Lib.hid (ext_trans HB1.out (ext_alloc V1 (.cells #[.slice (some ⟨Y0.heap.size, 0, none⟩) M M] 27)))
  have HR2 := Lib.hid (HR1.out.below (ext_alloc V1 (.cells #[.slice (some ⟨Y0.heap.size, 0, none⟩) M M] 27)))
  have HO2 := Lib.hid (HO.out.below HB2.out)
  refine hK.out _ _ HS2.out (fun _ => ?_)
  clear hK K
  try simp only [Act.put, List.setIfInBounds_toArray, List.set_cons_zero, List.set_cons_succ]
  refine wpAnyH_ready (rs := [7]) (by kernel_rfl) (by simp) ?_
  refine AllReadyH.cons (by simp only [List.getElem?_toArray, List.getElem?_cons_zero, List.getElem?_cons_succ]; rfl) (fun K hK => ?_) AllReadyH.nil
  refine step_append_own_at rfl _ _ 28 rfl base 27 iS (.slice none 0 0) 1 24 Try.underlying28 hiS hzS0 hzS1 hzS2 rfl (by decide) (.slice a2 n2 c2) n2 (ss.map slV) (by simp [Act.eval]) (by have h := HO2.out.o2; rw [← HN2.out] at h; exact h) ⟨V1.heap.size, 0, none⟩ 1 1 [.slice (some ⟨Y0.heap.size, 0, none⟩) M M] (by simp [Act.eval]) rfl (cell_one_new _ _ _) (by simp [Value.oneCell']) (by unfold maxLen; have := HNF.out; have := HN2.out; omega) (by have := HNF.out; have := HN2.out; omega) (Nat.le_trans HBASE.out HB2.out.size) ?_
  intro v5 w5 r5 g5
  obtain ⟨fa, fc, rfl⟩ := ownsN_form r5
  have hrow2 : World.ownsRow (V1.alloc (.cells #[.slice (some ⟨Y0.heap.size, 0, none⟩) M M] 27)) base 27 1 (.slice a2 n2 c2) n2 (ss.map slV) := by have h := HO2.out.o2; rw [← HN2.out] at h; exact h
  have hG5 := heap_grown (heap_below HG.out HB2.out) g5 (ownsN_notown hrow2 (heap_below HG.out HB2.out) (by decide))
  have hP5 : w5.cell? ⟨P, 0, none⟩ = some (.int .i64 ci) := by rw [World.cell?_of_block (w := V1.alloc (.cells #[.slice (some ⟨Y0.heap.size, 0, none⟩) M M] 27)) (g5.block P (World.block_lt_of_cell? _ _ HS2.out.2) (fun e => PNE.out e.symm))]; exact HS2.out.2
  have HS5 : Hid (w5.cell? ⟨G, 2, none⟩ = some (.slice a2 n2 c2) ∧ w5.cell? ⟨P, 0, none⟩ = some (.int .i64 ci)) := ⟨cell_of_block hG5 2, hP5⟩
  have d1 := cell_of_block hG5 2
  have d2 := unfrozen_of_block hG5 2
  have HG5 := Lib.hid hG5
  have HR5 := Lib.hid r5
  have HROW2 := Lib.hid hrow2
  have HG := Lib.hid g5
  clear r5 hP5 hG5 hrow2 g5
  refine hK.out _ _ HS5.out (fun _ => ?_)
  clear hK K
  try simp only [Act.put, List.setIfInBounds_toArray, List.set_cons_zero, List.set_cons_succ]
  refine wpAnyH_take (i := 8) (v := ?_) (by simp only [List.getElem?_toArray, List.getElem?_cons_zero, List.getElem?_cons_succ]; rfl) (by kernel_rfl) (by kernel_rfl) (by kernel_rfl) (fun _ _ _ h => h) (Or.inl ⟨by rfl, ?_⟩) HS5.out ?_
  rotate_left
  · intro w hSw
    (try dsimp only at hSw)
    obtain ⟨q0_, q1_⟩ := hSw
    go_simp
    try with_reducible rfl
  try simp only [Act.put, List.setIfInBounds_toArray, List.set_cons_zero, List.set_cons_succ]
  refine wpAnyH_done (by kernel_rfl) ?_ _
  unfold LastQ wpOp
  simp only [List.getElem?_toArray, List.getElem?_cons_zero, List.getElem?_cons_succ]
  rw [if_pos (by rfl)]
  refine Or.inl ?_
  go_simp
  refine NoPanic.normal ?_
  obtain ⟨nx, hnx⟩ : ∃ x : Slc, x = (some (⟨Y0.heap.size, 0, none⟩ : Addr), M, M) := ⟨_, rfl⟩
  have hnv : slV nx = .slice (some ⟨Y0.heap.size, 0, none⟩) M M := by rw [hnx]; rfl
  have hset := block_setCell HG5.out (i := 2) (.slice fa (n2 + 1) fc)
  have hne : ∀ D : Nat, D ≠ G → (w5.setCell ⟨G, 2, none⟩ (.slice fa (n2 + 1) fc)).heap[D]? = w5.heap[D]? := fun D hD => Below.heap_setCell w5 ⟨G, 2, none⟩ _ D hD
  have one : ∀ {v : Value} {n : Nat} {ys : List Value}, Row isByte (V1.alloc (.cells #[.slice (some ⟨Y0.heap.size, 0, none⟩) M M] 27)) base 5 v n ys → Row isByte (w5.setCell ⟨G, 2, none⟩ (.slice fa (n2 + 1) fc)) base 5 v n ys := fun {v n ys} hy => by
    have h1 := row_grown hy HROW2.out HG.out (by decide)
    exact h1.other fun q hq => hne q (fun e => (h1.not_own HG5.out (by decide)) (by rw [hq, e]))
  refine HK.out ⟨a1, n1, c1, fa, n2 + 1, fc, ss ++ [nx]⟩ ⟨u.bad, u.init, u.frames ++ [List.replicate M 0]⟩ _ _ _ _ _ _ _ _ _ _ ⟨one HO2.out.o1, ?_, ?_, fun j hj => ?_⟩ ⟨HS.out.n1, ?_, fun x hx => ?_⟩ rfl (by simp) (by simpa using hset) (fun B W hb hB => ((hb.trans (HB2.out.mono (Nat.le_trans hB HBASE.out))).grown HG.out (Nat.le_trans hB (Nat.le_trans HBASE.out HB2.out.size)) (fun q hq => Nat.le_trans hB (HROW2.out.lt q hq).1)).setCell (p := ⟨G, 2, none⟩) (Nat.le_trans hB HGB.out) _)
  · have h1 : w5.ownsRow base 27 1 (.slice fa (n2 + 1) fc) (n2 + 1) ((ss ++ [nx]).map slV) := by have h := HR5.out; rw [← hnv] at h; simpa using h
    have h2 := ownsN_other (w' := w5.setCell ⟨G, 2, none⟩ (.slice fa (n2 + 1) fc)) h1 fun q hq => hne q (fun e => (ownsN_notown h1 HG5.out (by decide)) (by rw [hq, e]))
    have e : (u.frames ++ [List.replicate M 0]).length = n2 + 1 := by rw [List.length_append, HN2.out]; rfl
    simp only [e]
    exact h2
  · have := HO.out.len
    simp only [List.length_append, List.length_cons, List.length_nil] at this ⊢
    omega
  · have hl := HO.out.len
    simp only at hl
    by_cases e : j < u.frames.length
    · have e1 : (ss ++ [nx]).getD j slc0 = ss.getD j slc0 := by simp [List.getD, List.getElem?_append_left (show j < ss.length by omega)]
      have e2 : (u.frames ++ [List.replicate M 0]).getD j [] = u.frames.getD j [] := by simp [List.getD, List.getElem?_append_left e]
      simp only [e1, e2]
      exact one (HO2.out.rows j e)
    · have ej : j = u.frames.length := by simp at hj; omega
      have e1 : (ss ++ [nx]).getD j slc0 = nx := by rw [ej, ← hl]; simp
      have e2 : (u.frames ++ [List.replicate M 0]).getD j [] = List.replicate M 0 := by rw [ej]; simp
      simp only [e1, e2, List.length_replicate]
      rw [hnv]
      exact one HR2.out
  · show n2 + 1 ≤ 1048576
    have := HNF.out; have := HN2.out; omega
  · rcases List.mem_append.1 hx with hx | hx
    · exact HS.out.each x hx
    · have e : x = nx := by simpa using hx
      rw [e, hnx]
      show M ≤ 1048576
      have := HMM.out; omega
end Go.Proofs.Ytjmdgbdlhaaefaa
