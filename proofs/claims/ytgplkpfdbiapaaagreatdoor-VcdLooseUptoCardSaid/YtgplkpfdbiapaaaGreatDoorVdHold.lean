/- (*vcd.reader).hold, by its contract. -/
import Derived.Test.YtgplkpfdbiapaaaGreatDoorLib
import Derived.Test.YtgplkpfdbiapaaaGreatDoorNBase
import Derived.Test.YtgplkpfdbiapaaaGreatDoorGA1
import Derived.Test.YtgplkpfdbiapaaaGreatDoorGA3
import Derived.Test.YtgplkpfdbiapaaaGreatDoorNHeap
import Derived.Test.YtgplkpfdbiapaaaGreatDoorVdSpec
import Derived.Test.YtgplkpfdbiapaaaGreatDoorGG
import Derived.Test.YtgplkpfdbiapaaaGreatDoorGH
import Derived.Test.YtgplkpfdbiapaaaGreatDoorRows
import Derived.Test.YtgplkpfdbiapaaaGreatDoorShelf
import Derived.BigQuiet
import Derived.Deep.AppendLies
import Derived.Deep.CutRange
import Derived.Deep.QuietTactic
import Derived.Deep.RegionHeld3
import Derived.Deep.RegionLaw
import Derived.Deep.RegionWith
import Derived.KernelRfl
import Derived.Laws.CopyOwn
import Derived.Laws.EntriesVeiled
import Derived.Laws.IdiomCopy
import Derived.Laws.OwnMore
import Derived.Laws.Tables
import Derived.Lib.AppendStr
import Derived.Lib.AppendZeros
import Derived.Lib.BufferWrite
import Derived.Lib.ConvBytes
import Derived.Lib.Hide
import Derived.Lib.ItoaNum
import Derived.Lib.MakeNoZero
import Derived.Lib.ParseIntBCases
import Derived.Lib.SlBytesRow
import Derived.Lib.SmallJoins
import Derived.Maps.AppendAt
import Derived.Maps.Own
import Derived.Maps.OwnOps
import Derived.Maps.OwnSet
import Derived.OrdersHeld
import Derived.Shelf.Bytes.SlSmallAll
import Derived.Shelf.Pu.Lower
import Derived.Shelf.Pu.ToError
import Derived.Shelf.Pu.ToErrorRange
import Derived.WalkKit
import Derived.WalkLawsBesides
import Derived.WalkSpells
namespace Go.Proofs.YtgplkpfdbiapaaaGreatDoor
open Go Go.RowKit Go.Joins Go.Shelf Go.Maps

theorem step_append_own2 {P : Program} {ops : Array Oper} {o : Oper} {a : Act} {w : World} {K : Act → World → Prop} {Q : Exit → Act → World → Prop} {E : Prop} (hgd : o.guard = none) (s x : Operand) (t : TypeId)
    (ho : o.op = .call { callee := .builtin .append, args := #[s, x], argTypes := #[t, t] })
    (base : Nat) (e : TypeId) (i : TypeInfo) (z : Value) (size bytes : Nat) (ht : P.underlying t = some (.slice e)) (hi : P.info? e = some i) (hz : i.zero = some z)
    (hsize : i.size = size) (hby : i.bytes = bytes) (hzs : z.cells.size = size) (hsz : 0 < size)
    (v : Value) (n : Nat) (xs : List Value) (hs : a.eval s = v) (hown : w.ownsRow base e size v n xs)
    (ad : Addr) (m c : Nat) (news : List Value) (hx : a.eval x = .slice (some ad) m c) (hl : news.length = m * size) (hnews : ∀ j u, news[j]? = some u → w.cell? (ad.add j) = some u) (h1 : ∀ u ∈ news, u.oneCell' = true)
    (h63 : n + m ≤ maxLen) (hbytes : (n + m) * bytes ≤ 140737488355328) (hbase : base ≤ w.heap.size)
    (h : ∀ v' w', w'.ownsRow base e size v' (n + m) (xs ++ news) → w.grownBy w' v.ownBlock → (v'.ownBlock = v.ownBlock ∨ v'.ownBlock = some w.heap.size) → K (a.put o.dst v') w') :
    if Region.wanted o (yielded ops a.tmps) = true then Oper.wp P o a w K Q else E := by
  have hw : Region.wanted o (yielded ops a.tmps) = true := by simp [Region.wanted, hgd]
  rw [if_pos hw]
  obtain ⟨v', w', hr, h2, h3, _, h4⟩ := run_append_own_at (P := P) w base t o.type e i z size bytes ht hi hz hsize hby hzs hsz v n xs hown ad m c news hl hnews h1 h63 hbytes hbase
  unfold Oper.wp execOp
  simp only [ho, resolve, invoke, builtin, Sem.run_bind, Sem.run_pure, Result.andThen_ok, List.map_toArray, List.map_cons, List.map_nil, hs, hx, hr]
  exact h v' w' h2 h3 h4

theorem info_u8v : (Tryz.prog.info? 5).map (fun i => (i.zero, i.size, i.bytes)) = some (some (.int .u8 0), 1, 1) := by kernel_rfl
/-- A wave holds others, in its row's block. -/
theorem OwnW.put {w w2 : World} {base V n cap i : Nat} {ss : List Slc} {L : List (List UInt8 × List UInt8)} {s2 : Slc} {l2 : List UInt8} {cur : Array Value}
    (h : OwnW w base (.slice (some ⟨V, 0, none⟩) n cap) ss L) (hn : n = L.length) (hi : i < L.length) (hV : w.heap[V]? = some (.cells cur 45 (0, 0)))
    (hg : w.grownBy w2 (slV (ss.getD i slc0)).ownBlock) (hr : w2.ownsRow base 5 1 (slV s2) l2.length (l2.map bv))
    (hnew : (slV s2).ownBlock = (slV (ss.getD i slc0)).ownBlock ∨ (slV s2).ownBlock = some w.heap.size) :
    OwnW (w2.setCell ⟨V, i * 2 + 1, none⟩ (slV s2)) base (.slice (some ⟨V, 0, none⟩) n cap) (ss.set i s2) (L.set i ((L.getD i ([], [])).1, l2)) := by
  subst hn
  have htu : Turns w w2 (fun t => t = 5) := Turns.row (P := fun t => t = 5) (h.rows i hi) hg rfl
  have hrow2 := Turns.rowN h.row htu (by decide)
  have hV2 : w2.heap[V]? = some (.cells cur 45 (0, 0)) := htu.block hV (by decide)
  have hst := World.ownsRow.stored hrow2 (i * 2 + 1) (slV s2)
  have hts : Turns w2 (w2.setCell ⟨V, i * 2 + 1, none⟩ (slV s2)) (fun t => t = 45) := Turns.cell (P := fun t => t = 45) hV2 rfl _ _
  have e1 : ∀ j, (ss.set i s2).getD j slc0 = if j = i then s2 else ss.getD j slc0 := fun j => by
    simp only [List.getD, List.getElem?_set]
    by_cases e : i = j
    · subst e; rw [if_pos rfl, if_pos (by rw [h.lens]; exact hi), if_pos rfl]; rfl
    · rw [if_neg e, if_neg (fun e2 => e e2.symm)]
  have e2 : ∀ j, (L.set i ((L.getD i ([], [])).1, l2)).getD j ([], []) = if j = i then ((L.getD i ([], [])).1, l2) else L.getD j ([], []) := fun j => by
    simp only [List.getD, List.getElem?_set]
    by_cases e : i = j
    · subst e; rw [if_pos rfl, if_pos hi, if_pos rfl]; rfl
    · rw [if_neg e, if_neg (fun e2 => e e2.symm)]
  have hlt : ∀ j, j < L.length → ∀ k, (slV (ss.getD j slc0)).ownBlock = some k → k < w.heap.size := fun j hj k hk => ((h.rows j hj).lt k hk).2
  refine ⟨by simp [h.lens], ?_, fun j hj => ?_, fun a b ha hb hab k hk => ?_⟩
  · rw [List.length_set]
    have := hst.1
    rw [Nat.mul_comm i 2, wcs2_set L ss i l2 s2 h.lens hi] at this
    rw [Nat.mul_comm i 2]
    exact this
  · rw [List.length_set] at hj
    rw [e1, e2]
    by_cases e : j = i
    · rw [if_pos e, if_pos e]
      exact Turns.rowN hr hts (by decide)
    · rw [if_neg e, if_neg e]
      refine Turns.rowN (ownsN_other (h.rows j hj) fun k hk => hg.block k (hlt j hj k hk) ?_) hts (by decide)
      exact fun e3 => h.apart j i hj hi e k hk e3.symm
  · rw [List.length_set] at ha hb
    rw [e1] at hk
    rw [e1]
    by_cases ea : a = i
    · rw [if_pos ea] at hk
      rw [if_neg (fun e => hab (ea.trans e.symm))]
      intro hb2
      rcases hnew with h1 | h1
      · rw [h1] at hk
        exact h.apart i b hi hb (fun e => hab (ea.trans e)) k hk hb2
      · rw [h1] at hk
        injection hk with hk
        have := hlt b hb k hb2
        omega
    · rw [if_neg ea] at hk
      by_cases eb : b = i
      · rw [if_pos eb]
        intro hb2
        rcases hnew with h1 | h1
        · rw [h1] at hb2
          exact h.apart a i ha hi ea k hk hb2
        · rw [h1] at hb2
          injection hb2 with hb2
          have := hlt a ha k hk
          omega
      · rw [if_neg eb]
        exact h.apart a b ha hb hab k hk
def holdV (r : VRd) (i : Nat) : VRd := ⟨r.idx, r.times, r.wav.set i ((r.wav.getD i ([], [])).1, holdL r.times.length (r.wav.getD i ([], [])).2), r.e⟩
def HoldPost (w0 : World) (R : Nat) (nv : Value) (W : World) (a : Option Addr) (n c M : Nat) (tv vv : Value) (r : VRd) (i : Nat) (bs : List UInt8) (e : Ending) (w' : World) : Prop :=
  e = .returned (.tuple #[]) ∧ KeepV W w' ∧ ∃ ss, RdAt w0 R nv w' a n c M tv vv ss (holdV r i) bs
theorem OwnW.block {w : World} {base n cap : Nat} {a : Option Addr} {ss : List Slc} {L : List (List UInt8 × List UInt8)} (h : OwnW w base (.slice a n cap) ss L) (h0 : 0 < L.length) : ∃ (V : Nat) (cur : Array Value), a = some ⟨V, 0, none⟩ ∧ n = L.length ∧ base ≤ V ∧ w.heap[V]? = some (.cells cur 45 (0, 0)) ∧ (∀ (j : Nat) (u : Value), (wcs2 L ss)[j]? = some u → cur[j]? = some u) := by
  rcases h.row.2 with ⟨e, e0⟩ | ⟨g, cap', cur, e, hg, hh, _, _, _, ht⟩
  · omega
  · cases e
    refine ⟨g, cur, rfl, rfl, hg, hh, fun j u hj => ?_⟩
    have hj2 : j < (wcs2 L ss).length := (List.getElem?_eq_some_iff.1 hj).1
    rw [← ht, List.getElem?_take_of_lt (by rw [h.row.1] at hj2; exact hj2)] at hj
    simpa using hj
theorem RdC.wave {w0 w1 w2 : World} {M i V N va : Nat} {tv : Value} {ss : List Slc} {r : VRd} {s2 : Slc} {l2 : List UInt8} {cur : Array Value} (h : RdC w0 w1 M tv (.slice (some ⟨V, 0, none⟩) N va) ss r)
    (hi : i < r.wav.length) (hN : N = r.wav.length) (hV : w1.heap[V]? = some (.cells cur 45 (0, 0))) (hVb : w0.heap.size ≤ V) (hg : w1.grownBy w2 (slV (ss.getD i slc0)).ownBlock) (hr : w2.ownsRow w0.heap.size 5 1 (slV s2) l2.length (l2.map bv))
    (hnew : (slV s2).ownBlock = (slV (ss.getD i slc0)).ownBlock ∨ (slV s2).ownBlock = some w1.heap.size) :
    RdC w0 (w2.setCell ⟨V, i * 2 + 1, none⟩ (slV s2)) M tv (.slice (some ⟨V, 0, none⟩) N va) (ss.set i s2) ⟨r.idx, r.times, r.wav.set i ((r.wav.getD i ([], [])).1, l2), r.e⟩ ∧ KeepV w1 (w2.setCell ⟨V, i * 2 + 1, none⟩ (slV s2)) ∧
      (∀ (D : Nat) (C : Array Value) (fr : Nat × Nat), w1.heap[D]? = some (.cells C 66 fr) → (w2.setCell ⟨V, i * 2 + 1, none⟩ (slV s2)).heap[D]? = some (.cells C 66 fr)) := by
  have htu : Turns w1 w2 (fun t => t = 5) := Turns.row (P := fun t => t = 5) (h.wavs.rows i hi) hg rfl
  have hV2 : w2.heap[V]? = some (.cells cur 45 (0, 0)) := htu.block hV (by decide)
  have hts : Turns w2 (w2.setCell ⟨V, i * 2 + 1, none⟩ (slV s2)) (fun t => t = 45) := Turns.cell (P := fun t => t = 45) hV2 rfl _ _
  refine ⟨⟨?_, h.hM, hts.idx (htu.idx h.map), Turns.row1 (Turns.row1 h.times htu (by decide)) hts (by decide), h.wavs.put hN hi hV hg hr hnew⟩, (KeepV.turns htu (by decide) (by decide)).trans (KeepV.turns hts (by decide) (by decide)), fun D C fr hD => hts.block (htu.block hD (by decide)) (by decide)⟩
  refine (h.low.grown hg h.low.size (fun k hk => ((h.wavs.rows i hi).lt k hk).1)).grown (Lib.grownBy_setCell w2 V (i * 2 + 1) (slV s2)) (Nat.le_trans h.low.size hg.size) (by intro q hq; cases hq; exact hVb)
theorem hold_end {w0 W w1 w2 : World} {R : Nat} {nv : Value} {a : Option Addr} {n c M i V N va : Nat} {tv v2 : Value} {ss : List Slc} {r : VRd} {bs l2 : List UInt8} {cur : Array Value} (h : RdAt w0 R nv W a n c M tv (.slice (some ⟨V, 0, none⟩) N va) ss r bs)
    (hb : Below W.heap.size W w1) (hi : i < r.wav.length) (hN : N = r.wav.length) (hV : w1.heap[V]? = some (.cells cur 45 (0, 0))) (hVb : w0.heap.size ≤ V) (hg : w1.grownBy w2 (slV (ss.getD i slc0)).ownBlock) (hr : w2.ownsRow w0.heap.size 5 1 v2 l2.length (l2.map bv))
    (hnew : v2.ownBlock = (slV (ss.getD i slc0)).ownBlock ∨ v2.ownBlock = some w1.heap.size) (hl2 : l2 = holdL r.times.length (r.wav.getD i ([], [])).2) :
    HoldPost w0 R nv W a n c M tv (.slice (some ⟨V, 0, none⟩) N va) r i bs (.returned (.tuple #[])) (w2.setCell ⟨V, i * 2 + 1, none⟩ v2) := by
  obtain ⟨a2, c2, rfl⟩ := ownsN_form hr
  have h1 := h.below hb
  obtain ⟨k1, k2, k3⟩ := h1.cs.wave (s2 := (a2, l2.length, c2)) hi hN hV hVb hg hr hnew
  subst hl2
  exact ⟨rfl, (KeepV.below hb).trans k2, _, ⟨k3 _ _ _ h1.box, h1.hR, h1.sees, h1.cap, k1⟩⟩
theorem hold_mid {w1 w2 : World} {base V k m R : Nat} {u x : Value} {C cur : Array Value} {ys : List Value} (hr : w1.ownsRow base 5 k u m ys) (hg : w1.grownBy w2 u.ownBlock) (hb : w1.heap[R]? = some (.cells C 66 (0, 0))) (hV : w1.heap[V]? = some (.cells cur 45 (0, 0))) {j : Nat}
    (hc : w1.cell? ⟨V, j, none⟩ = some x) : (∀ q, w2.cell? ⟨R, q, none⟩ = C[q]?) ∧ w2.cell? ⟨V, j, none⟩ = some x ∧ w2.frozen? ⟨V, j, none⟩ = false := by
  have htu : Turns w1 w2 (fun t => t = 5) := Turns.row (P := fun t => t = 5) hr hg rfl
  have h1 := htu.block hb (by decide)
  have h2 := htu.block hV (by decide)
  refine ⟨fun q => cell_of_block h1 q, ?_, unfrozen_of_block h2 j⟩
  rw [cell_of_block h2 j, ← cell_of_block hV j]
  exact hc
theorem sees_news {w : World} {ad : Addr} {n c : Nat} {bs : List UInt8} (h : Sees w (some ad) n c (bs.map bv)) : ∀ j u, (bs.map bv)[j]? = some u → w.cell? (ad.add j) = some u := by
  intro j u hj
  have hjn : j < n := by have := (List.getElem?_eq_some_iff.1 hj).1; rw [h.len] at this; exact this
  obtain ⟨b, off, e, _, hc⟩ := h.real (by omega)
  cases e
  rw [Lib.add_plain, hc j hjn]
  exact hj
set_option maxRecDepth 100000 in
set_option maxHeartbeats 1600000 in
theorem hold_any (w0 W : World) (R : Nat) (nv : Value) (a : Option Addr) (n c M : Nat) (tv vv : Value) (ss : List Slc) (r : VRd) (i : Nat) (bs : List UInt8) (h : RdAt w0 R nv W a n c M tv vv ss r bs)
    (hi : i < r.wav.length) (hT : r.times.length ≤ 4096) (hl : (r.wav.getD i ([], [])).2.length ≤ r.times.length) (hw : r.wav.length ≤ 32768) :
    Calls Tryz.prog 25 #[.pointer (some ⟨R, 0, none⟩), .int .i64 (i : Int)] W (HoldPost w0 R nv W a n c M tv vv r i bs) := by
  obtain ⟨i0, hin, hz0, hz1, hz2⟩ := info_parts info_u8v
  have c3 := cell_of_block h.box 3
  have c4 := cell_of_block h.box 4
  obtain ⟨va, vc, rfl⟩ := ownsN_form h.cs.wavs.row
  obtain ⟨V, cur, rfl, hvn, hVb, hV, hcur⟩ := h.cs.wavs.block (by omega)
  obtain ⟨ta, tc, rfl⟩ := h.cs.times.form
  obtain ⟨x, hx⟩ : ∃ x, x = ss.getD i slc0 := ⟨_, rfl⟩
  have hrow := h.cs.wavs.rows i hi
  rw [← hx] at hrow
  obtain ⟨l, hll⟩ : ∃ l, l = (r.wav.getD i ([], [])).2 := ⟨_, rfl⟩
  rw [← hll] at hrow hl
  have hcv : W.cell? ⟨V, i * 2 + 1, none⟩ = some (slV x) := by
    rw [cell_of_block hV, Nat.mul_comm i 2, hx]
    exact hcur _ _ (wcs2_at r.wav ss i h.cs.wavs.lens hi).2
  obtain ⟨la, lc, ex, hlc, hsee⟩ := Sees.owned hrow
  obtain ⟨xa, xn, xc⟩ := x
  have ex2 : Value.slice xa xn xc = .slice la l.length lc := ex
  cases ex2
  replace hcv : W.cell? ⟨V, i * 2 + 1, none⟩ = some (.slice la l.length lc) := hcv
  have HROW := Lib.hid hrow
  have HS := Lib.hid hsee
  have HX := Lib.hid hx
  have HLL := Lib.hid hll
  have H := Lib.hid h
  have HV := Lib.hid hV
  obtain ⟨ln, hln⟩ : ∃ ln, ln = l.length := ⟨_, rfl⟩
  rw [← hln] at hcv hl
  obtain ⟨T, hTT⟩ : ∃ T, T = r.times.length := ⟨_, rfl⟩
  rw [← hTT] at c3 hT hl
  obtain ⟨N, hN⟩ : ∃ N, N = r.wav.length := ⟨_, rfl⟩
  rw [← hN] at hi hw c4
  have HLN := Lib.hid hln
  have HTT := Lib.hid hTT
  have HNN := Lib.hid hN
  clear hvn
  have hiz : (i : Int) < (N : Int) := by omega
  clear h hrow hsee hx hll hV hln hTT hN hcur
  go_enter Tryz.func25, Tryz.ntmps25
  by_cases h0 : 0 < ln
  · have h0z : (0 : Int) < (ln : Int) := by omega
    obtain ⟨lb, lo, rfl, hlb⟩ := HS.out.addr (by rw [← HLN.out]; exact h0)
    have hbl := HS.out.byte (ln - 1) (by rw [← HLN.out]; omega)
    obtain ⟨v, hv⟩ : ∃ v, v = l.getD (ln - 1) 0 := ⟨_, rfl⟩
    rw [← hv] at hbl
    have hvl : v = l.getLastD 2 := by
      rw [hv, HLN.out]
      have hne : l ≠ [] := fun e => by have := HLN.out; rw [e] at this; simp at this; omega
      rw [List.getLastD_eq_getLast?, List.getLast?_eq_getElem?]
      simp [List.getD]
      have : l.length - 1 < l.length := by have := HLN.out; omega
      simp [List.getElem?_eq_getElem this]
    have w1 : IntKind.i64.wrap ((ln : Int) - 1) = ((ln - 1 : Nat) : Int) := by rw [IntWalk.i64_in _ (by omega)]; omega
    have hlz : ((ln - 1 : Nat) : Int) < (ln : Int) := by omega
    have HVL := Lib.hid hvl
    obtain ⟨lm, hlm⟩ : ∃ lm, lm = ln - 1 := ⟨_, rfl⟩
    rw [← hlm] at hbl w1 hlz
    clear hvl hv hlm hlb
    go_upto_region 4 with fail
    obtain ⟨m, hm⟩ : ∃ m, m = T - ln := ⟨_, rfl⟩
    have hm4 : m ≤ 4096 := by omega
    have W2 : IntKind.i64.wrap ((T : Int) - (ln : Int)) = (m : Int) := by rw [IntWalk.i64_in _ (by omega)]; omega
    have hBW : Below W.heap.size W ((W.alloc (.cells #[.int .u8 (v.toNat : Int)] 5)).drew) := (((Below.refl _ W).alloc (Nat.le_refl _) _).drew)
    have hrep := repeat_any v m hm4 W.heap.size 0 1 ((W.alloc (.cells #[.int .u8 (v.toNat : Int)] 5)).drew) (cell_of_block (heap_new W _ _ rfl) 0)
    have hfin : ∀ (w1 w2 : World) (v2 : Value), Below W.heap.size W w1 → w1.grownBy w2 (Value.slice (some ⟨lb, lo, none⟩) ln lc).ownBlock → w2.ownsRow w0.heap.size 5 1 v2 (ln + m) (l.map bv ++ (List.replicate m v).map bv) → (v2.ownBlock = (Value.slice (some ⟨lb, lo, none⟩) ln lc).ownBlock ∨ v2.ownBlock = some w1.heap.size) →
        HoldPost w0 R nv W a n c M (.slice ta r.times.length tc) (.slice (some ⟨V, 0, none⟩) r.wav.length vc) r i bs (.returned (.tuple #[])) (w2.setCell ⟨V, i * 2 + 1, none⟩ v2) := by
      intro w1 w2 v2 hb hg hr hn
      have hxx : slV (ss.getD i slc0) = .slice (some ⟨lb, lo, none⟩) ln lc := by rw [← HX.out, HLN.out]; rfl
      have hT2 := HTT.out
      have hfull : ln + m = (holdL r.times.length (r.wav.getD i ([], [])).2).length := by rw [← HLL.out, hold_len _ _ (by rw [← HLN.out, ← hT2]; exact hl), ← hT2]; omega
      have hcells : l.map bv ++ (List.replicate m v).map bv = (holdL r.times.length (r.wav.getD i ([], [])).2).map bv := by
        rw [← HLL.out]; unfold holdL; rw [List.map_append, ← hT2, ← HLN.out, ← hm, ← HVL.out]
      rw [hfull, hcells] at hr
      exact hold_end H.out hb (by rw [← HNN.out]; exact hi) rfl (heap_below HV.out hb) hVb (by rw [hxx]; exact hg) hr (by rw [hxx]; exact hn) rfl
    have HREP := Lib.hid hrep
    have HFIN := Lib.hid hfin
    have HBW := Lib.hid hBW
    have hq1 : ln + m ≤ maxLen := by unfold maxLen; omega
    have hq2 : (ln + m) * 1 ≤ 140737488355328 := by omega
    have hbx0 := heap_below H.out.box hBW
    have hv0 := heap_below HV.out hBW
    have c3a := cell_of_block hbx0 3
    have c4a := cell_of_block hbx0 4
    rw [← HTT.out] at c3a
    rw [← HNN.out] at c4a
    have c3b : (W.alloc (.cells #[.int .u8 (v.toNat : Int)] 5)).cell? ⟨R, 3, none⟩ = some (.slice ta T tc) := c3a
    have c4b : (W.alloc (.cells #[.int .u8 (v.toNat : Int)] 5)).cell? ⟨R, 4, none⟩ = some (.slice (some ⟨V, 0, none⟩) N vc) := c4a
    have HBX0 := Lib.hid hbx0
    have HV0 := Lib.hid hv0
    clear hrep hfin hBW hm hbx0 hv0
    go_region_law (first
      | (refine step_append_own2 rfl (.tmp 28) (.tmp 39) 27 rfl w0.heap.size 5 i0 (.int .u8 0) 1 1 Tryz.underlying27 hin hz0 hz1 hz2 rfl (by omega) (.slice (some ⟨lb, lo, none⟩) ln lc) ln (l.map bv) (by simp [Act.eval]) HROW1.out ad m cr ((List.replicate m v).map bv) (by simp [Act.eval]) (by simp) HSR.out (bv_one _) hq1 hq2 hq3 ?_; intro v2 w2 hr2 hg2 hn2; obtain ⟨a2s, c2s, rfl⟩ := ownsN_form hr2; have HE := Lib.hid (HFIN.out w1 w2 _ HB1.out hg2 hr2 hn2); obtain ⟨c2q, cv2, fv2⟩ := hold_mid HROW1.out hg2 HBX1.out HV1.out hcv1; have c32 : w2.cell? ⟨R, 3, none⟩ = some (.slice ta T tc) := (by rw [c2q 3, HTT.out]; rfl); have c42 : w2.cell? ⟨R, 4, none⟩ = some (.slice (some ⟨V, 0, none⟩) N vc) := (by rw [c2q 4, HNN.out]; rfl); clear c2q; clear hr2 hg2 hn2 c31 c41)
      | (go_simp; go_at_call 48; (with_reducible refine HREP.out.mono ?_); rintro e w1 ⟨ad, cr, rfl, hsr, hb1⟩; have HB1 := Lib.hid (HBW.out.trans (hb1.mono HBW.out.size)); have HBX1 := Lib.hid (heap_below HBX0.out hb1); have HV1 := Lib.hid (heap_below HV0.out hb1); have c31 := cell_of_block HBX1.out 3; have c41 := cell_of_block HBX1.out 4; rw [← HTT.out] at c31; rw [← HNN.out] at c41; have hcv1 : w1.cell? ⟨V, i * 2 + 1, none⟩ = some (.slice (some ⟨lb, lo, none⟩) ln lc) := (HB1.out.cell (p := ⟨V, i * 2 + 1, none⟩) (heap_lt HV.out)).trans hcv; have HROW1 : Hid (w1.ownsRow w0.heap.size 5 1 (.slice (some ⟨lb, lo, none⟩) ln lc) ln (l.map bv)) := (by have := ownsN_below HROW.out HB1.out; rw [← HLN.out] at this; exact this); have HSR : Hid (∀ j u, ((List.replicate m v).map bv)[j]? = some u → w1.cell? (ad.add j) = some u) := sees_news hsr; have hq3 : w0.heap.size ≤ w1.heap.size := Nat.le_trans H.out.cs.low.size HB1.out.size; clear hsr hb1 c3a c4a))
    all_goals go_simp
    all_goals go_end0
    all_goals exact HE.out
  · have h0z : ¬ ((0 : Int) < (ln : Int)) := by omega
    have HVL : Hid ((2 : UInt8) = l.getLastD 2) := by unfold Hid; have hnil : l = [] := List.eq_nil_of_length_eq_zero (by rw [← HLN.out]; omega); rw [hnil]; rfl
    go_upto_region 4 with fail
    obtain ⟨m, hm⟩ : ∃ m, m = T - ln := ⟨_, rfl⟩
    have hm4 : m ≤ 4096 := by omega
    have W2 : IntKind.i64.wrap ((T : Int) - (ln : Int)) = (m : Int) := by rw [IntWalk.i64_in _ (by omega)]; omega
    have hBW : Below W.heap.size W ((W.alloc (.cells #[.int .u8 2] 5)).drew) := (((Below.refl _ W).alloc (Nat.le_refl _) _).drew)
    have hrep := repeat_any 2 m hm4 W.heap.size 0 1 ((W.alloc (.cells #[.int .u8 2] 5)).drew) (cell_of_block (heap_new W _ _ rfl) 0)
    have hfin : ∀ (w1 w2 : World) (v2 : Value), Below W.heap.size W w1 → w1.grownBy w2 (Value.slice la ln lc).ownBlock → w2.ownsRow w0.heap.size 5 1 v2 (ln + m) (l.map bv ++ (List.replicate m (2 : UInt8)).map bv) → (v2.ownBlock = (Value.slice la ln lc).ownBlock ∨ v2.ownBlock = some w1.heap.size) →
        HoldPost w0 R nv W a n c M (.slice ta r.times.length tc) (.slice (some ⟨V, 0, none⟩) r.wav.length vc) r i bs (.returned (.tuple #[])) (w2.setCell ⟨V, i * 2 + 1, none⟩ v2) := by
      intro w1 w2 v2 hb hg hr hn
      have hxx : slV (ss.getD i slc0) = .slice la ln lc := by rw [← HX.out, HLN.out]; rfl
      have hT2 := HTT.out
      have hfull : ln + m = (holdL r.times.length (r.wav.getD i ([], [])).2).length := by rw [← HLL.out, hold_len _ _ (by rw [← HLN.out, ← hT2]; exact hl), ← hT2]; omega
      have hcells : l.map bv ++ (List.replicate m (2 : UInt8)).map bv = (holdL r.times.length (r.wav.getD i ([], [])).2).map bv := by
        rw [← HLL.out]; unfold holdL; rw [List.map_append, ← hT2, ← HLN.out, ← hm, ← HVL.out]
      rw [hfull, hcells] at hr
      exact hold_end H.out hb (by rw [← HNN.out]; exact hi) rfl (heap_below HV.out hb) hVb (by rw [hxx]; exact hg) hr (by rw [hxx]; exact hn) rfl
    have HREP := Lib.hid hrep
    have HFIN := Lib.hid hfin
    have HBW := Lib.hid hBW
    have hq1 : ln + m ≤ maxLen := by unfold maxLen; omega
    have hq2 : (ln + m) * 1 ≤ 140737488355328 := by omega
    have hbx0 := heap_below H.out.box hBW
    have hv0 := heap_below HV.out hBW
    have c3a := cell_of_block hbx0 3
    have c4a := cell_of_block hbx0 4
    rw [← HTT.out] at c3a
    rw [← HNN.out] at c4a
    have c3b : (W.alloc (.cells #[.int .u8 2] 5)).cell? ⟨R, 3, none⟩ = some (.slice ta T tc) := c3a
    have c4b : (W.alloc (.cells #[.int .u8 2] 5)).cell? ⟨R, 4, none⟩ = some (.slice (some ⟨V, 0, none⟩) N vc) := c4a
    have HBX0 := Lib.hid hbx0
    have HV0 := Lib.hid hv0
    clear hrep hfin hBW hm hbx0 hv0
    go_region_law (first
      | (refine step_append_own2 rfl (.tmp 28) (.tmp 39) 27 rfl w0.heap.size 5 i0 (.int .u8 0) 1 1 Tryz.underlying27 hin hz0 hz1 hz2 rfl (by omega) (.slice la ln lc) ln (l.map bv) (by simp [Act.eval]) HROW1.out ad m cr ((List.replicate m (2 : UInt8)).map bv) (by simp [Act.eval]) (by simp) HSR.out (bv_one _) hq1 hq2 hq3 ?_; intro v2 w2 hr2 hg2 hn2; obtain ⟨a2s, c2s, rfl⟩ := ownsN_form hr2; have HE := Lib.hid (HFIN.out w1 w2 _ HB1.out hg2 hr2 hn2); obtain ⟨c2q, cv2, fv2⟩ := hold_mid HROW1.out hg2 HBX1.out HV1.out hcv1; have c32 : w2.cell? ⟨R, 3, none⟩ = some (.slice ta T tc) := (by rw [c2q 3, HTT.out]; rfl); have c42 : w2.cell? ⟨R, 4, none⟩ = some (.slice (some ⟨V, 0, none⟩) N vc) := (by rw [c2q 4, HNN.out]; rfl); clear c2q; clear hr2 hg2 hn2 c31 c41)
      | (go_simp; go_at_call 48; (with_reducible refine HREP.out.mono ?_); rintro e w1 ⟨ad, cr, rfl, hsr, hb1⟩; have HB1 := Lib.hid (HBW.out.trans (hb1.mono HBW.out.size)); have HBX1 := Lib.hid (heap_below HBX0.out hb1); have HV1 := Lib.hid (heap_below HV0.out hb1); have c31 := cell_of_block HBX1.out 3; have c41 := cell_of_block HBX1.out 4; rw [← HTT.out] at c31; rw [← HNN.out] at c41; have hcv1 : w1.cell? ⟨V, i * 2 + 1, none⟩ = some (.slice la ln lc) := (HB1.out.cell (p := ⟨V, i * 2 + 1, none⟩) (heap_lt HV.out)).trans hcv; have HROW1 : Hid (w1.ownsRow w0.heap.size 5 1 (.slice la ln lc) ln (l.map bv)) := (by have := ownsN_below HROW.out HB1.out; rw [← HLN.out] at this; exact this); have HSR : Hid (∀ j u, ((List.replicate m (2 : UInt8)).map bv)[j]? = some u → w1.cell? (ad.add j) = some u) := sees_news hsr; have hq3 : w0.heap.size ≤ w1.heap.size := Nat.le_trans H.out.cs.low.size HB1.out.size; clear hsr hb1 c3a c4a))
    all_goals go_simp
    all_goals go_end0
    all_goals exact HE.out
end Go.Proofs.YtgplkpfdbiapaaaGreatDoor
