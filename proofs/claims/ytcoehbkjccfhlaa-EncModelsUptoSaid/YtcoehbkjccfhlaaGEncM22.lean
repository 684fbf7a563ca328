/- A cell of bools that turns: what reads as anything else stays; a row of bools that grows. -/
import Derived.Test.YtcoehbkjccfhlaaGEncM03
import Derived.Test.YtcoehbkjccfhlaaGEncM01
import Derived.Test.YtcoehbkjccfhlaaGEncM04
import Derived.Test.YtcoehbkjccfhlaaGEncM10
import Derived.Test.YtcoehbkjccfhlaaGEncM05
import Derived.Test.YtcoehbkjccfhlaaGEncM12
import Derived.Test.YtcoehbkjccfhlaaGEncM17
import Derived.Test.YtcoehbkjccfhlaaEnFa
import Derived.Test.YtcoehbkjccfhlaaEnGv
import Derived.Test.YtcoehbkjccfhlaaGEncM18
import Derived.Test.YtcoehbkjccfhlaaGEncM21
import Derived.Test.YtcoehbkjccfhlaaEnHo
import Derived.Test.YtcoehbkjccfhlaaEnInts
import Derived.Test.YtcoehbkjccfhlaaGEncM19
import Derived.Test.YtcoehbkjccfhlaaGEncM20
import Derived.Test.YtcoehbkjccfhlaaEnSw
import Derived.Test.YtcoehbkjccfhlaaRows
import Derived.BigQuiet
import Derived.Deep.AppendLies
import Derived.Deep.CutRange
import Derived.Deep.QuietTactic
import Derived.Deep.RegionHeld3
import Derived.Deep.RegionLaw
import Derived.Deep.RegionWith
import Derived.KernelRfl
import Derived.Laws.Bits64b
import Derived.Laws.BitsAllLaws
import Derived.Laws.BitsLemmas
import Derived.Laws.EntriesVeiled
import Derived.Laws.Tables
import Derived.Lib.AppendStr
import Derived.Lib.AppendZeros
import Derived.Lib.ConvBytes
import Derived.Lib.Hide
import Derived.Lib.SlBytesRow
import Derived.Lib.SmallJoins
import Derived.LoopIn
import Derived.LoopNIn
import Derived.Maps.AppendAt
import Derived.OrdersHeld
import Derived.OrdersIn
import Derived.OwnWalkIn
import Derived.RangeFuncBox
import Derived.RangeFuncCalls
import Derived.RangeFuncLeaves
import Derived.RangeFuncNested
import Derived.RangeFuncWrites
import Derived.Shelf.Abstract
import Derived.Shelf.Bytes.SlSmallAll
import Derived.Shelf.RegionOpen
import Derived.Sort.CutIn
import Derived.Stop.RegionWithIn
import Derived.TacticsInMore
import Derived.WalkKit
import Derived.WalkLawsBesides
import Derived.WalkSpells
import Derived.Test.YtcoehbkjccfhlaaGEncM00
/- EncModels' pure end: how far the literals reach; what the law asks of its lists. -/
namespace Go.Proofs.Ytcoehbkjccfhlaa
open Go Go.RowKit Go.Joins

theorem spot_rng {V v f nf : Nat} (hv : v ≤ V) (hf : f < nf) : spotE V v f ≤ 1 + nf * V := by
  have h1 : (f + 1) * V ≤ nf * V := Nat.mul_le_mul_right _ hf
  rw [Nat.succ_mul] at h1
  unfold spotE; omega
theorem litE_rng {V x f nf : Nat} (hx : x / 2 ≤ V) (hf : f < nf) : (litE V x f).natAbs ≤ 1 + nf * V := by
  have h := spot_rng (V := V) hx hf
  unfold litE absE
  split <;> split <;> omega
theorem neg_rng {x : Int} {m : Nat} (h : x.natAbs ≤ m) : (-x).natAbs ≤ m := by rw [Int.natAbs_neg]; exact h
theorem cast_rng {x m : Nat} (h : x ≤ m) : (x : Int).natAbs ≤ m := by omega
theorem allE_rng {c : NormC} {nf : Nat} (hM : MayC c) : ∀ cl ∈ allE c nf, ∀ x ∈ cl.2, x.natAbs ≤ 1 + nf * varsN c := by
  intro cl hm x hx
  rcases List.mem_cons.1 hm with rfl | hm
  · obtain rfl := List.mem_singleton.1 hx
    exact cast_rng (x := 1) (by omega)
  · obtain ⟨f, hf, hm⟩ := upE_mem.1 hm
    rcases List.mem_append.1 hm with hm | hm
    · unfold latsE at hm
      by_cases e0 : f = 0
      · rw [if_pos e0] at hm
        obtain ⟨i, hi, hm⟩ := upE_mem.1 hm
        have hs := spot_rng (V := varsN c) (v := firstLatE c + i) (f := 0) (nf := nf) (by unfold firstLatE varsN; omega) (by omega)
        unfold resetE at hm
        split at hm
        · obtain rfl := List.mem_singleton.1 hm
          obtain rfl := List.mem_singleton.1 hx
          exact neg_rng (cast_rng hs)
        · split at hm
          · obtain rfl := List.mem_singleton.1 hm
            obtain rfl := List.mem_singleton.1 hx
            exact cast_rng hs
          · cases hm
      · rw [if_neg e0] at hm
        obtain ⟨i, hi, hm⟩ := upE_mem.1 hm
        have hs := spot_rng (V := varsN c) (v := firstLatE c + i) (f := f) (nf := nf) (by unfold firstLatE varsN; omega) hf
        have hl := litE_rng (V := varsN c) (x := (c.lats.getD i (0, 0)).1) (f := f - 1) (nf := nf) (by have := (hM.lats _ (getD_mem (d := (0, 0)) hi)).1; omega) (by omega)
        simp only [nextE, List.mem_cons, List.not_mem_nil, or_false] at hm
        rcases hm with rfl | rfl
        · simp only [List.mem_cons, List.not_mem_nil, or_false] at hx
          rcases hx with rfl | rfl
          · exact neg_rng (cast_rng hs)
          · exact hl
        · simp only [List.mem_cons, List.not_mem_nil, or_false] at hx
          rcases hx with rfl | rfl
          · exact cast_rng hs
          · exact neg_rng hl
    · obtain ⟨i, hi, hm⟩ := upE_mem.1 hm
      have hs := spot_rng (V := varsN c) (v := firstGateE c + i) (f := f) (nf := nf) (by unfold firstGateE varsN; omega) hf
      have hg := hM.gates i hi
      have hv : 1 + c.ins.toNat + c.lats.length + i ≤ varsN c := by unfold varsN; omega
      have h1 := litE_rng (V := varsN c) (x := (c.gates.getD i (0, 0)).1) (f := f) (nf := nf) (by omega) hf
      have h2 := litE_rng (V := varsN c) (x := (c.gates.getD i (0, 0)).2) (f := f) (nf := nf) (by omega) hf
      simp only [gateE, List.mem_cons, List.not_mem_nil, or_false] at hm
      rcases hm with rfl | rfl | rfl
      · simp only [List.mem_cons, List.not_mem_nil, or_false] at hx
        rcases hx with rfl | rfl
        · exact neg_rng (cast_rng hs)
        · exact h1
      · simp only [List.mem_cons, List.not_mem_nil, or_false] at hx
        rcases hx with rfl | rfl
        · exact neg_rng (cast_rng hs)
        · exact h2
      · simp only [List.mem_cons, List.not_mem_nil, or_false] at hx
        rcases hx with rfl | rfl | rfl
        · exact cast_rng hs
        · exact neg_rng h1
        · exact neg_rng h2
theorem tellE_rng {V v f val nf : Nat} (hv : v ≤ V) (hf : f < nf) : ∀ x ∈ tellE V v f val, x.natAbs ≤ 1 + nf * V := by
  intro x hx
  have hs := spot_rng hv hf
  unfold tellE at hx
  split at hx
  · obtain rfl := List.mem_singleton.1 hx
    exact neg_rng (cast_rng hs)
  · split at hx
    · obtain rfl := List.mem_singleton.1 hx
      exact cast_rng hs
    · cases hx
theorem givE_rng {c : NormC} {t : TraceC} (ht : FitsC c t) : ∀ x ∈ givE c t, x.natAbs ≤ 1 + t.frames.length * varsN c := by
  intro x hx
  have h0 := ht.one
  rcases List.mem_append.1 hx with hx | hx
  · obtain ⟨i, hi, hx⟩ := upE_mem.1 hx
    unfold latG at hx
    split at hx
    · exact tellE_rng (by unfold firstLatE varsN; omega) (by omega) x hx
    · cases hx
  · obtain ⟨f, hf, hx⟩ := upE_mem.1 hx
    obtain ⟨i, hi, hx⟩ := upE_mem.1 hx
    exact tellE_rng (by unfold varsN; omega) hf x hx
theorem mustE_rng {c : NormC} {t : TraceC} (ht : FitsC c t) : ∀ x ∈ mustE c t.bad.toNat t.frames.length, x.natAbs ≤ 1 + t.frames.length * varsN c := by
  intro x hx
  have h0 := ht.one
  rcases List.mem_append.1 hx with hx | hx
  · obtain ⟨f, hf, hx⟩ := upE_mem.1 hx
    obtain ⟨y, hy, rfl⟩ := List.mem_map.1 hx
    exact litE_rng (by have := ht.may.cons y hy; omega) hf
  · obtain rfl := List.mem_singleton.1 hx
    exact litE_rng (by have := ht.may.bads _ (getD_mem (d := 0) ht.bad); omega) (by omega)
theorem any_same {α : Type} {f g : α → Bool} : ∀ {l : List α}, (∀ x ∈ l, f x = g x) → l.any f = l.any g
  | [], _ => rfl
  | a :: r, h => by rw [List.any_cons, List.any_cons, h a (List.mem_cons_self ..), any_same (fun x hx => h x (List.mem_cons_of_mem _ hx))]
theorem clause_same {bs : List Bool} {m : Nat} (hb : bs.length = m + 1) {l : List Int} (hl : ∀ x ∈ l, x.natAbs ≤ m) : l.any (litB bs) = clM (fun s => bs.getD s false) l :=
  any_same fun x hx => litB_eq (by have := hl x hx; omega)
/-- What the law stands on behind its first tests. -/
structure MdF (c : NormC) (t : TraceC) (nf : Nat) (bs : List Bool) (L : List (List Int)) (G U : List Int) (q : Bool) : Prop where
  len : bs.length = 2 + nf * varsN c
  few : bs.length ≤ 5000000
  cl : clA c (nf : Int) = (L, 0)
  gv : gvA c t = (G, 0)
  fa : faA c t.bad (nf : Int) = (U, 0)
  tr : trOk c t.bad (nf : Int) bs = true
  md : modT c bs t.bad nf = t
  all1 : ∀ l ∈ L, l.any (litB bs) = true
  all2 : ∀ x ∈ G, litB bs x = true
  all3 : U.all (litB bs) = q
  ver : failsE c t = .returned (.tuple #[.bool q, .int .i64 0])
  flip : ∀ k, 1 ≤ k → k < bs.length → (L.all (fun l => l.any (litB (bs.set k (!bs.getD k false)))) && G.all (litB (bs.set k (!bs.getD k false)))) = false
  r1 : ∀ l ∈ L, l.length ≤ 3 ∧ ∀ x ∈ l, x.natAbs ≤ 100000000
  r2 : ∀ x ∈ G, x.natAbs ≤ 100000000
  r3 : ∀ x ∈ U, x.natAbs ≤ 100000000
  n1 : L.length ≤ 13000000
  n2 : G.length ≤ 5000000
  n3 : U.length ≤ 5000000
theorem mdF {c : NormC} {t : TraceC} (ht : FitsC c t) (hx : TNoX t) (hr : readT t = t) (hg : great14 c 1 = false) (hnf : t.frames.length ≤ 20) :
    MdF c t t.frames.length (modelL c t) ((allE c t.frames.length).map bareE) (givE c t) (mustE c t.bad.toNat t.frames.length) (decide ((k1.verdict c t.bad.toNat t.init t.frames).toNat = 1)) := by
  obtain ⟨g1, g2, g3, g4, _⟩ := great_no hg
  have h0 := ht.one
  have hl := modelL_len ht
  have hV : varsN c ≤ 16384 := ht.may.few
  have hnV : t.frames.length * varsN c ≤ 20 * 16384 := Nat.mul_le_mul hnf hV
  have hof : ofOk c (t.frames.length : Int) = true := by
    unfold ofOk framesOk
    rw [mayC_iff.2 ht.may]
    simp
    omega
  have hmany := many_few (nf := t.frames.length) g2 g3 (by omega)
  have hbad : badOk c t.bad = true := by
    unfold badOk
    have := ht.pos
    have := ht.bad
    simp
    omega
  have hrun := modelL_run ht
  have hA1 : ∀ l ∈ (allE c t.frames.length).map bareE, ∀ x ∈ l, x.natAbs ≤ 1 + t.frames.length * varsN c := by
    intro l hl x hx
    obtain ⟨cl, h1, rfl⟩ := List.mem_map.1 hl
    exact allE_rng ht.may cl h1 x hx
  have hG1 := givE_rng ht
  have hU1 := mustE_rng ht
  refine ⟨hl, by omega, ?_, ?_, ?_, ?_, modT_model ht hx, ?_, ?_, ?_, ?_, ?_, ?_, ?_, ?_, ?_, ?_, ?_⟩
  · unfold clA
    rw [if_pos hof, Int.toNat_natCast, if_pos hmany]
  · unfold gvA
    rw [if_pos (fits_iff.2 ht)]
  · unfold faA
    rw [if_pos hbad, if_pos hof, Int.toNat_natCast, if_pos hmany]
  · unfold trOk
    rw [hof, hbad, Int.toNat_natCast, hl]
    simp
    omega
  · intro l hl2
    rw [clause_same (m := 1 + t.frames.length * varsN c) (by omega) (hA1 l hl2)]
    obtain ⟨cl, h1, rfl⟩ := List.mem_map.1 hl2
    exact hrun.clauses ht hx cl h1
  · intro x hx2
    rw [litB_eq (by have := hG1 x hx2; omega)]
    exact hrun.given ht hx x hx2
  · have h2 := hrun.must ht hx
    rw [Bool.eq_iff_iff, decide_eq_true_eq, ← h2, List.all_eq_true]
    constructor
    · intro h x hx2
      have := h x hx2
      rw [litB_eq (by have := hU1 x hx2; omega)] at this
      exact this
    · intro h x hx2
      rw [litB_eq (by have := hU1 x hx2; omega)]
      exact h x hx2
  · unfold failsE
    rw [if_pos (fits_iff.2 ht), hr]
  · intro k hk1 hk2
    rw [Bool.eq_false_iff]
    intro h
    rw [Bool.and_eq_true, List.all_eq_true, List.all_eq_true] at h
    obtain ⟨h1, h2⟩ := h
    have hl2 : ((modelL c t).set k (!(modelL c t).getD k false)).length = (1 + t.frames.length * varsN c) + 1 := by rw [List.length_set]; omega
    refine flip_bad (c := c) (t := t) (nf := t.frames.length) (k := k) (M := fun s => (modelL c t).getD s false) (M' := fun s => ((modelL c t).set k (!(modelL c t).getD k false)).getD s false) ht.may rfl hk1 (by omega)
      (fun i _ => noX_getD hx.init i) (fun f _ i _ => noX_getD (frame_noX hx f) i) ?_ ?_ (hrun.clauses ht hx) ?_ (hrun.given ht hx) ?_
    · intro j hj
      simp [List.getD, List.getElem?_set_ne (Ne.symm hj)]
    · simp [List.getD, hk2]
    · intro cl hcl
      have h3 := h1 cl.2 (List.mem_map.2 ⟨cl, hcl, rfl⟩)
      rw [clause_same hl2 (hA1 cl.2 (List.mem_map.2 ⟨cl, hcl, rfl⟩))] at h3
      exact h3
    · intro x hx2
      have h3 := h2 x hx2
      rw [litB_eq (by have := hG1 x hx2; omega)] at h3
      exact h3
  · intro l hl2
    refine ⟨?_, fun x hx2 => by have := hA1 l hl2 x hx2; omega⟩
    obtain ⟨cl, h1, rfl⟩ := List.mem_map.1 hl2
    exact (allE_tag cl h1).2
  · intro x hx2
    have := hG1 x hx2; omega
  · intro x hx2
    have := hU1 x hx2; omega
  · rw [List.length_map]
    have := allE_len c t.frames.length hV
    omega
  · have := givE_len ht t.frames.length 0 (Nat.le_refl _) (Nat.zero_le _) 0
    rw [upE_zero, List.append_nil] at this
    exact this
  · have h3 := upE_len (consE c) 1024 t.frames.length (fun i _ => by unfold consE; rw [List.length_map]; exact ht.may.lens.2.2)
    unfold mustE
    rw [List.length_append]
    show _ + 1 ≤ _
    omega
theorem readT_idem (t : TraceC) : readT (readT t) = readT t := by
  unfold readT
  simp only [List.map_map]
  rw [zeroL_zeroL]
  congr 1
  refine List.map_congr_left fun l _ => zeroL_zeroL l
end Go.Proofs.Ytcoehbkjccfhlaa
namespace Go.Proofs.Ytcoehbkjccfhlaa
open Go Go.RowKit Go.Joins
def isB14 (u : Value) : Prop := ∃ b : Bool, u = .bool b
theorem isB14_map (M : List Bool) : ∀ u ∈ M.map Value.bool, isB14 u := fun u hu => by
  obtain ⟨b, _, rfl⟩ := List.mem_map.1 hu
  exact ⟨b, rfl⟩
theorem one14_map (M : List Bool) : ∀ u ∈ M.map Value.bool, u.oneCell' = true := fun u hu => by
  obtain ⟨b, _, rfl⟩ := List.mem_map.1 hu
  rfl
theorem bools_set {w : World} {base g n cap : Nat} {e : TypeId} {l : List Bool} (h : Row isB14 w base e (.slice (some ⟨g, 0, none⟩) n cap) n (l.map Value.bool)) (i : Nat) (u : Bool) :
    Row isB14 (w.setCell ⟨g, i, none⟩ (.bool u)) base e (.slice (some ⟨g, 0, none⟩) n cap) n ((l.set i u).map Value.bool) := by
  obtain ⟨hl, h2⟩ := h
  rcases h2 with ⟨h2, _⟩ | ⟨g', cap', cur, h2, hg, hh, hn, hc, hs, ht, ho⟩
  · cases h2
  · cases h2
    refine ⟨by simpa using hl, .inr ⟨g, cap, cur.setIfInBounds i (.bool u), rfl, hg, block_setCell hh (.bool u), hn, hc, by simpa using hs, ?_, ?_⟩⟩
    · rw [Array.toList_setIfInBounds, List.take_set, ht, List.map_set]
    · intro x hx
      rw [Array.toList_setIfInBounds] at hx
      rcases List.mem_or_eq_of_mem_set hx with h | h
      · exact ho x h
      · rw [h]; exact ⟨u, rfl⟩
theorem size_setCell14 (w : World) (p : Addr) (v : Value) : (w.setCell p v).heap.size = w.heap.size := by simp
theorem sees_set_bool {w : World} {xs : List Value} {a : Option Addr} {n c : Nat} (h : Sees w a n c xs) {p : Addr} {b : Bool} (hp : w.cell? p = some (.bool b)) (hx : ∀ u ∈ xs, ¬ isB14 u) (v : Value) : Sees (w.setCell p v) a n c xs := by
  refine ⟨h.len, h.cap, h.nilc, fun h0 => ?_⟩
  obtain ⟨b', off, e, hlt, hc⟩ := h.real h0
  refine ⟨b', off, e, by rw [size_setCell14]; exact hlt, fun j hj => ?_⟩
  rw [World.cell?_setCell_other _ _ _ _ ?_]
  · exact hc j hj
  · intro e2
    have h1 := hc j hj
    rw [← e2, hp] at h1
    exact hx _ (List.mem_of_getElem? h1.symm) ⟨b, rfl⟩
theorem seesZ_set_bool {w : World} {L : List (List Int)} {ss : List ZSlc} {a : Option Addr} {n c : Nat} (h : SeesZ w a n c ss L) {p : Addr} {b : Bool} (hp : w.cell? p = some (.bool b)) (v : Value) : SeesZ (w.setCell p v) a n c ss L :=
  ⟨sees_set_bool h.row hp (fun u hu hb => by
    obtain ⟨x, _, rfl⟩ := List.mem_map.1 hu
    obtain ⟨b, hb⟩ := hb
    cases hb) v, h.len, fun k hk => sees_set_bool (h.each k hk) hp (fun u hu hb => by
    obtain ⟨x, _, rfl⟩ := List.mem_map.1 hu
    obtain ⟨b, hb⟩ := hb
    cases hb) v⟩
theorem seesI_set_bool {w : World} {L : List Int} {a : Option Addr} {n c : Nat} (h : Sees w a n c (zvs L)) {p : Addr} {b : Bool} (hp : w.cell? p = some (.bool b)) (v : Value) : Sees (w.setCell p v) a n c (zvs L) :=
  sees_set_bool h hp (fun u hu hb => by
    obtain ⟨x, _, rfl⟩ := List.mem_map.1 hu
    obtain ⟨b, hb⟩ := hb
    cases hb) v
/-- The model, as far as it is made: whole frames, then so many of one. -/
def modelTo (c : NormC) (t : TraceC) (k m : Nat) : List Bool := false :: true :: (upE (rowM c t) k ++ (rowM c t k).take m)
theorem modelTo_zero (c : NormC) (t : TraceC) : modelTo c t 0 0 = [false, true] := by simp [modelTo, upE_zero]
theorem modelTo_next {c : NormC} {t : TraceC} (ht : FitsC c t) {k m : Nat} (hk : k < t.frames.length) (hm : m < varsN c) {y : Nat} (hy : y = ((varsAt c t k).getD (1 + m) 0).toNat) : modelTo c t k (m + 1) = modelTo c t k m ++ [decide (y = 1)] := by
  have hl := rowM_len ht hk
  unfold modelTo
  rw [List.take_succ_eq_append_getElem (by omega)]
  have e : (rowM c t k)[m]'(by omega) = decide (y = 1) := by
    unfold rowM
    rw [List.getElem_map, List.getElem_drop, hy]
    have hv := varsAt_len c t ht.init ht.frames k hk
    simp [List.getD, List.getElem?_eq_getElem (show 1 + m < (varsAt c t k).length by omega)]
  rw [e]
  simp
theorem modelTo_row {c : NormC} {t : TraceC} (ht : FitsC c t) {k : Nat} (hk : k < t.frames.length) : modelTo c t k (varsN c) = modelTo c t (k + 1) 0 := by
  have hl := rowM_len ht hk
  unfold modelTo
  rw [upE_succ, List.take_of_length_le (by omega)]
  simp
theorem modelTo_done (c : NormC) (t : TraceC) : modelTo c t t.frames.length 0 = modelL c t := by simp [modelTo, modelL]
theorem modelTo_len {c : NormC} {t : TraceC} (ht : FitsC c t) {k m : Nat} (hk : k < t.frames.length) (hm : m ≤ varsN c) : (modelTo c t k m).length = 2 + k * varsN c + m := by
  have hl := rowM_len ht hk
  unfold modelTo
  rw [List.length_cons, List.length_cons, List.length_append, upE_flat k (fun f hf => rowM_len ht (by omega)), List.length_take]
  omega
end Go.Proofs.Ytcoehbkjccfhlaa
