/- The clauses of a gate, counted. -/
import Derived.Test.YtcoehbkjccfhlaaGEncM00
import Derived.Test.YtcoehbkjccfhlaaGEncM01
import Derived.Test.YtcoehbkjccfhlaaGEncM03
import Derived.Test.YtcoehbkjccfhlaaGEncM12
import Derived.Test.YtcoehbkjccfhlaaEnFa
import Derived.Test.YtcoehbkjccfhlaaGEncM20
import Derived.Test.YtcoehbkjccfhlaaRows
import Derived.Test.YtcoehbkjccfhlaaGEncM05
import Derived.BigQuiet
import Derived.Deep.AppendLies
import Derived.Deep.CutRange
import Derived.Deep.QuietTactic
import Derived.Deep.RegionHeld3
import Derived.Deep.RegionLaw
import Derived.Deep.RegionWith
import Derived.KernelRfl
import Derived.Laws.EntriesVeiled
import Derived.Laws.Tables
import Derived.Lib.AppendStr
import Derived.Lib.AppendZeros
import Derived.Lib.ConvBytes
import Derived.Lib.Hide
import Derived.Lib.SlBytesRow
import Derived.Lib.SmallJoins
import Derived.Maps.AppendAt
import Derived.OrdersHeld
import Derived.Shelf.Bytes.SlSmallAll
import Derived.WalkKit
import Derived.WalkLawsBesides
import Derived.WalkSpells
import Derived.Test.YtcoehbkjccfhlaaGEncM04
import Derived.Test.YtcoehbkjccfhlaaGEncM10
import Derived.Test.YtcoehbkjccfhlaaGEncM19
import Derived.Laws.Bits64b
import Derived.Laws.BitsAllLaws
import Derived.Laws.BitsLemmas
import Derived.LoopIn
import Derived.LoopNIn
import Derived.OrdersIn
import Derived.OwnWalkIn
import Derived.RangeFuncBox
import Derived.RangeFuncCalls
import Derived.RangeFuncLeaves
import Derived.RangeFuncNested
import Derived.RangeFuncWrites
import Derived.Shelf.Abstract
import Derived.Shelf.RegionOpen
import Derived.Sort.CutIn
import Derived.Stop.RegionWithIn
import Derived.TacticsInMore
/- A model's trace on plain lists; blocks by number. -/
namespace Go.Proofs.Ytcoehbkjccfhlaa
open Go Go.RowKit Go.Joins

/-- The values of a model's trace. -/
def initN (c : NormC) (bs : List Bool) (i : Nat) : Nat := if (c.lats.getD i (0, 0)).2 = 2 then modV bs (spotE (varsN c) (firstLatE c + i) 0) else (c.lats.getD i (0, 0)).2
def inN (c : NormC) (bs : List Bool) (f i : Nat) : Nat := modV bs (spotE (varsN c) (1 + i) f)
def u8l (v : Nat → Nat) (n : Nat) : List UInt8 := (List.range n).map fun i => UInt8.ofNat (v i)
def modT (c : NormC) (bs : List Bool) (bad : Int) (nf : Nat) : TraceC := ⟨bad, u8l (initN c bs) c.lats.length, (List.range nf).map fun f => u8l (inN c bs f) c.ins.toNat⟩
def trOk (c : NormC) (bad z : Int) (bs : List Bool) : Bool := ofOk c z && (badOk c bad && decide (1 + (1 + z.toNat * varsN c) ≤ bs.length))
/-- What Trace answers. -/
def TrE (c : NormC) (bad z : Int) (bs : List Bool) (w : World) (e : Ending) (w' : World) : Prop :=
  Below w.heap.size w w' ∧ ((trOk c bad z bs = true ∧ ∃ st : TSlots, e = .returned (.tuple #[traceV bad st, .int .i64 0]) ∧ SeesTr w' st (modT c bs bad z.toNat) ∧ st.small) ∨
    (trOk c bad z bs = false ∧ e = .returned (.tuple #[.agg #[.int .i64 0, .slice none 0 0, .slice none 0 0], .int .i64 2])))
theorem u8l_len (v : Nat → Nat) (n : Nat) : (u8l v n).length = n := by simp [u8l]
theorem sees_block8 {w : World} {g n : Nat} (v : Nat → Nat) (h : w.heap[g]? = some (.cells (fcells n (fun j => Value.int .u8 (v j : Int))) 5 (0, 0))) (hv : ∀ j, j < n → v j < 256) : Sees w (some ⟨g, 0, none⟩) n n ((u8l v n).map bv) := by
  refine ⟨by simp [u8l], Nat.le_refl _, (fun e => by cases e), fun _ => ⟨g, 0, rfl, heap_lt h, fun j hj => ?_⟩⟩
  rw [Nat.zero_add, cell_of_block h j, fcells_get _ _ _ hj]
  simp only [u8l, List.getElem?_map, List.getElem?_range hj, Option.map_some, bv]
  congr 2
  simp [UInt8.toNat_ofNat', Nat.mod_eq_of_lt (hv j hj)]
/-- Nothing old has turned but the block F. -/
structure KeepN (F : Nat) (w w' : World) : Prop where
  os : w'.os = w.os
  tape : w'.tape = w.tape
  output : w'.output = w.output
  size : w.heap.size ≤ w'.heap.size
  block : ∀ D, D < w.heap.size → D ≠ F → w'.heap[D]? = w.heap[D]?
section
variable {F g : Nat} {w w' w2 : World}
theorem KeepN.refl (F : Nat) (w : World) : KeepN F w w := ⟨rfl, rfl, rfl, Nat.le_refl _, fun _ _ _ => rfl⟩
theorem KeepN.trans (h : KeepN F w w') (k : KeepN g w' w2) (hg : g = F ∨ w.heap.size ≤ g) : KeepN F w w2 :=
  ⟨k.os.trans h.os, k.tape.trans h.tape, k.output.trans h.output, Nat.le_trans h.size k.size, fun D h1 h2 => (k.block D (Nat.lt_of_lt_of_le h1 h.size) (by rcases hg with rfl | hg; exact h2; omega)).trans (h.block D h1 h2)⟩
theorem KeepN.of (F : Nat) (h : Below w.heap.size w w') : KeepN F w w' := ⟨h.os, h.tape, h.output, h.size, fun D h1 _ => h.block D h1⟩
theorem KeepN.set (F : Nat) (w : World) (i : Nat) (v : Value) : KeepN F w (w.setCell ⟨F, i, none⟩ v) :=
  have k := (Below.refl F w).setCell (p := ⟨F, i, none⟩) (Nat.le_refl _) v
  ⟨k.os, k.tape, k.output, k.size, fun D _ h2 => Below.heap_setCell w ⟨F, i, none⟩ v D h2⟩
theorem KeepN.at_ (h : KeepN F w w') {D : Nat} {o : Obj} (hD : w.heap[D]? = some o) (hF : D ≠ F) : w'.heap[D]? = some o := (h.block D (heap_lt hD) hF).trans hD
theorem KeepN.below {base : World} (h : KeepN F w w') (hb : Below base.heap.size base w) (hF : base.heap.size ≤ F) : Below base.heap.size base w' :=
  ⟨h.os.trans hb.os, h.tape.trans hb.tape, h.output.trans hb.output, Nat.le_trans hb.size h.size, fun D hD => (h.block D (Nat.lt_of_lt_of_le hD hb.size) (by omega)).trans (hb.block D hD)⟩
end
theorem initN_le {c : NormC} (h : MayC c) (bs : List Bool) (i : Nat) (hi : i < c.lats.length) : initN c bs i ≤ 2 := by
  have := h.lats (c.lats.getD i (0, 0)) (getD_mem hi)
  have := modV_le bs (spotE (varsN c) (firstLatE c + i) 0)
  unfold initN
  split <;> omega
theorem inN_le (c : NormC) (bs : List Bool) (f i : Nat) : inN c bs f i ≤ 2 := Nat.le_trans (modV_le _ _) (by omega)
end Go.Proofs.Ytcoehbkjccfhlaa
/- The model's trace is the trace. -/
namespace Go.Proofs.Ytcoehbkjccfhlaa
open Go Go.RowKit Go.Joins

theorem u8l_eq {v : Nat → Nat} {n : Nat} {l : List UInt8} (hl : l.length = n) (h : ∀ i, i < n → v i = (l.getD i 0).toNat) : u8l v n = l := by
  refine List.ext_getElem (by simp [u8l, hl]) (fun i h1 h2 => ?_)
  have hi : i < n := by omega
  have e : l.getD i 0 = l[i] := by simp [List.getD, List.getElem?_eq_getElem h2]
  simp only [u8l, List.getElem_map, List.getElem_range]
  rw [h i hi, e, UInt8.ofNat_toNat]
theorem modV_run {c : NormC} {t : TraceC} (ht : FitsC c t) (hx : TNoX t) {f v : Nat} (hf : f < t.frames.length) (h1 : 1 ≤ v) (h2 : v ≤ varsN c) : modV (modelL c t) (spotE (varsN c) v f) = ((varsAt c t f).getD v 0).toNat := by
  have h := (modelL_run ht).at_ f v hf h1 h2
  have hn := noX_getD (varsAt_noX (c := c) hx f) v
  unfold modV
  rw [h]
  obtain e | e : ((varsAt c t f).getD v 0).toNat = 0 ∨ ((varsAt c t f).getD v 0).toNat = 1 := by omega
  · rw [e]; rfl
  · rw [e]; rfl
theorem modT_model {c : NormC} {t : TraceC} (ht : FitsC c t) (hx : TNoX t) : modT c (modelL c t) t.bad t.frames.length = t := by
  have h0 := ht.one
  have e1 : u8l (initN c (modelL c t)) c.lats.length = t.init := u8l_eq ht.init (fun i hi => by
    unfold initN
    by_cases e : (c.lats.getD i (0, 0)).2 = 2
    · rw [if_pos e, modV_run ht hx (by omega) (by unfold firstLatE; omega) (by unfold firstLatE varsN; omega), at_lat ht (by omega) hi]
      rfl
    · have := ht.resets i hi
      rw [if_neg e]
      omega)
  have e2 : (List.range t.frames.length).map (fun f => u8l (inN c (modelL c t) f) c.ins.toNat) = t.frames := by
    refine List.ext_getElem (by simp) (fun f h1 h2 => ?_)
    have e : t.frames.getD f [] = t.frames[f] := by simp [List.getD, List.getElem?_eq_getElem h2]
    rw [List.getElem_map, List.getElem_range, ← e]
    refine u8l_eq (frame_len ht h2) (fun i hi => ?_)
    unfold inN
    rw [modV_run ht hx h2 (by omega) (by unfold varsN; omega), at_in ht h2 hi]
  unfold modT
  rw [e1, e2]
theorem zeroU_noX {u : UInt8} (h : u.toNat ≤ 2) : (zeroU u).toNat ≤ 1 := by
  unfold zeroU
  split
  · decide
  · omega
theorem readT_noX {c : NormC} {t : TraceC} (ht : FitsC c t) : TNoX (readT t) := by
  refine ⟨fun u hu => ?_, fun f hf u hu => ?_⟩
  · obtain ⟨v, hv, rfl⟩ := List.mem_map.1 hu
    exact zeroU_noX (ht.inits v hv)
  · obtain ⟨g, hg, rfl⟩ := List.mem_map.1 hf
    obtain ⟨v, hv, rfl⟩ := List.mem_map.1 hu
    exact zeroU_noX (ht.values g hg v hv)
end Go.Proofs.Ytcoehbkjccfhlaa
namespace Go.Proofs.Ytcoehbkjccfhlaa
open Go Go.RowKit Go.Joins

/-- How many of these clauses are of the gate j. -/
def cntE (T : List TCl) (j : Nat) : Nat := T.countP (fun t => decide (t.1 = (j : Int)))
theorem cntE_append (a b : List TCl) (j : Nat) : cntE (a ++ b) j = cntE a j + cntE b j := by simp [cntE, List.countP_append]
theorem cntE_none {T : List TCl} {j : Nat} (h : ∀ t ∈ T, t.1 = -1) : cntE T j = 0 := by
  unfold cntE
  rw [List.countP_eq_zero]
  intro t ht
  simp only [decide_eq_true_eq]
  rw [h t ht]
  omega
theorem latsE_tag {c : NormC} {f : Nat} : ∀ t ∈ latsE c f, t.1 = -1 ∧ t.2.length ≤ 3 := by
  intro t ht
  unfold latsE at ht
  split at ht
  · obtain ⟨i, _, hi⟩ := upE_mem.1 ht
    unfold resetE at hi
    split at hi
    · simp at hi; subst hi; simp
    · split at hi
      · simp at hi; subst hi; simp
      · simp at hi
  · obtain ⟨i, _, hi⟩ := upE_mem.1 ht
    simp [nextE] at hi
    rcases hi with rfl | rfl <;> simp
theorem gatesE_tag {c : NormC} {f k : Nat} : ∀ t ∈ upE (gateE c f) k, (∃ g : Nat, g < k ∧ t.1 = (g : Int)) ∧ t.2.length ≤ 3 := by
  intro t ht
  obtain ⟨i, hi, h⟩ := upE_mem.1 ht
  simp [gateE] at h
  rcases h with rfl | rfl | rfl <;> exact ⟨⟨i, hi, rfl⟩, by simp⟩
theorem allE_tag {c : NormC} {nf : Nat} : ∀ t ∈ allE c nf, (t.1 = -1 ∨ ∃ g : Nat, g < c.gates.length ∧ t.1 = (g : Int)) ∧ t.2.length ≤ 3 := by
  intro t ht
  unfold allE at ht
  rcases List.mem_cons.1 ht with rfl | ht
  · exact ⟨.inl rfl, by simp⟩
  · obtain ⟨f, _, h⟩ := upE_mem.1 ht
    unfold frameE at h
    rcases List.mem_append.1 h with h | h
    · exact ⟨.inl (latsE_tag t h).1, (latsE_tag t h).2⟩
    · exact ⟨.inr (gatesE_tag t h).1, (gatesE_tag t h).2⟩
theorem cnt_gates (c : NormC) (f j : Nat) : ∀ k, cntE (upE (gateE c f) k) j = if j < k then 3 else 0
  | 0 => by simp [upE_zero, cntE]
  | k + 1 => by
    rw [upE_succ, cntE_append, cnt_gates c f j k]
    by_cases h : k = j
    · subst h
      simp [gateE, cntE]
    · have : cntE (gateE c f k) j = 0 := by
        simp [gateE, cntE, List.countP_cons]
        omega
      rw [this]
      split <;> split <;> omega
theorem cnt_all (c : NormC) (j : Nat) (hj : j < c.gates.length) : ∀ nf, cntE (allE c nf) j = 3 * nf
  | 0 => by
    have : cntE (allE c 0) j = 0 := cntE_none (fun t ht => by simp [allE, upE_zero] at ht; rw [ht])
    omega
  | k + 1 => by
    rw [allE_succ, cntE_append, cntE_append, cnt_all c j hj k, cnt_gates, if_pos hj, cntE_none (fun t ht => (latsE_tag t ht).1)]
    omega
theorem cnt_snoc (T : List TCl) (k j : Nat) (h : k < T.length) (d : TCl) : cntE (T.take (k + 1)) j = cntE (T.take k) j + if (T.getD k d).1 = (j : Int) then 1 else 0 := by
  rw [List.take_succ_eq_append_getElem h, cntE_append]
  congr 1
  simp only [List.getD, List.getElem?_eq_getElem h, Option.getD_some]
  by_cases e : T[k].1 = (j : Int) <;> simp [cntE, e]
theorem cntE_le (T : List TCl) (j : Nat) : cntE T j ≤ T.length := List.countP_le_length
theorem map_getD {f : TCl → List Int} {T : List TCl} {k : Nat} (h : k < T.length) (d : TCl) : (T.map f).getD k [] = f (T.getD k d) := by
  simp [List.getD, List.getElem?_eq_getElem h]
/-- With few gates and frames there are few clauses. -/
theorem many_few {c : NormC} {nf : Nat} (h1 : c.lats.length ≤ 200) (h2 : c.gates.length ≤ 200) (h3 : nf ≤ 60) : manyE c nf ≤ 1048576 := by
  have a1 : 2 * c.lats.length * (nf - 1) ≤ 400 * 60 := Nat.mul_le_mul (by omega) (by omega)
  have a2 : 3 * c.gates.length * nf ≤ 600 * 60 := Nat.mul_le_mul (by omega) h3
  have a3 := fixedE_le c c.lats.length
  unfold manyE
  omega
end Go.Proofs.Ytcoehbkjccfhlaa
