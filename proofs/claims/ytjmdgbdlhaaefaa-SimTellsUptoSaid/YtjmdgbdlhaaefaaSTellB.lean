/- SimTells returns true for every circuit, trace, list of latch values, list of input values and literal where what it reads is of bulk at most 1048576: what the program's simulation answers is what the reference answers. Condition: the bound. -/
import Derived.Test.YtjmdgbdlhaaefaaNStep
import Derived.Test.YtjmdgbdlhaaefaaNTrace
import Derived.Test.YtjmdgbdlhaaefaaNHeap
import Derived.Test.YtjmdgbdlhaaefaaNHeap2
import Derived.Test.YtjmdgbdlhaaefaaSTellA
import Derived.Test.YtjmdgbdlhaaefaaRows
import Derived.BigQuiet
import Derived.Deep.AppendLies
import Derived.Deep.CutRange
import Derived.Deep.QuietTactic
import Derived.Deep.RegionHeld3
import Derived.Deep.RegionLaw
import Derived.Deep.RegionWith
import Derived.KernelRfl
import Derived.Laws.Bits64b
import Derived.Laws.BitsAllLaws
import Derived.Laws.BitsLemmas
import Derived.Laws.EntriesVeiled
import Derived.Laws.Tables
import Derived.Lib.AppendStr
import Derived.Lib.AppendZeros
import Derived.Lib.ConvBytes
import Derived.Lib.Hide
import Derived.Lib.SlBytesRow
import Derived.Lib.SmallJoins
import Derived.LoopIn
import Derived.LoopNIn
import Derived.Maps.AppendAt
import Derived.OrdersHeld
import Derived.OrdersIn
import Derived.OwnWalkIn
import Derived.RangeFuncBox
import Derived.RangeFuncCalls
import Derived.RangeFuncLeaves
import Derived.RangeFuncNested
import Derived.RangeFuncWrites
import Derived.Shelf.Abstract
import Derived.Shelf.Bytes.SlSmallAll
import Derived.Shelf.RegionOpen
import Derived.Sort.CutIn
import Derived.Stop.RegionWithIn
import Derived.TacticsInMore
import Derived.WalkKit
import Derived.WalkLawsBesides
import Derived.WalkSpells
import Derived.Test.YtjmdgbdlhaaefaaRawPred
import Derived.Test.YtjmdgbdlhaaefaaNSpec
import Derived.Test.YtjmdgbdlhaaefaaTBits
import Derived.Test.YtjmdgbdlhaaefaaSSpec
import Derived.Test.YtjmdgbdlhaaefaaSRun
import Derived.Test.YtjmdgbdlhaaefaaSSurely
import Derived.Test.YtjmdgbdlhaaefaaShelf
import Derived.Test.YtjmdgbdlhaaefaaLib
import Derived.Test.YtjmdgbdlhaaefaaNVal
import Derived.Test.YtjmdgbdlhaaefaaNCirc
import Derived.Test.YtjmdgbdlhaaefaaSVerd
import Derived.Test.YtjmdgbdlhaaefaaSRunF
import Derived.Test.YtjmdgbdlhaaefaaNBase
import Derived.Test.YtjmdgbdlhaaefaaNOwns
import Derived.Test.YtjmdgbdlhaaefaaNWide
import Derived.Test.YtjmdgbdlhaaefaaTRefA
import Derived.Test.YtjmdgbdlhaaefaaSVals
import Derived.Test.YtjmdgbdlhaaefaaSRFrame
import Derived.Test.YtjmdgbdlhaaefaaSRRun
import Derived.BigRegion
import Derived.Test.YtjmdgbdlhaaefaaOwn
import Derived.Test.YtjmdgbdlhaaefaaOwnStr
import Derived.Test.YtjmdgbdlhaaefaaNCopyTr
import Derived.Test.YtjmdgbdlhaaefaaNClone2
import Derived.Test.YtjmdgbdlhaaefaaSFrame
import Derived.Test.YtjmdgbdlhaaefaaNOwnsN
import Derived.Test.YtjmdgbdlhaaefaaNPeel
import Derived.Test.YtjmdgbdlhaaefaaNRefFits
import Derived.Lib.SlBytesConst
import Derived.Test.YtjmdgbdlhaaefaaPost0
import Derived.Test.YtjmdgbdlhaaefaaPost
import Derived.Test.YtjmdgbdlhaaefaaNOpenC
import Derived.Test.YtjmdgbdlhaaefaaNOpen
import Derived.ChangeSame
import Derived.Deep.DeepHandedRow
import Derived.Deep.Fields
import Derived.Deep.Slices
import Derived.JoinedCond
import Derived.Lib.LaidTab
import Derived.OpenShut
import Derived.ProofKit
import Derived.Stop.LaidErr
/- A trace whose X are bits, on plain lists. -/
namespace Go.Proofs.Ytjmdgbdlhaaefaa
open Go Go.RowKit Go.Joins

def bitU (bits : List Bool) (p : Nat) : UInt8 := if bits.getD p false = true then 1 else 0
def fillU (bits : List Bool) (p : Nat) (u : UInt8) : UInt8 := if u.toNat = 2 then bitU bits p else u
def nextU (p : Nat) (u : UInt8) : Nat := if u.toNat = 2 then p + 1 else p
def fillL (bits : List Bool) : Nat → List UInt8 → List UInt8
  | _, [] => []
  | p, u :: r => fillU bits p u :: fillL bits (nextU p u) r
def nextX : Nat → List UInt8 → Nat
  | p, [] => p
  | p, u :: r => nextX (nextU p u) r
theorem fillL_len (bits : List Bool) : ∀ (l : List UInt8) (p : Nat), (fillL bits p l).length = l.length
  | [], _ => rfl
  | u :: r, p => by rw [fillL, List.length_cons, fillL_len bits r, List.length_cons]
theorem fillL_append (bits : List Bool) : ∀ (a b : List UInt8) (p : Nat), fillL bits p (a ++ b) = fillL bits p a ++ fillL bits (nextX p a) b
  | [], _, _ => rfl
  | u :: r, b, p => by rw [List.cons_append, fillL, fillL_append bits r b, fillL, nextX]; rfl
theorem nextX_append : ∀ (a b : List UInt8) (p : Nat), nextX p (a ++ b) = nextX (nextX p a) b
  | [], _, _ => rfl
  | u :: r, b, p => by rw [List.cons_append, nextX, nextX_append r b]; rfl
theorem nextU_le (p : Nat) (u : UInt8) : nextU p u ≤ p + 1 := by unfold nextU; split <;> omega
theorem nextX_le : ∀ (l : List UInt8) (p : Nat), nextX p l ≤ p + l.length
  | [], p => Nat.le_refl _
  | u :: r, p => by rw [nextX, List.length_cons]; have := nextX_le r (nextU p u); have := nextU_le p u; omega
/-- What a list holds when m of its values have been filled. -/
def fillI (bits : List Bool) (p : Nat) (l : List UInt8) (m : Nat) : List UInt8 := fillL bits p (l.take m) ++ l.drop m
theorem fillI_len (bits : List Bool) (p : Nat) (l : List UInt8) (m : Nat) : (fillI bits p l m).length = l.length := by unfold fillI; rw [List.length_append, fillL_len, List.length_take, List.length_drop]; omega
theorem fillI_zero (bits : List Bool) (p : Nat) (l : List UInt8) : fillI bits p l 0 = l := by simp [fillI, fillL]
theorem fillI_all (bits : List Bool) (p : Nat) (l : List UInt8) : fillI bits p l l.length = fillL bits p l := by simp [fillI]
theorem fillI_at (bits : List Bool) (p : Nat) (l : List UInt8) (m : Nat) (h : m < l.length) : (fillI bits p l m).getD m 0 = l.getD m 0 := by
  have e : (fillL bits p (l.take m)).length = m := by rw [fillL_len, List.length_take]; omega
  simp [fillI, List.getD, List.getElem?_append_right (Nat.le_of_eq e), e, List.getElem?_drop]
theorem take_snoc (l : List UInt8) (m : Nat) (h : m < l.length) : l.take (m + 1) = l.take m ++ [l.getD m 0] := by
  rw [List.take_add_one, List.getElem?_eq_getElem h]; simp [List.getD, List.getElem?_eq_getElem h]
theorem nextX_step (p : Nat) (l : List UInt8) (m : Nat) (h : m < l.length) : nextX p (l.take (m + 1)) = nextU (nextX p (l.take m)) (l.getD m 0) := by
  rw [take_snoc l m h, nextX_append]; rfl
theorem fillI_step (bits : List Bool) (p : Nat) (l : List UInt8) (m : Nat) (h : m < l.length) : fillI bits p l (m + 1) = (fillI bits p l m).set m (fillU bits (nextX p (l.take m)) (l.getD m 0)) := by
  have e : (fillL bits p (l.take m)).length = m := by rw [fillL_len, List.length_take]; omega
  have hg : l.getD m 0 = l[m] := by simp [List.getD, List.getElem?_eq_getElem h]
  unfold fillI
  rw [List.set_append_right _ _ (Nat.le_of_eq e), e, Nat.sub_self, List.drop_eq_getElem_cons h, List.set_cons_zero, take_snoc l m h, fillL_append, hg]
  simp only [fillL, List.append_assoc, List.cons_append, List.nil_append]
theorem fillI_keep (bits : List Bool) (p : Nat) (l : List UInt8) (m : Nat) (h : m < l.length) (h2 : (l.getD m 0).toNat ≠ 2) : fillI bits p l (m + 1) = fillI bits p l m := by
  rw [fillI_step bits p l m h]
  unfold fillU
  rw [if_neg h2, ← fillI_at bits p l m h]
  have hl : m < (fillI bits p l m).length := by rw [fillI_len]; exact h
  simp [List.getD, List.getElem?_eq_getElem hl]
/-- The lists of a trace, the first one ahead. -/
def listsOf (t : TraceC) (j : Nat) : List UInt8 := (t.init :: t.frames).getD j []
/-- How many X lie ahead of a list. -/
def startP (G : Nat → List UInt8) : Nat → Nat
  | 0 => 0
  | k + 1 => nextX (startP G k) (G k)
theorem startP_le (G : Nat → List UInt8) (M : Nat) : ∀ k, (∀ j, j < k → (G j).length ≤ M) → startP G k ≤ k * M
  | 0, _ => by simp [startP]
  | k + 1, h => by
    have h1 := startP_le G M k (fun j hj => h j (by omega))
    have h2 := nextX_le (G k) (startP G k)
    have h3 := h k (by omega)
    rw [startP, Nat.succ_mul]; omega
def fillT (bits : List Bool) (t : TraceC) : TraceC := ⟨t.bad, fillL bits 0 t.init, (List.range t.frames.length).map fun k => fillL bits (startP (listsOf t) (k + 1)) (t.frames.getD k [])⟩
theorem KeptNB.owns {w w' : World} (h : KeptNB w w') {base sz : Nat} {e : TypeId} {v : Value} {n : Nat} {xs : List Value} (hr : w.ownsRow base e sz v n xs) (he : e ≠ 5) : w'.ownsRow base e sz v n xs :=
  ownsN_other hr fun q hq => by
    rcases hr.2 with ⟨h2, _⟩ | ⟨g', cap', cur, h2, _, hh, _⟩
    · rw [h2] at hq; cases hq
    · rw [h2] at hq
      have : g' = q := by simpa [Value.ownBlock] using hq
      subst this
      exact (h g' cur e _ hh he).trans hh.symm
end Go.Proofs.Ytjmdgbdlhaaefaa
/- What is known stays so, whatever X are: on plain lists. -/
namespace Go.Proofs.Ytjmdgbdlhaaefaa
open Go Go.RowKit

/-- b is a bit, and a is b unless it is X. -/
def Ref (a b : UInt8) : Prop := (a.toNat = 2 ∨ a = b) ∧ b.toNat ≤ 1
theorem u8_ofNat_toNat (n : Nat) (h : n ≤ 2) : (UInt8.ofNat n).toNat = n := by rw [UInt8.toNat_ofNat', Nat.mod_eq_of_lt (by omega)]
theorem u8_cases (b : UInt8) (h : b.toNat ≤ 1) : b = 0 ∨ b = 1 := by
  rcases (show b.toNat = 0 ∨ b.toNat = 1 by omega) with h | h
  · exact .inl (UInt8.toNat_inj.1 (h.trans rfl))
  · exact .inr (UInt8.toNat_inj.1 (h.trans rfl))
theorem ref_zero : Ref 0 0 := ⟨.inr rfl, by decide⟩
theorem Ref.not {a b : UInt8} (h : Ref a b) : Ref (k1.nt a) (k1.nt b) := by
  rcases u8_cases b h.2 with rfl | rfl
  · rcases h.1 with h1 | rfl
    · refine ⟨.inl ?_, by decide⟩
      show (UInt8.ofNat (not1 a.toNat)).toNat = 2
      rw [h1]; rfl
    · exact ⟨.inr rfl, by decide⟩
  · rcases h.1 with h1 | rfl
    · refine ⟨.inl ?_, by decide⟩
      show (UInt8.ofNat (not1 a.toNat)).toNat = 2
      rw [h1]; rfl
    · exact ⟨.inr rfl, by decide⟩
theorem Ref.and {a b x y : UInt8} (h : Ref a b) (h' : Ref x y) : Ref (k1.an a x) (k1.an b y) := by
  have key : ∀ (p q r s : Nat), (p = 2 ∨ p = q) → q ≤ 1 → (r = 2 ∨ r = s) → s ≤ 1 → (and1 p r = 2 ∨ and1 p r = and1 q s) ∧ and1 q s ≤ 1 := by
    intro p q r s h1 h2 h3 h4
    have hq : q = 0 ∨ q = 1 := by omega
    have hs : s = 0 ∨ s = 1 := by omega
    rcases h1 with rfl | rfl <;> rcases h3 with rfl | rfl <;> rcases hq with rfl | rfl <;> rcases hs with rfl | rfl <;> simp [and1]
  have k := key a.toNat b.toNat x.toNat y.toNat (h.1.imp id (fun e => by rw [e])) h.2 (h'.1.imp id (fun e => by rw [e])) h'.2
  have e1 := u8_ofNat_toNat (and1 a.toNat x.toNat) (and1_le _ _)
  have e2 := u8_ofNat_toNat (and1 b.toNat y.toNat) (and1_le _ _)
  refine ⟨k.1.imp (fun e => e1.trans e) (fun e => ?_), by show (UInt8.ofNat (and1 b.toNat y.toNat)).toNat ≤ 1; rw [e2]; exact k.2⟩
  show UInt8.ofNat (and1 a.toNat x.toNat) = UInt8.ofNat (and1 b.toNat y.toNat)
  rw [e]
def RefL (xs ys : List UInt8) : Prop := xs.length = ys.length ∧ ∀ i, Ref (xs.getD i 0) (ys.getD i 0)
theorem RefL.nil : RefL [] [] := ⟨rfl, fun i => by simpa using ref_zero⟩
theorem RefL.cons {a b : UInt8} {xs ys : List UInt8} (h : Ref a b) (hl : RefL xs ys) : RefL (a :: xs) (b :: ys) := ⟨by simp [hl.1], fun i => by
  cases i with
  | zero => simpa using h
  | succ i => simpa using hl.2 i⟩
theorem RefL.append {xs ys cs ds : List UInt8} (h : RefL xs ys) (h' : RefL cs ds) : RefL (xs ++ cs) (ys ++ ds) := by
  refine ⟨by simp [h.1, h'.1], fun i => ?_⟩
  by_cases e : i < xs.length
  · have e2 : i < ys.length := by rw [← h.1]; exact e
    have := h.2 i
    simpa [List.getD, List.getElem?_append_left e, List.getElem?_append_left e2] using this
  · have e1 : xs.length ≤ i := Nat.le_of_not_lt e
    have e2 : ys.length ≤ i := by rw [← h.1]; exact e1
    have := h'.2 (i - xs.length)
    simp only [List.getD, List.getElem?_append_right e1, List.getElem?_append_right e2] at this ⊢
    rw [← h.1]; exact this
theorem RefL.val {xs ys : List UInt8} (h : RefL xs ys) (lit : Nat) : Ref (k1.val xs lit) (k1.val ys lit) := by
  unfold Kd.val
  split
  · exact (h.2 _).not
  · exact h.2 _
theorem RefL.gates : ∀ (l : List (Nat × Nat)) {xs ys : List UInt8}, RefL xs ys → RefL (k1.gates l xs) (k1.gates l ys)
  | [], _, _, h => h
  | g :: r, xs, ys, h => by
    rw [Kd.gates, Kd.gates]
    exact RefL.gates r (h.append (RefL.cons ((h.val g.1).and (h.val g.2)) RefL.nil))
theorem RefL.vars {c : NormC} {st st' ins ins' : List UInt8} (h : RefL st st') (h' : RefL ins ins') : RefL (k1.vars c st ins) (k1.vars c st' ins') :=
  RefL.gates _ (RefL.cons ref_zero (h'.append h))
theorem RefL.map (f g : Nat × Nat → UInt8) : ∀ (l : List (Nat × Nat)), (∀ p, Ref (f p) (g p)) → RefL (l.map f) (l.map g)
  | [], _ => RefL.nil
  | p :: r, h => RefL.cons (h p) (RefL.map f g r h)
theorem RefL.next {c : NormC} {vs vs' : List UInt8} (h : RefL vs vs') : RefL (k1.next c vs) (k1.next c vs') := RefL.map _ _ _ fun p => h.val p.1
def RefF (fs gs : List (List UInt8)) : Prop := fs.length = gs.length ∧ ∀ i, RefL (fs.getD i []) (gs.getD i [])
theorem RefF.cons {x y : List UInt8} {xs ys : List (List UInt8)} (h : RefL x y) (hl : RefF xs ys) : RefF (x :: xs) (y :: ys) := ⟨by simp [hl.1], fun i => by
  cases i with
  | zero => simpa using h
  | succ i => simpa using hl.2 i⟩
theorem RefF.nil : RefF [] [] := ⟨rfl, fun i => by simpa using RefL.nil⟩
theorem RefF.tail {x y : List UInt8} {xs ys : List (List UInt8)} (h : RefF (x :: xs) (y :: ys)) : RefL x y ∧ RefF xs ys := ⟨by simpa using h.2 0, by simpa using h.1, fun i => by simpa using h.2 (i + 1)⟩
theorem RefF.run (c : NormC) : ∀ {fs gs : List (List UInt8)} {st st' : List UInt8}, RefF fs gs → RefL st st' → RefF (k1.run c st fs) (k1.run c st' gs)
  | [], [], _, _, _, _ => RefF.nil
  | [], _ :: _, _, _, h, _ => by have := h.1; simp at this
  | _ :: _, [], _, _, h, _ => by have := h.1; simp at this
  | f :: fs, g :: gs, st, st', h, hs => by
    obtain ⟨h1, h2⟩ := h.tail
    rw [Kd.run, Kd.run]
    have hv := RefL.vars (c := c) hs h1
    exact RefF.cons hv (RefF.run c h2 hv.next)
theorem ref_cons (vs vs' : List UInt8) (h : RefL vs vs') : ∀ (l : List Nat) {a a' : UInt8}, Ref a a' → Ref (k1.cons vs a l) (k1.cons vs' a' l)
  | [], _, _, ha => ha
  | x :: r, _, _, ha => ref_cons vs vs' h r (ha.and (h.val x))
theorem ref_sum (c : NormC) (bad : Nat) : ∀ {l l' : List (List UInt8)} {p p' : UInt8 × UInt8}, RefF l l' → Ref p.1 p'.1 → Ref p.2 p'.2 → Ref (k1.sum c bad p l).1 (k1.sum c bad p' l').1 ∧ Ref (k1.sum c bad p l).2 (k1.sum c bad p' l').2
  | [], [], _, _, _, h1, h2 => ⟨h1, h2⟩
  | [], _ :: _, _, _, h, _, _ => by have := h.1; simp at this
  | _ :: _, [], _, _, h, _, _ => by have := h.1; simp at this
  | v :: l, v' :: l', p, p', h, h1, h2 => by
    obtain ⟨hv, ht⟩ := h.tail
    exact ref_sum c bad (p := (k1.cons v p.1 c.cons, k1.val v (c.bads.getD bad 0))) (p' := (k1.cons v' p'.1 c.cons, k1.val v' (c.bads.getD bad 0))) ht (ref_cons v v' hv _ h1) (hv.val _)
theorem ref_verdict (c : NormC) (bad : Nat) {st st' : List UInt8} {fs gs : List (List UInt8)} (h : RefL st st') (h' : RefF fs gs) : Ref (k1.verdict c bad st fs) (k1.verdict c bad st' gs) := by
  have hz : Ref (k1.nt k1.z) (k1.nt k1.z) := ref_zero.not
  have hs := ref_sum c bad (p := (k1.nt k1.z, k1.z)) (p' := (k1.nt k1.z, k1.z)) (RefF.run c h' h) hz ref_zero
  exact hs.1.and hs.2
theorem ref_fillU (bits : List Bool) (p : Nat) (u : UInt8) (h : u.toNat ≤ 2) : Ref u (fillU bits p u) := by
  unfold fillU
  split
  · rename_i h2
    refine ⟨.inl h2, ?_⟩
    unfold bitU
    split <;> decide
  · exact ⟨.inr rfl, by omega⟩
theorem ref_fillL (bits : List Bool) : ∀ (l : List UInt8) (p : Nat), (∀ u ∈ l, u.toNat ≤ 2) → RefL l (fillL bits p l)
  | [], _, _ => RefL.nil
  | u :: r, p, h => RefL.cons (ref_fillU bits p u (h u (by simp))) (ref_fillL bits r _ (fun x hx => h x (by simp [hx])))
theorem fillT_frame (bits : List Bool) (t : TraceC) (k : Nat) (hk : k < t.frames.length) : (fillT bits t).frames.getD k [] = fillL bits (startP (listsOf t) (k + 1)) (t.frames.getD k []) := by
  simp only [fillT, List.getD]
  rw [List.getElem?_map, List.getElem?_range hk]
  rfl
theorem fillT_len (bits : List Bool) (t : TraceC) : (fillT bits t).frames.length = t.frames.length := by simp [fillT]
theorem ref_fillT {c : NormC} {t : TraceC} (bits : List Bool) (h : FitsC c t) : RefL t.init (fillT bits t).init ∧ RefF t.frames (fillT bits t).frames := by
  refine ⟨ref_fillL bits _ _ h.inits, (fillT_len bits t).symm, fun i => ?_⟩
  by_cases e : i < t.frames.length
  · rw [fillT_frame bits t i e]
    exact ref_fillL bits _ _ (h.values _ (getD_mem e))
  · have e1 : t.frames.getD i [] = [] := by simp [List.getD, List.getElem?_eq_none (Nat.le_of_not_lt e)]
    have e2 : (fillT bits t).frames.getD i [] = [] := by simp [List.getD, List.getElem?_eq_none (show (fillT bits t).frames.length ≤ i by rw [fillT_len]; exact Nat.le_of_not_lt e)]
    rw [e1, e2]; exact RefL.nil
theorem run_at (c : NormC) : ∀ (fs : List (List UInt8)) (st : List UInt8) (j : Nat), j < fs.length → (k1.run c st fs).getD j [] = k1.vars c (k1.after c st (fs.take j)) (fs.getD j [])
  | [], _, _, h => by simp at h
  | f :: r, st, 0, _ => by rw [Kd.run]; rfl
  | f :: r, st, j + 1, h => by
    rw [Kd.run, List.getD_cons_succ, run_at c r _ j (by simpa using h)]
    rfl
theorem ref_varsAt {c : NormC} {t : TraceC} (bits : List Bool) (h : FitsC c t) (j : Nat) (hj : j < t.frames.length) : RefL (varsAt c t j) (varsAt c (fillT bits t) j) := by
  obtain ⟨h1, h2⟩ := ref_fillT bits h
  have h3 := (RefF.run c h2 h1).2 j
  rw [run_at c _ _ j hj, run_at c _ _ j (by rw [fillT_len]; exact hj)] at h3
  exact h3
theorem ref_le {xs ys : List UInt8} (h : RefL xs ys) : ∀ u ∈ ys, u.toNat ≤ 1 := by
  intro u hu
  obtain ⟨i, hi, he⟩ := List.getElem_of_mem hu
  have := (h.2 i).2
  simpa [List.getD, List.getElem?_eq_getElem hi, he] using this
theorem FitsC.fill {c : NormC} {t : TraceC} (bits : List Bool) (h : FitsC c t) : FitsC c (fillT bits t) := by
  obtain ⟨h1, h2⟩ := ref_fillT bits h
  refine ⟨h.may, h.pos, h.bad, h1.1.symm.trans h.init, fun u hu => by have := ref_le h1 u hu; omega, fun i hi => ?_, by rw [fillT_len]; exact h.one, by rw [fillT_len]; exact h.few, fun k hk => ?_, fun f hf u hu => ?_⟩
  · rcases h.resets i hi with h3 | h3
    · exact .inl h3
    · by_cases e : (c.lats.getD i (0, 0)).2 = 2
      · exact .inl e
      · refine .inr ?_
        rcases (h1.2 i).1 with h4 | h4
        · omega
        · rw [← h4]; exact h3
  · have hk2 : k < t.frames.length := by rw [← fillT_len bits t]; exact hk
    rw [← (h2.2 k).1]; exact h.frames k hk2
  · obtain ⟨i, hi, he⟩ := List.getElem_of_mem hf
    have h3 := ref_le (h2.2 i)
    have h4 : (fillT bits t).frames.getD i [] = f := by simp [List.getD, List.getElem?_eq_getElem hi, he]
    rw [h4] at h3
    have := h3 u hu; omega
theorem zeroL_id (l : List UInt8) (h : ∀ u ∈ l, u.toNat ≤ 1) : zeroL l = l := by
  unfold zeroL
  conv => rhs; rw [← List.map_id l]
  refine List.map_congr_left fun u hu => ?_
  have := h u hu
  unfold zeroU
  rw [if_neg (by omega)]
  rfl
theorem readT_fill {c : NormC} {t : TraceC} (bits : List Bool) (h : FitsC c t) : readT (fillT bits t) = fillT bits t := by
  obtain ⟨h1, h2⟩ := ref_fillT bits h
  have e1 := zeroL_id _ (ref_le h1)
  have e2 : (fillT bits t).frames.map zeroL = (fillT bits t).frames := by
    conv => rhs; rw [← List.map_id (fillT bits t).frames]
    refine List.map_congr_left fun f hf => ?_
    obtain ⟨i, hi, he⟩ := List.getElem_of_mem hf
    have h3 := ref_le (h2.2 i)
    have h4 : (fillT bits t).frames.getD i [] = f := by simp [List.getD, List.getElem?_eq_getElem hi, he]
    rw [h4] at h3
    exact zeroL_id f h3
  unfold readT
  rw [e1, e2]
/-- Whether the filled trace fails, and what was said of it. -/
theorem fill_verdict {c : NormC} {t : TraceC} (bits : List Bool) (h : FitsC c t) (bad : Nat) :
    Ref (k1.verdict c bad t.init t.frames) (k1.verdict c bad (readT (fillT bits t)).init (readT (fillT bits t)).frames) := by
  rw [readT_fill bits h]
  obtain ⟨h1, h2⟩ := ref_fillT bits h
  exact ref_verdict c bad h1 h2
theorem gates_head : ∀ (l : List (Nat × Nat)) (vs : List UInt8), 0 < vs.length → (k1.gates l vs).getD 0 0 = vs.getD 0 0
  | [], _, _ => rfl
  | g :: r, vs, h => by
    rw [Kd.gates, gates_head r _ (by simp), List.getD, List.getElem?_append_left h]; rfl
theorem varsAt_head (c : NormC) (t : TraceC) (j : Nat) : (varsAt c t j).getD 0 0 = 0 := by
  unfold varsAt Kd.vars
  rw [gates_head _ _ (by simp)]
  rfl
end Go.Proofs.Ytjmdgbdlhaaefaa
/- What a run answers: rows of one length that a slice of slices reads as. -/
namespace Go.Proofs.Ytjmdgbdlhaaefaa
open Go Go.RowKit Go.Joins
theorem keep9 {w w' : World} {a0 a1 a2 a3 a4 a5 a6 a7 a8 : Addr} {v0 v1 v2 v3 v4 v5 v6 v7 v8 : Value} (h : w.cell? a0 = some v0 ∧ w.cell? a1 = some v1 ∧ w.cell? a2 = some v2 ∧ w.cell? a3 = some v3 ∧ w.cell? a4 = some v4 ∧ w.cell? a5 = some v5 ∧ w.cell? a6 = some v6 ∧ w.cell? a7 = some v7 ∧ w.cell? a8 = some v8) (hb : Below w.heap.size w w') : w'.cell? a0 = some v0 ∧ w'.cell? a1 = some v1 ∧ w'.cell? a2 = some v2 ∧ w'.cell? a3 = some v3 ∧ w'.cell? a4 = some v4 ∧ w'.cell? a5 = some v5 ∧ w'.cell? a6 = some v6 ∧ w'.cell? a7 = some v7 ∧ w'.cell? a8 = some v8 := by
  obtain ⟨h0, h1, h2, h3, h4, h5, h6, h7, h8⟩ := h
  have one : ∀ {a : Addr} {v : Value}, w.cell? a = some v → w'.cell? a = some v := fun {a v} h => (hb.cell (World.block_lt_of_cell? _ _ h)).trans h
  exact ⟨one h0, one h1, one h2, one h3, one h4, one h5, one h6, one h7, one h8⟩
/-- Rows of one length that a slice of slices reads as. -/
structure RowsB (w : World) (b o n c : Nat) (ss : List Slc) (N : Nat) (F : Nat → List UInt8) : Prop where
  list : Sees w (some ⟨b, o, none⟩) n c (ss.map slV)
  len : ss.length = n
  rows : ∀ j, j < n → ∃ rb ro rc, ss.getD j slc0 = (some ⟨rb, ro, none⟩, N, rc) ∧ Sees w (some ⟨rb, ro, none⟩) N rc ((F j).map bv)
theorem RowsB.below {w w' : World} {b o n c : Nat} {ss : List Slc} {N : Nat} {F : Nat → List UInt8} (h : RowsB w b o n c ss N F) (hb : Below w.heap.size w w') : RowsB w' b o n c ss N F :=
  ⟨h.list.below hb, h.len, fun j hj => by
    obtain ⟨rb, ro, rc, e, hs⟩ := h.rows j hj
    exact ⟨rb, ro, rc, e, hs.below hb⟩⟩
theorem RowsB.at {w : World} {b o n c : Nat} {ss : List Slc} {N : Nat} {F : Nat → List UInt8} (h : RowsB w b o n c ss N F) (k : Nat) (hk : k < n) :
    ∃ rb ro rc, w.cell? ⟨b, o + k, none⟩ = some (.slice (some ⟨rb, ro, none⟩) N rc) ∧ (∀ m, m < N → w.cell? ⟨rb, ro + m, none⟩ = some (.int .u8 (((F k).getD m 0).toNat : Int))) := by
  obtain ⟨rb, ro, rc, e, hs⟩ := h.rows k hk
  refine ⟨rb, ro, rc, ?_, fun m hm => hs.byte m hm⟩
  rw [(h.list.cell k hk).2, List.getElem?_map, List.getElem?_eq_getElem (show k < ss.length by rw [h.len]; exact hk)]
  have : ss[k]'(by rw [h.len]; exact hk) = ss.getD k slc0 := by simp [List.getD, List.getElem?_eq_getElem (show k < ss.length by rw [h.len]; exact hk)]
  rw [this, e]; rfl
theorem runpost_yes {c : NormC} {t : TraceC} {w w' : World} {e : Ending} (hF : FitsC c t) (h : RunPost c t w e w') :
    ∃ b o cc ss, e = .returned (.tuple #[.slice (some ⟨b, o, none⟩) t.frames.length cc, .int .i64 0]) ∧ RowsB w' b o t.frames.length cc ss (1 + varsN c) (varsAt c t) ∧ Below w.heap.size w w' := by
  obtain ⟨h1, _, hb⟩ := h
  obtain ⟨v, ss, e1, hl, ho, hr⟩ := h1 (fits_iff.2 hF)
  obtain ⟨a, cc, rfl, _, hs⟩ := Sees.owned ho
  obtain ⟨b, o, rfl, _⟩ := hs.addr (by have := hF.one; omega)
  refine ⟨b, o, cc, ss, e1, ⟨hs, hl, fun j hj => ?_⟩, hb⟩
  have h2 := hr j hj
  have hlen := varsAt_len c t hF.init hF.frames j hj
  rw [hlen] at h2
  obtain ⟨x, hx⟩ : ∃ x : Slc, x = ss.getD j slc0 := ⟨_, rfl⟩
  rw [← hx] at h2 ⊢
  obtain ⟨xa, xn, xc⟩ := x
  unfold slV at h2
  simp only at h2
  obtain ⟨e2, h3⟩ := row_sees_slice h2
  subst e2
  obtain ⟨rb, ro, e3, _⟩ := h3.addr (by omega)
  subst e3
  exact ⟨rb, ro, xc, rfl, h3⟩
end Go.Proofs.Ytjmdgbdlhaaefaa
/- The reference's Surely, by its contract. -/
namespace Go.Proofs.Ytjmdgbdlhaaefaa
open Go Go.RowKit Go.Joins

theorem and1_swap (a b d : Nat) : and1 (and1 a b) d = and1 (and1 a d) b := by
  unfold and1
  by_cases h1 : a = 0 <;> by_cases h2 : a = 1 <;> by_cases h3 : b = 0 <;> by_cases h4 : b = 1 <;> by_cases h5 : d = 0 <;> by_cases h6 : d = 1 <;> simp [*]
theorem an_toNat (a b : UInt8) : (k1.an a b).toNat = and1 a.toNat b.toNat := u8_ofNat_toNat _ (and1_le _ _)
theorem an_swap (a b d : UInt8) : k1.an (k1.an a b) d = k1.an (k1.an a d) b := by
  apply UInt8.toNat.inj
  rw [an_toNat, an_toNat, an_toNat, an_toNat, and1_swap]
theorem an_one (v : UInt8) (h : v.toNat ≤ 2) : k1.an 1 v = v := by
  apply UInt8.toNat.inj
  rw [an_toNat]
  show and1 1 v.toNat = v.toNat
  unfold and1
  by_cases h0 : v.toNat = 0 <;> by_cases h1 : v.toNat = 1 <;> simp [*] <;> omega
/-- A value, and all constraints behind it. -/
def rsum (c : NormC) (l : List (List UInt8)) (v : UInt8) : UInt8 := l.foldl (fun v vars => k1.cons vars v c.cons) v
theorem rsum_snoc (c : NormC) (l : List (List UInt8)) (vars : List UInt8) (v : UInt8) : rsum c (l ++ [vars]) v = k1.cons vars (rsum c l v) c.cons := by
  unfold rsum; rw [List.foldl_append]; rfl
theorem cons_swap (vars : List UInt8) : ∀ (l : List Nat) (a b : UInt8), k1.cons vars (k1.an a b) l = k1.an (k1.cons vars a l) b
  | [], a, b => rfl
  | x :: l, a, b => by
    show k1.cons vars (k1.an (k1.an a b) (k1.val vars x)) l = _
    rw [an_swap, cons_swap vars l]
    rfl
theorem rsum_swap (c : NormC) : ∀ (l : List (List UInt8)) (a b : UInt8), rsum c l (k1.an a b) = k1.an (rsum c l a) b
  | [], a, b => rfl
  | x :: l, a, b => by
    show rsum c l (k1.cons x (k1.an a b) c.cons) = _
    rw [cons_swap, rsum_swap c l]
    rfl
theorem sum_fst (c : NormC) (bad : Nat) : ∀ (l : List (List UInt8)) (p : UInt8 × UInt8), (k1.sum c bad p l).1 = rsum c l p.1
  | [], _ => rfl
  | _ :: l, _ => sum_fst c bad l _
/-- The verdict, the other way round. -/
theorem verdict_rsum (c : NormC) (t : TraceC) (bad : Nat) (h1 : 0 < t.frames.length) (h2 : (k1.val (varsAt c t (t.frames.length - 1)) (c.bads.getD bad 0)).toNat ≤ 2) :
    k1.verdict c bad t.init t.frames = rsum c (k1.run c t.init t.frames) (k1.val (varsAt c t (t.frames.length - 1)) (c.bads.getD bad 0)) := by
  have e : k1.run c t.init t.frames = k1.run c t.init (t.frames.take (t.frames.length - 1)) ++ [varsAt c t (t.frames.length - 1)] := by
    have h3 : t.frames = t.frames.take (t.frames.length - 1) ++ [t.frames.getD (t.frames.length - 1) []] := by
      have h4 := List.take_add_one (l := t.frames) (i := t.frames.length - 1)
      rw [show t.frames.length - 1 + 1 = t.frames.length by omega, List.take_of_length_le (Nat.le_refl _), List.getElem?_eq_getElem (by omega)] at h4
      simpa [List.getD, List.getElem?_eq_getElem (show t.frames.length - 1 < t.frames.length by omega)] using h4
    calc k1.run c t.init t.frames = k1.run c t.init (t.frames.take (t.frames.length - 1) ++ [t.frames.getD (t.frames.length - 1) []]) := congrArg _ h3
      _ = _ := k1.run_snoc c _ _ _
  show k1.an (k1.sum c bad (k1.nt k1.z, k1.z) (k1.run c t.init t.frames)).1 (k1.sum c bad (k1.nt k1.z, k1.z) (k1.run c t.init t.frames)).2 = _
  have e2 : (k1.sum c bad (k1.nt k1.z, k1.z) (k1.run c t.init t.frames)).2 = k1.val (varsAt c t (t.frames.length - 1)) (c.bads.getD bad 0) := by
    rw [e, k1.sum_snoc]
  rw [e2, sum_fst, ← rsum_swap]
  show rsum c _ (k1.an 1 _) = _
  rw [an_one _ h2]
theorem varsAt_le {c : NormC} {t : TraceC} (h : FitsC c t) (k : Nat) (hk : k < t.frames.length) : ∀ u ∈ varsAt c t k, u.toNat ≤ 2 := by
  unfold varsAt Kd.vars
  refine gates_le2 _ _ (fun v hv => ?_)
  rcases List.mem_cons.1 hv with rfl | hv
  · decide
  · rcases List.mem_append.1 hv with hv | hv
    · exact h.values _ (getD_mem hk) v hv
    · exact after_le _ _ h.inits (fun f hf => h.values f (List.mem_of_mem_take hf)) v hv

theorem Sees.slice_at' {w : World} {b off n c : Nat} {ss : List Slc} (h : Sees w (some ⟨b, off, .none⟩) n c (ss.map slV)) (j : Nat) (hj : j < n) :
    w.cell? ⟨b, off + j, .none⟩ = some (slV (ss.getD j slc0)) := by
  have hl : ss.length = n := h.lenMap
  rw [(h.cell j hj).2]
  simp [List.getD, List.getElem?_eq_getElem (show j < ss.length by omega)]

set_option maxRecDepth 100000 in
set_option maxHeartbeats 6400000 in
theorem rsurely_any (c : NormC) (t : TraceC) (s : CSlots) (st : TSlots) (w : World) (h : SeesCir w s c) (ht : SeesTr w st t) (hs : s.small) (hst : st.small) (hlo : -9223372036854775808 ≤ c.ins) (hhi : c.ins < 9223372036854775808) (hb1 : -9223372036854775808 ≤ t.bad ∧ t.bad < 9223372036854775808) (hw : Wide c) :
    Calls Try.prog 24 #[cirV c.ins s, traceV t.bad st] w fun e w' => e = surelyE c t ∧ Below w.heap.size w w' := by
  have HRUN := Lib.hid (fun W (hb : Below w.heap.size w W) => rrun_any c t s st W (h.below hb) (ht.below hb) hs hst hlo hhi hb1 hw)
  have HE : Hid (surelyE c t = if fitsS c t = true then .returned (.tuple #[bv (k1.verdict c t.bad.toNat t.init t.frames), .int .i64 0]) else .returned (.tuple #[.int .u8 0, .int .i64 2])) := rfl
  obtain ⟨E, hE⟩ : ∃ E, E = surelyE c t := ⟨_, rfl⟩
  rw [← hE] at HE ⊢
  have HC := Lib.hid h
  have HSM := Lib.hid hs
  clear hE h ht hlo hhi hb1 hw hst
  unfold cirV traceV at *
  go_enter Try.func24, Try.ntmps24
  go_upto_region 1 with fail
  generalize hW : World.alloc (World.alloc w _) _ = W1
  have hb : Below w.heap.size w W1 := by subst hW; exact ext_trans (ext_alloc _ _) (ext_alloc _ _)
  have hx : W1.heap[w.heap.size]? = some (.cells #[.int .i64 c.ins, .slice s.a1 s.n1 s.c1, .slice s.a2 s.n2 s.c2, .slice s.a3 s.n3 s.c3, .slice s.a4 s.n4 s.c4, .slice s.a5 s.n5 s.c5] 26 (0, 0)) := by subst hW; exact heap_below (heap_new _ _ _ rfl) (ext_alloc _ _)
  have hy : W1.heap[w.heap.size + 1]? = some (.cells #[.int .i64 t.bad, .slice st.a1 st.n1 st.c1, .slice st.a2 st.n2 st.c2] 30 (0, 0)) := by subst hW; exact heap_new _ _ _ (by simp)
  have HB := Lib.hid hb
  have HX := Lib.hid hx
  have HY := Lib.hid hy
  clear hW hb hx hy
  have p0 := cell_of_block HX.out 0
  have p1 := cell_of_block HX.out 1
  have p2 := cell_of_block HX.out 2
  have p3 := cell_of_block HX.out 3
  have p4 := cell_of_block HX.out 4
  have p5 := cell_of_block HX.out 5
  have r0 := cell_of_block HY.out 0
  have r1 := cell_of_block HY.out 1
  have r2 := cell_of_block HY.out 2
  go_wp2_with fail
  refine (HRUN.out W1 HB.out).mono ?_
  intro e W2 hp
  have HP := Lib.hid hp
  clear hp HRUN p0 p1 p2 p3 p4 p5 r0 r1 r2
  cases hq : fitsS c t with
  | false =>
    have HO : Hid (E = .returned (.tuple #[.int .u8 0, .int .i64 2])) := by show _ = _; rw [HE.out, hq]; rfl
    obtain ⟨_, hno, hb⟩ := HP.out
    obtain rfl := hno hq
    have HB2 := Lib.hid (ext_trans HB.out hb)
    clear hno hb HP hq
    go_wp2
    refine bodyPost_ret (v := .tuple #[.int .u8 0, .int .i64 2]) ?_ rfl ?_
    · simp [results, Try.results24, go_sem]
    · exact ⟨by rw [HO.out], HB2.out⟩
  | true =>
  have HF := Lib.hid (fits_iff.1 hq)
  obtain ⟨lb, lo, lc, ss, rfl, hrows, hb⟩ := runpost_yes HF.out HP.out
  have HVD := verdict_rsum c t t.bad.toNat HF.out.one
  obtain ⟨N, hN⟩ : ∃ N, N = t.frames.length := ⟨_, rfl⟩
  rw [← hN] at hrows
  rw [← hN] at HVD
  rw [← hN]
  obtain ⟨M, hM⟩ : ∃ M, M = N - 1 := ⟨_, rfl⟩
  rw [← hM] at HVD
  have hN1 : 0 < N := by rw [hN]; exact HF.out.one
  have hN2 : N ≤ 256 := by rw [hN]; exact HF.out.few
  have HMN : Hid (M < N ∧ N = M + 1) := ⟨by omega, by omega⟩
  obtain ⟨nb, hnb⟩ : ∃ nb : Nat, nb = t.bad.toNat := ⟨_, rfl⟩
  have hbad : t.bad = (nb : Int) := by have := HF.out.pos; omega
  have hbl : nb < c.bads.length := by rw [hnb]; exact HF.out.bad
  have hn4 : c.bads.length = s.n4 := HC.out.s4.lenMap
  have hn5 : c.cons.length = s.n5 := HC.out.s5.lenMap
  have hn5b : s.n5 ≤ 1048576 := HSM.out.n5
  rw [← hnb] at HVD HE
  have HO : Hid (E = .returned (.tuple #[bv (k1.verdict c nb t.init t.frames), .int .i64 0])) := by show _ = _; rw [HE.out, hq]; rfl
  have HX2 := Lib.hid (heap_below HX.out hb)
  have HY2 := Lib.hid (heap_below HY.out hb)
  have HB2 := Lib.hid (ext_trans HB.out hb)
  have HRW := Lib.hid hrows
  have HNL := Lib.hid hN
  rw [hbad] at HY2
  have hlit : ∀ x, x ≤ 2 * varsN c + 1 → x / 2 < 1 + varsN c ∧ x < 4294967296 := fun x hx => by have := HF.out.may.few; omega
  have HVL : Hid (∀ k, k < N → (varsAt c t k).length = 1 + varsN c) := fun k hk => varsAt_len c t HF.out.init HF.out.frames k (by rw [← hN]; exact hk)
  have HVA : Hid (∀ k, k < N → ∀ u ∈ varsAt c t k, u.toNat ≤ 2) := fun k hk => varsAt_le HF.out k (by rw [← hN]; exact hk)
  obtain ⟨D, hD⟩ : ∃ D, D = c.bads.getD nb 0 := ⟨_, rfl⟩
  rw [← hD] at HVD
  have hDL := hlit D (by rw [hD]; exact HF.out.may.bads _ (getD_mem hbl))
  have HCL : Hid (∀ j, j < s.n5 → c.cons.getD j 0 / 2 < 1 + varsN c ∧ c.cons.getD j 0 < 4294967296) := fun j hj => hlit _ (HF.out.may.cons _ (getD_mem (by rw [hn5]; exact hj)))
  obtain ⟨b4, o4, e4, _⟩ := HC.out.s4.addr (show 0 < s.n4 by omega)
  have hc4 := (HC.out.below HB2.out).s4
  rw [e4] at hc4
  have pd := hc4.num nb (by omega)
  rw [← hD] at pd
  obtain ⟨V0, hV0⟩ : ∃ v, v = k1.val (varsAt c t M) D := ⟨_, rfl⟩
  have hv0 : V0.toNat ≤ 2 := by rw [hV0]; exact k1_val_le (HVA.out M HMN.out.1) D
  rw [← hV0] at HVD
  have HVD2 := Lib.hid (HVD hv0)
  obtain ⟨rb', ro', rc', hsse, hrs⟩ := HRW.out.rows M HMN.out.1
  have hlc2 : W2.cell? ⟨lb, lo + M, none⟩ = some (.slice (some ⟨rb', ro', none⟩) (1 + varsN c) rc') := by
    have h1 := HRW.out.list.slice_at' M HMN.out.1
    rw [hsse] at h1
    exact h1
  obtain ⟨NV, hNV⟩ : ∃ n, n = 1 + varsN c := ⟨_, rfl⟩
  rw [← hNV] at hlc2 hrs hDL HVL HCL
  have HNV := Lib.hid hNV
  have HV0 : Hid (∀ j, Calls Try.prog 13 #[.slice (some ⟨rb', ro', none⟩) NV rc', .int .u32 D] (W2.drewN j) fun e w' => e = .returned (.int .u8 (V0.toNat : Int)) ∧ w' = W2.drewN j) := fun j => by
    have h1 := refvalue_any (varsAt c t M) (some ⟨rb', ro', none⟩) NV rc' D (W2.drewN j) (hrs.below (ext_drewN W2 j)) hDL.2
    rw [valueL_eq (by rw [HVL.out M HMN.out.1]; exact hDL.1) (HVA.out M HMN.out.1), ← hV0] at h1
    exact h1
  obtain ⟨x0, hx0⟩ : ∃ x : Nat, x = V0.toNat := ⟨_, rfl⟩
  rw [← hx0] at HV0
  have HX0 := Lib.hid hx0
  have hIb : (nb : Int) < (s.n4 : Int) := by omega
  have hIb0 : (0 : Int) ≤ (nb : Int) := by omega
  have hIM : (M : Int) < (N : Int) := by have := HMN.out; omega
  have hIM0 : (0 : Int) ≤ (M : Int) := by omega
  have WM : IntKind.i64.wrap ((N : Int) - 1) = (M : Int) := by have := HMN.out; rw [IntWalk.i64_in _ (by omega)]; omega
  have q4 := cell_of_block HX2.out 4
  have z0 := cell_of_block HY2.out 0
  rw [e4] at q4
  have HN5 := Lib.hid hn5
  clear hNV hn4 hn5 e4 hc4 HVD hN hM hnb hbad hbl hq hb hrows hD hDL hsse hrs hV0 hv0 hx0 hlit HX HY HB HP HE
  go_wp2
  go_quiet ((go_at_call 13; exact Calls.quiet_of_same (HV0.out _)))
  clear q4 z0 pd hlc2
  rename_i nq
  obtain ⟨W3, hW3⟩ : ∃ W3, W3 = W2.drewN nq := ⟨_, rfl⟩
  rw [← hW3]
  have hb3 : Below W2.heap.size W2 W3 := by rw [hW3]; exact ext_drewN _ _
  have HRW3 := Lib.hid (HRW.out.below hb3)
  have HX3 := Lib.hid (heap_below HX2.out hb3)
  have HB3 := Lib.hid (ext_trans HB2.out hb3)
  clear hW3 hb3 HX2 HB2 HV0 HRW HY2 WM hIb hIb0 hIM hIM0
  go_wp2
  go_loopw [9, 8, 10] (fun i v _ wr => ∃ (k x : Nat), k ≤ N ∧ i = .int .i64 k ∧ v = .int .u8 x ∧ Hid (x = (rsum c (k1.run c t.init (t.frames.take k)) V0).toNat) ∧ Hid (Below W3.heap.size W3 wr)) (fun i _ _ _ => N - (intOf i).toNat)
  case atStart => exact ⟨0, x0, Nat.zero_le _, rfl, rfl, HX0.out, Below.refl _ _⟩
  case round =>
    obtain ⟨k, x, hk, rfl, rfl, hx, hB⟩ := hrel
    by_cases hlt : k < N
    · have hI1 : (k : Int) < (N : Int) := by omega
      have hI0 : (0 : Int) ≤ (k : Int) := by omega
      have W1' : IntKind.i64.wrap ((k : Int) + 1) = (k : Int) + 1 := IntWalk.i64_in _ (by omega)
      obtain ⟨VK, hVK⟩ : ∃ v, v = varsAt c t k := ⟨_, rfl⟩
      obtain ⟨A, hA⟩ : ∃ v, v = rsum c (k1.run c t.init (t.frames.take k)) V0 := ⟨_, rfl⟩
      have HSNOC : Hid (rsum c (k1.run c t.init (t.frames.take (k + 1))) V0 = k1.cons VK A c.cons) := by
        show _ = _
        have hkl : k < t.frames.length := by rw [← HNL.out]; exact hlt
        rw [List.take_add_one, List.getElem?_eq_getElem hkl]
        simp only [Option.toList_some]
        rw [Kd.run_snoc, rsum_snoc, ← hA, hVK]
        unfold varsAt
        simp [List.getD, List.getElem?_eq_getElem hkl]
      obtain ⟨rb, ro, rc, hsse, hrs⟩ := (HRW3.out.below hB.out).rows k hlt
      have hlc : wr.cell? ⟨lb, lo + k, none⟩ = some (.slice (some ⟨rb, ro, none⟩) NV rc) := by
        have h1 := (HRW3.out.below hB.out).list.slice_at' k hlt
        rw [hsse, ← HNV.out] at h1
        exact h1
      rw [← HNV.out, ← hVK] at hrs
      have HLC := Lib.hid hlc
      have HRS := Lib.hid hrs
      have HA := Lib.hid hA
      have HXA : Hid (x = A.toNat) := by show _ = _; rw [hA]; exact hx.out
      have HVKL : Hid (VK.length = NV) := by show _ = _; rw [hVK]; exact HVL.out k hlt
      have HVKA : Hid (∀ u ∈ VK, u.toNat ≤ 2) := by rw [hVK]; exact HVA.out k hlt
      have HBW := Lib.hid hB.out
      have HXW := Lib.hid (heap_below HX3.out hB.out)
      clear hlc hrs hsse hVK hA hx hB
      go_wp2
      go_loopw [10, 8] (fun i v wr2 => ∃ (m y : Nat), m ≤ s.n5 ∧ i = .int .i64 m ∧ v = .int .u8 y ∧ Hid (y = (k1.cons VK A (c.cons.take m)).toNat) ∧ Hid (Below wr.heap.size wr wr2)) (fun i _ _ => s.n5 - (intOf i).toNat)
      case atStart => exact ⟨0, x, Nat.zero_le _, rfl, rfl, HXA.out, Below.refl _ _⟩
      case round =>
        obtain ⟨m, y, hm, rfl, rfl, hy, hB2⟩ := hrel
        have q5 := cell_of_block (heap_below HXW.out hB2.out) 5
        by_cases hlt2 : m < s.n5
        · obtain ⟨b5, o5, e5, _⟩ := HC.out.s5.addr (show 0 < s.n5 by omega)
          have hc5 := (HC.out.below (ext_trans HB3.out (ext_trans HBW.out hB2.out))).s5
          rw [e5] at hc5 q5
          clear e5
          have px := hc5.num m hlt2
          have hsn : c.cons.take (m + 1) = c.cons.take m ++ [c.cons.getD m 0] := by
            have hml : m < c.cons.length := by rw [HN5.out]; exact hlt2
            rw [List.take_add_one, List.getElem?_eq_getElem hml]
            simp [List.getD, List.getElem?_eq_getElem hml]
          have hLL := HCL.out m hlt2
          obtain ⟨L, hL⟩ : ∃ L, L = c.cons.getD m 0 := ⟨_, rfl⟩
          rw [← hL] at px hsn hLL
          have plc := (hB2.out.cell (World.block_lt_of_cell? _ _ HLC.out)).trans HLC.out
          obtain ⟨U, hU⟩ : ∃ u, u = k1.val VK L := ⟨_, rfl⟩
          have HV1 : Hid (∀ j, Calls Try.prog 13 #[.slice (some ⟨rb, ro, none⟩) NV rc, .int .u32 L] (wr.drewN j) fun e w' => e = .returned (.int .u8 (U.toNat : Int)) ∧ w' = wr.drewN j) := fun j => by
            have h1 := refvalue_any VK (some ⟨rb, ro, none⟩) NV rc L (wr.drewN j) ((HRS.out.below hB2.out).below (ext_drewN wr j)) hLL.2
            rw [valueL_eq (by rw [HVKL.out]; exact hLL.1) HVKA.out, ← hU] at h1
            exact h1
          have HNEW : Hid (and1 y U.toNat = (k1.cons VK A (c.cons.take (m + 1))).toNat) := by
            show _ = _
            rw [hsn, Kd.cons_snoc, an_toNat, ← hy.out, hU]
          obtain ⟨un, hun⟩ : ∃ n : Nat, n = U.toNat := ⟨_, rfl⟩
          rw [← hun] at HV1 HNEW
          obtain ⟨z, hz⟩ : ∃ z, z = and1 y un := ⟨_, rfl⟩
          have HAN := rand1_any y un
          rw [← hz] at HAN HNEW
          have HAN2 := Lib.hid HAN
          have hI3 : (m : Int) < (s.n5 : Int) := by omega
          have hI4 : (0 : Int) ≤ (m : Int) := by omega
          have W2' : IntKind.i64.wrap ((m : Int) + 1) = (m : Int) + 1 := IntWalk.i64_in _ (by omega)
          have HB2 := Lib.hid hB2.out
          clear hc5 hsn hLL hL hU hun hz HAN hy hB2
          go_wp2
          go_quiet ((first | (go_at_call 13; exact Calls.quiet_of_same (HV1.out _)) | (go_at_call 38; exact Calls.quiet_of_same (HAN2.out _))))
          clear q5 px plc
          rename_i nq2
          go_wp2
          go_roundw
          case rel => exact ⟨m + 1, z, by omega, by go_num, rfl, HNEW.out, ext_trans HB2.out (ext_drewN _ _)⟩
          case measure => simp [intOf]; omega
        · obtain rfl : m = s.n5 := by omega
          have hy2 : y = (k1.cons VK A c.cons).toNat := by
            have h1 := hy.out
            rw [List.take_of_length_le (by rw [HN5.out]; exact Nat.le_refl _)] at h1
            exact h1
          have HY2 : Hid (y = (rsum c (k1.run c t.init (t.frames.take (k + 1))) V0).toNat) := by show _ = _; rw [HSNOC.out]; exact hy2
          have HB2 := Lib.hid hB2.out
          clear hy2 hy hB2
          go_wp2
          go_roundw
          case rel => exact ⟨k + 1, y, by omega, by go_num, rfl, HY2.out, ext_trans HBW.out HB2.out⟩
          case measure => simp [intOf]; omega
    · obtain rfl : k = N := by omega
      have hx2 : x = (k1.verdict c nb t.init t.frames).toNat := by
        have h1 := hx.out
        rw [List.take_of_length_le (by rw [← HNL.out]; exact Nat.le_refl _)] at h1
        rw [HVD2.out]
        exact h1
      have HR : Hid (E = .returned (.tuple #[.int .u8 (x : Int), .int .i64 0])) := by show _ = _; rw [HO.out, hx2]; rfl
      have HBE := Lib.hid (ext_trans HB3.out hB.out)
      clear hx2 hx hB
      go_wp2
      refine bodyPost_ret (v := .tuple #[.int .u8 (x : Int), .int .i64 0]) ?_ rfl ?_
      · simp [results, Try.results24, go_sem]
      · exact ⟨by rw [HR.out], HBE.out⟩
end Go.Proofs.Ytjmdgbdlhaaefaa
/- A region of a function's body, taken out by its number. -/
namespace Go.Proofs.Ytjmdgbdlhaaefaa
open Go
def findRegion (n : Nat) : Code → Option Code
  | .region k o d => if k = n then some (.region k o d) else none
  | .seq a b => match findRegion n a with
    | some c => some c
    | none => findRegion n b
  | .block _ c => findRegion n c
  | .scope c => findRegion n c
  | .loop c => findRegion n c
  | .cond _ a b => match findRegion n a with
    | some c => some c
    | none => findRegion n b
  | _ => none
end Go.Proofs.Ytjmdgbdlhaaefaa
/- A region of the reference's Read, in whatever order. -/
namespace Go.Proofs.Ytjmdgbdlhaaefaa
open Go Go.RowKit Go.Joins

noncomputable def codeSRReadR : Code := ((Try.f19.body.bind (findRegion 1)).getD .skip)
set_option maxRecDepth 100000 in
set_option maxHeartbeats 25600000 in
theorem reg_SRReadR (P : Nat) (bad : Int) (a1 : Option Addr) (n1 c1 : Nat) (XS : List Value) (X0 : World)
    (HELDB : Hid (∀ W, Below X0.heap.size X0 W → (W.cell? ⟨P, 0, none⟩ = some (.int .i64 bad) ∧ W.cell? ⟨P, 1, none⟩ = some (.slice a1 n1 c1))))
    (E1 : Hid (∀ W, Below X0.heap.size X0 W → Calls Try.prog 48 #[.slice a1 n1 c1] W fun e w' => ∃ ra rc, e = .returned (.slice ra n1 rc) ∧ Row isByte w' W.heap.size 5 (.slice ra n1 rc) n1 XS ∧ Below W.heap.size W w'))
    (QQ : Exit → Act → World → Prop)
    {v0 v2 v3 v4 v5 v6 v7 v8 v9 v10 v11 v12 v13 v14 v15 v16 v17 v18 v19 v20 v21 v22 v23 v24 v25 v26 v27 v28 v29 : Value}
    (hK : ∀ (G : Nat) (ra : Option Addr) (rc : Nat) (wx : World) (u5 u6 u7 u8 u9 u10 : Value), X0.heap.size ≤ G → wx.heap[G]? = some (.cells #[.int .i64 bad, .slice ra n1 rc, .slice none 0 0] 30 (0, 0)) → Row isByte wx X0.heap.size 5 (.slice ra n1 rc) n1 XS → Below X0.heap.size X0 wx → QQ .normal ⟨#[v0, .pointer (some ⟨P, 0, .none⟩), v2, .pointer (some ⟨G, 0, .none⟩), v4, u5, u6, u7, u8, u9, u10, v11, v12, v13, v14, v15, v16, v17, v18, v19, v20, v21, 
      v22, v23, v24, v25, v26, v27, v28, v29], []⟩ wx) :
    Code.wp Try.prog codeSRReadR QQ ⟨#[v0, .pointer (some ⟨P, 0, .none⟩), v2, v3, v4, v5, v6, v7, v8, v9, v10, v11, v12, v13, v14, v15, v16, v17, v18, v19, v20, v21, v22, v23, v24, v25, v26, 
      v27, v28, v29], []⟩ X0 := by
  conv => arg 2; whnf
  refine wp_region_noPanic ?_
  refine wp_region_held (S := fun w' => w'.cell? ⟨P, 0, none⟩ = some (.int .i64 bad) ∧ w'.cell? ⟨P, 1, none⟩ = some (.slice a1 n1 c1)) (by kernel_rfl) ?_
  generalize hY : ({ X0 with drawn := X0.drawn + 1 } : World) = Y0
  have hY0 : Below X0.heap.size X0 Y0 := by subst hY; exact (Below.refl _ _).drew
  have HELD := Lib.hid (HELDB.out Y0 hY0)
  have HBc := Lib.hid hY0
  clear hY hY0
  refine wpAnyH_take (i := 0) (v := ?_) (by simp only [List.getElem?_toArray, List.getElem?_cons_zero]; rfl) (by kernel_rfl) (by kernel_rfl) (by kernel_rfl) (fun _ _ _ h => h) (Or.inl ⟨by rfl, ?_⟩) HELD.out ?_
  rotate_left
  · intro w hSw
    (try dsimp only at hSw)
    obtain ⟨q0, q1⟩ := hSw
    go_simp
    try with_reducible rfl
  try simp only [Act.put, List.setIfInBounds_toArray, List.set_cons_zero, List.set_cons_succ]
  refine wpAnyH_take (i := 1) (v := ?_) (by simp only [List.getElem?_toArray, List.getElem?_cons_zero, List.getElem?_cons_succ]; rfl) (by kernel_rfl) (by kernel_rfl) (by kernel_rfl) (fun _ _ _ h => h) (Or.inl ⟨by rfl, ?_⟩) HELD.out ?_
  rotate_left
  · intro w hSw
    (try dsimp only at hSw)
    obtain ⟨q0, q1⟩ := hSw
    go_simp
    try with_reducible rfl
  try simp only [Act.put, List.setIfInBounds_toArray, List.set_cons_zero, List.set_cons_succ]
  refine wpAnyH_take (i := 2) (v := ?_) (by simp only [List.getElem?_toArray, List.getElem?_cons_zero, List.getElem?_cons_succ]; rfl) (by kernel_rfl) (by kernel_rfl) (by kernel_rfl) (fun _ _ _ h => h) (Or.inl ⟨by rfl, ?_⟩) HELD.out ?_
  rotate_left
  · intro w hSw
    (try dsimp only at hSw)
    obtain ⟨q0, q1⟩ := hSw
    go_simp
    try with_reducible rfl
  try simp only [Act.put, List.setIfInBounds_toArray, List.set_cons_zero, List.set_cons_succ]
  refine wpAnyH_take (i := 3) (v := ?_) (by simp only [List.getElem?_toArray, List.getElem?_cons_zero, List.getElem?_cons_succ]; rfl) (by kernel_rfl) (by kernel_rfl) (by kernel_rfl) (fun _ _ _ h => h) (Or.inl ⟨by rfl, ?_⟩) HELD.out ?_
  rotate_left
  · intro w hSw
    (try dsimp only at hSw)
    obtain ⟨q0, q1⟩ := hSw
    go_simp
    try with_reducible rfl
  try simp only [Act.put, List.setIfInBounds_toArray, List.set_cons_zero, List.set_cons_succ]
  refine wpAnyH_ready (rs := [4, 6]) (by kernel_rfl) (by simp) ?_
  refine AllReadyH.cons (by simp only [List.getElem?_toArray, List.getElem?_cons_zero, List.getElem?_cons_succ]; rfl) (fun K hK => ?_) (AllReadyH.cons (by simp only [List.getElem?_toArray, List.getElem?_cons_zero, List.getElem?_cons_succ]; rfl) (fun K hK => ?_) AllReadyH.nil)
  · go_simp
    refine (E1.out _ HBc.out).mono ?_
    rintro e V1 ⟨ra, rc, rfl, hr, hb⟩
    have HR := Lib.hid (row_base hr HBc.out.size)
    have HBc := Lib.hid (ext_trans HBc.out hb)
    have HELD := Lib.hid (HELDB.out V1 HBc.out)
    clear hr hb
    refine hK.out _ _ HELD.out (fun _ => ?_)
    clear hK K
    try simp only [Act.put, List.setIfInBounds_toArray, List.set_cons_zero, List.set_cons_succ]
    refine wpAnyH_take (i := 5) (v := ?_) (by simp only [List.getElem?_toArray, List.getElem?_cons_zero, List.getElem?_cons_succ]; rfl) (by kernel_rfl) (by kernel_rfl) (by kernel_rfl) (fun _ _ _ h => h) (Or.inl ⟨by rfl, ?_⟩) HELD.out ?_
    rotate_left
    · intro w hSw
      (try dsimp only at hSw)
      obtain ⟨q0, q1⟩ := hSw
      go_simp
      try with_reducible rfl
    try simp only [Act.put, List.setIfInBounds_toArray, List.set_cons_zero, List.set_cons_succ]
    refine wpAnyH_ready (rs := [6]) (by kernel_rfl) (by simp) ?_
    refine AllReadyH.cons (by simp only [List.getElem?_toArray, List.getElem?_cons_zero, List.getElem?_cons_succ]; rfl) (fun K hK => ?_) AllReadyH.nil
    go_simp
    generalize hV : World.alloc V1 _ = V2
    have hb : Below V1.heap.size V1 V2 := by subst hV; exact ext_alloc _ _
    have HR := Lib.hid (HR.out.below hb)
    have HZ : Hid (V2.heap[V1.heap.size]? = some (.cells #[.int .i64 0, .slice none 0 0, .slice none 0 0] 30 (0, 0))) := by show _ = _; subst hV; exact heap_new _ _ _ rfl
    have HG := Lib.hid HBc.out.size
    have HBc := Lib.hid (ext_trans HBc.out hb)
    have HELD := Lib.hid (HELDB.out V2 HBc.out)
    clear hV hb
    refine hK.out _ _ HELD.out (fun _ => ?_)
    clear hK K
    try simp only [Act.put, List.setIfInBounds_toArray, List.set_cons_zero, List.set_cons_succ]
    refine wpAnyH_ready (rs := [7]) (by kernel_rfl) (by simp) ?_
    refine AllReadyH.cons (by simp only [List.getElem?_toArray, List.getElem?_cons_zero, List.getElem?_cons_succ]; rfl) (fun K hK => ?_) AllReadyH.nil
    have hh := HZ.out
    have z0 := cell_of_block hh 0
    have z1 := cell_of_block hh 1
    have z2 := cell_of_block hh 2
    have y0 := unfrozen_of_block hh 0
    have y1 := unfrozen_of_block hh 1
    have y2 := unfrozen_of_block hh 2
    clear hh
    go_simp
    clear z0 z1 z2 y0 y1 y2
    have hZ2 := tri_set_t HZ.out rfl (.int .i64 bad) (.slice ra n1 rc) (.slice none 0 0)
    have hb6 := set3_t (u0 := .int .i64 bad) (u1 := .slice ra n1 rc) (u2 := .slice none 0 0) (V1.heap.size) HG.out HBc.out
    have hR2 : Row isByte (((World.setCell V2 ⟨V1.heap.size, 0, .none⟩ (.int .i64 bad)).setCell ⟨V1.heap.size, 1, .none⟩ (.slice ra n1 rc)).setCell ⟨V1.heap.size, 2, .none⟩ (.slice none 0 0)) X0.heap.size 5 (.slice ra n1 rc) n1 XS := HR.out.other fun q hq => set3_other (V1.heap.size) q (fun e => (HR.out.not_own HZ.out (by decide)) (by rw [hq, e])) _ _ _
    have HELD := Lib.hid (HELDB.out _ hb6)
    generalize hV6 : World.setCell (World.setCell (World.setCell V2 _ _) _ _) _ _ = V3 at HELD hb6 hZ2 hR2 ⊢
    clear hV6
    have HBc := Lib.hid hb6
    have HZ := Lib.hid hZ2
    have HR := Lib.hid hR2
    clear hb6 hZ2 hR2
    refine hK.out _ _ HELD.out (fun _ => ?_)
    clear hK K
    try simp only [Act.put, List.setIfInBounds_toArray, List.set_cons_zero, List.set_cons_succ]
    refine wpAnyH_done (by kernel_rfl) ?_ _
    refine NoPanic.normal ?_
    exact hK _ _ _ _ _ _ _ _ _ _ HG.out HZ.out HR.out HBc.out
  · go_simp
    generalize hV : World.alloc Y0 _ = V4
    have hb : Below Y0.heap.size Y0 V4 := by subst hV; exact ext_alloc _ _
    have HZ : Hid (V4.heap[Y0.heap.size]? = some (.cells #[.int .i64 0, .slice none 0 0, .slice none 0 0] 30 (0, 0))) := by show _ = _; subst hV; exact heap_new _ _ _ rfl
    have HG := Lib.hid HBc.out.size
    have HBc := Lib.hid (ext_trans HBc.out hb)
    have HELD := Lib.hid (HELDB.out V4 HBc.out)
    clear hV hb
    refine hK.out _ _ HELD.out (fun _ => ?_)
    clear hK K
    try simp only [Act.put, List.setIfInBounds_toArray, List.set_cons_zero, List.set_cons_succ]
    refine wpAnyH_ready (rs := [4]) (by kernel_rfl) (by simp) ?_
    refine AllReadyH.cons (by simp only [List.getElem?_toArray, List.getElem?_cons_zero, List.getElem?_cons_succ]; rfl) (fun K hK => ?_) AllReadyH.nil
    go_simp
    refine (E1.out _ HBc.out).mono ?_
    rintro e V5 ⟨ra, rc, rfl, hr, hb⟩
    have HZ := Lib.hid (heap_below HZ.out hb)
    have HR := Lib.hid (row_base hr HBc.out.size)
    have HBc := Lib.hid (ext_trans HBc.out hb)
    have HELD := Lib.hid (HELDB.out V5 HBc.out)
    clear hr hb
    refine hK.out _ _ HELD.out (fun _ => ?_)
    clear hK K
    try simp only [Act.put, List.setIfInBounds_toArray, List.set_cons_zero, List.set_cons_succ]
    refine wpAnyH_take (i := 5) (v := ?_) (by simp only [List.getElem?_toArray, List.getElem?_cons_zero, List.getElem?_cons_succ]; rfl) (by kernel_rfl) (by kernel_rfl) (by kernel_rfl) (fun _ _ _ h => h) (Or.inl ⟨by rfl, ?_⟩) HELD.out ?_
    rotate_left
    · intro w hSw
      (try dsimp only at hSw)
      obtain ⟨q0, q1⟩ := hSw
      go_simp
      try with_reducible rfl
    try simp only [Act.put, List.setIfInBounds_toArray, List.set_cons_zero, List.set_cons_succ]
    refine wpAnyH_ready (rs := [7]) (by kernel_rfl) (by simp) ?_
    refine AllReadyH.cons (by simp only [List.getElem?_toArray, List.getElem?_cons_zero, List.getElem?_cons_succ]; rfl) (fun K hK => ?_) AllReadyH.nil
    have hh := HZ.out
    have z0 := cell_of_block hh 0
    have z1 := cell_of_block hh 1
    have z2 := cell_of_block hh 2
    have y0 := unfrozen_of_block hh 0
    have y1 := unfrozen_of_block hh 1
    have y2 := unfrozen_of_block hh 2
    clear hh
    go_simp
    clear z0 z1 z2 y0 y1 y2
    have hZ2 := tri_set_t HZ.out rfl (.int .i64 bad) (.slice ra n1 rc) (.slice none 0 0)
    have hb6 := set3_t (u0 := .int .i64 bad) (u1 := .slice ra n1 rc) (u2 := .slice none 0 0) (Y0.heap.size) HG.out HBc.out
    have hR2 : Row isByte (((World.setCell V5 ⟨Y0.heap.size, 0, .none⟩ (.int .i64 bad)).setCell ⟨Y0.heap.size, 1, .none⟩ (.slice ra n1 rc)).setCell ⟨Y0.heap.size, 2, .none⟩ (.slice none 0 0)) X0.heap.size 5 (.slice ra n1 rc) n1 XS := HR.out.other fun q hq => set3_other (Y0.heap.size) q (fun e => (HR.out.not_own HZ.out (by decide)) (by rw [hq, e])) _ _ _
    have HELD := Lib.hid (HELDB.out _ hb6)
    generalize hV6 : World.setCell (World.setCell (World.setCell V5 _ _) _ _) _ _ = V6 at HELD hb6 hZ2 hR2 ⊢
    clear hV6
    have HBc := Lib.hid hb6
    have HZ := Lib.hid hZ2
    have HR := Lib.hid hR2
    clear hb6 hZ2 hR2
    refine hK.out _ _ HELD.out (fun _ => ?_)
    clear hK K
    try simp only [Act.put, List.setIfInBounds_toArray, List.set_cons_zero, List.set_cons_succ]
    refine wpAnyH_done (by kernel_rfl) ?_ _
    refine NoPanic.normal ?_
    exact hK _ _ _ _ _ _ _ _ _ _ HG.out HZ.out HR.out HBc.out
end Go.Proofs.Ytjmdgbdlhaaefaa
/- The reference's zeroed, by its contract. -/
namespace Go.Proofs.Ytjmdgbdlhaaefaa
open Go Go.RowKit Go.Joins

theorem zeroL_snoc (l : List UInt8) (k : Nat) (h : k < l.length) : zeroL (l.take (k + 1)) = zeroL (l.take k) ++ [zeroU (l.getD k 0)] := by
  rw [List.take_add_one, List.getElem?_eq_getElem h]
  simp only [Option.toList_some, zeroL, List.map_append, List.map_cons, List.map_nil]
  simp [List.getD, List.getElem?_eq_getElem h]

set_option maxRecDepth 100000 in
set_option maxHeartbeats 1600000 in
theorem zeroed_any (l : List UInt8) (a : Option Addr) (n c : Nat) (hn : n ≤ 1048576) (w : World) (h : Sees w a n c (l.map bv)) :
    Calls Try.prog 48 #[.slice a n c] w fun e w' => ∃ ra rc, e = .returned (.slice ra n rc) ∧ Row isByte w' w.heap.size 5 (.slice ra n rc) n ((zeroL l).map bv) ∧ Below w.heap.size w w' := by
  obtain ⟨i0, hi, hz0, hz1, hz2⟩ := info_parts info_byte
  have HS := Lib.hid h
  have HL : Hid (l.length = n) := h.lenMap
  have HN := Lib.hid hn
  clear h hn
  go_enter Try.func48, Try.ntmps48
  go_wp2
  go_loopw [4, 3] (fun i v wr => ∃ (k : Nat) (ra : Option Addr) (rc : Nat), k ≤ n ∧ i = .int .i64 k ∧ v = .slice ra k rc ∧ Hid (Row isByte wr w.heap.size 5 (.slice ra k rc) k ((zeroL (l.take k)).map bv)) ∧ Hid (Below w.heap.size w wr)) (fun i _ _ => n - (intOf i).toNat)
  case atStart => exact ⟨0, none, 0, Nat.zero_le _, rfl, rfl, Row.nil _ _ _ _, Below.refl _ _⟩
  case round =>
    obtain ⟨k, ra, rc, hk, rfl, rfl, hR, hB⟩ := hrel
    by_cases hlt : k < n
    · obtain ⟨b, off, rfl, hbw⟩ := HS.out.addr (by omega)
      have hcx := (HS.out.below hB.out).byte k hlt
      have hsn := zeroL_snoc l k (by rw [HL.out]; exact hlt)
      obtain ⟨u, hu⟩ : ∃ u, u = l.getD k 0 := ⟨_, rfl⟩
      rw [← hu] at hcx hsn
      obtain ⟨x, hx⟩ : ∃ x, x = u.toNat := ⟨_, rfl⟩
      rw [← hx] at hcx
      obtain ⟨d, hd⟩ : ∃ d, d = (zeroU u).toNat := ⟨_, rfl⟩
      have HD : Hid (d = if x = 2 then 0 else x) := by show _ = _; rw [hd]; unfold zeroU; rw [← hx]; split <;> simp [*]
      have HDV : Hid (Value.int .u8 (d : Int) = bv (zeroU u)) := by show _ = _; rw [hd]; rfl
      have HSN := Lib.hid hsn
      have H1C : Hid (∀ v ∈ [Value.int .u8 ((d : Nat) : Int)], v.oneCell' = true) := by rw [HDV.out]; exact bv_one [zeroU u]
      have HOC : Hid (∀ v ∈ [Value.int .u8 ((d : Nat) : Int)], isByte v) := by rw [HDV.out]; exact isByte_all [zeroU u]
      have hI : ((k : Nat) : Int) < (n : Int) := by omega
      have W1 : IntKind.i64.wrap ((k : Int) + 1) = (k : Int) + 1 := IntWalk.i64_in _ (by have := HN.out; omega)
      clear hu hx hd hsn hbw
      by_cases hq : x = 2
      · subst hq
        have hd0 : d = 0 := HD.out.trans (if_pos rfl)
        subst hd0
        go_wp2_with (at_builtin; refine wpList_append_row isByte _ rfl _ _ 27 rfl w.heap.size 5 i0 (.int .u8 0) 1 Try.underlying27 hi hz0 hz1 hz2 rfl isByte_zero _ _ _ rfl (hR.out.below (ext_alloc _ _)) _ 1 1 [.int .u8 ((0 : Nat) : Int)] rfl ?qd1 H1C.out HOC.out ?qd4 ?qd5 ?qd6 ?_)
        case qd1 => exact sees_box1 _ _ _
        case qd4 => unfold maxLen; have := HN.out; omega
        case qd5 => have := HN.out; omega
        case qd6 => have := hB.out.size; simp; omega
        intro v' w' r' g' _
        have hbz := ext_alloc wr (.cells #[.int .u8 ((0 : Nat) : Int)] 5)
        have hnz := hR.out.below hbz
        have HBZ := Lib.hid ((ext_trans hB.out hbz).grown g' (ext_trans hB.out hbz).size (fun k hk => (hnz.own.lt k hk).1))
        obtain ⟨a2z, c2z, rfl⟩ := r'.form
        have R2 := Lib.hid r'
        clear hbz hnz r' g' hR hB
        go_wp2
        go_roundw
        case rel => exact ⟨k + 1, _, _, by omega, by go_num, rfl, (by rw [HSN.out, List.map_append, show List.map bv [zeroU u] = [Value.int .u8 ((0 : Nat) : Int)] from by rw [HDV.out]; rfl]; exact R2.out), HBZ.out⟩
        case measure => simp [intOf]; omega
      · have hdx : d = x := HD.out.trans (if_neg hq)
        subst hdx
        have e1 : ((d : Int) == 2) = false := by simp; omega
        have HQ := Lib.hid hq
        clear hq
        go_wp2_with (at_builtin; refine wpList_append_row isByte _ rfl _ _ 27 rfl w.heap.size 5 i0 (.int .u8 0) 1 Try.underlying27 hi hz0 hz1 hz2 rfl isByte_zero _ _ _ rfl (hR.out.below (ext_alloc _ _)) _ 1 1 [.int .u8 ((d : Nat) : Int)] rfl ?pd1 H1C.out HOC.out ?pd4 ?pd5 ?pd6 ?_)
        case pd1 => exact sees_box1 _ _ _
        case pd4 => unfold maxLen; have := HN.out; omega
        case pd5 => have := HN.out; omega
        case pd6 => have := hB.out.size; simp; omega
        intro v' w' r' g' _
        have hbz := ext_alloc wr (.cells #[.int .u8 ((d : Nat) : Int)] 5)
        have hnz := hR.out.below hbz
        have HBZ := Lib.hid ((ext_trans hB.out hbz).grown g' (ext_trans hB.out hbz).size (fun k hk => (hnz.own.lt k hk).1))
        obtain ⟨a2z, c2z, rfl⟩ := r'.form
        have R2 := Lib.hid r'
        clear hbz hnz r' g' hR hB
        go_wp2
        go_roundw
        case rel => exact ⟨k + 1, _, _, by omega, by go_num, rfl, (by rw [HSN.out, List.map_append, show List.map bv [zeroU u] = [Value.int .u8 ((d : Nat) : Int)] from by rw [HDV.out]; rfl]; exact R2.out), HBZ.out⟩
        case measure => simp [intOf]; omega
    · obtain rfl : k = n := by omega
      have HR : Hid (Row isByte wr w.heap.size 5 (.slice ra k rc) k ((zeroL l).map bv)) := by have h := hR.out; rw [List.take_of_length_le (by rw [HL.out]; exact Nat.le_refl _)] at h; exact h
      clear hR
      go_wp2
      go_ret
      exact ⟨_, _, rfl, HR.out, hB.out⟩
end Go.Proofs.Ytjmdgbdlhaaefaa
/- The reference's Read, by its contract. -/
namespace Go.Proofs.Ytjmdgbdlhaaefaa
open Go Go.RowKit Go.Joins

/-- While the trace is read: k frames have been read. -/
structure RzInv (w : World) (G : Nat) (bad : Int) (F : List (List UInt8)) (I : List UInt8) (a1 : Option Addr) (n1 c1 : Nat) (a2 : Option Addr) (n2 c2 k : Nat) (W : World) (v : Value) (si : Slc) (ss : List Slc) : Prop where
  box : W.heap[G]? = some (.cells #[.int .i64 bad, slV si, v] 30 (0, 0))
  tb : W.heap[w.heap.size]? = some (.cells #[.int .i64 bad, .slice a1 n1 c1, .slice a2 n2 c2] 30 (0, 0))
  rb : W.heap[w.heap.size + 1]? = some (.cells #[.int .i64 0, .slice none 0 0, .slice none 0 0] 30 (0, 0))
  init : Row isByte W w.heap.size 5 (slV si) I.length ((zeroL I).map bv)
  row : W.ownsRow w.heap.size 27 1 v k (ss.map slV)
  len : ss.length = k
  rows : ∀ j, j < k → Row isByte W w.heap.size 5 (slV (ss.getD j slc0)) (F.getD j []).length ((zeroL (F.getD j [])).map bv)
  low : Below w.heap.size w W

set_option maxRecDepth 100000 in
set_option maxHeartbeats 6400000 in
theorem refread_any (t : TraceC) (s : TSlots) (w : World) (h : SeesTr w s t) (hs : s.small) :
    Calls Try.prog 19 #[traceV t.bad s] w fun e w' => ∃ s' : TSlots, e = .returned (traceV t.bad s') ∧ SeesTr w' s' (readT t) ∧ s'.small ∧ Below w.heap.size w w' := by
  obtain ⟨iS, hiS, hzS0, hzS1, hzS2⟩ := info_parts info_u8s
  obtain ⟨a1, n1, c1, a2, n2, c2, ss0⟩ := s
  obtain ⟨hs1, hs2, hs3⟩ := hs
  simp only at hs1 hs2 hs3
  obtain ⟨bad, init, fs⟩ := t
  obtain ⟨q1, q2⟩ := h
  simp only at q1 q2
  have hn2 := q2.n_eq
  have hn1 : init.length = n1 := q1.lenMap
  have H1 := Lib.hid q1
  have H2 := Lib.hid q2
  have HN1 := Lib.hid hn1
  have HN2 := Lib.hid hn2
  have HSL := Lib.hid hs3
  have HS1 := Lib.hid hs1
  clear q1 q2 hn1 hn2 hs3 hs1
  unfold traceV
  go_enter Try.func19, Try.ntmps19
  go_upto_region 1 with fail
  generalize hW : World.alloc (World.alloc w _) _ = W1
  have B1 : Below w.heap.size w W1 := by subst hW; exact ext_trans (ext_alloc _ _) (ext_alloc _ _)
  have hT : W1.heap[w.heap.size]? = some (.cells #[.int .i64 bad, .slice a1 n1 c1, .slice a2 n2 c2] 30 (0, 0)) := by subst hW; exact heap_below (heap_new _ _ _ rfl) (ext_alloc _ _)
  have hR : W1.heap[w.heap.size + 1]? = some (.cells #[.int .i64 0, .slice none 0 0, .slice none 0 0] 30 (0, 0)) := by subst hW; exact heap_new _ _ _ (by simp)
  have hsz : w.heap.size + 1 < W1.heap.size := by subst hW; simp
  have HB := Lib.hid B1
  have HT := Lib.hid hT
  have HR := Lib.hid hR
  have HSZ := Lib.hid hsz
  have E1 := Lib.hid (fun W (hb : Below W1.heap.size W1 W) => zeroed_any init a1 n1 c1 HS1.out W (H1.out.below (ext_trans B1 hb)))
  have HELDB : Hid (∀ W, Below W1.heap.size W1 W → (W.cell? ⟨w.heap.size, 0, none⟩ = some (.int .i64 bad) ∧ W.cell? ⟨w.heap.size, 1, none⟩ = some (.slice a1 n1 c1))) := fun W hb => ⟨cell_of_block (heap_below HT.out hb) 0, cell_of_block (heap_below HT.out hb) 1⟩
  clear hW B1 hT hR hsz
  refine reg_SRReadR w.heap.size bad a1 n1 c1 ((zeroL init).map bv) W1 HELDB E1 _ ?_
  intro G ia ic W2 _ _ _ _ _ _ hG hZ hr hb
  obtain ⟨si, hsi⟩ : ∃ si : Slc, si = (ia, n1, ic) := ⟨_, rfl⟩
  have hro : Row isByte W2 w.heap.size 5 (slV si) init.length ((zeroL init).map bv) := by rw [hsi, HN1.out]; exact row_base hr HB.out.size
  have hzz : W2.heap[G]? = some (.cells #[.int .i64 bad, slV si, .slice none 0 0] 30 (0, 0)) := by rw [hsi]; exact hZ
  have hlen2 : (si.2.1 : Nat) = init.length := by rw [hsi, HN1.out]
  have HLEN2 := Lib.hid hlen2
  have HRO := Lib.hid hro
  have HX2 := Lib.hid hzz
  have HT2 := Lib.hid (heap_below HT.out hb)
  have HR2 := Lib.hid (heap_below HR.out hb)
  have HB2 := Lib.hid (ext_trans HB.out hb)
  have HGN : Hid (G ≠ w.heap.size ∧ G ≠ w.heap.size + 1 ∧ w.heap.size ≤ G) := by have := HSZ.out; exact ⟨by omega, by omega, by omega⟩
  clear hlen2 hro hzz hsi hG hZ hr hb HT HR HB HSZ E1 HELDB
  go_wp2
  go_loopw [4] (fun i wr => ∃ (k : Nat) (va : Option Addr) (vc : Nat) (ss : List Slc), k ≤ n2 ∧ i = .int .i64 k ∧ Hid (RzInv w G bad fs init a1 n1 c1 a2 n2 c2 k wr (.slice va k vc) si ss)) (fun i _ => n2 - (intOf i).toNat)
  case atStart => exact ⟨0, none, 0, [], Nat.zero_le _, rfl, HX2.out, HT2.out, HR2.out, HRO.out, ⟨rfl, .inl ⟨rfl, rfl⟩⟩, rfl, fun j hj => absurd hj (by omega), HB2.out⟩
  case round =>
    clear HX2 HT2 HR2 HRO HB2
    obtain ⟨k, va, vc, ss, hk, rfl, hI⟩ := hrel
    have p1 := cell_of_block hI.out.tb 2
    by_cases hlt : k < n2
    · obtain ⟨bb, off, rfl, hbw⟩ := H2.out.row.addr (show 0 < n2 by omega)
      have hcx := (H2.out.below hI.out.low).cellAt k hlt
      have hsee := (H2.out.below hI.out.low).each k (by rw [HN2.out]; exact hlt)
      have hsl := HSL.out (ss0.getD k slc0) (getD_mem (by rw [H2.out.len, HN2.out]; exact hlt))
      obtain ⟨x, hx⟩ : ∃ x : Slc, x = ss0.getD k slc0 := ⟨_, rfl⟩
      rw [← hx] at hcx hsee hsl
      obtain ⟨xa, xn, xc⟩ := x
      simp only at hcx hsee hsl
      have HKN : Hid (k < n2 ∧ n2 ≤ 1048576) := ⟨hlt, hs2⟩
      have HZ := Lib.hid (fun W (hb : Below wr.heap.size wr W) => zeroed_any (fs.getD k []) xa xn xc hsl W (hsee.below hb))
      have HBW := Lib.hid hbw
      have hI1 : ((k : Nat) : Int) < (n2 : Int) := by omega
      have hI2 : (0 : Int) ≤ (k : Int) := by omega
      have W1' : IntKind.i64.wrap ((k : Int) + 1) = (k : Int) + 1 := IntWalk.i64_in _ (by omega)
      have p0 : wr.cell? ⟨G, 2, none⟩ = some (.slice va k vc) := cell_of_block hI.out.box 2
      have p2 := hcx
      have hxl : xn = (fs.getD k []).length := hsee.lenMap.symm
      have HXL := Lib.hid hxl
      clear hx hcx hsee hsl hbw hxl
      go_upto_region 5 with fail
      have HS0 := Lib.hid (And.intro p0 (And.intro p1 p2))
      have HSD := Lib.hid (keep3c HS0.out ((Below.refl _ wr).drew))
      have HYD := Lib.hid ((Below.refl wr.heap.size wr).drew)
      refine wp_region_noPanic ?_
      refine wp_region_peelN 11 (by kernel_rfl) rfl (by simp only [List.getElem?_toArray, List.getElem?_cons_zero, List.getElem?_cons_succ]; rfl) (by kernel_rfl) ?_
      simp only [List.pop_toArray, List.dropLast_cons_cons, List.dropLast_singleton]
      refine wpAny_of_held (S := fun w' => w'.cell? ⟨G, 2, none⟩ = some (.slice va k vc) ∧ w'.cell? ⟨w.heap.size, 2, none⟩ = some (.slice (some ⟨bb, off, none⟩) n2 c2) ∧ w'.cell? ⟨bb, off + k, none⟩ = some (.slice xa xn xc)) _ _ _ _ ?_
      refine wpAnyH_take (i := 0) (v := ?_) (by simp only [List.getElem?_toArray, List.getElem?_cons_zero]; rfl) (by kernel_rfl) (by kernel_rfl) (by kernel_rfl) (fun _ _ _ h => h) (Or.inl ⟨by rfl, ?_⟩) HSD.out ?_
      rotate_left
      · intro w hSw
        (try dsimp only at hSw)
        obtain ⟨q0_, q1_, q2_⟩ := hSw
        go_simp
        try with_reducible rfl
      try simp only [Act.put, List.setIfInBounds_toArray, List.set_cons_zero, List.set_cons_succ]
      refine wpAnyH_take (i := 1) (v := ?_) (by simp only [List.getElem?_toArray, List.getElem?_cons_zero, List.getElem?_cons_succ]; rfl) (by kernel_rfl) (by kernel_rfl) (by kernel_rfl) (fun _ _ _ h => h) (Or.inl ⟨by rfl, ?_⟩) HSD.out ?_
      rotate_left
      · intro w hSw
        (try dsimp only at hSw)
        obtain ⟨q0_, q1_, q2_⟩ := hSw
        go_simp
        try with_reducible rfl
      try simp only [Act.put, List.setIfInBounds_toArray, List.set_cons_zero, List.set_cons_succ]
      refine wpAnyH_take (i := 2) (v := ?_) (by simp only [List.getElem?_toArray, List.getElem?_cons_zero, List.getElem?_cons_succ]; rfl) (by kernel_rfl) (by kernel_rfl) (by kernel_rfl) (fun _ _ _ h => h) (Or.inl ⟨by rfl, ?_⟩) HSD.out ?_
      rotate_left
      · intro w hSw
        (try dsimp only at hSw)
        obtain ⟨q0_, q1_, q2_⟩ := hSw
        go_simp
        try with_reducible rfl
      try simp only [Act.put, List.setIfInBounds_toArray, List.set_cons_zero, List.set_cons_succ]
      refine wpAnyH_take (i := 3) (v := ?_) (by simp only [List.getElem?_toArray, List.getElem?_cons_zero, List.getElem?_cons_succ]; rfl) (by kernel_rfl) (by kernel_rfl) (by kernel_rfl) (fun _ _ _ h => h) (Or.inl ⟨by rfl, ?_⟩) HSD.out ?_
      rotate_left
      · intro w hSw
        (try dsimp only at hSw)
        obtain ⟨q0_, q1_, q2_⟩ := hSw
        go_simp
        try with_reducible rfl
      try simp only [Act.put, List.setIfInBounds_toArray, List.set_cons_zero, List.set_cons_succ]
      refine wpAnyH_take (i := 4) (v := ?_) (by simp only [List.getElem?_toArray, List.getElem?_cons_zero, List.getElem?_cons_succ]; rfl) (by kernel_rfl) (by kernel_rfl) (by kernel_rfl) (fun _ _ _ h => h) (Or.inl ⟨by rfl, ?_⟩) HSD.out ?_
      rotate_left
      · intro w hSw
        (try dsimp only at hSw)
        obtain ⟨q0_, q1_, q2_⟩ := hSw
        go_simp
        try with_reducible rfl
      try simp only [Act.put, List.setIfInBounds_toArray, List.set_cons_zero, List.set_cons_succ]
      refine wpAnyH_take (i := 5) (v := ?_) (by simp only [List.getElem?_toArray, List.getElem?_cons_zero, List.getElem?_cons_succ]; rfl) (by kernel_rfl) (by kernel_rfl) (by kernel_rfl) (fun _ _ _ h => h) (Or.inl ⟨by rfl, ?_⟩) HSD.out ?_
      rotate_left
      · intro w hSw
        (try dsimp only at hSw)
        obtain ⟨q0_, q1_, q2_⟩ := hSw
        go_simp
        try with_reducible rfl
      try simp only [Act.put, List.setIfInBounds_toArray, List.set_cons_zero, List.set_cons_succ]
      refine wpAnyH_take (i := 6) (v := ?_) (by simp only [List.getElem?_toArray, List.getElem?_cons_zero, List.getElem?_cons_succ]; rfl) (by kernel_rfl) (by kernel_rfl) (by kernel_rfl) (fun _ _ _ h => h) (Or.inl ⟨by rfl, ?_⟩) HSD.out ?_
      rotate_left
      · intro w hSw
        (try dsimp only at hSw)
        obtain ⟨q0_, q1_, q2_⟩ := hSw
        go_simp
        try with_reducible rfl
      try simp only [Act.put, List.setIfInBounds_toArray, List.set_cons_zero, List.set_cons_succ]
      refine wpAnyH_ready (rs := [7]) (by kernel_rfl) (by simp) ?_
      refine AllReadyH.cons (by simp only [List.getElem?_toArray, List.getElem?_cons_zero, List.getElem?_cons_succ]; rfl) (fun K hK => ?_) AllReadyH.nil
      go_simp
      refine (HZ.out _ HYD.out).mono ?_
      rintro e w3 ⟨ea, ec, rfl, r3, b3⟩
      have HB3 := Lib.hid (ext_trans HYD.out b3)
      have R3 := Lib.hid (row_base r3 HYD.out.size)
      have HS3 := Lib.hid (keep3c HSD.out b3)
      clear r3 b3
      refine hK.out _ _ HS3.out (fun _ => ?_)
      clear hK K
      try simp only [Act.put, List.setIfInBounds_toArray, List.set_cons_zero, List.set_cons_succ]
      refine wpAnyH_ready (rs := [8]) (by kernel_rfl) (by simp) ?_
      refine AllReadyH.cons (by simp only [List.getElem?_toArray, List.getElem?_cons_zero, List.getElem?_cons_succ]; rfl) (fun K hK => ?_) AllReadyH.nil
      go_simp
      have HS4 := Lib.hid (keep3c HS3.out (ext_alloc w3 (.cells #[.slice ea xn ec] 27)))
      refine hK.out _ _ HS4.out (fun _ => ?_)
      clear hK K
      try simp only [Act.put, List.setIfInBounds_toArray, List.set_cons_zero, List.set_cons_succ]
      have HB4 := Lib.hid (ext_trans HB3.out (ext_alloc w3 (.cells #[.slice ea xn ec] 27)))
      have HOW := Lib.hid (ownsN_below hI.out.row HB4.out)
      refine wpAnyH_ready (rs := [9]) (by kernel_rfl) (by simp) ?_
      refine AllReadyH.cons (by simp only [List.getElem?_toArray, List.getElem?_cons_zero, List.getElem?_cons_succ]; rfl) (fun K hK => ?_) AllReadyH.nil
      refine step_append_own_at rfl _ _ 28 rfl w.heap.size 27 iS (.slice none 0 0) 1 24 Try.underlying28 hiS hzS0 hzS1 hzS2 rfl (by decide) (.slice va k vc) k (ss.map slV) (by simp [Act.eval]) HOW.out ⟨w3.heap.size, 0, none⟩ 1 1 [.slice ea xn ec] (by simp [Act.eval]) rfl (cell_one_new _ _ _) (by simp [Value.oneCell']) (by unfold maxLen; have := HKN.out; omega) (by have := HKN.out; omega) (ext_trans hI.out.low HB4.out).size ?_
      intro v5 w5 r5 g5
      obtain ⟨fa, fc, rfl⟩ := ownsN_form r5
      have hx5 := heap_grown (heap_below hI.out.box HB4.out) g5 (ownsN_notown HOW.out (heap_below hI.out.box HB4.out) (by decide))
      have ht5 := heap_grown (heap_below hI.out.tb HB4.out) g5 (ownsN_notown HOW.out (heap_below hI.out.tb HB4.out) (by decide))
      have HS5 : Hid (w5.cell? ⟨G, 2, none⟩ = some (.slice va k vc) ∧ w5.cell? ⟨w.heap.size, 2, none⟩ = some (.slice (some ⟨bb, off, none⟩) n2 c2) ∧ w5.cell? ⟨bb, off + k, none⟩ = some (.slice xa xn xc)) := ⟨cell_of_block hx5 2, cell_of_block ht5 2, by rw [World.cell?_of_block (w := w3.alloc (.cells #[.slice ea xn ec] 27)) (g5.block bb (Nat.lt_of_lt_of_le HBW.out (Nat.le_trans hI.out.low.size HB4.out.size)) (fun e => by have := (HOW.out.lt bb e.symm).1; have := HBW.out; omega))]; exact HS4.out.2.2⟩
      have HX5 := Lib.hid hx5
      have HT5 := Lib.hid ht5
      have d1 := cell_of_block hx5 2
      have d2 := unfrozen_of_block hx5 2
      have HG5 := Lib.hid g5
      have R5 := Lib.hid r5
      clear r5 g5 hx5 ht5
      refine hK.out _ _ HS5.out (fun _ => ?_)
      clear hK K
      try simp only [Act.put, List.setIfInBounds_toArray, List.set_cons_zero, List.set_cons_succ]
      refine wpAnyH_take (i := 10) (v := ?_) (by simp only [List.getElem?_toArray, List.getElem?_cons_zero, List.getElem?_cons_succ]; rfl) (by kernel_rfl) (by kernel_rfl) (by kernel_rfl) (fun _ _ _ h => h) (Or.inl ⟨by rfl, ?_⟩) HS5.out ?_
      rotate_left
      · intro w hSw
        (try dsimp only at hSw)
        obtain ⟨q0_, q1_, q2_⟩ := hSw
        go_simp
        try with_reducible rfl
      try simp only [Act.put, List.setIfInBounds_toArray, List.set_cons_zero, List.set_cons_succ]
      refine wpAnyH_done (by kernel_rfl) ?_ _
      unfold LastQ wpOp
      simp only [List.getElem?_toArray, List.getElem?_cons_zero, List.getElem?_cons_succ]
      rw [if_pos (by rfl)]
      refine Or.inl ?_
      go_simp
      refine NoPanic.normal ?_
      clear p0 p1 p2 HS0 HSD HS3 HS4 HS5 d1 d2 HZ
      go_wp2
      go_roundw
      case rel =>
        refine ⟨k + 1, fa, fc, ss ++ [(ea, xn, ec)], by omega, by go_num, ?_⟩
        have hXX := block_setCell HX5.out (i := 2) (.slice fa (k + 1) fc)
        obtain ⟨W6, hW6⟩ : ∃ W6, W6 = w5.setCell ⟨G, 2, none⟩ (.slice fa (k + 1) fc) := ⟨_, rfl⟩
        rw [← hW6] at hXX ⊢
        have hne : ∀ D : Nat, D ≠ G → W6.heap[D]? = w5.heap[D]? := fun D hD => by rw [hW6]; exact Below.heap_setCell w5 ⟨G, 2, none⟩ _ D hD
        obtain ⟨WA, hWA⟩ : ∃ WA, WA = w3.alloc (.cells #[.slice ea xn ec] 27) := ⟨_, rfl⟩
        have hg := HG5.out
        have hb4 := HB4.out
        have how := HOW.out
        rw [← hWA] at hg hb4 how
        have hb3A : Below w3.heap.size w3 WA := by rw [hWA]; exact ext_alloc _ _
        have hwle : w.heap.size ≤ wr.heap.size := hI.out.low.size
        have one : ∀ {y : Slc} {n : Nat} {V : List UInt8}, Row isByte WA w.heap.size 5 (slV y) n (V.map bv) → Row isByte W6 w.heap.size 5 (slV y) n (V.map bv) := fun {y n V} hy => by
          have h1 := row_grown hy how hg (by decide)
          exact h1.other fun q hq => hne q (fun e => (h1.not_own HX5.out (by decide)) (by rw [hq, e]))
        have hnew : Row isByte WA w.heap.size 5 (slV (ea, xn, ec)) (fs.getD k []).length ((zeroL (fs.getD k [])).map bv) := by
          have h1 := (R3.out.below hb3A).base_le hwle
          rw [← HXL.out]
          exact h1
        have hbz : Below w.heap.size w WA := ext_trans hI.out.low hb4
        refine ⟨?_, (hne _ HGN.out.1.symm).trans HT5.out, (hne _ HGN.out.2.1.symm).trans (heap_grown (heap_below hI.out.rb hb4) hg (ownsN_notown how (heap_below hI.out.rb hb4) (by decide))), one (hI.out.init.below hb4), ?_, by simp [hI.out.len], fun j hj => ?_, ?_⟩
        · simpa using hXX
        · have h1 : w5.ownsRow w.heap.size 27 1 (.slice fa (k + 1) fc) (k + 1) ((ss ++ [(ea, xn, ec)]).map slV) := by simpa [slV] using R5.out
          exact ownsN_other h1 fun q hq => hne q (fun e => (ownsN_notown h1 HX5.out (by decide)) (by rw [hq, e]))
        · by_cases e : j = k
          · subst e
            have e1 : (ss ++ [(ea, xn, ec)]).getD j slc0 = (ea, xn, ec) := by rw [← hI.out.len]; simp
            rw [e1]
            exact one hnew
          · have e1 : (ss ++ [(ea, xn, ec)]).getD j slc0 = ss.getD j slc0 := by simp [List.getD, List.getElem?_append_left (show j < ss.length by rw [hI.out.len]; omega)]
            rw [e1]
            exact one ((hI.out.rows j (by omega)).below hb4)
        · rw [hW6]
          exact (hbz.grown hg hbz.size (fun q hq => (how.lt q hq).1)).setCell (p := ⟨G, 2, none⟩) HGN.out.2.2 _
      case measure => simp [intOf]; omega
    · obtain rfl : k = n2 := by omega
      have z0 := cell_of_block hI.out.box 0
      have z1 := cell_of_block hI.out.box 1
      have z2 := cell_of_block hI.out.box 2
      obtain ⟨sa, sn, sc⟩ := si
      simp only [slV] at z1
      have z1' : wr.cell? ⟨G, 1, none⟩ = some (.slice sa sn sc) := z1
      have y0 := cell_of_block hI.out.rb 0
      have y1 := cell_of_block hI.out.rb 1
      have y2 := cell_of_block hI.out.rb 2
      have x0 := unfrozen_of_block hI.out.rb 0
      have x1 := unfrozen_of_block hI.out.rb 1
      have x2 := unfrozen_of_block hI.out.rb 2
      clear hlt hk z1
      go_wp2
      refine bodyPost_ret (v := traceV bad ⟨sa, sn, sc, va, k, vc, ss⟩) ?_ rfl ?_
      · have h6 := tri_set_t hI.out.rb rfl (.int .i64 bad) (.slice sa sn sc) (.slice va k vc)
        have g0 := cell_of_block h6 0
        have g1 := cell_of_block h6 1
        have g2 := cell_of_block h6 2
        simp [results, Try.results19, go_sem, g0, g1, g2]
        rfl
      · have hsn : sn = init.length := HLEN2.out
        have h1 := HN1.out
        have h2 := HN2.out
        have oth : ∀ {n : Nat} {v : Value} {xs : List Value}, Row isByte wr w.heap.size 5 v n xs → Row isByte (((wr.setCell ⟨w.heap.size + 1, 0, .none⟩ (.int .i64 bad)).setCell ⟨w.heap.size + 1, 1, .none⟩ (.slice sa sn sc)).setCell ⟨w.heap.size + 1, 2, .none⟩ (.slice va k vc)) w.heap.size 5 v n xs := fun hr => hr.other fun q hq => set3_other (w.heap.size + 1) q (fun e => (hr.not_own hI.out.rb (by decide)) (by rw [hq, e])) _ _ _
        have ho2 := ownsN_other hI.out.row fun q hq => set3_other (w.heap.size + 1) q (fun e => (ownsN_notown hI.out.row hI.out.rb (by decide)) (by rw [hq, e])) (.int .i64 bad) (.slice sa sn sc) (.slice va k vc)
        refine ⟨⟨sa, sn, sc, va, k, vc, ss⟩, rfl, ⟨(row_sees_slice (oth hI.out.init)).2, ⟨(owns_sees_slice ho2).2, ?_, fun j hj => ?_⟩⟩, ⟨by show sn ≤ 1048576; have := HS1.out; omega, hs2, fun x hx => ?_⟩, set3_t (w.heap.size + 1) (Nat.le_succ _) hI.out.low⟩
        · show ss.length = (fs.map zeroL).length
          rw [List.length_map, h2]; exact hI.out.len
        · have hjk : j < k := by have h : j < (fs.map zeroL).length := hj; rw [List.length_map, h2] at h; exact h
          have h3 := (row_sees_slice (oth (hI.out.rows j hjk))).2
          have h4 : ((readT ⟨bad, init, fs⟩).frames.getD j []) = zeroL (fs.getD j []) := readT_frame ⟨bad, init, fs⟩ j
          rw [h4]; exact h3
        · obtain ⟨j, hj, he⟩ := List.getElem_of_mem hx
          have h3 : ss.getD j slc0 = x := by simp [List.getD, List.getElem?_eq_getElem hj, he]
          have hjk : j < k := by rw [← hI.out.len]; exact hj
          have h4 := hI.out.rows j hjk
          rw [h3] at h4
          have h5 := row_len (show Row isByte wr w.heap.size 5 (.slice x.1 x.2.1 x.2.2) _ _ from h4)
          have h6 := (H2.out.each j (by rw [h2]; exact hjk)).lenMap
          have h7 := HSL.out (ss0.getD j slc0) (getD_mem (by rw [H2.out.len, h2]; exact hjk))
          omega
end Go.Proofs.Ytjmdgbdlhaaefaa
/- The reference's Fails, by its contract. -/
namespace Go.Proofs.Ytjmdgbdlhaaefaa
open Go Go.RowKit Go.Joins

set_option maxRecDepth 100000 in
set_option maxHeartbeats 6400000 in
theorem rfails_any (c : NormC) (t : TraceC) (s : CSlots) (st : TSlots) (w : World) (h : SeesCir w s c) (ht : SeesTr w st t) (hs : s.small) (hst : st.small) (hlo : -9223372036854775808 ≤ c.ins) (hhi : c.ins < 9223372036854775808) (hb1 : -9223372036854775808 ≤ t.bad ∧ t.bad < 9223372036854775808) (hw : Wide c) :
    Calls Try.prog 22 #[cirV c.ins s, traceV t.bad st] w fun e w' => e = failsE c t ∧ Below w.heap.size w w' := by
  have HFIT := Lib.hid (fun W (hb : Below w.heap.size w W) => reffits_any c t s st W (h.below hb) (ht.below hb) hs hst hlo hhi hb1 hw)
  have HREAD := Lib.hid (fun W (hb : Below w.heap.size w W) => refread_any t st W (ht.below hb) hst)
  have HSU := Lib.hid (fun (st' : TSlots) W (hb : Below w.heap.size w W) (ht' : SeesTr W st' (readT t)) (hs' : st'.small) => rsurely_any c (readT t) s st' W (h.below hb) ht' hs hs' hlo hhi hb1 hw)
  have hfb : (readT t).bad = t.bad := rfl
  rw [hfb] at HSU
  have HE : Hid (failsE c t = if fitsS c t = true then .returned (.tuple #[.bool (decide ((k1.verdict c t.bad.toNat (readT t).init (readT t).frames).toNat = 1)), .int .i64 0]) else .returned (.tuple #[.bool false, .int .i64 2])) := rfl
  obtain ⟨E, hE⟩ : ∃ E, E = failsE c t := ⟨_, rfl⟩
  rw [← hE] at HE ⊢
  have HSE : Hid (fitsS c t = true → surelyE c (readT t) = .returned (.tuple #[bv (k1.verdict c t.bad.toNat (readT t).init (readT t).frames), .int .i64 0])) := fun hq => by
    unfold surelyE
    rw [if_pos (fits_iff.2 (fits_iff.1 hq).read)]
    rfl
  obtain ⟨SE, hSE⟩ : ∃ E, E = surelyE c (readT t) := ⟨_, rfl⟩
  rw [← hSE] at HSU HSE
  obtain ⟨q, hq⟩ : ∃ q, q = fitsS c t := ⟨_, rfl⟩
  rw [← hq] at HFIT HE HSE
  clear hfb hE hSE hq h ht hs hst hlo hhi hb1 hw
  unfold cirV traceV at *
  go_enter Try.func22, Try.ntmps22
  go_upto_region 1 with fail
  generalize hW : World.alloc (World.alloc w _) _ = W1
  have hb : Below w.heap.size w W1 := by subst hW; exact ext_trans (ext_alloc _ _) (ext_alloc _ _)
  have hx : W1.heap[w.heap.size]? = some (.cells #[.int .i64 c.ins, .slice s.a1 s.n1 s.c1, .slice s.a2 s.n2 s.c2, .slice s.a3 s.n3 s.c3, .slice s.a4 s.n4 s.c4, .slice s.a5 s.n5 s.c5] 26 (0, 0)) := by subst hW; exact heap_below (heap_new _ _ _ rfl) (ext_alloc _ _)
  have hy : W1.heap[w.heap.size + 1]? = some (.cells #[.int .i64 t.bad, .slice st.a1 st.n1 st.c1, .slice st.a2 st.n2 st.c2] 30 (0, 0)) := by subst hW; exact heap_new _ _ _ (by simp)
  have HB := Lib.hid hb
  have HX := Lib.hid hx
  have HY := Lib.hid hy
  clear hW hb hx hy
  have p0 := cell_of_block HX.out 0
  have p1 := cell_of_block HX.out 1
  have p2 := cell_of_block HX.out 2
  have p3 := cell_of_block HX.out 3
  have p4 := cell_of_block HX.out 4
  have p5 := cell_of_block HX.out 5
  have r0 := cell_of_block HY.out 0
  have r1 := cell_of_block HY.out 1
  have r2 := cell_of_block HY.out 2
  go_wp2_with fail
  refine (HFIT.out W1 HB.out).mono ?_
  rintro e W2 ⟨rfl, hb⟩
  have HX2 := Lib.hid (heap_below HX.out hb)
  have HY2 := Lib.hid (heap_below HY.out hb)
  have HB2 := Lib.hid (ext_trans HB.out hb)
  clear p0 p1 p2 p3 p4 p5 r0 r1 r2 HX HY HB hb HFIT
  cases q with
  | false =>
    go_wp2
    refine bodyPost_ret (v := .tuple #[.bool false, .int .i64 2]) ?_ rfl ?_
    · simp [results, Try.results22, go_sem]
    · exact ⟨by rw [HE.out]; rfl, HB2.out⟩
  | true =>
  have hse := HSE.out rfl
  obtain ⟨RV, hRV⟩ : ∃ v, v = k1.verdict c t.bad.toNat (readT t).init (readT t).frames := ⟨_, rfl⟩
  rw [← hRV] at HE hse
  obtain ⟨vn, hvn⟩ : ∃ n : Nat, n = RV.toNat := ⟨_, rfl⟩
  have hbv : bv RV = .int .u8 (vn : Int) := by rw [hvn]; rfl
  rw [hbv] at hse
  rw [← hvn] at HE
  have HSE2 := Lib.hid hse
  have HS0 := Lib.hid (keep63 HX2.out HY2.out)
  clear hse hRV hvn hbv HSE
  go_upto_region 3 with fail
  refine wp_region_noPanic ?_
  refine wp_region_held (S := fun w' => w'.cell? ⟨w.heap.size, 0, none⟩ = some (.int .i64 c.ins) ∧ w'.cell? ⟨w.heap.size, 1, none⟩ = some (.slice s.a1 s.n1 s.c1) ∧ w'.cell? ⟨w.heap.size, 2, none⟩ = some (.slice s.a2 s.n2 s.c2) ∧ w'.cell? ⟨w.heap.size, 3, none⟩ = some (.slice s.a3 s.n3 s.c3) ∧ w'.cell? ⟨w.heap.size, 4, none⟩ = some (.slice s.a4 s.n4 s.c4) ∧ w'.cell? ⟨w.heap.size, 5, none⟩ = some (.slice s.a5 s.n5 s.c5) ∧ w'.cell? ⟨w.heap.size + 1, 0, none⟩ = some (.int .i64 t.bad) ∧ w'.cell? ⟨w.heap.size + 1, 1, none⟩ = some (.slice st.a1 st.n1 st.c1) ∧ w'.cell? ⟨w.heap.size + 1, 2, none⟩ = some (.slice st.a2 st.n2 st.c2)) (by kernel_rfl) ?_
  generalize hY : ({ W2 with drawn := W2.drawn + 1 } : World) = Y0
  have hY0 : Below W2.heap.size W2 Y0 := by subst hY; exact (Below.refl _ _).drew
  have HSD := Lib.hid (keep9 HS0.out hY0)
  have HYB := Lib.hid (ext_trans HB2.out hY0)
  clear hY0 hY
  refine wpAnyH_take (i := 0) (v := ?_) (by simp only [List.getElem?_toArray, List.getElem?_cons_zero]; rfl) (by kernel_rfl) (by kernel_rfl) (by kernel_rfl) (fun _ _ _ h => h) (Or.inl ⟨by rfl, ?_⟩) HSD.out ?_
  rotate_left
  · intro w hSw
    (try dsimp only at hSw)
    obtain ⟨q0_, q1_, q2_, q3_, q4_, q5_, q6_, q7_, q8_⟩ := hSw
    go_simp
    try with_reducible rfl
  try simp only [Act.put, List.setIfInBounds_toArray, List.set_cons_zero, List.set_cons_succ]
  refine wpAnyH_take (i := 1) (v := ?_) (by simp only [List.getElem?_toArray, List.getElem?_cons_zero, List.getElem?_cons_succ]; rfl) (by kernel_rfl) (by kernel_rfl) (by kernel_rfl) (fun _ _ _ h => h) (Or.inl ⟨by rfl, ?_⟩) HSD.out ?_
  rotate_left
  · intro w hSw
    (try dsimp only at hSw)
    obtain ⟨q0_, q1_, q2_, q3_, q4_, q5_, q6_, q7_, q8_⟩ := hSw
    go_simp
    try with_reducible rfl
  try simp only [Act.put, List.setIfInBounds_toArray, List.set_cons_zero, List.set_cons_succ]
  refine wpAnyH_ready (rs := [2]) (by kernel_rfl) (by simp) ?_
  refine AllReadyH.cons (by simp only [List.getElem?_toArray, List.getElem?_cons_zero, List.getElem?_cons_succ]; rfl) (fun K hK => ?_) AllReadyH.nil
  go_simp
  refine (HREAD.out _ HYB.out).mono ?_
  rintro e s1 ⟨st', rfl, ht', hs', b1⟩
  have HT1 := Lib.hid ht'
  have HSM1 := Lib.hid hs'
  have HB3 := Lib.hid (ext_trans HYB.out b1)
  have HS1 := Lib.hid (keep9 HSD.out b1)
  clear b1 ht' hs'
  refine hK.out _ _ HS1.out (fun _ => ?_)
  clear hK K
  try simp only [Act.put, List.setIfInBounds_toArray, List.set_cons_zero, List.set_cons_succ]
  refine wpAnyH_ready (rs := [3]) (by kernel_rfl) (by simp) ?_
  refine AllReadyH.cons (by simp only [List.getElem?_toArray, List.getElem?_cons_zero, List.getElem?_cons_succ]; rfl) (fun K hK => ?_) AllReadyH.nil
  go_simp
  refine (HSU.out st' _ HB3.out HT1.out HSM1.out).mono ?_
  rintro e s2 ⟨rfl, b2⟩
  have HB4 := Lib.hid (ext_trans HB3.out b2)
  have HS2 := Lib.hid (keep9 HS1.out b2)
  clear b2
  rw [HSE2.out]
  refine hK.out _ _ HS2.out (fun _ => ?_)
  clear hK K
  try simp only [Act.put, List.setIfInBounds_toArray, List.set_cons_zero, List.set_cons_succ]
  refine wpAnyH_take (i := 4) (v := ?_) (by simp only [List.getElem?_toArray, List.getElem?_cons_zero, List.getElem?_cons_succ]; rfl) (by kernel_rfl) (by kernel_rfl) (by kernel_rfl) (fun _ _ _ h => h) (Or.inl ⟨by rfl, ?_⟩) HS2.out ?_
  rotate_left
  · intro w hSw
    (try dsimp only at hSw)
    obtain ⟨q0_, q1_, q2_, q3_, q4_, q5_, q6_, q7_, q8_⟩ := hSw
    go_simp
    try with_reducible rfl
  try simp only [Act.put, List.setIfInBounds_toArray, List.set_cons_zero, List.set_cons_succ]
  refine wpAnyH_take (i := 5) (v := ?_) (by simp only [List.getElem?_toArray, List.getElem?_cons_zero, List.getElem?_cons_succ]; rfl) (by kernel_rfl) (by kernel_rfl) (by kernel_rfl) (fun _ _ _ h => h) (Or.inl ⟨by rfl, ?_⟩) HS2.out ?_
  rotate_left
  · intro w hSw
    (try dsimp only at hSw)
    obtain ⟨q0_, q1_, q2_, q3_, q4_, q5_, q6_, q7_, q8_⟩ := hSw
    go_simp
    try with_reducible rfl
  try simp only [Act.put, List.setIfInBounds_toArray, List.set_cons_zero, List.set_cons_succ]
  refine wpAnyH_take (i := 6) (v := ?_) (by simp only [List.getElem?_toArray, List.getElem?_cons_zero, List.getElem?_cons_succ]; rfl) (by kernel_rfl) (by kernel_rfl) (by kernel_rfl) (fun _ _ _ h => h) (Or.inl ⟨by rfl, ?_⟩) HS2.out ?_
  rotate_left
  · intro w hSw
    (try dsimp only at hSw)
    obtain ⟨q0_, q1_, q2_, q3_, q4_, q5_, q6_, q7_, q8_⟩ := hSw
    go_simp
    try with_reducible rfl
  try simp only [Act.put, List.setIfInBounds_toArray, List.set_cons_zero, List.set_cons_succ]
  refine wpAnyH_take (i := 7) (v := ?_) (by simp only [List.getElem?_toArray, List.getElem?_cons_zero, List.getElem?_cons_succ]; rfl) (by kernel_rfl) (by kernel_rfl) (by kernel_rfl) (fun _ _ _ h => h) (Or.inl ⟨by rfl, ?_⟩) HS2.out ?_
  rotate_left
  · intro w hSw
    (try dsimp only at hSw)
    obtain ⟨q0_, q1_, q2_, q3_, q4_, q5_, q6_, q7_, q8_⟩ := hSw
    go_simp
    try with_reducible rfl
  try simp only [Act.put, List.setIfInBounds_toArray, List.set_cons_zero, List.set_cons_succ]
  refine wpAnyH_take (i := 8) (v := ?_) (by simp only [List.getElem?_toArray, List.getElem?_cons_zero, List.getElem?_cons_succ]; rfl) (by kernel_rfl) (by kernel_rfl) (by kernel_rfl) (fun _ _ _ h => h) (Or.inl ⟨by rfl, ?_⟩) HS2.out ?_
  rotate_left
  · intro w hSw
    (try dsimp only at hSw)
    obtain ⟨q0_, q1_, q2_, q3_, q4_, q5_, q6_, q7_, q8_⟩ := hSw
    go_simp
    try with_reducible rfl
  try simp only [Act.put, List.setIfInBounds_toArray, List.set_cons_zero, List.set_cons_succ]
  refine wpAnyH_done (by kernel_rfl) ?_ _
  refine NoPanic.normal ?_
  have hdec : ((vn : Int) == 1) = decide (vn = 1) := by rw [Bool.eq_iff_iff]; simp; omega
  go_wp2
  refine bodyPost_ret (v := .tuple #[.bool (decide (vn = 1)), .int .i64 0]) ?_ rfl ?_
  · simp [results, Try.results22, go_sem]
  · exact ⟨by rw [HE.out]; rfl, HB4.out⟩
end Go.Proofs.Ytjmdgbdlhaaefaa
/- The law SimTells, walked. -/
namespace Go.Proofs.Ytjmdgbdlhaaefaa
open Go Go.RowKit Go.Joins

theorem owns_burnt {w w' : World} {base b k : Nat} {e : TypeId} {v : Value} {n : Nat} {xs : List Value} (h : w.ownsRow base e k v n xs) (hB : Burnt w w' b) (he : e ≠ 5) : w'.ownsRow base e k v n xs := by
  refine ownsN_other h fun q hq => ?_
  obtain ⟨hl, rest⟩ := h
  rcases rest with ⟨h1, _⟩ | ⟨g, cap, cur, h1, hg, hh, _⟩
  · rw [h1] at hq; cases hq
  · rw [h1] at hq
    have : g = q := by simpa [Value.ownBlock] using hq
    subst this
    exact (hB.other g _ e _ hh he).trans hh.symm
/-- What both Frames answer. -/
def FrU (w : World) (L1 L2 : List UInt8) (er : Int) (e : Ending) (w' : World) : Prop :=
  ∃ (xa : Option Addr) (xn xc : Nat) (ya : Option Addr) (yn yc : Nat), e = .returned (.tuple #[.slice xa xn xc, .slice ya yn yc, .int .i64 er]) ∧ Sees w' xa xn xc (L1.map bv) ∧ Sees w' ya yn yc (L2.map bv) ∧ Below w.heap.size w w'
theorem FrPost.uni {w w' : World} {ok : Bool} {vs ns : List UInt8} {e : Ending} (h : FrPost w ok vs ns e w') : FrU w (if ok = true then vs else []) (if ok = true then ns else []) (if ok = true then 0 else 2) e w' := by
  obtain ⟨⟨xa, xn, xc⟩, ⟨ya, yn, yc⟩, rfl, h1, h2, hb⟩ := h
  exact ⟨xa, xn, xc, ya, yn, yc, rfl, (row_sees_slice h1).2, (row_sees_slice h2).2, hb⟩
/-- What both Runs answer. -/
def RunU (w : World) (FL : List (List UInt8)) (er : Int) (e : Ending) (w' : World) : Prop :=
  ∃ (a : Option Addr) (n c : Nat) (ss : List Slc), e = .returned (.tuple #[.slice a n c, .int .i64 er]) ∧ FL.length = n ∧ ss.length = n ∧ w'.ownsRow w.heap.size 27 1 (.slice a n c) n (ss.map slV) ∧
    (∀ j, j < n → Row isByte w' w.heap.size 5 (slV (ss.getD j slc0)) (FL.getD j []).length ((FL.getD j []).map bv)) ∧ Below w.heap.size w w'
def runFL (c : NormC) (t : TraceC) : List (List UInt8) := if fitsS c t = true then (List.range t.frames.length).map (varsAt c t) else []
theorem RunPost.uni {c : NormC} {t : TraceC} {w w' : World} {e : Ending} (h : RunPost c t w e w') : RunU w (runFL c t) (if fitsS c t = true then 0 else 2) e w' := by
  obtain ⟨h1, h2, hb⟩ := h
  cases hq : fitsS c t with
  | true =>
    obtain ⟨v, ss, e1, hl, ho, hr⟩ := h1 hq
    obtain ⟨a, cc, rfl, _⟩ := Sees.owned ho
    have e2 : runFL c t = (List.range t.frames.length).map (varsAt c t) := if_pos hq
    refine ⟨a, t.frames.length, cc, ss, by simpa using e1, by rw [e2]; simp, hl, ho, fun j hj => ?_, hb⟩
    have e3 : (runFL c t).getD j [] = varsAt c t j := by rw [e2]; simp [List.getD, hj]
    rw [e3]
    exact hr j hj
  | false =>
    have e2 : runFL c t = [] := if_neg (by rw [hq]; decide)
    refine ⟨none, 0, 0, [], by simpa using h2 hq, by rw [e2]; rfl, rfl, ⟨rfl, .inl ⟨rfl, rfl⟩⟩, fun j hj => absurd hj (by omega), hb⟩
theorem runFL_len (c : NormC) (t : TraceC) : (runFL c t).length ≤ 256 := by
  unfold runFL
  split
  · rename_i h
    have := (fits_iff.1 h).few
    simpa using this
  · simp
theorem RunU.seesF {w W : World} {FL : List (List UInt8)} {a : Option Addr} {n c : Nat} {ss : List Slc} (h1 : FL.length = n) (h2 : ss.length = n) (h3 : W.ownsRow w.heap.size 27 1 (.slice a n c) n (ss.map slV))
    (h4 : ∀ j, j < n → Row isByte W w.heap.size 5 (slV (ss.getD j slc0)) (FL.getD j []).length ((FL.getD j []).map bv)) : SeesF W a n c ss FL :=
  ⟨(owns_sees_slice h3).2, by rw [h1, h2], fun k hk => (row_sees_slice (h4 k (by omega))).2⟩
/-- While the rows are burnt. -/
structure BuInv (B : Nat) (WB : World) (a : Option Addr) (n c : Nat) (ss : List Slc) (W : World) : Prop where
  list : W.ownsRow B 27 1 (.slice a n c) n (ss.map slV)
  rows : ∀ j, j < n → ∃ m ys, Row isByte W B 5 (slV (ss.getD j slc0)) m ys
  low : Below WB.heap.size WB W
theorem BuInv.step {B : Nat} {WB : World} {a : Option Addr} {n c : Nat} {ss : List Slc} {W W' : World} (h : BuInv B WB a n c ss W) (hb : Burnt W W' B) (hB : WB.heap.size ≤ B) : BuInv B WB a n c ss W' :=
  ⟨owns_burnt h.list hb (by decide), fun j hj => by
    obtain ⟨m, ys, hr⟩ := h.rows j hj
    obtain ⟨zs, hz⟩ := hb.rows _ _ _ _ hr
    exact ⟨m, zs, hz⟩, h.low.trans (hb.below.mono hB)⟩
theorem keep6z {w w' : World} {a0 a1 a2 a3 a4 a5 : Addr} {v0 v1 v2 v3 v4 v5 : Value} (h : w.cell? a0 = some v0 ∧ w.cell? a1 = some v1 ∧ w.cell? a2 = some v2 ∧ w.cell? a3 = some v3 ∧ w.cell? a4 = some v4 ∧ w.cell? a5 = some v5) (hb : Below w.heap.size w w') :
    w'.cell? a0 = some v0 ∧ w'.cell? a1 = some v1 ∧ w'.cell? a2 = some v2 ∧ w'.cell? a3 = some v3 ∧ w'.cell? a4 = some v4 ∧ w'.cell? a5 = some v5 := keep6f h hb

set_option maxRecDepth 100000 in
set_option maxHeartbeats 6400000 in
theorem tells7_any (c : NormC) (t : TraceC) (stl ins : List UInt8) (lit : Nat) (s : CSlots) (st : TSlots) (a2 : Option Addr) (n2 c2 : Nat) (a3 : Option Addr) (n3 c3 : Nat) (w : World) (h : SeesCir w s c) (ht : SeesTr w st t) (h2 : Sees w a2 n2 c2 (stl.map bv)) (h3 : Sees w a3 n3 c3 (ins.map bv)) (hs : s.small) (hst : st.small) (hn2 : n2 ≤ 1048576) (hn3 : n3 ≤ 1048576) (hlit : lit < 4294967296)
    (hlo : -9223372036854775808 ≤ c.ins) (hhi : c.ins < 9223372036854775808) (hb1 : -9223372036854775808 ≤ t.bad ∧ t.bad < 9223372036854775808) (hw : Wide c) :
    Calls Try.prog 3 #[cirV c.ins s, traceV t.bad st, .slice a2 n2 c2, .slice a3 n3 c3, .int .u32 lit] w fun e w' => e = .returned (.bool true) ∧ Below w.heap.size w w' := by
  have HGR := Lib.hid (fun W (hb : Below w.heap.size w W) => great7_any c t s st W (h.below hb) (ht.below hb))
  have HLV := Lib.hid lives7_any
  have HCP := Lib.hid (fun W (hb : Below w.heap.size w W) => refcopy_any t st W (ht.below hb) hst)
  have HF1 : Hid (∀ W, Below w.heap.size w W → Calls Try.prog 9 #[cirV c.ins s, .slice a2 n2 c2, .slice a3 n3 c3] W (FrU W (if frameOk c stl ins = true then k1.vars c stl ins else []) (if frameOk c stl ins = true then k1.next c (k1.vars c stl ins) else []) (if frameOk c stl ins = true then 0 else 2))) :=
    fun W hb => (simframe_any c s stl ins a2 n2 c2 a3 n3 c3 W (h.below hb) hs (h2.below hb) (h3.below hb) hn2 hn3 hlo hhi).mono fun _ _ hp => hp.uni
  have HF2 : Hid (∀ W, Below w.heap.size w W → Calls Try.prog 10 #[cirV c.ins s, .slice a2 n2 c2, .slice a3 n3 c3] W (FrU W (if frameOk c stl ins = true then k1.vars c stl ins else []) (if frameOk c stl ins = true then k1.next c (k1.vars c stl ins) else []) (if frameOk c stl ins = true then 0 else 2))) :=
    fun W hb => (rframe_any c s stl ins a2 n2 c2 a3 n3 c3 W (h.below hb) hs (h2.below hb) (h3.below hb) hn2 hn3 hlo hhi hw).mono fun _ _ hp => hp.uni
  obtain ⟨L1, hL1⟩ : ∃ l, l = (if frameOk c stl ins = true then k1.vars c stl ins else []) := ⟨_, rfl⟩
  obtain ⟨L2, hL2⟩ : ∃ l, l = (if frameOk c stl ins = true then k1.next c (k1.vars c stl ins) else []) := ⟨_, rfl⟩
  obtain ⟨er, her⟩ : ∃ z : Int, z = (if frameOk c stl ins = true then 0 else 2) := ⟨_, rfl⟩
  rw [← hL1, ← hL2, ← her] at HF1 HF2
  clear hL1 hL2 her
  obtain ⟨VV, hVV⟩ : ∃ v, v = valueL ins lit := ⟨_, rfl⟩
  have HV1 : Hid (∀ W, Below w.heap.size w W → Calls Try.prog 12 #[.slice a3 n3 c3, .int .u32 lit] W fun e w' => e = .returned (bv VV) ∧ Below W.heap.size W w') := fun W hb => by rw [hVV]; exact simvalue_any ins a3 n3 c3 lit W (h3.below hb) hlit
  have HV2 : Hid (∀ W, Below w.heap.size w W → Calls Try.prog 13 #[.slice a3 n3 c3, .int .u32 lit] W fun e w' => e = .returned (bv VV) ∧ w' = W) := fun W hb => by rw [hVV]; exact refvalue_any ins a3 n3 c3 lit W (h3.below hb) hlit
  have hbv : bv VV = .int .u8 (VV.toNat : Int) := rfl
  rw [hbv] at HV1 HV2
  obtain ⟨vn, hvn⟩ : ∃ n : Nat, n = VV.toNat := ⟨_, rfl⟩
  rw [← hvn] at HV1 HV2
  clear hbv hvn hVV
  have HR1 : Hid (∀ (st' : TSlots) W, Below w.heap.size w W → SeesTr W st' t → st'.small → Calls Try.prog 14 #[cirV c.ins s, traceV t.bad st'] W (RunU W (runFL c t) (if fitsS c t = true then 0 else 2))) :=
    fun st' W hb h1 h2 => (run_any2 c t s st' W (h.below hb) h1 hs h2 hlo hhi hb1).mono fun _ _ hp => hp.uni
  have HR2 : Hid (∀ W, Below w.heap.size w W → Calls Try.prog 15 #[cirV c.ins s, traceV t.bad st] W (RunU W (runFL c t) (if fitsS c t = true then 0 else 2))) :=
    fun W hb => (rrun_any c t s st W (h.below hb) (ht.below hb) hs hst hlo hhi hb1 hw).mono fun _ _ hp => hp.uni
  have hFLn := runFL_len c t
  obtain ⟨FL, hFL⟩ : ∃ l, l = runFL c t := ⟨_, rfl⟩
  obtain ⟨ef, hef⟩ : ∃ z : Int, z = (if fitsS c t = true then 0 else 2) := ⟨_, rfl⟩
  rw [← hFL] at HR1 HR2 hFLn
  rw [← hef] at HR1 HR2
  have HFLN := Lib.hid hFLn
  clear hFL hef hFLn
  have HRD1 := Lib.hid (fun (st' : TSlots) W (h1 : SeesTr W st' t) (h2 : st'.small) => read_any t st' W h1 h2)
  have HRD2 := Lib.hid (fun W (hb : Below w.heap.size w W) => refread_any t st W (ht.below hb) hst)
  have HSR : Hid (∀ (x y : TSlots) W, SeesTr W x (readT t) → SeesTr W y (readT t) → x.small → Calls Try.prog 17 #[traceV t.bad x, traceV t.bad y] W fun e w' => e = .returned (.bool true) ∧ Below W.heap.size W w') := fun x y W h1 h2 h3 => by
    have h4 := sametr_any (readT t) (readT t) x y W h1 h2 h3 hb1 hb1
    rw [show decide (readT t = readT t) = true from decide_eq_true rfl] at h4
    exact h4
  have HST : Hid (∀ (x : TSlots) W, Below w.heap.size w W → SeesTr W x t → x.small → Calls Try.prog 17 #[traceV t.bad x, traceV t.bad st] W fun e w' => e = .returned (.bool true) ∧ Below W.heap.size W w') := fun x W hb h1 h3 => by
    have h4 := sametr_any t t x st W h1 (ht.below hb) h3 hb1 hb1
    rw [show decide (t = t) = true from decide_eq_true rfl] at h4
    exact h4
  have HFA1 := Lib.hid (fun (st' : TSlots) W (hb : Below w.heap.size w W) (h1 : SeesTr W st' t) (h2 : st'.small) => fails_any c t s st' W (h.below hb) h1 hs h2 hlo hhi hb1)
  have HFA2 := Lib.hid (fun W (hb : Below w.heap.size w W) => rfails_any c t s st W (h.below hb) (ht.below hb) hs hst hlo hhi hb1 hw)
  have HSU1 := Lib.hid (fun (st' : TSlots) W (hb : Below w.heap.size w W) (h1 : SeesTr W st' t) (h2 : st'.small) => surely_any c t s st' W (h.below hb) h1 hs h2 hlo hhi hb1)
  have HSU2 := Lib.hid (fun W (hb : Below w.heap.size w W) => rsurely_any c t s st W (h.below hb) (ht.below hb) hs hst hlo hhi hb1 hw)
  obtain ⟨fb, fz, hFE⟩ : ∃ (fb : Bool) (fz : Int), failsE c t = .returned (.tuple #[.bool fb, .int .i64 fz]) := by
    unfold failsE; split
    · exact ⟨_, _, rfl⟩
    · exact ⟨_, _, rfl⟩
  obtain ⟨sv, sz, hSE⟩ : ∃ (sv : Nat) (sz : Int), surelyE c t = .returned (.tuple #[.int .u8 sv, .int .i64 sz]) := by
    unfold surelyE; split
    · exact ⟨_, _, rfl⟩
    · exact ⟨0, _, rfl⟩
  rw [hFE] at HFA1 HFA2
  rw [hSE] at HSU1 HSU2
  have HBY : Hid (∀ (l : List UInt8) (xa : Option Addr) (xn xc : Nat) (ya : Option Addr) (yn yc : Nat) W, Sees W xa xn xc (l.map bv) → Sees W ya yn yc (l.map bv) → Calls Try.prog 11 #[.slice xa xn xc, .slice ya yn yc] W fun e w' => e = .returned (.bool true) ∧ w' = W) := fun l xa xn xc ya yn yc W h1 h2 => by
    have h4 := bytes_at l l xa ya xn xc yn yc W h1 h2
    rw [show decide (l = l) = true from decide_eq_true rfl] at h4
    exact h4
  have HTB : Hid (∀ (ss ss' : List Slc) (xa : Option Addr) (xn xc : Nat) (ya : Option Addr) (yn yc : Nat) W, SeesF W xa xn xc ss FL → SeesF W ya yn yc ss' FL → Calls Try.prog 16 #[.slice xa xn xc, .slice ya yn yc] W fun e w' => e = .returned (.bool true) ∧ Below W.heap.size W w') := fun ss ss' xa xn xc ya yn yc W h1 h2 => by
    have h4 := tables_any FL FL ss ss' xa ya xn xc yn yc W h1 h2 (by have := h1.n_eq; have := HFLN.out; omega)
    rw [show decide (FL = FL) = true from decide_eq_true rfl] at h4
    exact h4
  obtain ⟨gq, hgq⟩ : ∃ g, g = great7 c t := ⟨_, rfl⟩
  rw [← hgq] at HGR
  clear hgq hFE hSE h ht h2 h3 hs hst hn2 hn3 hlit hlo hhi hb1 hw
  unfold cirV traceV at *
  go_enter Try.func3, Try.ntmps3
  go_upto_region 1 with fail
  generalize hW : World.alloc (World.alloc w _) _ = W1
  have hb : Below w.heap.size w W1 := by subst hW; exact ext_trans (ext_alloc _ _) (ext_alloc _ _)
  have hx : W1.heap[w.heap.size]? = some (.cells #[.int .i64 c.ins, .slice s.a1 s.n1 s.c1, .slice s.a2 s.n2 s.c2, .slice s.a3 s.n3 s.c3, .slice s.a4 s.n4 s.c4, .slice s.a5 s.n5 s.c5] 26 (0, 0)) := by subst hW; exact heap_below (heap_new _ _ _ rfl) (ext_alloc _ _)
  have hy : W1.heap[w.heap.size + 1]? = some (.cells #[.int .i64 t.bad, .slice st.a1 st.n1 st.c1, .slice st.a2 st.n2 st.c2] 30 (0, 0)) := by subst hW; exact heap_new _ _ _ (by simp)
  have HB := Lib.hid hb
  have HX := Lib.hid hx
  have HY := Lib.hid hy
  clear hW hb hx hy
  have p0 := cell_of_block (heap_below HX.out (Below.refl _ _)) 0
  have p1 := cell_of_block (heap_below HX.out (Below.refl _ _)) 1
  have p2 := cell_of_block (heap_below HX.out (Below.refl _ _)) 2
  have p3 := cell_of_block (heap_below HX.out (Below.refl _ _)) 3
  have p4 := cell_of_block (heap_below HX.out (Below.refl _ _)) 4
  have p5 := cell_of_block (heap_below HX.out (Below.refl _ _)) 5
  have r0 := cell_of_block (heap_below HY.out (Below.refl _ _)) 0
  have r1 := cell_of_block (heap_below HY.out (Below.refl _ _)) 1
  have r2 := cell_of_block (heap_below HY.out (Below.refl _ _)) 2
  go_wp2_with fail
  refine (HGR.out W1 HB.out).mono ?_
  rintro e W2 ⟨rfl, hb⟩
  have HBW := Lib.hid (ext_trans HB.out hb)
  have HB2 := Lib.hid hb
  clear hb p0 p1 p2 p3 p4 p5 r0 r1 r2
  cases gq with
  | true =>
    go_wp2_with fail
    refine (HLV.out _).mono ?_
    rintro e W3 ⟨rfl, hb⟩
    have HB3 := Lib.hid (ext_trans HBW.out hb)
    clear hb
    go_wp2
    go_ret
    exact ⟨rfl, HB3.out⟩
  | false =>
  have p0 := cell_of_block (heap_below HX.out HB2.out) 0
  have p1 := cell_of_block (heap_below HX.out HB2.out) 1
  have p2 := cell_of_block (heap_below HX.out HB2.out) 2
  have p3 := cell_of_block (heap_below HX.out HB2.out) 3
  have p4 := cell_of_block (heap_below HX.out HB2.out) 4
  have p5 := cell_of_block (heap_below HX.out HB2.out) 5
  have r0 := cell_of_block (heap_below HY.out HB2.out) 0
  have r1 := cell_of_block (heap_below HY.out HB2.out) 1
  have r2 := cell_of_block (heap_below HY.out HB2.out) 2
  go_wp2_with fail
  refine (HCP.out W2 HBW.out).mono ?_
  rintro e W3 ⟨s', rfl, hO, hs', hb⟩
  have HBW3 := Lib.hid (ext_trans HBW.out hb)
  have HB3 := Lib.hid (ext_trans HB2.out hb)
  have HO3 := Lib.hid hO
  have HS' := Lib.hid hs'
  obtain ⟨b1, m1, d1, b2, m2, d2, ss'⟩ := s'
  clear p0 p1 p2 p3 p4 p5 r0 r1 r2 hb hO hs' HB2 HBW
  simp only at *
  go_upto_region 4 with fail
  generalize hW : World.alloc W3 _ = WB
  have hb : Below W3.heap.size W3 WB := by subst hW; exact ext_alloc _ _
  have hz : WB.heap[W3.heap.size]? = some (.cells #[.int .i64 t.bad, .slice b1 m1 d1, .slice b2 m2 d2] 30 (0, 0)) := by subst hW; exact heap_new _ _ _ rfl
  obtain ⟨Z, hZ⟩ : ∃ Z, Z = W3.heap.size := ⟨_, rfl⟩
  rw [← hZ] at hz
  try rw [← hZ]
  have HT := Lib.hid (HO3.out.below hb).sees
  have HXn := Lib.hid (heap_below HX.out (ext_trans HB3.out hb))
  have HYn := Lib.hid (heap_below HY.out (ext_trans HB3.out hb))
  have HZ := Lib.hid hz
  have HBW := Lib.hid (ext_trans HBW3.out hb)
  clear HX HY HO3 HB3 HBW3 hW hb hz hZ HB
  have HX := HXn
  have HY := HYn
  clear HXn HYn
  have p0 := cell_of_block (heap_below HX.out (Below.refl _ _)) 0
  have p1 := cell_of_block (heap_below HX.out (Below.refl _ _)) 1
  have p2 := cell_of_block (heap_below HX.out (Below.refl _ _)) 2
  have p3 := cell_of_block (heap_below HX.out (Below.refl _ _)) 3
  have p4 := cell_of_block (heap_below HX.out (Below.refl _ _)) 4
  have p5 := cell_of_block (heap_below HX.out (Below.refl _ _)) 5
  go_wp2_with fail
  refine (HF1.out WB HBW.out).mono ?_
  rintro e W4 ⟨xa, xn, xc, ya, yn, yc, rfl, hx1, hy1, hb⟩
  have HB4 := Lib.hid hb
  have HX1 := Lib.hid hx1
  have HY1 := Lib.hid hy1
  clear p0 p1 p2 p3 p4 p5 hb hx1 hy1
  have p0 := cell_of_block (heap_below HX.out HB4.out) 0
  have p1 := cell_of_block (heap_below HX.out HB4.out) 1
  have p2 := cell_of_block (heap_below HX.out HB4.out) 2
  have p3 := cell_of_block (heap_below HX.out HB4.out) 3
  have p4 := cell_of_block (heap_below HX.out HB4.out) 4
  have p5 := cell_of_block (heap_below HX.out HB4.out) 5
  go_wp2_with fail
  refine (HF2.out W4 (ext_trans HBW.out HB4.out)).mono ?_
  rintro e W5 ⟨ua, un, uc, va, vn2, vc, rfl, hx2, hy2, hb⟩
  have HB5 := Lib.hid (ext_trans HB4.out hb)
  have HX2 := Lib.hid hx2
  have HY2 := Lib.hid hy2
  have HX1b := Lib.hid (HX1.out.below hb)
  have HY1b := Lib.hid (HY1.out.below hb)
  clear p0 p1 p2 p3 p4 p5 hb hx2 hy2 HX1 HY1 HB4
  go_wp2_with fail
  refine (HBY.out L1 xa xn xc ua un uc W5 HX1b.out HX2.out).mono ?_
  rintro e W6 ⟨rfl, hw⟩
  obtain rfl := hw.symm
  go_wp2_with fail
  refine (HBY.out L2 ya yn yc va vn2 vc W5 HY1b.out HY2.out).mono ?_
  rintro e W6 ⟨rfl, hw⟩
  obtain rfl := hw.symm
  go_wp2_with fail
  refine (HV1.out W5 (ext_trans HBW.out HB5.out)).mono ?_
  rintro e W6 ⟨rfl, hb⟩
  have HB6 := Lib.hid (ext_trans HB5.out hb)
  clear hb HB5 HX1b HY1b HX2 HY2
  go_wp2_with fail
  refine (HV2.out W6 (ext_trans HBW.out HB6.out)).mono ?_
  rintro e W7 ⟨rfl, hw⟩
  obtain rfl := hw.symm
  have p0 := cell_of_block (heap_below HX.out HB6.out) 0
  have p1 := cell_of_block (heap_below HX.out HB6.out) 1
  have p2 := cell_of_block (heap_below HX.out HB6.out) 2
  have p3 := cell_of_block (heap_below HX.out HB6.out) 3
  have p4 := cell_of_block (heap_below HX.out HB6.out) 4
  have p5 := cell_of_block (heap_below HX.out HB6.out) 5
  have z0 := cell_of_block (heap_below HZ.out HB6.out) 0
  have z1 := cell_of_block (heap_below HZ.out HB6.out) 1
  have z2 := cell_of_block (heap_below HZ.out HB6.out) 2
  go_wp2_with fail
  refine (HR1.out ⟨b1, m1, d1, b2, m2, d2, ss'⟩ W6 (ext_trans HBW.out HB6.out) (HT.out.below HB6.out) HS'.out).mono ?_
  rintro e W8 ⟨la, ln, lc, ls, rfl, hl1, hl2, hl3, hl4, hb⟩
  have HB8 := Lib.hid (ext_trans HB6.out hb)
  have HL1 := Lib.hid hl1
  have HL2 := Lib.hid hl2
  have HL3 := Lib.hid hl3
  have HL4 := Lib.hid hl4
  have HBS := Lib.hid HB6.out.size
  clear p0 p1 p2 p3 p4 p5 z0 z1 z2 hb hl1 hl2 hl3 hl4 HB6
  have p0 := cell_of_block (heap_below HX.out HB8.out) 0
  have p1 := cell_of_block (heap_below HX.out HB8.out) 1
  have p2 := cell_of_block (heap_below HX.out HB8.out) 2
  have p3 := cell_of_block (heap_below HX.out HB8.out) 3
  have p4 := cell_of_block (heap_below HX.out HB8.out) 4
  have p5 := cell_of_block (heap_below HX.out HB8.out) 5
  have r0 := cell_of_block (heap_below HY.out HB8.out) 0
  have r1 := cell_of_block (heap_below HY.out HB8.out) 1
  have r2 := cell_of_block (heap_below HY.out HB8.out) 2
  go_wp2_with fail
  refine (HR2.out W8 (ext_trans HBW.out HB8.out)).mono ?_
  rintro e W9 ⟨ka, kn, kc, ks, rfl, hk1, hk2, hk3, hk4, hb⟩
  have HB9 := Lib.hid (ext_trans HB8.out hb)
  have HL3b := Lib.hid (ownsN_below HL3.out hb)
  have HL4b := Lib.hid (fun j hj => (HL4.out j hj).below hb)
  have HSF1 := Lib.hid (RunU.seesF HL1.out HL2.out HL3b.out HL4b.out)
  have HSF2 := Lib.hid (RunU.seesF hk1 hk2 hk3 hk4)
  have hln : ln ≤ 256 := by have h1 := HL1.out; have h2 := HFLN.out; omega
  have HLN := Lib.hid hln
  clear p0 p1 p2 p3 p4 p5 r0 r1 r2 hb hk1 hk2 hk3 hk4 HB8 HL3 HL4 HL1 HL2 hln
  have r0 := cell_of_block (heap_below HY.out HB9.out) 0
  have r1 := cell_of_block (heap_below HY.out HB9.out) 1
  have r2 := cell_of_block (heap_below HY.out HB9.out) 2
  have z0 := cell_of_block (heap_below HZ.out HB9.out) 0
  have z1 := cell_of_block (heap_below HZ.out HB9.out) 1
  have z2 := cell_of_block (heap_below HZ.out HB9.out) 2
  go_upto_region 10 with fail
  have HS0 := Lib.hid (And.intro z0 (And.intro z1 (And.intro z2 (And.intro r0 (And.intro r1 r2)))))
  clear r0 r1 r2 z0 z1 z2
  refine wp_region_noPanic ?_
  refine wp_region_held (S := fun w' => w'.cell? ⟨Z, 0, none⟩ = some (.int .i64 t.bad) ∧ w'.cell? ⟨Z, 1, none⟩ = some (.slice b1 m1 d1) ∧ w'.cell? ⟨Z, 2, none⟩ = some (.slice b2 m2 d2) ∧ w'.cell? ⟨w.heap.size + 1, 0, none⟩ = some (.int .i64 t.bad) ∧ w'.cell? ⟨w.heap.size + 1, 1, none⟩ = some (.slice st.a1 st.n1 st.c1) ∧ w'.cell? ⟨w.heap.size + 1, 2, none⟩ = some (.slice st.a2 st.n2 st.c2)) (by kernel_rfl) ?_
  generalize hY : ({ W9 with drawn := W9.drawn + 1 } : World) = Y0
  have hY0 : Below W9.heap.size W9 Y0 := by subst hY; exact (Below.refl _ _).drew
  have HSD := Lib.hid (keep6z HS0.out hY0)
  have HYD := Lib.hid hY0
  clear hY0 hY HS0
  refine wpAnyH_take (i := 0) (v := ?_) (by simp only [List.getElem?_toArray, List.getElem?_cons_zero]; rfl) (by kernel_rfl) (by kernel_rfl) (by kernel_rfl) (fun _ _ _ h => h) (Or.inl ⟨by rfl, ?_⟩) HSD.out ?_
  rotate_left
  · intro w hSw
    (try dsimp only at hSw)
    obtain ⟨q0_, q1_, q2_, q3_, q4_, q5_⟩ := hSw
    go_simp
    try with_reducible rfl
  try simp only [Act.put, List.setIfInBounds_toArray, List.set_cons_zero, List.set_cons_succ]
  refine wpAnyH_take (i := 1) (v := ?_) (by simp only [List.getElem?_toArray, List.getElem?_cons_zero, List.getElem?_cons_succ]; rfl) (by kernel_rfl) (by kernel_rfl) (by kernel_rfl) (fun _ _ _ h => h) (Or.inl ⟨by rfl, ?_⟩) HSD.out ?_
  rotate_left
  · intro w hSw
    (try dsimp only at hSw)
    obtain ⟨q0_, q1_, q2_, q3_, q4_, q5_⟩ := hSw
    go_simp
    try with_reducible rfl
  try simp only [Act.put, List.setIfInBounds_toArray, List.set_cons_zero, List.set_cons_succ]
  refine wpAnyH_ready (rs := [2]) (by kernel_rfl) (by simp) ?_
  refine AllReadyH.cons (by simp only [List.getElem?_toArray, List.getElem?_cons_zero, List.getElem?_cons_succ]; rfl) (fun K hK => ?_) AllReadyH.nil
  go_simp
  refine (HTB.out ls ks _ _ _ _ _ _ _ (HSF1.out.below HYD.out) (HSF2.out.below HYD.out)).mono ?_
  rintro e s1 ⟨rfl, b1_⟩
  have HD1 := Lib.hid (ext_trans HYD.out b1_)
  have HS1 := Lib.hid (keep6z HSD.out b1_)
  clear b1_
  refine hK.out _ _ HS1.out (fun _ => ?_)
  clear hK K
  try simp only [Act.put, List.setIfInBounds_toArray, List.set_cons_zero, List.set_cons_succ]
  refine wpAnyH_take (i := 3) (v := ?_) (by simp only [List.getElem?_toArray, List.getElem?_cons_zero, List.getElem?_cons_succ]; rfl) (by kernel_rfl) (by kernel_rfl) (by kernel_rfl) (fun _ _ _ h => h) (Or.inl ⟨by rfl, ?_⟩) HS1.out ?_
  rotate_left
  · intro w hSw
    (try dsimp only at hSw)
    obtain ⟨q0_, q1_, q2_, q3_, q4_, q5_⟩ := hSw
    go_simp
    try with_reducible rfl
  try simp only [Act.put, List.setIfInBounds_toArray, List.set_cons_zero, List.set_cons_succ]
  refine wpAnyH_take (i := 4) (v := ?_) (by simp only [List.getElem?_toArray, List.getElem?_cons_zero, List.getElem?_cons_succ]; rfl) (by kernel_rfl) (by kernel_rfl) (by kernel_rfl) (fun _ _ _ h => h) (Or.inl ⟨by rfl, ?_⟩) HS1.out ?_
  rotate_left
  · intro w hSw
    (try dsimp only at hSw)
    obtain ⟨q0_, q1_, q2_, q3_, q4_, q5_⟩ := hSw
    go_simp
    try with_reducible rfl
  try simp only [Act.put, List.setIfInBounds_toArray, List.set_cons_zero, List.set_cons_succ]
  refine wpAnyH_take (i := 5) (v := ?_) (by simp only [List.getElem?_toArray, List.getElem?_cons_zero, List.getElem?_cons_succ]; rfl) (by kernel_rfl) (by kernel_rfl) (by kernel_rfl) (fun _ _ _ h => h) (Or.inl ⟨by rfl, ?_⟩) HS1.out ?_
  rotate_left
  · intro w hSw
    (try dsimp only at hSw)
    obtain ⟨q0_, q1_, q2_, q3_, q4_, q5_⟩ := hSw
    go_simp
    try with_reducible rfl
  try simp only [Act.put, List.setIfInBounds_toArray, List.set_cons_zero, List.set_cons_succ]
  refine wpAnyH_take (i := 6) (v := ?_) (by simp only [List.getElem?_toArray, List.getElem?_cons_zero, List.getElem?_cons_succ]; rfl) (by kernel_rfl) (by kernel_rfl) (by kernel_rfl) (fun _ _ _ h => h) (Or.inl ⟨by rfl, ?_⟩) HS1.out ?_
  rotate_left
  · intro w hSw
    (try dsimp only at hSw)
    obtain ⟨q0_, q1_, q2_, q3_, q4_, q5_⟩ := hSw
    go_simp
    try with_reducible rfl
  try simp only [Act.put, List.setIfInBounds_toArray, List.set_cons_zero, List.set_cons_succ]
  refine wpAnyH_take (i := 7) (v := ?_) (by simp only [List.getElem?_toArray, List.getElem?_cons_zero, List.getElem?_cons_succ]; rfl) (by kernel_rfl) (by kernel_rfl) (by kernel_rfl) (fun _ _ _ h => h) (Or.inl ⟨by rfl, ?_⟩) HS1.out ?_
  rotate_left
  · intro w hSw
    (try dsimp only at hSw)
    obtain ⟨q0_, q1_, q2_, q3_, q4_, q5_⟩ := hSw
    go_simp
    try with_reducible rfl
  try simp only [Act.put, List.setIfInBounds_toArray, List.set_cons_zero, List.set_cons_succ]
  refine wpAnyH_take (i := 8) (v := ?_) (by simp only [List.getElem?_toArray, List.getElem?_cons_zero, List.getElem?_cons_succ]; rfl) (by kernel_rfl) (by kernel_rfl) (by kernel_rfl) (fun _ _ _ h => h) (Or.inl ⟨by rfl, ?_⟩) HS1.out ?_
  rotate_left
  · intro w hSw
    (try dsimp only at hSw)
    obtain ⟨q0_, q1_, q2_, q3_, q4_, q5_⟩ := hSw
    go_simp
    try with_reducible rfl
  try simp only [Act.put, List.setIfInBounds_toArray, List.set_cons_zero, List.set_cons_succ]
  refine wpAnyH_take (i := 9) (v := ?_) (by simp only [List.getElem?_toArray, List.getElem?_cons_zero, List.getElem?_cons_succ]; rfl) (by kernel_rfl) (by kernel_rfl) (by kernel_rfl) (fun _ _ _ h => h) (Or.inl ⟨by rfl, ?_⟩) HS1.out ?_
  rotate_left
  · intro w hSw
    (try dsimp only at hSw)
    obtain ⟨q0_, q1_, q2_, q3_, q4_, q5_⟩ := hSw
    go_simp
    try with_reducible rfl
  try simp only [Act.put, List.setIfInBounds_toArray, List.set_cons_zero, List.set_cons_succ]
  refine wpAnyH_take (i := 10) (v := ?_) (by simp only [List.getElem?_toArray, List.getElem?_cons_zero, List.getElem?_cons_succ]; rfl) (by kernel_rfl) (by kernel_rfl) (by kernel_rfl) (fun _ _ _ h => h) (Or.inl ⟨by rfl, ?_⟩) HS1.out ?_
  rotate_left
  · intro w hSw
    (try dsimp only at hSw)
    obtain ⟨q0_, q1_, q2_, q3_, q4_, q5_⟩ := hSw
    go_simp
    try with_reducible rfl
  try simp only [Act.put, List.setIfInBounds_toArray, List.set_cons_zero, List.set_cons_succ]
  refine wpAnyH_take (i := 12) (v := ?_) (by simp only [List.getElem?_toArray, List.getElem?_cons_zero, List.getElem?_cons_succ]; rfl) (by kernel_rfl) (by kernel_rfl) (by kernel_rfl) (fun _ _ _ h => h) (Or.inl ⟨by rfl, ?_⟩) HS1.out ?_
  rotate_left
  · intro w hSw
    (try dsimp only at hSw)
    obtain ⟨q0_, q1_, q2_, q3_, q4_, q5_⟩ := hSw
    go_simp
    try with_reducible rfl
  try simp only [Act.put, List.setIfInBounds_toArray, List.set_cons_zero, List.set_cons_succ]
  refine wpAnyH_ready (rs := [11]) (by kernel_rfl) (by simp) ?_
  refine AllReadyH.cons (by simp only [List.getElem?_toArray, List.getElem?_cons_zero, List.getElem?_cons_succ]; rfl) (fun K hK => ?_) AllReadyH.nil
  go_simp
  refine (HRD1.out ⟨b1, m1, d1, b2, m2, d2, ss'⟩ _ (HT.out.below (ext_trans HB9.out HD1.out)) HS'.out).mono ?_
  rintro e s2 ⟨sx, rfl, ox, hsx, b2_⟩
  have HD2 := Lib.hid (ext_trans HD1.out b2_)
  have HS2 := Lib.hid (keep6z HS1.out b2_)
  have HOX := Lib.hid ox
  have HSX := Lib.hid hsx
  clear b2_ ox hsx
  refine hK.out _ _ HS2.out (fun _ => ?_)
  clear hK K
  try simp only [Act.put, List.setIfInBounds_toArray, List.set_cons_zero, List.set_cons_succ]
  refine wpAnyH_ready (rs := [13]) (by kernel_rfl) (by simp) ?_
  refine AllReadyH.cons (by simp only [List.getElem?_toArray, List.getElem?_cons_zero, List.getElem?_cons_succ]; rfl) (fun K hK => ?_) AllReadyH.nil
  go_simp
  refine (HRD2.out _ (ext_trans HBW.out (ext_trans HB9.out HD2.out))).mono ?_
  rintro e s3 ⟨sy, rfl, oy, hsy, b3_⟩
  have HD3 := Lib.hid (ext_trans HD2.out b3_)
  have HS3 := Lib.hid (keep6z HS2.out b3_)
  have HOX3 := Lib.hid (HOX.out.below b3_)
  have HOY := Lib.hid oy
  clear b3_ oy hsy
  refine hK.out _ _ HS3.out (fun _ => ?_)
  clear hK K
  try simp only [Act.put, List.setIfInBounds_toArray, List.set_cons_zero, List.set_cons_succ]
  refine wpAnyH_ready (rs := [14]) (by kernel_rfl) (by simp) ?_
  refine AllReadyH.cons (by simp only [List.getElem?_toArray, List.getElem?_cons_zero, List.getElem?_cons_succ]; rfl) (fun K hK => ?_) AllReadyH.nil
  go_simp
  refine (HSR.out sx sy _ HOX3.out.sees HOY.out HSX.out).mono ?_
  rintro e s4 ⟨rfl, b4_⟩
  have HD4 := Lib.hid (ext_trans HD3.out b4_)
  have HS4 := Lib.hid (keep6z HS3.out b4_)
  clear b4_
  refine hK.out _ _ HS4.out (fun _ => ?_)
  clear hK K
  try simp only [Act.put, List.setIfInBounds_toArray, List.set_cons_zero, List.set_cons_succ]
  refine wpAnyH_take (i := 15) (v := ?_) (by simp only [List.getElem?_toArray, List.getElem?_cons_zero, List.getElem?_cons_succ]; rfl) (by kernel_rfl) (by kernel_rfl) (by kernel_rfl) (fun _ _ _ h => h) (Or.inl ⟨by rfl, ?_⟩) HS4.out ?_
  rotate_left
  · intro w hSw
    (try dsimp only at hSw)
    obtain ⟨q0_, q1_, q2_, q3_, q4_, q5_⟩ := hSw
    go_simp
    try with_reducible rfl
  try simp only [Act.put, List.setIfInBounds_toArray, List.set_cons_zero, List.set_cons_succ]
  refine wpAnyH_take (i := 16) (v := ?_) (by simp only [List.getElem?_toArray, List.getElem?_cons_zero, List.getElem?_cons_succ]; rfl) (by kernel_rfl) (by kernel_rfl) (by kernel_rfl) (fun _ _ _ h => h) (Or.inl ⟨by rfl, ?_⟩) HS4.out ?_
  rotate_left
  · intro w hSw
    (try dsimp only at hSw)
    obtain ⟨q0_, q1_, q2_, q3_, q4_, q5_⟩ := hSw
    go_simp
    try with_reducible rfl
  try simp only [Act.put, List.setIfInBounds_toArray, List.set_cons_zero, List.set_cons_succ]
  refine wpAnyH_done (by kernel_rfl) ?_ _
  refine NoPanic.normal ?_
  have HB10 := Lib.hid (ext_trans HB9.out HD4.out)
  have HBI : Hid (BuInv W6.heap.size WB la ln lc ls s4) := ⟨ownsN_below HL3b.out HD4.out, fun j hj => ⟨_, _, (HL4b.out j hj).below HD4.out⟩, HB10.out⟩
  clear HSD HS1 HS2 HS3 HS4 HD1 HD2 HD3 HD4 HOX HOX3 HOY HSX HSF1 HSF2 HL3b HL4b HYD
  go_wp2
  go_loopw [104, 20] (fun i _ wr => ∃ k : Nat, k ≤ ln ∧ i = .int .i64 k ∧ Hid (BuInv W6.heap.size WB la ln lc ls wr)) (fun i _ _ => ln - (intOf i).toNat)
  case atStart => exact ⟨0, Nat.zero_le _, rfl, HBI.out⟩
  case round =>
    obtain ⟨k, hk, rfl, hI⟩ := hrel
    by_cases hlt : k < ln
    · obtain ⟨lb, lo, rfl, _⟩ := (owns_sees_slice hI.out.list).2.addr (show 0 < ln by omega)
      have hcx := (owns_sees_slice hI.out.list).2.slice_at' k hlt
      obtain ⟨m, ys, hr⟩ := hI.out.rows k hlt
      obtain ⟨x, hx⟩ : ∃ x : Slc, x = ls.getD k slc0 := ⟨_, rfl⟩
      rw [← hx] at hcx hr
      obtain ⟨xa, xn, xc⟩ := x
      simp only [slV] at hcx hr
      have HBU := Lib.hid (burn_any ys _ m W6.heap.size wr hr)
      have hI1 : ((k : Nat) : Int) < (ln : Int) := by omega
      have hI0 : (0 : Int) ≤ (k : Int) := by omega
      have W1' : IntKind.i64.wrap ((k : Int) + 1) = (k : Int) + 1 := IntWalk.i64_in _ (by have := HLN.out; omega)
      clear hx hr
      go_wp2_with fail
      refine HBU.out.mono ?_
      rintro e wn ⟨rfl, hbu⟩
      have HI2 := Lib.hid (hI.out.step hbu HBS.out)
      clear hcx hbu hI HBU
      go_wp2
      go_roundw
      case rel => exact ⟨k + 1, by omega, by go_num, HI2.out⟩
      case measure => simp [intOf]; omega
    · obtain rfl : k = ln := by omega
      have HB11 := Lib.hid hI.out.low
      clear hI hlt HBI
      have p0 := cell_of_block (heap_below HX.out HB11.out) 0
      have p1 := cell_of_block (heap_below HX.out HB11.out) 1
      have p2 := cell_of_block (heap_below HX.out HB11.out) 2
      have p3 := cell_of_block (heap_below HX.out HB11.out) 3
      have p4 := cell_of_block (heap_below HX.out HB11.out) 4
      have p5 := cell_of_block (heap_below HX.out HB11.out) 5
      have z0 := cell_of_block (heap_below HZ.out HB11.out) 0
      have z1 := cell_of_block (heap_below HZ.out HB11.out) 1
      have z2 := cell_of_block (heap_below HZ.out HB11.out) 2
      go_wp2_with fail
      refine (HFA1.out ⟨b1, m1, d1, b2, m2, d2, ss'⟩ wr (ext_trans HBW.out HB11.out) (HT.out.below HB11.out) HS'.out).mono ?_
      rintro e W12 ⟨rfl, hb⟩
      have HB12 := Lib.hid (ext_trans HB11.out hb)
      clear p0 p1 p2 p3 p4 p5 z0 z1 z2 hb
      have p0 := cell_of_block (heap_below HX.out HB12.out) 0
      have p1 := cell_of_block (heap_below HX.out HB12.out) 1
      have p2 := cell_of_block (heap_below HX.out HB12.out) 2
      have p3 := cell_of_block (heap_below HX.out HB12.out) 3
      have p4 := cell_of_block (heap_below HX.out HB12.out) 4
      have p5 := cell_of_block (heap_below HX.out HB12.out) 5
      have r0 := cell_of_block (heap_below HY.out HB12.out) 0
      have r1 := cell_of_block (heap_below HY.out HB12.out) 1
      have r2 := cell_of_block (heap_below HY.out HB12.out) 2
      go_wp2_with fail
      refine (HFA2.out W12 (ext_trans HBW.out HB12.out)).mono ?_
      rintro e W13 ⟨rfl, hb⟩
      have HB13 := Lib.hid (ext_trans HB12.out hb)
      clear p0 p1 p2 p3 p4 p5 r0 r1 r2 hb
      have p0 := cell_of_block (heap_below HX.out HB13.out) 0
      have p1 := cell_of_block (heap_below HX.out HB13.out) 1
      have p2 := cell_of_block (heap_below HX.out HB13.out) 2
      have p3 := cell_of_block (heap_below HX.out HB13.out) 3
      have p4 := cell_of_block (heap_below HX.out HB13.out) 4
      have p5 := cell_of_block (heap_below HX.out HB13.out) 5
      have z0 := cell_of_block (heap_below HZ.out HB13.out) 0
      have z1 := cell_of_block (heap_below HZ.out HB13.out) 1
      have z2 := cell_of_block (heap_below HZ.out HB13.out) 2
      go_wp2_with fail
      refine (HSU1.out ⟨b1, m1, d1, b2, m2, d2, ss'⟩ W13 (ext_trans HBW.out HB13.out) (HT.out.below HB13.out) HS'.out).mono ?_
      rintro e W14 ⟨rfl, hb⟩
      have HB14 := Lib.hid (ext_trans HB13.out hb)
      clear p0 p1 p2 p3 p4 p5 z0 z1 z2 hb
      have p0 := cell_of_block (heap_below HX.out HB14.out) 0
      have p1 := cell_of_block (heap_below HX.out HB14.out) 1
      have p2 := cell_of_block (heap_below HX.out HB14.out) 2
      have p3 := cell_of_block (heap_below HX.out HB14.out) 3
      have p4 := cell_of_block (heap_below HX.out HB14.out) 4
      have p5 := cell_of_block (heap_below HX.out HB14.out) 5
      have r0 := cell_of_block (heap_below HY.out HB14.out) 0
      have r1 := cell_of_block (heap_below HY.out HB14.out) 1
      have r2 := cell_of_block (heap_below HY.out HB14.out) 2
      go_wp2_with fail
      refine (HSU2.out W14 (ext_trans HBW.out HB14.out)).mono ?_
      rintro e W15 ⟨rfl, hb⟩
      have HB15 := Lib.hid (ext_trans HB14.out hb)
      clear p0 p1 p2 p3 p4 p5 r0 r1 r2 hb
      have r0 := cell_of_block (heap_below HY.out HB15.out) 0
      have r1 := cell_of_block (heap_below HY.out HB15.out) 1
      have r2 := cell_of_block (heap_below HY.out HB15.out) 2
      have z0 := cell_of_block (heap_below HZ.out HB15.out) 0
      have z1 := cell_of_block (heap_below HZ.out HB15.out) 1
      have z2 := cell_of_block (heap_below HZ.out HB15.out) 2
      go_wp2_with fail
      refine (HST.out ⟨b1, m1, d1, b2, m2, d2, ss'⟩ W15 (ext_trans HBW.out HB15.out) (HT.out.below HB15.out) HS'.out).mono ?_
      rintro e W16 ⟨rfl, hb⟩
      have HB16 := Lib.hid (ext_trans HB15.out hb)
      clear r0 r1 r2 z0 z1 z2 hb
      go_wp2_with fail
      refine (HLV.out _).mono ?_
      rintro e W17 ⟨rfl, hb⟩
      have HB17 := Lib.hid (ext_trans HBW.out (ext_trans HB16.out hb))
      clear hb
      go_wp2
      go_ret
      exact ⟨rfl, HB17.out⟩
end Go.Proofs.Ytjmdgbdlhaaefaa
namespace Go.Proofs.Ytjmdgbdlhaaefaa.simTells
open Go Go.ChangeShapes Go.WideShapes Go.ChangeAt Go.RowKit

set_option maxRecDepth 100000 in
set_option maxHeartbeats 1600000 in
theorem contract (H : Type) (enc : TypeId × Value → H) (W : World) (base : Nat) (args : Array Value) (ds gs : List (DataW H)) (before : List MemPlace)
    (hval : ∀ (j : Nat) t v, Try.f3.params[j]? = some t → args[j]? = some v → Value.okWide Try.prog W .any base t v)
    (hW : DataW.Whole enc Try.prog Try.f3.params.toList Rows.simTellsSpec.vars false W args.toList ds gs before)
    (hk : Rows.uptoSmall H (ds ++ gs) = true) :
    Calls Try.prog 3 args W fun e W' => ∃ v, e = .returned v ∧ Rows.simTellsSpec.post enc Try.prog Try.f3 false true false false W args v W' := by
  have hW' := hW
  obtain ⟨p, q, hA0, hV, rfl, hfz, hnd⟩ := hW
  have hA : DataW.TrodAll enc Try.prog W 0 (fun _ => true) true Try.f3.params.toList args.toList ds p := hA0
  rw [Try.params3] at hA hval
  obtain ⟨v0, vs0, d0, ds0, p0, q0, hargs, rfl, rfl, h0, r0⟩ := trodAll_cons hA
  obtain ⟨v1, vs1, d1, ds1, p1, q1, rfl, rfl, rfl, h1, r1⟩ := trodAll_cons r0
  obtain ⟨v2, vs2, d2, ds2, p2, q2, rfl, rfl, rfl, h2, r2⟩ := trodAll_cons r1
  obtain ⟨v3, vs3, d3, ds3, p3, q3, rfl, rfl, rfl, h3, r3⟩ := trodAll_cons r2
  obtain ⟨v4, vs4, d4, ds4, p4, q4, rfl, rfl, rfl, h4, r4⟩ := trodAll_cons r3
  obtain ⟨rfl, rfl, rfl⟩ := trodAll_nil r4
  obtain rfl : args = #[v0, v1, v2, v3, v4] := by cases args; simp_all
  obtain ⟨rfl, rfl⟩ := trodVars_none hV
  have hb := bulk_bound hk
  have hb0 := bulk_part (d := d0) (l := [d0, d1, d2, d3, d4] ++ []) (by simp)
  obtain ⟨c0, s0, rfl, hs0, lo0, hi0, m01, m02, m03, m04, m05, w01, w02, w03, w04, w05⟩ := open_cir (hval 0 26 _ rfl rfl) h0
  have sm0 : s0.small := ⟨by omega, by omega, by omega, by omega, by omega⟩
  have wd0 : Wide c0 := ⟨w01, w02, w03, w04, w05⟩
  have hb1 := bulk_part (d := d1) (l := [d0, d1, d2, d3, d4] ++ []) (by simp)
  obtain ⟨t1, s1, rfl, hs1, lo1, hi1, m11, m12, m13⟩ := open_trace (hval 1 30 _ rfl rfl) h1
  have sm1 : s1.small := ⟨by omega, by omega, fun x hx => by have := m13 x hx; omega⟩
  have hb2 := bulk_part (d := d2) (l := [d0, d1, d2, d3, d4] ++ []) (by simp)
  obtain ⟨a2, n2, c2, bs2, rfl, hs2, m2⟩ := open_u8s (hval 2 27 _ rfl rfl) h2
  have hb3 := bulk_part (d := d3) (l := [d0, d1, d2, d3, d4] ++ []) (by simp)
  obtain ⟨a3, n3, c3, bs3, rfl, hs3, m3⟩ := open_u8s (hval 3 27 _ rfl rfl) h3
  have hb4 := bulk_part (d := d4) (l := [d0, d1, d2, d3, d4] ++ []) (by simp)
  obtain ⟨z4, rfl, rfl, rfl, wz4⟩ := open_int Try.underlying31 (hval 4 31 v4 rfl rfl) h4
  have hz4 := bounds_u32 wz4
  obtain ⟨u4, rfl⟩ := Int.eq_ofNat_of_zero_le hz4.1
  clear hA0 hA
  refine (tells7_any c0 t1 bs2 bs3 u4 s0 s1 a2 n2 c2 a3 n3 c3 W hs0 hs1 hs2 hs3 sm0 sm1 (by omega) (by omega) (by omega) lo0 hi0 ⟨lo1, hi1⟩ wd0).mono fun e W' ⟨he, hbel⟩ => ?_
  subst he
  exact ⟨_, rfl, law_end laidOut (by decide +kernel) rfl rfl Try.underlying4 hW' rfl rfl rfl hbel⟩

set_option maxRecDepth 100000 in
theorem lifted (os : Os) (started : os.Started) (H : Type) (enc : TypeId × Value → H) (F : Stop.Interp) :
    ReturnsInHanded {} Try.checked os 3 .any ((Rows.OpenSpec.upto Rows.simTellsSpec).pre6 enc Try.prog Try.f3 Rows.simTellsUptoRow.domain false) (((Rows.OpenSpec.upto Rows.simTellsSpec).at F).post enc Try.prog Try.f3 false true false false) := by
  refine returnsInHanded_of_cond (C := Try.checked) (s := Rows.OpenSpec.upto Rows.simTellsSpec) (k := Rows.uptoSmall) rfl own started (by kernel_rfl) Try.func3
    (OpenSpec.witness (enc := enc) (C := Try.checked) (s := Rows.OpenSpec.upto Rows.simTellsSpec) (k := Rows.uptoSmall) rfl false ⟨#[], #[.agg #[.int .i64 0, .slice none 0 0, .slice none 0 0, .slice none 0 0, .slice none 0 0, .slice none 0 0], .agg #[.int .i64 0, .slice none 0 0, .slice none 0 0], .slice none 0 0, .slice none 0 0, .int .u32 0], []⟩ 8 (by kernel_rfl) (by kernel_rfl) (by kernel_rfl)
      (x := ([.agg [.lit (.int .i64 0), .nil, .nil, .nil, .nil, .nil], .agg [.lit (.int .i64 0), .nil, .nil], .nil, .nil, .lit (.int .u32 0)], [], [])) (by kernel_rfl) rfl (by kernel_rfl)) ?_
  intro W base args ds gs before hval hW _ hk _
  exact contract H enc W base args ds gs before hval hW hk

theorem proved : Rows.SimTellsUptoSaid :=
  OpenClaim.holds_of_cond 3 Try.f3 rfl rfl rfl rfl rfl rfl rfl ⟨rfl, rfl, rfl, rfl, rfl⟩ rfl rfl rfl rfl rfl (by kernel_rfl) Try.func3 (by kernel_rfl)
    (of_decide_eq_true (by kernel_rfl)) (by unfold Func.isWrapper; first | (rw [if_pos (by decide +kernel)]; kernel_rfl) | (rw [if_neg (by decide +kernel)]; exact ⟨rfl, rfl⟩))
    (fun os started H enc _ F => lifted os started H enc F)
end Go.Proofs.Ytjmdgbdlhaaefaa.simTells
