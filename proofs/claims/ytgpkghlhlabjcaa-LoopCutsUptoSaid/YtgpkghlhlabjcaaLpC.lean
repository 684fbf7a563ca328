/- inquestref08.Cut, by its contract. -/
import Derived.Test.YtgpkghlhlabjcaaLib
import Derived.Test.YtgpkghlhlabjcaaNSpec
import Derived.Test.YtgpkghlhlabjcaaNVal
import Derived.Test.YtgpkghlhlabjcaaNTrace
import Derived.Test.YtgpkghlhlabjcaaNCirc
import Derived.Test.YtgpkghlhlabjcaaNHeap
import Derived.Test.YtgpkghlhlabjcaaSRun
import Derived.Test.YtgpkghlhlabjcaaSVerd
import Derived.Test.YtgpkghlhlabjcaaSSurely
import Derived.Test.YtgpkghlhlabjcaaLpE
import Derived.Test.YtgpkghlhlabjcaaRows
import Derived.Test.YtgpkghlhlabjcaaShelf
import Derived.BigQuiet
import Derived.Deep.AppendLies
import Derived.Deep.CutRange
import Derived.Deep.QuietTactic
import Derived.Deep.RegionHeld3
import Derived.Deep.RegionLaw
import Derived.Deep.RegionWith
import Derived.KernelRfl
import Derived.Laws.Bits64b
import Derived.Laws.BitsAllLaws
import Derived.Laws.BitsLemmas
import Derived.Laws.EntriesVeiled
import Derived.Laws.Tables
import Derived.Lib.AppendStr
import Derived.Lib.AppendZeros
import Derived.Lib.ConvBytes
import Derived.Lib.Hide
import Derived.Lib.SlBytesRow
import Derived.Lib.SmallJoins
import Derived.LoopIn
import Derived.LoopNIn
import Derived.Maps.AppendAt
import Derived.OrdersHeld
import Derived.OrdersIn
import Derived.OwnWalkIn
import Derived.RangeFuncBox
import Derived.RangeFuncCalls
import Derived.RangeFuncLeaves
import Derived.RangeFuncNested
import Derived.RangeFuncWrites
import Derived.Shelf.Abstract
import Derived.Shelf.Bytes.SlSmallAll
import Derived.Shelf.RegionOpen
import Derived.Sort.CutIn
import Derived.Stop.RegionWithIn
import Derived.TacticsInMore
import Derived.WalkKit
import Derived.WalkLawsBesides
import Derived.WalkSpells
import Derived.Test.YtgpkghlhlabjcaaNStep
import Derived.Test.YtgpkghlhlabjcaaNHeap2
import Derived.Test.YtgpkghlhlabjcaaSRead
import Derived.Test.YtgpkghlhlabjcaaRawPred
import Derived.Test.YtgpkghlhlabjcaaTBits
import Derived.Test.YtgpkghlhlabjcaaSSpec
import Derived.Test.YtgpkghlhlabjcaaNBase
import Derived.Test.YtgpkghlhlabjcaaNOwns
import Derived.Test.YtgpkghlhlabjcaaNWide
import Derived.BigRegion
import Derived.Test.YtgpkghlhlabjcaaLpF
import Derived.Test.YtgpkghlhlabjcaaLpB
import Derived.Test.YtgpkghlhlabjcaaNOwnsN
import Derived.Test.YtgpkghlhlabjcaaNClone2
import Derived.Test.YtgpkghlhlabjcaaNCopyTr
import Derived.Test.YtgpkghlhlabjcaaSRefCopy
import Derived.Test.YtgpkghlhlabjcaaNOwnLL
import Derived.Test.YtgpkghlhlabjcaaLpA
import Derived.Test.YtgpkghlhlabjcaaLpLat
import Derived.Maps.Own
import Derived.Maps.OwnOps
import Derived.Maps.OwnSet
import Derived.Test.YtgpkghlhlabjcaaLpBB
import Derived.Test.YtgpkghlhlabjcaaOwn
import Derived.Test.YtgpkghlhlabjcaaOwnStr
import Derived.Test.YtgpkghlhlabjcaaNPeel
/- What a run answers: rows of one length that a slice of slices reads as. -/
namespace Go.Proofs.Ytgpkghlhlabjcaa
open Go Go.RowKit Go.Joins
theorem keep9 {w w' : World} {a0 a1 a2 a3 a4 a5 a6 a7 a8 : Addr} {v0 v1 v2 v3 v4 v5 v6 v7 v8 : Value} (h : w.cell? a0 = some v0 ∧ w.cell? a1 = some v1 ∧ w.cell? a2 = some v2 ∧ w.cell? a3 = some v3 ∧ w.cell? a4 = some v4 ∧ w.cell? a5 = some v5 ∧ w.cell? a6 = some v6 ∧ w.cell? a7 = some v7 ∧ w.cell? a8 = some v8) (hb : Below w.heap.size w w') : w'.cell? a0 = some v0 ∧ w'.cell? a1 = some v1 ∧ w'.cell? a2 = some v2 ∧ w'.cell? a3 = some v3 ∧ w'.cell? a4 = some v4 ∧ w'.cell? a5 = some v5 ∧ w'.cell? a6 = some v6 ∧ w'.cell? a7 = some v7 ∧ w'.cell? a8 = some v8 := by
  obtain ⟨h0, h1, h2, h3, h4, h5, h6, h7, h8⟩ := h
  have one : ∀ {a : Addr} {v : Value}, w.cell? a = some v → w'.cell? a = some v := fun {a v} h => (hb.cell (World.block_lt_of_cell? _ _ h)).trans h
  exact ⟨one h0, one h1, one h2, one h3, one h4, one h5, one h6, one h7, one h8⟩
/-- Rows of one length that a slice of slices reads as. -/
structure RowsB (w : World) (b o n c : Nat) (ss : List Slc) (N : Nat) (F : Nat → List UInt8) : Prop where
  list : Sees w (some ⟨b, o, none⟩) n c (ss.map slV)
  len : ss.length = n
  rows : ∀ j, j < n → ∃ rb ro rc, ss.getD j slc0 = (some ⟨rb, ro, none⟩, N, rc) ∧ Sees w (some ⟨rb, ro, none⟩) N rc ((F j).map bv)
theorem RowsB.below {w w' : World} {b o n c : Nat} {ss : List Slc} {N : Nat} {F : Nat → List UInt8} (h : RowsB w b o n c ss N F) (hb : Below w.heap.size w w') : RowsB w' b o n c ss N F :=
  ⟨h.list.below hb, h.len, fun j hj => by
    obtain ⟨rb, ro, rc, e, hs⟩ := h.rows j hj
    exact ⟨rb, ro, rc, e, hs.below hb⟩⟩
theorem RowsB.at {w : World} {b o n c : Nat} {ss : List Slc} {N : Nat} {F : Nat → List UInt8} (h : RowsB w b o n c ss N F) (k : Nat) (hk : k < n) :
    ∃ rb ro rc, w.cell? ⟨b, o + k, none⟩ = some (.slice (some ⟨rb, ro, none⟩) N rc) ∧ (∀ m, m < N → w.cell? ⟨rb, ro + m, none⟩ = some (.int .u8 (((F k).getD m 0).toNat : Int))) := by
  obtain ⟨rb, ro, rc, e, hs⟩ := h.rows k hk
  refine ⟨rb, ro, rc, ?_, fun m hm => hs.byte m hm⟩
  rw [(h.list.cell k hk).2, List.getElem?_map, List.getElem?_eq_getElem (show k < ss.length by rw [h.len]; exact hk)]
  have : ss[k]'(by rw [h.len]; exact hk) = ss.getD k slc0 := by simp [List.getD, List.getElem?_eq_getElem (show k < ss.length by rw [h.len]; exact hk)]
  rw [this, e]; rfl
theorem runpost_yes {c : NormC} {t : TraceC} {w w' : World} {e : Ending} (hF : FitsC c t) (h : RunPost c t w e w') :
    ∃ b o cc ss, e = .returned (.tuple #[.slice (some ⟨b, o, none⟩) t.frames.length cc, .int .i64 0]) ∧ RowsB w' b o t.frames.length cc ss (1 + varsN c) (varsAt c t) ∧ Below w.heap.size w w' := by
  obtain ⟨h1, _, hb⟩ := h
  obtain ⟨v, ss, e1, hl, ho, hr⟩ := h1 (fits_iff.2 hF)
  obtain ⟨a, cc, rfl, _, hs⟩ := Sees.owned ho
  obtain ⟨b, o, rfl, _⟩ := hs.addr (by have := hF.one; omega)
  refine ⟨b, o, cc, ss, e1, ⟨hs, hl, fun j hj => ?_⟩, hb⟩
  have h2 := hr j hj
  have hlen := varsAt_len c t hF.init hF.frames j hj
  rw [hlen] at h2
  obtain ⟨x, hx⟩ : ∃ x : Slc, x = ss.getD j slc0 := ⟨_, rfl⟩
  rw [← hx] at h2 ⊢
  obtain ⟨xa, xn, xc⟩ := x
  unfold slV at h2
  simp only at h2
  obtain ⟨e2, h3⟩ := row_sees_slice h2
  subst e2
  obtain ⟨rb, ro, e3, _⟩ := h3.addr (by omega)
  subst e3
  exact ⟨rb, ro, xc, rfl, h3⟩
end Go.Proofs.Ytgpkghlhlabjcaa
/- A trace whose X are bits, on plain lists. -/
namespace Go.Proofs.Ytgpkghlhlabjcaa
open Go Go.RowKit Go.Joins

def bitU (bits : List Bool) (p : Nat) : UInt8 := if bits.getD p false = true then 1 else 0
def fillU (bits : List Bool) (p : Nat) (u : UInt8) : UInt8 := if u.toNat = 2 then bitU bits p else u
def nextU (p : Nat) (u : UInt8) : Nat := if u.toNat = 2 then p + 1 else p
def fillL (bits : List Bool) : Nat → List UInt8 → List UInt8
  | _, [] => []
  | p, u :: r => fillU bits p u :: fillL bits (nextU p u) r
def nextX : Nat → List UInt8 → Nat
  | p, [] => p
  | p, u :: r => nextX (nextU p u) r
theorem fillL_len (bits : List Bool) : ∀ (l : List UInt8) (p : Nat), (fillL bits p l).length = l.length
  | [], _ => rfl
  | u :: r, p => by rw [fillL, List.length_cons, fillL_len bits r, List.length_cons]
theorem fillL_append (bits : List Bool) : ∀ (a b : List UInt8) (p : Nat), fillL bits p (a ++ b) = fillL bits p a ++ fillL bits (nextX p a) b
  | [], _, _ => rfl
  | u :: r, b, p => by rw [List.cons_append, fillL, fillL_append bits r b, fillL, nextX]; rfl
theorem nextX_append : ∀ (a b : List UInt8) (p : Nat), nextX p (a ++ b) = nextX (nextX p a) b
  | [], _, _ => rfl
  | u :: r, b, p => by rw [List.cons_append, nextX, nextX_append r b]; rfl
theorem nextU_le (p : Nat) (u : UInt8) : nextU p u ≤ p + 1 := by unfold nextU; split <;> omega
theorem nextX_le : ∀ (l : List UInt8) (p : Nat), nextX p l ≤ p + l.length
  | [], p => Nat.le_refl _
  | u :: r, p => by rw [nextX, List.length_cons]; have := nextX_le r (nextU p u); have := nextU_le p u; omega
/-- What a list holds when m of its values have been filled. -/
def fillI (bits : List Bool) (p : Nat) (l : List UInt8) (m : Nat) : List UInt8 := fillL bits p (l.take m) ++ l.drop m
theorem fillI_len (bits : List Bool) (p : Nat) (l : List UInt8) (m : Nat) : (fillI bits p l m).length = l.length := by unfold fillI; rw [List.length_append, fillL_len, List.length_take, List.length_drop]; omega
theorem fillI_zero (bits : List Bool) (p : Nat) (l : List UInt8) : fillI bits p l 0 = l := by simp [fillI, fillL]
theorem fillI_all (bits : List Bool) (p : Nat) (l : List UInt8) : fillI bits p l l.length = fillL bits p l := by simp [fillI]
theorem fillI_at (bits : List Bool) (p : Nat) (l : List UInt8) (m : Nat) (h : m < l.length) : (fillI bits p l m).getD m 0 = l.getD m 0 := by
  have e : (fillL bits p (l.take m)).length = m := by rw [fillL_len, List.length_take]; omega
  simp [fillI, List.getD, List.getElem?_append_right (Nat.le_of_eq e), e, List.getElem?_drop]
theorem take_snoc (l : List UInt8) (m : Nat) (h : m < l.length) : l.take (m + 1) = l.take m ++ [l.getD m 0] := by
  rw [List.take_add_one, List.getElem?_eq_getElem h]; simp [List.getD, List.getElem?_eq_getElem h]
theorem nextX_step (p : Nat) (l : List UInt8) (m : Nat) (h : m < l.length) : nextX p (l.take (m + 1)) = nextU (nextX p (l.take m)) (l.getD m 0) := by
  rw [take_snoc l m h, nextX_append]; rfl
theorem fillI_step (bits : List Bool) (p : Nat) (l : List UInt8) (m : Nat) (h : m < l.length) : fillI bits p l (m + 1) = (fillI bits p l m).set m (fillU bits (nextX p (l.take m)) (l.getD m 0)) := by
  have e : (fillL bits p (l.take m)).length = m := by rw [fillL_len, List.length_take]; omega
  have hg : l.getD m 0 = l[m] := by simp [List.getD, List.getElem?_eq_getElem h]
  unfold fillI
  rw [List.set_append_right _ _ (Nat.le_of_eq e), e, Nat.sub_self, List.drop_eq_getElem_cons h, List.set_cons_zero, take_snoc l m h, fillL_append, hg]
  simp only [fillL, List.append_assoc, List.cons_append, List.nil_append]
theorem fillI_keep (bits : List Bool) (p : Nat) (l : List UInt8) (m : Nat) (h : m < l.length) (h2 : (l.getD m 0).toNat ≠ 2) : fillI bits p l (m + 1) = fillI bits p l m := by
  rw [fillI_step bits p l m h]
  unfold fillU
  rw [if_neg h2, ← fillI_at bits p l m h]
  have hl : m < (fillI bits p l m).length := by rw [fillI_len]; exact h
  simp [List.getD, List.getElem?_eq_getElem hl]
/-- The lists of a trace, the first one ahead. -/
def listsOf (t : TraceC) (j : Nat) : List UInt8 := (t.init :: t.frames).getD j []
/-- How many X lie ahead of a list. -/
def startP (G : Nat → List UInt8) : Nat → Nat
  | 0 => 0
  | k + 1 => nextX (startP G k) (G k)
theorem startP_le (G : Nat → List UInt8) (M : Nat) : ∀ k, (∀ j, j < k → (G j).length ≤ M) → startP G k ≤ k * M
  | 0, _ => by simp [startP]
  | k + 1, h => by
    have h1 := startP_le G M k (fun j hj => h j (by omega))
    have h2 := nextX_le (G k) (startP G k)
    have h3 := h k (by omega)
    rw [startP, Nat.succ_mul]; omega
def fillT (bits : List Bool) (t : TraceC) : TraceC := ⟨t.bad, fillL bits 0 t.init, (List.range t.frames.length).map fun k => fillL bits (startP (listsOf t) (k + 1)) (t.frames.getD k [])⟩
theorem KeptNB.owns {w w' : World} (h : KeptNB w w') {base sz : Nat} {e : TypeId} {v : Value} {n : Nat} {xs : List Value} (hr : w.ownsRow base e sz v n xs) (he : e ≠ 5) : w'.ownsRow base e sz v n xs :=
  ownsN_other hr fun q hq => by
    rcases hr.2 with ⟨h2, _⟩ | ⟨g', cap', cur, h2, _, hh, _⟩
    · rw [h2] at hq; cases hq
    · rw [h2] at hq
      have : g' = q := by simpa [Value.ownBlock] using hq
      subst this
      exact (h g' cur e _ hh he).trans hh.symm
end Go.Proofs.Ytgpkghlhlabjcaa
/- What is known stays so, whatever X are: on plain lists. -/
namespace Go.Proofs.Ytgpkghlhlabjcaa
open Go Go.RowKit

/-- b is a bit, and a is b unless it is X. -/
def Ref (a b : UInt8) : Prop := (a.toNat = 2 ∨ a = b) ∧ b.toNat ≤ 1
theorem u8_ofNat_toNat (n : Nat) (h : n ≤ 2) : (UInt8.ofNat n).toNat = n := by rw [UInt8.toNat_ofNat', Nat.mod_eq_of_lt (by omega)]
theorem u8_cases (b : UInt8) (h : b.toNat ≤ 1) : b = 0 ∨ b = 1 := by
  rcases (show b.toNat = 0 ∨ b.toNat = 1 by omega) with h | h
  · exact .inl (UInt8.toNat_inj.1 (h.trans rfl))
  · exact .inr (UInt8.toNat_inj.1 (h.trans rfl))
theorem ref_zero : Ref 0 0 := ⟨.inr rfl, by decide⟩
theorem Ref.not {a b : UInt8} (h : Ref a b) : Ref (k1.nt a) (k1.nt b) := by
  rcases u8_cases b h.2 with rfl | rfl
  · rcases h.1 with h1 | rfl
    · refine ⟨.inl ?_, by decide⟩
      show (UInt8.ofNat (not1 a.toNat)).toNat = 2
      rw [h1]; rfl
    · exact ⟨.inr rfl, by decide⟩
  · rcases h.1 with h1 | rfl
    · refine ⟨.inl ?_, by decide⟩
      show (UInt8.ofNat (not1 a.toNat)).toNat = 2
      rw [h1]; rfl
    · exact ⟨.inr rfl, by decide⟩
theorem Ref.and {a b x y : UInt8} (h : Ref a b) (h' : Ref x y) : Ref (k1.an a x) (k1.an b y) := by
  have key : ∀ (p q r s : Nat), (p = 2 ∨ p = q) → q ≤ 1 → (r = 2 ∨ r = s) → s ≤ 1 → (and1 p r = 2 ∨ and1 p r = and1 q s) ∧ and1 q s ≤ 1 := by
    intro p q r s h1 h2 h3 h4
    have hq : q = 0 ∨ q = 1 := by omega
    have hs : s = 0 ∨ s = 1 := by omega
    rcases h1 with rfl | rfl <;> rcases h3 with rfl | rfl <;> rcases hq with rfl | rfl <;> rcases hs with rfl | rfl <;> simp [and1]
  have k := key a.toNat b.toNat x.toNat y.toNat (h.1.imp id (fun e => by rw [e])) h.2 (h'.1.imp id (fun e => by rw [e])) h'.2
  have e1 := u8_ofNat_toNat (and1 a.toNat x.toNat) (and1_le _ _)
  have e2 := u8_ofNat_toNat (and1 b.toNat y.toNat) (and1_le _ _)
  refine ⟨k.1.imp (fun e => e1.trans e) (fun e => ?_), by show (UInt8.ofNat (and1 b.toNat y.toNat)).toNat ≤ 1; rw [e2]; exact k.2⟩
  show UInt8.ofNat (and1 a.toNat x.toNat) = UInt8.ofNat (and1 b.toNat y.toNat)
  rw [e]
def RefL (xs ys : List UInt8) : Prop := xs.length = ys.length ∧ ∀ i, Ref (xs.getD i 0) (ys.getD i 0)
theorem RefL.nil : RefL [] [] := ⟨rfl, fun i => by simpa using ref_zero⟩
theorem RefL.cons {a b : UInt8} {xs ys : List UInt8} (h : Ref a b) (hl : RefL xs ys) : RefL (a :: xs) (b :: ys) := ⟨by simp [hl.1], fun i => by
  cases i with
  | zero => simpa using h
  | succ i => simpa using hl.2 i⟩
theorem RefL.append {xs ys cs ds : List UInt8} (h : RefL xs ys) (h' : RefL cs ds) : RefL (xs ++ cs) (ys ++ ds) := by
  refine ⟨by simp [h.1, h'.1], fun i => ?_⟩
  by_cases e : i < xs.length
  · have e2 : i < ys.length := by rw [← h.1]; exact e
    have := h.2 i
    simpa [List.getD, List.getElem?_append_left e, List.getElem?_append_left e2] using this
  · have e1 : xs.length ≤ i := Nat.le_of_not_lt e
    have e2 : ys.length ≤ i := by rw [← h.1]; exact e1
    have := h'.2 (i - xs.length)
    simp only [List.getD, List.getElem?_append_right e1, List.getElem?_append_right e2] at this ⊢
    rw [← h.1]; exact this
theorem RefL.val {xs ys : List UInt8} (h : RefL xs ys) (lit : Nat) : Ref (k1.val xs lit) (k1.val ys lit) := by
  unfold Kd.val
  split
  · exact (h.2 _).not
  · exact h.2 _
theorem RefL.gates : ∀ (l : List (Nat × Nat)) {xs ys : List UInt8}, RefL xs ys → RefL (k1.gates l xs) (k1.gates l ys)
  | [], _, _, h => h
  | g :: r, xs, ys, h => by
    rw [Kd.gates, Kd.gates]
    exact RefL.gates r (h.append (RefL.cons ((h.val g.1).and (h.val g.2)) RefL.nil))
theorem RefL.vars {c : NormC} {st st' ins ins' : List UInt8} (h : RefL st st') (h' : RefL ins ins') : RefL (k1.vars c st ins) (k1.vars c st' ins') :=
  RefL.gates _ (RefL.cons ref_zero (h'.append h))
theorem RefL.map (f g : Nat × Nat → UInt8) : ∀ (l : List (Nat × Nat)), (∀ p, Ref (f p) (g p)) → RefL (l.map f) (l.map g)
  | [], _ => RefL.nil
  | p :: r, h => RefL.cons (h p) (RefL.map f g r h)
theorem RefL.next {c : NormC} {vs vs' : List UInt8} (h : RefL vs vs') : RefL (k1.next c vs) (k1.next c vs') := RefL.map _ _ _ fun p => h.val p.1
def RefF (fs gs : List (List UInt8)) : Prop := fs.length = gs.length ∧ ∀ i, RefL (fs.getD i []) (gs.getD i [])
theorem RefF.cons {x y : List UInt8} {xs ys : List (List UInt8)} (h : RefL x y) (hl : RefF xs ys) : RefF (x :: xs) (y :: ys) := ⟨by simp [hl.1], fun i => by
  cases i with
  | zero => simpa using h
  | succ i => simpa using hl.2 i⟩
theorem RefF.nil : RefF [] [] := ⟨rfl, fun i => by simpa using RefL.nil⟩
theorem RefF.tail {x y : List UInt8} {xs ys : List (List UInt8)} (h : RefF (x :: xs) (y :: ys)) : RefL x y ∧ RefF xs ys := ⟨by simpa using h.2 0, by simpa using h.1, fun i => by simpa using h.2 (i + 1)⟩
theorem RefF.run (c : NormC) : ∀ {fs gs : List (List UInt8)} {st st' : List UInt8}, RefF fs gs → RefL st st' → RefF (k1.run c st fs) (k1.run c st' gs)
  | [], [], _, _, _, _ => RefF.nil
  | [], _ :: _, _, _, h, _ => by have := h.1; simp at this
  | _ :: _, [], _, _, h, _ => by have := h.1; simp at this
  | f :: fs, g :: gs, st, st', h, hs => by
    obtain ⟨h1, h2⟩ := h.tail
    rw [Kd.run, Kd.run]
    have hv := RefL.vars (c := c) hs h1
    exact RefF.cons hv (RefF.run c h2 hv.next)
theorem ref_cons (vs vs' : List UInt8) (h : RefL vs vs') : ∀ (l : List Nat) {a a' : UInt8}, Ref a a' → Ref (k1.cons vs a l) (k1.cons vs' a' l)
  | [], _, _, ha => ha
  | x :: r, _, _, ha => ref_cons vs vs' h r (ha.and (h.val x))
theorem ref_sum (c : NormC) (bad : Nat) : ∀ {l l' : List (List UInt8)} {p p' : UInt8 × UInt8}, RefF l l' → Ref p.1 p'.1 → Ref p.2 p'.2 → Ref (k1.sum c bad p l).1 (k1.sum c bad p' l').1 ∧ Ref (k1.sum c bad p l).2 (k1.sum c bad p' l').2
  | [], [], _, _, _, h1, h2 => ⟨h1, h2⟩
  | [], _ :: _, _, _, h, _, _ => by have := h.1; simp at this
  | _ :: _, [], _, _, h, _, _ => by have := h.1; simp at this
  | v :: l, v' :: l', p, p', h, h1, h2 => by
    obtain ⟨hv, ht⟩ := h.tail
    exact ref_sum c bad (p := (k1.cons v p.1 c.cons, k1.val v (c.bads.getD bad 0))) (p' := (k1.cons v' p'.1 c.cons, k1.val v' (c.bads.getD bad 0))) ht (ref_cons v v' hv _ h1) (hv.val _)
theorem ref_verdict (c : NormC) (bad : Nat) {st st' : List UInt8} {fs gs : List (List UInt8)} (h : RefL st st') (h' : RefF fs gs) : Ref (k1.verdict c bad st fs) (k1.verdict c bad st' gs) := by
  have hz : Ref (k1.nt k1.z) (k1.nt k1.z) := ref_zero.not
  have hs := ref_sum c bad (p := (k1.nt k1.z, k1.z)) (p' := (k1.nt k1.z, k1.z)) (RefF.run c h' h) hz ref_zero
  exact hs.1.and hs.2
theorem ref_fillU (bits : List Bool) (p : Nat) (u : UInt8) (h : u.toNat ≤ 2) : Ref u (fillU bits p u) := by
  unfold fillU
  split
  · rename_i h2
    refine ⟨.inl h2, ?_⟩
    unfold bitU
    split <;> decide
  · exact ⟨.inr rfl, by omega⟩
theorem ref_fillL (bits : List Bool) : ∀ (l : List UInt8) (p : Nat), (∀ u ∈ l, u.toNat ≤ 2) → RefL l (fillL bits p l)
  | [], _, _ => RefL.nil
  | u :: r, p, h => RefL.cons (ref_fillU bits p u (h u (by simp))) (ref_fillL bits r _ (fun x hx => h x (by simp [hx])))
theorem fillT_frame (bits : List Bool) (t : TraceC) (k : Nat) (hk : k < t.frames.length) : (fillT bits t).frames.getD k [] = fillL bits (startP (listsOf t) (k + 1)) (t.frames.getD k []) := by
  simp only [fillT, List.getD]
  rw [List.getElem?_map, List.getElem?_range hk]
  rfl
theorem fillT_len (bits : List Bool) (t : TraceC) : (fillT bits t).frames.length = t.frames.length := by simp [fillT]
theorem ref_fillT {c : NormC} {t : TraceC} (bits : List Bool) (h : FitsC c t) : RefL t.init (fillT bits t).init ∧ RefF t.frames (fillT bits t).frames := by
  refine ⟨ref_fillL bits _ _ h.inits, (fillT_len bits t).symm, fun i => ?_⟩
  by_cases e : i < t.frames.length
  · rw [fillT_frame bits t i e]
    exact ref_fillL bits _ _ (h.values _ (getD_mem e))
  · have e1 : t.frames.getD i [] = [] := by simp [List.getD, List.getElem?_eq_none (Nat.le_of_not_lt e)]
    have e2 : (fillT bits t).frames.getD i [] = [] := by simp [List.getD, List.getElem?_eq_none (show (fillT bits t).frames.length ≤ i by rw [fillT_len]; exact Nat.le_of_not_lt e)]
    rw [e1, e2]; exact RefL.nil
theorem run_at (c : NormC) : ∀ (fs : List (List UInt8)) (st : List UInt8) (j : Nat), j < fs.length → (k1.run c st fs).getD j [] = k1.vars c (k1.after c st (fs.take j)) (fs.getD j [])
  | [], _, _, h => by simp at h
  | f :: r, st, 0, _ => by rw [Kd.run]; rfl
  | f :: r, st, j + 1, h => by
    rw [Kd.run, List.getD_cons_succ, run_at c r _ j (by simpa using h)]
    rfl
theorem ref_varsAt {c : NormC} {t : TraceC} (bits : List Bool) (h : FitsC c t) (j : Nat) (hj : j < t.frames.length) : RefL (varsAt c t j) (varsAt c (fillT bits t) j) := by
  obtain ⟨h1, h2⟩ := ref_fillT bits h
  have h3 := (RefF.run c h2 h1).2 j
  rw [run_at c _ _ j hj, run_at c _ _ j (by rw [fillT_len]; exact hj)] at h3
  exact h3
theorem ref_le {xs ys : List UInt8} (h : RefL xs ys) : ∀ u ∈ ys, u.toNat ≤ 1 := by
  intro u hu
  obtain ⟨i, hi, he⟩ := List.getElem_of_mem hu
  have := (h.2 i).2
  simpa [List.getD, List.getElem?_eq_getElem hi, he] using this
theorem FitsC.fill {c : NormC} {t : TraceC} (bits : List Bool) (h : FitsC c t) : FitsC c (fillT bits t) := by
  obtain ⟨h1, h2⟩ := ref_fillT bits h
  refine ⟨h.may, h.pos, h.bad, h1.1.symm.trans h.init, fun u hu => by have := ref_le h1 u hu; omega, fun i hi => ?_, by rw [fillT_len]; exact h.one, by rw [fillT_len]; exact h.few, fun k hk => ?_, fun f hf u hu => ?_⟩
  · rcases h.resets i hi with h3 | h3
    · exact .inl h3
    · by_cases e : (c.lats.getD i (0, 0)).2 = 2
      · exact .inl e
      · refine .inr ?_
        rcases (h1.2 i).1 with h4 | h4
        · omega
        · rw [← h4]; exact h3
  · have hk2 : k < t.frames.length := by rw [← fillT_len bits t]; exact hk
    rw [← (h2.2 k).1]; exact h.frames k hk2
  · obtain ⟨i, hi, he⟩ := List.getElem_of_mem hf
    have h3 := ref_le (h2.2 i)
    have h4 : (fillT bits t).frames.getD i [] = f := by simp [List.getD, List.getElem?_eq_getElem hi, he]
    rw [h4] at h3
    have := h3 u hu; omega
theorem zeroL_id (l : List UInt8) (h : ∀ u ∈ l, u.toNat ≤ 1) : zeroL l = l := by
  unfold zeroL
  conv => rhs; rw [← List.map_id l]
  refine List.map_congr_left fun u hu => ?_
  have := h u hu
  unfold zeroU
  rw [if_neg (by omega)]
  rfl
theorem readT_fill {c : NormC} {t : TraceC} (bits : List Bool) (h : FitsC c t) : readT (fillT bits t) = fillT bits t := by
  obtain ⟨h1, h2⟩ := ref_fillT bits h
  have e1 := zeroL_id _ (ref_le h1)
  have e2 : (fillT bits t).frames.map zeroL = (fillT bits t).frames := by
    conv => rhs; rw [← List.map_id (fillT bits t).frames]
    refine List.map_congr_left fun f hf => ?_
    obtain ⟨i, hi, he⟩ := List.getElem_of_mem hf
    have h3 := ref_le (h2.2 i)
    have h4 : (fillT bits t).frames.getD i [] = f := by simp [List.getD, List.getElem?_eq_getElem hi, he]
    rw [h4] at h3
    exact zeroL_id f h3
  unfold readT
  rw [e1, e2]
/-- Whether the filled trace fails, and what was said of it. -/
theorem fill_verdict {c : NormC} {t : TraceC} (bits : List Bool) (h : FitsC c t) (bad : Nat) :
    Ref (k1.verdict c bad t.init t.frames) (k1.verdict c bad (readT (fillT bits t)).init (readT (fillT bits t)).frames) := by
  rw [readT_fill bits h]
  obtain ⟨h1, h2⟩ := ref_fillT bits h
  exact ref_verdict c bad h1 h2
theorem gates_head : ∀ (l : List (Nat × Nat)) (vs : List UInt8), 0 < vs.length → (k1.gates l vs).getD 0 0 = vs.getD 0 0
  | [], _, _ => rfl
  | g :: r, vs, h => by
    rw [Kd.gates, gates_head r _ (by simp), List.getD, List.getElem?_append_left h]; rfl
theorem varsAt_head (c : NormC) (t : TraceC) (j : Nat) : (varsAt c t j).getD 0 0 = 0 := by
  unfold varsAt Kd.vars
  rw [gates_head _ _ (by simp)]
  rfl
end Go.Proofs.Ytgpkghlhlabjcaa
/- The reference's Surely, by its contract. -/
namespace Go.Proofs.Ytgpkghlhlabjcaa
open Go Go.RowKit Go.Joins

theorem and1_swap (a b d : Nat) : and1 (and1 a b) d = and1 (and1 a d) b := by
  unfold and1
  by_cases h1 : a = 0 <;> by_cases h2 : a = 1 <;> by_cases h3 : b = 0 <;> by_cases h4 : b = 1 <;> by_cases h5 : d = 0 <;> by_cases h6 : d = 1 <;> simp [*]
theorem an_toNat (a b : UInt8) : (k1.an a b).toNat = and1 a.toNat b.toNat := u8_ofNat_toNat _ (and1_le _ _)
theorem an_swap (a b d : UInt8) : k1.an (k1.an a b) d = k1.an (k1.an a d) b := by
  apply UInt8.toNat.inj
  rw [an_toNat, an_toNat, an_toNat, an_toNat, and1_swap]
theorem an_one (v : UInt8) (h : v.toNat ≤ 2) : k1.an 1 v = v := by
  apply UInt8.toNat.inj
  rw [an_toNat]
  show and1 1 v.toNat = v.toNat
  unfold and1
  by_cases h0 : v.toNat = 0 <;> by_cases h1 : v.toNat = 1 <;> simp [*] <;> omega
/-- A value, and all constraints behind it. -/
def rsum (c : NormC) (l : List (List UInt8)) (v : UInt8) : UInt8 := l.foldl (fun v vars => k1.cons vars v c.cons) v
theorem rsum_snoc (c : NormC) (l : List (List UInt8)) (vars : List UInt8) (v : UInt8) : rsum c (l ++ [vars]) v = k1.cons vars (rsum c l v) c.cons := by
  unfold rsum; rw [List.foldl_append]; rfl
theorem cons_swap (vars : List UInt8) : ∀ (l : List Nat) (a b : UInt8), k1.cons vars (k1.an a b) l = k1.an (k1.cons vars a l) b
  | [], a, b => rfl
  | x :: l, a, b => by
    show k1.cons vars (k1.an (k1.an a b) (k1.val vars x)) l = _
    rw [an_swap, cons_swap vars l]
    rfl
theorem rsum_swap (c : NormC) : ∀ (l : List (List UInt8)) (a b : UInt8), rsum c l (k1.an a b) = k1.an (rsum c l a) b
  | [], a, b => rfl
  | x :: l, a, b => by
    show rsum c l (k1.cons x (k1.an a b) c.cons) = _
    rw [cons_swap, rsum_swap c l]
    rfl
theorem sum_fst (c : NormC) (bad : Nat) : ∀ (l : List (List UInt8)) (p : UInt8 × UInt8), (k1.sum c bad p l).1 = rsum c l p.1
  | [], _ => rfl
  | _ :: l, _ => sum_fst c bad l _
/-- The verdict, the other way round. -/
theorem verdict_rsum (c : NormC) (t : TraceC) (bad : Nat) (h1 : 0 < t.frames.length) (h2 : (k1.val (varsAt c t (t.frames.length - 1)) (c.bads.getD bad 0)).toNat ≤ 2) :
    k1.verdict c bad t.init t.frames = rsum c (k1.run c t.init t.frames) (k1.val (varsAt c t (t.frames.length - 1)) (c.bads.getD bad 0)) := by
  have e : k1.run c t.init t.frames = k1.run c t.init (t.frames.take (t.frames.length - 1)) ++ [varsAt c t (t.frames.length - 1)] := by
    have h3 : t.frames = t.frames.take (t.frames.length - 1) ++ [t.frames.getD (t.frames.length - 1) []] := by
      have h4 := List.take_add_one (l := t.frames) (i := t.frames.length - 1)
      rw [show t.frames.length - 1 + 1 = t.frames.length by omega, List.take_of_length_le (Nat.le_refl _), List.getElem?_eq_getElem (by omega)] at h4
      simpa [List.getD, List.getElem?_eq_getElem (show t.frames.length - 1 < t.frames.length by omega)] using h4
    calc k1.run c t.init t.frames = k1.run c t.init (t.frames.take (t.frames.length - 1) ++ [t.frames.getD (t.frames.length - 1) []]) := congrArg _ h3
      _ = _ := k1.run_snoc c _ _ _
  show k1.an (k1.sum c bad (k1.nt k1.z, k1.z) (k1.run c t.init t.frames)).1 (k1.sum c bad (k1.nt k1.z, k1.z) (k1.run c t.init t.frames)).2 = _
  have e2 : (k1.sum c bad (k1.nt k1.z, k1.z) (k1.run c t.init t.frames)).2 = k1.val (varsAt c t (t.frames.length - 1)) (c.bads.getD bad 0) := by
    rw [e, k1.sum_snoc]
  rw [e2, sum_fst, ← rsum_swap]
  show rsum c _ (k1.an 1 _) = _
  rw [an_one _ h2]
theorem varsAt_le {c : NormC} {t : TraceC} (h : FitsC c t) (k : Nat) (hk : k < t.frames.length) : ∀ u ∈ varsAt c t k, u.toNat ≤ 2 := by
  unfold varsAt Kd.vars
  refine gates_le2 _ _ (fun v hv => ?_)
  rcases List.mem_cons.1 hv with rfl | hv
  · decide
  · rcases List.mem_append.1 hv with hv | hv
    · exact h.values _ (getD_mem hk) v hv
    · exact after_le _ _ h.inits (fun f hf => h.values f (List.mem_of_mem_take hf)) v hv

theorem Sees.slice_at' {w : World} {b off n c : Nat} {ss : List Slc} (h : Sees w (some ⟨b, off, .none⟩) n c (ss.map slV)) (j : Nat) (hj : j < n) :
    w.cell? ⟨b, off + j, .none⟩ = some (slV (ss.getD j slc0)) := by
  have hl : ss.length = n := h.lenMap
  rw [(h.cell j hj).2]
  simp [List.getD, List.getElem?_eq_getElem (show j < ss.length by omega)]

set_option maxRecDepth 100000 in
set_option maxHeartbeats 6400000 in
theorem rsurely_any (c : NormC) (t : TraceC) (s : CSlots) (st : TSlots) (w : World) (h : SeesCir w s c) (ht : SeesTr w st t) (hs : s.small) (hst : st.small) (hlo : -9223372036854775808 ≤ c.ins) (hhi : c.ins < 9223372036854775808) (hb1 : -9223372036854775808 ≤ t.bad ∧ t.bad < 9223372036854775808) (hw : Wide c) :
    Calls Try.prog 27 #[cirV c.ins s, traceV t.bad st] w fun e w' => e = surelyE c t ∧ Below w.heap.size w w' := by
  have HRUN := Lib.hid (fun W (hb : Below w.heap.size w W) => rrun_any c t s st W (h.below hb) (ht.below hb) hs hst hlo hhi hb1 hw)
  have HE : Hid (surelyE c t = if fitsS c t = true then .returned (.tuple #[bv (k1.verdict c t.bad.toNat t.init t.frames), .int .i64 0]) else .returned (.tuple #[.int .u8 0, .int .i64 2])) := rfl
  obtain ⟨E, hE⟩ : ∃ E, E = surelyE c t := ⟨_, rfl⟩
  rw [← hE] at HE ⊢
  have HC := Lib.hid h
  have HSM := Lib.hid hs
  clear hE h ht hlo hhi hb1 hw hst
  unfold cirV traceV at *
  go_enter Try.func27, Try.ntmps27
  go_upto_region 1 with fail
  generalize hW : World.alloc (World.alloc w _) _ = W1
  have hb : Below w.heap.size w W1 := by subst hW; exact ext_trans (ext_alloc _ _) (ext_alloc _ _)
  have hx : W1.heap[w.heap.size]? = some (.cells #[.int .i64 c.ins, .slice s.a1 s.n1 s.c1, .slice s.a2 s.n2 s.c2, .slice s.a3 s.n3 s.c3, .slice s.a4 s.n4 s.c4, .slice s.a5 s.n5 s.c5] 26 (0, 0)) := by subst hW; exact heap_below (heap_new _ _ _ rfl) (ext_alloc _ _)
  have hy : W1.heap[w.heap.size + 1]? = some (.cells #[.int .i64 t.bad, .slice st.a1 st.n1 st.c1, .slice st.a2 st.n2 st.c2] 30 (0, 0)) := by subst hW; exact heap_new _ _ _ (by simp)
  have HB := Lib.hid hb
  have HX := Lib.hid hx
  have HY := Lib.hid hy
  clear hW hb hx hy
  have p0 := cell_of_block HX.out 0
  have p1 := cell_of_block HX.out 1
  have p2 := cell_of_block HX.out 2
  have p3 := cell_of_block HX.out 3
  have p4 := cell_of_block HX.out 4
  have p5 := cell_of_block HX.out 5
  have r0 := cell_of_block HY.out 0
  have r1 := cell_of_block HY.out 1
  have r2 := cell_of_block HY.out 2
  go_wp2_with fail
  refine (HRUN.out W1 HB.out).mono ?_
  intro e W2 hp
  have HP := Lib.hid hp
  clear hp HRUN p0 p1 p2 p3 p4 p5 r0 r1 r2
  cases hq : fitsS c t with
  | false =>
    have HO : Hid (E = .returned (.tuple #[.int .u8 0, .int .i64 2])) := by show _ = _; rw [HE.out, hq]; rfl
    obtain ⟨_, hno, hb⟩ := HP.out
    obtain rfl := hno hq
    have HB2 := Lib.hid (ext_trans HB.out hb)
    clear hno hb HP hq
    go_wp2
    refine bodyPost_ret (v := .tuple #[.int .u8 0, .int .i64 2]) ?_ rfl ?_
    · simp [results, Try.results27, go_sem]
    · exact ⟨by rw [HO.out], HB2.out⟩
  | true =>
  have HF := Lib.hid (fits_iff.1 hq)
  obtain ⟨lb, lo, lc, ss, rfl, hrows, hb⟩ := runpost_yes HF.out HP.out
  have HVD := verdict_rsum c t t.bad.toNat HF.out.one
  obtain ⟨N, hN⟩ : ∃ N, N = t.frames.length := ⟨_, rfl⟩
  rw [← hN] at hrows
  rw [← hN] at HVD
  rw [← hN]
  obtain ⟨M, hM⟩ : ∃ M, M = N - 1 := ⟨_, rfl⟩
  rw [← hM] at HVD
  have hN1 : 0 < N := by rw [hN]; exact HF.out.one
  have hN2 : N ≤ 256 := by rw [hN]; exact HF.out.few
  have HMN : Hid (M < N ∧ N = M + 1) := ⟨by omega, by omega⟩
  obtain ⟨nb, hnb⟩ : ∃ nb : Nat, nb = t.bad.toNat := ⟨_, rfl⟩
  have hbad : t.bad = (nb : Int) := by have := HF.out.pos; omega
  have hbl : nb < c.bads.length := by rw [hnb]; exact HF.out.bad
  have hn4 : c.bads.length = s.n4 := HC.out.s4.lenMap
  have hn5 : c.cons.length = s.n5 := HC.out.s5.lenMap
  have hn5b : s.n5 ≤ 1048576 := HSM.out.n5
  rw [← hnb] at HVD HE
  have HO : Hid (E = .returned (.tuple #[bv (k1.verdict c nb t.init t.frames), .int .i64 0])) := by show _ = _; rw [HE.out, hq]; rfl
  have HX2 := Lib.hid (heap_below HX.out hb)
  have HY2 := Lib.hid (heap_below HY.out hb)
  have HB2 := Lib.hid (ext_trans HB.out hb)
  have HRW := Lib.hid hrows
  have HNL := Lib.hid hN
  rw [hbad] at HY2
  have hlit : ∀ x, x ≤ 2 * varsN c + 1 → x / 2 < 1 + varsN c ∧ x < 4294967296 := fun x hx => by have := HF.out.may.few; omega
  have HVL : Hid (∀ k, k < N → (varsAt c t k).length = 1 + varsN c) := fun k hk => varsAt_len c t HF.out.init HF.out.frames k (by rw [← hN]; exact hk)
  have HVA : Hid (∀ k, k < N → ∀ u ∈ varsAt c t k, u.toNat ≤ 2) := fun k hk => varsAt_le HF.out k (by rw [← hN]; exact hk)
  obtain ⟨D, hD⟩ : ∃ D, D = c.bads.getD nb 0 := ⟨_, rfl⟩
  rw [← hD] at HVD
  have hDL := hlit D (by rw [hD]; exact HF.out.may.bads _ (getD_mem hbl))
  have HCL : Hid (∀ j, j < s.n5 → c.cons.getD j 0 / 2 < 1 + varsN c ∧ c.cons.getD j 0 < 4294967296) := fun j hj => hlit _ (HF.out.may.cons _ (getD_mem (by rw [hn5]; exact hj)))
  obtain ⟨b4, o4, e4, _⟩ := HC.out.s4.addr (show 0 < s.n4 by omega)
  have hc4 := (HC.out.below HB2.out).s4
  rw [e4] at hc4
  have pd := hc4.num nb (by omega)
  rw [← hD] at pd
  obtain ⟨V0, hV0⟩ : ∃ v, v = k1.val (varsAt c t M) D := ⟨_, rfl⟩
  have hv0 : V0.toNat ≤ 2 := by rw [hV0]; exact k1_val_le (HVA.out M HMN.out.1) D
  rw [← hV0] at HVD
  have HVD2 := Lib.hid (HVD hv0)
  obtain ⟨rb', ro', rc', hsse, hrs⟩ := HRW.out.rows M HMN.out.1
  have hlc2 : W2.cell? ⟨lb, lo + M, none⟩ = some (.slice (some ⟨rb', ro', none⟩) (1 + varsN c) rc') := by
    have h1 := HRW.out.list.slice_at' M HMN.out.1
    rw [hsse] at h1
    exact h1
  obtain ⟨NV, hNV⟩ : ∃ n, n = 1 + varsN c := ⟨_, rfl⟩
  rw [← hNV] at hlc2 hrs hDL HVL HCL
  have HNV := Lib.hid hNV
  have HV0 : Hid (∀ j, Calls Try.prog 36 #[.slice (some ⟨rb', ro', none⟩) NV rc', .int .u32 D] (W2.drewN j) fun e w' => e = .returned (.int .u8 (V0.toNat : Int)) ∧ w' = W2.drewN j) := fun j => by
    have h1 := refvalue_any (varsAt c t M) (some ⟨rb', ro', none⟩) NV rc' D (W2.drewN j) (hrs.below (ext_drewN W2 j)) hDL.2
    rw [valueL_eq (by rw [HVL.out M HMN.out.1]; exact hDL.1) (HVA.out M HMN.out.1), ← hV0] at h1
    exact h1
  obtain ⟨x0, hx0⟩ : ∃ x : Nat, x = V0.toNat := ⟨_, rfl⟩
  rw [← hx0] at HV0
  have HX0 := Lib.hid hx0
  have hIb : (nb : Int) < (s.n4 : Int) := by omega
  have hIb0 : (0 : Int) ≤ (nb : Int) := by omega
  have hIM : (M : Int) < (N : Int) := by have := HMN.out; omega
  have hIM0 : (0 : Int) ≤ (M : Int) := by omega
  have WM : IntKind.i64.wrap ((N : Int) - 1) = (M : Int) := by have := HMN.out; rw [IntWalk.i64_in _ (by omega)]; omega
  have q4 := cell_of_block HX2.out 4
  have z0 := cell_of_block HY2.out 0
  rw [e4] at q4
  have HN5 := Lib.hid hn5
  clear hNV hn4 hn5 e4 hc4 HVD hN hM hnb hbad hbl hq hb hrows hD hDL hsse hrs hV0 hv0 hx0 hlit HX HY HB HP HE
  go_wp2
  go_quiet ((go_at_call 36; exact Calls.quiet_of_same (HV0.out _)))
  clear q4 z0 pd hlc2
  rename_i nq
  obtain ⟨W3, hW3⟩ : ∃ W3, W3 = W2.drewN nq := ⟨_, rfl⟩
  rw [← hW3]
  have hb3 : Below W2.heap.size W2 W3 := by rw [hW3]; exact ext_drewN _ _
  have HRW3 := Lib.hid (HRW.out.below hb3)
  have HX3 := Lib.hid (heap_below HX2.out hb3)
  have HB3 := Lib.hid (ext_trans HB2.out hb3)
  clear hW3 hb3 HX2 HB2 HV0 HRW HY2 WM hIb hIb0 hIM hIM0
  go_wp2
  go_loopw [9, 8, 10] (fun i v _ wr => ∃ (k x : Nat), k ≤ N ∧ i = .int .i64 k ∧ v = .int .u8 x ∧ Hid (x = (rsum c (k1.run c t.init (t.frames.take k)) V0).toNat) ∧ Hid (Below W3.heap.size W3 wr)) (fun i _ _ _ => N - (intOf i).toNat)
  case atStart => exact ⟨0, x0, Nat.zero_le _, rfl, rfl, HX0.out, Below.refl _ _⟩
  case round =>
    obtain ⟨k, x, hk, rfl, rfl, hx, hB⟩ := hrel
    by_cases hlt : k < N
    · have hI1 : (k : Int) < (N : Int) := by omega
      have hI0 : (0 : Int) ≤ (k : Int) := by omega
      have W1' : IntKind.i64.wrap ((k : Int) + 1) = (k : Int) + 1 := IntWalk.i64_in _ (by omega)
      obtain ⟨VK, hVK⟩ : ∃ v, v = varsAt c t k := ⟨_, rfl⟩
      obtain ⟨A, hA⟩ : ∃ v, v = rsum c (k1.run c t.init (t.frames.take k)) V0 := ⟨_, rfl⟩
      have HSNOC : Hid (rsum c (k1.run c t.init (t.frames.take (k + 1))) V0 = k1.cons VK A c.cons) := by
        show _ = _
        have hkl : k < t.frames.length := by rw [← HNL.out]; exact hlt
        rw [List.take_add_one, List.getElem?_eq_getElem hkl]
        simp only [Option.toList_some]
        rw [Kd.run_snoc, rsum_snoc, ← hA, hVK]
        unfold varsAt
        simp [List.getD, List.getElem?_eq_getElem hkl]
      obtain ⟨rb, ro, rc, hsse, hrs⟩ := (HRW3.out.below hB.out).rows k hlt
      have hlc : wr.cell? ⟨lb, lo + k, none⟩ = some (.slice (some ⟨rb, ro, none⟩) NV rc) := by
        have h1 := (HRW3.out.below hB.out).list.slice_at' k hlt
        rw [hsse, ← HNV.out] at h1
        exact h1
      rw [← HNV.out, ← hVK] at hrs
      have HLC := Lib.hid hlc
      have HRS := Lib.hid hrs
      have HA := Lib.hid hA
      have HXA : Hid (x = A.toNat) := by show _ = _; rw [hA]; exact hx.out
      have HVKL : Hid (VK.length = NV) := by show _ = _; rw [hVK]; exact HVL.out k hlt
      have HVKA : Hid (∀ u ∈ VK, u.toNat ≤ 2) := by rw [hVK]; exact HVA.out k hlt
      have HBW := Lib.hid hB.out
      have HXW := Lib.hid (heap_below HX3.out hB.out)
      clear hlc hrs hsse hVK hA hx hB
      go_wp2
      go_loopw [10, 8] (fun i v wr2 => ∃ (m y : Nat), m ≤ s.n5 ∧ i = .int .i64 m ∧ v = .int .u8 y ∧ Hid (y = (k1.cons VK A (c.cons.take m)).toNat) ∧ Hid (Below wr.heap.size wr wr2)) (fun i _ _ => s.n5 - (intOf i).toNat)
      case atStart => exact ⟨0, x, Nat.zero_le _, rfl, rfl, HXA.out, Below.refl _ _⟩
      case round =>
        obtain ⟨m, y, hm, rfl, rfl, hy, hB2⟩ := hrel
        have q5 := cell_of_block (heap_below HXW.out hB2.out) 5
        by_cases hlt2 : m < s.n5
        · obtain ⟨b5, o5, e5, _⟩ := HC.out.s5.addr (show 0 < s.n5 by omega)
          have hc5 := (HC.out.below (ext_trans HB3.out (ext_trans HBW.out hB2.out))).s5
          rw [e5] at hc5 q5
          clear e5
          have px := hc5.num m hlt2
          have hsn : c.cons.take (m + 1) = c.cons.take m ++ [c.cons.getD m 0] := by
            have hml : m < c.cons.length := by rw [HN5.out]; exact hlt2
            rw [List.take_add_one, List.getElem?_eq_getElem hml]
            simp [List.getD, List.getElem?_eq_getElem hml]
          have hLL := HCL.out m hlt2
          obtain ⟨L, hL⟩ : ∃ L, L = c.cons.getD m 0 := ⟨_, rfl⟩
          rw [← hL] at px hsn hLL
          have plc := (hB2.out.cell (World.block_lt_of_cell? _ _ HLC.out)).trans HLC.out
          obtain ⟨U, hU⟩ : ∃ u, u = k1.val VK L := ⟨_, rfl⟩
          have HV1 : Hid (∀ j, Calls Try.prog 36 #[.slice (some ⟨rb, ro, none⟩) NV rc, .int .u32 L] (wr.drewN j) fun e w' => e = .returned (.int .u8 (U.toNat : Int)) ∧ w' = wr.drewN j) := fun j => by
            have h1 := refvalue_any VK (some ⟨rb, ro, none⟩) NV rc L (wr.drewN j) ((HRS.out.below hB2.out).below (ext_drewN wr j)) hLL.2
            rw [valueL_eq (by rw [HVKL.out]; exact hLL.1) HVKA.out, ← hU] at h1
            exact h1
          have HNEW : Hid (and1 y U.toNat = (k1.cons VK A (c.cons.take (m + 1))).toNat) := by
            show _ = _
            rw [hsn, Kd.cons_snoc, an_toNat, ← hy.out, hU]
          obtain ⟨un, hun⟩ : ∃ n : Nat, n = U.toNat := ⟨_, rfl⟩
          rw [← hun] at HV1 HNEW
          obtain ⟨z, hz⟩ : ∃ z, z = and1 y un := ⟨_, rfl⟩
          have HAN := rand1_any y un
          rw [← hz] at HAN HNEW
          have HAN2 := Lib.hid HAN
          have hI3 : (m : Int) < (s.n5 : Int) := by omega
          have hI4 : (0 : Int) ≤ (m : Int) := by omega
          have W2' : IntKind.i64.wrap ((m : Int) + 1) = (m : Int) + 1 := IntWalk.i64_in _ (by omega)
          have HB2 := Lib.hid hB2.out
          clear hc5 hsn hLL hL hU hun hz HAN hy hB2
          go_wp2
          go_quiet ((first | (go_at_call 36; exact Calls.quiet_of_same (HV1.out _)) | (go_at_call 37; exact Calls.quiet_of_same (HAN2.out _))))
          clear q5 px plc
          rename_i nq2
          go_wp2
          go_roundw
          case rel => exact ⟨m + 1, z, by omega, by go_num, rfl, HNEW.out, ext_trans HB2.out (ext_drewN _ _)⟩
          case measure => simp [intOf]; omega
        · obtain rfl : m = s.n5 := by omega
          have hy2 : y = (k1.cons VK A c.cons).toNat := by
            have h1 := hy.out
            rw [List.take_of_length_le (by rw [HN5.out]; exact Nat.le_refl _)] at h1
            exact h1
          have HY2 : Hid (y = (rsum c (k1.run c t.init (t.frames.take (k + 1))) V0).toNat) := by show _ = _; rw [HSNOC.out]; exact hy2
          have HB2 := Lib.hid hB2.out
          clear hy2 hy hB2
          go_wp2
          go_roundw
          case rel => exact ⟨k + 1, y, by omega, by go_num, rfl, HY2.out, ext_trans HBW.out HB2.out⟩
          case measure => simp [intOf]; omega
    · obtain rfl : k = N := by omega
      have hx2 : x = (k1.verdict c nb t.init t.frames).toNat := by
        have h1 := hx.out
        rw [List.take_of_length_le (by rw [← HNL.out]; exact Nat.le_refl _)] at h1
        rw [HVD2.out]
        exact h1
      have HR : Hid (E = .returned (.tuple #[.int .u8 (x : Int), .int .i64 0])) := by show _ = _; rw [HO.out, hx2]; rfl
      have HBE := Lib.hid (ext_trans HB3.out hB.out)
      clear hx2 hx hB
      go_wp2
      refine bodyPost_ret (v := .tuple #[.int .u8 (x : Int), .int .i64 0]) ?_ rfl ?_
      · simp [results, Try.results27, go_sem]
      · exact ⟨by rw [HR.out], HBE.out⟩
end Go.Proofs.Ytgpkghlhlabjcaa
/- The reference's Fails, by its contract. -/
namespace Go.Proofs.Ytgpkghlhlabjcaa
open Go Go.RowKit Go.Joins

set_option maxRecDepth 100000 in
set_option maxHeartbeats 6400000 in
theorem rfails_any (c : NormC) (t : TraceC) (s : CSlots) (st : TSlots) (w : World) (h : SeesCir w s c) (ht : SeesTr w st t) (hs : s.small) (hst : st.small) (hlo : -9223372036854775808 ≤ c.ins) (hhi : c.ins < 9223372036854775808) (hb1 : -9223372036854775808 ≤ t.bad ∧ t.bad < 9223372036854775808) (hw : Wide c) :
    Calls Try.prog 18 #[cirV c.ins s, traceV t.bad st] w fun e w' => e = failsE c t ∧ Below w.heap.size w w' := by
  have HFIT := Lib.hid (fun W (hb : Below w.heap.size w W) => reffits_any c t s st W (h.below hb) (ht.below hb) hs hst hlo hhi hb1 hw)
  have HREAD := Lib.hid (fun W (hb : Below w.heap.size w W) => refread_any t st W (ht.below hb) hst)
  have HSU := Lib.hid (fun (st' : TSlots) W (hb : Below w.heap.size w W) (ht' : SeesTr W st' (readT t)) (hs' : st'.small) => rsurely_any c (readT t) s st' W (h.below hb) ht' hs hs' hlo hhi hb1 hw)
  have hfb : (readT t).bad = t.bad := rfl
  rw [hfb] at HSU
  have HE : Hid (failsE c t = if fitsS c t = true then .returned (.tuple #[.bool (decide ((k1.verdict c t.bad.toNat (readT t).init (readT t).frames).toNat = 1)), .int .i64 0]) else .returned (.tuple #[.bool false, .int .i64 2])) := rfl
  obtain ⟨E, hE⟩ : ∃ E, E = failsE c t := ⟨_, rfl⟩
  rw [← hE] at HE ⊢
  have HSE : Hid (fitsS c t = true → surelyE c (readT t) = .returned (.tuple #[bv (k1.verdict c t.bad.toNat (readT t).init (readT t).frames), .int .i64 0])) := fun hq => by
    unfold surelyE
    rw [if_pos (fits_iff.2 (fits_iff.1 hq).read)]
    rfl
  obtain ⟨SE, hSE⟩ : ∃ E, E = surelyE c (readT t) := ⟨_, rfl⟩
  rw [← hSE] at HSU HSE
  obtain ⟨q, hq⟩ : ∃ q, q = fitsS c t := ⟨_, rfl⟩
  rw [← hq] at HFIT HE HSE
  clear hfb hE hSE hq h ht hs hst hlo hhi hb1 hw
  unfold cirV traceV at *
  go_enter Try.func18, Try.ntmps18
  go_upto_region 1 with fail
  generalize hW : World.alloc (World.alloc w _) _ = W1
  have hb : Below w.heap.size w W1 := by subst hW; exact ext_trans (ext_alloc _ _) (ext_alloc _ _)
  have hx : W1.heap[w.heap.size]? = some (.cells #[.int .i64 c.ins, .slice s.a1 s.n1 s.c1, .slice s.a2 s.n2 s.c2, .slice s.a3 s.n3 s.c3, .slice s.a4 s.n4 s.c4, .slice s.a5 s.n5 s.c5] 26 (0, 0)) := by subst hW; exact heap_below (heap_new _ _ _ rfl) (ext_alloc _ _)
  have hy : W1.heap[w.heap.size + 1]? = some (.cells #[.int .i64 t.bad, .slice st.a1 st.n1 st.c1, .slice st.a2 st.n2 st.c2] 30 (0, 0)) := by subst hW; exact heap_new _ _ _ (by simp)
  have HB := Lib.hid hb
  have HX := Lib.hid hx
  have HY := Lib.hid hy
  clear hW hb hx hy
  have p0 := cell_of_block HX.out 0
  have p1 := cell_of_block HX.out 1
  have p2 := cell_of_block HX.out 2
  have p3 := cell_of_block HX.out 3
  have p4 := cell_of_block HX.out 4
  have p5 := cell_of_block HX.out 5
  have r0 := cell_of_block HY.out 0
  have r1 := cell_of_block HY.out 1
  have r2 := cell_of_block HY.out 2
  go_wp2_with fail
  refine (HFIT.out W1 HB.out).mono ?_
  rintro e W2 ⟨rfl, hb⟩
  have HX2 := Lib.hid (heap_below HX.out hb)
  have HY2 := Lib.hid (heap_below HY.out hb)
  have HB2 := Lib.hid (ext_trans HB.out hb)
  clear p0 p1 p2 p3 p4 p5 r0 r1 r2 HX HY HB hb HFIT
  cases q with
  | false =>
    go_wp2
    refine bodyPost_ret (v := .tuple #[.bool false, .int .i64 2]) ?_ rfl ?_
    · simp [results, Try.results18, go_sem]
    · exact ⟨by rw [HE.out]; rfl, HB2.out⟩
  | true =>
  have hse := HSE.out rfl
  obtain ⟨RV, hRV⟩ : ∃ v, v = k1.verdict c t.bad.toNat (readT t).init (readT t).frames := ⟨_, rfl⟩
  rw [← hRV] at HE hse
  obtain ⟨vn, hvn⟩ : ∃ n : Nat, n = RV.toNat := ⟨_, rfl⟩
  have hbv : bv RV = .int .u8 (vn : Int) := by rw [hvn]; rfl
  rw [hbv] at hse
  rw [← hvn] at HE
  have HSE2 := Lib.hid hse
  have HS0 := Lib.hid (keep63 HX2.out HY2.out)
  clear hse hRV hvn hbv HSE
  go_upto_region 3 with fail
  refine wp_region_noPanic ?_
  refine wp_region_held (S := fun w' => w'.cell? ⟨w.heap.size, 0, none⟩ = some (.int .i64 c.ins) ∧ w'.cell? ⟨w.heap.size, 1, none⟩ = some (.slice s.a1 s.n1 s.c1) ∧ w'.cell? ⟨w.heap.size, 2, none⟩ = some (.slice s.a2 s.n2 s.c2) ∧ w'.cell? ⟨w.heap.size, 3, none⟩ = some (.slice s.a3 s.n3 s.c3) ∧ w'.cell? ⟨w.heap.size, 4, none⟩ = some (.slice s.a4 s.n4 s.c4) ∧ w'.cell? ⟨w.heap.size, 5, none⟩ = some (.slice s.a5 s.n5 s.c5) ∧ w'.cell? ⟨w.heap.size + 1, 0, none⟩ = some (.int .i64 t.bad) ∧ w'.cell? ⟨w.heap.size + 1, 1, none⟩ = some (.slice st.a1 st.n1 st.c1) ∧ w'.cell? ⟨w.heap.size + 1, 2, none⟩ = some (.slice st.a2 st.n2 st.c2)) (by kernel_rfl) ?_
  generalize hY : ({ W2 with drawn := W2.drawn + 1 } : World) = Y0
  have hY0 : Below W2.heap.size W2 Y0 := by subst hY; exact (Below.refl _ _).drew
  have HSD := Lib.hid (keep9 HS0.out hY0)
  have HYB := Lib.hid (ext_trans HB2.out hY0)
  clear hY0 hY
  refine wpAnyH_take (i := 0) (v := ?_) (by simp only [List.getElem?_toArray, List.getElem?_cons_zero]; rfl) (by kernel_rfl) (by kernel_rfl) (by kernel_rfl) (fun _ _ _ h => h) (Or.inl ⟨by rfl, ?_⟩) HSD.out ?_
  rotate_left
  · intro w hSw
    (try dsimp only at hSw)
    obtain ⟨q0_, q1_, q2_, q3_, q4_, q5_, q6_, q7_, q8_⟩ := hSw
    go_simp
    try with_reducible rfl
  try simp only [Act.put, List.setIfInBounds_toArray, List.set_cons_zero, List.set_cons_succ]
  refine wpAnyH_take (i := 1) (v := ?_) (by simp only [List.getElem?_toArray, List.getElem?_cons_zero, List.getElem?_cons_succ]; rfl) (by kernel_rfl) (by kernel_rfl) (by kernel_rfl) (fun _ _ _ h => h) (Or.inl ⟨by rfl, ?_⟩) HSD.out ?_
  rotate_left
  · intro w hSw
    (try dsimp only at hSw)
    obtain ⟨q0_, q1_, q2_, q3_, q4_, q5_, q6_, q7_, q8_⟩ := hSw
    go_simp
    try with_reducible rfl
  try simp only [Act.put, List.setIfInBounds_toArray, List.set_cons_zero, List.set_cons_succ]
  refine wpAnyH_ready (rs := [2]) (by kernel_rfl) (by simp) ?_
  refine AllReadyH.cons (by simp only [List.getElem?_toArray, List.getElem?_cons_zero, List.getElem?_cons_succ]; rfl) (fun K hK => ?_) AllReadyH.nil
  go_simp
  refine (HREAD.out _ HYB.out).mono ?_
  rintro e s1 ⟨st', rfl, ht', hs', b1⟩
  have HT1 := Lib.hid ht'
  have HSM1 := Lib.hid hs'
  have HB3 := Lib.hid (ext_trans HYB.out b1)
  have HS1 := Lib.hid (keep9 HSD.out b1)
  clear b1 ht' hs'
  refine hK.out _ _ HS1.out (fun _ => ?_)
  clear hK K
  try simp only [Act.put, List.setIfInBounds_toArray, List.set_cons_zero, List.set_cons_succ]
  refine wpAnyH_ready (rs := [3]) (by kernel_rfl) (by simp) ?_
  refine AllReadyH.cons (by simp only [List.getElem?_toArray, List.getElem?_cons_zero, List.getElem?_cons_succ]; rfl) (fun K hK => ?_) AllReadyH.nil
  go_simp
  refine (HSU.out st' _ HB3.out HT1.out HSM1.out).mono ?_
  rintro e s2 ⟨rfl, b2⟩
  have HB4 := Lib.hid (ext_trans HB3.out b2)
  have HS2 := Lib.hid (keep9 HS1.out b2)
  clear b2
  rw [HSE2.out]
  refine hK.out _ _ HS2.out (fun _ => ?_)
  clear hK K
  try simp only [Act.put, List.setIfInBounds_toArray, List.set_cons_zero, List.set_cons_succ]
  refine wpAnyH_take (i := 4) (v := ?_) (by simp only [List.getElem?_toArray, List.getElem?_cons_zero, List.getElem?_cons_succ]; rfl) (by kernel_rfl) (by kernel_rfl) (by kernel_rfl) (fun _ _ _ h => h) (Or.inl ⟨by rfl, ?_⟩) HS2.out ?_
  rotate_left
  · intro w hSw
    (try dsimp only at hSw)
    obtain ⟨q0_, q1_, q2_, q3_, q4_, q5_, q6_, q7_, q8_⟩ := hSw
    go_simp
    try with_reducible rfl
  try simp only [Act.put, List.setIfInBounds_toArray, List.set_cons_zero, List.set_cons_succ]
  refine wpAnyH_take (i := 5) (v := ?_) (by simp only [List.getElem?_toArray, List.getElem?_cons_zero, List.getElem?_cons_succ]; rfl) (by kernel_rfl) (by kernel_rfl) (by kernel_rfl) (fun _ _ _ h => h) (Or.inl ⟨by rfl, ?_⟩) HS2.out ?_
  rotate_left
  · intro w hSw
    (try dsimp only at hSw)
    obtain ⟨q0_, q1_, q2_, q3_, q4_, q5_, q6_, q7_, q8_⟩ := hSw
    go_simp
    try with_reducible rfl
  try simp only [Act.put, List.setIfInBounds_toArray, List.set_cons_zero, List.set_cons_succ]
  refine wpAnyH_take (i := 6) (v := ?_) (by simp only [List.getElem?_toArray, List.getElem?_cons_zero, List.getElem?_cons_succ]; rfl) (by kernel_rfl) (by kernel_rfl) (by kernel_rfl) (fun _ _ _ h => h) (Or.inl ⟨by rfl, ?_⟩) HS2.out ?_
  rotate_left
  · intro w hSw
    (try dsimp only at hSw)
    obtain ⟨q0_, q1_, q2_, q3_, q4_, q5_, q6_, q7_, q8_⟩ := hSw
    go_simp
    try with_reducible rfl
  try simp only [Act.put, List.setIfInBounds_toArray, List.set_cons_zero, List.set_cons_succ]
  refine wpAnyH_take (i := 7) (v := ?_) (by simp only [List.getElem?_toArray, List.getElem?_cons_zero, List.getElem?_cons_succ]; rfl) (by kernel_rfl) (by kernel_rfl) (by kernel_rfl) (fun _ _ _ h => h) (Or.inl ⟨by rfl, ?_⟩) HS2.out ?_
  rotate_left
  · intro w hSw
    (try dsimp only at hSw)
    obtain ⟨q0_, q1_, q2_, q3_, q4_, q5_, q6_, q7_, q8_⟩ := hSw
    go_simp
    try with_reducible rfl
  try simp only [Act.put, List.setIfInBounds_toArray, List.set_cons_zero, List.set_cons_succ]
  refine wpAnyH_take (i := 8) (v := ?_) (by simp only [List.getElem?_toArray, List.getElem?_cons_zero, List.getElem?_cons_succ]; rfl) (by kernel_rfl) (by kernel_rfl) (by kernel_rfl) (fun _ _ _ h => h) (Or.inl ⟨by rfl, ?_⟩) HS2.out ?_
  rotate_left
  · intro w hSw
    (try dsimp only at hSw)
    obtain ⟨q0_, q1_, q2_, q3_, q4_, q5_, q6_, q7_, q8_⟩ := hSw
    go_simp
    try with_reducible rfl
  try simp only [Act.put, List.setIfInBounds_toArray, List.set_cons_zero, List.set_cons_succ]
  refine wpAnyH_done (by kernel_rfl) ?_ _
  refine NoPanic.normal ?_
  have hdec : ((vn : Int) == 1) = decide (vn = 1) := by rw [Bool.eq_iff_iff]; simp; omega
  go_wp2
  refine bodyPost_ret (v := .tuple #[.bool (decide (vn = 1)), .int .i64 0]) ?_ rfl ?_
  · simp [results, Try.results18, go_sem]
  · exact ⟨by rw [HE.out]; rfl, HB4.out⟩
end Go.Proofs.Ytgpkghlhlabjcaa
/- inquestref08.States, by its contract. -/
namespace Go.Proofs.Ytgpkghlhlabjcaa
open Go Go.RowKit Go.Joins

/-- The slice (a, n, c) owns a row of slices that own rows. -/
structure OwnLR (w : World) (base : Nat) (a : Option Addr) (n c : Nat) (ss : List Slc) (FL : List (List UInt8)) : Prop where
  len : FL.length = n
  lens : ss.length = n
  row : w.ownsRow base 27 1 (.slice a n c) n (ss.map slV)
  rows : ∀ j, j < n → w.ownsRow base 5 1 (slV (ss.getD j slc0)) (FL.getD j []).length ((FL.getD j []).map bv)
theorem OwnLR.sees {w : World} {base : Nat} {a : Option Addr} {n c : Nat} {ss : List Slc} {FL : List (List UInt8)} (h : OwnLR w base a n c ss FL) : SeesF w a n c ss FL :=
  ⟨(owns_sees_slice h.row).2, by rw [h.len, h.lens], fun k hk => (owns_sees_slice (h.rows k (by rw [← h.len]; exact hk))).2⟩
theorem OwnLR.below {w w' : World} {base : Nat} {a : Option Addr} {n c : Nat} {ss : List Slc} {FL : List (List UInt8)} (h : OwnLR w base a n c ss FL) (hb : Below w.heap.size w w') : OwnLR w' base a n c ss FL :=
  ⟨h.len, h.lens, ownsN_below h.row hb, fun j hj => ownsN_below (h.rows j hj) hb⟩
theorem OwnLR.move {w w' : World} {base : Nat} {a : Option Addr} {n c : Nat} {ss : List Slc} {FL : List (List UInt8)} (h : OwnLR w base a n c ss FL) (hk : ∀ D, base ≤ D → w'.heap[D]? = w.heap[D]?) : OwnLR w' base a n c ss FL :=
  ⟨h.len, h.lens, ownsN_other h.row fun q hq => hk q (h.row.lt q hq).1, fun j hj => ownsN_other (h.rows j hj) fun q hq => hk q ((h.rows j hj).lt q hq).1⟩
theorem OwnLR.base_le {w : World} {base b2 : Nat} {a : Option Addr} {n c : Nat} {ss : List Slc} {FL : List (List UInt8)} (h : OwnLR w base a n c ss FL) (hb : b2 ≤ base) : OwnLR w b2 a n c ss FL :=
  ⟨h.len, h.lens, ownsN_base_le h.row hb, fun j hj => ownsN_base_le (h.rows j hj) hb⟩
theorem OwnLR.nil (w : World) (base : Nat) : OwnLR w base none 0 0 [] [] := ⟨rfl, rfl, ⟨rfl, .inl ⟨rfl, rfl⟩⟩, fun j hj => absurd hj (by omega)⟩
/-- What States answers. -/
def RStsPost (c : NormC) (t : TraceC) (w : World) (e : Ending) (w' : World) : Prop :=
  ∃ (a : Option Addr) (n cc : Nat) (ss : List Slc), e = .returned (.tuple #[.slice a n cc, .int .i64 (if fitsS c t = true then 0 else 2)]) ∧ OwnLR w' w.heap.size a n cc ss (statesO c t) ∧ smallF ss ∧ Below w.heap.size w w'
/-- While the states are taken. -/
structure RsInv (B m : Nat) (T : List (List UInt8)) (W0 : World) (k : Nat) (ga : Option Addr) (gc : Nat) (ss : List Slc) (W : World) : Prop where
  len : ss.length = k
  row : W.ownsRow B 27 1 (.slice ga k gc) k (ss.map slV)
  rows : ∀ j, j < k → W.ownsRow B 5 1 (slV (ss.getD j slc0)) m ((T.getD j []).map bv)
  low : Below B W0 W
theorem RsInv.sees {B m : Nat} {T : List (List UInt8)} {W0 : World} {k : Nat} {ga : Option Addr} {gc : Nat} {ss : List Slc} {W : World} (h : RsInv B m T W0 k ga gc ss W) (hT : T.length = k) (hm : m ≤ 1048576) : OwnLR W B ga k gc ss T ∧ smallF ss := by
  refine ⟨⟨hT, h.len, h.row, fun j hj => ?_⟩, ?_⟩
  · have h1 := h.rows j hj
    have h2 := h1.1
    have h3 : m = (T.getD j []).length := by simpa using h2.symm
    rw [h3] at h1
    exact h1
  refine all_of_getD (d := slc0) fun j hj => ?_
  have := (owns_sees_slice (h.rows j (by rw [← h.len]; exact hj))).1
  omega

set_option maxRecDepth 100000 in
set_option maxHeartbeats 6400000 in
theorem rstates_any (c : NormC) (t : TraceC) (s : CSlots) (st : TSlots) (w : World) (h : SeesCir w s c) (ht : SeesTr w st t) (hs : s.small) (hst : st.small) (hlo : -9223372036854775808 ≤ c.ins) (hhi : c.ins < 9223372036854775808) (hb1 : -9223372036854775808 ≤ t.bad ∧ t.bad < 9223372036854775808) (hw : Wide c) :
    Calls Try.prog 9 #[cirV c.ins s, traceV t.bad st] w (RStsPost c t w) := by
  obtain ⟨iS, hiS, hzS0, hzS1, hzS2⟩ := info_parts info_u8s
  obtain ⟨iB, hiB, hzB0, hzB1, hzB2⟩ := info_parts info_byte
  have HFIT := Lib.hid (fun W (hb : Below w.heap.size w W) => reffits_any c t s st W (h.below hb) (ht.below hb) hs hst hlo hhi hb1 hw)
  have HREAD := Lib.hid (fun W (hb : Below w.heap.size w W) => refread_any t st W (ht.below hb) hst)
  have HRUN : Hid (∀ (st' : TSlots) W, Below w.heap.size w W → SeesTr W st' (readT t) → st'.small → Calls Try.prog 22 #[cirV c.ins s, traceV t.bad st'] W (RunPost c (readT t) W)) :=
    fun st' W hb h1 h2 => rrun_any c (readT t) s st' W (h.below hb) h1 hs h2 hlo hhi hb1 hw
  have hn1 : c.lats.length = s.n1 := h.s1.1
  obtain ⟨qr, hqr⟩ : ∃ q, q = fitsS c (readT t) := ⟨_, rfl⟩
  obtain ⟨q, hq⟩ : ∃ q, q = fitsS c t := ⟨_, rfl⟩
  obtain ⟨n, hn⟩ : ∃ n, n = t.frames.length := ⟨_, rfl⟩
  have hnl : (readT t).frames.length = n := by rw [hn]; simp [readT]
  have HQQ : Hid (q = true → qr = true) := by rw [hq, hqr]; exact fun h => fits_iff.2 (fits_iff.1 h).read
  have HRP : Hid (∀ W e W', RunPost c (readT t) W e W' → (qr = true → ∃ (a : Option Addr) (cc : Nat) (ss : List Slc), e = .returned (.tuple #[.slice a n cc, .int .i64 0]) ∧ SeesF W' a n cc ss (runL c (readT t))) ∧ (qr = false → e = .returned (.tuple #[.slice none 0 0, .int .i64 2])) ∧ Below W.heap.size W W') := by
    rintro W e W' ⟨p1, p2, p3⟩
    rw [hqr]
    refine ⟨fun hq => ?_, p2, p3⟩
    obtain ⟨v, ss, rfl, q1, q2, q3⟩ := p1 hq
    rw [hnl] at q1 q2 q3
    obtain ⟨a, cc, rfl⟩ := ownsN_form q2
    refine ⟨a, cc, ss, rfl, ⟨(owns_sees_slice q2).2, by rw [q1]; simp [runL, hnl], fun k hk => ?_⟩⟩
    have hk' : k < n := by simpa [runL, hnl] using hk
    have e1 : (runL c (readT t)).getD k [] = varsAt c (readT t) k := by simp [runL, List.getD, hnl, hk']
    rw [e1]
    exact (row_sees_slice (q3 k hk')).2
  have HPN : Hid (∀ w', q = false → Below w.heap.size w w' → RStsPost c t w (.returned (.tuple #[.slice none 0 0, .int .i64 2])) w') := by
    rw [hq]; intro w' h1 h2
    refine ⟨none, 0, 0, [], by simp [h1], ?_, (fun x hx => by cases hx), h2⟩
    rw [show statesO c t = [] from if_neg (by rw [h1]; decide)]
    exact OwnLR.nil w' _
  obtain ⟨T, hT⟩ : ∃ T, T = statesL c t := ⟨_, rfl⟩
  have HTL : Hid (T.length = n) := by unfold Hid; rw [hT, statesL_len, hn]
  have HPY : Hid (∀ w' (a : Option Addr) (cc : Nat) (ss : List Slc), q = true → OwnLR w' w.heap.size a n cc ss T → smallF ss → Below w.heap.size w w' → RStsPost c t w (.returned (.tuple #[.slice a n cc, .int .i64 0])) w') := by
    rw [hq, hT]; intro w' a cc ss h1 h2 h3 h4
    refine ⟨a, n, cc, ss, by simp [h1], ?_, h3, h4⟩
    rw [show statesO c t = statesL c t from if_pos h1]
    exact h2
  obtain ⟨FL, hFL⟩ : ∃ FL, FL = runL c (readT t) := ⟨_, rfl⟩
  rw [← hFL] at HRP
  have HYES : Hid (q = true → ∃ I : Nat, c.ins = (I : Int) ∧ 1 + I + s.n1 ≤ 1048576 ∧ n ≤ 256 ∧ (∀ k, k < n → 1 + I + s.n1 ≤ (FL.getD k []).length ∧ T.getD k [] = ((FL.getD k []).drop (1 + I)).take s.n1)) := by
    rw [hq, hFL, hT]
    intro h1
    have hF := fits_iff.1 h1
    have hR := hF.read
    have hi0 : (0 : Int) ≤ c.ins := by have := hF.frames 0 hF.one; omega
    have hfew := hF.may.few
    unfold varsN at hfew
    refine ⟨c.ins.toNat, (Int.toNat_of_nonneg hi0).symm, by omega, by rw [hn]; exact hF.few, fun k hk => ?_⟩
    have e1 : (runL c (readT t)).getD k [] = varsAt c (readT t) k := by simp [runL, List.getD, hnl, hk]
    have e2 := varsAt_len c (readT t) hR.init hR.frames k (by rw [hnl]; exact hk)
    unfold varsN at e2
    rw [e1]
    refine ⟨by omega, ?_⟩
    rw [statesL_at c t (by rw [← hn]; exact hk), ← hn1, varsAt_state hR (by rw [hnl]; exact hk)]
  rw [← hq] at HFIT
  clear hnl hn hq hqr hT hFL hn1 h ht hs hst hlo hhi hb1 hw
  unfold cirV traceV at *
  go_enter Try.func9, Try.ntmps9
  go_upto_region 1 with fail
  generalize hW : World.alloc (World.alloc w _) _ = W1
  have hb : Below w.heap.size w W1 := by subst hW; exact ext_trans (ext_alloc _ _) (ext_alloc _ _)
  have hx : W1.heap[w.heap.size]? = some (.cells #[.int .i64 c.ins, .slice s.a1 s.n1 s.c1, .slice s.a2 s.n2 s.c2, .slice s.a3 s.n3 s.c3, .slice s.a4 s.n4 s.c4, .slice s.a5 s.n5 s.c5] 26 (0, 0)) := by subst hW; exact heap_below (heap_new _ _ _ rfl) (ext_alloc _ _)
  have hy : W1.heap[w.heap.size + 1]? = some (.cells #[.int .i64 t.bad, .slice st.a1 st.n1 st.c1, .slice st.a2 st.n2 st.c2] 30 (0, 0)) := by subst hW; exact heap_new _ _ _ (by simp)
  have HB := Lib.hid hb
  have HX := Lib.hid hx
  have HY := Lib.hid hy
  have HS0 := Lib.hid (keep63 hx hy)
  clear hW hb hx hy
  refine wp_region_noPanic ?_
  refine wp_region_held (S := fun w' => w'.cell? ⟨w.heap.size, 0, none⟩ = some (.int .i64 c.ins) ∧ w'.cell? ⟨w.heap.size, 1, none⟩ = some (.slice s.a1 s.n1 s.c1) ∧ w'.cell? ⟨w.heap.size, 2, none⟩ = some (.slice s.a2 s.n2 s.c2) ∧ w'.cell? ⟨w.heap.size, 3, none⟩ = some (.slice s.a3 s.n3 s.c3) ∧ w'.cell? ⟨w.heap.size, 4, none⟩ = some (.slice s.a4 s.n4 s.c4) ∧ w'.cell? ⟨w.heap.size, 5, none⟩ = some (.slice s.a5 s.n5 s.c5) ∧ w'.cell? ⟨w.heap.size + 1, 0, none⟩ = some (.int .i64 t.bad) ∧ w'.cell? ⟨w.heap.size + 1, 1, none⟩ = some (.slice st.a1 st.n1 st.c1) ∧ w'.cell? ⟨w.heap.size + 1, 2, none⟩ = some (.slice st.a2 st.n2 st.c2)) (by kernel_rfl) ?_
  generalize hY : ({ W1 with drawn := W1.drawn + 1 } : World) = Y0
  have hY0 : Below W1.heap.size W1 Y0 := by subst hY; exact (Below.refl _ _).drew
  have HSD := Lib.hid (keep9 HS0.out hY0)
  have HYB := Lib.hid (ext_trans HB.out hY0)
  have HYY := Lib.hid hY0
  clear hY0 hY
  refine wpAnyH_take (i := 0) (v := ?_) (by simp only [List.getElem?_toArray, List.getElem?_cons_zero]; rfl) (by kernel_rfl) (by kernel_rfl) (by kernel_rfl) (fun _ _ _ h => h) (Or.inl ⟨by rfl, ?_⟩) HSD.out ?_
  rotate_left
  · intro w hSw
    (try dsimp only at hSw)
    obtain ⟨q0_, q1_, q2_, q3_, q4_, q5_, q6_, q7_, q8_⟩ := hSw
    go_simp
    try with_reducible rfl
  try simp only [Act.put, List.setIfInBounds_toArray, List.set_cons_zero, List.set_cons_succ]
  refine wpAnyH_take (i := 1) (v := ?_) (by simp only [List.getElem?_toArray, List.getElem?_cons_zero, List.getElem?_cons_succ]; rfl) (by kernel_rfl) (by kernel_rfl) (by kernel_rfl) (fun _ _ _ h => h) (Or.inl ⟨by rfl, ?_⟩) HSD.out ?_
  rotate_left
  · intro w hSw
    (try dsimp only at hSw)
    obtain ⟨q0_, q1_, q2_, q3_, q4_, q5_, q6_, q7_, q8_⟩ := hSw
    go_simp
    try with_reducible rfl
  try simp only [Act.put, List.setIfInBounds_toArray, List.set_cons_zero, List.set_cons_succ]
  refine wpAnyH_ready (rs := [2]) (by kernel_rfl) (by simp) ?_
  refine AllReadyH.cons (by simp only [List.getElem?_toArray, List.getElem?_cons_zero, List.getElem?_cons_succ]; rfl) (fun K hK => ?_) AllReadyH.nil
  go_simp
  refine (HREAD.out _ HYB.out).mono ?_
  rintro e s1 ⟨st', rfl, ht', hs', b1⟩
  have HT1 := Lib.hid ht'
  have HSM1 := Lib.hid hs'
  have HB3 := Lib.hid (ext_trans HYB.out b1)
  have HY3 := Lib.hid (ext_trans HYY.out b1)
  have HS1 := Lib.hid (keep9 HSD.out b1)
  clear b1 ht' hs'
  refine hK.out _ _ HS1.out (fun _ => ?_)
  clear hK K
  try simp only [Act.put, List.setIfInBounds_toArray, List.set_cons_zero, List.set_cons_succ]
  refine wpAnyH_ready (rs := [3]) (by kernel_rfl) (by simp) ?_
  refine AllReadyH.cons (by simp only [List.getElem?_toArray, List.getElem?_cons_zero, List.getElem?_cons_succ]; rfl) (fun K hK => ?_) AllReadyH.nil
  go_simp
  refine (HRUN.out st' _ HB3.out HT1.out HSM1.out).mono ?_
  rintro e s2 hp
  obtain ⟨h1, h0, b2⟩ := HRP.out _ _ _ hp
  have HB4 := Lib.hid (ext_trans HB3.out b2)
  have HY4 := Lib.hid (ext_trans HY3.out b2)
  have HS2 := Lib.hid (keep9 HS1.out b2)
  clear b2 hp HRP HRUN HREAD
  have HX4 := Lib.hid (heap_below HX.out HY4.out)
  have HY5 := Lib.hid (heap_below HY.out HY4.out)
  clear HX HY HB HYY HY3 HB3
  cases qr with
  | false =>
    have hq0 : q = false := by
      cases q with
      | false => rfl
      | true => exact absurd (HQQ.out rfl) (by decide)
    subst hq0
    obtain rfl := h0 rfl
    refine hK.out _ _ HS2.out (fun _ => ?_)
    clear hK K
    try simp only [Act.put, List.setIfInBounds_toArray, List.set_cons_zero, List.set_cons_succ]
    refine wpAnyH_take (i := 4) (v := ?_) (by simp only [List.getElem?_toArray, List.getElem?_cons_zero, List.getElem?_cons_succ]; rfl) (by kernel_rfl) (by kernel_rfl) (by kernel_rfl) (fun _ _ _ h => h) (Or.inl ⟨by rfl, ?_⟩) HS2.out ?_
    rotate_left
    · intro w hSw
      (try dsimp only at hSw)
      obtain ⟨q0_, q1_, q2_, q3_, q4_, q5_, q6_, q7_, q8_⟩ := hSw
      go_simp
      try with_reducible rfl
    try simp only [Act.put, List.setIfInBounds_toArray, List.set_cons_zero, List.set_cons_succ]
    refine wpAnyH_take (i := 5) (v := ?_) (by simp only [List.getElem?_toArray, List.getElem?_cons_zero, List.getElem?_cons_succ]; rfl) (by kernel_rfl) (by kernel_rfl) (by kernel_rfl) (fun _ _ _ h => h) (Or.inl ⟨by rfl, ?_⟩) HS2.out ?_
    rotate_left
    · intro w hSw
      (try dsimp only at hSw)
      obtain ⟨q0_, q1_, q2_, q3_, q4_, q5_, q6_, q7_, q8_⟩ := hSw
      go_simp
      try with_reducible rfl
    try simp only [Act.put, List.setIfInBounds_toArray, List.set_cons_zero, List.set_cons_succ]
    refine wpAnyH_take (i := 6) (v := ?_) (by simp only [List.getElem?_toArray, List.getElem?_cons_zero, List.getElem?_cons_succ]; rfl) (by kernel_rfl) (by kernel_rfl) (by kernel_rfl) (fun _ _ _ h => h) (Or.inl ⟨by rfl, ?_⟩) HS2.out ?_
    rotate_left
    · intro w hSw
      (try dsimp only at hSw)
      obtain ⟨q0_, q1_, q2_, q3_, q4_, q5_, q6_, q7_, q8_⟩ := hSw
      go_simp
      try with_reducible rfl
    try simp only [Act.put, List.setIfInBounds_toArray, List.set_cons_zero, List.set_cons_succ]
    refine wpAnyH_take (i := 7) (v := ?_) (by simp only [List.getElem?_toArray, List.getElem?_cons_zero, List.getElem?_cons_succ]; rfl) (by kernel_rfl) (by kernel_rfl) (by kernel_rfl) (fun _ _ _ h => h) (Or.inl ⟨by rfl, ?_⟩) HS2.out ?_
    rotate_left
    · intro w hSw
      (try dsimp only at hSw)
      obtain ⟨q0_, q1_, q2_, q3_, q4_, q5_, q6_, q7_, q8_⟩ := hSw
      go_simp
      try with_reducible rfl
    try simp only [Act.put, List.setIfInBounds_toArray, List.set_cons_zero, List.set_cons_succ]
    refine wpAnyH_take (i := 8) (v := ?_) (by simp only [List.getElem?_toArray, List.getElem?_cons_zero, List.getElem?_cons_succ]; rfl) (by kernel_rfl) (by kernel_rfl) (by kernel_rfl) (fun _ _ _ h => h) (Or.inl ⟨by rfl, ?_⟩) HS2.out ?_
    rotate_left
    · intro w hSw
      (try dsimp only at hSw)
      obtain ⟨q0_, q1_, q2_, q3_, q4_, q5_, q6_, q7_, q8_⟩ := hSw
      go_simp
      try with_reducible rfl
    try simp only [Act.put, List.setIfInBounds_toArray, List.set_cons_zero, List.set_cons_succ]
    refine wpAnyH_done (by kernel_rfl) ?_ _
    refine NoPanic.normal ?_
    clear h1 h0
    go_wp2
    refine bodyPost_ret (v := .tuple #[.slice none 0 0, .int .i64 2]) ?_ rfl (HPN.out _ (by first | rfl | trivial) HB4.out)
    simp [results, Try.results9, go_sem]
  | true =>
  obtain ⟨ra, rc, rss, rfl, hsee⟩ := h1 rfl
  have HSEE := Lib.hid hsee
  refine hK.out _ _ HS2.out (fun _ => ?_)
  clear hK K
  try simp only [Act.put, List.setIfInBounds_toArray, List.set_cons_zero, List.set_cons_succ]
  refine wpAnyH_take (i := 4) (v := ?_) (by simp only [List.getElem?_toArray, List.getElem?_cons_zero, List.getElem?_cons_succ]; rfl) (by kernel_rfl) (by kernel_rfl) (by kernel_rfl) (fun _ _ _ h => h) (Or.inl ⟨by rfl, ?_⟩) HS2.out ?_
  rotate_left
  · intro w hSw
    (try dsimp only at hSw)
    obtain ⟨q0_, q1_, q2_, q3_, q4_, q5_, q6_, q7_, q8_⟩ := hSw
    go_simp
    try with_reducible rfl
  try simp only [Act.put, List.setIfInBounds_toArray, List.set_cons_zero, List.set_cons_succ]
  refine wpAnyH_take (i := 5) (v := ?_) (by simp only [List.getElem?_toArray, List.getElem?_cons_zero, List.getElem?_cons_succ]; rfl) (by kernel_rfl) (by kernel_rfl) (by kernel_rfl) (fun _ _ _ h => h) (Or.inl ⟨by rfl, ?_⟩) HS2.out ?_
  rotate_left
  · intro w hSw
    (try dsimp only at hSw)
    obtain ⟨q0_, q1_, q2_, q3_, q4_, q5_, q6_, q7_, q8_⟩ := hSw
    go_simp
    try with_reducible rfl
  try simp only [Act.put, List.setIfInBounds_toArray, List.set_cons_zero, List.set_cons_succ]
  refine wpAnyH_take (i := 6) (v := ?_) (by simp only [List.getElem?_toArray, List.getElem?_cons_zero, List.getElem?_cons_succ]; rfl) (by kernel_rfl) (by kernel_rfl) (by kernel_rfl) (fun _ _ _ h => h) (Or.inl ⟨by rfl, ?_⟩) HS2.out ?_
  rotate_left
  · intro w hSw
    (try dsimp only at hSw)
    obtain ⟨q0_, q1_, q2_, q3_, q4_, q5_, q6_, q7_, q8_⟩ := hSw
    go_simp
    try with_reducible rfl
  try simp only [Act.put, List.setIfInBounds_toArray, List.set_cons_zero, List.set_cons_succ]
  refine wpAnyH_take (i := 7) (v := ?_) (by simp only [List.getElem?_toArray, List.getElem?_cons_zero, List.getElem?_cons_succ]; rfl) (by kernel_rfl) (by kernel_rfl) (by kernel_rfl) (fun _ _ _ h => h) (Or.inl ⟨by rfl, ?_⟩) HS2.out ?_
  rotate_left
  · intro w hSw
    (try dsimp only at hSw)
    obtain ⟨q0_, q1_, q2_, q3_, q4_, q5_, q6_, q7_, q8_⟩ := hSw
    go_simp
    try with_reducible rfl
  try simp only [Act.put, List.setIfInBounds_toArray, List.set_cons_zero, List.set_cons_succ]
  refine wpAnyH_take (i := 8) (v := ?_) (by simp only [List.getElem?_toArray, List.getElem?_cons_zero, List.getElem?_cons_succ]; rfl) (by kernel_rfl) (by kernel_rfl) (by kernel_rfl) (fun _ _ _ h => h) (Or.inl ⟨by rfl, ?_⟩) HS2.out ?_
  rotate_left
  · intro w hSw
    (try dsimp only at hSw)
    obtain ⟨q0_, q1_, q2_, q3_, q4_, q5_, q6_, q7_, q8_⟩ := hSw
    go_simp
    try with_reducible rfl
  try simp only [Act.put, List.setIfInBounds_toArray, List.set_cons_zero, List.set_cons_succ]
  refine wpAnyH_done (by kernel_rfl) ?_ _
  refine NoPanic.normal ?_
  clear h1 h0 hsee HS0 HSD HS1 HS2 HT1 HSM1 HYB
  have p0 := cell_of_block HX4.out 0
  have p1 := cell_of_block HX4.out 1
  have p2 := cell_of_block HX4.out 2
  have p3 := cell_of_block HX4.out 3
  have p4 := cell_of_block HX4.out 4
  have p5 := cell_of_block HX4.out 5
  have r0 := cell_of_block HY5.out 0
  have r1 := cell_of_block HY5.out 1
  have r2 := cell_of_block HY5.out 2
  go_wp2_with fail
  refine (HFIT.out _ HB4.out).mono ?_
  rintro e W5 ⟨rfl, b5⟩
  have HB5 := Lib.hid (ext_trans HB4.out b5)
  have HX5 := Lib.hid (heap_below HX4.out b5)
  have HSEE5 := Lib.hid (HSEE.out.below b5)
  clear p0 p1 p2 p3 p4 p5 r0 r1 r2 b5 HX4 HY5 HSEE HB4 HFIT
  cases q with
  | false =>
    go_wp2
    refine bodyPost_ret (v := .tuple #[.slice none 0 0, .int .i64 2]) ?_ rfl (HPN.out _ (by first | rfl | trivial) HB5.out)
    simp [results, Try.results9, go_sem]
  | true =>
  obtain ⟨I, hI, hI2, hn256, hfr⟩ := HYES.out (by first | rfl | trivial)
  rw [hI] at HX5
  have HFR := Lib.hid hfr
  clear hI hfr HYES
  obtain ⟨f1, hf1⟩ : ∃ f1, f1 = 1 + I := ⟨_, rfl⟩
  obtain ⟨m1, hm1⟩ : ∃ m1, m1 = 1 + I + s.n1 := ⟨_, rfl⟩
  have Wf : IntKind.i64.wrap (1 + (I : Int)) = (f1 : Int) := by rw [hf1]; rw [IntWalk.i64_in _ (by omega)]; omega
  have Wm : IntKind.i64.wrap ((f1 : Int) + (s.n1 : Int)) = (m1 : Int) := by rw [hf1, hm1]; rw [IntWalk.i64_in _ (by omega)]; omega
  have HF1 := Lib.hid hf1
  have HM1 := Lib.hid hm1
  have HI2 := Lib.hid hI2
  clear hf1 hm1 hI2
  go_wp2
  go_loopw [8, 9, 10] (fun l i _ wr => ∃ (k : Nat) (ga : Option Addr) (gc : Nat) (ss : List Slc), k ≤ n ∧ i = .int .i64 k ∧ l = .slice ga k gc ∧ Hid (RsInv W5.heap.size s.n1 T W5 k ga gc ss wr)) (fun _ i _ _ => n - (intOf i).toNat)
  case atStart => exact ⟨0, none, 0, [], Nat.zero_le _, rfl, rfl, rfl, ⟨rfl, .inl ⟨rfl, rfl⟩⟩, fun j hj => absurd hj (by omega), Below.refl _ _⟩
  case round =>
    obtain ⟨k, ga, gc, ss, hk, rfl, rfl, hI⟩ := hrel
    by_cases hlt : k < n
    · obtain ⟨lb, lo, rfl, hlb⟩ := HSEE5.out.row.addr (show 0 < n by omega)
      have HLB := Lib.hid hlb
      clear hlb
      have hS := HSEE5.out.below hI.out.low
      have hcx := hS.cellAt k hlt
      have hsee := hS.each k (by rw [hS.n_eq]; exact hlt)
      obtain ⟨hle, hTk⟩ := HFR.out k hlt
      obtain ⟨fr, hfr⟩ : ∃ fr, fr = FL.getD k [] := ⟨_, rfl⟩
      obtain ⟨x, hx⟩ : ∃ x : Slc, x = rss.getD k slc0 := ⟨_, rfl⟩
      rw [← hx] at hcx hsee
      rw [← hfr] at hsee hle hTk
      obtain ⟨ak, nk, ck⟩ := x
      simp only at hcx hsee
      have hnk : fr.length = nk := hsee.lenMap
      have hnc : nk ≤ ck := hsee.cap
      obtain ⟨kb, ko, rfl, hkb⟩ := hsee.addr (by omega)
      obtain ⟨ac, ec, sc⟩ := hsee.cut f1 m1 (by rw [HF1.out, HM1.out]; omega) (by rw [HM1.out, ← hnk]; exact hle)
      have hac : ∃ ad, ac = some ad := by
        have : sliced (some (⟨kb, ko, none⟩ : Addr)) f1 m1 ck 1 = .slice ac (m1 - f1) (ck - f1) := ec
        unfold sliced at this
        cases ac with
        | some ad => exact ⟨ad, rfl⟩
        | none => simp at this; split at this <;> cases this
      obtain ⟨ad, rfl⟩ := hac
      have q1 := fun W => (run_part (P := Try.prog) Try.underlying27 size_b8 W (some ⟨kb, ko, none⟩) nk ck f1 m1 (f1 : Int) (m1 : Int) rfl rfl (by rw [HF1.out, HM1.out]; omega) (by rw [HM1.out]; omega)).trans (congrArg (fun v => Result.ok v W) ec)
      have em : m1 - f1 = s.n1 := by rw [HF1.out, HM1.out]; omega
      have et : ((fr.map bv).take m1).drop f1 = (T.getD k []).map bv := by
        rw [hTk, List.drop_take, em, HF1.out, ← List.map_drop, ← List.map_take]
      rw [em] at q1 sc
      rw [et] at sc
      have HSC := Lib.hid sc
      have HI1 := Lib.hid hI.out
      have p0 : wr.cell? ⟨w.heap.size, 0, none⟩ = some (.int .i64 (I : Int)) := cell_of_block (heap_below HX5.out hI.out.low) 0
      have p1 : wr.cell? ⟨w.heap.size, 1, none⟩ = some (.slice s.a1 s.n1 s.c1) := cell_of_block (heap_below HX5.out hI.out.low) 1
      have hI1 : ((k : Nat) : Int) < (n : Int) := by omega
      have hI2 : (0 : Int) ≤ (k : Int) := by omega
      have W1' : IntKind.i64.wrap ((k : Int) + 1) = (k : Int) + 1 := IntWalk.i64_in _ (by omega)
      have HKN : Hid (k < n ∧ n ≤ 256) := ⟨hlt, hn256⟩
      clear hS hsee hle hTk hfr hx hnk hnc hkb ec sc em et hI
      go_upto_region 9 with fail
      have HSS := Lib.hid (And.intro p0 (And.intro p1 hcx))
      have HSSD := Lib.hid (keep3c HSS.out ((Below.refl _ wr).drew))
      have HYD := Lib.hid ((Below.refl wr.heap.size wr).drew)
      refine wp_region_noPanic ?_
      refine wp_region_held (S := fun w' => w'.cell? ⟨w.heap.size, 0, none⟩ = some (.int .i64 (I : Int)) ∧ w'.cell? ⟨w.heap.size, 1, none⟩ = some (.slice s.a1 s.n1 s.c1) ∧ w'.cell? ⟨lb, lo + k, none⟩ = some (.slice (some ⟨kb, ko, none⟩) nk ck)) (by kernel_rfl) ?_
      generalize hY2 : ({ wr with drawn := wr.drawn + 1 } : World) = Y0
      have hY0 : Below wr.heap.size wr Y0 := by subst hY2; exact (Below.refl _ _).drew
      have HSD2 := Lib.hid (keep3c HSS.out hY0)
      have HYB2 := Lib.hid hY0
      clear hY0 hY2 HSSD HYD
      refine wpAnyH_take (i := 0) (v := ?_) (by simp only [List.getElem?_toArray, List.getElem?_cons_zero]; rfl) (by kernel_rfl) (by kernel_rfl) (by kernel_rfl) (fun _ _ _ h => h) (Or.inl ⟨by rfl, ?_⟩) HSD2.out ?_
      rotate_left
      · intro w hSw
        (try dsimp only at hSw)
        obtain ⟨q0_, q1_, q2_⟩ := hSw
        go_simp
        try with_reducible rfl
      try simp only [Act.put, List.setIfInBounds_toArray, List.set_cons_zero, List.set_cons_succ]
      refine wpAnyH_take (i := 1) (v := ?_) (by simp only [List.getElem?_toArray, List.getElem?_cons_zero, List.getElem?_cons_succ]; rfl) (by kernel_rfl) (by kernel_rfl) (by kernel_rfl) (fun _ _ _ h => h) (Or.inl ⟨by rfl, ?_⟩) HSD2.out ?_
      rotate_left
      · intro w hSw
        (try dsimp only at hSw)
        obtain ⟨q0_, q1_, q2_⟩ := hSw
        go_simp
        try with_reducible rfl
      try simp only [Act.put, List.setIfInBounds_toArray, List.set_cons_zero, List.set_cons_succ]
      refine wpAnyH_take (i := 2) (v := ?_) (by simp only [List.getElem?_toArray, List.getElem?_cons_zero, List.getElem?_cons_succ]; rfl) (by kernel_rfl) (by kernel_rfl) (by kernel_rfl) (fun _ _ _ h => h) (Or.inl ⟨by rfl, ?_⟩) HSD2.out ?_
      rotate_left
      · intro w hSw
        (try dsimp only at hSw)
        obtain ⟨q0_, q1_, q2_⟩ := hSw
        go_simp
        try with_reducible rfl
      try simp only [Act.put, List.setIfInBounds_toArray, List.set_cons_zero, List.set_cons_succ]
      refine wpAnyH_take (i := 3) (v := ?_) (by simp only [List.getElem?_toArray, List.getElem?_cons_zero, List.getElem?_cons_succ]; rfl) (by kernel_rfl) (by kernel_rfl) (by kernel_rfl) (fun _ _ _ h => h) (Or.inl ⟨by rfl, ?_⟩) HSD2.out ?_
      rotate_left
      · intro w hSw
        (try dsimp only at hSw)
        obtain ⟨q0_, q1_, q2_⟩ := hSw
        go_simp
        try with_reducible rfl
      try simp only [Act.put, List.setIfInBounds_toArray, List.set_cons_zero, List.set_cons_succ]
      refine wpAnyH_take (i := 4) (v := ?_) (by simp only [List.getElem?_toArray, List.getElem?_cons_zero, List.getElem?_cons_succ]; rfl) (by kernel_rfl) (by kernel_rfl) (by kernel_rfl) (fun _ _ _ h => h) (Or.inl ⟨by rfl, ?_⟩) HSD2.out ?_
      rotate_left
      · intro w hSw
        (try dsimp only at hSw)
        obtain ⟨q0_, q1_, q2_⟩ := hSw
        go_simp
        try with_reducible rfl
      try simp only [Act.put, List.setIfInBounds_toArray, List.set_cons_zero, List.set_cons_succ]
      refine wpAnyH_take (i := 5) (v := ?_) (by simp only [List.getElem?_toArray, List.getElem?_cons_zero, List.getElem?_cons_succ]; rfl) (by kernel_rfl) (by kernel_rfl) (by kernel_rfl) (fun _ _ _ h => h) (Or.inl ⟨by rfl, ?_⟩) HSD2.out ?_
      rotate_left
      · intro w hSw
        (try dsimp only at hSw)
        obtain ⟨q0_, q1_, q2_⟩ := hSw
        go_simp
        try with_reducible rfl
      try simp only [Act.put, List.setIfInBounds_toArray, List.set_cons_zero, List.set_cons_succ]
      refine wpAnyH_take (i := 6) (v := ?_) (by simp only [List.getElem?_toArray, List.getElem?_cons_zero, List.getElem?_cons_succ]; rfl) (by kernel_rfl) (by kernel_rfl) (by kernel_rfl) (fun _ _ _ h => h) (Or.inl ⟨by rfl, ?_⟩) HSD2.out ?_
      rotate_left
      · intro w hSw
        (try dsimp only at hSw)
        obtain ⟨q0_, q1_, q2_⟩ := hSw
        go_simp
        try with_reducible rfl
      try simp only [Act.put, List.setIfInBounds_toArray, List.set_cons_zero, List.set_cons_succ]
      refine wpAnyH_take (i := 7) (v := ?_) (by simp only [List.getElem?_toArray, List.getElem?_cons_zero, List.getElem?_cons_succ]; rfl) (by kernel_rfl) (by kernel_rfl) (by kernel_rfl) (fun _ _ _ h => h) (Or.inl ⟨by rfl, ?_⟩) HSD2.out ?_
      rotate_left
      · intro w hSw
        (try dsimp only at hSw)
        obtain ⟨q0_, q1_, q2_⟩ := hSw
        go_simp
        try with_reducible rfl
      try simp only [Act.put, List.setIfInBounds_toArray, List.set_cons_zero, List.set_cons_succ]
      refine wpAnyH_take (i := 8) (v := ?_) (by simp only [List.getElem?_toArray, List.getElem?_cons_zero, List.getElem?_cons_succ]; rfl) (by kernel_rfl) (by kernel_rfl) (by kernel_rfl) (fun _ _ _ h => h) (Or.inl ⟨by rfl, ?_⟩) HSD2.out ?_
      rotate_left
      · intro w hSw
        (try dsimp only at hSw)
        obtain ⟨q0_, q1_, q2_⟩ := hSw
        go_simp
        try with_reducible rfl
      try simp only [Act.put, List.setIfInBounds_toArray, List.set_cons_zero, List.set_cons_succ]
      refine wpAnyH_take (i := 9) (v := ?_) (by simp only [List.getElem?_toArray, List.getElem?_cons_zero, List.getElem?_cons_succ]; rfl) (by kernel_rfl) (by kernel_rfl) (by kernel_rfl) (fun _ _ _ h => h) (Or.inl ⟨by rfl, ?_⟩) HSD2.out ?_
      rotate_left
      · intro w hSw
        (try dsimp only at hSw)
        obtain ⟨q0_, q1_, q2_⟩ := hSw
        go_simp
        try with_reducible rfl
      try simp only [Act.put, List.setIfInBounds_toArray, List.set_cons_zero, List.set_cons_succ]
      refine wpAnyH_take (i := 10) (v := ?_) (by simp only [List.getElem?_toArray, List.getElem?_cons_zero, List.getElem?_cons_succ]; rfl) (by kernel_rfl) (by kernel_rfl) (by kernel_rfl) (fun _ _ _ h => h) (Or.inl ⟨by rfl, ?_⟩) HSD2.out ?_
      rotate_left
      · intro w hSw
        (try dsimp only at hSw)
        obtain ⟨q0_, q1_, q2_⟩ := hSw
        go_simp
        try with_reducible rfl
      try simp only [Act.put, List.setIfInBounds_toArray, List.set_cons_zero, List.set_cons_succ]
      refine wpAnyH_take (i := 11) (v := ?_) (by simp only [List.getElem?_toArray, List.getElem?_cons_zero, List.getElem?_cons_succ]; rfl) (by kernel_rfl) (by kernel_rfl) (by kernel_rfl) (fun _ _ _ h => h) (Or.inl ⟨by rfl, ?_⟩) HSD2.out ?_
      rotate_left
      · intro w hSw
        (try dsimp only at hSw)
        obtain ⟨q0_, q1_, q2_⟩ := hSw
        go_simp
        try with_reducible rfl
      try simp only [Act.put, List.setIfInBounds_toArray, List.set_cons_zero, List.set_cons_succ]
      refine wpAnyH_take (i := 12) (v := ?_) (by simp only [List.getElem?_toArray, List.getElem?_cons_zero, List.getElem?_cons_succ]; rfl) (by kernel_rfl) (by kernel_rfl) (by kernel_rfl) (fun _ _ _ h => h) (Or.inl ⟨by rfl, ?_⟩) HSD2.out ?_
      rotate_left
      · intro w hSw
        (try dsimp only at hSw)
        obtain ⟨q0_, q1_, q2_⟩ := hSw
        go_simp
        try with_reducible rfl
      try simp only [Act.put, List.setIfInBounds_toArray, List.set_cons_zero, List.set_cons_succ]
      refine wpAnyH_take (i := 13) (v := ?_) (by simp only [List.getElem?_toArray, List.getElem?_cons_zero, List.getElem?_cons_succ]; rfl) (by kernel_rfl) (by kernel_rfl) (by kernel_rfl) (fun _ _ _ h => h) (Or.inl ⟨by rfl, ?_⟩) HSD2.out ?_
      rotate_left
      · intro w hSw
        (try dsimp only at hSw)
        obtain ⟨q0_, q1_, q2_⟩ := hSw
        go_simp
        try with_reducible rfl
      try simp only [Act.put, List.setIfInBounds_toArray, List.set_cons_zero, List.set_cons_succ]
      refine wpAnyH_take (i := 14) (v := ?_) (by simp only [List.getElem?_toArray, List.getElem?_cons_zero, List.getElem?_cons_succ]; rfl) (by kernel_rfl) (by kernel_rfl) (by kernel_rfl) (fun _ _ _ h => h) (Or.inl ⟨by rfl, ?_⟩) HSD2.out ?_
      rotate_left
      · intro w hSw
        (try dsimp only at hSw)
        obtain ⟨q0_, q1_, q2_⟩ := hSw
        go_simp
        try with_reducible rfl
      try simp only [Act.put, List.setIfInBounds_toArray, List.set_cons_zero, List.set_cons_succ]
      refine wpAnyH_take (i := 15) (v := ?_) (by simp only [List.getElem?_toArray, List.getElem?_cons_zero, List.getElem?_cons_succ]; rfl) (by kernel_rfl) (by kernel_rfl) (by kernel_rfl) (fun _ _ _ h => h) (Or.inl ⟨by rfl, ?_⟩) HSD2.out ?_
      rotate_left
      · intro w hSw
        (try dsimp only at hSw)
        obtain ⟨q0_, q1_, q2_⟩ := hSw
        go_simp
        try with_reducible rfl
      try simp only [Act.put, List.setIfInBounds_toArray, List.set_cons_zero, List.set_cons_succ]
      refine wpAnyH_take (i := 16) (v := ?_) (by simp only [List.getElem?_toArray, List.getElem?_cons_zero, List.getElem?_cons_succ]; rfl) (by kernel_rfl) (by kernel_rfl) (by kernel_rfl) (fun _ _ _ h => h) (Or.inl ⟨by rfl, ?_⟩) HSD2.out ?_
      rotate_left
      · intro w hSw
        (try dsimp only at hSw)
        obtain ⟨q0_, q1_, q2_⟩ := hSw
        go_simp
        try with_reducible rfl
      try simp only [Act.put, List.setIfInBounds_toArray, List.set_cons_zero, List.set_cons_succ]
      refine wpAnyH_ready (rs := [17]) (by kernel_rfl) (by simp) ?_
      refine AllReadyH.cons (by simp only [List.getElem?_toArray, List.getElem?_cons_zero, List.getElem?_cons_succ]; rfl) (fun K hK => ?_) AllReadyH.nil
      have HSC1 := Lib.hid (HSC.out.below HYB2.out)
      refine step_append_own_at rfl _ _ 27 rfl W5.heap.size 5 iB (.int .u8 0) 1 1 Try.underlying27 hiB hzB0 hzB1 hzB2 rfl (by decide) (.slice none 0 0) 0 [] (by simp [Act.eval]) ⟨rfl, .inl ⟨rfl, rfl⟩⟩ ad s.n1 (ck - f1) ((T.getD k []).map bv) (by simp [Act.eval]) (by have := HSC1.out.len; omega) HSC1.out.news (bv_one _) (by unfold maxLen; have := HI2.out; omega) (by have := HI2.out; omega) (Nat.le_trans HI1.out.low.size HYB2.out.size) ?_
      intro v6 w6 r6 g6
      have hb6 : Below wr.heap.size wr w6 := HYB2.out.grown g6 HYB2.out.size (fun q hq => by cases hq)
      obtain ⟨ea, ec2, rfl⟩ := ownsN_form r6
      rw [Nat.zero_add, List.nil_append] at r6
      have HB6 := Lib.hid hb6
      have R6 := Lib.hid r6
      have HS6 := Lib.hid (keep3c HSS.out hb6)
      rw [Nat.zero_add]
      refine hK.out _ _ HS6.out (fun _ => ?_)
      clear hK K r6 g6 hb6
      try simp only [Act.put, List.setIfInBounds_toArray, List.set_cons_zero, List.set_cons_succ]
      refine wpAnyH_ready (rs := [18]) (by kernel_rfl) (by simp) ?_
      refine AllReadyH.cons (by simp only [List.getElem?_toArray, List.getElem?_cons_zero, List.getElem?_cons_succ]; rfl) (fun K hK => ?_) AllReadyH.nil
      go_simp
      have HS7 := Lib.hid (keep3c HS6.out (ext_alloc w6 (.cells #[.slice ea s.n1 ec2] 27)))
      refine hK.out _ _ HS7.out (fun _ => ?_)
      clear hK K
      try simp only [Act.put, List.setIfInBounds_toArray, List.set_cons_zero, List.set_cons_succ]
      have HB7 := Lib.hid (ext_trans HB6.out (ext_alloc w6 (.cells #[.slice ea s.n1 ec2] 27)))
      have HOW := Lib.hid (ownsN_below HI1.out.row HB7.out)
      have R7 := Lib.hid (ownsN_below R6.out (ext_alloc w6 (.cells #[.slice ea s.n1 ec2] 27)))
      refine wpAnyH_ready (rs := [19]) (by kernel_rfl) (by simp) ?_
      refine AllReadyH.cons (by simp only [List.getElem?_toArray, List.getElem?_cons_zero, List.getElem?_cons_succ]; rfl) (fun K hK => ?_) AllReadyH.nil
      refine step_append_own_at rfl _ _ 28 rfl W5.heap.size 27 iS (.slice none 0 0) 1 24 Try.underlying28 hiS hzS0 hzS1 hzS2 rfl (by decide) (.slice ga k gc) k (ss.map slV) (by simp [Act.eval]) HOW.out ⟨w6.heap.size, 0, none⟩ 1 1 [.slice ea s.n1 ec2] (by simp [Act.eval]) rfl (cell_one_new _ _ _) (by simp [Value.oneCell']) (by unfold maxLen; have := HKN.out; omega) (by have := HKN.out; omega) (Nat.le_trans HI1.out.low.size HB7.out.size) ?_
      intro v8 w8 r8 g8
      obtain ⟨fa, fc, rfl⟩ := ownsN_form r8
      have hl8 : Below W5.heap.size W5 w8 := (HI1.out.low.trans (HB7.out.mono HI1.out.low.size)).grown g8 (Nat.le_trans HI1.out.low.size HB7.out.size) (fun q hq => (HOW.out.lt q hq).1)
      have HNEW : Hid (RsInv W5.heap.size s.n1 T W5 (k + 1) fa fc (ss ++ [(ea, s.n1, ec2)]) w8) := by
        refine ⟨by simp [HI1.out.len], by simpa [slV] using r8, fun j hj => ?_, hl8⟩
        by_cases e : j = k
        · subst e
          have e1 : (ss ++ [(ea, s.n1, ec2)]).getD j slc0 = (ea, s.n1, ec2) := by rw [← HI1.out.len]; simp
          rw [e1]
          exact owns_grown R7.out HOW.out g8 (by decide)
        · have e1 : (ss ++ [(ea, s.n1, ec2)]).getD j slc0 = ss.getD j slc0 := by simp [List.getD, List.getElem?_append_left (show j < ss.length by rw [HI1.out.len]; omega)]
          rw [e1]
          exact owns_grown (ownsN_below (HI1.out.rows j (by omega)) HB7.out) HOW.out g8 (by decide)
      have HS8 : Hid (w8.cell? ⟨w.heap.size, 0, none⟩ = some (.int .i64 (I : Int)) ∧ w8.cell? ⟨w.heap.size, 1, none⟩ = some (.slice s.a1 s.n1 s.c1) ∧ w8.cell? ⟨lb, lo + k, none⟩ = some (.slice (some ⟨kb, ko, none⟩) nk ck)) := by
        have hx := heap_below HX5.out hl8
        refine ⟨cell_of_block hx 0, cell_of_block hx 1, ?_⟩
        have e1 := hl8.cell (p := ⟨lb, lo + k, none⟩) HLB.out
        have e2 := HI1.out.low.cell (p := ⟨lb, lo + k, none⟩) HLB.out
        exact e1.trans (e2.symm.trans HSS.out.2.2)
      refine hK.out _ _ HS8.out (fun _ => ?_)
      clear hK K
      try simp only [Act.put, List.setIfInBounds_toArray, List.set_cons_zero, List.set_cons_succ]
      refine wpAnyH_take (i := 20) (v := ?_) (by simp only [List.getElem?_toArray, List.getElem?_cons_zero, List.getElem?_cons_succ]; rfl) (by kernel_rfl) (by kernel_rfl) (by kernel_rfl) (fun _ _ _ h => h) (Or.inl ⟨by rfl, ?_⟩) HS8.out ?_
      rotate_left
      · intro w hSw
        (try dsimp only at hSw)
        obtain ⟨q0_, q1_, q2_⟩ := hSw
        go_simp
        try with_reducible rfl
      try simp only [Act.put, List.setIfInBounds_toArray, List.set_cons_zero, List.set_cons_succ]
      refine wpAnyH_done (by kernel_rfl) ?_ _
      refine NoPanic.normal ?_
      clear p0 p1 hcx HSS HSD2 HS6 HS7 HS8 q1 r8 g8 hl8
      go_wp2
      go_roundw
      case rel => exact ⟨k + 1, fa, fc, _, by omega, by go_num, rfl, HNEW.out⟩
      case measure => simp [intOf]; omega
    · obtain rfl : k = n := by omega
      obtain ⟨h1, h2⟩ := hI.out.sees HTL.out (by have := HI2.out; omega)
      have HP := Lib.hid (HPY.out wr ga gc ss (by first | rfl | trivial) (h1.base_le HB5.out.size) h2 (ext_trans HB5.out hI.out.low))
      clear h1 h2 hI
      go_wp2
      refine bodyPost_ret (v := .tuple #[.slice ga k gc, .int .i64 0]) ?_ rfl HP.out
      simp [results, Try.results9, go_sem]
end Go.Proofs.Ytgpkghlhlabjcaa
/- inquestref08.last, by its contract. -/
namespace Go.Proofs.Ytgpkghlhlabjcaa
open Go Go.RowKit Go.Joins

/-- What last holds when it has come to frame i. -/
def lastK (S : List (List UInt8)) (at_ i : Nat) : Nat := if i ≤ at_ then at_ else lastN S (S.getD at_ []) i
theorem lastK_hit {S : List (List UInt8)} {at_ i : Nat} (h : at_ ≤ i) (e : S.getD i [] = S.getD at_ []) : lastK S at_ (i + 1) = i := by
  unfold lastK
  rw [if_neg (by omega), lastN, if_pos e]
theorem lastK_miss {S : List (List UInt8)} {at_ i : Nat} (h : at_ ≤ i) (e : S.getD i [] ≠ S.getD at_ []) : lastK S at_ (i + 1) = lastK S at_ i := by
  have h1 : ¬ i ≤ at_ := fun h2 => e (by rw [show i = at_ by omega])
  unfold lastK
  rw [if_neg (by omega), if_neg h1, lastN, if_neg e]

set_option maxRecDepth 100000 in
set_option maxHeartbeats 1600000 in
theorem rlast_any (S : List (List UInt8)) (ss : List Slc) (a : Option Addr) (n c m : Nat) (w : World) (h : SeesF w a n c ss S) (hn : n ≤ 1048576) (hm : m < n) :
    Calls Try.prog 25 #[.slice a n c, .int .i64 (m : Int)] w fun e w' => e = .returned (.int .i64 (lastI S m : Int)) ∧ Below w.heap.size w w' := by
  have HL := Lib.hid h.n_eq
  have H := Lib.hid h
  obtain ⟨b, off, rfl, _⟩ := h.row.addr (show 0 < n by omega)
  have HE : Hid (lastK S m n = lastI S m) := by
    unfold Hid lastK lastI
    rw [if_neg (by omega), HL.out]
  obtain ⟨E, hE⟩ : ∃ E, E = lastI S m := ⟨_, rfl⟩
  rw [← hE] at HE ⊢
  have hI3 : ((m : Nat) : Int) < (n : Int) := by omega
  have hI4 : (0 : Int) ≤ (m : Int) := by omega
  clear hE h
  go_enter Try.func25, Try.ntmps25
  go_wp2
  go_loopw [5, 6] (fun kv i wr => ∃ k : Nat, m ≤ k ∧ k ≤ n ∧ i = .int .i64 k ∧ kv = .int .i64 (lastK S m k : Nat) ∧ Hid (Below w.heap.size w wr)) (fun _ i _ => n - (intOf i).toNat)
  case atStart => exact ⟨m, Nat.le_refl _, by omega, rfl, by rw [show lastK S m m = m from if_pos (Nat.le_refl _)], Below.refl _ _⟩
  case round =>
    obtain ⟨k, hmk, hk, rfl, rfl, hB⟩ := hrel
    by_cases hlt : k < n
    · have hS := H.out.below hB.out
      have hc1 := hS.cellAt k hlt
      have hc2 := hS.cellAt m hm
      have hs1 := hS.each k (by rw [HL.out]; exact hlt)
      have hs2 := hS.each m (by rw [HL.out]; exact hm)
      obtain ⟨x, hx⟩ : ∃ x : Slc, x = ss.getD k slc0 := ⟨_, rfl⟩
      obtain ⟨y, hy⟩ : ∃ y : Slc, y = ss.getD m slc0 := ⟨_, rfl⟩
      rw [← hx] at hc1 hs1
      rw [← hy] at hc2 hs2
      obtain ⟨xa, xn, xc⟩ := x
      obtain ⟨ya, yn, yc⟩ := y
      simp only at hc1 hc2 hs1 hs2
      obtain ⟨p, hp⟩ : ∃ p, p = decide (S.getD k [] = S.getD m []) := ⟨_, rfl⟩
      have HCALL : Hid (∀ q, Calls Try.prog 20 #[.slice xa xn xc, .slice ya yn yc] (wr.drewN q) fun e w' => e = .returned (.bool p) ∧ w' = wr.drewN q) := fun q => by
        rw [hp]
        exact bytes_at _ _ xa ya xn xc yn yc (wr.drewN q) (hs1.below (ext_drewN wr q)) (hs2.below (ext_drewN wr q))
      have HP := Lib.hid hp
      have HB := Lib.hid hB.out
      have hI1 : ((k : Nat) : Int) < (n : Int) := by omega
      have hI2 : (0 : Int) ≤ (k : Int) := by omega
      have W1 : IntKind.i64.wrap ((k : Int) + 1) = (k : Int) + 1 := IntWalk.i64_in _ (by omega)
      obtain ⟨v, hv⟩ : ∃ v, v = lastK S m k := ⟨_, rfl⟩
      rw [← hv]
      have HV := Lib.hid hv
      clear hx hy hp hs1 hs2 hS hB hv
      cases p with
      | true =>
        have HN : Hid (lastK S m (k + 1) = k) := lastK_hit hmk (of_decide_eq_true HP.out.symm)
        go_wp2
        go_quiet ((go_at_call 20; exact Calls.quiet_of_same (HCALL.out _)))
        go_wp2
        go_roundw
        case rel => exact ⟨k + 1, by omega, by omega, by go_num, by rw [HN.out], ext_trans HB.out (ext_drewN _ _)⟩
        case measure => simp [intOf]; omega
      | false =>
        have HN : Hid (lastK S m (k + 1) = v) := by unfold Hid; rw [HV.out]; exact lastK_miss hmk (of_decide_eq_false HP.out.symm)
        go_wp2
        go_quiet ((go_at_call 20; exact Calls.quiet_of_same (HCALL.out _)))
        go_wp2
        go_roundw
        case rel => exact ⟨k + 1, by omega, by omega, by go_num, by rw [HN.out], ext_trans HB.out (ext_drewN _ _)⟩
        case measure => simp [intOf]; omega
    · obtain rfl : k = n := by omega
      have hB2 := Lib.hid hB.out
      have e : Value.int .i64 (lastK S m k : Nat) = .int .i64 (E : Nat) := by rw [HE.out]
      rw [e]
      clear hB e
      go_wp2
      go_ret
      exact ⟨rfl, hB2.out⟩
end Go.Proofs.Ytgpkghlhlabjcaa
/- inquestref08.Again, by its contract. -/
namespace Go.Proofs.Ytgpkghlhlabjcaa
open Go Go.RowKit Go.Joins

set_option maxRecDepth 100000 in
set_option maxHeartbeats 3200000 in
theorem ragain_any (c : NormC) (t : TraceC) (s : CSlots) (st : TSlots) (w : World) (h : SeesCir w s c) (ht : SeesTr w st t) (hs : s.small) (hst : st.small) (hlo : -9223372036854775808 ≤ c.ins) (hhi : c.ins < 9223372036854775808) (hb1 : -9223372036854775808 ≤ t.bad ∧ t.bad < 9223372036854775808) (hw : Wide c) :
    Calls Try.prog 13 #[cirV c.ins s, traceV t.bad st] w fun e w' => e = againE (statesO c t) ∧ Below w.heap.size w w' := by
  have HST : Hid (∀ W, Below w.heap.size w W → Calls Try.prog 9 #[cirV c.ins s, traceV t.bad st] W (RStsPost c t W)) := fun W hb => rstates_any c t s st W (h.below hb) (ht.below hb) hs hst hlo hhi hb1 hw
  obtain ⟨ef, hef⟩ : ∃ z : Int, z = (if fitsS c t = true then 0 else 2) := ⟨_, rfl⟩
  obtain ⟨S, hS⟩ : ∃ S, S = statesO c t := ⟨_, rfl⟩
  have HRP : Hid (∀ W e W', RStsPost c t W e W' → ∃ (a : Option Addr) (n cc : Nat) (ss : List Slc), e = .returned (.tuple #[.slice a n cc, .int .i64 ef]) ∧ SeesF W' a n cc ss S ∧ Below W.heap.size W W') := by
    rintro W e W' ⟨a, n, cc, ss, h1, h2, _, h4⟩
    rw [hef, hS]
    exact ⟨a, n, cc, ss, h1, h2.sees, h4⟩
  have HSN : Hid (S.length ≤ 256) := by rw [hS]; exact statesO_few c t
  obtain ⟨E, hE⟩ : ∃ E, E = againE (statesO c t) := ⟨_, rfl⟩
  have HE : Hid (E = againE S) := by rw [hE, hS]; exact rfl
  rw [← hE]
  clear hef hS hE h ht hs hst hlo hhi hb1 hw
  unfold cirV traceV at *
  go_enter Try.func13, Try.ntmps13
  go_upto_region 1 with fail
  generalize hW : World.alloc (World.alloc w _) _ = W1
  have hb : Below w.heap.size w W1 := by subst hW; exact ext_trans (ext_alloc _ _) (ext_alloc _ _)
  have hx : W1.heap[w.heap.size]? = some (.cells #[.int .i64 c.ins, .slice s.a1 s.n1 s.c1, .slice s.a2 s.n2 s.c2, .slice s.a3 s.n3 s.c3, .slice s.a4 s.n4 s.c4, .slice s.a5 s.n5 s.c5] 26 (0, 0)) := by subst hW; exact heap_below (heap_new _ _ _ rfl) (ext_alloc _ _)
  have hy : W1.heap[w.heap.size + 1]? = some (.cells #[.int .i64 t.bad, .slice st.a1 st.n1 st.c1, .slice st.a2 st.n2 st.c2] 30 (0, 0)) := by subst hW; exact heap_new _ _ _ (by simp)
  have HB := Lib.hid hb
  have HX := Lib.hid hx
  have HY := Lib.hid hy
  clear hW hb hx hy
  have p0 := cell_of_block HX.out 0
  have p1 := cell_of_block HX.out 1
  have p2 := cell_of_block HX.out 2
  have p3 := cell_of_block HX.out 3
  have p4 := cell_of_block HX.out 4
  have p5 := cell_of_block HX.out 5
  have r0 := cell_of_block HY.out 0
  have r1 := cell_of_block HY.out 1
  have r2 := cell_of_block HY.out 2
  go_wp2_with fail
  refine (HST.out W1 HB.out).mono ?_
  intro e W2 hp
  obtain ⟨a, n, cc, ss, rfl, hsee, hb⟩ := HRP.out _ _ _ hp
  have HSE := Lib.hid hsee
  have HNL := Lib.hid hsee.n_eq
  have HB2 := Lib.hid (ext_trans HB.out hb)
  have hn : n ≤ 256 := by have := HSN.out; rw [HNL.out] at this; exact this
  clear p0 p1 p2 p3 p4 p5 r0 r1 r2 hp hsee hb HX HY HST HRP
  go_wp2
  go_loopw [9, 10] (fun i _ wr => ∃ k : Nat, k ≤ n ∧ i = .int .i64 k ∧ Hid (∀ j, j < k → lastI S j ≤ j) ∧ Hid (Below W2.heap.size W2 wr)) (fun i _ _ => n - (intOf i).toNat)
  case atStart => exact ⟨0, Nat.zero_le _, rfl, fun j hj => absurd hj (by omega), Below.refl _ _⟩
  case round =>
    obtain ⟨k, hk, rfl, hno, hB⟩ := hrel
    by_cases hlt : k < n
    · have HC := Lib.hid (rlast_any S ss a n cc k wr (HSE.out.below hB.out) (by omega) hlt)
      obtain ⟨m, hm⟩ : ∃ m, m = lastI S k := ⟨_, rfl⟩
      rw [← hm] at HC
      have HMM := Lib.hid hm
      have HKN : Hid (k < S.length) := by unfold Hid; rw [HNL.out]; exact hlt
      have HB3 := Lib.hid hB.out
      have W1' : IntKind.i64.wrap ((k : Int) + 1) = (k : Int) + 1 := IntWalk.i64_in _ (by omega)
      clear hm hB
      go_wp2_with fail
      refine HC.out.mono ?_
      rintro e W4 ⟨rfl, hb⟩
      have HB4 := Lib.hid (ext_trans HB3.out hb)
      have HB5 := Lib.hid (ext_trans HB2.out HB4.out)
      clear hb HC
      by_cases hkm : k < m
      · have hgt : (k : Int) < (m : Int) := by omega
        have HH : Hid (E = .returned (.tuple #[.int .i64 (k : Int), .int .i64 (m : Int), .bool true])) := by
          unfold Hid
          rw [HE.out, again_hit hno.out HKN.out (by rw [← HMM.out]; exact hkm), ← HMM.out]
        clear HE hno hkm
        go_wp2
        refine bodyPost_ret (v := .tuple #[.int .i64 (k : Int), .int .i64 (m : Int), .bool true]) ?_ rfl ⟨HH.out.symm, HB5.out⟩
        simp [results, Try.results13, go_sem]
      · have hgt : ¬ ((k : Int) < (m : Int)) := by omega
        have HNO : Hid (∀ j, j < k + 1 → lastI S j ≤ j) := fun j hj => by
          rcases Nat.lt_or_ge j k with h | h
          · exact hno.out j h
          · have : j = k := by omega
            subst this
            rw [← HMM.out]; omega
        clear hno hkm
        go_wp2
        go_roundw
        case rel => exact ⟨k + 1, by omega, by go_num, HNO.out, HB4.out⟩
        case measure => simp [intOf]; omega
    · obtain rfl : k = n := by omega
      have HH : Hid (E = .returned (.tuple #[.int .i64 0, .int .i64 0, .bool false])) := by
        unfold Hid
        rw [HE.out, again_miss (fun j hj => hno.out j (by rw [← HNL.out]; exact hj))]
      have HB5 := Lib.hid (ext_trans HB2.out hB.out)
      clear HE hno hB
      go_wp2
      refine bodyPost_ret (v := .tuple #[.int .i64 0, .int .i64 0, .bool false]) ?_ rfl ⟨HH.out.symm, HB5.out⟩
      simp [results, Try.results13, go_sem]
end Go.Proofs.Ytgpkghlhlabjcaa
namespace Go.Proofs.Ytgpkghlhlabjcaa
open Go Go.RowKit Go.Joins

/-- What Cut answers. -/
def RCutPost (c : NormC) (t : TraceC) (w : World) (e : Ending) (w' : World) : Prop :=
  ∃ (x : TSlots) (la : Option Addr) (lc : Nat), e = .returned (.tuple #[traceV (cutO c t).1.bad x, .slice la (cutO c t).2.1.length lc, .int .i64 (cutO c t).2.2]) ∧ Sees w' la (cutO c t).2.1.length lc ((cutO c t).2.1.map iv) ∧ SeesTr w' x (cutO c t).1 ∧ x.small ∧ Below w.heap.size w w'
/-- While frames are picked. -/
structure RkInv (w : World) (C : Nat) (bad : Int) (iv0 : Value) (s : TSlots) (d : List Nat) (va : Option Addr) (vc : Nat) (la : Option Addr) (lc : Nat) (W : World) : Prop where
  box : W.heap[C]? = some (.cells #[.int .i64 bad, iv0, .slice va d.length vc] 30 (0, 0))
  row : W.ownsRow C 27 1 (.slice va d.length vc) d.length ((pickS s d).map slV)
  ints : W.ownsRow C 3 1 (.slice la d.length lc) d.length (d.map iv)
  low : Below C w W

set_option maxRecDepth 100000 in
set_option maxHeartbeats 6400000 in
theorem rcut_any (c : NormC) (t : TraceC) (s : CSlots) (st : TSlots) (w : World) (h : SeesCir w s c) (ht : SeesTr w st t) (hs : s.small) (hst : st.small) (hlo : -9223372036854775808 ≤ c.ins) (hhi : c.ins < 9223372036854775808) (hb1 : -9223372036854775808 ≤ t.bad ∧ t.bad < 9223372036854775808) (hw : Wide c) :
    Calls Try.prog 15 #[cirV c.ins s, traceV t.bad st] w (RCutPost c t w) := by
  obtain ⟨iS, hiS, hzS0, hzS1, hzS2⟩ := info_parts info_u8s
  obtain ⟨iI, hiI, hzI0, hzI1, hzI2⟩ := info_parts info_i64
  have HFA := Lib.hid (fun W (hb : Below w.heap.size w W) => rfails_any c t s st W (h.below hb) (ht.below hb) hs hst hlo hhi hb1 hw)
  have HRD := Lib.hid (fun W (hb : Below w.heap.size w W) => refread2_any t st W (ht.below hb) hst)
  have HST : Hid (∀ W, Below w.heap.size w W → Calls Try.prog 9 #[cirV c.ins s, traceV t.bad st] W (RStsPost c t W)) := fun W hb => rstates_any c t s st W (h.below hb) (ht.below hb) hs hst hlo hhi hb1 hw
  obtain ⟨q, hq⟩ : ∃ q, q = fitsS c t := ⟨_, rfl⟩
  obtain ⟨fb, hfb⟩ : ∃ b, b = failsB c t := ⟨_, rfl⟩
  obtain ⟨S, hS⟩ : ∃ S, S = statesL c t := ⟨_, rfl⟩
  obtain ⟨n, hn⟩ : ∃ n, n = t.frames.length := ⟨_, rfl⟩
  have HFE : Hid (failsE c t = if q = true then .returned (.tuple #[.bool fb, .int .i64 0]) else .returned (.tuple #[.bool false, .int .i64 2])) := by rw [hq, hfb]; exact rfl
  obtain ⟨E, hE⟩ : ∃ E, E = failsE c t := ⟨_, rfl⟩
  rw [← hE] at HFE HFA
  have HRP : Hid (∀ W e W', RStsPost c t W e W' → q = true → ∃ (a : Option Addr) (cc : Nat) (ss : List Slc), e = .returned (.tuple #[.slice a n cc, .int .i64 0]) ∧ OwnLR W' W.heap.size a n cc ss S ∧ Below W.heap.size W W') := by
    rintro W e W' ⟨a, m, cc, ss, h1, h2, _, h4⟩ h5
    rw [hq] at h5
    rw [show statesO c t = S from (if_pos h5).trans hS.symm] at h2
    have hm : m = n := by have := h2.len; rw [hS, statesL_len] at this; omega
    subst hm
    exact ⟨a, cc, ss, by simpa [h5] using h1, h2, h4⟩
  have HRL : Hid ((readT t).frames.length = n) := by unfold Hid; rw [hn]; simp [readT]
  have HSL : Hid (S.length = n) := by unfold Hid; rw [hS, statesL_len, hn]
  have HFEW : Hid (q = true → n ≤ 256) := by rw [hq, hn]; exact fun h => (fits_iff.1 h).few
  have HNO : Hid (∀ w', q = false → Below w.heap.size w w' → RCutPost c t w (.returned (.tuple #[traceV 0 ⟨none, 0, 0, none, 0, 0, []⟩, .slice none 0 0, .int .i64 2])) w') := by
    rw [hq]; intro w' h1 h2
    have e : cutO c t = (⟨0, [], []⟩, [], 2) := if_neg (by rw [h1]; decide)
    refine ⟨_, none, 0, ?_, ?_, ?_, tslots_nil, h2⟩ <;> rw [e]
    · rfl
    · exact Sees.nil _ _ _ (fun _ => rfl)
    · exact (ownTA_nil w' 0).sees
  have HNF : Hid (∀ w', q = true → fb = false → Below w.heap.size w w' → RCutPost c t w (.returned (.tuple #[traceV 0 ⟨none, 0, 0, none, 0, 0, []⟩, .slice none 0 0, .int .i64 10])) w') := by
    rw [hq, hfb]; intro w' h1 h0 h2
    have e : cutO c t = (⟨0, [], []⟩, [], 10) := (if_pos h1).trans (if_neg (by rw [h0]; decide))
    refine ⟨_, none, 0, ?_, ?_, ?_, tslots_nil, h2⟩ <;> rw [e]
    · rfl
    · exact Sees.nil _ _ _ (fun _ => rfl)
    · exact (ownTA_nil w' 0).sees
  have HYES : Hid (∀ w' (x : TSlots) la lc, q = true → fb = true → Sees w' la (remS S).length lc ((remS S).map iv) → SeesTr w' x ⟨t.bad, zeroL t.init, (remS S).map fun k => zeroL (t.frames.getD k [])⟩ → x.small → Below w.heap.size w w' → RCutPost c t w (.returned (.tuple #[traceV t.bad x, .slice la (remS S).length lc, .int .i64 0])) w') := by
    rw [hq, hfb, hS]; intro w' x la lc h1 h2 h3 h4 h5 h6
    have e : cutO c t = (cutT c t, remS (statesL c t), 0) := (if_pos h1).trans (if_pos h2)
    refine ⟨x, la, lc, ?_, ?_, ?_, h5, h6⟩ <;> rw [e]
    · rfl
    · exact h3
    · exact h4
  clear hE hq hfb hS hn h ht hs hst hlo hhi hb1 hw
  unfold cirV traceV at *
  go_enter Try.func15, Try.ntmps15
  go_upto_region 1 with fail
  generalize hW : World.alloc (World.alloc (World.alloc w _) _) _ = W1
  have hb : Below w.heap.size w W1 := by subst hW; exact ext_trans (ext_alloc _ _) (ext_trans (ext_alloc _ _) (ext_alloc _ _))
  have hx : W1.heap[w.heap.size]? = some (.cells #[.int .i64 c.ins, .slice s.a1 s.n1 s.c1, .slice s.a2 s.n2 s.c2, .slice s.a3 s.n3 s.c3, .slice s.a4 s.n4 s.c4, .slice s.a5 s.n5 s.c5] 26 (0, 0)) := by subst hW; exact heap_below (heap_below (heap_new _ _ _ rfl) (ext_alloc _ _)) (ext_alloc _ _)
  have hy : W1.heap[w.heap.size + 1]? = some (.cells #[.int .i64 t.bad, .slice st.a1 st.n1 st.c1, .slice st.a2 st.n2 st.c2] 30 (0, 0)) := by subst hW; exact heap_below (heap_new _ _ _ (by simp)) (ext_alloc _ _)
  have hz : W1.heap[w.heap.size + 1 + 1]? = some (.cells #[.int .i64 0, .slice none 0 0, .slice none 0 0] 30 (0, 0)) := by subst hW; exact heap_new _ _ _ (by simp)
  have HB := Lib.hid hb
  have HX := Lib.hid hx
  have HY := Lib.hid hy
  have HZ := Lib.hid hz
  clear hW hb hx hy hz
  have p0 := cell_of_block HX.out 0
  have p1 := cell_of_block HX.out 1
  have p2 := cell_of_block HX.out 2
  have p3 := cell_of_block HX.out 3
  have p4 := cell_of_block HX.out 4
  have p5 := cell_of_block HX.out 5
  have r0 := cell_of_block HY.out 0
  have r1 := cell_of_block HY.out 1
  have r2 := cell_of_block HY.out 2
  go_wp2_with fail
  refine (HFA.out W1 HB.out).mono ?_
  rintro e W2 ⟨he, hb⟩
  have HX2 := Lib.hid (heap_below HX.out hb)
  have HY2 := Lib.hid (heap_below HY.out hb)
  have HZ2 := Lib.hid (heap_below HZ.out hb)
  have HB2 := Lib.hid (ext_trans HB.out hb)
  have he2 := he.trans HFE.out
  subst he2
  clear p0 p1 p2 p3 p4 p5 r0 r1 r2 HX HY HB HZ hb he HFE HFA
  cases q with
  | false =>
    rw [if_neg (by decide)]
    have z0 := cell_of_block HZ2.out 0
    have y0 := unfrozen_of_block HZ2.out 0
    have z1 := cell_of_block HZ2.out 1
    have y1 := unfrozen_of_block HZ2.out 1
    have z2 := cell_of_block HZ2.out 2
    have y2 := unfrozen_of_block HZ2.out 2
    go_wp2
    refine bodyPost_ret (v := .tuple #[traceV 0 ⟨none, 0, 0, none, 0, 0, []⟩, .slice none 0 0, .int .i64 2]) ?_ rfl ?_
    · have h6 := tri_set_t HZ2.out rfl (.int .i64 0) (.slice none 0 0) (.slice none 0 0)
      have g0 := cell_of_block h6 0
      have g1 := cell_of_block h6 1
      have g2 := cell_of_block h6 2
      simp [results, Try.results15, go_sem, g0, g1, g2]
      rfl
    · exact HNO.out _ (by first | rfl | trivial) (set3_t (w.heap.size + 1 + 1) (by omega) HB2.out)
  | true =>
  rw [if_pos rfl]
  cases fb with
  | false =>
    have z0 := cell_of_block HZ2.out 0
    have y0 := unfrozen_of_block HZ2.out 0
    have z1 := cell_of_block HZ2.out 1
    have y1 := unfrozen_of_block HZ2.out 1
    have z2 := cell_of_block HZ2.out 2
    have y2 := unfrozen_of_block HZ2.out 2
    go_wp2
    refine bodyPost_ret (v := .tuple #[traceV 0 ⟨none, 0, 0, none, 0, 0, []⟩, .slice none 0 0, .int .i64 10]) ?_ rfl ?_
    · have h6 := tri_set_t HZ2.out rfl (.int .i64 0) (.slice none 0 0) (.slice none 0 0)
      have g0 := cell_of_block h6 0
      have g1 := cell_of_block h6 1
      have g2 := cell_of_block h6 2
      simp [results, Try.results15, go_sem, g0, g1, g2]
      rfl
    · exact HNF.out _ (by first | rfl | trivial) (by first | rfl | trivial) (set3_t (w.heap.size + 1 + 1) (by omega) HB2.out)
  | true =>
  have p0 := cell_of_block HX2.out 0
  have p1 := cell_of_block HX2.out 1
  have p2 := cell_of_block HX2.out 2
  have p3 := cell_of_block HX2.out 3
  have p4 := cell_of_block HX2.out 4
  have p5 := cell_of_block HX2.out 5
  have r0 := cell_of_block HY2.out 0
  have r1 := cell_of_block HY2.out 1
  have r2 := cell_of_block HY2.out 2
  go_wp2_with fail
  refine (HST.out W2 HB2.out).mono ?_
  intro e W3 hp
  have HZL2 : Hid (w.heap.size + 1 + 1 < W2.heap.size) := heap_lt HZ2.out
  obtain ⟨ra, rc, rss, rfl, hsee, hb⟩ := HRP.out _ _ _ hp (by first | rfl | trivial)
  have HSEE := Lib.hid hsee
  have HY3 := Lib.hid (heap_below HY2.out hb)
  have HZ3 := Lib.hid (heap_below HZ2.out hb)
  have HB3 := Lib.hid (ext_trans HB2.out hb)
  have hn256 : n ≤ 256 := HFEW.out (by first | rfl | trivial)
  clear p0 p1 p2 p3 p4 p5 r0 r1 r2 hp hsee hb HX2 HY2 HZ2 HB2 HRP HST HNO HNF HFEW
  have r0 := cell_of_block HY3.out 0
  have r1 := cell_of_block HY3.out 1
  have r2 := cell_of_block HY3.out 2
  go_wp2_with fail
  refine (HRD.out W3 HB3.out).mono ?_
  rintro e W4 ⟨s', rfl, hsr, hsm, hb⟩
  have HZL : Hid (w.heap.size + 1 + 1 < W3.heap.size) := heap_lt HZ3.out
  have HW34 := Lib.hid hb.size
  clear r0 r1 r2
  have HSR := Lib.hid hsr
  have HSM := Lib.hid hsm
  have hy := heap_below HY3.out hb
  have hz := heap_below HZ3.out hb
  have HSEE4 := Lib.hid (HSEE.out.below hb)
  have HB4 := Lib.hid (ext_trans HB3.out hb)
  have HY4 := Lib.hid hy
  have HZ4 := Lib.hid hz
  have z0 := cell_of_block hy 0
  have y0 := unfrozen_of_block hy 0
  have z1 := cell_of_block hy 1
  have y1 := unfrozen_of_block hy 1
  have z2 := cell_of_block hy 2
  have y2 := unfrozen_of_block hy 2
  clear hsr hsm hy hz hb HSEE HY3 HZ3 HB3 HRD
  go_upto_region 8 with fail
  generalize hW : World.setCell (World.setCell (World.setCell W4 _ _) _ _) _ _ = W5
  have hy5 : W5.heap[w.heap.size + 1]? = some (.cells #[.int .i64 t.bad, .slice s'.a1 s'.n1 s'.c1, .slice s'.a2 s'.n2 s'.c2] 30 (0, 0)) := by subst hW; exact tri_set_t HY4.out rfl _ _ _
  have hz5 : W5.heap[w.heap.size + 1 + 1]? = some (.cells #[.int .i64 0, .slice none 0 0, .slice none 0 0] 30 (0, 0)) := by subst hW; exact (set3_other (w.heap.size + 1) (w.heap.size + 1 + 1) (by omega) _ _ _).trans HZ4.out
  have hb5 : Below w.heap.size w W5 := by subst hW; exact set3_t (w.heap.size + 1) (by omega) HB4.out
  have hlt := HZL.out
  have ho5 : OwnTA W5 W3.heap.size s' (readT t) := by subst hW; exact OwnTA.move HSR.out (fun D hD => set3_other (w.heap.size + 1) D (by omega) _ _ _) (Nat.le_refl _)
  have hse5 : SeesF W5 ra n rc rss S := by subst hW; exact (OwnLR.move HSEE4.out (fun D hD => set3_other (w.heap.size + 1) D (by have := HZL2.out; omega) _ _ _)).sees
  have HW45 : Hid (W3.heap.size ≤ W5.heap.size) := by subst hW; have := HW34.out; unfold Hid; simpa using this
  have HY5 := Lib.hid hy5
  have HZ5 := Lib.hid hz5
  have HB5 := Lib.hid hb5
  have HO5 := Lib.hid ho5
  have HSE5 := Lib.hid hse5
  clear hW hy5 hz5 hb5 hlt ho5 hse5 z0 y0 z1 y1 z2 y2 HY4 HZ4 HB4 HSR HSEE4
  have g0 : W5.cell? ⟨w.heap.size + 1, 0, none⟩ = some (.int .i64 t.bad) := cell_of_block HY5.out 0
  have g1 : W5.cell? ⟨w.heap.size + 1, 1, none⟩ = some (.slice s'.a1 s'.n1 s'.c1) := cell_of_block HY5.out 1
  go_upto_region 9 with fail
  generalize hW : World.alloc W5 _ = W6
  obtain ⟨C, hC⟩ : ∃ C, C = W5.heap.size := ⟨_, rfl⟩
  have hc6 : W6.heap[C]? = some (.cells #[.int .i64 t.bad, .slice s'.a1 s'.n1 s'.c1, .slice none 0 0] 30 (0, 0)) := by subst hW; rw [hC]; exact heap_new _ _ _ rfl
  have hb6 : Below C W5 W6 := by subst hW; rw [hC]; exact ext_alloc _ _
  have HI : Hid (RkInv W5 C t.bad (.slice s'.a1 s'.n1 s'.c1) s' [] none 0 none 0 W6) := ⟨hc6, ⟨rfl, .inl ⟨rfl, rfl⟩⟩, ⟨rfl, .inl ⟨rfl, rfl⟩⟩, hb6⟩
  have HCC : Hid (C = W5.heap.size) := hC
  have HW35 : Hid (W3.heap.size ≤ W5.heap.size) := HW45.out
  have hYC : w.heap.size + 1 < C := by rw [hC]; exact heap_lt HY5.out
  obtain ⟨L, hL⟩ : ∃ L, L = remS S := ⟨_, rfl⟩
  have HLR : Hid (remL S n 0 = L) := by unfold Hid; rw [hL, ← HSL.out]; rfl
  have HLTT : Hid (∀ k, k < L.length → L.getD k 0 < n) := fun k hk => by
    rw [← HSL.out]
    exact remL_lt S.length 0 _ (by rw [hL] at hk ⊢; exact getD_mem hk)
  have HLN : Hid (L.length ≤ n) := by unfold Hid; rw [hL, ← HSL.out]; exact remS_len S
  have hnl : (readT t).frames.length = n := HRL.out
  have hsn2 : s'.n2 = n := by rw [← hnl]; exact HO5.out.ll.len.symm
  have hsl : s'.ss.length = n := by rw [← hsn2]; exact HO5.out.ll.lens
  have HSN2 := Lib.hid hsn2
  have HSLL := Lib.hid hsl
  rw [← hL] at HYES
  rw [← hC]
  clear hW hC hc6 hb6 g0 g1 hL hnl hsn2 hsl
  go_wp2
  go_loopw [12, 13] (fun l i wr => ∃ (k f : Nat) (d : List Nat) (va : Option Addr) (vc : Nat) (la : Option Addr) (lc : Nat), k ≤ n ∧ i = .int .i64 k ∧ l = .slice la d.length lc ∧ Hid (n ≤ k + f) ∧ Hid (d.length ≤ k) ∧ Hid (d ++ remL S f k = L) ∧ Hid (RkInv W5 C t.bad (.slice s'.a1 s'.n1 s'.c1) s' d va vc la lc wr)) (fun _ i _ => n - (intOf i).toNat)
  case atStart => exact ⟨0, n, [], none, 0, none, 0, Nat.zero_le _, rfl, rfl, by unfold Hid; omega, Nat.zero_le _, HLR.out, HI.out⟩
  case round =>
    clear HI
    obtain ⟨k, f, d, va, vc, la, lc, hk, rfl, rfl, hf, hd, hdL, hI⟩ := hrel
    have hlow : Below W5.heap.size W5 wr := by rw [← HCC.out]; exact hI.out.low
    have HLOW := Lib.hid hlow
    by_cases hlt : k < n
    · have HC := Lib.hid (rlast_any S rss ra n rc k wr (HSE5.out.below hlow) (by omega) hlt)
      obtain ⟨i, hi⟩ : ∃ i, i = lastI S k := ⟨_, rfl⟩
      have hkS : k < S.length := by rw [HSL.out]; exact hlt
      have hki : k ≤ i := by rw [hi]; exact lastI_ge hkS
      have hin : i < n := by have := lastI_lt hkS; rw [HSL.out] at this; rw [hi]; exact this
      obtain ⟨f2, hf2, hr2⟩ := remL_go (f := f) hkS (by rw [HSL.out]; exact hf.out)
      rw [HSL.out] at hf2
      rw [← hi] at hf2 hr2 HC
      have HF2 := Lib.hid hf2
      have HR2 : Hid ((d ++ [i]) ++ remL S f2 (i + 1) = L) := by unfold Hid; rw [List.append_assoc]; have := hdL.out; rw [hr2] at this; exact this
      have HD := Lib.hid hd.out
      have HKI := Lib.hid hki
      have HIN : Hid (i < n ∧ n ≤ 256) := ⟨hin, hn256⟩
      have HI1 := Lib.hid hI.out
      have W1' : IntKind.i64.wrap ((i : Int) + 1) = (i : Int) + 1 := IntWalk.i64_in _ (by omega)
      clear hlow hi hkS hki hf2 hr2 hf hd hdL hI
      go_wp2_with fail
      refine HC.out.mono ?_
      rintro e W7 ⟨rfl, hb7⟩
      have HB7 := Lib.hid hb7
      clear hb7 HC
      go_wp2_with (at_builtin; refine wpList_append_own_at _ rfl _ _ 41 rfl C 3 iI (.int .i64 0) 1 8 Try.underlying41 hiI hzI0 hzI1 hzI2 rfl (by decide) (.slice la d.length lc) d.length (d.map iv) rfl (ownsN_below (ownsN_below HI1.out.ints HB7.out) (ext_alloc _ _)) ⟨W7.heap.size, 0, none⟩ 1 1 [.int .i64 (i : Int)] rfl rfl (cell_one_new _ _ _) (by simp [Value.oneCell']) ?c4 ?c5 ?c6 ?_)
      case c4 => have := HD.out; unfold maxLen; omega
      case c5 => have := HD.out; omega
      case c6 => exact Nat.le_trans (show C ≤ wr.heap.size by rw [HCC.out]; exact HLOW.out.size) (Nat.le_trans HB7.out.size (ext_alloc _ _).size)
      intro v' w8 hown' hgrow _ _
      have hal := ext_trans HB7.out (ext_alloc W7 (.cells #[.int .i64 (i : Int)] 3))
      generalize hWA : W7.alloc (.cells #[.int .i64 (i : Int)] 3) = WA at hgrow hal
      have hro := ownsN_below HI1.out.ints hal
      have hrow8 := owns_grown (ownsN_below HI1.out.row hal) hro hgrow (by decide)
      have hbox8 := heap_grown (heap_below HI1.out.box hal) hgrow (ownsN_notown hro (heap_below HI1.out.box hal) (by decide))
      have hCw : C ≤ wr.heap.size := by rw [HCC.out]; exact HLOW.out.size
      have hl8 : Below C W5 w8 := (HI1.out.low.trans (hal.mono hCw)).grown hgrow (Nat.le_trans hCw hal.size) (fun q hq => (hro.lt q hq).1)
      have e1 : d.map iv ++ [.int .i64 (i : Int)] = (d ++ [i]).map iv := by simp [iv]
      rw [e1] at hown'
      have HO1 : Hid (w8.ownsRow C 3 1 v' (d ++ [i]).length ((d ++ [i]).map iv)) := by unfold Hid; simpa using hown'
      obtain ⟨gx, gxc, rfl⟩ := ownsN_form HO1.out
      have HROW8 := Lib.hid hrow8
      have HBOX8 := Lib.hid hbox8
      have HL8 := Lib.hid hl8
      have HL8' : Hid (Below W5.heap.size W5 w8) := by unfold Hid; rw [← HCC.out]; exact hl8
      have HDD : Hid ((d ++ [i]).length ≤ i + 1) := by have := HD.out; have := HKI.out; unfold Hid; simp; omega
      have HPK : Hid (pickS s' (d ++ [i]) = pickS s' d ++ [s'.ss.getD i slc0]) := by unfold Hid pickS; simp
      have HDL : Hid ((d ++ [i]).length = d.length + 1) := by unfold Hid; simp
      obtain ⟨d2, hd2⟩ : ∃ d2, d2 = d ++ [i] := ⟨_, rfl⟩
      rw [← hd2] at HO1 HR2 HDD HPK HDL ⊢
      clear hal hro hrow8 hbox8 hl8 hWA hown' hgrow e1 hd2 hCw HI1 HB7 HLOW
      have hse8 := HO5.out.ll.sees.below HL8'.out
      obtain ⟨fb, fo, hfa, hfb⟩ := hse8.row.addr (show 0 < s'.n2 by rw [HSN2.out]; omega)
      have hcx : w8.cell? ⟨fb, fo + i, none⟩ = some (slV (s'.ss.getD i slc0)) := by
        have hse9 := hse8
        rw [hfa] at hse9
        have := hse9.cellAt i (by rw [HSN2.out]; exact hin)
        exact this
      have hfb5 : fb < W5.heap.size := by
        obtain ⟨b2, o2, k1, k2⟩ := HO5.out.ll.sees.row.addr (show 0 < s'.n2 by rw [HSN2.out]; omega)
        rw [hfa] at k1; cases k1
        exact k2
      obtain ⟨x, hx⟩ : ∃ x : Slc, x = s'.ss.getD i slc0 := ⟨_, rfl⟩
      rw [← hx] at hcx HPK
      obtain ⟨xa, xn, xc⟩ := x
      simp only [slV] at hcx
      have p0 : w8.cell? ⟨C, 2, none⟩ = some (.slice va d.length vc) := cell_of_block HBOX8.out 2
      have p1 : w8.cell? ⟨w.heap.size + 1, 2, none⟩ = some (.slice (some ⟨fb, fo, none⟩) n s'.c2) := by
        have := cell_of_block (heap_below HY5.out HL8'.out) 2
        rw [← hfa, ← HSN2.out]; exact this
      have HFB5 := Lib.hid hfb5
      have hI1 : ((i : Nat) : Int) < (n : Int) := by omega
      have hI2 : (0 : Int) ≤ (i : Int) := by omega
      clear hse8 hfa hfb hfb5 hx hin hlt
      go_upto_region 15 with fail
      have HS0 := Lib.hid (And.intro p0 (And.intro p1 hcx))
      have HSD := Lib.hid (keep3c HS0.out ((Below.refl _ w8).drew))
      have HYD := Lib.hid ((Below.refl w8.heap.size w8).drew)
      refine wp_region_noPanic ?_
      refine wp_region_peelN 10 (by kernel_rfl) rfl (by simp only [List.getElem?_toArray, List.getElem?_cons_zero, List.getElem?_cons_succ]; rfl) (by kernel_rfl) ?_
      simp only [List.pop_toArray, List.dropLast_cons_cons, List.dropLast_singleton]
      refine wpAny_of_held (S := fun w' => w'.cell? ⟨C, 2, none⟩ = some (.slice va d.length vc) ∧ w'.cell? ⟨w.heap.size + 1, 2, none⟩ = some (.slice (some ⟨fb, fo, none⟩) n s'.c2) ∧ w'.cell? ⟨fb, fo + i, none⟩ = some (.slice xa xn xc)) _ _ _ _ ?_
      refine wpAnyH_take (i := 0) (v := ?_) (by simp only [List.getElem?_toArray, List.getElem?_cons_zero]; rfl) (by kernel_rfl) (by kernel_rfl) (by kernel_rfl) (fun _ _ _ h => h) (Or.inl ⟨by rfl, ?_⟩) HSD.out ?_
      rotate_left
      · intro w hSw
        (try dsimp only at hSw)
        obtain ⟨q0_, q1_, q2_⟩ := hSw
        go_simp
        try with_reducible rfl
      try simp only [Act.put, List.setIfInBounds_toArray, List.set_cons_zero, List.set_cons_succ]
      refine wpAnyH_take (i := 1) (v := ?_) (by simp only [List.getElem?_toArray, List.getElem?_cons_zero, List.getElem?_cons_succ]; rfl) (by kernel_rfl) (by kernel_rfl) (by kernel_rfl) (fun _ _ _ h => h) (Or.inl ⟨by rfl, ?_⟩) HSD.out ?_
      rotate_left
      · intro w hSw
        (try dsimp only at hSw)
        obtain ⟨q0_, q1_, q2_⟩ := hSw
        go_simp
        try with_reducible rfl
      try simp only [Act.put, List.setIfInBounds_toArray, List.set_cons_zero, List.set_cons_succ]
      refine wpAnyH_take (i := 2) (v := ?_) (by simp only [List.getElem?_toArray, List.getElem?_cons_zero, List.getElem?_cons_succ]; rfl) (by kernel_rfl) (by kernel_rfl) (by kernel_rfl) (fun _ _ _ h => h) (Or.inl ⟨by rfl, ?_⟩) HSD.out ?_
      rotate_left
      · intro w hSw
        (try dsimp only at hSw)
        obtain ⟨q0_, q1_, q2_⟩ := hSw
        go_simp
        try with_reducible rfl
      try simp only [Act.put, List.setIfInBounds_toArray, List.set_cons_zero, List.set_cons_succ]
      refine wpAnyH_take (i := 3) (v := ?_) (by simp only [List.getElem?_toArray, List.getElem?_cons_zero, List.getElem?_cons_succ]; rfl) (by kernel_rfl) (by kernel_rfl) (by kernel_rfl) (fun _ _ _ h => h) (Or.inl ⟨by rfl, ?_⟩) HSD.out ?_
      rotate_left
      · intro w hSw
        (try dsimp only at hSw)
        obtain ⟨q0_, q1_, q2_⟩ := hSw
        go_simp
        try with_reducible rfl
      try simp only [Act.put, List.setIfInBounds_toArray, List.set_cons_zero, List.set_cons_succ]
      refine wpAnyH_take (i := 4) (v := ?_) (by simp only [List.getElem?_toArray, List.getElem?_cons_zero, List.getElem?_cons_succ]; rfl) (by kernel_rfl) (by kernel_rfl) (by kernel_rfl) (fun _ _ _ h => h) (Or.inl ⟨by rfl, ?_⟩) HSD.out ?_
      rotate_left
      · intro w hSw
        (try dsimp only at hSw)
        obtain ⟨q0_, q1_, q2_⟩ := hSw
        go_simp
        try with_reducible rfl
      try simp only [Act.put, List.setIfInBounds_toArray, List.set_cons_zero, List.set_cons_succ]
      refine wpAnyH_take (i := 5) (v := ?_) (by simp only [List.getElem?_toArray, List.getElem?_cons_zero, List.getElem?_cons_succ]; rfl) (by kernel_rfl) (by kernel_rfl) (by kernel_rfl) (fun _ _ _ h => h) (Or.inl ⟨by rfl, ?_⟩) HSD.out ?_
      rotate_left
      · intro w hSw
        (try dsimp only at hSw)
        obtain ⟨q0_, q1_, q2_⟩ := hSw
        go_simp
        try with_reducible rfl
      try simp only [Act.put, List.setIfInBounds_toArray, List.set_cons_zero, List.set_cons_succ]
      refine wpAnyH_take (i := 6) (v := ?_) (by simp only [List.getElem?_toArray, List.getElem?_cons_zero, List.getElem?_cons_succ]; rfl) (by kernel_rfl) (by kernel_rfl) (by kernel_rfl) (fun _ _ _ h => h) (Or.inl ⟨by rfl, ?_⟩) HSD.out ?_
      rotate_left
      · intro w hSw
        (try dsimp only at hSw)
        obtain ⟨q0_, q1_, q2_⟩ := hSw
        go_simp
        try with_reducible rfl
      try simp only [Act.put, List.setIfInBounds_toArray, List.set_cons_zero, List.set_cons_succ]
      refine wpAnyH_ready (rs := [7]) (by kernel_rfl) (by simp) ?_
      refine AllReadyH.cons (by simp only [List.getElem?_toArray, List.getElem?_cons_zero, List.getElem?_cons_succ]; rfl) (fun K hK => ?_) AllReadyH.nil
      go_simp
      have HS4 := Lib.hid (keep3c HSD.out (ext_alloc w8.drew (.cells #[.slice xa xn xc] 27)))
      refine hK.out _ _ HS4.out (fun _ => ?_)
      clear hK K
      try simp only [Act.put, List.setIfInBounds_toArray, List.set_cons_zero, List.set_cons_succ]
      have HB4b := Lib.hid (ext_trans HYD.out (ext_alloc w8.drew (.cells #[.slice xa xn xc] 27)))
      have HOW := Lib.hid (ownsN_below HROW8.out HB4b.out)
      refine wpAnyH_ready (rs := [8]) (by kernel_rfl) (by simp) ?_
      refine AllReadyH.cons (by simp only [List.getElem?_toArray, List.getElem?_cons_zero, List.getElem?_cons_succ]; rfl) (fun K hK => ?_) AllReadyH.nil
      refine step_append_own_at rfl _ _ 28 rfl C 27 iS (.slice none 0 0) 1 24 Try.underlying28 hiS hzS0 hzS1 hzS2 rfl (by decide) (.slice va d.length vc) d.length ((pickS s' d).map slV) (by simp [Act.eval]) HOW.out ⟨w8.heap.size, 0, none⟩ 1 1 [.slice xa xn xc] (by simp [Act.eval]) rfl (cell_one_new _ _ _) (by simp [Value.oneCell']) (by unfold maxLen; have := HDD.out; have := HIN.out; have := HDL.out; omega) (by have := HDD.out; have := HIN.out; have := HDL.out; omega) (Nat.le_trans (show C ≤ w8.heap.size by rw [HCC.out]; exact HL8'.out.size) HB4b.out.size) ?_
      intro v5 w9 r5 g5
      obtain ⟨fa, fc, rfl⟩ := ownsN_form r5
      have hx9 := heap_grown (heap_below HBOX8.out HB4b.out) g5 (ownsN_notown HOW.out (heap_below HBOX8.out HB4b.out) (by decide))
      have hCw : C ≤ w8.heap.size := by rw [HCC.out]; exact HL8'.out.size
      have hl9 : Below C W5 w9 := (HL8.out.trans (HB4b.out.mono hCw)).grown g5 (Nat.le_trans hCw HB4b.out.size) (fun q hq => (HOW.out.lt q hq).1)
      have hl9' : Below W5.heap.size W5 w9 := by rw [← HCC.out]; exact hl9
      have hi9 := owns_grown (ownsN_below HO1.out HB4b.out) HOW.out g5 (by decide)
      have HS5 : Hid (w9.cell? ⟨C, 2, none⟩ = some (.slice va d.length vc) ∧ w9.cell? ⟨w.heap.size + 1, 2, none⟩ = some (.slice (some ⟨fb, fo, none⟩) n s'.c2) ∧ w9.cell? ⟨fb, fo + i, none⟩ = some (.slice xa xn xc)) := by
        refine ⟨cell_of_block hx9 2, ?_, ?_⟩
        · have e1 := hl9'.cell (p := ⟨w.heap.size + 1, 2, none⟩) (heap_lt HY5.out)
          have e2 := HL8'.out.cell (p := ⟨w.heap.size + 1, 2, none⟩) (heap_lt HY5.out)
          exact e1.trans (e2.symm.trans HS0.out.2.1)
        · have e1 := hl9'.cell (p := ⟨fb, fo + i, none⟩) HFB5.out
          have e2 := HL8'.out.cell (p := ⟨fb, fo + i, none⟩) HFB5.out
          exact e1.trans (e2.symm.trans HS0.out.2.2)
      have HX9 := Lib.hid hx9
      have HL9 := Lib.hid hl9
      have HI9 := Lib.hid hi9
      have d1 := cell_of_block hx9 2
      have d3 := unfrozen_of_block hx9 2
      have R5 := Lib.hid r5
      clear r5 g5 hx9 hl9 hl9' hi9 hCw
      refine hK.out _ _ HS5.out (fun _ => ?_)
      clear hK K
      try simp only [Act.put, List.setIfInBounds_toArray, List.set_cons_zero, List.set_cons_succ]
      refine wpAnyH_take (i := 9) (v := ?_) (by simp only [List.getElem?_toArray, List.getElem?_cons_zero, List.getElem?_cons_succ]; rfl) (by kernel_rfl) (by kernel_rfl) (by kernel_rfl) (fun _ _ _ h => h) (Or.inl ⟨by rfl, ?_⟩) HS5.out ?_
      rotate_left
      · intro w hSw
        (try dsimp only at hSw)
        obtain ⟨q0_, q1_, q2_⟩ := hSw
        go_simp
        try with_reducible rfl
      try simp only [Act.put, List.setIfInBounds_toArray, List.set_cons_zero, List.set_cons_succ]
      refine wpAnyH_done (by kernel_rfl) ?_ _
      unfold LastQ wpOp
      simp only [List.getElem?_toArray, List.getElem?_cons_zero, List.getElem?_cons_succ]
      rw [if_pos (by rfl)]
      refine Or.inl ?_
      go_simp
      refine NoPanic.normal ?_
      have HNEW : Hid (RkInv W5 C t.bad (.slice s'.a1 s'.n1 s'.c1) s' d2 fa fc gx gxc (w9.setCell ⟨C, 2, none⟩ (.slice fa (d.length + 1) fc))) := by
        refine ⟨?_, ?_, ?_, HL9.out.setCell (Nat.le_refl C) _⟩
        · rw [HDL.out]; exact block_setCell HX9.out (i := 2) _
        · rw [HPK.out, HDL.out]
          have r6 := R5.out
          rw [show (pickS s' d ++ [(xa, xn, xc)]).map slV = (pickS s' d).map slV ++ [.slice xa xn xc] by simp [slV]]
          refine ownsN_other r6 fun q hq => Below.heap_setCell w9 ⟨C, 2, none⟩ _ q (fun e => ?_)
          exact ownsN_notown r6 HX9.out (by decide) (by rw [hq, show q = C from e])
        · refine ownsN_other HI9.out fun q hq => Below.heap_setCell w9 ⟨C, 2, none⟩ _ q (fun e => ?_)
          exact ownsN_notown HI9.out HX9.out (by decide) (by rw [hq, show q = C from e])
      clear p0 p1 hcx HS0 HSD HS4 HS5 d1 d3
      go_wp2
      go_roundw
      case rel => exact ⟨i + 1, f2, d2, fa, fc, gx, gxc, by have := HIN.out; omega, by go_num, rfl, by have := HF2.out; unfold Hid; omega, HDD.out, HR2.out, HNEW.out⟩
      case measure => have := HKI.out; simp [intOf]; omega
    · obtain rfl : k = n := by omega
      have e : d = L := by have := hdL.out; rw [remL_end f k (by rw [HSL.out]; exact Nat.le_refl _), List.append_nil] at this; exact this
      subst e
      have hz := heap_below HZ5.out hlow
      have HZ6 := Lib.hid hz
      have z0 := cell_of_block hz 0
      have y0 := unfrozen_of_block hz 0
      have z1 := cell_of_block hz 1
      have y1 := unfrozen_of_block hz 1
      have z2 := cell_of_block hz 2
      have y2 := unfrozen_of_block hz 2
      have p0 : wr.cell? ⟨C, 0, none⟩ = some (.int .i64 t.bad) := cell_of_block hI.out.box 0
      have p1 : wr.cell? ⟨C, 1, none⟩ = some (.slice s'.a1 s'.n1 s'.c1) := cell_of_block hI.out.box 1
      have p2 : wr.cell? ⟨C, 2, none⟩ = some (.slice va d.length vc) := cell_of_block hI.out.box 2
      have hot := HO5.out.below hlow
      have HTA : Hid (OwnTA wr W3.heap.size ⟨s'.a1, s'.n1, s'.c1, va, d.length, vc, pickS s' d⟩ ⟨t.bad, zeroL t.init, d.map fun k => zeroL (t.frames.getD k [])⟩) := by
        refine ⟨hot.o1, by simp, by simp [pickS], ?_, fun j hj => ?_⟩
        · refine ownsN_base_le hI.out.row ?_
          rw [HCC.out]; exact HW35.out
        · have h1 := HLTT.out j hj
          have h2 := hot.ll.rows (d.getD j 0) (by rw [HSN2.out]; exact h1)
          rw [readT_frame] at h2
          have e1 : (pickS s' d).getD j slc0 = s'.ss.getD (d.getD j 0) slc0 := by simp [pickS, List.getD, List.getElem?_eq_getElem hj]
          have e2 : (d.map fun k => zeroL (t.frames.getD k [])).getD j [] = zeroL (t.frames.getD (d.getD j 0) []) := by simp [List.getD, List.getElem?_eq_getElem hj]
          show Row isByte wr W3.heap.size _ (slV ((pickS s' d).getD j slc0)) ((d.map fun k => zeroL (t.frames.getD k [])).getD j []).length (((d.map fun k => zeroL (t.frames.getD k [])).getD j []).map bv)
          rw [e1, e2]
          exact h2
      have HSMX : Hid (TSlots.small ⟨s'.a1, s'.n1, s'.c1, va, d.length, vc, pickS s' d⟩) := by
        refine ⟨HSM.out.n1, by show d.length ≤ 1048576; have := HLN.out; omega, fun x hx => ?_⟩
        obtain ⟨i, hi, rfl⟩ := List.mem_map.1 hx
        obtain ⟨j, hj, rfl⟩ := List.mem_iff_getElem.1 hi
        have h1 := HLTT.out j hj
        have e1 : d.getD j 0 = d[j] := by simp [List.getD, List.getElem?_eq_getElem hj]
        rw [e1] at h1
        exact HSM.out.each _ (getD_mem (by rw [HSLL.out]; exact h1))
      have HLO2 := Lib.hid hI.out.ints
      have HBW := Lib.hid (ext_trans HB5.out hlow)
      clear hz hlow hI hot hdL hf hd
      go_wp2
      refine bodyPost_ret (v := .tuple #[traceV t.bad ⟨s'.a1, s'.n1, s'.c1, va, d.length, vc, pickS s' d⟩, .slice la d.length lc, .int .i64 0]) ?_ rfl ?_
      · have h6 := tri_set_t HZ6.out rfl (.int .i64 t.bad) (.slice s'.a1 s'.n1 s'.c1) (.slice va d.length vc)
        have g0 := cell_of_block h6 0
        have g1 := cell_of_block h6 1
        have g2 := cell_of_block h6 2
        simp [results, Try.results15, go_sem, g0, g1, g2]
        rfl
      · have h1 := HZL.out
        refine HYES.out _ _ la lc (by first | rfl | trivial) (by first | rfl | trivial) ?_ ?_ HSMX.out (set3_t (w.heap.size + 1 + 1) (by omega) HBW.out)
        · refine (owns_sees_slice (ownsN_other HLO2.out fun q hq => set3_other (w.heap.size + 1 + 1) q ?_ _ _ _)).2
          have h2 := (HLO2.out.lt q hq).1
          have h3 := HCC.out
          have h4 := HW35.out
          omega
        · exact (OwnTA.move (B := 0) HTA.out (fun D hD => set3_other (w.heap.size + 1 + 1) D (by omega) _ _ _) (by omega)).sees
end Go.Proofs.Ytgpkghlhlabjcaa
