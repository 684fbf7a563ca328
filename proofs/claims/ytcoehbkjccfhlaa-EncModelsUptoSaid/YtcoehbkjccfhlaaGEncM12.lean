/- Clauses that are made one behind the other: a box that holds a row of lists; the two closures of package enc, by their contracts. -/
import Derived.Test.YtcoehbkjccfhlaaGEncM00
import Derived.Test.YtcoehbkjccfhlaaGEncM01
import Derived.Test.YtcoehbkjccfhlaaGEncM03
import Derived.Test.YtcoehbkjccfhlaaGEncM04
import Derived.Test.YtcoehbkjccfhlaaRows
import Derived.Test.YtcoehbkjccfhlaaGEncM05
import Derived.BigQuiet
import Derived.Deep.AppendLies
import Derived.Deep.CutRange
import Derived.Deep.QuietTactic
import Derived.Deep.RegionHeld3
import Derived.Deep.RegionLaw
import Derived.Deep.RegionWith
import Derived.KernelRfl
import Derived.Laws.Bits64b
import Derived.Laws.BitsAllLaws
import Derived.Laws.BitsLemmas
import Derived.Laws.EntriesVeiled
import Derived.Laws.Tables
import Derived.Lib.AppendStr
import Derived.Lib.AppendZeros
import Derived.Lib.ConvBytes
import Derived.Lib.Hide
import Derived.Lib.SlBytesRow
import Derived.Lib.SmallJoins
import Derived.LoopIn
import Derived.LoopNIn
import Derived.Maps.AppendAt
import Derived.OrdersHeld
import Derived.OrdersIn
import Derived.OwnWalkIn
import Derived.RangeFuncBox
import Derived.RangeFuncCalls
import Derived.RangeFuncLeaves
import Derived.RangeFuncNested
import Derived.RangeFuncWrites
import Derived.Shelf.Abstract
import Derived.Shelf.Bytes.SlSmallAll
import Derived.Shelf.RegionOpen
import Derived.Sort.CutIn
import Derived.Stop.RegionWithIn
import Derived.TacticsInMore
import Derived.WalkKit
import Derived.WalkLawsBesides
import Derived.WalkSpells
import Derived.Test.YtcoehbkjccfhlaaGEncM10
/- sim.Surely, by its contract. -/
namespace Go.Proofs.Ytcoehbkjccfhlaa
open Go Go.RowKit Go.Joins

theorem keep63 {w : World} {x y : Nat} {a0 a1 a2 a3 a4 a5 b0 b1 b2 : Value} {T1 T2 : TypeId} (hx : w.heap[x]? = some (.cells #[a0, a1, a2, a3, a4, a5] T1 (0, 0))) (hy : w.heap[y]? = some (.cells #[b0, b1, b2] T2 (0, 0))) :
    w.cell? ⟨x, 0, none⟩ = some a0 ∧ w.cell? ⟨x, 1, none⟩ = some a1 ∧ w.cell? ⟨x, 2, none⟩ = some a2 ∧ w.cell? ⟨x, 3, none⟩ = some a3 ∧ w.cell? ⟨x, 4, none⟩ = some a4 ∧ w.cell? ⟨x, 5, none⟩ = some a5 ∧ w.cell? ⟨y, 0, none⟩ = some b0 ∧ w.cell? ⟨y, 1, none⟩ = some b1 ∧ w.cell? ⟨y, 2, none⟩ = some b2 :=
  ⟨cell_of_block hx 0, cell_of_block hx 1, cell_of_block hx 2, cell_of_block hx 3, cell_of_block hx 4, cell_of_block hx 5, cell_of_block hy 0, cell_of_block hy 1, cell_of_block hy 2⟩

/-- What Surely answers. -/
def surelyE (c : NormC) (t : TraceC) : Ending := if fitsS c t = true then .returned (.tuple #[bv (k1.verdict c t.bad.toNat t.init t.frames), .int .i64 0]) else .returned (.tuple #[.int .u8 0, .int .i64 2])

end Go.Proofs.Ytcoehbkjccfhlaa
/- A trace whose X are bits, on plain lists. -/
namespace Go.Proofs.Ytcoehbkjccfhlaa
open Go Go.RowKit Go.Joins

def bitU (bits : List Bool) (p : Nat) : UInt8 := if bits.getD p false = true then 1 else 0
def fillU (bits : List Bool) (p : Nat) (u : UInt8) : UInt8 := if u.toNat = 2 then bitU bits p else u
def nextU (p : Nat) (u : UInt8) : Nat := if u.toNat = 2 then p + 1 else p
def fillL (bits : List Bool) : Nat → List UInt8 → List UInt8
  | _, [] => []
  | p, u :: r => fillU bits p u :: fillL bits (nextU p u) r
def nextX : Nat → List UInt8 → Nat
  | p, [] => p
  | p, u :: r => nextX (nextU p u) r
theorem fillL_len (bits : List Bool) : ∀ (l : List UInt8) (p : Nat), (fillL bits p l).length = l.length
  | [], _ => rfl
  | u :: r, p => by rw [fillL, List.length_cons, fillL_len bits r, List.length_cons]
theorem fillL_append (bits : List Bool) : ∀ (a b : List UInt8) (p : Nat), fillL bits p (a ++ b) = fillL bits p a ++ fillL bits (nextX p a) b
  | [], _, _ => rfl
  | u :: r, b, p => by rw [List.cons_append, fillL, fillL_append bits r b, fillL, nextX]; rfl
theorem nextX_append : ∀ (a b : List UInt8) (p : Nat), nextX p (a ++ b) = nextX (nextX p a) b
  | [], _, _ => rfl
  | u :: r, b, p => by rw [List.cons_append, nextX, nextX_append r b]; rfl
theorem nextU_le (p : Nat) (u : UInt8) : nextU p u ≤ p + 1 := by unfold nextU; split <;> omega
theorem nextX_le : ∀ (l : List UInt8) (p : Nat), nextX p l ≤ p + l.length
  | [], p => Nat.le_refl _
  | u :: r, p => by rw [nextX, List.length_cons]; have := nextX_le r (nextU p u); have := nextU_le p u; omega
/-- What a list holds when m of its values have been filled. -/
def fillI (bits : List Bool) (p : Nat) (l : List UInt8) (m : Nat) : List UInt8 := fillL bits p (l.take m) ++ l.drop m
theorem fillI_len (bits : List Bool) (p : Nat) (l : List UInt8) (m : Nat) : (fillI bits p l m).length = l.length := by unfold fillI; rw [List.length_append, fillL_len, List.length_take, List.length_drop]; omega
theorem fillI_zero (bits : List Bool) (p : Nat) (l : List UInt8) : fillI bits p l 0 = l := by simp [fillI, fillL]
theorem fillI_all (bits : List Bool) (p : Nat) (l : List UInt8) : fillI bits p l l.length = fillL bits p l := by simp [fillI]
theorem fillI_at (bits : List Bool) (p : Nat) (l : List UInt8) (m : Nat) (h : m < l.length) : (fillI bits p l m).getD m 0 = l.getD m 0 := by
  have e : (fillL bits p (l.take m)).length = m := by rw [fillL_len, List.length_take]; omega
  simp [fillI, List.getD, List.getElem?_append_right (Nat.le_of_eq e), e, List.getElem?_drop]
theorem take_snoc (l : List UInt8) (m : Nat) (h : m < l.length) : l.take (m + 1) = l.take m ++ [l.getD m 0] := by
  rw [List.take_add_one, List.getElem?_eq_getElem h]; simp [List.getD, List.getElem?_eq_getElem h]
theorem nextX_step (p : Nat) (l : List UInt8) (m : Nat) (h : m < l.length) : nextX p (l.take (m + 1)) = nextU (nextX p (l.take m)) (l.getD m 0) := by
  rw [take_snoc l m h, nextX_append]; rfl
theorem fillI_step (bits : List Bool) (p : Nat) (l : List UInt8) (m : Nat) (h : m < l.length) : fillI bits p l (m + 1) = (fillI bits p l m).set m (fillU bits (nextX p (l.take m)) (l.getD m 0)) := by
  have e : (fillL bits p (l.take m)).length = m := by rw [fillL_len, List.length_take]; omega
  have hg : l.getD m 0 = l[m] := by simp [List.getD, List.getElem?_eq_getElem h]
  unfold fillI
  rw [List.set_append_right _ _ (Nat.le_of_eq e), e, Nat.sub_self, List.drop_eq_getElem_cons h, List.set_cons_zero, take_snoc l m h, fillL_append, hg]
  simp only [fillL, List.append_assoc, List.cons_append, List.nil_append]
theorem fillI_keep (bits : List Bool) (p : Nat) (l : List UInt8) (m : Nat) (h : m < l.length) (h2 : (l.getD m 0).toNat ≠ 2) : fillI bits p l (m + 1) = fillI bits p l m := by
  rw [fillI_step bits p l m h]
  unfold fillU
  rw [if_neg h2, ← fillI_at bits p l m h]
  have hl : m < (fillI bits p l m).length := by rw [fillI_len]; exact h
  simp [List.getD, List.getElem?_eq_getElem hl]
/-- The lists of a trace, the first one ahead. -/
def listsOf (t : TraceC) (j : Nat) : List UInt8 := (t.init :: t.frames).getD j []
/-- How many X lie ahead of a list. -/
def startP (G : Nat → List UInt8) : Nat → Nat
  | 0 => 0
  | k + 1 => nextX (startP G k) (G k)
theorem startP_le (G : Nat → List UInt8) (M : Nat) : ∀ k, (∀ j, j < k → (G j).length ≤ M) → startP G k ≤ k * M
  | 0, _ => by simp [startP]
  | k + 1, h => by
    have h1 := startP_le G M k (fun j hj => h j (by omega))
    have h2 := nextX_le (G k) (startP G k)
    have h3 := h k (by omega)
    rw [startP, Nat.succ_mul]; omega
def fillT (bits : List Bool) (t : TraceC) : TraceC := ⟨t.bad, fillL bits 0 t.init, (List.range t.frames.length).map fun k => fillL bits (startP (listsOf t) (k + 1)) (t.frames.getD k [])⟩
theorem KeptNB.owns {w w' : World} (h : KeptNB w w') {base sz : Nat} {e : TypeId} {v : Value} {n : Nat} {xs : List Value} (hr : w.ownsRow base e sz v n xs) (he : e ≠ 5) : w'.ownsRow base e sz v n xs :=
  ownsN_other hr fun q hq => by
    rcases hr.2 with ⟨h2, _⟩ | ⟨g', cap', cur, h2, _, hh, _⟩
    · rw [h2] at hq; cases hq
    · rw [h2] at hq
      have : g' = q := by simpa [Value.ownBlock] using hq
      subst this
      exact (h g' cur e _ hh he).trans hh.symm
end Go.Proofs.Ytcoehbkjccfhlaa
/- Package enc on plain lists: the clause literals, the clauses of an unrolling, each with the gate that it is of. -/
namespace Go.Proofs.Ytcoehbkjccfhlaa
open Go Go.RowKit Go.Joins

/-- The clause variable of a variable in a frame. -/
def spotE (V v f : Nat) : Nat := 1 + f * V + v
def absE (V x f : Nat) : Int := if x / 2 = 0 then -1 else ((spotE V (x / 2) f : Nat) : Int)
/-- The clause literal of a literal in a frame. -/
def litE (V x f : Nat) : Int := if x % 2 = 1 then -(absE V x f) else absE V x f
/-- What g tells of 0, 1 .., one behind the other. -/
def upE {α : Type} (g : Nat → List α) (k : Nat) : List α := (List.range k).flatMap g
theorem upE_zero {α : Type} (g : Nat → List α) : upE g 0 = [] := rfl
theorem upE_succ {α : Type} (g : Nat → List α) (k : Nat) : upE g (k + 1) = upE g k ++ g k := by simp [upE, List.range_succ, List.flatMap_append]
theorem upE_len {α : Type} (g : Nat → List α) (m : Nat) : ∀ k, (∀ i, i < k → (g i).length ≤ m) → (upE g k).length ≤ k * m
  | 0, _ => by simp [upE_zero]
  | k + 1, h => by
    rw [upE_succ, List.length_append, Nat.succ_mul]
    have := upE_len g m k (fun i hi => h i (by omega))
    have := h k (by omega)
    omega
theorem upE_congr {α : Type} {g g' : Nat → List α} : ∀ k, (∀ i, i < k → g i = g' i) → upE g k = upE g' k
  | 0, _ => rfl
  | k + 1, h => by rw [upE_succ, upE_succ, upE_congr k (fun i hi => h i (by omega)), h k (by omega)]
theorem upE_mem {α : Type} {g : Nat → List α} {k : Nat} {x : α} : x ∈ upE g k ↔ ∃ i, i < k ∧ x ∈ g i := by
  simp [upE, List.mem_flatMap]
/-- A clause, with the gate that it is of (-1: of none). -/
abbrev TCl := Int × List Int
def firstLatE (c : NormC) : Nat := 1 + c.ins.toNat
def firstGateE (c : NormC) : Nat := 1 + c.ins.toNat + c.lats.length
def resetE (c : NormC) (i : Nat) : List TCl :=
  if (c.lats.getD i (0, 0)).2 = 0 then [(-1, [-((spotE (varsN c) (firstLatE c + i) 0 : Nat) : Int)])]
  else if (c.lats.getD i (0, 0)).2 = 1 then [(-1, [((spotE (varsN c) (firstLatE c + i) 0 : Nat) : Int)])] else []
def nextE (c : NormC) (f i : Nat) : List TCl :=
  [(-1, [-((spotE (varsN c) (firstLatE c + i) f : Nat) : Int), litE (varsN c) (c.lats.getD i (0, 0)).1 (f - 1)]),
   (-1, [((spotE (varsN c) (firstLatE c + i) f : Nat) : Int), -(litE (varsN c) (c.lats.getD i (0, 0)).1 (f - 1))])]
def gateE (c : NormC) (f i : Nat) : List TCl :=
  [((i : Int), [-((spotE (varsN c) (firstGateE c + i) f : Nat) : Int), litE (varsN c) (c.gates.getD i (0, 0)).1 f]),
   ((i : Int), [-((spotE (varsN c) (firstGateE c + i) f : Nat) : Int), litE (varsN c) (c.gates.getD i (0, 0)).2 f]),
   ((i : Int), [((spotE (varsN c) (firstGateE c + i) f : Nat) : Int), -(litE (varsN c) (c.gates.getD i (0, 0)).1 f), -(litE (varsN c) (c.gates.getD i (0, 0)).2 f)])]
def latsE (c : NormC) (f : Nat) : List TCl := if f = 0 then upE (resetE c) c.lats.length else upE (nextE c f) c.lats.length
def frameE (c : NormC) (f : Nat) : List TCl := latsE c f ++ upE (gateE c f) c.gates.length
/-- All clauses of an unrolling. -/
def allE (c : NormC) (nf : Nat) : List TCl := (-1, [1]) :: upE (frameE c) nf
theorem allE_succ (c : NormC) (k : Nat) : allE c (k + 1) = allE c k ++ latsE c k ++ upE (gateE c k) c.gates.length := by
  simp [allE, upE_succ, frameE]
theorem resetE_len (c : NormC) (i : Nat) : (resetE c i).length ≤ 1 := by unfold resetE; split; simp; split <;> simp
theorem latsE_len (c : NormC) (f k : Nat) : (if f = 0 then upE (resetE c) k else upE (nextE c f) k).length ≤ 2 * k := by
  split
  · have := upE_len (resetE c) 2 k (fun i _ => Nat.le_trans (resetE_len c i) (by omega)); omega
  · have := upE_len (nextE c f) 2 k (fun i _ => by simp [nextE]); omega
theorem frameE_len (c : NormC) (f : Nat) (h : varsN c ≤ 16384) : (frameE c f).length ≤ 49152 := by
  have h1 := latsE_len c f c.lats.length
  have h2 := upE_len (gateE c f) 3 c.gates.length (fun i _ => by simp [gateE])
  unfold frameE
  rw [List.length_append]
  unfold latsE
  unfold varsN at h
  omega
theorem allE_len (c : NormC) (k : Nat) (h : varsN c ≤ 16384) : (allE c k).length ≤ 1 + k * 49152 := by
  have := upE_len (frameE c) 49152 k (fun i _ => frameE_len c i h)
  unfold allE
  rw [List.length_cons]
  omega
/-- A clause as it is; with its switch. -/
def bareE (t : TCl) : List Int := t.2
def withE (first : Nat) (t : TCl) : List Int := if t.1 = -1 then t.2 else t.2 ++ [(first : Int) + t.1]
/-- How many clauses there are. -/
def fixedE (c : NormC) (k : Nat) : Nat := ((c.lats.take k).filter (fun p => decide (p.2 ≠ 2))).length
def manyE (c : NormC) (nf : Nat) : Nat := 1 + 2 * c.lats.length * (nf - 1) + 3 * c.gates.length * nf + fixedE c c.lats.length
theorem fixedE_succ (c : NormC) (k : Nat) (hk : k < c.lats.length) : fixedE c (k + 1) = fixedE c k + if (c.lats.getD k (0, 0)).2 = 2 then 0 else 1 := by
  unfold fixedE
  rw [List.take_succ_eq_append_getElem hk, List.filter_append, List.length_append]
  congr 1
  simp only [List.getD, List.getElem?_eq_getElem hk, Option.getD_some, List.filter_cons, List.filter_nil]
  by_cases h : c.lats[k].2 = 2 <;> simp [h]
theorem fixedE_le (c : NormC) (k : Nat) : fixedE c k ≤ c.lats.length := by
  unfold fixedE
  exact Nat.le_trans (List.length_filter_le _ _) (by simp; omega)
/-- May there be so many frames? -/
def framesOk (z : Int) : Bool := decide (1 ≤ z) && decide (z ≤ 256)
def ofOk (c : NormC) (z : Int) : Bool := framesOk z && mayC c
theorem spotE_lt {V v f : Nat} (hV : V ≤ 16384) (hv : v ≤ V) (hf : f ≤ 256) : spotE V v f ≤ 4300000 ∧ f * V ≤ 4194304 := by
  have : f * V ≤ 256 * 16384 := Nat.mul_le_mul hf hV
  unfold spotE
  omega
theorem absE_small {V x f : Nat} (hV : V ≤ 16384) (hx : x ≤ 2 * V + 1) (hf : f ≤ 256) : -1 ≤ absE V x f ∧ absE V x f ≤ 4300000 := by
  have := spotE_lt hV (show x / 2 ≤ V by omega) hf
  unfold absE
  split <;> omega
theorem litE_small {V x f : Nat} (hV : V ≤ 16384) (hx : x ≤ 2 * V + 1) (hf : f ≤ 256) : -4300000 ≤ litE V x f ∧ litE V x f ≤ 4300000 := by
  have := absE_small hV hx hf
  unfold litE
  split <;> omega
/-- An unrolling as a value. -/
def uV (ins : Int) (s : CSlots) (V nf : Nat) : Value := .agg #[.int .i64 ins, .slice s.a1 s.n1 s.c1, .slice s.a2 s.n2 s.c2, .slice s.a3 s.n3 s.c3, .slice s.a4 s.n4 s.c4, .slice s.a5 s.n5 s.c5, .int .i64 (V : Int), .int .i64 (nf : Int)]
/-- Its cells. -/
def uC (ins : Int) (s : CSlots) (V nf : Nat) : Array Value := #[.int .i64 ins, .slice s.a1 s.n1 s.c1, .slice s.a2 s.n2 s.c2, .slice s.a3 s.n3 s.c3, .slice s.a4 s.n4 s.c4, .slice s.a5 s.n5 s.c5, .int .i64 (V : Int), .int .i64 (nf : Int)]
end Go.Proofs.Ytcoehbkjccfhlaa
/- Lists of ints that the call makes, one behind the other. -/
namespace Go.Proofs.Ytcoehbkjccfhlaa
open Go Go.RowKit Go.Joins

/-- A list that lies in old memory, or that the call made. -/
def OneZ (w0 w : World) (s : ZSlc) (C : List Int) : Prop := Sees w0 s.1 s.2.1 s.2.2 (zvs C) ∨ Row isZ w w0.heap.size 3 (zsV s) C.length (zvs C)
theorem OneZ.sees {w0 w : World} {s : ZSlc} {C : List Int} (h : OneZ w0 w s C) (hb : Below w0.heap.size w0 w) : Sees w s.1 s.2.1 s.2.2 (zvs C) := by
  rcases h with h | h
  · exact h.below hb
  · obtain ⟨a, c, e, _, hs⟩ := h.sees
    obtain ⟨a', n', c'⟩ := s
    unfold zsV at e
    cases e
    exact hs
theorem Row.apart {ok ok' : Value → Prop} {w w' : World} {base base' : Nat} {e e' : TypeId} {v v' : Value} {n n' : Nat} {xs xs' : List Value} (h : Row ok w base e v n xs) (h' : Row ok' w base' e' v' n' xs') (he : e ≠ e') (hg : w.grownBy w' v'.ownBlock) : Row ok w' base e v n xs := by
  refine h.other fun k hk => ?_
  rcases h.2 with ⟨rfl, _⟩ | ⟨g, cap, cur, rfl, _, hb, _⟩
  · cases hk
  · have : g = k := by simpa [Value.ownBlock] using hk
    subst this
    exact (heap_grown hb hg (h'.not_own hb he)).trans hb.symm
structure ListsZ (w0 : World) (v : Value) (ss : List ZSlc) (L : List (List Int)) (w : World) : Prop where
  bel : Below w0.heap.size w0 w
  row : Row (fun _ => True) w w0.heap.size 45 v ss.length (ss.map zsV)
  len : ss.length = L.length
  each : ∀ j, j < L.length → OneZ w0 w (ss.getD j zs0) (L.getD j [])
section
variable {w0 w w1 w' : World} {v v' : Value} {ss : List ZSlc} {L : List (List Int)}
theorem ListsZ.nil (w : World) : ListsZ w (.slice none 0 0) [] [] w := ⟨Below.refl _ _, Row.nil _ _ _ _, rfl, fun j hj => absurd hj (by simp)⟩
theorem ListsZ.onward (h : ListsZ w0 v ss L w) (hb : Below w.heap.size w w1) : ListsZ w0 v ss L w1 :=
  ⟨h.bel.trans (hb.mono h.bel.size), h.row.below hb, h.len, fun j hj => (h.each j hj).imp id (fun hr => hr.below hb)⟩
theorem ListsZ.more (h : ListsZ w0 v ss L w) (hb : Below w.heap.size w w1) {s : ZSlc} {C : List Int} (hs : OneZ w0 w1 s C)
    (hrow : Row (fun _ => True) w' w0.heap.size 45 v' (ss.length + 1) (ss.map zsV ++ [zsV s])) (hg : w1.grownBy w' v.ownBlock) : ListsZ w0 v' (ss ++ [s]) (L ++ [C]) w' := by
  have h1 := h.onward hb
  refine ⟨h1.bel.grown hg h1.bel.size (fun j hj => (h1.row.own.lt j hj).1), by simpa using hrow, by simp [h.len], fun j hj => ?_⟩
  by_cases hj2 : j < L.length
  · rw [getD_appL (by rw [h.len]; exact hj2), getD_appL hj2]
    exact (h1.each j hj2).imp id (fun hr => hr.apart h1.row (by decide) hg)
  · have : j = L.length := by simp at hj; omega
    subst this
    have e2 : (ss ++ [s]).getD L.length zs0 = s := by rw [← h.len]; exact getD_appE
    rw [getD_appE, e2]
    exact hs.imp id (fun hr => hr.apart h1.row (by decide) hg)
/-- Old lists, all at once, behind nothing. -/
theorem ListsZ.all {a : Option Addr} {n c : Nat} (h : SeesZ w0 a n c ss L) (hb : Below w0.heap.size w0 w) (hrow : Row (fun _ => True) w w0.heap.size 45 v ss.length (ss.map zsV)) : ListsZ w0 v ss L w :=
  ⟨hb, hrow, h.len, fun j hj => .inl (h.each j hj)⟩
theorem ListsZ.done (h : ListsZ w0 v ss L w) : ∃ a c, v = .slice a L.length c ∧ SeesZ w a L.length c ss L := by
  obtain ⟨a, c, e, _, hs⟩ := h.row.sees
  rw [h.len] at e hs
  exact ⟨a, c, e, hs, h.len, fun j hj => (h.each j hj).sees h.bel⟩
/-- A list that the call wrote out. -/
theorem oneZ_lit (hb : w0.heap.size ≤ w.heap.size) (x : Int) : OneZ w0 (w.alloc (.cells #[.int .i64 x] 3)) (some ⟨w.heap.size, 0, none⟩, 1, 1) [x] :=
  .inr (Row.made_at #[.int .i64 x] 1 _ _ _ rfl rfl rfl hb (by simp [maxLen]) (by simp) (by intro u hu; simp at hu; subst hu; exact ⟨x, rfl⟩))
end
end Go.Proofs.Ytcoehbkjccfhlaa
namespace Go.Proofs.Ytcoehbkjccfhlaa
open Go Go.RowKit Go.Joins

/-- Nothing old has turned but the block B, and rows of lists. -/
structure EnGo (B : Nat) (w w' : World) : Prop where
  os : w'.os = w.os
  tape : w'.tape = w.tape
  output : w'.output = w.output
  size : w.heap.size ≤ w'.heap.size
  block : ∀ D o, w.heap[D]? = some o → D ≠ B → (∀ C fr, o ≠ .cells C 45 fr) → w'.heap[D]? = some o
section
variable {B : Nat} {w w' w2 : World}
theorem EnGo.refl (B : Nat) (w : World) : EnGo B w w := ⟨rfl, rfl, rfl, Nat.le_refl _, fun _ _ h _ _ => h⟩
theorem EnGo.trans (h : EnGo B w w') (k : EnGo B w' w2) : EnGo B w w2 :=
  ⟨k.os.trans h.os, k.tape.trans h.tape, k.output.trans h.output, Nat.le_trans h.size k.size, fun D o h1 h2 h3 => k.block D o (h.block D o h1 h2 h3) h2 h3⟩
theorem EnGo.below (h : Below w.heap.size w w') : EnGo B w w' := ⟨h.os, h.tape, h.output, h.size, fun _ _ h1 _ _ => heap_below h1 h⟩
theorem EnGo.at_ (h : EnGo B w w') {D : Nat} {C : Array Value} {t : TypeId} {fr : Nat × Nat} (hD : w.heap[D]? = some (.cells C t fr)) (hB : D ≠ B) (ht : t ≠ 45) : w'.heap[D]? = some (.cells C t fr) :=
  h.block D _ hD hB (fun C' fr' e => by cases e; exact ht rfl)
end
/-- The box B holds a row of these lists. -/
structure EnSt (w0 : World) (B : Nat) (L : List (List Int)) (w : World) : Prop where
  base : w0.heap.size ≤ B
  has : ∃ a n c ss, n = L.length ∧ w.heap[B]? = some (.cells #[.slice a n c] 39 (0, 0)) ∧ ListsZ w0 (.slice a n c) ss L w
theorem EnSt.below {w0 w w' : World} {B : Nat} {L : List (List Int)} (h : EnSt w0 B L w) (hb : Below w.heap.size w w') : EnSt w0 B L w' := by
  obtain ⟨a, n, c, ss, h1, h2, h3⟩ := h.has
  exact ⟨h.base, a, n, c, ss, h1, heap_below h2 hb, h3.onward hb⟩
theorem EnSt.bel {w0 w : World} {B : Nat} {L : List (List Int)} (h : EnSt w0 B L w) : Below w0.heap.size w0 w := by
  obtain ⟨a, n, c, ss, h1, h2, h3⟩ := h.has
  exact h3.bel
/-- A list that was written out. -/
theorem row_zlit (w0 w : World) (hb : w0.heap.size ≤ w.heap.size) (xs : List Int) (n : Nat) (C : Array Value) (hC : C = (zvs xs).toArray) (hn : n = xs.length) (hs : xs.length ≤ 1000) :
    Row isZ (w.alloc (.cells C 3)) w0.heap.size 3 (.slice (some ⟨w.heap.size, 0, none⟩) n n) xs.length (zvs xs) := by
  subst hn
  refine Row.made_at C xs.length _ _ _ rfl (by rw [hC]; simp [zvs]) ?_ hb (by rw [hC]; simp [zvs, maxLen]; omega) (by rw [hC]; simp [zvs]) ?_
  · rw [hC]; simp [zvs]; exact (List.take_of_length_le (by simp)).symm
  · intro u hu
    rw [hC] at hu
    exact isZ_zvs xs u (by simpa using hu)
theorem info_zs : (Try.prog.info? 45).map (fun i => (i.zero, i.size, i.bytes)) = some (some (.slice none 0 0), 1, 24) := by kernel_rfl

/-- The store of a grown row's header. -/
theorem EnSt.more {w0 w w1 w' : World} {B : Nat} {L : List (List Int)} {C : List Int} {a : Option Addr} {n c : Nat} {ss : List ZSlc} {s : ZSlc} (hB : w0.heap.size ≤ B) (hbox : w.heap[B]? = some (.cells #[.slice a n c] 39 (0, 0))) (H : ListsZ w0 (.slice a n c) ss L w)
    (hb : Below w.heap.size w w1) (hs : OneZ w0 w1 s C) {v' : Value} (hrow : Row (fun _ => True) w' w0.heap.size 45 v' (ss.length + 1) (ss.map zsV ++ [zsV s])) (hg : w1.grownBy w' (Value.slice a n c).ownBlock) :
    EnSt w0 B (L ++ [C]) (w'.setCell ⟨B, 0, none⟩ v') ∧ EnGo B w (w'.setCell ⟨B, 0, none⟩ v') := by
  have h1 := H.more hb hs hrow hg
  have hbox1 := heap_below hbox hb
  have hbox2 : w'.heap[B]? = some (.cells #[.slice a n c] 39 (0, 0)) := heap_grown hbox1 hg ((H.onward hb).row.not_own hbox1 (by decide))
  have hbox3 := block_setCell hbox2 (i := 0) v'
  obtain ⟨a', c', rfl⟩ := hrow.form
  have k := (Below.refl B w').setCell (p := ⟨B, 0, none⟩) (Nat.le_refl _) (.slice a' (ss.length + 1) c')
  have hne : ∀ {D C t fr}, w'.heap[D]? = some (.cells C t fr) → t ≠ 39 → D ≠ B := by
    intro D C t fr hD ht e
    subst e
    rw [hbox2] at hD
    cases hD
    exact ht rfl
  have kh : ∀ D, D ≠ B → (w'.setCell ⟨B, 0, none⟩ (.slice a' (ss.length + 1) c')).heap[D]? = w'.heap[D]? := fun D hD => Below.heap_setCell w' ⟨B, 0, none⟩ _ D hD
  have krow : ∀ {ok : Value → Prop} {e : TypeId} {v : Value} {m : Nat} {xs : List Value}, e ≠ 39 → Row ok w' w0.heap.size e v m xs → Row ok (w'.setCell ⟨B, 0, none⟩ (.slice a' (ss.length + 1) c')) w0.heap.size e v m xs := by
    intro ok e v m xs he hr
    refine hr.other fun q hq => kh q ?_
    intro e2
    subst e2
    exact hr.not_own hbox2 (Ne.symm he) hq
  refine ⟨⟨hB, a', ss.length + 1, c', ss ++ [s], by rw [H.len]; simp, by simpa using hbox3, ⟨?_, by simpa using krow (by decide) h1.row, h1.len, fun j hj => ?_⟩⟩, ?_⟩
  · exact h1.bel.setCell (p := ⟨B, 0, none⟩) hB _
  · exact (h1.each j hj).imp id (fun hr => krow (by decide) hr)
  · refine ⟨k.os.trans (hg.os.trans hb.os), k.tape.trans (hg.tape.trans hb.tape), k.output.trans (hg.output.trans hb.output), Nat.le_trans hb.size (Nat.le_trans hg.size k.size), fun D o h2 h3 h4 => ?_⟩
    rw [kh D h3]
    have h5 := heap_below h2 hb
    refine heap_grown h5 hg fun e => ?_
    rcases (H.onward hb).row.2 with ⟨e2, _⟩ | ⟨g, cap, cur, e2, _, hg2, _⟩
    · rw [e2] at e; cases e
    · rw [e2] at e
      have : g = D := by simpa [Value.ownBlock] using e
      subst this
      rw [h5] at hg2
      cases hg2
      exact h4 _ _ rfl

set_option maxRecDepth 100000 in
set_option maxHeartbeats 3200000 in
theorem put_any14 (g : Int) (C : List Int) (a : Option Addr) (n c : Nat) (w0 w : World) (B : Nat) (L : List (List Int)) (H : EnSt w0 B L w) (hL : L.length ≤ 100000000) (hC : OneZ w0 w (a, n, c) C) :
    Calls Try.prog 40 #[.int .i64 g, .slice a n c, .pointer (some ⟨B, 0, none⟩)] w fun e w' => e = .returned (.tuple #[]) ∧ EnSt w0 B (L ++ [C]) w' ∧ EnGo B w w' := by
  obtain ⟨i0, hi, hz0, hz1, hz2⟩ := info_parts info_zs
  obtain ⟨hB, a', n', c', ss, hn', hbox, HL⟩ := H
  have hlen := HL.len
  have HROW := Lib.hid (HL.row.below (ext_alloc w (.cells #[.slice a n c] 45)))
  have hsz := HL.bel.size
  have cz : w.cell? ⟨B, 0, none⟩ = some (.slice a' n' c') := cell_of_block hbox 0
  have hb5 := HL.row.own.lt
  have HBX := Lib.hid hbox
  have HNN := Lib.hid hn'
  have HLEN := Lib.hid hlen
  have HLL := Lib.hid HL
  have HCC := Lib.hid hC
  have HN1 : Hid (n' = ss.length) := by show _ = _; rw [HNN.out, HLEN.out]
  have hn8 : n' ≤ 100000000 := by omega
  have hs8 : ss.length ≤ 100000000 := by omega
  clear hbox hn' hlen HL hC hL
  go_enter Try.func40, Try.ntmps40
  go_wp2_with (at_builtin; refine wpList_append_row (fun _ => True) _ rfl _ _ 39 rfl w0.heap.size 45 i0 (.slice none 0 0) 24 Try.underlying39 hi hz0 hz1 hz2 rfl trivial (.slice a' n' c') ss.length (ss.map zsV) rfl HROW.out (some ⟨w.heap.size, 0, none⟩) 1 1 [.slice a n c] rfl (sees_lit w _ _ _ _ 1 rfl rfl) (by intro u hu; simp at hu; subst hu; rfl) (fun _ _ => trivial) ?c1 ?c2 ?c3 ?_)
  case c1 => unfold maxLen; omega
  case c2 => omega
  case c3 => simp; omega
  intro v' w2 hrow hg _
  obtain ⟨a2, c2, rfl⟩ := hrow.form
  have hm := EnSt.more (s := (a, n, c)) (C := C) hB HBX.out HLL.out (ext_alloc w (.cells #[.slice a n c] 45)) (HCC.out.imp id (fun hr => hr.below (ext_alloc _ _))) hrow hg
  have hbox2 : w2.heap[B]? = some (.cells #[.slice a' n' c'] 39 (0, 0)) := heap_grown (heap_below HBX.out (ext_alloc _ _)) hg (HROW.out.not_own (heap_below HBX.out (ext_alloc _ _)) (by decide))
  have d5 : w2.cell? ⟨B, 0, none⟩ = some (.slice a' n' c') := cell_of_block hbox2 0
  have f5 := unfrozen_of_block hbox2 0
  have HM := Lib.hid hm
  clear hm hbox2 hrow hg cz
  go_wp2
  go_end0
  exact ⟨rfl, HM.out⟩

/-- append of one int to a list that is full. -/
theorem wpList_append_full14 {P : Program} {ops : Array Oper} {rest : List Oper} {o : Oper} {a : Act} {w : World} {Q : Exit → Act → World → Prop} (hgd : o.guard = none) (s x : Operand) (t : TypeId)
    (ho : o.op = .call { callee := .builtin .append, args := #[s, x], argTypes := #[t, t] })
    (e : TypeId) (i : TypeInfo) (z : Value) (ht : P.underlying t = some (.slice e)) (hi : P.info? e = some i) (hz : i.zero = some z)
    (hsize : i.size = 1) (hby : i.bytes = 8) (hzs : z.cells = #[z]) (hzok : isZ z)
    (b off n : Nat) (C : List Int) (hn : n = C.length) (hs : a.eval s = .slice (some ⟨b, off, none⟩) n n) (hsee : Sees w (some ⟨b, off, none⟩) n n (zvs C)) (hn1 : n ≤ 1000)
    (b2 : Nat) (y : Int) (hx : a.eval x = .slice (some ⟨b2, 0, none⟩) 1 1) (hnew : w.cell? ⟨b2, 0, none⟩ = some (.int .i64 y)) (base : Nat) (hbase : base ≤ w.heap.size)
    (h : ∀ a2 m2 c2 w', m2 = C.length + 1 → Row isZ w' base e (.slice a2 m2 c2) m2 (zvs (C ++ [y])) → Below w.heap.size w w' → wpList P ops Q rest (a.put o.dst (.slice a2 m2 c2)) w') : wpList P ops Q (o :: rest) a w := by
  refine wpList_plain hgd fun K hK => ?_
  have holds : ∀ j v, (zvs C)[j]? = some v → w.cell? ((⟨b, off, none⟩ : Addr).add j) = some v := fun j v hj => by
    have hlt : j < n := by rw [hn, ← zvs_len]; exact (List.getElem?_eq_some_iff.1 hj).1
    have hadd : (⟨b, off, none⟩ : Addr).add j = ⟨b, off + j, none⟩ := by unfold Addr.add; split <;> simp_all
    rw [hadd, (hsee.cell j hlt).2, hj]
  have hnews : ∀ j v, [Value.int .i64 y][j]? = some v → w.cell? ((⟨b2, 0, none⟩ : Addr).add j) = some v := fun j v hj => by
    rcases j with _ | j
    · have hadd : (⟨b2, 0, none⟩ : Addr).add 0 = ⟨b2, 0, none⟩ := by unfold Addr.add; split <;> simp_all
      rw [hadd, hnew]; simpa using hj
    · simp at hj
  have hr := run_append_grow (P := P) w t o.type e i z ht hi hz ⟨b, off, none⟩ n n (zvs C) (by rw [zvs_len, hsize]; omega) holds ⟨b2, 0, none⟩ 1 1 [.int .i64 y] (by rw [hsize]; rfl) hnews (by omega) (by omega) (by rw [hby]; exact growslice_fits (by omega) (by omega))
  have hge := grownCap_ge w (n + 1) n e
  have hcm : grownCap w (n + 1) n e ≤ maxLen := grownCap_le_maxLen w (n + 1) n e (by unfold maxLen; omega)
  unfold Oper.wp execOp
  simp only [ho, resolve, invoke, builtin, Sem.run_bind, Sem.run_pure, Result.andThen_ok, List.map_toArray, List.map_cons, List.map_nil, hs, hx, hr]
  refine hK _ _ (h _ _ _ _ (by rw [hn]) ⟨?_, .inr ⟨w.heap.size, _, _, rfl, hbase, heap_alloc_new w.drew _, hge, hcm, ?_, ?_, ?_⟩⟩ ?_)
  · rw [zvs_len]; simp; omega
  · simp only [Array.size_append, List.size_toArray, size_zeroCells, hzs, zvs_len]
    simp
    omega
  · simp only [Array.toList_append, List.append_assoc]
    rw [← List.append_assoc]
    have : zvs (C ++ [y]) = zvs C ++ [.int .i64 y] := by simp [zvs]
    rw [this]
    have hl : (zvs C ++ [Value.int .i64 y]).length = n + 1 := by simp [zvs_len, hn]
    rw [← hl]
    exact List.take_left
  · intro u hu
    simp only [Array.toList_append, List.mem_append] at hu
    rcases hu with (hu | hu) | hu
    · exact isZ_zvs C u (by simpa using hu)
    · exact ⟨y, by simpa using hu⟩
    · rw [mem_zeroCells hzs hu]; exact hzok
  · exact ((Below.refl _ w).drew).alloc (Nat.le_refl _) _
end Go.Proofs.Ytcoehbkjccfhlaa
