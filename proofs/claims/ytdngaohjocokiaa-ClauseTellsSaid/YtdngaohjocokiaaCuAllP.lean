/- clause.allOrdered: what holds between two clauses. -/
import Derived.Test.YtdngaohjocokiaaLib
import Derived.Test.YtdngaohjocokiaaOwn
import Derived.Test.YtdngaohjocokiaaNBase
import Derived.Test.YtdngaohjocokiaaCuPure
import Derived.Test.YtdngaohjocokiaaCuInts
import Derived.Test.YtdngaohjocokiaaCuSort
import Derived.Test.YtdngaohjocokiaaRows
import Derived.Test.YtdngaohjocokiaaShelf
import Derived.BigQuiet
import Derived.Deep.AppendLies
import Derived.Deep.QuietTactic
import Derived.Deep.RegionLaw
import Derived.Deep.RegionWith
import Derived.KernelRfl
import Derived.Laws.CopyOwn
import Derived.Laws.EntriesVeiled
import Derived.Lib.ConvBytes
import Derived.Lib.Hide
import Derived.Lib.SlBytesRow
import Derived.Lib.SlicesCompact
import Derived.Lib.SmallJoins
import Derived.Shelf.Bytes.SlSmallAll
import Derived.Sort.Statements
import Derived.WalkKit
import Derived.WalkLawsBesides
import Derived.WalkSpells
namespace Go.Proofs.Ytdngaohjocokiaa
open Go Go.RowKit Go.Joins Go.Lib Go.Sort

def total (L : List (List Int)) : Nat := (L.map List.length).sum
theorem total_snoc (L : List (List Int)) (k : Nat) (h : k < L.length) : total (L.take (k + 1)) = total (L.take k) + (L.getD k []).length := by
  unfold total
  rw [List.take_succ_eq_append_getElem h, List.map_append, List.sum_append]
  simp [List.getD, List.getElem?_eq_getElem h]
theorem total_le (L : List (List Int)) (k : Nat) : total (L.take k) ≤ total L := by
  have : total L = total (L.take k) + total (L.drop k) := by
    unfold total
    rw [← List.sum_append, ← List.map_append, List.take_append_drop]
  omega
theorem total_next (L : List (List Int)) (k : Nat) (h : k < L.length) : total (L.take k) + (L.getD k []).length ≤ total L := by
  rw [← total_snoc L k h]; exact total_le L (k + 1)
theorem total_all (L : List (List Int)) : total (L.take L.length) = total L := by rw [List.take_length]
theorem total_one {L : List (List Int)} {c : List Int} (h : c ∈ L) : c.length ≤ total L := by
  obtain ⟨i, hi, rfl⟩ := List.getElem_of_mem h
  have := total_next L i hi
  simp only [List.getD, List.getElem?_eq_getElem hi, Option.getD_some] at this
  omega
theorem ordAll_snoc (L : List (List Int)) (k : Nat) (h : k < L.length) : ordAll (L.take (k + 1)) = ordAll (L.take k) ++ (match orderS (L.getD k []) with | none => [] | some C => [C]) := by
  unfold ordAll
  rw [List.take_succ_eq_append_getElem h, List.filterMap_append]
  congr 1
  simp only [List.getD, List.getElem?_eq_getElem h, Option.getD_some]
  cases hq : orderS L[k] <;> simp [hq]

/-- A clause in order, in the piece R. -/
def SegOk (R off : Nat) (cur : Array Value) (s : ZSlc) (C : List Int) : Prop :=
  s.2.1 = C.length ∧ C.length ≤ s.2.2 ∧ s.1 ≠ none ∧ (0 < C.length → ∃ o', s.1 = some ⟨R, o', none⟩ ∧ o' + C.length ≤ off ∧ ∀ i, i < C.length → cur[o' + i]? = some (.int .i64 (C.getD i 0)))
theorem SegOk.kept {R off n : Nat} {cur cur' : Array Value} {s : ZSlc} {C : List Int} (h : SegOk R off cur s C) (hk : Kept off n cur cur') (m : Nat) : SegOk R (off + m) cur' s C := by
  refine ⟨h.1, h.2.1, h.2.2.1, fun h0 => ?_⟩
  obtain ⟨o', e, hle, hc⟩ := h.2.2.2 h0
  exact ⟨o', e, by omega, fun i hi => (hk.2 _ (.inl (by omega))).trans (hc i hi)⟩
theorem SegOk.sees {R off : Nat} {cur : Array Value} {s : ZSlc} {C : List Int} (h : SegOk R off cur s C) {w : World} (hR : w.heap[R]? = some (.cells cur 3 (0, 0))) : Sees w s.1 s.2.1 s.2.2 (zvs C) := by
  obtain ⟨h1, h2, h3, h4⟩ := h
  rw [h1]
  refine ⟨zvs_len C, h2, fun e => absurd e h3, fun h0 => ?_⟩
  obtain ⟨o', e, _, hc⟩ := h4 h0
  refine ⟨R, o', e, heap_lt hR, fun j hj => ?_⟩
  rw [cell_of_block hR, hc j hj]
  simp [zvs, List.getD, List.getElem?_eq_getElem hj]

/-- Between two clauses. -/
structure AllAt (w0 : World) (L : List (List Int)) (R : Nat) (k off o : Nat) (cur : Array Value) (v : Value) (ss : List ZSlc) (w : World) : Prop where
  bel : Below w0.heap.size w0 w
  bR : w.heap[R]? = some (.cells cur 3 (0, 0))
  cl : cur.size = total L
  offE : off = total (L.take k)
  ro : off < total L → o = off
  row : Row (fun _ => True) w w0.heap.size 23 v ss.length (ss.map zsV)
  len : ss.length = (ordAll (L.take k)).length
  each : ∀ j, j < ss.length → SegOk R off cur (ss.getD j zs0) ((ordAll (L.take k)).getD j [])
theorem getD_appL {α : Type} {l m : List α} {d : α} {i : Nat} (h : i < l.length) : (l ++ m).getD i d = l.getD i d := by simp only [List.getD]; rw [List.getElem?_append_left h]
theorem getD_appE {α : Type} {l : List α} {x d : α} : (l ++ [x]).getD l.length d = x := by simp [List.getD]
section
variable {w0 w w' : World} {L : List (List Int)} {R k off o o' n : Nat} {cur cur' : Array Value} {v v' : Value} {ss : List ZSlc}
/-- A clause that is empty talk is passed by. -/
theorem AllAt.talk (h : AllAt w0 L R k off o cur v ss w) (hk : k < L.length) (hR : w0.heap.size ≤ R) (hn : n = (L.getD k []).length) (ht : orderS (L.getD k []) = none) (hb : w'.heap[R]? = some (.cells cur' 3 (0, 0))) (hke : Kept off n cur cur')
    (hg : w.grownBy w' (some R)) (ho : off + n < total L → o' = off + n) : AllAt w0 L R (k + 1) (off + n) o' cur' v ss w' := by
  have e : ordAll (L.take (k + 1)) = ordAll (L.take k) := by rw [ordAll_snoc L k hk, ht]; simp
  have nO := h.row.not_own h.bR (by decide)
  refine ⟨h.bel.grown hg h.bel.size (fun j hj => by cases hj; exact hR), hb, hke.1.trans h.cl, by rw [h.offE, hn, total_snoc L k hk], ho, ?_, by rw [e]; exact h.len, fun j hj => by rw [e]; exact (h.each j hj).kept hke n⟩
  exact h.row.other fun q hq => hg.block q (h.row.own.lt q hq).2 (fun e => nO (by rw [hq, e]))
/-- A clause in order is appended. -/
theorem AllAt.more (h : AllAt w0 L R k off o cur v ss w) (hk : k < L.length) (hR : w0.heap.size ≤ R) (hn : n = (L.getD k []).length) {C : List Int} (ht : orderS (L.getD k []) = some C) {w1 w2 : World} (hb : w1.heap[R]? = some (.cells cur' 3 (0, 0))) (hke : Kept off n cur cur')
    (hg : w.grownBy w1 (some R)) (ho : off + n < total L → o' = off + n) {s : ZSlc} (hs : SegOk R (off + n) cur' s C) (hb2 : Below w1.heap.size w1 w2) (hrow : Row (fun _ => True) w' w0.heap.size 23 v' (ss.length + 1) (ss.map zsV ++ [zsV s])) (hg2 : w2.grownBy w' v.ownBlock) :
    AllAt w0 L R (k + 1) (off + n) o' cur' v' (ss ++ [s]) w' := by
  have e : ordAll (L.take (k + 1)) = ordAll (L.take k) ++ [C] := by rw [ordAll_snoc L k hk, ht]
  have nO := h.row.not_own h.bR (by decide)
  have b1 : Below w0.heap.size w0 w1 := h.bel.grown hg h.bel.size (fun j hj => by cases hj; exact hR)
  have b2 : Below w0.heap.size w0 w2 := b1.trans (hb2.mono b1.size)
  refine ⟨b2.grown hg2 b2.size (fun j hj => (h.row.own.lt j hj).1), ?_, hke.1.trans h.cl, by rw [h.offE, hn, total_snoc L k hk], ho, by simpa using hrow, by rw [e]; simp [h.len], fun j hj => ?_⟩
  · have := heap_below hb hb2
    exact heap_grown this hg2 nO
  · rw [e]
    by_cases hj2 : j < ss.length
    · rw [getD_appL hj2, getD_appL (by rw [← h.len]; exact hj2)]
      exact (h.each j hj2).kept hke n
    · have : j = ss.length := by simp at hj; omega
      subst this
      rw [getD_appE, h.len, getD_appE]
      exact hs
theorem AllAt.done (h : AllAt w0 L R L.length off o cur v ss w) : ∃ a c, v = .slice a ss.length c ∧ SeesZ w a ss.length c ss (ordAll L) := by
  obtain ⟨a, c, e, _, hs⟩ := h.row.sees
  have el : ordAll (L.take L.length) = ordAll L := by rw [List.take_length]
  refine ⟨a, c, e, hs, by rw [h.len, el], fun j hj => ?_⟩
  have := h.each j (by rw [h.len, el]; exact hj)
  rw [el] at this
  exact this.sees h.bR
end
end Go.Proofs.Ytdngaohjocokiaa
