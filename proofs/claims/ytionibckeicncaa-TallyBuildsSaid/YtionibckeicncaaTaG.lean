/- A tally's builder in memory: the box B holds the limit, the next variable and a row of lists; what stays. -/
import Derived.Test.YtionibckeicncaaOwn
import Derived.Test.YtionibckeicncaaNBase
import Derived.Test.YtionibckeicncaaCuInts
import Derived.Test.YtionibckeicncaaCuLists
import Derived.Test.YtionibckeicncaaTaRM
import Derived.Test.YtionibckeicncaaRows
import Derived.Test.YtionibckeicncaaShelf
import Derived.BigQuiet
import Derived.Deep.AppendLies
import Derived.Deep.QuietTactic
import Derived.Deep.RegionLaw
import Derived.Deep.RegionWith
import Derived.KernelRfl
import Derived.Laws.EntriesVeiled
import Derived.Lib.ConvBytes
import Derived.Lib.Hide
import Derived.Lib.SlBytesRow
import Derived.Lib.SlicesCompact
import Derived.Lib.SmallJoins
import Derived.Shelf.Bytes.SlSmallAll
import Derived.Sort.Statements
import Derived.WalkKit
import Derived.WalkLawsBesides
import Derived.WalkSpells
namespace Go.Proofs.Ytionibckeicncaa
open Go Go.RowKit Go.Joins

/-- Nothing old has turned but the block B, and rows of lists. -/
structure TaGo (B : Nat) (w w' : World) : Prop where
  os : w'.os = w.os
  tape : w'.tape = w.tape
  output : w'.output = w.output
  size : w.heap.size ≤ w'.heap.size
  block : ∀ D o, w.heap[D]? = some o → D ≠ B → (∀ C fr, o ≠ .cells C 22 fr) → w'.heap[D]? = some o
section
variable {B : Nat} {w w' w2 : World}
theorem TaGo.refl (B : Nat) (w : World) : TaGo B w w := ⟨rfl, rfl, rfl, Nat.le_refl _, fun _ _ h _ _ => h⟩
theorem TaGo.trans (h : TaGo B w w') (k : TaGo B w' w2) : TaGo B w w2 :=
  ⟨k.os.trans h.os, k.tape.trans h.tape, k.output.trans h.output, Nat.le_trans h.size k.size, fun D o h1 h2 h3 => k.block D o (h.block D o h1 h2 h3) h2 h3⟩
theorem TaGo.below (h : Below w.heap.size w w') : TaGo B w w' := ⟨h.os, h.tape, h.output, h.size, fun _ _ h1 _ _ => heap_below h1 h⟩
theorem TaGo.at_ (h : TaGo B w w') {D : Nat} {C : Array Value} {t : TypeId} {fr : Nat × Nat} (hD : w.heap[D]? = some (.cells C t fr)) (hB : D ≠ B) (ht : t ≠ 22) : w'.heap[D]? = some (.cells C t fr) :=
  h.block D _ hD hB (fun C' fr' e => by cases e; exact ht rfl)
theorem TaGo.setB (h : TaGo B w w') (i : Nat) (v : Value) : TaGo B w (w'.setCell ⟨B, i, none⟩ v) :=
  have k := (Below.refl B w').setCell (p := ⟨B, i, none⟩) (Nat.le_refl _) v
  ⟨k.os.trans h.os, k.tape.trans h.tape, k.output.trans h.output, Nat.le_trans h.size k.size, fun D o h1 h2 h3 => (Below.heap_setCell w' ⟨B, i, none⟩ v D h2).trans (h.block D o h1 h2 h3)⟩
end
/-- The builder in the box B. -/
structure TaSt (w0 : World) (B most next : Nat) (L : List (List Int)) (w : World) : Prop where
  base : w0.heap.size ≤ B
  has : ∃ a n c ss, n = L.length ∧ w.heap[B]? = some (.cells #[.int .i64 (most : Int), .int .i64 (next : Int), .slice a n c] 43 (0, 0)) ∧ ListsZ w0 (.slice a n c) ss L w
theorem TaSt.below {w0 w w' : World} {B most next : Nat} {L : List (List Int)} (h : TaSt w0 B most next L w) (hb : Below w.heap.size w w') : TaSt w0 B most next L w' := by
  obtain ⟨a, n, c, ss, h1, h2, h3⟩ := h.has
  exact ⟨h.base, a, n, c, ss, h1, heap_below h2 hb, h3.onward hb⟩
theorem TaSt.bel {w0 w : World} {B most next : Nat} {L : List (List Int)} (h : TaSt w0 B most next L w) : Below w0.heap.size w0 w := by
  obtain ⟨a, n, c, ss, h1, h2, h3⟩ := h.has
  exact h3.bel
theorem TaSt.box {w0 w : World} {B most next : Nat} {L : List (List Int)} (h : TaSt w0 B most next L w) : ∃ X, w.heap[B]? = some (.cells X 43 (0, 0)) := by
  obtain ⟨a, n, c, ss, h1, h2, h3⟩ := h.has
  exact ⟨_, h2⟩
theorem NewT.go {w w' : World} {base : Nat} {a : Option Addr} {n c B : Nat} {C : List Int} {X : Array Value} {fr : Nat × Nat} (h : NewT w base a n c C) (k : TaGo B w w') (hB : w.heap[B]? = some (.cells X 43 fr)) : NewT w' base a n c C := by
  have hl := h.sees.zlen
  by_cases h0 : 0 < n
  · obtain ⟨g, off, Cur, ha, hb, hh, hc⟩ := h.blk h0
    have hne : g ≠ B := by
      intro e
      subst e
      rw [hh] at hB
      injection hB with e1
      injection e1 with _ e2
      exact absurd e2 (by decide)
    have hg := k.at_ hh hne (by decide)
    refine ⟨⟨h.sees.len, h.sees.cap, h.sees.nilc, fun _ => ⟨g, off, ha, heap_lt hg, fun j hj => ?_⟩⟩, fun _ => ⟨g, off, Cur, ha, hb, hg, hc⟩⟩
    rw [cell_of_block hg, hc j hj]
    simp [zvs, List.getD, List.getElem?_eq_getElem (show j < C.length by omega)]
  · exact ⟨⟨h.sees.len, h.sees.cap, h.sees.nilc, fun h => absurd h h0⟩, fun h => absurd h h0⟩
theorem NewT.below {w w' : World} {base : Nat} {a : Option Addr} {n c : Nat} {C : List Int} (h : NewT w base a n c C) (hb : Below w.heap.size w w') : NewT w' base a n c C :=
  ⟨h.sees.below hb, fun h0 => by
    obtain ⟨g, off, Cur, ha, hb2, hh, hc⟩ := h.blk h0
    exact ⟨g, off, Cur, ha, hb2, heap_below hh hb, hc⟩⟩
/-- A part of it. -/
theorem NewT.part {w : World} {base : Nat} {a : Option Addr} {n c : Nat} {C : List Int} (h : NewT w base a n c C) (l m : Nat) (hl : l ≤ m) (hm : m ≤ n) : ∃ a2, sliced a l m c 1 = .slice a2 (m - l) (c - l) ∧ NewT w base a2 (m - l) (c - l) ((C.take m).drop l) := by
  have hz := h.sees.zlen
  obtain ⟨a2, e, hs⟩ := h.sees.cut l m hl hm
  have e2 : ((zvs C).take m).drop l = zvs ((C.take m).drop l) := by simp [zvs]
  rw [e2] at hs
  refine ⟨a2, e, hs, fun h0 => ?_⟩
  obtain ⟨g, off, Cur, ha, hb, hh, hc⟩ := h.blk (by omega)
  obtain ⟨g2, off2, ha2, _, hc2⟩ := hs.real h0
  subst ha
  subst ha2
  have hcap := h.sees.cap
  have hadd : (⟨g, off, none⟩ : Addr).add (l * 1) = ⟨g, off + l, none⟩ := by unfold Addr.add; split <;> simp_all
  have hg : g2 = g ∧ off2 = off + l := by
    unfold sliced at e
    rw [if_neg (show ¬ c = l by omega), Option.map_some, hadd] at e
    injection e with e1
    injection e1 with e2
    injection e2 with e3 e4
    exact ⟨e3.symm, e4.symm⟩
  obtain ⟨hg1, hg2⟩ := hg
  subst hg1
  subst hg2
  refine ⟨g2, off + l, Cur, rfl, hb, hh, fun j hj => ?_⟩
  rw [show off + l + j = off + (l + j) by omega, hc (l + j) (by omega)]
  simp [List.getD, List.getElem?_drop, show l + j < m by omega]
/-- The store of a grown row's header. -/
theorem TaSt.more {w0 w w1 w' : World} {B most next : Nat} {L : List (List Int)} {C : List Int} {a : Option Addr} {n c : Nat} {ss : List ZSlc} {s : ZSlc} (hB : w0.heap.size ≤ B) (hbox : w.heap[B]? = some (.cells #[.int .i64 (most : Int), .int .i64 (next : Int), .slice a n c] 43 (0, 0))) (H : ListsZ w0 (.slice a n c) ss L w)
    (hb : Below w.heap.size w w1) (hs : OneZ w0 w1 s C) {v' : Value} (hrow : Row (fun _ => True) w' w0.heap.size 22 v' (ss.length + 1) (ss.map zsV ++ [zsV s])) (hg : w1.grownBy w' (Value.slice a n c).ownBlock) :
    TaSt w0 B most next (L ++ [C]) (w'.setCell ⟨B, 2, none⟩ v') ∧ TaGo B w (w'.setCell ⟨B, 2, none⟩ v') := by
  have h1 := H.more hb hs hrow hg
  have hbox1 := heap_below hbox hb
  have hbox2 : w'.heap[B]? = some (.cells #[.int .i64 (most : Int), .int .i64 (next : Int), .slice a n c] 43 (0, 0)) := heap_grown hbox1 hg ((H.onward hb).row.not_own hbox1 (by decide))
  have hbox3 := block_setCell hbox2 (i := 2) v'
  obtain ⟨a', c', rfl⟩ := hrow.form
  have k := (Below.refl B w').setCell (p := ⟨B, 2, none⟩) (Nat.le_refl _) (.slice a' (ss.length + 1) c')
  have kh : ∀ D, D ≠ B → (w'.setCell ⟨B, 2, none⟩ (.slice a' (ss.length + 1) c')).heap[D]? = w'.heap[D]? := fun D hD => Below.heap_setCell w' ⟨B, 2, none⟩ _ D hD
  have krow : ∀ {ok : Value → Prop} {e : TypeId} {v : Value} {m : Nat} {xs : List Value}, e ≠ 43 → Row ok w' w0.heap.size e v m xs → Row ok (w'.setCell ⟨B, 2, none⟩ (.slice a' (ss.length + 1) c')) w0.heap.size e v m xs := by
    intro ok e v m xs he hr
    refine hr.other fun q hq => kh q ?_
    intro e2
    subst e2
    exact hr.not_own hbox2 (Ne.symm he) hq
  refine ⟨⟨hB, a', ss.length + 1, c', ss ++ [s], by rw [H.len]; simp, by simpa using hbox3, ⟨?_, by simpa using krow (by decide) h1.row, h1.len, fun j hj => ?_⟩⟩, ?_⟩
  · exact h1.bel.setCell (p := ⟨B, 2, none⟩) hB _
  · exact (h1.each j hj).imp id (fun hr => krow (by decide) hr)
  · refine ⟨k.os.trans (hg.os.trans hb.os), k.tape.trans (hg.tape.trans hb.tape), k.output.trans (hg.output.trans hb.output), Nat.le_trans hb.size (Nat.le_trans hg.size k.size), fun D o h2 h3 h4 => ?_⟩
    rw [kh D h3]
    have h5 := heap_below h2 hb
    refine heap_grown h5 hg fun e => ?_
    rcases (H.onward hb).row.2 with ⟨e2, _⟩ | ⟨g, cap, cur, e2, _, hg2, _⟩
    · rw [e2] at e; cases e
    · rw [e2] at e
      have : g = D := by simpa [Value.ownBlock] using e
      subst this
      rw [h5] at hg2
      cases hg2
      exact h4 _ _ rfl
/-- The next variable is written. -/
theorem TaSt.nextTo {w0 w : World} {B most next : Nat} {L : List (List Int)} (h : TaSt w0 B most next L w) (nx : Nat) : TaSt w0 B most nx L (w.setCell ⟨B, 1, none⟩ (.int .i64 (nx : Int))) ∧ TaGo B w (w.setCell ⟨B, 1, none⟩ (.int .i64 (nx : Int))) := by
  obtain ⟨a, n, c, ss, h1, h2, h3⟩ := h.has
  have hbox3 := block_setCell h2 (i := 1) (.int .i64 (nx : Int))
  have kh : ∀ D, D ≠ B → (w.setCell ⟨B, 1, none⟩ (.int .i64 (nx : Int))).heap[D]? = w.heap[D]? := fun D hD => Below.heap_setCell w ⟨B, 1, none⟩ _ D hD
  have krow : ∀ {ok : Value → Prop} {e : TypeId} {v : Value} {m : Nat} {xs : List Value}, e ≠ 43 → Row ok w w0.heap.size e v m xs → Row ok (w.setCell ⟨B, 1, none⟩ (.int .i64 (nx : Int))) w0.heap.size e v m xs := by
    intro ok e v m xs he hr
    refine hr.other fun q hq => kh q ?_
    intro e2
    subst e2
    exact hr.not_own h2 (Ne.symm he) hq
  exact ⟨⟨h.base, a, n, c, ss, h1, by simpa using hbox3, ⟨h3.bel.setCell (p := ⟨B, 1, none⟩) h.base _, krow (by decide) h3.row, h3.len, fun j hj => (h3.each j hj).imp id (fun hr => krow (by decide) hr)⟩⟩, (TaGo.refl B w).setB 1 _⟩
end Go.Proofs.Ytionibckeicncaa
