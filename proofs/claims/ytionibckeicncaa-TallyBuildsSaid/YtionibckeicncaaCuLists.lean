/- Lists of ints that the call makes, one behind the other. -/
import Derived.Test.YtionibckeicncaaLib
import Derived.Test.YtionibckeicncaaOwn
import Derived.Test.YtionibckeicncaaNBase
import Derived.Test.YtionibckeicncaaCuInts
import Derived.Test.YtionibckeicncaaRows
import Derived.BigQuiet
import Derived.Deep.AppendLies
import Derived.Deep.QuietTactic
import Derived.Deep.RegionLaw
import Derived.Deep.RegionWith
import Derived.KernelRfl
import Derived.Laws.EntriesVeiled
import Derived.Lib.ConvBytes
import Derived.Lib.Hide
import Derived.Lib.SlBytesRow
import Derived.Lib.SmallJoins
import Derived.Shelf.Bytes.SlSmallAll
import Derived.WalkKit
import Derived.WalkLawsBesides
import Derived.WalkSpells
namespace Go.Proofs.Ytionibckeicncaa
open Go Go.RowKit Go.Joins

/-- A list that lies in old memory, or that the call made. -/
def OneZ (w0 w : World) (s : ZSlc) (C : List Int) : Prop := Sees w0 s.1 s.2.1 s.2.2 (zvs C) ∨ Row isZ w w0.heap.size 3 (zsV s) C.length (zvs C)
theorem OneZ.sees {w0 w : World} {s : ZSlc} {C : List Int} (h : OneZ w0 w s C) (hb : Below w0.heap.size w0 w) : Sees w s.1 s.2.1 s.2.2 (zvs C) := by
  rcases h with h | h
  · exact h.below hb
  · obtain ⟨a, c, e, _, hs⟩ := h.sees
    obtain ⟨a', n', c'⟩ := s
    unfold zsV at e
    cases e
    exact hs
theorem Row.apart {ok ok' : Value → Prop} {w w' : World} {base base' : Nat} {e e' : TypeId} {v v' : Value} {n n' : Nat} {xs xs' : List Value} (h : Row ok w base e v n xs) (h' : Row ok' w base' e' v' n' xs') (he : e ≠ e') (hg : w.grownBy w' v'.ownBlock) : Row ok w' base e v n xs := by
  refine h.other fun k hk => ?_
  rcases h.2 with ⟨rfl, _⟩ | ⟨g, cap, cur, rfl, _, hb, _⟩
  · cases hk
  · have : g = k := by simpa [Value.ownBlock] using hk
    subst this
    exact (heap_grown hb hg (h'.not_own hb he)).trans hb.symm
structure ListsZ (w0 : World) (v : Value) (ss : List ZSlc) (L : List (List Int)) (w : World) : Prop where
  bel : Below w0.heap.size w0 w
  row : Row (fun _ => True) w w0.heap.size 22 v ss.length (ss.map zsV)
  len : ss.length = L.length
  each : ∀ j, j < L.length → OneZ w0 w (ss.getD j zs0) (L.getD j [])
section
variable {w0 w w1 w' : World} {v v' : Value} {ss : List ZSlc} {L : List (List Int)}
theorem ListsZ.nil (w : World) : ListsZ w (.slice none 0 0) [] [] w := ⟨Below.refl _ _, Row.nil _ _ _ _, rfl, fun j hj => absurd hj (by simp)⟩
theorem ListsZ.onward (h : ListsZ w0 v ss L w) (hb : Below w.heap.size w w1) : ListsZ w0 v ss L w1 :=
  ⟨h.bel.trans (hb.mono h.bel.size), h.row.below hb, h.len, fun j hj => (h.each j hj).imp id (fun hr => hr.below hb)⟩
theorem ListsZ.more (h : ListsZ w0 v ss L w) (hb : Below w.heap.size w w1) {s : ZSlc} {C : List Int} (hs : OneZ w0 w1 s C)
    (hrow : Row (fun _ => True) w' w0.heap.size 22 v' (ss.length + 1) (ss.map zsV ++ [zsV s])) (hg : w1.grownBy w' v.ownBlock) : ListsZ w0 v' (ss ++ [s]) (L ++ [C]) w' := by
  have h1 := h.onward hb
  refine ⟨h1.bel.grown hg h1.bel.size (fun j hj => (h1.row.own.lt j hj).1), by simpa using hrow, by simp [h.len], fun j hj => ?_⟩
  by_cases hj2 : j < L.length
  · rw [getD_appL (by rw [h.len]; exact hj2), getD_appL hj2]
    exact (h1.each j hj2).imp id (fun hr => hr.apart h1.row (by decide) hg)
  · have : j = L.length := by simp at hj; omega
    subst this
    have e2 : (ss ++ [s]).getD L.length zs0 = s := by rw [← h.len]; exact getD_appE
    rw [getD_appE, e2]
    exact hs.imp id (fun hr => hr.apart h1.row (by decide) hg)
/-- Old lists, all at once, behind nothing. -/
theorem ListsZ.all {a : Option Addr} {n c : Nat} (h : SeesZ w0 a n c ss L) (hb : Below w0.heap.size w0 w) (hrow : Row (fun _ => True) w w0.heap.size 22 v ss.length (ss.map zsV)) : ListsZ w0 v ss L w :=
  ⟨hb, hrow, h.len, fun j hj => .inl (h.each j hj)⟩
theorem ListsZ.done (h : ListsZ w0 v ss L w) : ∃ a c, v = .slice a L.length c ∧ SeesZ w a L.length c ss L := by
  obtain ⟨a, c, e, _, hs⟩ := h.row.sees
  rw [h.len] at e hs
  exact ⟨a, c, e, hs, h.len, fun j hj => (h.each j hj).sees h.bel⟩
/-- A list that the call wrote out. -/
theorem oneZ_lit (hb : w0.heap.size ≤ w.heap.size) (x : Int) : OneZ w0 (w.alloc (.cells #[.int .i64 x] 3)) (some ⟨w.heap.size, 0, none⟩, 1, 1) [x] :=
  .inr (Row.made_at #[.int .i64 x] 1 _ _ _ rfl rfl rfl hb (by simp [maxLen]) (by simp) (by intro u hu; simp at hu; subst hu; exact ⟨x, rfl⟩))
end
end Go.Proofs.Ytionibckeicncaa
