/- Two results of calls are stored into two new variables, in whatever order memory is made: what holds then. -/
import Derived.Test.YtdheldhecimfnaaOwn
import Derived.Test.YtdheldhecimfnaaOwnStr
import Derived.Test.YtdheldhecimfnaaNBase
import Derived.Test.YtdheldhecimfnaaNOwnsN
import Derived.Test.YtdheldhecimfnaaNStep
import Derived.Test.YtdheldhecimfnaaNSpec
import Derived.Test.YtdheldhecimfnaaNVal
import Derived.Test.YtdheldhecimfnaaNTrace
import Derived.Test.YtdheldhecimfnaaNCopyTr
import Derived.Test.YtdheldhecimfnaaRows
import Derived.BigQuiet
import Derived.Deep.AppendLies
import Derived.Deep.QuietTactic
import Derived.Deep.RegionHeld3
import Derived.Deep.RegionLaw
import Derived.Deep.RegionWith
import Derived.KernelRfl
import Derived.Laws.EntriesVeiled
import Derived.Laws.Tables
import Derived.Lib.AppendStr
import Derived.Lib.ConvBytes
import Derived.Lib.Hide
import Derived.Lib.SlBytesRow
import Derived.Lib.SmallJoins
import Derived.Maps.AppendAt
import Derived.OrdersHeld
import Derived.Shelf.Bytes.SlSmallAll
import Derived.WalkKit
import Derived.WalkLawsBesides
import Derived.WalkSpells
namespace Go.Proofs.Ytdheldhecimfnaa
open Go Go.RowKit Go.Joins

theorem OwnCir.but {w w' : World} {base G : Nat} {s : CSlots} {c : NormC} (h : OwnCir w base s c) {C : Array Value} {T : TypeId} {fr : Nat × Nat} (hz : w.heap[G]? = some (.cells C T fr)) (h1 : T ≠ 55) (h2 : T ≠ 58) (h3 : T ≠ 53) (hk : ∀ D, D ≠ G → w'.heap[D]? = w.heap[D]?) : OwnCir w' base s c := by
  have row : ∀ {v : Value} {n : Nat} {xs : List Value}, Row isU32 w base 53 v n xs → Row isU32 w' base 53 v n xs := fun hr => hr.other fun k hk' => hk k (fun e => (hr.not_own hz h3) (by rw [hk', e]))
  exact ⟨ownsN_other h.o1 fun k hk' => hk k (fun e => (ownsN_notown h.o1 hz h1) (by rw [hk', e])), ownsN_other h.o2 fun k hk' => hk k (fun e => (ownsN_notown h.o2 hz h2) (by rw [hk', e])), row h.o3, row h.o4, row h.o5⟩
theorem OwnTr.but {w w' : World} {base G : Nat} {s : TSlots} {t : TraceC} (h : OwnTr w base s t) {C : Array Value} {T : TypeId} {fr : Nat × Nat} (hz : w.heap[G]? = some (.cells C T fr)) (h1 : T ≠ 5) (h2 : T ≠ 27) (hk : ∀ D, D ≠ G → w'.heap[D]? = w.heap[D]?) : OwnTr w' base s t := by
  have row : ∀ {v : Value} {n : Nat} {xs : List Value}, Row isByte w base 5 v n xs → Row isByte w' base 5 v n xs := fun hr => hr.other fun k hk' => hk k (fun e => (hr.not_own hz h1) (by rw [hk', e]))
  obtain ⟨F, f1, f2, f3⟩ := h.blk
  refine ⟨row h.o1, ⟨F, f1, f2, (hk F fun e => ?_).trans f3⟩, h.n2, h.c2, h.len, fun j hj => row (h.rows j hj)⟩
  subst e
  rw [f3] at hz
  cases hz
  exact h2 rfl
theorem OwnCir.base_le {w : World} {base B : Nat} {s : CSlots} {c : NormC} (h : OwnCir w base s c) (hB : B ≤ base) : OwnCir w B s c :=
  ⟨ownsN_base h.o1 hB, ownsN_base h.o2 hB, h.o3.base_le hB, h.o4.base_le hB, h.o5.base_le hB⟩
theorem OwnTr.base_le {w : World} {base B : Nat} {s : TSlots} {t : TraceC} (h : OwnTr w base s t) (hB : B ≤ base) : OwnTr w B s t := by
  obtain ⟨F, f1, f2, f3⟩ := h.blk
  exact ⟨h.o1.base_le hB, ⟨F, Nat.le_trans hB f1, f2, f3⟩, h.n2, h.c2, h.len, fun j hj => (h.rows j hj).base_le hB⟩

def cirCells (z : Int) (s : CSlots) : Array Value := #[.int .i64 z, .slice s.a1 s.n1 s.c1, .slice s.a2 s.n2 s.c2, .slice s.a3 s.n3 s.c3, .slice s.a4 s.n4 s.c4, .slice s.a5 s.n5 s.c5]
def trCells (z : Int) (s : TSlots) : Array Value := #[.int .i64 z, .slice s.a1 s.n1 s.c1, .slice s.a2 s.n2 s.c2]
/-- A copy of a circuit and one of a trace lie in two variables. -/
structure Two (b : World) (z bad : Int) (c : NormC) (t : TraceC) (G7 G8 : Nat) (sx : CSlots) (sy : TSlots) (w : World) : Prop where
  cir : w.heap[G7]? = some (.cells (cirCells z sx) 26 (0, 0))
  tr : w.heap[G8]? = some (.cells (trCells bad sy) 30 (0, 0))
  oc : OwnCir w b.heap.size sx c
  ot : OwnTr w b.heap.size sy t
  bel : Below b.heap.size b w
  g7 : b.heap.size ≤ G7
  g8 : b.heap.size ≤ G8
theorem Two.of {b v : World} {z bad : Int} {c : NormC} {t : TraceC} {G7 G8 : Nat} {sx : CSlots} {sy : TSlots} {C D : Array Value}
    (h7 : v.heap[G7]? = some (.cells C 26 (0, 0))) (hC : C.size = 6) (h8 : v.heap[G8]? = some (.cells D 30 (0, 0))) (hD : D.size = 3)
    (oc : OwnCir v b.heap.size sx c) (ot : OwnTr v b.heap.size sy t) (bel : Below b.heap.size b v) (g7 : b.heap.size ≤ G7) (g8 : b.heap.size ≤ G8) :
    Two b z bad c t G7 G8 sx sy ((((((((((v.setCell ⟨G7, 0, .none⟩ (.int .i64 z)).setCell ⟨G7, 1, .none⟩ (.slice sx.a1 sx.n1 sx.c1)).setCell ⟨G7, 2, .none⟩ (.slice sx.a2 sx.n2 sx.c2)).setCell ⟨G7, 3, .none⟩ (.slice sx.a3 sx.n3 sx.c3)).setCell ⟨G7, 4, .none⟩ (.slice sx.a4 sx.n4 sx.c4)).setCell ⟨G7, 5, .none⟩ (.slice sx.a5 sx.n5 sx.c5)).setCell ⟨G8, 0, .none⟩ (.int .i64 bad)).setCell ⟨G8, 1, .none⟩ (.slice sy.a1 sy.n1 sy.c1)).setCell ⟨G8, 2, .none⟩ (.slice sy.a2 sy.n2 sy.c2))) := by
  have hne : G7 ≠ G8 := fun e => by
    subst e
    rw [h7] at h8
    cases h8
  have e7 := cir_set h7 hC (.int .i64 z) (.slice sx.a1 sx.n1 sx.c1) (.slice sx.a2 sx.n2 sx.c2) (.slice sx.a3 sx.n3 sx.c3) (.slice sx.a4 sx.n4 sx.c4) (.slice sx.a5 sx.n5 sx.c5)
  have o7 := fun D hD => set6_other (X := v) G7 D hD (.int .i64 z) (.slice sx.a1 sx.n1 sx.c1) (.slice sx.a2 sx.n2 sx.c2) (.slice sx.a3 sx.n3 sx.c3) (.slice sx.a4 sx.n4 sx.c4) (.slice sx.a5 sx.n5 sx.c5)
  have h8' := (o7 G8 (fun e => hne e.symm)).trans h8
  have oc7 := oc.but h7 (by decide) (by decide) (by decide) o7
  have ot7 := ot.but h7 (by decide) (by decide) o7
  have b7 := set6 (u0 := .int .i64 z) (u1 := .slice sx.a1 sx.n1 sx.c1) (u2 := .slice sx.a2 sx.n2 sx.c2) (u3 := .slice sx.a3 sx.n3 sx.c3) (u4 := .slice sx.a4 sx.n4 sx.c4) (u5 := .slice sx.a5 sx.n5 sx.c5) G7 g7 bel
  generalize World.setCell (World.setCell (World.setCell (World.setCell (World.setCell (World.setCell v _ _) _ _) _ _) _ _) _ _) _ _ = v7 at e7 o7 h8' oc7 ot7 b7 ⊢
  have o8 := fun D hD => set3_other (X := v7) G8 D hD (.int .i64 bad) (.slice sy.a1 sy.n1 sy.c1) (.slice sy.a2 sy.n2 sy.c2)
  exact ⟨(o8 G7 hne).trans e7, tri_set_t h8' hD _ _ _, oc7.but h8' (by decide) (by decide) (by decide) o8, ot7.but h8' (by decide) (by decide) o8, set3_t G8 g8 b7, g7, g8⟩
theorem z6_size : (#[.int .i64 0, .slice none 0 0, .slice none 0 0, .slice none 0 0, .slice none 0 0, .slice none 0 0] : Array Value).size = 6 := rfl
end Go.Proofs.Ytdheldhecimfnaa
