/- Where a propagation lies in memory. -/
import Derived.Test.YtdngaohjocokiaaNBase
import Derived.Test.YtdngaohjocokiaaNBools
import Derived.Test.YtdngaohjocokiaaCuPure
import Derived.Test.YtdngaohjocokiaaCuInts
import Derived.Test.YtdngaohjocokiaaCuInv
import Derived.Test.YtdngaohjocokiaaRows
import Derived.BigQuiet
import Derived.Conc.LoneSelect
import Derived.Deep.AppendLies
import Derived.Deep.QuietTactic
import Derived.Deep.RegionLaw
import Derived.Deep.RegionWith
import Derived.KernelRfl
import Derived.Laws.EntriesVeiled
import Derived.Lib.ConvBytes
import Derived.Lib.Hide
import Derived.Lib.SlBytesRow
import Derived.Lib.SmallJoins
import Derived.Shelf.Bytes.SlSmallAll
import Derived.WalkKit
import Derived.WalkLawsBesides
import Derived.WalkSpells
namespace Go.Proofs.Ytdngaohjocokiaa
open Go Go.RowKit Go.Joins

def i32v (n : Nat) : Value := .int .i32 (n : Int)
/-- Its blocks, and its clauses' slice. -/
structure PLay where
  B : Nat
  gL : Nat
  gF : Nat
  gK : Nat
  gD : Nat
  gC : Nat
  ac : Option Addr
  nc : Nat
  cc : Nat
  ss : List ZSlc
  nk : Nat
  ck : Nat
  cap : Nat
  vars : Nat
def PLay.m (y : PLay) : Nat := 2 * (y.vars + 1)
def PLay.cells (y : PLay) : Array Value :=
  #[.slice y.ac y.nc y.cc, .slice (some ⟨y.gL, 0, none⟩) y.nc y.nc, .slice (some ⟨y.gF, 0, none⟩) y.m y.m, .slice (some ⟨y.gK, 0, none⟩) y.nk y.ck, .slice (some ⟨y.gD, 0, none⟩) y.m y.m, .chan (some y.gC)]
def nvI (l : List Nat) : Array Value := (l.map fun (n : Nat) => Value.int .i64 (n : Int)).toArray
def nv3 (l : List Nat) : Array Value := (l.map i32v).toArray
theorem nvI_get {l : List Nat} {i : Nat} (h : i < l.length) : (nvI l)[i]? = some (.int .i64 (l.getD i 0 : Nat)) := by simp [nvI, List.getD, List.getElem?_eq_getElem h]
theorem nv3_get {l : List Nat} {i : Nat} (h : i < l.length) : (nv3 l)[i]? = some (.int .i32 (l.getD i 0 : Nat)) := by simp [nv3, i32v, List.getD, List.getElem?_eq_getElem h]
theorem nvI_set (l : List Nat) (i x : Nat) : (nvI l).setIfInBounds i (.int .i64 (x : Int)) = nvI (l.set i x) := by
  apply Array.ext'
  simp [nvI]
theorem nv3_set (l : List Nat) (i x : Nat) : (nv3 l).setIfInBounds i (.int .i32 (x : Int)) = nv3 (l.set i x) := by
  apply Array.ext'
  simp [nv3, i32v]
/-- The links' cells: two each. -/
def IsK (C : Array Value) (K : List (Nat × Nat)) : Prop := ∀ j, j < K.length → C[2 * j]? = some (i32v (K.getD j (0, 0)).1) ∧ C[2 * j + 1]? = some (i32v (K.getD j (0, 0)).2)
/-- The queue's cells. -/
def qv (S : List Int) (r : Nat) : Array Value := (zvs (S.drop r)).toArray
theorem qv_size (S : List Int) (r : Nat) : (qv S r).size = S.length - r := by simp [qv, zvs]
theorem qv_push {S : List Int} {r : Nat} (h : r ≤ S.length) (x : Int) : (qv S r).push (.int .i64 x) = qv (S ++ [x]) r := by
  apply Array.ext'
  simp [qv, zvs, List.drop_append_of_le_length h]
theorem qv_pop {S : List Int} {r : Nat} (h : r < S.length) : (qv S r).extract 1 (qv S r).size = qv S (r + 1) := by
  apply Array.ext'
  have e : S.drop r = S.getD r 0 :: S.drop (r + 1) := by
    rw [List.drop_eq_getElem_cons h]
    simp [List.getD, List.getElem?_eq_getElem h]
  have e2 : (qv S r).toList = Value.int .i64 (S.getD r 0) :: zvs (S.drop (r + 1)) := by simp [qv, zvs, e]
  rw [Array.toList_extract, List.extract_eq_take_drop, e2, List.drop_succ_cons, List.drop_zero, List.take_of_length_le (by rw [qv_size, zvs_len, List.length_drop]; omega)]
  simp [qv]
theorem qv_head {S : List Int} {r : Nat} (h : r < S.length) : (qv S r).getD 0 undef = .int .i64 (S.getD r 0) := by
  have e : S.drop r = S.getD r 0 :: S.drop (r + 1) := by
    rw [List.drop_eq_getElem_cons h]
    simp [List.getD, List.getElem?_eq_getElem h]
  unfold qv zvs
  rw [e]
  rfl
theorem qv_none {S : List Int} {r : Nat} (h : S.length ≤ r) : qv S r = #[] := by simp [qv, zvs, List.drop_eq_nil_of_le h]

/-- What stands for good. -/
structure PFix (wE : World) (y : PLay) (cls : List (List Int)) (given : List Int) (F : List Nat) (K : List (Nat × Nat)) (C : Array Value) : Prop where
  cl : SeesZ wE y.ac y.nc y.cc y.ss cls
  links : IsLinks y.vars cls F K
  isK : IsK C K
  nk : K.length = y.nk
  kc : y.nk < 2147483648
  vmax : y.vars ≤ 4194304
  nmax : y.nc ≤ 1048576
  small : ∀ c ∈ cls, c.length ≤ 4096
  lits : ∀ c ∈ cls, ∀ x ∈ c, VLit y.vars x
  asc : ∀ c ∈ cls, Asc c
  capE : y.cap = min y.vars (given.length + cls.length)
  gB : wE.heap.size ≤ y.B
  gL : wE.heap.size ≤ y.gL
  gF : wE.heap.size ≤ y.gF
  gK : wE.heap.size ≤ y.gK
  gD : wE.heap.size ≤ y.gD
  gC : wE.heap.size ≤ y.gC
/-- What stands now. -/
structure PAt (wE : World) (y : PLay) (F : List Nat) (C : Array Value) (S : List Int) (r : Nat) (left : List Nat) (w : World) : Prop where
  bel : Below wE.heap.size wE w
  box : w.heap[y.B]? = some (.cells y.cells 50 (0, 0))
  hF : w.heap[y.gF]? = some (.cells (nv3 F) 21 (0, 0))
  hK : w.heap[y.gK]? = some (.cells C 60 (0, 0))
  hL : w.heap[y.gL]? = some (.cells (nvI left) 3 (0, 0))
  hD : ∃ D, IsD y.vars S D ∧ w.heap[y.gD]? = some (.cells (bcells D) 4 (0, 0))
  hC : w.heap[y.gC]? = some (.chan y.cap (qv S r) false S.length r false)
section
variable {wE : World} {y : PLay} {F : List Nat} {C : Array Value} {S : List Int} {r : Nat} {left : List Nat} {w w' : World}
theorem PAt.below (h : PAt wE y F C S r left w) (hb : Below w.heap.size w w') : PAt wE y F C S r left w' :=
  ⟨h.bel.trans (hb.mono h.bel.size), heap_below h.box hb, heap_below h.hF hb, heap_below h.hK hb, heap_below h.hL hb, (let ⟨D, h1, h2⟩ := h.hD; ⟨D, h1, heap_below h2 hb⟩), heap_below h.hC hb⟩
theorem PAt.b0 (h : PAt wE y F C S r left w) : w.cell? ⟨y.B, 0, none⟩ = some (.slice y.ac y.nc y.cc) := (cell_of_block h.box 0).trans rfl
theorem PAt.b1 (h : PAt wE y F C S r left w) : w.cell? ⟨y.B, 1, none⟩ = some (.slice (some ⟨y.gL, 0, none⟩) y.nc y.nc) := (cell_of_block h.box 1).trans rfl
theorem PAt.b2 (h : PAt wE y F C S r left w) : w.cell? ⟨y.B, 2, none⟩ = some (.slice (some ⟨y.gF, 0, none⟩) y.m y.m) := (cell_of_block h.box 2).trans rfl
theorem PAt.b3 (h : PAt wE y F C S r left w) : w.cell? ⟨y.B, 3, none⟩ = some (.slice (some ⟨y.gK, 0, none⟩) y.nk y.ck) := (cell_of_block h.box 3).trans rfl
theorem PAt.b4 (h : PAt wE y F C S r left w) : w.cell? ⟨y.B, 4, none⟩ = some (.slice (some ⟨y.gD, 0, none⟩) y.m y.m) := (cell_of_block h.box 4).trans rfl
theorem PAt.b5 (h : PAt wE y F C S r left w) : w.cell? ⟨y.B, 5, none⟩ = some (.chan (some y.gC)) := (cell_of_block h.box 5).trans rfl
theorem PAt.d_at (h : PAt wE y F C S r left w) {l : Int} (hl : VLit y.vars l) : w.cell? ⟨y.gD, placeN l, none⟩ = some (.bool (decide (l ∈ S))) := by
  obtain ⟨D, h1, h2⟩ := h.hD
  rw [← h1.at_ l hl]
  exact (cell_of_block h2 _).trans (bcells_get D _ (by rw [h1.len]; exact placeN_lt hl.2))
theorem PAt.l_at (h : PAt wE y F C S r left w) {i : Nat} (hi : i < left.length) : w.cell? ⟨y.gL, i, none⟩ = some (.int .i64 (left.getD i 0 : Nat)) := (cell_of_block h.hL _).trans (nvI_get hi)
theorem PAt.f_at (h : PAt wE y F C S r left w) {i : Nat} (hi : i < F.length) : w.cell? ⟨y.gF, i, none⟩ = some (.int .i32 (F.getD i 0 : Nat)) := (cell_of_block h.hF _).trans (nv3_get hi)
theorem ne_block {D E : Nat} {o o' : Obj} (h : w.heap[D]? = some o) (h' : w.heap[E]? = some o') (hn : o ≠ o') : D ≠ E := fun e => by
  subst e
  rw [h] at h'
  exact hn (Option.some.inj h')
theorem ne_cells {D E : Nat} {X Y : Array Value} {t u : TypeId} (h : w.heap[D]? = some (.cells X t (0, 0))) (h' : w.heap[E]? = some (.cells Y u (0, 0))) (hn : t ≠ u) : D ≠ E := ne_block h h' fun e => by cases e; exact hn rfl
theorem ne_chan {D E : Nat} {X : Array Value} {t : TypeId} {cap s q : Nat} {buf : Array Value} (h : w.heap[D]? = some (.cells X t (0, 0))) (h' : w.heap[E]? = some (.chan cap buf false s q false)) : D ≠ E := ne_block h h' fun e => by cases e
/-- One more is sent: its bool is set, it lies in the queue. -/
theorem PAt.sent (h : PAt wE y F C S r left w) (hg : wE.heap.size ≤ y.gD) (hgc : wE.heap.size ≤ y.gC) {l : Int} (hl : VLit y.vars l) (hr : r ≤ S.length) :
    PAt wE y F C (S ++ [l]) r left ((w.setCell ⟨y.gD, placeN l, none⟩ (.bool true)).setChan y.gC y.cap ((qv S r).push (.int .i64 l)) false (S.length + 1) r false) := by
  obtain ⟨D, h1, h2⟩ := h.hD
  have nB := ne_cells h2 h.box (by decide)
  have nF := ne_cells h2 h.hF (by decide)
  have nK := ne_cells h2 h.hK (by decide)
  have nL := ne_cells h2 h.hL (by decide)
  have nC := ne_chan h2 h.hC
  have cB := ne_chan h.box h.hC
  have cF := ne_chan h.hF h.hC
  have cK := ne_chan h.hK h.hC
  have cL := ne_chan h.hL h.hC
  have hs : ∀ E, y.gD ≠ E → (w.setCell ⟨y.gD, placeN l, none⟩ (.bool true)).heap[E]? = w.heap[E]? := fun E hE => Below.heap_setCell _ _ _ _ (fun e => hE e.symm)
  have hch : ∀ (X : World) E, E ≠ y.gC → (X.setChan y.gC y.cap ((qv S r).push (.int .i64 l)) false (S.length + 1) r false).heap[E]? = X.heap[E]? := fun X E hE => by
    simp [World.setChan, Array.getElem?_setIfInBounds_ne hE.symm]
  refine ⟨?_, (hch _ _ cB).trans ((hs _ nB).trans h.box), (hch _ _ cF).trans ((hs _ nF).trans h.hF), (hch _ _ cK).trans ((hs _ nK).trans h.hK), (hch _ _ cL).trans ((hs _ nL).trans h.hL), ⟨D.set (placeN l) true, h1.put hl, ?_⟩, ?_⟩
  · exact Go.Conc.below_setChan (h.bel.setCell hg _) hgc _ _ _ _ _ _
  · rw [hch _ _ nC, block_setCell h2, bcells_set]
  · rw [Go.Conc.heap_setChan _ _ _ _ _ _ _ _ (by have := heap_lt h.hC; simpa using this), qv_push hr]
    simp
/-- One is taken from the queue. -/
theorem PAt.taken (h : PAt wE y F C S r left w) (hgc : wE.heap.size ≤ y.gC) (hr : r < S.length) : PAt wE y F C S (r + 1) left (w.setChan y.gC y.cap ((qv S r).extract 1 (qv S r).size) false S.length (r + 1) false) := by
  obtain ⟨D, h1, h2⟩ := h.hD
  have nC := ne_chan h2 h.hC
  have cB := ne_chan h.box h.hC
  have cF := ne_chan h.hF h.hC
  have cK := ne_chan h.hK h.hC
  have cL := ne_chan h.hL h.hC
  have hch : ∀ E, E ≠ y.gC → (w.setChan y.gC y.cap ((qv S r).extract 1 (qv S r).size) false S.length (r + 1) false).heap[E]? = w.heap[E]? := fun E hE => by
    simp [World.setChan, Array.getElem?_setIfInBounds_ne hE.symm]
  refine ⟨Go.Conc.below_setChan h.bel hgc _ _ _ _ _ _, (hch _ cB).trans h.box, (hch _ cF).trans h.hF, (hch _ cK).trans h.hK, (hch _ cL).trans h.hL, ⟨D, h1, (hch _ nC).trans h2⟩, ?_⟩
  rw [Go.Conc.heap_setChan _ _ _ _ _ _ _ _ (heap_lt h.hC), qv_pop hr]
/-- One literal less is left. -/
theorem PAt.less (h : PAt wE y F C S r left w) (hg : wE.heap.size ≤ y.gL) (i x : Nat) : PAt wE y F C S r (left.set i x) (w.setCell ⟨y.gL, i, none⟩ (.int .i64 (x : Int))) := by
  obtain ⟨D, h1, h2⟩ := h.hD
  have nB := ne_cells h.hL h.box (by decide)
  have nF := ne_cells h.hL h.hF (by decide)
  have nK := ne_cells h.hL h.hK (by decide)
  have nD := ne_cells h.hL h2 (by decide)
  have nC := ne_chan h.hL h.hC
  have hs : ∀ E, y.gL ≠ E → (w.setCell ⟨y.gL, i, none⟩ (.int .i64 (x : Int))).heap[E]? = w.heap[E]? := fun E hE => Below.heap_setCell _ _ _ _ (fun e => hE e.symm)
  refine ⟨h.bel.setCell hg _, (hs _ nB).trans h.box, (hs _ nF).trans h.hF, (hs _ nK).trans h.hK, ?_, ⟨D, h1, (hs _ nD).trans h2⟩, (hs _ nC).trans h.hC⟩
  rw [block_setCell h.hL, nvI_set]
end
end Go.Proofs.Ytdngaohjocokiaa
