/- clause.newPropagation: what holds between two literals. -/
import Derived.Test.YtdngaohjocokiaaOwn
import Derived.Test.YtdngaohjocokiaaNBase
import Derived.Test.YtdngaohjocokiaaNOwnsN
import Derived.Test.YtdngaohjocokiaaNStep
import Derived.Test.YtdngaohjocokiaaNBools
import Derived.Test.YtdngaohjocokiaaCuPure
import Derived.Test.YtdngaohjocokiaaCuInts
import Derived.Test.YtdngaohjocokiaaCuInv
import Derived.Test.YtdngaohjocokiaaCuAllP
import Derived.Test.YtdngaohjocokiaaCuRunP
import Derived.Test.YtdngaohjocokiaaCuMem
import Derived.Test.YtdngaohjocokiaaRows
import Derived.Test.YtdngaohjocokiaaShelf
import Derived.BigQuiet
import Derived.Conc.LoneSelect
import Derived.Deep.AppendLies
import Derived.Deep.QuietTactic
import Derived.Deep.RegionHeld3
import Derived.Deep.RegionLaw
import Derived.Deep.RegionWith
import Derived.KernelRfl
import Derived.Laws.CopyOwn
import Derived.Laws.EntriesVeiled
import Derived.Laws.Tables
import Derived.Lib.ConvBytes
import Derived.Lib.Hide
import Derived.Lib.SlBytesRow
import Derived.Lib.SlicesCompact
import Derived.Lib.SmallJoins
import Derived.Maps.AppendAt
import Derived.OrdersHeld
import Derived.Shelf.Bytes.SlSmallAll
import Derived.Sort.Statements
import Derived.WalkKit
import Derived.WalkLawsBesides
import Derived.WalkSpells
namespace Go.Proofs.Ytdngaohjocokiaa
open Go Go.RowKit Go.Joins

/-- The links' cells, one behind the other. -/
def kcs : List (Nat × Nat) → List Value
  | [] => []
  | x :: r => i32v x.1 :: i32v x.2 :: kcs r
theorem kcs_app : ∀ (K : List (Nat × Nat)) (x : Nat × Nat), kcs (K ++ [x]) = kcs K ++ [i32v x.1, i32v x.2]
  | [], x => rfl
  | y :: K, x => by rw [List.cons_append, kcs, kcs, kcs_app K x]; rfl
theorem kcs_len : ∀ K : List (Nat × Nat), (kcs K).length = 2 * K.length
  | [] => rfl
  | x :: r => by rw [kcs, List.length_cons, List.length_cons, kcs_len r, List.length_cons]; omega
theorem kcs_at : ∀ (K : List (Nat × Nat)) (j : Nat), j < K.length → (kcs K)[2 * j]? = some (i32v (K.getD j (0, 0)).1) ∧ (kcs K)[2 * j + 1]? = some (i32v (K.getD j (0, 0)).2)
  | [], j, h => by simp at h
  | x :: r, 0, _ => by simp [kcs]
  | x :: r, j + 1, h => by
    have ih := kcs_at r j (by simpa using h)
    have e1 : 2 * (j + 1) = 2 * j + 2 := by omega
    have e2 : 2 * (j + 1) + 1 = 2 * j + 1 + 2 := by omega
    rw [e2, e1]
    simpa [kcs] using ih
theorem nvI_zero (n : Nat) : zeros (.int .i64 0) n = nvI (List.replicate n 0) := by simp [zeros, nvI]
theorem nv3_zero (n : Nat) : zeros (.int .i32 0) n = nv3 (List.replicate n 0) := by simp [zeros, nv3, i32v]

/-- Its letters. -/
structure NLay where
  B : Nat
  gL : Nat
  gF : Nat
  gD : Nat
  gC : Nat
  ac : Option Addr
  nc : Nat
  cc : Nat
  M : Nat
  cap : Nat
def NLay.cells (y : NLay) (gK nk ck : Nat) : Array Value :=
  #[.slice y.ac y.nc y.cc, .slice (some ⟨y.gL, 0, none⟩) y.nc y.nc, .slice (some ⟨y.gF, 0, none⟩) y.M y.M, .slice (some ⟨gK, 0, none⟩) nk ck, .slice (some ⟨y.gD, 0, none⟩) y.M y.M, .chan (some y.gC)]
structure NAt (wE : World) (y : NLay) (vars : Nat) (cls : List (List Int)) (i k ld : Nat) (F : List Nat) (K : List (Nat × Nat)) (left : List Nat) (gK nk ck : Nat) (w : World) : Prop where
  bel : Below wE.heap.size wE w
  box : w.heap[y.B]? = some (.cells (y.cells gK nk ck) 50 (0, 0))
  hF : w.heap[y.gF]? = some (.cells (nv3 F) 21 (0, 0))
  row : w.ownsRow wE.heap.size 60 2 (.slice (some ⟨gK, 0, none⟩) nk ck) nk (kcs K)
  nkE : nk = K.length
  hL : w.heap[y.gL]? = some (.cells (nvI left) 3 (0, 0))
  hD : w.heap[y.gD]? = some (.cells (bcells (List.replicate y.M false)) 4 (0, 0))
  hC : w.heap[y.gC]? = some (.chan y.cap #[] false 0 0 false)
  links : IsLinksTo vars cls i k F K
  llen : left.length = cls.length
  lft : ∀ j, j < ld → left.getD j 0 = (cls.getD j []).length
  count : nk = 1 + total (cls.take i) + k
section
variable {wE w w' : World} {y : NLay} {vars : Nat} {cls : List (List Int)} {i k ld : Nat} {F : List Nat} {K : List (Nat × Nat)} {left : List Nat} {gK nk ck : Nat}
theorem NAt.below (h : NAt wE y vars cls i k ld F K left gK nk ck w) (hb : Below w.heap.size w w') : NAt wE y vars cls i k ld F K left gK nk ck w' :=
  ⟨h.bel.trans (hb.mono h.bel.size), heap_below h.box hb, heap_below h.hF hb, ownsN_below h.row hb, h.nkE, heap_below h.hL hb, heap_below h.hD hb, heap_below h.hC hb, h.links, h.llen, h.lft, h.count⟩
theorem owns_setCell {e T : TypeId} {v : Value} {n m b x : Nat} {xs : List Value} {u : Value} {Y : Array Value} (h : w.ownsRow b e m v n xs) (hb : w.heap[x]? = some (.cells Y T (0, 0))) (ht : T ≠ e) (c : Nat) : (w.setCell ⟨x, c, none⟩ u).ownsRow b e m v n xs :=
  ownsN_other h fun q hq => Below.heap_setCell _ _ _ _ (fun e2 => (ownsN_notown h hb ht) (by rw [hq]; exact congrArg some e2))
/-- A clause's length is stored. -/
theorem NAt.len (h : NAt wE y vars cls i k i F K left gK nk ck w) (hi : i < cls.length) (hg : wE.heap.size ≤ y.gL) {n : Nat} (hn : n = (cls.getD i []).length) :
    NAt wE y vars cls i k (i + 1) F K (left.set i n) gK nk ck (w.setCell ⟨y.gL, i, none⟩ (.int .i64 (n : Int))) := by
  have nB := ne_cells h.hL h.box (by decide)
  have nF := ne_cells h.hL h.hF (by decide)
  have nD := ne_cells h.hL h.hD (by decide)
  have nC := ne_chan h.hL h.hC
  have hs : ∀ E, y.gL ≠ E → (w.setCell ⟨y.gL, i, none⟩ (.int .i64 (n : Int))).heap[E]? = w.heap[E]? := fun E hE => Below.heap_setCell _ _ _ _ (fun e => hE e.symm)
  refine ⟨h.bel.setCell hg _, (hs _ nB).trans h.box, (hs _ nF).trans h.hF, owns_setCell h.row h.hL (by decide) _, h.nkE, ?_, (hs _ nD).trans h.hD, (hs _ nC).trans h.hC, h.links, by rw [List.length_set]; exact h.llen, fun j hj => ?_, h.count⟩
  · rw [block_setCell h.hL, nvI_set]
  · by_cases e : i = j
    · subst e
      rw [cu_set_self (by rw [h.llen]; exact hi), hn]
    · rw [cu_set_ne e]
      exact h.lft j (by omega)
/-- A link is appended, its slice is stored, the head is turned to it. -/
theorem NAt.link (h : NAt wE y vars cls i k ld F K left gK nk ck w) (hB : wE.heap.size ≤ y.B) (hGF : wE.heap.size ≤ y.gF) (hk : k < (cls.getD i []).length) (hnd : (cls.getD i []).Nodup) {l : Int} (hl : l = (cls.getD i []).getD k 0) (hv : VLit vars l) {p q : Nat} (hp : p = placeN l) (hq : q = F.getD p 0)
    {Y0 w2 : World} {vv : Value} (hb0 : Below w.heap.size w Y0) (ho : w2.ownsRow wE.heap.size 60 2 vv (nk + 1) (kcs K ++ [.int .i32 i, .int .i32 q]))
    (hg : (Y0.alloc (.cells #[.int .i32 i, .int .i32 q] 60)).grownBy w2 (Value.slice (some ⟨gK, 0, none⟩) nk ck).ownBlock) :
    ∃ gK' ck', vv = .slice (some ⟨gK', 0, none⟩) (nk + 1) ck' ∧ (w2.setCell ⟨y.B, 3, none⟩ vv).heap[y.B]? = some (.cells (y.cells gK' (nk + 1) ck') 50 (0, 0)) ∧ (w2.setCell ⟨y.B, 3, none⟩ vv).heap[y.gF]? = some (.cells (nv3 F) 21 (0, 0)) ∧ NAt wE y vars cls i (k + 1) ld (F.set p nk) (K ++ [(i, q)]) left gK' (nk + 1) ck' (((w2.setCell ⟨y.B, 3, none⟩ vv)).setCell ⟨y.gF, p, none⟩ (.int .i32 (nk : Int))) := by
  have hb1 : Below w.heap.size w (Y0.alloc (.cells #[.int .i32 i, .int .i32 q] 60)) := ext_trans hb0 (ext_alloc _ _)
  have h1 := h.below hb1
  have nB := ownsN_notown h1.row h1.box (by decide)
  have nF := ownsN_notown h1.row h1.hF (by decide)
  have nL := ownsN_notown h1.row h1.hL (by decide)
  have nD := ownsN_notown h1.row h1.hD (by decide)
  have nC : (Value.slice (some ⟨gK, 0, none⟩) nk ck).ownBlock ≠ some y.gC := by
    intro e
    have eg : gK = y.gC := by simpa [Value.ownBlock] using e
    rcases h1.row.2 with ⟨h2, _⟩ | ⟨g, cap, cur, h2, _, hg2, _⟩
    · cases h2
    · cases h2
      have := h1.hC
      rw [← eg, hg2] at this
      cases this
  have b2 := heap_grown h1.box hg nB
  have f2 := heap_grown h1.hF hg nF
  have l2 := heap_grown h1.hL hg nL
  have d2 := heap_grown h1.hD hg nD
  have c2 := heap_grown h1.hC hg nC
  have bel2 : Below wE.heap.size wE w2 := h1.bel.grown hg h1.bel.size (fun j hj => (h1.row.lt j hj).1)
  rcases ho.2 with ⟨_, h0⟩ | ⟨g, cap, cur, rfl, hgb, hgc, _⟩
  · omega
  have xF := ne_cells b2 f2 (by decide)
  have xL := ne_cells b2 l2 (by decide)
  have xD := ne_cells b2 d2 (by decide)
  have xC := ne_chan b2 c2
  have yL := ne_cells f2 l2 (by decide)
  have yD := ne_cells f2 d2 (by decide)
  have yC := ne_chan f2 c2
  have hs : ∀ (X : World) (E Z c : Nat) (u : Value), E ≠ Z → (X.setCell ⟨E, c, none⟩ u).heap[Z]? = X.heap[Z]? := fun X E Z c u hE => Below.heap_setCell _ _ _ _ (fun e => hE e.symm)
  have f3 := (hs w2 y.B y.gF 3 (.slice (some ⟨g, 0, none⟩) (nk + 1) cap) xF).trans f2
  have r3 := owns_setCell (u := .slice (some ⟨g, 0, none⟩) (nk + 1) cap) ho b2 (by decide) 3
  have r4 := owns_setCell (u := .int .i32 (nk : Int)) r3 f3 (by decide) p
  have b3 : (w2.setCell ⟨y.B, 3, none⟩ (.slice (some ⟨g, 0, none⟩) (nk + 1) cap)).heap[y.B]? = some (.cells (y.cells g (nk + 1) cap) 50 (0, 0)) := by
    rw [block_setCell b2]
    rfl
  refine ⟨g, cap, rfl, b3, f3, ?_⟩
  refine ⟨(bel2.setCell hB _).setCell hGF _, ?_, ?_, ?_, by rw [h.nkE]; simp, ?_, ?_, ?_, ?_, h.llen, h.lft, by rw [h.count]; omega⟩
  · exact (hs _ _ _ _ _ xF.symm).trans b3
  · rw [block_setCell f3, nv3_set]
  · rw [kcs_app]
    exact r4
  · exact ((hs _ _ _ _ _ yL).trans (hs _ _ _ _ _ xL)).trans l2
  · exact ((hs _ _ _ _ _ yD).trans (hs _ _ _ _ _ xD)).trans d2
  · exact ((hs _ _ _ _ _ yC).trans (hs _ _ _ _ _ xC)).trans c2
  · have := h.links.put hk hnd l hl hv
    rw [← hp, ← hq, ← h.nkE] at this
    exact this
/-- A clause is done. -/
theorem NAt.nextC (h : NAt wE y vars cls i k ld F K left gK nk ck w) (hi : i < cls.length) (hk : k = (cls.getD i []).length) : NAt wE y vars cls (i + 1) 0 ld F K left gK nk ck w := by
  subst hk
  exact ⟨h.bel, h.box, h.hF, h.row, h.nkE, h.hL, h.hD, h.hC, h.links.next, h.llen, h.lft, by rw [h.count, total_snoc cls i hi]; omega⟩
theorem lens_eq {left : List Nat} (hl : left.length = cls.length) (h : ∀ j, j < cls.length → left.getD j 0 = (cls.getD j []).length) : left = lensU cls := by
  apply List.ext_getElem
  · simp [lensU, hl]
  · intro j h1 h2
    have := h j (by omega)
    have e1 : left.getD j 0 = left[j] := by simp [List.getD, List.getElem?_eq_getElem h1]
    have e2 : cls.getD j [] = cls[j]'(by omega) := by simp [List.getD, List.getElem?_eq_getElem (show j < cls.length by omega)]
    rw [e1, e2] at this
    rw [this]
    simp [lensU]
/-- All are done. -/
theorem NAt.done {given : List Int} {ss : List ZSlc} (h : NAt wE y vars cls cls.length 0 cls.length F K left gK nk ck w) (hs : SeesZ wE y.ac y.nc y.cc ss cls) (hM : y.M = 2 * (vars + 1)) (hv : vars ≤ 4194304) (hnc : y.nc ≤ 1048576) (hnk : nk < 2147483648)
    (hsm : ∀ c ∈ cls, c.length ≤ 4096) (hlt : ∀ c ∈ cls, ∀ x ∈ c, VLit vars x) (hasc : ∀ c ∈ cls, Asc c) (hcap : y.cap = min vars (given.length + cls.length))
    (g1 : wE.heap.size ≤ y.B) (g2 : wE.heap.size ≤ y.gL) (g3 : wE.heap.size ≤ y.gF) (g5 : wE.heap.size ≤ y.gD) (g6 : wE.heap.size ≤ y.gC) :
    ∃ C, PFix wE ⟨y.B, y.gL, y.gF, gK, y.gD, y.gC, y.ac, y.nc, y.cc, ss, nk, ck, y.cap, vars⟩ cls given F K C ∧ PAt wE ⟨y.B, y.gL, y.gF, gK, y.gD, y.gC, y.ac, y.nc, y.cc, ss, nk, ck, y.cap, vars⟩ F C [] 0 (lensU cls) w := by
  rcases h.row.2 with ⟨h0, _⟩ | ⟨g, cap, cur, hv0, hgb, hgc, _, _, _, htk⟩
  · cases h0
  cases hv0
  refine ⟨cur, ⟨hs, h.links.done, fun j hj => ?_, h.nkE.symm, hnk, hv, hnc, hsm, hlt, hasc, hcap, g1, g2, g3, hgb, g5, g6⟩, ⟨h.bel, ?_, h.hF, hgc, ?_, ⟨List.replicate y.M false, ?_, h.hD⟩, h.hC⟩⟩
  · have e : ∀ i, i < nk * 2 → cur[i]? = (kcs K)[i]? := fun i hi => by
      rw [← htk, List.getElem?_take_of_lt hi]
      simp
    have := h.nkE
    rw [e _ (by omega), e _ (by omega)]
    exact kcs_at K j hj
  · have hb := h.box
    unfold NLay.cells at hb
    rw [hM] at hb
    exact hb
  · have := lens_eq (cls := cls) h.llen h.lft
    rw [← this]
    exact h.hL
  · rw [hM]
    exact IsD.start vars
end
end Go.Proofs.Ytdngaohjocokiaa
