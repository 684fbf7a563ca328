/- Steps of drawn regions; small facts of worlds and rows. -/
import Derived.Test.YthedgbdnidghnaaOwn
import Derived.Test.YthedgbdnidghnaaNBase
import Derived.Test.YthedgbdnidghnaaNOwnsN
import Derived.Test.YthedgbdnidghnaaRows
import Derived.BigQuiet
import Derived.Deep.AppendLies
import Derived.Deep.QuietTactic
import Derived.Deep.RegionHeld3
import Derived.Deep.RegionLaw
import Derived.Deep.RegionWith
import Derived.KernelRfl
import Derived.Laws.EntriesVeiled
import Derived.Laws.Tables
import Derived.Lib.ConvBytes
import Derived.Lib.Hide
import Derived.Lib.SlBytesRow
import Derived.Lib.SmallJoins
import Derived.Maps.AppendAt
import Derived.Shelf.Bytes.SlSmallAll
import Derived.WalkKit
import Derived.WalkLawsBesides
import Derived.WalkSpells
namespace Go.Proofs.Ythedgbdnidghnaa
open Go Go.RowKit Go.Joins
theorem ownsN_other {w w' : World} {base k : Nat} {e : TypeId} {v : Value} {n : Nat} {xs : List Value} (h : w.ownsRow base e k v n xs) (hk : ∀ k, v.ownBlock = some k → w'.heap[k]? = w.heap[k]?) : w'.ownsRow base e k v n xs := by
  refine ⟨h.1, ?_⟩
  rcases h.2 with h2 | ⟨g, cap, cur, rfl, hg, hh, r⟩
  · exact .inl h2
  · exact .inr ⟨g, cap, cur, rfl, hg, (hk g rfl).trans hh, r⟩
theorem below_step {B : Nat} {a b c : World} (h : Below B a b) (k : Below b.heap.size b c) (hs : B ≤ b.heap.size) : Below B a c := h.trans (k.mono hs)
theorem heap_newD (X : World) (o : Obj) : (X.alloc o).drew.heap[X.heap.size]? = some o := heap_new X o _ rfl
/-- A struct is stored into its own block, at a step of a region that draws its order. -/
theorem step_store_row {P : Program} {ops : Array Oper} {o : Oper} {a : Act} {w : World} {K : Act → World → Prop} {Q : Exit → Act → World → Prop} {E : Prop} (hgd : o.guard = none) {ty : TypeId} (x y : Operand) (ho : o.op = .store ty x y)
    (g : Nat) (cells : Array Value) (hx : a.eval x = .pointer (some ⟨g, 0, none⟩)) (hy : a.eval y = .agg cells) {t : TypeId} {old : Array Value} (hg : w.heap[g]? = some (.cells old t (0, 0))) (hi : (P.info? ty).map (·.size) = some cells.size)
    (hold : old.size = cells.size) (h1 : cells.all (·.oneCell') = true) (h : K (a.put o.dst undef) (w.setRow g cells)) :
    if Region.wanted o (yielded ops a.tmps) = true then Oper.wp P o a w K Q else E := by
  have hw : Region.wanted o (yielded ops a.tmps) = true := by simp [Region.wanted, hgd]
  rw [if_pos hw]
  exact wp_store_row ty x y ho g cells hx hy t old hg hi hold h1 h
theorem step_append_own_at {P : Program} {ops : Array Oper} {o : Oper} {a : Act} {w : World} {K : Act → World → Prop} {Q : Exit → Act → World → Prop} {E : Prop} (hgd : o.guard = none) (s x : Operand) (t : TypeId)
    (ho : o.op = .call { callee := .builtin .append, args := #[s, x], argTypes := #[t, t] })
    (base : Nat) (e : TypeId) (i : TypeInfo) (z : Value) (size bytes : Nat) (ht : P.underlying t = some (.slice e)) (hi : P.info? e = some i) (hz : i.zero = some z)
    (hsize : i.size = size) (hby : i.bytes = bytes) (hzs : z.cells.size = size) (hsz : 0 < size)
    (v : Value) (n : Nat) (xs : List Value) (hs : a.eval s = v) (hown : w.ownsRow base e size v n xs)
    (ad : Addr) (m c : Nat) (news : List Value) (hx : a.eval x = .slice (some ad) m c) (hl : news.length = m * size) (hnews : ∀ j u, news[j]? = some u → w.cell? (ad.add j) = some u) (h1 : ∀ u ∈ news, u.oneCell' = true)
    (h63 : n + m ≤ maxLen) (hbytes : (n + m) * bytes ≤ 140737488355328) (hbase : base ≤ w.heap.size)
    (h : ∀ v' w', w'.ownsRow base e size v' (n + m) (xs ++ news) → w.grownBy w' v.ownBlock → K (a.put o.dst v') w') :
    if Region.wanted o (yielded ops a.tmps) = true then Oper.wp P o a w K Q else E := by
  have hw : Region.wanted o (yielded ops a.tmps) = true := by simp [Region.wanted, hgd]
  rw [if_pos hw]
  obtain ⟨v', w', hr, h2, h3, _⟩ := run_append_own_at (P := P) w base t o.type e i z size bytes ht hi hz hsize hby hzs hsz v n xs hown ad m c news hl hnews h1 h63 hbytes hbase
  unfold Oper.wp execOp
  simp only [ho, resolve, invoke, builtin, Sem.run_bind, Sem.run_pure, Result.andThen_ok, List.map_toArray, List.map_cons, List.map_nil, hs, hx, hr]
  exact h v' w' h2 h3
theorem row_grown {ok : Value → Prop} {w w' : World} {base : Nat} {e : TypeId} {v : Value} {n : Nat} {xs : List Value} (h : Row ok w base e v n xs) {base2 k m : Nat} {T : TypeId} {u : Value} {ys : List Value} (hr : w.ownsRow base2 T k u m ys) (hg : w.grownBy w' u.ownBlock) (ht : e ≠ T) : Row ok w' base e v n xs := by
  refine h.other fun j hj => ?_
  have hlt := (h.own.lt j hj).2
  refine hg.block j hlt ?_
  intro e'
  rcases h.2 with ⟨rfl, _⟩ | ⟨g, cap, cur, rfl, _, hh, _⟩
  · cases hj
  · have : g = j := by simpa [Value.ownBlock] using hj
    subst this
    exact (ownsN_notown hr hh ht) e'.symm
theorem owns_grown {w w' : World} {base kk : Nat} {e : TypeId} {v : Value} {n : Nat} {xs : List Value} (h : w.ownsRow base e kk v n xs) {base2 k m : Nat} {T : TypeId} {u : Value} {ys : List Value} (hr : w.ownsRow base2 T k u m ys) (hg : w.grownBy w' u.ownBlock) (ht : e ≠ T) : w'.ownsRow base e kk v n xs := by
  refine ownsN_other h fun j hj => ?_
  have hlt := (h.lt j hj).2
  refine hg.block j hlt ?_
  intro e'
  rcases h.2 with ⟨rfl, _⟩ | ⟨g, cap, cur, rfl, _, hh, _⟩
  · cases hj
  · have : g = j := by simpa [Value.ownBlock] using hj
    subst this
    exact (ownsN_notown hr hh ht) e'.symm
/-- Below base nothing has turned but U and T. -/
structure But2 (base U T : Nat) (w w' : World) : Prop where
  os : w'.os = w.os
  tape : w'.tape = w.tape
  output : w'.output = w.output
  size : w.heap.size ≤ w'.heap.size
  block : ∀ D, D < base → D ≠ U → D ≠ T → w'.heap[D]? = w.heap[D]?
theorem But2.refl (base U T : Nat) (w : World) : But2 base U T w w := ⟨rfl, rfl, rfl, Nat.le_refl _, fun _ _ _ _ => rfl⟩
theorem But2.trans {base U T : Nat} {a b c : World} (h : But2 base U T a b) (k : But2 base U T b c) : But2 base U T a c :=
  ⟨k.os.trans h.os, k.tape.trans h.tape, k.output.trans h.output, Nat.le_trans h.size k.size, fun D h1 h2 h3 => (k.block D h1 h2 h3).trans (h.block D h1 h2 h3)⟩
theorem But2.of_below {base U T : Nat} {w w' : World} (h : Below base w w') : But2 base U T w w' := ⟨h.os, h.tape, h.output, h.size, fun D h1 _ _ => h.block D h1⟩
theorem But2.low {base U T B : Nat} {w w' : World} (h : But2 base U T w w') (hB : B ≤ base) (hU : B ≤ U) (hT : B ≤ T) : Below B w w' :=
  ⟨h.os, h.tape, h.output, h.size, fun D hD => h.block D (by omega) (by omega) (by omega)⟩
theorem But2.at {base U T : Nat} {w w' : World} (h : But2 base U T w w') {D : Nat} {o : Obj} (hD : w.heap[D]? = some o) (h1 : D < base) (h2 : D ≠ U) (h3 : D ≠ T) : w'.heap[D]? = some o := (h.block D h1 h2 h3).trans hD
theorem below_undrew {w w' : World} (h : Below w.drew.heap.size w.drew w') : Below w.heap.size w w' := (Below.refl _ w).drew.trans h
theorem cell_set6 {w : World} {G b k : Nat} {v u0 u1 u2 u3 u4 u5 : Value} (h : w.cell? ⟨b, k, none⟩ = some v) (hne : b ≠ G) :
    ((((((w.setCell ⟨G, 0, .none⟩ u0).setCell ⟨G, 1, .none⟩ u1).setCell ⟨G, 2, .none⟩ u2).setCell ⟨G, 3, .none⟩ u3).setCell ⟨G, 4, .none⟩ u4).setCell ⟨G, 5, .none⟩ u5).cell? ⟨b, k, none⟩ = some v := by
  have ne : ∀ j, (⟨G, j, none⟩ : Addr) ≠ ⟨b, k, none⟩ := fun j e => hne (by cases e; rfl)
  rw [World.cell?_setCell_other _ _ _ _ (ne 5), World.cell?_setCell_other _ _ _ _ (ne 4), World.cell?_setCell_other _ _ _ _ (ne 3), World.cell?_setCell_other _ _ _ _ (ne 2), World.cell?_setCell_other _ _ _ _ (ne 1), World.cell?_setCell_other _ _ _ _ (ne 0)]
  exact h
theorem cell_drew {w : World} {a : Addr} {v : Value} (h : w.cell? a = some v) : w.drew.cell? a = some v := h
theorem cell_row {w : World} {G b k : Nat} {v : Value} {C : Array Value} (h : w.cell? ⟨b, k, none⟩ = some v) (hne : b ≠ G) : (w.setRow G C).cell? ⟨b, k, none⟩ = some v := by
  have one : (w.setRow G C).cell? ⟨b, k, none⟩ = w.cell? ⟨b, k, none⟩ := World.cell?_of_block (setRow_other w G b C hne)
  exact one.trans h
/-- Cells of numbers. -/
def ncells (t : List Nat) : Array Value := (t.map nv32).toArray
theorem ncells_get (t : List Nat) (i : Nat) (h : i < t.length) : (ncells t)[i]? = some (.int .u32 (t.getD i 0 : Nat)) := by
  simp [ncells, nv32, List.getD, List.getElem?_eq_getElem h]
theorem ncells_set (t : List Nat) (i x : Nat) : (ncells t).setIfInBounds i (.int .u32 x) = ncells (t.set i x) := by
  apply Array.ext'
  simp [ncells, nv32]
theorem ncells_zero (m : Nat) : zeros (.int .u32 0) m = ncells (List.replicate m 0) := by
  simp [zeros, ncells, nv32]
theorem run_make_u32 {P : Program} {t e : TypeId} {i : TypeInfo} {z : Value} {bytes : Nat} (ht : P.underlying t = some (.slice e)) (hi : P.info? e = some i) (hz : i.zero = some z)
    (hsize : i.size = 1) (hby : i.bytes = bytes) (hzs : z.cells = #[z]) (m : Nat) (y : Int) (hy : y = (m : Int)) (hb : (bytes : Int) * (m : Int) ≤ 281474976710656) (hm : m ≤ 1000000000000) (W : World) :
    (Instr.makeSlice t (.int .u32 y) (.int .u32 y)).run P W = .ok (.slice (some ⟨W.heap.size, 0, none⟩) m m) (W.alloc (.cells (zeros z m) e)) := by
  subst hy
  have h := run_make (P := P) W t e i z ht hi hz .u32 .u32 (m : Int) (m : Int) (by omega) (Int.le_refl _) (by rw [hby]; exact hb) (by omega)
  rw [h, hzs, hsize, Int.toNat_natCast, Nat.mul_one]
  have e : madeCells #[z] m = zeros z m := by
    apply Array.ext'
    rw [toList_madeCells_one]; simp [zeros]
  rw [e]
end Go.Proofs.Ythedgbdnidghnaa
