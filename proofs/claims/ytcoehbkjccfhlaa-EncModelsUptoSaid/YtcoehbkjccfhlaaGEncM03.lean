/- Cells by a function of the place. -/
import Derived.Test.YtcoehbkjccfhlaaGEncM00
import Derived.BigQuiet
import Derived.Deep.QuietTactic
import Derived.Deep.RegionWith
import Derived.Lib.AppendStr
import Derived.Lib.ConvBytes
import Derived.Lib.Hide
import Derived.Lib.SlBytesRow
import Derived.Lib.SmallJoins
import Derived.Shelf.Bytes.SlSmallAll
import Derived.WalkKit
import Derived.WalkLawsBesides
import Derived.WalkSpells
import Derived.Test.YtcoehbkjccfhlaaRows
import Derived.Deep.AppendLies
import Derived.Deep.RegionLaw
import Derived.KernelRfl
import Derived.Laws.EntriesVeiled
import Derived.Test.YtcoehbkjccfhlaaGEncM01
import Derived.Deep.RegionHeld3
import Derived.Laws.Tables
import Derived.Maps.AppendAt
/- append of a string's bytes to a row of the call's own all cells of which are of one kind. -/
namespace Go.Proofs.Ytcoehbkjccfhlaa
open Go Go.RowKit

section
variable {P : Program} (ok : Value → Prop) (w : World)

theorem run_append_row_string (base : Nat) (t u ty e : TypeId) (i : TypeInfo) (ht : P.underlying t = some (.slice e)) (hu : P.underlying u = some .string) (hi : P.info? e = some i) (hz : i.zero = some (.int .u8 0))
    (hsize : i.size = 1) (hby : i.bytes = 1) (hok : ok (.int .u8 0))
    (v : Value) (n : Nat) (xs : List Value) (hown : Row ok w base e v n xs) (s : ByteArray) (hoks : ∀ u ∈ Lib.strCells s, ok u)
    (h63 : n + s.size ≤ maxLen) (hbytes : n + s.size ≤ 140737488355328) (hbase : base ≤ w.heap.size) :
    ∃ v' w', (Builtin.append_ #[t, u] ty #[v, .string s]).run P w = .ok v' w' ∧ Row ok w' base e v' (n + s.size) (xs ++ Lib.strCells s) ∧ w.grownBy w' v.ownBlock ∧ (v' = .slice none 0 0 ↔ v = .slice none 0 0 ∧ s.size = 0) := by
  have hsmall : n + s.size ≤ 9223372036854775807 := by simp only [maxLen] at h63; omega
  have hxl := hown.1
  have hsl := Lib.strCells_length s
  have hlen : (xs ++ Lib.strCells s).length = n + s.size := by rw [List.length_append, hxl, hsl]
  have hz1 : (Value.int IntKind.u8 0).cells = #[.int .u8 0] := rfl
  have grown : ∀ (old : Nat), old < n + s.size → ∀ (row : Option Nat),
      Row ok (w.drew.alloc (.cells (xs.toArray ++ (Lib.strCells s).toArray ++ Builtin.zeroCells (Value.int IntKind.u8 0).cells (grownCap w (n + s.size) old e - (n + s.size))) e)) base e
        (.slice (some ⟨w.heap.size, 0, none⟩) (n + s.size) (grownCap w (n + s.size) old e)) (n + s.size) (xs ++ Lib.strCells s) ∧
      w.grownBy (w.drew.alloc (.cells (xs.toArray ++ (Lib.strCells s).toArray ++ Builtin.zeroCells (Value.int IntKind.u8 0).cells (grownCap w (n + s.size) old e - (n + s.size))) e)) row := by
    intro old ho row
    have hge := grownCap_ge w (n + s.size) old e
    have hcm : grownCap w (n + s.size) old e ≤ maxLen := grownCap_le_maxLen w (n + s.size) old e h63
    have hxo : ∀ u ∈ xs, ok u := by
      intro u hu
      rcases hown.2 with ⟨_, h0⟩ | ⟨g, cap, cur, _, _, _, _, _, _, htake, hall⟩
      · have : xs = [] := List.eq_nil_of_length_eq_zero (by rw [hown.1, h0])
        rw [this] at hu; cases hu
      · rw [← htake] at hu
        exact hall u (List.mem_of_mem_take hu)
    refine ⟨⟨hlen, .inr ⟨w.heap.size, _, _, rfl, hbase, heap_alloc_new w.drew _, hge, hcm, ?_, ?_, ?_⟩⟩, ⟨rfl, rfl, rfl, by simp, fun k hk _ => heap_alloc_old w.drew _ hk⟩⟩
    · simp only [Array.size_append, List.size_toArray, size_zeroCells, hz1, hxl, hsl]
      simp
      omega
    · simp only [Array.toList_append, List.append_assoc]
      rw [← List.append_assoc, ← hlen]
      exact List.take_left
    · intro u hu
      simp only [Array.toList_append, List.mem_append] at hu
      rcases hu with (hu | hu) | hu
      · exact hxo u hu
      · exact hoks u hu
      · rw [mem_zeroCells hz1 hu]; exact hok
  rcases hown.2 with ⟨rfl, rfl⟩ | ⟨g, cap, cur, rfl, hbg, hg, hnc, hcm, hcs, htake, hall⟩
  · have hx : xs = [] := List.eq_nil_of_length_eq_zero hxl
    subst hx
    by_cases hs0 : s.size = 0
    · have hc : Lib.strCells s = [] := List.eq_nil_of_length_eq_zero (by rw [hsl, hs0])
      refine ⟨.slice none 0 0, w, ?_, by rw [hs0, hc]; exact Row.nil ok w base e, ⟨rfl, rfl, rfl, Nat.le_refl _, fun _ _ _ => rfl⟩, by simp [hs0]⟩
      have hf : (Builtin.firstCells 1 0 (.string s)).run P w = .ok #[] w := by
        have := Lib.run_firstCells_string (P := P) w 1 s
        rw [hs0, hc] at this
        exact this
      simp [Builtin.append_, run_underlying ht, run_underlying hu, sizeOf, typeInfo, hi, hsize, Builtin.lenOf, hs0, hf]
    · have hr := run_append_nil_string (P := P) w t u ty e i _ ht hu hi hz s (by omega) (by omega) (by rw [hby]; omega)
      have hgr := grown 0 (by omega) (Value.ownBlock (.slice none 0 0))
      have hcc : (s.data.map (fun b => Value.int .u8 (b.toNat : Int))) = (Lib.strCells s).toArray := by
        apply Array.ext'
        simp [Lib.strCells]
      rw [hcc] at hr
      simp only [Nat.zero_add, List.nil_append, Array.empty_append] at hgr ⊢
      exact ⟨_, _, hr, hgr.1, hgr.2, by simp [hs0]⟩
  · by_cases hroom : n + s.size ≤ cap
    · have hr := Lib.run_append_room_string (P := P) w t u ty e i ht hu hi hsize g n cap cur hg s hroom (by omega)
      refine ⟨_, _, hr, ⟨hlen, .inr ⟨g, cap, _, rfl, hbg, setRow_heap w g cur _ e _ hg, hroom, hcm, ?_, ?_, ?_⟩⟩, ⟨rfl, rfl, rfl, by simp, fun k _ hk => setRow_other w g k _ (fun e => hk (by simp [Value.ownBlock, e]))⟩, by simp⟩
      · simp only [List.size_toArray, List.length_append, List.length_take, List.length_drop, Array.length_toList]
        omega
      · rw [htake, ← hlen]
        exact List.take_left
      · intro u hu
        simp only [List.mem_append] at hu
        rcases hu with (hu | hu) | hu
        · exact hall u (List.mem_of_mem_take hu)
        · exact hoks u hu
        · exact hall u (List.mem_of_mem_drop hu)
    · have holds : ∀ j u, xs[j]? = some u → w.cell? ((⟨g, 0, none⟩ : Addr).add j) = some u := hown.own.cells (g := g) rfl
      have hr := Lib.run_append_grow_string (P := P) w t u ty e i (.int .u8 0) ht hu hi hz ⟨g, 0, none⟩ n cap xs (by rw [hxl, hsize]; omega) holds s (by omega) (by omega) (by rw [hby]; exact growslice_fits (by omega) (by omega))
      have hgr := grown cap (by omega) (Value.ownBlock (.slice (some ⟨g, 0, none⟩) n cap))
      exact ⟨_, _, hr, hgr.1, hgr.2, by simp⟩

theorem wpList_append_row_string {ops : Array Oper} {rest : List Oper} {o : Oper} {a : Act} {Q : Exit → Act → World → Prop} (hgd : o.guard = none) (sl x : Operand) (t u : TypeId)
    (ho : o.op = .call { callee := .builtin .append, args := #[sl, x], argTypes := #[t, u] })
    (base : Nat) (e : TypeId) (i : TypeInfo) (ht : P.underlying t = some (.slice e)) (hu : P.underlying u = some .string) (hi : P.info? e = some i) (hz : i.zero = some (.int .u8 0))
    (hsize : i.size = 1) (hby : i.bytes = 1) (hok : ok (.int .u8 0))
    (v : Value) (n : Nat) (xs : List Value) (hs : a.eval sl = v) (hown : Row ok w base e v n xs) (s : ByteArray) (hx : a.eval x = .string s) (hoks : ∀ u ∈ Lib.strCells s, ok u)
    (h63 : n + s.size ≤ maxLen) (hbytes : n + s.size ≤ 140737488355328) (hbase : base ≤ w.heap.size)
    (h : ∀ v' w', Row ok w' base e v' (n + s.size) (xs ++ Lib.strCells s) → w.grownBy w' v.ownBlock → (v' = .slice none 0 0 ↔ v = .slice none 0 0 ∧ s.size = 0) → wpList P ops Q rest (a.put o.dst v') w') : wpList P ops Q (o :: rest) a w := by
  refine wpList_plain hgd fun K hK => ?_
  obtain ⟨v', w', hr, h2, h3, h4⟩ := run_append_row_string (P := P) ok w base t u o.type e i ht hu hi hz hsize hby hok v n xs hown s hoks h63 hbytes hbase
  unfold Oper.wp execOp
  simp only [ho, resolve, invoke, builtin, Sem.run_bind, Sem.run_pure, Result.andThen_ok, List.map_toArray, List.map_cons, List.map_nil, hs, hx, hr]
  exact hK _ _ (h v' w' h2 h3 h4)
end

/-- A cell that holds a byte. -/
def isByte (u : Value) : Prop := ∃ b : UInt8, u = bv b
theorem isByte_zero : isByte (.int .u8 0) := ⟨0, rfl⟩
theorem isByte_all (bs : List UInt8) : ∀ u ∈ bs.map bv, isByte u := by
  intro u hu
  obtain ⟨x, _, rfl⟩ := List.mem_map.1 hu
  exact ⟨x, rfl⟩
theorem isByte_str (s : ByteArray) : ∀ u ∈ Lib.strCells s, isByte u := by
  intro u hu
  simp only [Lib.strCells, List.mem_map] at hu
  obtain ⟨b, _, rfl⟩ := hu
  exact ⟨b, rfl⟩
theorem strCells_str (bs : List UInt8) : Lib.strCells (str bs) = bs.map bv := by simp [Lib.strCells, str, bv]
theorem size_str (bs : List UInt8) : (str bs).size = bs.length := by simp [str, ByteArray.size]

/-- A string's cell. -/
def sv (l : List UInt8) : Value := .string (str l)
theorem sv_one (ls : List (List UInt8)) : ∀ u ∈ ls.map sv, u.oneCell' = true := by
  intro u hu
  obtain ⟨x, _, rfl⟩ := List.mem_map.1 hu
  rfl
/-- A new block of one cell, as a slice. -/
theorem sees_one (w : World) (x : Value) (e : TypeId) : Sees (w.alloc (.cells #[x] e)) (some ⟨w.heap.size, 0, none⟩) 1 1 [x] := by
  refine ⟨rfl, Nat.le_refl _, (fun e => by cases e), fun _ => ⟨w.heap.size, 0, rfl, by simp, fun j hj => ?_⟩⟩
  have : j = 0 := by omega
  subst this
  rw [World.cell?_alloc_at _ _ _ _ rfl]
  rfl
/-- Anything goes. -/
def anyCell (_ : Value) : Prop := True

end Go.Proofs.Ytcoehbkjccfhlaa
/- slices.ContainsFunc at the closures of raw.May. -/
namespace Go.Proofs.Ytcoehbkjccfhlaa
open Go Go.RowKit Go.Joins

/-- The place of the first one that holds. -/
def firstAt {α : Type} (p : α → Bool) (l : List α) : Int := match l.findIdx? p with | none => -1 | some k => (k : Int)
theorem firstAt_none {α : Type} {p : α → Bool} {l : List α} (h : ∀ x ∈ l, p x = false) : firstAt p l = -1 := by
  have : l.findIdx? p = none := List.findIdx?_eq_none_iff.2 h
  simp [firstAt, this]
theorem any_none {α : Type} {p : α → Bool} {l : List α} (h : ∀ x ∈ l, p x = false) : l.any p = false := by
  rw [List.any_eq_false]; intro x hx; simp [h x hx]

theorem getD_mem {α : Type} {l : List α} {k : Nat} {d : α} (h : k < l.length) : l.getD k d ∈ l := by
  simp [List.getD, List.getElem?_eq_getElem h]
theorem all_of_getD {α : Type} {l : List α} {d : α} {P : α → Prop} (h : ∀ k, k < l.length → P (l.getD k d)) : ∀ x ∈ l, P x := by
  intro x hx
  obtain ⟨k, hk, rfl⟩ := List.getElem_of_mem hx
  have := h k hk
  simpa [List.getD, List.getElem?_eq_getElem hk] using this

def IdxPost {α : Type} (p : α → Bool) (l : List α) (w : World) (e : Ending) (w' : World) : Prop :=
  ∃ z : Int, e = .returned (.int .i64 z) ∧ -1 ≤ z ∧ (0 ≤ z ↔ l.any p = true) ∧ Below w.heap.size w w'

end Go.Proofs.Ytcoehbkjccfhlaa
/- Steps of drawn regions; small facts of worlds and rows. -/
namespace Go.Proofs.Ytcoehbkjccfhlaa
open Go Go.RowKit Go.Joins
theorem ownsN_other {w w' : World} {base k : Nat} {e : TypeId} {v : Value} {n : Nat} {xs : List Value} (h : w.ownsRow base e k v n xs) (hk : ∀ k, v.ownBlock = some k → w'.heap[k]? = w.heap[k]?) : w'.ownsRow base e k v n xs := by
  refine ⟨h.1, ?_⟩
  rcases h.2 with h2 | ⟨g, cap, cur, rfl, hg, hh, r⟩
  · exact .inl h2
  · exact .inr ⟨g, cap, cur, rfl, hg, (hk g rfl).trans hh, r⟩
theorem below_step {B : Nat} {a b c : World} (h : Below B a b) (k : Below b.heap.size b c) (hs : B ≤ b.heap.size) : Below B a c := h.trans (k.mono hs)
theorem heap_newD (X : World) (o : Obj) : (X.alloc o).drew.heap[X.heap.size]? = some o := heap_new X o _ rfl
/-- A struct is stored into its own block, at a step of a region that draws its order. -/
theorem step_store_row {P : Program} {ops : Array Oper} {o : Oper} {a : Act} {w : World} {K : Act → World → Prop} {Q : Exit → Act → World → Prop} {E : Prop} (hgd : o.guard = none) {ty : TypeId} (x y : Operand) (ho : o.op = .store ty x y)
    (g : Nat) (cells : Array Value) (hx : a.eval x = .pointer (some ⟨g, 0, none⟩)) (hy : a.eval y = .agg cells) {t : TypeId} {old : Array Value} (hg : w.heap[g]? = some (.cells old t (0, 0))) (hi : (P.info? ty).map (·.size) = some cells.size)
    (hold : old.size = cells.size) (h1 : cells.all (·.oneCell') = true) (h : K (a.put o.dst undef) (w.setRow g cells)) :
    if Region.wanted o (yielded ops a.tmps) = true then Oper.wp P o a w K Q else E := by
  have hw : Region.wanted o (yielded ops a.tmps) = true := by simp [Region.wanted, hgd]
  rw [if_pos hw]
  exact wp_store_row ty x y ho g cells hx hy t old hg hi hold h1 h
theorem step_append_own_at {P : Program} {ops : Array Oper} {o : Oper} {a : Act} {w : World} {K : Act → World → Prop} {Q : Exit → Act → World → Prop} {E : Prop} (hgd : o.guard = none) (s x : Operand) (t : TypeId)
    (ho : o.op = .call { callee := .builtin .append, args := #[s, x], argTypes := #[t, t] })
    (base : Nat) (e : TypeId) (i : TypeInfo) (z : Value) (size bytes : Nat) (ht : P.underlying t = some (.slice e)) (hi : P.info? e = some i) (hz : i.zero = some z)
    (hsize : i.size = size) (hby : i.bytes = bytes) (hzs : z.cells.size = size) (hsz : 0 < size)
    (v : Value) (n : Nat) (xs : List Value) (hs : a.eval s = v) (hown : w.ownsRow base e size v n xs)
    (ad : Addr) (m c : Nat) (news : List Value) (hx : a.eval x = .slice (some ad) m c) (hl : news.length = m * size) (hnews : ∀ j u, news[j]? = some u → w.cell? (ad.add j) = some u) (h1 : ∀ u ∈ news, u.oneCell' = true)
    (h63 : n + m ≤ maxLen) (hbytes : (n + m) * bytes ≤ 140737488355328) (hbase : base ≤ w.heap.size)
    (h : ∀ v' w', w'.ownsRow base e size v' (n + m) (xs ++ news) → w.grownBy w' v.ownBlock → K (a.put o.dst v') w') :
    if Region.wanted o (yielded ops a.tmps) = true then Oper.wp P o a w K Q else E := by
  have hw : Region.wanted o (yielded ops a.tmps) = true := by simp [Region.wanted, hgd]
  rw [if_pos hw]
  obtain ⟨v', w', hr, h2, h3, _⟩ := run_append_own_at (P := P) w base t o.type e i z size bytes ht hi hz hsize hby hzs hsz v n xs hown ad m c news hl hnews h1 h63 hbytes hbase
  unfold Oper.wp execOp
  simp only [ho, resolve, invoke, builtin, Sem.run_bind, Sem.run_pure, Result.andThen_ok, List.map_toArray, List.map_cons, List.map_nil, hs, hx, hr]
  exact h v' w' h2 h3
theorem row_grown {ok : Value → Prop} {w w' : World} {base : Nat} {e : TypeId} {v : Value} {n : Nat} {xs : List Value} (h : Row ok w base e v n xs) {base2 k m : Nat} {T : TypeId} {u : Value} {ys : List Value} (hr : w.ownsRow base2 T k u m ys) (hg : w.grownBy w' u.ownBlock) (ht : e ≠ T) : Row ok w' base e v n xs := by
  refine h.other fun j hj => ?_
  have hlt := (h.own.lt j hj).2
  refine hg.block j hlt ?_
  intro e'
  rcases h.2 with ⟨rfl, _⟩ | ⟨g, cap, cur, rfl, _, hh, _⟩
  · cases hj
  · have : g = j := by simpa [Value.ownBlock] using hj
    subst this
    exact (ownsN_notown hr hh ht) e'.symm
theorem owns_grown {w w' : World} {base kk : Nat} {e : TypeId} {v : Value} {n : Nat} {xs : List Value} (h : w.ownsRow base e kk v n xs) {base2 k m : Nat} {T : TypeId} {u : Value} {ys : List Value} (hr : w.ownsRow base2 T k u m ys) (hg : w.grownBy w' u.ownBlock) (ht : e ≠ T) : w'.ownsRow base e kk v n xs := by
  refine ownsN_other h fun j hj => ?_
  have hlt := (h.lt j hj).2
  refine hg.block j hlt ?_
  intro e'
  rcases h.2 with ⟨rfl, _⟩ | ⟨g, cap, cur, rfl, _, hh, _⟩
  · cases hj
  · have : g = j := by simpa [Value.ownBlock] using hj
    subst this
    exact (ownsN_notown hr hh ht) e'.symm
/-- Below base nothing has turned but U and T. -/
structure But2 (base U T : Nat) (w w' : World) : Prop where
  os : w'.os = w.os
  tape : w'.tape = w.tape
  output : w'.output = w.output
  size : w.heap.size ≤ w'.heap.size
  block : ∀ D, D < base → D ≠ U → D ≠ T → w'.heap[D]? = w.heap[D]?
theorem But2.refl (base U T : Nat) (w : World) : But2 base U T w w := ⟨rfl, rfl, rfl, Nat.le_refl _, fun _ _ _ _ => rfl⟩
theorem But2.trans {base U T : Nat} {a b c : World} (h : But2 base U T a b) (k : But2 base U T b c) : But2 base U T a c :=
  ⟨k.os.trans h.os, k.tape.trans h.tape, k.output.trans h.output, Nat.le_trans h.size k.size, fun D h1 h2 h3 => (k.block D h1 h2 h3).trans (h.block D h1 h2 h3)⟩
theorem But2.of_below {base U T : Nat} {w w' : World} (h : Below base w w') : But2 base U T w w' := ⟨h.os, h.tape, h.output, h.size, fun D h1 _ _ => h.block D h1⟩
theorem But2.low {base U T B : Nat} {w w' : World} (h : But2 base U T w w') (hB : B ≤ base) (hU : B ≤ U) (hT : B ≤ T) : Below B w w' :=
  ⟨h.os, h.tape, h.output, h.size, fun D hD => h.block D (by omega) (by omega) (by omega)⟩
theorem But2.at {base U T : Nat} {w w' : World} (h : But2 base U T w w') {D : Nat} {o : Obj} (hD : w.heap[D]? = some o) (h1 : D < base) (h2 : D ≠ U) (h3 : D ≠ T) : w'.heap[D]? = some o := (h.block D h1 h2 h3).trans hD
theorem below_undrew {w w' : World} (h : Below w.drew.heap.size w.drew w') : Below w.heap.size w w' := (Below.refl _ w).drew.trans h
theorem cell_set6 {w : World} {G b k : Nat} {v u0 u1 u2 u3 u4 u5 : Value} (h : w.cell? ⟨b, k, none⟩ = some v) (hne : b ≠ G) :
    ((((((w.setCell ⟨G, 0, .none⟩ u0).setCell ⟨G, 1, .none⟩ u1).setCell ⟨G, 2, .none⟩ u2).setCell ⟨G, 3, .none⟩ u3).setCell ⟨G, 4, .none⟩ u4).setCell ⟨G, 5, .none⟩ u5).cell? ⟨b, k, none⟩ = some v := by
  have ne : ∀ j, (⟨G, j, none⟩ : Addr) ≠ ⟨b, k, none⟩ := fun j e => hne (by cases e; rfl)
  rw [World.cell?_setCell_other _ _ _ _ (ne 5), World.cell?_setCell_other _ _ _ _ (ne 4), World.cell?_setCell_other _ _ _ _ (ne 3), World.cell?_setCell_other _ _ _ _ (ne 2), World.cell?_setCell_other _ _ _ _ (ne 1), World.cell?_setCell_other _ _ _ _ (ne 0)]
  exact h
theorem cell_drew {w : World} {a : Addr} {v : Value} (h : w.cell? a = some v) : w.drew.cell? a = some v := h
theorem cell_row {w : World} {G b k : Nat} {v : Value} {C : Array Value} (h : w.cell? ⟨b, k, none⟩ = some v) (hne : b ≠ G) : (w.setRow G C).cell? ⟨b, k, none⟩ = some v := by
  have one : (w.setRow G C).cell? ⟨b, k, none⟩ = w.cell? ⟨b, k, none⟩ := World.cell?_of_block (setRow_other w G b C hne)
  exact one.trans h
/-- Cells of numbers. -/
def ncells (t : List Nat) : Array Value := (t.map nv32).toArray
theorem ncells_get (t : List Nat) (i : Nat) (h : i < t.length) : (ncells t)[i]? = some (.int .u32 (t.getD i 0 : Nat)) := by
  simp [ncells, nv32, List.getD, List.getElem?_eq_getElem h]
theorem ncells_set (t : List Nat) (i x : Nat) : (ncells t).setIfInBounds i (.int .u32 x) = ncells (t.set i x) := by
  apply Array.ext'
  simp [ncells, nv32]
theorem ncells_zero (m : Nat) : zeros (.int .u32 0) m = ncells (List.replicate m 0) := by
  simp [zeros, ncells, nv32]
theorem run_make_u32 {P : Program} {t e : TypeId} {i : TypeInfo} {z : Value} {bytes : Nat} (ht : P.underlying t = some (.slice e)) (hi : P.info? e = some i) (hz : i.zero = some z)
    (hsize : i.size = 1) (hby : i.bytes = bytes) (hzs : z.cells = #[z]) (m : Nat) (y : Int) (hy : y = (m : Int)) (hb : (bytes : Int) * (m : Int) ≤ 281474976710656) (hm : m ≤ 1000000000000) (W : World) :
    (Instr.makeSlice t (.int .u32 y) (.int .u32 y)).run P W = .ok (.slice (some ⟨W.heap.size, 0, none⟩) m m) (W.alloc (.cells (zeros z m) e)) := by
  subst hy
  have h := run_make (P := P) W t e i z ht hi hz .u32 .u32 (m : Int) (m : Int) (by omega) (Int.le_refl _) (by rw [hby]; exact hb) (by omega)
  rw [h, hzs, hsize, Int.toNat_natCast, Nat.mul_one]
  have e : madeCells #[z] m = zeros z m := by
    apply Array.ext'
    rw [toList_madeCells_one]; simp [zeros]
  rw [e]
end Go.Proofs.Ytcoehbkjccfhlaa
/- Circuits on plain lists: validity, their raw circuits, traces that fit. -/
namespace Go.Proofs.Ytcoehbkjccfhlaa
open Go Go.RowKit

def varsN (c : NormC) : Nat := c.ins.toNat + c.lats.length + c.gates.length
def badLat2 (m : Nat) (p : Nat × Nat) : Bool := above m p.1 || decide (2 < p.2)
def badGate2 (f : Nat) (g : Nat × Nat) : Bool := decide (g.1 < g.2) || decide (2 * f ≤ g.1)
def badGates : Nat → List (Nat × Nat) → Bool
  | _, [] => false
  | f, g :: r => badGate2 f g || badGates (f + 1) r
/-- May a circuit's numbers of inputs, latches, gates be? -/
def tooMany (c : NormC) : Bool := decide (c.ins < 0) || decide (16384 - c.ins < ((c.lats.length + c.gates.length : Nat) : Int))
/-- Is a circuit valid? -/
def mayC (c : NormC) : Bool :=
  !tooMany c && (!badList (varsN c) c.outs && (!badList (varsN c) c.bads && (!badList (varsN c) c.cons &&
  (!c.lats.any (badLat2 (varsN c)) && !badGates (1 + c.ins.toNat + c.lats.length) c.gates))))

theorem badGates_at : ∀ (l : List (Nat × Nat)) (f : Nat), badGates f l = true ↔ ∃ k, k < l.length ∧ badGate2 (f + k) (l.getD k (0, 0)) = true
  | [], f => by simp [badGates]
  | g :: r, f => by
    rw [badGates, Bool.or_eq_true, badGates_at r (f + 1)]
    constructor
    · rintro (h | ⟨k, hk, h⟩)
      · exact ⟨0, by simp, by simpa using h⟩
      · exact ⟨k + 1, by simpa using hk, by rw [show f + (k + 1) = f + 1 + k by omega]; simpa using h⟩
    · rintro ⟨k, hk, h⟩
      cases k with
      | zero => exact Or.inl (by simpa using h)
      | succ k => exact Or.inr ⟨k, by simpa using hk, by rw [show f + 1 + k = f + (k + 1) by omega]; simpa using h⟩
theorem badGates_no {l : List (Nat × Nat)} {f : Nat} : badGates f l = false ↔ ∀ k, k < l.length → badGate2 (f + k) (l.getD k (0, 0)) = false := by
  constructor
  · intro h k hk
    cases hb : badGate2 (f + k) (l.getD k (0, 0)) with
    | false => rfl
    | true => have := (badGates_at l f).2 ⟨k, hk, hb⟩; rw [h] at this; cases this
  · intro h
    cases hb : badGates f l with
    | false => rfl
    | true =>
      obtain ⟨k, hk, h2⟩ := (badGates_at l f).1 hb
      rw [h k hk] at h2; cases h2

/-- A latch, a gate, as the raw circuit has them. -/
def latR (v : Nat) (p : Nat × Nat) : Tri := (2 * v, p.1, if p.2 = 2 then 2 * v else p.2)
def gateR (v : Nat) (p : Nat × Nat) : Tri := (2 * v, p.1, p.2)
def upFrom {α : Type} (f : Nat → Nat × Nat → α) (b : Nat) (l : List (Nat × Nat)) : List α := (List.range l.length).map fun i => f (b + i) (l.getD i (0, 0))
theorem upFrom_len {α : Type} (f : Nat → Nat × Nat → α) (b : Nat) (l : List (Nat × Nat)) : (upFrom f b l).length = l.length := by simp [upFrom]
theorem upFrom_at {α : Type} (f : Nat → Nat × Nat → α) (b : Nat) (l : List (Nat × Nat)) (k : Nat) (d : α) (hk : k < l.length) : (upFrom f b l).getD k d = f (b + k) (l.getD k (0, 0)) := by
  simp [upFrom, List.getD, hk]
theorem upFrom_take {α : Type} (f : Nat → Nat × Nat → α) (b : Nat) (l : List (Nat × Nat)) (k : Nat) (hk : k < l.length) : (upFrom f b l).take (k + 1) = (upFrom f b l).take k ++ [f (b + k) (l.getD k (0, 0))] := by
  rw [List.take_succ_eq_append_getElem (by rw [upFrom_len]; exact hk)]
  congr 1
  simp [upFrom]
/-- The raw circuit of a circuit. -/
def rawS (c : NormC) : RawC :=
  ⟨varsN c, (List.range c.ins.toNat).map fun i => 2 * (1 + i), upFrom latR (1 + c.ins.toNat) c.lats, c.outs, c.bads, c.cons, upFrom gateR (1 + c.ins.toNat + c.lats.length) c.gates⟩

/-- Are these so many values? -/
def valsOk (l : List UInt8) (many : Int) : Bool := decide ((l.length : Int) = many) && !l.any (fun u => decide (2 < u.toNat))
/-- Does a latch begin as it may? -/
def initOk (c : NormC) (t : TraceC) : Bool := (List.range c.lats.length).all fun i => decide ((c.lats.getD i (0, 0)).2 = 2) || decide ((t.init.getD i 0).toNat = (c.lats.getD i (0, 0)).2)
def fitsS (c : NormC) (t : TraceC) : Bool :=
  mayC c && (!(decide (t.bad < 0) || decide ((c.bads.length : Int) ≤ t.bad)) && (valsOk t.init c.lats.length && (initOk c t && (decide (1 ≤ t.frames.length) && (decide (t.frames.length ≤ 256) && t.frames.all (fun f => valsOk f c.ins))))))

structure MayC (c : NormC) : Prop where
  pos : 0 ≤ c.ins
  few : varsN c ≤ 16384
  lens : c.outs.length ≤ 1024 ∧ c.bads.length ≤ 1024 ∧ c.cons.length ≤ 1024
  outs : ∀ x ∈ c.outs, x ≤ 2 * varsN c + 1
  bads : ∀ x ∈ c.bads, x ≤ 2 * varsN c + 1
  cons : ∀ x ∈ c.cons, x ≤ 2 * varsN c + 1
  lats : ∀ p ∈ c.lats, p.1 ≤ 2 * varsN c + 1 ∧ p.2 ≤ 2
  gates : ∀ k, k < c.gates.length → (c.gates.getD k (0, 0)).2 ≤ (c.gates.getD k (0, 0)).1 ∧ (c.gates.getD k (0, 0)).1 < 2 * (1 + c.ins.toNat + c.lats.length + k)
theorem mayC_iff {c : NormC} : mayC c = true ↔ MayC c := by
  have hb : ∀ l : List Nat, badList (varsN c) l = false ↔ l.length ≤ 1024 ∧ ∀ x ∈ l, x ≤ 2 * varsN c + 1 := fun l => by
    simp only [badList, Bool.or_eq_false_iff, decide_eq_false_iff_not, List.any_eq_false, above, decide_eq_true_eq]
    exact ⟨fun h => ⟨by omega, fun x hx => by have := h.2 x hx; omega⟩, fun h => ⟨by omega, fun x hx => by have := h.2 x hx; omega⟩⟩
  have hl : c.lats.any (badLat2 (varsN c)) = false ↔ ∀ p ∈ c.lats, p.1 ≤ 2 * varsN c + 1 ∧ p.2 ≤ 2 := by
    simp only [List.any_eq_false, badLat2, above, Bool.or_eq_true, decide_eq_true_eq, not_or]
    exact ⟨fun h p hp => by have := h p hp; omega, fun h p hp => by have := h p hp; omega⟩
  have hg : badGates (1 + c.ins.toNat + c.lats.length) c.gates = false ↔ ∀ k, k < c.gates.length → (c.gates.getD k (0, 0)).2 ≤ (c.gates.getD k (0, 0)).1 ∧ (c.gates.getD k (0, 0)).1 < 2 * (1 + c.ins.toNat + c.lats.length + k) := by
    rw [badGates_no]
    simp only [badGate2, Bool.or_eq_false_iff, decide_eq_false_iff_not]
    exact ⟨fun h k hk => by have := h k hk; omega, fun h k hk => by have := h k hk; omega⟩
  have ht : tooMany c = false ↔ 0 ≤ c.ins ∧ varsN c ≤ 16384 := by
    simp only [tooMany, Bool.or_eq_false_iff, decide_eq_false_iff_not, varsN]
    omega
  unfold mayC
  simp only [Bool.and_eq_true, Bool.not_eq_true']
  rw [ht, hb, hb, hb, hl, hg]
  constructor
  · rintro ⟨⟨h1, h2⟩, ⟨h3, h4⟩, ⟨h5, h6⟩, ⟨h7, h8⟩, h9, h10⟩
    exact ⟨h1, h2, ⟨h3, h5, h7⟩, h4, h6, h8, h9, h10⟩
  · rintro ⟨h1, h2, ⟨h3, h5, h7⟩, h4, h6, h8, h9, h10⟩
    exact ⟨⟨h1, h2⟩, ⟨h3, h4⟩, ⟨h5, h6⟩, ⟨h7, h8⟩, h9, h10⟩
end Go.Proofs.Ytcoehbkjccfhlaa
/- Lists of ints, and lists of such lists, as slices. -/
namespace Go.Proofs.Ytcoehbkjccfhlaa
open Go Go.RowKit Go.Joins

theorem info_int : (Try.prog.info? 3).map (fun i => (i.zero, i.size, i.bytes)) = some (some (.int .i64 0), 1, 8) := by kernel_rfl
theorem info_ints : (Try.prog.info? 45).map (fun i => (i.zero, i.size, i.bytes)) = some (some (.slice none 0 0), 1, 24) := by kernel_rfl
theorem size_int : ∀ w, (sizeOf 3).run Try.prog w = .ok 1 w := fun w => by
  obtain ⟨i0, hi, hz0, hz1, hz2⟩ := info_parts info_int
  simp [sizeOf, typeInfo, hi, hz1]
/-- The cells of ints. -/
def zvs (L : List Int) : List Value := L.map (Value.int .i64)
theorem zvs_len (L : List Int) : (zvs L).length = L.length := by simp [zvs]
theorem Sees.zlen {w : World} {a : Option Addr} {n c : Nat} {L : List Int} (h : Sees w a n c (zvs L)) : L.length = n := by have := h.len; rw [zvs_len] at this; exact this
theorem Sees.z_at {w : World} {b off n c : Nat} {L : List Int} (h : Sees w (some ⟨b, off, .none⟩) n c (zvs L)) (j : Nat) (hj : j < n) : w.cell? ⟨b, off + j, .none⟩ = some (.int .i64 (L.getD j 0)) := by
  have hl := h.zlen
  rw [(h.cell j hj).2]
  simp [zvs, List.getD, List.getElem?_eq_getElem (show j < L.length by omega)]
def isZ (u : Value) : Prop := ∃ z : Int, u = .int .i64 z
theorem isZ_zvs (L : List Int) : ∀ u ∈ zvs L, isZ u := fun u hu => by
  obtain ⟨z, _, rfl⟩ := List.mem_map.1 hu
  exact ⟨z, rfl⟩
theorem zvs_one (L : List Int) : ∀ u ∈ zvs L, u.oneCell' = true := fun u hu => by
  obtain ⟨z, _, rfl⟩ := List.mem_map.1 hu
  rfl
theorem getD_memZ {L : List Int} {k : Nat} (h : k < L.length) : L.getD k 0 ∈ L := by simp [List.getD, List.getElem?_eq_getElem h]
theorem getD_memL {L : List (List Int)} {k : Nat} (h : k < L.length) : L.getD k [] ∈ L := by simp [List.getD, List.getElem?_eq_getElem h]

theorem getD_appL {α : Type} {l m : List α} {d : α} {i : Nat} (h : i < l.length) : (l ++ m).getD i d = l.getD i d := by simp only [List.getD]; rw [List.getElem?_append_left h]
theorem getD_appE {α : Type} {l : List α} {x d : α} : (l ++ [x]).getD l.length d = x := by simp [List.getD]

/-- A slice's parts. -/
abbrev ZSlc := Option Addr × Nat × Nat
def zsV (s : ZSlc) : Value := .slice s.1 s.2.1 s.2.2
def zs0 : ZSlc := (none, 0, 0)
/-- The slice (a, n, c) of slices reads as these lists of ints. -/
structure SeesZ (w : World) (a : Option Addr) (n c : Nat) (ss : List ZSlc) (L : List (List Int)) : Prop where
  row : Sees w a n c (ss.map zsV)
  len : ss.length = L.length
  each : ∀ k, k < L.length → Sees w (ss.getD k zs0).1 (ss.getD k zs0).2.1 (ss.getD k zs0).2.2 (zvs (L.getD k []))
theorem SeesZ.below {w w' : World} {a : Option Addr} {n c : Nat} {ss : List ZSlc} {L : List (List Int)} (h : SeesZ w a n c ss L) (hb : Below w.heap.size w w') : SeesZ w' a n c ss L :=
  ⟨h.row.below hb, h.len, fun k hk => (h.each k hk).below hb⟩
theorem SeesZ.zlen {w : World} {a : Option Addr} {n c : Nat} {ss : List ZSlc} {L : List (List Int)} (h : SeesZ w a n c ss L) : L.length = n := h.len.symm.trans h.row.lenMap
theorem SeesZ.cellAt {w : World} {b off n c : Nat} {ss : List ZSlc} {L : List (List Int)} (h : SeesZ w (some ⟨b, off, .none⟩) n c ss L) (j : Nat) (hj : j < n) :
    w.cell? ⟨b, off + j, .none⟩ = some (.slice (ss.getD j zs0).1 (ss.getD j zs0).2.1 (ss.getD j zs0).2.2) := by
  have hl : ss.length = n := h.row.lenMap
  rw [(h.row.cell j hj).2]
  simp [zsV, List.getD, List.getElem?_eq_getElem (show j < ss.length by omega)]
theorem SeesZ.nil (w : World) : SeesZ w none 0 0 [] [] := ⟨Sees.nil _ _ _ (fun _ => rfl), rfl, fun k hk => absurd hk (by simp)⟩
theorem SeesZ.addr {w : World} {a : Option Addr} {n c : Nat} {ss : List ZSlc} {L : List (List Int)} (h : SeesZ w a n c ss L) (h0 : 0 < n) : ∃ b off, a = some ⟨b, off, .none⟩ ∧ b < w.heap.size := h.row.addr h0
/-- The k-th of them. -/
theorem SeesZ.one {w : World} {a : Option Addr} {n c : Nat} {ss : List ZSlc} {L : List (List Int)} (h : SeesZ w a n c ss L) {k : Nat} (hk : k < n) : ∃ a' n' c', ss.getD k zs0 = (a', n', c') ∧ Sees w a' n' c' (zvs (L.getD k [])) :=
  ⟨_, _, _, rfl, h.each k (by rw [h.zlen]; exact hk)⟩
/-- All lists, and there are not too many: they are of a size that can be. -/
def SmallZ (L : List (List Int)) : Prop := ∀ c ∈ L, c.length ≤ 9223372036854775807

/-- slices.IndexFunc's answer. -/
def IdxQ {α : Type} (p : α → Bool) (l : List α) (w : World) (e : Ending) (w' : World) : Prop := ∃ z : Int, e = .returned (.int .i64 z) ∧ -1 ≤ z ∧ (0 ≤ z ↔ l.any p = true) ∧ Below w.heap.size w w'
theorem any_upto {α : Type} {p : α → Bool} {l : List α} {d : α} (h : ∀ j, j < l.length → p (l.getD j d) = false) : l.any p = false := by
  rw [List.any_eq_false]
  intro x hx
  obtain ⟨i, hi, rfl⟩ := List.getElem_of_mem hx
  have := h i hi
  simp only [List.getD, List.getElem?_eq_getElem hi, Option.getD_some] at this
  rw [this]; simp
theorem any_at {α : Type} {p : α → Bool} {l : List α} {d : α} {k : Nat} (hk : k < l.length) (h : p (l.getD k d) = true) : l.any p = true := by
  rw [List.any_eq_true]
  refine ⟨l[k], List.getElem_mem hk, ?_⟩
  simpa only [List.getD, List.getElem?_eq_getElem hk, Option.getD_some] using h
end Go.Proofs.Ytcoehbkjccfhlaa
/- The queue's own Push and Pop, and the library's. -/
namespace Go.Proofs.Ytcoehbkjccfhlaa
open Go Go.RowKit Go.Joins

theorem sees_new1 (w : World) (e : TypeId) (u : Value) : Sees (w.alloc (.cells #[u] e)) (some ⟨w.heap.size, 0, none⟩) 1 1 [u] := sees_lit w e (0, 0) #[u] [u] 1 rfl rfl

theorem Row.take {ok : Value → Prop} {w : World} {base : Nat} {e : TypeId} {g n cap : Nat} {xs : List Value} (h : Row ok w base e (.slice (some ⟨g, 0, .none⟩) n cap) n xs) (m : Nat) (hm : m ≤ n) :
    Row ok w base e (.slice (some ⟨g, 0, .none⟩) m cap) m (xs.take m) := by
  have hl := h.1
  refine ⟨by simp; omega, ?_⟩
  rcases h.2 with ⟨h1, _⟩ | ⟨g', cap', cur, he, hb, hg, hn, hc, hs, ht, ha⟩
  · cases h1
  · cases he
    exact .inr ⟨g, cap, cur, rfl, hb, hg, by omega, hc, hs, by rw [← ht, List.take_take, Nat.min_eq_left hm], ha⟩
theorem sliced_upto (g m c : Nat) : sliced (some ⟨g, 0, .none⟩) 0 m c 1 = .slice (some ⟨g, 0, .none⟩) m c := by
  simp [sliced, Addr.add]

end Go.Proofs.Ytcoehbkjccfhlaa
namespace Go.Proofs.Ytcoehbkjccfhlaa
open Go Go.RowKit

/-- N cells, by a function of their places. -/
def fcells (N : Nat) (f : Nat → Value) : Array Value := ((List.range N).map f).toArray
theorem fcells_get (N : Nat) (f : Nat → Value) (i : Nat) (h : i < N) : (fcells N f)[i]? = some (f i) := by
  simp [fcells, h]
theorem fcells_set (N : Nat) (f : Nat → Value) (i : Nat) (x : Value) : (fcells N f).setIfInBounds i x = fcells N (fun j => if j = i then x else f j) := by
  apply Array.ext_getElem?
  intro j
  rw [Array.getElem?_setIfInBounds]
  by_cases h : j < N
  · rw [fcells_get N f j h, fcells_get N (fun j => if j = i then x else f j) j h]
    by_cases e : i = j
    · subst e; simp [fcells, h]
    · rw [if_neg e, if_neg (fun h => e h.symm)]
  · have e1 : ∀ g : Nat → Value, (fcells N g)[j]? = none := fun g => by simp [fcells]; omega
    rw [e1, e1]
    split
    · rw [if_neg (by simp [fcells]; omega)]
    · rfl
theorem fcells_congr {N : Nat} {f g : Nat → Value} (h : ∀ i, i < N → f i = g i) : fcells N f = fcells N g := by
  unfold fcells
  congr 1
  exact List.map_congr_left (fun i hi => h i (List.mem_range.1 hi))
theorem fcells_size (N : Nat) (f : Nat → Value) : (fcells N f).size = N := by simp [fcells]
theorem fcells_zero (N : Nat) (z : Value) : zeros z N = fcells N (fun _ => z) := by
  apply Array.ext_getElem?
  intro j
  by_cases h : j < N
  · rw [fcells_get N _ j h]; simp [zeros, h]
  · simp [zeros, fcells, h]
end Go.Proofs.Ytcoehbkjccfhlaa
