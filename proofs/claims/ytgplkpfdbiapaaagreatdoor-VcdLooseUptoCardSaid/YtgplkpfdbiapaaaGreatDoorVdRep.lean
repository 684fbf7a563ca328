/- vcd's reader in memory: its block, its waves, its states. -/
import Derived.Test.YtgplkpfdbiapaaaGreatDoorLib
import Derived.Test.YtgplkpfdbiapaaaGreatDoorOwn
import Derived.Test.YtgplkpfdbiapaaaGreatDoorOwnStr
import Derived.Test.YtgplkpfdbiapaaaGreatDoorNBase
import Derived.Test.YtgplkpfdbiapaaaGreatDoorNOwnsN
import Derived.Test.YtgplkpfdbiapaaaGreatDoorNStep
import Derived.Test.YtgplkpfdbiapaaaGreatDoorNTrace
import Derived.Test.YtgplkpfdbiapaaaGreatDoorVdSpec
import Derived.Test.YtgplkpfdbiapaaaGreatDoorRows
import Derived.BigQuiet
import Derived.Deep.AppendLies
import Derived.Deep.QuietTactic
import Derived.Deep.RegionHeld3
import Derived.Deep.RegionLaw
import Derived.Deep.RegionWith
import Derived.KernelRfl
import Derived.Laws.EntriesVeiled
import Derived.Laws.Tables
import Derived.Lib.AppendStr
import Derived.Lib.BufferWrite
import Derived.Lib.ConvBytes
import Derived.Lib.Hide
import Derived.Lib.ItoaNum
import Derived.Lib.ParseIntBCases
import Derived.Lib.SlBytesRow
import Derived.Lib.SmallJoins
import Derived.Maps.AppendAt
import Derived.Maps.Own
import Derived.Maps.OwnOps
import Derived.Maps.OwnSet
import Derived.Shelf.Bytes.SlSmallAll
import Derived.WalkKit
import Derived.WalkLawsBesides
import Derived.WalkSpells
namespace Go.Proofs.YtgplkpfdbiapaaaGreatDoor
open Go Go.RowKit Go.Joins Go.Maps

/-! The map of codes. -/
def idxD (S : List (List UInt8)) : Nat → DataW Unit
  | 0 => .map []
  | k + 1 => (idxD S k).put (.string (S.getD k [])) (.lit (.int .i64 (k : Int)))
theorem idxD_map (S : List (List UInt8)) : ∀ k, IsMap (idxD S k)
  | 0 => isMap_empty
  | k + 1 => (idxD_map S k).put _ _
theorem idxD_at (S : List (List UInt8)) (hS : S.Nodup) (i : Nat) (z : DataW Unit) : ∀ k, k ≤ S.length → i < k → (idxD S k).atKey (.string (S.getD i [])) z = .lit (.int .i64 (i : Int))
  | 0, _, hi => by omega
  | k + 1, hk, hi => by
    rw [idxD]
    by_cases e : i = k
    · subst e
      exact atKey_put_same (idxD_map S i) (by trivial) _ _
    · have hne : S.getD k [] ≠ S.getD i [] := by
        intro h
        simp only [List.getD, List.getElem?_eq_getElem (show k < S.length by omega), List.getElem?_eq_getElem (show i < S.length by omega), Option.getD_some] at h
        exact e ((List.getElem_inj hS).1 h).symm
      rw [atKey_put_other (fun h => hne (by injection h with h1; exact h1.symm))]
      exact idxD_at S hS i z k (by omega) (by omega)
theorem idxD_has (S : List (List UInt8)) (s : List UInt8) : ∀ k, k ≤ S.length → (has (idxD S k) (.string s) = true ↔ s ∈ S.take k)
  | 0, _ => by simp [idxD, has_eq]
  | k + 1, hk => by
    rw [idxD, List.take_succ_eq_append_getElem (by omega)]
    have e0 : S.getD k [] = S[k] := by simp [List.getD, List.getElem?_eq_getElem (show k < S.length by omega)]
    by_cases e : S.getD k [] = s
    · rw [← e, has_put_same (idxD_map S k) (by trivial) _, e0]
      exact ⟨fun _ => List.mem_append_right _ (List.mem_singleton.2 rfl), fun _ => rfl⟩
    · rw [has_put_other (fun h => e (by cases h; rfl)), idxD_has S s k (by omega)]
      constructor
      · intro h; exact List.mem_append_left _ h
      · intro h
        rcases List.mem_append.1 h with h | h
        · exact h
        · exact absurd ((List.mem_singleton.1 h).trans e0.symm).symm e
theorem idxD_snoc (S : List (List UInt8)) (x : List UInt8) : ∀ k, k ≤ S.length → idxD (S ++ [x]) k = idxD S k
  | 0, _ => rfl
  | k + 1, hk => by
    rw [idxD, idxD, idxD_snoc S x k (by omega)]
    congr 2
    simp [List.getD, List.getElem?_append_left (show k < S.length by omega)]
theorem idxD_new (S : List (List UInt8)) (x : List UInt8) : idxD (S ++ [x]) (S ++ [x]).length = (idxD S S.length).put (.string x) (.lit (.int .i64 (S.length : Int))) := by
  rw [List.length_append, List.length_singleton, idxD, idxD_snoc S x _ (Nat.le_refl _)]
  simp
theorem lawSV : Keyed Tryz.prog 9 := string_keyed Tryz.underlying9
theorem zeroI64V (w : World) : (zeroValue 3).run Tryz.prog w = .ok (.int .i64 0) w := by kernel_rfl
theorem keyV (s : List UInt8) (h : s.length ≤ 8388608) : keyOf Tryz.prog 9 (.string (str s)) = some (.string s) := by
  have := Go.WideMaps.keyOf_string_mk (P := Tryz.prog) Tryz.underlying9 (s := str s) (by unfold maxLen; simp [str, ByteArray.size]; omega)
  rw [this]
  simp [str]
/-- Block M is the map of the codes. -/
def IsIdx (w : World) (M : Nat) (S : List (List UInt8)) : Prop := w.ownsMap Tryz.prog 9 (plainElem Tryz.prog 3) M S.length (idxD S S.length)
/-! Blocks that a step can turn. -/
/-- A step turns at most a block of cells of a type that P tells. -/
def Turns (w w' : World) (P : TypeId → Prop) : Prop := ∃ row, w.grownBy w' row ∧ ∀ D, row = some D → ∃ C t fr, w.heap[D]? = some (.cells C t fr) ∧ P t
theorem Turns.cell {w : World} {R : Nat} {C : Array Value} {t : TypeId} {fr : Nat × Nat} (h : w.heap[R]? = some (.cells C t fr)) {P : TypeId → Prop} (hP : P t) (k : Nat) (v : Value) : Turns w (w.setCell ⟨R, k, .none⟩ v) P :=
  ⟨some R, Lib.grownBy_setCell w R k v, fun D e => by cases e; exact ⟨C, t, fr, h, hP⟩⟩
theorem Turns.row {w w' : World} {base k m : Nat} {T : TypeId} {u : Value} {ys : List Value} (hr : w.ownsRow base T k u m ys) (hg : w.grownBy w' u.ownBlock) {P : TypeId → Prop} (hP : P T) : Turns w w' P := by
  refine ⟨_, hg, fun D e => ?_⟩
  rcases hr.2 with ⟨rfl, _⟩ | ⟨g, cap, cur, rfl, _, hh, _⟩
  · cases e
  · have : g = D := by simpa [Value.ownBlock] using e
    subst this
    exact ⟨_, _, _, hh, hP⟩
theorem Turns.row1 {w w' : World} {ok : Value → Prop} {e : TypeId} {v : Value} {n base : Nat} {xs : List Value} {P : TypeId → Prop} (h : Row ok w base e v n xs) (ht : Turns w w' P) (hP : ¬ P e) : Row ok w' base e v n xs := by
  obtain ⟨row, hg, hr⟩ := ht
  refine h.other fun j hj => hg.block j (h.own.lt j hj).2 ?_
  intro e'
  obtain ⟨C, t, fr, h1, h2⟩ := hr j e'.symm
  exact (h.not_own h1 (fun e3 => hP (e3 ▸ h2))) hj
theorem Turns.rowN {w w' : World} {e : TypeId} {v : Value} {n base k : Nat} {xs : List Value} {P : TypeId → Prop} (h : w.ownsRow base e k v n xs) (ht : Turns w w' P) (hP : ¬ P e) : w'.ownsRow base e k v n xs := by
  obtain ⟨row, hg, hr⟩ := ht
  refine ownsN_other h fun j hj => hg.block j (h.lt j hj).2 ?_
  intro e'
  obtain ⟨C, t, fr, h1, h2⟩ := hr j e'.symm
  exact (ownsN_notown h h1 (fun e3 => hP (e3 ▸ h2))) hj
theorem Turns.block {w w' : World} {P : TypeId → Prop} (ht : Turns w w' P) {D : Nat} {C : Array Value} {t : TypeId} {fr : Nat × Nat} (h : w.heap[D]? = some (.cells C t fr)) (hP : ¬ P t) : w'.heap[D]? = some (.cells C t fr) := by
  obtain ⟨row, hg, hr⟩ := ht
  refine heap_grown h hg ?_
  intro e
  obtain ⟨C', t', fr', h1, h2⟩ := hr D e
  rw [h] at h1
  cases h1
  exact hP h2
theorem Turns.idx {w w' : World} {P : TypeId → Prop} (ht : Turns w w' P) {M : Nat} {S : List (List UInt8)} (h : IsIdx w M S) : IsIdx w' M S := by
  obtain ⟨row, hg, hr⟩ := ht
  obtain ⟨es, cl, h1, h2⟩ := h
  refine ⟨es, cl, heap_grown h1 hg ?_, h2⟩
  intro e
  obtain ⟨C, t, fr, h3, _⟩ := hr M e
  rw [h1] at h3
  cases h3
theorem Turns.low {w0 w w' : World} {P : TypeId → Prop} (ht : Turns w w' P) (hb : Below w0.heap.size w0 w) (hP : ∀ D C t fr, w.heap[D]? = some (.cells C t fr) → P t → ∀ row, w.grownBy w' row → row = some D → w0.heap.size ≤ D) : Below w0.heap.size w0 w' := by
  obtain ⟨row, hg, hr⟩ := ht
  refine hb.grown hg hb.size ?_
  intro k hk
  obtain ⟨C, t, fr, h3, h4⟩ := hr k hk
  exact hP k C t fr h3 h4 row hg hk

/-! The waves. -/
def wcs2 : List (List UInt8 × List UInt8) → List Slc → List Value
  | p :: r, s :: t => sv p.1 :: slV s :: wcs2 r t
  | _, _ => []
theorem wcs2_len : ∀ (L : List (List UInt8 × List UInt8)) (ss : List Slc), ss.length = L.length → (wcs2 L ss).length = 2 * L.length
  | [], _, _ => by simp [wcs2]
  | p :: r, [], h => by simp at h
  | p :: r, s :: t, h => by
    have := wcs2_len r t (by simpa using h)
    simp [wcs2, this]; omega
theorem wcs2_at : ∀ (L : List (List UInt8 × List UInt8)) (ss : List Slc) (k : Nat), ss.length = L.length → k < L.length → (wcs2 L ss)[2 * k]? = some (sv (L.getD k ([], [])).1) ∧ (wcs2 L ss)[2 * k + 1]? = some (slV (ss.getD k slc0))
  | [], _, k, _, h => by simp at h
  | p :: r, [], _, h, _ => by simp at h
  | p :: r, s :: t, 0, _, _ => by simp [wcs2]
  | p :: r, s :: t, k + 1, h, hk => by
    have ih := wcs2_at r t k (by simpa using h) (by simpa using hk)
    have el : ∀ i, (wcs2 (p :: r) (s :: t))[i + 2]? = (wcs2 r t)[i]? := fun i => by simp [wcs2]
    rw [show 2 * (k + 1) + 1 = 2 * k + 1 + 2 by omega, show 2 * (k + 1) = 2 * k + 2 by omega, el, el]
    simpa using ih
theorem wcs2_snoc : ∀ (L : List (List UInt8 × List UInt8)) (ss : List Slc) (p : List UInt8 × List UInt8) (s : Slc), ss.length = L.length → wcs2 (L ++ [p]) (ss ++ [s]) = wcs2 L ss ++ [sv p.1, slV s]
  | [], [], p, s, _ => rfl
  | [], _ :: _, _, _, h => by simp at h
  | _ :: _, [], _, _, h => by simp at h
  | q :: r, u :: t, p, s, h => by
    simp only [List.cons_append, wcs2]
    rw [wcs2_snoc r t p s (by simpa using h)]
theorem wcs2_set : ∀ (L : List (List UInt8 × List UInt8)) (ss : List Slc) (k : Nat) (x : List UInt8) (s : Slc), ss.length = L.length → k < L.length →
    (wcs2 L ss).set (2 * k + 1) (slV s) = wcs2 (L.set k ((L.getD k ([], [])).1, x)) (ss.set k s)
  | [], _, k, _, _, _, h => by simp at h
  | p :: r, [], _, _, _, h, _ => by simp at h
  | p :: r, u :: t, 0, x, s, _, _ => by simp [wcs2]
  | p :: r, u :: t, k + 1, x, s, h, hk => by
    have ih := wcs2_set r t k x s (by simpa using h) (by simpa using hk)
    simp only [List.set_cons_succ, wcs2, List.getD_cons_succ]
    rw [show 2 * (k + 1) = (2 * k + 1) + 1 by omega, List.set_cons_succ, ih]
structure OwnW (w : World) (base : Nat) (v : Value) (ss : List Slc) (L : List (List UInt8 × List UInt8)) : Prop where
  lens : ss.length = L.length
  row : w.ownsRow base 45 2 v L.length (wcs2 L ss)
  rows : ∀ j, j < L.length → w.ownsRow base 5 1 (slV (ss.getD j slc0)) (L.getD j ([], [])).2.length ((L.getD j ([], [])).2.map bv)
  apart : ∀ i j, i < L.length → j < L.length → i ≠ j → ∀ k, (slV (ss.getD i slc0)).ownBlock = some k → (slV (ss.getD j slc0)).ownBlock ≠ some k
theorem OwnW.below {w w' : World} {base : Nat} {v : Value} {ss : List Slc} {L : List (List UInt8 × List UInt8)} (h : OwnW w base v ss L) (hb : Below w.heap.size w w') : OwnW w' base v ss L :=
  ⟨h.lens, ownsN_below h.row hb, fun j hj => ownsN_below (h.rows j hj) hb, h.apart⟩
theorem OwnW.turns {w w' : World} {base : Nat} {v : Value} {ss : List Slc} {L : List (List UInt8 × List UInt8)} {P : TypeId → Prop} (h : OwnW w base v ss L) (ht : Turns w w' P) (h1 : ¬ P 45) (h2 : ¬ P 5) : OwnW w' base v ss L :=
  ⟨h.lens, Turns.rowN h.row ht h1, fun j hj => Turns.rowN (h.rows j hj) ht h2, h.apart⟩
theorem OwnW.nil (w : World) (base : Nat) : OwnW w base (.slice none 0 0) [] [] := ⟨rfl, ownsN_nil _ _ _ _, fun j hj => absurd hj (by simp), fun i j hi => absurd hi (by simp)⟩

/-! Values of states. -/
def IsSt (W : World) : VSt → Value → Prop
  | .fin, v => v = .nilFunc
  | .decl, v => v = .func (.func 24) #[] #[]
  | .exp x t, v => ∃ b1 b2 u, v = .func (.func 67) #[] #[.pointer (some ⟨b1, 0, none⟩), .pointer (some ⟨b2, 0, none⟩)] ∧ W.heap[b1]? = some (.cells #[sv x] 9 (0, 0)) ∧ W.heap[b2]? = some (.cells #[u] 64 (0, 0)) ∧ x ≠ [] ∧ IsSt W t u
  | .ign t, v => ∃ b1 u, v = .func (.func 71) #[] #[.pointer (some ⟨b1, 0, none⟩)] ∧ W.heap[b1]? = some (.cells #[u] 64 (0, 0)) ∧ IsSt W t u
  | .cod, v => v = .func (.func 45) #[] #[]
  | .nam, v => v = .func (.func 69) #[] #[]
  | .unt, v => v = .func (.func 46) #[] #[]
  | .tim, v => v = .func (.func 99) #[] #[]
  | .dmp, v => v = .func (.func 119) #[] #[]
/-- What no step turns: the boxes of what is captured. -/
structure KeepV (w w' : World) : Prop where
  keep : ∀ (D : Nat) (C : Array Value) (t : TypeId) (fr : Nat × Nat), w.heap[D]? = some (.cells C t fr) → (t = 9 ∨ t = 64) → w'.heap[D]? = some (.cells C t fr)
  size : w.heap.size ≤ w'.heap.size
theorem KeepV.trans {a b c : World} (h : KeepV a b) (k : KeepV b c) : KeepV a c := ⟨fun D C t fr hD ht => k.keep D C t fr (h.keep D C t fr hD ht) ht, Nat.le_trans h.size k.size⟩
theorem KeepV.below {w w' : World} (h : Below w.heap.size w w') : KeepV w w' := ⟨fun _ _ _ _ hD _ => heap_below hD h, h.size⟩
theorem KeepV.turns {w w' : World} {P : TypeId → Prop} (h : Turns w w' P) (h1 : ¬ P 9) (h2 : ¬ P 64) : KeepV w w' :=
  ⟨fun D C t fr hD ht => h.block hD (by rcases ht with rfl | rfl <;> assumption), by obtain ⟨row, hg, _⟩ := h; exact hg.size⟩
theorem IsSt.keep {w w' : World} (hk : KeepV w w') : ∀ {s : VSt} {v : Value}, IsSt w s v → IsSt w' s v
  | .fin, _, h => h
  | .decl, _, h => h
  | .exp _ _, _, ⟨b1, b2, u, e, h1, h2, h3, h4⟩ => ⟨b1, b2, u, e, hk.keep _ _ _ _ h1 (Or.inl rfl), hk.keep _ _ _ _ h2 (Or.inr rfl), h3, IsSt.keep hk h4⟩
  | .ign _, _, ⟨b1, u, e, h1, h4⟩ => ⟨b1, u, e, hk.keep _ _ _ _ h1 (Or.inr rfl), IsSt.keep hk h4⟩
  | .cod, _, h => h
  | .nam, _, h => h
  | .unt, _, h => h
  | .tim, _, h => h
  | .dmp, _, h => h

/-! The reader. -/
/-- What hangs on the reader's block. -/
structure RdC (w0 W : World) (M : Nat) (tv vv : Value) (ss : List Slc) (r : VRd) : Prop where
  low : Below w0.heap.size w0 W
  hM : w0.heap.size ≤ M
  map : IsIdx W M r.idx
  times : Row isU32 W w0.heap.size 42 tv r.times.length (r.times.map nv32)
  wavs : OwnW W w0.heap.size vv ss r.wav
theorem RdC.below {w0 W W' : World} {M : Nat} {tv vv : Value} {ss : List Slc} {r : VRd} (h : RdC w0 W M tv vv ss r) (hb : Below W.heap.size W W') : RdC w0 W' M tv vv ss r :=
  ⟨h.low.trans (hb.mono h.low.size), h.hM, (by obtain ⟨es, cl, h1, h2⟩ := h.map; exact ⟨es, cl, heap_below h1 hb, h2⟩), h.times.below hb, h.wavs.below hb⟩
structure RdAt (w0 : World) (R : Nat) (nv : Value) (W : World) (a : Option Addr) (n c : Nat) (M : Nat) (tv vv : Value) (ss : List Slc) (r : VRd) (bs : List UInt8) : Prop where
  box : W.heap[R]? = some (.cells #[.slice a n c, nv, .map (some M), tv, vv, .int .i64 (r.e : Int)] 66 (0, 0))
  hR : w0.heap.size ≤ R
  sees : Sees w0 a n c (bs.map bv)
  cap : c ≤ maxLen
  cs : RdC w0 W M tv vv ss r
theorem RdAt.below {w0 W W' : World} {R : Nat} {nv : Value} {a : Option Addr} {n c M : Nat} {tv vv : Value} {ss : List Slc} {r : VRd} {bs : List UInt8} (h : RdAt w0 R nv W a n c M tv vv ss r bs) (hb : Below W.heap.size W W') : RdAt w0 R nv W' a n c M tv vv ss r bs :=
  ⟨heap_below h.box hb, h.hR, h.sees, h.cap, h.cs.below hb⟩
/-- A field of the reader is set. -/
theorem RdC.field {w0 W : World} {M R k : Nat} {tv vv x : Value} {ss : List Slc} {r : VRd} {C : Array Value} (h : RdC w0 W M tv vv ss r) (hb : W.heap[R]? = some (.cells C 66 (0, 0))) (hR : w0.heap.size ≤ R) :
    RdC w0 (W.setCell ⟨R, k, .none⟩ x) M tv vv ss r ∧ KeepV W (W.setCell ⟨R, k, .none⟩ x) := by
  have ht := Turns.cell hb (P := fun t => t = 66) rfl k x
  refine ⟨⟨h.low.grown (Lib.grownBy_setCell W R k x) h.low.size (by intro q hq; cases hq; exact hR), h.hM, ht.idx h.map, Turns.row1 h.times ht (by decide), h.wavs.turns ht (by decide) (by decide)⟩, KeepV.turns ht (by decide) (by decide)⟩
def rdcells (a : Option Addr) (n c : Nat) (nv : Value) (M : Nat) (tv vv : Value) (e : Nat) : Array Value := #[.slice a n c, nv, .map (some M), tv, vv, .int .i64 (e : Int)]
/-- What a state, or what it calls, leaves: the state to go on with, the reader. -/
def MvPost (w0 : World) (R : Nat) (nv : Value) (W : World) (a : Option Addr) (n c M : Nat) (p : VSt × VRd) (bs : List UInt8) (e : Ending) (w' : World) : Prop :=
  ∃ v tv vv ss, e = .returned v ∧ IsSt w' p.1 v ∧ RdAt w0 R nv w' a n c M tv vv ss p.2 bs ∧ KeepV W w'
set_option maxRecDepth 100000 in
theorem fail_any {w0 W : World} {R : Nat} {nv : Value} {a : Option Addr} {n c M : Nat} {tv vv : Value} {ss : List Slc} {r : VRd} {bs : List UInt8} (h : RdAt w0 R nv W a n c M tv vv ss r bs) (er : Nat) :
    Calls Tryz.prog 43 #[.pointer (some ⟨R, 0, none⟩), .int .i64 (er : Int)] W (MvPost w0 R nv W a n c M (failV r er) bs) := by
  have c5 := cell_of_block h.box 5
  have f5 := unfrozen_of_block h.box 5
  have hf := h.cs.field (k := 5) (x := .int .i64 (er : Int)) h.box h.hR
  have hb : (W.setCell ⟨R, 5, .none⟩ (.int .i64 (er : Int))).heap[R]? = some (.cells #[.slice a n c, nv, .map (some M), tv, vv, .int .i64 (er : Int)] 66 (0, 0)) := by
    have := block_setCell h.box (i := 5) (.int .i64 (er : Int)); simpa using this
  have H := Lib.hid h
  have HF := Lib.hid hf
  have HB := Lib.hid hb
  clear h hf hb
  go_enter Tryz.func43, Tryz.ntmps43
  go_wp2
  go_ret
  exact ⟨_, tv, vv, ss, rfl, rfl, ⟨HB.out, H.out.hR, H.out.sees, H.out.cap, ⟨HF.out.1.low, HF.out.1.hM, HF.out.1.map, HF.out.1.times, HF.out.1.wavs⟩⟩, HF.out.2⟩
end Go.Proofs.YtgplkpfdbiapaaaGreatDoor
