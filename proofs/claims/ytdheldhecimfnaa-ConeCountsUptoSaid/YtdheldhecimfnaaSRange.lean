/- A range over a function whose body never leaves early, the iterator handing over slices in memory: the law of the statement. No function of the program is named here. -/
import Derived.Test.YtdheldhecimfnaaNBase
import Derived.Test.YtdheldhecimfnaaRows
import Derived.BigQuiet
import Derived.Deep.AppendLies
import Derived.Deep.QuietTactic
import Derived.Deep.RegionLaw
import Derived.Deep.RegionWith
import Derived.KernelRfl
import Derived.Laws.EntriesVeiled
import Derived.Lib.ConvBytes
import Derived.Lib.Hide
import Derived.Lib.SlBytesRow
import Derived.Lib.SmallJoins
import Derived.RangeFuncCalls
import Derived.RangeFuncLeaves
import Derived.RangeFuncWrites
import Derived.Shelf.Bytes.SlSmallAll
import Derived.WalkKit
import Derived.WalkLawsBesides
import Derived.WalkSpells
namespace Go.Proofs.Ytdheldhecimfnaa
open Go Go.RowKit Go.Joins

/-- Below base nothing has turned; nor any block of cells, but for those of type T and g1 and g2. -/
structure Kpt (base : Nat) (T : TypeId) (g1 g2 : Nat) (W W' : World) : Prop where
  low : Below base W W'
  mid : ∀ D C t fr, W.heap[D]? = some (.cells C t fr) → t ≠ T → D ≠ g1 → D ≠ g2 → W'.heap[D]? = some (.cells C t fr)
theorem Kpt.trans {base : Nat} {T : TypeId} {g1 g2 : Nat} {A B C : World} (h : Kpt base T g1 g2 A B) (k : Kpt base T g1 g2 B C) : Kpt base T g1 g2 A C :=
  ⟨h.low.trans k.low, fun D X t fr hD ht h1 h2 => k.mid D X t fr (h.mid D X t fr hD ht h1 h2) ht h1 h2⟩
theorem Kpt.below {base : Nat} {T : TypeId} {g1 g2 : Nat} {A B : World} (h : Below A.heap.size A B) (hb : base ≤ A.heap.size) : Kpt base T g1 g2 A B :=
  ⟨h.mono hb, fun _ _ _ _ hD _ _ _ => heap_below hD h⟩
theorem Kpt.put {base : Nat} {T : TypeId} {g1 g2 : Nat} (W : World) (l : Nat) (o o' : Obj) (hl : base ≤ l) (h : W.heap[l]? = some o) (ho : o.isCells = false) : Kpt base T g1 g2 W (W.putObj l o') :=
  ⟨(Below.refl _ W).grown (grownBy_putObj' W l o') (by have := (Array.getElem?_eq_some_iff.1 h).1; omega) (fun k e => by cases e; exact hl), fun D C t fr hD _ _ _ => by
    have : D ≠ l := fun e => by subst e; rw [h] at hD; cases hD; cases ho
    exact (World.putObj_heap_other this).trans hD⟩
theorem Kpt.set {base : Nat} {T : TypeId} {g1 g2 : Nat} (W : World) (p : Addr) (u : Value) (hp : base ≤ p.block) (hg : p.block = g1 ∨ p.block = g2) : Kpt base T g1 g2 W (W.setCell p u) :=
  ⟨(Below.refl _ W).setCell hp u, fun D C t fr hD _ h1 h2 => (Below.heap_setCell W p u D (by rcases hg with h | h <;> (rw [h]; assumption))).trans hD⟩

theorem keepsFrom_below {B : Nat} {W W' : World} (h : Below W.heap.size W W') : KeepsFrom B W W' := ⟨h.size, fun k _ _ hk _ => (h.block k (Array.getElem?_eq_some_iff.1 hk).1).trans hk⟩

/-- Abides new memory. -/
def News (I : Nat → World → Prop) : Prop := ∀ k A B, I k A → Below A.heap.size A B → I k B
/-- Abides the turn of what is no cells, from B on. -/
def Puts {β : Type} (B : Nat) (I : β → World → Prop) : Prop := ∀ k A l o o', I k A → B ≤ l → A.heap[l]? = some o → o.isCells = false → I k (A.putObj l o')

/-- What a round that goes on comes to. -/
def goesOn (B : Nat) (Kp : World → World → Prop) (R : World → Prop) (W : World) : Exit → Act → World → Prop
  | .normal, _, W' => KeepsFrom B W W' ∧ Kp W W' ∧ R W'
  | _, _, _ => False

section
variable {P : Program}
/-- What an iterator promises: N rounds, each goes on; the k-th is handed what E says. -/
def Iterates (P : Program) (gf : Nat) (lb : Array Value) (E : Nat → Array Value → World → Prop) (Kp : World → World → Prop) (N : Nat) (w : World) : Prop :=
  ∀ (l : Nat) (J : Nat → World → Prop) (W : World), News J →
    (∀ k xs W1, k < N → J k W1 → E k xs W1 → YieldAt Fence.wide 0 P l xs W1 fun e W' => e = .returned (.bool true) ∧ J (k + 1) W' ∧ Kp W1 W') →
    Below w.heap.size w W → J 0 W →
    CallsIn Fence.wide 0 P gf (#[.func (.yield l) #[] #[]] ++ lb) W fun e W' => (∃ v, e = .returned v) ∧ J N W'

theorem wp_rangeFunc {g : Operand} {ps : Array Tmp} {assign body : Code} {Q : Exit → Act → World → Prop} {a : Act} {w : World}
    {gf : Nat} {lb : Array Value} (hg : a.eval g = .func (.func gf) #[] lb) (eg : ∀ args w, (callFunc gf args).run P w = .ok (.enter gf args) w)
    {E : Nat → Array Value → World → Prop} {Kp : World → World → Prop} {N : Nat} (hseq : Iterates P gf lb E Kp N w)
    (hKt : ∀ {A B C : World}, Kp A B → Kp B C → Kp A C) (hKb : ∀ (W : World) (l : Nat) (o o' : Obj), w.heap.size ≤ l → W.heap[l]? = some o → o.isCells = false → Kp W (W.putObj l o'))
    (hps : ∀ k xs W, E k xs W → xs.size = ps.size) (hE : ∀ k, Puts w.heap.size (E k))
    (I : Nat → World → Prop) (hN : News I) (hP : Puts w.heap.size I) (h0 : I 0 w) (a₁ : Array Value → Act)
    (hassign : ∀ (l k : Nat) (xs : Array Value) (W : World) (K : Act → World → Prop), E k xs W → K (a₁ xs) W →
      assign.wpIn (Fence.wide.inRound l) 0 P (Exit.then K (fun _ _ _ => False)) { tmps := (ps.zip xs).foldl (fun t (p, v) => t.setIfInBounds p v) a.tmps, defers := [] } W)
    (hbody : ∀ (l k : Nat) (xs : Array Value) (W : World), k < N → I k W → E k xs W → body.wpIn (Fence.wide.inRound l) 0 P (goesOn w.heap.size Kp (I (k + 1)) W) (a₁ xs) W)
    (hdone : ∀ (D : Nat) (W : World), w.heap.size ≤ D → I N W → W.heap[D]? = some (.deferred (some [])) → Q .normal { a with defers := { target := .collected D, args := #[] } :: a.defers } W) :
    (Code.rangeFunc g ps assign body).wpIn Fence.wide 0 P Q a w := by
  refine wpIn_rangeFunc ?_
  intro fn hfn
  obtain ⟨rec, hrec⟩ : ∃ rec : LoopState → Option Code → Loop, rec = fun st pe => { state := st, pending := pe, fn, tmps := a.tmps, params := ps, assign, body, defers := w.heap.size } := ⟨_, rfl⟩
  obtain ⟨W1, hW1⟩ : ∃ W1, (w.alloc (.deferred (some []))).alloc (.loop (rec .ready none)) = W1 := ⟨_, rfl⟩
  have hL1 : W1.heap[w.heap.size + 1]? = some (.loop (rec .ready none)) := by
    rw [← hW1]; have := World.alloc_heap_new (w.alloc (.deferred (some []))) (.loop (rec .ready none)); rwa [World.size_alloc] at this
  have hK1 : W1.heap[w.heap.size]? = some (.deferred (some [])) := by
    rw [← hW1]; exact (Below.heap_alloc _ _ _ (by simp)).trans (World.alloc_heap_new w _)
  have hb1 : Below w.heap.size w W1 := by rw [← hW1]; exact ext_trans (ext_alloc _ _) (ext_alloc _ _)
  have hI1 : I 0 W1 := hN _ _ _ h0 hb1
  refine ⟨w.heap.size + 1, [{ target := .collected w.heap.size, args := #[] }], W1, { target := .fn (.func gf) lb, args := #[.func (.yield (w.heap.size + 1)) #[] #[]] }, W1, gf,
    #[.func (.yield (w.heap.size + 1)) #[] #[]] ++ lb, W1, ?_, ?_, ?_, ?_, fun h => by simp [Fence.wide] at h, ?_⟩
  · rw [← hW1, hrec]; exact run_enterLoop_outer _ _ _ _ _
  · simp only [resolve, hg]
    simp [go_sem]
  · intro f' _; exact trivial
  · simp [invoke, go_sem, eg]
  · refine (hseq (w.heap.size + 1)
      (fun k W => I k W ∧ W.heap[w.heap.size + 1]? = some (.loop (rec .ready none)) ∧ W.heap[w.heap.size]? = some (.deferred (some [])))
      W1 (fun k A B hs hb => ⟨hN k A B hs.1 hb, heap_below hs.2.1 hb, heap_below hs.2.2 hb⟩) ?_ hb1 ⟨hI1, hL1, hK1⟩).mono ?_
    · rintro k xs W hkN ⟨hi, hl, hk⟩ he
      have hlt : w.heap.size + 1 < W.heap.size := (Array.getElem?_eq_some_iff.1 hl).1
      have hy := run_yield (P := P) (args := xs) hl (by rw [hrec]; exact hps k xs W he)
      rw [hrec] at hy
      refine ⟨fn, _, assign, body, hy, roundIn_of_wpIn hfn (hassign _ k xs W _ he ⟨_, run_beginRound hl (by rw [hrec]), ?_⟩)⟩
      have hl2 : (W.putObj (w.heap.size + 1) (.loop { rec .ready none with state := .busy })).heap[w.heap.size + 1]? = some (.loop { rec .ready none with state := .busy }) := World.putObj_heap_same hlt
      have hk2 : (W.putObj (w.heap.size + 1) (.loop { rec .ready none with state := .busy })).heap[w.heap.size]? = some (.deferred (some [])) := (World.putObj_heap_other (by omega)).trans hk
      have hw2 : Kp W (W.putObj (w.heap.size + 1) (.loop { rec .ready none with state := .busy })) := hKb _ _ _ _ (by omega) hl rfl
      refine wpIn_mono (hbody _ k xs _ hkN (hP k W _ _ _ hi (by omega) hl rfl) (hE k xs W _ _ _ he (by omega) hl rfl)) ?_
      rintro e a3 W3 hp
      cases e with
      | normal =>
        obtain ⟨hk3, hkp3, hi3⟩ := hp
        have hl3 := hk3.same _ _ (by omega) hl2 rfl
        have hd3 := hk3.same _ _ (Nat.le_refl _) hk2 rfl
        have hr := run_endRound (P := P) none hl3
        rw [hrec] at hr
        have hl3' := hl3
        rw [hrec] at hl3'
        refine ⟨_, _, hr, rfl, ⟨hP _ _ _ _ _ hi3 (by omega) hl3 rfl, ?_, (World.putObj_heap_other (by omega)).trans hd3⟩, hKt (hKt hw2 hkp3) (hKb _ _ _ _ (by omega) hl3 rfl)⟩
        rw [World.putObj_heap_same (Array.getElem?_eq_some_iff.1 hl3).1, hrec]
        rfl
      | ret => exact hp.elim
      | exit id => exact hp.elim
      | goto t => exact hp.elim
      | panic ch => exact hp.elim
      | outgrown => exact hp.elim
    · rintro e W2 ⟨⟨v, rfl⟩, hi, hl, hk⟩
      exact ⟨none, _, by have := run_endLoop (P := P) hl (by rw [hrec]; simp); rw [hrec] at this; exact this, hdone _ _ (Nat.le_refl _) (hP _ _ _ _ _ hi (by omega) hl rfl) ((World.putObj_heap_other (by omega)).trans hk)⟩
end
end Go.Proofs.Ytdheldhecimfnaa
