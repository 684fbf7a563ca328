/- Package cone, on plain lists: what is reached from literals; marks that say so; frame by frame; what is left open. -/
import Derived.Test.YtdheldhecimfnaaNSpec
import Derived.Test.YtdheldhecimfnaaNTrace
import Derived.Test.YtdheldhecimfnaaNCirc
import Derived.Test.YtdheldhecimfnaaRawPred
import Derived.Test.YtdheldhecimfnaaRows
import Derived.BigQuiet
import Derived.Deep.AppendLies
import Derived.Deep.QuietTactic
import Derived.Deep.RegionLaw
import Derived.Deep.RegionWith
import Derived.KernelRfl
import Derived.Laws.EntriesVeiled
import Derived.Lib.ConvBytes
import Derived.Lib.Hide
import Derived.Lib.SlBytesRow
import Derived.Lib.SmallJoins
import Derived.Shelf.Bytes.SlSmallAll
import Derived.WalkKit
import Derived.WalkLawsBesides
import Derived.WalkSpells
namespace Go.Proofs.Ytdheldhecimfnaa
open Go Go.RowKit

/-- The first latch's variable; the first gate's. -/
def fstL (c : NormC) : Nat := 1 + c.ins.toNat
def fstG (c : NormC) : Nat := 1 + c.ins.toNat + c.lats.length
/-- What a variable needs in its frame; what it needs within and across. -/
def inW (c : NormC) (v : Nat) : Nat × Nat := if fstG c ≤ v then c.gates.getD (v - fstG c) (0, 0) else (0, 0)
def inA (c : NormC) (v : Nat) : Nat × Nat := if fstL c ≤ v ∧ v < fstG c then ((c.lats.getD (v - fstL c) (0, 0)).1, 0) else inW c v

/-- Is a variable reached from the roots, by what is needed? -/
def Rch (nd : Nat → Nat × Nat) (roots : List Nat) (v : Nat) : Prop :=
  ∀ S : Nat → Prop, (∀ x ∈ roots, 0 < x / 2 → S (x / 2)) → (∀ u, S u → 0 < (nd u).1 / 2 → S ((nd u).1 / 2)) → (∀ u, S u → 0 < (nd u).2 / 2 → S ((nd u).2 / 2)) → S v
section
variable {nd : Nat → Nat × Nat} {roots : List Nat}
theorem Rch.root {x : Nat} (h : x ∈ roots) (h0 : 0 < x / 2) : Rch nd roots (x / 2) := fun _ h1 _ _ => h1 x h h0
theorem Rch.fst {v : Nat} (h : Rch nd roots v) (h0 : 0 < (nd v).1 / 2) : Rch nd roots ((nd v).1 / 2) := fun S h1 h2 h3 => h2 v (h S h1 h2 h3) h0
theorem Rch.snd {v : Nat} (h : Rch nd roots v) (h0 : 0 < (nd v).2 / 2) : Rch nd roots ((nd v).2 / 2) := fun S h1 h2 h3 => h3 v (h S h1 h2 h3) h0
theorem Rch.mono {roots' : List Nat} {v : Nat} (h : Rch nd roots v) (hr : ∀ x ∈ roots, x ∈ roots') : Rch nd roots' v := fun S h1 h2 h3 => h S (fun x hx => h1 x (hr x hx)) h2 h3
/-- From roots that are reached nothing else is. -/
theorem Rch.again {roots' : List Nat} {v : Nat} (h : Rch nd roots v) (hr : ∀ x ∈ roots, 0 < x / 2 → Rch nd roots' (x / 2)) : Rch nd roots' v :=
  h (Rch nd roots') hr (fun _ hu h0 => hu.fst h0) (fun _ hu h0 => hu.snd h0)
end

/-- These are the marks of what is reached, of n variables. -/
structure IsCone (nd : Nat → Nat × Nat) (roots : List Nat) (n : Nat) (m : List Bool) : Prop where
  len : m.length = n
  iff : ∀ v, v < n → (m.getD v false = true ↔ Rch nd roots v)
theorem ext_getD {m m' : List Bool} {n : Nat} (h : m.length = n) (h' : m'.length = n) (he : ∀ v, v < n → (m.getD v false = true ↔ m'.getD v false = true)) : m = m' := by
  apply List.ext_getElem (by omega)
  intro i h1 h2
  have := he i (by omega)
  simp only [List.getD, List.getElem?_eq_getElem h1, List.getElem?_eq_getElem h2, Option.getD_some] at this
  cases ha : m[i] <;> cases hb : m'[i] <;> simp_all
theorem IsCone.uniq {nd : Nat → Nat × Nat} {roots : List Nat} {n : Nat} {m m' : List Bool} (h : IsCone nd roots n m) (h' : IsCone nd roots n m') : m = m' :=
  ext_getD h.len h'.len fun v hv => (h.iff v hv).trans (h'.iff v hv).symm
theorem IsCone.congr {nd : Nat → Nat × Nat} {roots roots' : List Nat} {n : Nat} {m : List Bool} (h : IsCone nd roots n m) (hr : ∀ x, x ∈ roots ↔ x ∈ roots') : IsCone nd roots' n m :=
  ⟨h.len, fun v hv => (h.iff v hv).trans ⟨fun k => k.mono fun x hx => (hr x).1 hx, fun k => k.mono fun x hx => (hr x).2 hx⟩⟩
/-- Closed marks, all of which are reached. -/
theorem IsCone.of {nd : Nat → Nat × Nat} {roots : List Nat} {n : Nat} {m : List Bool} (hl : m.length = n) (hs : ∀ v, v < n → m.getD v false = true → Rch nd roots v)
    (h1 : ∀ x ∈ roots, 0 < x / 2 → m.getD (x / 2) false = true) (h2 : ∀ u, m.getD u false = true → 0 < (nd u).1 / 2 → m.getD ((nd u).1 / 2) false = true) (h3 : ∀ u, m.getD u false = true → 0 < (nd u).2 / 2 → m.getD ((nd u).2 / 2) false = true) : IsCone nd roots n m :=
  ⟨hl, fun v hv => ⟨hs v hv, fun h => h (fun u => m.getD u false = true) h1 h2 h3⟩⟩
theorem getD_true_lt {m : List Bool} {v : Nat} (h : m.getD v false = true) : v < m.length := by
  rcases Nat.lt_or_ge v m.length with h1 | h1
  · exact h1
  · simp [List.getD, List.getElem?_eq_none h1] at h

/-- Do the literals exist? -/
def toldB (c : NormC) (lits : List Nat) : Bool := mayC c && lits.all fun x => decide (x / 2 ≤ varsN c)
theorem toldB_iff {c : NormC} {lits : List Nat} : toldB c lits = true ↔ MayC c ∧ ∀ x ∈ lits, x / 2 ≤ varsN c := by
  unfold toldB
  rw [Bool.and_eq_true, mayC_iff, List.all_eq_true]
  simp

section
variable {c : NormC}
/-- What is needed is there. -/
theorem inW_lt (h : MayC c) (v : Nat) : (inW c v).1 / 2 ≤ varsN c ∧ (inW c v).2 / 2 ≤ varsN c := by
  unfold inW
  split
  · rename_i h1
    rcases Nat.lt_or_ge (v - fstG c) c.gates.length with h2 | h2
    · have h3 := h.gates _ h2
      unfold varsN
      omega
    · simp [List.getD, List.getElem?_eq_none h2]
  · simp
theorem inA_lt (h : MayC c) (v : Nat) : (inA c v).1 / 2 ≤ varsN c ∧ (inA c v).2 / 2 ≤ varsN c := by
  unfold inA
  split
  · rename_i h1
    unfold fstL fstG at h1
    have h3 := h.lats _ (getD_mem (d := (0, 0)) (show v - fstL c < c.lats.length by unfold fstL; omega))
    simp only
    omega
  · exact inW_lt h v
/-- A gate needs less than itself. -/
theorem inW_less (h : MayC c) (v : Nat) : (0 < (inW c v).1 / 2 → (inW c v).1 / 2 < v) ∧ (0 < (inW c v).2 / 2 → (inW c v).2 / 2 < v) := by
  unfold inW
  split
  · rename_i h1
    rcases Nat.lt_or_ge (v - fstG c) c.gates.length with h2 | h2
    · have h3 := h.gates _ h2
      unfold fstG at *
      omega
    · simp [List.getD, List.getElem?_eq_none h2]
  · simp
theorem rch_lt {nd : Nat → Nat × Nat} {roots : List Nat} {n v : Nat} (hn : ∀ u, (nd u).1 / 2 ≤ n ∧ (nd u).2 / 2 ≤ n) (hr : ∀ x ∈ roots, x / 2 ≤ n) (h : Rch nd roots v) : 0 < v ∧ v ≤ n :=
  h (fun u => 0 < u ∧ u ≤ n) (fun x hx h0 => ⟨h0, hr x hx⟩) (fun u _ h0 => ⟨h0, (hn u).1⟩) (fun u _ h0 => ⟨h0, (hn u).2⟩)
/-- What is reached within is reached across. -/
theorem rch_across {roots : List Nat} {v : Nat} (h : Rch (inW c) roots v) : Rch (inA c) roots v := by
  have e : ∀ u, 0 < (inW c u).1 / 2 ∨ 0 < (inW c u).2 / 2 → inA c u = inW c u := fun u hu => by
    unfold inA
    rw [if_neg]
    intro h1
    unfold inW at hu
    rw [if_neg (by omega)] at hu
    simp at hu
  refine h (Rch (inA c) roots) (fun x hx h0 => Rch.root hx h0) (fun u hu h0 => ?_) (fun u hu h0 => ?_)
  · have := e u (.inl h0)
    rw [← this] at h0 ⊢
    exact hu.fst h0
  · have := e u (.inr h0)
    rw [← this] at h0 ⊢
    exact hu.snd h0
end

/-- The Next of each latch that is marked. -/
def nxF (lats : List (Nat × Nat)) (b : Nat) (m : List Bool) : List Nat := ((List.range lats.length).filter fun i => m.getD (b + i) false).map fun i => (lats.getD i (0, 0)).1
def nxL (c : NormC) (m : List Bool) : List Nat := nxF c.lats (fstL c) m
theorem mem_nxL {c : NormC} {m : List Bool} {x : Nat} : x ∈ nxL c m ↔ ∃ i, i < c.lats.length ∧ m.getD (fstL c + i) false = true ∧ (c.lats.getD i (0, 0)).1 = x := by
  unfold nxL nxF
  simp only [List.mem_map, List.mem_filter, List.mem_range]
  exact ⟨fun ⟨i, ⟨h1, h2⟩, h3⟩ => ⟨i, h1, h2, h3⟩, fun ⟨i, h1, h2, h3⟩ => ⟨i, ⟨h1, h2⟩, h3⟩⟩
theorem nxL_len (c : NormC) (m : List Bool) : (nxL c m).length ≤ c.lats.length := by
  unfold nxL nxF
  rw [List.length_map]
  have := List.length_filter_le (fun i => m.getD (fstL c + i) false) (List.range c.lats.length)
  simpa using this
/-- The part of the latches ahead of the k-th. -/
def nxP (c : NormC) (m : List Bool) (k : Nat) : List Nat := ((List.range k).filter fun i => m.getD (fstL c + i) false).map fun i => (c.lats.getD i (0, 0)).1
theorem nxP_zero (c : NormC) (m : List Bool) : nxP c m 0 = [] := rfl
theorem nxP_all (c : NormC) (m : List Bool) : nxP c m c.lats.length = nxL c m := rfl
theorem nxP_yes {c : NormC} {m : List Bool} {k : Nat} (h : m.getD (fstL c + k) false = true) : nxP c m (k + 1) = nxP c m k ++ [(c.lats.getD k (0, 0)).1] := by
  unfold nxP
  rw [List.range_succ, List.filter_append, List.map_append]
  simp only [List.filter_cons, h, List.filter_nil]
  rfl
theorem nxP_no {c : NormC} {m : List Bool} {k : Nat} (h : m.getD (fstL c + k) false = false) : nxP c m (k + 1) = nxP c m k := by
  unfold nxP
  rw [List.range_succ, List.filter_append, List.map_append]
  simp only [List.filter_cons, h, List.filter_nil]
  simp
theorem nxP_len (c : NormC) (m : List Bool) (k : Nat) : (nxP c m k).length ≤ k := by
  unfold nxP
  rw [List.length_map]
  have := List.length_filter_le (fun i => m.getD (fstL c + i) false) (List.range k)
  simpa using this
theorem nxP_le {c : NormC} (h : MayC c) (m : List Bool) (k : Nat) (hk : k ≤ c.lats.length) : ∀ x ∈ nxP c m k, x ≤ 2 * varsN c + 1 := by
  intro x hx
  unfold nxP at hx
  obtain ⟨i, hi, rfl⟩ := List.mem_map.1 hx
  have h1 : i < k := by simpa using (List.mem_filter.1 hi).1
  exact (h.lats _ (getD_mem (by omega))).1

/-- The roots of a frame: the bad literal in the last one, ahead of that what the latches that count were to be; the constraints. -/
def rootsAt (c : NormC) (bad n : Nat) (ms : List (List Bool)) (f : Nat) : List Nat := (if f + 1 = n then [c.bads.getD bad 0] else nxL c (ms.getD (f + 1) [])) ++ c.cons
/-- These are the marks of n frames. -/
structure IsFr (c : NormC) (bad n : Nat) (ms : List (List Bool)) : Prop where
  len : ms.length = n
  cone : ∀ f, f < n → IsCone (inW c) (rootsAt c bad n ms f) (1 + varsN c) (ms.getD f [])
theorem IsFr.uniq {c : NormC} {bad n : Nat} {ms ms' : List (List Bool)} (h : IsFr c bad n ms) (h' : IsFr c bad n ms') : ms = ms' := by
  have key : ∀ d f, f + d + 1 = n → ms.getD f [] = ms'.getD f [] := by
    intro d
    induction d with
    | zero =>
      intro f hf
      have h1 := h.cone f (by omega)
      have h2 := h'.cone f (by omega)
      unfold rootsAt at h1 h2
      rw [if_pos (by omega)] at h1 h2
      exact h1.uniq h2
    | succ d ih =>
      intro f hf
      have h1 := h.cone f (by omega)
      have h2 := h'.cone f (by omega)
      unfold rootsAt at h1 h2
      rw [if_neg (by omega)] at h1 h2
      rw [ih (f + 1) (by omega)] at h1
      exact h1.uniq h2
  apply List.ext_getElem (by rw [h.len, h'.len])
  intro i h1 h2
  have := key (n - 1 - i) i (by have := h.len; omega)
  simpa [List.getD, List.getElem?_eq_getElem h1, List.getElem?_eq_getElem h2] using this

/-- What Frames asks. -/
def frOk (c : NormC) (bad frames : Int) : Bool := mayC c && (!(decide (bad < 0) || decide ((c.bads.length : Int) ≤ bad)) && !(decide (frames < 1) || decide (256 < frames)))
/-- A trace with what does not count left open. -/
def freeI (c : NormC) (m : List Bool) (l : List UInt8) : List UInt8 := (List.range l.length).map fun i => if (c.lats.getD i (0, 0)).2 = 2 ∧ m.getD (fstL c + i) false = false then 2 else l.getD i 0
def freeF (m : List Bool) (l : List UInt8) : List UInt8 := (List.range l.length).map fun i => if m.getD (1 + i) false = false then 2 else l.getD i 0
def freeT (c : NormC) (t : TraceC) (ms : List (List Bool)) : TraceC := ⟨t.bad, freeI c (ms.getD 0 []) t.init, (List.range t.frames.length).map fun f => freeF (ms.getD f []) (t.frames.getD f [])⟩
end Go.Proofs.Ytdheldhecimfnaa
