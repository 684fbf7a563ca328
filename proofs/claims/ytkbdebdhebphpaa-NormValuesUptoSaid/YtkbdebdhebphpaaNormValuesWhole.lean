/- NormValues returns true for every raw circuit and list of values where what it reads is of bulk at most 1048576: whatever inputs and latches are, literals and each Next have the values that the text's own equations say, and as many gates are 1. Condition: the bound. -/
import Derived.Test.YtkbdebdhebphpaaNRefPure
import Derived.Test.YtkbdebdhebphpaaNOpen
import Derived.Test.YtkbdebdhebphpaaNRegion
import Derived.Test.YtkbdebdhebphpaaNPeel
import Derived.Deep.RegionHeld3
import Derived.Test.YtkbdebdhebphpaaNOfParts
import Derived.Test.YtkbdebdhebphpaaRawOpen
import Derived.JoinedCond
/- The values of a raw circuit's gates and of the circuit's, on plain lists. -/
namespace Go.Proofs.Ytkbdebdhebphpaa
open Go Go.RowKit

def bitL (v : List Bool) (x : Nat) : Bool := v.getD (x / 2) false != decide (x % 2 = 1)
def nIn (bits : List Bool) : Nat → List Bool → List Bool
  | 0, n => n
  | k + 1, n => (nIn bits k n).set (k + 1) (bits.getD k false)
def wIn (bits : List Bool) (O : List Nat) : Nat → List Bool → List Bool
  | 0, w => w
  | k + 1, w => (wIn bits O k w).set (O.getD k 0 / 2) (bits.getD k false)
def andN (v : List Bool) (g : Nat × Nat) : Bool := bitL v g.1 && bitL v g.2
def nGa (cg : List (Nat × Nat)) (F : Nat) : Nat → List Bool → List Bool
  | 0, n => n
  | k + 1, n => (nGa cg F k n).set (F + 1 + k) (andN (nGa cg F k n) (cg.getD k (0, 0)))
def stepW (g : Tri) (w : List Bool) : List Bool := w.set (g.1 / 2) (andN w g.2)
def wPa (gs : List Tri) : Nat → List Bool → List Bool
  | 0, w => w
  | k + 1, w => stepW (gAt gs k) (wPa gs k w)
def wIt (gs : List Tri) : Nat → List Bool → List Bool
  | 0, w => w
  | j + 1, w => wPa gs gs.length (wIt gs j w)

theorem nIn_len (bits : List Bool) : ∀ (k : Nat) (n : List Bool), (nIn bits k n).length = n.length
  | 0, _ => rfl
  | k + 1, n => by rw [nIn, List.length_set, nIn_len bits k]
theorem wIn_len (bits : List Bool) (O : List Nat) : ∀ (k : Nat) (n : List Bool), (wIn bits O k n).length = n.length
  | 0, _ => rfl
  | k + 1, n => by rw [wIn, List.length_set, wIn_len bits O k]
theorem nGa_len (cg : List (Nat × Nat)) (F : Nat) : ∀ (k : Nat) (n : List Bool), (nGa cg F k n).length = n.length
  | 0, _ => rfl
  | k + 1, n => by rw [nGa, List.length_set, nGa_len cg F k]
theorem stepW_len (g : Tri) (w : List Bool) : (stepW g w).length = w.length := by rw [stepW, List.length_set]
theorem wPa_len (gs : List Tri) : ∀ (k : Nat) (n : List Bool), (wPa gs k n).length = n.length
  | 0, _ => rfl
  | k + 1, n => by rw [wPa, stepW_len, wPa_len gs k]
theorem wIt_len (gs : List Tri) : ∀ (k : Nat) (n : List Bool), (wIt gs k n).length = n.length
  | 0, _ => rfl
  | k + 1, n => by rw [wIt, wPa_len, wIt_len gs k]

theorem nIn_get (bits : List Bool) : ∀ (k : Nat) (n : List Bool) (j : Nat), k < n.length → (nIn bits k n).getD j false = if 1 ≤ j ∧ j ≤ k then bits.getD (j - 1) false else n.getD j false
  | 0, n, j, _ => by rw [nIn, if_neg (by omega)]
  | k + 1, n, j, h => by
    rw [nIn, bset_getD, nIn_len, nIn_get bits k n j (by omega)]
    by_cases e : k + 1 = j
    · subst e
      rw [if_pos ⟨rfl, h⟩, if_pos ⟨by omega, by omega⟩]
      simp
    · rw [if_neg (fun c => e c.1)]
      by_cases e2 : 1 ≤ j ∧ j ≤ k
      · rw [if_pos e2, if_pos ⟨by omega, by omega⟩]
      · rw [if_neg e2, if_neg (by omega)]
theorem nGa_low (cg : List (Nat × Nat)) (F : Nat) : ∀ (d k : Nat) (n : List Bool) (j : Nat), j < F + 1 + k → (nGa cg F (k + d) n).getD j false = (nGa cg F k n).getD j false
  | 0, _, _, _, _ => rfl
  | d + 1, k, n, j, h => by
    rw [← Nat.add_assoc, nGa, bset_getD, if_neg (by omega), nGa_low cg F d k n j h]
theorem wIn_out (bits : List Bool) (O : List Nat) : ∀ (k : Nat) (w : List Bool) (v : Nat), (∀ i, i < k → O.getD i 0 / 2 ≠ v) → (wIn bits O k w).getD v false = w.getD v false
  | 0, _, _, _ => rfl
  | k + 1, w, v, h => by
    rw [wIn, bset_getD, if_neg (fun c => h k (by omega) c.1), wIn_out bits O k w v (fun i hi => h i (by omega))]
theorem wIn_in (bits : List Bool) (O : List Nat) : ∀ (k : Nat) (w : List Bool) (i : Nat), i < k → (∀ i j, i < k → j < k → i ≠ j → O.getD i 0 / 2 ≠ O.getD j 0 / 2) → (∀ i, i < k → O.getD i 0 / 2 < w.length) → (wIn bits O k w).getD (O.getD i 0 / 2) false = bits.getD i false
  | 0, _, _, h, _, _ => by omega
  | k + 1, w, i, h, hd, hl => by
    rw [wIn, bset_getD, wIn_len]
    by_cases e : i = k
    · subst e
      rw [if_pos ⟨rfl, hl i (by omega)⟩]
    · rw [if_neg (fun c => hd k i (by omega) h (fun e' => e e'.symm) c.1)]
      exact wIn_in bits O k w i (by omega) (fun a b ha hb => hd a b (by omega) (by omega)) (fun a ha => hl a (by omega))

/-- Lists without repetition, of which one lies in the other and is as long, are one another's. -/
theorem perm_of {α : Type} [BEq α] [LawfulBEq α] : ∀ (a b : List α), a.Nodup → (∀ x ∈ a, x ∈ b) → a.length = b.length → a.Perm b
  | [], b, _, _, h => by
    have : b = [] := List.eq_nil_of_length_eq_zero h.symm
    subst this; exact List.Perm.refl _
  | x :: a, b, hn, hs, hl => by
    have hx : x ∈ b := hs x (by simp)
    have hp := List.perm_cons_erase hx
    have hn' := List.nodup_cons.1 hn
    have ih := perm_of a (b.erase x) hn'.2 (fun y hy => (List.mem_erase_of_ne (fun e => hn'.1 (by rw [← e]; exact hy))).2 (hs y (by simp [hy]))) (by
      rw [List.length_erase_of_mem hx]
      simp at hl
      omega)
    exact (List.Perm.cons x ih).trans hp.symm

/-- What is known of a raw circuit and its circuit. -/
structure VC (r : RawC) (gl : List Tri) (num : List Nat) (V : Nat → Bool) (bits : List Bool) : Prop where
  mem : ∀ g ∈ gl, g ∈ r.gates
  len : gl.length = r.gates.length
  apart : ∀ g ∈ r.gates, ∀ g' ∈ r.gates, g.1 / 2 = g'.1 / 2 → g = g'
  pw : gl.Pairwise (fun a b => a.1 / 2 ≠ b.1 / 2)
  lits : ∀ k, k < gl.length → ∀ x ∈ gate1 (gl.getD k (0, 0, 0)), isG r.gates (x / 2) = true → ∃ g ∈ gl.take k, g.1 / 2 = x / 2
  gate : ∀ k, k < gl.length → V ((gl.getD k (0, 0, 0)).1 / 2) = ((V ((gl.getD k (0, 0, 0)).2.1 / 2) != decide ((gl.getD k (0, 0, 0)).2.1 % 2 = 1)) && (V ((gl.getD k (0, 0, 0)).2.2 / 2) != decide ((gl.getD k (0, 0, 0)).2.2 % 2 = 1)))
  max : ∀ g ∈ r.gates, g.1 / 2 < r.max + 1

def Agree (r : RawC) (gl : List Tri) (V : Nat → Bool) (k : Nat) (w : List Bool) : Prop :=
  w.length = r.max + 1 ∧ ∀ v, (isG r.gates v = false ∨ ∃ g ∈ gl.take k, g.1 / 2 = v) → w.getD v false = V v
section
variable {r : RawC} {gl : List Tri} {num : List Nat} {V : Nat → Bool} {bits : List Bool}
theorem Agree.lit {k : Nat} {w : List Bool} (h : Agree r gl V k w) {x : Nat} (hx : isG r.gates (x / 2) = true → ∃ g ∈ gl.take k, g.1 / 2 = x / 2) : bitL w x = (V (x / 2) != decide (x % 2 = 1)) := by
  unfold bitL
  rw [h.2 (x / 2) (by
    cases hg : isG r.gates (x / 2) with
    | false => exact Or.inl rfl
    | true => exact Or.inr (hx hg))]
theorem take_mono {k j : Nat} (h : k ≤ j) {g : Tri} (hg : g ∈ gl.take k) : g ∈ gl.take j := by
  have : gl.take k = (gl.take j).take k := by rw [List.take_take, Nat.min_eq_left h]
  rw [this] at hg
  exact List.mem_of_mem_take hg
theorem VC.value (hv : VC r gl num V bits) {k m : Nat} (hk : k < gl.length) (hm : k ≤ m) {w : List Bool} (h : Agree r gl V m w) : andN w (gl.getD k (0, 0, 0)).2 = V ((gl.getD k (0, 0, 0)).1 / 2) := by
  have hl := hv.lits k hk
  unfold andN
  rw [hv.gate k hk, h.lit (fun hg => by obtain ⟨g, h1, h2⟩ := hl _ (by simp [gate1]) hg; exact ⟨g, take_mono hm h1, h2⟩), h.lit (fun hg => by obtain ⟨g, h1, h2⟩ := hl _ (by simp [gate1]) hg; exact ⟨g, take_mono hm h1, h2⟩)]
theorem mem_take_getD {k : Nat} {g : Tri} (h : g ∈ gl.take k) : ∃ j, j < k ∧ j < gl.length ∧ gl.getD j (0, 0, 0) = g := by
  obtain ⟨j, hj, e⟩ := List.getElem_of_mem h
  rw [List.length_take] at hj
  refine ⟨j, by omega, by omega, ?_⟩
  rw [List.getElem_take] at e
  simp [List.getD, List.getElem?_eq_getElem (show j < gl.length by omega), e]
theorem VC.step (hv : VC r gl num V bits) {k : Nat} {w : List Bool} (h : Agree r gl V k w) {g : Tri} (hg : g ∈ r.gates) : Agree r gl V k (stepW g w) := by
  refine ⟨by rw [stepW_len, h.1], fun v hvv => ?_⟩
  unfold stepW
  rw [bset_getD]
  by_cases e : g.1 / 2 = v
  · subst e
    rw [if_pos ⟨rfl, by rw [h.1]; exact hv.max g hg⟩]
    rcases hvv with h1 | ⟨g', h1, h2⟩
    · have : isG r.gates (g.1 / 2) = true := isG_iff.2 ⟨g, hg, rfl⟩
      rw [this] at h1; cases h1
    · have : g' = g := hv.apart g' (hv.mem g' (List.mem_of_mem_take h1)) g hg h2
      subst this
      obtain ⟨j, hj, hj2, rfl⟩ := mem_take_getD h1
      exact hv.value hj2 (by omega) h
  · rw [if_neg (fun c => e c.1)]
    exact h.2 v hvv
theorem VC.stepOne (hv : VC r gl num V bits) {k : Nat} {w : List Bool} (h : Agree r gl V k w) (hk : k < gl.length) : Agree r gl V (k + 1) (stepW (gl.getD k (0, 0, 0)) w) := by
  have hg : gl.getD k (0, 0, 0) ∈ r.gates := hv.mem _ (getD_mem hk)
  refine ⟨by rw [stepW_len, h.1], fun v hvv => ?_⟩
  unfold stepW
  rw [bset_getD]
  by_cases e : (gl.getD k (0, 0, 0)).1 / 2 = v
  · subst e
    rw [if_pos ⟨rfl, by rw [h.1]; exact hv.max _ hg⟩]
    exact hv.value hk (Nat.le_refl _) h
  · rw [if_neg (fun c => e c.1)]
    refine h.2 v ?_
    rcases hvv with h1 | ⟨g, h1, h2⟩
    · exact Or.inl h1
    · obtain ⟨j, hj, hj2, rfl⟩ := mem_take_getD h1
      have : j ≠ k := fun c => by subst c; exact e h2
      refine Or.inr ⟨_, ?_, h2⟩
      have hlt : j < (gl.take k).length := by rw [List.length_take]; omega
      have : gl.getD j (0, 0, 0) = (gl.take k)[j] := by simp [List.getD, List.getElem?_eq_getElem hj2]
      rw [this]
      exact List.getElem_mem hlt
theorem VC.pass (hv : VC r gl num V bits) {k : Nat} {w : List Bool} (h : Agree r gl V k w) : ∀ j, j ≤ r.gates.length → Agree r gl V k (wPa r.gates j w)
  | 0, _ => h
  | j + 1, hj => by
    rw [wPa]
    exact hv.step (hv.pass h j (by omega)) (getD_mem (by omega))
theorem VC.passOne (hv : VC r gl num V bits) {k : Nat} {w : List Bool} (h : Agree r gl V k w) (hk : k < gl.length) : ∀ j, j ≤ r.gates.length → (∃ p, p < j ∧ gAt r.gates p = gl.getD k (0, 0, 0)) → Agree r gl V (k + 1) (wPa r.gates j w)
  | 0, _, ⟨p, hp, _⟩ => by omega
  | j + 1, hj, ⟨p, hp, e⟩ => by
    rw [wPa]
    by_cases c : p = j
    · subst c
      rw [e]
      exact hv.stepOne (hv.pass h p (by omega)) hk
    · exact hv.step (hv.passOne h hk j (by omega) ⟨p, by omega, e⟩) (getD_mem (by omega))
theorem VC.all (hv : VC r gl num V bits) {w : List Bool} (h : Agree r gl V 0 w) : ∀ j, j ≤ gl.length → Agree r gl V j (wIt r.gates j w)
  | 0, _ => h
  | j + 1, hj => by
    rw [wIt]
    refine hv.passOne (hv.all h j (by omega)) (by omega) _ (Nat.le_refl _) ?_
    obtain ⟨p, hp, e⟩ := List.getElem_of_mem (hv.mem _ (getD_mem (d := ((0, 0, 0) : Tri)) (show j < gl.length by omega)))
    exact ⟨p, hp, by unfold gAt; simpa [List.getD, List.getElem?_eq_getElem hp] using e⟩
theorem VC.nodup (hv : VC r gl num V bits) : gl.Nodup := hv.pw.imp (fun h e => h (by rw [e]))
theorem VC.perm (hv : VC r gl num V bits) : gl.Perm r.gates := perm_of gl r.gates hv.nodup hv.mem hv.len
theorem VC.done (hv : VC r gl num V bits) {w : List Bool} (h : Agree r gl V 0 w) (v : Nat) : (wIt r.gates r.gates.length w).getD v false = V v := by
  have := hv.all h gl.length (Nat.le_refl _)
  rw [hv.len] at this
  refine this.2 v ?_
  cases hg : isG r.gates v with
  | false => exact Or.inl rfl
  | true =>
    obtain ⟨g, h1, h2⟩ := isG_iff.1 hg
    exact Or.inr ⟨g, by rw [List.take_of_length_le (by rw [hv.len]; exact Nat.le_refl _)]; exact hv.perm.mem_iff.2 h1, h2⟩
end
end Go.Proofs.Ytkbdebdhebphpaa
/- What NormValues goes through, of a circuit that came out. -/
namespace Go.Proofs.Ytkbdebdhebphpaa
open Go Go.RowKit

def ordR (r : RawC) : RawC := { r with gates := inOrderS r.gates }
def firstN (r : RawC) : Nat := r.ins.length + r.lats.length
/-- The circuit's values at the end, and the raw circuit's. -/
def nowEnd (r : RawC) (c : NormC) (bits : List Bool) : List Bool := nGa c.gates (firstN r) c.gates.length (nIn bits (firstN r) (List.replicate (firstN r + c.gates.length + 1) false))
def wasAt0 (r : RawC) (bits : List Bool) : List Bool := wIn bits (ownsL r) (firstN r) (List.replicate (r.max + 1) false)
def wasEnd (r : RawC) (bits : List Bool) : List Bool := wIt r.gates r.gates.length (wasAt0 r bits)
def valV (r : RawC) (c : NormC) (bits : List Bool) (v : Nat) : Bool := (nowEnd r c bits).getD ((numS (ordR r)).getD v 0) false

theorem bitL_num (t : List Nat) (N : List Bool) (x : Nat) : bitL N (numL t x) = (N.getD (t.getD (x / 2) 0) false != decide (x % 2 = 1)) := by
  unfold bitL numL
  rw [show (2 * t.getD (x / 2) 0 + x % 2) / 2 = t.getD (x / 2) 0 by omega, show (2 * t.getD (x / 2) 0 + x % 2) % 2 = x % 2 by omega]
theorem nowEnd_low (r : RawC) (c : NormC) (bits : List Bool) {i : Nat} (hi : i < firstN r) : (nowEnd r c bits).getD (1 + i) false = bits.getD i false := by
  unfold nowEnd
  have h := nGa_low c.gates (firstN r) c.gates.length 0 (nIn bits (firstN r) (List.replicate (firstN r + c.gates.length + 1) false)) (1 + i) (by omega)
  rw [Nat.zero_add] at h
  rw [h, nGa, nIn_get _ _ _ _ (by simp; omega), if_pos ⟨by omega, by omega⟩]
  congr 1
  omega
theorem rep_false (n j : Nat) : (List.replicate n false).getD j false = false := by simp only [List.getD, List.getElem?_replicate]; split <;> rfl
theorem nowEnd_zero (r : RawC) (c : NormC) (bits : List Bool) : (nowEnd r c bits).getD 0 false = false := by
  unfold nowEnd
  have h := nGa_low c.gates (firstN r) c.gates.length 0 (nIn bits (firstN r) (List.replicate (firstN r + c.gates.length + 1) false)) 0 (by omega)
  rw [Nat.zero_add] at h
  rw [h, nGa, nIn_get _ _ _ _ (by simp; omega), if_neg (by omega), rep_false]
theorem nowEnd_gate (r : RawC) (c : NormC) (bits : List Bool) {k : Nat} (hk : k < c.gates.length) (h1 : (c.gates.getD k (0, 0)).1 < 2 * (firstN r + 1 + k)) (h2 : (c.gates.getD k (0, 0)).2 < 2 * (firstN r + 1 + k)) :
    (nowEnd r c bits).getD (firstN r + 1 + k) false = andN (nowEnd r c bits) (c.gates.getD k (0, 0)) := by
  obtain ⟨n0, hn0⟩ : ∃ n0, n0 = nIn bits (firstN r) (List.replicate (firstN r + c.gates.length + 1) false) := ⟨_, rfl⟩
  have hl : n0.length = firstN r + c.gates.length + 1 := by rw [hn0, nIn_len, List.length_replicate]
  have e : nowEnd r c bits = nGa c.gates (firstN r) c.gates.length n0 := by rw [hn0]; rfl
  rw [e]
  have a1 := nGa_low c.gates (firstN r) (c.gates.length - (k + 1)) (k + 1) n0 (firstN r + 1 + k) (by omega)
  rw [show k + 1 + (c.gates.length - (k + 1)) = c.gates.length by omega] at a1
  rw [a1, nGa, bset_getD, if_pos ⟨rfl, by rw [nGa_len, hl]; omega⟩]
  have low : ∀ x, x < 2 * (firstN r + 1 + k) → bitL (nGa c.gates (firstN r) k n0) x = bitL (nGa c.gates (firstN r) c.gates.length n0) x := fun x hx => by
    unfold bitL
    have a2 := nGa_low c.gates (firstN r) (c.gates.length - k) k n0 (x / 2) (by omega)
    rw [show k + (c.gates.length - k) = c.gates.length by omega] at a2
    rw [a2]
  unfold andN
  rw [low _ h1, low _ h2]

section
variable {r : RawC} {c : NormC}
theorem ord_len (h : ofS r = .ok c) : (inOrderS r.gates).length = r.gates.length := (ofS_ok.1 h).all
theorem cg_len (h : ofS r = .ok c) : c.gates.length = r.gates.length := by
  have hk := ofS_ok.1 h
  rw [hk.eq]
  simp [renumS, hk.all]
theorem ord_apart (h : ofS r = .ok c) : ∀ g ∈ r.gates, ∀ g' ∈ r.gates, g.1 / 2 = g'.1 / 2 → g = g' := fun g hg g' hg' e => by
  obtain ⟨hm, ⟨d, hd, _⟩, _, _⟩ := ofS_ok.1 h
  have ha := apart_of (lits_of hm) hd
  obtain ⟨i, hi, rfl⟩ := List.getElem_of_mem hg
  obtain ⟨j, hj, rfl⟩ := List.getElem_of_mem hg'
  have : i = j := ha i j hi hj (by unfold varAt gAt; simpa [List.getD, List.getElem?_eq_getElem hi, List.getElem?_eq_getElem hj] using e)
  subst this
  rfl
theorem ord_perm (h : ofS r = .ok c) : (inOrderS r.gates).Perm r.gates :=
  perm_of _ _ ((orderF_new r.gates r.gates.length []).2.imp (fun h e => h (by rw [e]))) (orderF_mem r.gates r.gates.length []).2 (ord_len h)
theorem ctx_of (h : ofS r = .ok c) : ∃ d, Ctx r d := by
  obtain ⟨hm, ⟨d, hd, hn⟩, _, _⟩ := ofS_ok.1 h
  exact ⟨d, lits_of hm, hd, hn⟩
theorem owns_perm (h : ofS r = .ok c) : (ownsL (ordR r)).Perm (ownsL r) := by
  unfold ownsL ordR
  exact List.Perm.append_left _ (List.Perm.append_left _ ((ord_perm h).map _))
theorem own_num (h : ofS r = .ok c) {i : Nat} (hi : i < (ownsL (ordR r)).length) : (numS (ordR r)).getD ((ownsL (ordR r)).getD i 0 / 2) 0 = 1 + i := by
  obtain ⟨d, hc⟩ := ctx_of h
  have hp : (ownsL (ordR r)).Pairwise (fun a b => a / 2 ≠ b / 2) := (List.Perm.pairwise_iff (fun h e => h e.symm) (owns_perm h)).2 hc.apart
  have hl : ∀ x ∈ ownsL (ordR r), x / 2 < (List.replicate ((ordR r).max + 1) 0).length := fun x hx => by
    have := hc.lits.owns x ((owns_perm h).mem_iff.1 hx)
    rw [List.length_replicate]
    show x / 2 < r.max + 1
    omega
  have e := toF_in _ _ 0 i hi hl hp
  have e2 : (toS (ordR r)).getD ((ownsL (ordR r)).getD i 0 / 2) 0 = 2 * (1 + 0 + i) := e
  rw [toS_num] at e2
  have e3 : ∀ v, ((numS (ordR r)).map (2 * ·)).getD v 0 = 2 * (numS (ordR r)).getD v 0 := fun v => by
    by_cases hv : v < (numS (ordR r)).length
    · simp [List.getD, hv]
    · simp [List.getD, hv]
  rw [e3] at e2
  omega
theorem own_first (i : Nat) (hi : i < firstN r) : (ownsL (ordR r)).getD i 0 = (ownsL r).getD i 0 := by
  have hl : i < (r.ins ++ r.lats.map (·.1)).length := by unfold firstN at hi; rw [List.length_append, List.length_map]; exact hi
  have e : ∀ gs : List Nat, (r.ins ++ (r.lats.map (·.1) ++ gs)).getD i 0 = (r.ins ++ r.lats.map (·.1)).getD i 0 := fun gs => by
    rw [← List.append_assoc, List.getD_eq_getElem?_getD, List.getD_eq_getElem?_getD, List.getElem?_append_left hl]
  exact (e _).trans (e _).symm
theorem own_gate (h : ofS r = .ok c) {k : Nat} (hk : k < (inOrderS r.gates).length) : (numS (ordR r)).getD (((inOrderS r.gates).getD k (0, 0, 0)).1 / 2) 0 = firstN r + 1 + k := by
  have e : (ownsL (ordR r)).getD (firstN r + k) 0 = ((inOrderS r.gates).getD k (0, 0, 0)).1 := by
    unfold ownsL ordR firstN
    simp only
    rw [← List.append_assoc]
    simp only [List.getD]
    rw [List.getElem?_append_right (by simp)]
    simp [List.getElem?_eq_getElem hk]
  have := own_num h (i := firstN r + k) (by rw [owns_len]; unfold firstN ordR; simp only; omega)
  rw [e] at this
  omega
theorem vc_of (h : ofS r = .ok c) (bits : List Bool) : VC r (inOrderS r.gates) (numS (ordR r)) (valV r c bits) bits := by
  obtain ⟨d, hc⟩ := ctx_of h
  have hmay := of_mayC h
  have hcl := cg_len h
  have hol := ord_len h
  have hce : c = renumS (ordR r) := (ofS_ok.1 h).eq
  refine ⟨(orderF_mem r.gates r.gates.length []).2, hol, ord_apart h, (orderF_new r.gates r.gates.length []).2, fun k hk x hx hg => ?_, fun k hk => ?_, fun g hg => ?_⟩
  · rcases orderF_lits r.gates r.gates.length [] k hk x hx hg with h1 | h1
    · cases h1
    · exact h1
  · have hg := hmay.gates k (by omega)
    have hF : c.ins.toNat + c.lats.length = firstN r := by rw [hce]; simp [renumS, ordR, firstN]
    unfold valV
    rw [own_gate h hk, nowEnd_gate r c bits (by omega) (by omega) (by omega)]
    have ecg : c.gates.getD k (0, 0) = gateS3 (toS (ordR r)) ((inOrderS r.gates).getD k (0, 0, 0)) := by
      rw [hce]
      simp [renumS, ordR, List.getD, List.getElem?_eq_getElem hk]
    have hn : nowS ((numS (ordR r)).map (2 * ·)) = numL (numS (ordR r)) := funext (now_num _)
    rw [ecg, toS_num]
    unfold gateS3
    rw [hn]
    unfold andN
    simp only
    rw [← bitL_num, ← bitL_num]
    rcases Nat.le_total (numL (numS (ordR r)) ((inOrderS r.gates).getD k (0, 0, 0)).2.1) (numL (numS (ordR r)) ((inOrderS r.gates).getD k (0, 0, 0)).2.2) with e | e
    · rw [Nat.max_eq_right e, Nat.min_eq_left e, Bool.and_comm]
    · rw [Nat.max_eq_left e, Nat.min_eq_right e]
  · have := hc.lits.owns g.1 (by unfold ownsL; simp only [List.mem_append, List.mem_map]; exact Or.inr (Or.inr ⟨g, hg, rfl⟩))
    omega
theorem agree_of (h : ofS r = .ok c) (bits : List Bool) : Agree r (inOrderS r.gates) (valV r c bits) 0 (wasAt0 r bits) := by
  obtain ⟨d, hc⟩ := ctx_of h
  refine ⟨by unfold wasAt0; rw [wIn_len, List.length_replicate], fun v hv => ?_⟩
  have hg : isG r.gates v = false := by
    rcases hv with h1 | ⟨g, h1, _⟩
    · exact h1
    · simp at h1
  have hFl : firstN r ≤ (ownsL r).length := by rw [owns_len]; unfold firstN; omega
  have hFo : firstN r ≤ (ownsL (ordR r)).length := by rw [owns_len]; unfold firstN ordR; simp only; omega
  unfold wasAt0
  by_cases hex : ∃ i, i < firstN r ∧ (ownsL r).getD i 0 / 2 = v
  · obtain ⟨i, hi, rfl⟩ := hex
    rw [wIn_in bits (ownsL r) (firstN r) _ i hi (fun a b ha hb hab => ?_) (fun a ha => ?_)]
    · unfold valV
      rw [← own_first i hi, own_num h (by omega), nowEnd_low r c bits hi]
    · have hp := hc.apart
      rw [List.pairwise_iff_getElem] at hp
      have ga : ∀ j, j < firstN r → ∃ hj : j < (ownsL r).length, (ownsL r).getD j 0 = (ownsL r)[j] := fun j hj => ⟨by omega, by simp [List.getD, List.getElem?_eq_getElem (show j < (ownsL r).length by omega)]⟩
      obtain ⟨ja, ea⟩ := ga a ha
      obtain ⟨jb, eb⟩ := ga b hb
      rw [ea, eb]
      rcases Nat.lt_or_ge a b with hlt | hge
      · exact hp a b ja jb hlt
      · exact fun e => hp b a jb ja (by omega) e.symm
    · have := hc.lits.owns _ (getD_mem (d := 0) (show a < (ownsL r).length by omega))
      rw [List.length_replicate]
      omega
  · rw [wIn_out bits (ownsL r) (firstN r) _ v (fun i hi e => hex ⟨i, hi, e⟩), rep_false]
    have hz : (numS (ordR r)).getD v 0 = 0 := by
      by_cases hne : (numS (ordR r)).getD v 0 = 0
      · exact hne
      · exfalso
        unfold numS at hne
        have := (numF_pos _ _ _ (fun x hx => by
          have := hc.lits.owns x ((owns_perm h).mem_iff.1 hx)
          rw [List.length_replicate]
          show x / 2 < r.max + 1
          omega) v).1 hne
        rcases this with h1 | ⟨x, hx, e⟩
        · exact h1 (by simp only [List.getD, List.getElem?_replicate]; split <;> rfl)
        · obtain ⟨j, hj, ej⟩ := List.getElem_of_mem hx
          by_cases hjF : j < firstN r
          · refine hex ⟨j, hjF, ?_⟩
            rw [← own_first j hjF]
            simp only [List.getD, List.getElem?_eq_getElem hj, Option.getD_some, ej]
            exact e
          · have hx' : x ∈ (inOrderS r.gates).map (·.1) := by
              have hj2 := hj
              rw [← ej]
              unfold ownsL ordR firstN at *
              simp only at *
              simp only [← List.append_assoc]
              rw [List.getElem_append_right (by simpa using hjF)]
              exact List.getElem_mem _
            obtain ⟨g, hg', rfl⟩ := List.mem_map.1 hx'
            have : isG r.gates v = true := isG_iff.2 ⟨g, (ord_perm h).mem_iff.1 hg', e⟩
            rw [this] at hg
            cases hg
    unfold valV
    rw [hz, nowEnd_zero]
/-- Literals have the same values. -/
theorem same_bit (h : ofS r = .ok c) (bits : List Bool) (x : Nat) : bitL (wasEnd r bits) x = bitL (nowEnd r c bits) (nowS (toS (ordR r)) x) := by
  have hn : nowS ((numS (ordR r)).map (2 * ·)) = numL (numS (ordR r)) := funext (now_num _)
  rw [toS_num, hn, bitL_num]
  unfold bitL wasEnd
  rw [(vc_of h bits).done (agree_of h bits)]
  rfl
/-- As many gates are 1. -/
theorem same_ones (h : ofS r = .ok c) (bits : List Bool) : r.gates.countP (fun g => (wasEnd r bits).getD (g.1 / 2) false) = (List.range c.gates.length).countP (fun i => (nowEnd r c bits).getD (firstN r + 1 + i) false) := by
  rw [← (ord_perm h).countP_eq]
  have e : inOrderS r.gates = (List.range c.gates.length).map (fun i => (inOrderS r.gates).getD i (0, 0, 0)) := by
    apply List.ext_getElem
    · simp [cg_len h, ord_len h]
    · intro i h1 h2
      simp [List.getD, List.getElem?_eq_getElem h1]
  rw [e, List.countP_map]
  apply List.countP_congr
  intro i hi
  have hi' := List.mem_range.1 hi
  have hio : i < (inOrderS r.gates).length := by rw [ord_len h, ← cg_len h]; exact hi'
  simp only [Function.comp]
  unfold wasEnd
  rw [(vc_of h bits).done (agree_of h bits)]
  unfold valV
  rw [own_gate h hio]
end
end Go.Proofs.Ytkbdebdhebphpaa
/- A list of bools as an argument; the law's bit and told, by their contracts. -/
namespace Go.Proofs.Ytkbdebdhebphpaa
open Go Go.RowKit Go.Joins Go.ChangeShapes Go.WideShapes Go.ChangeAt

section
variable {H : Type} {enc : TypeId × Value → H} {W : World}
set_option maxRecDepth 100000 in
theorem open_bools {v : Value} {d : DataW H} {p : List MemPlace} {base : Nat} (hv : Value.okWide Try.prog W .any base 52 v)
    (h : DataW.Trod enc Try.prog W 0 (fun _ => true) true 52 v d p) : ∃ a n c bs, v = .slice a n c ∧ Sees W a n c (List.map Value.bool bs) ∧ n ≤ Rows.uptoBulk d := by
  obtain ⟨a0, len, cap, rfl⟩ := okWide_slice Try.underlying52 hv
  obtain ⟨fuel, hf⟩ := h
  rcases Go.Deep.open_slice1 Try.underlying52 (by kernel_rfl) hf with ⟨hcs, hx⟩ | ⟨a, len', cap', m, nf, V, D, Pl, hcs, _, hl, hm, hmm, hx, hi⟩
  · simp [Value.cells] at hcs
    obtain ⟨rfl, rfl, rfl⟩ := hcs
    exact ⟨_, _, _, [], rfl, Sees.nil _ _ _ (fun _ => rfl), by omega⟩
  · simp [Value.cells] at hcs
    obtain ⟨rfl, rfl, rfl⟩ := hcs
    simp only [Prod.mk.injEq] at hx
    obtain ⟨rfl, rfl⟩ := hx
    have hmc : m = cap := by rw [hmm]; simp
    have key : ∀ i, i < len → ∃ b : Bool, W.cell? (a.add i) = some (.bool b) := fun i hil => by
      obtain ⟨h1, h2⟩ := hi i (by omega)
      obtain ⟨b, hb, _⟩ := DataW.trod_bool Try.underlying4 h2
      have : V i = .bool b := by simpa using hb
      exact ⟨b, by rw [h1, this]⟩
    have hbulk : len ≤ Rows.uptoBulk (DataW.slice (H := H) ((List.range len).map D) ((List.range (m - len)).map fun j => D (len + j))) := by
      have h2 := bulk_slice ((List.range len).map D) ((List.range (m - len)).map fun j => D (len + j))
      simpa using h2
    obtain ⟨bs, hb0, hbk⟩ : ∃ bs : List Bool, bs.length = len ∧ ∀ k, k < len → W.cell? (a.add k) = some (.bool (bs.getD k false)) := by
      refine ⟨(List.range len).map fun i => if hi : i < len then Classical.choose (key i hi) else false, by simp, fun k hk => ?_⟩
      have hs := Classical.choose_spec (key k hk)
      rw [hs]
      simp [List.getD, hk]
    refine ⟨_, _, _, bs, rfl, ⟨by simp [hb0], hl, (fun e => by cases e), fun h0 => ?_⟩, hbulk⟩
    obtain ⟨b, off, spot⟩ := a
    have h00 := hbk 0 h0
    have hspot : spot = none := by simpa [Addr.add] using World.cell?_spot h00
    subst hspot
    have hadd : ∀ j, (⟨b, off, none⟩ : Addr).add j = ⟨b, off + j, none⟩ := by intro j; unfold Addr.add; split <;> simp_all
    refine ⟨b, off, rfl, ?_, fun j hj => ?_⟩
    · rw [hadd] at h00
      exact cell_lt h00
    · rw [← hadd, hbk j hj]
      simp [List.getD, List.getElem?_eq_getElem (show j < bs.length by omega)]
end
theorem Sees.bool {w : World} {b off n c : Nat} {bs : List Bool} (h : Sees w (some ⟨b, off, .none⟩) n c (bs.map Value.bool)) (j : Nat) (hj : j < n) : w.cell? ⟨b, off + j, .none⟩ = some (.bool (bs.getD j false)) := by
  have hl : bs.length = n := h.lenMap
  rw [(h.cell j hj).2]
  simp [List.getD, List.getElem?_eq_getElem (show j < bs.length by omega)]

set_option maxRecDepth 100000 in
theorem bit_any (v : List Bool) (x : Nat) (a : Option Addr) (n c : Nat) (w : World) (h : Sees w a n c (v.map Value.bool)) (hx : x / 2 < n) (hx32 : x < 4294967296) :
    Calls Try.prog 27 #[.slice a n c, .int .u32 (x : Int)] w fun e w' => e = .returned (.bool (bitL v x)) ∧ w' = w := by
  obtain ⟨b, off, rfl, hbw⟩ := h.addr (by omega)
  have hc := h.bool (x / 2) hx
  unfold bitL
  obtain ⟨y, hy⟩ : ∃ y, y = v.getD (x / 2) false := ⟨_, rfl⟩
  rw [← hy] at hc ⊢
  clear hy h
  have D1 : Int.tdiv (x : Int) 2 = ((x / 2 : Nat) : Int) := by rw [Int.tdiv_eq_ediv_of_nonneg (by omega)]; omega
  obtain ⟨u, hu⟩ : ∃ u, u = x / 2 := ⟨_, rfl⟩
  have hu3 : u < 4294967296 := by omega
  rw [← hu] at D1 hc hx
  have U1 : IntKind.u32.wrap ((u : Nat) : Int) = (u : Int) := IntWalk.u32_in _ (by omega)
  clear hu
  by_cases hp : x % 2 = 1
  · have f1 : Int.tmod (x : Int) 2 = 1 := by rw [Int.tmod_eq_emod_of_nonneg (by omega)]; omega
    rw [decide_eq_true hp]
    have HP := Lib.hid hp
    clear hp
    go_enter Try.func27, Try.ntmps27
    go_wp2
    go_ret
    exact ⟨by cases y <;> rfl, rfl⟩
  · have f1 : Int.tmod (x : Int) 2 = 0 := by rw [Int.tmod_eq_emod_of_nonneg (by omega)]; omega
    rw [decide_eq_false hp]
    have HP := Lib.hid hp
    clear hp
    go_enter Try.func27, Try.ntmps27
    go_wp2
    go_ret
    exact ⟨by cases y <;> rfl, rfl⟩

set_option maxRecDepth 100000 in
set_option maxHeartbeats 1600000 in
theorem told_any (V N : List Bool) (l m : List Nat) (a1 : Option Addr) (n1 c1 : Nat) (a2 : Option Addr) (n2 c2 : Nat) (a3 : Option Addr) (n3 c3 : Nat) (a4 : Option Addr) (c4 : Nat) (w : World)
    (h1 : Sees w a1 n1 c1 (V.map Value.bool)) (h2 : Sees w a2 n2 c2 (N.map Value.bool)) (h3 : Sees w a3 n3 c3 (l.map nv32)) (h4 : Sees w a4 n3 c4 (m.map nv32)) (hn : n3 ≤ 1048576)
    (hl : ∀ x ∈ l, x / 2 < n1 ∧ x < 4294967296) (hm : ∀ x ∈ m, x / 2 < n2 ∧ x < 4294967296) (he : ∀ i, i < n3 → bitL V (l.getD i 0) = bitL N (m.getD i 0)) :
    Calls Try.prog 28 #[.slice a1 n1 c1, .slice a2 n2 c2, .slice a3 n3 c3, .slice a4 n3 c4] w fun e w' => e = .returned (.bool true) ∧ Below w.heap.size w w' := by
  have H1 := Lib.hid h1
  have H2 := Lib.hid h2
  have H3 := Lib.hid h3
  have H4 := Lib.hid h4
  have HL := Lib.hid hl
  have HM := Lib.hid hm
  have HE := Lib.hid he
  have L3 := Lib.hid h3.lenMap
  have L4 := Lib.hid h4.lenMap
  clear h1 h2 h3 h4 hl hm he
  go_enter Try.func28, Try.ntmps28
  go_wp2
  go_loopw [9, 17] (fun v i wr => ∃ k : Nat, k ≤ n3 ∧ i = .int .i64 k ∧ Hid (Below w.heap.size w wr)) (fun _ i _ => n3 - (intOf i).toNat)
  case atStart => exact ⟨0, Nat.zero_le _, rfl, Below.refl _ _⟩
  case round =>
    obtain ⟨k, hk, rfl, hB⟩ := hrel
    by_cases hlt : k < n3
    · obtain ⟨b, off, rfl, _⟩ := H3.out.addr (by omega)
      obtain ⟨b', off', rfl, _⟩ := H4.out.addr (by omega)
      have q1 := (H3.out.below hB.out).num k hlt
      have q2 := (H4.out.below hB.out).num k hlt
      have hx := HL.out (l.getD k 0) (getD_mem (by rw [L3.out]; exact hlt))
      have hy := HM.out (m.getD k 0) (getD_mem (by rw [L4.out]; exact hlt))
      have hee := HE.out k hlt
      obtain ⟨x, hxx⟩ : ∃ x, x = l.getD k 0 := ⟨_, rfl⟩
      obtain ⟨y, hyy⟩ : ∃ y, y = m.getD k 0 := ⟨_, rfl⟩
      rw [← hxx] at q1 hx hee
      rw [← hyy] at q2 hy hee
      obtain ⟨p, hp⟩ : ∃ p, p = bitL V x := ⟨_, rfl⟩
      have C1 : Hid (∀ j, Calls Try.prog 27 #[.slice a1 n1 c1, .int .u32 (x : Int)] (wr.drewN j) fun e w' => e = .returned (.bool p) ∧ w' = wr.drewN j) := fun j => by
        have h := bit_any V x a1 n1 c1 (wr.drewN j) ((H1.out.below hB.out).below (ext_drewN wr j)) hx.1 hx.2
        rw [← hp] at h
        exact h
      have C2 : Hid (∀ j, Calls Try.prog 27 #[.slice a2 n2 c2, .int .u32 (y : Int)] (wr.drewN j) fun e w' => e = .returned (.bool p) ∧ w' = wr.drewN j) := fun j => by
        have h := bit_any N y a2 n2 c2 (wr.drewN j) ((H2.out.below hB.out).below (ext_drewN wr j)) hy.1 hy.2
        rw [← hee, ← hp] at h
        exact h
      have HB := Lib.hid hB.out
      have W1 : IntKind.i64.wrap ((k : Int) + 1) = (k : Int) + 1 := IntWalk.i64_in _ (by omega)
      clear hxx hyy hp hee hx hy hB
      go_wp2
      go_quiet ((go_at_call 27; first | with_reducible exact Calls.quiet_of_same (C1.out _) | with_reducible exact Calls.quiet_of_same (C2.out _)))
      go_wp2
      go_roundw
      case rel => exact ⟨k + 1, by omega, by go_num, ext_trans HB.out (ext_drewN _ _)⟩
      case measure => simp [intOf]; omega
    · obtain rfl : n3 = k := by omega
      have HB := Lib.hid hB.out
      clear hB
      go_wp2
      go_ret
      exact ⟨rfl, HB.out⟩
end Go.Proofs.Ytkbdebdhebphpaa
/- Drawn regions of NormValues, over whatever frame. -/
namespace Go.Proofs.Ytkbdebdhebphpaa
open Go Go.RowKit Go.Joins


noncomputable def codeNVal16 : Code := ((Try.f5.body.bind (findRegion 16)).getD .skip)
set_option maxRecDepth 100000 in
set_option maxHeartbeats 25600000 in
theorem reg_NVal16 (RX b off k nn cc ND nl WD wl x : Nat) (y : Bool) (wv : List Bool) (X0 : World)
    (hR : X0.cell? ⟨RX, 1, none⟩ = some (.slice (some ⟨b, off, .none⟩) nn cc)) (hk : k < nn) (hX : X0.cell? ⟨b, off + k, none⟩ = some (.int .u32 x)) (hN : X0.cell? ⟨ND, k + 1, none⟩ = some (.bool y)) (hkn : k + 1 < nl) (hk9 : k < 1000000000)
    (hW : X0.heap[WD]? = some (.cells (bcells wv) 4 (0, 0))) (hwl : wv.length = wl) (hu : x / 2 < wl) (hx32 : x < 4294967296)
    (QQ : Exit → Act → World → Prop) {v0 v1 v3 v4 v5 v6 v7 v11 v12 v13 v14 v15 v16 v17 v18 v19 v20 v21 v22 v23 v24 v25 v26 v27 v28 v29 v30 v31 v32 v33 v34 v35 v36 v37 v38 v39 v40 v41 v42 v43 v44 v45 v46 v47 v48 v49 v50 v51 v52 v53 v54 v55 v56 v57 v58 v59 v60 v61 v62 v63 v64 v65 v66 v67 v68 v69 v70 v71 v72 v73 v74 v75 v76 v77 v78 v79 v80 v81 v82 v83 v84 v85 v86 v87 v88 v89 v90 v91 v92 v93 v94 v95 v96 v97 v98 v99 v100 v101 v102 v103 v104 v105 v106 v107 v108 v109 v110 v111 v112 v113 v114 v115 v116 v117 v118 v119 v120 v121 v122 v123 v124 v125 v126 v127 v128 v129 v130 v131 v132 v133 v134 v135 v136 v137 v138 v139 v140 v141 v142 v143 v144 v145 v146 v147 v148 v149 v150 v151 v152 v153 v154 v155 v156 v157 v158 v159 v160 v161 v162 v163 v164 v165 v166 v167 v168 v169 v170 v171 v172 v173 v174 v175 v176 v177 v178 v179 v180 v181 v182 v183 v184 v185 v186 v187 v188 v189 v190 v191 v192 v193 v194 v195 v196 v197 v198 v199 v200 v201 v202 v203 v204 v205 v206 v207 v208 v209 v210 v211 v212 v213 v214 v215 v216 v217 v218 v219 v220 v221 v222 v223 v224 v225 v226 v227 v228 v229 v230 v231 v232 v233 v234 v235 v236 v237 v238 v239 v240 v241 v242 v243 v244 v245 v246 v247 v248 v249 v250 v251 v252 v253 v254 v255 v256 v257 v258 v259 v260 v261 v262 v263 v264 v265 v266 v267 v268 v269 v270 v271 v272 v273 v274 v275 v276 v277 v278 v279 v280 : Value}
    (hK : ∀ (Y0 : World) (u111 u112 u113 u114 u115 u116 u117 u118 u119 u120 u121 u122 u123 : Value), Below X0.heap.size X0 Y0 → QQ .normal ⟨#[v0, v1, .pointer (some ⟨RX, 0, .none⟩), v3, v4, v5, v6, v7, .slice (some ⟨ND, 0, none⟩) nl nl, .slice (some ⟨WD, 0, none⟩) wl wl, .int .i64 k, v11, v12, 
      v13, v14, v15, v16, v17, v18, v19, v20, v21, v22, v23, v24, v25, v26, v27, v28, v29, v30, v31, v32, v33, v34, v35, v36, v37, v38, v39, v40, v41, v42, v43, 
      v44, v45, v46, v47, v48, v49, v50, v51, v52, v53, v54, v55, v56, v57, v58, v59, v60, v61, v62, v63, v64, v65, v66, v67, v68, v69, v70, v71, v72, v73, v74, 
      v75, v76, v77, v78, v79, v80, v81, v82, v83, v84, v85, v86, v87, v88, v89, v90, v91, v92, v93, v94, v95, v96, v97, v98, v99, v100, v101, v102, v103, v104, 
      v105, v106, v107, v108, v109, v110, u111, u112, u113, u114, u115, u116, u117, u118, u119, u120, u121, u122, u123, v124, v125, v126, v127, v128, v129, v130, 
      v131, v132, v133, v134, v135, v136, v137, v138, v139, v140, v141, v142, v143, v144, v145, v146, v147, v148, v149, v150, v151, v152, v153, v154, v155, v156, 
      v157, v158, v159, v160, v161, v162, v163, v164, v165, v166, v167, v168, v169, v170, v171, v172, v173, v174, v175, v176, v177, v178, v179, v180, v181, v182, 
      v183, v184, v185, v186, v187, v188, v189, v190, v191, v192, v193, v194, v195, v196, v197, v198, v199, v200, v201, v202, v203, v204, v205, v206, v207, v208, 
      v209, v210, v211, v212, v213, v214, v215, v216, v217, v218, v219, v220, v221, v222, v223, v224, v225, v226, v227, v228, v229, v230, v231, v232, v233, v234, 
      v235, v236, v237, v238, v239, v240, v241, v242, v243, v244, v245, v246, v247, v248, v249, v250, v251, v252, v253, v254, v255, v256, v257, v258, v259, v260, 
      v261, v262, v263, v264, v265, v266, v267, v268, v269, v270, v271, v272, v273, v274, v275, v276, v277, v278, v279, v280], []⟩ (Y0.setCell ⟨WD, x / 2, none⟩ (.bool y))) :
    Code.wp Try.prog codeNVal16 QQ ⟨#[v0, v1, .pointer (some ⟨RX, 0, .none⟩), v3, v4, v5, v6, v7, .slice (some ⟨ND, 0, none⟩) nl nl, .slice (some ⟨WD, 0, none⟩) wl wl, .int .i64 k, v11, v12, 
      v13, v14, v15, v16, v17, v18, v19, v20, v21, v22, v23, v24, v25, v26, v27, v28, v29, v30, v31, v32, v33, v34, v35, v36, v37, v38, v39, v40, v41, v42, v43, 
      v44, v45, v46, v47, v48, v49, v50, v51, v52, v53, v54, v55, v56, v57, v58, v59, v60, v61, v62, v63, v64, v65, v66, v67, v68, v69, v70, v71, v72, v73, v74, 
      v75, v76, v77, v78, v79, v80, v81, v82, v83, v84, v85, v86, v87, v88, v89, v90, v91, v92, v93, v94, v95, v96, v97, v98, v99, v100, v101, v102, v103, v104, 
      v105, v106, v107, v108, v109, v110, v111, v112, v113, v114, v115, v116, v117, v118, v119, v120, v121, v122, v123, v124, v125, v126, v127, v128, v129, v130, 
      v131, v132, v133, v134, v135, v136, v137, v138, v139, v140, v141, v142, v143, v144, v145, v146, v147, v148, v149, v150, v151, v152, v153, v154, v155, v156, 
      v157, v158, v159, v160, v161, v162, v163, v164, v165, v166, v167, v168, v169, v170, v171, v172, v173, v174, v175, v176, v177, v178, v179, v180, v181, v182, 
      v183, v184, v185, v186, v187, v188, v189, v190, v191, v192, v193, v194, v195, v196, v197, v198, v199, v200, v201, v202, v203, v204, v205, v206, v207, v208, 
      v209, v210, v211, v212, v213, v214, v215, v216, v217, v218, v219, v220, v221, v222, v223, v224, v225, v226, v227, v228, v229, v230, v231, v232, v233, v234, 
      v235, v236, v237, v238, v239, v240, v241, v242, v243, v244, v245, v246, v247, v248, v249, v250, v251, v252, v253, v254, v255, v256, v257, v258, v259, v260, 
      v261, v262, v263, v264, v265, v266, v267, v268, v269, v270, v271, v272, v273, v274, v275, v276, v277, v278, v279, v280], []⟩ X0 := by
  have D1 : Int.tdiv (x : Int) 2 = ((x / 2 : Nat) : Int) := by rw [Int.tdiv_eq_ediv_of_nonneg (by omega)]; omega
  obtain ⟨u, huu⟩ : ∃ u, u = x / 2 := ⟨_, rfl⟩
  rw [← huu] at D1 hK hu
  have hu3 : u < 4294967296 := by omega
  have U1 : IntKind.u32.wrap ((u : Nat) : Int) = (u : Int) := IntWalk.u32_in _ (by omega)
  clear huu
  have W1 : IntKind.i64.wrap ((k : Int) + 1) = (k : Int) + 1 := IntWalk.i64_in _ (by omega)
  have hi1 : 0 ≤ (k : Int) + 1 := by omega
  have hi2 : (k : Int) + 1 < (nl : Int) := by omega
  conv => arg 2; whnf
  refine wp_region_noPanic ?_
  refine wp_region_peelN 13 (by kernel_rfl) rfl (by simp only [List.getElem?_toArray, List.getElem?_cons_zero, List.getElem?_cons_succ]; rfl) (by kernel_rfl) ?_
  simp only [List.pop_toArray, List.dropLast_cons_cons, List.dropLast_singleton]
  refine wpAny_of_held (S := fun w' => w'.cell? ⟨RX, 1, none⟩ = some (.slice (some ⟨b, off, .none⟩) nn cc) ∧ w'.cell? ⟨b, off + k, none⟩ = some (.int .u32 x) ∧ w'.cell? ⟨ND, k + 1, none⟩ = some (.bool y)) _ _ _ _ ?_
  generalize hY : X0.drew = Y0
  have hY0 : Below X0.heap.size X0 Y0 := by subst hY; exact (Below.refl _ _).drew
  have HELD : Hid (Y0.cell? ⟨RX, 1, none⟩ = some (.slice (some ⟨b, off, .none⟩) nn cc) ∧ Y0.cell? ⟨b, off + k, none⟩ = some (.int .u32 x) ∧ Y0.cell? ⟨ND, k + 1, none⟩ = some (.bool y)) := ⟨cell_below hR hY0, cell_below hX hY0, cell_below hN hY0⟩
  have z0 : Y0.cell? ⟨WD, u, none⟩ = some (.bool (wv.getD u false)) := (cell_of_block (heap_below hW hY0) u).trans (bcells_get wv u (by omega))
  have z1 := unfrozen_of_block (heap_below hW hY0) u
  have HY0 := Lib.hid hY0
  clear hY hY0 hW hR hX hN
  refine wpAnyH_take (i := 0) (v := ?_) (by simp only [List.getElem?_toArray, List.getElem?_cons_zero]; rfl) (by kernel_rfl) (by kernel_rfl) (by kernel_rfl) (fun _ _ _ h => h) (Or.inl ⟨by rfl, ?_⟩) HELD.out ?_
  rotate_left
  · intro w hSw
    (try dsimp only at hSw)
    obtain ⟨q0, q1, q2⟩ := hSw
    go_simp
    try with_reducible rfl
  try simp only [Act.put, List.setIfInBounds_toArray, List.set_cons_zero, List.set_cons_succ]
  refine wpAnyH_take (i := 1) (v := ?_) (by simp only [List.getElem?_toArray, List.getElem?_cons_zero, List.getElem?_cons_succ]; rfl) (by kernel_rfl) (by kernel_rfl) (by kernel_rfl) (fun _ _ _ h => h) (Or.inl ⟨by rfl, ?_⟩) HELD.out ?_
  rotate_left
  · intro w hSw
    (try dsimp only at hSw)
    obtain ⟨q0, q1, q2⟩ := hSw
    go_simp
    try with_reducible rfl
  try simp only [Act.put, List.setIfInBounds_toArray, List.set_cons_zero, List.set_cons_succ]
  refine wpAnyH_take (i := 2) (v := ?_) (by simp only [List.getElem?_toArray, List.getElem?_cons_zero, List.getElem?_cons_succ]; rfl) (by kernel_rfl) (by kernel_rfl) (by kernel_rfl) (fun _ _ _ h => h) (Or.inl ⟨by rfl, ?_⟩) HELD.out ?_
  rotate_left
  · intro w hSw
    (try dsimp only at hSw)
    obtain ⟨q0, q1, q2⟩ := hSw
    go_simp
    try with_reducible rfl
  try simp only [Act.put, List.setIfInBounds_toArray, List.set_cons_zero, List.set_cons_succ]
  refine wpAnyH_take (i := 3) (v := ?_) (by simp only [List.getElem?_toArray, List.getElem?_cons_zero, List.getElem?_cons_succ]; rfl) (by kernel_rfl) (by kernel_rfl) (by kernel_rfl) (fun _ _ _ h => h) (Or.inl ⟨by rfl, ?_⟩) HELD.out ?_
  rotate_left
  · intro w hSw
    (try dsimp only at hSw)
    obtain ⟨q0, q1, q2⟩ := hSw
    go_simp
    try with_reducible rfl
  try simp only [Act.put, List.setIfInBounds_toArray, List.set_cons_zero, List.set_cons_succ]
  refine wpAnyH_take (i := 4) (v := ?_) (by simp only [List.getElem?_toArray, List.getElem?_cons_zero, List.getElem?_cons_succ]; rfl) (by kernel_rfl) (by kernel_rfl) (by kernel_rfl) (fun _ _ _ h => h) (Or.inl ⟨by rfl, ?_⟩) HELD.out ?_
  rotate_left
  · intro w hSw
    (try dsimp only at hSw)
    obtain ⟨q0, q1, q2⟩ := hSw
    go_simp
    try with_reducible rfl
  try simp only [Act.put, List.setIfInBounds_toArray, List.set_cons_zero, List.set_cons_succ]
  refine wpAnyH_take (i := 5) (v := ?_) (by simp only [List.getElem?_toArray, List.getElem?_cons_zero, List.getElem?_cons_succ]; rfl) (by kernel_rfl) (by kernel_rfl) (by kernel_rfl) (fun _ _ _ h => h) (Or.inl ⟨by rfl, ?_⟩) HELD.out ?_
  rotate_left
  · intro w hSw
    (try dsimp only at hSw)
    obtain ⟨q0, q1, q2⟩ := hSw
    go_simp
    try with_reducible rfl
  try simp only [Act.put, List.setIfInBounds_toArray, List.set_cons_zero, List.set_cons_succ]
  refine wpAnyH_take (i := 6) (v := ?_) (by simp only [List.getElem?_toArray, List.getElem?_cons_zero, List.getElem?_cons_succ]; rfl) (by kernel_rfl) (by kernel_rfl) (by kernel_rfl) (fun _ _ _ h => h) (Or.inl ⟨by rfl, ?_⟩) HELD.out ?_
  rotate_left
  · intro w hSw
    (try dsimp only at hSw)
    obtain ⟨q0, q1, q2⟩ := hSw
    go_simp
    try with_reducible rfl
  try simp only [Act.put, List.setIfInBounds_toArray, List.set_cons_zero, List.set_cons_succ]
  refine wpAnyH_take (i := 7) (v := ?_) (by simp only [List.getElem?_toArray, List.getElem?_cons_zero, List.getElem?_cons_succ]; rfl) (by kernel_rfl) (by kernel_rfl) (by kernel_rfl) (fun _ _ _ h => h) (Or.inl ⟨by rfl, ?_⟩) HELD.out ?_
  rotate_left
  · intro w hSw
    (try dsimp only at hSw)
    obtain ⟨q0, q1, q2⟩ := hSw
    go_simp
    try with_reducible rfl
  try simp only [Act.put, List.setIfInBounds_toArray, List.set_cons_zero, List.set_cons_succ]
  refine wpAnyH_take (i := 8) (v := ?_) (by simp only [List.getElem?_toArray, List.getElem?_cons_zero, List.getElem?_cons_succ]; rfl) (by kernel_rfl) (by kernel_rfl) (by kernel_rfl) (fun _ _ _ h => h) (Or.inl ⟨by rfl, ?_⟩) HELD.out ?_
  rotate_left
  · intro w hSw
    (try dsimp only at hSw)
    obtain ⟨q0, q1, q2⟩ := hSw
    go_simp
    try with_reducible rfl
  try simp only [Act.put, List.setIfInBounds_toArray, List.set_cons_zero, List.set_cons_succ]
  refine wpAnyH_take (i := 9) (v := ?_) (by simp only [List.getElem?_toArray, List.getElem?_cons_zero, List.getElem?_cons_succ]; rfl) (by kernel_rfl) (by kernel_rfl) (by kernel_rfl) (fun _ _ _ h => h) (Or.inl ⟨by rfl, ?_⟩) HELD.out ?_
  rotate_left
  · intro w hSw
    (try dsimp only at hSw)
    obtain ⟨q0, q1, q2⟩ := hSw
    go_simp
    try with_reducible rfl
  try simp only [Act.put, List.setIfInBounds_toArray, List.set_cons_zero, List.set_cons_succ]
  refine wpAnyH_take (i := 10) (v := ?_) (by simp only [List.getElem?_toArray, List.getElem?_cons_zero, List.getElem?_cons_succ]; rfl) (by kernel_rfl) (by kernel_rfl) (by kernel_rfl) (fun _ _ _ h => h) (Or.inl ⟨by rfl, ?_⟩) HELD.out ?_
  rotate_left
  · intro w hSw
    (try dsimp only at hSw)
    obtain ⟨q0, q1, q2⟩ := hSw
    go_simp
    try with_reducible rfl
  try simp only [Act.put, List.setIfInBounds_toArray, List.set_cons_zero, List.set_cons_succ]
  refine wpAnyH_take (i := 11) (v := ?_) (by simp only [List.getElem?_toArray, List.getElem?_cons_zero, List.getElem?_cons_succ]; rfl) (by kernel_rfl) (by kernel_rfl) (by kernel_rfl) (fun _ _ _ h => h) (Or.inl ⟨by rfl, ?_⟩) HELD.out ?_
  rotate_left
  · intro w hSw
    (try dsimp only at hSw)
    obtain ⟨q0, q1, q2⟩ := hSw
    go_simp
    try with_reducible rfl
  try simp only [Act.put, List.setIfInBounds_toArray, List.set_cons_zero, List.set_cons_succ]
  refine wpAnyH_take (i := 12) (v := ?_) (by simp only [List.getElem?_toArray, List.getElem?_cons_zero, List.getElem?_cons_succ]; rfl) (by kernel_rfl) (by kernel_rfl) (by kernel_rfl) (fun _ _ _ h => h) (Or.inl ⟨by rfl, ?_⟩) HELD.out ?_
  rotate_left
  · intro w hSw
    (try dsimp only at hSw)
    obtain ⟨q0, q1, q2⟩ := hSw
    go_simp
    try with_reducible rfl
  try simp only [Act.put, List.setIfInBounds_toArray, List.set_cons_zero, List.set_cons_succ]
  refine wpAnyH_done (by kernel_rfl) ?_ _
  unfold LastQ wpOp
  simp only [List.getElem?_toArray, List.getElem?_cons_zero, List.getElem?_cons_succ]
  rw [if_pos (by rfl)]
  refine Or.inl ?_
  go_simp
  refine NoPanic.normal ?_
  exact hK Y0 _ _ _ _ _ _ _ _ _ _ _ _ _ HY0.out


noncomputable def codeNVal17 : Code := ((Try.f5.body.bind (findRegion 17)).getD .skip)
set_option maxRecDepth 100000 in
set_option maxHeartbeats 25600000 in
theorem reg_NVal17 (RX C5 b off k j n1 nn cc ND nl WD wl x : Nat) (y : Bool) (wv : List Bool) (X0 : World)
    (hR : X0.cell? ⟨RX, 2, none⟩ = some (.slice (some ⟨b, off, .none⟩) nn cc)) (hC : X0.cell? ⟨C5, 0, none⟩ = some (.int .i64 n1)) (hkj : k = n1 + j) (hk : j < nn) (hX : X0.cell? ⟨b, off + j * 3, none⟩ = some (.int .u32 x)) (hN : X0.cell? ⟨ND, k + 1, none⟩ = some (.bool y)) (hkn : k + 1 < nl) (hk9 : k < 1000000000)
    (hW : X0.heap[WD]? = some (.cells (bcells wv) 4 (0, 0))) (hwl : wv.length = wl) (hu : x / 2 < wl) (hx32 : x < 4294967296)
    (QQ : Exit → Act → World → Prop) {v0 v1 v3 v4 v6 v7 v11 v12 v13 v14 v15 v16 v17 v18 v19 v20 v21 v22 v23 v24 v25 v26 v27 v28 v29 v30 v31 v32 v33 v34 v35 v36 v37 v38 v39 v40 v41 v42 v43 v44 v45 v46 v47 v48 v49 v50 v51 v52 v53 v54 v55 v56 v57 v58 v59 v60 v61 v62 v63 v64 v65 v66 v67 v68 v69 v70 v71 v72 v73 v74 v75 v76 v77 v78 v79 v80 v81 v82 v83 v84 v85 v86 v87 v88 v89 v90 v91 v92 v93 v94 v95 v96 v97 v98 v99 v100 v101 v102 v103 v104 v105 v106 v107 v108 v109 v110 v111 v112 v113 v114 v115 v116 v117 v118 v119 v120 v121 v122 v123 v124 v125 v126 v127 v128 v129 v130 v131 v132 v133 v134 v135 v136 v137 v138 v139 v140 v141 v142 v143 v144 v145 v146 v147 v148 v149 v150 v151 v152 v153 v154 v155 v156 v157 v158 v159 v160 v161 v162 v163 v164 v165 v166 v167 v168 v169 v170 v171 v172 v173 v174 v175 v176 v177 v178 v179 v180 v181 v182 v183 v184 v185 v186 v187 v188 v189 v190 v191 v192 v193 v194 v195 v196 v197 v198 v199 v200 v201 v202 v203 v204 v205 v206 v207 v208 v209 v210 v211 v212 v213 v214 v215 v216 v217 v218 v219 v220 v221 v222 v223 v224 v225 v226 v227 v228 v229 v230 v231 v232 v233 v234 v235 v236 v237 v238 v239 v240 v241 v242 v243 v244 v245 v246 v247 v248 v249 v250 v251 v252 v253 v254 v255 v256 v257 v258 v259 v260 v261 v262 v263 v264 v265 v266 v267 v268 v269 v270 v271 v272 v273 v274 v275 v276 v277 v278 v279 v280 : Value}
    (hK : ∀ (Y0 : World) (u124 u125 u126 u127 u128 u129 u130 u131 u132 u133 u134 u135 u136 u137 u138 u139 u140 : Value), Below X0.heap.size X0 Y0 → QQ .normal ⟨#[v0, v1, .pointer (some ⟨RX, 0, .none⟩), v3, v4, .pointer (some ⟨C5, 0, .none⟩), v6, v7, .slice (some ⟨ND, 0, none⟩) nl nl, .slice (some ⟨WD, 0, none⟩) wl wl, 
      .int .i64 k, v11, v12, v13, v14, v15, v16, v17, v18, v19, v20, v21, v22, v23, v24, v25, v26, v27, v28, v29, v30, v31, v32, v33, v34, v35, v36, v37, v38, 
      v39, v40, v41, v42, v43, v44, v45, v46, v47, v48, v49, v50, v51, v52, v53, v54, v55, v56, v57, v58, v59, v60, v61, v62, v63, v64, v65, v66, v67, v68, v69, 
      v70, v71, v72, v73, v74, v75, v76, v77, v78, v79, v80, v81, v82, v83, v84, v85, v86, v87, v88, v89, v90, v91, v92, v93, v94, v95, v96, v97, v98, v99, v100, 
      v101, v102, v103, v104, v105, v106, v107, v108, v109, v110, v111, v112, v113, v114, v115, v116, v117, v118, v119, v120, v121, v122, v123, u124, u125, u126, 
      u127, u128, u129, u130, u131, u132, u133, u134, u135, u136, u137, u138, u139, u140, v141, v142, v143, v144, v145, v146, v147, v148, v149, v150, v151, v152, 
      v153, v154, v155, v156, v157, v158, v159, v160, v161, v162, v163, v164, v165, v166, v167, v168, v169, v170, v171, v172, v173, v174, v175, v176, v177, v178, 
      v179, v180, v181, v182, v183, v184, v185, v186, v187, v188, v189, v190, v191, v192, v193, v194, v195, v196, v197, v198, v199, v200, v201, v202, v203, v204, 
      v205, v206, v207, v208, v209, v210, v211, v212, v213, v214, v215, v216, v217, v218, v219, v220, v221, v222, v223, v224, v225, v226, v227, v228, v229, v230, 
      v231, v232, v233, v234, v235, v236, v237, v238, v239, v240, v241, v242, v243, v244, v245, v246, v247, v248, v249, v250, v251, v252, v253, v254, v255, v256, 
      v257, v258, v259, v260, v261, v262, v263, v264, v265, v266, v267, v268, v269, v270, v271, v272, v273, v274, v275, v276, v277, v278, v279, v280], []⟩ (Y0.setCell ⟨WD, x / 2, none⟩ (.bool y))) :
    Code.wp Try.prog codeNVal17 QQ ⟨#[v0, v1, .pointer (some ⟨RX, 0, .none⟩), v3, v4, .pointer (some ⟨C5, 0, .none⟩), v6, v7, .slice (some ⟨ND, 0, none⟩) nl nl, .slice (some ⟨WD, 0, none⟩) wl wl, 
      .int .i64 k, v11, v12, v13, v14, v15, v16, v17, v18, v19, v20, v21, v22, v23, v24, v25, v26, v27, v28, v29, v30, v31, v32, v33, v34, v35, v36, v37, v38, 
      v39, v40, v41, v42, v43, v44, v45, v46, v47, v48, v49, v50, v51, v52, v53, v54, v55, v56, v57, v58, v59, v60, v61, v62, v63, v64, v65, v66, v67, v68, v69, 
      v70, v71, v72, v73, v74, v75, v76, v77, v78, v79, v80, v81, v82, v83, v84, v85, v86, v87, v88, v89, v90, v91, v92, v93, v94, v95, v96, v97, v98, v99, v100, 
      v101, v102, v103, v104, v105, v106, v107, v108, v109, v110, v111, v112, v113, v114, v115, v116, v117, v118, v119, v120, v121, v122, v123, v124, v125, v126, 
      v127, v128, v129, v130, v131, v132, v133, v134, v135, v136, v137, v138, v139, v140, v141, v142, v143, v144, v145, v146, v147, v148, v149, v150, v151, v152, 
      v153, v154, v155, v156, v157, v158, v159, v160, v161, v162, v163, v164, v165, v166, v167, v168, v169, v170, v171, v172, v173, v174, v175, v176, v177, v178, 
      v179, v180, v181, v182, v183, v184, v185, v186, v187, v188, v189, v190, v191, v192, v193, v194, v195, v196, v197, v198, v199, v200, v201, v202, v203, v204, 
      v205, v206, v207, v208, v209, v210, v211, v212, v213, v214, v215, v216, v217, v218, v219, v220, v221, v222, v223, v224, v225, v226, v227, v228, v229, v230, 
      v231, v232, v233, v234, v235, v236, v237, v238, v239, v240, v241, v242, v243, v244, v245, v246, v247, v248, v249, v250, v251, v252, v253, v254, v255, v256, 
      v257, v258, v259, v260, v261, v262, v263, v264, v265, v266, v267, v268, v269, v270, v271, v272, v273, v274, v275, v276, v277, v278, v279, v280], []⟩ X0 := by
  have D1 : Int.tdiv (x : Int) 2 = ((x / 2 : Nat) : Int) := by rw [Int.tdiv_eq_ediv_of_nonneg (by omega)]; omega
  obtain ⟨u, huu⟩ : ∃ u, u = x / 2 := ⟨_, rfl⟩
  rw [← huu] at D1 hK hu
  have hu3 : u < 4294967296 := by omega
  have U1 : IntKind.u32.wrap ((u : Nat) : Int) = (u : Int) := IntWalk.u32_in _ (by omega)
  clear huu
  have W1 : IntKind.i64.wrap ((k : Int) + 1) = (k : Int) + 1 := IntWalk.i64_in _ (by omega)
  have hi1 : 0 ≤ (k : Int) + 1 := by omega
  have hi2 : (k : Int) + 1 < (nl : Int) := by omega
  have W2 : IntKind.i64.wrap ((k : Int) - (n1 : Int)) = (j : Int) := by rw [IntWalk.i64_in _ (by omega)]; omega
  clear hkj
  conv => arg 2; whnf
  refine wp_region_noPanic ?_
  refine wp_region_peelN 17 (by kernel_rfl) rfl (by simp only [List.getElem?_toArray, List.getElem?_cons_zero, List.getElem?_cons_succ]; rfl) (by kernel_rfl) ?_
  simp only [List.pop_toArray, List.dropLast_cons_cons, List.dropLast_singleton]
  refine wpAny_of_held (S := fun w' => w'.cell? ⟨RX, 2, none⟩ = some (.slice (some ⟨b, off, .none⟩) nn cc) ∧ w'.cell? ⟨C5, 0, none⟩ = some (.int .i64 n1) ∧ w'.cell? ⟨b, off + j * 3, none⟩ = some (.int .u32 x) ∧ w'.cell? ⟨ND, k + 1, none⟩ = some (.bool y)) _ _ _ _ ?_
  generalize hY : X0.drew = Y0
  have hY0 : Below X0.heap.size X0 Y0 := by subst hY; exact (Below.refl _ _).drew
  have HELD : Hid (Y0.cell? ⟨RX, 2, none⟩ = some (.slice (some ⟨b, off, .none⟩) nn cc) ∧ Y0.cell? ⟨C5, 0, none⟩ = some (.int .i64 n1) ∧ Y0.cell? ⟨b, off + j * 3, none⟩ = some (.int .u32 x) ∧ Y0.cell? ⟨ND, k + 1, none⟩ = some (.bool y)) := ⟨cell_below hR hY0, cell_below hC hY0, cell_below hX hY0, cell_below hN hY0⟩
  have z0 : Y0.cell? ⟨WD, u, none⟩ = some (.bool (wv.getD u false)) := (cell_of_block (heap_below hW hY0) u).trans (bcells_get wv u (by omega))
  have z1 := unfrozen_of_block (heap_below hW hY0) u
  have HY0 := Lib.hid hY0
  clear hY hY0 hW hR hC hX hN
  refine wpAnyH_take (i := 0) (v := ?_) (by simp only [List.getElem?_toArray, List.getElem?_cons_zero]; rfl) (by kernel_rfl) (by kernel_rfl) (by kernel_rfl) (fun _ _ _ h => h) (Or.inl ⟨by rfl, ?_⟩) HELD.out ?_
  rotate_left
  · intro w hSw
    (try dsimp only at hSw)
    obtain ⟨q0, q1, q2, q3⟩ := hSw
    go_simp
    try with_reducible rfl
  try simp only [Act.put, List.setIfInBounds_toArray, List.set_cons_zero, List.set_cons_succ]
  refine wpAnyH_take (i := 1) (v := ?_) (by simp only [List.getElem?_toArray, List.getElem?_cons_zero, List.getElem?_cons_succ]; rfl) (by kernel_rfl) (by kernel_rfl) (by kernel_rfl) (fun _ _ _ h => h) (Or.inl ⟨by rfl, ?_⟩) HELD.out ?_
  rotate_left
  · intro w hSw
    (try dsimp only at hSw)
    obtain ⟨q0, q1, q2, q3⟩ := hSw
    go_simp
    try with_reducible rfl
  try simp only [Act.put, List.setIfInBounds_toArray, List.set_cons_zero, List.set_cons_succ]
  refine wpAnyH_take (i := 2) (v := ?_) (by simp only [List.getElem?_toArray, List.getElem?_cons_zero, List.getElem?_cons_succ]; rfl) (by kernel_rfl) (by kernel_rfl) (by kernel_rfl) (fun _ _ _ h => h) (Or.inl ⟨by rfl, ?_⟩) HELD.out ?_
  rotate_left
  · intro w hSw
    (try dsimp only at hSw)
    obtain ⟨q0, q1, q2, q3⟩ := hSw
    go_simp
    try with_reducible rfl
  try simp only [Act.put, List.setIfInBounds_toArray, List.set_cons_zero, List.set_cons_succ]
  refine wpAnyH_take (i := 3) (v := ?_) (by simp only [List.getElem?_toArray, List.getElem?_cons_zero, List.getElem?_cons_succ]; rfl) (by kernel_rfl) (by kernel_rfl) (by kernel_rfl) (fun _ _ _ h => h) (Or.inl ⟨by rfl, ?_⟩) HELD.out ?_
  rotate_left
  · intro w hSw
    (try dsimp only at hSw)
    obtain ⟨q0, q1, q2, q3⟩ := hSw
    go_simp
    try with_reducible rfl
  try simp only [Act.put, List.setIfInBounds_toArray, List.set_cons_zero, List.set_cons_succ]
  refine wpAnyH_take (i := 4) (v := ?_) (by simp only [List.getElem?_toArray, List.getElem?_cons_zero, List.getElem?_cons_succ]; rfl) (by kernel_rfl) (by kernel_rfl) (by kernel_rfl) (fun _ _ _ h => h) (Or.inl ⟨by rfl, ?_⟩) HELD.out ?_
  rotate_left
  · intro w hSw
    (try dsimp only at hSw)
    obtain ⟨q0, q1, q2, q3⟩ := hSw
    go_simp
    try with_reducible rfl
  try simp only [Act.put, List.setIfInBounds_toArray, List.set_cons_zero, List.set_cons_succ]
  refine wpAnyH_take (i := 5) (v := ?_) (by simp only [List.getElem?_toArray, List.getElem?_cons_zero, List.getElem?_cons_succ]; rfl) (by kernel_rfl) (by kernel_rfl) (by kernel_rfl) (fun _ _ _ h => h) (Or.inl ⟨by rfl, ?_⟩) HELD.out ?_
  rotate_left
  · intro w hSw
    (try dsimp only at hSw)
    obtain ⟨q0, q1, q2, q3⟩ := hSw
    go_simp
    try with_reducible rfl
  try simp only [Act.put, List.setIfInBounds_toArray, List.set_cons_zero, List.set_cons_succ]
  refine wpAnyH_take (i := 6) (v := ?_) (by simp only [List.getElem?_toArray, List.getElem?_cons_zero, List.getElem?_cons_succ]; rfl) (by kernel_rfl) (by kernel_rfl) (by kernel_rfl) (fun _ _ _ h => h) (Or.inl ⟨by rfl, ?_⟩) HELD.out ?_
  rotate_left
  · intro w hSw
    (try dsimp only at hSw)
    obtain ⟨q0, q1, q2, q3⟩ := hSw
    go_simp
    try with_reducible rfl
  try simp only [Act.put, List.setIfInBounds_toArray, List.set_cons_zero, List.set_cons_succ]
  refine wpAnyH_take (i := 7) (v := ?_) (by simp only [List.getElem?_toArray, List.getElem?_cons_zero, List.getElem?_cons_succ]; rfl) (by kernel_rfl) (by kernel_rfl) (by kernel_rfl) (fun _ _ _ h => h) (Or.inl ⟨by rfl, ?_⟩) HELD.out ?_
  rotate_left
  · intro w hSw
    (try dsimp only at hSw)
    obtain ⟨q0, q1, q2, q3⟩ := hSw
    go_simp
    try with_reducible rfl
  try simp only [Act.put, List.setIfInBounds_toArray, List.set_cons_zero, List.set_cons_succ]
  refine wpAnyH_take (i := 8) (v := ?_) (by simp only [List.getElem?_toArray, List.getElem?_cons_zero, List.getElem?_cons_succ]; rfl) (by kernel_rfl) (by kernel_rfl) (by kernel_rfl) (fun _ _ _ h => h) (Or.inl ⟨by rfl, ?_⟩) HELD.out ?_
  rotate_left
  · intro w hSw
    (try dsimp only at hSw)
    obtain ⟨q0, q1, q2, q3⟩ := hSw
    go_simp
    try with_reducible rfl
  try simp only [Act.put, List.setIfInBounds_toArray, List.set_cons_zero, List.set_cons_succ]
  refine wpAnyH_take (i := 9) (v := ?_) (by simp only [List.getElem?_toArray, List.getElem?_cons_zero, List.getElem?_cons_succ]; rfl) (by kernel_rfl) (by kernel_rfl) (by kernel_rfl) (fun _ _ _ h => h) (Or.inl ⟨by rfl, ?_⟩) HELD.out ?_
  rotate_left
  · intro w hSw
    (try dsimp only at hSw)
    obtain ⟨q0, q1, q2, q3⟩ := hSw
    go_simp
    try with_reducible rfl
  try simp only [Act.put, List.setIfInBounds_toArray, List.set_cons_zero, List.set_cons_succ]
  refine wpAnyH_take (i := 10) (v := ?_) (by simp only [List.getElem?_toArray, List.getElem?_cons_zero, List.getElem?_cons_succ]; rfl) (by kernel_rfl) (by kernel_rfl) (by kernel_rfl) (fun _ _ _ h => h) (Or.inl ⟨by rfl, ?_⟩) HELD.out ?_
  rotate_left
  · intro w hSw
    (try dsimp only at hSw)
    obtain ⟨q0, q1, q2, q3⟩ := hSw
    go_simp
    try with_reducible rfl
  try simp only [Act.put, List.setIfInBounds_toArray, List.set_cons_zero, List.set_cons_succ]
  refine wpAnyH_take (i := 11) (v := ?_) (by simp only [List.getElem?_toArray, List.getElem?_cons_zero, List.getElem?_cons_succ]; rfl) (by kernel_rfl) (by kernel_rfl) (by kernel_rfl) (fun _ _ _ h => h) (Or.inl ⟨by rfl, ?_⟩) HELD.out ?_
  rotate_left
  · intro w hSw
    (try dsimp only at hSw)
    obtain ⟨q0, q1, q2, q3⟩ := hSw
    go_simp
    try with_reducible rfl
  try simp only [Act.put, List.setIfInBounds_toArray, List.set_cons_zero, List.set_cons_succ]
  refine wpAnyH_take (i := 12) (v := ?_) (by simp only [List.getElem?_toArray, List.getElem?_cons_zero, List.getElem?_cons_succ]; rfl) (by kernel_rfl) (by kernel_rfl) (by kernel_rfl) (fun _ _ _ h => h) (Or.inl ⟨by rfl, ?_⟩) HELD.out ?_
  rotate_left
  · intro w hSw
    (try dsimp only at hSw)
    obtain ⟨q0, q1, q2, q3⟩ := hSw
    go_simp
    try with_reducible rfl
  try simp only [Act.put, List.setIfInBounds_toArray, List.set_cons_zero, List.set_cons_succ]
  refine wpAnyH_take (i := 13) (v := ?_) (by simp only [List.getElem?_toArray, List.getElem?_cons_zero, List.getElem?_cons_succ]; rfl) (by kernel_rfl) (by kernel_rfl) (by kernel_rfl) (fun _ _ _ h => h) (Or.inl ⟨by rfl, ?_⟩) HELD.out ?_
  rotate_left
  · intro w hSw
    (try dsimp only at hSw)
    obtain ⟨q0, q1, q2, q3⟩ := hSw
    go_simp
    try with_reducible rfl
  try simp only [Act.put, List.setIfInBounds_toArray, List.set_cons_zero, List.set_cons_succ]
  refine wpAnyH_take (i := 14) (v := ?_) (by simp only [List.getElem?_toArray, List.getElem?_cons_zero, List.getElem?_cons_succ]; rfl) (by kernel_rfl) (by kernel_rfl) (by kernel_rfl) (fun _ _ _ h => h) (Or.inl ⟨by rfl, ?_⟩) HELD.out ?_
  rotate_left
  · intro w hSw
    (try dsimp only at hSw)
    obtain ⟨q0, q1, q2, q3⟩ := hSw
    go_simp
    try with_reducible rfl
  try simp only [Act.put, List.setIfInBounds_toArray, List.set_cons_zero, List.set_cons_succ]
  refine wpAnyH_take (i := 15) (v := ?_) (by simp only [List.getElem?_toArray, List.getElem?_cons_zero, List.getElem?_cons_succ]; rfl) (by kernel_rfl) (by kernel_rfl) (by kernel_rfl) (fun _ _ _ h => h) (Or.inl ⟨by rfl, ?_⟩) HELD.out ?_
  rotate_left
  · intro w hSw
    (try dsimp only at hSw)
    obtain ⟨q0, q1, q2, q3⟩ := hSw
    go_simp
    try with_reducible rfl
  try simp only [Act.put, List.setIfInBounds_toArray, List.set_cons_zero, List.set_cons_succ]
  refine wpAnyH_take (i := 16) (v := ?_) (by simp only [List.getElem?_toArray, List.getElem?_cons_zero, List.getElem?_cons_succ]; rfl) (by kernel_rfl) (by kernel_rfl) (by kernel_rfl) (fun _ _ _ h => h) (Or.inl ⟨by rfl, ?_⟩) HELD.out ?_
  rotate_left
  · intro w hSw
    (try dsimp only at hSw)
    obtain ⟨q0, q1, q2, q3⟩ := hSw
    go_simp
    try with_reducible rfl
  try simp only [Act.put, List.setIfInBounds_toArray, List.set_cons_zero, List.set_cons_succ]
  refine wpAnyH_done (by kernel_rfl) ?_ _
  unfold LastQ wpOp
  simp only [List.getElem?_toArray, List.getElem?_cons_zero, List.getElem?_cons_succ]
  rw [if_pos (by rfl)]
  refine Or.inl ?_
  go_simp
  refine NoPanic.normal ?_
  exact hK Y0 _ _ _ _ _ _ _ _ _ _ _ _ _ _ _ _ _ HY0.out


noncomputable def codeNVal28 : Code := ((Try.f5.body.bind (findRegion 28)).getD .skip)
set_option maxRecDepth 100000 in
set_option maxHeartbeats 25600000 in
theorem reg_NVal28 (G WD wl x y z : Nat) (p1 p2 : Bool) (wv : List Bool) (X0 : World)
    (hne : G ≠ WD) (h0 : X0.cell? ⟨G, 0, none⟩ = some (.int .u32 x)) (h1 : X0.cell? ⟨G, 1, none⟩ = some (.int .u32 y)) (h2 : X0.cell? ⟨G, 2, none⟩ = some (.int .u32 z))
    (E1 : Hid (∀ W, Below X0.heap.size X0 W → Calls Try.prog 27 #[.slice (some ⟨WD, 0, none⟩) wl wl, .int .u32 (y : Int)] W fun e w' => e = .returned (.bool p1) ∧ w' = W))
    (E2 : Hid (∀ W, Below X0.heap.size X0 W → Calls Try.prog 27 #[.slice (some ⟨WD, 0, none⟩) wl wl, .int .u32 (z : Int)] W fun e w' => e = .returned (.bool p2) ∧ w' = W))
    (hW : X0.heap[WD]? = some (.cells (bcells wv) 4 (0, 0))) (hwl : wv.length = wl) (hu : x / 2 < wl) (hx32 : x < 4294967296)
    (QQ : Exit → Act → World → Prop) {v0 v1 v2 v3 v4 v5 v6 v7 v8 v10 v11 v12 v13 v15 v16 v17 v18 v19 v20 v21 v22 v23 v24 v25 v26 v27 v28 v29 v30 v31 v32 v33 v34 v35 v36 v37 v38 v39 v40 v41 v42 v43 v44 v45 v46 v47 v48 v49 v50 v51 v52 v53 v54 v55 v56 v57 v58 v59 v60 v61 v62 v63 v64 v65 v66 v67 v68 v69 v70 v71 v72 v73 v74 v75 v76 v77 v78 v79 v80 v81 v82 v83 v84 v85 v86 v87 v88 v89 v90 v91 v92 v93 v94 v95 v96 v97 v98 v99 v100 v101 v102 v103 v104 v105 v106 v107 v108 v109 v110 v111 v112 v113 v114 v115 v116 v117 v118 v119 v120 v121 v122 v123 v124 v125 v126 v127 v128 v129 v130 v131 v132 v133 v134 v135 v136 v137 v138 v139 v140 v141 v142 v143 v144 v145 v146 v147 v148 v149 v150 v151 v152 v153 v154 v155 v156 v157 v158 v159 v160 v161 v162 v163 v164 v165 v166 v167 v168 v169 v170 v171 v172 v173 v174 v175 v176 v177 v178 v179 v180 v181 v182 v183 v184 v185 v186 v187 v188 v189 v190 v191 v192 v193 v194 v195 v196 v197 v198 v199 v200 v201 v202 v203 v204 v205 v206 v207 v208 v209 v210 v211 v212 v213 v214 v215 v216 v217 v218 v219 v220 v221 v222 v223 v224 v225 v226 v227 v228 v229 v230 v231 v232 v233 v234 v235 v236 v237 v238 v239 v240 v241 v242 v243 v244 v245 v246 v247 v248 v249 v250 v251 v252 v253 v254 v255 v256 v257 v258 v259 v260 v261 v262 v263 v264 v265 v266 v267 v268 v269 v270 v271 v272 v273 v274 v275 v276 v277 v278 v279 v280 : Value}
    (hK : ∀ (Y0 : World) (u178 u179 u180 u181 u182 u183 u184 u185 u186 u187 u188 u189 u190 u191 u192 : Value), Below X0.heap.size X0 Y0 → QQ .normal ⟨#[v0, v1, v2, v3, v4, v5, v6, v7, v8, .slice (some ⟨WD, 0, none⟩) wl wl, v10, v11, v12, v13, .pointer (some ⟨G, 0, .none⟩), v15, v16, v17, v18, v19, v20, 
      v21, v22, v23, v24, v25, v26, v27, v28, v29, v30, v31, v32, v33, v34, v35, v36, v37, v38, v39, v40, v41, v42, v43, v44, v45, v46, v47, v48, v49, v50, v51, 
      v52, v53, v54, v55, v56, v57, v58, v59, v60, v61, v62, v63, v64, v65, v66, v67, v68, v69, v70, v71, v72, v73, v74, v75, v76, v77, v78, v79, v80, v81, v82, 
      v83, v84, v85, v86, v87, v88, v89, v90, v91, v92, v93, v94, v95, v96, v97, v98, v99, v100, v101, v102, v103, v104, v105, v106, v107, v108, v109, v110, 
      v111, v112, v113, v114, v115, v116, v117, v118, v119, v120, v121, v122, v123, v124, v125, v126, v127, v128, v129, v130, v131, v132, v133, v134, v135, v136, 
      v137, v138, v139, v140, v141, v142, v143, v144, v145, v146, v147, v148, v149, v150, v151, v152, v153, v154, v155, v156, v157, v158, v159, v160, v161, v162, 
      v163, v164, v165, v166, v167, v168, v169, v170, v171, v172, v173, v174, v175, v176, v177, u178, u179, u180, u181, u182, u183, u184, u185, u186, u187, u188, 
      u189, u190, u191, u192, v193, v194, v195, v196, v197, v198, v199, v200, v201, v202, v203, v204, v205, v206, v207, v208, v209, v210, v211, v212, v213, v214, 
      v215, v216, v217, v218, v219, v220, v221, v222, v223, v224, v225, v226, v227, v228, v229, v230, v231, v232, v233, v234, v235, v236, v237, v238, v239, v240, 
      v241, v242, v243, v244, v245, v246, v247, v248, v249, v250, v251, v252, v253, v254, v255, v256, v257, v258, v259, v260, v261, v262, v263, v264, v265, v266, 
      v267, v268, v269, v270, v271, v272, v273, v274, v275, v276, v277, v278, v279, v280], []⟩ (Y0.setCell ⟨WD, x / 2, none⟩ (.bool (p1 && p2)))) :
    Code.wp Try.prog codeNVal28 QQ ⟨#[v0, v1, v2, v3, v4, v5, v6, v7, v8, .slice (some ⟨WD, 0, none⟩) wl wl, v10, v11, v12, v13, .pointer (some ⟨G, 0, .none⟩), v15, v16, v17, v18, v19, v20, 
      v21, v22, v23, v24, v25, v26, v27, v28, v29, v30, v31, v32, v33, v34, v35, v36, v37, v38, v39, v40, v41, v42, v43, v44, v45, v46, v47, v48, v49, v50, v51, 
      v52, v53, v54, v55, v56, v57, v58, v59, v60, v61, v62, v63, v64, v65, v66, v67, v68, v69, v70, v71, v72, v73, v74, v75, v76, v77, v78, v79, v80, v81, v82, 
      v83, v84, v85, v86, v87, v88, v89, v90, v91, v92, v93, v94, v95, v96, v97, v98, v99, v100, v101, v102, v103, v104, v105, v106, v107, v108, v109, v110, 
      v111, v112, v113, v114, v115, v116, v117, v118, v119, v120, v121, v122, v123, v124, v125, v126, v127, v128, v129, v130, v131, v132, v133, v134, v135, v136, 
      v137, v138, v139, v140, v141, v142, v143, v144, v145, v146, v147, v148, v149, v150, v151, v152, v153, v154, v155, v156, v157, v158, v159, v160, v161, v162, 
      v163, v164, v165, v166, v167, v168, v169, v170, v171, v172, v173, v174, v175, v176, v177, v178, v179, v180, v181, v182, v183, v184, v185, v186, v187, v188, 
      v189, v190, v191, v192, v193, v194, v195, v196, v197, v198, v199, v200, v201, v202, v203, v204, v205, v206, v207, v208, v209, v210, v211, v212, v213, v214, 
      v215, v216, v217, v218, v219, v220, v221, v222, v223, v224, v225, v226, v227, v228, v229, v230, v231, v232, v233, v234, v235, v236, v237, v238, v239, v240, 
      v241, v242, v243, v244, v245, v246, v247, v248, v249, v250, v251, v252, v253, v254, v255, v256, v257, v258, v259, v260, v261, v262, v263, v264, v265, v266, 
      v267, v268, v269, v270, v271, v272, v273, v274, v275, v276, v277, v278, v279, v280], []⟩ X0 := by
  have D1 : Int.tdiv (x : Int) 2 = ((x / 2 : Nat) : Int) := by rw [Int.tdiv_eq_ediv_of_nonneg (by omega)]; omega
  obtain ⟨u, huu⟩ : ∃ u, u = x / 2 := ⟨_, rfl⟩
  rw [← huu] at D1 hK hu
  have hu3 : u < 4294967296 := by omega
  have U1 : IntKind.u32.wrap ((u : Nat) : Int) = (u : Int) := IntWalk.u32_in _ (by omega)
  clear huu
  skip
  conv => arg 2; whnf
  refine wp_region_noPanic ?_
  refine wp_region_held (S := fun w' => w'.cell? ⟨G, 0, none⟩ = some (.int .u32 x) ∧ w'.cell? ⟨G, 1, none⟩ = some (.int .u32 y) ∧ w'.cell? ⟨G, 2, none⟩ = some (.int .u32 z)) (by kernel_rfl) ?_
  generalize hY : ({ X0 with drawn := X0.drawn + 1 } : World) = Y0
  have hY0 : Below X0.heap.size X0 Y0 := by subst hY; exact (Below.refl _ _).drew
  have HELD : Hid (Y0.cell? ⟨G, 0, none⟩ = some (.int .u32 x) ∧ Y0.cell? ⟨G, 1, none⟩ = some (.int .u32 y) ∧ Y0.cell? ⟨G, 2, none⟩ = some (.int .u32 z)) := ⟨cell_below h0 hY0, cell_below h1 hY0, cell_below h2 hY0⟩
  have z0 : Y0.cell? ⟨WD, u, none⟩ = some (.bool (wv.getD u false)) := (cell_of_block (heap_below hW hY0) u).trans (bcells_get wv u (by omega))
  have z1 := unfrozen_of_block (heap_below hW hY0) u
  have HELD2 : Hid (∀ v : Value, ((Y0.setCell ⟨WD, u, .none⟩ v).cell? ⟨G, 0, none⟩ = some (.int .u32 x) ∧ (Y0.setCell ⟨WD, u, .none⟩ v).cell? ⟨G, 1, none⟩ = some (.int .u32 y) ∧ (Y0.setCell ⟨WD, u, .none⟩ v).cell? ⟨G, 2, none⟩ = some (.int .u32 z))) := fun v => by
    have one : ∀ j, (Y0.setCell ⟨WD, u, .none⟩ v).cell? ⟨G, j, none⟩ = Y0.cell? ⟨G, j, none⟩ := fun j => World.cell?_setCell_other _ _ _ _ (fun e => hne (by cases e; rfl))
    exact ⟨(one 0).trans (cell_below h0 hY0), (one 1).trans (cell_below h1 hY0), (one 2).trans (cell_below h2 hY0)⟩
  have HY0 := Lib.hid hY0
  clear hY hY0 hW h0 h1 h2
  refine wpAnyH_take (i := 0) (v := ?_) (by simp only [List.getElem?_toArray, List.getElem?_cons_zero]; rfl) (by kernel_rfl) (by kernel_rfl) (by kernel_rfl) (fun _ _ _ h => h) (Or.inl ⟨by rfl, ?_⟩) HELD.out ?_
  rotate_left
  · intro w hSw
    (try dsimp only at hSw)
    obtain ⟨q0, q1, q2⟩ := hSw
    go_simp
    try with_reducible rfl
  try simp only [Act.put, List.setIfInBounds_toArray, List.set_cons_zero, List.set_cons_succ]
  refine wpAnyH_take (i := 1) (v := ?_) (by simp only [List.getElem?_toArray, List.getElem?_cons_zero, List.getElem?_cons_succ]; rfl) (by kernel_rfl) (by kernel_rfl) (by kernel_rfl) (fun _ _ _ h => h) (Or.inl ⟨by rfl, ?_⟩) HELD.out ?_
  rotate_left
  · intro w hSw
    (try dsimp only at hSw)
    obtain ⟨q0, q1, q2⟩ := hSw
    go_simp
    try with_reducible rfl
  try simp only [Act.put, List.setIfInBounds_toArray, List.set_cons_zero, List.set_cons_succ]
  refine wpAnyH_take (i := 2) (v := ?_) (by simp only [List.getElem?_toArray, List.getElem?_cons_zero, List.getElem?_cons_succ]; rfl) (by kernel_rfl) (by kernel_rfl) (by kernel_rfl) (fun _ _ _ h => h) (Or.inl ⟨by rfl, ?_⟩) HELD.out ?_
  rotate_left
  · intro w hSw
    (try dsimp only at hSw)
    obtain ⟨q0, q1, q2⟩ := hSw
    go_simp
    try with_reducible rfl
  try simp only [Act.put, List.setIfInBounds_toArray, List.set_cons_zero, List.set_cons_succ]
  refine wpAnyH_take (i := 3) (v := ?_) (by simp only [List.getElem?_toArray, List.getElem?_cons_zero, List.getElem?_cons_succ]; rfl) (by kernel_rfl) (by kernel_rfl) (by kernel_rfl) (fun _ _ _ h => h) (Or.inl ⟨by rfl, ?_⟩) HELD.out ?_
  rotate_left
  · intro w hSw
    (try dsimp only at hSw)
    obtain ⟨q0, q1, q2⟩ := hSw
    go_simp
    try with_reducible rfl
  try simp only [Act.put, List.setIfInBounds_toArray, List.set_cons_zero, List.set_cons_succ]
  refine wpAnyH_take (i := 4) (v := ?_) (by simp only [List.getElem?_toArray, List.getElem?_cons_zero, List.getElem?_cons_succ]; rfl) (by kernel_rfl) (by kernel_rfl) (by kernel_rfl) (fun _ _ _ h => h) (Or.inl ⟨by rfl, ?_⟩) HELD.out ?_
  rotate_left
  · intro w hSw
    (try dsimp only at hSw)
    obtain ⟨q0, q1, q2⟩ := hSw
    go_simp
    try with_reducible rfl
  try simp only [Act.put, List.setIfInBounds_toArray, List.set_cons_zero, List.set_cons_succ]
  refine wpAnyH_take (i := 5) (v := ?_) (by simp only [List.getElem?_toArray, List.getElem?_cons_zero, List.getElem?_cons_succ]; rfl) (by kernel_rfl) (by kernel_rfl) (by kernel_rfl) (fun _ _ _ h => h) (Or.inl ⟨by rfl, ?_⟩) HELD.out ?_
  rotate_left
  · intro w hSw
    (try dsimp only at hSw)
    obtain ⟨q0, q1, q2⟩ := hSw
    go_simp
    try with_reducible rfl
  try simp only [Act.put, List.setIfInBounds_toArray, List.set_cons_zero, List.set_cons_succ]
  refine wpAnyH_take (i := 6) (v := ?_) (by simp only [List.getElem?_toArray, List.getElem?_cons_zero, List.getElem?_cons_succ]; rfl) (by kernel_rfl) (by kernel_rfl) (by kernel_rfl) (fun _ _ _ h => h) (Or.inl ⟨by rfl, ?_⟩) HELD.out ?_
  rotate_left
  · intro w hSw
    (try dsimp only at hSw)
    obtain ⟨q0, q1, q2⟩ := hSw
    go_simp
    try with_reducible rfl
  try simp only [Act.put, List.setIfInBounds_toArray, List.set_cons_zero, List.set_cons_succ]
  refine wpAnyH_ready (rs := [7]) (by kernel_rfl) (by simp) ?_
  refine AllReadyH.cons (by simp only [List.getElem?_toArray, List.getElem?_cons_zero, List.getElem?_cons_succ]; rfl) (fun K hK => ?_) AllReadyH.nil
  go_simp
  refine (E1.out Y0 HY0.out).mono ?_
  rintro e w1 ⟨rfl, rfl⟩
  refine hK.out _ _ HELD.out (fun _ => ?_)
  clear hK K
  try simp only [Act.put, List.setIfInBounds_toArray, List.set_cons_zero, List.set_cons_succ]
  refine wpAnyH_take (i := 8) (v := ?_) (by simp only [List.getElem?_toArray, List.getElem?_cons_zero, List.getElem?_cons_succ]; rfl) (by kernel_rfl) (by kernel_rfl) (by kernel_rfl) (fun _ _ _ h => h) (Or.inl ⟨by rfl, ?_⟩) HELD.out ?_
  rotate_left
  · intro w hSw
    (try dsimp only at hSw)
    obtain ⟨q0, q1, q2⟩ := hSw
    go_simp
    try with_reducible rfl
  try simp only [Act.put, List.setIfInBounds_toArray, List.set_cons_zero, List.set_cons_succ]
  cases p1 with
  | true =>
    refine wpAnyH_take (i := 9) (v := ?_) (by simp only [List.getElem?_toArray, List.getElem?_cons_zero, List.getElem?_cons_succ]; rfl) (by kernel_rfl) (by kernel_rfl) (by kernel_rfl) (fun _ _ _ h => h) (Or.inl ⟨by rfl, ?_⟩) HELD.out ?_
    rotate_left
    · intro w hSw
      (try dsimp only at hSw)
      obtain ⟨q0, q1, q2⟩ := hSw
      go_simp
      try with_reducible rfl
    try simp only [Act.put, List.setIfInBounds_toArray, List.set_cons_zero, List.set_cons_succ]
    refine wpAnyH_take (i := 10) (v := ?_) (by simp only [List.getElem?_toArray, List.getElem?_cons_zero, List.getElem?_cons_succ]; rfl) (by kernel_rfl) (by kernel_rfl) (by kernel_rfl) (fun _ _ _ h => h) (Or.inl ⟨by rfl, ?_⟩) HELD.out ?_
    rotate_left
    · intro w hSw
      (try dsimp only at hSw)
      obtain ⟨q0, q1, q2⟩ := hSw
      go_simp
      try with_reducible rfl
    try simp only [Act.put, List.setIfInBounds_toArray, List.set_cons_zero, List.set_cons_succ]
    refine wpAnyH_take (i := 11) (v := ?_) (by simp only [List.getElem?_toArray, List.getElem?_cons_zero, List.getElem?_cons_succ]; rfl) (by kernel_rfl) (by kernel_rfl) (by kernel_rfl) (fun _ _ _ h => h) (Or.inl ⟨by rfl, ?_⟩) HELD.out ?_
    rotate_left
    · intro w hSw
      (try dsimp only at hSw)
      obtain ⟨q0, q1, q2⟩ := hSw
      go_simp
      try with_reducible rfl
    try simp only [Act.put, List.setIfInBounds_toArray, List.set_cons_zero, List.set_cons_succ]
    refine wpAnyH_ready (rs := [12]) (by kernel_rfl) (by simp) ?_
    refine AllReadyH.cons (by simp only [List.getElem?_toArray, List.getElem?_cons_zero, List.getElem?_cons_succ]; rfl) (fun K hK => ?_) AllReadyH.nil
    go_simp
    refine (E2.out _ HY0.out).mono ?_
    rintro e w1 ⟨rfl, rfl⟩
    refine hK.out _ _ HELD.out (fun _ => ?_)
    clear hK K
    try simp only [Act.put, List.setIfInBounds_toArray, List.set_cons_zero, List.set_cons_succ]
    refine wpAnyH_take (i := 13) (v := ?_) (by simp only [List.getElem?_toArray, List.getElem?_cons_zero, List.getElem?_cons_succ]; rfl) (by kernel_rfl) (by kernel_rfl) (by kernel_rfl) (fun _ _ _ h => h) (Or.inl ⟨by rfl, ?_⟩) HELD.out ?_
    rotate_left
    · intro w hSw
      (try dsimp only at hSw)
      obtain ⟨q0, q1, q2⟩ := hSw
      go_simp
      try with_reducible rfl
    try simp only [Act.put, List.setIfInBounds_toArray, List.set_cons_zero, List.set_cons_succ]
    refine wpAnyH_take (i := 14) (v := ?_) (by simp only [List.getElem?_toArray, List.getElem?_cons_zero, List.getElem?_cons_succ]; rfl) (by kernel_rfl) (by kernel_rfl) (by kernel_rfl) (fun _ _ _ h => h) (Or.inl ⟨by rfl, ?_⟩) HELD.out ?_
    rotate_left
    · intro w hSw
      (try dsimp only at hSw)
      obtain ⟨q0, q1, q2⟩ := hSw
      go_simp
      try with_reducible rfl
    try simp only [Act.put, List.setIfInBounds_toArray, List.set_cons_zero, List.set_cons_succ]
    refine wpAnyH_ready (rs := [15]) (by kernel_rfl) (by simp) ?_
    refine AllReadyH.cons (by simp only [List.getElem?_toArray, List.getElem?_cons_zero, List.getElem?_cons_succ]; rfl) (fun K hK => ?_) AllReadyH.nil
    go_simp
    refine hK.out _ _ (HELD2.out _) (fun _ => ?_)
    clear hK K
    try simp only [Act.put, List.setIfInBounds_toArray, List.set_cons_zero, List.set_cons_succ]
    refine wpAnyH_done (by kernel_rfl) ?_ _
    refine NoPanic.normal ?_
    exact hK _ _ _ _ _ _ _ _ _ _ _ _ _ _ _ _ HY0.out
  | false =>
    refine wpAnyH_take (i := 9) (v := undef) (by simp only [List.getElem?_toArray, List.getElem?_cons_zero, List.getElem?_cons_succ]; rfl) (by kernel_rfl) (by kernel_rfl) (by kernel_rfl) (fun _ _ _ h => h) (Or.inr ⟨by rfl, rfl⟩) HELD.out ?_
    try simp only [Act.put, List.setIfInBounds_toArray, List.set_cons_zero, List.set_cons_succ]
    refine wpAnyH_take (i := 10) (v := undef) (by simp only [List.getElem?_toArray, List.getElem?_cons_zero, List.getElem?_cons_succ]; rfl) (by kernel_rfl) (by kernel_rfl) (by kernel_rfl) (fun _ _ _ h => h) (Or.inr ⟨by rfl, rfl⟩) HELD.out ?_
    try simp only [Act.put, List.setIfInBounds_toArray, List.set_cons_zero, List.set_cons_succ]
    refine wpAnyH_take (i := 11) (v := undef) (by simp only [List.getElem?_toArray, List.getElem?_cons_zero, List.getElem?_cons_succ]; rfl) (by kernel_rfl) (by kernel_rfl) (by kernel_rfl) (fun _ _ _ h => h) (Or.inr ⟨by rfl, rfl⟩) HELD.out ?_
    try simp only [Act.put, List.setIfInBounds_toArray, List.set_cons_zero, List.set_cons_succ]
    refine wpAnyH_ready (rs := [12]) (by kernel_rfl) (by simp) ?_
    refine AllReadyH.cons (by simp only [List.getElem?_toArray, List.getElem?_cons_zero, List.getElem?_cons_succ]; rfl) (fun K hK => ?_) AllReadyH.nil
    rw [if_neg (by exact fun h => Bool.noConfusion (show false = true from h))]
    refine hK.out _ _ HELD.out (fun _ => ?_)
    clear hK K
    try simp only [Act.put, List.setIfInBounds_toArray, List.set_cons_zero, List.set_cons_succ]
    refine wpAnyH_take (i := 13) (v := ?_) (by simp only [List.getElem?_toArray, List.getElem?_cons_zero, List.getElem?_cons_succ]; rfl) (by kernel_rfl) (by kernel_rfl) (by kernel_rfl) (fun _ _ _ h => h) (Or.inl ⟨by rfl, ?_⟩) HELD.out ?_
    rotate_left
    · intro w hSw
      (try dsimp only at hSw)
      obtain ⟨q0, q1, q2⟩ := hSw
      go_simp
      try with_reducible rfl
    try simp only [Act.put, List.setIfInBounds_toArray, List.set_cons_zero, List.set_cons_succ]
    refine wpAnyH_take (i := 14) (v := ?_) (by simp only [List.getElem?_toArray, List.getElem?_cons_zero, List.getElem?_cons_succ]; rfl) (by kernel_rfl) (by kernel_rfl) (by kernel_rfl) (fun _ _ _ h => h) (Or.inl ⟨by rfl, ?_⟩) HELD.out ?_
    rotate_left
    · intro w hSw
      (try dsimp only at hSw)
      obtain ⟨q0, q1, q2⟩ := hSw
      go_simp
      try with_reducible rfl
    try simp only [Act.put, List.setIfInBounds_toArray, List.set_cons_zero, List.set_cons_succ]
    refine wpAnyH_ready (rs := [15]) (by kernel_rfl) (by simp) ?_
    refine AllReadyH.cons (by simp only [List.getElem?_toArray, List.getElem?_cons_zero, List.getElem?_cons_succ]; rfl) (fun K hK => ?_) AllReadyH.nil
    go_simp
    refine hK.out _ _ (HELD2.out _) (fun _ => ?_)
    clear hK K
    try simp only [Act.put, List.setIfInBounds_toArray, List.set_cons_zero, List.set_cons_succ]
    refine wpAnyH_done (by kernel_rfl) ?_ _
    refine NoPanic.normal ?_
    exact hK _ _ _ _ _ _ _ _ _ _ _ _ _ _ _ _ HY0.out

end Go.Proofs.Ytkbdebdhebphpaa
/- The law NormValues, by its walk. -/
namespace Go.Proofs.Ytkbdebdhebphpaa
open Go Go.RowKit Go.Joins

theorem run_make_i64 {P : Program} {t e : TypeId} {i : TypeInfo} {z : Value} {bytes : Nat} (ht : P.underlying t = some (.slice e)) (hi : P.info? e = some i) (hz : i.zero = some z)
    (hsize : i.size = 1) (hby : i.bytes = bytes) (hzs : z.cells = #[z]) (m : Nat) (y : Int) (hy : y = (m : Int)) (hb : (bytes : Int) * (m : Int) ≤ 281474976710656) (hm : m ≤ 1000000000000) (W : World) :
    (Instr.makeSlice t (.int .i64 y) (.int .i64 y)).run P W = .ok (.slice (some ⟨W.heap.size, 0, none⟩) m m) (W.alloc (.cells (zeros z m) e)) := by
  subst hy
  have h := run_make (P := P) W t e i z ht hi hz .i64 .i64 (m : Int) (m : Int) (by omega) (Int.le_refl _) (by rw [hby]; exact hb) (by omega)
  rw [h, hzs, hsize, Int.toNat_natCast, Nat.mul_one]
  have e : madeCells #[z] m = zeros z m := by
    apply Array.ext'
    rw [toList_madeCells_one]; simp [zeros]
  rw [e]
/-- The two tables in memory. -/
structure VI (U : World) (ND WD : Nat) (N V : List Bool) (w : World) : Prop where
  nd : w.heap[ND]? = some (.cells (bcells N) 4 (0, 0))
  wd : w.heap[WD]? = some (.cells (bcells V) 4 (0, 0))
  bel : Below U.heap.size U w
theorem VI.below {U : World} {ND WD : Nat} {N V : List Bool} {w w' : World} (h : VI U ND WD N V w) (hb : Below w.heap.size w w') : VI U ND WD N V w' := ⟨heap_below h.nd hb, heap_below h.wd hb, h.bel.trans (hb.mono h.bel.size)⟩
theorem VI.setN {U : World} {ND WD : Nat} {N V : List Bool} {w : World} (h : VI U ND WD N V w) (hne : ND ≠ WD) (hU : U.heap.size ≤ ND) (i : Nat) (b : Bool) : VI U ND WD (N.set i b) V (w.setCell ⟨ND, i, .none⟩ (.bool b)) := by
  refine ⟨?_, ?_, h.bel.setCell hU _⟩
  · have h1 := block_setCell h.nd (i := i) (.bool b)
    rw [bcells_set] at h1
    exact h1
  · rw [Below.heap_setCell w ⟨ND, i, .none⟩ _ WD (fun e => hne e.symm)]
    exact h.wd
theorem VI.setW {U : World} {ND WD : Nat} {N V : List Bool} {w : World} (h : VI U ND WD N V w) (hne : ND ≠ WD) (hU : U.heap.size ≤ WD) (i : Nat) (b : Bool) : VI U ND WD N (V.set i b) (w.setCell ⟨WD, i, .none⟩ (.bool b)) := by
  refine ⟨?_, ?_, h.bel.setCell hU _⟩
  · rw [Below.heap_setCell w ⟨WD, i, .none⟩ _ ND hne]
    exact h.nd
  · have h1 := block_setCell h.wd (i := i) (.bool b)
    rw [bcells_set] at h1
    exact h1
theorem sees_bcells {w : World} {D n : Nat} {t : List Bool} (h : w.heap[D]? = some (.cells (bcells t) 4 (0, 0))) (hn : t.length = n) : Sees w (some ⟨D, 0, none⟩) n n (t.map Value.bool) := by
  refine ⟨by simp [hn], Nat.le_refl _, (fun e => by cases e), fun _ => ⟨D, 0, rfl, heap_lt h, fun j hj => ?_⟩⟩
  rw [show 0 + j = j by omega, cell_of_block h j]
  simp [bcells]
/-- What is known of the circuit that came out. -/
structure VF (r : RawC) (c : NormC) (k1 k2 k6 : Nat) : Prop where
  ok : ofS r = .ok c
  ins : c.ins = (k1 : Int)
  lats : c.lats.length = k2
  gates : c.gates.length = k6
  few : k1 + k2 + k6 ≤ 16384
  max : r.max ≤ 16384
  own : ∀ i, i < (ownsL r).length → (ownsL r).getD i 0 / 2 < r.max + 1
  gown : ∀ g ∈ r.gates, g.1 / 2 < r.max + 1 ∧ g.1 < 4294967296
  ref : ∀ x ∈ refsL r, x / 2 < r.max + 1 ∧ x < 4294967296
  gate : ∀ k, k < k6 → (c.gates.getD k (0, 0)).1 / 2 < k1 + k2 + 1 + k6 ∧ (c.gates.getD k (0, 0)).2 / 2 < k1 + k2 + 1 + k6 ∧ (c.gates.getD k (0, 0)).1 < 4294967296 ∧ (c.gates.getD k (0, 0)).2 < 4294967296
  lit : ∀ x, nowS (toS (ordR r)) x / 2 < k1 + k2 + 1 + k6 ∧ nowS (toS (ordR r)) x < 4294967296
  eqc : c = renumS (ordR r)
theorem vf_of {r : RawC} {c : NormC} (h : ofS r = .ok c) : VF r c r.ins.length r.lats.length r.gates.length := by
  obtain ⟨d, hc⟩ := ctx_of h
  have hm := of_mayC h
  have he : c = renumS (ordR r) := (ofS_ok.1 h).eq
  have hl := cg_len h
  have hi : c.ins = (r.ins.length : Int) := by rw [he]; rfl
  have hla : c.lats.length = r.lats.length := by rw [he]; simp [renumS, ordR]
  have hf := hm.few
  unfold varsN at hf
  rw [hi, hla, hl] at hf
  simp only [Int.toNat_natCast] at hf
  refine ⟨h, hi, hla, hl, hf, hc.lits.max, fun i hi => ?_, fun g hg => ?_, fun x hx => ?_, fun k hk => ?_, fun x => ?_, he⟩
  · have := hc.lits.owns _ (getD_mem (d := 0) hi)
    omega
  · have := hc.lits.owns g.1 (by unfold ownsL; simp only [List.mem_append, List.mem_map]; exact Or.inr (Or.inr ⟨g, hg, rfl⟩))
    have := hc.lits.max
    omega
  · have := hc.lits.refs x hx
    have := hc.lits.max
    omega
  · have hg := hm.gates k (by rw [hl]; exact hk)
    rw [hi, hla] at hg
    simp only [Int.toNat_natCast] at hg
    omega
  · have hn : nowS ((numS (ordR r)).map (2 * ·)) = numL (numS (ordR r)) := funext (now_num _)
    rw [toS_num, hn]
    have hle : (numS (ordR r)).getD (x / 2) 0 ≤ r.ins.length + r.lats.length + r.gates.length := by
      unfold numS
      refine numF_le _ _ _ _ (fun v => ?_) ?_ _
      · have e1 : (List.replicate ((ordR r).max + 1) 0).getD v 0 = 0 := by simp only [List.getD, List.getElem?_replicate]; split <;> rfl
        omega
      · have := ord_len h
        rw [owns_len]
        unfold ordR
        simp only
        omega
    unfold numL
    omega
theorem wPa_eq (gs : List Tri) (k : Nat) (w : List Bool) : wPa gs (k + 1) w = (wPa gs k w).set ((gs.getD k (0, 0, 0)).1 / 2) (bitL (wPa gs k w) (gs.getD k (0, 0, 0)).2.1 && bitL (wPa gs k w) (gs.getD k (0, 0, 0)).2.2) := rfl
theorem nGa_eq (cg : List (Nat × Nat)) (F k : Nat) (n : List Bool) : nGa cg F (k + 1) n = (nGa cg F k n).set (F + 1 + k) (bitL (nGa cg F k n) (cg.getD k (0, 0)).1 && bitL (nGa cg F k n) (cg.getD k (0, 0)).2) := rfl
theorem count_snoc {α : Type} (p : α → Bool) (l : List α) (d : α) (k : Nat) (h : k < l.length) : (l.take (k + 1)).countP p = (l.take k).countP p + (if p (l.getD k d) = true then 1 else 0) := by
  rw [List.take_succ_eq_append_getElem h, List.countP_append, List.countP_singleton]
  simp [List.getD, List.getElem?_eq_getElem h]
theorem countR_snoc (p : Nat → Bool) (k : Nat) : (List.range (k + 1)).countP p = (List.range k).countP p + (if p k = true then 1 else 0) := by
  rw [List.range_succ, List.countP_append, List.countP_singleton]

set_option maxRecDepth 100000 in
set_option maxHeartbeats 12800000 in
theorem values_any (r : RawC) (s : Slots) (bits : List Bool) (ab : Option Addr) (nb cb : Nat) (w : World) (h : SeesRaw w s r) (hs : s.small) (hbits : Sees w ab nb cb (bits.map Value.bool)) (hnb : nb ≤ 1048576) :
    Calls Try.prog 5 #[rawV r.max s, .slice ab nb cb] w fun e w' => e = .returned (.bool true) ∧ Below w.heap.size w w' := by
  obtain ⟨i0, hi, hz0, hz1, hz2⟩ := info_parts info_bool
  have HOF := Lib.hid (fun W (hb : Below w.heap.size w W) => of_both r s W (h.below hb) hs)
  have HMAY := Lib.hid (fun W (hb : Below w.heap.size w W) => refmay_any r s W (h.below hb) hs)
  have HOK := Lib.hid (fun (e : errC r = 0) => vf_of (errC_ok e))
  have HMR := Lib.hid (fun (e : errC r = 0) => (ofS_ok.1 (errC_ok e)).may)
  obtain ⟨c, hc⟩ : ∃ c, c = ofC r := ⟨_, rfl⟩
  obtain ⟨er, her⟩ : ∃ er, er = errC r := ⟨_, rfl⟩
  obtain ⟨qm, hqm⟩ : ∃ q, q = mayRaw r := ⟨_, rfl⟩
  rw [← hc, ← her] at HOF HOK
  rw [← her, ← hqm] at HMR
  rw [← hqm] at HMAY
  obtain ⟨rm, hrm⟩ : ∃ z, z = r.max := ⟨_, rfl⟩
  rw [← hrm] at HOF HMAY ⊢
  obtain ⟨z, hz⟩ : ∃ z, z = c.ins := ⟨_, rfl⟩
  rw [← hz] at HOF
  obtain ⟨r1, k1, f1, r2, k2, f2, r3, k3, f3, r4, k4, f4, r5, k5, f5, r6, k6, f6⟩ := s
  have hk1 : k1 ≤ 1048576 := hs.n1
  have hk2 : k2 ≤ 1048576 := hs.n2
  have hk3 : k3 ≤ 1048576 := hs.n3
  have hk4 : k4 ≤ 1048576 := hs.n4
  have hk5 : k5 ≤ 1048576 := hs.n5
  have hk6 : k6 ≤ 1048576 := hs.n6
  have l1 : r.ins.length = k1 := h.s1.lenMap
  have l2 : r.lats.length = k2 := h.s2.1
  have l3 : r.outs.length = k3 := h.s3.lenMap
  have l4 : r.bads.length = k4 := h.s4.lenMap
  have l5 : r.cons.length = k5 := h.s5.lenMap
  have l6 : r.gates.length = k6 := h.s6.1
  rw [l1, l2, l6] at HOK
  have LB : Hid (bits.length = nb) := hbits.lenMap
  have L1 := Lib.hid l1
  have L2 := Lib.hid l2
  have L3 := Lib.hid l3
  have L4 := Lib.hid l4
  have L5 := Lib.hid l5
  have L6 := Lib.hid l6
  have HZ := Lib.hid hz
  have HM := Lib.hid hrm
  have HSR := Lib.hid h
  have HBI := Lib.hid hbits
  clear hc her hqm hrm h hs hz l1 l2 l3 l4 l5 l6 hbits
  unfold rawV cirCells at *
  go_enter Try.func5, Try.ntmps5
  go_upto_region 1 with fail
  generalize hW : World.alloc w _ = W0
  have hb : Below w.heap.size w W0 := by subst hW; exact ext_alloc _ _
  have hx : W0.heap[w.heap.size]? = some (.cells #[.int .u32 rm, .slice r1 k1 f1, .slice r2 k2 f2, .slice r3 k3 f3, .slice r4 k4 f4, .slice r5 k5 f5, .slice r6 k6 f6] 37 (0, 0)) := by subst hW; exact heap_new _ _ _ rfl
  have B0 := Lib.hid hb
  have X0 := Lib.hid hx
  clear hW hb hx
  have p1 : W0.cell? ⟨w.heap.size, 1, none⟩ = some (.slice r1 k1 f1) := cell_of_block X0.out 1
  have p2 : W0.cell? ⟨w.heap.size, 2, none⟩ = some (.slice r2 k2 f2) := cell_of_block X0.out 2
  have p6 : W0.cell? ⟨w.heap.size, 6, none⟩ = some (.slice r6 k6 f6) := cell_of_block X0.out 6
  by_cases ht1 : 300 < k6
  · have e1 : decide ((300 : Int) < (k6 : Int)) = true := by simp; omega
    go_wp2_with fail
    refine (lives3_any W0).mono ?_
    rintro e W2 ⟨rfl, hb⟩
    have HB2 := Lib.hid (ext_trans B0.out hb)
    clear hb
    go_wp2
    go_ret
    exact ⟨rfl, HB2.out⟩
  have e1 : decide ((300 : Int) < (k6 : Int)) = false := by simp; omega
  have e0 : IntKind.i64.wrap ((k1 : Int) + (k2 : Int)) = (k1 : Int) + (k2 : Int) := IntWalk.i64_in _ (by omega)
  by_cases ht2 : 3000 < k1 + k2
  · have e2 : decide ((3000 : Int) < (k1 : Int) + (k2 : Int)) = true := by simp; omega
    go_wp2_with fail
    refine (lives3_any W0).mono ?_
    rintro e W2 ⟨rfl, hb⟩
    have HB2 := Lib.hid (ext_trans B0.out hb)
    clear hb
    go_wp2
    go_ret
    exact ⟨rfl, HB2.out⟩
  have e2 : decide ((3000 : Int) < (k1 : Int) + (k2 : Int)) = false := by simp; omega
  go_upto_region 3 with fail
  clear ht1 ht2 e0 e1 e2 p1 p2 p6
  have p0 := cell_of_block X0.out 0
  have p1 := cell_of_block X0.out 1
  have p2 := cell_of_block X0.out 2
  have p3 := cell_of_block X0.out 3
  have p4 := cell_of_block X0.out 4
  have p5 := cell_of_block X0.out 5
  have p6 := cell_of_block X0.out 6
  go_wp2_with fail
  refine (HOF.out W0 B0.out).mono ?_
  rintro e W1 ⟨s1, rfl, hs1, hm1, hb⟩
  have B1 := Lib.hid (ext_trans B0.out hb)
  have X1 := Lib.hid (heap_below X0.out hb)
  have S1 := Lib.hid hs1
  clear hb hs1 p0 p1 p2 p3 p4 p5 p6 B0 X0 HOF
  go_upto_region 4 with fail
  obtain ⟨C5, hC5⟩ : ∃ C5, C5 = W1.heap.size := ⟨_, rfl⟩
  rw [← hC5]
  generalize hW : World.alloc W1 _ = U1
  have hb : Below W1.heap.size W1 U1 := by subst hW; exact ext_alloc _ _
  have C3 : Hid (U1.heap[C5]? = some (.cells #[.int .i64 z, .slice s1.a1 s1.n1 s1.c1, .slice s1.a2 s1.n2 s1.c2, .slice s1.a3 s1.n3 s1.c3, .slice s1.a4 s1.n4 s1.c4, .slice s1.a5 s1.n5 s1.c5] 26 (0, 0))) := by show _ = _; subst hW; exact heap_new _ _ _ hC5
  have HB1 := Lib.hid (ext_trans B1.out hb)
  have X2 := Lib.hid (heap_below X1.out hb)
  have T1 := Lib.hid (S1.out.below hb)
  clear hW hb B1 X1 S1 hC5
  by_cases he : er = 0
  case neg =>
    have e1 : (er == 0) = false := by simpa using he
    have e2 : (er = 0) = False := by simpa using he
    have HE := Lib.hid he
    clear he
    go_wp2_with fail
    refine (lives3_any U1).mono ?_
    rintro e W4 ⟨rfl, hb⟩
    have HB2 := Lib.hid (ext_trans HB1.out hb)
    clear hb
    go_wp2
    go_ret
    refine ⟨?_, HB2.out⟩
    show Ending.returned (.bool (er != 0)) = _
    rw [show (er != 0) = true by simpa using HE.out]
  have hvf := HOK.out he
  have hq := HMR.out he
  subst hq
  subst he
  have VFF := Lib.hid hvf
  clear HOK HMR hvf
  obtain ⟨e1, t1, g1, e2, t2, g2, e3, t3, g3, e4, t4, g4, e5, t5, g5⟩ := s1
  have q1 : k2 = t1 := (T1.out.s1.1.symm.trans VFF.out.lats).symm
  have q2 : k6 = t2 := (T1.out.s2.1.symm.trans VFF.out.gates).symm
  have q3 : k3 = t3 := (T1.out.s3.lenMap.symm.trans (by rw [VFF.out.eqc]; show (r.outs.map _).length = k3; rw [List.length_map, L3.out])).symm
  have q4 : k4 = t4 := (T1.out.s4.lenMap.symm.trans (by rw [VFF.out.eqc]; show (r.bads.map _).length = k4; rw [List.length_map, L4.out])).symm
  have q5 : k5 = t5 := (T1.out.s5.lenMap.symm.trans (by rw [VFF.out.eqc]; show (r.cons.map _).length = k5; rw [List.length_map, L5.out])).symm
  have q0 : z = (k1 : Int) := by rw [HZ.out]; exact VFF.out.ins
  subst q1
  subst q2
  subst q3
  subst q4
  subst q5
  subst q0
  simp only at C3
  have hfew := VFF.out.few
  have hmax : rm ≤ 16384 := by rw [HM.out]; exact VFF.out.max
  have p0 := cell_of_block X2.out 0
  have p1 := cell_of_block X2.out 1
  have p2 := cell_of_block X2.out 2
  have p3 := cell_of_block X2.out 3
  have p4 := cell_of_block X2.out 4
  have p5 := cell_of_block X2.out 5
  have p6 := cell_of_block X2.out 6
  go_wp2_with fail
  refine (HMAY.out U1 HB1.out).mono ?_
  rintro e W2 ⟨rfl, hb⟩
  have B2 := Lib.hid (ext_trans HB1.out hb)
  have X3 := Lib.hid (heap_below X2.out hb)
  have C4 := Lib.hid (heap_below C3.out hb)
  have T2 := Lib.hid (T1.out.below hb)
  clear hb p0 p1 p2 p3 p4 p5 p6 HB1 X2 C3 T1 HMAY
  have q0 := cell_of_block C4.out 0
  have q1 := cell_of_block C4.out 1
  have q2 := cell_of_block C4.out 2
  have p6 := cell_of_block X3.out 6
  have p1 := cell_of_block X3.out 1
  have p2 := cell_of_block X3.out 2
  have p0 := cell_of_block X3.out 0
  obtain ⟨FF, hFF⟩ : ∃ FF : Nat, FF = k1 + k2 := ⟨_, rfl⟩
  have hFn : firstN r = FF := by unfold firstN; rw [L1.out, L2.out, hFF]
  have U1' : IntKind.i64.wrap ((k1 : Int) + (k2 : Int)) = (FF : Int) := by rw [IntWalk.i64_in _ (by omega)]; omega
  have U2' : IntKind.i64.wrap ((FF : Int) + (k6 : Int)) = (FF : Int) + (k6 : Int) := IntWalk.i64_in _ (by omega)
  have U3' : IntKind.i64.wrap ((FF : Int) + (k6 : Int) + 1) = (FF : Int) + (k6 : Int) + 1 := IntWalk.i64_in _ (by omega)
  have U4' : IntKind.u32.wrap ((rm : Int) + 1) = (rm : Int) + 1 := IntWalk.u32_in _ (by omega)
  have mk1 := fun W => run_make_i64 (P := Try.prog) Try.underlying52 hi hz0 hz1 hz2 rfl (FF + k6 + 1) ((FF : Int) + (k6 : Int) + 1) (by omega) (by omega) (by omega) W
  have mk2 := fun W => run_make_u32 (P := Try.prog) Try.underlying52 hi hz0 hz1 hz2 rfl (rm + 1) ((rm : Int) + 1) (by omega) (by omega) (by omega) W
  rw [bcells_zero] at mk1 mk2
  have hF9 : FF ≤ 20000 := by omega
  have HFN := Lib.hid hFn
  have HFF := Lib.hid hFF
  clear hFn hFF
  go_upto_region 10 with fail
  obtain ⟨ND, hND⟩ : ∃ ND, ND = W2.heap.size := ⟨_, rfl⟩
  rw [← hND]
  generalize hW : World.alloc W2 _ = W2a
  have hba : Below W2.heap.size W2 W2a := by subst hW; exact ext_alloc _ _
  have hda : W2a.heap[ND]? = some (.cells (bcells (List.replicate (FF + k6 + 1) false)) 4 (0, 0)) := by subst hW; exact heap_new _ _ _ hND
  have hsa : W2a.heap.size = ND + 1 := by subst hW; rw [hND]; simp
  have HBA := Lib.hid hba
  have HDA := Lib.hid hda
  have HSA := Lib.hid hsa
  clear hW hba hda hsa q0 q1 q2 p6 p1 p2 p0 mk1
  have p0 := cell_of_block (heap_below X3.out HBA.out) 0
  obtain ⟨WD, hWD⟩ : ∃ WD, WD = W2a.heap.size := ⟨_, rfl⟩
  have HWD := Lib.hid hWD
  clear hWD
  go_upto_region 11 with fail
  rw [← HWD.out]
  generalize hW : World.alloc W2a _ = W3
  have hVI : VI W2 ND WD (List.replicate (FF + k6 + 1) false) (List.replicate (rm + 1) false) W3 := by
    subst hW
    exact ⟨heap_below HDA.out (ext_alloc _ _), heap_new _ _ _ HWD.out, ext_trans HBA.out (ext_alloc _ _)⟩
  have hNW : ND ≠ WD := by have := HWD.out; have := HSA.out; omega
  have hUN : W2.heap.size ≤ ND := by omega
  have hUW : W2.heap.size ≤ WD := by have := HWD.out; have := HSA.out; omega
  have HV := Lib.hid hVI
  have HXX : Hid (∀ W, Below W2.heap.size W2 W → W.heap[w.heap.size]? = some (.cells #[.int .u32 rm, .slice r1 k1 f1, .slice r2 k2 f2, .slice r3 k3 f3, .slice r4 k4 f4, .slice r5 k5 f5, .slice r6 k6 f6] 37 (0, 0))) := fun W hb => heap_below X3.out hb
  have HCC : Hid (∀ W, Below W2.heap.size W2 W → W.heap[C5]? = some (.cells #[.int .i64 (k1 : Int), .slice e1 k2 g1, .slice e2 k6 g2, .slice e3 k3 g3, .slice e4 k4 g4, .slice e5 k5 g5] 26 (0, 0))) := fun W hb => heap_below C4.out hb
  have HSS : Hid (∀ W, Below W2.heap.size W2 W → SeesRaw W ⟨r1, k1, f1, r2, k2, f2, r3, k3, f3, r4, k4, f4, r5, k5, f5, r6, k6, f6⟩ r) := fun W hb => HSR.out.below (ext_trans B2.out hb)
  have HSC : Hid (∀ W, Below W2.heap.size W2 W → SeesCir W ⟨e1, k2, g1, e2, k6, g2, e3, k3, g3, e4, k4, g4, e5, k5, g5⟩ c) := fun W hb => T2.out.below hb
  have HSB : Hid (∀ W, Below W2.heap.size W2 W → Sees W ab nb cb (bits.map Value.bool)) := fun W hb => HBI.out.below (ext_trans B2.out hb)
  have hwN : w.heap.size < ND := by have := heap_lt X3.out; omega
  have hCN : C5 < ND := by have := heap_lt C4.out; omega
  clear hW hVI hND mk2 U1' U2' U3' U4' p0 X3 C4 T2 HSR HBI HBA HDA
  go_wp2
  go_loopw [10] (fun i wr => ∃ k : Nat, k ≤ FF ∧ i = .int .i64 k ∧ Hid (VI W2 ND WD (nIn bits k (List.replicate (FF + k6 + 1) false)) (wIn bits (ownsL r) k (List.replicate (rm + 1) false)) wr))
    (fun i _ => FF - (intOf i).toNat)
  case atStart => exact ⟨0, Nat.zero_le _, rfl, HV.out⟩
  case round =>
    clear HV
    obtain ⟨k, hk, rfl, hI⟩ := hrel
    by_cases hlt : k < FF
    · obtain ⟨NL, hNL⟩ : ∃ NL, NL = nIn bits k (List.replicate (FF + k6 + 1) false) := ⟨_, rfl⟩
      obtain ⟨WL, hWL⟩ : ∃ WL, WL = wIn bits (ownsL r) k (List.replicate (rm + 1) false) := ⟨_, rfl⟩
      rw [← hNL, ← hWL] at hI
      have hnl : NL.length = FF + k6 + 1 := by rw [hNL, nIn_len, List.length_replicate]
      have hwl : WL.length = rm + 1 := by rw [hWL, wIn_len, List.length_replicate]
      have c1 := (cell_of_block hI.out.nd (k + 1)).trans (bcells_get NL (k + 1) (by omega))
      have c2 := unfrozen_of_block hI.out.nd (k + 1)
      have W1' : IntKind.i64.wrap ((k : Int) + 1) = (k : Int) + 1 := IntWalk.i64_in _ (by omega)
      have hi1 : 0 ≤ (k : Int) + 1 := by omega
      have hi2 : (k : Int) + 1 < (FF : Int) + (k6 : Int) + 1 := by omega
      obtain ⟨y, hy⟩ : ∃ y, y = bits.getD k false := ⟨_, rfl⟩
      have HNX : Hid (NL.set (k + 1) y = nIn bits (k + 1) (List.replicate (FF + k6 + 1) false)) := by show _ = _; rw [nIn, ← hNL, hy]
      have hown := VFF.out.own k (by rw [owns_len, L1.out, L2.out, L6.out]; have := HFF.out; omega)
      have HWX : Hid (WL.set ((ownsL r).getD k 0 / 2) y = wIn bits (ownsL r) (k + 1) (List.replicate (rm + 1) false)) := by show _ = _; rw [wIn, ← hWL, hy]
      have HV1 := Lib.hid (hI.out.setN hNW hUN (k + 1) y)
      have HOWN : Hid ((ownsL r).getD k 0 / 2 < rm + 1) := by rw [HM.out]; exact hown
      have HIB := Lib.hid hI.out.bel
      have HY := Lib.hid hy
      have REST : True := trivial
      have hside : (k < nb ∧ ∃ b off, ab = some ⟨b, off, none⟩ ∧ wr.cell? ⟨b, off + k, none⟩ = some (.bool y)) ∨ (¬ k < nb ∧ y = false) := by
        by_cases hb : k < nb
        · obtain ⟨b, off, hab, _⟩ := (HSB.out wr hI.out.bel).addr (show 0 < nb by omega)
          refine Or.inl ⟨hb, b, off, hab, ?_⟩
          have h1 := HSB.out wr hI.out.bel
          rw [hab] at h1
          rw [hy]
          exact h1.bool k hb
        · refine Or.inr ⟨hb, ?_⟩
          rw [hy]
          simp [List.getD, List.getElem?_eq_none (show bits.length ≤ k by rw [LB.out]; omega)]
      clear hNL hWL hy hown hI
      have FIN : Hid (∀ Y0 : World, Below (wr.setCell ⟨ND, k + 1, none⟩ (.bool y)).heap.size (wr.setCell ⟨ND, k + 1, none⟩ (.bool y)) Y0 → VI W2 ND WD (nIn bits (k + 1) (List.replicate (FF + k6 + 1) false)) (wIn bits (ownsL r) (k + 1) (List.replicate (rm + 1) false)) (Y0.setCell ⟨WD, (ownsL r).getD k 0 / 2, none⟩ (.bool y))) := fun Y0 hb => by
        rw [← HNX.out, ← HWX.out]
        exact (HV1.out.below hb).setW hNW hUW _ _
      rcases hside with ⟨hb, b0, o0, rfl, hby⟩ | ⟨hb, hy0⟩
      · have f0 : decide ((k : Int) < (nb : Int)) = true := by simp; omega
        go_upto_region 15 with fail
        clear hby f0 c1 c2
        generalize hQ : World.setCell wr ⟨ND, k + 1, none⟩ (.bool y) = wq at HV1 FIN ⊢
        have hXq := HXX.out wq HV1.out.bel
        have hCq := HCC.out wq HV1.out.bel
        have cq : wq.cell? ⟨C5, 0, none⟩ = some (.int .i64 (k1 : Int)) := cell_of_block hCq 0
        have hNq : wq.cell? ⟨ND, k + 1, none⟩ = some (.bool y) := (cell_of_block HV1.out.nd (k + 1)).trans ((bcells_get _ (k + 1) (by rw [List.length_set]; omega)).trans (by rw [bset_getD, if_pos ⟨rfl, by omega⟩]))
        have HNQ := Lib.hid hNq
        clear hQ hNq
        by_cases hin : k < k1
        · have fin : decide ((k : Int) < (k1 : Int)) = true := by simp; omega
          obtain ⟨b, off, hab, hbw⟩ := (HSS.out wq HV1.out.bel).s1.addr (show 0 < k1 by omega)
          have hr1 : wq.cell? ⟨w.heap.size, 1, none⟩ = some (.slice (some ⟨b, off, .none⟩) k1 f1) := by rw [← hab]; exact cell_of_block hXq 1
          have hxx := (HSS.out wq HV1.out.bel).s1
          simp only at hxx hab
          rw [hab] at hxx
          have hx1 := hxx.num k hin
          have hxo : r.ins.getD k 0 = (ownsL r).getD k 0 := by
            unfold ownsL
            simp only [List.getD]
            rw [List.getElem?_append_left (by rw [L1.out]; exact hin)]
          rw [hxo] at hx1
          obtain ⟨x, hx⟩ : ∃ x, x = (ownsL r).getD k 0 := ⟨_, rfl⟩
          rw [← hx] at hx1 FIN HOWN
          have hxh := HOWN.out
          have HR1 := Lib.hid hr1
          have HX1 := Lib.hid hx1
          clear hx hxo hxx hr1 hx1 hab
          go_upto_region 16 with fail
          refine reg_NVal16 w.heap.size b off k k1 f1 ND (FF + k6 + 1) WD (rm + 1) x y WL wq HR1.out hin HX1.out HNQ.out (by omega) (by omega) HV1.out.wd hwl hxh (by omega) _ ?_
          intro Y0 _ _ _ _ _ _ _ _ _ _ _ _ _ hb
          have HF2 := Lib.hid (FIN.out Y0 hb)
          clear hb FIN cq hXq hCq HV1
          go_wp2
          go_roundw
          case rel => exact ⟨k + 1, by omega, by go_num, HF2.out⟩
          case measure => simp [intOf]; omega
        · have fin : decide ((k : Int) < (k1 : Int)) = false := by simp; omega
          obtain ⟨j, hj⟩ : ∃ j, k = k1 + j := ⟨k - k1, by omega⟩
          have hj2 : j < k2 := by have := HFF.out; omega
          obtain ⟨b, off, hab, hbw⟩ := (HSS.out wq HV1.out.bel).s2.addr (show 0 < k2 by omega)
          have hr2 : wq.cell? ⟨w.heap.size, 2, none⟩ = some (.slice (some ⟨b, off, .none⟩) k2 f2) := by rw [← hab]; exact cell_of_block hXq 2
          have hxx := (HSS.out wq HV1.out.bel).s2
          simp only at hxx hab
          rw [hab] at hxx
          obtain ⟨hx1, _, _⟩ := hxx.cells j hj2 (0, 0, 0)
          have hxo : (r.lats.getD j (0, 0, 0)).1 = (ownsL r).getD k 0 := by
            unfold ownsL
            rw [hj]
            simp only [List.getD]
            rw [List.getElem?_append_right (by rw [L1.out]; omega), L1.out, show k1 + j - k1 = j by omega, List.getElem?_append_left (by rw [List.length_map, L2.out]; exact hj2)]
            simp [List.getElem?_eq_getElem (show j < r.lats.length by rw [L2.out]; exact hj2)]
          rw [hxo] at hx1
          obtain ⟨x, hx⟩ : ∃ x, x = (ownsL r).getD k 0 := ⟨_, rfl⟩
          rw [← hx] at hx1 FIN HOWN
          have hxh := HOWN.out
          have HR1 := Lib.hid hr2
          have HX1 := Lib.hid hx1
          have HJ := Lib.hid hj
          clear hx hxo hxx hr2 hx1 hab hj
          go_upto_region 17 with fail
          refine reg_NVal17 w.heap.size C5 b off k j k1 k2 f2 ND (FF + k6 + 1) WD (rm + 1) x y WL wq HR1.out cq HJ.out hj2 HX1.out HNQ.out (by omega) (by omega) HV1.out.wd hwl hxh (by omega) _ ?_
          intro Y0 _ _ _ _ _ _ _ _ _ _ _ _ _ _ _ _ _ hb
          have HF2 := Lib.hid (FIN.out Y0 hb)
          clear hb FIN cq hXq hCq HV1
          go_wp2
          go_roundw
          case rel => exact ⟨k + 1, by omega, by go_num, HF2.out⟩
          case measure => simp [intOf]; omega
      · subst hy0
        have f0 : decide ((k : Int) < (nb : Int)) = false := by simp; omega
        go_upto_region 15 with fail
        clear f0 c1 c2
        generalize hQ : World.setCell wr ⟨ND, k + 1, none⟩ (.bool false) = wq at HV1 FIN ⊢
        have hXq := HXX.out wq HV1.out.bel
        have hCq := HCC.out wq HV1.out.bel
        have cq : wq.cell? ⟨C5, 0, none⟩ = some (.int .i64 (k1 : Int)) := cell_of_block hCq 0
        have hNq : wq.cell? ⟨ND, k + 1, none⟩ = some (.bool false) := (cell_of_block HV1.out.nd (k + 1)).trans ((bcells_get _ (k + 1) (by rw [List.length_set]; omega)).trans (by rw [bset_getD, if_pos ⟨rfl, by omega⟩]))
        have HNQ := Lib.hid hNq
        clear hQ hNq
        by_cases hin : k < k1
        · have fin : decide ((k : Int) < (k1 : Int)) = true := by simp; omega
          obtain ⟨b, off, hab, hbw⟩ := (HSS.out wq HV1.out.bel).s1.addr (show 0 < k1 by omega)
          have hr1 : wq.cell? ⟨w.heap.size, 1, none⟩ = some (.slice (some ⟨b, off, .none⟩) k1 f1) := by rw [← hab]; exact cell_of_block hXq 1
          have hxx := (HSS.out wq HV1.out.bel).s1
          simp only at hxx hab
          rw [hab] at hxx
          have hx1 := hxx.num k hin
          have hxo : r.ins.getD k 0 = (ownsL r).getD k 0 := by
            unfold ownsL
            simp only [List.getD]
            rw [List.getElem?_append_left (by rw [L1.out]; exact hin)]
          rw [hxo] at hx1
          obtain ⟨x, hx⟩ : ∃ x, x = (ownsL r).getD k 0 := ⟨_, rfl⟩
          rw [← hx] at hx1 FIN HOWN
          have hxh := HOWN.out
          have HR1 := Lib.hid hr1
          have HX1 := Lib.hid hx1
          clear hx hxo hxx hr1 hx1 hab
          go_upto_region 16 with fail
          refine reg_NVal16 w.heap.size b off k k1 f1 ND (FF + k6 + 1) WD (rm + 1) x false WL wq HR1.out hin HX1.out HNQ.out (by omega) (by omega) HV1.out.wd hwl hxh (by omega) _ ?_
          intro Y0 _ _ _ _ _ _ _ _ _ _ _ _ _ hb
          have HF2 := Lib.hid (FIN.out Y0 hb)
          clear hb FIN cq hXq hCq HV1
          go_wp2
          go_roundw
          case rel => exact ⟨k + 1, by omega, by go_num, HF2.out⟩
          case measure => simp [intOf]; omega
        · have fin : decide ((k : Int) < (k1 : Int)) = false := by simp; omega
          obtain ⟨j, hj⟩ : ∃ j, k = k1 + j := ⟨k - k1, by omega⟩
          have hj2 : j < k2 := by have := HFF.out; omega
          obtain ⟨b, off, hab, hbw⟩ := (HSS.out wq HV1.out.bel).s2.addr (show 0 < k2 by omega)
          have hr2 : wq.cell? ⟨w.heap.size, 2, none⟩ = some (.slice (some ⟨b, off, .none⟩) k2 f2) := by rw [← hab]; exact cell_of_block hXq 2
          have hxx := (HSS.out wq HV1.out.bel).s2
          simp only at hxx hab
          rw [hab] at hxx
          obtain ⟨hx1, _, _⟩ := hxx.cells j hj2 (0, 0, 0)
          have hxo : (r.lats.getD j (0, 0, 0)).1 = (ownsL r).getD k 0 := by
            unfold ownsL
            rw [hj]
            simp only [List.getD]
            rw [List.getElem?_append_right (by rw [L1.out]; omega), L1.out, show k1 + j - k1 = j by omega, List.getElem?_append_left (by rw [List.length_map, L2.out]; exact hj2)]
            simp [List.getElem?_eq_getElem (show j < r.lats.length by rw [L2.out]; exact hj2)]
          rw [hxo] at hx1
          obtain ⟨x, hx⟩ : ∃ x, x = (ownsL r).getD k 0 := ⟨_, rfl⟩
          rw [← hx] at hx1 FIN HOWN
          have hxh := HOWN.out
          have HR1 := Lib.hid hr2
          have HX1 := Lib.hid hx1
          have HJ := Lib.hid hj
          clear hx hxo hxx hr2 hx1 hab hj
          go_upto_region 17 with fail
          refine reg_NVal17 w.heap.size C5 b off k j k1 k2 f2 ND (FF + k6 + 1) WD (rm + 1) x false WL wq HR1.out cq HJ.out hj2 HX1.out HNQ.out (by omega) (by omega) HV1.out.wd hwl hxh (by omega) _ ?_
          intro Y0 _ _ _ _ _ _ _ _ _ _ _ _ _ _ _ _ _ hb
          have HF2 := Lib.hid (FIN.out Y0 hb)
          clear hb FIN cq hXq hCq HV1
          go_wp2
          go_roundw
          case rel => exact ⟨k + 1, by omega, by go_num, HF2.out⟩
          case measure => simp [intOf]; omega
    · obtain rfl : FF = k := by omega
      have HV := Lib.hid hI.out
      obtain ⟨w4, hw4⟩ : ∃ w4 : World, w4 = wr := ⟨_, rfl⟩
      subst hw4
      clear hI hlt hk
      obtain ⟨N0, hN0⟩ : ∃ N0, N0 = nIn bits FF (List.replicate (FF + k6 + 1) false) := ⟨_, rfl⟩
      obtain ⟨V0, hV0⟩ : ∃ V0, V0 = wIn bits (ownsL r) FF (List.replicate (rm + 1) false) := ⟨_, rfl⟩
      rw [← hN0, ← hV0] at HV
      have hn0 : N0.length = FF + k6 + 1 := by rw [hN0, nIn_len, List.length_replicate]
      have hv0 : V0.length = rm + 1 := by rw [hV0, wIn_len, List.length_replicate]
      have HN0 : Hid (nGa c.gates FF k6 N0 = nowEnd r c bits) := by show _ = _; unfold nowEnd; rw [HFN.out, VFF.out.gates, hN0]
      have HV0 : Hid (wIt r.gates k6 V0 = wasEnd r bits) := by show _ = _; unfold wasEnd wasAt0; rw [HFN.out, L6.out, ← HM.out, hV0]
      clear hN0 hV0
      have q2 := cell_of_block (HCC.out w4 HV.out.bel) 2
      go_wp2
      clear q2
      go_loopw [144, 11, 12] (fun i v11 v12 wr => ∃ k : Nat, k ≤ k6 ∧ i = .int .i64 k ∧ Hid (VI W2 ND WD (nGa c.gates FF k N0) V0 wr))
        (fun i _ _ _ => k6 - (intOf i).toNat)
      case atStart => exact ⟨0, Nat.zero_le _, rfl, HV.out⟩
      case round =>
        clear HV
        obtain ⟨k, hk, rfl, hI⟩ := hrel
        by_cases hlt : k < k6
        · obtain ⟨b, off, rfl, hbw⟩ := (HSC.out wr hI.out.bel).s2.addr (show 0 < k6 by omega)
          obtain ⟨qx, qy⟩ := (HSC.out wr hI.out.bel).s2.cells k hlt (0, 0)
          have hgt := VFF.out.gate k hlt
          obtain ⟨NL, hNL⟩ : ∃ NL, NL = nGa c.gates FF k N0 := ⟨_, rfl⟩
          have hnx := nGa_eq c.gates FF k N0
          rw [← hNL] at hI hnx
          have hnl : NL.length = FF + k6 + 1 := by rw [hNL, nGa_len, hn0]
          obtain ⟨g, hg⟩ : ∃ g, g = c.gates.getD k (0, 0) := ⟨_, rfl⟩
          rw [← hg] at qx qy hgt hnx
          obtain ⟨x, y⟩ := g
          simp only [nv32] at qx qy
          simp only at hgt hnx
          obtain ⟨hx1', hy1', hx2, hy2⟩ := hgt
          have hx1 : x / 2 < FF + k6 + 1 := by have := HFF.out; omega
          have hy1 : y / 2 < FF + k6 + 1 := by have := HFF.out; omega
          clear hx1' hy1'
          have HNX := Lib.hid hnx
          clear hg hNL hnx
          go_upto_region 21 with fail
          generalize hW : World.alloc wr _ = Wg
          have Bg : Below wr.heap.size wr Wg := by subst hW; exact ext_alloc _ _
          have hG : Wg.heap[wr.heap.size]? = some (.cells #[.int .u32 x, .int .u32 y] 56 (0, 0)) := by subst hW; exact heap_new _ _ _ rfl
          have HIG := Lib.hid (hI.out.below Bg)
          have g0 : Wg.cell? ⟨wr.heap.size, 0, none⟩ = some (.int .u32 x) := cell_of_block hG 0
          have g1' : Wg.cell? ⟨wr.heap.size, 1, none⟩ = some (.int .u32 y) := cell_of_block hG 1
          clear hW hG Bg qx qy hI hbw
          have hsee := sees_bcells HIG.out.nd hnl
          have C1 := Lib.hid (bit_any NL x _ _ _ Wg hsee hx1 hx2)
          have C2 := Lib.hid (bit_any NL y _ _ _ Wg hsee hy1 hy2)
          obtain ⟨b1, hb1⟩ : ∃ b1, b1 = bitL NL x := ⟨_, rfl⟩
          obtain ⟨b2, hb2⟩ : ∃ b2, b2 = bitL NL y := ⟨_, rfl⟩
          rw [← hb1] at C1
          rw [← hb2] at C2
          have HNX2 : Hid (nGa c.gates FF (k + 1) N0 = NL.set (FF + 1 + k) (b1 && b2)) := by show _ = _; rw [HNX.out, hb1, hb2]
          obtain ⟨fa, hfa⟩ : ∃ fa : Nat, fa = FF + 1 := ⟨_, rfl⟩
          obtain ⟨ix, hix⟩ : ∃ ix : Nat, ix = FF + 1 + k := ⟨_, rfl⟩
          rw [← hix] at HNX2
          have hixn : ix < NL.length := by omega
          have c1 := (cell_of_block HIG.out.nd ix).trans (bcells_get NL ix hixn)
          have c2 := unfrozen_of_block HIG.out.nd ix
          have W1' : IntKind.i64.wrap ((k : Int) + 1) = (k : Int) + 1 := IntWalk.i64_in _ (by omega)
          have W2' : IntKind.i64.wrap ((FF : Int) + 1) = (fa : Int) := by rw [IntWalk.i64_in _ (by omega)]; omega
          have W3' : IntKind.i64.wrap ((fa : Int) + (k : Int)) = (ix : Int) := by rw [IntWalk.i64_in _ (by omega)]; omega
          have hi2 : (ix : Int) < (FF : Int) + (k6 : Int) + 1 := by omega
          clear hfa hix hixn
          clear hsee hb1 hb2 HNX hx1 hy1
          go_wp2_with fail
          refine C1.out.mono ?_
          rintro e w' ⟨rfl, rfl⟩
          cases b1 with
          | true =>
            go_wp2_with fail
            refine C2.out.mono ?_
            rintro e w' ⟨rfl, rfl⟩
            have HN : Hid (VI W2 ND WD (nGa c.gates FF (k + 1) N0) V0 (World.setCell w' ⟨ND, ix, .none⟩ (.bool b2))) := by
              have h1 := HIG.out.setN hNW hUN ix b2
              have h2 := HNX2.out
              rw [Bool.true_and] at h2
              rw [← h2] at h1
              exact h1
            clear C1 C2
            go_wp2
            go_roundw
            case rel => exact ⟨k + 1, by omega, by go_num, HN.out⟩
            case measure => simp [intOf]; omega
          | false =>
            have HN : Hid (VI W2 ND WD (nGa c.gates FF (k + 1) N0) V0 (World.setCell w' ⟨ND, ix, .none⟩ (.bool false))) := by
              have h1 := HIG.out.setN hNW hUN ix false
              have h2 := HNX2.out
              rw [Bool.false_and] at h2
              rw [← h2] at h1
              exact h1
            clear C1 C2
            go_wp2
            go_roundw
            case rel => exact ⟨k + 1, by omega, by go_num, HN.out⟩
            case measure => simp [intOf]; omega
        · obtain rfl : k6 = k := by omega
          have hI' := hI.out
          rw [HN0.out] at hI'
          have hne : (nowEnd r c bits).length = FF + k6 + 1 := by rw [← HN0.out, nGa_len, hn0]
          obtain ⟨NE, hNE⟩ : ∃ NE, NE = nowEnd r c bits := ⟨_, rfl⟩
          rw [← hNE] at hI' hne
          have HNE := Lib.hid hNE
          have HV := Lib.hid hI'
          obtain ⟨w5, hw5⟩ : ∃ w5 : World, w5 = wr := ⟨_, rfl⟩
          subst hw5
          clear hI hI' hlt hk hNE HN0
          have p6 := cell_of_block (HXX.out w5 HV.out.bel) 6
          go_wp2
          clear p6
          go_loopw [169, 14] (fun i v14 wr => ∃ j : Nat, j ≤ k6 ∧ i = .int .i64 j ∧ Hid (VI W2 ND WD NE (wIt r.gates j V0) wr))
            (fun i _ _ => k6 - (intOf i).toNat)
          case atStart => exact ⟨0, Nat.zero_le _, rfl, HV.out⟩
          case round =>
            clear HV
            obtain ⟨j, hj, rfl, hI⟩ := hrel
            by_cases hlt : j < k6
            · have p6 := cell_of_block (HXX.out wr hI.out.bel) 6
              obtain ⟨VJ, hVJ⟩ : ∃ VJ, VJ = wIt r.gates j V0 := ⟨_, rfl⟩
              rw [← hVJ] at hI
              have hvj : VJ.length = rm + 1 := by rw [hVJ, wIt_len, hv0]
              have HVJ : Hid (wPa r.gates k6 VJ = wIt r.gates (j + 1) V0) := by show _ = _; rw [wIt, L6.out, hVJ]
              have WJ : IntKind.i64.wrap ((j : Int) + 1) = (j : Int) + 1 := IntWalk.i64_in _ (by omega)
              have HI0 := Lib.hid hI.out
              clear hI hVJ
              go_wp2
              clear p6
              obtain ⟨w6, hw6⟩ : ∃ w6 : World, w6 = wr := ⟨_, rfl⟩
              subst hw6
              go_loopw [174, 14] (fun i v14 wi => ∃ k : Nat, k ≤ k6 ∧ i = .int .i64 k ∧ Hid (VI W2 ND WD NE (wPa r.gates k VJ) wi))
                (fun i _ _ => k6 - (intOf i).toNat)
              case atStart => exact ⟨0, Nat.zero_le _, rfl, HI0.out⟩
              case round =>
                clear HI0
                obtain ⟨k, hk, rfl, hI⟩ := hrel
                by_cases hlt2 : k < k6
                · obtain ⟨b, off, rfl, hbw⟩ := (HSS.out wr hI.out.bel).s6.addr (show 0 < k6 by omega)
                  obtain ⟨qx, qy, qz⟩ := (HSS.out wr hI.out.bel).s6.cells k hlt2 (0, 0, 0)
                  have hgm : r.gates.getD k (0, 0, 0) ∈ r.gates := getD_mem (by rw [L6.out]; exact hlt2)
                  have ho := VFF.out.gown _ hgm
                  have hr2 := VFF.out.ref (r.gates.getD k (0, 0, 0)).2.1 (by unfold refsL; simp only [List.mem_append, List.mem_flatMap]; exact Or.inr (Or.inr ⟨_, hgm, by simp [gate1]⟩))
                  have hr3 := VFF.out.ref (r.gates.getD k (0, 0, 0)).2.2 (by unfold refsL; simp only [List.mem_append, List.mem_flatMap]; exact Or.inr (Or.inr ⟨_, hgm, by simp [gate1]⟩))
                  rw [← HM.out] at ho hr2 hr3
                  obtain ⟨VL, hVL⟩ : ∃ VL, VL = wPa r.gates k VJ := ⟨_, rfl⟩
                  have hnx := wPa_eq r.gates k VJ
                  rw [← hVL] at hI hnx
                  have hvl : VL.length = rm + 1 := by rw [hVL, wPa_len, hvj]
                  obtain ⟨g, hg⟩ : ∃ g, g = r.gates.getD k (0, 0, 0) := ⟨_, rfl⟩
                  rw [← hg] at qx qy qz ho hr2 hr3 hnx
                  obtain ⟨x, y, z⟩ := g
                  unfold nv32 at qx qy qz
                  simp only at ho hr2 hr3 hnx
                  have HNX := Lib.hid hnx
                  have HO := Lib.hid ho
                  have HR2 := Lib.hid hr2
                  have HR3 := Lib.hid hr3
                  clear hg hVL hnx hgm ho hr2 hr3
                  go_upto_region 28 with fail
                  generalize hW : World.alloc wr _ = Wg
                  have Bg : Below wr.heap.size wr Wg := by subst hW; exact ext_alloc _ _
                  have hG : Wg.heap[wr.heap.size]? = some (.cells #[.int .u32 x, .int .u32 y, .int .u32 z] 59 (0, 0)) := by subst hW; exact heap_new _ _ _ rfl
                  have hGW : wr.heap.size ≠ WD := by have := heap_lt hI.out.wd; omega
                  have HIG := Lib.hid (hI.out.below Bg)
                  have HGG := Lib.hid hG
                  clear hW hG Bg qx qy qz hI hbw
                  have W1' : IntKind.i64.wrap ((k : Int) + 1) = (k : Int) + 1 := IntWalk.i64_in _ (by omega)
                  refine reg_NVal28 wr.heap.size WD (rm + 1) x y z (bitL VL y) (bitL VL z) VL Wg hGW (cell_of_block HGG.out 0) (cell_of_block HGG.out 1) (cell_of_block HGG.out 2) (fun W hb => bit_any VL y _ _ _ W (sees_bcells (heap_below HIG.out.wd hb) hvl) HR2.out.1 HR2.out.2) (fun W hb => bit_any VL z _ _ _ W (sees_bcells (heap_below HIG.out.wd hb) hvl) HR3.out.1 HR3.out.2) HIG.out.wd hvl HO.out.1 HO.out.2 _ ?_
                  intro Y0 _ _ _ _ _ _ _ _ _ _ _ _ _ _ _ hb
                  have HN : Hid (VI W2 ND WD NE (wPa r.gates (k + 1) VJ) (Y0.setCell ⟨WD, x / 2, .none⟩ (.bool (bitL VL y && bitL VL z)))) := by
                    show VI _ _ _ _ _ _
                    rw [HNX.out]
                    exact (HIG.out.below hb).setW hNW hUW _ _
                  clear hb
                  go_wp2
                  go_roundw
                  case rel => exact ⟨k + 1, by omega, by go_num, HN.out⟩
                  case measure => simp [intOf]; omega
                · obtain rfl : k6 = k := by omega
                  have hI' := hI.out
                  rw [HVJ.out] at hI'
                  have HN := Lib.hid hI'
                  clear hI hI' hlt2 hk
                  go_wp2
                  go_roundw
                  case rel => exact ⟨j + 1, by omega, by go_num, HN.out⟩
                  case measure => simp [intOf]; omega
            · obtain rfl : k6 = j := by omega
              have hI' := hI.out
              rw [HV0.out] at hI'
              have hwe : (wasEnd r bits).length = rm + 1 := by rw [← HV0.out, wIt_len, hv0]
              obtain ⟨WE, hWE⟩ : ∃ WE, WE = wasEnd r bits := ⟨_, rfl⟩
              rw [← hWE] at hI' hwe
              have HWE := Lib.hid hWE
              have HV := Lib.hid hI'
              obtain ⟨w6, hw6⟩ : ∃ w6 : World, w6 = wr := ⟨_, rfl⟩
              subst hw6
              clear hI hI' hlt hj hWE HV0 hv0 hn0
              have ONES : Hid (r.gates.countP (fun g => WE.getD (g.1 / 2) false) = (List.range k6).countP (fun i => NE.getD (FF + 1 + i) false)) := by
                have h1 := same_ones VFF.out.ok bits
                rw [← HWE.out, ← HNE.out, VFF.out.gates, HFN.out] at h1
                exact h1
              have BITS : Hid (∀ x, bitL WE x = bitL NE (nowS (toS (ordR r)) x)) := fun x => by rw [HWE.out, HNE.out]; exact same_bit VFF.out.ok bits x
              have p6 := cell_of_block (HXX.out w6 HV.out.bel) 6
              go_wp2
              clear p6
              go_loopw [15, 198, 17] (fun n15 i v17 wr => ∃ (k cn : Nat), k ≤ k6 ∧ n15 = .int .i64 cn ∧ i = .int .i64 k ∧ cn ≤ k ∧ Hid (cn = (r.gates.take k).countP (fun g => WE.getD (g.1 / 2) false)) ∧ Hid (VI W2 ND WD NE WE wr))
                (fun _ i _ _ => k6 - (intOf i).toNat)
              case atStart => exact ⟨0, 0, Nat.zero_le _, rfl, rfl, Nat.le_refl _, by simp [Hid], HV.out⟩
              case round =>
                clear HV
                obtain ⟨k, cn, hk, rfl, rfl, hcn, hC, hI⟩ := hrel
                by_cases hlt : k < k6
                · obtain ⟨b, off, rfl, hbw⟩ := (HSS.out wr hI.out.bel).s6.addr (show 0 < k6 by omega)
                  obtain ⟨qx, qy, qz⟩ := (HSS.out wr hI.out.bel).s6.cells k hlt (0, 0, 0)
                  have hgm : r.gates.getD k (0, 0, 0) ∈ r.gates := getD_mem (by rw [L6.out]; exact hlt)
                  have ho := VFF.out.gown _ hgm
                  rw [← HM.out] at ho
                  have hct := count_snoc (fun g : Tri => WE.getD (g.1 / 2) false) r.gates (0, 0, 0) k (by rw [L6.out]; exact hlt)
                  rw [← hC.out] at hct
                  obtain ⟨g, hg⟩ : ∃ g, g = r.gates.getD k (0, 0, 0) := ⟨_, rfl⟩
                  rw [← hg] at qx qy qz ho hct
                  obtain ⟨x, y, z⟩ := g
                  unfold nv32 at qx qy qz
                  simp only at ho hct
                  have D1 : Int.tdiv (x : Int) 2 = ((x / 2 : Nat) : Int) := by rw [Int.tdiv_eq_ediv_of_nonneg (by omega)]; omega
                  obtain ⟨u, hu⟩ : ∃ u, u = x / 2 := ⟨_, rfl⟩
                  rw [← hu] at D1 ho hct
                  have hu2 : u < rm + 1 := ho.1
                  have hu3 : u < 4294967296 := by omega
                  have U1 : IntKind.u32.wrap ((u : Nat) : Int) = (u : Int) := IntWalk.u32_in _ (by omega)
                  have HCT := Lib.hid hct
                  clear hg hgm ho hct hu hC
                  go_upto_region 35 with fail
                  generalize hW : World.alloc wr _ = Wg
                  have Bg : Below wr.heap.size wr Wg := by subst hW; exact ext_alloc _ _
                  have hG : Wg.heap[wr.heap.size]? = some (.cells #[.int .u32 x, .int .u32 y, .int .u32 z] 59 (0, 0)) := by subst hW; exact heap_new _ _ _ rfl
                  have HIG := Lib.hid (hI.out.below Bg)
                  have g0 : Wg.cell? ⟨wr.heap.size, 0, none⟩ = some (.int .u32 x) := cell_of_block hG 0
                  have c1 := (cell_of_block HIG.out.wd u).trans (bcells_get WE u (by omega))
                  obtain ⟨p, hp⟩ : ∃ p, p = WE.getD u false := ⟨_, rfl⟩
                  rw [← hp] at c1 HCT
                  clear hW hG Bg qx qy qz hI hbw hp
                  have W1' : IntKind.i64.wrap ((k : Int) + 1) = (k : Int) + 1 := IntWalk.i64_in _ (by omega)
                  have W2' : IntKind.i64.wrap ((cn : Int) + 1) = (cn : Int) + 1 := IntWalk.i64_in _ (by omega)
                  cases p with
                  | true =>
                    have HC2 : Hid (cn + 1 = (r.gates.take (k + 1)).countP (fun g => WE.getD (g.1 / 2) false)) := by show _ = _; rw [HCT.out]; simp
                    go_wp2
                    go_roundw
                    case rel => exact ⟨k + 1, cn + 1, by omega, by go_num, by go_num, by omega, HC2.out, HIG.out⟩
                    case measure => simp [intOf]; omega
                  | false =>
                    have HC2 : Hid (cn = (r.gates.take (k + 1)).countP (fun g => WE.getD (g.1 / 2) false)) := by show _ = _; rw [HCT.out]; simp
                    go_wp2
                    go_roundw
                    case rel => exact ⟨k + 1, cn, by omega, by go_num, by go_num, by omega, HC2.out, HIG.out⟩
                    case measure => simp [intOf]; omega
                · obtain rfl : k6 = k := by omega
                  have hC' := hC.out
                  rw [List.take_of_length_le (by rw [L6.out]; exact Nat.le_refl _), ONES.out] at hC'
                  have HC := Lib.hid hC'
                  have HV := Lib.hid hI.out
                  obtain ⟨w7, hw7⟩ : ∃ w7 : World, w7 = wr := ⟨_, rfl⟩
                  subst hw7
                  clear hI hC hC' hlt hk
                  have q2 := cell_of_block (HCC.out w7 HV.out.bel) 2
                  go_wp2
                  clear q2
                  go_loopw [15, 214, 18] (fun n15 i v18 wr => ∃ (k : Nat) (zz : Int), k ≤ k6 ∧ n15 = .int .i64 zz ∧ i = .int .i64 k ∧ (-(k : Int) ≤ zz ∧ zz ≤ 20000) ∧ Hid (zz = (cn : Int) - ((List.range k).countP (fun i => NE.getD (FF + 1 + i) false) : Nat)) ∧ Hid (VI W2 ND WD NE WE wr))
                    (fun _ i _ _ => k6 - (intOf i).toNat)
                  case atStart => exact ⟨0, cn, Nat.zero_le _, rfl, rfl, ⟨by omega, by omega⟩, by simp [Hid], HV.out⟩
                  case round =>
                    clear HV
                    obtain ⟨k, zz, hk, rfl, rfl, hzz, hC, hI⟩ := hrel
                    obtain ⟨hza, hzb⟩ := hzz
                    by_cases hlt : k < k6
                    · have hct : (List.range (k + 1)).countP (fun i => NE.getD (FF + 1 + i) false) = (List.range k).countP (fun i => NE.getD (FF + 1 + i) false) + (if NE.getD (FF + 1 + k) false = true then 1 else 0) := countR_snoc (fun i => NE.getD (FF + 1 + i) false) k
                      obtain ⟨fa, hfa⟩ : ∃ fa : Nat, fa = FF + 1 := ⟨_, rfl⟩
                      obtain ⟨ix, hix⟩ : ∃ ix : Nat, ix = FF + 1 + k := ⟨_, rfl⟩
                      obtain ⟨p, hp⟩ : ∃ p, p = NE.getD (FF + 1 + k) false := ⟨_, rfl⟩
                      rw [← hp] at hct
                      rw [← hix] at hp
                      have hixn : ix < NE.length := by omega
                      have c1 := (cell_of_block hI.out.nd ix).trans (bcells_get NE ix hixn)
                      rw [← hp] at c1
                      have HCT := Lib.hid hct
                      have HIG := Lib.hid hI.out
                      have HCC1 := Lib.hid hC.out
                      have W1' : IntKind.i64.wrap ((k : Int) + 1) = (k : Int) + 1 := IntWalk.i64_in _ (by omega)
                      have W2' : IntKind.i64.wrap ((FF : Int) + 1) = (fa : Int) := by rw [IntWalk.i64_in _ (by omega)]; omega
                      have W3' : IntKind.i64.wrap ((fa : Int) + (k : Int)) = (ix : Int) := by rw [IntWalk.i64_in _ (by omega)]; omega
                      obtain ⟨zm, hzm⟩ : ∃ zm : Int, zm = zz - 1 := ⟨_, rfl⟩
                      have W4' : IntKind.i64.wrap (zz - 1) = zm := by rw [IntWalk.i64_in _ (by omega)]; omega
                      have hzm1 : -((k : Int) + 1) ≤ zm := by omega
                      have hzm2 : zm ≤ 20000 := by omega
                      have HZM := Lib.hid hzm
                      have hi2 : (ix : Int) < (FF : Int) + (k6 : Int) + 1 := by omega
                      clear hfa hix hixn hzm
                      clear hct hI hC hp
                      cases p with
                      | true =>
                        have HC2 : Hid (zm = (cn : Int) - ((List.range (k + 1)).countP (fun i => NE.getD (FF + 1 + i) false) : Nat)) := by
                          show _ = _
                          rw [HZM.out, HCT.out, HCC1.out]
                          simp
                          omega
                        go_wp2
                        go_roundw
                        case rel => exact ⟨k + 1, zm, by omega, rfl, by go_num, ⟨by omega, by omega⟩, HC2.out, HIG.out⟩
                        case measure => simp [intOf]; omega
                      | false =>
                        have HC2 : Hid (zz = (cn : Int) - ((List.range (k + 1)).countP (fun i => NE.getD (FF + 1 + i) false) : Nat)) := by
                          show _ = _
                          rw [HCT.out]
                          simpa using HCC1.out
                        go_wp2
                        go_roundw
                        case rel => exact ⟨k + 1, zz, by omega, rfl, by go_num, ⟨by omega, by omega⟩, HC2.out, HIG.out⟩
                        case measure => simp [intOf]; omega
                    · obtain rfl : k6 = k := by omega
                      have hz9 : zz = 0 := by rw [hC.out, ← HC.out]; omega
                      subst hz9
                      have HV := Lib.hid hI.out
                      obtain ⟨w8, hw8⟩ : ∃ w8 : World, w8 = wr := ⟨_, rfl⟩
                      subst hw8
                      clear hI hC hlt hk hza hzb
                      have p2 := cell_of_block (HXX.out w8 HV.out.bel) 2
                      go_wp2
                      clear p2
                      go_loopw [230, 19, 20] (fun i v19 v20 wr => ∃ k : Nat, k ≤ k2 ∧ i = .int .i64 k ∧ Hid (VI W2 ND WD NE WE wr))
                        (fun i _ _ _ => k2 - (intOf i).toNat)
                      case atStart => exact ⟨0, Nat.zero_le _, rfl, HV.out⟩
                      case round =>
                        clear HV
                        obtain ⟨k, hk, rfl, hI⟩ := hrel
                        by_cases hlt : k < k2
                        · obtain ⟨b, off, rfl, hbw⟩ := (HSS.out wr hI.out.bel).s2.addr (show 0 < k2 by omega)
                          obtain ⟨qx, qy, qz⟩ := (HSS.out wr hI.out.bel).s2.cells k hlt (0, 0, 0)
                          obtain ⟨b', off', rfl, hbw'⟩ := (HSC.out wr hI.out.bel).s1.addr (show 0 < k2 by omega)
                          obtain ⟨tx, ty⟩ := (HSC.out wr hI.out.bel).s1.cells k hlt (0, 0)
                          have hgm : r.lats.getD k (0, 0, 0) ∈ r.lats := getD_mem (by rw [L2.out]; exact hlt)
                          have hr2 := VFF.out.ref (r.lats.getD k (0, 0, 0)).2.1 (by unfold refsL; simp only [List.mem_append, List.mem_map]; exact Or.inr (Or.inl ⟨_, hgm, rfl⟩))
                          rw [← HM.out] at hr2
                          have hcl : (c.lats.getD k (0, 0)).1 = nowS (toS (ordR r)) (r.lats.getD k (0, 0, 0)).2.1 := by
                            rw [VFF.out.eqc]
                            unfold renumS ordR latS3
                            simp [List.getD, List.getElem?_eq_getElem (show k < r.lats.length by rw [L2.out]; exact hlt)]
                          have hbt := BITS.out (r.lats.getD k (0, 0, 0)).2.1
                          rw [← hcl] at hbt
                          have hlt9 := VFF.out.lit (r.lats.getD k (0, 0, 0)).2.1
                          rw [← hcl] at hlt9
                          obtain ⟨g, hg⟩ : ∃ g, g = r.lats.getD k (0, 0, 0) := ⟨_, rfl⟩
                          obtain ⟨m, hm⟩ : ∃ m, m = c.lats.getD k (0, 0) := ⟨_, rfl⟩
                          rw [← hg] at qx qy qz hr2 hbt
                          rw [← hm] at tx ty hbt hlt9
                          obtain ⟨x, y, z⟩ := g
                          obtain ⟨mx, my⟩ := m
                          simp only [nv32, nv8] at qx qy qz tx ty
                          simp only at hr2 hbt hlt9
                          obtain ⟨p, hp⟩ : ∃ p, p = bitL WE y := ⟨_, rfl⟩
                          rw [← hp] at hbt
                          have HR2 := Lib.hid hr2
                          have HL9 := Lib.hid hlt9
                          have HBT := Lib.hid hbt
                          have HP := Lib.hid hp
                          clear hg hm hgm hcl hr2 hbt hlt9 hp
                          go_upto_region 47 with fail
                          generalize hW : World.alloc wr _ = Wg
                          have Bg : Below wr.heap.size wr Wg := by subst hW; exact ext_alloc _ _
                          have hG : Wg.heap[wr.heap.size]? = some (.cells #[.int .u32 x, .int .u32 y, .int .u32 z] 54 (0, 0)) := by subst hW; exact heap_new _ _ _ rfl
                          have HIG := Lib.hid (hI.out.below Bg)
                          have g1' : Wg.cell? ⟨wr.heap.size, 1, none⟩ = some (.int .u32 y) := cell_of_block hG 1
                          have cc1 := cell_of_block (HCC.out Wg HIG.out.bel) 1
                          have tx2 := cell_below tx Bg
                          clear hW hG Bg qx qy qz tx ty hI hbw hbw'
                          have C1 : Hid (∀ n, Calls Try.prog 27 #[.slice (some ⟨WD, 0, none⟩) (rm + 1) (rm + 1), .int .u32 (y : Int)] (Wg.drewN n) fun e w' => e = .returned (.bool p) ∧ w' = Wg.drewN n) := fun n => by
                            have h1 := bit_any WE y _ _ _ (Wg.drewN n) ((sees_bcells HIG.out.wd hwe).below (ext_drewN Wg n)) HR2.out.1 HR2.out.2
                            rw [← HP.out] at h1
                            exact h1
                          have C2 : Hid (∀ n, Calls Try.prog 27 #[.slice (some ⟨ND, 0, none⟩) (FF + k6 + 1) (FF + k6 + 1), .int .u32 (mx : Int)] (Wg.drewN n) fun e w' => e = .returned (.bool p) ∧ w' = Wg.drewN n) := fun n => by
                            have h1 := bit_any NE mx _ _ _ (Wg.drewN n) ((sees_bcells HIG.out.nd hne).below (ext_drewN Wg n)) (by have := HL9.out.1; have := HFF.out; omega) HL9.out.2
                            rw [← HBT.out] at h1
                            exact h1
                          have W1' : IntKind.i64.wrap ((k : Int) + 1) = (k : Int) + 1 := IntWalk.i64_in _ (by omega)
                          go_quiet ((go_at_call 27; first | with_reducible exact Calls.quiet_of_same (C1.out _) | with_reducible exact Calls.quiet_of_same (C2.out _)))
                          go_wp2
                          go_roundw
                          case rel => exact ⟨k + 1, by omega, by go_num, HIG.out.below (ext_drewN _ _)⟩
                          case measure => simp [intOf]; omega
                        · obtain rfl : k2 = k := by omega
                          have HV := Lib.hid hI.out
                          obtain ⟨w9, hw9⟩ : ∃ w9 : World, w9 = wr := ⟨_, rfl⟩
                          subst hw9
                          clear hI hlt hk
                          have TOLD : Hid (∀ (l m : List Nat) (a3 : Option Addr) (n3 c3 : Nat) (a4 : Option Addr) (c4 : Nat) W, Below w9.heap.size w9 W → Sees W a3 n3 c3 (l.map nv32) → Sees W a4 n3 c4 (m.map nv32) → n3 ≤ 1048576 → m = l.map (nowS (toS (ordR r))) → (∀ x ∈ l, x ∈ refsL r) →
                              Calls Try.prog 28 #[.slice (some ⟨WD, 0, none⟩) (rm + 1) (rm + 1), .slice (some ⟨ND, 0, none⟩) (FF + k6 + 1) (FF + k6 + 1), .slice a3 n3 c3, .slice a4 n3 c4] W fun e w' => e = .returned (.bool true) ∧ Below W.heap.size W w') := fun l m a3 n3 c3 a4 c4 W hb h3 h4 hn hm hl => by
                            refine told_any WE NE l m _ _ _ _ _ _ a3 n3 c3 a4 c4 W (sees_bcells (heap_below HV.out.wd hb) hwe) (sees_bcells (heap_below HV.out.nd hb) hne) h3 h4 hn (fun x hx => ?_) (fun x hx => ?_) (fun i hi => ?_)
                            · have h1 := VFF.out.ref x (hl x hx)
                              rw [← HM.out] at h1
                              exact h1
                            · rw [hm] at hx
                              obtain ⟨y, _, rfl⟩ := List.mem_map.1 hx
                              have h1 := VFF.out.lit y
                              have h2 := HFF.out
                              omega
                            · have hil : i < l.length := by rw [h3.lenMap]; exact hi
                              rw [hm]
                              have e1 : (l.map (nowS (toS (ordR r)))).getD i 0 = nowS (toS (ordR r)) (l.getD i 0) := by simp [List.getD, List.getElem?_eq_getElem hil]
                              rw [e1]
                              exact BITS.out _
                          have hXw := HXX.out w9 HV.out.bel
                          have hCw := HCC.out w9 HV.out.bel
                          have p3 := cell_of_block hXw 3
                          have q3 := cell_of_block hCw 3
                          have HXW := Lib.hid hXw
                          have HCW := Lib.hid hCw
                          have SRW := Lib.hid (HSS.out w9 HV.out.bel)
                          have SCW := Lib.hid (HSC.out w9 HV.out.bel)
                          clear hXw hCw
                          go_wp2_with fail
                          refine (TOLD.out r.outs c.outs r3 k3 f3 e3 g3 w9 (Below.refl _ _) SRW.out.s3 SCW.out.s3 hk3 (by rw [VFF.out.eqc]; rfl) (fun x hx => by unfold refsL; simp only [List.mem_append]; exact Or.inl (Or.inl hx))).mono ?_
                          rintro e V1 ⟨rfl, hb⟩
                          have B1 := Lib.hid hb
                          clear hb p3 q3
                          have p4 := cell_of_block (heap_below HXW.out B1.out) 4
                          have q4 := cell_of_block (heap_below HCW.out B1.out) 4
                          go_wp2_with fail
                          refine (TOLD.out r.bads c.bads r4 k4 f4 e4 g4 V1 B1.out (SRW.out.s4.below B1.out) (SCW.out.s4.below B1.out) hk4 (by rw [VFF.out.eqc]; rfl) (fun x hx => by unfold refsL; simp only [List.mem_append]; exact Or.inl (Or.inr (Or.inl hx)))).mono ?_
                          rintro e V2 ⟨rfl, hb⟩
                          have B2' := Lib.hid (ext_trans B1.out hb)
                          clear hb p4 q4
                          have p5 := cell_of_block (heap_below HXW.out B2'.out) 5
                          have q5 := cell_of_block (heap_below HCW.out B2'.out) 5
                          go_wp2_with fail
                          refine (TOLD.out r.cons c.cons r5 k5 f5 e5 g5 V2 B2'.out (SRW.out.s5.below B2'.out) (SCW.out.s5.below B2'.out) hk5 (by rw [VFF.out.eqc]; rfl) (fun x hx => by unfold refsL; simp only [List.mem_append]; exact Or.inl (Or.inr (Or.inr hx)))).mono ?_
                          rintro e V3 ⟨rfl, hb⟩
                          have B3' := Lib.hid (ext_trans B2'.out hb)
                          clear hb p5 q5
                          go_wp2_with fail
                          refine (lives3_any V3).mono ?_
                          rintro e V4 ⟨rfl, hb⟩
                          have HB9 := Lib.hid (ext_trans (ext_trans (ext_trans B2.out HV.out.bel) B3'.out) hb)
                          clear hb
                          go_wp2
                          go_ret
                          exact ⟨rfl, HB9.out⟩
end Go.Proofs.Ytkbdebdhebphpaa
namespace Go.Proofs.Ytkbdebdhebphpaa.normValues
open Go Go.ChangeShapes Go.WideShapes Go.ChangeAt Go.RowKit

set_option maxRecDepth 100000 in
set_option maxHeartbeats 1600000 in
theorem contract (H : Type) (enc : TypeId × Value → H) (W : World) (base : Nat) (args : Array Value) (ds gs : List (DataW H)) (before : List MemPlace)
    (hval : ∀ (j : Nat) t v, Try.f5.params[j]? = some t → args[j]? = some v → Value.okWide Try.prog W .any base t v)
    (hW : DataW.Whole enc Try.prog Try.f5.params.toList Rows.normValuesSpec.vars false W args.toList ds gs before)
    (hk : Rows.uptoSmall H (ds ++ gs) = true) :
    Calls Try.prog 5 args W fun e W' => ∃ v, e = .returned v ∧ Rows.normValuesSpec.post enc Try.prog Try.f5 false true false false W args v W' := by
  have hW' := hW
  obtain ⟨p, q, hA0, hV, rfl, hfz, hnd⟩ := hW
  have hA : DataW.TrodAll enc Try.prog W 0 (fun _ => true) true Try.f5.params.toList args.toList ds p := hA0
  rw [Try.params5] at hA hval
  obtain ⟨v0, vs0, d0, ds0, p0, q0, hargs, rfl, rfl, h0, r0⟩ := trodAll_cons hA
  obtain ⟨v1, vs1, d1, ds1, p1, q1, rfl, rfl, rfl, h1, r1⟩ := trodAll_cons r0
  obtain ⟨rfl, rfl, rfl⟩ := trodAll_nil r1
  obtain rfl : args = #[v0, v1] := by cases args; simp_all
  obtain ⟨rfl, rfl⟩ := trodVars_none hV
  have hb := bulk_bound hk
  have hb0 := bulk_part (d := d0) (l := [d0, d1] ++ []) (by simp)
  obtain ⟨rc0, s0, rfl, hs0, m01, m02, m03, m04, m05, m06⟩ := open_raw (hval 0 37 _ rfl rfl) h0
  have sm0 : s0.small := ⟨by omega, by omega, by omega, by omega, by omega, by omega⟩
  have hb1 := bulk_part (d := d1) (l := [d0, d1] ++ []) (by simp)
  obtain ⟨a1, n1, c1, bs1, rfl, hs1, m1⟩ := open_bools (hval 1 52 _ rfl rfl) h1
  clear hA0 hA
  refine (values_any rc0 s0 bs1 a1 n1 c1 W hs0 sm0 hs1 (by omega)).mono fun e W' ⟨he, hbel⟩ => ?_
  subst he
  exact ⟨_, rfl, law_end laidOut (by decide +kernel) rfl rfl Try.underlying4 hW' rfl rfl rfl hbel⟩

set_option maxRecDepth 100000 in
theorem lifted (os : Os) (started : os.Started) (H : Type) (enc : TypeId × Value → H) (F : Stop.Interp) :
    ReturnsInHanded {} Try.checked os 5 .any ((Rows.OpenSpec.upto Rows.normValuesSpec).pre6 enc Try.prog Try.f5 Rows.normValuesUptoRow.domain false) (((Rows.OpenSpec.upto Rows.normValuesSpec).at F).post enc Try.prog Try.f5 false true false false) := by
  refine returnsInHanded_of_cond (C := Try.checked) (s := Rows.OpenSpec.upto Rows.normValuesSpec) (k := Rows.uptoSmall) rfl own started (by kernel_rfl) Try.func5
    (OpenSpec.witness (enc := enc) (C := Try.checked) (s := Rows.OpenSpec.upto Rows.normValuesSpec) (k := Rows.uptoSmall) rfl false ⟨#[], #[.agg #[.int .u32 0, .slice none 0 0, .slice none 0 0, .slice none 0 0, .slice none 0 0, .slice none 0 0, .slice none 0 0], .slice none 0 0], []⟩ 8 (by kernel_rfl) (by kernel_rfl) (by kernel_rfl)
      (x := ([.agg [.lit (.int .u32 0), .nil, .nil, .nil, .nil, .nil, .nil], .nil], [], [])) (by kernel_rfl) rfl (by kernel_rfl)) ?_
  intro W base args ds gs before hval hW _ hk _
  exact contract H enc W base args ds gs before hval hW hk

theorem proved : Rows.NormValuesUptoSaid :=
  OpenClaim.holds_of_cond 5 Try.f5 rfl rfl rfl rfl rfl rfl rfl ⟨rfl, rfl, rfl, rfl, rfl⟩ rfl rfl rfl rfl rfl (by kernel_rfl) Try.func5 (by kernel_rfl)
    (of_decide_eq_true (by kernel_rfl)) (by unfold Func.isWrapper; first | (rw [if_pos (by decide +kernel)]; kernel_rfl) | (rw [if_neg (by decide +kernel)]; exact ⟨rfl, rfl⟩))
    (fun os started H enc _ F => lifted os started H enc F)
end Go.Proofs.Ytkbdebdhebphpaa.normValues
