/- What the reference's Of goes through, on plain lists. -/
import Derived.Test.YtkbdebdhebphpaaNRefC
import Derived.Test.YtkbdebdhebphpaaNOf
namespace Go.Proofs.Ytkbdebdhebphpaa
open Go Go.RowKit

theorem defsF_append : ∀ (a b : List Nat) (d : List Bool), defsF d (a ++ b) = (defsF d a).bind (fun e => defsF e b)
  | [], b, d => by simp [defsF]
  | x :: a, b, d => by
    simp only [List.cons_append, defsF]
    split
    · rfl
    · split
      · rfl
      · exact defsF_append a b _

/-- The numbers of variables, by the literals in their order. -/
def numF : List Nat → Nat → List Nat → List Nat
  | t, _, [] => t
  | t, i, x :: r => numF (t.set (x / 2) (1 + i)) (i + 1) r
theorem numF_snoc : ∀ (a : List Nat) (x : Nat) (t : List Nat) (i : Nat), numF t i (a ++ [x]) = (numF t i a).set (x / 2) (1 + (i + a.length))
  | [], x, t, i => rfl
  | y :: a, x, t, i => by
    rw [List.cons_append, numF, numF, numF_snoc a]
    congr 1
    simp; omega
theorem numF_len : ∀ (a : List Nat) (t : List Nat) (i : Nat), (numF t i a).length = t.length
  | [], _, _ => rfl
  | y :: a, t, i => by rw [numF, numF_len a, List.length_set]
theorem numF_le : ∀ (a : List Nat) (t : List Nat) (i m : Nat), (∀ v, t.getD v 0 ≤ m) → i + a.length ≤ m → ∀ v, (numF t i a).getD v 0 ≤ m
  | [], _, _, _, h, _, v => h v
  | y :: a, t, i, m, h, hm, v => by
    rw [numF]
    simp at hm
    refine numF_le a _ _ m (fun u => ?_) (by omega) v
    rw [set_getD]
    split
    · omega
    · exact h u
theorem numF_pos : ∀ (a : List Nat) (t : List Nat) (i : Nat), (∀ x ∈ a, x / 2 < t.length) → ∀ v, ((numF t i a).getD v 0 ≠ 0 ↔ t.getD v 0 ≠ 0 ∨ ∃ x ∈ a, x / 2 = v)
  | [], _, _, _, v => by simp [numF]
  | y :: a, t, i, h, v => by
    rw [numF, numF_pos a _ _ (fun x hx => by rw [List.length_set]; exact h x (by simp [hx])) v, set_getD]
    have hy := h y (by simp)
    by_cases e : y / 2 = v
    · rw [if_pos ⟨e, hy⟩]
      simp [e]
    · rw [if_neg (fun c => e c.1)]
      simp [e]
theorem map2_set : ∀ (t : List Nat) (i v : Nat), (t.set i v).map (2 * ·) = (t.map (2 * ·)).set i (2 * v) := by
  intro t i v
  rw [List.map_set]
theorem toF_num : ∀ (a : List Nat) (t : List Nat) (i : Nat), toF (t.map (2 * ·)) i a = (numF t i a).map (2 * ·)
  | [], _, _ => rfl
  | y :: a, t, i => by rw [toF, numF, ← toF_num a, map2_set]
theorem now_num (t : List Nat) (x : Nat) : nowS (t.map (2 * ·)) x = numL t x := by
  unfold nowS numL
  congr 1
  by_cases h : x / 2 < t.length
  · simp [List.getD, h]
  · simp [List.getD, h]
def numS (r : RawC) : List Nat := numF (List.replicate (r.max + 1) 0) 0 (ownsL r)
theorem toS_num (r : RawC) : toS r = (numS r).map (2 * ·) := by
  unfold toS numS
  rw [← toF_num, List.map_replicate]
def pairN (t : List Nat) (g : Tri) : Nat × Nat := (max (numL t g.2.1) (numL t g.2.2), min (numL t g.2.1) (numL t g.2.2))

/-- The table of what is defined: ones and zeros. -/
def IsTab (m : Nat) (d : List Bool) (t : List Nat) : Prop := t.length = m + 1 ∧ d.length = m + 1 ∧ d.getD 0 false = true ∧ ∀ v, t.getD v 0 = if v ≠ 0 ∧ d.getD v false = true then 1 else 0
theorem isTab_start (m : Nat) : IsTab m (defs0 m) (List.replicate (m + 1) 0) := by
  refine ⟨by simp, by simp [defs0], by simp [defs0, List.getD], fun v => ?_⟩
  unfold defs0
  rw [bset_getD]
  have e1 : (List.replicate (m + 1) 0).getD v 0 = 0 := by simp only [List.getD, List.getElem?_replicate]; split <;> rfl
  have e2 : (List.replicate (m + 1) false).getD v false = false := by simp only [List.getD, List.getElem?_replicate]; split <;> rfl
  rw [e1, e2]
  by_cases h : v = 0
  · simp [h]
  · rw [if_neg]
    rintro ⟨_, h2⟩
    rw [if_neg (fun c => h c.1.symm)] at h2
    cases h2
theorem isTab_step {m : Nat} {d : List Bool} {t : List Nat} (h : IsTab m d t) {x : Nat} (hx : x / 2 < m + 1) (hz : x / 2 ≠ 0) : IsTab m (d.set (x / 2) true) (t.set (x / 2) 1) := by
  refine ⟨by rw [List.length_set, h.1], by rw [List.length_set, h.2.1], by rw [bset_getD, if_neg (fun c => hz c.1)]; exact h.2.2.1, fun v => ?_⟩
  rw [set_getD, bset_getD, h.1, h.2.1]
  have hv := h.2.2.2 v
  generalize x / 2 = u at hx hz ⊢
  by_cases e : u = v
  · subst e
    simp only [hx, and_self, if_true]
    rw [if_pos ⟨hz, trivial⟩]
  · simp only [e, false_and, if_false]
    exact hv
theorem isTab_lack {m : Nat} {d : List Bool} {t : List Nat} (h : IsTab m d t) (x : Nat) : lackL t x = missing d x := by
  unfold lackL missing
  rw [h.2.2.2]
  by_cases h1 : 1 < x
  · have h2 : x / 2 ≠ 0 := by omega
    cases h3 : d.getD (x / 2) false <;> simp [h1, h2]
  · have h2 : x / 2 = 0 := by omega
    rw [h2, h.2.2.1]
    simp [h1]
/-- A round over what is defined. -/
theorem isTab_bad {m : Nat} {d : List Bool} {t : List Nat} (h : IsTab m d t) {x : Nat} (hb : x % 2 = 1 ∨ x = 0 ∨ 0 < t.getD (x / 2) 0) : defsF d [x] = none := by
  unfold defsF
  by_cases h1 : x % 2 = 1
  · rw [if_pos h1]
  · rw [if_neg h1, if_pos]
    rcases hb with hb | hb | hb
    · exact absurd hb h1
    · subst hb; exact h.2.2.1
    · rw [h.2.2.2] at hb
      split at hb
      · rename_i c; exact c.2
      · omega
theorem isTab_good {m : Nat} {d : List Bool} {t : List Nat} (h : IsTab m d t) {x : Nat} (h1 : x % 2 = 0) (h2 : x ≠ 0) (h3 : t.getD (x / 2) 0 = 0) : defsF d [x] = some (d.set (x / 2) true) := by
  unfold defsF
  rw [if_neg (by omega), if_neg]
  · rfl
  · intro c
    rw [h.2.2.2, if_pos ⟨by omega, c⟩] at h3
    omega
theorem asked_refs (r : RawC) (p : Nat → Bool) : (askedL r).any p = (refsL r).any p := by
  unfold askedL refsL
  simp only [List.any_append]
  cases r.outs.any p <;> cases r.bads.any p <;> cases r.cons.any p <;> cases (r.lats.map (·.2.1)).any p <;> cases (r.gates.flatMap gate1).any p <;> rfl
theorem refs_asked {r : RawC} {x : Nat} (h : x ∈ askedL r) : x ∈ refsL r := by
  unfold askedL at h
  unfold refsL
  simp only [List.mem_append] at h ⊢
  rcases h with (((h | h) | h) | h) | h
  · exact Or.inr (Or.inl h)
  · exact Or.inl (Or.inl h)
  · exact Or.inl (Or.inr (Or.inl h))
  · exact Or.inl (Or.inr (Or.inr h))
  · exact Or.inr (Or.inr h)

/-- The search for gates, where 'done' have their numbers. -/
structure Srch (r : RawC) (done : List Tri) (num : List Nat) : Prop where
  ord : inOrderS r.gates = done ++ orderF r.gates (r.gates.length - done.length) (done.map (fun g => g.1 / 2))
  tab : num = numF (List.replicate (r.max + 1) 0) 0 (r.ins ++ (r.lats.map (·.1) ++ done.map (·.1)))
  few : done.length + openN r.gates (done.map (fun g => g.1 / 2)) ≤ r.gates.length
  mem : ∀ g ∈ done, g ∈ r.gates
  full : ∀ g ∈ done, ∀ y ∈ gate1 g, lackL num y = false

theorem Srch.start (r : RawC) : Srch r [] (numF (List.replicate (r.max + 1) 0) 0 (r.ins ++ r.lats.map (·.1))) :=
  ⟨by simp [inOrderS], by simp, by simp [openN_nil], by simp, by simp⟩

/-- What is known of the circuit when the search begins. -/
structure Ctx (r : RawC) (d : List Bool) : Prop where
  lits : Lits r
  defs : defsS r = some d
  refs : (refsL r).any (missing d) = false

theorem Ctx.apart {r : RawC} {d : List Bool} (h : Ctx r d) : (ownsL r).Pairwise (fun a b => a / 2 ≠ b / 2) :=
  (defsF_apart (ownsL r) _ d h.defs (fun x hx => by have := h.lits.owns x hx; simp [defs0]; omega)).2
theorem Ctx.nz {r : RawC} {d : List Bool} (h : Ctx r d) : ∀ x ∈ ownsL r, x / 2 ≠ 0 := fun x hx e => by
  have := (defsF_apart (ownsL r) _ d h.defs (fun x hx => by have := h.lits.owns x hx; simp [defs0]; omega)).1 x hx
  rw [e] at this
  simp [defs0, List.getD] at this
theorem Ctx.isdef {r : RawC} {d : List Bool} (h : Ctx r d) {x : Nat} (hx : x ∈ refsL r) : x / 2 = 0 ∨ ∃ y ∈ ownsL r, y / 2 = x / 2 := by
  have hm := any_false.1 h.refs x hx
  unfold missing at hm
  have hd : d.getD (x / 2) false = true := by simpa using hm
  rcases (defsF_get (ownsL r) _ d h.defs (fun x hx => by have := h.lits.owns x hx; simp [defs0]; omega) (x / 2)).1 hd with h0 | h0
  · left
    unfold defs0 at h0
    rw [bset_getD] at h0
    by_cases e : x / 2 = 0
    · exact e
    · rw [if_neg (fun c => e c.1.symm)] at h0
      have e2 : (List.replicate (r.max + 1) false).getD (x / 2) false = false := by simp only [List.getD, List.getElem?_replicate]; split <;> rfl
      rw [e2] at h0
      cases h0
  · exact Or.inr h0

section
variable {r : RawC} {d : List Bool} {done : List Tri} {num : List Nat}
theorem Srch.lt (hc : Ctx r d) (h : Srch r done num) : ∀ x ∈ r.ins ++ (r.lats.map (·.1) ++ done.map (·.1)), x / 2 < r.max + 1 := fun x hx => by
  have : x ∈ ownsL r := by
    unfold ownsL
    simp only [List.mem_append, List.mem_map] at hx ⊢
    rcases hx with hx | hx | ⟨g, hg, rfl⟩
    · exact Or.inl hx
    · exact Or.inr (Or.inl hx)
    · exact Or.inr (Or.inr ⟨g, h.mem g hg, rfl⟩)
  have := hc.lits.owns x this
  omega
theorem Srch.pos (hc : Ctx r d) (h : Srch r done num) (v : Nat) : num.getD v 0 ≠ 0 ↔ (∃ x ∈ r.ins ++ r.lats.map (·.1), x / 2 = v) ∨ v ∈ done.map (fun g => g.1 / 2) := by
  rw [h.tab, numF_pos _ _ _ (fun x hx => by rw [List.length_replicate]; exact h.lt hc x hx) v]
  have e1 : (List.replicate (r.max + 1) 0).getD v 0 = 0 := by simp only [List.getD, List.getElem?_replicate]; split <;> rfl
  rw [e1]
  simp only [ne_eq, not_true_eq_false, false_or, List.mem_append, List.mem_map]
  constructor
  · rintro ⟨x, hx | hx | ⟨g, hg, rfl⟩, e⟩
    · exact Or.inl ⟨x, Or.inl hx, e⟩
    · exact Or.inl ⟨x, Or.inr hx, e⟩
    · exact Or.inr ⟨g, hg, e⟩
  · rintro (⟨x, hx | hx, e⟩ | ⟨g, hg, e⟩)
    · exact ⟨x, Or.inl hx, e⟩
    · exact ⟨x, Or.inr (Or.inl hx), e⟩
    · exact ⟨g.1, Or.inr (Or.inr ⟨g, hg, rfl⟩), e⟩
/-- A gate's variable is no input's and no latch's. -/
theorem Ctx.gate_new (hc : Ctx r d) {g : Tri} (hg : g ∈ r.gates) : g.1 / 2 ≠ 0 ∧ ¬ ∃ x ∈ r.ins ++ r.lats.map (·.1), x / 2 = g.1 / 2 := by
  refine ⟨hc.nz g.1 (by unfold ownsL; simp only [List.mem_append, List.mem_map]; exact Or.inr (Or.inr ⟨g, hg, rfl⟩)), ?_⟩
  rintro ⟨x, hx, e⟩
  have hp := hc.apart
  unfold ownsL at hp
  rw [← List.append_assoc] at hp
  exact (List.pairwise_append.1 hp).2.2 x hx g.1 (List.mem_map.2 ⟨g, hg, rfl⟩) e
theorem Srch.ready (hc : Ctx r d) (h : Srch r done num) {i : Nat} (hi : i < r.gates.length) :
    (num.getD (varAt r.gates i) 0 = 0 ∧ ∀ y ∈ gate1 (gAt r.gates i), lackL num y = false) ↔ readyB r.gates (done.map (fun g => g.1 / 2)) i = true := by
  have hg : gAt r.gates i ∈ r.gates := getD_mem hi
  have hn := hc.gate_new hg
  rw [readyB_iff]
  have hp := h.pos hc
  refine and_congr ?_ ?_
  · have := hp (varAt r.gates i)
    constructor
    · intro h0 hm
      exact this.2 (Or.inr hm) h0
    · intro hm
      by_cases h0 : num.getD (varAt r.gates i) 0 = 0
      · exact h0
      · rcases this.1 h0 with h1 | h1
        · exact absurd h1 hn.2
        · exact absurd h1 hm
  · refine forall_congr' fun y => forall_congr' fun hy => ?_
    have hyr : y ∈ refsL r := by
      unfold refsL
      simp only [List.mem_append, List.mem_flatMap]
      exact Or.inr (Or.inr ⟨_, hg, hy⟩)
    unfold lackL
    simp only [Bool.and_eq_false_iff, decide_eq_false_iff_not]
    constructor
    · intro h0 hG
      obtain ⟨g, hg', e⟩ := isG_iff.1 hG
      have hn' := hc.gate_new hg'
      rw [e] at hn'
      rcases h0 with h0 | h0
      · exact absurd (show y / 2 = 0 by omega) hn'.1
      · rcases (hp (y / 2)).1 h0 with h1 | h1
        · exact absurd h1 hn'.2
        · exact h1
    · intro h0
      by_cases h1 : 1 < y
      · right
        rcases hc.isdef hyr with h2 | ⟨x, hx, e⟩
        · omega
        · refine (hp (y / 2)).2 ?_
          unfold ownsL at hx
          rw [← List.append_assoc] at hx
          rcases List.mem_append.1 hx with hx | hx
          · exact Or.inl ⟨x, hx, e⟩
          · obtain ⟨g, hg', rfl⟩ := List.mem_map.1 hx
            exact Or.inr (h0 (isG_iff.2 ⟨g, hg', e⟩))
      · exact Or.inl h1
theorem Srch.stop (h : Srch r done num) (hno : ∀ j, j < r.gates.length → readyB r.gates (done.map (fun g => g.1 / 2)) j = false) : inOrderS r.gates = done := by
  rw [h.ord]
  have : orderF r.gates (r.gates.length - done.length) (done.map (fun g => g.1 / 2)) = [] := by
    cases r.gates.length - done.length with
    | zero => rfl
    | succ f =>
      unfold orderF
      rw [List.find?_eq_none.2 (fun x hx => by rw [hno x (List.mem_range.1 hx)]; simp)]
  rw [this, List.append_nil]
theorem Srch.step (hc : Ctx r d) (h : Srch r done num) {i : Nat} (hi : i < r.gates.length) (hno : ∀ j, j < i → readyB r.gates (done.map (fun g => g.1 / 2)) j = false) (hy : readyB r.gates (done.map (fun g => g.1 / 2)) i = true) :
    Srch r (done ++ [gAt r.gates i]) (num.set (varAt r.gates i) (1 + (r.ins.length + r.lats.length + done.length))) ∧
      (done ++ [gAt r.gates i]).map (pairN (num.set (varAt r.gates i) (1 + (r.ins.length + r.lats.length + done.length)))) = done.map (pairN num) ++ [pairN num (gAt r.gates i)] ∧ done.length < r.gates.length := by
  have hg : gAt r.gates i ∈ r.gates := getD_mem hi
  have hr := (h.ready hc hi).2 hy
  have hnd : (done.map (fun g => g.1 / 2)).contains (varAt r.gates i) = false := by
    have := (readyB_iff.1 hy).1
    simpa using this
  have hop := openN_step r.gates _ i hi hnd
  have hlen : done.length < r.gates.length := by have := h.few; omega
  have hmap : (done ++ [gAt r.gates i]).map (fun g => g.1 / 2) = done.map (fun g => g.1 / 2) ++ [varAt r.gates i] := by rw [List.map_append]; rfl
  have hz := (hc.gate_new hg).1
  have keep : ∀ y, lackL num y = false → (num.set (varAt r.gates i) (1 + (r.ins.length + r.lats.length + done.length))).getD (y / 2) 0 = num.getD (y / 2) 0 := fun y hl => by
    rw [set_getD, if_neg]
    rintro ⟨e, _⟩
    unfold lackL at hl
    simp only [Bool.and_eq_false_iff, decide_eq_false_iff_not] at hl
    rcases hl with hl | hl
    · exact hz (show varAt r.gates i = 0 by omega)
    · rw [← e] at hl; exact hl hr.1
  have full' : ∀ g ∈ done ++ [gAt r.gates i], ∀ y ∈ gate1 g, lackL num y = false := fun g hg' => by
    rcases List.mem_append.1 hg' with h1 | h1
    · exact h.full g h1
    · rw [List.mem_singleton.1 h1]; exact hr.2
  refine ⟨⟨?_, ?_, ?_, ?_, ?_⟩, ?_, hlen⟩
  · rw [h.ord, hmap, List.append_assoc]
    congr 1
    obtain ⟨f, hf⟩ : ∃ f, r.gates.length - done.length = f + 1 := ⟨r.gates.length - done.length - 1, by omega⟩
    rw [hf, List.length_append, show r.gates.length - (done.length + [gAt r.gates i].length) = f by simp; omega]
    have hfind : (List.range r.gates.length).find? (readyB r.gates (done.map (fun g => g.1 / 2))) = some i := find_least hi hy (fun y _ hy' => by
      rcases Nat.lt_or_ge y i with h | h
      · rw [hno y h] at hy'; cases hy'
      · exact h)
    rw [orderF, hfind]
    rfl
  · have e : r.ins ++ (r.lats.map (·.1) ++ (done ++ [gAt r.gates i]).map (·.1)) = (r.ins ++ (r.lats.map (·.1) ++ done.map (·.1))) ++ [(gAt r.gates i).1] := by simp
    rw [e, numF_snoc, ← h.tab]
    simp only [List.length_append, List.length_map]
    rw [show varAt r.gates i = (gAt r.gates i).1 / 2 from rfl]
    congr 1
    omega
  · rw [hmap, List.length_append]
    have := h.few
    simp; omega
  · intro g hg'
    rcases List.mem_append.1 hg' with h1 | h1
    · exact h.mem g h1
    · rw [List.mem_singleton.1 h1]; exact hg
  · intro g hg' y hy'
    have := full' g hg' y hy'
    unfold lackL at this ⊢
    rw [keep y (by unfold lackL; exact this)]
    exact this
  · have e : ∀ g ∈ done ++ [gAt r.gates i], pairN (num.set (varAt r.gates i) (1 + (r.ins.length + r.lats.length + done.length))) g = pairN num g := fun g hg' => by
      have f := full' g hg'
      unfold pairN numL
      rw [keep _ (f _ (by simp [gate1])), keep _ (f _ (by simp [gate1]))]
    rw [List.map_congr_left e, List.map_append]
    rfl
end

theorem may_count {r : RawC} (h : mayRaw r = true) : r.ins.length + r.lats.length + r.gates.length ≤ r.max := by
  unfold mayRaw at h
  simp only [Bool.and_eq_true, Bool.not_eq_true', Bool.or_eq_false_iff, decide_eq_false_iff_not] at h
  omega
theorem Srch.le {r : RawC} {done : List Tri} {num : List Nat} (h : Srch r done num) (hm : mayRaw r = true) (hd : done.length ≤ r.gates.length) : ∀ v, num.getD v 0 ≤ 16385 := fun v => by
  have h1 := may_count hm
  have h2 := (lits_of hm).max
  rw [h.tab]
  refine numF_le _ _ _ _ (fun u => ?_) (by simp only [List.length_append, List.length_map]; omega) v
  have e1 : (List.replicate (r.max + 1) 0).getD u 0 = 0 := by simp only [List.getD, List.getElem?_replicate]; split <;> rfl
  omega
theorem ofS_twice {r : RawC} (hm : mayRaw r = true) {k x : Nat} {d : List Bool} (hk : k < (ownsL r).length) (hd : defsF (defs0 r.max) ((ownsL r).take k) = some d) (hx : x = (ownsL r).getD k 0) (hb : defsF d [x] = none) : ofS r = .error 8 := by
  have e : defsS r = none := by
    unfold defsS
    rw [← List.take_append_drop k (ownsL r), defsF_append, hd, List.drop_eq_getElem_cons hk]
    have ex : (ownsL r)[k] = x := by rw [hx]; simp [List.getD, List.getElem?_eq_getElem hk]
    rw [ex, show x :: (ownsL r).drop (k + 1) = [x] ++ (ownsL r).drop (k + 1) from rfl]
    show defsF d ([x] ++ _) = none
    rw [defsF_append, hb]
    rfl
  unfold ofS
  rw [if_neg (by simp [hm]), e]
theorem take_defs {r : RawC} {k x : Nat} {d e : List Bool} (hk : k < (ownsL r).length) (hd : defsF (defs0 r.max) ((ownsL r).take k) = some d) (hx : x = (ownsL r).getD k 0) (hb : defsF d [x] = some e) : defsF (defs0 r.max) ((ownsL r).take (k + 1)) = some e := by
  rw [take_snocN _ _ hk, defsF_append, hd, ← hx]
  exact hb
theorem ofS_none {r : RawC} (hm : mayRaw r = true) {d : List Bool} (hd : defsS r = some d) (h : (refsL r).any (missing d) = true) : ofS r = .error 7 := by
  unfold ofS
  rw [if_neg (by simp [hm]), hd]
  simp only
  rw [if_pos h]
theorem ofS_loop {r : RawC} (hm : mayRaw r = true) {d : List Bool} (hd : defsS r = some d) (h : (refsL r).any (missing d) = false) (hl : (inOrderS r.gates).length < r.gates.length) : ofS r = .error 9 := by
  unfold ofS
  rw [if_neg (by simp [hm]), hd]
  simp only
  rw [if_neg (by simp [h]), if_pos hl]
theorem ofS_good {r : RawC} (hm : mayRaw r = true) {d : List Bool} (hd : defsS r = some d) (h : (refsL r).any (missing d) = false) (hl : ¬ (inOrderS r.gates).length < r.gates.length) : ofS r = .ok (renumS { r with gates := inOrderS r.gates }) := by
  unfold ofS
  rw [if_neg (by simp [hm]), hd]
  simp only
  rw [if_neg (by simp [h]), if_neg hl]
end Go.Proofs.Ytkbdebdhebphpaa
