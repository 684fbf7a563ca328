/- What comes of a raw circuit is valid; of a valid circuit's raw circuit comes the circuit itself. On plain lists. -/
import Derived.Test.YtkbdebdhebphpaaNCirc
namespace Go.Proofs.Ytkbdebdhebphpaa
open Go Go.RowKit

theorem set_getD (t : List Nat) (i v j : Nat) : (t.set i v).getD j 0 = if i = j ∧ i < t.length then v else t.getD j 0 := by
  by_cases e : i = j
  · subst e
    by_cases h : i < t.length
    · simp [h]
    · simp [List.getD, h]
  · simp [List.getD, e]
theorem bset_getD (t : List Bool) (i : Nat) (v : Bool) (j : Nat) : (t.set i v).getD j false = if i = j ∧ i < t.length then v else t.getD j false := by
  by_cases e : i = j
  · subst e
    by_cases h : i < t.length
    · simp [h]
    · simp [List.getD, h]
  · simp [List.getD, e]
theorem toF_append : ∀ (a b : List Nat) (t : List Nat) (i : Nat), toF t i (a ++ b) = toF (toF t i a) (i + a.length) b
  | [], b, t, i => by simp [toF]
  | x :: a, b, t, i => by
    rw [List.cons_append, toF, toF, toF_append a b]
    congr 1
    simp; omega
theorem toF_out : ∀ (l : List Nat) (t : List Nat) (i v : Nat), (∀ x ∈ l, x / 2 ≠ v) → (toF t i l).getD v 0 = t.getD v 0
  | [], _, _, _, _ => rfl
  | x :: r, t, i, v, h => by
    rw [toF, toF_out r _ _ v (fun y hy => h y (by simp [hy])), set_getD, if_neg (fun e => h x (by simp) e.1)]
theorem toF_in : ∀ (l : List Nat) (t : List Nat) (i k : Nat), k < l.length → (∀ x ∈ l, x / 2 < t.length) → l.Pairwise (fun a b => a / 2 ≠ b / 2) → (toF t i l).getD (l.getD k 0 / 2) 0 = 2 * (1 + i + k)
  | [], _, _, _, h, _, _ => by simp at h
  | x :: r, t, i, 0, _, hb, hp => by
    rw [toF, toF_out r _ _ _ (fun y hy => by
      have := (List.pairwise_cons.1 hp).1 y hy
      simpa using fun e => this e.symm), set_getD]
    have := hb x (by simp)
    simp [this]
  | x :: r, t, i, k + 1, hk, hb, hp => by
    rw [toF]
    have ih := toF_in r (t.set (x / 2) (2 * (1 + i))) (i + 1) k (by simpa using hk) (fun y hy => by rw [List.length_set]; exact hb y (by simp [hy])) (List.pairwise_cons.1 hp).2
    simp only [List.getD_cons_succ]
    rw [ih]
    omega

theorem defsF_ok : ∀ (l : List Nat) (d : List Bool), (∀ x ∈ l, x % 2 = 0) → l.Pairwise (fun a b => a / 2 ≠ b / 2) → (∀ x ∈ l, d.getD (x / 2) false = false) →
    ∃ e, defsF d l = some e
  | [], d, _, _, _ => ⟨d, rfl⟩
  | x :: r, d, h1, h2, h3 => by
    have hp := List.pairwise_cons.1 h2
    obtain ⟨e, he⟩ := defsF_ok r (d.set (x / 2) true) (fun y hy => h1 y (by simp [hy])) hp.2 (fun y hy => by
      rw [bset_getD, if_neg (fun c => hp.1 y hy c.1)]
      exact h3 y (by simp [hy]))
    refine ⟨e, ?_⟩
    unfold defsF
    rw [if_neg (by have := h1 x (by simp); omega), if_neg (by rw [h3 x (by simp)]; simp)]
    exact he
theorem defsF_get : ∀ (l : List Nat) (d e : List Bool), defsF d l = some e → (∀ x ∈ l, x / 2 < d.length) → ∀ v, (e.getD v false = true ↔ d.getD v false = true ∨ ∃ x ∈ l, x / 2 = v)
  | [], d, e, h, _, v => by
    unfold defsF at h
    cases h
    simp
  | x :: r, d, e, h, hb, v => by
    unfold defsF at h
    split at h
    · cases h
    · split at h
      · cases h
      · have ih := defsF_get r _ e h (fun y hy => by rw [List.length_set]; exact hb y (by simp [hy])) v
        rw [ih, bset_getD]
        have hx := hb x (by simp)
        by_cases c : x / 2 = v
        · rw [if_pos ⟨c, hx⟩]
          exact ⟨fun _ => Or.inr ⟨x, by simp, c⟩, fun _ => Or.inl rfl⟩
        · rw [if_neg (fun h => c h.1)]
          constructor
          · rintro (h | ⟨y, hy, e⟩)
            · exact Or.inl h
            · exact Or.inr ⟨y, by simp [hy], e⟩
          · rintro (h | ⟨y, hy, e⟩)
            · exact Or.inl h
            · rcases List.mem_cons.1 hy with rfl | hy
              · exact absurd e c
              · exact Or.inr ⟨y, hy, e⟩
theorem defsF_even : ∀ (l : List Nat) (d e : List Bool), defsF d l = some e → ∀ x ∈ l, x % 2 = 0
  | [], _, _, _ => by simp
  | x :: r, d, e, h => by
    unfold defsF at h
    split at h
    · cases h
    · split at h
      · cases h
      · intro y hy
        rcases List.mem_cons.1 hy with rfl | hy
        · omega
        · exact defsF_even r _ e h y hy

theorem readyB_iff {gs : List Tri} {nd : List Nat} {i : Nat} : readyB gs nd i = true ↔ varAt gs i ∉ nd ∧ (∀ x ∈ gate1 (gAt gs i), isG gs (x / 2) = true → x / 2 ∈ nd) := by
  unfold readyB wt waitsFor gate1
  simp only [Bool.and_eq_true, Bool.not_eq_true', decide_eq_true_eq, List.mem_cons, List.not_mem_nil, or_false, forall_eq_or_imp, forall_eq, List.contains_eq_mem, decide_eq_false_iff_not]
  refine and_congr_right fun _ => ?_
  constructor
  · intro h
    refine ⟨fun h1 => ?_, fun h1 => ?_⟩
    · by_cases c : (gAt gs i).2.1 / 2 ∈ nd
      · exact c
      · rw [if_pos h1, if_neg c] at h; omega
    · by_cases c : (gAt gs i).2.2 / 2 ∈ nd
      · exact c
      · rw [if_pos h1, if_neg c] at h; omega
  · rintro ⟨h1, h2⟩
    have e1 : (if isG gs ((gAt gs i).2.1 / 2) = true then if (gAt gs i).2.1 / 2 ∈ nd then 0 else 1 else 0) = 0 := by
      by_cases c : isG gs ((gAt gs i).2.1 / 2) = true
      · rw [if_pos c, if_pos (h1 c)]
      · rw [if_neg c]
    have e2 : (if isG gs ((gAt gs i).2.2 / 2) = true then if (gAt gs i).2.2 / 2 ∈ nd then 0 else 1 else 0) = 0 := by
      by_cases c : isG gs ((gAt gs i).2.2 / 2) = true
      · rw [if_pos c, if_pos (h2 c)]
      · rw [if_neg c]
    omega
theorem isG_iff {gs : List Tri} {v : Nat} : isG gs v = true ↔ ∃ g ∈ gs, g.1 / 2 = v := by
  simp [isG]

/-- Gates in order are new, and their literals are of gates ahead, or of no gate. -/
theorem orderF_new (gs : List Tri) : ∀ (f : Nat) (nd : List Nat), (∀ g ∈ orderF gs f nd, g.1 / 2 ∉ nd) ∧ (orderF gs f nd).Pairwise (fun a b => a.1 / 2 ≠ b.1 / 2)
  | 0, nd => by simp [orderF]
  | f + 1, nd => by
    unfold orderF
    split
    · simp
    · rename_i i hi
      have ih := orderF_new gs f (nd ++ [varAt gs i])
      have hr := readyB_iff.1 (List.find?_some hi)
      refine ⟨fun g hg => ?_, List.pairwise_cons.2 ⟨fun g hg => ?_, ih.2⟩⟩
      · rcases List.mem_cons.1 hg with rfl | hg
        · exact hr.1
        · exact fun h => ih.1 g hg (by simp [h])
      · intro e
        refine ih.1 g hg ?_
        unfold varAt
        simp [e]
theorem orderF_lits (gs : List Tri) : ∀ (f : Nat) (nd : List Nat) (k : Nat), k < (orderF gs f nd).length → ∀ x ∈ gate1 ((orderF gs f nd).getD k (0, 0, 0)), isG gs (x / 2) = true → x / 2 ∈ nd ∨ ∃ g ∈ (orderF gs f nd).take k, g.1 / 2 = x / 2
  | 0, nd, k, h => by simp [orderF] at h
  | f + 1, nd, k, h => by
    unfold orderF at h ⊢
    split at h
    · simp at h
    · rename_i i hi
      have hr := readyB_iff.1 (List.find?_some hi)
      cases k with
      | zero =>
        intro x hx hg
        exact Or.inl (hr.2 x hx hg)
      | succ k =>
        intro x hx hg
        have ih := orderF_lits gs f (nd ++ [varAt gs i]) k (by simpa using h) x (by simpa using hx) hg
        rcases ih with h1 | ⟨g, hg1, hg2⟩
        · rcases List.mem_append.1 h1 with h1 | h1
          · exact Or.inl h1
          · refine Or.inr ⟨gAt gs i, by simp, ?_⟩
            have : x / 2 = varAt gs i := by simpa using h1
            rw [this]; rfl
        · exact Or.inr ⟨g, by simp [hg1], hg2⟩

theorem owns_len (r : RawC) : (ownsL r).length = r.ins.length + r.lats.length + r.gates.length := by unfold ownsL; simp; omega

/-- A valid raw circuit that can be numbered. -/
structure OfOk (r : RawC) (c : NormC) : Prop where
  may : mayRaw r = true
  defs : ∃ d, defsS r = some d ∧ (refsL r).any (missing d) = false
  all : (inOrderS r.gates).length = r.gates.length
  eq : c = renumS { r with gates := inOrderS r.gates }
theorem ofS_ok {r : RawC} {c : NormC} : ofS r = .ok c ↔ OfOk r c := by
  unfold ofS
  have hle : (inOrderS r.gates).length ≤ r.gates.length := (orderF_mem r.gates r.gates.length []).1
  constructor
  · intro h
    split at h
    · cases h
    · rename_i h1
      split at h
      · cases h
      · rename_i d hd
        split at h
        · cases h
        · rename_i h2
          split at h
          · cases h
          · rename_i h3
            exact ⟨by simpa using h1, ⟨d, hd, by simpa using h2⟩, by omega, by cases h; rfl⟩
  · rintro ⟨h1, ⟨d, hd, h2⟩, h3, rfl⟩
    rw [if_neg (by rw [h1]; decide), hd]
    simp only [h2, Bool.false_eq_true, if_false]
    rw [if_neg (by omega)]

theorem any_false {α : Type} {p : α → Bool} {l : List α} : l.any p = false ↔ ∀ x ∈ l, p x = false := by
  simp [List.any_eq_false]

theorem of_mayC {r : RawC} {c : NormC} (h : ofS r = .ok c) : MayC c := by
  obtain ⟨hm, ⟨d, hd, _⟩, hall, rfl⟩ := ofS_ok.1 h
  have hl := lits_of hm
  obtain ⟨gl, hgl⟩ : ∃ gl, gl = inOrderS r.gates := ⟨_, rfl⟩
  rw [← hgl] at hall ⊢
  obtain ⟨r', hr'⟩ : ∃ r', r' = { r with gates := gl } := ⟨_, rfl⟩
  have hN : (ownsL r').length = r.ins.length + r.lats.length + r.gates.length := by rw [owns_len, hr', ← hall]
  have hto : ∀ k, (toS r').getD k 0 ≤ 2 * (r.ins.length + r.lats.length + r.gates.length) := by
    intro k
    unfold toS
    refine toF_le _ _ 0 _ (fun k => ?_) (by omega) k
    simp only [List.getD, List.getElem?_replicate]
    split <;> simp
  have hv : varsN (renumS r') = r.ins.length + r.lats.length + r.gates.length := by
    simp only [varsN, renumS, List.length_map, hr', hall]
    omega
  have hnow : ∀ x, nowS (toS r') x ≤ 2 * varsN (renumS r') + 1 := fun x => by
    have := hto (x / 2)
    rw [hv]
    unfold nowS
    omega
  have hraw : r.max ≤ 16384 ∧ r.ins.length + r.lats.length + r.gates.length ≤ r.max ∧ r.outs.length ≤ 1024 ∧ r.bads.length ≤ 1024 ∧ r.cons.length ≤ 1024 ∧ ∀ l ∈ r.lats, l.2.2 ≤ 1 ∨ l.2.2 = l.1 := by
    have hm' := hm
    unfold mayRaw at hm'
    simp only [Bool.and_eq_true, Bool.not_eq_true', Bool.or_eq_false_iff, decide_eq_false_iff_not, badList] at hm'
    obtain ⟨⟨h1, h2⟩, ⟨h3, _⟩, ⟨h4, _⟩, ⟨h5, _⟩, h6, h7, h8⟩ := hm'
    refine ⟨by omega, by omega, by omega, by omega, by omega, fun l hl => ?_⟩
    have := any_false.1 h7 l hl
    simp only [badLatch, mayReset, Bool.or_eq_false_iff, Bool.not_eq_false', Bool.or_eq_true, decide_eq_true_eq] at this
    exact this.2
  rw [← hr']
  refine ⟨Int.natCast_nonneg _, by rw [hv]; omega, ⟨by simp [renumS, hr']; omega, by simp [renumS, hr']; omega, by simp [renumS, hr']; omega⟩, ?_, ?_, ?_, ?_, ?_⟩
  · intro x hx
    simp only [renumS, List.mem_map] at hx
    obtain ⟨y, _, rfl⟩ := hx
    exact hnow y
  · intro x hx
    simp only [renumS, List.mem_map] at hx
    obtain ⟨y, _, rfl⟩ := hx
    exact hnow y
  · intro x hx
    simp only [renumS, List.mem_map] at hx
    obtain ⟨y, _, rfl⟩ := hx
    exact hnow y
  · intro p hp
    simp only [renumS, List.mem_map] at hp
    obtain ⟨l, hl', rfl⟩ := hp
    refine ⟨hnow _, ?_⟩
    have := hraw.2.2.2.2.2 l (by rw [hr'] at hl'; exact hl')
    unfold latS3 resetS
    simp only
    split <;> omega
  · intro k hk
    have hk' : k < gl.length := by simpa [renumS, hr'] using hk
    have e : (renumS r').gates.getD k (0, 0) = gateS3 (toS r') (gl.getD k (0, 0, 0)) := by
      simp [renumS, hr', List.getD, List.getElem?_eq_getElem hk']
    have e2 : (renumS r').ins.toNat + (renumS r').lats.length = r.ins.length + r.lats.length := by simp [renumS, hr']
    rw [e]
    have hgl1 := orderF_new r.gates r.gates.length []
    have hgl2 := orderF_mem r.gates r.gates.length []
    have hgl3 := orderF_lits r.gates r.gates.length [] k (by show k < (inOrderS r.gates).length; rw [← hgl]; exact hk')
    have hgo : orderF r.gates r.gates.length [] = gl := by rw [hgl]; rfl
    rw [hgo] at hgl1 hgl2 hgl3
    have lit : ∀ x ∈ gate1 (gl.getD k (0, 0, 0)), nowS (toS r') x < 2 * (1 + (renumS r').ins.toNat + (renumS r').lats.length + k) := by
      intro x hx
      have hno : ∀ y ∈ (gl.drop k).map (·.1), y / 2 ≠ x / 2 := by
        intro y hy e
        obtain ⟨g, hg, rfl⟩ := List.mem_map.1 hy
        have hgs : isG r.gates (x / 2) = true := isG_iff.2 ⟨g, hgl2.2 g (List.mem_of_mem_drop hg), e⟩
        rcases hgl3 x hx hgs with h1 | ⟨g2, hg2, e2⟩
        · cases h1
        · have hp : (gl.take k ++ gl.drop k).Pairwise (fun a b => a.1 / 2 ≠ b.1 / 2) := by rw [List.take_append_drop]; exact hgl1.2
          exact (List.pairwise_append.1 hp).2.2 g2 hg2 g hg (by rw [e2, e])
      have hs : ownsL r' = (r.ins ++ (r.lats.map (·.1) ++ (gl.take k).map (·.1))) ++ (gl.drop k).map (·.1) := by
        unfold ownsL
        rw [hr']
        simp only [List.append_assoc]
        rw [← List.map_append (l₁ := gl.take k), List.take_append_drop]
      have hle : (toS r').getD (x / 2) 0 ≤ 2 * (r.ins.length + r.lats.length + k) := by
        unfold toS
        rw [hs, toF_append, toF_out _ _ _ _ hno]
        refine toF_le _ _ 0 _ (fun k => ?_) ?_ _
        · simp only [List.getD, List.getElem?_replicate]
          split <;> simp
        · simp only [List.length_append, List.length_map, List.length_take]
          omega
      unfold nowS
      omega
    have l1 := lit _ (show (gl.getD k (0, 0, 0)).2.1 ∈ gate1 (gl.getD k (0, 0, 0)) by simp [gate1])
    have l2 := lit _ (show (gl.getD k (0, 0, 0)).2.2 ∈ gate1 (gl.getD k (0, 0, 0)) by simp [gate1])
    unfold gateS3
    simp only
    omega

theorem owns_raw (c : NormC) : ownsL (rawS c) = (List.range (varsN c)).map fun i => 2 * (1 + i) := by
  have e1 : (upFrom latR (1 + c.ins.toNat) c.lats).map (·.1) = (List.range c.lats.length).map fun i => 2 * (1 + (c.ins.toNat + i)) := by
    unfold upFrom
    rw [List.map_map]
    apply List.map_congr_left
    intro i _
    simp [latR]; omega
  have e2 : (upFrom gateR (1 + c.ins.toNat + c.lats.length) c.gates).map (·.1) = (List.range c.gates.length).map fun i => 2 * (1 + (c.ins.toNat + c.lats.length + i)) := by
    unfold upFrom
    rw [List.map_map]
    apply List.map_congr_left
    intro i _
    simp [gateR]; omega
  unfold ownsL rawS
  simp only
  rw [e1, e2]
  unfold varsN
  rw [List.range_add, List.map_append, List.range_add, List.map_append, List.map_map, List.map_map, List.append_assoc]
  rfl

theorem upFrom_mem {α : Type} {f : Nat → Nat × Nat → α} {b : Nat} {l : List (Nat × Nat)} {y : α} (h : y ∈ upFrom f b l) : ∃ k, k < l.length ∧ y = f (b + k) (l.getD k (0, 0)) := by
  simp only [upFrom, List.mem_map, List.mem_range] at h
  obtain ⟨k, hk, rfl⟩ := h
  exact ⟨k, hk, rfl⟩

theorem mayRaw_raw {c : NormC} (h : MayC c) : mayRaw (rawS c) = true := by
  have ha : ∀ {m x : Nat}, x ≤ 2 * m + 1 → above m x = false := fun h => by simp [above]; omega
  have hv : varsN c = c.ins.toNat + c.lats.length + c.gates.length := rfl
  have hf := h.few
  have hl := h.lens
  unfold mayRaw badList rawS
  simp only [Bool.and_eq_true, Bool.not_eq_true', Bool.or_eq_false_iff, decide_eq_false_iff_not, List.length_map, List.length_range, upFrom_len]
  refine ⟨⟨by omega, by omega⟩, ⟨by omega, any_false.2 fun x hx => ha (h.outs x hx)⟩, ⟨by omega, any_false.2 fun x hx => ha (h.bads x hx)⟩, ⟨by omega, any_false.2 fun x hx => ha (h.cons x hx)⟩, any_false.2 fun x hx => ?_, any_false.2 fun x hx => ?_, any_false.2 fun x hx => ?_⟩
  · simp only [List.mem_map, List.mem_range] at hx
    obtain ⟨i, hi, rfl⟩ := hx
    exact ha (by omega)
  · obtain ⟨k, hk, rfl⟩ := upFrom_mem hx
    have := h.lats _ (show c.lats.getD k (0, 0) ∈ c.lats from getD_mem hk)
    unfold latR
    simp only [badLatch, mayReset, Bool.or_eq_false_iff, Bool.not_eq_false', Bool.or_eq_true, decide_eq_true_eq]
    refine ⟨⟨ha (by omega), ha (by omega)⟩, ?_⟩
    split <;> omega
  · obtain ⟨k, hk, rfl⟩ := upFrom_mem hx
    have := h.gates k hk
    unfold gateR
    simp only [badGate, Bool.or_eq_false_iff]
    exact ⟨⟨ha (by omega), ha (by omega)⟩, ha (by omega)⟩

theorem refs_raw {c : NormC} (h : MayC c) : ∀ x ∈ refsL (rawS c), x ≤ 2 * varsN c + 1 := by
  intro x hx
  have hv : varsN c = c.ins.toNat + c.lats.length + c.gates.length := rfl
  unfold refsL rawS at hx
  simp only [List.mem_append, List.mem_map, List.mem_flatMap] at hx
  rcases hx with (hx | hx | hx) | ⟨l, hl', rfl⟩ | ⟨g, hg', hx⟩
  · exact h.outs x hx
  · exact h.bads x hx
  · exact h.cons x hx
  · obtain ⟨k, hk, rfl⟩ := upFrom_mem hl'
    exact (h.lats _ (show c.lats.getD k (0, 0) ∈ c.lats from getD_mem hk)).1
  · obtain ⟨k, hk, rfl⟩ := upFrom_mem hg'
    have := h.gates k hk
    simp only [gate1, gateR, List.mem_cons, List.not_mem_nil, or_false] at hx
    rcases hx with rfl | rfl <;> omega

theorem order_raw (F : Nat) (gs : List (Nat × Nat)) (h : ∀ k, k < gs.length → (gs.getD k (0, 0)).2 ≤ (gs.getD k (0, 0)).1 ∧ (gs.getD k (0, 0)).1 < 2 * (F + k)) :
    inOrderS (upFrom gateR F gs) = upFrom gateR F gs := by
  have hlen := upFrom_len gateR F gs
  have hat : ∀ k, k < gs.length → gAt (upFrom gateR F gs) k = gateR (F + k) (gs.getD k (0, 0)) := fun k hk => upFrom_at gateR F gs k _ hk
  have hvar : ∀ k, k < gs.length → varAt (upFrom gateR F gs) k = F + k := fun k hk => by unfold varAt; rw [hat k hk]; simp [gateR]
  have key : ∀ f k, f + k = gs.length → orderF (upFrom gateR F gs) f ((List.range k).map (fun i => F + i)) = (upFrom gateR F gs).drop k := by
    intro f
    induction f with
    | zero =>
      intro k hk
      rw [List.drop_of_length_le (by rw [hlen]; omega)]
      rfl
    | succ f ih =>
      intro k hk
      have hkl : k < gs.length := by omega
      have hfind : (List.range (upFrom gateR F gs).length).find? (readyB (upFrom gateR F gs) ((List.range k).map (fun i => F + i))) = some k := by
        rw [List.find?_range_eq_some]
        refine ⟨readyB_iff.2 ⟨?_, fun x hx hg => ?_⟩, by rw [hlen]; simpa using hkl, fun j hj => ?_⟩
        · rw [hvar k hkl]
          simp only [List.mem_map, List.mem_range, not_exists, not_and]
          intro j hj
          omega
        · obtain ⟨g, hg1, hg2⟩ := isG_iff.1 hg
          obtain ⟨j, hj, rfl⟩ := upFrom_mem hg1
          rw [hat k hkl] at hx
          have hk3 := h k hkl
          simp only [gate1, gateR, List.mem_cons, List.not_mem_nil, or_false] at hx hg2
          have hxl : x < 2 * (F + k) := by rcases hx with rfl | rfl <;> omega
          simp only [List.mem_map, List.mem_range]
          exact ⟨j, by omega, by omega⟩
        · cases hb : readyB (upFrom gateR F gs) ((List.range k).map (fun i => F + i)) j with
          | false => rfl
          | true =>
            have := (readyB_iff.1 hb).1
            rw [hvar j (by omega)] at this
            exact absurd (by simp only [List.mem_map, List.mem_range]; exact ⟨j, hj, rfl⟩) this
      unfold orderF
      rw [hfind]
      simp only
      have e : (List.range k).map (fun i => F + i) ++ [varAt (upFrom gateR F gs) k] = (List.range (k + 1)).map (fun i => F + i) := by
        rw [List.range_succ, List.map_append, hvar k hkl]
        rfl
      have hd := List.drop_eq_getElem_cons (show k < (upFrom gateR F gs).length by rw [hlen]; exact hkl)
      rw [e, ih (k + 1) (by omega), hd]
      congr 1
      unfold gAt
      simp [List.getD, List.getElem?_eq_getElem (show k < (upFrom gateR F gs).length by rw [hlen]; exact hkl)]
  have := key gs.length 0 (by omega)
  unfold inOrderS
  rw [hlen]
  simpa using this

theorem of_raw {c : NormC} (h : MayC c) : ofS (rawS c) = .ok c := by
  have hv : varsN c = c.ins.toNat + c.lats.length + c.gates.length := rfl
  have hown := owns_raw c
  have hord : inOrderS (rawS c).gates = (rawS c).gates := order_raw _ _ h.gates
  have hmem : ∀ x ∈ ownsL (rawS c), ∃ i, i < varsN c ∧ x = 2 * (1 + i) := fun x hx => by
    rw [hown] at hx
    simp only [List.mem_map, List.mem_range] at hx
    obtain ⟨i, hi, rfl⟩ := hx
    exact ⟨i, hi, rfl⟩
  have hpair : (ownsL (rawS c)).Pairwise (fun a b => a / 2 ≠ b / 2) := by
    rw [hown, List.pairwise_map]
    exact List.pairwise_lt_range.imp (fun h => by omega)
  have hdlen : (defs0 (rawS c).max).length = varsN c + 1 := by simp [defs0, rawS]
  obtain ⟨d, hd⟩ : ∃ d, defsS (rawS c) = some d := by
    refine defsF_ok _ _ (fun x hx => ?_) hpair (fun x hx => ?_)
    · obtain ⟨i, _, rfl⟩ := hmem x hx; omega
    · obtain ⟨i, hi, rfl⟩ := hmem x hx
      unfold defs0
      rw [bset_getD, if_neg (by omega)]
      simp only [List.getD, List.getElem?_replicate]
      split <;> rfl
  have hget := defsF_get _ _ d hd (fun x hx => by obtain ⟨i, hi, rfl⟩ := hmem x hx; rw [hdlen]; omega)
  have hto : ∀ v, v ≤ varsN c → (toS (rawS c)).getD v 0 = 2 * v := by
    intro v hvv
    unfold toS
    by_cases h0 : v = 0
    · subst h0
      rw [toF_out _ _ _ _ (fun x hx => by obtain ⟨i, _, rfl⟩ := hmem x hx; omega)]
      simp [List.getD]
    · have hin := toF_in (ownsL (rawS c)) (List.replicate ((rawS c).max + 1) 0) 0 (v - 1) (by rw [hown]; simp; omega) (fun x hx => by obtain ⟨i, hi, rfl⟩ := hmem x hx; simp [rawS]; omega) hpair
      have e : (ownsL (rawS c)).getD (v - 1) 0 / 2 = v := by
        rw [hown]
        simp [List.getD, show v - 1 < varsN c by omega]
        omega
      rw [e] at hin
      rw [hin]
      omega
  have hnow : ∀ x, x ≤ 2 * varsN c + 1 → nowS (toS (rawS c)) x = x := fun x hx => by
    unfold nowS
    rw [hto (x / 2) (by omega)]
    omega
  have hmap : ∀ l : List Nat, (∀ x ∈ l, x ≤ 2 * varsN c + 1) → l.map (nowS (toS (rawS c))) = l := fun l hl => by
    conv => rhs; rw [← List.map_id l]
    exact List.map_congr_left fun x hx => hnow x (hl x hx)
  refine ofS_ok.2 ⟨mayRaw_raw h, ⟨d, hd, any_false.2 fun x hx => ?_⟩, by rw [hord], ?_⟩
  · have hx' := refs_raw h x hx
    have : d.getD (x / 2) false = true := by
      rw [hget (x / 2)]
      by_cases h0 : x / 2 = 0
      · refine Or.inl ?_
        rw [h0]
        unfold defs0
        rw [bset_getD, if_pos ⟨rfl, by simp⟩]
      · refine Or.inr ⟨2 * (1 + (x / 2 - 1)), ?_, by omega⟩
        rw [hown]
        simp only [List.mem_map, List.mem_range]
        exact ⟨x / 2 - 1, by omega, rfl⟩
    unfold missing
    rw [this]; rfl
  · rw [hord]
    obtain ⟨ins, lats, gates, outs, bads, cons⟩ := c
    have hi := h.pos
    simp only at hi
    unfold renumS
    rw [show ({ rawS ⟨ins, lats, gates, outs, bads, cons⟩ with gates := (rawS ⟨ins, lats, gates, outs, bads, cons⟩).gates } : RawC) = rawS ⟨ins, lats, gates, outs, bads, cons⟩ from rfl]
    generalize htt : toS (rawS ⟨ins, lats, gates, outs, bads, cons⟩) = T at hnow hmap
    have e3 := hmap outs h.outs
    have e4 := hmap bads h.bads
    have e5 := hmap cons h.cons
    simp only [rawS, NormC.mk.injEq]
    refine ⟨by simp; omega, ?_, ?_, e3.symm, e4.symm, e5.symm⟩
    · apply List.ext_getElem (by simp [upFrom_len])
      intro i h1 h2
      have hp := h.lats _ (List.getElem_mem h1)
      simp only [List.getElem_map, upFrom, List.getElem_range, latR, latS3]
      have e : lats.getD i (0, 0) = lats[i] := by simp [List.getD, List.getElem?_eq_getElem h1]
      simp only [e]
      rw [hnow _ hp.1]
      unfold resetS
      simp only
      refine Prod.ext rfl ?_
      simp only
      have h2 := hp.2
      by_cases h4 : (lats[i]).2 = 2
      · rw [if_pos h4, if_pos rfl]
        exact h4
      · rw [if_neg h4, if_neg (by omega)]
        omega
    · apply List.ext_getElem (by simp [upFrom_len])
      intro i h1 h2
      have hp := h.gates i h1
      have e : gates.getD i (0, 0) = gates[i] := by simp [List.getD, List.getElem?_eq_getElem h1]
      simp only [e] at hp
      simp only [List.getElem_map, upFrom, List.getElem_range, gateR, gateS3]
      simp only [e]
      simp only [varsN] at hnow
      rw [hnow _ (by omega), hnow _ (by omega)]
      exact Prod.ext (by simp only; omega) (by simp only; omega)
end Go.Proofs.Ytkbdebdhebphpaa
