/- The order of gates, on plain lists: who waits for whom, and what the queue holds. -/
import Derived.Test.YtkbdebdhebphpaaNSpec
namespace Go.Proofs.Ytkbdebdhebphpaa

/-- Slot s: literal s % 2 of gate s / 2. -/
def litV (gs : List Tri) (s : Nat) : Nat := if s % 2 = 0 then (gAt gs (s / 2)).2.1 / 2 else (gAt gs (s / 2)).2.2 / 2
/-- The gates that wait for v, by the first t slots. -/
def usersT (gs : List Tri) (t v : Nat) : List Nat := ((List.range t).filter (fun s => isG gs (litV gs s) && (litV gs s == v))).map (· / 2)
/-- How many literals of gate i have to wait, by the first t slots. -/
def waitsT (gs : List Tri) (t i : Nat) : Nat := ((List.range t).filter (fun s => isG gs (litV gs s) && (s / 2 == i))).length

theorem usersT_yes {gs : List Tri} {t v : Nat} (h : isG gs (litV gs t) = true) : usersT gs (t + 1) v = if v = litV gs t then usersT gs t v ++ [t / 2] else usersT gs t v := by
  unfold usersT
  rw [List.range_succ, List.filter_append, List.map_append]
  by_cases e : v = litV gs t
  · subst e; simp [h]
  · have : (litV gs t == v) = false := by simp; exact fun h => e h.symm
    simp [this, e]
theorem usersT_no {gs : List Tri} {t v : Nat} (h : isG gs (litV gs t) = false) : usersT gs (t + 1) v = usersT gs t v := by
  unfold usersT
  rw [List.range_succ, List.filter_append, List.map_append]
  simp [h]
theorem waitsT_yes {gs : List Tri} {t i : Nat} (h : isG gs (litV gs t) = true) : waitsT gs (t + 1) i = if i = t / 2 then waitsT gs t i + 1 else waitsT gs t i := by
  unfold waitsT
  rw [List.range_succ, List.filter_append, List.length_append]
  by_cases e : i = t / 2
  · subst e; simp [h]
  · have : (t / 2 == i) = false := by simp; exact fun h => e h.symm
    simp [this, e]
theorem waitsT_no {gs : List Tri} {t i : Nat} (h : isG gs (litV gs t) = false) : waitsT gs (t + 1) i = waitsT gs t i := by
  unfold waitsT
  rw [List.range_succ, List.filter_append, List.length_append]
  simp [h]

theorem usersT_len (gs : List Tri) (t v : Nat) : (usersT gs t v).length ≤ t := by
  unfold usersT
  rw [List.length_map]
  exact Nat.le_trans (List.length_filter_le _ _) (by simp)
theorem waitsT_len (gs : List Tri) (t i : Nat) : waitsT gs t i ≤ t := by
  unfold waitsT
  exact Nat.le_trans (List.length_filter_le _ _) (by simp)

def b2n (b : Bool) : Nat := if b = true then 1 else 0
/-- The slots of gate i. -/
theorem slots_of (f : Nat → Bool) (i : Nat) : ∀ n, ((List.range (2 * n)).filter (fun s => f s && (s / 2 == i))).length = if i < n then b2n (f (2 * i)) + b2n (f (2 * i + 1)) else 0
  | 0 => by simp
  | n + 1 => by
    have ih := slots_of f i n
    rw [show 2 * (n + 1) = 2 * n + 1 + 1 by omega, List.range_succ, List.range_succ, List.filter_append, List.filter_append, List.length_append, List.length_append, ih]
    have e0 : 2 * n / 2 = n := by omega
    have e1 : (2 * n + 1) / 2 = n := by omega
    by_cases h : i = n
    · subst h
      rw [if_neg (by omega), if_pos (by omega)]
      cases h0 : f (2 * i) <;> cases h1 : f (2 * i + 1) <;> simp [h0, h1, e0, e1, b2n]
    · have h' : (n == i) = false := by simp; exact fun e => h e.symm
      by_cases hl : i < n
      · rw [if_pos hl, if_pos (by omega)]; simp [e0, e1, h']
      · rw [if_neg hl, if_neg (by omega)]; simp [e0, e1, h']

theorem litV_even (gs : List Tri) (i : Nat) : litV gs (2 * i) = (gAt gs i).2.1 / 2 := by
  unfold litV
  rw [if_pos (by omega), show 2 * i / 2 = i by omega]
theorem litV_odd (gs : List Tri) (i : Nat) : litV gs (2 * i + 1) = (gAt gs i).2.2 / 2 := by
  unfold litV
  rw [if_neg (by omega), show (2 * i + 1) / 2 = i by omega]

theorem waitsFor_b (gs : List Tri) (nd : List Nat) (x : Nat) : waitsFor gs nd x = b2n (isG gs (x / 2) && !nd.contains (x / 2)) := by
  unfold waitsFor b2n
  cases isG gs (x / 2) <;> cases nd.contains (x / 2) <;> simp

theorem waitsT_all (gs : List Tri) (i : Nat) (h : i < gs.length) : waitsT gs (2 * gs.length) i = wt gs [] i := by
  unfold waitsT wt
  rw [slots_of (fun s => isG gs (litV gs s)) i gs.length, if_pos h, waitsFor_b, waitsFor_b, litV_even, litV_odd]
  simp

theorem count_users (gs : List Tri) (v i : Nat) (h : i < gs.length) : (usersT gs (2 * gs.length) v).count i = b2n (isG gs ((gAt gs i).2.1 / 2) && ((gAt gs i).2.1 / 2 == v)) + b2n (isG gs ((gAt gs i).2.2 / 2) && ((gAt gs i).2.2 / 2 == v)) := by
  have e : (usersT gs (2 * gs.length) v).count i = ((List.range (2 * gs.length)).filter (fun s => (isG gs (litV gs s) && (litV gs s == v)) && (s / 2 == i))).length := by
    unfold usersT
    rw [List.count_eq_countP, List.countP_map, List.countP_filter, List.countP_eq_length_filter]
    congr 1
    apply List.filter_congr
    intro s _
    simp [Bool.and_comm]
  rw [e, slots_of (fun s => isG gs (litV gs s) && (litV gs s == v)) i gs.length, if_pos h, litV_even, litV_odd]

/-- One more is numbered. -/
theorem wt_step (gs : List Tri) (nd : List Nat) (v i : Nat) (h : i < gs.length) (hv : nd.contains v = false) : wt gs (nd ++ [v]) i + (usersT gs (2 * gs.length) v).count i = wt gs nd i := by
  rw [count_users gs v i h]
  unfold wt
  simp only [waitsFor_b]
  have one : ∀ u, b2n (isG gs u && !(nd ++ [v]).contains u) + b2n (isG gs u && (u == v)) = b2n (isG gs u && !nd.contains u) := by
    intro u
    rw [List.contains_eq_any_beq, List.any_append, ← List.contains_eq_any_beq]
    by_cases e : u = v
    · subst e; simp only [hv]; cases isG gs u <;> simp [b2n]
    · have e1 : (u == v) = false := by simpa using e
      cases isG gs u <;> cases nd.contains u <;> simp [b2n, e1]
  have h1 := one ((gAt gs i).2.1 / 2)
  have h2 := one ((gAt gs i).2.2 / 2)
  omega

theorem users_lt (gs : List Tri) (v : Nat) : ∀ i ∈ usersT gs (2 * gs.length) v, i < gs.length := by
  intro i hi
  unfold usersT at hi
  obtain ⟨s, hs, rfl⟩ := List.mem_map.1 hi
  have := List.mem_range.1 (List.mem_filter.1 hs).1
  omega

/-- A place of a list without doubles taken out. -/
theorem filter_less {p p' : Nat → Bool} {x : Nat} : ∀ {l : List Nat}, l.Nodup → x ∈ l → p x = true → p' x = false → (∀ y, y ≠ x → p' y = p y) → (l.filter p).Perm (x :: l.filter p')
  | [], _, h, _, _, _ => by cases h
  | y :: l, hn, hx, h1, h2, h3 => by
    have hn' := List.nodup_cons.1 hn
    by_cases e : y = x
    · subst e
      rw [List.filter_cons_of_pos h1, List.filter_cons_of_neg (by simp [h2])]
      have : l.filter p' = l.filter p := List.filter_congr (fun z hz => h3 z (fun e => hn'.1 (e ▸ hz)))
      rw [this]
    · have hx' : x ∈ l := by
        rcases List.mem_cons.1 hx with h | h
        · exact absurd h.symm e
        · exact h
      have ih := filter_less hn'.2 hx' h1 h2 h3
      have e2 := h3 y e
      cases hp : p y with
      | true =>
        rw [List.filter_cons_of_pos hp, List.filter_cons_of_pos (by rw [e2, hp])]
        exact (ih.cons y).trans (List.Perm.swap x y _)
      | false =>
        rw [List.filter_cons_of_neg (by simp [hp]), List.filter_cons_of_neg (by simp [e2, hp])]
        exact ih

/-- How many gates have no number. -/
def openN (gs : List Tri) (nd : List Nat) : Nat := ((List.range gs.length).filter (fun i => !nd.contains (varAt gs i))).length
theorem openN_nil (gs : List Tri) : openN gs [] = gs.length := by
  unfold openN
  have e : (List.range gs.length).filter (fun i => !([] : List Nat).contains (varAt gs i)) = List.range gs.length := List.filter_eq_self.2 (fun i _ => rfl)
  rw [e, List.length_range]
theorem filter_fewer {p p' : Nat → Bool} {x : Nat} : ∀ {l : List Nat}, x ∈ l → p x = true → p' x = false → (∀ y, p' y = true → p y = true) → (l.filter p').length < (l.filter p).length
  | [], h, _, _, _ => by cases h
  | y :: l, hx, h1, h2, h3 => by
    have hle : ∀ l : List Nat, (l.filter p').length ≤ (l.filter p).length := by
      intro l
      induction l with
      | nil => simp
      | cons z t ih =>
        cases hz : p' z with
        | true => rw [List.filter_cons_of_pos hz, List.filter_cons_of_pos (h3 z hz)]; simp; exact ih
        | false =>
          rw [List.filter_cons_of_neg (by simp [hz])]
          refine Nat.le_trans ih ?_
          cases hp : p z with
          | true => rw [List.filter_cons_of_pos hp]; simp
          | false => rw [List.filter_cons_of_neg (by simp [hp])]; exact Nat.le_refl _
    by_cases e : y = x
    · subst e
      rw [List.filter_cons_of_pos h1, List.filter_cons_of_neg (by simp [h2])]
      have := hle l
      simp; omega
    · have hx' : x ∈ l := by
        rcases List.mem_cons.1 hx with h | h
        · exact absurd h.symm e
        · exact h
      have ih := filter_fewer hx' h1 h2 h3
      cases hz : p' y with
      | true => rw [List.filter_cons_of_pos hz, List.filter_cons_of_pos (h3 y hz)]; simp; exact ih
      | false =>
        rw [List.filter_cons_of_neg (by simp [hz])]
        refine Nat.lt_of_lt_of_le ih ?_
        cases hp : p y with
        | true => rw [List.filter_cons_of_pos hp]; simp
        | false => rw [List.filter_cons_of_neg (by simp [hp])]; exact Nat.le_refl _
theorem openN_step (gs : List Tri) (nd : List Nat) (x : Nat) (hx : x < gs.length) (h : nd.contains (varAt gs x) = false) : openN gs (nd ++ [varAt gs x]) < openN gs nd := by
  unfold openN
  refine filter_fewer (x := x) (List.mem_range.2 hx) (by simpa using h) (by simp) (fun y hy => ?_)
  simp at hy ⊢
  exact hy.1

/-- The least one that is ready is the next one. -/
theorem find_least {p : Nat → Bool} {n x : Nat} (hx : x < n) (hp : p x = true) (hl : ∀ y, y < n → p y = true → x ≤ y) : (List.range n).find? p = some x := by
  rw [List.find?_range_eq_some]
  refine ⟨hp, List.mem_range.2 hx, fun j hj => ?_⟩
  cases h : p j with
  | true => have := hl j (by omega) h; omega
  | false => rfl
end Go.Proofs.Ytkbdebdhebphpaa
