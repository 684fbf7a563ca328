/- What the queue holds while gates are numbered, on plain lists. -/
import Derived.Test.YtkbdebdhebphpaaNOrder
namespace Go.Proofs.Ytkbdebdhebphpaa

/-- The gates that could come next, by what they still wait for. -/
def nextB (gs : List Tri) (nd : List Nat) (cur : Nat → Nat) (i : Nat) : Bool := !nd.contains (varAt gs i) && decide (cur i = 0)
theorem nextB_wt (gs : List Tri) (nd : List Nat) : nextB gs nd (wt gs nd) = readyB gs nd := by
  funext i; rfl
theorem nextB_congr {gs : List Tri} {nd : List Nat} {c c' : Nat → Nat} {n : Nat} (h : ∀ i, i < n → c i = c' i) : (List.range n).filter (nextB gs nd c) = (List.range n).filter (nextB gs nd c') :=
  List.filter_congr (fun i hi => by unfold nextB; rw [h i (List.mem_range.1 hi)])
/-- Each gate defines a variable of its own. -/
def Apart (gs : List Tri) : Prop := ∀ i j, i < gs.length → j < gs.length → varAt gs i = varAt gs j → i = j

theorem contains_snoc (nd : List Nat) (v u : Nat) : (nd ++ [v]).contains u = (nd.contains u || (v == u)) := by
  rw [List.contains_eq_any_beq, List.any_append, ← List.contains_eq_any_beq]
  congr 1
  simp [Bool.beq_comm]

/-- The least of the queue is taken out. -/
theorem pop_start {gs : List Tri} {nd l l' : List Nat} {x : Nat} (hd : Apart gs) (hp : l.Perm ((List.range gs.length).filter (readyB gs nd))) (hm : ∀ k, k < l.length → x ≤ l.getD k 0) (hl : l.Perm (x :: l')) :
    x < gs.length ∧ readyB gs nd x = true ∧ (List.range gs.length).find? (readyB gs nd) = some x ∧ l'.Perm ((List.range gs.length).filter (nextB gs (nd ++ [varAt gs x]) (wt gs nd))) := by
  have hx : x ∈ (List.range gs.length).filter (readyB gs nd) := hp.mem_iff.1 (hl.mem_iff.2 (by simp))
  have hx' := List.mem_filter.1 hx
  have hxn := List.mem_range.1 hx'.1
  refine ⟨hxn, hx'.2, find_least hxn hx'.2 (fun y hy hr => ?_), ?_⟩
  · have hy' : y ∈ l := hp.mem_iff.2 (List.mem_filter.2 ⟨List.mem_range.2 hy, hr⟩)
    obtain ⟨k, hk, rfl⟩ := List.getElem_of_mem hy'
    have := hm k hk
    simpa [List.getD, List.getElem?_eq_getElem hk] using this
  · have h1 : ((List.range gs.length).filter (readyB gs nd)).Perm (x :: (List.range gs.length).filter (fun i => readyB gs nd i && !(i == x))) :=
      filter_less List.nodup_range hx'.1 hx'.2 (by simp) (fun y hy => by simp [hy])
    have h2 := (hl.symm.trans (hp.trans h1)).cons_inv
    refine h2.trans ?_
    have e : (List.range gs.length).filter (fun i => readyB gs nd i && !(i == x)) = (List.range gs.length).filter (nextB gs (nd ++ [varAt gs x]) (wt gs nd)) := by
      refine List.filter_congr (fun i hi => ?_)
      have hin := List.mem_range.1 hi
      unfold readyB nextB
      rw [contains_snoc]
      by_cases hix : i = x
      · subst hix; simp
      · have h3 : (varAt gs x == varAt gs i) = false := by
          rw [beq_eq_false_iff_ne]
          exact fun e => hix (hd i x hin hxn e.symm)
        have h4 : (i == x) = false := by simpa using hix
        rw [h3, h4]
        simp
    rw [e]

/-- One literal less to wait for, and nothing more. -/
theorem dec_zero {gs : List Tri} {nd l l' : List Nat} {cur : Nat → Nat} {i : Nat} (hi : i < gs.length) (hn : nd.contains (varAt gs i) = false) (hc : cur i = 1) (hp : l.Perm ((List.range gs.length).filter (nextB gs nd cur))) (hl : l'.Perm (i :: l)) :
    l'.Perm ((List.range gs.length).filter (nextB gs nd (fun j => if j = i then cur i - 1 else cur j))) := by
  refine hl.trans ((hp.cons i).trans ?_)
  refine (filter_less List.nodup_range (List.mem_range.2 hi) ?_ ?_ (fun y hy => ?_)).symm
  · unfold nextB
    rw [hn]
    simp [hc]
  · unfold nextB; simp [hc]
  · unfold nextB; simp [hy]
theorem dec_more {gs : List Tri} {nd l : List Nat} {cur : Nat → Nat} {i : Nat} (hc : 1 < cur i) (hp : l.Perm ((List.range gs.length).filter (nextB gs nd cur))) :
    l.Perm ((List.range gs.length).filter (nextB gs nd (fun j => if j = i then cur i - 1 else cur j))) := by
  have e : (List.range gs.length).filter (nextB gs nd cur) = (List.range gs.length).filter (nextB gs nd (fun j => if j = i then cur i - 1 else cur j)) := by
    refine List.filter_congr (fun j _ => ?_)
    unfold nextB
    show (_ && decide (cur j = 0)) = (_ && decide ((if j = i then cur i - 1 else cur j) = 0))
    by_cases h : j = i
    · subst h
      rw [if_pos rfl, decide_eq_false (show ¬ cur j = 0 by omega), decide_eq_false (show ¬ cur j - 1 = 0 by omega)]
    · rw [if_neg h]
  rw [← e]; exact hp

/-- What gates still wait for, k of v's users seen. -/
def curOf (gs : List Tri) (nd us : List Nat) (k i : Nat) : Nat := wt gs nd i - (us.take k).count i
theorem curOf_zero (gs : List Tri) (nd us : List Nat) (i : Nat) : curOf gs nd us 0 i = wt gs nd i := by simp [curOf]
theorem curOf_step (gs : List Tri) (nd us : List Nat) (k i : Nat) (hk : k < us.length) (h : us.getD k 0 = i) : ∀ j, curOf gs nd us (k + 1) j = if j = i then curOf gs nd us k i - 1 else curOf gs nd us k j := by
  intro j
  unfold curOf
  have e : us.take (k + 1) = us.take k ++ [i] := by
    rw [List.take_succ_eq_append_getElem hk]
    congr 2
    simpa [List.getD, List.getElem?_eq_getElem hk] using h
  rw [e, List.count_append]
  by_cases hj : j = i
  · subst hj; simp; omega
  · rw [if_neg hj]
    have : List.count j [i] = 0 := by rw [List.count_cons]; simp; exact fun h => hj h.symm
    rw [this]; omega
theorem waitsFor_le (gs : List Tri) (nd : List Nat) (x : Nat) : waitsFor gs nd x ≤ 1 := by
  unfold waitsFor
  split
  · split <;> omega
  · omega
theorem curOf_le (gs : List Tri) (nd us : List Nat) (k i : Nat) : curOf gs nd us k i ≤ 2 := by
  unfold curOf wt
  have := waitsFor_le gs nd (gAt gs i).2.1
  have := waitsFor_le gs nd (gAt gs i).2.2
  omega
theorem count_take_lt (us : List Nat) (k i : Nat) (hk : k < us.length) (h : us.getD k 0 = i) : (us.take k).count i + 1 ≤ us.count i := by
  have e : us = us.take k ++ i :: us.drop (k + 1) := by
    conv => lhs; rw [← List.take_append_drop k us]
    congr 1
    rw [List.drop_eq_getElem_cons hk]
    congr 1
    simpa [List.getD, List.getElem?_eq_getElem hk] using h
  conv => rhs; rw [e]
  rw [List.count_append, List.count_cons]
  simp
theorem curOf_pos (gs : List Tri) (nd : List Nat) (v k i : Nat) (hv : nd.contains v = false) (hi : i < gs.length) (hk : k < (usersT gs (2 * gs.length) v).length) (h : (usersT gs (2 * gs.length) v).getD k 0 = i) : 1 ≤ curOf gs nd (usersT gs (2 * gs.length) v) k i := by
  unfold curOf
  have h1 := count_take_lt _ k i hk h
  have h2 := wt_step gs nd v i hi hv
  omega
theorem curOf_all (gs : List Tri) (nd : List Nat) (v i : Nat) (hv : nd.contains v = false) (hi : i < gs.length) : curOf gs nd (usersT gs (2 * gs.length) v) (usersT gs (2 * gs.length) v).length i = wt gs (nd ++ [v]) i := by
  unfold curOf
  rw [List.take_length]
  have h2 := wt_step gs nd v i hi hv
  omega

/-- What holds whenever the next gate is looked for: gl are numbered, their variables are nd. -/
structure Numbered (gs gl : List Tri) (nd : List Nat) : Prop where
  out : ∃ f, inOrderS gs = gl ++ orderF gs f nd ∧ openN gs nd ≤ f
  zero : ∀ j, j < gs.length → nd.contains (varAt gs j) = true → wt gs nd j = 0
  few : gl.length + openN gs nd ≤ gs.length
theorem Numbered.start (gs : List Tri) : Numbered gs [] [] := ⟨⟨gs.length, rfl, by rw [openN_nil]; exact Nat.le_refl _⟩, fun j _ h => by simp at h, by rw [openN_nil]; simp⟩
theorem Numbered.step {gs gl : List Tri} {nd : List Nat} {x : Nat} (hd : Apart gs) (h : Numbered gs gl nd) (hx : x < gs.length) (hr : readyB gs nd x = true) (hf : (List.range gs.length).find? (readyB gs nd) = some x) : Numbered gs (gl ++ [gAt gs x]) (nd ++ [varAt gs x]) := by
  have hr' : nd.contains (varAt gs x) = false ∧ wt gs nd x = 0 := by
    unfold readyB at hr
    rw [Bool.and_eq_true] at hr
    exact ⟨by simpa using hr.1, by simpa using hr.2⟩
  have hs := openN_step gs nd x hx hr'.1
  refine ⟨?_, fun j hj hc => ?_, by have := h.few; rw [List.length_append]; simp; omega⟩
  · obtain ⟨f, hf1, hf2⟩ := h.out
    match f, hf1, hf2 with
    | 0, _, hf2 => omega
    | f + 1, hf1, hf2 =>
      refine ⟨f, ?_, by omega⟩
      rw [hf1, orderF, hf]
      simp
  · have h2 := wt_step gs nd (varAt gs x) j hj hr'.1
    rw [contains_snoc, Bool.or_eq_true] at hc
    rcases hc with hc | hc
    · have := h.zero j hj hc; omega
    · have e : varAt gs x = varAt gs j := by simpa using hc
      have hjx := hd x j hx hj e
      subst hjx
      omega
theorem Numbered.fin {gs gl : List Tri} {nd : List Nat} (h : Numbered gs gl nd) (he : (List.range gs.length).filter (readyB gs nd) = []) : gl = inOrderS gs := by
  obtain ⟨f, hf1, _⟩ := h.out
  have e : orderF gs f nd = [] := by
    match f with
    | 0 => rfl
    | f + 1 =>
      have : (List.range gs.length).find? (readyB gs nd) = none := by
        rw [List.find?_eq_none]
        intro i hi hr
        have : i ∈ (List.range gs.length).filter (readyB gs nd) := List.mem_filter.2 ⟨hi, hr⟩
        rw [he] at this
        cases this
      rw [orderF, this]
  rw [hf1, e, List.append_nil]
end Go.Proofs.Ytkbdebdhebphpaa
