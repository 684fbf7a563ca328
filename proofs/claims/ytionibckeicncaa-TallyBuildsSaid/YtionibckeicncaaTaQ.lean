/- The tallies on plain lists: in each model the outputs are as defined; for all values below there is one. -/
import Derived.Test.YtionibckeicncaaCuPure
import Derived.Test.YtionibckeicncaaTaP
import Derived.BigQuiet
import Derived.Deep.QuietTactic
import Derived.Deep.RegionWith
import Derived.Lib.ConvBytes
import Derived.Lib.Hide
import Derived.Lib.SlBytesRow
import Derived.Lib.SmallJoins
import Derived.Shelf.Bytes.SlSmallAll
import Derived.WalkKit
import Derived.WalkLawsBesides
import Derived.WalkSpells
namespace Go.Proofs.Ytionibckeicncaa
open Go

theorem trueS_neg {M : List Bool} {x : Int} (h : Lt M.length x) : trueS M (-x) = !trueS M x := by
  obtain ⟨h0, h1⟩ := h
  unfold trueS
  rw [Int.natAbs_neg, decide_eq_true (show 0 < x.natAbs by omega), decide_eq_true h1]
  have e : decide (0 < -x) = !decide (0 < x) := by
    by_cases p : 0 < x
    · rw [decide_eq_true p, decide_eq_false (by omega)]; rfl
    · rw [decide_eq_false p, decide_eq_true (by omega)]; rfl
  rw [e]
  cases M.getD x.natAbs false <;> cases decide (0 < x) <;> rfl
theorem trueS_app {M E : List Bool} {x : Int} (h : x.natAbs < M.length) : trueS (M ++ E) x = trueS M x := by
  unfold trueS
  rw [decide_eq_true h, decide_eq_true (show x.natAbs < (M ++ E).length by rw [List.length_append]; omega)]
  simp [List.getD, List.getElem?_append_left h]
theorem any_app {M E : List Bool} {c : List Int} (h : ∀ x ∈ c, Lt M.length x) : c.any (trueS (M ++ E)) = c.any (trueS M) := by
  induction c with
  | nil => rfl
  | cons a r ih => rw [List.any_cons, List.any_cons, trueS_app (h a (List.mem_cons_self ..)).2, ih (fun x hx => h x (List.mem_cons_of_mem _ hx))]
theorem count_app {M E : List Bool} {l : List Int} (h : ∀ x ∈ l, Lt M.length x) : l.countP (trueS (M ++ E)) = l.countP (trueS M) := by
  induction l with
  | nil => rfl
  | cons a r ih => rw [List.countP_cons, List.countP_cons, trueS_app (h a (List.mem_cons_self ..)).2, ih (fun x hx => h x (List.mem_cons_of_mem _ hx))]
theorem any_three {f : Int → Bool} {a : Int} {p q : Prop} [Decidable p] [Decidable q] {b d : Int} :
    ([a] ++ (if p then [b] else []) ++ (if q then [d] else [])).any f = (f a || ((decide p && f b) || (decide q && f d))) := by
  by_cases hp : p <;> by_cases hq : q <;> simp [hp, hq]
/-- What is known of two parts and of both. -/
structure Parts (M : List Bool) (left right both : List Int) (a b la lb most : Nat) : Prop where
  ll : ∀ x ∈ left, Lt M.length x
  lr : ∀ x ∈ right, Lt M.length x
  lb_ : ∀ x ∈ both, Lt M.length x
  l : ∀ i, i < left.length → trueS M (left.getD i 0) = decide (i < a)
  r : ∀ i, i < right.length → trueS M (right.getD i 0) = decide (i < b)
  la1 : left.length = min la most
  lb1 : right.length = min lb most
  both1 : both.length = min (left.length + right.length) most
  a1 : a ≤ la
  b1 : b ≤ lb
section
variable {M : List Bool} {left right both : List Int} {a b la lb most : Nat}
theorem merge_has {left right both : List Int} {i j : Nat} (hi : i ≤ left.length) (hj : j ≤ right.length) (hij : i + j ≤ both.length) : (0 < i + j → alC left right both i j ∈ mergeC left right both) ∧ (i + j < both.length → amC left right both i j ∈ mergeC left right both) := by
  have key : ∀ c, c ∈ pairC left right both i j → c ∈ mergeC left right both := fun c hc => upT_mem.2 ⟨i, by omega, upT_mem.2 ⟨j, by omega, hc⟩⟩
  refine ⟨fun h0 => key _ (List.mem_append.2 (.inl ?_)), fun h0 => key _ (List.mem_append.2 (.inr ?_))⟩
  · rw [if_pos h0]; exact List.mem_singleton.2 rfl
  · rw [if_pos h0]; exact List.mem_singleton.2 rfl
theorem Parts.sound (h : Parts M left right both a b la lb most) (hc : ∀ c ∈ mergeC left right both, c.any (trueS M) = true) : ∀ k, k < both.length → trueS M (both.getD k 0) = decide (k < a + b) := by
  intro k hk
  have h1 := h.la1
  have h2 := h.lb1
  have h3 := h.both1
  have h4 := h.a1
  have h5 := h.b1
  by_cases e : k < a + b
  · rw [decide_eq_true e]
    obtain ⟨i, hi⟩ : ∃ i, i = min a (min left.length (k + 1)) := ⟨_, rfl⟩
    obtain ⟨j, hj⟩ : ∃ j, j = k + 1 - i := ⟨_, rfl⟩
    have c1 := (merge_has (left := left) (right := right) (both := both) (i := i) (j := j) (by omega) (by omega) (by omega)).1 (by omega)
    have c2 := hc _ c1
    unfold alC at c2
    rw [any_three, show i + j - 1 = k by omega] at c2
    by_cases hi0 : 0 < i
    · have n1 := trueS_neg (h.ll _ (getD_memT (l := left) (i := i - 1) (by omega)))
      rw [h.l (i - 1) (by omega), decide_eq_true (show i - 1 < a by omega)] at n1
      rw [n1] at c2
      by_cases hj0 : 0 < j
      · have n2 := trueS_neg (h.lr _ (getD_memT (l := right) (i := j - 1) (by omega)))
        rw [h.r (j - 1) (by omega), decide_eq_true (show j - 1 < b by omega)] at n2
        rw [n2] at c2
        simpa using c2
      · rw [decide_eq_false hj0] at c2
        simpa using c2
    · rw [decide_eq_false hi0] at c2
      by_cases hj0 : 0 < j
      · have n2 := trueS_neg (h.lr _ (getD_memT (l := right) (i := j - 1) (by omega)))
        rw [h.r (j - 1) (by omega), decide_eq_true (show j - 1 < b by omega)] at n2
        rw [n2] at c2
        simpa using c2
      · rw [decide_eq_false hj0] at c2
        simpa using c2
  · rw [decide_eq_false e]
    obtain ⟨i, hi⟩ : ∃ i, i = max a (k - right.length) := ⟨_, rfl⟩
    obtain ⟨j, hj⟩ : ∃ j, j = k - i := ⟨_, rfl⟩
    have c1 := (merge_has (left := left) (right := right) (both := both) (i := i) (j := j) (by omega) (by omega) (by omega)).2 (by omega)
    have c2 := hc _ c1
    unfold amC at c2
    rw [any_three, show i + j = k by omega, trueS_neg (h.lb_ _ (getD_memT (l := both) hk))] at c2
    have n1 : (decide (i < left.length) && trueS M (left.getD i 0)) = false := by
      by_cases p : i < left.length
      · rw [h.l i p, decide_eq_false (show ¬ i < a by omega), Bool.and_false]
      · rw [decide_eq_false p]; rfl
    have n2 : (decide (j < right.length) && trueS M (right.getD j 0)) = false := by
      by_cases p : j < right.length
      · rw [h.r j p, decide_eq_false (show ¬ j < b by omega), Bool.and_false]
      · rw [decide_eq_false p]; rfl
    rw [n1, n2] at c2
    simpa using c2
theorem Parts.holds (h : Parts M left right both a b la lb most) (hb : ∀ k, k < both.length → trueS M (both.getD k 0) = decide (k < a + b)) : ∀ c ∈ mergeC left right both, c.any (trueS M) = true := by
  intro c hc
  have h1 := h.la1
  have h2 := h.lb1
  have h3 := h.both1
  have h4 := h.a1
  have h5 := h.b1
  obtain ⟨i, hi, hc⟩ := upT_mem.1 hc
  obtain ⟨j, hj, hc⟩ := upT_mem.1 hc
  rcases List.mem_append.1 hc with hc | hc
  · split at hc
    · rename_i h0
      obtain rfl := List.mem_singleton.1 hc
      unfold alC
      rw [any_three]
      by_cases e : i ≤ a ∧ j ≤ b
      · rw [hb (i + j - 1) (by omega), decide_eq_true (show i + j - 1 < a + b by omega)]; rfl
      · by_cases e1 : i ≤ a
        · have p : 0 < j := by omega
          rw [trueS_neg (h.lr _ (getD_memT (l := right) (i := j - 1) (by omega))), h.r (j - 1) (by omega), decide_eq_false (show ¬ j - 1 < b by omega), decide_eq_true p]
          simp
        · have p : 0 < i := by omega
          rw [trueS_neg (h.ll _ (getD_memT (l := left) (i := i - 1) (by omega))), h.l (i - 1) (by omega), decide_eq_false (show ¬ i - 1 < a by omega), decide_eq_true p]
          simp
    · cases hc
  · split at hc
    · rename_i h0
      obtain rfl := List.mem_singleton.1 hc
      unfold amC
      rw [any_three]
      by_cases e : a + b ≤ i + j
      · rw [trueS_neg (h.lb_ _ (getD_memT (l := both) h0)), hb (i + j) h0, decide_eq_false (show ¬ i + j < a + b by omega)]; rfl
      · by_cases e1 : i < a
        · have p : i < left.length := by omega
          rw [h.l i p, decide_eq_true e1, decide_eq_true p]
          simp
        · have p : j < right.length := by omega
          rw [h.r j p, decide_eq_true (show j < b by omega), decide_eq_true p]
          simp
    · cases hc
end
theorem one_sound {M : List Bool} {lits : List Int} {most i : Nat} (h : lits.length ≤ 1) (hi : i < (lits.take most).length) : trueS M ((lits.take most).getD i 0) = decide (i < lits.countP (trueS M)) := by
  rw [List.length_take] at hi
  obtain ⟨x, rfl⟩ : ∃ x, lits = [x] := by
    cases lits with
    | nil => simp at hi
    | cons x r => cases r with
      | nil => exact ⟨x, rfl⟩
      | cons y s => simp at h
  have e : i = 0 := by simp at hi; omega
  subst e
  obtain ⟨m, rfl⟩ : ∃ m, most = m + 1 := ⟨most - 1, by omega⟩
  rw [List.countP_cons, List.countP_nil]
  show trueS M x = _
  cases hq : trueS M x <;> simp
theorem outs_sound : ∀ (n most : Nat) (lits : List Int) (next : Nat) (M : List Bool), lits.length ≤ n + 1 → 1 ≤ next → (∀ x ∈ lits, Lt next x) → (outsF n most lits next).next ≤ M.length → (∀ c ∈ (outsF n most lits next).cls, c.any (trueS M) = true) →
    ∀ i, i < (outsF n most lits next).out.length → trueS M ((outsF n most lits next).out.getD i 0) = decide (i < lits.countP (trueS M))
  | 0, most, lits, next, M, h, h0, hl, hM, hc => fun i hi => one_sound (by omega) hi
  | n + 1, most, lits, next, M, h, h0, hl, hM, hc => by
    unfold outsF at hM hc ⊢
    by_cases h1 : lits.length ≤ 1
    · rw [if_pos h1]
      intro i hi
      exact one_sound h1 hi
    · rw [if_neg h1] at hM hc ⊢
      dsimp only at hM hc ⊢
      have ta : ∀ x ∈ lits.take (lits.length / 2), Lt next x := fun x hx => hl x (List.mem_of_mem_take hx)
      have la := outsF_len n most (lits.take (lits.length / 2)) next (by rw [List.length_take]; omega)
      have na := outsF_next n most (lits.take (lits.length / 2)) next (by rw [List.length_take]; omega)
      have ra := outsF_lt n most (lits.take (lits.length / 2)) next (by rw [List.length_take]; omega) h0 ta
      have ia := outs_sound n most (lits.take (lits.length / 2)) next M (by rw [List.length_take]; omega) h0 ta
      generalize outsF n most (lits.take (lits.length / 2)) next = a at la na ra ia hM hc ⊢
      have tb : ∀ x ∈ lits.drop (lits.length / 2), Lt a.next x := fun x hx => (hl x (List.mem_of_mem_drop hx)).mono na
      have lb := outsF_len n most (lits.drop (lits.length / 2)) a.next (by rw [List.length_drop]; omega)
      have nb := outsF_next n most (lits.drop (lits.length / 2)) a.next (by rw [List.length_drop]; omega)
      have rb := outsF_lt n most (lits.drop (lits.length / 2)) a.next (by rw [List.length_drop]; omega) (by omega) tb
      have ib := outs_sound n most (lits.drop (lits.length / 2)) a.next M (by rw [List.length_drop]; omega) (by omega) tb
      generalize outsF n most (lits.drop (lits.length / 2)) a.next = b at lb nb rb ib hM hc ⊢
      have cnt : lits.countP (trueS M) = (lits.take (lits.length / 2)).countP (trueS M) + (lits.drop (lits.length / 2)).countP (trueS M) := by
        rw [← List.countP_append, List.take_append_drop]
      rw [cnt]
      have P : Parts M a.out b.out (freshL b.next (min (a.out.length + b.out.length) most)) ((lits.take (lits.length / 2)).countP (trueS M)) ((lits.drop (lits.length / 2)).countP (trueS M)) (lits.take (lits.length / 2)).length (lits.drop (lits.length / 2)).length most :=
        ⟨fun x hx => (ra.1 x hx).mono (by omega), fun x hx => (rb.1 x hx).mono (by omega), fun x hx => by
          obtain ⟨i, hi, rfl⟩ := fresh_mem.1 hx
          exact ⟨by omega, by omega⟩,
        ia (by omega) (fun c hc2 => hc c (by simp [hc2])), ib (by omega) (fun c hc2 => hc c (by simp [hc2])), la, lb, fresh_len _ _, List.countP_le_length, List.countP_le_length⟩
      exact P.sound (fun c hc2 => hc c (by simp [hc2]))
theorem outs_exist : ∀ (n most : Nat) (lits : List Int) (next : Nat) (M : List Bool), lits.length ≤ n + 1 → 1 ≤ next → (∀ x ∈ lits, Lt next x) → M.length = next →
    ∃ E : List Bool, (M ++ E).length = (outsF n most lits next).next ∧ ∀ c ∈ (outsF n most lits next).cls, c.any (trueS (M ++ E)) = true
  | 0, most, lits, next, M, h, h0, hl, hM => ⟨[], by simp [outsF, hM], fun c hc => by cases hc⟩
  | n + 1, most, lits, next, M, h, h0, hl, hM => by
    unfold outsF
    by_cases h1 : lits.length ≤ 1
    · rw [if_pos h1]
      exact ⟨[], by simp [hM], fun c hc => by cases hc⟩
    · rw [if_neg h1]
      dsimp only
      have ta : ∀ x ∈ lits.take (lits.length / 2), Lt next x := fun x hx => hl x (List.mem_of_mem_take hx)
      have la := outsF_len n most (lits.take (lits.length / 2)) next (by rw [List.length_take]; omega)
      have na := outsF_next n most (lits.take (lits.length / 2)) next (by rw [List.length_take]; omega)
      have ra := outsF_lt n most (lits.take (lits.length / 2)) next (by rw [List.length_take]; omega) h0 ta
      have sa := fun M => outs_sound n most (lits.take (lits.length / 2)) next M (by rw [List.length_take]; omega) h0 ta
      obtain ⟨E1, m1, e1⟩ := outs_exist n most (lits.take (lits.length / 2)) next M (by rw [List.length_take]; omega) h0 ta hM
      generalize outsF n most (lits.take (lits.length / 2)) next = a at la na ra sa m1 e1 ⊢
      have tb : ∀ x ∈ lits.drop (lits.length / 2), Lt a.next x := fun x hx => (hl x (List.mem_of_mem_drop hx)).mono na
      have lb := outsF_len n most (lits.drop (lits.length / 2)) a.next (by rw [List.length_drop]; omega)
      have nb := outsF_next n most (lits.drop (lits.length / 2)) a.next (by rw [List.length_drop]; omega)
      have rb := outsF_lt n most (lits.drop (lits.length / 2)) a.next (by rw [List.length_drop]; omega) (by omega) tb
      have sb := fun M => outs_sound n most (lits.drop (lits.length / 2)) a.next M (by rw [List.length_drop]; omega) (by omega) tb
      obtain ⟨E2, m2, e2⟩ := outs_exist n most (lits.drop (lits.length / 2)) a.next (M ++ E1) (by rw [List.length_drop]; omega) (by omega) tb m1
      generalize outsF n most (lits.drop (lits.length / 2)) a.next = b at lb nb rb sb m2 e2 ⊢
      obtain ⟨k, hk⟩ : ∃ k, k = (lits.take (lits.length / 2)).countP (trueS M) + (lits.drop (lits.length / 2)).countP (trueS M) := ⟨_, rfl⟩
      obtain ⟨m, hm⟩ : ∃ m, m = min (a.out.length + b.out.length) most := ⟨_, rfl⟩
      obtain ⟨E3, hE3⟩ : ∃ E : List Bool, E = (List.range m).map fun i => decide (i < k) := ⟨_, rfl⟩
      have l3 : E3.length = m := by rw [hE3]; simp
      rw [← hm]
      have eM : M ++ (E1 ++ E2 ++ E3) = (M ++ E1 ++ E2) ++ E3 := by simp
      have L3 : ((M ++ E1 ++ E2) ++ E3).length = b.next + m := by rw [List.length_append, m2, l3]
      refine ⟨E1 ++ E2 ++ E3, by rw [eM]; exact L3, ?_⟩
      rw [eM]
      have c1 : ∀ c ∈ a.cls, c.any (trueS ((M ++ E1 ++ E2) ++ E3)) = true := fun c hc => by
        have hr : ∀ x ∈ c, Lt a.next x := (ra.2 c hc).2
        rw [any_app (fun x hx => by rw [m2]; exact (hr x hx).mono nb), any_app (fun x hx => by rw [m1]; exact hr x hx)]
        exact e1 c hc
      have c2 : ∀ c ∈ b.cls, c.any (trueS ((M ++ E1 ++ E2) ++ E3)) = true := fun c hc => by
        have hr : ∀ x ∈ c, Lt b.next x := (rb.2 c hc).2
        rw [any_app (fun x hx => by rw [m2]; exact hr x hx)]
        exact e2 c hc
      have eA : (lits.take (lits.length / 2)).countP (trueS ((M ++ E1 ++ E2) ++ E3)) = (lits.take (lits.length / 2)).countP (trueS M) := by
        rw [count_app (fun x hx => by rw [m2]; exact (ta x hx).mono (by omega)), count_app (fun x hx => by rw [m1]; exact (ta x hx).mono na), count_app (fun x hx => by rw [hM]; exact ta x hx)]
      have eB : (lits.drop (lits.length / 2)).countP (trueS ((M ++ E1 ++ E2) ++ E3)) = (lits.drop (lits.length / 2)).countP (trueS M) := by
        rw [count_app (fun x hx => by rw [m2]; exact (tb x hx).mono nb), count_app (fun x hx => by rw [m1]; exact tb x hx), count_app (fun x hx => by rw [hM]; exact hl x (List.mem_of_mem_drop hx))]
      have P : Parts ((M ++ E1 ++ E2) ++ E3) a.out b.out (freshL b.next m) ((lits.take (lits.length / 2)).countP (trueS M)) ((lits.drop (lits.length / 2)).countP (trueS M)) (lits.take (lits.length / 2)).length (lits.drop (lits.length / 2)).length most :=
        ⟨fun x hx => (ra.1 x hx).mono (by omega), fun x hx => (rb.1 x hx).mono (by omega), fun x hx => by
          obtain ⟨i, hi, rfl⟩ := fresh_mem.1 hx
          exact ⟨by omega, by omega⟩,
        fun i hi => by rw [sa _ (by omega) c1 i hi, eA], fun i hi => by rw [sb _ (by omega) c2 i hi, eB], la, lb, by rw [fresh_len]; exact hm, List.countP_le_length, List.countP_le_length⟩
      have hf : ∀ i, i < (freshL b.next m).length → trueS ((M ++ E1 ++ E2) ++ E3) ((freshL b.next m).getD i 0) = decide (i < (lits.take (lits.length / 2)).countP (trueS M) + (lits.drop (lits.length / 2)).countP (trueS M)) := fun i hi => by
        rw [fresh_len] at hi
        rw [fresh_get hi, ← hk]
        unfold trueS
        rw [Int.natAbs_natCast, decide_eq_true (show 0 < b.next + i by omega), decide_eq_true (show b.next + i < ((M ++ E1 ++ E2) ++ E3).length by omega), decide_eq_true (show (0 : Int) < ((b.next + i : Nat) : Int) by omega)]
        have : ((M ++ E1 ++ E2) ++ E3).getD (b.next + i) false = decide (i < k) := by
          rw [List.getD, List.getElem?_append_right (by omega), m2, Nat.add_sub_cancel_left, hE3]
          simp [hi]
        rw [this]
        simp
      intro c hc
      rcases List.mem_append.1 hc with hc | hc
      · rcases List.mem_append.1 hc with hc | hc
        · exact c1 c hc
        · exact c2 c hc
      · exact P.holds hf c hc
end Go.Proofs.Ytionibckeicncaa
