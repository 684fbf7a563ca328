/- Unit propagation on plain lists: what is sent, what was told, what is left of each clause; that there is always room. No function of the program is named here. -/
import Derived.BigQuiet
import Derived.Deep.QuietTactic
import Derived.Deep.RegionWith
import Derived.Lib.ConvBytes
import Derived.Lib.Hide
import Derived.Lib.SlBytesRow
import Derived.Lib.SmallJoins
import Derived.Shelf.Bytes.SlSmallAll
import Derived.WalkKit
import Derived.WalkLawsBesides
import Derived.WalkSpells
namespace Go.Proofs.Ytionibckeicncaa

/-- A literal's place. -/
def placeN (l : Int) : Nat := if l < 0 then 1 + 2 * l.natAbs else 2 * l.natAbs
theorem placeN_inj {a b : Int} (h : placeN a = placeN b) : a = b := by
  unfold placeN at h
  split at h <;> split at h <;> omega
theorem placeN_lt {vars : Nat} {l : Int} (h : l.natAbs ≤ vars) : placeN l < 2 * (vars + 1) := by
  unfold placeN; split <;> omega
theorem placeN_neg {l : Int} (h : l < 0) : (placeN l : Int) = 1 - 2 * l := by unfold placeN; rw [if_pos h]; omega
theorem placeN_pos {l : Int} (h : ¬ l < 0) : (placeN l : Int) = 2 * l := by unfold placeN; rw [if_neg h]; omega

/-- A literal of variables 1 to vars. -/
def VLit (vars : Nat) (l : Int) : Prop := l ≠ 0 ∧ l.natAbs ≤ vars
theorem VLit.neg {vars : Nat} {l : Int} (h : VLit vars l) : VLit vars (-l) := ⟨by have := h.1; omega, by rw [Int.natAbs_neg]; exact h.2⟩

/-- The bools that say what was sent. -/
structure IsD (vars : Nat) (S : List Int) (D : List Bool) : Prop where
  len : D.length = 2 * (vars + 1)
  at_ : ∀ l, VLit vars l → D.getD (placeN l) false = decide (l ∈ S)
theorem IsD.put {vars : Nat} {S : List Int} {D : List Bool} (h : IsD vars S D) {l : Int} (hl : VLit vars l) : IsD vars (S ++ [l]) (D.set (placeN l) true) := by
  refine ⟨by rw [List.length_set]; exact h.len, fun x hx => ?_⟩
  have hlt := placeN_lt hl.2
  by_cases e : x = l
  · subst e
    simp [List.getD, h.len, hlt]
  · have hne : placeN l ≠ placeN x := fun h => e (placeN_inj h).symm
    have := h.at_ x hx
    simp only [List.getD] at this ⊢
    rw [List.getElem?_set_ne hne, this]
    simp [e]
theorem IsD.start (vars : Nat) : IsD vars [] (List.replicate (2 * (vars + 1)) false) := by
  refine ⟨by simp, fun l hl => ?_⟩
  have hlt := placeN_lt hl.2
  simp [List.getD, hlt]

/-- All variables sent are other ones. -/
def NoDup (S : List Int) : Prop := S.Pairwise fun a b => a.natAbs ≠ b.natAbs
theorem nodup_put {S : List Int} {l : Int} (h : NoDup S) (h1 : l ∉ S) (h2 : -l ∉ S) : NoDup (S ++ [l]) := by
  unfold NoDup
  rw [List.pairwise_append]
  refine ⟨h, by simp, fun a ha b hb => ?_⟩
  obtain rfl : b = l := by simpa using hb
  intro e
  rcases Int.natAbs_eq_natAbs_iff.1 e with e | e
  · exact h1 (e ▸ ha)
  · exact h2 (e ▸ ha)
theorem cu_nodup_cons {S : List Int} (h : NoDup S) {x y : Int} (hx : x ∈ S) (hy : y ∈ S) (e : x.natAbs = y.natAbs) : x = y := by
  induction S with
  | nil => cases hx
  | cons z r ih =>
    obtain ⟨h1, h2⟩ := List.pairwise_cons.1 h
    rcases List.mem_cons.1 hx with rfl | hx' <;> rcases List.mem_cons.1 hy with rfl | hy'
    · rfl
    · exact absurd e (h1 y hy')
    · exact absurd e.symm (h1 x hx')
    · exact ih h2 hx' hy'
/-- A literal that was sent has no opposite that was. -/
theorem nodup_opp {vars : Nat} {S : List Int} (h : NoDup S) (hv : ∀ x ∈ S, VLit vars x) {x : Int} (hx : x ∈ S) : -x ∉ S := fun hn => by
  have := cu_nodup_cons h hx hn (by omega)
  have := (hv x hx).1
  omega

/-- As many other numbers from 1 to n: at most n. -/
theorem pigeon : ∀ (n : Nat) (l : List Nat), l.Nodup → (∀ x ∈ l, 1 ≤ x ∧ x ≤ n) → l.length ≤ n
  | 0, [], _, _ => Nat.le_refl _
  | 0, x :: l, _, h => by have := h x (by simp); omega
  | n + 1, l, hd, h => by
    have h1 := pigeon n (l.filter fun x => decide (x ≤ n)) (hd.sublist List.filter_sublist) fun x hx => by
      obtain ⟨h2, h3⟩ := List.mem_filter.1 hx
      have := h x h2
      simp at h3
      omega
    have h2 : l.length ≤ (l.filter fun x => decide (x ≤ n)).length + 1 := by
      clear h1
      induction l with
      | nil => simp
      | cons y r ih =>
        have hd' := List.nodup_cons.1 hd
        by_cases hy : y ≤ n
        · rw [List.filter_cons_of_pos (by simpa using hy)]
          have := ih hd'.2 fun x hx => h x (by simp [hx])
          simp; omega
        · have hyn : y = n + 1 := by have := h y (by simp); omega
          rw [List.filter_cons_of_neg (by simpa using hy)]
          have : r.filter (fun x => decide (x ≤ n)) = r := by
            rw [List.filter_eq_self]
            intro x hx
            have h3 := h x (by simp [hx])
            have h4 : x ≠ y := fun e => hd'.1 (e ▸ hx)
            simp; omega
          rw [this]; simp
    omega
/-- There is room for one variable more. -/
theorem room_vars {vars : Nat} {S : List Int} (h : NoDup S) (hv : ∀ x ∈ S, VLit vars x) {l : Int} (hl : VLit vars l) (h1 : l ∉ S) (h2 : -l ∉ S) : S.length < vars := by
  have hn := nodup_put h h1 h2
  have hp := pigeon vars ((S ++ [l]).map Int.natAbs) (by
      rw [List.Nodup, List.pairwise_map]
      exact hn) (fun x hx => by
      obtain ⟨y, hy, rfl⟩ := List.mem_map.1 hx
      have hy' : VLit vars y := by
        rcases List.mem_append.1 hy with h | h
        · exact hv y h
        · obtain rfl : y = l := by simpa using h
          exact hl
      have := hy'.1
      have := hy'.2
      omega)
  simp at hp
  omega

/-- How many clauses have had their turn. -/
def fires : List (List Int) → List Nat → Nat
  | c :: cs, x :: xs => (if c.length ≤ 1 ∨ x ≤ 1 then 1 else 0) + fires cs xs
  | _, _ => 0
theorem fires_le : ∀ (cs : List (List Int)) (xs : List Nat), fires cs xs ≤ cs.length
  | [], _ => by simp [fires]
  | c :: cs, [] => by simp [fires]
  | c :: cs, x :: xs => by have := fires_le cs xs; simp only [fires, List.length_cons]; split <;> omega
theorem fires_set : ∀ (cs : List (List Int)) (xs : List Nat) (i x : Nat), i < cs.length → i < xs.length →
    fires cs (xs.set i x) + (if (cs.getD i []).length ≤ 1 ∨ xs.getD i 0 ≤ 1 then 1 else 0) = fires cs xs + (if (cs.getD i []).length ≤ 1 ∨ x ≤ 1 then 1 else 0)
  | [], _, _, _, h, _ => by simp at h
  | _ :: _, [], _, _, _, h => by simp at h
  | c :: cs, y :: ys, 0, x, _, _ => by simp [fires]; omega
  | c :: cs, y :: ys, i + 1, x, h, h' => by
    have ih := fires_set cs ys i x (by simpa using h) (by simpa using h')
    simp only [List.set_cons_succ, fires, List.getD_cons_succ]
    omega
/-- The clauses of one literal at most, among the first k. -/
def shorts (cs : List (List Int)) (k : Nat) : Nat := ((cs.take k).filter fun c => decide (c.length ≤ 1)).length
theorem shorts_succ {cs : List (List Int)} {k : Nat} (h : k < cs.length) : shorts cs (k + 1) = shorts cs k + (if (cs.getD k []).length ≤ 1 then 1 else 0) := by
  unfold shorts
  rw [List.take_succ_eq_append_getElem h, List.filter_append, List.length_append]
  simp only [List.getD, List.getElem?_eq_getElem h, Option.getD_some]
  split <;> rename_i hq <;> simp [hq]
theorem shorts_le_fires : ∀ (cs : List (List Int)) (xs : List Nat), xs.length = cs.length → shorts cs cs.length ≤ fires cs xs
  | [], _, _ => by simp [shorts]
  | c :: cs, [], h => by simp at h
  | c :: cs, x :: xs, h => by
    have ih := shorts_le_fires cs xs (by simpa using h)
    simp only [shorts, List.take_length] at ih ⊢
    simp only [fires]
    by_cases hc : c.length ≤ 1
    · rw [List.filter_cons_of_pos (by simpa using hc)]
      simp [hc]; omega
    · rw [List.filter_cons_of_neg (by simpa using hc)]
      split <;> omega
theorem shorts_le {cs : List (List Int)} {k : Nat} (h : k ≤ cs.length) : shorts cs k ≤ k := by
  unfold shorts
  have := List.length_filter_le (fun c : List Int => decide (c.length ≤ 1)) (cs.take k)
  rw [List.length_take] at this
  omega

/-- How many literals of a clause were not told to be false. -/
def cntU (c : List Int) (T : List Int) : Nat := (c.filter fun x => !T.contains (-x)).length
theorem cnt_nil (c : List Int) : cntU c [] = c.length := by simp [cntU]
theorem cnt_le (c T : List Int) : cntU c T ≤ c.length := List.length_filter_le _ _
/-- One literal told more: a clause that has its opposite has one less. -/
theorem cnt_put {T : List Int} {l : Int} (hl : l ∉ T) : ∀ {c : List Int}, c.Nodup → cntU c (T ++ [l]) + (if -l ∈ c then 1 else 0) = cntU c T
  | [], _ => by simp [cntU]
  | x :: r, hd => by
    obtain ⟨h1, h2⟩ := List.nodup_cons.1 hd
    have ih := cnt_put hl h2
    unfold cntU at ih ⊢
    by_cases e : x = -l
    · subst e
      have hnr : -l ∉ r := h1
      rw [if_neg hnr] at ih
      rw [List.filter_cons_of_neg (by simp), List.filter_cons_of_pos (by simpa using hl), if_pos (by simp)]
      simp only [List.length_cons]
      omega
    · have e2 : (-l ∈ x :: r) ↔ -l ∈ r := by
        constructor
        · intro h
          rcases List.mem_cons.1 h with h | h
          · exact absurd h.symm e
          · exact h
        · intro h; simp [h]
      have hx : ((T ++ [l]).contains (-x)) = T.contains (-x) := by
        rw [Bool.eq_iff_iff]
        simp only [List.contains_iff_mem, List.mem_append, List.mem_singleton]
        constructor
        · rintro (h | h)
          · exact h
          · exact absurd (by omega) e
        · exact .inl
      simp only [e2]
      by_cases ht : T.contains (-x) = true
      · rw [List.filter_cons_of_neg (by rw [hx, ht]; simp), List.filter_cons_of_neg (by rw [ht]; simp)]
        exact ih
      · have ht : T.contains (-x) = false := by simpa using ht
        rw [List.filter_cons_of_pos (by rw [hx, ht]; simp), List.filter_cons_of_pos (by rw [ht]; simp)]
        simp only [List.length_cons]
        omega
/-- One is left: all others are told to be false. -/
theorem cnt_one {c T : List Int} (h : cntU c T ≤ 1) {l : Int} (hl : l ∈ c) (hn : -l ∉ T) : ∀ x, x ∈ c → x ≠ l → -x ∈ T := by
  intro x hx e
  refine Classical.byContradiction fun hx2 => ?_
  have h1 : l ∈ c.filter fun x => !T.contains (-x) := List.mem_filter.2 ⟨hl, by simpa using hn⟩
  have h2 : x ∈ c.filter fun x => !T.contains (-x) := List.mem_filter.2 ⟨hx, by simpa using hx2⟩
  unfold cntU at h
  generalize c.filter (fun x => !T.contains (-x)) = F at h h1 h2
  match F, h with
  | [], _ => cases h1
  | [a], _ =>
    have a1 : l = a := by simpa using h1
    have a2 : x = a := by simpa using h2
    exact e (a2.trans a1.symm)
  | _ :: _ :: _, h => simp at h
/-- All others are told to be false: at most one is left. -/
theorem cnt_le_one {c T : List Int} (hd : c.Nodup) {l : Int} (h : ∀ x, x ∈ c → x ≠ l → -x ∈ T) : cntU c T ≤ 1 := by
  unfold cntU
  have hn : (c.filter fun x => !T.contains (-x)).Nodup := hd.sublist List.filter_sublist
  have ha : ∀ x ∈ c.filter fun x => !T.contains (-x), x = l := fun x hx => by
    obtain ⟨h1, h2⟩ := List.mem_filter.1 hx
    refine Classical.byContradiction fun e => ?_
    have := h x h1 e
    simp [this] at h2
  generalize c.filter (fun x => !T.contains (-x)) = F at hn ha
  match F, hn with
  | [], _ => simp
  | [a], _ => simp
  | a :: b :: r, hn =>
    have e1 := ha a (by simp)
    have e2 := ha b (by simp)
    exact absurd (e1.trans e2.symm) (by have := (List.nodup_cons.1 hn).1; intro e; exact this (by simp [e]))
theorem cnt_pos {c T : List Int} (h : 0 < cntU c T) : ∃ x, x ∈ c ∧ -x ∉ T := by
  unfold cntU at h
  obtain ⟨x, hx⟩ := List.exists_mem_of_length_pos h
  obtain ⟨h1, h2⟩ := List.mem_filter.1 hx
  exact ⟨x, h1, by simpa using h2⟩

/-! ### the lists of links -/
/-- From place at on the links lead through these clauses. -/
inductive IsOcc (K : List (Nat × Nat)) : Nat → List Nat → Prop
  | nil : IsOcc K 0 []
  | cons {i n at_ : Nat} {r : List Nat} : 0 < at_ → K[at_]? = some (i, n) → n < at_ → IsOcc K n r → IsOcc K at_ (i :: r)
theorem IsOcc.more {K : List (Nat × Nat)} {at_ : Nat} {r : List Nat} (h : IsOcc K at_ r) (x : Nat × Nat) : IsOcc (K ++ [x]) at_ r := by
  induction h with
  | nil => exact .nil
  | cons h1 h2 h3 _ ih => exact .cons h1 (by rw [List.getElem?_append_left (List.getElem?_eq_some_iff.1 h2).1]; exact h2) h3 ih
theorem IsOcc.lt {K : List (Nat × Nat)} {at_ : Nat} {r : List Nat} (h : IsOcc K at_ r) (h0 : 0 < at_) : at_ < K.length := by
  cases h with
  | nil => omega
  | cons _ h2 _ _ => exact (List.getElem?_eq_some_iff.1 h2).1

theorem take_snocZ (l : List Int) (k : Nat) (h : k < l.length) : l.take (k + 1) = l.take k ++ [l.getD k 0] := by
  rw [List.take_succ_eq_append_getElem h]
  simp [List.getD, List.getElem?_eq_getElem h]
/-- The lists' heads and links tell of each literal which clauses have it. -/
structure IsLinks (vars : Nat) (cs : List (List Int)) (F : List Nat) (K : List (Nat × Nat)) : Prop where
  len : F.length = 2 * (vars + 1)
  occ : ∀ l, VLit vars l → ∃ r, IsOcc K (F.getD (placeN l) 0) r ∧ r.Nodup ∧ ∀ i, i ∈ r ↔ i < cs.length ∧ l ∈ cs.getD i []
/-- .. of the first i clauses, and the first k literals of the next one. -/
structure IsLinksTo (vars : Nat) (cs : List (List Int)) (i k : Nat) (F : List Nat) (K : List (Nat × Nat)) : Prop where
  len : F.length = 2 * (vars + 1)
  pos : 0 < K.length
  occ : ∀ l, VLit vars l → ∃ r, IsOcc K (F.getD (placeN l) 0) r ∧ r.Nodup ∧ ∀ j, j ∈ r ↔ (j < i ∧ l ∈ cs.getD j []) ∨ (j = i ∧ l ∈ (cs.getD i []).take k)
theorem IsLinksTo.start (vars : Nat) (cs : List (List Int)) : IsLinksTo vars cs 0 0 (List.replicate (2 * (vars + 1)) 0) [(0, 0)] := by
  refine ⟨by simp, by simp, fun l hl => ⟨[], ?_, by simp, fun j => by simp⟩⟩
  have : (List.replicate (2 * (vars + 1)) 0).getD (placeN l) 0 = 0 := by simp [List.getD, placeN_lt hl.2]
  rw [this]
  exact .nil
theorem IsLinksTo.next {vars : Nat} {cs : List (List Int)} {i : Nat} {F : List Nat} {K : List (Nat × Nat)} (h : IsLinksTo vars cs i (cs.getD i []).length F K) : IsLinksTo vars cs (i + 1) 0 F K := by
  refine ⟨h.len, h.pos, fun l hl => ?_⟩
  obtain ⟨r, h1, h2, h3⟩ := h.occ l hl
  refine ⟨r, h1, h2, fun j => (h3 j).trans ?_⟩
  rw [List.take_length]
  simp only [List.take_zero, List.not_mem_nil, and_false, or_false]
  constructor
  · rintro (⟨a, b⟩ | ⟨rfl, b⟩)
    · exact ⟨by omega, b⟩
    · exact ⟨by omega, b⟩
  · rintro ⟨a, b⟩
    by_cases e : j = i
    · subst e; exact .inr ⟨rfl, b⟩
    · exact .inl ⟨by omega, b⟩
theorem IsLinksTo.done {vars : Nat} {cs : List (List Int)} {F : List Nat} {K : List (Nat × Nat)} (h : IsLinksTo vars cs cs.length 0 F K) : IsLinks vars cs F K := by
  refine ⟨h.len, fun l hl => ?_⟩
  obtain ⟨r, h1, h2, h3⟩ := h.occ l hl
  exact ⟨r, h1, h2, fun j => (h3 j).trans (by simp)⟩
theorem IsLinksTo.put {vars : Nat} {cs : List (List Int)} {i k : Nat} {F : List Nat} {K : List (Nat × Nat)} (h : IsLinksTo vars cs i k F K) (hk : k < (cs.getD i []).length) (hc : (cs.getD i []).Nodup) (l : Int)
    (hl : l = (cs.getD i []).getD k 0) (hv : VLit vars l) : IsLinksTo vars cs i (k + 1) (F.set (placeN l) K.length) (K ++ [(i, F.getD (placeN l) 0)]) := by
  refine ⟨by rw [List.length_set]; exact h.len, by simp, fun x hx => ?_⟩
  obtain ⟨r, h1, h2, h3⟩ := h.occ x hx
  have ht : (cs.getD i []).take (k + 1) = (cs.getD i []).take k ++ [l] := by rw [hl]; exact take_snocZ _ _ hk
  have hlt := placeN_lt hv.2
  by_cases e : x = l
  · subst e
    have hn : x ∉ (cs.getD i []).take k := fun hm => by
      have := hc.sublist (List.take_sublist (k + 1) (cs.getD i []))
      rw [ht, List.nodup_append] at this
      exact this.2.2 x hm x (by simp) rfl
    refine ⟨i :: r, ?_, ?_, fun j => ?_⟩
    · have e1 : (F.set (placeN x) K.length).getD (placeN x) 0 = K.length := by simp [List.getD, h.len, hlt]
      rw [e1]
      refine .cons h.pos (by simp) ?_ (h1.more _)
      rcases Nat.eq_zero_or_pos (F.getD (placeN x) 0) with h0 | h0
      · rw [h0]; exact h.pos
      · exact h1.lt h0
    · refine List.nodup_cons.2 ⟨fun hm => ?_, h2⟩
      rcases (h3 i).1 hm with ⟨a, _⟩ | ⟨_, b⟩
      · omega
      · exact hn b
    · rw [List.mem_cons, h3, ht]
      constructor
      · rintro (rfl | h | ⟨h, _⟩)
        · exact .inr ⟨rfl, by simp⟩
        · exact .inl h
        · exact .inr ⟨h, by simp⟩
      · rintro (h | ⟨h, _⟩)
        · exact .inr (.inl h)
        · exact .inl h
  · have hne : placeN l ≠ placeN x := fun h => e (placeN_inj h).symm
    refine ⟨r, ?_, h2, fun j => ?_⟩
    · have e1 : (F.set (placeN l) K.length).getD (placeN x) 0 = F.getD (placeN x) 0 := by
        simp only [List.getD]
        rw [List.getElem?_set_ne hne]
      rw [e1]
      exact h1.more _
    · rw [h3, ht]
      simp [e]
end Go.Proofs.Ytionibckeicncaa
