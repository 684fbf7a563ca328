/- inquestref13.Can on plain lists: is there a model in which clauses and given literals hold. -/
import Derived.Test.YtionibckeicncaaCuPure
import Derived.Test.YtionibckeicncaaTaP
import Derived.Test.YtionibckeicncaaTaQ
import Derived.BigQuiet
import Derived.Deep.QuietTactic
import Derived.Deep.RegionWith
import Derived.Lib.ConvBytes
import Derived.Lib.Hide
import Derived.Lib.SlBytesRow
import Derived.Lib.SmallJoins
import Derived.Shelf.Bytes.SlSmallAll
import Derived.WalkKit
import Derived.WalkLawsBesides
import Derived.WalkSpells
namespace Go.Proofs.Ytionibckeicncaa
open Go

/-- A model of so many variables. -/
structure CanP (L : List (List Int)) (given : List Int) (vars : Nat) : Prop where
  may : mayS L vars = true
  one : mayS [given] vars = true
  ex : ∃ M : List Bool, M.length = vars + 1 ∧ holdsS L M = true ∧ ∀ x ∈ given, trueS M x = true
def openV (G : List Int) (v : Nat) : Bool := !(G.contains ((v : Nat) : Int) || G.contains (-((v : Nat) : Int)))
def freeN (G : List Int) (vars : Nat) : Nat := (List.range vars).countP fun i => openV G (i + 1)
theorem countP_lt {α : Type} {p q : α → Bool} : ∀ {l : List α}, (∀ x ∈ l, q x = true → p x = true) → (∃ x ∈ l, p x = true ∧ q x = false) → l.countP q < l.countP p
  | [], _, h => by obtain ⟨x, hx, _⟩ := h; cases hx
  | a :: r, h, hx => by
    have hle : r.countP q ≤ r.countP p := List.countP_mono_left fun x hx => h x (List.mem_cons_of_mem _ hx)
    rw [List.countP_cons, List.countP_cons]
    by_cases e : ∃ x ∈ r, p x = true ∧ q x = false
    · have := countP_lt (fun x hx => h x (List.mem_cons_of_mem _ hx)) e
      have h1 := h a (List.mem_cons_self ..)
      cases hq : q a with
      | false => simp; omega
      | true => rw [h1 hq]; simp; omega
    · obtain ⟨x, hm, h1, h2⟩ := hx
      rcases List.mem_cons.1 hm with rfl | hm
      · rw [h1, h2]; simp; omega
      · exact absurd ⟨x, hm, h1, h2⟩ e
theorem pigeonT : ∀ (n : Nat) (l : List Nat), l.Nodup → (∀ x ∈ l, 1 ≤ x ∧ x ≤ n) → l.length ≤ n
  | 0, [], _, _ => Nat.le_refl _
  | 0, x :: l, _, h => by have := h x (by simp); omega
  | n + 1, l, hd, h => by
    have h1 := pigeonT n (l.filter fun x => decide (x ≤ n)) (hd.sublist List.filter_sublist) fun x hx => by
      obtain ⟨h2, h3⟩ := List.mem_filter.1 hx
      have := h x h2
      simp at h3
      omega
    have h2 : l.length ≤ (l.filter fun x => decide (x ≤ n)).length + 1 := by
      clear h1
      induction l with
      | nil => simp
      | cons y r ih =>
        have hd' := List.nodup_cons.1 hd
        by_cases hy : y ≤ n
        · rw [List.filter_cons_of_pos (by simpa using hy)]
          have := ih hd'.2 fun x hx => h x (by simp [hx])
          simp; omega
        · have hyn : y = n + 1 := by have := h y (by simp); omega
          rw [List.filter_cons_of_neg (by simpa using hy)]
          have : r.filter (fun x => decide (x ≤ n)) = r := by
            rw [List.filter_eq_self]
            intro x hx
            have h3 := h x (by simp [hx])
            have h4 : x ≠ y := fun e => hd'.1 (e ▸ hx)
            simp; omega
          rw [this]; simp
    omega
theorem openV_sub {G G' : List Int} {v : Nat} (h : ∀ x ∈ G, x ∈ G') (ho : openV G' v = true) : openV G v = true := by
  unfold openV at ho ⊢
  rw [Bool.not_eq_true', Bool.or_eq_false_iff] at ho ⊢
  refine ⟨?_, ?_⟩
  · rw [Bool.eq_false_iff]; intro hc
    have := ho.1
    rw [Bool.eq_false_iff] at this
    exact this (by simpa using h _ (by simpa using hc))
  · rw [Bool.eq_false_iff]; intro hc
    have := ho.2
    rw [Bool.eq_false_iff] at this
    exact this (by simpa using h _ (by simpa using hc))
theorem free_lt {given Mu : List Int} {vars v : Nat} {y : Int} (hg : ∀ x ∈ given, x ∈ Mu) (h1 : 1 ≤ v) (h2 : v ≤ vars) (ho : openV Mu v = true) (hy : y = (v : Int) ∨ y = -(v : Int)) : freeN (Mu ++ [y]) vars < freeN given vars := by
  refine countP_lt (fun i _ h => openV_sub (fun x hx => List.mem_append.2 (.inl (hg x hx))) h) ⟨v - 1, by simp; omega, ?_, ?_⟩
  · rw [show v - 1 + 1 = v by omega]
    exact openV_sub hg ho
  · rw [show v - 1 + 1 = v by omega]
    unfold openV
    rcases hy with rfl | rfl <;> simp
section
variable {L : List (List Int)} {given Mu : List Int} {vars : Nat}
theorem may_lit {c : List Int} (h : mayS L vars = true) (hc : c ∈ L) {x : Int} (hx : x ∈ c) : x ≠ 0 ∧ x.natAbs ≤ vars := by
  have := ((mayS_iff.1 h).2.2.2 c hc).2 x hx
  exact ⟨this.1, by omega⟩
theorem may_given (h : mayS [given] vars = true) {x : Int} (hx : x ∈ given) : x ≠ 0 ∧ x.natAbs ≤ vars := may_lit h (List.mem_singleton.2 rfl) hx
theorem can_none (h : MustIs L given vars none) : ¬ CanP L given vars := by
  rintro ⟨h1, h2, M, _, h3, h4⟩
  rcases h with h | h | h
  · rw [h1] at h; cases h
  · rw [h2] at h; cases h
  · exact clash_none h3 h4 h
theorem must_rng (h : MustIs L given vars (some Mu)) : ∀ x ∈ Mu, x ≠ 0 ∧ x.natAbs ≤ vars := by
  obtain ⟨h1, h2, hm⟩ := h
  intro x hx
  cases (hm.mem x).1 hx with
  | given h => exact may_given h2 h
  | unit hc hl _ =>
    obtain ⟨_, c0, h3, h4⟩ := ordAll_mem hc
    exact may_lit h1 h3 ((h4 _).1 hl)
theorem must_sub (h : MustIs L given vars (some Mu)) : ∀ x ∈ given, x ∈ Mu := fun x hx => (h.2.2.mem x).2 (.given hx)
theorem must_len (h : MustIs L given vars (some Mu)) : Mu.length ≤ vars := by
  have hr := must_rng h
  have ha := h.2.2.asc
  have hnd : (Mu.map Int.natAbs).Nodup := by
    rw [List.nodup_iff_pairwise_ne, List.pairwise_map]
    exact ha.imp fun h => by omega
  have := pigeonT vars (Mu.map Int.natAbs) hnd (fun y hy => by
    obtain ⟨x, hx, rfl⟩ := List.mem_map.1 hy
    have := hr x hx
    omega)
  simpa using this
theorem must_not (h : MustIs L given vars (some Mu)) {x : Int} (hx : x ∈ Mu) : -x ∉ Mu := fun hn => h.2.2.ok (.inl ⟨x, (h.2.2.mem x).1 hx, (h.2.2.mem _).1 hn⟩)
/-- All variables have a value: that is a model. -/
theorem can_done (h : MustIs L given vars (some Mu)) (hall : ∀ v, 1 ≤ v → v ≤ vars → openV Mu v = false) : CanP L given vars := by
  have hr := must_rng h
  have hn := fun {x} => must_not (x := x) h
  obtain ⟨M, hM⟩ : ∃ M : List Bool, M = (List.range (vars + 1)).map fun v => Mu.contains ((v : Nat) : Int) := ⟨_, rfl⟩
  have lM : M.length = vars + 1 := by rw [hM]; simp
  have hat : ∀ v, v ≤ vars → M.getD v false = Mu.contains ((v : Nat) : Int) := fun v hv => by
    rw [hM]; simp [List.getD, show v < vars + 1 by omega]
  have htrue : ∀ x ∈ Mu, trueS M x = true := fun x hx => by
    obtain ⟨h0, h1⟩ := hr x hx
    unfold trueS
    rw [decide_eq_true (show 0 < x.natAbs by omega), decide_eq_true (show x.natAbs < M.length by omega), hat _ h1]
    by_cases p : 0 < x
    · rw [show ((x.natAbs : Nat) : Int) = x by omega, decide_eq_true p]
      simpa using hx
    · rw [show ((x.natAbs : Nat) : Int) = -x by omega, decide_eq_false p]
      have := hn hx
      simpa using this
  refine ⟨h.1, h.2.1, M, lM, ?_, fun x hx => htrue x (must_sub h x hx)⟩
  unfold holdsS
  rw [List.all_eq_true]
  intro c hc
  cases ho : opp c with
  | true =>
    have := holds_opp (M := M) ho (fun x hx => by have := may_lit h.1 hc hx; exact ⟨this.1, by omega⟩)
    simpa [holdsS] using this
  | false =>
    have hcl : ordL c ∈ ordAll L := List.mem_filterMap.2 ⟨c, hc, by unfold orderS; rw [ho]; rfl⟩
    rw [List.any_eq_true]
    by_cases e : ∃ x ∈ c, x ∈ Mu
    · obtain ⟨x, h1, h2⟩ := e
      exact ⟨x, h1, htrue x h2⟩
    · exfalso
      refine h.2.2.ok (.inr ⟨ordL c, hcl, fun x hx => (h.2.2.mem _).1 ?_⟩)
      have hx := mem_ordL.1 hx
      obtain ⟨h0, h1⟩ := may_lit h.1 hc hx
      have h2 := hall x.natAbs (by omega) h1
      unfold openV at h2
      have h3 : x ∉ Mu := fun hm => e ⟨x, hx, hm⟩
      rw [Bool.not_eq_false', Bool.or_eq_true] at h2
      simp only [List.contains_iff_mem] at h2
      by_cases p : 0 < x
      · rw [show ((x.natAbs : Nat) : Int) = x by omega] at h2
        exact h2.resolve_left h3
      · rw [show ((x.natAbs : Nat) : Int) = -x by omega, Int.neg_neg] at h2
        exact h2.resolve_right h3
theorem can_split (h : MustIs L given vars (some Mu)) {v : Nat} (h1 : 1 ≤ v) (h2 : v ≤ vars) (hv : vars ≤ 4095) : CanP L given vars ↔ CanP L (Mu ++ [(v : Int)]) vars ∨ CanP L (Mu ++ [-(v : Int)]) vars := by
  have hr := must_rng h
  have hlen := must_len h
  have hone : ∀ y : Int, y = (v : Int) ∨ y = -(v : Int) → mayS [Mu ++ [y]] vars = true := fun y hy => by
    rw [mayS_iff]
    refine ⟨by omega, by omega, by simp, fun c hc => ?_⟩
    obtain rfl := List.mem_singleton.1 hc
    refine ⟨by rw [List.length_append]; simp; omega, fun x hx => ?_⟩
    rcases List.mem_append.1 hx with hx | hx
    · have := hr x hx
      omega
    · obtain rfl := List.mem_singleton.1 hx
      omega
  constructor
  · rintro ⟨_, _, M, lM, hL, hG⟩
    have hMu : ∀ x ∈ Mu, trueS M x = true := fun x hx => der_true hL hG ((h.2.2.mem x).1 hx)
    have hlt : Lt M.length (v : Int) := ⟨by omega, by omega⟩
    have hneg := trueS_neg hlt
    cases hq : trueS M (v : Int) with
    | true =>
      refine .inl ⟨h.1, hone _ (.inl rfl), M, lM, hL, fun x hx => ?_⟩
      rcases List.mem_append.1 hx with hx | hx
      · exact hMu x hx
      · obtain rfl := List.mem_singleton.1 hx; exact hq
    | false =>
      refine .inr ⟨h.1, hone _ (.inr rfl), M, lM, hL, fun x hx => ?_⟩
      rcases List.mem_append.1 hx with hx | hx
      · exact hMu x hx
      · obtain rfl := List.mem_singleton.1 hx; rw [hneg, hq]; rfl
  · rintro (⟨_, _, M, lM, hL, hG⟩ | ⟨_, _, M, lM, hL, hG⟩)
    · exact ⟨h.1, h.2.1, M, lM, hL, fun x hx => hG x (List.mem_append.2 (.inl (must_sub h x hx)))⟩
    · exact ⟨h.1, h.2.1, M, lM, hL, fun x hx => hG x (List.mem_append.2 (.inl (must_sub h x hx)))⟩
end
end Go.Proofs.Ytionibckeicncaa
